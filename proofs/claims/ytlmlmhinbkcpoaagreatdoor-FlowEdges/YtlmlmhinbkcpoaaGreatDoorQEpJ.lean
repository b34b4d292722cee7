import Derived.Test.YtlmlmhinbkcpoaaGreatDoorQEiJ
import Derived.Test.YtlmlmhinbkcpoaaGreatDoorQLjJ
import Derived.BigQuiet
import Derived.Test.YtlmlmhinbkcpoaaGreatDoorQLlJ
import Derived.Test.YtlmlmhinbkcpoaaGreatDoorQEzJ
import Derived.Test.YtlmlmhinbkcpoaaGreatDoorQGbJ
import Derived.Test.YtlmlmhinbkcpoaaGreatDoorQQ7J
namespace Go.Proofs.YtlmlmhinbkcpoaaGreatDoor
open Go.RowKit Go.Shelf
set_option linter.unusedVariables false
set_option linter.unusedSimpArgs false
structure Alike (cs : List PI) (fs fs' : List PF) (ss ss' : List PS) : Prop where
  len : fs'.length = fs.length
  slen : ss'.length = ss.length
  head : ∀ c ∈ cs, c.op = 11 → 0 ≤ c.n → (fs'.getD c.n.toNat ⟨0, 0, 0, []⟩).P = (fs.getD c.n.toNat ⟨0, 0, 0, []⟩).P ∧ (fs'.getD c.n.toNat ⟨0, 0, 0, []⟩).R = (fs.getD c.n.toNat ⟨0, 0, 0, []⟩).R ∧ (fs'.getD c.n.toNat ⟨0, 0, 0, []⟩).V = (fs.getD c.n.toNat ⟨0, 0, 0, []⟩).V
  sum : ∀ c ∈ cs, c.op = 11 → 0 ≤ c.n → ss'.getD c.n.toNat ⟨[], []⟩ = ss.getD c.n.toNat ⟨[], []⟩
section
variable {fs fs' : List PF} {ss ss' : List PS} {f : PF}
theorem Alike.heads (h : Alike f.code fs fs' ss ss') : headsF fs' f.code = headsF fs f.code := by
  unfold headsF
  rw [h.len]
  apply List.map_congr_left
  intro c hc
  obtain ⟨h1, h2⟩ := List.mem_filter.1 hc
  unfold isH at h2
  obtain ⟨e1, e2, e3⟩ := h.head c h1 (of_decide_eq_true h2).1 (of_decide_eq_true h2).2.1
  unfold headF
  generalize fs'.getD c.n.toNat ⟨0, 0, 0, []⟩ = a at *
  generalize fs.getD c.n.toNat ⟨0, 0, 0, []⟩ = b at *
  cases a
  cases b
  simp only at e1 e2 e3
  subst e1 e2 e3
  rfl
theorem Alike.alone (h : Alike f.code fs fs' ss ss') : aloneP fs' f = aloneP fs f := by
  unfold aloneP
  rw [h.heads, h.len]
theorem Alike.told (h : Alike f.code fs fs' ss ss') (hn : ∀ c ∈ f.code, c.op = 11 → 0 ≤ c.n) : toldX fs' ss' f.code = toldX fs ss f.code := by
  unfold toldX
  have key : ∀ c ∈ f.code, fitI fs' ss' c = fitI fs ss c := fun c hc => by
    unfold fitI
    by_cases e : c.op = 11
    · rw [if_pos e, if_pos e]
      obtain ⟨e1, e2, -⟩ := h.head c hc e (hn c hc e)
      rw [h.sum c hc e (hn c hc e), e1, e2]
    · rw [if_neg e, if_neg e]
  generalize f.code = cs at key
  clear hn h
  induction cs with
  | nil => rfl
  | cons c r ih => rw [List.all_cons, List.all_cons, key c List.mem_cons_self, ih (fun d hd => key d (List.mem_cons_of_mem _ hd))]
theorem Alike.ok {G : Int} {i : Nat} (hi : i < fs.length) (hi' : i < fs'.length) (he : fs'[i] = fs[i]) (h : Alike fs[i].code fs fs' ss ss') : EdgOk G fs' i ss' ↔ EdgOk G fs i ss := by
  have key : checkP G (aloneP fs fs[i]) = 0 → toldX fs' ss' fs[i].code = toldX fs ss fs[i].code := fun hc => h.told (fun c hcc e => by
    obtain ⟨q, hq, -⟩ := (right_ok hc).call c hcc e
    omega)
  constructor
  · rintro ⟨j, hj, hjl, h1, h2, h3⟩
    obtain rfl : i = j := by omega
    rw [he, h.alone] at h2
    rw [he, key h2] at h3
    exact ⟨i, rfl, hi, by rw [← h.slen, h1, h.len], h2, h3⟩
  · rintro ⟨j, hj, hjl, h1, h2, h3⟩
    obtain rfl : i = j := by omega
    rw [← key h2] at h3
    exact ⟨i, rfl, hi', by rw [h.slen, h1, h.len], by rw [he, h.alone]; exact h2, by rw [he]; exact h3⟩
end
end Go.Proofs.YtlmlmhinbkcpoaaGreatDoor
namespace Go.Proofs.YtlmlmhinbkcpoaaGreatDoor
open Go.RowKit (wrap32 wrap64)
set_option linter.unusedVariables false
set_option linter.unusedSimpArgs false
set_option maxRecDepth 100000
set_option maxHeartbeats 2000000
theorem eqEdges_same (v1 v2 : Value) (E : List Ed) (w : World) (h1 : w.ownsRow 0 51 3 v1 E.length (E.flatMap edC)) (h2 : w.ownsRow 0 51 3 v2 E.length (E.flatMap edC)) (hn : E.length ≤ 1000000) :
    Calls Tryz.prog 9 #[v1, v2] w fun e w' => e = .returned (.bool true) ∧ Fr (fun _ => False) w w' := by
  have H1 : Hd _ := h1
  have H2 : Hd _ := h2
  obtain ⟨a1, c1, e1⟩ := own_slice h1
  obtain ⟨a2, c2, e2⟩ := own_slice h2
  subst e1 e2
  clear h1 h2
  go_enter Tryz.func9, Tryz.ntmps9
  go_wp2_with fail
  go_loopw [5] (fun v wr => ∃ (k : Nat), v = .int .i64 k ∧ k ≤ E.length ∧ Hd (Fr (fun _ => False) w wr)) (fun v _ => match v with | .int _ q => E.length - q.toNat | _ => 0)
  case atStart => exact ⟨0, rfl, by omega, Fr.refl _ _⟩
  case round =>
    obtain ⟨k, rfl, hk, HF⟩ := hrel
    by_cases hlt : k < E.length
    · have pc : ∀ {v : Value} (hv : w.ownsRow 0 51 3 v E.length (E.flatMap edC)) o u, o < 3 → (edC E[k])[o]? = some u → ∃ g cap, v = .slice (some ⟨g, 0, none⟩) E.length cap ∧ wr.cell? ⟨g, k * 3 + o, none⟩ = some u := fun hv o u ho hu => by
        obtain ⟨g, cap, e, -, hc⟩ := own_cell (ownsRow_frL hv HF.out (fun _ _ e => e)) (j := k * 3 + o) (u := u) (by rw [flat_get edC 3 (fun _ => rfl) E k o hlt ho]; exact hu)
        exact ⟨g, cap, e, hc⟩
      obtain ⟨g, cap, eg, x0⟩ := pc H1.out 0 _ (by omega) rfl
      obtain ⟨g1, cap1, eg1, x1⟩ := pc H1.out 1 _ (by omega) rfl
      obtain ⟨g2, cap2, eg2, x2⟩ := pc H1.out 2 _ (by omega) rfl
      cases eg
      cases eg1
      cases eg2
      obtain ⟨l, lap, el, y0⟩ := pc H2.out 0 _ (by omega) rfl
      obtain ⟨l1, lap1, el1, y1⟩ := pc H2.out 1 _ (by omega) rfl
      obtain ⟨l2, lap2, el2, y2⟩ := pc H2.out 2 _ (by omega) rfl
      cases el
      cases el1
      cases el2
      rw [Nat.add_zero] at x0 y0
      have hk0 : (0 : Int) ≤ k := by omega
      have hk1 : (k : Int) < E.length := by omega
      clear pc
      generalize E[k].1 = d at *
      generalize E[k].2.1 = s at *
      generalize E[k].2.2 = q at *
      go_wp2_with fail
      go_quiet (fail)
      go_wp2_with fail
      exact ⟨⟨k + 1, by simp, by omega, ⟨HF.out.os, HF.out.tape, HF.out.output, HF.out.size, HF.out.block⟩⟩, by simp; omega⟩
    · have hdk : decide ((k : Int) < E.length) = false := by simp; omega
      go_wp2_with fail
      go_ret
      exact ⟨rfl, HF.out⟩



theorem ede_one (G : Int) (fs : List PF) (F : Int) (ss : List PS) : ∃ (E : List Ed) (z : Int), E.length ≤ 163840 ∧ ∀ w e w', EdgE G fs F ss w e w' → ∃ v, e = .returned (.tuple #[v, vI z]) ∧ EO w' w.heap.size v E ∧ Fr (fun _ => False) w w' := by
  by_cases hok : EdgOk G fs F ss
  · obtain ⟨i, rfl, hi, hls, hck, htl⟩ := id hok
    refine ⟨edgX ss fs[i], 0, edgX_len (right_ok hck) htl hls, fun w e w' h => ?_⟩
    rcases h.2 with ⟨hn, -⟩ | ⟨q, hq, e1, -, -, -, v, he, ho⟩
    · exact absurd hok hn
    · obtain rfl : i = q := by omega
      exact ⟨v, he, ho, h.1⟩
  · refine ⟨[], 1, by simp, fun w e w' h => ?_⟩
    rcases h.2 with ⟨-, he⟩ | ⟨q, hq, e1, h1, h2, h3, -⟩
    · exact ⟨_, he, EO.nil _ _, h.1⟩
    · exact absurd ⟨q, e1, hq, h1, h2, h3⟩ hok
def set3 (w : World) (g o : Nat) (x : Ed) : World := ((w.setCell ⟨g, o, none⟩ (vI x.1)).setCell ⟨g, o + 1, none⟩ (vI x.2.1)).setCell ⟨g, o + 2, none⟩ (vI x.2.2)
theorem EO.set {w : World} {B g cap i : Nat} {E : List Ed} (h : EO w B (.slice (some ⟨g, 0, none⟩) E.length cap) E) (hi : i < E.length) (x : Ed) : EO (set3 w g (i * 3) x) B (.slice (some ⟨g, 0, none⟩) E.length cap) (E.set i x) := by
  have h1 := (row_set (j := i * 3) h (vI x.1)).1
  have h2 := (row_set (j := i * 3 + 1) h1 (vI x.2.1)).1
  have h3 := (row_set (j := i * 3 + 2) h2 (vI x.2.2)).1
  have e1 := flat_set edC 3 (fun _ => rfl) 0 (by omega) (vI x.1) E i hi (x.1, E[i].2.1, E[i].2.2) rfl
  have e2 := flat_set edC 3 (fun _ => rfl) 1 (by omega) (vI x.2.1) (E.set i (x.1, E[i].2.1, E[i].2.2)) i (by simpa using hi) (x.1, x.2.1, E[i].2.2) (by simp [edC])
  have e3 := flat_set edC 3 (fun _ => rfl) 2 (by omega) (vI x.2.2) ((E.set i (x.1, E[i].2.1, E[i].2.2)).set i (x.1, x.2.1, E[i].2.2)) i (by simpa using hi) (x.1, x.2.1, x.2.2) (by simp [edC])
  rw [List.set_set, List.set_set] at e3
  rw [List.set_set] at e2
  rw [List.set_set] at e3
  unfold EO
  rw [List.length_set]
  have e : (E.set i x).flatMap edC = ((((E.flatMap edC).set (i * 3) (vI x.1)).set (i * 3 + 1) (vI x.2.1)).set (i * 3 + 2) (vI x.2.2)) := by
    have ex : E.set i x = E.set i (x.1, x.2.1, x.2.2) := rfl
    rw [ex, e3, e2, e1]
    rfl
  rw [e]
  exact h3
structure F4 (w : World) (K n : Nat) (v4 v6 v9 v11 : Value) (E A B : List Ed) : Prop where
  e4 : EO w K v4 E
  e6 : EO w K v6 A
  e9 : EO w K v9 B
  e11 : EO w K v11 E
  l4 : E.length = n
  l6 : A.length = n
  l9 : B.length = n
  a6 : ∀ g, v6.ownBlock = some g → v4.ownBlock ≠ some g ∧ v9.ownBlock ≠ some g ∧ v11.ownBlock ≠ some g
  a9 : ∀ g, v9.ownBlock = some g → v4.ownBlock ≠ some g ∧ v6.ownBlock ≠ some g ∧ v11.ownBlock ≠ some g
theorem F4.stay {w w' : World} {K n : Nat} {v4 v6 v9 v11 : Value} {E A B : List Ed} (h : F4 w K n v4 v6 v9 v11 E A B) (f : Fr (fun _ => False) w w') : F4 w' K n v4 v6 v9 v11 E A B :=
  ⟨h.e4.stay f, h.e6.stay f, h.e9.stay f, h.e11.stay f, h.l4, h.l6, h.l9, h.a6, h.a9⟩
def Keeps (w w' : World) (N : Nat) : Prop := ∀ (B k cap0 g0 : Nat) (ys : List Value), w.ownsRow B 51 3 (.slice (some ⟨g0, 0, none⟩) k cap0) k ys → k ≤ N → w'.ownsRow B 51 3 (.slice (some ⟨g0, 0, none⟩) k cap0) k ys
theorem EO.keeps {w w' : World} {B N : Nat} {v : Value} {E : List Ed} (h : EO w B v E) (k : Keeps w w' N) (hn : E.length ≤ N) : EO w' B v E := by
  rcases h.2 with ⟨e1, e2⟩ | ⟨g, cap, cur, e, -⟩
  · exact ⟨h.1, Or.inl ⟨e1, e2⟩⟩
  · subst e
    exact k _ _ _ _ _ h hn
theorem F4.keeps {w w' : World} {K n N : Nat} {v4 v6 v9 v11 : Value} {E A B : List Ed} (h : F4 w K n v4 v6 v9 v11 E A B) (k : Keeps w w' N) (hn : n ≤ N) : F4 w' K n v4 v6 v9 v11 E A B :=
  ⟨h.e4.keeps k (by rw [h.l4]; exact hn), h.e6.keeps k (by rw [h.l6]; exact hn), h.e9.keeps k (by rw [h.l9]; exact hn), h.e11.keeps k (by rw [h.l4]; exact hn), h.l4, h.l6, h.l9, h.a6, h.a9⟩
abbrev caseO (G : Int) (fv : Value) (F : Int) (sv : Value) : Obj := .cells #[vI G, fv, vI F, sv] 27
theorem Like.len {fs fs' : List PF} (h : Like fs fs') {i : Nat} (hi : i < fs.length) (hi' : i < fs'.length) : fs'[i].code.length = fs[i].code.length := by
  have := h.2 i
  rw [List.getElem?_eq_getElem hi, List.getElem?_eq_getElem hi'] at this
  exact Option.some.inj this
structure Pq (w0 wr : World) (B0 X Y NP : Nat) (G : Int) (cO : Obj) (pv sv : Value) (fs : List PF) (ss : List PS) (g : Nat) (cv : Nat → Value) (fs' : List PF) : Prop where
  wf : WF wr B0 pv fs' g cv
  like : Like fs fs'
  fine : FineP fs'
  sums : Abw NP sv ss wr
  y : wr.heap[Y]? = some (.cells #[vI G, pv] 24)
  x : wr.heap[X]? = some cO
  fr : Fr (fun _ => False) w0 wr
theorem Pq.stay {w0 wr wr' : World} {B0 X Y NP : Nat} {G : Int} {cO : Obj} {pv sv : Value} {fs : List PF} {ss : List PS} {g : Nat} {cv : Nat → Value} {fs' : List PF} (h : Pq w0 wr B0 X Y NP G cO pv sv fs ss g cv fs') (f : Fr (fun _ => False) wr wr') : Pq w0 wr' B0 X Y NP G cO pv sv fs ss g cv fs' :=
  ⟨h.wf.stay f, h.like, h.fine, h.sums.same f, (f.block _ (heap_lt h.y) (fun e => e)).trans h.y, (f.block _ (heap_lt h.x) (fun e => e)).trans h.x, h.fr.trans f⟩
theorem Pq.put {w0 wr : World} {B0 X Y NP : Nat} {G : Int} {cO : Obj} {pv sv : Value} {fs : List PF} {ss : List PS} {g : Nat} {cv : Nat → Value} {fs' : List PF} (h : Pq w0 wr B0 X Y NP G cO pv sv fs ss g cv fs') {i k gc : Nat} (hi : i < fs'.length) (hk : k < fs'[i].code.length) (hgc : (cv i).ownBlock = some gc) (h1 : B0 ≤ gc) (h2 : gc < Y) (h3 : Y < NP) (h4 : X < B0) (h5 : w0.heap.size ≤ B0) (z : Int) :
    ∃ fs'', Pq w0 (wr.setCell ⟨gc, k * 7, none⟩ (vI z)) B0 X Y NP G cO pv sv fs ss g cv fs'' := by
  obtain ⟨fs'', q1, q2, q3⟩ := h.wf.code1 hi hk (Or.inl rfl) hgc z
  rw [Nat.add_zero] at q3
  have f := setCell_fr wr gc (k * 7) (vI z)
  refine ⟨fs'', q3, h.like.trans q1, q2 h.fine, h.sums.far f (fun j e => by have e : j = gc := e; omega), (f.block _ (heap_lt h.y) (fun e => by have e : Y = gc := e; omega)).trans h.y, (f.block _ (heap_lt h.x) (fun e => by have e : X = gc := e; omega)).trans h.x, h.fr.then f (fun j hj e => by have e : j = gc := e; omega)⟩
theorem WF.opAt {w : World} {B : Nat} {v : Value} {fs : List PF} {g : Nat} {cv : Nat → Value} (h : WF w B v fs g cv) {i : Nat} (hi : i < fs.length) : ∃ gc, cv i = .slice (some ⟨gc, 0, none⟩) fs[i].code.length (fs[i].code.length + 64) ∧ w.cell? ⟨g, i * 4 + 3, none⟩ = some (cv i) ∧ ∀ k (hk : k < fs[i].code.length), w.cell? ⟨gc, k * 7, none⟩ = some (vI fs[i].code[k].op) ∧ w.frozen? ⟨gc, k * 7, none⟩ = false := by
  obtain ⟨gc, ps, e, -, hr, -⟩ := h.code i fs[i] (List.getElem?_eq_getElem hi)
  refine ⟨gc, e, ?_, fun k hk => ⟨?_, hr.frozen _⟩⟩
  · have := h.row.cell (i := i) (o := 3) (by omega) (by omega)
    rw [this]
    unfold wideF
    rw [List.getElem?_eq_getElem hi]
    rfl
  · have := hr.cell (i := k) (o := 0) (by omega) (by omega)
    rw [Nat.add_zero] at this
    rw [this]
    unfold wideC
    rw [List.getElem?_eq_getElem hk]
    rfl
end Go.Proofs.YtlmlmhinbkcpoaaGreatDoor
