import Derived.Test.YtihicdbplmdjiaaQMcJ
import Derived.Test.YtihicdbplmdjiaaQA9
namespace Go.Proofs.Ytihicdbplmdjiaa
open Go.RowKit (wrap32 wrap64)
set_option linter.unusedVariables false
set_option linter.unusedSimpArgs false

set_option maxRecDepth 100000 in
set_option maxHeartbeats 4000000 in
/-- The document's reply. -/
theorem rreply_any (kd ky : Int) (v : ByteArray) (R : RV) (w : World) (h : R.At w) (hl : R.r.keys.length ≤ 1000000000000000000) :
    Calls Try.prog 30 #[opV kd ky v, R.V] w fun e w' => e = .returned (.bool (rightReplyB kd R.r)) ∧ Fr (fun _ => False) w w' := by
  obtain ⟨h1, h2⟩ := h
  obtain ⟨va, vc, ev⟩ := row_slice h2
  obtain ⟨ka, kc, ek, h1⟩ := h1
  obtain ⟨⟨ok, val, ks, vs⟩, kv, vv⟩ := R
  unfold RV.V opV rightReplyB noKeysB
  simp only [List.length_map] at *
  subst ek ev
  clear h2
  have H1 : Hd (0 < ks.length → ∃ k o, ka = some ⟨k, o, none⟩ ∧ ∀ j (h : j < ks.length), w.cell? ⟨k, o + j, none⟩ = some (vI ks[j])) := fun hz => by
    obtain ⟨k, o, e1, e3⟩ := h1 (by intro e; rw [List.map_eq_nil_iff] at e; subst e; simp at hz)
    exact ⟨k, o, e1, fun j hj => by rw [e3 j (by simpa using hj)]; simp⟩
  clear h1
  have HF : Hd (Fr (fun _ => False) w ((w.alloc (.cells #[vI kd, vI ky, .string v] 24)).alloc (.cells #[.bool ok, .string val, .slice ka ks.length kc, .slice va vs.length vc] 28))) := ((Fr.refl _ w).alloc _).alloc _
  by_cases hk : kd = 3
  · subst hk
    obtain ⟨nk, hnk⟩ : ∃ n, n = ks.length := ⟨_, rfl⟩
    obtain ⟨nv, hnv⟩ : ∃ n, n = vs.length := ⟨_, rfl⟩
    have HN : Hd (nk = ks.length) := hnk
    rw [← hnk] at HF hl ⊢
    rw [← hnv] at HF ⊢
    clear hnk hnv
    obtain ⟨E, hE⟩ : ∃ E, E = val.toList.isEmpty := ⟨_, rfl⟩
    have hE2 : emB val = E := hE.symm
    rw [hE2]
    replace hE := hE.symm
    clear hE2
    by_cases hgood : ok = true ∧ E = true ∧ nk = nv
    · obtain ⟨rfl, rfl, rfl⟩ := hgood
      go_enter Try.func30, Try.ntmps30
      go_wp2_with fail
      obtain ⟨W0, eW0⟩ : ∃ W0, W0 = ((w.alloc (.cells #[vI 3, vI ky, .string v] 24)).alloc (.cells #[.bool true, .string val, .slice ka nk kc, .slice va nk vc] 28)) := ⟨_, rfl⟩
      have hb : W0.heap[w.heap.size + 1]? = some (.cells #[.bool true, .string val, .slice ka nk kc, .slice va nk vc] 28) := by
        rw [eW0]
        have := heap_alloc_last (w.alloc (.cells #[vI 3, vI ky, .string v] 24)) (.cells #[.bool true, .string val, .slice ka nk kc, .slice va nk vc] 28)
        rwa [show (w.alloc (.cells #[vI 3, vI ky, .string v] 24)).heap.size = w.heap.size + 1 by simp] at this
      rw [← eW0] at HF ⊢
      obtain ⟨pr, epr⟩ : ∃ pr, pr = w.heap.size + 1 := ⟨_, rfl⟩
      rw [← epr] at hb ⊢
      have HB : Hd (W0.heap[pr]? = some (.cells #[.bool true, .string val, .slice ka nk kc, .slice va nk vc] 28)) := hb
      clear eW0 hb epr hE
      go_loopw [5] (fun v wr => ∃ i : Nat, v = vI ((i : Int) + 1) ∧ (i ≤ nk) ∧ Hd (Fr (fun _ => False) W0 wr ∧ ∀ t, t < i → ∀ h : t + 1 < ks.length, ks[t] < ks[t + 1])) (fun v _ => match v with | .int _ q => nk + 1 - q.toNat | _ => 0)
      case atStart => exact ⟨0, rfl, by omega, Fr.refl _ _, fun t ht => absurd ht (by omega)⟩
      case round =>
        obtain ⟨i, rfl, hi, HG⟩ := hrel
        have hbr := (HG.out.1.block _ (heap_lt HB.out) (fun e => e)).trans HB.out
        have x2 := cell_of hbr 2
        simp only [List.getElem?_toArray, List.getElem?_cons_zero, List.getElem?_cons_succ] at x2
        clear hbr
        by_cases hlt : (i : Int) + 1 < nk
        · have h0 : (0 : Int) ≤ i := by omega
          have h2 : (i : Int) < nk := by omega
          have hm : i + 1 < ks.length := by have := HN.out; omega
          obtain ⟨k1, o1, rfl, hc1⟩ := H1.out (by omega)
          have hc1 := fun j hj => (HF.out.cell (cell_lt (hc1 j hj)) (fun h => h)).trans (hc1 j hj)
          have d1 : wr.cell? ⟨k1, o1 + i, none⟩ = some (vI ks[i]) := (HG.out.1.cell (cell_lt (hc1 _ (by omega))) (fun h => h)).trans (hc1 _ _)
          have d2 : wr.cell? ⟨k1, o1 + (i + 1), none⟩ = some (vI ks[i + 1]) := (HG.out.1.cell (cell_lt (hc1 _ (by omega))) (fun h => h)).trans (hc1 _ _)
          have d3 : wr.cell? ⟨k1, o1 + ((i : Int) + 1).toNat, none⟩ = some (vI ks[i + 1]) := by rw [show ((i : Int) + 1).toNat = i + 1 by omega]; exact d2
          obtain ⟨x, hx⟩ : ∃ y, y = ks[i] := ⟨_, rfl⟩
          obtain ⟨y, hy⟩ : ∃ y, y = ks[i + 1] := ⟨_, rfl⟩
          rw [← hx] at d1
          rw [← hy] at d2 d3
          have HY : Hd (ks[i]? = some x ∧ ks[i + 1]? = some y) := ⟨by rw [List.getElem?_eq_getElem (by omega), hx], by rw [List.getElem?_eq_getElem hm, hy]⟩
          clear hc1 H1 hx hy hm
          by_cases hyx : y ≤ x
          · go_wp2_with fail
            go_quiet (fail)
            go_wp2_with fail
            go_ret
            refine ⟨?_, (HF.out.trans HG.out.1).trans (fr_drewN _ _)⟩
            obtain ⟨e1, e2⟩ := HY.out
            obtain ⟨hm, e2⟩ := List.getElem?_eq_some_iff.1 e2
            obtain ⟨hm0, e1⟩ := List.getElem?_eq_some_iff.1 e1
            have : riseB ks = false := by
              rw [Bool.eq_false_iff]
              intro h
              have := (riseB_iff ks).1 h i hm
              rw [e1, e2] at this
              omega
            rw [this]
            simp
          · go_wp2_with fail
            go_quiet (fail)
            go_wp2_with fail
            refine ⟨⟨i + 1, by simp, by omega, HG.out.1.trans (fr_drewN _ _), fun t ht h => ?_⟩, by simp; omega⟩
            obtain ⟨e1, e2⟩ := HY.out
            obtain ⟨hm, e2⟩ := List.getElem?_eq_some_iff.1 e2
            obtain ⟨hm0, e1⟩ := List.getElem?_eq_some_iff.1 e1
            rcases Nat.lt_or_ge t i with h2 | h2
            · exact HG.out.2 t h2 h
            · have e : t = i := by omega
              subst e
              rw [e1, e2]
              omega
        · go_wp2_with fail
          go_ret
          refine ⟨?_, HF.out.trans HG.out.1⟩
          have : riseB ks = true := (riseB_iff ks).2 fun t ht => HG.out.2 t (by have := HN.out; omega) ht
          rw [this]
          simp
    · have hfalse : (ok && E && decide (nk = nv)) = false := by
        cases ok <;> cases E <;> simp_all
      have HFA : Hd ((ok && E && decide (nk = nv)) = false) := hfalse
      by_cases hnn : nk = nv
      · subst hnn
        cases ok
        · clear hgood hfalse
          go_enter Try.func30, Try.ntmps30
          go_wp2_with fail
          go_ret
          exact ⟨by simp, HF.out⟩
        · cases E
          · clear hgood hfalse
            go_enter Try.func30, Try.ntmps30
            go_wp2_with fail
            go_ret
            exact ⟨by simp, HF.out⟩
          · exact absurd ⟨rfl, rfl, rfl⟩ hgood
      · have hnn2 : ((nk : Int) == (nv : Int)) = false := by simp; omega
        cases ok
        · clear hgood hfalse
          go_enter Try.func30, Try.ntmps30
          go_wp2_with fail
          go_ret
          exact ⟨by simp, HF.out⟩
        · cases E
          · clear hgood hfalse
            go_enter Try.func30, Try.ntmps30
            go_wp2_with fail
            go_ret
            exact ⟨by simp, HF.out⟩
          · clear hgood hfalse
            go_enter Try.func30, Try.ntmps30
            go_wp2_with fail
            go_ret
            exact ⟨by simp [hnn], HF.out⟩
  · clear H1
    obtain ⟨nk, hnk⟩ : ∃ n, n = ks.length := ⟨_, rfl⟩
    obtain ⟨nv, hnv⟩ : ∃ n, n = vs.length := ⟨_, rfl⟩
    rw [← hnk] at HF hl ⊢
    rw [← hnv] at HF ⊢
    clear hnk hnv hl
    obtain ⟨E, hE⟩ : ∃ E, E = val.toList.isEmpty := ⟨_, rfl⟩
    have hE2 : emB val = E := hE.symm
    rw [hE2]
    replace hE := hE.symm
    clear hE2
    by_cases hk2 : kd = 2
    · subst hk2
      cases ok <;> cases E
      all_goals
        go_enter Try.func30, Try.ntmps30
        go_wp2_with fail
      all_goals go_ret
      all_goals exact ⟨by simp_all, ((Fr.refl _ w).alloc _).alloc _⟩
    · cases ok <;> cases E
      all_goals
        go_enter Try.func30, Try.ntmps30
        go_wp2_with fail
      all_goals go_ret
      all_goals exact ⟨by simp_all, ((Fr.refl _ w).alloc _).alloc _⟩
end Go.Proofs.Ytihicdbplmdjiaa

namespace Go.Proofs.Ytihicdbplmdjiaa
open Go.RowKit (wrap32 wrap64)
set_option linter.unusedVariables false
set_option linter.unusedSimpArgs false

/-! ### no history -/
theorem none_of {h : List Mo} (x : ∀ cs, RefOk h cs → False) : callsX h = none := by
  cases e : callsX h with
  | none => rfl
  | some cs => exact (x cs (calls_ref e)).elim
theorem none_many {h : List Mo} (x : 64 < (begins h h.length).length) : callsX h = none := none_of fun cs r => by have := r.le; omega
theorem none_begin {h : List Mo} {i : Nat} {m : Mo} (e : h[i]? = some m) (hb : m.beg = true) (x : (rightOpB m.kd m.ky m.v && isZeroB m.R.r) = false) : callsX h = none := none_of fun cs r => by
  obtain ⟨c, n, n', q⟩ := r.at e hb
  have e1 : n = m := by have := q.hm.symm.trans e; simpa using this
  subst e1
  rw [q.op, q.zero] at x
  cases x
def sameM (m m' : Mo) : Bool := decide (m'.kd = m.kd ∧ m'.ky = m.ky ∧ m'.v.toList = m.v.toList)
theorem end_at {h : List Mo} {i k : Nat} {m m' : Mo} {c : Cl} (r : Right h i c) (e : h[i]? = some m) (hik : i < k) (ek : h[k]? = some m') (hc : m'.c = m.c) (hno : NoM h m.c i k) : RightB h i c m m' ∧ c.e = k := by
  obtain ⟨n, n', q⟩ := r
  have e1 : n = m := by have := q.hm.symm.trans e; simpa using this
  subst e1
  have he : c.e = k := by
    rcases Nat.lt_trichotomy c.e k with hl | hl | hl
    · exact absurd q.cl (hno c.e q.lt hl n' q.e)
    · exact hl
    · exact absurd hc (q.no k hik hl m' ek)
  have e2 : n' = m' := by have := q.e.symm.trans (he ▸ ek); simpa using this
  subst e2
  exact ⟨q, he⟩
theorem none_end {h : List Mo} {i k : Nat} {m m' : Mo} (e : h[i]? = some m) (hb : m.beg = true) (hik : i < k) (ek : h[k]? = some m') (hc : m'.c = m.c) (hno : NoM h m.c i k) (x : (!m'.beg && sameM m m' && rightReplyB m.kd m'.R.r) = false) : callsX h = none := none_of fun cs r => by
  obtain ⟨c, q0⟩ := r.at e hb
  obtain ⟨q, -⟩ := end_at q0 e hik ek hc hno
  have h1 : sameM m m' = true := by
    have := q.same
    unfold sameOp at this
    unfold sameM
    rw [← q.kd, ← q.ky, ← q.v]
    exact this
  rw [q.en, h1, q.rep] at x
  cases x
theorem right_of {h : List Mo} {i k : Nat} {m m' : Mo} (e : h[i]? = some m) (hb : m.beg = true) (ho : rightOpB m.kd m.ky m.v = true) (hz : isZeroB m.R.r = true) (hik : i < k) (ek : h[k]? = some m') (hc : m'.c = m.c) (hno : NoM h m.c i k) (h1 : m'.beg = false) (h2 : sameM m m' = true) (h3 : rightReplyB m.kd m'.R.r = true) : Right h i ⟨i, k, m.kd, m.ky, m.v, m'.R⟩ :=
  ⟨m, m', ⟨rfl, e, hb, ho, hz, rfl, rfl, rfl, hik, ek, hc, hno, h1, h2, h3, rfl⟩⟩
theorem none_open {h : List Mo} {i : Nat} {m : Mo} (e : h[i]? = some m) (hb : m.beg = true) (hno : NoM h m.c i h.length) : callsX h = none := none_of fun cs r => by
  obtain ⟨c, n, n', q⟩ := r.at e hb
  have e1 : n = m := by have := q.hm.symm.trans e; simpa using this
  subst e1
  exact hno c.e q.lt (List.getElem?_eq_some_iff.1 q.e).1 n' q.e q.cl
theorem none_ends {h : List Mo} {cs : List Cl} (bs : cs.map Cl.b = begins h h.length) (x : (endsOf h h.length).length ≠ cs.length) : callsX h = none := none_of fun ds r => by
  have h1 := congrArg List.length bs
  have h2 := congrArg List.length r.bs
  have h3 := r.ends
  simp only [List.length_map] at h1 h2
  omega
theorem calls_at {h : List Mo} {cs : List Cl} (r : RefOk h cs) {w : World} (hm : ∀ m ∈ h, m.R.At w) : ∀ c ∈ cs, c.R.At w := fun c hc => by
  obtain ⟨m, m', q⟩ := r.each c hc
  rw [q.R]
  exact hm m' (List.mem_of_getElem? q.e)

/-! ### the document's calls in a row of one's own -/
theorem und39 : Try.prog.underlying 39 = some (.slice 61) := by kernel_rfl
theorem info61 : (Try.prog.info? 61).map (fun i => (i.zero, i.size, i.bytes)) = some (some (.agg #[vI 0, vI 0, vI 0, vI 0, .string ⟨#[]⟩, .bool false, .string ⟨#[]⟩, .slice none 0 0, .slice none 0 0]), 9, 120) := by kernel_rfl
def ROwn (w : World) (B : Nat) (v : Value) (cs : List Cl) : Prop := w.ownsRow B 61 9 v cs.length ((cs.map c9).flatten)
theorem ROwn.fr {S : Nat → Prop} {w w' : World} {B : Nat} {v : Value} {cs : List Cl} (h : ROwn w B v cs) (f : Fr S w w') (hS : ∀ j, v.ownBlock = some j → ¬ S j) : ROwn w' B v cs := ownsRow_fr h f hS
theorem ROwn.val {w : World} {B : Nat} {v : Value} {cs : List Cl} (h : ROwn w B v cs) : ∃ ad cap, v = .slice ad cs.length cap := by
  rcases h.2 with ⟨e1, e2⟩ | ⟨g, cap, cur, e, -⟩
  · exact ⟨none, 0, by rw [e1, e2]⟩
  · exact ⟨_, cap, e⟩
theorem ROwn.cells {w : World} {B : Nat} {v : Value} {cs : List Cl} (h : ROwn w B v cs) (hne : cs ≠ []) : ∃ g cap, v = .slice (some ⟨g, 0, none⟩) cs.length cap ∧ B ≤ g ∧ g < w.heap.size ∧ ∀ i (hi : i < cs.length) j, j < 9 → w.cell? ⟨g, i * 9 + j, none⟩ = (c9 cs[i])[j]? := by
  rcases h.2 with ⟨e1, e2⟩ | ⟨g, cap, cur, e, b1, b2, b3, b4, b5, b6⟩
  · exact absurd (List.eq_nil_of_length_eq_zero e2) hne
  · refine ⟨g, cap, e, b1, heap_lt b2, fun i hi j hj => ?_⟩
    rw [cell_of b2]
    have e1 : cur[i * 9 + j]? = ((cs.map c9).flatten)[i * 9 + j]? := by rw [← b6, List.getElem?_take, if_pos (by omega), Array.getElem?_toList]
    rw [e1, flat_get (fun r hr => by obtain ⟨c, -, rfl⟩ := List.mem_map.1 hr; rfl) i j (by simpa using hi) hj, List.getElem_map]
theorem ROwn.app {w : World} {B : Nat} {v : Value} {cs : List Cl} (h : ROwn w B v cs) (hB : B ≤ w.heap.size) (c : Cl) (hk : ∃ a n q, c.R.kv = .slice a n q) (hv : ∃ a n q, c.R.vv = .slice a n q) (hl : cs.length ≤ 4000000000) :
    ∃ g cap w2, (Builtin.append_ #[39, 39] 39 #[v, .slice (some ⟨w.heap.size, 0, none⟩) 1 1]).run Try.prog (w.alloc (.cells (c9 c).toArray 61)) = .ok (.slice (some ⟨g, 0, none⟩) (cs.length + 1) cap) w2 ∧ ROwn w2 B (.slice (some ⟨g, 0, none⟩) (cs.length + 1) cap) (cs ++ [c]) ∧ Fr (fun j => v.ownBlock = some j) w w2 ∧ (v.ownBlock = some g ∨ g = w.heap.size + 1) := by
  obtain ⟨a1, n1, q1, e1⟩ := hk
  obtain ⟨a2, n2, q2, e2⟩ := hv
  obtain ⟨g, cap, w2, h1, h2, h3, h4⟩ := app1 und39 info61 rfl (by omega) h (c9 c).toArray rfl (by
    intro u hu
    unfold c9 at hu
    rw [e1, e2] at hu
    simp at hu
    rcases hu with rfl | rfl | rfl | rfl | rfl | rfl | rfl | rfl | rfl <;> rfl) (by unfold maxLen; omega) (by omega) hB
  refine ⟨g, cap, w2, h1, ?_, h3, h4⟩
  unfold ROwn
  rw [List.length_append, List.map_append, List.flatten_append]
  simpa using h2
theorem five_set {w : World} {b t : Nat} {x0 x1 x2 x3 x4 x5 x6 x7 x8 : Value} (h : w.heap[b]? = some (.cells #[x0, x1, x2, x3, x4, x5, x6, x7, x8] t)) (a1 a5 a6 a7 a8 : Value) :
    (((((w.setCell ⟨b, 1, none⟩ a1).setCell ⟨b, 5, none⟩ a5).setCell ⟨b, 6, none⟩ a6).setCell ⟨b, 7, none⟩ a7).setCell ⟨b, 8, none⟩ a8).heap[b]? = some (.cells #[x0, a1, x2, x3, x4, a5, a6, a7, a8] t) :=
  set_of (set_of (set_of (set_of (set_of h 1 a1) 5 a5) 6 a6) 7 a7) 8 a8
/-- What the document's Calls tells. -/
def RcE (h : List Mo) (w w' : World) (lv : Value) (ok : Bool) : Prop :=
  (callsX h = none ∧ ok = false) ∨ ∃ cs, callsX h = some cs ∧ ok = true ∧ ROwn w' w.heap.size lv cs ∧ ∀ c ∈ cs, c.R.At w
def RcR (h : List Mo) (w : World) (e : Ending) (w' : World) : Prop := ∃ lv ok, e = .returned (.tuple #[lv, .bool ok]) ∧ Fr (fun _ => False) w w' ∧ RcE h w w' lv ok
/-- The call that is being made: as long as its end isn't found, and behind. -/
structure Mk0 (h : List Mo) (i k : Nat) (m : Mo) (x : Int) (r : RV) : Prop where
  hm : h[i]? = some m
  lt : i < k
  st : (x = -1 ∧ r = rv0 ∧ NoM h m.c i k) ∨ ∃ e : Nat, x = e ∧ Right h i ⟨i, e, m.kd, m.ky, m.v, r⟩
end Go.Proofs.Ytihicdbplmdjiaa
