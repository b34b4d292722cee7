import Derived.Test.YtihicdbplmdjiaaGreatQX3J
import Derived.Test.YtihicdbplmdjiaaGreatQPlChJ
import Derived.Test.YtihicdbplmdjiaaGreatQB1J
set_option linter.unusedVariables false
set_option linter.unusedSimpArgs false
namespace Go.Proofs.YtihicdbplmdjiaaGreat

/-! ### what Play told, as it lies -/
def moOf (x : Pl.MV) : Mo := ⟨x.m.c, x.m.beg, x.m.op.1, x.m.op.2.1, x.m.op.2.2, ⟨rplOf x.m.rp, x.kv, x.vv⟩⟩
theorem moOf_m9 (x : Pl.MV) : m9 (moOf x) = Pl.m9 x := rfl
theorem fr_of {S : Nat → Prop} {w w' : World} (f : Pl.Fr S w w') : Fr S w w' := ⟨f.os, f.tape, f.output, f.size, f.block⟩
theorem fr_to {S : Nat → Prop} {w w' : World} (f : Fr S w w') : Pl.Fr S w w' := ⟨f.os, f.tape, f.output, f.size, f.block⟩
theorem row_block {w : World} {kb e : Nat} {xs : List Value} (h : w.heap[kb]? = some (.cells xs.toArray e)) : RowAt w (.slice (some ⟨kb, 0, none⟩) xs.length xs.length) xs :=
  ⟨_, _, rfl, fun _ => ⟨kb, 0, rfl, fun i hi => by rw [cell_of h, Nat.zero_add, List.getElem?_toArray, List.getElem?_eq_getElem hi]⟩⟩
theorem rep_at {w : World} {O : Nat → Prop} {B : Nat} {kv vv : Value} {L : List Kv} (h : Pl.RepAt w O B kv vv L) : RowAt w kv ((L.map (·.1)).map vI) ∧ RowAt w vv ((L.map (·.2)).map .string) := by
  rcases h with ⟨rfl, rfl, rfl⟩ | ⟨kb, vb, rfl, rfl, -, -, -, -, hs⟩
  · exact ⟨RowAt.nil w, RowAt.nil w⟩
  · have h1 := row_block hs.ks
    have h2 := row_block hs.vs
    rw [List.length_map] at h1 h2
    rw [List.map_map, List.map_map]
    exact ⟨h1, h2⟩
theorem moms_hat {w : World} {B : Nat} {mv : Value} {ms : List Pl.MomT} (h : Pl.MomsAt w B mv ms) {M : Nat} (hM : M ≤ 1000000000000000000) (hc : ∀ m ∈ ms, In64 m.c) (hm : ∀ m ∈ ms, GoodR M m.rp ∧ In64 m.op.2.1) :
    ∃ h' : List Mo, HAt2 w mv h' ∧ Tells h' ms ∧ ∀ m ∈ h', m.R.r.keys.length ≤ M ∧ m.R.r.vals.length ≤ M := by
  obtain ⟨mvs, O, hr, em, hrep, -⟩ := h
  subst em
  have hg : ∀ x ∈ mvs, GoodR M x.m.rp ∧ In64 x.m.op.2.1 := fun x hx => hm _ (List.mem_map.2 ⟨x, hx, rfl⟩)
  have hR : ∀ x ∈ mvs, (moOf x).R.At w := fun x hx => rep_at (hrep x hx)
  have hkl : ∀ x : Pl.MV, (moOf x).R.r.keys.length = x.m.rp.L.length := fun x => by show (x.m.rp.L.map _).length = _; simp
  have hvl : ∀ x : Pl.MV, (moOf x).R.r.vals.length = x.m.rp.L.length := fun x => by show (x.m.rp.L.map _).length = _; simp
  refine ⟨mvs.map moOf, ⟨?_, ?_⟩, ⟨by simp, ?_⟩, ?_⟩
  · have hall : ∀ m ∈ mvs.map moOf, m.R.At w ∧ m.R.r.keys.length ≤ 1000000000000000000 ∧ In64 m.c := fun m hq => by
      obtain ⟨x, hx, rfl⟩ := List.mem_map.1 hq
      refine ⟨hR x hx, ?_, hc _ (List.mem_map.2 ⟨x, hx, rfl⟩)⟩
      rw [hkl]
      have := (hg x hx).1.1
      omega
    have hlen : (mvs.map Pl.MV.m).length = (mvs.map moOf).length := by simp
    rcases hr.2 with ⟨h2, h3⟩ | ⟨g, cap, cur, e, h3, h4, h5, h6, h7, h8⟩
    · rw [List.length_map] at h3
      obtain rfl := List.eq_nil_of_length_eq_zero h3
      exact ⟨none, 0, h2, fun hne => absurd rfl hne, fun m hx => by cases hx⟩
    · refine ⟨_, cap, by rw [e, hlen], fun _ => ⟨g, 0, rfl, fun i hi j hj => ?_⟩, hall⟩
      have hi' : i < mvs.length := by simpa using hi
      have h9 : ∀ r ∈ mvs.map Pl.m9, r.length = 9 := fun r hr => by obtain ⟨x, -, rfl⟩ := List.mem_map.1 hr; rfl
      rw [cell_of h4, Nat.zero_add]
      have : cur[i * 9 + j]? = ((mvs.map Pl.m9).flatten)[i * 9 + j]? := by rw [← h8, List.getElem?_take, if_pos (by omega), Array.getElem?_toList]
      rw [this, Pl.flat_get h9 i j (by simpa using hi') hj]
      simp only [List.getElem_map, moOf_m9]
  · intro m hq
    obtain ⟨x, hx, rfl⟩ := List.mem_map.1 hq
    refine ⟨?_, (hg x hx).2, ?_⟩
    · rw [hkl]
      have := (hg x hx).1.1
      omega
    · intro k hk
      obtain ⟨e, he, rfl⟩ := List.mem_map.1 hk
      exact (hg x hx).1.2 e he
  · intro i m hi
    rw [List.getElem?_map] at hi
    cases e : mvs[i]? with
    | none => rw [e] at hi; cases hi
    | some x =>
      rw [e] at hi
      cases hi
      exact ⟨_, by rw [List.getElem?_map, e]; rfl, rfl⟩
  · intro m hq
    obtain ⟨x, hx, rfl⟩ := List.mem_map.1 hq
    rw [hkl, hvl]
    exact ⟨(hg x hx).1.1, (hg x hx).1.1⟩

/-- What Play tells of any clients, in hist's words. -/
def PlayT (cl : List (List OpT)) (w : World) (e : Ending) (w' : World) : Prop :=
  ∃ mv hs, e = .returned mv ∧ Fr (fun _ => False) w w' ∧ HAt2 w' mv hs ∧ hs.length ≤ 2 * nKnown cl ∧ (∀ m ∈ hs, m.R.r.keys.length ≤ nKnown cl ∧ m.R.r.vals.length ≤ nKnown cl) ∧
    ((cl.length ≤ 64 ∧ 64 < nKnown cl ∧ callsX hs = none) ∨ ((64 < cl.length ∨ nKnown cl ≤ 64) ∧ ∃ cs L, RefOk hs cs ∧ Val cs L ∧ ∀ c ∈ cs, c ∈ L))
theorem nil_ref : RefOk [] [] := ⟨by decide, rfl, fun c hc => (by cases hc), rfl⟩
theorem nil_val : Val [] [] := ⟨fun c hc => (by cases hc), fun us c bs e => (by simp at e)⟩
theorem play_told (w : World) (v sv : Value) (cl : List (List OpT)) (zs : List Int) (h : Pl.ClsAt w w.heap.size v cl) (hz : Pl.IntsAt w w.heap.size sv zs) (hk : ∀ l ∈ cl, ∀ o ∈ l, Pl.In64 o.2.1)
    (ho : ∀ l ∈ cl, ∀ o ∈ l, (o.1 ≠ 1 → o.2.2 = ⟨#[]⟩) ∧ (o.1 = 3 → o.2.1 = 0)) (hT : cl.length + (cl.map List.length).sum ≤ 2147483647) (hzl : zs.length ≤ 4000000000) :
    Calls Tryz.prog 6 #[v, sv] w fun e w' => PlayT cl w e w' := by
  have hkn := known_le cl
  by_cases hn : 64 < cl.length
  · refine (Pl.play_many w v sv cl h hn).mono ?_
    rintro _ w' ⟨rfl, rfl⟩
    refine ⟨_, [], rfl, Fr.refl _ _, ⟨⟨none, 0, rfl, fun hne => absurd rfl hne, fun m hm => (by cases hm)⟩, fun m hm => (by cases hm)⟩, Nat.zero_le _, fun m hm => (by cases hm), Or.inr ⟨Or.inl hn, [], [], nil_ref, nil_val, fun c hc => by cases hc⟩⟩
  · have hmu := Pl.mu_le cl
    unfold Pl.total at hmu
    have hll : ∀ l ∈ cl, l.length ≤ cl.length + (cl.map List.length).sum := fun l hl => Pl.total_len hl
    refine (Pl.play_any w v sv cl zs h hz (by omega) (fun l hl => by have := hll l hl; omega) hk (by omega) hzl).mono ?_
    rintro _ w' ⟨mv, k, rfl, hab, hM, hF⟩
    obtain ⟨acs, hE⟩ := iter_ended hk ho zs k hab
    have hi := iter_inv hk zs k
    obtain ⟨hs, g1, g2, g3⟩ := moms_hat hM (M := nKnown cl) (by omega) (fun m hm => by
      obtain ⟨i, hi, rfl⟩ := List.getElem_of_mem hm
      have := hE.hist.who i _ (List.getElem?_eq_getElem hi)
      exact ⟨by omega, by omega⟩) hi.ms
    have hlen := g2.len
    have h2 := hE.len
    refine ⟨mv, hs, rfl, fr_of hF, g1, by omega, g3, ?_⟩
    by_cases h64 : 64 < nKnown cl
    · exact Or.inl ⟨by omega, h64, hE.many g2 h64⟩
    · obtain ⟨cs, L, q1, q2, q3⟩ := hE.calls g2 (by rw [hE.count]; omega)
      exact Or.inr ⟨Or.inr (by omega), cs, L, q1, q2, q3⟩

/-! ### the clients' calls, put right -/
def turnO (o : OpT) : OpT := (o.1, if o.1 = 3 then 0 else o.2.1, if o.1 = 1 then o.2.2 else ⟨#[]⟩)
def turnL (cl : List (List OpT)) : List (List OpT) := cl.map (List.map turnO)
theorem turn_right (cl : List (List OpT)) : ∀ l ∈ turnL cl, ∀ o ∈ l, (o.1 ≠ 1 → o.2.2 = ⟨#[]⟩) ∧ (o.1 = 3 → o.2.1 = 0) := fun l hl o ho => by
  obtain ⟨l0, -, rfl⟩ := List.mem_map.1 hl
  obtain ⟨o0, -, rfl⟩ := List.mem_map.1 ho
  unfold turnO
  exact ⟨fun h => if_neg h, fun h => if_pos h⟩
theorem turn_keys {cl : List (List OpT)} (hk : ∀ l ∈ cl, ∀ o ∈ l, Pl.In64 o.2.1) : ∀ l ∈ turnL cl, ∀ o ∈ l, Pl.In64 o.2.1 := fun l hl o ho => by
  obtain ⟨l0, h0, rfl⟩ := List.mem_map.1 hl
  obtain ⟨o0, h1, rfl⟩ := List.mem_map.1 ho
  unfold turnO
  have := hk l0 h0 o0 h1
  show Pl.In64 (if _ then _ else _)
  split
  · exact ⟨by omega, by omega⟩
  · exact this
theorem turn_known (l : List OpT) : ((l.map turnO).filter Pl.knw).length = (l.filter Pl.knw).length := by
  induction l with
  | nil => rfl
  | cons a r ih =>
    have : Pl.knw (turnO a) = Pl.knw a := rfl
    rw [List.map_cons, List.filter_cons, List.filter_cons, this]
    split <;> simp [ih]
theorem turn_n (cl : List (List OpT)) : nKnown (turnL cl) = nKnown cl := by
  unfold nKnown turnL
  rw [List.map_map]
  congr 1
  exact List.map_congr_left fun l _ => turn_known l
theorem turn_len (cl : List (List OpT)) : (turnL cl).length = cl.length := by unfold turnL; simp
theorem turn_sum (cl : List (List OpT)) : ((turnL cl).map List.length).sum = (cl.map List.length).sum := by
  unfold turnL
  rw [List.map_map]
  congr 1
  exact List.map_congr_left fun l _ => by simp

/-! ### lists of calls, and lists of those, as they are made -/
def o3 (o : OpT) : List Value := [vI o.1, vI o.2.1, .string o.2.2]
def LOwn (w : World) (B : Nat) (v : Value) (os : List OpT) : Prop := w.ownsRow B 28 3 v os.length ((os.map o3).flatten)
theorem und25o : Tryz.prog.underlying 25 = some (.slice 28) := by kernel_rfl
theorem info28 : (Tryz.prog.info? 28).map (fun i => (i.zero, i.size, i.bytes)) = some (some (.agg #[vI 0, vI 0, .string ⟨#[]⟩]), 3, 32) := by kernel_rfl
theorem und22o : Tryz.prog.underlying 22 = some (.slice 25) := by kernel_rfl
theorem info25 : (Tryz.prog.info? 25).map (fun i => (i.zero, i.size, i.bytes)) = some (some (.slice none 0 0), 1, 24) := by kernel_rfl
theorem LOwn.app {w : World} {B : Nat} {v : Value} {os : List OpT} (h : LOwn w B v os) (o : OpT) (hB : B ≤ w.heap.size) (hn : os.length ≤ 4000000000) :
    ∃ g cap w2, (Builtin.append_ #[25, 25] 25 #[v, .slice (some ⟨w.heap.size, 0, none⟩) 1 1]).run Tryz.prog (w.alloc (.cells #[vI o.1, vI o.2.1, .string o.2.2] 28)) = .ok (.slice (some ⟨g, 0, none⟩) (os.length + 1) cap) w2 ∧
      LOwn w2 B (.slice (some ⟨g, 0, none⟩) (os.length + 1) cap) (os ++ [o]) ∧ Fr (fun j => v.ownBlock = some j) w w2 ∧ (v.ownBlock = some g ∨ g = w.heap.size + 1) := by
  obtain ⟨g, cap, w2, h1, h2, h3, h4⟩ := app1 und25o info28 rfl (by omega) h #[vI o.1, vI o.2.1, .string o.2.2] rfl (by
    intro u hu
    simp at hu
    rcases hu with rfl | rfl | rfl <;> rfl) (by unfold maxLen; omega) (by omega) hB
  refine ⟨g, cap, w2, h1, ?_, h3, h4⟩
  unfold LOwn
  rw [List.map_append, List.flatten_append, List.length_append]
  simpa [o3] using h2
theorem LOwn.ops {w : World} {B : Nat} {v : Value} {os : List OpT} (h : LOwn w B v os) : Pl.OpsAt w w.heap.size v os := by
  rcases h.2 with ⟨h2, h3⟩ | ⟨g, cap, cur, e, h3, h4, h5, h6, h7, h8⟩
  · exact ⟨none, 0, by rw [h2, h3], by omega, fun hne => absurd (List.eq_nil_of_length_eq_zero h3) hne⟩
  · refine ⟨_, cap, e, by omega, fun _ => ⟨g, 0, rfl, heap_lt h4, fun i hi => ?_⟩⟩
    have h9 : ∀ r ∈ os.map o3, r.length = 3 := fun r hr => by obtain ⟨x, -, rfl⟩ := List.mem_map.1 hr; rfl
    have hc : ∀ j, j < 3 → w.cell? ⟨g, 0 + i * 3 + j, none⟩ = (o3 os[i])[j]? := fun j hj => by
      rw [cell_of h4, Nat.zero_add]
      have : cur[i * 3 + j]? = ((os.map o3).flatten)[i * 3 + j]? := by rw [← h8, List.getElem?_take, if_pos (by omega), Array.getElem?_toList]
      rw [this, Pl.flat_get h9 i j (by simpa using hi) hj]
      simp
    exact ⟨hc 0 (by omega), hc 1 (by omega), hc 2 (by omega)⟩
/-- The lists made so far: each its own block, none of them the block of their list. -/
structure RtAt (w : World) (B : Nat) (rv : Value) (ls : List (List OpT)) (lvs : List Value) : Prop where
  row : w.ownsRow B 25 1 rv lvs.length lvs
  len : lvs.length = ls.length
  each : ∀ (i : Nat) (v : Value) (l : List OpT), lvs[i]? = some v → ls[i]? = some l → LOwn w B v l ∧ ∀ g, v.ownBlock = some g → rv.ownBlock ≠ some g
theorem RtAt.fr {w w' : World} {B : Nat} {rv : Value} {ls : List (List OpT)} {lvs : List Value} (h : RtAt w B rv ls lvs) (f : Fr (fun _ => False) w w') : RtAt w' B rv ls lvs :=
  ⟨ownsRow_fr h.row f (fun _ _ e => e), h.len, fun i v l h1 h2 => ⟨ownsRow_fr (h.each i v l h1 h2).1 f (fun _ _ e => e), (h.each i v l h1 h2).2⟩⟩
theorem RtAt.nil (w : World) (B : Nat) : RtAt w B (.slice none 0 0) [] [] := ⟨World.ownsRow_nil _ _ _ _, rfl, fun i v l h => by simp at h⟩
theorem RtAt.app {w : World} {B : Nat} {rv : Value} {ls : List (List OpT)} {lvs : List Value} (h : RtAt w B rv ls lvs) {v : Value} {l : List OpT} (hv : LOwn w B v l) (hne : ∀ g, v.ownBlock = some g → rv.ownBlock ≠ some g) (h1 : v.oneCell' = true) (hB : B ≤ w.heap.size) (hn : ls.length ≤ 4000000000) :
    ∃ g cap w2, (Builtin.append_ #[22, 22] 22 #[rv, .slice (some ⟨w.heap.size, 0, none⟩) 1 1]).run Tryz.prog (w.alloc (.cells #[v] 25)) = .ok (.slice (some ⟨g, 0, none⟩) (ls.length + 1) cap) w2 ∧
      RtAt w2 B (.slice (some ⟨g, 0, none⟩) (ls.length + 1) cap) (ls ++ [l]) (lvs ++ [v]) ∧ Fr (fun j => rv.ownBlock = some j) w w2 := by
  have hl := h.len
  obtain ⟨g, cap, w2, r1, r2, r3, r4⟩ := app1 und22o info25 rfl (by omega) h.row #[v] rfl (by
    intro u hu
    simp at hu
    subst hu
    exact h1) (by unfold maxLen; omega) (by omega) hB
  rw [hl] at r1 r2
  have hlt : ∀ (x : Value) (q : List OpT), LOwn w B x q → ∀ j, x.ownBlock = some j → j < w.heap.size := fun x q hx j hj => (World.ownsRow.lt hx j hj).2
  have hg : ∀ (x : Value) (q : List OpT), LOwn w B x q → (∀ j, x.ownBlock = some j → rv.ownBlock ≠ some j) → LOwn w2 B x q ∧ ∀ j, x.ownBlock = some j → (Value.slice (some ⟨g, 0, none⟩) (ls.length + 1) cap).ownBlock ≠ some j := fun x q hx hnx => by
    refine ⟨ownsRow_fr hx r3 (fun j e1 e2 => hnx j e1 e2), fun j e1 e2 => ?_⟩
    have : g = j := Option.some.inj e2
    subst this
    rcases r4 with e | e
    · exact hnx _ e1 e
    · have := hlt x q hx _ e1; omega
  refine ⟨g, cap, w2, r1, ⟨?_, by simp [hl], fun i x q hx hq => ?_⟩, r3⟩
  · rw [List.length_append, hl]
    exact r2
  · by_cases hi : i < lvs.length
    · rw [List.getElem?_append_left hi] at hx
      rw [List.getElem?_append_left (by omega)] at hq
      obtain ⟨a1, a2⟩ := h.each i x q hx hq
      exact hg x q a1 a2
    · rw [List.getElem?_append_right (by omega)] at hx
      rw [List.getElem?_append_right (by omega)] at hq
      have e1 : i - lvs.length = 0 := by
        have := (List.getElem?_eq_some_iff.1 hx).1
        simp at this; omega
      have e2 : i - ls.length = 0 := by omega
      rw [e1] at hx; rw [e2] at hq
      simp at hx hq
      subst hx hq
      exact hg _ _ hv hne
theorem RtAt.cls {w : World} {B : Nat} {rv : Value} {ls : List (List OpT)} {lvs : List Value} (h : RtAt w B rv ls lvs) : Pl.ClsAt w w.heap.size rv ls := by
  have hl := h.len
  rcases h.row.2 with ⟨h2, h3⟩ | ⟨g, cap, cur, e, h3, h4, h5, h6, h7, h8⟩
  · exact ⟨none, 0, by rw [h2]; simp; omega, fun hne => absurd (List.eq_nil_of_length_eq_zero (by omega)) hne⟩
  · refine ⟨_, cap, by rw [e, hl], fun _ => ⟨g, 0, rfl, heap_lt h4, fun i hi => ?_⟩⟩
    have hi' : i < lvs.length := by omega
    refine ⟨lvs[i], ?_, (h.each i _ _ (List.getElem?_eq_getElem hi') (List.getElem?_eq_getElem hi)).1.ops⟩
    rw [cell_of h4, Nat.zero_add]
    have : cur[i]? = lvs[i]? := by rw [← h8, List.getElem?_take, if_pos (by omega), Array.getElem?_toList]
    rw [this, List.getElem?_eq_getElem hi']
end Go.Proofs.YtihicdbplmdjiaaGreat
