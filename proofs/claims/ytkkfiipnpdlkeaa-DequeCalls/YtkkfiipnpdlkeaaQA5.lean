import Derived.Test.YtkkfiipnpdlkeaaQA4
namespace Go.Proofs.Ytkkfiipnpdlkeaa
open Go.RowKit (wrap32 wrap64)
open Go.MuLone
set_option linter.unusedVariables false
set_option linter.unusedSimpArgs false

theorem run_make_of (t e : TypeId) (z : Value) (size bytes : Nat) (ht : Try.prog.underlying t = some (.slice e)) (hz : (Try.prog.info? e).map (·.zero) = some (some z)) (hs : (Try.prog.info? e).map (·.size) = some size) (hb : (Try.prog.info? e).map (·.bytes) = some bytes)
    (n : Nat) (hn : bytes * n ≤ 281474976710656) (hn' : n ≤ 1000000000000000) (w : World) :
    (Instr.makeSlice t (.int .i64 n) (.int .i64 n)).run Try.prog w = .ok (.slice (some ⟨w.heap.size, 0, none⟩) n n) (w.alloc (.cells (madeCells z.cells (n * size)) e)) := by
  cases hi : Try.prog.info? e with
  | none => rw [hi] at hz; cases hz
  | some i =>
    rw [hi] at hz hs hb
    simp only [Option.map_some, Option.some.injEq] at hz hs hb
    have := run_make (P := Try.prog) w t e i z ht hi hz .i64 .i64 n n (by omega) (by omega) (by rw [hb, ← Int.natCast_mul]; omega) (by omega)
    rw [this, hs]
    simp
theorem made_one (z : Value) (n : Nat) : madeCells #[z] n = (List.replicate n z).toArray := by
  unfold madeCells
  apply Array.ext
  · simp
  · intro i h1 h2
    simp [Nat.mod_one]
theorem under30 : Try.prog.underlying 30 = some (.slice 3) := by kernel_rfl
theorem size3 : (Try.prog.info? 3).map (·.size) = some 1 := by kernel_rfl
theorem make_ints (n : Nat) (hn : n ≤ 35184372088832) (w : World) : (Instr.makeSlice 30 (.int .i64 n) (.int .i64 n)).run Try.prog w = .ok (.slice (some ⟨w.heap.size, 0, none⟩) n n) (w.alloc (.cells (List.replicate n (vI 0)).toArray 3)) := by
  rw [run_make_of 30 3 (vI 0) 1 8 under30 (by kernel_rfl) (by kernel_rfl) (by kernel_rfl) n (by omega) (by omega) w, Nat.mul_one]
  show Result.ok _ (w.alloc (.cells (madeCells #[vI 0] n) 3)) = _
  rw [made_one]

theorem below_fr {B : Nat} {w w' : World} (h : RowKit.Below B w w') (hB : B = w.heap.size) : Fr (fun _ => False) w w' :=
  ⟨h.os, h.tape, h.output, h.size, fun k hk _ => h.block k (by omega)⟩
theorem addr_add (b i : Nat) : (⟨b, 0, none⟩ : Addr).add i = ⟨b, i, none⟩ := by unfold Addr.add; split <;> simp_all
theorem addr_off (b off i : Nat) : (⟨b, off, none⟩ : Addr).add i = ⟨b, off + i, none⟩ := by unfold Addr.add; split <;> simp_all

theorem splice2 {α : Type} (Z X1 X2 : List α) (k : Nat) (hk : X1.length = k) (h : k + X2.length ≤ Z.length) : splice (splice Z 0 X1) k X2 = X1 ++ X2 ++ Z.drop (k + X2.length) := by
  subst hk
  have e1 : splice Z 0 X1 = X1 ++ Z.drop X1.length := by simp [splice]
  rw [e1]
  unfold splice
  rw [List.take_append_of_le_length (Nat.le_refl _), List.take_length, List.drop_append, List.drop_eq_nil_of_le (by omega : X1.length ≤ X1.length + X2.length), List.nil_append, Nat.add_sub_cancel_left, List.drop_drop, List.append_assoc]
theorem rot_get (rm : List Int) (far i k : Nat) (hf : far < rm.length) (hi : i < rm.length) : (rm.drop far ++ rm.take far ++ List.replicate k 0)[i]? = rm[(far + i) % rm.length]? := by
  rw [mod_far hf (by omega), List.getElem?_append_left (by simp; omega)]
  by_cases h : far + i < rm.length
  · rw [if_pos h, List.getElem?_append_left (by simp; omega), List.getElem?_drop]
  · rw [if_neg h, List.getElem?_append_right (by simp; omega), List.getElem?_take, if_pos (by simp; omega)]
    congr 1
    simp
    omega
theorem Dq.grown {w w4 : World} {b g : Nat} {l : Int} {rm : List Int} {far : Nat} {xs : List Int} (h : Dq w b l g rm far xs) (hne : rm ≠ []) (hb : RowKit.Below w.heap.size w w4) (k m : Nat) (hm : m = rm.length + k) (hg : w4.heap[w.heap.size]? = some (.cells ((rm.drop far ++ rm.take far ++ List.replicate k 0).map vI).toArray 3)) :
    Dq ((w4.setCell ⟨b, 2, none⟩ (.slice (some ⟨w.heap.size, 0, none⟩) m m)).setCell ⟨b, 3, none⟩ (vI 0)) b l w.heap.size (rm.drop far ++ rm.take far ++ List.replicate k 0) 0 xs ∧ Fr (fun j => j = b) w ((w4.setCell ⟨b, 2, none⟩ (.slice (some ⟨w.heap.size, 0, none⟩) m m)).setCell ⟨b, 3, none⟩ (vI 0)) := by
  have hf := h.flt hne
  have hbl := h.blt
  have hl : (rm.drop far ++ rm.take far ++ List.replicate k 0).length = m := by simp; omega
  have hn2 : rm.drop far ++ rm.take far ++ List.replicate k 0 ≠ [] := by intro e; rw [e] at hl; simp at hl; omega
  have f4 := below_fr hb rfl
  refine ⟨⟨?_, fun _ => ?_, fun e => absurd e hn2, fun _ => by omega, fun _ => by rw [hl]; omega, by rw [hl]; have := h.len; omega, fun i hi => ?_⟩, ?_⟩
  · rw [set_of (set_of ((f4.block b hbl (fun h => h)).trans h.obj) 2 _) 3, roomV_some hn2, hl]
    simp
  · rw [Go.RowKit.Below.heap_setCell _ _ _ _ (by show w.heap.size ≠ b; omega), Go.RowKit.Below.heap_setCell _ _ _ _ (by show w.heap.size ≠ b; omega)]
    exact hg
  · have hx := h.len
    rw [Nat.zero_add, hl, Nat.mod_eq_of_lt (by omega), rot_get rm far i k hf (by omega), h.has i hi]
  · exact ((f4.mono (T := fun j => j = b) (fun _ _ h => h.elim)).setCell ⟨b, 2, none⟩ _ (Or.inl rfl)).setCell ⟨b, 3, none⟩ _ (Or.inl rfl)

set_option maxRecDepth 100000 in
set_option maxHeartbeats 1000000 in
theorem grow_some (b g : Nat) (l : Int) (rm : List Int) (far : Nat) (xs : List Int) (hne : rm ≠ []) (hB : rm.length ≤ 17592186044416) (w : World) (h : Dq w b l g rm far xs) :
    Calls Try.prog 30 #[.pointer (some ⟨b, 2, none⟩)] w fun e w' => e = .returned (.tuple #[]) ∧ Dq w' b l w.heap.size (rm.drop far ++ rm.take far ++ List.replicate rm.length 0) 0 xs ∧ Fr (fun j => j = b) w w' := by
  have hf := h.flt hne
  have hgb := h.ne hne
  obtain ⟨-, c2, c3, c4, hz⟩ := h.cells
  rw [roomV_some hne] at c2
  have hmk := make_ints (2 * rm.length) (by omega) w
  have hw1 : wrap64 (2 * (rm.length : Int)) = ((2 * rm.length : Nat) : Int) := by rw [w64 (by omega) (by omega)]; omega
  have hmx : max (1 : Int) ((2 * rm.length : Nat) : Int) = ((2 * rm.length : Nat) : Int) := by omega
  obtain ⟨m, hm⟩ : ∃ m, m = 2 * rm.length := ⟨_, rfl⟩
  rw [← hm] at hmk hw1 hmx
  obtain ⟨n, hn⟩ : ∃ n, n = rm.length := ⟨_, rfl⟩
  rw [← hn] at c2 hw1 hf hm hB ⊢
  have HB : Hd (n ≤ 17592186044416) := hB
  have HM : Hd (m = 2 * n) := hm
  have HN : Hd (n = rm.length) := hn
  have HF : Hd (far < n) := hf
  have HD : Hd (Dq w b l g rm far xs) := h
  clear h hm hn hB
  have hf0 : (0 : Int) ≤ far := by omega
  have hf1 : (far : Int) ≤ n := by omega
  have hf2 : ¬ far = n := by omega
  have h1m : (1 : Int) < m := by have := HM.out; omega
  obtain ⟨w1, hw⟩ : ∃ w1, w1 = w.alloc (.cells (List.replicate m (vI 0)).toArray 3) := ⟨_, rfl⟩
  rw [← hw] at hmk
  have HG1 : Hd (w1.heap[w.heap.size]? = some (.cells (List.replicate m (vI 0)).toArray 3)) := by rw [hw]; exact heap_alloc_last _ _
  have HB1 : Hd (RowKit.Below w.heap.size w w1) := by rw [hw]; exact ⟨rfl, rfl, rfl, by simp, fun k hk => Go.RowKit.Below.heap_alloc w _ k hk⟩
  have HC : Hd (∀ w' : World, RowKit.Below w.heap.size w w' → ∀ o, w'.cell? ⟨b, o, none⟩ = w.cell? ⟨b, o, none⟩ ∧ w'.frozen? ⟨b, o, none⟩ = w.frozen? ⟨b, o, none⟩) := fun w' hb o => ⟨(below_fr hb rfl).cell HD.out.blt (fun h => h), (below_fr hb rfl).frozen HD.out.blt (fun h => h)⟩
  obtain ⟨g', hg'⟩ : ∃ g', g' = w.heap.size := ⟨_, rfl⟩
  have HG' : Hd (g' = w.heap.size) := hg'
  rw [← hg'] at hmk HG1 HB1 HC ⊢
  clear hg' hw
  have d2 := ((HC.out w1 HB1.out 2).1).trans c2
  have d3 := ((HC.out w1 HB1.out 3).1).trans c3
  have HR : Hd (∀ w' : World, RowKit.Below g' w w' → ∀ k x, rm[k]? = some x → w'.cell? ⟨g, k, none⟩ = some (vI x)) := fun w' hb k x hk =>
    (((below_fr hb HG'.out).cell HD.out.glt (fun h => h))).trans (HD.out.cellR hne k x hk).1
  have HS1 : Hd (∀ w' : World, RowKit.Below g' w w' → ∀ j v, ((rm.drop far).map vI)[j]? = some v → w'.cell? ((⟨g, far, none⟩ : Addr).add j) = some v) := by
    intro w' hb j v hj
    rw [List.getElem?_map, Option.map_eq_some_iff] at hj
    obtain ⟨x, hx, rfl⟩ := hj
    rw [List.getElem?_drop] at hx
    rw [addr_off]
    exact HR.out w' hb _ x hx
  have HS2 : Hd (∀ w' : World, RowKit.Below g' w w' → ∀ j v, ((rm.take far).map vI)[j]? = some v → w'.cell? ((⟨g, 0, none⟩ : Addr).add j) = some v) := by
    intro w' hb j v hj
    rw [List.getElem?_map, Option.map_eq_some_iff] at hj
    obtain ⟨x, hx, rfl⟩ := hj
    rw [List.getElem?_take] at hx
    split at hx
    · rw [addr_add]
      exact HR.out w' hb _ x hx
    · cases hx
  obtain ⟨X1, hX1⟩ : ∃ X1, X1 = (rm.drop far).map vI := ⟨_, rfl⟩
  obtain ⟨X2, hX2⟩ : ∃ X2, X2 = (rm.take far).map vI := ⟨_, rfl⟩
  have HX1 : Hd (X1 = (rm.drop far).map vI) := hX1
  have HX2 : Hd (X2 = (rm.take far).map vI) := hX2
  have l1 : Hd (X1.length = n - far) := by rw [hX1]; show _ = _; simp [HN.out]
  have l2 : Hd (X2.length = far) := by rw [hX2]; show _ = _; simp; have := HF.out; have := HN.out; omega
  have o1 : Hd (∀ v ∈ X1, v.oneCell' = true) := by rw [hX1]; intro v hv; obtain ⟨x, -, rfl⟩ := List.mem_map.1 hv; rfl
  have o2 : Hd (∀ v ∈ X2, v.oneCell' = true) := by rw [hX2]; intro v hv; obtain ⟨x, -, rfl⟩ := List.mem_map.1 hv; rfl
  rw [← hX1] at HS1
  rw [← hX2] at HS2
  clear hX1 hX2 HR hne hgb c3 c4 hz
  go_enter Try.func30, Try.ntmps30
  go_wp2_with fail
  clear hmk c2
  have HB1' : Hd (RowKit.Below g' w w1.drew) := ⟨HB1.out.os, HB1.out.tape, HB1.out.output, HB1.out.size, HB1.out.block⟩
  go_region_law (
    refine step_copy_splice rfl (.tmp 12) (.tmp 21) 30 30 rfl 3 under30 size3 (some ⟨g', 0, none⟩) (some ⟨g, far, none⟩) m m (n - far) (n - far) (by simp [Act.eval, Act.put]) (by simp [Act.eval, Act.put]; try omega) g' 0 (List.replicate m (vI 0)) 3 HG1.out X1 (by have := l1.out; have := HM.out; show X1.length = min (n - far) m; omega) (fun _ => ⟨rfl, _, rfl, HS1.out _ HB1'.out⟩) (by have := l1.out; have := HM.out; simp; omega) o1.out g' w HB1'.out (Nat.le_refl _) ?_
    intro w3 HG3 HB3)
  all_goals
    have e2 := ((HC.out w3 HB3 2).1).trans ((HC.out w1 HB1.out 2).1.symm.trans d2)
    have e3 := ((HC.out w3 HB3 3).1).trans ((HC.out w1 HB1.out 3).1.symm.trans d3)
    have q1 := l1.out
    have HB3' : Hd (RowKit.Below g' w w3.drew) := ⟨HB3.os, HB3.tape, HB3.output, HB3.size, HB3.block⟩
    clear d2 d3 HB1 HB1' HG1 HS1
    rw [if_neg (by omega)]
    obtain ⟨a, ha⟩ : ∃ a, a = X1.length := ⟨_, rfl⟩
    rw [← ha] at q1 ⊢
    have HA : Hd (a = n - far) := q1
    have hm2 := HM.out
    have ha0 : (0 : Int) ≤ a := by omega
    have ha1 : (a : Int) ≤ m := by omega
    have ha2 : ¬ m = a := by omega
    have ha3 : ¬ a = m := by omega
    clear ha q1 hm2
    try simp only [goInt]
    go_wp2_with fail
    go_region_law (
      refine step_copy_splice rfl (.tmp 25) (.tmp 34) 30 30 rfl 3 under30 size3 (some ⟨g', a, none⟩) (some ⟨g, 0, none⟩) (m - a) (m - a) far n (by simp [Act.eval, Act.put]; try omega) (by simp [Act.eval, Act.put]; try omega) g' a (splice (List.replicate m (vI 0)) 0 X1) 3 HG3.out X2 (by have := l2.out; have := HM.out; have := HA.out; show X2.length = min far (m - a); omega) (fun _ => ⟨rfl, _, rfl, HS2.out _ HB3'.out⟩) (by have := l2.out; have := l1.out; have := HM.out; have := HA.out; rw [length_splice _ _ _ (by simp; omega)]; simp; omega) o2.out g' w HB3'.out (Nat.le_refl _) ?_
      intro w4 HG4 HB4)
    all_goals
      have i2 := ((HC.out w4 HB4 2).1).trans ((HC.out w3 HB3 2).1.symm.trans e2)
      have i3 := ((HC.out w4 HB4 3).1).trans ((HC.out w3 HB3 3).1.symm.trans e3)
      have y2 := ((HC.out w4 HB4 2).2).trans (frozen_of HD.out.obj 2)
      have y3 := ((HC.out w4 HB4 3).2).trans (frozen_of HD.out.obj 3)
      clear e2 e3 HB3 HB3' HG3 HS2
      try simp only [goInt]
      go_wp2_with fail
      go_end0
      refine ⟨rfl, ?_⟩
      have hg4 := HG4.out
      have hm := HM.out
      have hf' := HF.out
      have hn' := HN.out
      have hgg := HG'.out
      have hA := HA.out
      rw [splice2 _ _ _ a (by rw [l1.out, hA]) (by rw [l2.out, hA]; simp; omega), l2.out, HX1.out, HX2.out, List.drop_replicate, show m - (a + far) = n by omega] at hg4
      subst hgg
      exact HD.out.grown (by rintro rfl; simp at hn'; omega) HB4 n m (by omega) (by rw [hg4]; simp)
end Go.Proofs.Ytkkfiipnpdlkeaa
