import Derived.Test.YtkkfiipnpdlkeaaQD4
namespace Go.Proofs.Ytkkfiipnpdlkeaa
open Go.RowKit (wrap32 wrap64)
open Go.MuLone
set_option linter.unusedVariables false
set_option linter.unusedSimpArgs false

/-- The document's deque: one cell that holds a slice of the call's own. -/
structure Rf (w : World) (B c : Nat) (tv : Value) (ts : List Int) : Prop where
  obj : w.heap[c]? = some (.cells #[tv] 56)
  s : Wn w B tv ts
  nc : tv.ownBlock ≠ some c
theorem Rf.fr {S : Nat → Prop} {w w' : World} {B c : Nat} {tv : Value} {ts : List Int} (h : Rf w B c tv ts) (f : Fr S w w') (hc : ¬ S c) (hS : ∀ g, tv.ownBlock = some g → ¬ S g) : Rf w' B c tv ts :=
  ⟨(f.block c (heap_lt h.obj) hc).trans h.obj, h.s.fr f hS, h.nc⟩

/-! ### cuts of a slice of the call's own -/
theorem Wn.cutNear {w : World} {B k o cap n : Nat} {ts : List Int} {x : Int} (h : Wn w B (.slice (some ⟨k, o, none⟩) n cap) (ts ++ [x])) :
    Wn w B (.slice (some ⟨k, o, none⟩) ts.length cap) ts ∧ w.cell? ⟨k, o + ts.length, none⟩ = some (vI x) ∧ n = ts.length + 1 ∧ n ≤ cap := by
  rcases h with ⟨e, -⟩ | ⟨k', o', cap', cur, e, h1, h2, h3, h4, h5⟩
  · cases e
  · injection e with e1 e2 e3
    injection e1 with e1
    injection e1 with e1 e4
    subst e1 e3 e4
    simp only [List.length_append, List.length_singleton] at e2 h4
    refine ⟨Or.inr ⟨k, o, cap, cur, rfl, h1, h2, h3, by omega, fun j hj => ?_⟩, ?_, e2, by omega⟩
    · rw [h5 j (by simp; omega), List.getElem_append_left hj]
    · rw [cell_of h2, h5 ts.length (by simp)]
      simp
theorem Wn.cutFar {w : World} {B k o cap n : Nat} {ts : List Int} {x : Int} (h : Wn w B (.slice (some ⟨k, o, none⟩) n cap) (x :: ts)) :
    (cap = 1 → Wn w B (.slice (some ⟨k, o, none⟩) ts.length (cap - 1)) ts) ∧ (cap ≠ 1 → Wn w B (.slice (some ⟨k, o + 1, none⟩) ts.length (cap - 1)) ts) ∧ w.cell? ⟨k, o, none⟩ = some (vI x) ∧ n = ts.length + 1 ∧ n ≤ cap := by
  rcases h with ⟨e, -⟩ | ⟨k', o', cap', cur, e, h1, h2, h3, h4, h5⟩
  · cases e
  · injection e with e1 e2 e3
    injection e1 with e1
    injection e1 with e1 e4
    subst e1 e3 e4
    simp only [List.length_cons] at e2 h4
    refine ⟨fun hc => ?_, fun hc => ?_, ?_, e2, by omega⟩
    · exact Or.inr ⟨k, o, cap - 1, cur, rfl, h1, h2, by omega, by omega, fun j hj => by omega⟩
    · refine Or.inr ⟨k, o + 1, cap - 1, cur, rfl, h1, h2, by omega, by omega, fun j hj => ?_⟩
      have := h5 (j + 1) (by simp; omega)
      rw [List.getElem_cons_succ] at this
      rw [← this]
      congr 1
      omega
    · have := h5 0 (by simp)
      rw [cell_of h2]
      simpa using this
theorem Wn.spot {w : World} {B : Nat} {v : Value} {ts : List Int} (h : Wn w B v ts) (hne : ts ≠ []) : ∃ k o cap, v = .slice (some ⟨k, o, none⟩) ts.length cap := by
  rcases h with ⟨-, e⟩ | ⟨k, o, cap, cur, e, -⟩
  · exact absurd e hne
  · exact ⟨k, o, cap, e⟩

set_option maxRecDepth 100000 in
set_option maxHeartbeats 1000000 in
theorem fnew_any (w : World) (B : Nat) : Calls Try.prog 15 #[] w fun e w' => e = .returned (.pointer (some ⟨w.heap.size, 0, none⟩)) ∧ Rf w' B w.heap.size (.slice none 0 0) [] ∧ Fr (fun _ => False) w w' := by
  have HP : Hd (Rf (w.alloc (.cells #[.slice none 0 0] 56)) B w.heap.size (.slice none 0 0) []) := ⟨heap_alloc_last _ _, Wn.nil _ _, fun e => by cases e⟩
  go_enter Try.func15, Try.ntmps15
  go_wp2_with fail
  go_ret
  exact ⟨rfl, HP.out, Fr.alloc (Fr.refl _ w) _⟩

set_option maxRecDepth 100000 in
set_option maxHeartbeats 1000000 in
theorem flen_any (w : World) (B c : Nat) (tv : Value) (ts : List Int) (h : Rf w B c tv ts) : Calls Try.prog 17 #[.pointer (some ⟨c, 0, none⟩)] w fun e w' => e = .returned (vI ts.length) ∧ w' = w := by
  obtain ⟨a, cap, rfl, -⟩ := h.s.len
  have c0 := cell_of h.obj 0
  simp only [List.getElem?_toArray, List.getElem?_cons_zero] at c0
  go_enter Try.func17, Try.ntmps17
  go_wp2_with fail
  go_ret
  exact ⟨rfl, rfl⟩

set_option maxRecDepth 100000 in
set_option maxHeartbeats 1000000 in
theorem fpush_any (w : World) (B c : Nat) (tv : Value) (ts : List Int) (x : Int) (hB : B ≤ w.heap.size) (hl : ts.length ≤ 17592186044416) (h : Rf w B c tv ts) :
    Calls Try.prog 24 #[.pointer (some ⟨c, 0, none⟩), vI x] w fun e w' => e = .returned (.tuple #[]) ∧ ∃ tv', Rf w' B c tv' (ts ++ [x]) ∧ Fr (fun j => j = c ∨ tv.ownBlock = some j) w w' ∧ ∀ k, tv'.ownBlock = some k → tv.ownBlock = some k ∨ w.heap.size ≤ k := by
  have c0 := cell_of h.obj 0
  simp only [List.getElem?_toArray, List.getElem?_cons_zero] at c0
  obtain ⟨v', w2, hr, hs, hf, hb⟩ := h.s.append hB x 30 hl
  obtain ⟨va, vc, hv', -⟩ := hs.len
  obtain ⟨M, hM⟩ : ∃ M, M = (ts ++ [x]).length := ⟨_, rfl⟩
  rw [← hM] at hv'
  clear hM
  have hcl := heap_lt h.obj
  have ho2 : w2.heap[c]? = some (.cells #[tv] 56) := (hf.block c hcl h.nc).trans h.obj
  have d0 : w2.cell? ⟨c, 0, none⟩ = some tv := by rw [cell_of ho2]; rfl
  have z0 : w2.frozen? ⟨c, 0, none⟩ = false := frozen_of ho2 0
  have hvc : v'.ownBlock ≠ some c := by
    intro e
    rcases hb c e with e | e
    · exact h.nc e
    · omega
  have HR : Hd (Rf (w2.setCell ⟨c, 0, none⟩ v') B c v' (ts ++ [x])) := by
    refine ⟨?_, ?_, hvc⟩
    · rw [set_of ho2]; rfl
    · exact hs.fr ((Fr.refl (fun j => j = c) w2).setCell ⟨c, 0, none⟩ v' (Or.inl rfl)) (fun g e e2 => by subst e2; exact hvc e)
  have HF : Hd (Fr (fun j => j = c ∨ tv.ownBlock = some j) w (w2.setCell ⟨c, 0, none⟩ v')) :=
    (hf.mono (T := fun j => j = c ∨ tv.ownBlock = some j) (fun _ _ h => Or.inr h)).setCell ⟨c, 0, none⟩ v' (Or.inl (Or.inl rfl))
  have HV : Hd (∀ k, v'.ownBlock = some k → tv.ownBlock = some k ∨ w.heap.size ≤ k) := hb
  have HA : Hd ((Builtin.append_ #[30, 30] 30 #[tv, .slice (some ⟨w.heap.size, 0, none⟩) 1 1]).run Try.prog (w.alloc (.cells #[vI x] 3)) = .ok v' w2) := hr
  clear hr hs hf hb ho2 hvc h hcl
  subst hv'
  go_enter Try.func24, Try.ntmps24
  go_wp2_with (at_builtin; refine wpList_append_run rfl (.tmp 10) (.tmp 12) 30 rfl _ _ _ rfl rfl HA.out ?_)
  go_end0
  exact ⟨rfl, _, HR.out, HF.out, HV.out⟩

set_option maxRecDepth 100000 in
set_option maxHeartbeats 1000000 in
theorem fpop_none (w : World) (B c : Nat) (tv : Value) (h : Rf w B c tv []) :
    Calls Try.prog 25 #[.pointer (some ⟨c, 0, none⟩)] w fun e w' => e = .returned (.tuple #[vI 0, .bool false]) ∧ w' = w := by
  obtain ⟨a, cap, rfl, -⟩ := h.s.len
  have c0 := cell_of h.obj 0
  simp only [List.getElem?_toArray, List.getElem?_cons_zero] at c0
  go_enter Try.func25, Try.ntmps25
  go_wp2_with fail
  go_ret2
  exact ⟨rfl, rfl⟩
set_option maxRecDepth 100000 in
set_option maxHeartbeats 1000000 in
theorem fsteal_none (w : World) (B c : Nat) (tv : Value) (h : Rf w B c tv []) :
    Calls Try.prog 26 #[.pointer (some ⟨c, 0, none⟩)] w fun e w' => e = .returned (.tuple #[vI 0, .bool false]) ∧ w' = w := by
  obtain ⟨a, cap, rfl, -⟩ := h.s.len
  have c0 := cell_of h.obj 0
  simp only [List.getElem?_toArray, List.getElem?_cons_zero] at c0
  go_enter Try.func26, Try.ntmps26
  go_wp2_with fail
  go_ret2
  exact ⟨rfl, rfl⟩

/-- The one cell written over. -/
theorem Rf.put {w : World} {B c : Nat} {tv v' : Value} {ts ys : List Int} (h : Rf w B c tv ts) (hs : Wn w B v' ys) (hb : v'.ownBlock = tv.ownBlock) : Rf (w.setCell ⟨c, 0, none⟩ v') B c v' ys ∧ Fr (fun j => j = c) w (w.setCell ⟨c, 0, none⟩ v') := by
  have hf := (Fr.refl (fun j => j = c) w).setCell ⟨c, 0, none⟩ v' (Or.inl rfl)
  refine ⟨⟨?_, hs.fr hf (fun g e e2 => ?_), by rw [hb]; exact h.nc⟩, hf⟩
  · rw [set_of h.obj]; rfl
  · subst e2; rw [hb] at e; exact h.nc e

set_option maxRecDepth 100000 in
set_option maxHeartbeats 2000000 in
theorem fpop_some (w : World) (B c : Nat) (tv : Value) (ys : List Int) (x : Int) (hl : ys.length ≤ 17592186044416) (h : Rf w B c tv (ys ++ [x])) :
    Calls Try.prog 25 #[.pointer (some ⟨c, 0, none⟩)] w fun e w' => e = .returned (.tuple #[vI x, .bool true]) ∧ ∃ tv', Rf w' B c tv' ys ∧ Fr (fun j => j = c) w w' ∧ tv'.ownBlock = tv.ownBlock := by
  obtain ⟨tk, to, tc, htv⟩ := h.s.spot (by simp)
  obtain ⟨L, hL⟩ : ∃ L, L = (ys ++ [x]).length := ⟨_, rfl⟩
  rw [← hL] at htv
  subst htv
  obtain ⟨m, hm⟩ : ∃ m, m = ys.length := ⟨_, rfl⟩
  obtain ⟨hs, hcx, -, hcap⟩ := h.s.cutNear
  rw [← hm] at hs hcx hl
  have hLm : L = m + 1 := by rw [hL, hm]; simp
  have c0 := cell_of h.obj 0
  simp only [List.getElem?_toArray, List.getElem?_cons_zero] at c0
  have z0 : w.frozen? ⟨c, 0, none⟩ = false := frozen_of h.obj 0
  have hp := h.put hs rfl
  have HR : Hd (Rf (w.setCell ⟨c, 0, none⟩ (.slice (some ⟨tk, to, none⟩) m tc)) B c (.slice (some ⟨tk, to, none⟩) m tc) ys) := hp.1
  have HF : Hd (Fr (fun j => j = c) w (w.setCell ⟨c, 0, none⟩ (.slice (some ⟨tk, to, none⟩) m tc))) := hp.2
  have hL0 : ((L : Int) == 0) = false := by simp; omega
  have hL1 : (L == 0) = false := by simp; omega
  have hwL : wrap64 ((L : Int) - 1) = (m : Int) := by rw [w64 (by omega) (by omega)]; omega
  have m0 : (0 : Int) ≤ m := by omega
  have m1 : (m : Int) < L := by omega
  have m2 : (m : Int) ≤ tc := by omega
  have hLn : ¬ L = 0 := by omega
  clear hp h hL hm hLm hcap hs
  go_enter Try.func25, Try.ntmps25
  go_wp2_with fail
  go_region
  all_goals go_wp2_with fail
  all_goals go_region
  all_goals go_wp2_with fail
  all_goals go_ret2
  all_goals exact ⟨rfl, _, HR.out.fr (Fr.drew (Fr.drew (Fr.refl (fun _ => False) _))) (fun h => h) (fun _ _ h => h), HF.out.drew.drew, rfl⟩

set_option maxRecDepth 100000 in
set_option maxHeartbeats 2000000 in
theorem fsteal_some (w : World) (B c : Nat) (tv : Value) (ys : List Int) (x : Int) (hl : ys.length ≤ 17592186044416) (h : Rf w B c tv (x :: ys)) :
    Calls Try.prog 26 #[.pointer (some ⟨c, 0, none⟩)] w fun e w' => e = .returned (.tuple #[vI x, .bool true]) ∧ ∃ tv', Rf w' B c tv' ys ∧ Fr (fun j => j = c) w w' ∧ tv'.ownBlock = tv.ownBlock := by
  obtain ⟨tk, to, tc, htv⟩ := h.s.spot (by simp)
  obtain ⟨L, hL⟩ : ∃ L, L = (x :: ys).length := ⟨_, rfl⟩
  rw [← hL] at htv
  subst htv
  obtain ⟨hs1, hs2, hcx, -, hcap⟩ := h.s.cutFar
  have hLm : L = ys.length + 1 := by rw [hL]; simp
  have c0 := cell_of h.obj 0
  simp only [List.getElem?_toArray, List.getElem?_cons_zero] at c0
  have z0 : w.frozen? ⟨c, 0, none⟩ = false := frozen_of h.obj 0
  have hL0 : (0 : Int) < L := by omega
  have hL1 : (L == 0) = false := by simp; omega
  have hL2 : (1 : Int) ≤ L := by omega
  have hL3 : 1 ≤ L := by omega
  have hLn : ¬ L = 0 := by omega
  have hLi : ((L : Int) == 0) = false := by simp; omega
  rw [show ys.length = L - 1 by omega] at hs1 hs2
  by_cases htc : tc = 1
  · subst htc
    obtain rfl : L = 1 := by omega
    have hp := h.put (hs1 rfl) rfl
    have HR : Hd (Rf (w.setCell ⟨c, 0, none⟩ (.slice (some ⟨tk, to, none⟩) 0 0)) B c (.slice (some ⟨tk, to, none⟩) 0 0) ys) := hp.1
    have HF : Hd (Fr (fun j => j = c) w (w.setCell ⟨c, 0, none⟩ (.slice (some ⟨tk, to, none⟩) 0 0))) := hp.2
    clear hp h hL hLm hcap hs1 hs2 hL0 hL1 hL2 hL3 hLn hLi
    go_enter Try.func26, Try.ntmps26
    go_wp2_with fail
    go_ret2
    exact ⟨rfl, _, HR.out, HF.out, rfl⟩
  · have hp := h.put (hs2 htc) rfl
    have HR : Hd (Rf (w.setCell ⟨c, 0, none⟩ (.slice (some ⟨tk, to + 1, none⟩) (L - 1) (tc - 1))) B c (.slice (some ⟨tk, to + 1, none⟩) (L - 1) (tc - 1)) ys) := hp.1
    have HF : Hd (Fr (fun j => j = c) w (w.setCell ⟨c, 0, none⟩ (.slice (some ⟨tk, to + 1, none⟩) (L - 1) (tc - 1)))) := hp.2
    clear hp h hL hLm hs1 hs2
    go_enter Try.func26, Try.ntmps26
    go_wp2_with fail
    go_ret2
    exact ⟨rfl, _, HR.out, HF.out, rfl⟩
end Go.Proofs.Ytkkfiipnpdlkeaa
