import Derived.Test.YtkkfiipnpdlkeaaQA2
namespace Go.Proofs.Ytkkfiipnpdlkeaa
open Go.RowKit (wrap32 wrap64)
open Go.MuLone
set_option linter.unusedVariables false
set_option linter.unusedSimpArgs false

set_option maxRecDepth 100000 in
set_option maxHeartbeats 1000000 in
theorem rpop_none (b : Nat) (w : World) (c4 : w.cell? ⟨b, 4, none⟩ = some (vI 0)) :
    Calls Try.prog 22 #[.pointer (some ⟨b, 2, none⟩)] w fun e w' => e = .returned (.tuple #[vI 0, .bool false]) ∧ w' = w := by
  go_enter Try.func22, Try.ntmps22
  go_wp2_with fail
  go_ret2
  exact ⟨rfl, rfl⟩
set_option maxRecDepth 100000 in
set_option maxHeartbeats 1000000 in
theorem rsteal_none (b : Nat) (w : World) (c4 : w.cell? ⟨b, 4, none⟩ = some (vI 0)) :
    Calls Try.prog 21 #[.pointer (some ⟨b, 2, none⟩)] w fun e w' => e = .returned (.tuple #[vI 0, .bool false]) ∧ w' = w := by
  go_enter Try.func21, Try.ntmps21
  go_wp2_with fail
  go_ret2
  exact ⟨rfl, rfl⟩

theorem Dq.cells {w : World} {b : Nat} {l : Int} {g : Nat} {rm : List Int} {far : Nat} {xs : List Int} (h : Dq w b l g rm far xs) :
    w.cell? ⟨b, 0, none⟩ = some (.int .i32 l) ∧ w.cell? ⟨b, 2, none⟩ = some (roomV g rm) ∧ w.cell? ⟨b, 3, none⟩ = some (vI far) ∧ w.cell? ⟨b, 4, none⟩ = some (vI xs.length) ∧ ∀ o, w.frozen? ⟨b, o, none⟩ = false :=
  ⟨cell_of h.obj 0, cell_of h.obj 2, cell_of h.obj 3, cell_of h.obj 4, fun o => frozen_of h.obj o⟩
theorem Dq.cellR {w : World} {b : Nat} {l : Int} {g : Nat} {rm : List Int} {far : Nat} {xs : List Int} (h : Dq w b l g rm far xs) (hne : rm ≠ []) (k : Nat) (x : Int) (hk : rm[k]? = some x) :
    w.cell? ⟨g, k, none⟩ = some (vI x) ∧ w.frozen? ⟨g, k, none⟩ = false := by
  refine ⟨?_, frozen_of (h.row hne) k⟩
  rw [cell_of (h.row hne)]
  simp [hk]

set_option maxRecDepth 100000 in
set_option maxHeartbeats 1000000 in
theorem rpop_some (b : Nat) (l : Int) (g : Nat) (rm : List Int) (far : Nat) (ys : List Int) (x : Int) (w : World) (h : Dq w b l g rm far (ys ++ [x])) (hB : rm.length ≤ 100000000000000) :
    Calls Try.prog 22 #[.pointer (some ⟨b, 2, none⟩)] w fun e w' => e = .returned (.tuple #[vI x, .bool true]) ∧ w' = (w.setCell ⟨b, 4, none⟩ (vI ys.length)).drew.setCell ⟨g, (far + ys.length) % rm.length, none⟩ (vI 0) := by
  have hl := h.len
  simp only [List.length_append, List.length_singleton] at hl
  have hne : rm ≠ [] := by rintro rfl; simp at hl
  have hf := h.flt hne
  have hgb := h.ne hne
  have hbg : b ≠ g := fun e => hgb e.symm
  obtain ⟨-, c2, c3, c4, hz⟩ := h.cells
  rw [roomV_some hne] at c2
  simp only [List.length_append, List.length_singleton] at c4
  have hat := h.has ys.length (by simp)
  rw [List.getElem?_append_right (Nat.le_refl _)] at hat
  simp only [Nat.sub_self, List.getElem?_cons_zero] at hat
  obtain ⟨cx, zx⟩ := h.cellR hne _ _ hat
  have hkn : (far + ys.length) % rm.length < rm.length := Nat.mod_lt _ (by omega)
  have e0 : ((((ys.length + 1 : Nat) : Int)) == 0) = false := by simp; omega
  have e1 : wrap64 (((ys.length + 1 : Nat) : Int) - 1) = (ys.length : Int) := by rw [w64 (by omega) (by omega)]; omega
  have z4 := hz 4
  have HPL : Hd (∀ w : World, w.cell? ⟨b, 2, none⟩ = some (.slice (some ⟨g, 0, none⟩) rm.length rm.length) → w.cell? ⟨b, 3, none⟩ = some (vI far) → Calls Try.prog 31 #[.pointer (some ⟨b, 2, none⟩), vI ys.length] w fun e w' => e = .returned (vI ((far + ys.length) % rm.length : Nat)) ∧ w' = w.drew) := fun w c2 c3 =>
    place_any b _ rm.length rm.length far ys.length w c2 c3 (by omega) (by omega) (by omega)
  clear h hl hne hf hB hat hz
  obtain ⟨k, hk⟩ : ∃ k, k = (far + ys.length) % rm.length := ⟨_, rfl⟩
  rw [← hk] at HPL hkn cx zx ⊢
  clear hk
  obtain ⟨n, hn⟩ : ∃ n, n = rm.length := ⟨_, rfl⟩
  rw [← hn] at HPL hkn c2
  clear hn
  obtain ⟨m, hm⟩ : ∃ m, m = ys.length + 1 := ⟨_, rfl⟩
  rw [← hm] at c4 e0 e1
  clear hm
  obtain ⟨y, hy⟩ : ∃ y, y = ys.length := ⟨_, rfl⟩
  rw [← hy] at e1 HPL ⊢
  clear hy
  have HK : Hd (k < n) := hkn
  clear hkn
  have c2' : Hd ((w.setCell ⟨b, 4, none⟩ (vI y)).cell? ⟨b, 2, none⟩ = some (.slice (some ⟨g, 0, none⟩) n n)) := by
    show _ = _; rw [World.cell?_setCell_other _ _ _ _ (by simp)]; exact c2
  have c3' : Hd ((w.setCell ⟨b, 4, none⟩ (vI y)).cell? ⟨b, 3, none⟩ = some (vI far)) := by
    show _ = _; rw [World.cell?_setCell_other _ _ _ _ (by simp)]; exact c3
  have cx' : Hd ((w.setCell ⟨b, 4, none⟩ (vI y)).cell? ⟨g, k, none⟩ = some (vI x)) := by
    show _ = _; rw [World.cell?_setCell_other _ _ _ _ (by intro e; injection e with e1 e2 e3; first | exact hgb e1 | exact hbg e1)]; exact cx
  have zx' : Hd ((w.setCell ⟨b, 4, none⟩ (vI y)).frozen? ⟨g, k, none⟩ = false) := by show _ = _; simpa using zx
  clear cx zx
  have HT : Hd (Calls Try.prog 32 #[.pointer (some ⟨b, 2, none⟩), vI k] (w.setCell ⟨b, 4, none⟩ (vI y)).drew fun e w' => e = .returned (vI x) ∧ w' = (w.setCell ⟨b, 4, none⟩ (vI y)).drew.setCell ⟨g, k, none⟩ (vI 0)) := take_any b g n n k x _ c2'.out HK.out cx'.out zx'.out
  go_enter Try.func22, Try.ntmps22
  go_wp2_with (first
    | (go_at_call 31; refine (HPL.out _ c2'.out c3'.out).mono ?_; rintro _ _ ⟨rfl, rfl⟩)
    | (go_at_call 32; refine HT.out.mono ?_; rintro _ _ ⟨rfl, rfl⟩))
  go_ret2
  exact ⟨rfl, rfl⟩

set_option maxRecDepth 100000 in
set_option maxHeartbeats 1000000 in
theorem rsteal_some (b : Nat) (l : Int) (g : Nat) (rm : List Int) (far : Nat) (ys : List Int) (x : Int) (w : World) (h : Dq w b l g rm far (x :: ys)) (hB : rm.length ≤ 100000000000000) :
    Calls Try.prog 21 #[.pointer (some ⟨b, 2, none⟩)] w fun e w' => e = .returned (.tuple #[vI x, .bool true]) ∧ w' = ((w.setCell ⟨g, far, none⟩ (vI 0)).drew.setCell ⟨b, 3, none⟩ (vI ((far + 1) % rm.length : Nat))).setCell ⟨b, 4, none⟩ (vI ys.length) := by
  have hl := h.len
  simp only [List.length_cons] at hl
  have hne : rm ≠ [] := by rintro rfl; simp at hl
  have hf := h.flt hne
  have hgb := h.ne hne
  have hbg : b ≠ g := fun e => hgb e.symm
  obtain ⟨-, c2, c3, c4, hz⟩ := h.cells
  rw [roomV_some hne] at c2
  simp only [List.length_cons] at c4
  have hat := h.has 0 (by simp)
  rw [Nat.add_zero, Nat.mod_eq_of_lt hf] at hat
  simp only [List.getElem?_cons_zero] at hat
  obtain ⟨cx, zx⟩ := h.cellR hne _ _ hat
  have e0 : ((((ys.length + 1 : Nat) : Int)) == 0) = false := by simp; omega
  have e1 : wrap64 (((ys.length + 1 : Nat) : Int) - 1) = (ys.length : Int) := by rw [w64 (by omega) (by omega)]; omega
  have z4 := hz 4
  have z3 := hz 3
  have HPL : Hd (∀ w : World, w.cell? ⟨b, 2, none⟩ = some (.slice (some ⟨g, 0, none⟩) rm.length rm.length) → w.cell? ⟨b, 3, none⟩ = some (vI far) → Calls Try.prog 31 #[.pointer (some ⟨b, 2, none⟩), vI 1] w fun e w' => e = .returned (vI ((far + 1) % rm.length : Nat)) ∧ w' = w.drew) := fun w c2 c3 =>
    place_any b _ rm.length rm.length far 1 w c2 c3 (by omega) (by omega) (by omega)
  have hgb' : ∀ i j, ¬ (⟨b, i, none⟩ : Addr) = ⟨g, j, none⟩ := fun i j e => by injection e with e1 e2 e3; exact hgb e1.symm
  have HK : Hd (far < rm.length) := hf
  clear h hl hne hB hat hf hz
  obtain ⟨k, hk⟩ : ∃ k, k = (far + 1) % rm.length := ⟨_, rfl⟩
  rw [← hk] at HPL ⊢
  clear hk
  obtain ⟨n, hn⟩ : ∃ n, n = rm.length := ⟨_, rfl⟩
  rw [← hn] at HPL HK c2
  clear hn
  obtain ⟨m, hm⟩ : ∃ m, m = ys.length + 1 := ⟨_, rfl⟩
  rw [← hm] at c4 e0 e1
  clear hm
  obtain ⟨y, hy⟩ : ∃ y, y = ys.length := ⟨_, rfl⟩
  rw [← hy] at e1 ⊢
  clear hy
  have c2' : Hd ((w.setCell ⟨g, far, none⟩ (vI 0)).cell? ⟨b, 2, none⟩ = some (.slice (some ⟨g, 0, none⟩) n n)) := by
    show _ = _; rw [World.cell?_setCell_other _ _ _ _ (by first | exact hgb' _ _ | exact fun e => hgb' _ _ e.symm)]; exact c2
  have c3' : Hd ((w.setCell ⟨g, far, none⟩ (vI 0)).cell? ⟨b, 3, none⟩ = some (vI far)) := by
    show _ = _; rw [World.cell?_setCell_other _ _ _ _ (by first | exact hgb' _ _ | exact fun e => hgb' _ _ e.symm)]; exact c3
  have HT : Hd (Calls Try.prog 32 #[.pointer (some ⟨b, 2, none⟩), vI far] w fun e w' => e = .returned (vI x) ∧ w' = w.setCell ⟨g, far, none⟩ (vI 0)) := take_any b g n n far x _ c2 HK.out cx zx
  clear hgb' cx zx c2
  go_enter Try.func21, Try.ntmps21
  go_wp2_with (first
    | (go_at_call 31; refine (HPL.out _ c2'.out c3'.out).mono ?_; rintro _ _ ⟨rfl, rfl⟩)
    | (go_at_call 32; refine HT.out.mono ?_; rintro _ _ ⟨rfl, rfl⟩))
  go_ret2
  exact ⟨rfl, rfl⟩
end Go.Proofs.Ytkkfiipnpdlkeaa
