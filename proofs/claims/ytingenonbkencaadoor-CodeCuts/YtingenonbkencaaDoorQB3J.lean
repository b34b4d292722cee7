import Derived.Test.YtingenonbkencaaDoorQA3J
set_option linter.unusedVariables false
set_option linter.unusedSimpArgs false
namespace Go.Proofs.YtingenonbkencaaDoor
open Go.RowKit (wrap32 wrap64)
set_option maxRecDepth 100000
set_option maxHeartbeats 1000000
def askX {b : Nat} (M : Mode b) (o size : Nat) (c : WS → Bool) (er : Int) (x : WS × M.σ) : X (WS × M.σ) :=
  match nextX M o size x with
  | .ok y => if c y.1 then .ok y else .error (er, x.1.at')
  | .error z => .error z
theorem nextX_num {b : Nat} {M : Mode b} {o size : Nat} {x y : WS × M.σ} (h : nextX M o size x = .ok y) : ∃ v st, y = ({ x.1.set o v with at' := adv x.1.at' size }, st) := by
  unfold nextX at h
  split at h
  · rename_i v st _
    exact ⟨v, st, (Except.ok.inj h).symm⟩
  · cases h
theorem On.drew {b : Nat} {M : Mode b} {w : World} {x : WS × M.σ} (h : On M w x) : On M w.drew x :=
  ⟨h.1, h.2.1, M.stable _ _ _ _ h.2.2 (Fr.refl _ _).drew⟩
theorem get_cell {w : World} {b o : Nat} {s : WS} (h : Lies w b s) (ho : o ∈ places) : w.cell? ⟨b, o, none⟩ = some (vI (s.get o)) := by rw [h.cell, cells_get s o ho]
theorem variable_at {b : Nat} (M : Mode b) (rm : M.σ → Nat) (hN : NextAt M rm) (x : WS × M.σ) (w : World) (h : On M w x) (hp : 1 ≤ rm x.2) (o : Nat) (hop : o ∈ places) :
    Calls Tryd.prog 80 #[.pointer (some ⟨b, 0, none⟩), .pointer (some ⟨b, o, none⟩)] w (Ends M w (askX M o 1 (fun s => decide (0 ≤ s.get o ∧ s.get o ≤ IntKind.i64.wrap (s.fV - 1))) 13 x)) := by
  cases hx : nextX M o 1 x with
  | error z =>
    simp only [askX, hx]
    go_enter Tryd.func80, Tryd.ntmps80
    go_wp2_with fail
    refine (hN o hop x 1 _ hp h (by omega) (by omega)).mono ?_
    rintro e w1 ⟨hf, hres⟩
    simp only [hx] at hres
    subst hres
    go_wp2_with fail
    exact ⟨rfl, hf, rfl⟩
  | ok y =>
    by_cases hm : decide (0 ≤ y.1.get o ∧ y.1.get o ≤ IntKind.i64.wrap (y.1.fV - 1)) = true
    · have hm' : decide (0 ≤ y.1.get o ∧ y.1.get o ≤ IntKind.i64.wrap (y.1.fV - 1)) = true := by simpa using hm
      simp only [askX, hx, hm', if_true, Bool.false_eq_true, if_false]
      go_enter Tryd.func80, Tryd.ntmps80
      go_wp2_with fail
      refine (hN o hop x 1 _ hp h (by omega) (by omega)).mono ?_
      rintro e w1 ⟨hf, hres⟩
      simp only [hx] at hres
      obtain ⟨rfl, hon⟩ := hres
      have hc := get_cell hon.1 hop
      have hcV : w1.cell? ⟨b, 151, none⟩ = some (vI y.1.fV) := hon.1.facts.2.2.2.2.2.2.2.1
      clear hx hm
      go_wp2_with fail
      refine wp_region_still_tail 11 mixed (by kernel_rfl) ?_
      simp only [List.take_succ_cons, List.take_zero, List.drop_succ_cons, List.drop_zero]
      repeat still_step
      still_call (within_any _ _ _ _)
      repeat still_step
      refine wpStill_nil ?_
      go_wp2_with fail
      refine (must_true 13 x.1.at' _).mono ?_
      rintro e w' ⟨rfl, rfl⟩
      go_wp2_with fail
      go_end0
      exact ⟨hf.drew, rfl, hon.drew⟩
    · have hm' : decide (0 ≤ y.1.get o ∧ y.1.get o ≤ IntKind.i64.wrap (y.1.fV - 1)) = false := by simpa using hm
      simp only [askX, hx, hm', if_true, Bool.false_eq_true, if_false]
      go_enter Tryd.func80, Tryd.ntmps80
      go_wp2_with fail
      refine (hN o hop x 1 _ hp h (by omega) (by omega)).mono ?_
      rintro e w1 ⟨hf, hres⟩
      simp only [hx] at hres
      obtain ⟨rfl, hon⟩ := hres
      have hc := get_cell hon.1 hop
      have hcV : w1.cell? ⟨b, 151, none⟩ = some (vI y.1.fV) := hon.1.facts.2.2.2.2.2.2.2.1
      clear hx hm
      go_wp2_with fail
      refine wp_region_still_tail 11 mixed (by kernel_rfl) ?_
      simp only [List.take_succ_cons, List.take_zero, List.drop_succ_cons, List.drop_zero]
      repeat still_step
      still_call (within_any _ _ _ _)
      repeat still_step
      refine wpStill_nil ?_
      go_wp2_with fail
      refine (must_false 13 x.1.at' _).mono ?_
      rintro e w' ⟨rfl, rfl⟩
      go_wp2_with fail
      exact ⟨rfl, hf.drew, rfl⟩
theorem variable_own {b : Nat} (M : Mode b) (hN : NextOwn M) (x : WS × M.σ) (w : World) (h : On M w x) (o : Nat) (hop : o ∈ places) :
    Calls Tryd.prog 80 #[.pointer (some ⟨b, 0, none⟩), .pointer (some ⟨b, o, none⟩)] w (Ends M w (askX M o 1 (fun s => decide (0 ≤ s.get o ∧ s.get o ≤ IntKind.i64.wrap (s.fV - 1))) 13 x)) :=
  variable_at M (fun _ => 1000000) (hN.at _) x w h (show 1 ≤ 1000000 by omega) o hop
theorem fields_at {b : Nat} (M : Mode b) (rm : M.σ → Nat) (hN : NextAt M rm) (x : WS × M.σ) (w : World) (h : On M w x) (hp : 1 ≤ rm x.2) (op size : Nat) (hop : x.1.op = op) (hlt : op < 18) (hsz : szs.getD op 0 = size) (hs1 : 1 ≤ size) (hs8 : size ≤ 8) :
    Calls Tryd.prog 82 #[.pointer (some ⟨b, 0, none⟩), .pointer (some ⟨b, 158, none⟩)] w (Ends M w (askX M 158 size (fun s => decide (1 ≤ s.n ∧ s.n ≤ 8)) 17 x)) := by
  cases hx : nextX M 158 size x with
  | error z =>
    simp only [askX, hx]
    go_enter Tryd.func82, Tryd.ntmps82
    go_wp2_with fail
    refine (numberN_at M rm hN x _ h hp op size hop hlt hsz hs1 hs8).mono ?_
    rintro e w1 ⟨hf, hres⟩
    simp only [hx] at hres
    subst hres
    go_wp2_with fail
    exact ⟨rfl, hf, rfl⟩
  | ok y =>
    by_cases hm : decide (1 ≤ y.1.n ∧ y.1.n ≤ 8) = true
    · have hm' : decide (1 ≤ y.1.n ∧ y.1.n ≤ 8) = true := by simpa using hm
      simp only [askX, hx, hm', if_true, Bool.false_eq_true, if_false]
      go_enter Tryd.func82, Tryd.ntmps82
      go_wp2_with fail
      refine (numberN_at M rm hN x _ h hp op size hop hlt hsz hs1 hs8).mono ?_
      rintro e w1 ⟨hf, hres⟩
      simp only [hx] at hres
      obtain ⟨rfl, hon⟩ := hres
      have hc : w1.cell? ⟨b, 158, none⟩ = some (vI y.1.n) := hon.1.facts.2.2.2.2.2.2.2.2.2.2.2.2.2.2.1
      clear hx hm
      go_wp2_with fail
      refine (within_any _ _ _ _).mono ?_
      rintro e w' ⟨rfl, rfl⟩
      rw [hm']
      go_wp2_with fail
      refine (must_true 17 x.1.at' _).mono ?_
      rintro e w' ⟨rfl, rfl⟩
      go_wp2_with fail
      go_end0
      exact ⟨hf, rfl, hon⟩
    · have hm' : decide (1 ≤ y.1.n ∧ y.1.n ≤ 8) = false := by simpa using hm
      simp only [askX, hx, hm', if_true, Bool.false_eq_true, if_false]
      go_enter Tryd.func82, Tryd.ntmps82
      go_wp2_with fail
      refine (numberN_at M rm hN x _ h hp op size hop hlt hsz hs1 hs8).mono ?_
      rintro e w1 ⟨hf, hres⟩
      simp only [hx] at hres
      obtain ⟨rfl, hon⟩ := hres
      have hc : w1.cell? ⟨b, 158, none⟩ = some (vI y.1.n) := hon.1.facts.2.2.2.2.2.2.2.2.2.2.2.2.2.2.1
      clear hx hm
      go_wp2_with fail
      refine (within_any _ _ _ _).mono ?_
      rintro e w' ⟨rfl, rfl⟩
      rw [hm']
      go_wp2_with fail
      refine (must_false 17 x.1.at' _).mono ?_
      rintro e w' ⟨rfl, rfl⟩
      go_wp2_with fail
      exact ⟨rfl, hf, rfl⟩
theorem fields_own {b : Nat} (M : Mode b) (hN : NextOwn M) (x : WS × M.σ) (w : World) (h : On M w x) (op size : Nat) (hop : x.1.op = op) (hlt : op < 18) (hsz : szs.getD op 0 = size) (hs1 : 1 ≤ size) (hs8 : size ≤ 8) :
    Calls Tryd.prog 82 #[.pointer (some ⟨b, 0, none⟩), .pointer (some ⟨b, 158, none⟩)] w (Ends M w (askX M 158 size (fun s => decide (1 ≤ s.n ∧ s.n ≤ 8)) 17 x)) :=
  fields_at M (fun _ => 1000000) (hN.at _) x w h (show 1 ≤ 1000000 by omega) op size hop hlt hsz hs1 hs8
theorem field_at {b : Nat} (M : Mode b) (rm : M.σ → Nat) (hN : NextAt M rm) (x : WS × M.σ) (w : World) (h : On M w x) (hp : 1 ≤ rm x.2) (op size : Nat) (hop : x.1.op = op) (hlt : op < 18) (hsz : szs.getD op 0 = size) (hs1 : 1 ≤ size) (hs8 : size ≤ 8) :
    Calls Tryd.prog 83 #[.pointer (some ⟨b, 0, none⟩), .pointer (some ⟨b, 158, none⟩)] w (Ends M w (askX M 158 size (fun s => decide (0 ≤ s.n ∧ s.n ≤ 7)) 17 x)) := by
  cases hx : nextX M 158 size x with
  | error z =>
    simp only [askX, hx]
    go_enter Tryd.func83, Tryd.ntmps83
    go_wp2_with fail
    refine (numberN_at M rm hN x _ h hp op size hop hlt hsz hs1 hs8).mono ?_
    rintro e w1 ⟨hf, hres⟩
    simp only [hx] at hres
    subst hres
    go_wp2_with fail
    exact ⟨rfl, hf, rfl⟩
  | ok y =>
    by_cases hm : decide (0 ≤ y.1.n ∧ y.1.n ≤ 7) = true
    · have hm' : decide (0 ≤ y.1.n ∧ y.1.n ≤ 7) = true := by simpa using hm
      simp only [askX, hx, hm', if_true, Bool.false_eq_true, if_false]
      go_enter Tryd.func83, Tryd.ntmps83
      go_wp2_with fail
      refine (numberN_at M rm hN x _ h hp op size hop hlt hsz hs1 hs8).mono ?_
      rintro e w1 ⟨hf, hres⟩
      simp only [hx] at hres
      obtain ⟨rfl, hon⟩ := hres
      have hc : w1.cell? ⟨b, 158, none⟩ = some (vI y.1.n) := hon.1.facts.2.2.2.2.2.2.2.2.2.2.2.2.2.2.1
      clear hx hm
      go_wp2_with fail
      refine (within_any _ _ _ _).mono ?_
      rintro e w' ⟨rfl, rfl⟩
      rw [hm']
      go_wp2_with fail
      refine (must_true 17 x.1.at' _).mono ?_
      rintro e w' ⟨rfl, rfl⟩
      go_wp2_with fail
      go_end0
      exact ⟨hf, rfl, hon⟩
    · have hm' : decide (0 ≤ y.1.n ∧ y.1.n ≤ 7) = false := by simpa using hm
      simp only [askX, hx, hm', if_true, Bool.false_eq_true, if_false]
      go_enter Tryd.func83, Tryd.ntmps83
      go_wp2_with fail
      refine (numberN_at M rm hN x _ h hp op size hop hlt hsz hs1 hs8).mono ?_
      rintro e w1 ⟨hf, hres⟩
      simp only [hx] at hres
      obtain ⟨rfl, hon⟩ := hres
      have hc : w1.cell? ⟨b, 158, none⟩ = some (vI y.1.n) := hon.1.facts.2.2.2.2.2.2.2.2.2.2.2.2.2.2.1
      clear hx hm
      go_wp2_with fail
      refine (within_any _ _ _ _).mono ?_
      rintro e w' ⟨rfl, rfl⟩
      rw [hm']
      go_wp2_with fail
      refine (must_false 17 x.1.at' _).mono ?_
      rintro e w' ⟨rfl, rfl⟩
      go_wp2_with fail
      exact ⟨rfl, hf, rfl⟩
theorem global_at {b : Nat} (M : Mode b) (rm : M.σ → Nat) (hN : NextAt M rm) (x : WS × M.σ) (w : World) (h : On M w x) (hp : 1 ≤ rm x.2) (op size : Nat) (hop : x.1.op = op) (hlt : op < 18) (hsz : szs.getD op 0 = size) (hs1 : 1 ≤ size) (hs8 : size ≤ 8) :
    Calls Tryd.prog 84 #[.pointer (some ⟨b, 0, none⟩), .pointer (some ⟨b, 158, none⟩)] w (Ends M w (askX M 158 size (fun s => decide (0 ≤ s.n ∧ s.n ≤ IntKind.i64.wrap (s.globals - 1))) 18 x)) := by
  cases hx : nextX M 158 size x with
  | error z =>
    simp only [askX, hx]
    go_enter Tryd.func84, Tryd.ntmps84
    go_wp2_with fail
    refine (numberN_at M rm hN x _ h hp op size hop hlt hsz hs1 hs8).mono ?_
    rintro e w1 ⟨hf, hres⟩
    simp only [hx] at hres
    subst hres
    go_wp2_with fail
    exact ⟨rfl, hf, rfl⟩
  | ok y =>
    by_cases hm : decide (0 ≤ y.1.n ∧ y.1.n ≤ IntKind.i64.wrap (y.1.globals - 1)) = true
    · have hm' : decide (0 ≤ y.1.n ∧ y.1.n ≤ IntKind.i64.wrap (y.1.globals - 1)) = true := by simpa using hm
      simp only [askX, hx, hm', if_true, Bool.false_eq_true, if_false]
      go_enter Tryd.func84, Tryd.ntmps84
      go_wp2_with fail
      refine (numberN_at M rm hN x _ h hp op size hop hlt hsz hs1 hs8).mono ?_
      rintro e w1 ⟨hf, hres⟩
      simp only [hx] at hres
      obtain ⟨rfl, hon⟩ := hres
      have hc : w1.cell? ⟨b, 158, none⟩ = some (vI y.1.n) := hon.1.facts.2.2.2.2.2.2.2.2.2.2.2.2.2.2.1
      have hcV : w1.cell? ⟨b, 146, none⟩ = some (vI y.1.globals) := hon.1.facts.2.2.1
      clear hx hm
      go_wp2_with fail
      refine wp_region_still_tail 10 mixed (by kernel_rfl) ?_
      simp only [List.take_succ_cons, List.take_zero, List.drop_succ_cons, List.drop_zero]
      repeat still_step
      still_call (within_any _ _ _ _)
      repeat still_step
      refine wpStill_nil ?_
      go_wp2_with fail
      refine (must_true 18 x.1.at' _).mono ?_
      rintro e w' ⟨rfl, rfl⟩
      go_wp2_with fail
      go_end0
      exact ⟨hf.drew, rfl, hon.drew⟩
    · have hm' : decide (0 ≤ y.1.n ∧ y.1.n ≤ IntKind.i64.wrap (y.1.globals - 1)) = false := by simpa using hm
      simp only [askX, hx, hm', if_true, Bool.false_eq_true, if_false]
      go_enter Tryd.func84, Tryd.ntmps84
      go_wp2_with fail
      refine (numberN_at M rm hN x _ h hp op size hop hlt hsz hs1 hs8).mono ?_
      rintro e w1 ⟨hf, hres⟩
      simp only [hx] at hres
      obtain ⟨rfl, hon⟩ := hres
      have hc : w1.cell? ⟨b, 158, none⟩ = some (vI y.1.n) := hon.1.facts.2.2.2.2.2.2.2.2.2.2.2.2.2.2.1
      have hcV : w1.cell? ⟨b, 146, none⟩ = some (vI y.1.globals) := hon.1.facts.2.2.1
      clear hx hm
      go_wp2_with fail
      refine wp_region_still_tail 10 mixed (by kernel_rfl) ?_
      simp only [List.take_succ_cons, List.take_zero, List.drop_succ_cons, List.drop_zero]
      repeat still_step
      still_call (within_any _ _ _ _)
      repeat still_step
      refine wpStill_nil ?_
      go_wp2_with fail
      refine (must_false 18 x.1.at' _).mono ?_
      rintro e w' ⟨rfl, rfl⟩
      go_wp2_with fail
      exact ⟨rfl, hf.drew, rfl⟩
theorem target_at {b : Nat} (M : Mode b) (rm : M.σ → Nat) (hN : NextAt M rm) (x : WS × M.σ) (w : World) (h : On M w x) (hp : 1 ≤ rm x.2) (op size : Nat) (hop : x.1.op = op) (hlt : op < 18) (hsz : szs.getD op 0 = size) (hs1 : 1 ≤ size) (hs8 : size ≤ 8) :
    Calls Tryd.prog 88 #[.pointer (some ⟨b, 0, none⟩), .pointer (some ⟨b, 158, none⟩)] w (Ends M w (askX M 158 size (fun s => decide (0 ≤ s.n ∧ s.n ≤ IntKind.i64.wrap (s.len - 1))) 16 x)) := by
  cases hx : nextX M 158 size x with
  | error z =>
    simp only [askX, hx]
    go_enter Tryd.func88, Tryd.ntmps88
    go_wp2_with fail
    refine (numberN_at M rm hN x _ h hp op size hop hlt hsz hs1 hs8).mono ?_
    rintro e w1 ⟨hf, hres⟩
    simp only [hx] at hres
    subst hres
    go_wp2_with fail
    exact ⟨rfl, hf, rfl⟩
  | ok y =>
    by_cases hm : decide (0 ≤ y.1.n ∧ y.1.n ≤ IntKind.i64.wrap (y.1.len - 1)) = true
    · have hm' : decide (0 ≤ y.1.n ∧ y.1.n ≤ IntKind.i64.wrap (y.1.len - 1)) = true := by simpa using hm
      simp only [askX, hx, hm', if_true, Bool.false_eq_true, if_false]
      go_enter Tryd.func88, Tryd.ntmps88
      go_wp2_with fail
      refine (numberN_at M rm hN x _ h hp op size hop hlt hsz hs1 hs8).mono ?_
      rintro e w1 ⟨hf, hres⟩
      simp only [hx] at hres
      obtain ⟨rfl, hon⟩ := hres
      have hc : w1.cell? ⟨b, 158, none⟩ = some (vI y.1.n) := hon.1.facts.2.2.2.2.2.2.2.2.2.2.2.2.2.2.1
      have hcV : w1.cell? ⟨b, 153, none⟩ = some (vI y.1.len) := hon.1.facts.2.2.2.2.2.2.2.2.2.1
      clear hx hm
      go_wp2_with fail
      refine wp_region_still_tail 10 mixed (by kernel_rfl) ?_
      simp only [List.take_succ_cons, List.take_zero, List.drop_succ_cons, List.drop_zero]
      repeat still_step
      still_call (within_any _ _ _ _)
      repeat still_step
      refine wpStill_nil ?_
      go_wp2_with fail
      refine (must_true 16 x.1.at' _).mono ?_
      rintro e w' ⟨rfl, rfl⟩
      go_wp2_with fail
      go_end0
      exact ⟨hf.drew, rfl, hon.drew⟩
    · have hm' : decide (0 ≤ y.1.n ∧ y.1.n ≤ IntKind.i64.wrap (y.1.len - 1)) = false := by simpa using hm
      simp only [askX, hx, hm', if_true, Bool.false_eq_true, if_false]
      go_enter Tryd.func88, Tryd.ntmps88
      go_wp2_with fail
      refine (numberN_at M rm hN x _ h hp op size hop hlt hsz hs1 hs8).mono ?_
      rintro e w1 ⟨hf, hres⟩
      simp only [hx] at hres
      obtain ⟨rfl, hon⟩ := hres
      have hc : w1.cell? ⟨b, 158, none⟩ = some (vI y.1.n) := hon.1.facts.2.2.2.2.2.2.2.2.2.2.2.2.2.2.1
      have hcV : w1.cell? ⟨b, 153, none⟩ = some (vI y.1.len) := hon.1.facts.2.2.2.2.2.2.2.2.2.1
      clear hx hm
      go_wp2_with fail
      refine wp_region_still_tail 10 mixed (by kernel_rfl) ?_
      simp only [List.take_succ_cons, List.take_zero, List.drop_succ_cons, List.drop_zero]
      repeat still_step
      still_call (within_any _ _ _ _)
      repeat still_step
      refine wpStill_nil ?_
      go_wp2_with fail
      refine (must_false 16 x.1.at' _).mono ?_
      rintro e w' ⟨rfl, rfl⟩
      go_wp2_with fail
      exact ⟨rfl, hf.drew, rfl⟩
theorem callee_at {b : Nat} (M : Mode b) (rm : M.σ → Nat) (hN : NextAt M rm) (x : WS × M.σ) (w : World) (h : On M w x) (hp : 1 ≤ rm x.2) (op size : Nat) (hop : x.1.op = op) (hlt : op < 18) (hsz : szs.getD op 0 = size) (hs1 : 1 ≤ size) (hs8 : size ≤ 8) (fa : Option Addr) (nf fc : Nat) (hfu : x.1.funcs = .slice fa nf fc) :
    Calls Tryd.prog 85 #[.pointer (some ⟨b, 0, none⟩), .pointer (some ⟨b, 158, none⟩)] w (Ends M w (askX M 158 size (fun s => decide (0 ≤ s.n ∧ s.n ≤ IntKind.i64.wrap ((nf : Int) - 1))) 14 x)) := by
  cases hx : nextX M 158 size x with
  | error z =>
    simp only [askX, hx]
    go_enter Tryd.func85, Tryd.ntmps85
    go_wp2_with fail
    refine (numberN_at M rm hN x _ h hp op size hop hlt hsz hs1 hs8).mono ?_
    rintro e w1 ⟨hf, hres⟩
    simp only [hx] at hres
    subst hres
    go_wp2_with fail
    exact ⟨rfl, hf, rfl⟩
  | ok y =>
    have hfy : y.1.funcs = .slice fa nf fc := by obtain ⟨v, st, rfl⟩ := nextX_num hx; exact hfu
    by_cases hm : decide (0 ≤ y.1.n ∧ y.1.n ≤ IntKind.i64.wrap ((nf : Int) - 1)) = true
    · have hm' : decide (0 ≤ y.1.n ∧ y.1.n ≤ IntKind.i64.wrap ((nf : Int) - 1)) = true := by simpa using hm
      simp only [askX, hx, hm', if_true, Bool.false_eq_true, if_false]
      go_enter Tryd.func85, Tryd.ntmps85
      go_wp2_with fail
      refine (numberN_at M rm hN x _ h hp op size hop hlt hsz hs1 hs8).mono ?_
      rintro e w1 ⟨hf, hres⟩
      simp only [hx] at hres
      obtain ⟨rfl, hon⟩ := hres
      have hc : w1.cell? ⟨b, 158, none⟩ = some (vI y.1.n) := hon.1.facts.2.2.2.2.2.2.2.2.2.2.2.2.2.2.1
      have hcV : w1.cell? ⟨b, 147, none⟩ = some (.slice fa nf fc) := by
        rw [hon.1.facts.2.2.2.1, hfy]
      clear hx hm
      go_wp2_with fail
      refine wp_region_still_tail 11 mixed (by kernel_rfl) ?_
      simp only [List.take_succ_cons, List.take_zero, List.drop_succ_cons, List.drop_zero]
      repeat still_step
      still_call (within_any _ _ _ _)
      repeat still_step
      refine wpStill_nil ?_
      go_wp2_with fail
      refine (must_true 14 x.1.at' _).mono ?_
      rintro e w' ⟨rfl, rfl⟩
      go_wp2_with fail
      go_end0
      exact ⟨hf.drew, rfl, hon.drew⟩
    · have hm' : decide (0 ≤ y.1.n ∧ y.1.n ≤ IntKind.i64.wrap ((nf : Int) - 1)) = false := by simpa using hm
      simp only [askX, hx, hm', if_true, Bool.false_eq_true, if_false]
      go_enter Tryd.func85, Tryd.ntmps85
      go_wp2_with fail
      refine (numberN_at M rm hN x _ h hp op size hop hlt hsz hs1 hs8).mono ?_
      rintro e w1 ⟨hf, hres⟩
      simp only [hx] at hres
      obtain ⟨rfl, hon⟩ := hres
      have hc : w1.cell? ⟨b, 158, none⟩ = some (vI y.1.n) := hon.1.facts.2.2.2.2.2.2.2.2.2.2.2.2.2.2.1
      have hcV : w1.cell? ⟨b, 147, none⟩ = some (.slice fa nf fc) := by
        rw [hon.1.facts.2.2.2.1, hfy]
      clear hx hm
      go_wp2_with fail
      refine wp_region_still_tail 11 mixed (by kernel_rfl) ?_
      simp only [List.take_succ_cons, List.take_zero, List.drop_succ_cons, List.drop_zero]
      repeat still_step
      still_call (within_any _ _ _ _)
      repeat still_step
      refine wpStill_nil ?_
      go_wp2_with fail
      refine (must_false 14 x.1.at' _).mono ?_
      rintro e w' ⟨rfl, rfl⟩
      go_wp2_with fail
      exact ⟨rfl, hf.drew, rfl⟩
theorem callee_own {b : Nat} (M : Mode b) (hN : NextOwn M) (x : WS × M.σ) (w : World) (h : On M w x) (op size : Nat) (hop : x.1.op = op) (hlt : op < 18) (hsz : szs.getD op 0 = size) (hs1 : 1 ≤ size) (hs8 : size ≤ 8) (fa : Option Addr) (nf fc : Nat) (hfu : x.1.funcs = .slice fa nf fc) :
    Calls Tryd.prog 85 #[.pointer (some ⟨b, 0, none⟩), .pointer (some ⟨b, 158, none⟩)] w (Ends M w (askX M 158 size (fun s => decide (0 ≤ s.n ∧ s.n ≤ IntKind.i64.wrap ((nf : Int) - 1))) 14 x)) :=
  callee_at M (fun _ => 1000000) (hN.at _) x w h (show 1 ≤ 1000000 by omega) op size hop hlt hsz hs1 hs8 fa nf fc hfu
theorem askGlobals_at {b : Nat} (M : Mode b) (rm : M.σ → Nat) (hN : NextAt M rm) (x : WS × M.σ) (w : World) (h : On M w x) (hp : 1 ≤ rm x.2) :
    Calls Tryd.prog 61 #[.pointer (some ⟨b, 0, none⟩)] w (Ends M w (askX M 146 1 (fun s => decide (0 ≤ s.globals ∧ s.globals ≤ 16)) 18 x)) := by
  cases hx : nextX M 146 1 x with
  | error z =>
    simp only [askX, hx]
    go_enter Tryd.func61, Tryd.ntmps61
    go_wp2_with fail
    refine (hN 146 (by simp [places]) x 1 _ hp h (by omega) (by omega)).mono ?_
    rintro e w1 ⟨hf, hres⟩
    simp only [hx] at hres
    subst hres
    go_wp2_with fail
    exact ⟨rfl, hf, rfl⟩
  | ok y =>
    by_cases hm : decide (0 ≤ y.1.globals ∧ y.1.globals ≤ 16) = true
    · have hm' : decide (0 ≤ y.1.globals ∧ y.1.globals ≤ 16) = true := by simpa using hm
      simp only [askX, hx, hm', if_true, Bool.false_eq_true, if_false]
      go_enter Tryd.func61, Tryd.ntmps61
      go_wp2_with fail
      refine (hN 146 (by simp [places]) x 1 _ hp h (by omega) (by omega)).mono ?_
      rintro e w1 ⟨hf, hres⟩
      simp only [hx] at hres
      obtain ⟨rfl, hon⟩ := hres
      have hc : w1.cell? ⟨b, 146, none⟩ = some (vI y.1.globals) := hon.1.facts.2.2.1
      clear hx hm
      go_wp2_with fail
      refine (within_any _ _ _ _).mono ?_
      rintro e w' ⟨rfl, rfl⟩
      rw [hm']
      go_wp2_with fail
      refine (must_true 18 x.1.at' _).mono ?_
      rintro e w' ⟨rfl, rfl⟩
      go_wp2_with fail
      go_end0
      exact ⟨hf, rfl, hon⟩
    · have hm' : decide (0 ≤ y.1.globals ∧ y.1.globals ≤ 16) = false := by simpa using hm
      simp only [askX, hx, hm', if_true, Bool.false_eq_true, if_false]
      go_enter Tryd.func61, Tryd.ntmps61
      go_wp2_with fail
      refine (hN 146 (by simp [places]) x 1 _ hp h (by omega) (by omega)).mono ?_
      rintro e w1 ⟨hf, hres⟩
      simp only [hx] at hres
      obtain ⟨rfl, hon⟩ := hres
      have hc : w1.cell? ⟨b, 146, none⟩ = some (vI y.1.globals) := hon.1.facts.2.2.1
      clear hx hm
      go_wp2_with fail
      refine (within_any _ _ _ _).mono ?_
      rintro e w' ⟨rfl, rfl⟩
      rw [hm']
      go_wp2_with fail
      refine (must_false 18 x.1.at' _).mono ?_
      rintro e w' ⟨rfl, rfl⟩
      go_wp2_with fail
      exact ⟨rfl, hf, rfl⟩
theorem askGlobals_any {b : Nat} (M : Mode b) (hN : NextOwn M) (x : WS × M.σ) (w : World) (h : On M w x) :
    Calls Tryd.prog 61 #[.pointer (some ⟨b, 0, none⟩)] w (Ends M w (askX M 146 1 (fun s => decide (0 ≤ s.globals ∧ s.globals ≤ 16)) 18 x)) :=
  askGlobals_at M (fun _ => 1000000) (hN.at _) x w h (show 1 ≤ 1000000 by omega)
theorem askFunctions_at {b : Nat} (M : Mode b) (rm : M.σ → Nat) (hN : NextAt M rm) (x : WS × M.σ) (w : World) (h : On M w x) (hp : 1 ≤ rm x.2) :
    Calls Tryd.prog 62 #[.pointer (some ⟨b, 0, none⟩)] w (Ends M w (askX M 161 2 (fun s => decide (1 ≤ s.count ∧ s.count ≤ 65535)) 20 x)) := by
  cases hx : nextX M 161 2 x with
  | error z =>
    simp only [askX, hx]
    go_enter Tryd.func62, Tryd.ntmps62
    go_wp2_with fail
    refine (hN 161 (by simp [places]) x 2 _ hp h (by omega) (by omega)).mono ?_
    rintro e w1 ⟨hf, hres⟩
    simp only [hx] at hres
    subst hres
    go_wp2_with fail
    exact ⟨rfl, hf, rfl⟩
  | ok y =>
    by_cases hm : decide (1 ≤ y.1.count ∧ y.1.count ≤ 65535) = true
    · have hm' : decide (1 ≤ y.1.count ∧ y.1.count ≤ 65535) = true := by simpa using hm
      simp only [askX, hx, hm', if_true, Bool.false_eq_true, if_false]
      go_enter Tryd.func62, Tryd.ntmps62
      go_wp2_with fail
      refine (hN 161 (by simp [places]) x 2 _ hp h (by omega) (by omega)).mono ?_
      rintro e w1 ⟨hf, hres⟩
      simp only [hx] at hres
      obtain ⟨rfl, hon⟩ := hres
      have hc : w1.cell? ⟨b, 161, none⟩ = some (vI y.1.count) := hon.1.facts.2.2.2.2.2.2.2.2.2.2.2.2.2.2.2.2.2
      clear hx hm
      go_wp2_with fail
      refine (within_any _ _ _ _).mono ?_
      rintro e w' ⟨rfl, rfl⟩
      rw [hm']
      go_wp2_with fail
      refine (must_true 20 x.1.at' _).mono ?_
      rintro e w' ⟨rfl, rfl⟩
      go_wp2_with fail
      go_end0
      exact ⟨hf, rfl, hon⟩
    · have hm' : decide (1 ≤ y.1.count ∧ y.1.count ≤ 65535) = false := by simpa using hm
      simp only [askX, hx, hm', if_true, Bool.false_eq_true, if_false]
      go_enter Tryd.func62, Tryd.ntmps62
      go_wp2_with fail
      refine (hN 161 (by simp [places]) x 2 _ hp h (by omega) (by omega)).mono ?_
      rintro e w1 ⟨hf, hres⟩
      simp only [hx] at hres
      obtain ⟨rfl, hon⟩ := hres
      have hc : w1.cell? ⟨b, 161, none⟩ = some (vI y.1.count) := hon.1.facts.2.2.2.2.2.2.2.2.2.2.2.2.2.2.2.2.2
      clear hx hm
      go_wp2_with fail
      refine (within_any _ _ _ _).mono ?_
      rintro e w' ⟨rfl, rfl⟩
      rw [hm']
      go_wp2_with fail
      refine (must_false 20 x.1.at' _).mono ?_
      rintro e w' ⟨rfl, rfl⟩
      go_wp2_with fail
      exact ⟨rfl, hf, rfl⟩
theorem askFunctions_any {b : Nat} (M : Mode b) (hN : NextOwn M) (x : WS × M.σ) (w : World) (h : On M w x) :
    Calls Tryd.prog 62 #[.pointer (some ⟨b, 0, none⟩)] w (Ends M w (askX M 161 2 (fun s => decide (1 ≤ s.count ∧ s.count ≤ 65535)) 20 x)) :=
  askFunctions_at M (fun _ => 1000000) (hN.at _) x w h (show 1 ≤ 1000000 by omega)
set_option maxRecDepth 100000
set_option maxHeartbeats 1000000
theorem anyNumber_at {b : Nat} (M : Mode b) (rm : M.σ → Nat) (hN : NextAt M rm) (x : WS × M.σ) (w : World) (h : On M w x) (hp : 1 ≤ rm x.2) (op size : Nat) (hop : x.1.op = op) (hlt : op < 18) (hsz : szs.getD op 0 = size) (hs1 : 1 ≤ size) (hs8 : size ≤ 8) :
    Calls Tryd.prog 81 #[.pointer (some ⟨b, 0, none⟩), .pointer (some ⟨b, 158, none⟩)] w (Ends M w (nextX M 158 size x)) := by
  go_enter Tryd.func81, Tryd.ntmps81
  go_wp2_with fail
  refine (numberN_at M rm hN x _ h hp op size hop hlt hsz hs1 hs8).mono ?_
  rintro e w1 ⟨hf, hres⟩
  cases hx : nextX M 158 size x with
  | error z =>
    simp only [hx] at hres
    subst hres
    go_wp2_with fail
    refine ⟨rfl, hf, ?_⟩
    simp only [hx]
  | ok y =>
    simp only [hx] at hres
    obtain ⟨rfl, hon⟩ := hres
    go_wp2_with fail
    go_end0
    refine ⟨hf, ?_⟩
    simp only [hx]
    exact ⟨trivial, hon⟩
def locX {b : Nat} (M : Mode b) (n p : Int) (x : WS × M.σ) : X (WS × M.σ) :=
  if wrap64 (x.1.locs + n) ≤ 1048576 then .ok ({ x.1 with locs := wrap64 (x.1.locs + n) }, x.2) else .error (21, p)
theorem cells_locs (s : WS) (v : Int) : s.cells.setIfInBounds 148 (vI v) = { s with locs := v }.cells := by kernel_rfl
theorem locate_any {b : Nat} (M : Mode b) (n p : Int) (x : WS × M.σ) (w : World) (h : On M w x) :
    Calls Tryd.prog 92 #[.pointer (some ⟨b, 0, none⟩), vI n, vI p] w (Ends M w (locX M n p x)) := by
  have hc : w.cell? ⟨b, 148, none⟩ = some (vI x.1.locs) := h.1.facts.2.2.2.2.1
  have hz := h.1.frozen 148
  have hl' : ∀ v, Lies (w.setCell ⟨b, 148, none⟩ (vI v)) b { x.1 with locs := v } := fun v => h.1.setCell 148 _ (cells_locs _ _)
  have hfr : ∀ v, Fr (· = b) w (w.setCell ⟨b, 148, none⟩ (vI v)) := fun v => Fr.setCell (Fr.refl (fun k => k = b) w) _ _ (Or.inl rfl)
  by_cases hm : wrap64 (x.1.locs + n) ≤ 1048576
  · have hm' : decide (wrap64 (x.1.locs + n) ≤ 1048576) = true := by simpa using hm
    go_enter Tryd.func92, Tryd.ntmps92
    go_wp2_with fail
    refine (must_true 21 p _).mono ?_
    rintro e w' ⟨rfl, rfl⟩
    go_wp2_with fail
    go_end0
    refine ⟨(hfr _).mono (fun k _ hk => Or.inl hk), ?_⟩
    simp only [locX, if_pos hm]
    exact ⟨trivial, h.fr (hfr _) (hl' _) rfl rfl⟩
  · have hm' : decide (wrap64 (x.1.locs + n) ≤ 1048576) = false := by simpa using hm
    go_enter Tryd.func92, Tryd.ntmps92
    go_wp2_with fail
    refine (must_false 21 p _).mono ?_
    rintro e w' ⟨rfl, rfl⟩
    go_wp2_with fail
    refine ⟨rfl, (hfr _).mono (fun k _ hk => Or.inl hk), ?_⟩
    simp only [locX, if_neg (Int.not_le.2 hm)]
end Go.Proofs.YtingenonbkencaaDoor
