import Derived.Test.YtkkfiipnpdlkeaaQA3
namespace Go.Proofs.Ytkkfiipnpdlkeaa
open Go.RowKit (wrap32 wrap64)
open Go.MuLone
set_option linter.unusedVariables false
set_option linter.unusedSimpArgs false

/-- A deque that nobody holds: its blocks b and g, its tasks, a bound on its room. -/
def DQ (w : World) (b g : Nat) (xs : List Int) (N : Nat) : Prop := ∃ rm far, Dq w b 0 g rm far xs ∧ rm.length ≤ N
theorem DQ.blt {w : World} {b g : Nat} {xs : List Int} {N : Nat} (h : DQ w b g xs N) : b < w.heap.size := by obtain ⟨_, _, h, -⟩ := h; exact h.blt
theorem DQ.glt {w : World} {b g : Nat} {xs : List Int} {N : Nat} (h : DQ w b g xs N) : g < w.heap.size := by obtain ⟨_, _, h, -⟩ := h; exact h.glt
theorem DQ.fr {S : Nat → Prop} {w w' : World} {b g : Nat} {xs : List Int} {N : Nat} (h : DQ w b g xs N) (f : Fr S w w') (hb : ¬ S b) (hg : ¬ S g) : DQ w' b g xs N := by
  obtain ⟨rm, far, h, hn⟩ := h; exact ⟨rm, far, h.fr f hb hg, hn⟩
theorem DQ.mono {w : World} {b g : Nat} {xs : List Int} {N M : Nat} (h : DQ w b g xs N) (hM : N ≤ M) : DQ w b g xs M := by
  obtain ⟨rm, far, h, hn⟩ := h; exact ⟨rm, far, h, Nat.le_trans hn hM⟩

theorem fr_two (w : World) (b o : Nat) (x y : Value) : Fr (fun j => j = b) w ((w.setCell ⟨b, o, none⟩ x).setCell ⟨b, o, none⟩ y) :=
  ((Fr.refl (fun j => j = b) w).setCell ⟨b, o, none⟩ x (Or.inl rfl)).setCell ⟨b, o, none⟩ y (Or.inl rfl)

/-! ### a nil deque -/
set_option maxRecDepth 100000 in
set_option maxHeartbeats 1000000 in
theorem push_nil (x : Int) (w : World) : Calls Try.prog 9 #[.pointer none, vI x] w fun e w' => e = .returned (.tuple #[]) ∧ w' = w := by
  go_enter Try.func9, Try.ntmps9
  go_wp2_with fail
  refine bodyPost_ret (results_none rfl _ _ _) rfl ?_
  exact ⟨rfl, rfl⟩
set_option maxRecDepth 100000 in
set_option maxHeartbeats 1000000 in
theorem pop_nil (w : World) : Calls Try.prog 12 #[.pointer none] w fun e w' => e = .returned (.tuple #[vI 0, .bool false]) ∧ w' = w := by
  go_enter Try.func12, Try.ntmps12
  go_wp2_with fail
  go_ret2
  exact ⟨rfl, rfl⟩
set_option maxRecDepth 100000 in
set_option maxHeartbeats 1000000 in
theorem steal_nil (w : World) : Calls Try.prog 10 #[.pointer none] w fun e w' => e = .returned (.tuple #[vI 0, .bool false]) ∧ w' = w := by
  go_enter Try.func10, Try.ntmps10
  go_wp2_with fail
  go_ret2
  exact ⟨rfl, rfl⟩
set_option maxRecDepth 100000 in
set_option maxHeartbeats 1000000 in
theorem len_nil (w : World) : Calls Try.prog 11 #[.pointer none] w fun e w' => e = .returned (vI 0) ∧ w' = w := by
  go_enter Try.func11, Try.ntmps11
  go_wp2_with fail
  go_ret
  exact ⟨rfl, rfl⟩

/-! ### New -/
set_option maxRecDepth 100000 in
set_option maxHeartbeats 1000000 in
theorem new_any (w : World) : Calls Try.prog 8 #[] w fun e w' => e = .returned (.pointer (some ⟨w.heap.size, 0, none⟩)) ∧ DQ w' w.heap.size w.heap.size [] 0 ∧ Fr (fun _ => False) w w' := by
  have HP : Hd (DQ (w.alloc (.cells #[.int .i32 0, .int .u32 0, .slice none 0 0, vI 0, vI 0] 53)) w.heap.size w.heap.size [] 0) :=
    ⟨[], 0, ⟨heap_alloc_last _ _, fun h => absurd rfl h, fun _ => ⟨rfl, rfl⟩, fun h => absurd rfl h, fun h => absurd rfl h, Nat.le_refl _, fun i hi => by simp at hi⟩, Nat.le_refl _⟩
  go_enter Try.func8, Try.ntmps8
  go_wp2_with fail
  go_ret
  exact ⟨rfl, HP.out, Fr.alloc (Fr.refl _ w) _⟩

/-! ### the calls -/
set_option maxRecDepth 100000 in
set_option maxHeartbeats 1000000 in
theorem len_any (b g : Nat) (xs : List Int) (N : Nat) (w : World) (h : DQ w b g xs N) :
    Calls Try.prog 11 #[.pointer (some ⟨b, 0, none⟩)] w fun e w' => e = .returned (vI xs.length) ∧ DQ w' b g xs N ∧ Fr (fun j => j = b) w w' := by
  obtain ⟨rm, far, h, hN⟩ := h
  obtain ⟨c0, -, -, c4, hz⟩ := h.cells
  have f0 := hz 0
  have HD : Hd (DQ ((w.setCell ⟨b, 0, none⟩ (.int .i32 1)).setCell ⟨b, 0, none⟩ (.int .i32 0)) b g xs N) := ⟨rm, far, (h.lock 1).lock 0, hN⟩
  clear hz h hN
  go_enter_defers Try.func11, Try.ntmps11
  go_wp2_with (go_at_call 18; refine (lock_free muLib ⟨b, 0, none⟩ _ c0 f0).mono ?_; rintro e w' ⟨rfl, rfl⟩)
  refine leaves_cons (f := 19) (args := #[.pointer (some ⟨b, 0, none⟩)]) (by simp) (by simp [go_sem]) ?_
  refine (unlock_deferred muLib ⟨b, 0, none⟩ .returning _ ?_ ?_).mono ?_
  · exact World.cell?_setCell_same w ⟨b, 0, none⟩ (.int .i32 1) c0
  · simp [f0]
  rintro e u' w'' ⟨rfl, rfl, rfl⟩
  exact ⟨_, results_tmp rfl _ _ _, rfl, HD.out, fr_two w b 0 _ _⟩

/-- What stands there when the near one is gone; what Pop answers. -/
def popX (xs : List Int) : Int × Bool := match xs.getLast? with | some x => (x, true) | none => (0, false)
def stealX (xs : List Int) : Int × Bool := match xs with | x :: _ => (x, true) | [] => (0, false)

set_option maxRecDepth 100000 in
set_option maxHeartbeats 1000000 in
theorem pop_any (b g : Nat) (xs : List Int) (N : Nat) (hN : N ≤ 100000000000000) (w : World) (h : DQ w b g xs N) :
    Calls Try.prog 12 #[.pointer (some ⟨b, 0, none⟩)] w fun e w' => e = .returned (.tuple #[vI (popX xs).1, .bool (popX xs).2]) ∧ DQ w' b g xs.dropLast N ∧ Fr (fun j => j = b ∨ j = g) w w' := by
  obtain ⟨rm, far, h, hn⟩ := h
  have h1 := h.lock 1
  obtain ⟨c0, -, -, -, hz⟩ := h.cells
  have f0 := hz 0
  have HC : Hd (Calls Try.prog 22 #[.pointer (some ⟨b, 2, none⟩)] (w.setCell ⟨b, 0, none⟩ (.int .i32 1)) fun e w' => e = .returned (.tuple #[vI (popX xs).1, .bool (popX xs).2]) ∧ (∃ rm' far', Dq w' b 1 g rm' far' xs.dropLast ∧ rm'.length ≤ N) ∧ Fr (fun j => j = b ∨ j = g) w w') := by
    have F1 : Fr (fun j => j = b ∨ j = g) w (w.setCell ⟨b, 0, none⟩ (.int .i32 1)) := (Fr.refl (fun j => j = b ∨ j = g) w).setCell ⟨b, 0, none⟩ _ (Or.inl (Or.inl rfl))
    rcases List.eq_nil_or_concat xs with rfl | ⟨ys, x, rfl⟩
    · refine (rpop_none b _ h1.cells.2.2.2.1).mono ?_
      rintro _ _ ⟨rfl, rfl⟩
      exact ⟨rfl, ⟨rm, far, h1, hn⟩, F1⟩
    · rw [List.concat_eq_append] at *
      refine (rpop_some b 1 g rm far ys x _ h1 (by omega)).mono ?_
      rintro _ _ ⟨rfl, rfl⟩
      refine ⟨by simp [popX], ⟨_, far, by rw [List.dropLast_concat]; exact h1.popped, by simpa using hn⟩, ?_⟩
      exact ((F1.setCell ⟨b, 4, none⟩ _ (Or.inl (Or.inl rfl))).drew).setCell ⟨g, _, none⟩ _ (Or.inl (Or.inr rfl))
  clear h h1 hn hz
  generalize popX xs = r at *
  generalize xs.dropLast = ys at *
  go_enter_defers Try.func12, Try.ntmps12
  go_wp2_with (first
    | (go_at_call 18; refine (lock_free muLib ⟨b, 0, none⟩ _ c0 f0).mono ?_; rintro e w' ⟨rfl, rfl⟩)
    | (go_at_call 22; refine HC.out.mono ?_; rintro _ w1 ⟨rfl, HD1, HF1⟩))
  obtain ⟨rm', far', hD, hn⟩ := HD1
  refine leaves_cons (f := 19) (args := #[.pointer (some ⟨b, 0, none⟩)]) (by simp) (by simp [go_sem]) ?_
  refine (unlock_deferred muLib ⟨b, 0, none⟩ .returning _ hD.cells.1 (hD.cells.2.2.2.2 0)).mono ?_
  rintro e u' w'' ⟨rfl, rfl, rfl⟩
  exact ⟨_, results_tmp2 rfl _ _ _, rfl, ⟨rm', far', hD.lock 0, hn⟩, HF1.setCell ⟨b, 0, none⟩ _ (Or.inl (Or.inl rfl))⟩

set_option maxRecDepth 100000 in
set_option maxHeartbeats 1000000 in
theorem steal_any (b g : Nat) (xs : List Int) (N : Nat) (hN : N ≤ 100000000000000) (w : World) (h : DQ w b g xs N) :
    Calls Try.prog 10 #[.pointer (some ⟨b, 0, none⟩)] w fun e w' => e = .returned (.tuple #[vI (stealX xs).1, .bool (stealX xs).2]) ∧ DQ w' b g xs.tail N ∧ Fr (fun j => j = b ∨ j = g) w w' := by
  obtain ⟨rm, far, h, hn⟩ := h
  have h1 := h.lock 1
  obtain ⟨c0, -, -, -, hz⟩ := h.cells
  have f0 := hz 0
  have HC : Hd (Calls Try.prog 21 #[.pointer (some ⟨b, 2, none⟩)] (w.setCell ⟨b, 0, none⟩ (.int .i32 1)) fun e w' => e = .returned (.tuple #[vI (stealX xs).1, .bool (stealX xs).2]) ∧ (∃ rm' far', Dq w' b 1 g rm' far' xs.tail ∧ rm'.length ≤ N) ∧ Fr (fun j => j = b ∨ j = g) w w') := by
    have F1 : Fr (fun j => j = b ∨ j = g) w (w.setCell ⟨b, 0, none⟩ (.int .i32 1)) := (Fr.refl (fun j => j = b ∨ j = g) w).setCell ⟨b, 0, none⟩ _ (Or.inl (Or.inl rfl))
    cases xs with
    | nil =>
      refine (rsteal_none b _ h1.cells.2.2.2.1).mono ?_
      rintro _ _ ⟨rfl, rfl⟩
      exact ⟨rfl, ⟨rm, far, h1, hn⟩, F1⟩
    | cons x ys =>
      refine (rsteal_some b 1 g rm far ys x _ h1 (by omega)).mono ?_
      rintro _ _ ⟨rfl, rfl⟩
      refine ⟨rfl, ⟨_, _, h1.stolen, by simpa using hn⟩, ?_⟩
      exact (((F1.setCell ⟨g, far, none⟩ _ (Or.inl (Or.inr rfl))).drew).setCell ⟨b, 3, none⟩ _ (Or.inl (Or.inl rfl))).setCell ⟨b, 4, none⟩ _ (Or.inl (Or.inl rfl))
  clear h h1 hn hz
  generalize stealX xs = r at *
  generalize xs.tail = ys at *
  go_enter_defers Try.func10, Try.ntmps10
  go_wp2_with (first
    | (go_at_call 18; refine (lock_free muLib ⟨b, 0, none⟩ _ c0 f0).mono ?_; rintro e w' ⟨rfl, rfl⟩)
    | (go_at_call 21; refine HC.out.mono ?_; rintro _ w1 ⟨rfl, HD1, HF1⟩))
  obtain ⟨rm', far', hD, hn⟩ := HD1
  refine leaves_cons (f := 19) (args := #[.pointer (some ⟨b, 0, none⟩)]) (by simp) (by simp [go_sem]) ?_
  refine (unlock_deferred muLib ⟨b, 0, none⟩ .returning _ hD.cells.1 (hD.cells.2.2.2.2 0)).mono ?_
  rintro e u' w'' ⟨rfl, rfl, rfl⟩
  exact ⟨_, results_tmp2 rfl _ _ _, rfl, ⟨rm', far', hD.lock 0, hn⟩, HF1.setCell ⟨b, 0, none⟩ _ (Or.inl (Or.inl rfl))⟩
end Go.Proofs.Ytkkfiipnpdlkeaa
