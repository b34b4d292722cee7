import Derived.Test.YtkkfiipnpdlkeaaQA7
namespace Go.Proofs.Ytkkfiipnpdlkeaa
open Go.RowKit (wrap32 wrap64)
open Go.MuLone
set_option linter.unusedVariables false
set_option linter.unusedSimpArgs false

set_option maxRecDepth 100000 in
set_option maxHeartbeats 1000000 in
theorem push_any (b g : Nat) (xs : List Int) (x : Int) (N : Nat) (hx : 2 * xs.length ≤ N) (hN0 : 1 ≤ N) (hN : N ≤ 35184372088832) (w : World) (h : DQ w b g xs N) :
    Calls Try.prog 9 #[.pointer (some ⟨b, 0, none⟩), vI x] w fun e w' => e = .returned (.tuple #[]) ∧ (∃ g', DQ w' b g' (xs ++ [x]) N ∧ (g' = g ∨ w.heap.size ≤ g')) ∧ Fr (fun j => j = b ∨ j = g) w w' := by
  obtain ⟨rm, far, h, hn⟩ := h
  have h1 := h.lock 1
  obtain ⟨c0, -, -, -, hz⟩ := h.cells
  have f0 := hz 0
  have HC : Hd (Calls Try.prog 20 #[.pointer (some ⟨b, 2, none⟩), vI x] (w.setCell ⟨b, 0, none⟩ (.int .i32 1)) fun e w' => e = .returned (.tuple #[]) ∧ (∃ g' rm' far', Dq w' b 1 g' rm' far' (xs ++ [x]) ∧ rm'.length ≤ N ∧ (g' = g ∨ w.heap.size ≤ g')) ∧ Fr (fun j => j = b ∨ j = g) w w') := by
    have F1 : Fr (fun j => j = b ∨ j = g) w (w.setCell ⟨b, 0, none⟩ (.int .i32 1)) := (Fr.refl (fun j => j = b ∨ j = g) w).setCell ⟨b, 0, none⟩ _ (Or.inl (Or.inl rfl))
    rcases Nat.lt_or_ge xs.length rm.length with hl | hl
    · refine (rpush_room b g 1 rm far xs x hl (by omega) _ h1).mono ?_
      rintro _ w' ⟨rfl, hd, hf⟩
      exact ⟨rfl, ⟨g, _, far, hd, by simpa using hn, Or.inl rfl⟩, F1.trans hf⟩
    · have hl2 : xs.length = rm.length := by have := h.len; omega
      refine (rpush_full b g 1 rm far xs x hl2 (by omega) _ h1).mono ?_
      rintro _ w' ⟨rfl, ⟨rm', hd, hlen⟩, hf⟩
      exact ⟨rfl, ⟨_, rm', 0, hd, by omega, Or.inr (by simp)⟩, F1.trans (hf.mono (fun _ _ h => Or.inl h))⟩
  clear h h1 hn hz hx hN hN0
  go_enter_defers Try.func9, Try.ntmps9
  go_wp2_with (first
    | (go_at_call 18; refine (lock_free muLib ⟨b, 0, none⟩ _ c0 f0).mono ?_; rintro e w' ⟨rfl, rfl⟩)
    | (go_at_call 20; refine HC.out.mono ?_; rintro _ w1 ⟨rfl, HD1, HF1⟩))
  obtain ⟨g', rm', far', hD, hn, hg⟩ := HD1
  refine leaves_cons (f := 19) (args := #[.pointer (some ⟨b, 0, none⟩)]) (by simp) (by simp [go_sem]) ?_
  refine (unlock_deferred muLib ⟨b, 0, none⟩ .returning _ hD.cells.1 (hD.cells.2.2.2.2 0)).mono ?_
  rintro e u' w'' ⟨rfl, rfl, rfl⟩
  exact ⟨_, results_none rfl _ _ _, rfl, ⟨g', ⟨rm', far', hD.lock 0, hn⟩, hg⟩, HF1.setCell ⟨b, 0, none⟩ _ (Or.inl (Or.inl rfl))⟩

/-- The blocks of a deque that was made since w0. -/
structure DN (w0 w : World) (b : Nat) (xs : List Int) (N : Nat) (g : Nat) : Prop where
  dq : DQ w b g xs N
  nb : w0.heap.size ≤ b
  ng : w0.heap.size ≤ g

set_option maxRecDepth 100000 in
set_option maxHeartbeats 1000000 in
theorem fixed_any (w : World) : Calls Try.prog 7 #[] w fun e w' => e = .returned (.bool true) ∧ Fr (fun _ => False) w w' := by
  obtain ⟨b, hb⟩ : ∃ b, b = w.heap.size := ⟨_, rfl⟩
  have H0 : Hd (Calls Try.prog 8 #[] w fun e w' => e = .returned (.pointer (some ⟨b, 0, none⟩)) ∧ DN w w' b [] 10 b ∧ Fr (fun _ => False) w w') := by
    refine (new_any w).mono ?_
    rintro _ w' ⟨rfl, h, f⟩
    rw [← hb] at h ⊢
    exact ⟨rfl, ⟨h.mono (by omega), by omega, by omega⟩, f⟩
  have HP : Hd (∀ (w1 : World) (xs : List Int) (g : Nat) (x : Int), xs.length ≤ 4 → DN w w1 b xs 10 g → Fr (fun _ => False) w w1 → Calls Try.prog 9 #[.pointer (some ⟨b, 0, none⟩), vI x] w1 fun e w' => e = .returned (.tuple #[]) ∧ (∃ g', DN w w' b (xs ++ [x]) 10 g') ∧ Fr (fun _ => False) w w') := by
    intro w1 xs g x hx h f
    refine (push_any b g xs x 10 (by omega) (by omega) (by omega) w1 h.dq).mono ?_
    rintro _ w' ⟨rfl, ⟨g', hd, hg⟩, hf⟩
    have hs := f.size
    exact ⟨rfl, ⟨g', hd, h.nb, by have := h.ng; omega⟩, ⟨hf.os.trans f.os, hf.tape.trans f.tape, hf.output.trans f.output, Nat.le_trans hs hf.size, fun k hk _ => (hf.block k (by omega) (by have := h.nb; have := h.ng; omega)).trans (f.block k hk (fun h => h))⟩⟩
  have HO : Hd (∀ (w1 : World) (xs : List Int) (g : Nat), DN w w1 b xs 10 g → Fr (fun _ => False) w w1 → Calls Try.prog 12 #[.pointer (some ⟨b, 0, none⟩)] w1 fun e w' => e = .returned (.tuple #[vI (popX xs).1, .bool (popX xs).2]) ∧ DN w w' b xs.dropLast 10 g ∧ Fr (fun _ => False) w w') := by
    intro w1 xs g h f
    refine (pop_any b g xs 10 (by omega) w1 h.dq).mono ?_
    rintro _ w' ⟨rfl, hd, hf⟩
    have hs := f.size
    exact ⟨rfl, ⟨hd, h.nb, h.ng⟩, ⟨hf.os.trans f.os, hf.tape.trans f.tape, hf.output.trans f.output, Nat.le_trans hs hf.size, fun k hk _ => (hf.block k (by omega) (by have := h.nb; have := h.ng; omega)).trans (f.block k hk (fun h => h))⟩⟩
  have HS : Hd (∀ (w1 : World) (xs : List Int) (g : Nat), DN w w1 b xs 10 g → Fr (fun _ => False) w w1 → Calls Try.prog 10 #[.pointer (some ⟨b, 0, none⟩)] w1 fun e w' => e = .returned (.tuple #[vI (stealX xs).1, .bool (stealX xs).2]) ∧ DN w w' b xs.tail 10 g ∧ Fr (fun _ => False) w w') := by
    intro w1 xs g h f
    refine (steal_any b g xs 10 (by omega) w1 h.dq).mono ?_
    rintro _ w' ⟨rfl, hd, hf⟩
    have hs := f.size
    exact ⟨rfl, ⟨hd, h.nb, h.ng⟩, ⟨hf.os.trans f.os, hf.tape.trans f.tape, hf.output.trans f.output, Nat.le_trans hs hf.size, fun k hk _ => (hf.block k (by omega) (by have := h.nb; have := h.ng; omega)).trans (f.block k hk (fun h => h))⟩⟩
  have HL : Hd (∀ (w1 : World) (xs : List Int) (g : Nat), DN w w1 b xs 10 g → Fr (fun _ => False) w w1 → Calls Try.prog 11 #[.pointer (some ⟨b, 0, none⟩)] w1 fun e w' => e = .returned (vI xs.length) ∧ DN w w' b xs 10 g ∧ Fr (fun _ => False) w w') := by
    intro w1 xs g h f
    refine (len_any b g xs 10 w1 h.dq).mono ?_
    rintro _ w' ⟨rfl, hd, hf⟩
    have hs := f.size
    exact ⟨rfl, ⟨hd, h.nb, h.ng⟩, ⟨hf.os.trans f.os, hf.tape.trans f.tape, hf.output.trans f.output, Nat.le_trans hs hf.size, fun k hk _ => (hf.block k (by omega) (by have := h.nb; omega)).trans (f.block k hk (fun h => h))⟩⟩
  clear hb
  go_enter Try.func7, Try.ntmps7
  go_wp2_with fail
  refine H0.out.mono ?_
  rintro _ w1 ⟨rfl, D1, F1⟩
  go_wp2_with fail
  refine (HP.out w1 [] b 1 (by simp) D1 F1).mono ?_
  rintro _ w2 ⟨rfl, ⟨g2, D2⟩, F2⟩
  clear D1 F1
  go_wp2_with fail
  refine (HP.out w2 _ g2 2 (by simp) D2 F2).mono ?_
  rintro _ w3 ⟨rfl, ⟨g3, D3⟩, F3⟩
  clear D2 F2
  go_wp2_with fail
  refine (HP.out w3 _ g3 3 (by simp) D3 F3).mono ?_
  rintro _ w4 ⟨rfl, ⟨g4, D4⟩, F4⟩
  clear D3 F3
  go_wp2_with fail
  refine (HO.out w4 _ g4 D4 F4).mono ?_
  rintro _ w5 ⟨rfl, D5, F5⟩
  clear D4 F4
  go_wp2_with fail
  refine (HS.out w5 _ g4 D5 F5).mono ?_
  rintro _ w6 ⟨rfl, D6, F6⟩
  clear D5 F5
  go_wp2_with fail
  refine (HL.out w6 _ g4 D6 F6).mono ?_
  rintro _ w7 ⟨rfl, D7, F7⟩
  clear D6 F6
  go_wp2_with fail
  go_ret
  exact ⟨rfl, F7⟩
end Go.Proofs.Ytkkfiipnpdlkeaa
