import Derived.Test.YtocaepjdjhideaaQS2
namespace Go.Proofs.Ytocaepjdjhideaa
open Go.RowKit (wrap32 wrap64)
set_option linter.unusedVariables false
set_option linter.unusedSimpArgs false

set_option maxRecDepth 100000 in
set_option maxHeartbeats 2000000 in
theorem ins_nil (fv : Value) (w : World) : Calls Try.prog 65 #[.slice none 0 0, vI 0, vI 0, fv] w fun e w' => e = .returned (.tuple #[]) ∧ w' = w := by
  go_enter Try.func65, Try.ntmps65
  go_wp2_with fail
  refine wp_loop_rounds 1 ?_
  rw [rounds_succ]
  go_wp2_with fail
  go_end0
  exact ⟨rfl, rfl⟩

set_option maxRecDepth 100000 in
set_option maxHeartbeats 2000000 in
theorem pdq_nil (fv : Value) (l : Int) (w : World) : Calls Try.prog 49 #[.slice none 0 0, vI 0, vI 0, vI l, fv] w fun e w' => e = .returned (.tuple #[]) ∧ w' = w := by
  go_enter Try.func49, Try.ntmps49
  go_wp2_with fail
  refine wp_loop_rounds 1 ?_
  rw [rounds_succ]
  go_wp2_with (go_at_call 65; refine (ins_nil fv _).mono ?_; rintro _ _ ⟨rfl, rfl⟩)
  first | go_end0 | (refine bodyPost_ret (results_none rfl _ _ _) rfl ?_)
  exact ⟨rfl, rfl⟩

set_option maxRecDepth 100000 in
set_option maxHeartbeats 2000000 in
theorem sort_nil (fv : Value) (w : World) : Calls Try.prog 27 #[.slice none 0 0, fv] w fun e w' => e = .returned (.tuple #[]) ∧ w' = w := by
  have hl := Any.bits_Len (SlLaysF0.n15.bits (P := Try.prog) (ρ := sortL_ren) { sortL with }) 0 w (by omega) (by omega)
  change Calls Try.prog 50 _ _ _ at hl
  go_enter Try.func27, Try.ntmps27
  go_wp2_with (first
    | (go_at_call 50; refine hl.mono ?_; rintro _ _ ⟨rfl, rfl⟩)
    | (go_at_call 49; refine (pdq_nil fv _ _).mono ?_; rintro _ _ ⟨rfl, rfl⟩))
  go_end0
  exact ⟨rfl, rfl⟩

theorem sort_any : SortSaid := fun w B v L h hL => by
  rcases h.2 with ⟨rfl, h3⟩ | ⟨g, cap, cur, rfl, h3⟩
  · obtain rfl := List.eq_nil_of_length_eq_zero h3
    refine (sort_nil _ w).mono ?_
    rintro e w' ⟨rfl, rfl⟩
    exact ⟨rfl, [], List.Perm.refl _, List.Pairwise.nil, ⟨none, 0, rfl, fun h => absurd rfl h⟩, Fr.refl _ _⟩
  · exact sort_row w B g cap L h hL

theorem snapshot_any (b : Nat) (g : Gh) (N : Nat) (a : Ab) (w : World) (h : Tb w b g N a) (hN : N ≤ 100000000000) :
    Calls Try.prog 8 #[.pointer (some ⟨b, 0, none⟩)] w fun e w' => ∃ kb vb L, e = .returned (.tuple #[.slice (some ⟨kb, 0, none⟩) L.length L.length, .slice (some ⟨vb, 0, none⟩) L.length L.length]) ∧ w.heap.size ≤ kb ∧ w.heap.size ≤ vb ∧ SnapAt w' kb vb L ∧ Snap a L ∧ L.length ≤ N * 8 ∧ Tb w' b g N a ∧ Fr (fun j => j = b) w w' :=
  snapshot_of sort_any b g N a w h hN
end Go.Proofs.Ytocaepjdjhideaa
