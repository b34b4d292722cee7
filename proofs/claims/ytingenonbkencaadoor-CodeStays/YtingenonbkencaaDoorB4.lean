import Derived.Test.YtingenonbkencaaDoorB3
namespace Go.Proofs.YtingenonbkencaaDoor
open Go.RowKit (wrap32 wrap64)
set_option linter.unusedVariables false
set_option linter.unusedSimpArgs false

/-- anyNumber. -/
theorem anyNumber_own {b : Nat} (M : Mode b) (hN : NextOwn M) (x : WS × M.σ) (w : World) (h : On M w x) (op size : Nat) (hop : x.1.op = op) (hlt : op < 18) (hsz : szs.getD op 0 = size) (hs1 : 1 ≤ size) (hs8 : size ≤ 8) :
    Calls Tryd.prog 81 #[.pointer (some ⟨b, 0, none⟩), .pointer (some ⟨b, 158, none⟩)] w (Ends M w (nextX M 158 size x)) := by
  go_enter Tryd.func81, Tryd.ntmps81
  go_wp2_with fail
  refine (numberN_own M hN x _ h op size hop hlt hsz hs1 hs8).mono ?_
  rintro e w1 ⟨hf, hres⟩
  cases hx : nextX M 158 size x with
  | error z =>
    simp only [hx] at hres
    subst hres
    go_wp2_with fail
    refine ⟨rfl, hf, ?_⟩
    simp only [hx]
  | ok y =>
    simp only [hx] at hres
    obtain ⟨rfl, hon⟩ := hres
    go_wp2_with fail
    go_end0
    refine ⟨hf, ?_⟩
    simp only [hx]
    exact ⟨trivial, hon⟩

/-- Locations are counted. -/
def locX {b : Nat} (M : Mode b) (n p : Int) (x : WS × M.σ) : X (WS × M.σ) :=
  if wrap64 (x.1.locs + n) ≤ 1048576 then .ok ({ x.1 with locs := wrap64 (x.1.locs + n) }, x.2) else .error (21, p)

theorem cells_locs (s : WS) (v : Int) : s.cells.setIfInBounds 148 (vI v) = { s with locs := v }.cells := by kernel_rfl

set_option maxRecDepth 100000 in
set_option maxHeartbeats 1000000 in
theorem locate_any {b : Nat} (M : Mode b) (n p : Int) (x : WS × M.σ) (w : World) (h : On M w x) :
    Calls Tryd.prog 92 #[.pointer (some ⟨b, 0, none⟩), vI n, vI p] w (Ends M w (locX M n p x)) := by
  have hc : w.cell? ⟨b, 148, none⟩ = some (vI x.1.locs) := h.1.facts.2.2.2.2.1
  have hz := h.1.frozen 148
  have hl' : ∀ v, Lies (w.setCell ⟨b, 148, none⟩ (vI v)) b { x.1 with locs := v } := fun v => h.1.setCell 148 _ (cells_locs _ _)
  have hfr : ∀ v, Fr (· = b) w (w.setCell ⟨b, 148, none⟩ (vI v)) := fun v => Fr.setCell (Fr.refl (fun k => k = b) w) _ _ (Or.inl rfl)
  by_cases hm : wrap64 (x.1.locs + n) ≤ 1048576
  · have hm' : decide (wrap64 (x.1.locs + n) ≤ 1048576) = true := by simpa using hm
    go_enter Tryd.func92, Tryd.ntmps92
    go_wp2_with fail

    refine (must_true 21 p _).mono ?_
    rintro e w' ⟨rfl, rfl⟩
    go_wp2_with fail
    go_end0
    refine ⟨(hfr _).mono (fun k _ hk => Or.inl hk), ?_⟩
    simp only [locX, if_pos hm]
    exact ⟨trivial, h.fr (hfr _) (hl' _) rfl rfl⟩
  · have hm' : decide (wrap64 (x.1.locs + n) ≤ 1048576) = false := by simpa using hm
    go_enter Tryd.func92, Tryd.ntmps92
    go_wp2_with fail

    refine (must_false 21 p _).mono ?_
    rintro e w' ⟨rfl, rfl⟩
    go_wp2_with fail
    refine ⟨rfl, (hfr _).mono (fun k _ hk => Or.inl hk), ?_⟩
    simp only [locX, if_neg (Int.not_le.2 hm)]

end Go.Proofs.YtingenonbkencaaDoor
