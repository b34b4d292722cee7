import Derived.Test.YtingenonbkencaaDoorQB1
namespace Go.Proofs.YtingenonbkencaaDoor
open Go.RowKit (wrap32 wrap64)
set_option linter.unusedVariables false
set_option linter.unusedSimpArgs false
set_option maxRecDepth 100000
set_option maxHeartbeats 1000000
theorem leave_any (a b c : Value) (w : World) : Calls Tryd.prog 38 #[a, b, c] w fun e w' => e = .returned (.tuple #[]) ∧ w' = w := by
  go_enter Tryd.func38, Tryd.ntmps38
  go_wp2
  go_end0
  exact ⟨rfl, rfl⟩
def leaving (b : Nat) : Mode b where
  σ := Unit
  S := fun _ => False
  N := fun k => k = 0
  fn := vF 38
  I := fun _ _ w => b ≠ 0 ∧ Tab w
  eff := fun st _ _ old => .ok (old, st)
  tab := fun _ _ _ h => h.2
  stable := fun _ _ _ _ h f => ⟨h.1, h.2.fr f (fun e => h.1 e.symm)⟩
theorem wrap64_wrap (x : Int) : wrap64 x = IntKind.i64.wrap x := by
  rw [IntKind.wrap_i64]; unfold wrap64; omega
theorem next_leaves (b : Nat) (p : Addr) (at' : Int) (size : Nat) (w : World) (h0 : w.cell? ⟨b, 0, none⟩ = some (vF 38)) (h1 : w.cell? ⟨b, 1, none⟩ = some (vI at')) (f1 : w.frozen? ⟨b, 1, none⟩ = false) :
    Calls Tryd.prog 90 #[.pointer (some ⟨b, 0, none⟩), .pointer (some p), .int .i64 size] w fun e w' =>
      e = .returned (vI at') ∧ w' = w.setCell ⟨b, 1, none⟩ (vI (adv at' size)) := by
  unfold adv
  rw [← wrap64_wrap]
  go_enter Tryd.func90, Tryd.ntmps90
  go_wp2_with fail
  refine (leave_any _ _ _ _).mono ?_
  rintro e w' ⟨rfl, rfl⟩
  go_wp2_with fail
  go_ret
  exact ⟨rfl, rfl⟩
theorem set_get (s : WS) (o : Nat) : s.set o (s.get o) = s := by
  by_cases h146 : o = 146
  · subst h146; rfl
  by_cases h149 : o = 149
  · subst h149; rfl
  by_cases h150 : o = 150
  · subst h150; rfl
  by_cases h151 : o = 151
  · subst h151; rfl
  by_cases h153 : o = 153
  · subst h153; rfl
  by_cases h154 : o = 154
  · subst h154; rfl
  by_cases h155 : o = 155
  · subst h155; rfl
  by_cases h156 : o = 156
  · subst h156; rfl
  by_cases h157 : o = 157
  · subst h157; rfl
  by_cases h158 : o = 158
  · subst h158; rfl
  unfold WS.set WS.get
  rw [if_neg h146, if_neg h149, if_neg h150, if_neg h151, if_neg h153, if_neg h154, if_neg h155, if_neg h156, if_neg h157, if_neg h158, if_neg h146, if_neg h149, if_neg h150, if_neg h151, if_neg h153, if_neg h154, if_neg h155, if_neg h156, if_neg h157, if_neg h158]
theorem leaving_own (b : Nat) : NextOwn (leaving b) := by
  intro o ho x size w hx hs1 hs8
  obtain ⟨s, st⟩ := x
  obtain ⟨hl, hn, hI⟩ := hx
  simp only at hl hn hI
  have h0 : w.cell? ⟨b, 0, none⟩ = some (vF 38) := by rw [hl.facts.1, hn]; rfl
  refine (next_leaves b ⟨b, o, none⟩ s.at' size w h0 hl.facts.2.1 (hl.frozen 1)).mono ?_
  rintro e w' ⟨rfl, rfl⟩
  have hfr : Fr (fun k => k = b) w (w.setCell ⟨b, 1, none⟩ (vI (adv s.at' size))) := Fr.setCell (Fr.refl (fun k => k = b) w) _ _ (Or.inl rfl)
  refine ⟨hfr.mono (fun k _ hk => Or.inl hk), ?_⟩
  simp only [nextX, leaving, set_get]
  exact ⟨trivial, hl.setCell 1 _ (cells_at _ _), hn, (leaving b).stable () s.at' _ _ hI hfr⟩
end Go.Proofs.YtingenonbkencaaDoor
