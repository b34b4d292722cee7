import Derived.Test.YtihicdbplmdjiaaQA4
namespace Go.Proofs.Ytihicdbplmdjiaa
open Go.RowKit (wrap32 wrap64)
set_option linter.unusedVariables false
set_option linter.unusedSimpArgs false

set_option maxHeartbeats 2000000 in
theorem isZero_any (R : RV) (w : World) (h : R.At w) : Calls Try.prog 38 #[R.V] w fun e w' => e = .returned (.bool (isZeroB R.r)) ∧ Fr (fun _ => False) w w' := by
  have HS : Hd (∀ W, Fr (fun _ => False) w W → Calls Try.prog 54 #[R.V] W fun e w' => e = .returned (.bool (noKeysB R.r)) ∧ Fr (fun _ => False) W w') := fun W f => noKeys_any R W (h.fr f)
  unfold isZeroB
  obtain ⟨N, hN⟩ : ∃ N, N = noKeysB R.r := ⟨_, rfl⟩
  rw [← hN] at HS ⊢
  clear hN h
  obtain ⟨⟨ok, val, ks, vs⟩, kv, vv⟩ := R
  unfold RV.V at *
  simp only at *
  have HF : Hd (Fr (fun _ => False) w (w.alloc (.cells #[.bool ok, .string val, kv, vv] 28))) := (Fr.refl _ w).alloc _
  have hc := HS.out _ HF.out
  clear HS
  cases ok
  · go_enter Try.func38, Try.ntmps38
    go_wp2_with (go_at_call 54; refine hc.mono ?_; rintro _ w3 ⟨rfl, hf3⟩; have HF3 : Hd _ := hf3; clear hf3)
    all_goals go_ret
    all_goals first | exact ⟨by simp_all, HF.out.trans HF3.out⟩ | exact ⟨by simp_all, HF.out⟩
  · go_enter Try.func38, Try.ntmps38
    go_wp2_with fail
    all_goals go_ret
    all_goals exact ⟨by simp_all, HF.out⟩
end Go.Proofs.Ytihicdbplmdjiaa
