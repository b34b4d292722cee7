import Derived.Test.YtihicdbplmdjiaaQA5
namespace Go.Proofs.Ytihicdbplmdjiaa
open Go.RowKit (wrap32 wrap64)
set_option linter.unusedVariables false
set_option linter.unusedSimpArgs false

set_option maxHeartbeats 4000000 in
theorem rightReply_any (kd : Int) (R : RV) (w : World) (h : R.At w) (hl : R.r.keys.length ≤ 1000000000000000000) : Calls Try.prog 39 #[vI kd, R.V] w fun e w' => e = .returned (.bool (rightReplyB kd R.r)) ∧ Fr (fun _ => False) w w' := by
  have HS : Hd (∀ W, Fr (fun _ => False) w W → Calls Try.prog 54 #[R.V] W fun e w' => e = .returned (.bool (noKeysB R.r)) ∧ Fr (fun _ => False) W w') := fun W f => noKeys_any R W (h.fr f)
  have HT : Hd (∀ W, Fr (fun _ => False) w W → Calls Try.prog 55 #[R.kv] W fun e w' => e = .returned (.bool (riseB R.r.keys)) ∧ Fr (fun _ => False) W w') := fun W f => rise_any R.kv R.r.keys W (h.fr f).1 hl
  unfold rightReplyB
  obtain ⟨N, hN⟩ : ∃ N, N = noKeysB R.r := ⟨_, rfl⟩
  obtain ⟨T, hT⟩ : ∃ N, N = riseB R.r.keys := ⟨_, rfl⟩
  rw [← hN] at HS ⊢
  rw [← hT] at HT ⊢
  clear hN hT hl
  obtain ⟨h1, h2⟩ := h
  obtain ⟨ka, kc, ek⟩ := row_slice h1
  obtain ⟨va, vc, ev⟩ := row_slice h2
  clear h1 h2
  obtain ⟨⟨ok, val, ks, vs⟩, kv, vv⟩ := R
  unfold RV.V at *
  simp only [List.length_map] at *
  subst ek ev
  have HF : Hd (Fr (fun _ => False) w (w.alloc (.cells #[.bool ok, .string val, .slice ka ks.length kc, .slice va vs.length vc] 28))) := (Fr.refl _ w).alloc _
  have hc := HS.out _ HF.out
  have hd := HT.out _ HF.out
  clear HS HT
  obtain ⟨E, hE⟩ : ∃ E, E = val.toList.isEmpty := ⟨_, rfl⟩
  have hE2 : emB val = E := hE.symm
  rw [hE2]
  replace hE := hE.symm
  clear hE2
  by_cases hk : kd = 3
  · subst hk
    obtain ⟨nk, hnk⟩ : ∃ n, n = ks.length := ⟨_, rfl⟩
    obtain ⟨nv, hnv⟩ : ∃ n, n = vs.length := ⟨_, rfl⟩
    rw [← hnk] at HF hc hd ⊢
    rw [← hnv] at HF hc hd ⊢
    clear hnk hnv
    cases ok
    · go_enter Try.func39, Try.ntmps39
      go_wp2_with (go_at_call 55; refine hd.mono ?_; rintro _ w3 ⟨rfl, hf3⟩; have HF3 : Hd _ := hf3; clear hf3)
      go_ret
      first | exact ⟨by clear hc hd HF HF3; simp_all, HF.out.trans HF3.out⟩ | exact ⟨by clear hc hd HF; simp_all, HF.out⟩
    · cases E
      · go_enter Try.func39, Try.ntmps39
        go_wp2_with (go_at_call 55; refine hd.mono ?_; rintro _ w3 ⟨rfl, hf3⟩; have HF3 : Hd _ := hf3; clear hf3)
        go_ret
        first | exact ⟨by clear hc hd HF HF3; simp_all, HF.out.trans HF3.out⟩ | exact ⟨by clear hc hd HF; simp_all, HF.out⟩
      · by_cases hnn : nk = nv
        · subst hnn
          go_enter Try.func39, Try.ntmps39
          go_wp2_with (go_at_call 55; refine hd.mono ?_; rintro _ w3 ⟨rfl, hf3⟩; have HF3 : Hd _ := hf3; clear hf3)
          go_ret
          first | exact ⟨by clear hc hd HF HF3; simp_all, HF.out.trans HF3.out⟩ | exact ⟨by clear hc hd HF; simp_all, HF.out⟩
        · have hnn2 : ((nk : Int) == (nv : Int)) = false := by simp; omega
          go_enter Try.func39, Try.ntmps39
          go_wp2_with (go_at_call 55; refine hd.mono ?_; rintro _ w3 ⟨rfl, hf3⟩; have HF3 : Hd _ := hf3; clear hf3)
          go_ret
          first | exact ⟨by clear hc hd HF HF3; simp_all, HF.out.trans HF3.out⟩ | exact ⟨by clear hc hd HF; simp_all, HF.out⟩
  · by_cases hk2 : kd = 2
    · subst hk2
      cases ok
      · cases E
        · go_enter Try.func39, Try.ntmps39
          go_wp2_with (go_at_call 54; refine hc.mono ?_; rintro _ w3 ⟨rfl, hf3⟩; have HF3 : Hd _ := hf3; clear hf3)
          go_ret
          first | exact ⟨by clear hc hd HF HF3; simp_all, HF.out.trans HF3.out⟩ | exact ⟨by clear hc hd HF; simp_all, HF.out⟩
        · go_enter Try.func39, Try.ntmps39
          go_wp2_with (go_at_call 54; refine hc.mono ?_; rintro _ w3 ⟨rfl, hf3⟩; have HF3 : Hd _ := hf3; clear hf3)
          go_ret
          first | exact ⟨by clear hc hd HF HF3; simp_all, HF.out.trans HF3.out⟩ | exact ⟨by clear hc hd HF; simp_all, HF.out⟩
      · go_enter Try.func39, Try.ntmps39
        go_wp2_with (go_at_call 54; refine hc.mono ?_; rintro _ w3 ⟨rfl, hf3⟩; have HF3 : Hd _ := hf3; clear hf3)
        go_ret
        first | exact ⟨by clear hc hd HF HF3; simp_all, HF.out.trans HF3.out⟩ | exact ⟨by clear hc hd HF; simp_all, HF.out⟩
    · cases E
      · go_enter Try.func39, Try.ntmps39
        go_wp2_with (go_at_call 54; refine hc.mono ?_; rintro _ w3 ⟨rfl, hf3⟩; have HF3 : Hd _ := hf3; clear hf3)
        go_ret
        first | exact ⟨by clear hc hd HF HF3; simp_all, HF.out.trans HF3.out⟩ | exact ⟨by clear hc hd HF; simp_all, HF.out⟩
      · go_enter Try.func39, Try.ntmps39
        go_wp2_with (go_at_call 54; refine hc.mono ?_; rintro _ w3 ⟨rfl, hf3⟩; have HF3 : Hd _ := hf3; clear hf3)
        go_ret
        first | exact ⟨by clear hc hd HF HF3; simp_all, HF.out.trans HF3.out⟩ | exact ⟨by clear hc hd HF; simp_all, HF.out⟩
end Go.Proofs.Ytihicdbplmdjiaa
