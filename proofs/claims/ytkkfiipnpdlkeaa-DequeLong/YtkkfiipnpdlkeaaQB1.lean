import Derived.Test.YtkkfiipnpdlkeaaQA9
import Derived.Deep.Cut
namespace Go.Proofs.Ytkkfiipnpdlkeaa
open Go.RowKit (wrap32 wrap64)
open Go.MuLone
set_option linter.unusedVariables false
set_option linter.unusedSimpArgs false

theorem tmod_bound (k n : Int) (hn : 1 ≤ n) : -n < k.tmod n ∧ k.tmod n < n := by
  have h := Int.natAbs_tmod k n
  have h2 : k.natAbs % n.natAbs < n.natAbs := Nat.mod_lt _ (by omega)
  omega

set_option maxRecDepth 100000 in
set_option maxHeartbeats 4000000 in
theorem long_any (n r : Int) (w : World) : Calls Try.prog 3 #[vI n, vI r] w fun e w' => e = .returned (.bool true) ∧ Fr (fun _ => False) w w' := by
  obtain ⟨k, hk, hkb⟩ : ∃ k : Nat, ((n.tmod 100 = k ∧ ¬ n.tmod 100 < 0) ∨ (n.tmod 100 < 0 ∧ wrap64 (-(n.tmod 100)) = k)) ∧ k ≤ 99 := by
    have := tmod_bound n 100 (by omega)
    refine ⟨(n.tmod 100).natAbs, ?_, by omega⟩
    rw [w64 (by omega) (by omega)]
    omega
  obtain ⟨m, hm, hmb⟩ : ∃ m : Nat, ((r.tmod 1000 = m ∧ ¬ r.tmod 1000 < 0) ∨ (r.tmod 1000 < 0 ∧ wrap64 (-(r.tmod 1000)) = m)) ∧ m ≤ 999 := by
    have := tmod_bound r 1000 (by omega)
    refine ⟨(r.tmod 1000).natAbs, ?_, by omega⟩
    rw [w64 (by omega) (by omega)]
    omega
  have HKB : Hd (k ≤ 99) := hkb
  have HMB : Hd (m ≤ 999) := hmb
  clear hkb hmb
  have HW : Hd (Calls Try.prog 7 #[] w fun e w' => e = .returned (.bool true) ∧ Fr (fun _ => False) w w') := fixed_any w
  go_enter Try.func3, Try.ntmps3
  go_upto_if 22 with (go_at_call 7; refine HW.out.mono ?_; rintro _ w1 ⟨rfl, F1⟩)
  go_cut [6] from 18 (fun v wx => v = .int .i64 k ∧ w1 = wx)
  case first =>
    rcases hk with ⟨hk, hk1⟩ | ⟨hk, hk1⟩
    all_goals (go_wp2_with fail; go_meet)
    all_goals (case rel => exact ⟨by first | rfl | (rw [← hk]) | (rw [← hk1]), rfl⟩)
  case rest =>
  obtain ⟨rfl, rfl⟩ := hcut
  clear hk
  go_upto_if 28 with fail
  go_cut [7] from 18 (fun v wx => v = .int .i64 m ∧ w1 = wx)
  case first =>
    rcases hm with ⟨hm, hm1⟩ | ⟨hm, hm1⟩
    all_goals (go_wp2_with fail; go_meet)
    all_goals (case rel => exact ⟨by first | rfl | (rw [← hm]) | (rw [← hm1]), rfl⟩)
  case rest =>
  obtain ⟨rfl, rfl⟩ := hcut
  clear hm
  go_wp2_with fail
  refine (new_dn w w1 F1 1000).mono ?_
  rintro _ w2 ⟨rfl, D2, -, F2⟩
  obtain ⟨b, hb⟩ : ∃ b, b = w1.heap.size := ⟨_, rfl⟩
  rw [← hb] at D2 ⊢
  have HD2 : Hd (DN w w2 b [] 1000 b) := D2
  have HF2 : Hd (Fr (fun _ => False) w w2) := F2
  clear hb D2 F2 F1
  go_wp2_with fail
  go_loopw [9] (fun v wr => ∃ i : Nat, v = .int .i64 i ∧ i ≤ k ∧ (∃ g, Hd (DN w wr b (sq 0 i) 1000 g)) ∧ Hd (Fr (fun _ => False) w wr)) (fun v _ => match v with | .int _ q => k - q.toNat | _ => 0)
  case atStart => exact ⟨0, rfl, by omega, ⟨b, HD2.out⟩, HF2.out⟩
  case round =>
    obtain ⟨i, rfl, hi, ⟨g, HD⟩, HF⟩ := hrel
    clear HD2 HF2
    have hkk := HKB.out
    have hmm := HMB.out
    by_cases hlt : i < k
    · have hlt' : (i : Int) < k := by omega
      have hw : wrap64 ((i : Int) + 1) = ((i + 1 : Nat) : Int) := by rw [w64 (by omega) (by omega)]; omega
      have HP : Hd (Calls Try.prog 9 #[.pointer (some ⟨b, 0, none⟩), vI i] wr fun e w' => e = .returned (.tuple #[]) ∧ (∃ g', DN w w' b (sq 0 (i + 1)) 1000 g') ∧ Fr (fun _ => False) w w') := by
        refine (push_dn w wr b g (sq 0 i) i 1000 (by rw [sq_length]; omega) (by omega) (by omega) HD.out HF.out).mono ?_
        rintro _ w' ⟨rfl, ⟨g', h1, -⟩, -, h2⟩
        exact ⟨rfl, ⟨g', by rw [sq_near, Nat.zero_add]; exact h1⟩, h2⟩
      clear HD HF hkk hmm
      go_wp2_with (go_at_call 9; refine HP.out.mono ?_; rintro _ w3 ⟨rfl, HD3, HF3⟩)
      obtain ⟨g3, HD3⟩ := HD3
      refine ⟨⟨i + 1, by simp [hw], by omega, ⟨g3, HD3⟩, HF3⟩, by simp [hw]; omega⟩
    · have hik : i = k := by omega
      have hlt' : decide (i < k) = false := by simp; omega
      have HD2 : Hd (DN w wr b (sq 0 k) 1000 g) := by rw [← hik]; exact HD
      clear HD hi hkk hmm
      have HI : Hd (i = k) := hik
      clear hik
      go_wp2_with fail
      go_loopw [5, 10] (fun o v wr => o = .bool true ∧ ∃ i : Nat, v = .int .i64 i ∧ i ≤ m ∧ (∃ g, Hd (DN w wr b (sq i k) 1000 g)) ∧ Hd (Fr (fun _ => False) w wr)) (fun _ v _ => match v with | .int _ q => m - q.toNat | _ => 0)
      case atStart => exact ⟨rfl, 0, rfl, by omega, ⟨g, HD2.out⟩, HF.out⟩
      case round =>
        obtain ⟨rfl, i2, rfl, hi2, ⟨g2, HD⟩, HF⟩ := hrel
        clear HD2
        have hkk := HKB.out
        have hmm := HMB.out
        by_cases hlt2 : i2 < m
        · have hltd : decide (i2 < m) = true := by simpa using hlt2
          have hw : wrap64 ((i2 : Int) + 1) = ((i2 + 1 : Nat) : Int) := by rw [w64 (by omega) (by omega)]; omega
          have hw2 : wrap64 ((k : Int) + i2) = ((k + i2 : Nat) : Int) := by rw [w64 (by omega) (by omega)]; omega
          have HP : Hd (Calls Try.prog 9 #[.pointer (some ⟨b, 0, none⟩), vI (k + i2 : Nat)] wr fun e w' => e = .returned (.tuple #[]) ∧ (∃ g', DN w w' b (sq i2 (k + 1)) 1000 g') ∧ Fr (fun _ => False) w w') := by
            refine (push_dn w wr b g2 (sq i2 k) (k + i2 : Nat) 1000 (by rw [sq_length]; omega) (by omega) (by omega) HD.out HF.out).mono ?_
            rintro _ w' ⟨rfl, ⟨g', h1, -⟩, -, h2⟩
            exact ⟨rfl, ⟨g', by rw [sq_near, Nat.add_comm i2 k]; exact h1⟩, h2⟩
          have HS : Hd (∀ w1 g, DN w w1 b (sq i2 (k + 1)) 1000 g → Fr (fun _ => False) w w1 → Calls Try.prog 10 #[.pointer (some ⟨b, 0, none⟩)] w1 fun e w' => e = .returned (.tuple #[vI i2, .bool true]) ∧ DN w w' b (sq (i2 + 1) k) 1000 g ∧ Fr (fun _ => False) w w') := by
            intro w1 g h f
            refine (steal_dn w w1 b g _ 1000 (by omega) h f).mono ?_
            rintro _ w' ⟨rfl, h1, -, h2⟩
            rw [stealX_sq, tail_sq] at *
            exact ⟨rfl, h1, h2⟩
          have HL : Hd (∀ w1 g, DN w w1 b (sq (i2 + 1) k) 1000 g → Fr (fun _ => False) w w1 → Calls Try.prog 11 #[.pointer (some ⟨b, 0, none⟩)] w1 fun e w' => e = .returned (vI k) ∧ DN w w' b (sq (i2 + 1) k) 1000 g ∧ Fr (fun _ => False) w w') := by
            intro w1 g h f
            refine (len_dn w w1 b g _ 1000 h f).mono ?_
            rintro _ w' ⟨rfl, h1, -, h2⟩
            rw [sq_length]
            exact ⟨rfl, h1, h2⟩
          clear HD HF hkk hmm
          go_wp2_with (first
            | (go_at_call 9; refine HP.out.mono ?_; rintro _ w3 ⟨rfl, HD3, HF3⟩; obtain ⟨g3, HD3⟩ := HD3)
            | (go_at_call 10; refine (HS.out _ g3 HD3 HF3).mono ?_; rintro _ w4 ⟨rfl, HD4, HF4⟩)
            | (go_at_call 11; refine (HL.out _ g3 HD4 HF4).mono ?_; rintro _ w5 ⟨rfl, HD5, HF5⟩))
          refine ⟨⟨rfl, i2 + 1, by simp [hw], by omega, ⟨g3, HD5⟩, HF5⟩, by simp [hw]; omega⟩
        · have him : i2 = m := by omega
          have hltd : decide (i2 < m) = false := by simp; omega
          have HD2 : Hd (DN w wr b (sq m k) 1000 g2) := by rw [← him]; exact HD
          have hw : wrap64 ((k : Int) - 1) = (k : Int) - 1 := w64 (by omega) (by omega)
          clear HD hi2 hkk hmm
          clear him
          go_wp2_with fail
          rw [hw]
          clear hw
          go_loopw [5, 13] (fun o v wr => o = .bool true ∧ ∃ j : Nat, v = .int .i64 ((j : Int) - 1) ∧ j ≤ k ∧ Hd (DN w wr b (sq m j) 1000 g2) ∧ Hd (Fr (fun _ => False) w wr)) (fun _ v _ => match v with | .int _ q => (q + 1).toNat | _ => 0)
          case atStart => exact ⟨rfl, k, rfl, Nat.le_refl _, HD2.out, HF.out⟩
          case round =>
            obtain ⟨rfl, j, rfl, hj, HD, HF⟩ := hrel
            clear HD2
            have hkk := HKB.out
            have hmm := HMB.out
            cases j with
            | succ t =>
              have e : (((t + 1 : Nat) : Int) - 1) = t := by omega
              rw [e]
              clear e
              have ht0 : (0 : Int) ≤ t := by omega
              have hw : wrap64 ((t : Int) - 1) = (t : Int) - 1 := w64 (by omega) (by omega)
              have hw2 : wrap64 ((m : Int) + t) = ((m + t : Nat) : Int) := by rw [w64 (by omega) (by omega)]; omega
              have HP : Hd (Calls Try.prog 12 #[.pointer (some ⟨b, 0, none⟩)] wr fun e w' => e = .returned (.tuple #[vI (m + t : Nat), .bool true]) ∧ DN w w' b (sq m t) 1000 g2 ∧ Fr (fun _ => False) w w') := by
                refine (pop_dn w wr b g2 _ 1000 (by omega) HD.out HF.out).mono ?_
                rintro _ w' ⟨rfl, h1, -, h2⟩
                rw [popX_sq, drop_sq] at *
                exact ⟨rfl, h1, h2⟩
              clear HD HF hkk hmm
              go_wp2_with (go_at_call 12; refine HP.out.mono ?_; rintro _ w3 ⟨rfl, HD3, HF3⟩)
              refine ⟨⟨by simp [hw2], t, by simp [hw], by omega, HD3, HF3⟩, by simp [hw]⟩
            | zero =>
              have HP : Hd (Calls Try.prog 12 #[.pointer (some ⟨b, 0, none⟩)] wr fun e w' => e = .returned (.tuple #[vI 0, .bool false]) ∧ Fr (fun _ => False) w w') := by
                refine (pop_dn w wr b g2 _ 1000 (by omega) HD.out HF.out).mono ?_
                rintro _ w' ⟨rfl, h1, -, h2⟩
                exact ⟨rfl, h2⟩
              clear HD HF hkk hmm
              rw [show (((0 : Nat) : Int) - 1) = -1 from rfl]
              go_wp2_with (go_at_call 12; refine HP.out.mono ?_; rintro _ w3 ⟨rfl, HF3⟩)
              go_ret
              exact ⟨rfl, HF3⟩
end Go.Proofs.Ytkkfiipnpdlkeaa
