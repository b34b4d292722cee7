import Derived.Test.YtkkfiipnpdlkeaaQC1
import Derived.Test.YtkkfiipnpdlkeaaQRk
namespace Go.Proofs.Ytkkfiipnpdlkeaa
open Go.RowKit (wrap32 wrap64)
open Go.MuLone
set_option linter.unusedVariables false
set_option linter.unusedSimpArgs false

/-- Two that are new. -/
theorem two_new (w w1 w2 w3 : World) (N : Nat) (d1 : DN w w2 w1.heap.size [] N w1.heap.size) (f2 : Fr (fun _ => False) w w2) (d2 : DN w w3 w2.heap.size [] N w2.heap.size) (f3 : Fr (fun _ => False) w2 w3) :
    Two w w3 N w1.heap.size w1.heap.size [] w2.heap.size w2.heap.size [] := by
  have h := d1.dq.blt
  exact ⟨d1.fr f3 (fun h => h) (fun h => h), d2, ⟨⟨by omega, by omega⟩, by omega, by omega⟩, f2.trans f3⟩

set_option maxRecDepth 100000 in
set_option maxHeartbeats 4000000 in
theorem moves_any (v : Value) (zs : List Int) (w : World) (hv : IntsAt w w.heap.size v zs) (hl : zs.length ≤ 17592186043904) :
    Calls Try.prog 5 #[v] w fun e w' => e = .returned (.bool true) ∧ Fr (fun _ => False) w w' := by
  obtain ⟨a, cp, rfl, hc⟩ := hv
  have HC : Hd (zs ≠ [] → ∃ k o, a = some ⟨k, o, none⟩ ∧ k < w.heap.size ∧ ∀ j (h : j < zs.length), w.cell? ⟨k, o + j, none⟩ = some (vI zs[j])) := hc
  obtain ⟨N, hN⟩ : ∃ N, N = 2 * zs.length + 2 := ⟨_, rfl⟩
  have HN : Hd (N = 2 * zs.length + 2) := hN
  have HN1 : Hd (N ≤ 35184372088832) := by show N ≤ _; omega
  obtain ⟨n, hn⟩ : ∃ n, n = zs.length := ⟨_, rfl⟩
  have HZ : Hd (n = zs.length) := hn
  have HL : Hd (zs.length ≤ 17592186043904) := hl
  rw [← hn]
  clear hc hN hn hl
  have HW : Hd (Calls Try.prog 7 #[] w fun e w' => e = .returned (.bool true) ∧ Fr (fun _ => False) w w') := fixed_any w
  go_enter Try.func5, Try.ntmps5
  go_wp2_with fail
  refine HW.out.mono ?_
  rintro _ w1 ⟨rfl, F1⟩
  go_wp2_with fail
  refine (new_dn w w1 F1 N).mono ?_
  rintro _ w2 ⟨rfl, D2, -, F2⟩
  go_wp2_with fail
  refine (new_dn w w2 F2 N).mono ?_
  rintro _ w3 ⟨rfl, D3, F3, -⟩
  have T := two_new w w1 w2 w3 N D2 F2 D3 F3
  obtain ⟨b1, hb1⟩ : ∃ b, b = w1.heap.size := ⟨_, rfl⟩
  obtain ⟨b2, hb2⟩ : ∃ b, b = w2.heap.size := ⟨_, rfl⟩
  rw [← hb1, ← hb2] at T ⊢
  have H0 : Hd (Two w w3 N b1 b1 [] b2 b2 []) := T
  clear T D2 D3 F1 F2 F3 hb1 hb2 HW
  go_wp2_with fail
  go_loopw [6] (fun v wr => ∃ i : Nat, v = .int .i64 i ∧ i ≤ n ∧ ∃ g, Hd (Two w wr N b1 g (zs.take i) b2 b2 [])) (fun v _ => match v with | .int _ q => n - q.toNat | _ => 0)
  case atStart => exact ⟨0, rfl, by omega, b1, H0.out⟩
  case round =>
    obtain ⟨i, rfl, hi, g, H⟩ := hrel
    clear H0
    by_cases hlt : i < n
    · have hlt' : (i : Int) < n := by omega
      have h0 : (0 : Int) ≤ i := by omega
      have hz := HZ.out
      have hll := HL.out
      have hw : wrap64 ((i : Int) + 1) = ((i + 1 : Nat) : Int) := by rw [w64 (by omega) (by omega)]; omega
      have hzl : i < zs.length := by omega
      obtain ⟨k, o, rfl, hk, hcell⟩ := HC.out (by rintro rfl; simp at hzl)
      have hci : wr.cell? ⟨k, o + i, none⟩ = some (vI zs[i]) := (H.out.fr.cell hk (fun h => h)).trans (hcell i hzl)
      obtain ⟨x, hx⟩ : ∃ x, x = zs[i] := ⟨_, rfl⟩
      rw [← hx] at hci
      have HP : Hd (Calls Try.prog 9 #[.pointer (some ⟨b1, 0, none⟩), vI x] wr fun e w' => e = .returned (.tuple #[]) ∧ ∃ g, Two w w' N b1 g (zs.take (i + 1)) b2 b2 []) := by
        have hN := HN.out
        refine (H.out.push x (by simp; omega) (by omega) HN1.out).mono ?_
        rintro _ w' ⟨rfl, g', h2⟩
        refine ⟨rfl, g', ?_⟩
        rw [List.take_succ_eq_append_getElem hzl, ← hx]
        exact h2
      clear H hz hll hzl hx hcell HC
      go_wp2_with (go_at_call 9; refine HP.out.mono ?_; rintro _ w4 ⟨rfl, H4⟩)
      obtain ⟨g4, H4⟩ := H4
      refine ⟨⟨i + 1, by simp [hw], by omega, g4, H4⟩, by simp [hw]; omega⟩
    · have hlt' : decide (i < n) = false := by simp; omega
      have HI : Hd (i = n) := by show i = n; omega
      have HA : Hd (Two w wr N b1 g (leftX false zs 0) b2 b2 []) := by
        have := H.out
        rw [HI.out, HZ.out, List.take_length] at this
        exact this
      clear hi H
      have hN := HN.out
      have hM1 : Calls Try.prog 14 #[.pointer (some ⟨b1, 0, none⟩), .pointer (some ⟨b2, 0, none⟩), vI n, .bool false] wr fun e w' => e = .returned (.tuple #[]) ∧ ∃ g2', Two w w' N b1 g [] b2 g2' zs := by
        have := move_any w wr N b1 g b2 b2 false zs [] HA.out (by omega) HN1.out (by simp; omega)
        rw [← HZ.out] at this
        exact this
      have HM1 : Hd (Calls Try.prog 14 #[.pointer (some ⟨b1, 0, none⟩), .pointer (some ⟨b2, 0, none⟩), vI n, .bool false] wr fun e w' => e = .returned (.tuple #[]) ∧ ∃ g2', Two w w' N b1 g [] b2 g2' zs) := hM1
      have HM2 : Hd (∀ w1 g2, Two w w1 N b1 g [] b2 g2 zs → Calls Try.prog 14 #[.pointer (some ⟨b2, 0, none⟩), .pointer (some ⟨b1, 0, none⟩), vI n, .bool true] w1 fun e w' => e = .returned (.tuple #[]) ∧ ∃ g1', Two w w' N b1 g1' zs.reverse b2 g2 []) := by
        intro w1 g2 h1
        have := move_any w w1 N b2 g2 b1 g true zs.reverse [] (by unfold leftX; simpa using h1.symm) (by omega) HN1.out (by simp; omega)
        rw [List.length_reverse, ← HZ.out] at this
        refine this.mono ?_
        rintro _ w' ⟨rfl, g', h2⟩
        exact ⟨rfl, g', h2.symm⟩
      have HM3 : Hd (∀ w1 g1 g2, Two w w1 N b1 g1 zs.reverse b2 g2 [] → Calls Try.prog 14 #[.pointer (some ⟨b1, 0, none⟩), .pointer (some ⟨b2, 0, none⟩), vI n, .bool true] w1 fun e w' => e = .returned (.tuple #[]) ∧ ∃ g2', Two w w' N b1 g1 [] b2 g2' zs) := by
        intro w1 g1 g2 h1
        have := move_any w w1 N b1 g1 b2 g2 true zs [] (by unfold leftX; simpa using h1) (by omega) HN1.out (by simp; omega)
        rw [← HZ.out] at this
        exact this
      clear hM1 hN HA
      go_wp2_with fail
      refine HM1.out.mono ?_
      rintro _ w4 ⟨rfl, H4⟩
      obtain ⟨g4, H4⟩ := H4
      clear HM1
      go_wp2_with fail
      refine (HM2.out _ g4 H4).mono ?_
      rintro _ w5 ⟨rfl, H5⟩
      obtain ⟨g5, H5⟩ := H5
      clear HM2 H4
      go_wp2_with fail
      refine (HM3.out _ g5 g4 H5).mono ?_
      rintro _ w6 ⟨rfl, H6⟩
      obtain ⟨g6, H6⟩ := H6
      clear HM3 H5
      go_wp2_with fail
      refine H6.len.mono ?_
      rintro _ w7 ⟨rfl, H7⟩
      clear H6
      go_wp2_with fail
      refine H7.symm.len.mono ?_
      rintro _ w8 ⟨rfl, H8⟩
      clear H7
      rw [← HZ.out]
      go_wp2_with fail
      have HH8 : Hd (Two w w8 N b2 g6 zs b1 g5 []) := H8
      clear H8
      go_loopw [3, 7] (fun o v wr => o = .bool true ∧ ∃ i : Nat, v = .int .i64 i ∧ i ≤ n ∧ Hd (Two w wr N b2 g6 (leftX false zs i) b1 g5 [])) (fun _ v _ => match v with | .int _ q => n - q.toNat | _ => 0)
      case atStart => exact ⟨rfl, 0, rfl, by omega, HH8.out⟩
      case round =>
        obtain ⟨rfl, j, rfl, hj, H⟩ := hrel
        clear HH8
        by_cases hlt2 : j < n
        · have hltj : decide (j < n) = true := by simpa using hlt2
          have hlt2' : (j : Int) < n := by omega
          have h0 : (0 : Int) ≤ j := by omega
          have hz := HZ.out
          have hll := HL.out
          have hw : wrap64 ((j : Int) + 1) = ((j + 1 : Nat) : Int) := by rw [w64 (by omega) (by omega)]; omega
          have hzl : j < zs.length := by omega
          obtain ⟨k, o, rfl, hk, hcell⟩ := HC.out (by rintro rfl; simp at hzl)
          obtain ⟨x, hx⟩ : ∃ x, x = zs[j] := ⟨_, rfl⟩
          have HS : Hd (Calls Try.prog 10 #[.pointer (some ⟨b2, 0, none⟩)] wr fun e w' => e = .returned (.tuple #[vI x, .bool true]) ∧ Two w w' N b2 g6 (leftX false zs (j + 1)) b1 g5 []) := by
            refine (H.out.steal HN1.out).mono ?_
            rintro _ w' ⟨rfl, h2⟩
            have e1 := (take_left false zs j hzl).1
            have e2 := (take_left false zs j hzl).2
            unfold takeX at e1
            unfold restX at e2
            simp only [Bool.false_eq_true, if_false] at e1 e2
            rw [e1, ← hx]
            rw [e2] at h2
            exact ⟨rfl, h2⟩
          have HCI : Hd (∀ w' : World, Fr (fun _ => False) w w' → w'.cell? ⟨k, o + j, none⟩ = some (vI x)) := fun w' f => by rw [hx]; exact (f.cell hk (fun h => h)).trans (hcell j hzl)
          clear H hz hll hzl hx hcell HC
          go_wp2_with (go_at_call 10; refine HS.out.mono ?_; rintro _ w9 ⟨rfl, H9⟩; have hci := HCI.out w9 H9.fr)
          refine ⟨⟨rfl, j + 1, by simp [hw], by omega, H9⟩, by simp [hw]; omega⟩
        · have hltj : decide (j < n) = false := by simp; omega
          clear hj
          go_wp2_with fail
          go_ret
          exact ⟨rfl, H.out.fr⟩
end Go.Proofs.Ytkkfiipnpdlkeaa
