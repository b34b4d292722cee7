import Derived.Test.YtjmbfjaahadbhaaGreatDoorQPbJ
import Derived.Deep.DeepCutAuto
set_option linter.unusedVariables false
set_option linter.unusedSimpArgs false
namespace Go.Proofs.YtjmbfjaahadbhaaGreatDoor
open Go.RowKit (wrap32 wrap64)

set_option maxRecDepth 100000 in
set_option maxHeartbeats 4000000 in
/-- The first goes down to its place. -/
theorem down_any (B bx n : Nat) (l : List Int) (w : World) (h : Hp w B bx l) (hbx : bx < B) (hd : HDn n l 0) (hn : NJ l) (hnl : n < l.length) (hl : l.length ≤ 1000000) :
    Calls Tryz.prog 69 #[rdI bx, vI 0, vI (n : Int)] w fun e w' => (∃ b, e = .returned (.bool b)) ∧ ∃ l', Hq w w' B bx l l' ∧ HP n l' ∧ aT l' n = aT l n := by
  have HQ0 : Hd (Hq w w B bx l l ∧ HDn n l 0 ∧ aT l n = aT l n) := ⟨⟨h, hn, fun _ => Iff.rfl, rfl, Fr.refl _ _⟩, hd, rfl⟩
  clear h hd hn
  go_enter Tryz.func69, Tryz.ntmps69
  go_wp2_with fail
  go_loopg [7] n (fun gg v wr => ∃ (k : Nat) (l1 : List Int), v = vI (k : Int) ∧ k ≤ n ∧ Hd (n - k = gg) ∧ Hd (Hq w wr B bx l l1 ∧ HDn n l1 k ∧ aT l1 n = aT l n))
  case atStart => exact ⟨0, l, by simp, Nat.zero_le _, rfl, HQ0.out.1, HQ0.out.2.1, rfl⟩
  case round =>
    clear HQ0
    obtain ⟨k, l1, rfl, hkn, HG, HQ⟩ := hrel
    obtain ⟨J, hJ⟩ : ∃ J, J = 2 * k + 1 := ⟨_, rfl⟩
    have qJ : 2 * (k : Int) + 1 = (J : Int) := by omega
    have hk1 : (k : Int) ≤ 1000000 := by omega
    have HJK : Hd (J = 2 * k + 1) := hJ
    have dz : decide ((J : Int) < 0) = false := by simp
    have hJb : (J : Int) ≤ 2000001 := by omega
    clear hJ
    by_cases hJn : J < n
    · have d1 : decide ((J : Int) ≥ (n : Int)) = false := by simp; omega
      have d1' : decide ((n : Int) ≤ (J : Int)) = false := by simp; omega
      have d1n : ¬ n ≤ J := by omega
      obtain ⟨hq, hdn, hlast⟩ := HQ.out
      obtain ⟨hv, hb, ho⟩ := id hq.hp
      have hl1 := hq.ln
      have HBO : Hd (wr.heap[bx]? = some (.cells #[hv] 78) ∧ IOwn wr B hv l1) := ⟨hb, ho⟩
      have HL1 : Hd (l1.length = l.length) := hl1
      have HLS : Hd (J + 1 < n → Calls Tryz.prog 117 #[hv, vI ((J + 1 : Nat) : Int), vI (J : Int)] wr fun e w' => e = .returned (.bool (decide (aT l1 (J + 1) < aT l1 J))) ∧ Fr (fun _ => False) wr w') := fun h => less_any hv B l1 (J + 1) J wr ho (by omega) (by omega) (by omega)
      have c0 : wr.cell? ⟨bx, 0, none⟩ = some hv := by rw [cell_of0 hb]; rfl
      have ml := meth_less c0
      obtain ⟨J2, hJ2⟩ : ∃ J2, J2 = J + 1 := ⟨_, rfl⟩
      rw [← hJ2] at HLS
      have qJ2 : (J : Int) + 1 = (J2 : Int) := by omega
      have HJ2 : Hd (J2 = J + 1) := hJ2
      have hJ2b : (J2 : Int) ≤ 2000002 := by omega
      clear hq hdn hlast hb ho hl1 hJ2 hJn
      go_upto_region 6 with fail
      by_cases h2 : J2 < n
      · have d2 : decide ((J2 : Int) < (n : Int)) = true := by simp; omega
        have HL2 := HLS.out h2
        by_cases h3 : aT l1 J2 < aT l1 J
        · have d3 : decide (aT l1 J2 < aT l1 J) = true := decide_eq_true h3
          rw [d3] at HL2
          have el : lsr n l1 k = J2 := by
            unfold lsr
            have e1 := HJ2.out
            have e2 := HJK.out
            rw [if_pos ⟨by omega, by rw [show 2 * k + 2 = J2 by omega, show 2 * k + 1 = J by omega]; exact h3⟩]
            omega
          have HEL : Hd (lsr n l1 k = J2) := el
          have HL3 : Hd (Calls Tryz.prog 117 #[hv, vI (J2 : Int), vI (J : Int)] wr fun e w' => e = .returned (.bool true) ∧ Fr (fun _ => False) wr w') := HL2
          clear el HL2 d3 h3 HLS
          go_wp2_with fail
          refine Calls.mono HL3.out ?_
          rintro e w2 ⟨rfl, hF2⟩
          have HF2 : Hd (Fr (fun _ => False) wr w2) := hF2
          clear hF2 HL3 c0 ml
          obtain ⟨hq, hdn, hlast⟩ := HQ.out
          have hlt2 := lsr_lt (l := l1) (n := n) (i := k) (by have := HJK.out; omega)
          rw [HEL.out] at hlt2
          have hDn : J2 < n := hlt2.1
          have hkD : k < J2 := hlt2.2.1
          have hq2 := hq.quiet HF2.out
          have hb2 : w2.heap[bx]? = some (.cells #[hv] 78) := keepF HBO.out.1 HF2.out
          have ho2 : IOwn w2 B hv l1 := HBO.out.2.fr HF2.out (fun _ _ e => e)
          have c2 : w2.cell? ⟨bx, 0, none⟩ = some hv := by rw [cell_of0 hb2]; rfl
          have ml2 := meth_less c2
          have HL9 := less_any hv B l1 J2 k w2 ho2 (by have := HL1.out; omega) (by have := HL1.out; omega) (by have := HL1.out; omega)
          have hDb : (J2 : Int) ≤ 1000000 := by omega
          by_cases h4 : aT l1 J2 < aT l1 k
          · have d4 : decide (aT l1 J2 < aT l1 k) = true := decide_eq_true h4
            rw [d4] at HL9
            have HL10 : Hd (Calls Tryz.prog 117 #[hv, vI (J2 : Int), vI (k : Int)] w2 fun e w' => e = .returned (.bool true) ∧ Fr (fun _ => False) w2 w') := HL9
            have HQ2 : Hd (Hq w w2 B bx l l1 ∧ HDn n l1 k ∧ aT l1 n = aT l n ∧ w2.heap[bx]? = some (.cells #[hv] 78) ∧ IOwn w2 B hv l1) := ⟨hq2, hdn, hlast, hb2, ho2⟩
            have H4 : Hd (aT l1 J2 < aT l1 k) := h4
            clear hq hdn hlast hlt2 hq2 hb2 ho2 HL9 d4 h4
            go_wp2_with fail
            refine Calls.mono HL10.out ?_
            rintro e w5 ⟨rfl, hF5⟩
            have hb5 : w5.heap[bx]? = some (.cells #[hv] 78) := keepF HQ2.out.2.2.2.1 hF5
            have ho5 : IOwn w5 B hv l1 := HQ2.out.2.2.2.2.fr hF5 (fun _ _ e => e)
            have c5 : w5.cell? ⟨bx, 0, none⟩ = some hv := by rw [cell_of0 hb5]; rfl
            have ms5 := meth_swap c5
            have HSW : Hd (Calls Tryz.prog 118 #[hv, vI (k : Int), vI (J2 : Int)] w5 fun e w' => e = .returned (.tuple #[]) ∧ IOwn w' B hv (sw l1 k J2) ∧ Fr (fun j => hv.ownBlock = some j) w5 w') := swap_any hv B l1 k J2 w5 ho5 (by have := HL1.out; omega) (by have := HL1.out; omega) (by have := HL1.out; omega)
            have HQ5 : Hd (Hq w w5 B bx l l1 ∧ w5.heap[bx]? = some (.cells #[hv] 78) ∧ IOwn w5 B hv l1) := ⟨HQ2.out.1.quiet hF5, hb5, ho5⟩
            clear hF5 HL10 c2 ml2 c5 hb5 ho5
            go_wp2_with fail
            refine Calls.mono HSW.out ?_
            rintro e w6 ⟨rfl, ho6, hF6⟩
            have HQ6 : Hd (Hq w w6 B bx l (sw l1 k J2) ∧ HDn n (sw l1 k J2) J2 ∧ aT (sw l1 k J2) n = aT l n) := by
              have e1 := HL1.out
              refine ⟨HQ5.out.1.swap hbx (by omega) (by omega) HQ5.out.2.1 HQ5.out.2.2 ho6 hF6, ?_, ?_⟩
              · have k1 := HQ2.out.2.1
                have k2 := H4.out
                rw [← HEL.out] at k2 ⊢
                exact k1.step (by omega) (by have := HJK.out; omega) k2
              · rw [sw_at (by omega) (by omega), if_neg (by omega), if_neg (by omega)]
                exact HQ2.out.2.2.1
            clear ho6 hF6 HSW ms5
            go_wp2_with fail
            go_roundg (n - J2)
            case measure => have := HG.out; omega
            case rel => exact ⟨J2, sw l1 k J2, rfl, by omega, rfl, HQ6.out⟩
          · have d4 : decide (aT l1 J2 < aT l1 k) = false := decide_eq_false h4
            rw [d4] at HL9
            have HL10 : Hd (Calls Tryz.prog 117 #[hv, vI (J2 : Int), vI (k : Int)] w2 fun e w' => e = .returned (.bool false) ∧ Fr (fun _ => False) w2 w') := HL9
            have HE : Hd (∀ W, Fr (fun _ => False) w2 W → ∃ l', Hq w W B bx l l' ∧ HP n l' ∧ aT l' n = aT l n) := fun W fW => ⟨l1, hq2.quiet fW, hdn.stop (Or.inr (by rw [HEL.out]; exact Int.not_lt.1 h4)), hlast⟩
            clear hq hdn hlast hlt2 hq2 hb2 ho2 HL9 d4 h4
            go_wp2_with fail
            refine Calls.mono HL10.out ?_
            rintro e w5 ⟨rfl, hF5⟩
            have HE5 : Hd (∃ l', Hq w w5 B bx l l' ∧ HP n l' ∧ aT l' n = aT l n) := HE.out w5 hF5
            clear hF5 HL10 c2 ml2 HE
            go_wp2_with fail
            go_ret
            exact ⟨⟨_, rfl⟩, HE5.out⟩
        · have d3 : decide (aT l1 J2 < aT l1 J) = false := decide_eq_false h3
          rw [d3] at HL2
          have el : lsr n l1 k = J := by
            unfold lsr
            have e1 := HJ2.out
            have e2 := HJK.out
            rw [if_neg (fun x => h3 (by have := x.2; rwa [show 2 * k + 2 = J2 by omega, show 2 * k + 1 = J by omega] at this))]
            omega
          have HEL : Hd (lsr n l1 k = J) := el
          have HL3 : Hd (Calls Tryz.prog 117 #[hv, vI (J2 : Int), vI (J : Int)] wr fun e w' => e = .returned (.bool false) ∧ Fr (fun _ => False) wr w') := HL2
          clear el HL2 d3 h3 HLS
          go_wp2_with fail
          refine Calls.mono HL3.out ?_
          rintro e w2 ⟨rfl, hF2⟩
          have HF2 : Hd (Fr (fun _ => False) wr w2) := hF2
          clear hF2 HL3 c0 ml
          obtain ⟨hq, hdn, hlast⟩ := HQ.out
          have hlt2 := lsr_lt (l := l1) (n := n) (i := k) (by have := HJK.out; omega)
          rw [HEL.out] at hlt2
          have hDn : J < n := hlt2.1
          have hkD : k < J := hlt2.2.1
          have hq2 := hq.quiet HF2.out
          have hb2 : w2.heap[bx]? = some (.cells #[hv] 78) := keepF HBO.out.1 HF2.out
          have ho2 : IOwn w2 B hv l1 := HBO.out.2.fr HF2.out (fun _ _ e => e)
          have c2 : w2.cell? ⟨bx, 0, none⟩ = some hv := by rw [cell_of0 hb2]; rfl
          have ml2 := meth_less c2
          have HL9 := less_any hv B l1 J k w2 ho2 (by have := HL1.out; omega) (by have := HL1.out; omega) (by have := HL1.out; omega)
          have hDb : (J : Int) ≤ 1000000 := by omega
          by_cases h4 : aT l1 J < aT l1 k
          · have d4 : decide (aT l1 J < aT l1 k) = true := decide_eq_true h4
            rw [d4] at HL9
            have HL10 : Hd (Calls Tryz.prog 117 #[hv, vI (J : Int), vI (k : Int)] w2 fun e w' => e = .returned (.bool true) ∧ Fr (fun _ => False) w2 w') := HL9
            have HQ2 : Hd (Hq w w2 B bx l l1 ∧ HDn n l1 k ∧ aT l1 n = aT l n ∧ w2.heap[bx]? = some (.cells #[hv] 78) ∧ IOwn w2 B hv l1) := ⟨hq2, hdn, hlast, hb2, ho2⟩
            have H4 : Hd (aT l1 J < aT l1 k) := h4
            clear hq hdn hlast hlt2 hq2 hb2 ho2 HL9 d4 h4
            go_wp2_with fail
            refine Calls.mono HL10.out ?_
            rintro e w5 ⟨rfl, hF5⟩
            have hb5 : w5.heap[bx]? = some (.cells #[hv] 78) := keepF HQ2.out.2.2.2.1 hF5
            have ho5 : IOwn w5 B hv l1 := HQ2.out.2.2.2.2.fr hF5 (fun _ _ e => e)
            have c5 : w5.cell? ⟨bx, 0, none⟩ = some hv := by rw [cell_of0 hb5]; rfl
            have ms5 := meth_swap c5
            have HSW : Hd (Calls Tryz.prog 118 #[hv, vI (k : Int), vI (J : Int)] w5 fun e w' => e = .returned (.tuple #[]) ∧ IOwn w' B hv (sw l1 k J) ∧ Fr (fun j => hv.ownBlock = some j) w5 w') := swap_any hv B l1 k J w5 ho5 (by have := HL1.out; omega) (by have := HL1.out; omega) (by have := HL1.out; omega)
            have HQ5 : Hd (Hq w w5 B bx l l1 ∧ w5.heap[bx]? = some (.cells #[hv] 78) ∧ IOwn w5 B hv l1) := ⟨HQ2.out.1.quiet hF5, hb5, ho5⟩
            clear hF5 HL10 c2 ml2 c5 hb5 ho5
            go_wp2_with fail
            refine Calls.mono HSW.out ?_
            rintro e w6 ⟨rfl, ho6, hF6⟩
            have HQ6 : Hd (Hq w w6 B bx l (sw l1 k J) ∧ HDn n (sw l1 k J) J ∧ aT (sw l1 k J) n = aT l n) := by
              have e1 := HL1.out
              refine ⟨HQ5.out.1.swap hbx (by omega) (by omega) HQ5.out.2.1 HQ5.out.2.2 ho6 hF6, ?_, ?_⟩
              · have k1 := HQ2.out.2.1
                have k2 := H4.out
                rw [← HEL.out] at k2 ⊢
                exact k1.step (by omega) (by have := HJK.out; omega) k2
              · rw [sw_at (by omega) (by omega), if_neg (by omega), if_neg (by omega)]
                exact HQ2.out.2.2.1
            clear ho6 hF6 HSW ms5
            go_wp2_with fail
            go_roundg (n - J)
            case measure => have := HG.out; omega
            case rel => exact ⟨J, sw l1 k J, rfl, by omega, rfl, HQ6.out⟩
          · have d4 : decide (aT l1 J < aT l1 k) = false := decide_eq_false h4
            rw [d4] at HL9
            have HL10 : Hd (Calls Tryz.prog 117 #[hv, vI (J : Int), vI (k : Int)] w2 fun e w' => e = .returned (.bool false) ∧ Fr (fun _ => False) w2 w') := HL9
            have HE : Hd (∀ W, Fr (fun _ => False) w2 W → ∃ l', Hq w W B bx l l' ∧ HP n l' ∧ aT l' n = aT l n) := fun W fW => ⟨l1, hq2.quiet fW, hdn.stop (Or.inr (by rw [HEL.out]; exact Int.not_lt.1 h4)), hlast⟩
            clear hq hdn hlast hlt2 hq2 hb2 ho2 HL9 d4 h4
            go_wp2_with fail
            refine Calls.mono HL10.out ?_
            rintro e w5 ⟨rfl, hF5⟩
            have HE5 : Hd (∃ l', Hq w w5 B bx l l' ∧ HP n l' ∧ aT l' n = aT l n) := HE.out w5 hF5
            clear hF5 HL10 c2 ml2 HE
            go_wp2_with fail
            go_ret
            exact ⟨⟨_, rfl⟩, HE5.out⟩
      · have d2 : decide ((J2 : Int) < (n : Int)) = false := by simp; omega
        have d2n : ¬ J2 < n := h2
        have el : lsr n l1 k = J := by
            unfold lsr
            have e1 := HJ2.out
            have e2 := HJK.out
            rw [if_neg (fun x => h2 (by have := x.1; omega))]
            omega
        have HEL : Hd (lsr n l1 k = J) := el
        have HF2 : Hd (Fr (fun _ => False) wr wr) := Fr.refl _ _
        clear el h2 HLS c0 ml
        obtain ⟨hq, hdn, hlast⟩ := HQ.out
        have hlt2 := lsr_lt (l := l1) (n := n) (i := k) (by have := HJK.out; omega)
        rw [HEL.out] at hlt2
        have hDn : J < n := hlt2.1
        have hkD : k < J := hlt2.2.1
        have hq2 := hq.quiet HF2.out
        have hb2 : wr.heap[bx]? = some (.cells #[hv] 78) := keepF HBO.out.1 HF2.out
        have ho2 : IOwn wr B hv l1 := HBO.out.2.fr HF2.out (fun _ _ e => e)
        have c2 : wr.cell? ⟨bx, 0, none⟩ = some hv := by rw [cell_of0 hb2]; rfl
        have ml2 := meth_less c2
        have HL9 := less_any hv B l1 J k wr ho2 (by have := HL1.out; omega) (by have := HL1.out; omega) (by have := HL1.out; omega)
        have hDb : (J : Int) ≤ 1000000 := by omega
        by_cases h4 : aT l1 J < aT l1 k
        · have d4 : decide (aT l1 J < aT l1 k) = true := decide_eq_true h4
          rw [d4] at HL9
          have HL10 : Hd (Calls Tryz.prog 117 #[hv, vI (J : Int), vI (k : Int)] wr fun e w' => e = .returned (.bool true) ∧ Fr (fun _ => False) wr w') := HL9
          have HQ2 : Hd (Hq w wr B bx l l1 ∧ HDn n l1 k ∧ aT l1 n = aT l n ∧ wr.heap[bx]? = some (.cells #[hv] 78) ∧ IOwn wr B hv l1) := ⟨hq2, hdn, hlast, hb2, ho2⟩
          have H4 : Hd (aT l1 J < aT l1 k) := h4
          clear hq hdn hlast hlt2 hq2 hb2 ho2 HL9 d4 h4
          go_wp2_with fail
          refine Calls.mono HL10.out ?_
          rintro e w5 ⟨rfl, hF5⟩
          have hb5 : w5.heap[bx]? = some (.cells #[hv] 78) := keepF HQ2.out.2.2.2.1 hF5
          have ho5 : IOwn w5 B hv l1 := HQ2.out.2.2.2.2.fr hF5 (fun _ _ e => e)
          have c5 : w5.cell? ⟨bx, 0, none⟩ = some hv := by rw [cell_of0 hb5]; rfl
          have ms5 := meth_swap c5
          have HSW : Hd (Calls Tryz.prog 118 #[hv, vI (k : Int), vI (J : Int)] w5 fun e w' => e = .returned (.tuple #[]) ∧ IOwn w' B hv (sw l1 k J) ∧ Fr (fun j => hv.ownBlock = some j) w5 w') := swap_any hv B l1 k J w5 ho5 (by have := HL1.out; omega) (by have := HL1.out; omega) (by have := HL1.out; omega)
          have HQ5 : Hd (Hq w w5 B bx l l1 ∧ w5.heap[bx]? = some (.cells #[hv] 78) ∧ IOwn w5 B hv l1) := ⟨HQ2.out.1.quiet hF5, hb5, ho5⟩
          clear hF5 HL10 c2 ml2 c5 hb5 ho5
          go_wp2_with fail
          refine Calls.mono HSW.out ?_
          rintro e w6 ⟨rfl, ho6, hF6⟩
          have HQ6 : Hd (Hq w w6 B bx l (sw l1 k J) ∧ HDn n (sw l1 k J) J ∧ aT (sw l1 k J) n = aT l n) := by
            have e1 := HL1.out
            refine ⟨HQ5.out.1.swap hbx (by omega) (by omega) HQ5.out.2.1 HQ5.out.2.2 ho6 hF6, ?_, ?_⟩
            · have k1 := HQ2.out.2.1
              have k2 := H4.out
              rw [← HEL.out] at k2 ⊢
              exact k1.step (by omega) (by have := HJK.out; omega) k2
            · rw [sw_at (by omega) (by omega), if_neg (by omega), if_neg (by omega)]
              exact HQ2.out.2.2.1
          clear ho6 hF6 HSW ms5
          go_wp2_with fail
          go_roundg (n - J)
          case measure => have := HG.out; omega
          case rel => exact ⟨J, sw l1 k J, rfl, by omega, rfl, HQ6.out⟩
        · have d4 : decide (aT l1 J < aT l1 k) = false := decide_eq_false h4
          rw [d4] at HL9
          have HL10 : Hd (Calls Tryz.prog 117 #[hv, vI (J : Int), vI (k : Int)] wr fun e w' => e = .returned (.bool false) ∧ Fr (fun _ => False) wr w') := HL9
          have HE : Hd (∀ W, Fr (fun _ => False) wr W → ∃ l', Hq w W B bx l l' ∧ HP n l' ∧ aT l' n = aT l n) := fun W fW => ⟨l1, hq2.quiet fW, hdn.stop (Or.inr (by rw [HEL.out]; exact Int.not_lt.1 h4)), hlast⟩
          clear hq hdn hlast hlt2 hq2 hb2 ho2 HL9 d4 h4
          go_wp2_with fail
          refine Calls.mono HL10.out ?_
          rintro e w5 ⟨rfl, hF5⟩
          have HE5 : Hd (∃ l', Hq w w5 B bx l l' ∧ HP n l' ∧ aT l' n = aT l n) := HE.out w5 hF5
          clear hF5 HL10 c2 ml2 HE
          go_wp2_with fail
          go_ret
          exact ⟨⟨_, rfl⟩, HE5.out⟩
    · have d1 : decide ((J : Int) ≥ (n : Int)) = true := by simp; omega
      have d1' : decide ((n : Int) ≤ (J : Int)) = true := by simp; omega
      have d1n : n ≤ J := by omega
      have HE : Hd (∃ l', Hq w wr B bx l l' ∧ HP n l' ∧ aT l' n = aT l n) := by
        obtain ⟨hq, hdn, hlast⟩ := HQ.out
        exact ⟨l1, hq, hdn.stop (Or.inl (by have := HJK.out; omega)), hlast⟩
      clear HQ HG hJn
      go_wp2_with fail
      go_ret
      exact ⟨⟨_, rfl⟩, HE.out⟩
end Go.Proofs.YtjmbfjaahadbhaaGreatDoor
