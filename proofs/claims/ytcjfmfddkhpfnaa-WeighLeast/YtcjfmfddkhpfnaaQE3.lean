import Derived.Test.YtcjfmfddkhpfnaaQE2
namespace Go.Proofs.Ytcjfmfddkhpfnaa
open Go.RowKit (wrap32 wrap64)
set_option linter.unusedVariables false
set_option linter.unusedSimpArgs false

set_option maxRecDepth 100000 in
set_option maxHeartbeats 4000000 in
theorem least_walk (l : Int) (ev rv : Value) (es : List Ed) (rs : List Int) (w : World) (hE : EdgesAt w.heap.size w ev es) (hR : IntsAt w.heap.size w rv rs) (hel : es.length ≤ 5864062014634) (hrl : rs.length ≤ 17592186043904) :
    Calls Try.prog 5 #[.agg #[vI l, ev, rv]] w fun e w' => e = .returned (.bool true) ∧ Fr (fun _ => False) w w' := by
  have HE : Hd (EdgesAt w.heap.size w ev es) := hE
  have HR : Hd (IntsAt w.heap.size w rv rs) := hR
  clear hE hR
  have hG := right_of l es rs
  obtain ⟨-, hn1, hn2⟩ := rN_is l
  obtain ⟨i27, hi27, hz27, hs27, hb27⟩ := info_parts (P := Try.prog) (e := 27) (z := .agg #[vI 0, vI 0, vI 0]) (size := 3) (bytes := 24) (by kernel_rfl)
  go_enter Try.func5, Try.ntmps5
  go_wp2_with fail
  refine (fixed_any _).mono ?_
  rintro e w1 ⟨rfl, hF1⟩
  have hbox := box_kept hF1
  have HF1 : Hd (Fr (fun _ => False) w w1) := ((Fr.refl _ w).alloc _).trans hF1
  have b0 : w1.cell? ⟨w.heap.size, 0, none⟩ = some (vI l) := by rw [cell_of hbox]; rfl
  have b1 : w1.cell? ⟨w.heap.size, 1, none⟩ = some ev := by rw [cell_of hbox]; rfl
  have b2 : w1.cell? ⟨w.heap.size, 2, none⟩ = some rv := by rw [cell_of hbox]; rfl
  have HG : Hd (RightG (rN l) (es.map (rE (rN l))) (rs.map (rR (rN l)))) := hG
  clear hbox hF1 hG
  go_wp2_with fail
  refine (right_law l ev rv es rs w1 (HE.out.stay HF1.out) (HR.out.stay HF1.out) hel hrl).mono ?_
  rintro e w2 ⟨hev, hrv, rfl, hoe, hoi, hap, hF2⟩
  have HEL : Hd ((es.map (rE (rN l))).length = es.length) := List.length_map _
  have HRL : Hd ((rs.map (rR (rN l))).length = rs.length) := List.length_map _
  generalize es.map (rE (rN l)) = E at *
  generalize rs.map (rR (rN l)) = R at *
  generalize rN l = n at *
  have hal : Fr (fun _ => False) w2 (w2.alloc (.cells #[vI n, hev, hrv] 34)) := (Fr.refl _ w2).alloc _
  have HE2 : Hd (EdgesAt (w2.alloc (.cells #[vI n, hev, hrv] 34)).heap.size (w2.alloc (.cells #[vI n, hev, hrv] 34)) hev E) := hoe.at.stay hal
  have HR2 : Hd (IntsAt (w2.alloc (.cells #[vI n, hev, hrv] 34)).heap.size (w2.alloc (.cells #[vI n, hev, hrv] 34)) hrv R) := hoi.at.stay hal
  have HH2 : Hd _ := heap_alloc_last w2 (.cells #[vI n, hev, hrv] 34)
  have HF2 : Hd (Fr (fun _ => False) w (w2.alloc (.cells #[vI n, hev, hrv] 34))) := (HF1.out.trans hF2).trans hal
  obtain ⟨ea, ec, rfl⟩ := hoe.shape
  obtain ⟨ra, rc, rfl⟩ := hoi.shape
  clear hoe hoi hap hF2 hal b0 b1 b2 HF1
  go_wp2_with fail
  refine (from_any n _ _ E R _ HE2.out HR2.out (by have := HEL.out; omega) (by have := HRL.out; omega)).mono ?_
  rintro e w4 ⟨hF4, ⟨hno, -⟩ | ⟨-, xb, x, rfl, hxb, hrow, hleast⟩⟩
  · exact absurd HG.out hno
  rw [Int.toNat_natCast] at hrow hleast ⊢
  have HGS : Hd (Gs w w4 w4.heap.size w2.heap.size xb n (.slice ea E.length ec) (.slice ra R.length rc) E R x) :=
    ⟨(hF4.block _ (heap_lt HH2.out) (fun h => h)).trans HH2.out, HE2.out.stay hF4, HR2.out.stay hF4, hrow, ⟨Nat.lt_of_lt_of_le (heap_lt HH2.out) hF4.size, hrow.lt, (HF2.out.trans hF4).size, Nat.le_refl _⟩, HF2.out.trans hF4⟩
  have HL : Hd (Least n E R x) := hleast
  have hEb : E.length ≤ 5864062014634 := by have := HEL.out; omega
  obtain ⟨hb, hhb⟩ : ∃ x, x = w2.heap.size := ⟨_, rfl⟩
  rw [← hhb] at HGS ⊢
  clear hhb hF4 hrow hleast hxb HE2 HR2 HH2 HF2
  obtain ⟨h0, h1, h2⟩ := HGS.out.heads
  have hRb : R.length ≤ 17592186043904 := by have := HRL.out; omega
  obtain ⟨K, hK⟩ : ∃ K, K = w4.heap.size := ⟨_, rfl⟩
  rw [← hK] at HGS
  clear hK
  go_wp2_with fail
  go_loopw [7] (fun iv wr => ∃ (i : Nat), iv = .int .i64 i ∧ i ≤ R.length ∧ Hd (Gs w wr K hb xb n (.slice ea E.length ec) (.slice ra R.length rc) E R x)) (fun v _ => match v with | .int _ q => R.length - q.toNat | _ => 0)
  case atStart => exact ⟨0, rfl, Nat.zero_le _, HGS.out⟩
  case round =>
    obtain ⟨i, rfl, hi, HS⟩ := hrel
    clear HGS h0 h1 h2
    obtain ⟨h0, h1, h2⟩ := HS.out.heads
    by_cases hil : i < R.length
    · obtain ⟨rk, ro, hra, hrk, hrcs⟩ : ∃ k o, ra = some ⟨k, o, none⟩ ∧ k < K ∧ ∀ i (h : i < R.length), wr.cell? ⟨k, o + i, none⟩ = some (vI R[i]) := by
        obtain ⟨a, c, e1, -, e2⟩ := HS.out.r
        cases e1
        exact e2 (by intro e; simp [e] at hil)
      subst hra
      have hrr := HG.out.2.2 _ (List.getElem_mem hil)
      obtain ⟨aN, haN⟩ : ∃ aN : Nat, R[i] = aN := ⟨R[i].toNat, by omega⟩
      have d0 := hrcs i hil
      have hmem : (aN : Int) ∈ R := by rw [← haN]; exact List.getElem_mem hil
      rw [haN] at d0 hrr
      have haN' : aN < n := by omega
      have hx0 := HL.out.root aN hmem
      have c0 := HS.out.x.cell (i := aN) haN'
      have t0 : decide (0 < x aN) = false := by simp; omega
      generalize x aN = xa at c0 t0
      have hi0 : (0 : Int) ≤ i := by omega
      have hi1 : (i : Int) < R.length := by omega
      have ha0 : (0 : Int) ≤ aN := by omega
      have ha1 : (aN : Int) < n := by omega
      clear hrcs haN hrr hmem hx0
      go_wp2_with fail
      refine ⟨⟨i + 1, by simp, by omega, HS.out⟩, by simp; omega⟩
    · go_wp2_with fail
      go_loopw [8] (fun iv wr => ∃ (i : Nat), iv = .int .i64 i ∧ i ≤ E.length ∧ Hd (Gs w wr K hb xb n (.slice ea E.length ec) (.slice ra R.length rc) E R x)) (fun v _ => match v with | .int _ q => E.length - q.toNat | _ => 0)
      case atStart => exact ⟨0, rfl, Nat.zero_le _, HS.out⟩
      case round =>
        obtain ⟨i, rfl, hi, HS⟩ := hrel
        clear h0 h1 h2
        obtain ⟨h0, h1, h2⟩ := HS.out.heads
        by_cases hil : i < E.length
        · obtain ⟨ek, eo, hea, hek, hecs⟩ : ∃ k o, ea = some ⟨k, o, none⟩ ∧ k < K ∧ ∀ i (h : i < E.length), wr.cell? ⟨k, o + i * 3, none⟩ = some (vI E[i].1) ∧ wr.cell? ⟨k, o + i * 3 + 1, none⟩ = some (vI E[i].2.1) ∧ wr.cell? ⟨k, o + i * 3 + 2, none⟩ = some (vI E[i].2.2) := by
            obtain ⟨a, c, e1, -, e2⟩ := HS.out.e
            cases e1
            exact e2 (by intro e; simp [e] at hil)
          subst hea
          obtain ⟨d1, d2, d3⟩ := hecs i hil
          have hmem : E[i] ∈ E := List.getElem_mem hil
          have hre := HG.out.2.1 _ hmem
          obtain ⟨aN, sN, heq, haN, hsN⟩ := mem_nat hre
          have hle := HL.out.edge aN sN E[i].2.2 (by rw [← heq]; exact hmem)
          rw [show E[i].1 = (aN : Int) from congrArg Prod.fst heq] at d1
          rw [show E[i].2.1 = (sN : Int) from congrArg (fun e : Ed => e.2.1) heq] at d2
          obtain ⟨kk, hkk⟩ : ∃ kk, E[i].2.2 = kk := ⟨_, rfl⟩
          rw [hkk] at d3 hle
          have c0 := HS.out.x.cell (i := aN) haN
          have c1 := HS.out.x.cell (i := sN) hsN
          have t0 : decide (plusX (x aN) kk < x sN) = false := by simp; omega
          generalize x aN = xa at c0 t0
          generalize x sN = xs at c1 t0
          have hi0 : (0 : Int) ≤ i := by omega
          have hi1 : (i : Int) < E.length := by omega
          have ha0 : (0 : Int) ≤ aN := by omega
          have ha1 : (aN : Int) < n := by omega
          have hs0 : (0 : Int) ≤ sN := by omega
          have hs1 : (sN : Int) < n := by omega
          clear hecs hmem hre heq hle hkk
          go_wp2_with fail
          refine wp_region_still_tail 25 mixed (by kernel_rfl) ?_
          simp only [List.take_succ_cons, List.take_zero, List.drop_succ_cons, List.drop_zero]
          repeat still_step
          still_call (plus_any xa kk _)
          repeat still_step
          refine wpStill_nil ?_
          go_wp2_with fail
          refine ⟨⟨i + 1, by simp, by omega, HS.out.stay (Fr.drew (Fr.refl _ _))⟩, by simp; omega⟩
        · have HEA : Hd (EdgesAt wr.heap.size wr (.slice ea E.length ec) E) := HS.out.e.wide HS.out.lt.2.2.2
          have HRA : Hd (IntsAt wr.heap.size wr (.slice ra R.length rc) R) := HS.out.r.wide HS.out.lt.2.2.2
          go_wp2_with fail
          refine (tight_any n xb hn1 hn2 ea ra ec rc E R x wr HEA.out HRA.out HS.out.x HG.out HL.out hEb hRb).mono ?_
          rintro e w6 ⟨rfl, hF6⟩
          have HF6 : Hd (Fr (fun _ => False) w w6) := HS.out.fr.trans hF6
          clear hF6
          go_wp2_with fail
          go_ret
          exact ⟨rfl, HF6.out⟩

end Go.Proofs.Ytcjfmfddkhpfnaa
