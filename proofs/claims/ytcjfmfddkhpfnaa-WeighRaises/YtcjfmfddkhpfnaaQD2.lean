import Derived.Test.YtcjfmfddkhpfnaaQD1
namespace Go.Proofs.Ytcjfmfddkhpfnaa
open Go.RowKit (wrap32 wrap64)
set_option linter.unusedVariables false
set_option linter.unusedSimpArgs false

set_option maxRecDepth 100000 in
set_option maxHeartbeats 4000000 in
theorem raises_walk (l at0 by0 : Int) (ev rv : Value) (es : List Ed) (rs : List Int) (w : World) (hE : EdgesAt w.heap.size w ev es) (hR : IntsAt w.heap.size w rv rs) (hel : es.length ≤ 5864062014634) (hrl : rs.length ≤ 17592186043904) :
    Calls Try.prog 7 #[.agg #[vI l, ev, rv], vI at0, vI by0] w fun e w' => e = .returned (.bool true) ∧ Fr (fun _ => False) w w' := by
  have HE : Hd (EdgesAt w.heap.size w ev es) := hE
  have HR : Hd (IntsAt w.heap.size w rv rs) := hR
  clear hE hR
  have hG := right_of l es rs
  obtain ⟨-, hn1, hn2⟩ := rN_is l
  obtain ⟨i27, hi27, hz27, hs27, hb27⟩ := info_parts (P := Try.prog) (e := 27) (z := .agg #[vI 0, vI 0, vI 0]) (size := 3) (bytes := 24) (by kernel_rfl)
  go_enter Try.func7, Try.ntmps7
  go_wp2_with fail
  refine (fixed_any _).mono ?_
  rintro e w1 ⟨rfl, hF1⟩
  have hbox := box_kept hF1
  have HF1 : Hd (Fr (fun _ => False) w w1) := ((Fr.refl _ w).alloc _).trans hF1
  have b0 : w1.cell? ⟨w.heap.size, 0, none⟩ = some (vI l) := by rw [cell_of hbox]; rfl
  have b1 : w1.cell? ⟨w.heap.size, 1, none⟩ = some ev := by rw [cell_of hbox]; rfl
  have b2 : w1.cell? ⟨w.heap.size, 2, none⟩ = some rv := by rw [cell_of hbox]; rfl
  have HG : Hd (RightG (rN l) (es.map (rE (rN l))) (rs.map (rR (rN l)))) := hG
  clear hbox hF1 hG
  go_wp2_with fail
  refine (right_law l ev rv es rs w1 (HE.out.stay HF1.out) (HR.out.stay HF1.out) hel hrl).mono ?_
  rintro e w2 ⟨hev, hrv, rfl, hoe, hoi, hap, hF2⟩
  have HEL : Hd ((es.map (rE (rN l))).length = es.length) := List.length_map _
  have HRL : Hd ((rs.map (rR (rN l))).length = rs.length) := List.length_map _
  generalize es.map (rE (rN l)) = E at *
  generalize rs.map (rR (rN l)) = R at *
  generalize rN l = n at *
  have hal : Fr (fun _ => False) w2 (w2.alloc (.cells #[vI n, hev, hrv] 34)) := (Fr.refl _ w2).alloc _
  have HE2 : Hd (EdgesAt (w2.alloc (.cells #[vI n, hev, hrv] 34)).heap.size (w2.alloc (.cells #[vI n, hev, hrv] 34)) hev E) := hoe.at.stay hal
  have HR2 : Hd (IntsAt (w2.alloc (.cells #[vI n, hev, hrv] 34)).heap.size (w2.alloc (.cells #[vI n, hev, hrv] 34)) hrv R) := hoi.at.stay hal
  have HH2 : Hd _ := heap_alloc_last w2 (.cells #[vI n, hev, hrv] 34)
  have HF2 : Hd (Fr (fun _ => False) w (w2.alloc (.cells #[vI n, hev, hrv] 34))) := (HF1.out.trans hF2).trans hal
  obtain ⟨ea, ec, rfl⟩ := hoe.shape
  obtain ⟨ra, rc, rfl⟩ := hoi.shape
  clear hoe hoi hap hF2 hal b0 b1 b2 HF1
  go_wp2_with fail
  refine (from_any n _ _ E R _ HE2.out HR2.out (by have := HEL.out; omega) (by have := HRL.out; omega)).mono ?_
  rintro e w4 ⟨hF4, ⟨hno, -⟩ | ⟨-, xb, x, rfl, hxb, hrow, hleast⟩⟩
  · exact absurd HG.out hno
  rw [Int.toNat_natCast] at hrow hleast ⊢
  have HGS : Hd (Gs w w4 w4.heap.size w2.heap.size xb n (.slice ea E.length ec) (.slice ra R.length rc) E R x) :=
    ⟨(hF4.block _ (heap_lt HH2.out) (fun h => h)).trans HH2.out, HE2.out.stay hF4, HR2.out.stay hF4, hrow, ⟨Nat.lt_of_lt_of_le (heap_lt HH2.out) hF4.size, hrow.lt, (HF2.out.trans hF4).size, Nat.le_refl _⟩, HF2.out.trans hF4⟩
  have HL : Hd (Least n E R x) := hleast
  have hEb : E.length ≤ 5864062014634 := by have := HEL.out; omega
  obtain ⟨hb, hhb⟩ : ∃ x, x = w2.heap.size := ⟨_, rfl⟩
  rw [← hhb] at HGS ⊢
  clear hhb hF4 hrow hleast hxb HE2 HR2 HH2 HF2
  obtain ⟨h0, h1, h2⟩ := HGS.out.heads
  by_cases hEz : E.length = 0
  · have hEz' : ((E.length : Int) == 0) = true := by simp [hEz]
    go_wp2_with fail
    go_ret
    exact ⟨rfl, HGS.out.fr⟩
  have hEz' : ((E.length : Int) == 0) = false := by rw [beq_eq_false_iff_ne]; omega
  obtain ⟨k, hk⟩ : ∃ k : Nat, at0 % (E.length : Int) = k := ⟨(at0 % (E.length : Int)).toNat, by have := Int.emod_nonneg at0 (show (E.length : Int) ≠ 0 by omega); omega⟩
  have hkl : k < E.length := by have := Int.emod_lt_of_pos at0 (show (0 : Int) < E.length by omega); omega
  have m0 : ∀ v : World, Calls Try.prog 10 #[vI at0, .int .i64 E.length] v fun e w' => e = .returned (vI (k : Nat)) ∧ w' = v := fun v => by
    have := mod_int at0 E.length (by omega) (by omega) v
    rw [hk] at this
    exact this
  clear hk
  go_wp2_with fail
  refine (m0 _).mono ?_
  rintro e w5 ⟨rfl, rfl⟩
  go_wp2_with fail
  refine (copyEdges_any _ E w5 (HGS.out.e.wide HGS.out.lt.2.2.2) hEb).mono ?_
  rintro e w6 ⟨cv, rfl, hoc, hF6⟩
  obtain ⟨K, hK⟩ : ∃ K, K = w5.heap.size := ⟨_, rfl⟩
  rw [← hK] at HGS hoc
  have HS6 : Hd _ := HGS.out.stay hF6
  have HOC : Hd (OwnE w6 K cv E) := hoc
  clear hoc hF6 HGS h0 h1 h2 m0 hK
  obtain ⟨ca, cc, rfl⟩ := HOC.out.shape
  obtain ⟨cb, hca⟩ : ∃ cb, ca = some ⟨cb, 0, none⟩ := by
    rcases HOC.out.2 with ⟨h2, h3⟩ | ⟨g, cap, cur, e, -⟩
    · exact absurd h3 hEz
    · cases e; exact ⟨g, rfl⟩
  subst hca
  have hc0 : w6.cell? ⟨cb, k * 3 + 2, none⟩ = some (vI E[k].2.2) := by
    obtain ⟨a, c, e1, -, e2⟩ := HOC.out.at
    obtain ⟨kk, oo, e3, -, e4⟩ := e2 (by intro e; simp [e] at hEz)
    cases e1
    cases e3
    have := (e4 k hkl).2.2
    rw [Nat.zero_add] at this
    exact this
  have hz0 : w6.frozen? ⟨cb, k * 3 + 2, none⟩ = false := by
    rcases HOC.out.2 with ⟨h2, h3⟩ | ⟨g, cap, cur, e, -, h4, -⟩
    · exact absurd h3 hEz
    · cases e; exact frozen_of h4 _
  have hre := (HG.out.2.1 _ (List.getElem_mem hkl)).2.2
  have hrd : -1 ≤ E[k].2.2 ∧ E[k].2.2 ≤ 3 := by simpa [flowsX] using hre
  have HSD : Hd (∀ d : Int, OwnE (w6.setCell ⟨cb, k * 3 + 2, none⟩ (vI d)) K (.slice (some ⟨cb, 0, none⟩) E.length cc) (E.set k (E[k].1, E[k].2.1, d))) := fun d => HOC.out.setD k hkl d
  have HCB : Hd (K ≤ cb) := (HOC.out.ge cb rfl).1
  have HRR : Hd (∀ d, flowsX d = true → RightG n (E.set k (E[k].1, E[k].2.1, d)) R) := fun d hf => raised_right hkl HG.out hf
  have HREA : Hd (∀ d, flowsX d = true → E[k].2.2 ≤ d → ∀ i w, Reach (E.set k (E[k].1, E[k].2.1, d)) R i w → ∃ w', w' ≤ w ∧ Reach E R i w') := fun d hf hd i w r => raised_reach hkl HG.out hf hd r
  have HREB : Hd (∀ d i w, Reach E R i w → ∃ w', Reach (E.set k (E[k].1, E[k].2.1, d)) R i w') := fun d i w r => raised_back hkl r
  have HREC : Hd (∀ d i w, Reach (lessF E k E.length) R i w → Reach (E.set k (E[k].1, E[k].2.1, d)) R i w) := fun d i w r => less_reach hkl r
  have HRL2 : Hd (RightG n (lessF E k E.length) R) := less_right hkl HG.out
  have HSL : Hd (∀ d, (E.set k (E[k].1, E[k].2.1, d)).length = E.length) := fun d => List.length_set
  obtain ⟨dd, hdd⟩ : ∃ dd, dd = by0 % (4 - E[k].2.2) := ⟨_, rfl⟩
  have hdd0 : 0 ≤ dd ∧ dd < 4 - E[k].2.2 := by
    rw [hdd]
    exact ⟨Int.emod_nonneg _ (by omega), Int.emod_lt_of_pos _ (by omega)⟩
  have HDD : Hd (by0 % (4 - E[k].2.2) = dd) := hdd.symm
  obtain ⟨d0, hd0⟩ : ∃ d0, d0 = E[k].2.2 := ⟨_, rfl⟩
  rw [← hd0] at hc0 hrd HREA hdd0 HDD
  clear hd0 hre hdd
  have hw1 : IntKind.i64.wrap (4 - d0) = 4 - d0 := by simp [IntKind.wrap, IntKind.bits, IntKind.signed]; omega
  have hw2 : IntKind.i64.wrap (d0 + dd) = d0 + dd := by simp [IntKind.wrap, IntKind.bits, IntKind.signed]; omega
  have hk0 : (0 : Int) ≤ k := by omega
  have hk1 : (k : Int) < E.length := by omega
  go_upto_region 10 with fail
  have HS0 : (fun w' : World => w'.cell? ⟨cb, k * 3 + 2, none⟩ = some (vI d0)) w6.drew := hc0
  refine wp_region_T (S := fun w' : World => w'.cell? ⟨cb, k * 3 + 2, none⟩ = some (vI d0)) (t := 18) mixed ?_
  refine wpAnyT_takeAt (i := 0) 57 (v := ?_) rfl rfl (by kernel_rfl) (by kernel_rfl) (by kernel_rfl) (by kernel_rfl) (fun _ _ _ h => h) (Or.inl ⟨by rfl, fun w hSw => (by go_simp; try with_reducible rfl)⟩) HS0 ?_
  simp only [Act.put, List.setIfInBounds_toArray, List.set_cons_zero, List.set_cons_succ]
  refine wpAnyT_takeAt (i := 1) 58 (v := ?_) rfl rfl (by kernel_rfl) (by kernel_rfl) (by kernel_rfl) (by kernel_rfl) (fun _ _ _ h => h) (Or.inl ⟨by rfl, fun w hSw => (by go_simp; try with_reducible rfl)⟩) HS0 ?_
  simp only [Act.put, List.setIfInBounds_toArray, List.set_cons_zero, List.set_cons_succ]
  refine wpAnyT_takeAt (i := 2) 59 (v := ?_) rfl rfl (by kernel_rfl) (by kernel_rfl) (by kernel_rfl) (by kernel_rfl) (fun _ _ _ h => h) (Or.inl ⟨by rfl, fun w hSw => (by go_simp; try with_reducible rfl)⟩) HS0 ?_
  simp only [Act.put, List.setIfInBounds_toArray, List.set_cons_zero, List.set_cons_succ]
  refine wpAnyT_takeAt (i := 3) 60 (v := ?_) rfl rfl (by kernel_rfl) (by kernel_rfl) (by kernel_rfl) (by kernel_rfl) (fun _ _ _ h => h) (Or.inl ⟨by rfl, fun w hSw => (by go_simp; try with_reducible rfl)⟩) HS0 ?_
  simp only [Act.put, List.setIfInBounds_toArray, List.set_cons_zero, List.set_cons_succ]
  refine wpAnyT_takeAt (i := 4) 61 (v := ?_) rfl rfl (by kernel_rfl) (by kernel_rfl) (by kernel_rfl) (by kernel_rfl) (fun _ _ _ h => h) (Or.inl ⟨by rfl, fun w hSw => (by go_simp; try with_reducible rfl)⟩) HS0 ?_
  simp only [Act.put, List.setIfInBounds_toArray, List.set_cons_zero, List.set_cons_succ]
  refine wpAnyT_takeAt (i := 5) 62 (v := ?_) rfl rfl (by kernel_rfl) (by kernel_rfl) (by kernel_rfl) (by kernel_rfl) (fun _ _ _ h => h) (Or.inl ⟨by rfl, fun w hSw => (by go_simp; try with_reducible rfl)⟩) HS0 ?_
  simp only [Act.put, List.setIfInBounds_toArray, List.set_cons_zero, List.set_cons_succ]
  refine wpAnyT_takeAt (i := 6) 63 (v := ?_) rfl rfl (by kernel_rfl) (by kernel_rfl) (by kernel_rfl) (by kernel_rfl) (fun _ _ _ h => h) (Or.inl ⟨by rfl, fun w hSw => (by go_simp; try with_reducible rfl)⟩) HS0 ?_
  simp only [Act.put, List.setIfInBounds_toArray, List.set_cons_zero, List.set_cons_succ]
  refine wpAnyT_takeAt (i := 7) 64 (v := ?_) rfl rfl (by kernel_rfl) (by kernel_rfl) (by kernel_rfl) (by kernel_rfl) (fun _ _ _ h => h) (Or.inl ⟨by rfl, fun w hSw => (by go_simp; try with_reducible rfl)⟩) HS0 ?_
  simp only [Act.put, List.setIfInBounds_toArray, List.set_cons_zero, List.set_cons_succ]
  refine wpAnyT_takeAt (i := 8) 65 (v := ?_) rfl rfl (by kernel_rfl) (by kernel_rfl) (by kernel_rfl) (by kernel_rfl) (fun _ _ _ h => h) (Or.inl ⟨by rfl, fun w hSw => (by go_simp; try with_reducible rfl)⟩) HS0 ?_
  simp only [Act.put, List.setIfInBounds_toArray, List.set_cons_zero, List.set_cons_succ]
  refine wpAnyT_takeAt (i := 9) 66 (v := ?_) rfl rfl (by kernel_rfl) (by kernel_rfl) (by kernel_rfl) (by kernel_rfl) (fun _ _ _ h => h) (Or.inl ⟨by rfl, fun w hSw => (by go_simp; try with_reducible rfl)⟩) HS0 ?_
  simp only [Act.put, List.setIfInBounds_toArray, List.set_cons_zero, List.set_cons_succ]
  refine wpAnyT_takeAt (i := 10) 67 (v := ?_) rfl rfl (by kernel_rfl) (by kernel_rfl) (by kernel_rfl) (by kernel_rfl) (fun _ _ _ h => h) (Or.inl ⟨by rfl, fun w hSw => (by go_simp; try with_reducible rfl)⟩) HS0 ?_
  simp only [Act.put, List.setIfInBounds_toArray, List.set_cons_zero, List.set_cons_succ]
  refine wpAnyT_takeAt (i := 11) 68 (v := ?_) rfl rfl (by kernel_rfl) (by kernel_rfl) (by kernel_rfl) (by kernel_rfl) (fun _ _ _ h => h) (Or.inl ⟨by rfl, fun w hSw => (by go_simp; try with_reducible rfl)⟩) HS0 ?_
  simp only [Act.put, List.setIfInBounds_toArray, List.set_cons_zero, List.set_cons_succ]
  refine wpAnyT_takeAt (i := 12) 69 (v := ?_) rfl rfl (by kernel_rfl) (by kernel_rfl) (by kernel_rfl) (by kernel_rfl) (fun _ _ _ h => h) (Or.inl ⟨by rfl, fun w hSw => (by go_simp; try with_reducible rfl)⟩) HS0 ?_
  simp only [Act.put, List.setIfInBounds_toArray, List.set_cons_zero, List.set_cons_succ]
  refine wpAnyT_takeAt (i := 13) 70 (v := ?_) rfl rfl (by kernel_rfl) (by kernel_rfl) (by kernel_rfl) (by kernel_rfl) (fun _ _ _ h => h) (Or.inl ⟨by rfl, fun w hSw => (by go_simp; try with_reducible rfl)⟩) HS0 ?_
  simp only [Act.put, List.setIfInBounds_toArray, List.set_cons_zero, List.set_cons_succ]
  refine wpAnyT_one (i := 14) rfl (by kernel_rfl) ?_
  intro K' HK
  go_simp
  refine (mod_int _ _ (by omega) (by omega) _).mono ?_
  rintro e w7 ⟨rfl, rfl⟩
  rw [show by0 % (4 - d0) = dd from HDD.out]
  refine HK.out _ _ (fun _ => HS0) ?_
  clear HK
  refine wpAnyT_takeAt (i := 15) 72 (v := ?_) rfl rfl (by kernel_rfl) (by kernel_rfl) (by kernel_rfl) (by kernel_rfl) (fun _ _ _ h => h) (Or.inl ⟨by rfl, fun w hSw => (by go_simp; try with_reducible rfl)⟩) HS0 ?_
  simp only [Act.put, List.setIfInBounds_toArray, List.set_cons_zero, List.set_cons_succ]
  refine wpAnyT_one (i := 16) rfl (by kernel_rfl) ?_
  intro K' HK
  go_simp
  refine HK.out _ _ (fun _ => HS0) ?_
  clear HK
  refine wpAnyT_takeAt (i := 17) 74 (v := ?_) rfl rfl (by kernel_rfl) (by kernel_rfl) (by kernel_rfl) (by kernel_rfl) (fun _ _ _ h => h) (Or.inl ⟨by rfl, fun w hSw => (by go_simp; try with_reducible rfl)⟩) HS0 ?_
  simp only [Act.put, List.setIfInBounds_toArray, List.set_cons_zero, List.set_cons_succ]
  refine wpAnyT_one (i := 18) rfl (by kernel_rfl) ?_
  intro K' HK
  go_simp
  refine HK.out _ _ (fun h => absurd rfl h) ?_
  refine wpAnyT_done (by kernel_rfl) ?_ _
  clear HK HS0
  have hfl : flowsX (d0 + dd) = true := by simp [flowsX]; omega
  have HG7 : Hd (RightG n (E.set k (E[k].1, E[k].2.1, d0 + dd)) R) := HRR.out _ hfl
  have HO7 : Hd (OwnE (w6.setCell ⟨cb, k * 3 + 2, none⟩ (vI (d0 + dd))).drew K (.slice (some ⟨cb, 0, none⟩) E.length cc) (E.set k (E[k].1, E[k].2.1, d0 + dd))) := HSD.out (d0 + dd)
  have HS7 : Hd _ := HS6.out.keep (Fr.drew (Fr.setCell (S := fun j => j = cb) (Fr.refl _ w6) ⟨cb, k * 3 + 2, none⟩ (vI (d0 + dd)) (Or.inl rfl))) (fun j hj e => by have := HCB.out; omega)
  have HA7 : Hd (∀ i w, Reach (E.set k (E[k].1, E[k].2.1, d0 + dd)) R i w → ∃ w', w' ≤ w ∧ Reach E R i w') := HREA.out _ hfl (by omega)
  have HB7 : Hd (∀ i w, Reach E R i w → ∃ w', Reach (E.set k (E[k].1, E[k].2.1, d0 + dd)) R i w') := fun i w => HREB.out (d0 + dd) i w
  have HC7 : Hd (∀ i w, Reach (lessF E k E.length) R i w → Reach (E.set k (E[k].1, E[k].2.1, d0 + dd)) R i w) := fun i w => HREC.out (d0 + dd) i w
  have HL7 : Hd ((E.set k (E[k].1, E[k].2.1, d0 + dd)).length = E.length) := HSL.out _
  have HGE : Hd (∀ e ∈ E.set k (E[k].1, E[k].2.1, d0 + dd), RightE n e) := HG7.out.2.1
  generalize (w6.setCell ⟨cb, k * 3 + 2, none⟩ (vI (d0 + dd))).drew = w7 at *
  generalize E.set k (E[k].1, E[k].2.1, d0 + dd) = E2 at *
  clear HS6 HOC hc0 hz0 hrd HSD HRR HREA HREB HREC HSL hdd0 HDD hw1 hw2 hfl
  obtain ⟨h0, h1, h2⟩ := HS7.out.heads
  have HEA : Hd (EdgesAt w7.heap.size w7 (.slice (some ⟨cb, 0, none⟩) E.length cc) E2) := HO7.out.at
  have HE2l : Hd (E2.length = E.length) := HL7.out
  go_wp2_with fail
  refine (from_any n _ _ E2 R w7 HEA.out (HS7.out.r.wide HS7.out.lt.2.2.2) (by have := HE2l.out; omega) (by have := HRL.out; omega)).mono ?_
  rintro e w8 ⟨hF8, ⟨hno, -⟩ | ⟨-, yb, y, rfl, hyb, hrowy, hleasty⟩⟩
  · exact absurd HG7.out hno
  rw [Int.toNat_natCast] at hrowy hleasty ⊢
  have HS8 : Hd _ := HS7.out.stay hF8
  have HLY : Hd (Least n E2 R y) := hleasty
  have HRY : Hd (Row w8 3 yb n (fun i => vI (y i))) := hrowy
  obtain ⟨K2, hK2⟩ : ∃ K2, K2 = w8.heap.size := ⟨_, rfl⟩
  have HK2 : Hd (yb < K2 ∧ K ≤ K2) := by
    have := hrowy.lt
    have := HS8.out.lt.2.2.2
    unfold Hd
    omega
  have HK3 : Hd (K2 ≤ w8.heap.size) := by unfold Hd; omega
  clear hF8 hyb hrowy hleasty HEA HO7 HS7 hK2 h0 h1 h2 HG7
  go_wp2_with fail
  go_loopw [14, 15] (fun tv qv wr => ∃ (q : Nat), qv = .int .i64 q ∧ q ≤ E.length ∧ Hd (OwnE wr K2 tv (lessF E k q)) ∧ Hd (Gs w wr K hb xb n (.slice ea E.length ec) (.slice ra R.length rc) E R x) ∧ Hd (Row wr 3 yb n (fun i => vI (y i))) ∧ Hd (K2 ≤ wr.heap.size)) (fun _ v _ => match v with | .int _ q => E.length - q.toNat | _ => 0)
  case atStart => exact ⟨0, rfl, Nat.zero_le _, OwnE.nil _ _, HS8.out, HRY.out, HK3.out⟩
  case round =>
    obtain ⟨q, rfl, hq, HO, HS, HY, HKw⟩ := hrel
    clear HS8 HRY HK3
    obtain ⟨h0, h1, h2⟩ := HS.out.heads
    by_cases hqlt : q < E.length
    · obtain ⟨ek, eo, hea, hek, hecs⟩ : ∃ k o, ea = some ⟨k, o, none⟩ ∧ k < K ∧ ∀ i (h : i < E.length), wr.cell? ⟨k, o + i * 3, none⟩ = some (vI E[i].1) ∧ wr.cell? ⟨k, o + i * 3 + 1, none⟩ = some (vI E[i].2.1) ∧ wr.cell? ⟨k, o + i * 3 + 2, none⟩ = some (vI E[i].2.2) := by
        obtain ⟨a, c, e1, -, e2⟩ := HS.out.e
        cases e1
        exact e2 (by intro e; simp [e] at hqlt)
      subst hea
      obtain ⟨d1, d2, d3⟩ := hecs q hqlt
      rw [← eg_get hqlt] at d1 d2 d3
      clear hecs
      have hq0 : (0 : Int) ≤ q := by omega
      have hq1 : (q : Int) < E.length := by omega
      by_cases hqk : q = k
      · have hqk' : ((q : Int) != (k : Int)) = false := by simp; omega
        have HT : Hd (lessF E k (q + 1) = lessF E k q) := by unfold Hd lessF; rw [if_pos hqk]; cases q <;> rfl
        clear hqk
        go_wp2_with fail
        refine ⟨⟨q + 1, by simp, by omega, ?_, HS.out, HY.out, HKw.out⟩, by simp; omega⟩
        unfold Hd; rw [HT.out]; exact HO.out
      · have hqk' : ((q : Int) != (k : Int)) = true := by simp; omega
        have HT : Hd (lessF E k (q + 1) = lessF E k q ++ [eg E q]) := by
          unfold Hd
          rw [show lessF E k (q + 1) = (if q = k then lessF E k q else lessF E k q ++ [eg E q]) from rfl, if_neg hqk]
        have hil := lessF_len E k q
        obtain ⟨I, hI⟩ : ∃ I, I = lessF E k q := ⟨_, rfl⟩
        rw [← hI] at HO HT hil
        obtain ⟨e, he⟩ : ∃ e, eg E q = e := ⟨_, rfl⟩
        rw [he] at d1 d2 d3 HT
        clear hI he hqk
        obtain ⟨e0, e1, e2⟩ := e
        simp only at d1 d2 d3
        have hkw := HKw.out
        have HO1 : Hd ((wr.alloc (.cells #[vI e0, vI e1, vI e2] 27)).ownsRow K2 27 3 u14 I.length (eCells I)) := World.ownsRow.alloc HO.out _
        have hnews : ∀ j u, [vI e0, vI e1, vI e2][j]? = some u → (wr.alloc (.cells #[vI e0, vI e1, vI e2] 27)).cell? ((⟨wr.heap.size, 0, none⟩ : Addr).add j) = some u :=
          World.news_of_block (cs := #[vI e0, vI e1, vI e2]) (heap_alloc_last wr (.cells #[vI e0, vI e1, vI e2] 27))
        have hbase : K2 ≤ (wr.alloc (.cells #[vI e0, vI e1, vI e2] 27)).heap.size := by simp; omega
        have hIb : I.length + 1 ≤ 5864062014635 := by omega
        go_wp2_with ((at_builtin; refine Hd.out ?_))
        unfold Hd
        refine wpList_append_lies _ rfl (.tmp 94) (.tmp 100) 24 rfl K2 27 i27 (.agg #[vI 0, vI 0, vI 0]) 3 24 under24 hi27 hz27 hs27 hb27 rfl (by omega) u14 I.length _ rfl HO1.out ⟨wr.heap.size, 0, none⟩ 1 1 [vI e0, vI e1, vI e2] rfl rfl hnews (by intro u hu; simp at hu; rcases hu with rfl | rfl | rfl <;> rfl) (by omega) (by unfold maxLen; omega) (by omega) hbase (wr.heap.size + 1) (by simp) ?_
        intro g6 cap6 w9 hown6 hgrow6 hat6 hlt6
        have HO6 : Hd (OwnE w9 K2 (.slice (some ⟨g6, 0, none⟩) (I.length + 1) cap6) (I ++ [(e0, e1, e2)])) := OwnE.of (e := (e0, e1, e2)) hown6
        have hfa : Fr (fun _ => False) wr (wr.alloc (.cells #[vI e0, vI e1, vI e2] 27)) := (Fr.refl _ wr).alloc _
        have HS6 : Hd _ := (HS.out.stay hfa).keep (grown_fr hgrow6) (fun j hj e => by have := (HO.out.ge j e).1; have := HK2.out; omega)
        have HY6 : Hd _ := (HY.out.fr hfa (fun h => h)).fr (grown_fr hgrow6) (fun e => by have := (HO.out.ge yb e).1; have := HK2.out; omega)
        have HKw6 : Hd (K2 ≤ w9.heap.size) := by have := hgrow6.size; unfold Hd; omega
        clear hown6 hgrow6 hat6 hlt6 HO HS HO1 hnews hbase h0 h1 h2 d1 d2 d3 HY HKw hkw hfa
        go_wp2_with fail
        refine ⟨⟨q + 1, by simp, by omega, ?_, HS6.out, HY6.out, HKw6.out⟩, by simp; omega⟩
        unfold Hd; rw [HT.out]; exact HO6.out
    · have hqe : q = E.length := by omega
      have HO2 : Hd (OwnE wr K2 u14 (lessF E k E.length)) := by have := HO.out; rw [hqe] at this; exact this
      have hil := lessF_len E k E.length
      generalize lessF E k E.length = I at *
      clear HO hqe
      obtain ⟨ia, ic, rfl⟩ := HO2.out.shape
      go_wp2_with fail
      refine (from_any n _ _ I R wr HO2.out.at (HS.out.r.wide HS.out.lt.2.2.2) (by omega) (by have := HRL.out; omega)).mono ?_
      rintro e w9 ⟨hF9, ⟨hno, -⟩ | ⟨-, zb, z, rfl, hzb, hrowz, hleastz⟩⟩
      · exact absurd HRL2.out hno
      rw [Int.toNat_natCast] at hrowz hleastz ⊢
      have HX9 : Hd (Row w9 3 xb n (fun i => vI (x i))) := HS.out.x.fr hF9 (fun h => h)
      have HY9 : Hd (Row w9 3 yb n (fun i => vI (y i))) := HY.out.fr hF9 (fun h => h)
      have HZ9 : Hd (Row w9 3 zb n (fun i => vI (z i))) := hrowz
      have HF9 : Hd (Fr (fun _ => False) w w9) := HS.out.fr.trans hF9
      have HG2 : Hd (RightG n E2 R) := by
        refine ⟨HG.out.1, fun e he => ?_, HG.out.2.2⟩
        exact HGE.out e he
      have HXY : Hd (∀ i, i < n → x i ≤ y i ∧ y i ≤ z i ∧ (x i = 9 ↔ y i = 9)) := by
        intro i hi
        refine ⟨HLY.out.mono HG2.out HG.out HL.out HA7.out hi, hleastz.mono HRL2.out HG2.out HLY.out (fun j d r => ⟨d, Int.le_refl _, HC7.out j d r⟩) hi, ?_⟩
        rw [HL.out.nine HG.out hi, HLY.out.nine HG2.out hi]
        constructor
        · intro h d r
          obtain ⟨w', -, r'⟩ := HA7.out i d r
          exact h w' r'
        · intro h d r
          obtain ⟨w', r'⟩ := HB7.out i d r
          exact h w' r'
      clear hF9 hzb hrowz hleastz HO2 HS HY HKw h0 h1 h2
      go_wp2_with fail
      go_loopw [18] (fun v wr => ∃ (i : Nat), v = .int .i64 i ∧ i ≤ n ∧ Hd (Row wr 3 xb n (fun i => vI (x i))) ∧ Hd (Row wr 3 yb n (fun i => vI (y i))) ∧ Hd (Row wr 3 zb n (fun i => vI (z i))) ∧ Hd (Fr (fun _ => False) w wr)) (fun v _ => match v with | .int _ q => n - q.toNat | _ => 0)
      case atStart => exact ⟨0, rfl, Nat.zero_le _, HX9.out, HY9.out, HZ9.out, HF9.out⟩
      case round =>
        obtain ⟨i, rfl, hi, HX, HY, HZ, HF⟩ := hrel
        clear HX9 HY9 HZ9 HF9
        by_cases hin : i < n
        · obtain ⟨q1, q2, q3⟩ := HXY.out i hin
          have x0 := HX.out.cell (i := i) hin
          have y0 := HY.out.cell (i := i) hin
          have z0 := HZ.out.cell (i := i) hin
          generalize x i = xi at x0 q1 q3
          generalize y i = yi at y0 q1 q2 q3
          generalize z i = zi at z0 q2
          have t1 : decide (yi < xi) = false := by simp; omega
          have t2 : decide (zi < yi) = false := by simp; omega
          have t3 : (!((xi == 9) == (yi == 9))) = false := by
            by_cases h : xi = 9
            · have := q3.1 h; subst h; subst this; rfl
            · have h' : yi ≠ 9 := fun e => h (q3.2 e)
              rw [beq_eq_false_iff_ne.2 h, beq_eq_false_iff_ne.2 h']; rfl
          have hi0 : (0 : Int) ≤ i := by omega
          have hi1 : (i : Int) < n := by omega
          clear q1 q2 q3
          go_wp2_with fail
          go_quiet (fail)
          go_wp2_with fail
          refine ⟨⟨i + 1, by simp, by omega, HX.out.fr (Fr.drewN (Fr.refl (fun _ => False) _) _) (fun h => h), HY.out.fr (Fr.drewN (Fr.refl (fun _ => False) _) _) (fun h => h), HZ.out.fr (Fr.drewN (Fr.refl (fun _ => False) _) _) (fun h => h), HF.out.drewN _⟩, by simp; omega⟩
        · go_wp2_with fail
          go_ret
          exact ⟨rfl, HF.out⟩

end Go.Proofs.Ytcjfmfddkhpfnaa
