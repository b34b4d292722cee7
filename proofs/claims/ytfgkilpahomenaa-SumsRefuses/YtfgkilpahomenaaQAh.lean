import Derived.Test.YtfgkilpahomenaaQAg
namespace Go.Proofs.Ytfgkilpahomenaa
open Go.RowKit (wrap32 wrap64)
set_option linter.unusedVariables false
set_option linter.unusedSimpArgs false

set_option maxRecDepth 100000 in
set_option maxHeartbeats 8000000 in
theorem order_any (p r : Int) (va vb vc : Value) (la lb lc : List Int) (w : World) (ha : IA w va la) (hb : IA w vb lb) (hc : IA w vc lc) (za : la.length ≤ 17592186043904) (zb : lb.length ≤ 17592186043904) (zc : lc.length ≤ 17592186043904) :
    Calls Try.prog 3 #[.agg #[vI p, vI r, va, vb, vc]] w fun e w' => e = .returned (.bool true) ∧ Fr (fun _ => False) w w' := by
  have IAa : Hd (IA w va la) := ha
  have IAb : Hd (IA w vb lb) := hb
  have IAc : Hd (IA w vc lc) := hc
  obtain ⟨aa1, aa2, rfl, -⟩ := ha
  obtain ⟨bb1, bb2, rfl, -⟩ := hb
  obtain ⟨cc1, cc2, rfl, -⟩ := hc
  obtain ⟨P, hP⟩ : ∃ P : Nat, modX p 9 = P := ⟨(modX p 9).toNat, by have := modX_bound p 9 (by omega); omega⟩
  obtain ⟨R, hR⟩ : ∃ R : Nat, modX r 5 = R := ⟨(modX r 5).toNat, by have := modX_bound r 5 (by omega); omega⟩
  have hP8 : P ≤ 8 := by have := modX_bound p 9 (by omega); omega
  have hR4 : R ≤ 4 := by have := modX_bound r 5 (by omega); omega
  have HP : Hd (modX p 9 = P) := hP
  have HR : Hd (modX r 5 = R) := hR
  clear hP hR
  obtain ⟨H, hH⟩ : ∃ H, H = w.heap.size := ⟨_, rfl⟩
  obtain ⟨w0, hw0⟩ : ∃ w0, w0 = w.alloc (.cells #[vI p, vI r, .slice aa1 la.length aa2, .slice bb1 lb.length bb2, .slice cc1 lc.length cc2] 24) := ⟨_, rfl⟩
  have HH : Hd (H = w.heap.size) := hH
  have HW0 : Hd (w0 = w.alloc (.cells #[vI p, vI r, .slice aa1 la.length aa2, .slice bb1 lb.length bb2, .slice cc1 lc.length cc2] 24)) := hw0
  have LT : Hd (w0.heap[H]? = some (.cells #[vI p, vI r, .slice aa1 la.length aa2, .slice bb1 lb.length bb2, .slice cc1 lc.length cc2] 24)) := by unfold Hd; rw [hw0, hH]; exact heap_new w _
  have HF : Hd (Fr (fun _ => False) w w0) := by unfold Hd; rw [hw0]; exact Fr.alloc (Fr.refl _ w) _
  clear hH hw0
  go_enter Try.func3, Try.ntmps3
  go_upto_region 1 with fail
  rw [← HW0.out, ← HH.out]
  clear HW0
  go_wp2_with fail
  refine (show Calls Try.prog 7 #[] w0 _ from fixed_any w0).mono ?_
  rintro e w1 ⟨rfl, hF1⟩
  have LT : Hd (w1.heap[H]? = some (.cells #[vI p, vI r, .slice aa1 la.length aa2, .slice bb1 lb.length bb2, .slice cc1 lc.length cc2] 24)) := keepF LT.out hF1
  have HF : Hd (Fr (fun _ => False) w w1) := HF.out.trans hF1
  clear hF1
  have q0 : w1.cell? ⟨H, 0, none⟩ = some (vI p) := by rw [cell_of LT.out]; rfl
  have q1 : w1.cell? ⟨H, 1, none⟩ = some (vI r) := by rw [cell_of LT.out]; rfl
  have q2 : w1.cell? ⟨H, 2, none⟩ = some (.slice aa1 la.length aa2) := by rw [cell_of LT.out]; rfl
  go_wp2_with fail
  refine (show Calls Try.prog 8 #[vI p, vI r, .slice aa1 la.length aa2] w1 _ from shaped_form p r P R _ la w1 (IAa.out.stay HF.out) za HP.out HR.out).mono ?_
  clear q0 q1 q2
  rintro e w2 ⟨sa, ha1, ha2, ra1, ra2, rfl, hsa, hrt, hF1⟩
  obtain ⟨w3, hw⟩ : ∃ W, W = (w2.alloc (.cells #[vI P, vI R, vI 0, .slice none 0 0] 28)).alloc (.cells #[.slice ha1 P ha2, .slice ra1 P ra2] 31) := ⟨_, rfl⟩
  obtain ⟨XFa, hXF⟩ : ∃ X, X = w2.heap.size := ⟨_, rfl⟩
  have hF2 : Fr (fun _ => False) w2 w3 := by rw [hw]; exact Fr.alloc (Fr.alloc (Fr.refl _ _) _) _
  have hF3 := hF1.trans hF2
  have LN : Loc (fun _ => True) w3 (XFa + 1) P R (.slice ha1 P ha2) (.slice ra1 P ra2) sa := by
    have := Loc.new (Q := (fun _ => True)) (W := w2.alloc (.cells #[vI P, vI R, vI 0, .slice none 0 0] 28)) ((hsa.stay (Fr.alloc (Fr.refl _ _) _)).q (fun _ _ => trivial)) hrt
    rw [World.size_alloc, ← hXF, ← hw] at this; exact this
  have LF : Hd (w3.heap[XFa]? = some (.cells #[vI P, vI R, vI 0, .slice none 0 0] 28)) := by unfold Hd; rw [hw, hXF]; exact keepA (heap_new _ _) _
  have LT : Hd (w3.heap[H]? = some (.cells #[vI p, vI r, .slice aa1 la.length aa2, .slice bb1 lb.length bb2, .slice cc1 lc.length cc2] 24)) := keepF LT.out hF3
  have HF : Hd (Fr (fun _ => False) w w3) := HF.out.trans hF3
  go_upto_region 3 with fail
  rw [← hXF, ← hw]
  obtain ⟨Xa, hX⟩ : ∃ X, X = XFa + 1 := ⟨_, rfl⟩
  rw [← hX] at LN ⊢
  have La : Hd (Loc (fun _ => True) w3 Xa P R (.slice ha1 P ha2) (.slice ra1 P ra2) sa) := LN
  clear LN hX hw hXF hF1 hF2 hF3 hsa hrt
  have q0 : w3.cell? ⟨H, 0, none⟩ = some (vI p) := by rw [cell_of LT.out]; rfl
  have q1 : w3.cell? ⟨H, 1, none⟩ = some (vI r) := by rw [cell_of LT.out]; rfl
  have q2 : w3.cell? ⟨H, 3, none⟩ = some (.slice bb1 lb.length bb2) := by rw [cell_of LT.out]; rfl
  go_wp2_with fail
  refine (show Calls Try.prog 8 #[vI p, vI r, .slice bb1 lb.length bb2] w3 _ from shaped_form p r P R _ lb w3 (IAb.out.stay HF.out) zb HP.out HR.out).mono ?_
  clear q0 q1 q2
  rintro e w4 ⟨sb, hb1, hb2, rb1, rb2, rfl, hsa, hrt, hF1⟩
  obtain ⟨w5, hw⟩ : ∃ W, W = (w4.alloc (.cells #[vI P, vI R, vI 0, .slice none 0 0] 28)).alloc (.cells #[.slice hb1 P hb2, .slice rb1 P rb2] 31) := ⟨_, rfl⟩
  obtain ⟨XFb, hXF⟩ : ∃ X, X = w4.heap.size := ⟨_, rfl⟩
  have hF2 : Fr (fun _ => False) w4 w5 := by rw [hw]; exact Fr.alloc (Fr.alloc (Fr.refl _ _) _) _
  have hF3 := hF1.trans hF2
  have LN : Loc (fun _ => True) w5 (XFb + 1) P R (.slice hb1 P hb2) (.slice rb1 P rb2) sb := by
    have := Loc.new (Q := (fun _ => True)) (W := w4.alloc (.cells #[vI P, vI R, vI 0, .slice none 0 0] 28)) ((hsa.stay (Fr.alloc (Fr.refl _ _) _)).q (fun _ _ => trivial)) hrt
    rw [World.size_alloc, ← hXF, ← hw] at this; exact this
  have LT : Hd (w5.heap[H]? = some (.cells #[vI p, vI r, .slice aa1 la.length aa2, .slice bb1 lb.length bb2, .slice cc1 lc.length cc2] 24)) := keepF LT.out hF3
  have La : Hd (Loc (fun _ => True) w5 Xa P R (.slice ha1 P ha2) (.slice ra1 P ra2) sa) := La.out.keep hF3
  have LF : Hd (w5.heap[XFa]? = some (.cells #[vI P, vI R, vI 0, .slice none 0 0] 28)) := keepF LF.out hF3
  have HF : Hd (Fr (fun _ => False) w w5) := HF.out.trans hF3
  go_upto_region 4 with fail
  rw [← hXF, ← hw]
  obtain ⟨Xb, hX⟩ : ∃ X, X = XFb + 1 := ⟨_, rfl⟩
  rw [← hX] at LN ⊢
  have Lb : Hd (Loc (fun _ => True) w5 Xb P R (.slice hb1 P hb2) (.slice rb1 P rb2) sb) := LN
  clear LN hX hw hXF hF1 hF2 hF3 hsa hrt
  have q0 : w5.cell? ⟨H, 0, none⟩ = some (vI p) := by rw [cell_of LT.out]; rfl
  have q1 : w5.cell? ⟨H, 1, none⟩ = some (vI r) := by rw [cell_of LT.out]; rfl
  have q2 : w5.cell? ⟨H, 4, none⟩ = some (.slice cc1 lc.length cc2) := by rw [cell_of LT.out]; rfl
  go_wp2_with fail
  refine (show Calls Try.prog 8 #[vI p, vI r, .slice cc1 lc.length cc2] w5 _ from shaped_form p r P R _ lc w5 (IAc.out.stay HF.out) zc HP.out HR.out).mono ?_
  clear q0 q1 q2
  rintro e w6 ⟨sc, hc1, hc2, rc1, rc2, rfl, hsa, hrt, hF1⟩
  obtain ⟨w7, hw⟩ : ∃ W, W = (w6.alloc (.cells #[vI P, vI R, vI 0, .slice none 0 0] 28)).alloc (.cells #[.slice hc1 P hc2, .slice rc1 P rc2] 31) := ⟨_, rfl⟩
  obtain ⟨XFc, hXF⟩ : ∃ X, X = w6.heap.size := ⟨_, rfl⟩
  have hF2 : Fr (fun _ => False) w6 w7 := by rw [hw]; exact Fr.alloc (Fr.alloc (Fr.refl _ _) _) _
  have hF3 := hF1.trans hF2
  have LN : Loc (fun _ => True) w7 (XFc + 1) P R (.slice hc1 P hc2) (.slice rc1 P rc2) sc := by
    have := Loc.new (Q := (fun _ => True)) (W := w6.alloc (.cells #[vI P, vI R, vI 0, .slice none 0 0] 28)) ((hsa.stay (Fr.alloc (Fr.refl _ _) _)).q (fun _ _ => trivial)) hrt
    rw [World.size_alloc, ← hXF, ← hw] at this; exact this
  have LT : Hd (w7.heap[H]? = some (.cells #[vI p, vI r, .slice aa1 la.length aa2, .slice bb1 lb.length bb2, .slice cc1 lc.length cc2] 24)) := keepF LT.out hF3
  have La : Hd (Loc (fun _ => True) w7 Xa P R (.slice ha1 P ha2) (.slice ra1 P ra2) sa) := La.out.keep hF3
  have Lb : Hd (Loc (fun _ => True) w7 Xb P R (.slice hb1 P hb2) (.slice rb1 P rb2) sb) := Lb.out.keep hF3
  have LF : Hd (w7.heap[XFa]? = some (.cells #[vI P, vI R, vI 0, .slice none 0 0] 28)) := keepF LF.out hF3
  have HF : Hd (Fr (fun _ => False) w w7) := HF.out.trans hF3
  go_upto_region 5 with fail
  rw [← hXF, ← hw]
  obtain ⟨Xc, hX⟩ : ∃ X, X = XFc + 1 := ⟨_, rfl⟩
  rw [← hX] at LN ⊢
  have Lc : Hd (Loc (fun _ => True) w7 Xc P R (.slice hc1 P hc2) (.slice rc1 P rc2) sc) := LN
  clear LN hX hw hXF hF1 hF2 hF3 hsa hrt
  clear LT IAa IAb IAc HP HR
  have q00 := La.out.x
  have q01 := La.out.y
  have q10 := Lb.out.x
  have q11 := Lb.out.y
  go_wp2_with fail
  refine (show Calls Try.prog 9 #[.agg #[.slice ha1 P ha2, .slice ra1 P ra2], .agg #[.slice hb1 P hb2, .slice rb1 P rb2]] w7 _ from above_any _ _ _ _ w7 La.out.sa.sa Lb.out.sa.sa (La.out.rt.fits hP8 hR4) (Lb.out.rt.fits hP8 hR4)).mono ?_
  rintro e w8 ⟨rfl, hF1⟩
  clear q00 q01 q10 q11
  have La : Hd (Loc (fun _ => True) w8 Xa P R (.slice ha1 P ha2) (.slice ra1 P ra2) sa) := La.out.keep hF1
  have Lb : Hd (Loc (fun _ => True) w8 Xb P R (.slice hb1 P hb2) (.slice rb1 P rb2) sb) := Lb.out.keep hF1
  have Lc : Hd (Loc (fun _ => True) w8 Xc P R (.slice hc1 P hc2) (.slice rc1 P rc2) sc) := Lc.out.keep hF1
  have LF : Hd (w8.heap[XFa]? = some (.cells #[vI P, vI R, vI 0, .slice none 0 0] 28)) := keepF LF.out hF1
  have HF : Hd (Fr (fun _ => False) w w8) := HF.out.trans hF1
  clear hF1
  obtain ⟨ab, hab⟩ : ∃ x, x = sa.above sb := ⟨_, rfl⟩
  rw [← hab]
  have Hab : Hd (ab = sa.above sb) := hab
  clear hab
  have q00 := Lb.out.x
  have q01 := Lb.out.y
  have q10 := La.out.x
  have q11 := La.out.y
  go_wp2_with fail
  refine (show Calls Try.prog 9 #[.agg #[.slice hb1 P hb2, .slice rb1 P rb2], .agg #[.slice ha1 P ha2, .slice ra1 P ra2]] w8 _ from above_any _ _ _ _ w8 Lb.out.sa.sa La.out.sa.sa (Lb.out.rt.fits hP8 hR4) (La.out.rt.fits hP8 hR4)).mono ?_
  rintro e w9 ⟨rfl, hF1⟩
  clear q00 q01 q10 q11
  have La : Hd (Loc (fun _ => True) w9 Xa P R (.slice ha1 P ha2) (.slice ra1 P ra2) sa) := La.out.keep hF1
  have Lb : Hd (Loc (fun _ => True) w9 Xb P R (.slice hb1 P hb2) (.slice rb1 P rb2) sb) := Lb.out.keep hF1
  have Lc : Hd (Loc (fun _ => True) w9 Xc P R (.slice hc1 P hc2) (.slice rc1 P rc2) sc) := Lc.out.keep hF1
  have LF : Hd (w9.heap[XFa]? = some (.cells #[vI P, vI R, vI 0, .slice none 0 0] 28)) := keepF LF.out hF1
  have HF : Hd (Fr (fun _ => False) w w9) := HF.out.trans hF1
  clear hF1
  obtain ⟨ba, hba⟩ : ∃ x, x = sb.above sa := ⟨_, rfl⟩
  rw [← hba]
  have Hba : Hd (ba = sb.above sa) := hba
  clear hba
  have q00 := Lb.out.x
  have q01 := Lb.out.y
  have q10 := Lc.out.x
  have q11 := Lc.out.y
  go_wp2_with fail
  refine (show Calls Try.prog 9 #[.agg #[.slice hb1 P hb2, .slice rb1 P rb2], .agg #[.slice hc1 P hc2, .slice rc1 P rc2]] w9 _ from above_any _ _ _ _ w9 Lb.out.sa.sa Lc.out.sa.sa (Lb.out.rt.fits hP8 hR4) (Lc.out.rt.fits hP8 hR4)).mono ?_
  rintro e w10 ⟨rfl, hF1⟩
  clear q00 q01 q10 q11
  have La : Hd (Loc (fun _ => True) w10 Xa P R (.slice ha1 P ha2) (.slice ra1 P ra2) sa) := La.out.keep hF1
  have Lb : Hd (Loc (fun _ => True) w10 Xb P R (.slice hb1 P hb2) (.slice rb1 P rb2) sb) := Lb.out.keep hF1
  have Lc : Hd (Loc (fun _ => True) w10 Xc P R (.slice hc1 P hc2) (.slice rc1 P rc2) sc) := Lc.out.keep hF1
  have LF : Hd (w10.heap[XFa]? = some (.cells #[vI P, vI R, vI 0, .slice none 0 0] 28)) := keepF LF.out hF1
  have HF : Hd (Fr (fun _ => False) w w10) := HF.out.trans hF1
  clear hF1
  obtain ⟨bc, hbc⟩ : ∃ x, x = sb.above sc := ⟨_, rfl⟩
  rw [← hbc]
  have Hbc : Hd (bc = sb.above sc) := hbc
  clear hbc
  have q00 := La.out.x
  have q01 := La.out.y
  have q10 := Lc.out.x
  have q11 := Lc.out.y
  go_wp2_with fail
  refine (show Calls Try.prog 9 #[.agg #[.slice ha1 P ha2, .slice ra1 P ra2], .agg #[.slice hc1 P hc2, .slice rc1 P rc2]] w10 _ from above_any _ _ _ _ w10 La.out.sa.sa Lc.out.sa.sa (La.out.rt.fits hP8 hR4) (Lc.out.rt.fits hP8 hR4)).mono ?_
  rintro e w11 ⟨rfl, hF1⟩
  clear q00 q01 q10 q11
  have La : Hd (Loc (fun _ => True) w11 Xa P R (.slice ha1 P ha2) (.slice ra1 P ra2) sa) := La.out.keep hF1
  have Lb : Hd (Loc (fun _ => True) w11 Xb P R (.slice hb1 P hb2) (.slice rb1 P rb2) sb) := Lb.out.keep hF1
  have Lc : Hd (Loc (fun _ => True) w11 Xc P R (.slice hc1 P hc2) (.slice rc1 P rc2) sc) := Lc.out.keep hF1
  have LF : Hd (w11.heap[XFa]? = some (.cells #[vI P, vI R, vI 0, .slice none 0 0] 28)) := keepF LF.out hF1
  have HF : Hd (Fr (fun _ => False) w w11) := HF.out.trans hF1
  clear hF1
  obtain ⟨ac, hac⟩ : ∃ x, x = sa.above sc := ⟨_, rfl⟩
  rw [← hac]
  have Hac : Hd (ac = sa.above sc) := hac
  clear hac
  have q00 := La.out.x
  have q01 := La.out.y
  have q10 := Lb.out.x
  have q11 := Lb.out.y
  go_wp2_with fail
  refine (show Calls Try.prog 10 #[.agg #[.slice ha1 P ha2, .slice ra1 P ra2], .agg #[.slice hb1 P hb2, .slice rb1 P rb2]] w11 _ from eqSummary_any _ _ _ _ w11 La.out.sa.sa Lb.out.sa.sa (La.out.rt.fits hP8 hR4) (Lb.out.rt.fits hP8 hR4)).mono ?_
  rintro e w12 ⟨rfl, hF1⟩
  clear q00 q01 q10 q11
  have La : Hd (Loc (fun _ => True) w12 Xa P R (.slice ha1 P ha2) (.slice ra1 P ra2) sa) := La.out.keep hF1
  have Lb : Hd (Loc (fun _ => True) w12 Xb P R (.slice hb1 P hb2) (.slice rb1 P rb2) sb) := Lb.out.keep hF1
  have Lc : Hd (Loc (fun _ => True) w12 Xc P R (.slice hc1 P hc2) (.slice rc1 P rc2) sc) := Lc.out.keep hF1
  have LF : Hd (w12.heap[XFa]? = some (.cells #[vI P, vI R, vI 0, .slice none 0 0] 28)) := keepF LF.out hF1
  have HF : Hd (Fr (fun _ => False) w w12) := HF.out.trans hF1
  clear hF1
  rw [PS.eq_both La.out.rt, ← Hab.out, ← Hba.out]
  have q00 := La.out.x
  have q01 := La.out.y
  go_wp2_with fail
  refine (show Calls Try.prog 9 #[.agg #[.slice ha1 P ha2, .slice ra1 P ra2], .agg #[.slice ha1 P ha2, .slice ra1 P ra2]] w12 _ from above_any _ _ _ _ w12 La.out.sa.sa La.out.sa.sa (La.out.rt.fits hP8 hR4) (La.out.rt.fits hP8 hR4)).mono ?_
  rintro e w13 ⟨rfl, hF1⟩
  clear q00 q01
  have La : Hd (Loc (fun _ => True) w13 Xa P R (.slice ha1 P ha2) (.slice ra1 P ra2) sa) := La.out.keep hF1
  have Lb : Hd (Loc (fun _ => True) w13 Xb P R (.slice hb1 P hb2) (.slice rb1 P rb2) sb) := Lb.out.keep hF1
  have Lc : Hd (Loc (fun _ => True) w13 Xc P R (.slice hc1 P hc2) (.slice rc1 P rc2) sc) := Lc.out.keep hF1
  have LF : Hd (w13.heap[XFa]? = some (.cells #[vI P, vI R, vI 0, .slice none 0 0] 28)) := keepF LF.out hF1
  have HF : Hd (Fr (fun _ => False) w w13) := HF.out.trans hF1
  clear hF1
  rw [PS.above_refl La.out.rt]
  have HT : Hd (ab = true → bc = true → ac = true) := fun h k => by rw [Hac.out]; exact PS.above_trans (by rw [← Hab.out]; exact h) (by rw [← Hbc.out]; exact k)
  have f0 : w13.cell? ⟨XFa, 0, none⟩ = some (vI P) := by rw [cell_of LF.out]; rfl
  have f1 : w13.cell? ⟨XFa, 1, none⟩ = some (vI R) := by rw [cell_of LF.out]; rfl
  have f2 : w13.cell? ⟨XFa, 2, none⟩ = some (vI 0) := by rw [cell_of LF.out]; rfl
  have f3 : w13.cell? ⟨XFa, 3, none⟩ = some (.slice none 0 0) := by rw [cell_of LF.out]; rfl
  have q0 := La.out.x
  have q1 := La.out.y
  have HCK : Hd (checkE P R sa = 0) := by
    unfold Hd checkE
    rw [if_pos (by simp [shapeB]; omega), if_pos (of_right La.out.rt)]
  go_upto_region 11 with fail
  go_cut [110] (fun v wx => v = .bool false ∧ Hd (Fr (fun _ => False) w13 wx))
  case first =>
    cases ab <;> cases ba <;> cases bc <;> cases ac
    all_goals first | (exfalso; exact absurd (HT.out rfl rfl) (by decide)) | skip
    all_goals
      go_wp2_with fail
      refine (show Calls Try.prog 11 #[.agg #[vI P, vI R, vI 0, .slice none 0 0], .agg #[.slice ha1 P ha2, .slice ra1 P ra2]] w13 _ from check_any P R 0 none 0 0 _ sa w13 La.out.sa.sa (La.out.rt.fits hP8 hR4)).mono ?_
      rintro e wy ⟨rfl, hFy⟩
      rw [HCK.out]
      have HFy : Hd _ := hFy
      clear hFy f0 f1 f2 f3 q0 q1
      go_wp2_with fail
      go_meet
      exact ⟨rfl, HFy.out⟩
  case rest =>
    obtain ⟨rfl, hFc⟩ := hcut
    clear f0 f1 f2 f3 q0 q1 HCK HT LF
    have La : Hd (Loc (fun _ => True) wc Xa P R (.slice ha1 P ha2) (.slice ra1 P ra2) sa) := La.out.keep hFc.out
    have Lb : Hd (Loc (fun _ => True) wc Xb P R (.slice hb1 P hb2) (.slice rb1 P rb2) sb) := Lb.out.keep hFc.out
    have Lc : Hd (Loc (fun _ => True) wc Xc P R (.slice hc1 P hc2) (.slice rc1 P rc2) sc) := Lc.out.keep hFc.out
    have HF : Hd (Fr (fun _ => False) w wc) := HF.out.trans hFc.out
    clear hFc
    have q00 := La.out.x
    have q01 := La.out.y
    have q10 := Lb.out.x
    have q11 := Lb.out.y
    go_wp2_with fail
    refine (show Calls Try.prog 12 #[.agg #[.slice ha1 P ha2, .slice ra1 P ra2], .agg #[.slice hb1 P hb2, .slice rb1 P rb2]] wc _ from meet_right _ _ _ _ P R wc La.out.sa.sa Lb.out.sa.sa La.out.rt Lb.out.rt hP8 hR4).mono ?_
    rintro e w15 ⟨hm1, hm2, rm1, rm2, rfl, hsa, hrt, hF1⟩
    clear q00 q01 q10 q11
    obtain ⟨w16, hw⟩ : ∃ W, W = w15.alloc (.cells #[.slice hm1 P hm2, .slice rm1 P rm2] 31) := ⟨_, rfl⟩
    obtain ⟨Xm, hX⟩ : ∃ X, X = w15.heap.size := ⟨_, rfl⟩
    have hF2 : Fr (fun _ => False) w15 w16 := by rw [hw]; exact Fr.alloc (Fr.refl _ _) _
    have hF3 := hF1.trans hF2
    have La : Hd (Loc (fun _ => True) w16 Xa P R (.slice ha1 P ha2) (.slice ra1 P ra2) sa) := La.out.keep hF3
    have Lb : Hd (Loc (fun _ => True) w16 Xb P R (.slice hb1 P hb2) (.slice rb1 P rb2) sb) := Lb.out.keep hF3
    have Lc : Hd (Loc (fun _ => True) w16 Xc P R (.slice hc1 P hc2) (.slice rc1 P rc2) sc) := Lc.out.keep hF3
    have HF : Hd (Fr (fun _ => False) w w16) := HF.out.trans hF3
    have LN : Loc (fun _ => True) w16 Xm P R (.slice hm1 P hm2) (.slice rm1 P rm2) (sa.meet sb) := by
      have := Loc.new (Q := (fun _ => True)) (hsa.mono (Q' := (fun _ => True)) (fun _ _ => trivial)) hrt
      rw [← hX, ← hw] at this; exact this
    go_upto_region 14 with fail
    rw [← hX, ← hw]
    have Lm : Hd (Loc (fun _ => True) w16 Xm P R (.slice hm1 P hm2) (.slice rm1 P rm2) (sa.meet sb)) := LN
    clear LN hX hw hF1 hF2 hF3 hsa hrt
    have Oa : Hd (Xa < w16.heap.size) := heap_lt La.out.blk
    have Ob : Hd (Xb < w16.heap.size) := heap_lt Lb.out.blk
    have Oc : Hd (Xc < w16.heap.size) := heap_lt Lc.out.blk
    have Om : Hd (Xm < w16.heap.size) := heap_lt Lm.out.blk
    have q00 := Lb.out.x
    have q01 := Lb.out.y
    have q10 := La.out.x
    have q11 := La.out.y
    go_wp2_with fail
    refine (show Calls Try.prog 12 #[.agg #[.slice hb1 P hb2, .slice rb1 P rb2], .agg #[.slice ha1 P ha2, .slice ra1 P ra2]] w16 _ from meet_right _ _ _ _ P R w16 Lb.out.sa.sa La.out.sa.sa Lb.out.rt La.out.rt hP8 hR4).mono ?_
    rintro e w17 ⟨hn1, hn2, rn1, rn2, rfl, hsa, hrt, hF1⟩
    clear q00 q01 q10 q11
    obtain ⟨w18, hw⟩ : ∃ W, W = w17.alloc (.cells #[.slice hn1 P hn2, .slice rn1 P rn2] 31) := ⟨_, rfl⟩
    obtain ⟨Xn, hX⟩ : ∃ X, X = w17.heap.size := ⟨_, rfl⟩
    have hF2 : Fr (fun _ => False) w17 w18 := by rw [hw]; exact Fr.alloc (Fr.refl _ _) _
    have hF3 := hF1.trans hF2
    have La : Hd (Loc (fun k => k ≠ Xn) w18 Xa P R (.slice ha1 P ha2) (.slice ra1 P ra2) sa) := ((La.out.keep hF1).old (fun k hk => by rw [hX]; omega)).keep hF2
    have Lb : Hd (Loc (fun k => k ≠ Xn) w18 Xb P R (.slice hb1 P hb2) (.slice rb1 P rb2) sb) := ((Lb.out.keep hF1).old (fun k hk => by rw [hX]; omega)).keep hF2
    have Lc : Hd (Loc (fun k => k ≠ Xn) w18 Xc P R (.slice hc1 P hc2) (.slice rc1 P rc2) sc) := ((Lc.out.keep hF1).old (fun k hk => by rw [hX]; omega)).keep hF2
    have Lm : Hd (Loc (fun k => k ≠ Xn) w18 Xm P R (.slice hm1 P hm2) (.slice rm1 P rm2) (sa.meet sb)) := ((Lm.out.keep hF1).old (fun k hk => by rw [hX]; omega)).keep hF2
    have hlt : ∀ k, k < w17.heap.size → k ≠ Xn := fun k hk => by rw [hX]; omega
    have XO : Hd (w.heap.size ≤ Xn) := by unfold Hd; rw [hX]; exact (HF.out.trans hF1).size
    have NEa : Hd (Xa ≠ Xn) := by
      intro e
      exact hlt Xa (Nat.lt_of_lt_of_le Oa.out hF1.size) e
    have NEb : Hd (Xb ≠ Xn) := by
      intro e
      exact hlt Xb (Nat.lt_of_lt_of_le Ob.out hF1.size) e
    have NEc : Hd (Xc ≠ Xn) := by
      intro e
      exact hlt Xc (Nat.lt_of_lt_of_le Oc.out hF1.size) e
    have NEm : Hd (Xm ≠ Xn) := by
      intro e
      exact hlt Xm (Nat.lt_of_lt_of_le Om.out hF1.size) e
    have HF : Hd (Fr (fun _ => False) w w18) := HF.out.trans hF3
    clear hlt
    have LN : Loc (fun k => k ≠ Xn) w18 Xn P R (.slice hn1 P hn2) (.slice rn1 P rn2) (sb.meet sa) := by
      have := Loc.new (Q := (fun k => k ≠ Xn)) (hsa.sa.q (Q := (fun k => k ≠ Xn)) (fun k hk => by rw [hX]; omega)) hrt
      rw [← hX, ← hw] at this; exact this
    go_upto_region 15 with fail
    rw [← hX, ← hw]
    have Ln : Hd (Loc (fun k => k ≠ Xn) w18 Xn P R (.slice hn1 P hn2) (.slice rn1 P rn2) (sb.meet sa)) := LN
    clear LN hX hw hF1 hF2 hF3 hsa hrt
    clear Oa Ob Oc Om
    have q00 := Lm.out.x
    have q01 := Lm.out.y
    have q10 := Ln.out.x
    have q11 := Ln.out.y
    go_wp2_with fail
    refine (show Calls Try.prog 10 #[.agg #[.slice hm1 P hm2, .slice rm1 P rm2], .agg #[.slice hn1 P hn2, .slice rn1 P rn2]] w18 _ from eqSummary_any _ _ _ _ w18 Lm.out.sa.sa Ln.out.sa.sa (Lm.out.rt.fits hP8 hR4) (Ln.out.rt.fits hP8 hR4)).mono ?_
    rintro e w19 ⟨rfl, hF1⟩
    clear q00 q01 q10 q11
    have La : Hd (Loc (fun k => k ≠ Xn) w19 Xa P R (.slice ha1 P ha2) (.slice ra1 P ra2) sa) := La.out.keep hF1
    have Lb : Hd (Loc (fun k => k ≠ Xn) w19 Xb P R (.slice hb1 P hb2) (.slice rb1 P rb2) sb) := Lb.out.keep hF1
    have Lc : Hd (Loc (fun k => k ≠ Xn) w19 Xc P R (.slice hc1 P hc2) (.slice rc1 P rc2) sc) := Lc.out.keep hF1
    have Lm : Hd (Loc (fun k => k ≠ Xn) w19 Xm P R (.slice hm1 P hm2) (.slice rm1 P rm2) (sa.meet sb)) := Lm.out.keep hF1
    have Ln : Hd (Loc (fun k => k ≠ Xn) w19 Xn P R (.slice hn1 P hn2) (.slice rn1 P rn2) (sb.meet sa)) := Ln.out.keep hF1
    have HF : Hd (Fr (fun _ => False) w w19) := HF.out.trans hF1
    clear hF1
    rw [show (sa.meet sb).eq (sb.meet sa) = true from PS.eq_iff.2 (PS.meet_comm _ _)]
    have q00 := Lm.out.x
    have q01 := Lm.out.y
    have q10 := La.out.x
    have q11 := La.out.y
    go_wp2_with fail
    refine (show Calls Try.prog 9 #[.agg #[.slice hm1 P hm2, .slice rm1 P rm2], .agg #[.slice ha1 P ha2, .slice ra1 P ra2]] w19 _ from above_any _ _ _ _ w19 Lm.out.sa.sa La.out.sa.sa (Lm.out.rt.fits hP8 hR4) (La.out.rt.fits hP8 hR4)).mono ?_
    rintro e w20 ⟨rfl, hF1⟩
    clear q00 q01 q10 q11
    have La : Hd (Loc (fun k => k ≠ Xn) w20 Xa P R (.slice ha1 P ha2) (.slice ra1 P ra2) sa) := La.out.keep hF1
    have Lb : Hd (Loc (fun k => k ≠ Xn) w20 Xb P R (.slice hb1 P hb2) (.slice rb1 P rb2) sb) := Lb.out.keep hF1
    have Lc : Hd (Loc (fun k => k ≠ Xn) w20 Xc P R (.slice hc1 P hc2) (.slice rc1 P rc2) sc) := Lc.out.keep hF1
    have Lm : Hd (Loc (fun k => k ≠ Xn) w20 Xm P R (.slice hm1 P hm2) (.slice rm1 P rm2) (sa.meet sb)) := Lm.out.keep hF1
    have Ln : Hd (Loc (fun k => k ≠ Xn) w20 Xn P R (.slice hn1 P hn2) (.slice rn1 P rn2) (sb.meet sa)) := Ln.out.keep hF1
    have HF : Hd (Fr (fun _ => False) w w20) := HF.out.trans hF1
    clear hF1
    rw [show (sa.meet sb).above sa = true from PS.meet_left (La.out.rt.pair Lb.out.rt)]
    have q00 := Lm.out.x
    have q01 := Lm.out.y
    have q10 := Lb.out.x
    have q11 := Lb.out.y
    go_wp2_with fail
    refine (show Calls Try.prog 9 #[.agg #[.slice hm1 P hm2, .slice rm1 P rm2], .agg #[.slice hb1 P hb2, .slice rb1 P rb2]] w20 _ from above_any _ _ _ _ w20 Lm.out.sa.sa Lb.out.sa.sa (Lm.out.rt.fits hP8 hR4) (Lb.out.rt.fits hP8 hR4)).mono ?_
    rintro e w21 ⟨rfl, hF1⟩
    clear q00 q01 q10 q11
    have La : Hd (Loc (fun k => k ≠ Xn) w21 Xa P R (.slice ha1 P ha2) (.slice ra1 P ra2) sa) := La.out.keep hF1
    have Lb : Hd (Loc (fun k => k ≠ Xn) w21 Xb P R (.slice hb1 P hb2) (.slice rb1 P rb2) sb) := Lb.out.keep hF1
    have Lc : Hd (Loc (fun k => k ≠ Xn) w21 Xc P R (.slice hc1 P hc2) (.slice rc1 P rc2) sc) := Lc.out.keep hF1
    have Lm : Hd (Loc (fun k => k ≠ Xn) w21 Xm P R (.slice hm1 P hm2) (.slice rm1 P rm2) (sa.meet sb)) := Lm.out.keep hF1
    have Ln : Hd (Loc (fun k => k ≠ Xn) w21 Xn P R (.slice hn1 P hn2) (.slice rn1 P rn2) (sb.meet sa)) := Ln.out.keep hF1
    have HF : Hd (Fr (fun _ => False) w w21) := HF.out.trans hF1
    clear hF1
    rw [show (sa.meet sb).above sb = true from PS.meet_right (La.out.rt.pair Lb.out.rt)]
    have q00 := Lc.out.x
    have q01 := Lc.out.y
    have q10 := Lm.out.x
    have q11 := Lm.out.y
    go_wp2_with fail
    refine (show Calls Try.prog 9 #[.agg #[.slice hc1 P hc2, .slice rc1 P rc2], .agg #[.slice hm1 P hm2, .slice rm1 P rm2]] w21 _ from above_any _ _ _ _ w21 Lc.out.sa.sa Lm.out.sa.sa (Lc.out.rt.fits hP8 hR4) (Lm.out.rt.fits hP8 hR4)).mono ?_
    rintro e w22 ⟨rfl, hF1⟩
    clear q00 q01 q10 q11
    have La : Hd (Loc (fun k => k ≠ Xn) w22 Xa P R (.slice ha1 P ha2) (.slice ra1 P ra2) sa) := La.out.keep hF1
    have Lb : Hd (Loc (fun k => k ≠ Xn) w22 Xb P R (.slice hb1 P hb2) (.slice rb1 P rb2) sb) := Lb.out.keep hF1
    have Lc : Hd (Loc (fun k => k ≠ Xn) w22 Xc P R (.slice hc1 P hc2) (.slice rc1 P rc2) sc) := Lc.out.keep hF1
    have Lm : Hd (Loc (fun k => k ≠ Xn) w22 Xm P R (.slice hm1 P hm2) (.slice rm1 P rm2) (sa.meet sb)) := Lm.out.keep hF1
    have Ln : Hd (Loc (fun k => k ≠ Xn) w22 Xn P R (.slice hn1 P hn2) (.slice rn1 P rn2) (sb.meet sa)) := Ln.out.keep hF1
    have HF : Hd (Fr (fun _ => False) w w22) := HF.out.trans hF1
    clear hF1
    rw [← PS.meet_all sc (La.out.rt.pair Lb.out.rt)]
    have q00 := Lc.out.x
    have q01 := Lc.out.y
    have q10 := La.out.x
    have q11 := La.out.y
    go_wp2_with fail
    refine (show Calls Try.prog 9 #[.agg #[.slice hc1 P hc2, .slice rc1 P rc2], .agg #[.slice ha1 P ha2, .slice ra1 P ra2]] w22 _ from above_any _ _ _ _ w22 Lc.out.sa.sa La.out.sa.sa (Lc.out.rt.fits hP8 hR4) (La.out.rt.fits hP8 hR4)).mono ?_
    rintro e w23 ⟨rfl, hF1⟩
    clear q00 q01 q10 q11
    have La : Hd (Loc (fun k => k ≠ Xn) w23 Xa P R (.slice ha1 P ha2) (.slice ra1 P ra2) sa) := La.out.keep hF1
    have Lb : Hd (Loc (fun k => k ≠ Xn) w23 Xb P R (.slice hb1 P hb2) (.slice rb1 P rb2) sb) := Lb.out.keep hF1
    have Lc : Hd (Loc (fun k => k ≠ Xn) w23 Xc P R (.slice hc1 P hc2) (.slice rc1 P rc2) sc) := Lc.out.keep hF1
    have Lm : Hd (Loc (fun k => k ≠ Xn) w23 Xm P R (.slice hm1 P hm2) (.slice rm1 P rm2) (sa.meet sb)) := Lm.out.keep hF1
    have Ln : Hd (Loc (fun k => k ≠ Xn) w23 Xn P R (.slice hn1 P hn2) (.slice rn1 P rn2) (sb.meet sa)) := Ln.out.keep hF1
    have HF : Hd (Fr (fun _ => False) w w23) := HF.out.trans hF1
    clear hF1
    obtain ⟨ca, hca⟩ : ∃ x, x = sc.above sa := ⟨_, rfl⟩
    rw [← hca]
    have Hca : Hd (ca = sc.above sa) := hca
    clear hca
    have q00 := Lc.out.x
    have q01 := Lc.out.y
    have q10 := Lb.out.x
    have q11 := Lb.out.y
    go_wp2_with fail
    refine (show Calls Try.prog 9 #[.agg #[.slice hc1 P hc2, .slice rc1 P rc2], .agg #[.slice hb1 P hb2, .slice rb1 P rb2]] w23 _ from above_any _ _ _ _ w23 Lc.out.sa.sa Lb.out.sa.sa (Lc.out.rt.fits hP8 hR4) (Lb.out.rt.fits hP8 hR4)).mono ?_
    rintro e w24 ⟨rfl, hF1⟩
    clear q00 q01 q10 q11
    have La : Hd (Loc (fun k => k ≠ Xn) w24 Xa P R (.slice ha1 P ha2) (.slice ra1 P ra2) sa) := La.out.keep hF1
    have Lb : Hd (Loc (fun k => k ≠ Xn) w24 Xb P R (.slice hb1 P hb2) (.slice rb1 P rb2) sb) := Lb.out.keep hF1
    have Lc : Hd (Loc (fun k => k ≠ Xn) w24 Xc P R (.slice hc1 P hc2) (.slice rc1 P rc2) sc) := Lc.out.keep hF1
    have Lm : Hd (Loc (fun k => k ≠ Xn) w24 Xm P R (.slice hm1 P hm2) (.slice rm1 P rm2) (sa.meet sb)) := Lm.out.keep hF1
    have Ln : Hd (Loc (fun k => k ≠ Xn) w24 Xn P R (.slice hn1 P hn2) (.slice rn1 P rn2) (sb.meet sa)) := Ln.out.keep hF1
    have HF : Hd (Fr (fun _ => False) w w24) := HF.out.trans hF1
    clear hF1
    obtain ⟨cb, hcb⟩ : ∃ x, x = sc.above sb := ⟨_, rfl⟩
    rw [← hcb]
    have Hcb : Hd (cb = sc.above sb) := hcb
    clear hcb
    have q00 := Lm.out.x
    have q01 := Lm.out.y
    have q10 := Lc.out.x
    have q11 := Lc.out.y
    go_wp2_with fail
    refine (show Calls Try.prog 12 #[.agg #[.slice hm1 P hm2, .slice rm1 P rm2], .agg #[.slice hc1 P hc2, .slice rc1 P rc2]] w24 _ from meet_right _ _ _ _ P R w24 Lm.out.sa.sa Lc.out.sa.sa Lm.out.rt Lc.out.rt hP8 hR4).mono ?_
    rintro e w25 ⟨ht1, ht2, rt1, rt2, rfl, hsa, hrt, hF1⟩
    clear q00 q01 q10 q11
    obtain ⟨w26, hw⟩ : ∃ W, W = w25.alloc (.cells #[.slice ht1 P ht2, .slice rt1 P rt2] 31) := ⟨_, rfl⟩
    obtain ⟨Xt, hX⟩ : ∃ X, X = w25.heap.size := ⟨_, rfl⟩
    have hF2 : Fr (fun _ => False) w25 w26 := by rw [hw]; exact Fr.alloc (Fr.refl _ _) _
    have hF3 := hF1.trans hF2
    have hZ : Xn < w24.heap.size := heap_lt Ln.out.blk
    have La : Hd (Loc (fun k => k ≠ Xn) w26 Xa P R (.slice ha1 P ha2) (.slice ra1 P ra2) sa) := La.out.keep hF3
    have Lb : Hd (Loc (fun k => k ≠ Xn) w26 Xb P R (.slice hb1 P hb2) (.slice rb1 P rb2) sb) := Lb.out.keep hF3
    have Lc : Hd (Loc (fun k => k ≠ Xn) w26 Xc P R (.slice hc1 P hc2) (.slice rc1 P rc2) sc) := Lc.out.keep hF3
    have Lm : Hd (Loc (fun k => k ≠ Xn) w26 Xm P R (.slice hm1 P hm2) (.slice rm1 P rm2) (sa.meet sb)) := Lm.out.keep hF3
    have Ln : Hd (Loc (fun k => k ≠ Xn) w26 Xn P R (.slice hn1 P hn2) (.slice rn1 P rn2) (sb.meet sa)) := Ln.out.keep hF3
    have HF : Hd (Fr (fun _ => False) w w26) := HF.out.trans hF3
    have LN : Loc (fun k => k ≠ Xn) w26 Xt P R (.slice ht1 P ht2) (.slice rt1 P rt2) ((sa.meet sb).meet sc) := by
      have := Loc.new (Q := (fun k => k ≠ Xn)) (hsa.mono (Q' := (fun k => k ≠ Xn)) (fun k hk => by omega)) hrt
      rw [← hX, ← hw] at this; exact this
    have NEt : Hd (Xt ≠ Xn) := by have h9 := hF1.size; unfold Hd; omega
    go_upto_region 22 with fail
    rw [← hX, ← hw]
    have Lt : Hd (Loc (fun k => k ≠ Xn) w26 Xt P R (.slice ht1 P ht2) (.slice rt1 P rt2) ((sa.meet sb).meet sc)) := LN
    clear LN hX hw hF1 hF2 hF3 hsa hrt hZ
    have q00 := Lb.out.x
    have q01 := Lb.out.y
    have q10 := Lc.out.x
    have q11 := Lc.out.y
    go_wp2_with fail
    refine (show Calls Try.prog 12 #[.agg #[.slice hb1 P hb2, .slice rb1 P rb2], .agg #[.slice hc1 P hc2, .slice rc1 P rc2]] w26 _ from meet_right _ _ _ _ P R w26 Lb.out.sa.sa Lc.out.sa.sa Lb.out.rt Lc.out.rt hP8 hR4).mono ?_
    rintro e w27 ⟨hv1, hv2, rv1, rv2, rfl, hsa, hrt, hF1⟩
    clear q00 q01 q10 q11
    have hZ : Xn < w26.heap.size := heap_lt Ln.out.blk
    have La : Hd (Loc (fun k => k ≠ Xn) w27 Xa P R (.slice ha1 P ha2) (.slice ra1 P ra2) sa) := La.out.keep hF1
    have Lb : Hd (Loc (fun k => k ≠ Xn) w27 Xb P R (.slice hb1 P hb2) (.slice rb1 P rb2) sb) := Lb.out.keep hF1
    have Lc : Hd (Loc (fun k => k ≠ Xn) w27 Xc P R (.slice hc1 P hc2) (.slice rc1 P rc2) sc) := Lc.out.keep hF1
    have Lm : Hd (Loc (fun k => k ≠ Xn) w27 Xm P R (.slice hm1 P hm2) (.slice rm1 P rm2) (sa.meet sb)) := Lm.out.keep hF1
    have Ln : Hd (Loc (fun k => k ≠ Xn) w27 Xn P R (.slice hn1 P hn2) (.slice rn1 P rn2) (sb.meet sa)) := Ln.out.keep hF1
    have Lt : Hd (Loc (fun k => k ≠ Xn) w27 Xt P R (.slice ht1 P ht2) (.slice rt1 P rt2) ((sa.meet sb).meet sc)) := Lt.out.keep hF1
    have HF : Hd (Fr (fun _ => False) w w27) := HF.out.trans hF1
    have q0 := Ln.out.x
    have q1 := Ln.out.y
    have z0 := frozen_of Ln.out.blk 0
    have z1 := frozen_of Ln.out.blk 1
    obtain ⟨w28, hw⟩ : ∃ W, W = (w27.setCell ⟨Xn, 0, none⟩ (.slice hv1 P hv2)).setCell ⟨Xn, 1, none⟩ (.slice rv1 P rv2) := ⟨_, rfl⟩
    have La : Hd (Loc (fun k => k ≠ Xn) w28 Xa P R (.slice ha1 P ha2) (.slice ra1 P ra2) sa) := by unfold Hd; rw [hw]; exact La.out.set NEa.out (fun k hk => hk)
    have Lb : Hd (Loc (fun k => k ≠ Xn) w28 Xb P R (.slice hb1 P hb2) (.slice rb1 P rb2) sb) := by unfold Hd; rw [hw]; exact Lb.out.set NEb.out (fun k hk => hk)
    have Lc : Hd (Loc (fun k => k ≠ Xn) w28 Xc P R (.slice hc1 P hc2) (.slice rc1 P rc2) sc) := by unfold Hd; rw [hw]; exact Lc.out.set NEc.out (fun k hk => hk)
    have Lm : Hd (Loc (fun k => k ≠ Xn) w28 Xm P R (.slice hm1 P hm2) (.slice rm1 P rm2) (sa.meet sb)) := by unfold Hd; rw [hw]; exact Lm.out.set NEm.out (fun k hk => hk)
    have LN : Loc (fun k => k ≠ Xn) w28 Xn P R (.slice hv1 P hv2) (.slice rv1 P rv2) (sb.meet sc) := by rw [hw]; exact Ln.out.put (hsa.mono (Q' := (fun k => k ≠ Xn)) (fun k hk => by omega)) hrt (fun k hk => hk)
    have Lt : Hd (Loc (fun k => k ≠ Xn) w28 Xt P R (.slice ht1 P ht2) (.slice rt1 P rt2) ((sa.meet sb).meet sc)) := by unfold Hd; rw [hw]; exact Lt.out.set NEt.out (fun k hk => hk)
    have HF : Hd (Fr (fun _ => False) w w28) := by unfold Hd; rw [hw]; exact HF.out.then ((setCell_fr w27 Xn 0 _).trans (setCell_fr _ Xn 1 _)) (fun j hj e => by have := XO.out; omega)
    go_upto_region 23 with fail
    rw [← hw]
    clear Ln q0 q1 z0 z1 hw hsa hrt hF1 hZ
    have Ln : Hd (Loc (fun k => k ≠ Xn) w28 Xn P R (.slice hv1 P hv2) (.slice rv1 P rv2) (sb.meet sc)) := LN
    clear LN
    obtain ⟨Xv, hXv⟩ : ∃ X, X = Xn := ⟨_, rfl⟩
    have Lv : Hd (Loc (fun k => k ≠ Xn) w28 Xv P R (.slice hv1 P hv2) (.slice rv1 P rv2) (sb.meet sc)) := by rw [hXv]; exact Ln.out
    rw [← hXv]
    clear Ln hXv
    have q00 := La.out.x
    have q01 := La.out.y
    have q10 := Lv.out.x
    have q11 := Lv.out.y
    go_wp2_with fail
    refine (show Calls Try.prog 12 #[.agg #[.slice ha1 P ha2, .slice ra1 P ra2], .agg #[.slice hv1 P hv2, .slice rv1 P rv2]] w28 _ from meet_right _ _ _ _ P R w28 La.out.sa.sa Lv.out.sa.sa La.out.rt Lv.out.rt hP8 hR4).mono ?_
    rintro e w29 ⟨hk1, hk2, rk1, rk2, rfl, hsa, hrt, hF1⟩
    clear q00 q01 q10 q11
    obtain ⟨w30, hw⟩ : ∃ W, W = w29.alloc (.cells #[.slice hk1 P hk2, .slice rk1 P rk2] 31) := ⟨_, rfl⟩
    obtain ⟨Xk, hX⟩ : ∃ X, X = w29.heap.size := ⟨_, rfl⟩
    have hF2 : Fr (fun _ => False) w29 w30 := by rw [hw]; exact Fr.alloc (Fr.refl _ _) _
    have hF3 := hF1.trans hF2
    have La : Hd (Loc (fun k => k ≠ Xn) w30 Xa P R (.slice ha1 P ha2) (.slice ra1 P ra2) sa) := La.out.keep hF3
    have Lb : Hd (Loc (fun k => k ≠ Xn) w30 Xb P R (.slice hb1 P hb2) (.slice rb1 P rb2) sb) := Lb.out.keep hF3
    have Lc : Hd (Loc (fun k => k ≠ Xn) w30 Xc P R (.slice hc1 P hc2) (.slice rc1 P rc2) sc) := Lc.out.keep hF3
    have Lm : Hd (Loc (fun k => k ≠ Xn) w30 Xm P R (.slice hm1 P hm2) (.slice rm1 P rm2) (sa.meet sb)) := Lm.out.keep hF3
    have Lv : Hd (Loc (fun k => k ≠ Xn) w30 Xv P R (.slice hv1 P hv2) (.slice rv1 P rv2) (sb.meet sc)) := Lv.out.keep hF3
    have Lt : Hd (Loc (fun k => k ≠ Xn) w30 Xt P R (.slice ht1 P ht2) (.slice rt1 P rt2) ((sa.meet sb).meet sc)) := Lt.out.keep hF3
    have HF : Hd (Fr (fun _ => False) w w30) := HF.out.trans hF3
    have LN : Loc (fun _ => True) w30 Xk P R (.slice hk1 P hk2) (.slice rk1 P rk2) (sa.meet (sb.meet sc)) := by
      have := Loc.new (Q := (fun _ => True)) (hsa.mono (Q' := (fun _ => True)) (fun _ _ => trivial)) hrt
      rw [← hX, ← hw] at this; exact this
    go_upto_region 24 with fail
    rw [← hX, ← hw]
    have Lk : Hd (Loc (fun _ => True) w30 Xk P R (.slice hk1 P hk2) (.slice rk1 P rk2) (sa.meet (sb.meet sc))) := LN
    clear LN hX hw hF1 hF2 hF3 hsa hrt
    have q00 := Lt.out.x
    have q01 := Lt.out.y
    have q10 := Lk.out.x
    have q11 := Lk.out.y
    go_wp2_with fail
    refine (show Calls Try.prog 10 #[.agg #[.slice ht1 P ht2, .slice rt1 P rt2], .agg #[.slice hk1 P hk2, .slice rk1 P rk2]] w30 _ from eqSummary_any _ _ _ _ w30 Lt.out.sa.sa Lk.out.sa.sa (Lt.out.rt.fits hP8 hR4) (Lk.out.rt.fits hP8 hR4)).mono ?_
    rintro e w31 ⟨rfl, hF1⟩
    clear q00 q01 q10 q11
    have La : Hd (Loc (fun k => k ≠ Xn) w31 Xa P R (.slice ha1 P ha2) (.slice ra1 P ra2) sa) := La.out.keep hF1
    have Lb : Hd (Loc (fun k => k ≠ Xn) w31 Xb P R (.slice hb1 P hb2) (.slice rb1 P rb2) sb) := Lb.out.keep hF1
    have Lc : Hd (Loc (fun k => k ≠ Xn) w31 Xc P R (.slice hc1 P hc2) (.slice rc1 P rc2) sc) := Lc.out.keep hF1
    have Lm : Hd (Loc (fun k => k ≠ Xn) w31 Xm P R (.slice hm1 P hm2) (.slice rm1 P rm2) (sa.meet sb)) := Lm.out.keep hF1
    have Lv : Hd (Loc (fun k => k ≠ Xn) w31 Xv P R (.slice hv1 P hv2) (.slice rv1 P rv2) (sb.meet sc)) := Lv.out.keep hF1
    have Lt : Hd (Loc (fun k => k ≠ Xn) w31 Xt P R (.slice ht1 P ht2) (.slice rt1 P rt2) ((sa.meet sb).meet sc)) := Lt.out.keep hF1
    have Lk : Hd (Loc (fun _ => True) w31 Xk P R (.slice hk1 P hk2) (.slice rk1 P rk2) (sa.meet (sb.meet sc))) := Lk.out.keep hF1
    have HF : Hd (Fr (fun _ => False) w w31) := HF.out.trans hF1
    clear hF1
    rw [show ((sa.meet sb).meet sc).eq (sa.meet (sb.meet sc)) = true from PS.eq_iff.2 (PS.meet_assoc _ _ _)]
    clear Hab Hba Hbc Hac Hca Hcb
    cases ca <;> cases cb
    all_goals
      go_wp2_with fail
      go_ret
      exact ⟨rfl, HF.out⟩

end Go.Proofs.Ytfgkilpahomenaa
