import Derived.Test.YtingenonbkencabDoorQMfJ
import Derived.Test.YtingenonbkencabDoorQRtJ
set_option linter.unusedVariables false
set_option linter.unusedSimpArgs false
namespace Go.Proofs.YtingenonbkencabDoor
open Go.RowKit (wrap32 wrap64)
set_option maxRecDepth 100000
set_option maxHeartbeats 4000000
theorem encodes_any (w : World) (G : Int) (fs : List PF) (fv : Value) (h : FA w fv fs) (hn : FineP fs) (hT : Tab w) (h0 : 0 < w.heap.size) :
 Calls Tryd.prog 3 #[.agg #[vI G, fv]] w fun e w' => e = .returned (.bool true) ∧ Fr (fun _ => False) w w' := by
 obtain ⟨fa, fc, efv, -⟩ := id h
 have hfa : Fr (fun _ => False) w (w.alloc (.cells #[vI G, fv] 24)) := Fr.alloc (Fr.refl _ w) _
 have HA : Hd (FA (w.alloc (.cells #[vI G, fv] 24)) fv fs) := h.stay hfa
 have HN : Hd (FineP fs) := hn
 have HT : Hd (Tab (w.alloc (.cells #[vI G, fv] 24))) := hT.fr hfa (fun h => h)
 have HP : Hd ((w.alloc (.cells #[vI G, fv] 24)).heap[w.heap.size]? = some (.cells #[vI G, fv] 24)) := heap_new w _
 have HF0 : Hd (Fr (fun _ => False) w (w.alloc (.cells #[vI G, fv] 24))) := hfa
 have H0 : Hd (0 < (w.alloc (.cells #[vI G, fv] 24)).heap.size) := Nat.lt_of_lt_of_le h0 hfa.size
 clear h hn hT h0 hfa
 subst efv
 obtain ⟨H, hH⟩ : ∃ H, H = w.heap.size := ⟨_, rfl⟩
 have qz : ∀ z : Int, (z == z) = true := fun z => by simp
 have qn : ∀ z : Int, (z != z) = false := fun z => by simp
 go_enter Tryd.func3, Tryd.ntmps3
 go_upto_region 1 with fail
 rw [← hH] at HP ⊢
 clear hH
 generalize w.alloc (.cells #[vI G, .slice fa fs.length fc] 24) = wa at *
 have PK : Hd (∀ wx, Fr (fun _ => False) wa wx → wx.cell? ⟨H, 0, none⟩ = some (vI G) ∧ wx.cell? ⟨H, 1, none⟩ = some (.slice fa fs.length fc) ∧ FA wx (.slice fa fs.length fc) fs ∧ Tab wx ∧ 0 < wx.heap.size ∧ Fr (fun _ => False) w wx) := fun wx f => by
  have hb := (f.block H (heap_lt HP.out) (fun h => h)).trans HP.out
  exact ⟨by rw [cell_of hb]; rfl, by rw [cell_of hb]; rfl, HA.out.stay f, HT.out.fr f (fun h => h), Nat.lt_of_lt_of_le H0.out f.size, HF0.out.trans f⟩
 go_wp2_with fail
 refine (works_any wa HT.out H0.out).mono ?_
 rintro e w1 ⟨rfl, f1⟩
 have F1 : Hd (Fr (fun _ => False) wa w1) := f1
 clear f1 HP HF0 HA HT H0
 obtain ⟨p0, p1, -⟩ := PK.out w1 F1.out
 go_wp2_with fail
 refine (wideProgram_any G _ fs w1 (PK.out w1 F1.out).2.2.1 HN.out).mono ?_
 rintro e w2 ⟨v', g, cv, rfl, hwf, f2⟩
 have hv := hwf.val
 subst hv
 have F2 : Hd (Fr (fun _ => False) wa (w2.alloc (.cells #[vI G, .slice (some ⟨g, 0, none⟩) fs.length (fs.length + 64)] 24))) := (F1.out.trans f2).alloc _
 have fx : Fr (fun _ => False) w2 (w2.alloc (.cells #[vI G, .slice (some ⟨g, 0, none⟩) fs.length (fs.length + 64)] 24)) := Fr.alloc (Fr.refl _ w2) _
 have XB : Hd ((w2.alloc (.cells #[vI G, .slice (some ⟨g, 0, none⟩) fs.length (fs.length + 64)] 24)).heap[w2.heap.size]? = some (.cells #[vI G, .slice (some ⟨g, 0, none⟩) fs.length (fs.length + 64)] 24)) := heap_new w2 _
 have HW : Hd (WF (w2.alloc (.cells #[vI G, .slice (some ⟨g, 0, none⟩) fs.length (fs.length + 64)] 24)) w1.heap.size (.slice (some ⟨g, 0, none⟩) fs.length (fs.length + 64)) fs g cv) := hwf.stay fx
 have HG : Hd (g < w2.heap.size) := hwf.row.lt
 have HC : Hd (∀ i, i < fs.length → ∀ k, (cv i).ownBlock = some k → k < w2.heap.size) := fun i hi k hk => ((hwf.code i fs[i] (List.getElem?_eq_getElem hi)).ge k hk).2
 have HB : Hd (wa.heap.size ≤ w1.heap.size) := F1.out.size
 clear f2 fx hwf p0 p1 F1
 go_upto_region 3 with fail
 obtain ⟨wb, hwb⟩ : ∃ wb, wb = w2.alloc (.cells #[vI G, (.slice (some ⟨g, 0, none⟩) fs.length (fs.length + 64))] 24) := ⟨_, rfl⟩
 obtain ⟨X, hX⟩ : ∃ X, X = w2.heap.size := ⟨_, rfl⟩
 rw [← hwb] at F2 XB HW
 rw [← hX] at XB HG HC
 rw [show w2.alloc (.cells #[.int .i64 G, (.slice (some ⟨g, 0, none⟩) fs.length (fs.length + 64))] 24) = wb from hwb.symm, ← hX]
 obtain ⟨B, hB⟩ : ∃ B, B = w1.heap.size := ⟨_, rfl⟩
 rw [← hB] at HW HB
 clear hwb hX hB
 have XK : Hd (∀ wx, Fr (fun _ => False) wb wx → wx.cell? ⟨X, 0, none⟩ = some (vI G) ∧ wx.cell? ⟨X, 1, none⟩ = some (.slice (some ⟨g, 0, none⟩) fs.length (fs.length + 64)) ∧ WF wx B (.slice (some ⟨g, 0, none⟩) fs.length (fs.length + 64)) fs g cv ∧ wx.heap[X]? = some (.cells #[vI G, (.slice (some ⟨g, 0, none⟩) fs.length (fs.length + 64))] 24)) := fun wx f => by
  have hb := (f.block X (heap_lt XB.out) (fun h => h)).trans XB.out
  exact ⟨by rw [cell_of hb]; rfl, by rw [cell_of hb]; rfl, HW.out.stay f, hb⟩
 clear HW XB
 obtain ⟨x0, x1, -⟩ := XK.out wb (Fr.refl _ wb)
 obtain ⟨zE, HZE⟩ : ∃ z, Hd (z = (rAll G fs).2) := ⟨_, rfl⟩
 go_wp2_with fail
 refine (encode_both wb G fs _ (XK.out wb (Fr.refl _ wb)).2.2.1.fa HN.out (PK.out wb F2.out).2.2.2.1 (PK.out wb F2.out).2.2.2.2.1).mono ?_
 rintro e w4 ⟨f4, a1, n1, c1, bs1, rfl, hn1, hb1, hbs1⟩
 rw [← HZE.out] at hbs1 ⊢
 have F4 : Hd (Fr (fun _ => False) wb w4) := f4
 have P4 : Hd (Fr (fun _ => False) wa w4) := F2.out.trans f4
 have HB1 : Hd (BytesIn w4 (.slice a1 n1 c1) bs1) := hb1
 have HBS1 : Hd (bs1 = if zE = 0 then docAll G fs else []) := hbs1
 have HN1 : Hd (n1 = bs1.length) := hn1
 clear f4 x0 x1 hb1 hbs1 hn1
 obtain ⟨p0, p1, -⟩ := PK.out w4 P4.out
 go_wp2_with fail
 refine (rencode_both w4 G fs _ (PK.out w4 P4.out).2.2.1 HN.out).mono ?_
 rintro e w5 ⟨f5, a2, n2, c2, bs2, rfl, hn2, hb2, hbs2⟩
 rw [← HZE.out] at hbs2 ⊢
 have hbb : bs2 = bs1 := by rw [hbs2, HBS1.out]
 subst hbb
 have F5 : Hd (Fr (fun _ => False) wb w5) := F4.out.trans f5
 have P5 : Hd (Fr (fun _ => False) wa w5) := P4.out.trans f5
 have HB2 : Hd (BytesIn w5 (.slice a2 n2 c2) bs2) := hb2
 have HB15 : Hd (BytesIn w5 (.slice a1 n1 c1) bs2) := HB1.out.stay f5
 clear f5 p0 p1 hb2 hbs2 HB1 HBS1 F4 P4 HN1 hn2 HZE
 obtain ⟨x0, x1, -⟩ := XK.out w5 F5.out
 obtain ⟨p0, p1, -⟩ := PK.out w5 P5.out
 go_wp2_with fail
 refine (eqProgram_same G fs _ _ w5 (XK.out w5 F5.out).2.2.1.fa (PK.out w5 P5.out).2.2.1 HN.out).mono ?_
 rintro e w6 ⟨rfl, f6⟩
 have F6 : Hd (Fr (fun _ => False) wb w6) := F5.out.trans f6
 have P6 : Hd (Fr (fun _ => False) wa w6) := P5.out.trans f6
 have HB26 : Hd (BytesIn w6 (.slice a2 n2 c2) bs2) := HB2.out.stay f6
 have HB16 : Hd (BytesIn w6 (.slice a1 n1 c1) bs2) := HB15.out.stay f6
 clear f6 x0 x1 p0 p1 F5 P5 HB2 HB15
 obtain ⟨x0, x1, -⟩ := XK.out w6 F6.out
 go_wp2_with fail
 refine (spareProgram_any G _ fs B g cv w6 (XK.out w6 F6.out).2.2.1 HN.out).mono ?_
 rintro e w7 ⟨rfl, f7⟩
 have F7 : Hd (Fr (fun _ => False) wb w7) := F6.out.trans f7
 have P7 : Hd (Fr (fun _ => False) wa w7) := P6.out.trans f7
 have hb2 := HB26.out.stay f7
 have hb1 := HB16.out.stay f7
 clear f7 x0 x1 F6 P6 HB26 HB16
 go_wp2_with fail
 refine (eqBytes_same _ _ bs2 w7 hb1 hb2).mono ?_
 rintro e w9 ⟨rfl, f9⟩
 have F9 : Hd (Fr (fun _ => False) wb w9) := F7.out.trans f9
 have P9 : Hd (Fr (fun _ => False) wa w9) := P7.out.trans f9
 clear f9 hb1 hb2 F7 P7
 obtain ⟨x0, x1, -, -⟩ := XK.out w9 F9.out
 go_wp2_with fail
 refine (turned_any G (.slice (some ⟨g, 0, none⟩) fs.length (fs.length + 64)) fs B g cv X w9 (XK.out w9 F9.out).2.2.1 HN.out HG.out HC.out).mono ?_
 rintro e wc ⟨rfl, fc', fs', hn', hw'⟩
 have hX := (fc'.block X (heap_lt (XK.out w9 F9.out).2.2.2) (fun h => by omega)).trans (XK.out w9 F9.out).2.2.2
 have PC : Hd (Fr (fun _ => False) wa wc) := P9.out.then fc' (fun j hj hS => by have := HB.out; omega)
 have HN' : Hd (FineP fs') := hn'
 have HW : Hd (FA wc (.slice (some ⟨g, 0, none⟩) fs.length (fs.length + 64)) fs') := hw'.fa
 have XB : Hd (wc.heap[X]? = some (.cells #[vI G, (.slice (some ⟨g, 0, none⟩) fs.length (fs.length + 64))] 24)) := hX
 clear XK HN HC HG HB F9 P9 fc' hn' hw' hX x0 x1 F2
 have XK : Hd (∀ wx, Fr (fun _ => False) wc wx → wx.cell? ⟨X, 0, none⟩ = some (vI G) ∧ wx.cell? ⟨X, 1, none⟩ = some (.slice (some ⟨g, 0, none⟩) fs.length (fs.length + 64)) ∧ FA wx (.slice (some ⟨g, 0, none⟩) fs.length (fs.length + 64)) fs') := fun wx f => by
  have hb := (f.block X (heap_lt XB.out) (fun h => h)).trans XB.out
  exact ⟨by rw [cell_of hb]; rfl, by rw [cell_of hb]; rfl, HW.out.stay f⟩
 obtain ⟨x0, x1, -⟩ := XK.out wc (Fr.refl _ wc)
 clear XB HW
 go_wp2_with fail
 refine (copyProgram_any G _ fs' wc (XK.out wc (Fr.refl _ wc)).2.2 HN'.out).mono ?_
 rintro e wd ⟨qv, rfl, hq, fd⟩
 obtain ⟨qa, qc, rfl, -⟩ := id hq
 have fx : Fr (fun _ => False) wd (wd.alloc (.cells #[vI G, .slice qa fs'.length qc] 24)) := Fr.alloc (Fr.refl _ wd) _
 have FE : Hd (Fr (fun _ => False) wc (wd.alloc (.cells #[vI G, .slice qa fs'.length qc] 24))) := fd.trans fx
 have QB : Hd ((wd.alloc (.cells #[vI G, .slice qa fs'.length qc] 24)).heap[wd.heap.size]? = some (.cells #[vI G, .slice qa fs'.length qc] 24)) := heap_new wd _
 have HQ : Hd (FA (wd.alloc (.cells #[vI G, .slice qa fs'.length qc] 24)) (.slice qa fs'.length qc) fs') := hq.stay fx
 clear fd fx hq x0 x1
 go_upto_region 10 with fail
 obtain ⟨we, hwe⟩ : ∃ we, we = wd.alloc (.cells #[vI G, .slice qa fs'.length qc] 24) := ⟨_, rfl⟩
 obtain ⟨Y, hY⟩ : ∃ Y, Y = wd.heap.size := ⟨_, rfl⟩
 rw [← hwe] at FE QB HQ
 rw [← hY] at QB
 rw [show wd.alloc (.cells #[.int .i64 G, .slice qa fs'.length qc] 24) = we from hwe.symm, ← hY]
 clear hwe hY
 have PE : Hd (Fr (fun _ => False) wa we) := PC.out.trans FE.out
 have QK : Hd (∀ wx, Fr (fun _ => False) we wx → wx.cell? ⟨Y, 0, none⟩ = some (vI G) ∧ wx.cell? ⟨Y, 1, none⟩ = some (.slice qa fs'.length qc) ∧ FA wx (.slice qa fs'.length qc) fs' ∧ wx.cell? ⟨X, 0, none⟩ = some (vI G) ∧ wx.cell? ⟨X, 1, none⟩ = some (.slice (some ⟨g, 0, none⟩) fs.length (fs.length + 64)) ∧ FA wx (.slice (some ⟨g, 0, none⟩) fs.length (fs.length + 64)) fs' ∧ Tab wx ∧ 0 < wx.heap.size ∧ Fr (fun _ => False) w wx) := fun wx f => by
  have hb := (f.block Y (heap_lt QB.out) (fun h => h)).trans QB.out
  obtain ⟨k1, k2, k3⟩ := XK.out wx (FE.out.trans f)
  obtain ⟨-, -, -, k4, k5, k6⟩ := PK.out wx (PE.out.trans f)
  exact ⟨by rw [cell_of hb]; rfl, by rw [cell_of hb]; rfl, HQ.out.stay f, k1, k2, k3, k4, k5, k6⟩
 clear QB HQ FE PE PC XK PK
 obtain ⟨-, -, -, x0, x1, hxa, hxt, hx0, -⟩ := QK.out we (Fr.refl _ we)
 have XA : Hd _ := hxa
 have XT : Hd _ := hxt
 clear hxa hxt
 obtain ⟨yE, HYE⟩ : ∃ z, Hd (z = (rAll G fs').2) := ⟨_, rfl⟩
 go_wp2_with fail
 refine (encode_both we G fs' _ XA.out HN'.out XT.out hx0).mono ?_
 rintro e wf ⟨ff, a3, n3, c3, bs3, rfl, hn3, hb3, hbs3⟩
 rw [← HYE.out] at hbs3 ⊢
 have F1 : Hd (Fr (fun _ => False) we wf) := ff
 have HB3 : Hd (BytesIn wf (.slice a3 n3 c3) bs3) := hb3
 have HBS3 : Hd (bs3 = if yE = 0 then docAll G fs' else []) := hbs3
 clear ff x0 x1 XA XT hx0 hb3 hbs3 hn3
 obtain ⟨y0, y1, -⟩ := QK.out wf F1.out
 go_wp2_with fail
 refine (rencode_both wf G fs' _ (QK.out wf F1.out).2.2.1 HN'.out).mono ?_
 rintro e wg ⟨fg, a4, n4, c4, bs4, rfl, hn4, hb4, hbs4⟩
 rw [← HYE.out] at hbs4 ⊢
 have hbb : bs4 = bs3 := by rw [hbs4, HBS3.out]
 subst hbb
 have F2 : Hd (Fr (fun _ => False) we wg) := F1.out.trans fg
 have hb3 := HB3.out.stay fg
 clear fg y0 y1 hbs4 hn4 HBS3 HB3 F1 HYE
 go_wp2_with fail
 refine (eqBytes_same _ _ bs4 wg hb3 hb4).mono ?_
 rintro e wh ⟨rfl, fh⟩
 have F3 : Hd (Fr (fun _ => False) w wh) := (QK.out wh (F2.out.trans fh)).2.2.2.2.2.2.2.2
 clear fh hb3 hb4 F2
 go_wp2_with fail
 go_ret
 exact ⟨rfl, F3.out⟩
end Go.Proofs.YtingenonbkencabDoor
