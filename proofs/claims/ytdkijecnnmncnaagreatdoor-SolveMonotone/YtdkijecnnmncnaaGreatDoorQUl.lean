import Derived.Test.YtdkijecnnmncnaaGreatDoorQUk
namespace Go.Proofs.YtdkijecnnmncnaaGreatDoor
open Go.RowKit (wrap32 wrap64)
set_option linter.unusedVariables false
set_option linter.unusedSimpArgs false
set_option maxRecDepth 100000
set_option maxHeartbeats 4000000
theorem monotone_any (G : Int) (fv av bv : Value) (fs : List PF) (xs ys : List PS) (w : World) (h1 : FA w fv fs) (h2 : SsA w av xs) (h3 : SsA w bv ys) (b1 : FineP fs) (b2 : FineS xs) (b3 : FineS ys) (hT : Tab w) (hR : RowsA w) :
 Calls Tryz.prog 3 #[.agg #[vI G, fv], av, bv] w fun e w' => e = .returned (.bool true) ∧ Fr (fun _ => False) w w' := by
 obtain ⟨wa, hwa⟩ : ∃ wa, wa = w.alloc (.cells #[vI G, fv] 24) := ⟨_, rfl⟩
 have HWA : Hd (wa = w.alloc (.cells #[vI G, fv] 24)) := hwa
 obtain ⟨H, hH⟩ : ∃ H, H = w.heap.size := ⟨_, rfl⟩
 have HH : Hd (H = w.heap.size) := hH
 have hb1 : wa.heap[H]? = some (.cells #[vI G, fv] 24) := by rw [hwa, hH]; exact heap_new0 w _
 have hFA : Fr (fun _ => False) w wa := by rw [hwa]; exact Fr.alloc (Fr.refl _ w) _
 have HFA : Hd (Fr (fun _ => False) w wa) := hFA
 have H1 : Hd (FA w fv fs) := h1
 have H2 : Hd (SsA w av xs) := h2
 have H3 : Hd (SsA w bv ys) := h3
 have B1 : Hd (FineP fs) := b1
 have B2 : Hd (FineS xs) := b2
 have B3 : Hd (FineS ys) := b3
 have HT : Hd (Tab w) := hT
 have HR : Hd (RowsA w) := hR
 obtain ⟨fa, fc, efv, -⟩ := id h1
 obtain ⟨aa, ac, eav, -⟩ := id h2
 obtain ⟨ba, bc, ebv, -⟩ := id h3
 subst efv eav ebv
 have hfl := b1.1
 have HP : Hd (∀ wx, Fr (fun _ => False) wa wx → wx.cell? ⟨H, 0, none⟩ = some (vI G) ∧ wx.cell? ⟨H, 1, none⟩ = some (.slice fa fs.length fc)) := fun wx hx => by
  have hb := (hx.block H (heap_lt0 hb1) (fun e => e)).trans hb1
  exact ⟨by rw [cell_of0 hb]; rfl, by rw [cell_of0 hb]; rfl⟩
 obtain ⟨c0, c1⟩ := HP.out wa (Fr.refl _ wa)
 have HWS : Hd (wa.heap.size = H + 1) := by unfold Hd; rw [hwa, hH]; simp
 clear hwa hH hb1 hFA h1 h2 h3 b1 b2 b3 hT hR
 obtain ⟨i7, hi7, hz7, hs7, hb7⟩ := info_parts (P := Tryz.prog) (e := 33) (z := .agg #[.slice none 0 0, .slice none 0 0]) (size := 2) (bytes := 48) (by kernel_rfl)
 go_enter Tryz.func3, Tryz.ntmps3
 go_upto_region 1 with fail
 rw [← HWA.out, ← HH.out]
 clear HWA
 go_wp2_with fail
 refine (show Calls Tryz.prog 8 #[.agg #[vI G, .slice fa fs.length fc]] wa _ from long_any G _ fs wa (H1.out.stay HFA.out) B1.out).mono ?_
 rintro e w1 ⟨b, rfl, hF1, -⟩
 have HF1 : Hd (Fr (fun _ => False) wa w1) := hF1
 clear hF1 c0 c1
 cases b with
 | true =>
   go_wp2_with fail
   go_ret
   exact ⟨rfl, HFA.out.trans HF1.out⟩
 | false =>
 go_wp2_with fail
 refine (show Calls Tryz.prog 9 #[.slice aa xs.length ac] w1 _ from longSums_any _ xs w1 (H2.out.stay (HFA.out.trans HF1.out)) B2.out).mono ?_
 rintro e w2 ⟨b, rfl, hF2, -⟩
 have HF2 : Hd (Fr (fun _ => False) wa w2) := HF1.out.trans hF2
 clear hF2 HF1
 cases b with
 | true =>
   go_wp2_with fail
   go_ret
   exact ⟨rfl, HFA.out.trans HF2.out⟩
 | false =>
 go_wp2_with fail
 refine (show Calls Tryz.prog 9 #[.slice ba ys.length bc] w2 _ from longSums_any _ ys w2 (H3.out.stay (HFA.out.trans HF2.out)) B3.out).mono ?_
 rintro e w3 ⟨b, rfl, hF3, -⟩
 have HF3 : Hd (Fr (fun _ => False) wa w3) := HF2.out.trans hF3
 clear hF3 HF2
 cases b with
 | true =>
   go_wp2_with fail
   go_ret
   exact ⟨rfl, HFA.out.trans HF3.out⟩
 | false =>
 have HFw : Hd (Fr (fun _ => False) w w3) := HFA.out.trans HF3.out
 go_wp2_with fail
 refine (lives_any w3 (HT.out.stay HFw.out) (HR.out.stay HFw.out (tab_lt HT.out))).mono ?_
 rintro e w4 ⟨rfl, hF4⟩
 have HF4 : Hd (Fr (fun _ => False) wa w4) := HF3.out.trans hF4
 clear hF4 HF3 HFw
 obtain ⟨c0, c1⟩ := HP.out w4 HF4.out
 go_wp2_with fail
 refine (show Calls Tryz.prog 11 #[.agg #[vI G, .slice fa fs.length fc], .slice aa xs.length ac] w4 _ from rights_any G _ _ fs xs w4 (H1.out.stay (HFA.out.trans HF4.out)) (H2.out.stay (HFA.out.trans HF4.out)) B1.out B2.out).mono ?_
 rintro e w5 ⟨b, rfl, hF5, hrg⟩
 have HF5 : Hd (Fr (fun _ => False) wa w5) := HF4.out.trans hF5
 clear hF5 HF4 c0 c1
 obtain ⟨c0, c1⟩ := HP.out w5 HF5.out
 cases b with
 | false =>
   clear hrg
   go_wp2_with fail
   go_ret
   exact ⟨rfl, HFA.out.trans HF5.out⟩
 | true =>
 have HCK : Hd (checkP G fs = 0) := (hrg rfl).1
 have HRA : Hd (RgtP fs xs) := (hrg rfl).2
 clear hrg
 go_wp2_with fail
 refine (show Calls Tryz.prog 11 #[.agg #[vI G, .slice fa fs.length fc], .slice ba ys.length bc] w5 _ from rights_any G _ _ fs ys w5 (H1.out.stay (HFA.out.trans HF5.out)) (H3.out.stay (HFA.out.trans HF5.out)) B1.out B3.out).mono ?_
 rintro e w6 ⟨b, rfl, hF6, hrg⟩
 have HF6 : Hd (Fr (fun _ => False) wa w6) := HF5.out.trans hF6
 clear hF6 HF5 c0 c1
 cases b with
 | false =>
   clear hrg
   go_wp2_with fail
   go_ret
   exact ⟨rfl, HFA.out.trans HF6.out⟩
 | true =>
 have HRB : Hd (RgtP fs ys) := (hrg rfl).2
 clear hrg
 have HPR : Hd (∀ f ∈ fs, f.P ≤ 8 ∧ f.R ≤ 4) := fun f hf => by
  have := right_ok (check_alone HCK.out f hf)
  exact ⟨this.P.2, this.R.2⟩
 have HLF : Hd (fs.length ≤ 65535) := (check_len HCK.out).2
 obtain ⟨n, hn⟩ : ∃ n, n = xs.length := ⟨_, rfl⟩
 have HN : Hd (xs.length = n ∧ ys.length = n ∧ fs.length = n) := by have := HRA.out.len; have := HRB.out.len; exact ⟨hn.symm, by omega, by omega⟩
 have hn65 : n ≤ 65535 := by have := HLF.out; have := HN.out; omega
 rw [HN.out.1, HN.out.2.1, HN.out.2.2]
 have HP : Hd (∀ wx, Fr (fun _ => False) wa wx → wx.cell? ⟨H, 0, none⟩ = some (vI G) ∧ wx.cell? ⟨H, 1, none⟩ = some (.slice fa n fc)) := by rw [HN.out.2.2] at HP; exact HP
 have H1 : Hd (FA w (.slice fa n fc) fs) := by rw [HN.out.2.2] at H1; exact H1
 have H2 : Hd (SsA w (.slice aa n ac) xs) := by rw [HN.out.1] at H2; exact H2
 have H3 : Hd (SsA w (.slice ba n bc) ys) := by rw [HN.out.2.1] at H3; exact H3
 clear hn hfl
 obtain ⟨aa', ac', ea, g2⟩ := H2.out.each HN.out.1
 injection ea with e1 e2 e3
 subst e1 e3
 clear e2
 obtain ⟨ba', bc', eb, g3⟩ := H3.out.each HN.out.2.1
 injection eb with e1 e2 e3
 subst e1 e3
 clear e2
 have G2 : Hd (∀ i (hi : i < xs.length), ∃ k o hv rv, aa = some ⟨k, o, none⟩ ∧ k < w.heap.size ∧ w.cell? ⟨k, o + i * 2, none⟩ = some hv ∧ w.cell? ⟨k, o + i * 2 + 1, none⟩ = some rv ∧ IA w hv xs[i].H ∧ LA w rv xs[i].R) := g2
 have G3 : Hd (∀ i (hi : i < ys.length), ∃ k o hv rv, ba = some ⟨k, o, none⟩ ∧ k < w.heap.size ∧ w.cell? ⟨k, o + i * 2, none⟩ = some hv ∧ w.cell? ⟨k, o + i * 2 + 1, none⟩ = some rv ∧ IA w hv ys[i].H ∧ LA w rv ys[i].R) := g3
 clear g2 g3
 go_wp2_with fail
 go_loopw [8, 9] (fun mv v wr => ∃ (k : Nat) (L : List SI), v = .int .i64 k ∧ k ≤ n ∧ Hd (SsO wr (H + 1) mv L) ∧ Hd (L.map (·.1) = mtS xs ys k) ∧ Hd (Fr (fun _ => False) wa wr)) (fun _ v _ => match v with | .int _ q => n - q.toNat | _ => 0)
 case atStart => exact ⟨0, [], rfl, Nat.zero_le _, ⟨World.ownsRow_nil _ _ _ _, fun x hx => by simp at hx⟩, rfl, HF6.out⟩
 case round =>
  clear HF6
  obtain ⟨k, L, rfl, hk, HO, HM, HF⟩ := hrel
  have HFw : Hd (Fr (fun _ => False) w wr) := HFA.out.trans HF.out
  by_cases hlt : k < n
  ·have ka : k < xs.length := by have := HN.out; omega
   have kb : k < ys.length := by have := HN.out; omega
   have kf : k < fs.length := by have := HN.out; omega
   obtain ⟨k2, o2, hv2, rv2, rfl, l2, p0, p1, ih2, il2⟩ := G2.out k ka
   obtain ⟨k3, o3, hv3, rv3, rfl, l3, p2, p3, ih3, il3⟩ := G3.out k kb
   have fp := HPR.out _ (List.getElem_mem kf)
   have HME : Hd (∀ wx, Fr (fun _ => False) wr wx → Calls Tryz.prog 12 #[.agg #[hv2, rv2], .agg #[hv3, rv3]] wx fun e w' => ∃ hv rv us, e = .returned (.agg #[hv, rv]) ∧ SO w' wx.heap.size hv rv us (meetS xs[k] ys[k]) ∧ Fr (fun _ => False) wx w') := fun wx hx => by
    have h9 := HFw.out.trans hx
    exact meet_any _ _ _ _ xs[k] ys[k] fs[k].P fs[k].R wx (ih2.stay h9) (il2.stay h9) (ih3.stay h9) (il3.stay h9) (HRA.out.fit k ka kf) (HRB.out.fit k kb kf) fp.1 fp.2
   have HPC : Hd (∀ wx, Fr (fun _ => False) wr wx → wx.cell? ⟨k2, o2 + k * 2, none⟩ = some hv2 ∧ wx.cell? ⟨k2, o2 + k * 2 + 1, none⟩ = some rv2 ∧ wx.cell? ⟨k3, o3 + k * 2, none⟩ = some hv3 ∧ wx.cell? ⟨k3, o3 + k * 2 + 1, none⟩ = some rv3) := fun wx hx => by
    have h9 := HFw.out.trans hx
    exact ⟨(h9.cell l2 (fun e => e)).trans p0, (h9.cell l2 (fun e => e)).trans p1, (h9.cell l3 (fun e => e)).trans p2, (h9.cell l3 (fun e => e)).trans p3⟩
   have HMN : Hd (mtS xs ys (k + 1) = mtS xs ys k ++ [meetS xs[k] ys[k]]) := by
    unfold Hd
    rw [mtS_succ]
    simp [ka, kb]
   have lw2 : k2 < wr.heap.size := Nat.lt_of_lt_of_le l2 HFw.out.size
   have lw3 : k3 < wr.heap.size := Nat.lt_of_lt_of_le l3 HFw.out.size
   obtain ⟨x1, x2, x3, ehv2⟩ : ∃ a n c, hv2 = .slice a n c := by obtain ⟨a, c, e, -⟩ := ih2; exact ⟨_, _, _, e⟩
   obtain ⟨x4, x5, x6, erv2⟩ : ∃ a n c, rv2 = .slice a n c := by obtain ⟨a, c, e, -⟩ := il2; exact ⟨_, _, _, e⟩
   obtain ⟨x7, x8, x9, ehv3⟩ : ∃ a n c, hv3 = .slice a n c := by obtain ⟨a, c, e, -⟩ := ih3; exact ⟨_, _, _, e⟩
   obtain ⟨x10, x11, x12, erv3⟩ : ∃ a n c, rv3 = .slice a n c := by obtain ⟨a, c, e, -⟩ := il3; exact ⟨_, _, _, e⟩
   subst ehv2 erv2 ehv3 erv3
   have HLL : Hd (L.length = k) := by have := congrArg List.length HM.out; rw [List.length_map, mtS_len] at this; exact this
   have HHW : Hd (H + 1 ≤ wr.heap.size) := by
    have h5 := HF.out.size
    have h6 := World.block_lt_of_cell? _ _ (HP.out wa (Fr.refl _ wa)).1
    simp only at h6
    unfold Hd
    omega
   generalize meetS xs[k] ys[k] = m at *
   clear ih2 il2 ih3 il3 p0 p1 p2 p3 l2 l3 fp
   obtain ⟨p0, p1, p2, p3⟩ := HPC.out wr (Fr.refl _ wr)
   have hk0 : (0 : Int) ≤ k := by omega
   have hk1 : (k : Int) < n := by omega
   have hk2 : k * 2 + 1 < k * 2 + 2 := by omega
   go_upto_region 10 with fail
   go_cut [10] (fun x10 wx => Hd (MtC (H + 1) m wr wx x10))
   case first =>
    go_region_held3 (fun w' => w'.cell? ⟨k2, o2 + k * 2, none⟩ = some (.slice x1 x2 x3) ∧ w'.cell? ⟨k2, o2 + k * 2 + 1, none⟩ = some (.slice x4 x5 x6) ∧ w'.cell? ⟨k3, o3 + k * 2, none⟩ = some (.slice x7 x8 x9) ∧ w'.cell? ⟨k3, o3 + k * 2 + 1, none⟩ = some (.slice x10 x11 x12)) (go_keep) ((
     go_at_call 12
     first
     |(with_reducible refine (HME.out wr.drew (Fr.drew (Fr.refl _ wr))).mono ?_
       rintro e w2 ⟨hv, rv, us, rfl, hS2, hF2⟩
       have hG2 : Fr (fun _ => False) wr w2 := (Fr.drew (Fr.refl _ wr)).trans hF2
       obtain ⟨p0, p1, p2, p3⟩ := HPC.out w2 hG2
       obtain ⟨ha, hc, eh⟩ := own_slice hS2.oh
       obtain ⟨ra, rc, er⟩ := own_slice hS2.lo.row
       subst eh er
       have HQ1 : Hd (MtC (H + 1) m wr (w2.alloc (.cells #[.slice ha m.H.length hc, .slice ra us.length rc] 33)) (.pointer (some ⟨w2.heap.size, 0, none⟩))) := MtC.new (hS2.mono HHW.out) hG2
       clear hS2 hF2 hG2)
     |(with_reducible refine (HME.out (wr.alloc nil2).drew (Fr.drew (Fr.alloc (Fr.refl _ wr) _))).mono ?_
       rintro e w2 ⟨hv, rv, us, rfl, hS2, hF2⟩
       have hG2 : Fr (fun _ => False) wr w2 := (Fr.drew (Fr.alloc (Fr.refl _ wr) _)).trans hF2
       obtain ⟨p0, p1, p2, p3⟩ := HPC.out w2 hG2
       obtain ⟨ha, hc, eh⟩ := own_slice hS2.oh
       obtain ⟨ra, rc, er⟩ := own_slice hS2.lo.row
       subst eh er
       have bN : w2.heap[wr.heap.size]? = some nil2 := keepF (show (wr.alloc nil2).drew.heap[wr.heap.size]? = some nil2 from heap_new0 wr nil2) hF2
       have hsz : (wr.alloc nil2).drew.heap.size = wr.heap.size + 1 := by show (wr.alloc nil2).heap.size = _; rw [World.size_alloc]
       have HQ2 : Hd (MtC (H + 1) m wr ((w2.setCell ⟨wr.heap.size, 0, none⟩ (.slice ha m.H.length hc)).setCell ⟨wr.heap.size, 1, none⟩ (.slice ra us.length rc)) (.pointer (some ⟨wr.heap.size, 0, none⟩))) := MtC.set hS2 (by have := HHW.out; omega) (by omega) (Nat.le_refl _) bN hG2
       have n1 : wr.heap.size ≠ k2 := by omega
       have n2 : k2 ≠ wr.heap.size := by omega
       have n3 : wr.heap.size ≠ k3 := by omega
       have n4 : k3 ≠ wr.heap.size := by omega
       have y0 : w2.cell? ⟨wr.heap.size, 0, none⟩ = some (.slice none 0 0) := by rw [cell_of0 bN]; rfl
       have y1 : w2.cell? ⟨wr.heap.size, 1, none⟩ = some (.slice none 0 0) := by rw [cell_of0 bN]; rfl
       have z0 := frozen_of bN 0
       have z1 := frozen_of bN 1
       clear hS2 hF2 hG2 bN hsz)))
    all_goals
     go_wp2_with fail
     go_meet
     unfold Hd
     first
      | with_reducible exact HQ1.out
      | with_reducible exact HQ2.out
   case rest =>
    obtain ⟨M, ha, hc, ra, rc, us, rfl, hM, hSO, hFx⟩ := hcut
    have HOx : Hd (SsO wc (H + 1) u8 L) := HO.out.stay hFx
    have q0 : wc.cell? ⟨M, 0, none⟩ = some (.slice ha m.H.length hc) := by rw [cell_of0 hM]; rfl
    have q1 : wc.cell? ⟨M, 1, none⟩ = some (.slice ra us.length rc) := by rw [cell_of0 hM]; rfl
    have hFb : Fr (fun _ => False) wc (wc.alloc (.cells #[.slice ha m.H.length hc, .slice ra us.length rc] 33)) := Fr.alloc (Fr.refl _ wc) _
    have HO1 : Hd (SsO (wc.alloc (.cells #[.slice ha m.H.length hc, .slice ra us.length rc] 33)) (H + 1) u8 L) := HOx.out.stay hFb
    have HX1 : Hd (SO (wc.alloc (.cells #[.slice ha m.H.length hc, .slice ra us.length rc] 33)) (H + 1) (.slice ha m.H.length hc) (.slice ra us.length rc) us m) := hSO.keep hFb
    have HF1 : Hd (Fr (fun _ => False) wa (wc.alloc (.cells #[.slice ha m.H.length hc, .slice ra us.length rc] 33))) := (HF.out.trans hFx).trans hFb
    have HRW : Hd ((wc.alloc (.cells #[.slice ha m.H.length hc, .slice ra us.length rc] 33)).ownsRow (H + 1) 33 2 u8 L.length (L.flatMap rowS)) := HO1.out.row
    have hnews : ∀ j u, [Value.slice ha m.H.length hc, .slice ra us.length rc][j]? = some u → (wc.alloc (.cells #[.slice ha m.H.length hc, .slice ra us.length rc] 33)).cell? ((⟨wc.heap.size, 0, none⟩ : Addr).add j) = some u :=
     World.news_of_block (cs := #[.slice ha m.H.length hc, .slice ra us.length rc]) (heap_new0 wc _)
    have hbase : H + 1 ≤ (wc.alloc (.cells #[.slice ha m.H.length hc, .slice ra us.length rc] 33)).heap.size := by have := HHW.out; have := hFx.size; have := hFb.size; omega
    have hEl : L.length + 1 ≤ 65536 := by have := HLL.out; omega
    clear hM hSO hFx hFb HO HOx HF HFw p0 p1 p2 p3
    go_wp2_with ((at_builtin; refine Hd.out ?_))
    unfold Hd
    refine wpList_append_lies _ rfl (.tmp 60) (.tmp 62) 25 rfl (H + 1) 33 i7 (.agg #[.slice none 0 0, .slice none 0 0]) 2 48 under25 hi7 hz7 hs7 hb7 rfl (by omega) u8 L.length _ rfl HRW.out ⟨wc.heap.size, 0, none⟩ 1 1 [.slice ha m.H.length hc, .slice ra us.length rc] rfl rfl hnews (by intro u hu; simp at hu; rcases hu with rfl | rfl <;> rfl) (by omega) (by unfold maxLen; omega) (by omega) hbase (wc.heap.size + 1) (by simp) ?_
    intro g6 cap6 w6 hown6 hgrow6 hat6 hlt6
    have HO6 : Hd (SsO w6 (H + 1) (.slice (some ⟨g6, 0, none⟩) (L.length + 1) cap6) (L ++ [(m, .slice ha m.H.length hc, .slice ra us.length rc, us)])) := HO1.out.app HX1.out hgrow6 hown6
    have HF6 : Hd (Fr (fun _ => False) wa w6) := HF1.out.then (grown_frL hgrow6) (fun j hj e => by
     have h5 := (World.ownsRow.lt HRW.out j e).1
     have h6 := World.block_lt_of_cell? _ _ (HP.out wa (Fr.refl _ wa)).1
     have h7 := HWS.out
     omega)
    have HM6 : Hd ((L ++ [(m, Value.slice ha m.H.length hc, Value.slice ra us.length rc, us)]).map (·.1) = mtS xs ys (k + 1)) := by
     unfold Hd
     rw [HMN.out, List.map_append, HM.out]
     rfl
    clear hown6 hgrow6 hat6 hlt6 HO1 HF1 HRW hnews hbase HX1 q0 q1
    go_wp2_with fail
    exact ⟨⟨k + 1, _, by simp, by omega, HO6.out, HM6.out, HF6.out⟩, by simp; omega⟩
  ·have hke : k = n := by omega
   have dk : decide ((k : Int) < n) = false := by simp; omega
   have hsa := HO.out.sa
   rw [HM.out, hke] at hsa
   have hml : (mtS xs ys n).length = n := mtS_len xs ys n
   have HRM : Hd (RgtP fs (mtS xs ys n)) := by have := mtS_right HRA.out HRB.out; rw [HN.out.1] at this; exact this
   have HFM : Hd (FineS (mtS xs ys n)) := by have := mtS_fine HPR.out HRA.out HRB.out (by have := HN.out; omega); rw [HN.out.1] at this; exact this
   have HLW : Hd (∀ q (h : q < xs.length) (h' : q < (mtS xs ys n).length), Lwr (mtS xs ys n)[q] xs[q]) := by
    have e : n = xs.length := HN.out.1.symm
    subst e
    exact mtS_lwr HRA.out HRB.out
   generalize mtS xs ys n = ms at *
   obtain ⟨ma, mc, emv⟩ : ∃ ma mc, u8 = .slice ma n mc := by
    obtain ⟨a, c, e, -⟩ := hsa
    exact ⟨a, c, by rw [e, hml]⟩
   subst emv
   have HSM : Hd (SsA wr (.slice ma n mc) ms) := hsa
   have HFN1 : Hd (∀ (wx : World) (i : Nat) (hi : i < fs.length), Fr (fun _ => False) wr wx → Calls Tryz.prog 13 #[.agg #[vI G, .slice fa n fc], vI (i : Int), .slice aa n ac] wx fun e w' => Fr (fun _ => False) wx w' ∧ FunG xs fs[i] wx e w') := fun wx i hi hx => by
    have h9 := HFw.out.trans hx
    refine (function_any G _ _ fs xs i wx (H1.out.stay h9) (H2.out.stay h9) B1.out B2.out (HT.out.stay h9) (HR.out.stay h9 (tab_lt HT.out))).mono ?_
    rintro e w' ⟨hf, ⟨hn, -⟩ | ⟨j, hj, ej, -, hg⟩⟩
    ·exact absurd (HRA.out.edg HCK.out hi) hn
    ·obtain rfl : i = j := by omega
     exact ⟨hf, hg⟩
   have HFN2 : Hd (∀ (wx : World) (i : Nat) (hi : i < fs.length), Fr (fun _ => False) wr wx → Calls Tryz.prog 13 #[.agg #[vI G, .slice fa n fc], vI (i : Int), .slice ma n mc] wx fun e w' => Fr (fun _ => False) wx w' ∧ FunG ms fs[i] wx e w') := fun wx i hi hx => by
    have h9 := HFw.out.trans hx
    refine (function_any G _ _ fs ms i wx (H1.out.stay h9) (HSM.out.stay hx) B1.out HFM.out (HT.out.stay h9) (HR.out.stay h9 (tab_lt HT.out))).mono ?_
    rintro e w' ⟨hf, ⟨hn, -⟩ | ⟨j, hj, ej, -, hg⟩⟩
    ·exact absurd (HRM.out.edg HCK.out hi) hn
    ·obtain rfl : i = j := by omega
     exact ⟨hf, hg⟩
   have HLAW : Hd (∀ i (hi : i < fs.length), (∀ l, l < locN fs[i] → escF xs fs[i] l = true → escF ms fs[i] l = true) ∧ Lwr (solF ms fs[i]) (solF xs fs[i]) ∧ fitsX (solF ms fs[i]) fs[i].P fs[i].R = true ∧ fs[i].P ≤ 8 ∧ fs[i].R ≤ 4 ∧ locN fs[i] ≤ 1048576) := fun i hi => by
    obtain ⟨k1, k2, k3, k4, k5⟩ := (HRA.out.edg HCK.out hi).sol
    obtain ⟨m1, m2, m3, m4, m5⟩ := (HRM.out.edg HCK.out hi).sol
    obtain ⟨q1, q2⟩ := solF_mono k2 k3 k4 m4 k5 m5 HLW.out
    exact ⟨q1, q2, solF_fits k2 k3 m4 m5, k2.P.2, k2.R.2, (edg_edr k2 k4 k5).n2⟩
   have HCE : Hd (∀ wx, Fr (fun _ => False) wr wx → wx.cell? ⟨H, 0, none⟩ = some (vI G) ∧ wx.cell? ⟨H, 1, none⟩ = some (.slice fa n fc)) := fun wx hx => HP.out wx (HF.out.trans hx)
   clear hke hsa HO HM HSM HRM HFM HLW G2 G3
   go_wp2_with fail
   clear dk
   go_loopw [11] (fun v wq => ∃ (i : Nat), v = .int .i64 i ∧ i ≤ n ∧ Hd (Fr (fun _ => False) wr wq) ∧ Hd (Fr (fun _ => False) w wq)) (fun v _ => match v with | .int _ q => n - q.toNat | _ => 0)
   case atStart => exact ⟨0, rfl, Nat.zero_le _, Fr.refl _ _, HFw.out⟩
   case round =>
    clear HF HFw
    obtain ⟨i, rfl, hi, HF, HFw⟩ := hrel
    obtain ⟨c0, c1⟩ := HCE.out wr HF.out
    by_cases hlt2 : i < n
    ·have hif : i < fs.length := by have := HN.out; omega
     have hc1 := HFN1.out wr i hif HF.out
     obtain ⟨k1, k2, k4, k5, k6, k7⟩ := HLAW.out i hif
     have HL1 : Hd (∀ l, l < locN fs[i] → escF xs fs[i] l = true → escF ms fs[i] l = true) := k1
     have HL2 : Hd (Lwr (solF ms fs[i]) (solF xs fs[i]) ∧ fitsX (solF ms fs[i]) fs[i].P fs[i].R = true ∧ fs[i].P ≤ 8 ∧ fs[i].R ≤ 4) := ⟨k2, k4, k5, k6⟩
     have HC2 : Hd (∀ (wx : World), Fr (fun _ => False) wr wx → Calls Tryz.prog 13 #[.agg #[vI G, .slice fa n fc], vI (i : Int), .slice ma n mc] wx fun e w' => Fr (fun _ => False) wx w' ∧ FunG ms fs[i] wx e w') := fun wx hx => HFN2.out wx i hif (HF.out.trans hx)
     have HCE2 : Hd (∀ wx, Fr (fun _ => False) wr wx → wx.cell? ⟨H, 0, none⟩ = some (vI G) ∧ wx.cell? ⟨H, 1, none⟩ = some (.slice fa n fc)) := fun wx hx => HCE.out wx (HF.out.trans hx)
     clear k1 k2 k4 k5 k6
     generalize fs[i] = f at *
     have hi0 : (0 : Int) ≤ i := by omega
     have hi1 : (i : Int) < n := by omega
     have HC1 : Hd (Calls Tryz.prog 13 #[.agg #[vI G, .slice fa n fc], vI (i : Int), .slice aa n ac] wr fun e w' => Fr (fun _ => False) wr w' ∧ FunG xs f wr e w') := hc1
     clear hc1
     go_wp2_with fail
     refine HC1.out.mono ?_
     rintro e w12 ⟨hF12, eb, p, r, g1, g2, gs, Y, Z, rfl, hb12, hrow, hsm, hp8, hr4, hsol⟩
     have HFz : Hd (Fr (fun _ => False) wr (w12.alloc (.cells #[.slice (some ⟨g1, 0, none⟩) p p, .slice (some ⟨g2, 0, none⟩) p p] 33))) := hF12.alloc _
     have HRO : Hd (Wg.Row (w12.alloc (.cells #[.slice (some ⟨g1, 0, none⟩) p p, .slice (some ⟨g2, 0, none⟩) p p] 33)) 4 eb (locN f) (fun l => .bool (escF xs f l))) := Row.stay hrow (Fr.alloc (Fr.refl _ w12) _)
     have HSA : Hd (IA (w12.alloc (.cells #[.slice (some ⟨g1, 0, none⟩) p p, .slice (some ⟨g2, 0, none⟩) p p] 33)) (.slice (some ⟨g1, 0, none⟩) p p) (solF xs f).H ∧ LA (w12.alloc (.cells #[.slice (some ⟨g1, 0, none⟩) p p, .slice (some ⟨g2, 0, none⟩) p p] 33)) (.slice (some ⟨g2, 0, none⟩) p p) (solF xs f).R) := by
      rw [hsol]
      exact ((hsm.keep (Fr.alloc (Fr.refl _ w12) _)).so hp8 hr4).sa
     have HX11 : Hd ((w12.alloc (.cells #[.slice (some ⟨g1, 0, none⟩) p p, .slice (some ⟨g2, 0, none⟩) p p] 33)).heap[w12.heap.size]? = some (.cells #[.slice (some ⟨g1, 0, none⟩) p p, .slice (some ⟨g2, 0, none⟩) p p] 33)) := heap_new0 w12 _
     clear hF12 hb12 hrow hsm hp8 hr4 hsol c0 c1 HC1
     go_upto_region 16 with fail
     obtain ⟨X2, hX2⟩ : ∃ X2, X2 = w12.heap.size := ⟨_, rfl⟩
     rw [← hX2] at HX11 ⊢
     clear hX2
     generalize w12.alloc (.cells #[.slice (some ⟨g1, 0, none⟩) p p, .slice (some ⟨g2, 0, none⟩) p p] 33) = w13 at *
     obtain ⟨c0, c1⟩ := HCE2.out w13 HFz.out
     go_wp2_with fail
     refine (HC2.out w13 HFz.out).mono ?_
     rintro e w14 ⟨hF14, eb', p', r', g1', g2', gs', Y', Z', rfl, hb14, hrow, hsm, hp8, hr4, hsol⟩
     have HFy : Hd (Fr (fun _ => False) w13 (w14.alloc (.cells #[.slice (some ⟨g1', 0, none⟩) p' p', .slice (some ⟨g2', 0, none⟩) p' p'] 33))) := hF14.alloc _
     have HRO2 : Hd (Wg.Row (w14.alloc (.cells #[.slice (some ⟨g1', 0, none⟩) p' p', .slice (some ⟨g2', 0, none⟩) p' p'] 33)) 4 eb' (locN f) (fun l => .bool (escF ms f l))) := Row.stay hrow (Fr.alloc (Fr.refl _ w14) _)
     have HSA2 : Hd (IA (w14.alloc (.cells #[.slice (some ⟨g1', 0, none⟩) p' p', .slice (some ⟨g2', 0, none⟩) p' p'] 33)) (.slice (some ⟨g1', 0, none⟩) p' p') (solF ms f).H ∧ LA (w14.alloc (.cells #[.slice (some ⟨g1', 0, none⟩) p' p', .slice (some ⟨g2', 0, none⟩) p' p'] 33)) (.slice (some ⟨g2', 0, none⟩) p' p') (solF ms f).R) := by
      rw [hsol]
      exact ((hsm.keep (Fr.alloc (Fr.refl _ w14) _)).so hp8 hr4).sa
     have HX14 : Hd ((w14.alloc (.cells #[.slice (some ⟨g1', 0, none⟩) p' p', .slice (some ⟨g2', 0, none⟩) p' p'] 33)).heap[w14.heap.size]? = some (.cells #[.slice (some ⟨g1', 0, none⟩) p' p', .slice (some ⟨g2', 0, none⟩) p' p'] 33)) := heap_new0 w14 _
     clear hF14 hb14 hrow hsm hp8 hr4 hsol c0 c1 HC2 HCE2
     go_upto_region 17 with fail
     obtain ⟨X4, hX4⟩ : ∃ X4, X4 = w14.heap.size := ⟨_, rfl⟩
     rw [← hX4] at HX14 ⊢
     clear hX4
     generalize w14.alloc (.cells #[.slice (some ⟨g1', 0, none⟩) p' p', .slice (some ⟨g2', 0, none⟩) p' p'] 33) = w15 at *
     have HAB : Hd (Calls Tryz.prog 14 #[.agg #[.slice (some ⟨g1', 0, none⟩) p' p', .slice (some ⟨g2', 0, none⟩) p' p'], .agg #[.slice (some ⟨g1, 0, none⟩) p p, .slice (some ⟨g2, 0, none⟩) p p]] w15 fun e w' => e = .returned (.bool true) ∧ Fr (fun _ => False) w15 w') := above_lwr _ _ _ _ _ _ f.P f.R w15 HSA2.out.1 HSA2.out.2 (HSA.out.1.stay HFy.out) (HSA.out.2.stay HFy.out) HL2.out.1 HL2.out.2.1 HL2.out.2.2.1 HL2.out.2.2.2
     have HR15 : Hd (Wg.Row w15 4 eb (locN f) (fun l => .bool (escF xs f l))) := Row.stay HRO.out HFy.out
     have s0 : w15.cell? ⟨X2, 0, none⟩ = some (.slice (some ⟨g1, 0, none⟩) p p) := by rw [cell_of0 (keepF HX11.out HFy.out)]; rfl
     have s1 : w15.cell? ⟨X2, 1, none⟩ = some (.slice (some ⟨g2, 0, none⟩) p p) := by rw [cell_of0 (keepF HX11.out HFy.out)]; rfl
     have t0 : w15.cell? ⟨X4, 0, none⟩ = some (.slice (some ⟨g1', 0, none⟩) p' p') := by rw [cell_of0 HX14.out]; rfl
     have t1 : w15.cell? ⟨X4, 1, none⟩ = some (.slice (some ⟨g2', 0, none⟩) p' p') := by rw [cell_of0 HX14.out]; rfl
     have HF15 : Hd (Fr (fun _ => False) wr w15) := HFz.out.trans HFy.out
     generalize escF xs f = ef at *
     generalize escF ms f = ef' at *
     generalize locN f = nl at *
     have dn : ((nl : Int) != (nl : Int)) = false := by simp
     clear HL2 HSA HSA2 HRO HFz HFy HX11 HX14
     go_wp2_with fail
     refine HAB.out.mono ?_
     rintro e w16 ⟨rfl, hF16⟩
     have HF16 : Hd (Fr (fun _ => False) wr w16) := HF15.out.trans hF16
     have HRa : Hd (Wg.Row w16 4 eb nl (fun l => .bool (ef l))) := Row.stay HR15.out hF16
     have HRb : Hd (Wg.Row w16 4 eb' nl (fun l => .bool (ef' l))) := Row.stay HRO2.out hF16
     have HFo : Hd (Fr (fun _ => False) w w16) := HFw.out.trans HF16.out
     have HFq : Hd _ := HF.out.trans HF16.out
     clear hF16 HAB s0 s1 t0 t1 HF15 HR15 HRO2 HF HFw HF16
     go_wp2_with fail
     go_loopw [18] (fun v wq => ∃ (k : Nat), v = .int .i64 k ∧ k ≤ nl ∧ Hd (Wg.Row wq 4 eb nl (fun l => .bool (ef l))) ∧ Hd (Wg.Row wq 4 eb' nl (fun l => .bool (ef' l))) ∧ Hd (Fr (fun _ => False) w16 wq)) (fun v _ => match v with | .int _ q => nl - q.toNat | _ => 0)
     case atStart => exact ⟨0, rfl, Nat.zero_le _, HRa.out, HRb.out, Fr.refl _ _⟩
     case round =>
      clear HRa HRb
      obtain ⟨k, rfl, hk, HRa, HRb, HF17⟩ := hrel
      by_cases hltk : k < nl
      ·have hk0 : (0 : Int) ≤ k := by omega
       have hk1 : (k : Int) < nl := by omega
       have q0 := HRa.out.cell hltk
       have q1 := HRb.out.cell hltk
       have himp := HL1.out k hltk
       cases ha : ef k with
       | false =>
         rw [ha] at q0
         clear himp ha
         go_wp2_with fail
         exact ⟨⟨k + 1, by simp, by omega, HRa.out, HRb.out, HF17.out⟩, by simp; omega⟩
       | true =>
         rw [ha] at q0
         rw [himp ha] at q1
         clear himp ha
         go_wp2_with fail
         exact ⟨⟨k + 1, by simp, by omega, HRa.out, HRb.out, HF17.out⟩, by simp; omega⟩
      ·have dk : decide ((k : Int) < nl) = false := by simp; omega
       have HFy : Hd _ := HFq.out.trans HF17.out
       have HFz : Hd _ := HFo.out.trans HF17.out
       go_wp2_with fail
       exact ⟨⟨i + 1, by simp, by omega, HFy.out, HFz.out⟩, by simp; omega⟩
    ·have di : decide ((i : Int) < n) = false := by simp; omega
     go_wp2_with fail
     go_ret
     exact ⟨rfl, HFw.out⟩
end Go.Proofs.YtdkijecnnmncnaaGreatDoor
