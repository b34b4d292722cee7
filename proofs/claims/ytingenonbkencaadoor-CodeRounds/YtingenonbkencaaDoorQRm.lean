import Derived.Test.YtingenonbkencaaDoorQRgJ
import Derived.Test.YtingenonbkencaaDoorQW8J
import Derived.Test.YtingenonbkencaaDoorQLgJ
import Derived.Test.YtingenonbkencaaDoorQRlJ
set_option linter.unusedVariables false
set_option linter.unusedSimpArgs false
namespace Go.Proofs.YtingenonbkencaaDoor
open Go.RowKit (wrap32 wrap64)
set_option maxRecDepth 100000
set_option maxHeartbeats 4000000
theorem roomR : RoomOk 100000000000 := ⟨by omega, by omega⟩
theorem encode_fa (w : World) (G : Int) (fs : List PF) (fv : Value) (h : FA w fv fs) (hn : FineP fs) (hc : ∀ f ∈ fs, ∀ c ∈ f.code, In64n c) (hT : Tab w) (h0 : 0 < w.heap.size) :
    Calls Tryd.prog 12 #[.agg #[vI G, fv]] w fun e w' => Fr (fun _ => False) w w' ∧ ((checkP G fs = 0 ∧ ∃ a c bs, 16 ≤ bs.length ∧ bs.length ≤ 1000000000000 ∧ decX bs = .ok (G, fs.map hd, fs.map (fun f => f.code.map ai)) ∧ e = .returned (.tuple #[.slice a bs.length c, vI 0]) ∧ Handed w' (.slice a bs.length c) bs) ∨ (checkP G fs ≠ 0 ∧ e = .returned (.tuple #[.slice none 0 0, vI (checkP G fs)]))) := by
  refine (encode_any roomR w G fs fv w.heap.size (h.fl hn (Nat.le_refl _)) hc hT h0).mono ?_
  rintro e w' ⟨f, hr⟩
  refine ⟨f, ?_⟩
  have hck := enc_check (n := w.heap.size) roomR G fs
  cases hx : encK w.heap.size 100000000000 G fs with
  | error z =>
    rw [hx] at hr hck
    refine Or.inr ⟨?_, ?_⟩
    · rw [hck.1]; exact hck.2
    · rw [hck.1]; exact hr
  | ok y =>
    rw [hx] at hr hck
    obtain ⟨a, c, e1, e2⟩ := hr
    obtain ⟨k1, k2, k3⟩ := enc_dec roomR hc hx
    exact Or.inl ⟨hck, a, c, y.2.2, k3, k2, k1, e1, e2⟩
theorem encode_back (w : World) (G : Int) (done : List HD) (ls : List (List AI)) (bs : List UInt8) (fv : Value) (hL : bs.length ≤ 1000000000000000) (hd0 : decX bs = .ok (G, done, ls)) (hl : ls.length = done.length) (hn65 : done.length ≤ 65535) (hd' : ∀ h ∈ done, HeadFine h) (h : FA w fv (pfs done ls)) (hT : Tab w) (h0 : 0 < w.heap.size) :
    checkP G (pfs done ls) = 0 ∧ Calls Tryd.prog 12 #[.agg #[vI G, fv]] w fun e w' => Fr (fun _ => False) w w' ∧ ∃ a c, e = .returned (.tuple #[.slice a bs.length c, vI 0]) ∧ Handed w' (.slice a bs.length c) bs := by
  obtain ⟨e1, e2, hn, hc, hfew⟩ := dec_fs hL hd0 hl hn65 hd'
  have hx : throughX 0 nilS bs (WS.start nilS) nilS = .ok (G, (pfs done ls).map hd, ls) := by rw [e1]; exact hd0
  obtain ⟨y, hy, hyb, -⟩ := over_forth (b := w.heap.size + 4) (wb := w.heap.size + 2) (g0 := w.heap.size + 1) (K := w.heap.size + 8) (vw := writerFn (w.heap.size + 2)) (room := 100000000000) hfew (by omega) hx e2
  have hk : encK w.heap.size 100000000000 G (pfs done ls) = .ok y := hy
  have hck := enc_check (n := w.heap.size) roomR G (pfs done ls)
  rw [hk] at hck
  refine ⟨hck, (encode_any roomR w G (pfs done ls) fv w.heap.size (h.fl hn (Nat.le_refl _)) hc hT h0).mono ?_⟩
  rintro e w' ⟨f, hr⟩
  rw [hk] at hr
  obtain ⟨a, c, k1, k2⟩ := hr
  rw [hyb] at k1 k2
  exact ⟨f, a, c, k1, k2⟩
theorem handed_in {w : World} {v : Value} {bs : List UInt8} (h : Handed w v bs) : BytesIn w v bs := by
  obtain ⟨hL, ⟨rfl, rfl⟩ | ⟨-, k, o, c, rfl, hc, hk, hcell⟩⟩ := h
  · exact ⟨hL, none, 0, rfl, Nat.le_refl _, fun h => absurd rfl h⟩
  · exact ⟨hL, _, c, rfl, hc, fun _ => ⟨k, o, rfl, hk, hcell⟩⟩
theorem pfs_ai : ∀ (fs : List PF), pfs (fs.map hd) (fs.map (fun f => f.code.map ai)) = fs
  | [] => rfl
  | f :: r => by
    have ih := pfs_ai r
    unfold pfs at ih ⊢
    simp only [List.map_cons, List.zipWith_cons_cons, ih]
    congr 1
    have : (f.code.map ai).map pi = f.code := by
      rw [List.map_map]
      exact List.map_id'' (fun c => rfl) _
    rw [this]
    rfl
theorem rounds_any (w : World) (G : Int) (fs : List PF) (fv : Value) (h : FA w fv fs) (hn : FineP fs) (hc : ∀ f ∈ fs, ∀ c ∈ f.code, In64n c) (v2 : Value) (ms : List UInt8) (h2 : BytesIn w v2 ms) (hl2 : ms.length ≤ 140737488351232) (hT : Tab w) (h0 : 0 < w.heap.size) :
    Calls Tryd.prog 5 #[.agg #[vI G, fv], v2] w fun e w' => e = .returned (.bool true) ∧ Fr (fun _ => False) w w' := by
  obtain ⟨fa, fc, efv, -⟩ := id h
  obtain ⟨a2, c2, ev2, hc2⟩ : ∃ a c, v2 = .slice a ms.length c ∧ ms.length ≤ c := by obtain ⟨-, a, c, e, h, -⟩ := h2; exact ⟨a, c, e, h⟩
  have hfa : Fr (fun _ => False) w (w.alloc (.cells #[vI G, fv] 26)) := Fr.alloc (Fr.refl _ w) _
  have HA : Hd (FA (w.alloc (.cells #[vI G, fv] 26)) fv fs) := h.stay hfa
  have HM : Hd (BytesIn (w.alloc (.cells #[vI G, fv] 26)) v2 ms) := h2.grow hfa
  have HN : Hd (FineP fs) := hn
  have HC : Hd (∀ f ∈ fs, ∀ c ∈ f.code, In64n c) := hc
  have HT : Hd (Tab (w.alloc (.cells #[vI G, fv] 26))) := hT.fr hfa (fun h => h)
  have HP : Hd ((w.alloc (.cells #[vI G, fv] 26)).heap[w.heap.size]? = some (.cells #[vI G, fv] 26)) := heap_new w _
  have HF0 : Hd (Fr (fun _ => False) w (w.alloc (.cells #[vI G, fv] 26))) := hfa
  have H0 : Hd (0 < (w.alloc (.cells #[vI G, fv] 26)).heap.size) := Nat.lt_of_lt_of_le h0 hfa.size
  clear h hn hT h0 hfa hc h2
  subst efv ev2
  obtain ⟨H, hH⟩ : ∃ H, H = w.heap.size := ⟨_, rfl⟩
  have qn : ∀ z : Int, (z != z) = false := fun z => by simp
  go_enter Tryd.func5, Tryd.ntmps5
  go_upto_region 1 with fail
  rw [← hH] at HP ⊢
  clear hH
  generalize w.alloc (.cells #[vI G, .slice fa fs.length fc] 26) = wa at *
  have PK : Hd (∀ wx, Fr (fun _ => False) wa wx → wx.cell? ⟨H, 0, none⟩ = some (vI G) ∧ wx.cell? ⟨H, 1, none⟩ = some (.slice fa fs.length fc) ∧ FA wx (.slice fa fs.length fc) fs ∧ Tab wx ∧ 0 < wx.heap.size ∧ Fr (fun _ => False) w wx ∧ BytesIn wx (.slice a2 ms.length c2) ms) := fun wx f => by
    have hb := (f.block H (heap_lt HP.out) (fun h => h)).trans HP.out
    exact ⟨by rw [cell_of hb]; rfl, by rw [cell_of hb]; rfl, HA.out.stay f, HT.out.fr f (fun h => h), Nat.lt_of_lt_of_le H0.out f.size, HF0.out.trans f, HM.out.grow f⟩
  go_wp2_with fail
  refine (works_any wa HT.out H0.out).mono ?_
  rintro e w1 ⟨rfl, f1⟩
  have F1 : Hd (Fr (fun _ => False) wa w1) := f1
  clear f1 HP HF0 HA HT H0 HM
  obtain ⟨p0, p1, -⟩ := PK.out w1 F1.out
  go_wp2_with fail
  refine (copyProgram_any G _ fs w1 (PK.out w1 F1.out).2.2.1 HN.out).mono ?_
  rintro e w2 ⟨qv, rfl, hq, f2⟩
  obtain ⟨qa, qc, rfl, -⟩ := id hq
  have HQ : Hd (FA w2 (.slice qa fs.length qc) fs) := hq
  have F2 : Hd (Fr (fun _ => False) wa w2) := F1.out.trans f2
  clear hq f2 p0 p1 F1
  go_wp2_with fail
  refine (check_prog w2 G fs _ (HQ.out.fl HN.out (by omega)) (PK.out w2 F2.out).2.2.2.1 (PK.out w2 F2.out).2.2.2.2.1).mono ?_
  rintro e w3 ⟨rfl, f3⟩
  have F3 : Hd (Fr (fun _ => False) wa w3) := F2.out.trans f3
  obtain ⟨zE, HZE⟩ : ∃ z, Hd (z = checkP G fs) := ⟨_, rfl⟩
  rw [← HZE.out]
  clear f3 HQ F2
  obtain ⟨p0, p1, -⟩ := PK.out w3 F3.out
  go_wp2_with fail
  refine (copyProgram_any G _ fs w3 (PK.out w3 F3.out).2.2.1 HN.out).mono ?_
  rintro e w4 ⟨qv, rfl, hq, f4⟩
  obtain ⟨qa, qc, rfl, -⟩ := id hq
  have HQ : Hd (FA w4 (.slice qa fs.length qc) fs) := hq
  have F4 : Hd (Fr (fun _ => False) wa w4) := F3.out.trans f4
  clear hq f4 p0 p1 F3
  go_wp2_with fail
  refine (encode_fa w4 G fs _ HQ.out HN.out HC.out (PK.out w4 F4.out).2.2.2.1 (PK.out w4 F4.out).2.2.2.2.1).mono ?_
  rintro e w5 ⟨f5, hr⟩
  have F5 : Hd (Fr (fun _ => False) wa w5) := F4.out.trans f5
  clear f5 HQ F4
  -- the second half: any bytes
  rcases hr with ⟨hz0, ba, bc, bs, hl16, hl12, hdx, rfl, hh⟩ | ⟨hz, rfl⟩
  · have hz0' : zE = 0 := by rw [HZE.out]; exact hz0
    subst hz0'
    have HD : Hd (decX bs = .ok (G, fs.map hd, fs.map (fun f => f.code.map ai))) := hdx
    have HH : Hd (Handed w5 (.slice ba bs.length bc) bs) := hh
    have hlb : ¬ ((bs.length : Int) ≤ 0) := by omega
    have hlb2 : (0 : Int) < bs.length := by omega
    have hgn : decide (0 < bs.length) = true := by simp; omega
    clear hz0 hdx hh HZE
    go_upto_region 7 with fail
    go_wp2_with fail
    refine (decode_said _ bs w5 HH.out (PK.out w5 F5.out).2.2.2.1 (PK.out w5 F5.out).2.2.2.2.1).mono ?_
    rintro e w6 ⟨f6, hr6⟩
    rw [HD.out] at hr6
    obtain ⟨v, rfl, hlp⟩ := hr6
    obtain ⟨qv, rfl, hq, -⟩ := hlp.fa
    rw [pfs_ai] at hq
    obtain ⟨qa, qc, rfl, -⟩ := id hq
    have fx : Fr (fun _ => False) w6 (w6.alloc (.cells #[vI G, .slice qa fs.length qc] 26)) := Fr.alloc (Fr.refl _ w6) _
    have HQ : Hd (FA (w6.alloc (.cells #[vI G, .slice qa fs.length qc] 26)) (.slice qa fs.length qc) fs) := hq.stay fx
    have F6 : Hd (Fr (fun _ => False) wa (w6.alloc (.cells #[vI G, .slice qa fs.length qc] 26))) := (F5.out.trans f6).trans fx
    have QB : Hd ((w6.alloc (.cells #[vI G, .slice qa fs.length qc] 26)).heap[w6.heap.size]? = some (.cells #[vI G, .slice qa fs.length qc] 26)) := heap_new w6 _
    clear hlp hq fx f6 F5 HD HH
    go_upto_region 8 with fail
    obtain ⟨wb, hwb⟩ : ∃ wb, wb = w6.alloc (.cells #[vI G, .slice qa fs.length qc] 26) := ⟨_, rfl⟩
    obtain ⟨Y, hY⟩ : ∃ Y, Y = w6.heap.size := ⟨_, rfl⟩
    rw [← hwb] at F6 QB HQ
    rw [← hY] at QB
    rw [show w6.alloc (.cells #[.int .i64 G, .slice qa fs.length qc] 26) = wb from hwb.symm, ← hY]
    clear hwb hY
    obtain ⟨p0, p1, -⟩ := PK.out wb F6.out
    have y0 : wb.cell? ⟨Y, 0, none⟩ = some (vI G) := by rw [cell_of QB.out]; rfl
    have y1 : wb.cell? ⟨Y, 1, none⟩ = some (.slice qa fs.length qc) := by rw [cell_of QB.out]; rfl
    go_wp2_with fail
    refine (eqProgram_same G fs _ _ wb (PK.out wb F6.out).2.2.1 HQ.out HN.out).mono ?_
    rintro e w7 ⟨rfl, f7⟩
    have F7 : Hd (Fr (fun _ => False) wa w7) := F6.out.trans f7
    clear f7 F6 QB HQ p0 p1 y0 y1 HN HC hlb hlb2
    go_wp2_with fail
    refine (copyBytes_wide _ ms w7 (PK.out w7 F7.out).2.2.2.2.2.2 (by omega)).mono ?_
    rintro e w8 ⟨f8, rv8, rfl, hown8, hnil8⟩
    have F8 : Hd (Fr (fun _ => False) wa w8) := F7.out.trans f8
    have HH8 : Hd (Handed w8 rv8 ms) := owns_handed hown8 (by omega) hnil8
    clear f8 hown8 hnil8 F7
    go_wp2_with fail
    refine (decode_said rv8 ms w8 HH8.out (PK.out w8 F8.out).2.2.2.1 (PK.out w8 F8.out).2.2.2.2.1).mono ?_
    rintro e w9 ⟨f9, hr9⟩
    have F9 : Hd (Fr (fun _ => False) wa w9) := F8.out.trans f9
    clear f9 HH8 F8
    cases hdm : decX ms with
    | error z =>
      rw [hdm] at hr9
      subst hr9
      obtain ⟨er, at'⟩ := z
      have hne : er ≠ 0 := decX_told (by omega) hdm
      obtain ⟨hp0, hp1⟩ := decX_place (by omega) hdm
      have hp0 : 0 ≤ at' := hp0
      have hp1 : at' ≤ ms.length := hp1
      have e1 : (er != 0) = true := by simpa using hne
      have e2 : (er == 0) = false := by simpa using hne
      have d1 : decide (0 ≤ at') = true := by simpa using hp0
      have d2 : decide (at' ≤ (ms.length : Int)) = true := by simpa using hp1
      clear hdm hne
      have F10 : Hd (Fr (fun _ => False) wa (w9.alloc (.cells #[vI 0, .slice none 0 0] 26))) := F9.out.alloc _
      have hyb : (w9.alloc (.cells #[vI 0, .slice none 0 0] 26)).heap[w9.heap.size]? = some (.cells #[vI 0, .slice none 0 0] 26) := heap_new w9 _
      go_upto_region 13 with fail
      rw [show w9.alloc (.cells #[.int .i64 0, .slice none 0 0] 26) = w9.alloc (.cells #[vI 0, .slice none 0 0] 26) from rfl]
      generalize w9.alloc (.cells #[vI 0, .slice none 0 0] 26) = w10 at *
      generalize w9.heap.size = Z at *
      have y0 : w10.cell? ⟨Z, 0, none⟩ = some (vI 0) := by rw [cell_of hyb]; rfl
      have y1 : w10.cell? ⟨Z, 1, none⟩ = some (.slice none 0 0) := by rw [cell_of hyb]; rfl
      clear hyb
      go_wp2_with fail
      refine (eqProgram_same 0 [] (.slice none 0 0) (.slice none 0 0) w10 ⟨none, 0, rfl, fun h => absurd rfl h⟩ ⟨none, 0, rfl, fun h => absurd rfl h⟩ ⟨by simp, by simp⟩).mono ?_
      rintro e w11 ⟨rfl, f11⟩
      have F11 : Hd (Fr (fun _ => False) w w11) := (PK.out w11 (F10.out.trans f11)).2.2.2.2.2.1
      clear f11 y0 y1
      go_wp2_with fail
      go_ret
      exact ⟨rfl, F11.out⟩
    | ok q =>
      obtain ⟨G', done, ls⟩ := q
      rw [hdm] at hr9
      obtain ⟨v, rfl, hlp⟩ := hr9
      obtain ⟨qv, rfl, hq, hll, hn65, hdf⟩ := hlp.fa
      obtain ⟨qa, qc, rfl, -⟩ := id hq
      obtain ⟨L, hLn⟩ : ∃ L, L = (pfs done ls).length := ⟨_, rfl⟩
      have HLN : Hd (L = (pfs done ls).length) := hLn
      rw [← hLn] at hq ⊢
      have fx : Fr (fun _ => False) w9 (w9.alloc (.cells #[vI G', .slice qa L qc] 26)) := Fr.alloc (Fr.refl _ w9) _
      have HQ : Hd (FA (w9.alloc (.cells #[vI G', .slice qa L qc] 26)) (.slice qa L qc) (pfs done ls)) := hq.stay fx
      have F10 : Hd (Fr (fun _ => False) wa (w9.alloc (.cells #[vI G', .slice qa L qc] 26))) := F9.out.trans fx
      have QB : Hd ((w9.alloc (.cells #[vI G', .slice qa L qc] 26)).heap[w9.heap.size]? = some (.cells #[vI G', .slice qa L qc] 26)) := heap_new w9 _
      have HEB : Hd (∀ wx, FA wx (.slice qa L qc) (pfs done ls) → Tab wx → 0 < wx.heap.size → checkP G' (pfs done ls) = 0 ∧ Calls Tryd.prog 12 #[.agg #[vI G', .slice qa L qc]] wx fun e w' => Fr (fun _ => False) wx w' ∧ ∃ a c, e = .returned (.tuple #[.slice a ms.length c, vI 0]) ∧ Handed w' (.slice a ms.length c) ms) := fun wx k1 k2 k3 => encode_back wx G' done ls ms _ (by omega) hdm hll hn65 hdf k1 k2 k3
      have HFP : Hd (FineP (pfs done ls)) := (dec_fs (by omega) hdm hll hn65 hdf).2.2.1
      clear hlp hq fx hdm hll hn65 hdf hLn F9
      go_upto_region 15 with fail
      rw [show w9.alloc (.cells #[.int .i64 G', .slice qa L qc] 26) = w9.alloc (.cells #[vI G', .slice qa L qc] 26) from rfl]
      generalize w9.alloc (.cells #[vI G', .slice qa L qc] 26) = w10 at *
      generalize w9.heap.size = Z at *
      have YK : Hd (∀ wx, Fr (fun _ => False) w10 wx → wx.cell? ⟨Z, 0, none⟩ = some (vI G') ∧ wx.cell? ⟨Z, 1, none⟩ = some (.slice qa L qc) ∧ FA wx (.slice qa L qc) (pfs done ls)) := fun wx f => by
        have hb := (f.block Z (heap_lt QB.out) (fun h => h)).trans QB.out
        exact ⟨by rw [cell_of hb]; rfl, by rw [cell_of hb]; rfl, HQ.out.stay f⟩
      obtain ⟨hck, hcall⟩ := HEB.out w10 HQ.out (PK.out w10 F10.out).2.2.2.1 (PK.out w10 F10.out).2.2.2.2.1
      have HCK : Hd (checkP G' (pfs done ls) = 0) := hck
      have HCL : Hd (Calls Tryd.prog 12 #[.agg #[vI G', .slice qa L qc]] w10 fun e w' => Fr (fun _ => False) w10 w' ∧ ∃ a c, e = .returned (.tuple #[.slice a ms.length c, vI 0]) ∧ Handed w' (.slice a ms.length c) ms) := hcall
      obtain ⟨y0, y1, -⟩ := YK.out w10 (Fr.refl _ w10)
      clear hck hcall HEB QB
      go_wp2_with fail
      refine (show Calls Tryd.prog 12 #[.agg #[vI G', .slice qa L qc]] w10 _ from HCL.out).mono ?_
      rintro e w11 ⟨f11, xa, xc, rfl, hh⟩
      have HH : Hd (Handed w11 (.slice xa ms.length xc) ms) := hh
      have HF11 : Hd (Fr (fun _ => False) w10 w11) := f11
      have F11 : Hd (Fr (fun _ => False) wa w11) := F10.out.trans f11
      clear HCL y0 y1 f11 hh
      obtain ⟨y0, y1, -⟩ := YK.out w11 HF11.out
      have hcp := check_prog w11 G' (pfs done ls) (.slice qa L qc) ((YK.out w11 HF11.out).2.2.fl HFP.out (by omega)) (PK.out w11 F11.out).2.2.2.1 (PK.out w11 F11.out).2.2.2.2.1
      rw [HCK.out] at hcp
      go_wp2_with fail
      refine hcp.mono ?_
      rintro e w12 ⟨rfl, f12⟩
      have hb1 : BytesIn w12 (.slice xa ms.length xc) ms := (handed_in HH.out).grow f12
      have hb2 := (PK.out w12 (F11.out.trans f12)).2.2.2.2.2.2
      have F12 : Hd (Fr (fun _ => False) wa w12) := F11.out.trans f12
      clear hcp f12 y0 y1
      go_wp2_with fail
      refine (eqBytes_same _ _ ms w12 hb1 hb2).mono ?_
      rintro e w13 ⟨rfl, f13⟩
      have F13 : Hd (Fr (fun _ => False) w w13) := (PK.out w13 (F12.out.trans f13)).2.2.2.2.2.1
      clear hb1 hb2 f13
      go_wp2_with fail
      go_ret
      exact ⟨rfl, F13.out⟩
  · have hz' : zE ≠ 0 := by rw [HZE.out]; exact hz
    have hz1 : (zE == 0) = false := by simpa using hz'
    have hz2 : (zE != 0) = true := by simpa using hz'
    rw [← HZE.out]
    have F7 : Hd (Fr (fun _ => False) wa w5) := F5.out
    obtain ⟨w7, hw7⟩ : ∃ w7, w7 = w5 := ⟨_, rfl⟩
    rw [← hw7] at F7 ⊢
    clear hz hz' HN HC F5 hw7 HZE
    go_wp2_with fail
    refine (copyBytes_wide _ ms w7 (PK.out w7 F7.out).2.2.2.2.2.2 (by omega)).mono ?_
    rintro e w8 ⟨f8, rv8, rfl, hown8, hnil8⟩
    have F8 : Hd (Fr (fun _ => False) wa w8) := F7.out.trans f8
    have HH8 : Hd (Handed w8 rv8 ms) := owns_handed hown8 (by omega) hnil8
    clear f8 hown8 hnil8 F7
    go_wp2_with fail
    refine (decode_said rv8 ms w8 HH8.out (PK.out w8 F8.out).2.2.2.1 (PK.out w8 F8.out).2.2.2.2.1).mono ?_
    rintro e w9 ⟨f9, hr9⟩
    have F9 : Hd (Fr (fun _ => False) wa w9) := F8.out.trans f9
    clear f9 HH8 F8
    cases hdm : decX ms with
    | error z =>
      rw [hdm] at hr9
      subst hr9
      obtain ⟨er, at'⟩ := z
      have hne : er ≠ 0 := decX_told (by omega) hdm
      obtain ⟨hp0, hp1⟩ := decX_place (by omega) hdm
      have hp0 : 0 ≤ at' := hp0
      have hp1 : at' ≤ ms.length := hp1
      have e1 : (er != 0) = true := by simpa using hne
      have e2 : (er == 0) = false := by simpa using hne
      have d1 : decide (0 ≤ at') = true := by simpa using hp0
      have d2 : decide (at' ≤ (ms.length : Int)) = true := by simpa using hp1
      clear hdm hne
      have F10 : Hd (Fr (fun _ => False) wa (w9.alloc (.cells #[vI 0, .slice none 0 0] 26))) := F9.out.alloc _
      have hyb : (w9.alloc (.cells #[vI 0, .slice none 0 0] 26)).heap[w9.heap.size]? = some (.cells #[vI 0, .slice none 0 0] 26) := heap_new w9 _
      go_upto_region 13 with fail
      rw [show w9.alloc (.cells #[.int .i64 0, .slice none 0 0] 26) = w9.alloc (.cells #[vI 0, .slice none 0 0] 26) from rfl]
      generalize w9.alloc (.cells #[vI 0, .slice none 0 0] 26) = w10 at *
      generalize w9.heap.size = Z at *
      have y0 : w10.cell? ⟨Z, 0, none⟩ = some (vI 0) := by rw [cell_of hyb]; rfl
      have y1 : w10.cell? ⟨Z, 1, none⟩ = some (.slice none 0 0) := by rw [cell_of hyb]; rfl
      clear hyb
      go_wp2_with fail
      refine (eqProgram_same 0 [] (.slice none 0 0) (.slice none 0 0) w10 ⟨none, 0, rfl, fun h => absurd rfl h⟩ ⟨none, 0, rfl, fun h => absurd rfl h⟩ ⟨by simp, by simp⟩).mono ?_
      rintro e w11 ⟨rfl, f11⟩
      have F11 : Hd (Fr (fun _ => False) w w11) := (PK.out w11 (F10.out.trans f11)).2.2.2.2.2.1
      clear f11 y0 y1
      go_wp2_with fail
      go_ret
      exact ⟨rfl, F11.out⟩
    | ok q =>
      obtain ⟨G', done, ls⟩ := q
      rw [hdm] at hr9
      obtain ⟨v, rfl, hlp⟩ := hr9
      obtain ⟨qv, rfl, hq, hll, hn65, hdf⟩ := hlp.fa
      obtain ⟨qa, qc, rfl, -⟩ := id hq
      obtain ⟨L, hLn⟩ : ∃ L, L = (pfs done ls).length := ⟨_, rfl⟩
      have HLN : Hd (L = (pfs done ls).length) := hLn
      rw [← hLn] at hq ⊢
      have fx : Fr (fun _ => False) w9 (w9.alloc (.cells #[vI G', .slice qa L qc] 26)) := Fr.alloc (Fr.refl _ w9) _
      have HQ : Hd (FA (w9.alloc (.cells #[vI G', .slice qa L qc] 26)) (.slice qa L qc) (pfs done ls)) := hq.stay fx
      have F10 : Hd (Fr (fun _ => False) wa (w9.alloc (.cells #[vI G', .slice qa L qc] 26))) := F9.out.trans fx
      have QB : Hd ((w9.alloc (.cells #[vI G', .slice qa L qc] 26)).heap[w9.heap.size]? = some (.cells #[vI G', .slice qa L qc] 26)) := heap_new w9 _
      have HEB : Hd (∀ wx, FA wx (.slice qa L qc) (pfs done ls) → Tab wx → 0 < wx.heap.size → checkP G' (pfs done ls) = 0 ∧ Calls Tryd.prog 12 #[.agg #[vI G', .slice qa L qc]] wx fun e w' => Fr (fun _ => False) wx w' ∧ ∃ a c, e = .returned (.tuple #[.slice a ms.length c, vI 0]) ∧ Handed w' (.slice a ms.length c) ms) := fun wx k1 k2 k3 => encode_back wx G' done ls ms _ (by omega) hdm hll hn65 hdf k1 k2 k3
      have HFP : Hd (FineP (pfs done ls)) := (dec_fs (by omega) hdm hll hn65 hdf).2.2.1
      clear hlp hq fx hdm hll hn65 hdf hLn F9
      go_upto_region 15 with fail
      rw [show w9.alloc (.cells #[.int .i64 G', .slice qa L qc] 26) = w9.alloc (.cells #[vI G', .slice qa L qc] 26) from rfl]
      generalize w9.alloc (.cells #[vI G', .slice qa L qc] 26) = w10 at *
      generalize w9.heap.size = Z at *
      have YK : Hd (∀ wx, Fr (fun _ => False) w10 wx → wx.cell? ⟨Z, 0, none⟩ = some (vI G') ∧ wx.cell? ⟨Z, 1, none⟩ = some (.slice qa L qc) ∧ FA wx (.slice qa L qc) (pfs done ls)) := fun wx f => by
        have hb := (f.block Z (heap_lt QB.out) (fun h => h)).trans QB.out
        exact ⟨by rw [cell_of hb]; rfl, by rw [cell_of hb]; rfl, HQ.out.stay f⟩
      obtain ⟨hck, hcall⟩ := HEB.out w10 HQ.out (PK.out w10 F10.out).2.2.2.1 (PK.out w10 F10.out).2.2.2.2.1
      have HCK : Hd (checkP G' (pfs done ls) = 0) := hck
      have HCL : Hd (Calls Tryd.prog 12 #[.agg #[vI G', .slice qa L qc]] w10 fun e w' => Fr (fun _ => False) w10 w' ∧ ∃ a c, e = .returned (.tuple #[.slice a ms.length c, vI 0]) ∧ Handed w' (.slice a ms.length c) ms) := hcall
      obtain ⟨y0, y1, -⟩ := YK.out w10 (Fr.refl _ w10)
      clear hck hcall HEB QB
      go_wp2_with fail
      refine (show Calls Tryd.prog 12 #[.agg #[vI G', .slice qa L qc]] w10 _ from HCL.out).mono ?_
      rintro e w11 ⟨f11, xa, xc, rfl, hh⟩
      have HH : Hd (Handed w11 (.slice xa ms.length xc) ms) := hh
      have HF11 : Hd (Fr (fun _ => False) w10 w11) := f11
      have F11 : Hd (Fr (fun _ => False) wa w11) := F10.out.trans f11
      clear HCL y0 y1 f11 hh
      obtain ⟨y0, y1, -⟩ := YK.out w11 HF11.out
      have hcp := check_prog w11 G' (pfs done ls) (.slice qa L qc) ((YK.out w11 HF11.out).2.2.fl HFP.out (by omega)) (PK.out w11 F11.out).2.2.2.1 (PK.out w11 F11.out).2.2.2.2.1
      rw [HCK.out] at hcp
      go_wp2_with fail
      refine hcp.mono ?_
      rintro e w12 ⟨rfl, f12⟩
      have hb1 : BytesIn w12 (.slice xa ms.length xc) ms := (handed_in HH.out).grow f12
      have hb2 := (PK.out w12 (F11.out.trans f12)).2.2.2.2.2.2
      have F12 : Hd (Fr (fun _ => False) wa w12) := F11.out.trans f12
      clear hcp f12 y0 y1
      go_wp2_with fail
      refine (eqBytes_same _ _ ms w12 hb1 hb2).mono ?_
      rintro e w13 ⟨rfl, f13⟩
      have F13 : Hd (Fr (fun _ => False) w w13) := (PK.out w13 (F12.out.trans f13)).2.2.2.2.2.1
      clear hb1 hb2 f13
      go_wp2_with fail
      go_ret
      exact ⟨rfl, F13.out⟩
end Go.Proofs.YtingenonbkencaaDoor
