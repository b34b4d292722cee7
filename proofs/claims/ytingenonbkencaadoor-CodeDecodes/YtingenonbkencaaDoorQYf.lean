import Derived.Test.YtingenonbkencaaDoorQYbJ
set_option linter.unusedVariables false
set_option linter.unusedSimpArgs false
namespace Go.Proofs.YtingenonbkencaaDoor
open Go.RowKit (wrap32 wrap64)
set_option maxRecDepth 100000
set_option maxHeartbeats 2000000
def varsD (bs : List UInt8) (V : Int) : Nat → DS → List Int × DS
 | 0, s => ([], s)
 | k + 1, s => if s.E = 0 then ((varD bs V s).1 :: (varsD bs V k (varD bs V s).2).1, (varsD bs V k (varD bs V s).2).2) else ([], s)
def listD (bs : List UInt8) (V m : Int) (s : DS) : List Int × DS :=
 if (thingD bs 1 s).2.E = 0 then varsD bs V (thingD bs 1 s).1.toNat (mustD ((thingD bs 1 s).1 == m) 15 (thingD bs 1 s).2) else ([], (thingD bs 1 s).2)
theorem thingD_byte {bs : List UInt8} {s : DS} : 0 ≤ (thingD bs 1 s).1 ∧ (thingD bs 1 s).1 ≤ 255 := by
 unfold thingD
 split
 ·cases hx : rd bs s.p 1 with
  | error z => simp
  | ok v =>
    unfold rd at hx
    split at hx
    ·have e := Except.ok.inj hx
     have h1 := leAt_lt bs s.p 1
     have h2 : leAt bs s.p 1 ≤ 255 := by omega
     rw [← e, w64r (by omega) (by omega)]
     exact ⟨by simp, by simpa using (by omega : ((leAt bs s.p 1 : Nat) : Int) ≤ 255)⟩
    ·cases hx
 ·simp
theorem list_D {r rb : Nat} {a : Option Addr} {c : Nat} {bs : List UInt8} {G : Int} {fv : Value} {w : World} {s : DS} (h : DR r rb a c bs G fv w s) (hfv : ∀ z, fv ≠ .int .u8 z) (u : UInt8) (fP fR fV : Int) (fc : Value) (xop xr xs xt xn : Int) (xa xb : Value) (m : Int)
 (hw : ∀ wx s', DR r rb a c bs G fv wx s' → Fr (fun j => j = r ∨ j = rb) w wx → Calls Tryd.prog 97 #[.pointer (some ⟨rb, 0, none⟩), vU u, .agg #[vI fP, vI fR, vI fV, fc], .agg #[vI xop, vI xr, vI xs, vI xt, vI xn, xa, xb]] wx fun e w' => e = .returned (vI m) ∧ Fr (fun _ => False) wx w') :
 Calls Tryd.prog 72 #[.pointer (some ⟨r, 0, none⟩), vU u, .agg #[vI fP, vI fR, vI fV, fc], .agg #[vI xop, vI xr, vI xs, vI xt, vI xn, xa, xb]] w fun e w' => ∃ lv, e = .returned lv ∧ IOwn w' w.heap.size lv (listD bs fV m s).1 ∧ DR r rb a c bs G fv w' (listD bs fV m s).2 ∧ Fr (fun j => j = r ∨ j = rb) w w' := by
 obtain ⟨i3, hi3, hz3, hs3, hb3⟩ := info_parts (P := Tryd.prog) (e := 3) (z := .int .i64 0) (size := 1) (bytes := 8) (by kernel_rfl)
 obtain ⟨W, HW⟩ : ∃ W, W = (w.alloc (.cells #[vI fP, vI fR, vI fV, fc] 67)).alloc (.cells #[vI xop, vI xr, vI xs, vI xt, vI xn, xa, xb] 71) := ⟨_, rfl⟩
 have hf1 : Fr (fun _ => False) w W := by rw [HW]; exact Fr.alloc (Fr.alloc (Fr.refl _ _) _) _
 have hxa : W.heap[w.heap.size]? = some (.cells #[vI fP, vI fR, vI fV, fc] 67) := by
  rw [HW, Go.RowKit.Below.heap_alloc _ _ _ (by simp)]; exact heap_new w _
 have hxb : W.heap[w.heap.size + 1]? = some (.cells #[vI xop, vI xr, vI xs, vI xt, vI xn, xa, xb] 71) := by
  rw [HW, show w.heap.size + 1 = (w.alloc (.cells #[vI fP, vI fR, vI fV, fc] 67)).heap.size by simp]; exact heap_new _ _
 have h1 := h.stay hf1
 have hr : r < w.heap.size := heap_lt h.rd
 have hrb : rb < w.heap.size := heap_lt h.rw
 have HF1 : Hd (Fr (fun j => j = r ∨ j = rb) w W) := hf1.mono (fun _ _ e => e.elim)
 have H1 : Hd (DR r rb a c bs G fv W s) := h1
 have HWS : Hd (W.heap.size = w.heap.size + 2) := by unfold Hd; rw [HW]; simp
 have hcall := thing_D h1 hfv 1 (by omega) (by omega)
 have hby := thingD_byte (bs := bs) (s := s)
 have HD : Hd (listD bs fV m s = if (thingD bs 1 s).2.E = 0 then varsD bs fV (thingD bs 1 s).1.toNat (mustD ((thingD bs 1 s).1 == m) 15 (thingD bs 1 s).2) else ([], (thingD bs 1 s).2)) := rfl
 have HWN : Hd _ := hw
 generalize thingD bs 1 s = T at *
 obtain ⟨v, s1⟩ := T
 obtain ⟨nb, hnb⟩ : ∃ nb : Nat, v = nb := Int.eq_ofNat_of_zero_le hby.1
 subst hnb
 have hn255 : nb ≤ 255 := by have := hby.2; omega
 obtain ⟨H, hH⟩ : ∃ H, H = w.heap.size := ⟨_, rfl⟩
 have HH : Hd (H = w.heap.size) := hH
 rw [← hH] at hxa hxb hr hrb
 clear h h1 hf1 hw hby
 have HXA : Hd (∀ wx, Fr (fun j => j = r ∨ j = rb) W wx → wx.heap[H]? = some (.cells #[vI fP, vI fR, vI fV, fc] 67) ∧ wx.heap[H + 1]? = some (.cells #[vI xop, vI xr, vI xs, vI xt, vI xn, xa, xb] 71)) := fun wx f => ⟨(f.block H (heap_lt hxa) (by omega)).trans hxa, (f.block (H + 1) (heap_lt hxb) (by omega)).trans hxb⟩
 clear hxa hxb
 go_enter Tryd.func72, Tryd.ntmps72
 go_upto_region 1 with fail
 rw [← HW, ← hH]
 clear HW hH
 go_wp2_with fail
 refine hcall.mono ?_
 rintro e w2 ⟨rfl, h2, f2⟩
 have hop := ropen_any r rb _ G _ w2 _ _ _ _ _ h2.rd h2.rw
 have H2 : Hd _ := h2
 have HF2 : Hd (Fr (fun j => j = r ∨ j = rb) W w2) := f2
 clear hcall h2 f2
 go_wp2_with fail
 refine hop.mono ?_
 rintro e w3 ⟨rfl, rfl⟩
 clear hop
 by_cases hE : s1.E = 0
 rotate_left
 ·have hb : (s1.E == 0) = false := by simpa using hE
  rw [hb]
  go_wp2_with fail
  go_ret
  rw [HD.out]
  simp only [hE, if_false]
  exact ⟨_, rfl, World.ownsRow_nil _ _ _ _, H2.out, HF1.out.trans HF2.out⟩
 have hb : (s1.E == 0) = true := by simpa using hE
 rw [hb]
 have c0 := H2.out.rd.cells.1
 obtain ⟨ga, gb⟩ := HXA.out w3 HF2.out
 have a0 : w3.cell? ⟨H, 0, none⟩ = some (vI fP) := by rw [cell_of ga]; rfl
 have a1 : w3.cell? ⟨H, 1, none⟩ = some (vI fR) := by rw [cell_of ga]; rfl
 have a2 : w3.cell? ⟨H, 2, none⟩ = some (vI fV) := by rw [cell_of ga]; rfl
 have a3 : w3.cell? ⟨H, 3, none⟩ = some fc := by rw [cell_of ga]; rfl
 have b0 : w3.cell? ⟨H + 1, 0, none⟩ = some (vI xop) := by rw [cell_of gb]; rfl
 have b1 : w3.cell? ⟨H + 1, 1, none⟩ = some (vI xr) := by rw [cell_of gb]; rfl
 have b2 : w3.cell? ⟨H + 1, 2, none⟩ = some (vI xs) := by rw [cell_of gb]; rfl
 have b3 : w3.cell? ⟨H + 1, 3, none⟩ = some (vI xt) := by rw [cell_of gb]; rfl
 have b4 : w3.cell? ⟨H + 1, 4, none⟩ = some (vI xn) := by rw [cell_of gb]; rfl
 have b5 : w3.cell? ⟨H + 1, 5, none⟩ = some xa := by rw [cell_of gb]; rfl
 have b6 : w3.cell? ⟨H + 1, 6, none⟩ = some xb := by rw [cell_of gb]; rfl
 clear ga gb
 go_upto_region 4 with fail
 have H2d : Hd (DR r rb a c bs G fv w3.drew s1) := H2.out.stay (Fr.drew (Fr.refl (fun _ => False) w3))
 have HFd : Hd (Fr (fun j => j = r ∨ j = rb) w w3.drew) := (HF1.out.trans HF2.out).drew
 have HGd : Hd (Fr (fun j => j = r ∨ j = rb) W w3.drew) := HF2.out.drew
 go_region_with ((
  first
  |(go_at_call 97
    refine (HWN.out _ s1 H2d.out HFd.out).mono ?_
    rintro e w4 ⟨rfl, f4⟩
    have H4 : Hd (DR r rb a c bs G fv w4 s1) := H2d.out.stay f4
    have HG4 : Hd (Fr (fun j => j = r ∨ j = rb) W w4) := HGd.out.trans (f4.mono (fun _ _ e => e.elim))
    clear f4)
  |(go_at_call 43
    refine (must_D H4.out hfv ((nb : Int) == m) 15).mono ?_
    rintro e w5 ⟨rfl, h5, f5⟩
    have H5 : Hd (DR r rb a c bs G fv w5 (mustD ((nb : Int) == m) 15 s1)) := h5
    have HG5 : Hd (Fr (fun j => j = r ∨ j = rb) W w5) := HG4.out.trans f5
    clear h5 f5)))
 all_goals
  have HL : Hd (listD bs fV m s = varsD bs fV nb (mustD ((nb : Int) == m) 15 s1)) := by unfold Hd; rw [HD.out, if_pos hE]; rfl
  generalize mustD ((nb : Int) == m) 15 s1 = s5 at H5 HL
  clear c0 a0 a1 a2 a3 b0 b1 b2 b3 b4 b5 b6 HD H2d HFd HGd H4 HG4 H2 HF2 hE hb HWN
  go_wp2_with fail
  go_loopw [10, 11] (fun u i wr => ∃ (k : Nat) (l : List Int) (t : DS), i = .int .i64 k ∧ k ≤ nb ∧ l.length = k ∧ Hd (IOwn wr (H + 2) u l) ∧ Hd (DR r rb a c bs G fv wr t) ∧ Hd (Fr (fun j => j = r ∨ j = rb) W wr) ∧ Hd ((varsD bs fV nb s5).1 = l ++ (varsD bs fV (nb - k) t).1 ∧ (varsD bs fV nb s5).2 = (varsD bs fV (nb - k) t).2)) (fun _ i _ => match i with | .int _ q => nb - q.toNat | _ => 0)
  case atStart => exact ⟨0, [], s5, rfl, Nat.zero_le _, rfl, World.ownsRow_nil _ _ _ _, H5.out, HG5.out, rfl, rfl⟩
  case round =>
   clear H5 HG5
   obtain ⟨k, l, t, rfl, hk, hll, HO, HT, HG, HV⟩ := hrel
   have hop := ropen_any r rb _ G _ wr _ _ _ _ _ HT.out.rd HT.out.rw
   by_cases hlt : k < nb ∧ t.E = 0
   ·obtain ⟨hlt, hE⟩ := hlt
    have hb : (t.E == 0) = true := by simpa using hE
    rw [hb] at hop
    obtain ⟨ga, -⟩ := HXA.out wr HG.out
    have a0 : wr.cell? ⟨H, 0, none⟩ = some (vI fP) := by rw [cell_of ga]; rfl
    have a1 : wr.cell? ⟨H, 1, none⟩ = some (vI fR) := by rw [cell_of ga]; rfl
    have a2 : wr.cell? ⟨H, 2, none⟩ = some (vI fV) := by rw [cell_of ga]; rfl
    have a3 : wr.cell? ⟨H, 3, none⟩ = some fc := by rw [cell_of ga]; rfl
    have hcall := var_D HT.out hfv fP fR fV fc
    have HV2 : Hd ((varsD bs fV nb s5).1 = l ++ [(varD bs fV t).1] ++ (varsD bs fV (nb - (k + 1)) (varD bs fV t).2).1 ∧ (varsD bs fV nb s5).2 = (varsD bs fV (nb - (k + 1)) (varD bs fV t).2).2) := by
     have e := HV.out
     rw [show nb - k = (nb - (k + 1)) + 1 by omega] at e
     have e2 : varsD bs fV (nb - (k + 1) + 1) t = ((varD bs fV t).1 :: (varsD bs fV (nb - (k + 1)) (varD bs fV t).2).1, (varsD bs fV (nb - (k + 1)) (varD bs fV t).2).2) := if_pos hE
     rw [e2] at e
     exact ⟨by rw [e.1]; simp, e.2⟩
    generalize varD bs fV t = T at *
    obtain ⟨v, t'⟩ := T
    clear ga hb HV
    go_wp2_with fail
    refine hop.mono ?_
    rintro e w6 ⟨rfl, rfl⟩
    clear hop
    go_wp2_with fail
    refine hcall.mono ?_
    rintro e w7 ⟨rfl, h7, f7⟩
    have HO7 : Hd (IOwn w7 (H + 2) u10 l) := HO.out.fr f7 (fun j hj => by have := (HO.out.ge j hj).1; omega)
    have HT7 : Hd (DR r rb a c bs G fv w7 t') := h7
    have HG7 : Hd (Fr (fun j => j = r ∨ j = rb) W w7) := HG.out.trans f7
    clear hcall h7 f7 a0 a1 a2 a3 HO HT HG
    have HO1 : Hd ((w7.alloc (.cells #[vI v] 3)).ownsRow (H + 2) 3 1 u10 l.length (l.map vI)) := World.ownsRow.alloc HO7.out _
    have hnews : ∀ j u, [vI v][j]? = some u → (w7.alloc (.cells #[vI v] 3)).cell? ((⟨w7.heap.size, 0, none⟩ : Addr).add j) = some u :=
     World.news_of_block (cs := #[vI v]) (heap_new w7 (.cells #[vI v] 3))
    have hbase : H + 2 ≤ (w7.alloc (.cells #[vI v] 3)).heap.size := by
     have h1 := HG7.out.size
     have h2 := HWS.out
     have h3 := HH.out
     simp
     omega
    go_wp2_with ((at_builtin; refine Hd.out ?_))
    unfold Hd
    refine wpList_append_lies _ rfl (.tmp 42) (.tmp 44) 64 rfl (H + 2) 3 i3 (.int .i64 0) 1 8 under64 hi3 hz3 hs3 hb3 rfl (by omega) u10 l.length _ rfl HO1.out ⟨w7.heap.size, 0, none⟩ 1 1 [vI v] rfl rfl hnews (by intro u hu; simp at hu; subst hu; rfl) (by omega) (by unfold maxLen; omega) (by omega) hbase (w7.heap.size + 1) (by simp) ?_
    intro g8 cap8 w8 hown8 hgrow8 hat8 hlt8
    have HO8 : Hd (IOwn w8 (H + 2) (.slice (some ⟨g8, 0, none⟩) (l.length + 1) cap8) (l ++ [v])) := by unfold Hd IOwn; rw [List.map_append, List.length_append]; exact hown8
    have f8 : Fr (fun j => H + 2 ≤ j) w7 w8 := Fr.trans (Fr.alloc (Fr.refl _ w7) _) ((grown_frL hgrow8).mono (fun j _ hj => (HO7.out.ge j hj).1))
    have HG8 : Hd (Fr (fun j => j = r ∨ j = rb) W w8) := Fr.then HG7.out f8 (fun j hj e => by have := HWS.out; have := HH.out; omega)
    have HT8 : Hd (DR r rb a c bs G fv w8 t') := ⟨HT7.out.rd.fr f8 (by omega), HT7.out.rw.fr f8 (by omega), H1.out.bytes' hfv HG8.out, HT7.out.ne, HT7.out.le⟩
    clear hown8 hgrow8 hat8 hlt8 HO1 hnews hbase f8
    go_wp2_with fail
    exact ⟨⟨k + 1, l ++ [v], t', by simp, by omega, by simp [hll], by rw [← hll] at *; exact HO8.out, HT8.out, HG8.out, HV2.out⟩, by simp; omega⟩
   ·have hvd : varsD bs fV (nb - k) t = ([], t) := by
     by_cases h0 : nb - k = 0
     ·rw [h0]; rfl
     ·have hE : ¬ t.E = 0 := fun e => hlt ⟨by omega, e⟩
      rw [show nb - k = (nb - k - 1) + 1 by omega]
      exact if_neg hE
    have HR : Hd ((listD bs fV m s).1 = l ∧ (listD bs fV m s).2 = t) := by
     unfold Hd
     rw [HL.out]
     have e := HV.out
     rw [hvd] at e
     exact ⟨by rw [e.1]; simp, e.2⟩
    have HFW : Hd (Fr (fun j => j = r ∨ j = rb) w wr) := HF1.out.trans HG.out
    have HO9 : Hd (IOwn wr w.heap.size u10 l) := HO.out.mono (by have := HH.out; omega)
    by_cases hkl : k < nb
    ·have hE : ¬ t.E = 0 := fun e => hlt ⟨hkl, e⟩
     have hb : (t.E == 0) = false := by simpa using hE
     rw [hb] at hop
     go_wp2_with fail
     refine hop.mono ?_
     rintro e w6 ⟨rfl, rfl⟩
     clear hop
     go_wp2_with fail
     go_ret
     rw [HR.out.1, HR.out.2]
     exact ⟨_, rfl, HO9.out, HT.out, HFW.out⟩
    ·have hkn : k = nb := by omega
     subst hkn
     clear hop
     go_wp2_with fail
     go_ret
     rw [HR.out.1, HR.out.2]
     exact ⟨_, rfl, HO9.out, HT.out, HFW.out⟩
end Go.Proofs.YtingenonbkencaaDoor
