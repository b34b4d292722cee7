import Derived.Test.YtingenonbkencaaDoorQYi4J
import Derived.Test.YtingenonbkencaaDoorQRcJ
set_option linter.unusedVariables false
set_option linter.unusedSimpArgs false
namespace Go.Proofs.YtingenonbkencaaDoor
open Go.RowKit (wrap32 wrap64)
set_option maxRecDepth 100000
set_option maxHeartbeats 4000000
theorem headsD_shut {bs : List UInt8} {m : Nat} {s : DS} (h : s.E ≠ 0) : headsD bs m s = ([], s) := by
 cases m with
 | zero => rfl
 | succ m => exact if_neg h
def DecRes (w : World) (bs : List UInt8) (e : Ending) (w' : World) : Prop :=
 Fr (fun _ => False) w w' ∧ (if (decD bs).2.2.2.E = 0 then ∃ fv L, e = .returned (.tuple #[.agg #[vI (decD bs).1, fv], vI 0, vI 0]) ∧ FO w' w.heap.size fv L ∧ L.map (·.1) = pfD (decD bs).2.1 (decD bs).2.2.1 ∧ (decD bs).2.2.1.length = (decD bs).2.1.length
  else e = .returned (.tuple #[.agg #[vI 0, .slice none 0 0], vI (decD bs).2.2.2.E, vI (decD bs).2.2.2.o]))
def st2 (w : World) (g : Nat) (a b : Value) : World := (w.setCell ⟨g, 0, none⟩ a).setCell ⟨g, 1, none⟩ b
theorem st2_of {w : World} {g : Nat} {p q : Value} {t : TypeId} (h : w.heap[g]? = some (.cells #[p, q] t)) (a b : Value) : (st2 w g a b).heap[g]? = some (.cells #[a, b] t) := set_of (set_of h 0 a) 1 b
theorem st2_fr (w : World) (g : Nat) (a b : Value) : Fr (fun k => k = g) w (st2 w g a b) := (setCell_fr w g 0 a).trans (setCell_fr _ g 1 b)
theorem rdecode_walk {a : Option Addr} {c : Nat} {bs : List UInt8} {w : World} (hby : BytesIn w (.slice a bs.length c) bs) :
 Calls Tryd.prog 18 #[.slice a bs.length c] w (DecRes w bs) := by
 obtain ⟨H, hH⟩ : ∃ H, H = w.heap.size := ⟨_, rfl⟩
 have HH : Hd (H = w.heap.size) := hH
 obtain ⟨W, HW⟩ : ∃ W, W = ((w.alloc (.cells #[vI 0, .slice none 0 0] 26)).alloc (.cells #[vI 0, .slice none 0 0, vI 0, vI 0] 58)).alloc (.cells #[.pointer (some ⟨H + 1, 0, none⟩), .slice a bs.length c, vI 0, vI 0, vI 0] 61) := ⟨_, rfl⟩
 have hf1 : Fr (fun _ => False) w W := by rw [HW]; exact Fr.alloc (Fr.alloc (Fr.alloc (Fr.refl _ _) _) _) _
 have hsz : W.heap.size = H + 3 := by rw [HW, hH]; simp
 have b0 : W.heap[H]? = some (.cells #[vI 0, .slice none 0 0] 26) := by
  rw [HW, Go.RowKit.Below.heap_alloc _ _ _ (by simp; omega), Go.RowKit.Below.heap_alloc _ _ _ (by simp; omega), hH]; exact heap_new w _
 have b1 : W.heap[H + 1]? = some (.cells #[vI 0, .slice none 0 0, vI 0, vI 0] 58) := by
  rw [HW, Go.RowKit.Below.heap_alloc _ _ _ (by simp; omega), hH, show w.heap.size + 1 = (w.alloc (.cells #[vI 0, .slice none 0 0] 26)).heap.size by simp]; exact heap_new _ _
 have b2 : W.heap[H + 1 + 1]? = some (.cells #[.pointer (some ⟨H + 1, 0, none⟩), .slice a bs.length c, vI 0, vI 0, vI 0] 61) := by
  rw [HW, show H + 1 + 1 = ((w.alloc (.cells #[vI 0, .slice none 0 0] 26)).alloc (.cells #[vI 0, .slice none 0 0, vI 0, vI 0] 58)).heap.size by simp; omega]; exact heap_new _ _
 have HBA : Hd (∀ k o, a = some ⟨k, o, none⟩ → bs ≠ [] → k < H) := fun k o e e2 => by
  obtain ⟨-, a', c', e', -, hb⟩ := hby
  cases e'
  obtain ⟨k', o', e3, hk, -⟩ := hb e2
  rw [e] at e3
  cases e3
  rw [hH]; exact hk
 have HD0 : Hd (DR (H + 1 + 1) (H + 1) a c bs 0 (.slice none 0 0) W ⟨0, 0, 0, 0, 0⟩) := ⟨b2, b1, hby.grow hf1, by omega, Nat.zero_le _⟩
 have HF0 : Hd (Fr (fun _ => False) w W) := hf1
 have HB0 : Hd (W.heap[H]? = some (.cells #[vI 0, .slice none 0 0] 26)) := b0
 have HSZ : Hd (W.heap.size = H + 3) := hsz
 have HL0 : Hd (LowD ⟨0, 0, 0, 0, 0⟩) := ⟨by decide, fun _ => by decide⟩
 have nil8 : ∀ z, Value.slice (none : Option Addr) 0 0 ≠ .int .u8 z := fun z e => by cases e
 clear hf1 b0 b1 b2 hsz hby
 go_enter Tryd.func18, Tryd.ntmps18
 go_upto_region 3 with fail
 simp only [← hH]
 rw [← HW]
 clear HW hH
 have hD0 := HD0.out
 -- magic
 have hc := magic_D HD0.out nil8 rfl
 go_wp2_with fail
 refine hc.mono ?_
 rintro e w1 ⟨rfl, h1, f1⟩
 have HD1 : Hd (DR (H + 1 + 1) (H + 1) a c bs 0 (.slice none 0 0) w1 (magicD bs ⟨0, 0, 0, 0, 0⟩)) := h1
 have HL1 : Hd (LowD (magicD bs ⟨0, 0, 0, 0, 0⟩)) := magicD_low HL0.out
 have HF1 : Hd (Fr (fun j => j = H + 1 + 1 ∨ j = H + 1) W w1) := f1
 obtain ⟨s1, hs1⟩ : ∃ s1, s1 = magicD bs ⟨0, 0, 0, 0, 0⟩ := ⟨_, rfl⟩
 have HS1 : Hd (s1 = magicD bs ⟨0, 0, 0, 0, 0⟩) := hs1
 rw [← hs1] at HD1 HL1
 clear hc h1 f1 hD0 HD0 HL0 hs1
 -- globals
 have hc := thing_D HD1.out nil8 1 (by omega) (by omega)
 have HGD : Hd (globD bs s1 = ((thingD bs 1 s1).1, mustD (decide ((thingD bs 1 s1).1 ≤ 16)) 18 (thingD bs 1 s1).2)) := rfl
 have HL2 : Hd (LowD (thingD bs 1 s1).2) := HL1.out.le (thingD_le bs 1 s1)
 generalize thingD bs 1 s1 = T at *
 obtain ⟨G, s2⟩ := T
 simp only at HGD HL2 hc
 go_wp2_with fail
 refine hc.mono ?_
 rintro e w2 ⟨rfl, h2, f2⟩
 have k0 := h2.rw.cells.1
 have kz := h2.rw.cells.2.2.2.2.1 0
 have HD2 : Hd (DR (H + 1 + 1) (H + 1) a c bs G (.slice none 0 0) (w2.setCell ⟨H + 1, 0, none⟩ (vI G)) s2) := h2.setG nil8 G
 have HF2 : Hd (Fr (fun j => j = H + 1 + 1 ∨ j = H + 1) W (w2.setCell ⟨H + 1, 0, none⟩ (vI G))) := (HF1.out.trans f2).trans ((setCell_fr w2 (H + 1) 0 (vI G)).mono (fun _ _ e => Or.inr e))
 clear hc h2 f2 HD1 HF1 HL1
 go_upto_region 5 with fail
 clear k0 kz
 generalize w2.setCell ⟨H + 1, 0, none⟩ (vI G) = w3 at *
 have k0 := HD2.out.rw.cells.1
 have hc := must_D HD2.out nil8 (decide (G ≤ 16)) 18
 have HL3 : Hd (LowD (mustD (decide (G ≤ 16)) 18 s2)) := HL2.out.le (mustD_le _ _ _)
 generalize mustD (decide (G ≤ 16)) 18 s2 = s3 at *
 go_wp2_with fail
 refine hc.mono ?_
 rintro e w4 ⟨rfl, h4, f4⟩
 have HD4 : Hd (DR (H + 1 + 1) (H + 1) a c bs G (.slice none 0 0) w4 s3) := h4
 have HF4 : Hd (Fr (fun j => j = H + 1 + 1 ∨ j = H + 1) W w4) := HF2.out.trans f4
 clear hc h4 f4 HD2 HF2 HL2 k0
 -- how many
 have hc := thing_D HD4.out nil8 2 (by omega) (by omega)
 have hb2 := thingD_two (bs := bs) (s := s3)
 have HMD : Hd (manyD bs s3 = ((thingD bs 2 s3).1, mustD (decide (1 ≤ (thingD bs 2 s3).1)) 20 (thingD bs 2 s3).2)) := rfl
 have HL5 : Hd (LowD (thingD bs 2 s3).2) := HL3.out.le (thingD_le bs 2 s3)
 generalize thingD bs 2 s3 = T at *
 obtain ⟨nz, s5⟩ := T
 simp only at HMD HL5 hc hb2
 obtain ⟨n, rfl⟩ : ∃ n : Nat, nz = n := ⟨nz.toNat, by omega⟩
 have hn : n ≤ 65535 := by omega
 clear hb2
 go_wp2_with fail
 refine hc.mono ?_
 rintro e w5 ⟨rfl, h5, f5⟩
 have HF5 : Hd (Fr (fun j => j = H + 1 + 1 ∨ j = H + 1) W w5) := HF4.out.trans f5
 have hc2 := must_D h5 nil8 (decide ((1 : Int) ≤ n)) 20
 have HL6 : Hd (LowD (mustD (decide ((1 : Int) ≤ n)) 20 s5)) := HL5.out.le (mustD_le _ _ _)
 generalize mustD (decide ((1 : Int) ≤ n)) 20 s5 = s6 at *
 clear hc h5 f5 HD4 HF4 HL3 HL5
 go_wp2_with fail
 refine hc2.mono ?_
 rintro e w6 ⟨rfl, h6, f6⟩
 have HD6 : Hd (DR (H + 1 + 1) (H + 1) a c bs G (.slice none 0 0) w6 s6) := h6
 have HF6 : Hd (Fr (fun j => j = H + 1 + 1 ∨ j = H + 1) W w6) := HF5.out.trans f6
 clear hc2 h6 f6 HF5
 have HS6 : Hd (S1 w6 H a c bs G (.slice none 0 0) (.slice none 0 0) [] [] s6) := ⟨HD6.out, FO.heads (World.ownsRow_nil _ _ _ _), World.ownsRow_nil _ _ _ _, HBA.out⟩
 clear HD6
 go_upto_block 0 with fail
 go_cut [8] from 44 to 73 (fun u wx => ∃ (hs : List HT) (t : DS) (fv : Value), Hd (S1 wx H a c bs G fv u hs (hs.map (·.2.2.2)) t) ∧ Hd (headsD bs n s6 = (hs, t)) ∧ Hd (LowD t) ∧ Hd (t.E = 0 → hs.length = n) ∧ Hd (hs.length ≤ n) ∧ Hd (Fr (fun j => j = H + 1 + 1 ∨ j = H + 1) W wx))
 case first =>
  go_wp2_with fail
  go_loopw [8, 9] (fun u i wx => ∃ (k : Nat) (hs : List HT) (t : DS) (fv : Value), i = .int .i64 k ∧ k ≤ n ∧ hs.length = k ∧ Hd (S1 wx H a c bs G fv u hs (hs.map (·.2.2.2)) t) ∧ Hd ((headsD bs n s6).1 = hs ++ (headsD bs (n - k) t).1 ∧ (headsD bs n s6).2 = (headsD bs (n - k) t).2) ∧ Hd (LowD t) ∧ Hd (Fr (fun j => j = H + 1 + 1 ∨ j = H + 1) W wx)) (fun _ i _ => match i with | .int _ q => n - q.toNat | _ => 0)
  case atStart => exact ⟨0, [], s6, _, rfl, Nat.zero_le _, rfl, HS6, ⟨rfl, rfl⟩, HL6, HF6⟩
  case round =>
   clear HS6 HL6 HF6
   obtain ⟨k, hs, t, fv, rfl, hk, hlen, HS, HV, HL, HF⟩ := hrel
   subst hlen
   obtain ⟨va, vc, rfl⟩ := HS.out.shape
   have hop := ropen_any _ _ _ G _ wr _ _ _ _ _ HS.out.dr.rd HS.out.dr.rw
   by_cases hlt : hs.length < n
   rotate_left
   ·have hkn : hs.length = n := by omega
    have HR : Hd (headsD bs n s6 = (hs, t)) := by
     have e := HV.out
     rw [show n - hs.length = 0 by omega] at e
     exact Prod.ext (by rw [e.1]; simp [headsD]) e.2
    clear hop
    go_wp2_with fail
    go_meet
    exact ⟨hs, t, _, HS, HR, HL, fun _ => by omega, by show hs.length ≤ n; omega, HF⟩
   by_cases hE : t.E = 0
   rotate_left
   ·have hb : (t.E == 0) = false := by simpa using hE
    rw [hb] at hop
    have HR : Hd (headsD bs n s6 = (hs, t)) := by
     have e := HV.out
     rw [headsD_shut hE] at e
     exact Prod.ext (by rw [e.1]; simp) e.2
    have HNE : Hd (¬ t.E = 0) := hE
    clear hE hb
    go_wp2_with fail
    refine hop.mono ?_
    rintro e w7 ⟨rfl, rfl⟩
    clear hop
    go_wp2_with fail
    go_meet
    exact ⟨hs, t, _, HS, HR, HL, fun e => absurd e HNE.out, by show hs.length ≤ n; omega, HF⟩
   have hb : (t.E == 0) = true := by simpa using hE
   rw [hb] at hop
   have hcall := head_D HS.out.dr (fun z e => by cases e) hE HL.out
   have HL2 : Hd (LowD (headD bs t).2) := headD_low HL.out
   have HV2 : Hd ((headsD bs n s6).1 = (hs ++ [(headD bs t).1]) ++ (headsD bs (n - (hs.length + 1)) (headD bs t).2).1 ∧ (headsD bs n s6).2 = (headsD bs (n - (hs.length + 1)) (headD bs t).2).2) := by
    have e := HV.out
    rw [show n - hs.length = (n - (hs.length + 1)) + 1 by omega] at e
    have e2 : headsD bs (n - (hs.length + 1) + 1) t = ((headD bs t).1 :: (headsD bs (n - (hs.length + 1)) (headD bs t).2).1, (headsD bs (n - (hs.length + 1)) (headD bs t).2).2) := if_pos hE
    rw [e2] at e
    exact ⟨by rw [e.1]; simp, e.2⟩
   generalize headD bs t = T at *
   obtain ⟨⟨P, R, V, m⟩, t'⟩ := T
   simp only at hcall HL2 HV2
   clear hb hE HV HL
   go_wp2_with fail
   refine hop.mono ?_
   rintro e w7 ⟨rfl, rfl⟩
   clear hop
   go_wp2_with fail
   refine hcall.mono ?_
   rintro e w8 ⟨rfl, h8, f8⟩
   have HS8 : Hd (S1 w8 H a c bs G (.slice va hs.length vc) u8 hs (hs.map (·.2.2.2)) t') := HS.out.far f8 (fun k e => by omega) h8
   have HF8 : Hd (Fr (fun j => j = H + 1 + 1 ∨ j = H + 1) W w8) := HF.out.trans f8
   clear hcall h8 f8 HS HF
   obtain ⟨w9, hw9⟩ : ∃ w9, w9 = w8.alloc (.cells #[vI P, vI R, vI V, .slice none 0 0] 67) := ⟨_, rfl⟩
   have f9 : Fr (fun _ => False) w8 w9 := by rw [hw9]; exact Fr.alloc (Fr.refl _ _) _
   obtain ⟨Y, hY⟩ : ∃ Y, Y = w8.heap.size := ⟨_, rfl⟩
   have hy : w9.heap[Y]? = some (.cells #[vI P, vI R, vI V, .slice none 0 0] 67) := by rw [hw9, hY]; exact heap_new w8 _
   have HS9 : Hd (S1 w9 H a c bs G (.slice va hs.length vc) u8 hs (hs.map (·.2.2.2)) t') := HS8.out.stay f9
   have HF9 : Hd (Fr (fun j => j = H + 1 + 1 ∨ j = H + 1) W w9) := HF8.out.trans (f9.mono (fun _ _ e => e.elim))
   have HY9 : Hd (w9.heap[Y]? = some (.cells #[vI P, vI R, vI V, .slice none 0 0] 67)) := hy
   have HW9 : Hd (w9 = w8.alloc (.cells #[vI P, vI R, vI V, .slice none 0 0] 67)) := hw9
   have HYE : Hd (Y = w8.heap.size) := hY
   clear HS8 HF8 hw9 hY hy f9
   go_upto_region 13 with fail
   rw [← HW9.out, ← HYE.out]
   clear HW9 HYE
   go_cut [] (fun wx => Hd (∃ g cap, S1 wx H a c bs G (.slice (some ⟨g, 0, none⟩) (hs.length + 1) cap) u8 (hs ++ [(P, R, V, m)]) (hs.map (·.2.2.2)) t' ∧ Fr (fun j => j = H + 1 + 1 ∨ j = H + 1) W wx))
   case first =>
    have hFz : Fr (fun _ => False) w9 (w9.alloc (.cells #[vI P, vI R, vI V, .slice none 0 0] 67)).drew := (Fr.alloc (Fr.refl _ w9) _).drew
    have HSX : Hd (S1 (w9.alloc (.cells #[vI P, vI R, vI V, .slice none 0 0] 67)).drew H a c bs G (.slice va hs.length vc) u8 hs (hs.map (·.2.2.2)) t') := HS9.out.stay hFz
    have HFX : Hd (Fr (fun j => j = H + 1 + 1 ∨ j = H + 1) W (w9.alloc (.cells #[vI P, vI R, vI V, .slice none 0 0] 67)).drew) := HF9.out.trans (hFz.mono (fun _ _ e => e.elim))
    have HRW : Hd ((w9.alloc (.cells #[vI P, vI R, vI V, .slice none 0 0] 67)).drew.ownsRow (H + 3) 67 4 (.slice va hs.length vc) hs.length ((hs.map hf).flatMap rowF)) := by have := HSX.out.fo.row; rw [List.length_map] at this; exact this
    have HNW : Hd (∀ j' u, [vI P, vI R, vI V, .slice none 0 0][j']? = some u → (w9.alloc (.cells #[vI P, vI R, vI V, .slice none 0 0] 67)).drew.cell? ((⟨w9.heap.size, 0, none⟩ : Addr).add j') = some u) := World.news_of_block (w := w9.alloc (.cells #[vI P, vI R, vI V, .slice none 0 0] 67)) (cs := #[vI P, vI R, vI V, .slice none 0 0]) (heap_new w9 _)
    have HBS : Hd (H + 3 ≤ (w9.alloc (.cells #[vI P, vI R, vI V, .slice none 0 0] 67)).drew.heap.size) := by have := HFX.out.size; have := HSZ.out; unfold Hd; omega
    have c1 : w9.cell? ⟨H + 1, 1, none⟩ = some (.slice va hs.length vc) := HS9.out.dr.rw.cells.2.1
    have c1z : (w9.alloc (.cells #[vI P, vI R, vI V, .slice none 0 0] 67)).drew.cell? ⟨H + 1, 1, none⟩ = some (.slice va hs.length vc) := HSX.out.dr.rw.cells.2.1
    have c1y : (w9.alloc (.cells #[vI P, vI R, vI V, .slice none 0 0] 67)).cell? ⟨H + 1, 1, none⟩ = some (.slice va hs.length vc) := c1z
    have y0 : w9.cell? ⟨Y, 0, none⟩ = some (vI P) := by rw [cell_of HY9.out]; rfl
    have y1 : w9.cell? ⟨Y, 1, none⟩ = some (vI R) := by rw [cell_of HY9.out]; rfl
    have y2 : w9.cell? ⟨Y, 2, none⟩ = some (vI V) := by rw [cell_of HY9.out]; rfl
    have y3 : w9.cell? ⟨Y, 3, none⟩ = some (.slice none 0 0) := by rw [cell_of HY9.out]; rfl
    clear hFz
    go_region_law ((
     obtain ⟨i67, hi67, hz67, hs67, hb67⟩ := info_parts (P := Tryd.prog) (e := 67) (z := .agg #[vI 0, vI 0, vI 0, .slice none 0 0]) (size := 4) (bytes := 48) (by kernel_rfl)
     refine step_append_lies _ rfl (.tmp 63) (.tmp 65) 24 rfl (H + 3) 67 i67 (.agg #[vI 0, vI 0, vI 0, .slice none 0 0]) 4 48 under24 hi67 hz67 hs67 hb67 rfl (by omega) (.slice va hs.length vc) hs.length _ (by simp [Act.eval, Act.put]) HRW.out ⟨w9.heap.size, 0, none⟩ 1 1 [vI P, vI R, vI V, .slice none 0 0] (by simp [Act.eval, Act.put]) rfl HNW.out (by intro u hu; simp at hu; rcases hu with rfl | rfl | rfl | rfl <;> rfl) (by omega) (by unfold maxLen; omega) (by omega) HBS.out (w9.heap.size + 1) (by simp) ?_
     intro g6 cap6 w10 hown6 hgrow6 hat6 hlt6
     obtain ⟨k1, c1, z0, k2⟩ := HSX.out.app (P, R, V, m) hgrow6 hown6
     have HQ : Hd (∃ g cap, S1 (w10.setCell ⟨H + 1, 1, none⟩ (.slice (some ⟨g6, 0, none⟩) (hs.length + 1) cap6)) H a c bs G (.slice (some ⟨g, 0, none⟩) (hs.length + 1) cap) u8 (hs ++ [(P, R, V, m)]) (hs.map (·.2.2.2)) t' ∧ Fr (fun j => j = H + 1 + 1 ∨ j = H + 1) W (w10.setCell ⟨H + 1, 1, none⟩ (.slice (some ⟨g6, 0, none⟩) (hs.length + 1) cap6))) := ⟨g6, cap6, k1, Fr.then HFX.out k2 (fun j hj e => by have := HSZ.out; omega)⟩
     clear hown6 hgrow6 hat6 hlt6 hi67 hz67 hs67 hb67 k1 k2))
    all_goals
     go_wp2_with fail
     go_meet
     exact HQ.out
   case rest =>
   obtain ⟨g6, cap6, hA, hFA⟩ := hcut.out
   have HSA : Hd (S1 wc H a c bs G (.slice (some ⟨g6, 0, none⟩) (hs.length + 1) cap6) u8 (hs ++ [(P, R, V, m)]) (hs.map (·.2.2.2)) t') := hA
   have HFA : Hd (Fr (fun j => j = H + 1 + 1 ∨ j = H + 1) W wc) := hFA
   clear hcut hA hFA HS9 HF9 HY9
   -- the size
   have HSB : Hd ((wc.alloc (.cells #[vI m] 3)).ownsRow (H + 3) 3 1 u8 hs.length ((hs.map (·.2.2.2)).map vI)) := by have := World.ownsRow.alloc HSA.out.sz (.cells #[vI m] 3); rw [List.length_map] at this; exact this
   have hnews : ∀ j u, [vI m][j]? = some u → (wc.alloc (.cells #[vI m] 3)).cell? ((⟨wc.heap.size, 0, none⟩ : Addr).add j) = some u :=
    World.news_of_block (cs := #[vI m]) (heap_new wc (.cells #[vI m] 3))
   have hbase : H + 3 ≤ (wc.alloc (.cells #[vI m] 3)).heap.size := by
    have h1 := HFA.out.size
    have h2 := HSZ.out
    simp
    omega
   go_wp2_with ((at_builtin; refine Hd.out ?_))
   unfold Hd
   obtain ⟨i3, hi3, hz3, hs3, hb3⟩ := info_parts (P := Tryd.prog) (e := 3) (z := .int .i64 0) (size := 1) (bytes := 8) (by kernel_rfl)
   refine wpList_append_lies _ rfl (.tmp 70) (.tmp 72) 64 rfl (H + 3) 3 i3 (.int .i64 0) 1 8 under64 hi3 hz3 hs3 hb3 rfl (by omega) u8 hs.length _ rfl HSB.out ⟨wc.heap.size, 0, none⟩ 1 1 [vI m] rfl rfl hnews (by intro u hu; simp at hu; subst hu; rfl) (by omega) (by unfold maxLen; omega) (by omega) hbase (wc.heap.size + 1) (by simp) ?_
   intro g8 cap8 w12 hown8 hgrow8 hat8 hlt8
   have f12 : Fr (fun k => u8.ownBlock = some k) wc w12 := Fr.trans ((Fr.alloc (Fr.refl (fun _ => False) wc) _).mono (fun _ _ e => e.elim)) (grown_frL hgrow8)
   have HSC : Hd (S1 w12 H a c bs G (.slice (some ⟨g6, 0, none⟩) (hs.length + 1) cap6) (.slice (some ⟨g8, 0, none⟩) (hs.length + 1) cap8) (hs ++ [(P, R, V, m)]) ((hs ++ [(P, R, V, m)]).map (·.2.2.2)) t') := HSA.out.size f12 hown8
   have HFC : Hd (Fr (fun j => j = H + 1 + 1 ∨ j = H + 1) W w12) := Fr.then HFA.out f12 (fun j hj e => by have := (HSA.out.sz.ge j e).1; have := HSZ.out; omega)
   clear hown8 hgrow8 hat8 hlt8 hi3 hz3 hs3 hb3 HSA HFA HSB hnews hbase f12
   go_wp2_with fail
   exact ⟨⟨hs.length + 1, hs ++ [(P, R, V, m)], t', _, by simp, by omega, by simp, HSC, HV2, HL2, HFC⟩, by simp; omega⟩
 case rest =>
 clear HS6 HL6 HF6
 obtain ⟨hs, t7, fv, HS, HR, HL, HN, HLE, HF⟩ := hcut
 obtain ⟨va, vc, rfl⟩ := HS.out.shape
 have HLM : Hd (∀ h ∈ hs, 0 ≤ h.2.2.2 ∧ h.2.2.2 ≤ 65535) := by have := headsD_sizes bs n s6; rw [HR.out] at this; exact this
 obtain ⟨ua, uc, rfl⟩ : ∃ ua uc, u8 = .slice ua hs.length uc := by
  obtain ⟨p, q, e, -⟩ := HS.out.sz.ia
  rw [List.length_map] at e
  exact ⟨p, q, e⟩
 have HS2 : Hd (S2 wc H a c bs G (.slice va hs.length vc) (.slice ua hs.length uc) hs [] t7) := S2.start HS.out
 clear HS
 go_upto_block 2 with fail
 go_cut [] from 74 to 136 (fun wx => ∃ (D : List FI) (cs : List (List PI)) (t : DS) (va : Option Addr) (vc : Nat), Hd (S2 wx H a c bs G (.slice va hs.length vc) (.slice ua hs.length uc) hs D t) ∧ Hd ((funcsD bs G hs hs t7).2 = t) ∧ Hd (t.E = 0 → D.length = hs.length ∧ D.map (·.1) = pfD hs (funcsD bs G hs hs t7).1 ∧ (funcsD bs G hs hs t7).1.length = hs.length) ∧ Hd (Fr (fun j => j = H + 1 + 1 ∨ j = H + 1) W wx))
 case first =>
  go_wp2_with fail
  go_loopw [12] (fun i wx => ∃ (D : List FI) (cs : List (List PI)) (t : DS) (va : Option Addr) (vc : Nat), i = .int .i64 D.length ∧ Hd (S2 wx H a c bs G (.slice va hs.length vc) (.slice ua hs.length uc) hs D t) ∧ Hd (D.map (·.1) = pfD (hs.take D.length) cs ∧ cs.length = D.length) ∧ Hd ((funcsD bs G hs hs t7).1 = cs ++ (funcsD bs G hs (hs.drop D.length) t).1 ∧ (funcsD bs G hs hs t7).2 = (funcsD bs G hs (hs.drop D.length) t).2) ∧ Hd (LowD t) ∧ Hd (t.E = 0 → hs.length = n) ∧ Hd (Fr (fun j => j = H + 1 + 1 ∨ j = H + 1) W wx)) (fun i _ => match i with | .int _ q => n - q.toNat | _ => 0)
  case atStart => exact ⟨[], [], t7, va, vc, rfl, HS2, ⟨rfl, rfl⟩, ⟨rfl, rfl⟩, HL, HN, HF⟩
  case round =>
   clear HS2 HL HN HF
   obtain ⟨D, cs, t, va, vc, rfl, HS, HD, HV, HL, HN, HF⟩ := hrel
   have hop := ropen_any _ _ _ G _ wr _ _ _ _ _ HS.out.dr.rd HS.out.dr.rw
   have hDl := HS.out.le
   by_cases hlt : D.length < n
   rotate_left
   ·have HX : Hd ((funcsD bs G hs hs t7).2 = t ∧ (t.E = 0 → D.length = hs.length ∧ D.map (·.1) = pfD hs (funcsD bs G hs hs t7).1 ∧ (funcsD bs G hs hs t7).1.length = hs.length)) := by
     have hfull : hs.length ≤ D.length := by have := HLE.out; omega
     have e := HV.out
     rw [List.drop_eq_nil_of_le hfull] at e
     refine ⟨e.2, fun _ => ⟨by omega, ?_, ?_⟩⟩
     ·rw [e.1, HD.out.1, List.take_of_length_le hfull]; simp [funcsD]
     ·rw [e.1]; simp [funcsD]; rw [HD.out.2]; omega
    clear hop hDl
    go_wp2_with fail
    go_meet
    exact ⟨D, cs, t, va, vc, HS, HX.out.1, HX.out.2, HF⟩
   by_cases hE : t.E = 0
   rotate_left
   ·have hb : (t.E == 0) = false := by simpa using hE
    rw [hb] at hop
    have HX : Hd ((funcsD bs G hs hs t7).2 = t ∧ ¬ t.E = 0) := by
     have e := HV.out
     rw [funcsD_shut hE] at e
     exact ⟨e.2, hE⟩
    clear hE hb hDl
    go_wp2_with fail
    refine hop.mono ?_
    rintro e w7 ⟨rfl, rfl⟩
    clear hop
    go_wp2_with fail
    go_meet
    exact ⟨D, cs, t, va, vc, HS, HX.out.1, fun e => absurd e HX.out.2, HF⟩
   have hb : (t.E == 0) = true := by simpa using hE
   rw [hb] at hop
   -- the function
   have hDN : D.length < hs.length := by have := HN.out hE; omega
   obtain ⟨⟨P, Q, V, m⟩, R, hdr⟩ : ∃ f R, hs.drop D.length = f :: R := ⟨_, _, List.drop_eq_getElem_cons hDN⟩
   have hf0 : hs[D.length] = (P, Q, V, m) := by
    have := List.drop_eq_getElem_cons hDN
    rw [hdr] at this
    exact (List.cons.inj this).1.symm
   have hfm : 0 ≤ m ∧ m ≤ 65535 := HLM.out (P, Q, V, m) (by rw [← hf0]; exact List.getElem_mem hDN)
   obtain ⟨M, rfl⟩ : ∃ M : Nat, m = M := ⟨m.toNat, by omega⟩
   have hM : M ≤ 65535 := by omega
   clear hfm
   have HDR : Hd (hs.drop D.length = (P, Q, V, (M : Int)) :: R) := hdr
   obtain ⟨g, cap, eg⟩ := HS.out.g (by intro e; rw [e] at hDN; simp at hDN)
   cases eg
   have HSZ2 := HS.out.sz
   obtain ⟨ug, ucap, eu⟩ : ∃ ug ucap, Value.slice ua hs.length uc = .slice (some ⟨ug, 0, none⟩) hs.length ucap := by
    obtain ⟨g', cap', e', -, -⟩ := own_cell HSZ2 (j := D.length) (u := vI M) (by rw [List.getElem?_map, List.getElem?_map, List.getElem?_eq_getElem hDN, hf0]; rfl)
    rw [List.length_map] at e'
    exact ⟨g', cap', e'⟩
   cases eu
   have HSC : Hd (∀ wx, IOwn wx (H + 3) (.slice (some ⟨ug, 0, none⟩) hs.length uc) (hs.map (·.2.2.2)) → wx.cell? ⟨ug, D.length, none⟩ = some (vI M)) := fun wx hx => by
    obtain ⟨g', cap', e', -, hc⟩ := own_cell hx (j := D.length) (u := vI M) (by rw [List.getElem?_map, List.getElem?_map, List.getElem?_eq_getElem hDN, hf0]; rfl)
    rw [List.length_map] at e'
    cases e'
    exact hc
   have HB1 : Hd (H + 3 ≤ wr.heap.size) := by have := HF.out.size; have := HSZ.out; unfold Hd; omega
   have HS3 : Hd (S3 wr H a c bs G hs.length g vc (.slice (some ⟨ug, 0, none⟩) hs.length uc) hs D (P, Q, V, (M : Int)) R (.slice none 0 0) [] wr.heap.size t) := S2.enter HS.out hdr HB1.out
   have HHD : Hd (D.map (fun x => (x.1.P, x.1.R)) = (hs.take D.length).map (fun h => (h.1, h.2.1))) := HS.out.hd
   have HFD : Hd (funcsD bs G hs ((P, Q, V, (M : Int)) :: R) t = ((codeD bs G hs Q V M M t).1 :: (funcsD bs G hs R (codeD bs G hs Q V M M t).2).1, (funcsD bs G hs R (codeD bs G hs Q V M M t).2).2)) := if_pos hE
   have HNN : Hd (hs.length = n) := HN.out hE
   clear hb hE hdr hf0 hDl HS HSZ2 HN
   go_wp2_with fail
   refine hop.mono ?_
   rintro e w7 ⟨rfl, rfl⟩
   clear hop
   obtain ⟨y0, y1, y2, y3, -, hglt, hgH⟩ := HS3.out.cell
   have k1 := HS3.out.dr.rw.cells.2.1
   have hi0 : (0 : Int) ≤ (D.length : Int) ∧ (D.length : Int) < (hs.length : Int) := by omega
   have hi1 : (D.length : Nat) < hs.length := hDN
   simp only at y0 y1 y2
   obtain ⟨B1, hB1⟩ : ∃ B1, B1 = w7.heap.size := ⟨_, rfl⟩
   obtain ⟨w8, hw8⟩ : ∃ w8, w8 = w7.alloc (.cells #[vI P, vI Q, vI V, .slice none 0 0] 67) := ⟨_, rfl⟩
   have f8 : Fr (fun _ => False) w7 w8 := by rw [hw8]; exact Fr.alloc (Fr.refl _ _) _
   have HZ8 : Hd (w8.heap[B1]? = some (.cells #[vI P, vI Q, vI V, .slice none 0 0] 67)) := by unfold Hd; rw [hw8, hB1]; exact heap_new w7 _
   have HS8 : Hd (S3 w8 H a c bs G hs.length g vc (.slice (some ⟨ug, 0, none⟩) hs.length uc) hs D (P, Q, V, (M : Int)) R (.slice none 0 0) [] B1 t) := by have := HS3.out.stay f8; rw [← hB1] at this; exact this
   have HF8 : Hd (Fr (fun j => j = H + 1 + 1 ∨ j = H + 1) W w8) := HF.out.trans (f8.mono (fun _ _ e => e.elim))
   have HB8 : Hd (H + 3 ≤ B1 ∧ g < B1 ∧ H + 3 ≤ g) := ⟨by rw [hB1]; exact HB1.out, by rw [hB1]; exact hglt, hgH⟩
   have HW8 : Hd (w8 = w7.alloc (.cells #[vI P, vI Q, vI V, .slice none 0 0] 67)) := hw8
   have HBE : Hd (B1 = w7.heap.size) := hB1
   clear hw8 hB1 f8 HS3 HF hglt hgH
   go_upto_region 19 with fail
   rw [← HW8.out, ← HBE.out]
   clear HW8 HBE y0 y1 y2 y3 k1
   go_wp2_with fail
   go_loopw [14] (fun i wx => ∃ (Lc : List CI) (cv : Value) (t' : DS), i = .int .i64 Lc.length ∧ Lc.length ≤ M ∧ Hd (S3 wx H a c bs G hs.length g vc (.slice (some ⟨ug, 0, none⟩) hs.length uc) hs D (P, Q, V, (M : Int)) R cv Lc B1 t') ∧ Hd (wx.heap[B1]? = some (.cells #[vI P, vI Q, vI V, .slice none 0 0] 67)) ∧ Hd (codeD bs G hs Q V M M t = (Lc.map (·.1) ++ (codeD bs G hs Q V M (M - Lc.length) t').1, (codeD bs G hs Q V M (M - Lc.length) t').2)) ∧ Hd (LowD t') ∧ Hd (Fr (fun j => j = H + 1 + 1 ∨ j = H + 1) W wx)) (fun i _ => match i with | .int _ q => M - q.toNat | _ => 0)
   case atStart => exact ⟨[], _, t, rfl, Nat.zero_le _, HS8, HZ8, rfl, HL, HF8⟩
   case round =>
    clear HS8 HF8 HZ8 HL
    obtain ⟨Lc, cv, t', rfl, hk, HS, HZ, HV3, HL, HF⟩ := hrel
    have hop := ropen_any _ _ _ G _ wr _ _ _ _ _ HS.out.dr.rd HS.out.dr.rw
    have u0 := HSC.out wr HS.out.sz
    have HEND : Hd (codeD bs G hs Q V M M t = (Lc.map (·.1), t') → ∃ (D' : List FI) (cs' : List (List PI)), D'.length = D.length + 1 ∧ Hd (S2 wr H a c bs G (.slice (some ⟨g, 0, none⟩) hs.length vc) (.slice (some ⟨ug, 0, none⟩) hs.length uc) hs D' t') ∧ Hd (D'.map (·.1) = pfD (hs.take D'.length) cs' ∧ cs'.length = D'.length) ∧ Hd ((funcsD bs G hs hs t7).1 = cs' ++ (funcsD bs G hs (hs.drop D'.length) t').1 ∧ (funcsD bs G hs hs t7).2 = (funcsD bs G hs (hs.drop D'.length) t').2)) := fun ec => by
     have hS2 := HS.out.leave HDR.out HHD.out
     have hl1 : (D ++ [((⟨P, Q, V, Lc.map (·.1)⟩ : PF), cv, Lc)]).length = D.length + 1 := by simp
     have hd2 : hs.drop (D.length + 1) = R := by rw [← List.drop_drop, HDR.out]; rfl
     have hf0 : hs[D.length]? = some (P, Q, V, (M : Int)) := by
      have := List.drop_eq_getElem_cons hDN
      rw [HDR.out] at this
      rw [List.getElem?_eq_getElem hDN, (List.cons.inj this).1]
     have e := HV.out
     rw [HDR.out, HFD.out, ec] at e
     refine ⟨D ++ [((⟨P, Q, V, Lc.map (·.1)⟩ : PF), cv, Lc)], cs ++ [Lc.map (·.1)], hl1, hS2, ⟨?_, ?_⟩, ?_⟩
     ·rw [hl1, List.take_add_one, hf0, Option.toList_some, pfD_snoc _ _ _ _ (by rw [HD.out.2, List.length_take]; omega), List.map_append, HD.out.1]
      rfl
     ·rw [List.length_append, HD.out.2, hl1]; rfl
     ·rw [hl1, hd2]
      exact ⟨by rw [e.1]; simp, e.2⟩
    by_cases hkl : Lc.length < M
    rotate_left
    ·have hkM : M - Lc.length = 0 := by omega
     have hec : codeD bs G hs Q V M M t = (Lc.map (·.1), t') := by
      have e := HV3.out
      rw [hkM] at e
      rw [e]
      simp [codeD]
     obtain ⟨D', cs', hl1, X1, X2, X3⟩ := HEND.out hec
     clear hop HEND hkM hec
     go_wp2_with fail
     exact ⟨⟨D', cs', t', _, _, by rw [hl1]; rfl, X1, X2, X3, HL, fun _ => HNN.out, HF⟩, by simp; omega⟩
    by_cases hE : t'.E = 0
    rotate_left
    ·have hb : (t'.E == 0) = false := by simpa using hE
     rw [hb] at hop
     have hec : codeD bs G hs Q V M M t = (Lc.map (·.1), t') := by
      have e := HV3.out
      rw [codeD_shut hE] at e
      rw [e]
      simp
     obtain ⟨D', cs', hl1, X1, X2, X3⟩ := HEND.out hec
     clear HEND hec hb hE
     go_wp2_with fail
     refine hop.mono ?_
     rintro e w9 ⟨rfl, rfl⟩
     clear hop
     go_wp2_with fail
     exact ⟨⟨D', cs', t', _, _, by rw [hl1]; rfl, X1, X2, X3, HL, fun _ => HNN.out, HF⟩, by simp; omega⟩
    have hb : (t'.E == 0) = true := by simpa using hE
    rw [hb] at hop
    clear HEND
    -- the instruction
    have hwM : wrap64 ((M : Int) - 1) = (M : Int) - 1 := w64r (by omega) (by omega)
    have hwN : IntKind.i64.wrap ((M : Int) - 1) = (M : Int) - 1 := wrap_small _ (by omega) (by omega)
    have hla : ((Lc.length : Int) == (M : Int) - 1) = (M - (Lc.length + 1) == 0) := by rw [Bool.eq_iff_iff]; simp; omega
    have hcall := fun (wx : World) (fx : Fr (fun _ => False) wr wx) => instr_D (HS.out.stay fx).dr HL.out (HS.out.stay fx).hin P Q V none 0 0 (M : Int) ((Lc.length : Int) == (M : Int) - 1)
    rw [hla] at hcall
    have HL2 : Hd (LowD (instrD bs G hs Q V M (M - (Lc.length + 1) == 0) t').2) := instrD_low HL.out
    have HV4 : Hd (codeD bs G hs Q V M M t = ((Lc.map (·.1) ++ [(instrD bs G hs Q V M (M - (Lc.length + 1) == 0) t').1]) ++ (codeD bs G hs Q V M (M - (Lc.length + 1)) (instrD bs G hs Q V M (M - (Lc.length + 1) == 0) t').2).1, (codeD bs G hs Q V M (M - (Lc.length + 1)) (instrD bs G hs Q V M (M - (Lc.length + 1) == 0) t').2).2)) := by
     have e := HV3.out
     rw [show M - Lc.length = (M - (Lc.length + 1)) + 1 by omega] at e
     have e2 : codeD bs G hs Q V M (M - (Lc.length + 1) + 1) t' = ((instrD bs G hs Q V M (M - (Lc.length + 1) == 0) t').1 :: (codeD bs G hs Q V M (M - (Lc.length + 1)) (instrD bs G hs Q V M (M - (Lc.length + 1) == 0) t').2).1, (codeD bs G hs Q V M (M - (Lc.length + 1)) (instrD bs G hs Q V M (M - (Lc.length + 1) == 0) t').2).2) := if_pos hE
     rw [e2] at e
     unfold Hd
     rw [e]
     simp
    generalize (M - (Lc.length + 1) == 0) = la at *
    generalize instrD bs G hs Q V M la t' = T at *
    obtain ⟨x, t''⟩ := T
    simp only at hcall HL2 HV4
    have HCA : Hd (∀ wx, Fr (fun _ => False) wr wx → Calls Tryd.prog 46 #[.pointer (some ⟨H + 1 + 1, 0, none⟩), .agg #[vI P, vI Q, vI V, .slice none 0 0], vI M, .bool la] wx fun e w' => ∃ (aa : Option Addr) (l1 c1 : Nat) (ra : Option Addr) (l2 c2 : Nat), e = .returned (.agg #[vI x.op, vI x.r, vI x.s, vI x.t, vI x.n, .slice aa l1 c1, .slice ra l2 c2]) ∧ IOwn w' (H + 3) (.slice aa l1 c1) x.args ∧ IOwn w' (H + 3) (.slice ra l2 c2) x.rets ∧ S3 w' H a c bs G hs.length g vc (.slice (some ⟨ug, 0, none⟩) hs.length uc) hs D (P, Q, V, (M : Int)) R cv Lc B1 t'' ∧ w'.heap[B1]? = some (.cells #[vI P, vI Q, vI V, .slice none 0 0] 67) ∧ Fr (fun j => j = H + 1 + 1 ∨ j = H + 1) W w' ∧ Fr (fun j => j = H + 1 + 1 ∨ j = H + 1) wx w') := fun wx fx => by
     refine (hcall wx fx).mono ?_
     rintro e w' ⟨av, rv, rfl, k1, k2, k3, k4⟩
     obtain ⟨aa, c1, rfl⟩ : ∃ aa c1, av = .slice aa x.args.length c1 := by obtain ⟨q1, q2, q3, -⟩ := k1.ia; exact ⟨q1, q2, q3⟩
     obtain ⟨ra, c2, rfl⟩ : ∃ ra c2, rv = .slice ra x.rets.length c2 := by obtain ⟨q1, q2, q3, -⟩ := k2.ia; exact ⟨q1, q2, q3⟩
     have hsz : H + 3 ≤ wx.heap.size := by have := HF.out.size; have := fx.size; have := HSZ.out; omega
     refine ⟨aa, _, c1, ra, _, c2, rfl, k1.mono hsz, k2.mono hsz, (HS.out.stay fx).far k4 (fun k e => by omega) k3, ?_, (HF.out.trans (fx.mono (fun _ _ e => e.elim))).trans k4, k4⟩
     have hz := HZ.out
     exact (((fx.trans (Fr.refl _ _)).mono (T := fun j => j = H + 1 + 1 ∨ j = H + 1) (fun _ _ e => e.elim)).trans k4).block B1 (heap_lt hz) (by have := HB8.out; omega) |>.trans hz
    have HCV : Hd (∀ k, cv.ownBlock = some k → k < wr.heap.size) := fun k e => (World.ownsRow.lt HS.out.co.row k e).2
    have HBS : Hd (B1 ≤ wr.heap.size) := by have := heap_lt HZ.out; unfold Hd; omega
    have z0 : wr.cell? ⟨B1, 0, none⟩ = some (vI P) := by rw [cell_of HZ.out]; rfl
    have z1 : wr.cell? ⟨B1, 1, none⟩ = some (vI Q) := by rw [cell_of HZ.out]; rfl
    have z2 : wr.cell? ⟨B1, 2, none⟩ = some (vI V) := by rw [cell_of HZ.out]; rfl
    have z3 : wr.cell? ⟨B1, 3, none⟩ = some (.slice none 0 0) := by rw [cell_of HZ.out]; rfl
    clear hcall hb hE HV3 HL
    go_wp2_with fail
    refine hop.mono ?_
    rintro e w9 ⟨rfl, rfl⟩
    clear hop
    go_upto_region 22 with fail
    go_cut [15] (fun v wx => ∃ (X : Nat) (aa : Option Addr) (l1 c1 : Nat) (ra : Option Addr) (l2 c2 : Nat), v = .pointer (some ⟨X, 0, none⟩) ∧ Hd (XB wx X x (.slice aa l1 c1) (.slice ra l2 c2)) ∧ Hd (IOwn wx (H + 3) (.slice aa l1 c1) x.args) ∧ Hd (IOwn wx (H + 3) (.slice ra l2 c2) x.rets) ∧ Hd (S3 wx H a c bs G hs.length g vc (.slice (some ⟨ug, 0, none⟩) hs.length uc) hs D (P, Q, V, (M : Int)) R cv Lc B1 t'') ∧ Hd (wx.heap[B1]? = some (.cells #[vI P, vI Q, vI V, .slice none 0 0] 67)) ∧ Hd (Fr (fun j => j = H + 1 + 1 ∨ j = H + 1) W wx) ∧ Hd (H + 3 ≤ X ∧ X ≠ g ∧ X ≠ B1 ∧ cv.ownBlock ≠ some X))
    case first =>
     have HCE : Hd (∀ W', Fr (fun j => j = H + 1 + 1 ∨ j = H + 1) w9 W' → W'.cell? ⟨B1, 0, none⟩ = some (vI P) ∧ W'.cell? ⟨B1, 1, none⟩ = some (vI Q) ∧ W'.cell? ⟨B1, 2, none⟩ = some (vI V) ∧ W'.cell? ⟨B1, 3, none⟩ = some (.slice none 0 0) ∧ W'.cell? ⟨ug, D.length, none⟩ = some (vI M)) := fun W' fW => by
      have lB : B1 < w9.heap.size := heap_lt HZ.out
      have lU := HS.out.sz.ge ug rfl
      have hb := HB8.out
      have nB : ¬ (B1 = H + 1 + 1 ∨ B1 = H + 1) := by omega
      have nU : ¬ (ug = H + 1 + 1 ∨ ug = H + 1) := by omega
      exact ⟨(fW.cell lB nB).trans z0, (fW.cell lB nB).trans z1, (fW.cell lB nB).trans z2, (fW.cell lB nB).trans z3, (fW.cell lU.2 nU).trans u0⟩
     clear z0 z1 z2 z3 u0
     refine wp_region_held_drew (S := fun W' => Fr (fun j => j = H + 1 + 1 ∨ j = H + 1) w9 W') (by kernel_rfl) ((Fr.refl _ w9).drew) (fun hHeld => ?_)
     refine heldTake (i := 0) 103 (v := ?_) rfl rfl (by kernel_rfl) (by kernel_rfl) (by kernel_rfl) (fun _ _ _ h => h) (by kernel_rfl) (fun w hSw => (by obtain ⟨q0, q1, q2, q3, q4⟩ := HCE.out w hSw; go_simp; try with_reducible rfl)) hHeld ?_
     simp only [Act.put, List.setIfInBounds_toArray, List.set_cons_zero, List.set_cons_succ]
     refine heldTake (i := 1) 104 (v := ?_) rfl rfl (by kernel_rfl) (by kernel_rfl) (by kernel_rfl) (fun _ _ _ h => h) (by kernel_rfl) (fun w hSw => (by obtain ⟨q0, q1, q2, q3, q4⟩ := HCE.out w hSw; go_simp; try with_reducible rfl)) hHeld ?_
     simp only [Act.put, List.setIfInBounds_toArray, List.set_cons_zero, List.set_cons_succ]
     refine heldTake (i := 2) 105 (v := ?_) rfl rfl (by kernel_rfl) (by kernel_rfl) (by kernel_rfl) (fun _ _ _ h => h) (by kernel_rfl) (fun w hSw => (by obtain ⟨q0, q1, q2, q3, q4⟩ := HCE.out w hSw; go_simp; try with_reducible rfl)) hHeld ?_
     simp only [Act.put, List.setIfInBounds_toArray, List.set_cons_zero, List.set_cons_succ]
     refine heldTake (i := 3) 106 (v := ?_) rfl rfl (by kernel_rfl) (by kernel_rfl) (by kernel_rfl) (fun _ _ _ h => h) (by kernel_rfl) (fun w hSw => (by obtain ⟨q0, q1, q2, q3, q4⟩ := HCE.out w hSw; go_simp; try with_reducible rfl)) hHeld ?_
     simp only [Act.put, List.setIfInBounds_toArray, List.set_cons_zero, List.set_cons_succ]
     refine heldTake (i := 4) 107 (v := ?_) rfl rfl (by kernel_rfl) (by kernel_rfl) (by kernel_rfl) (fun _ _ _ h => h) (by kernel_rfl) (fun w hSw => (by obtain ⟨q0, q1, q2, q3, q4⟩ := HCE.out w hSw; go_simp; try with_reducible rfl)) hHeld ?_
     simp only [Act.put, List.setIfInBounds_toArray, List.set_cons_zero, List.set_cons_succ]
     refine heldTake (i := 5) 108 (v := ?_) rfl rfl (by kernel_rfl) (by kernel_rfl) (by kernel_rfl) (fun _ _ _ h => h) (by kernel_rfl) (fun w hSw => (by obtain ⟨q0, q1, q2, q3, q4⟩ := HCE.out w hSw; go_simp; try with_reducible rfl)) hHeld ?_
     simp only [Act.put, List.setIfInBounds_toArray, List.set_cons_zero, List.set_cons_succ]
     refine heldTake (i := 6) 109 (v := ?_) rfl rfl (by kernel_rfl) (by kernel_rfl) (by kernel_rfl) (fun _ _ _ h => h) (by kernel_rfl) (fun w hSw => (by obtain ⟨q0, q1, q2, q3, q4⟩ := HCE.out w hSw; go_simp; try with_reducible rfl)) hHeld ?_
     simp only [Act.put, List.setIfInBounds_toArray, List.set_cons_zero, List.set_cons_succ]
     refine heldTake (i := 7) 110 (v := ?_) rfl rfl (by kernel_rfl) (by kernel_rfl) (by kernel_rfl) (fun _ _ _ h => h) (by kernel_rfl) (fun w hSw => (by obtain ⟨q0, q1, q2, q3, q4⟩ := HCE.out w hSw; go_simp; try with_reducible rfl)) hHeld ?_
     simp only [Act.put, List.setIfInBounds_toArray, List.set_cons_zero, List.set_cons_succ]
     refine heldTake (i := 8) 111 (v := ?_) rfl rfl (by kernel_rfl) (by kernel_rfl) (by kernel_rfl) (fun _ _ _ h => h) (by kernel_rfl) (fun w hSw => (by obtain ⟨q0, q1, q2, q3, q4⟩ := HCE.out w hSw; go_simp; try with_reducible rfl)) hHeld ?_
     simp only [Act.put, List.setIfInBounds_toArray, List.set_cons_zero, List.set_cons_succ]
     refine heldTake (i := 9) 112 (v := ?_) rfl rfl (by kernel_rfl) (by kernel_rfl) (by kernel_rfl) (fun _ _ _ h => h) (by kernel_rfl) (fun w hSw => (by obtain ⟨q0, q1, q2, q3, q4⟩ := HCE.out w hSw; go_simp; try with_reducible rfl)) hHeld ?_
     simp only [Act.put, List.setIfInBounds_toArray, List.set_cons_zero, List.set_cons_succ]
     refine heldTake (i := 10) 113 (v := ?_) rfl rfl (by kernel_rfl) (by kernel_rfl) (by kernel_rfl) (fun _ _ _ h => h) (by kernel_rfl) (fun w hSw => (by obtain ⟨q0, q1, q2, q3, q4⟩ := HCE.out w hSw; go_simp; try with_reducible rfl)) hHeld ?_
     simp only [Act.put, List.setIfInBounds_toArray, List.set_cons_zero, List.set_cons_succ]
     refine heldTake (i := 11) 114 (v := ?_) rfl rfl (by kernel_rfl) (by kernel_rfl) (by kernel_rfl) (fun _ _ _ h => h) (by kernel_rfl) (fun w hSw => (by obtain ⟨q0, q1, q2, q3, q4⟩ := HCE.out w hSw; go_simp; try with_reducible rfl)) hHeld ?_
     simp only [Act.put, List.setIfInBounds_toArray, List.set_cons_zero, List.set_cons_succ]
     refine heldTake (i := 12) 115 (v := ?_) rfl rfl (by kernel_rfl) (by kernel_rfl) (by kernel_rfl) (fun _ _ _ h => h) (by kernel_rfl) (fun w hSw => (by obtain ⟨q0, q1, q2, q3, q4⟩ := HCE.out w hSw; go_simp; try with_reducible rfl)) hHeld ?_
     simp only [Act.put, List.setIfInBounds_toArray, List.set_cons_zero, List.set_cons_succ]
     have HLX : Hd (H + 3 ≤ w9.heap.size ∧ B1 ≤ w9.heap.size ∧ B1 < w9.heap.size ∧ g < B1) := by have := HBS.out; have := HB8.out; have := heap_lt HZ.out; unfold Hd; omega
     refine heldTwo (i := 13) (j := 14) rfl rfl (by kernel_rfl) (fun K hK => ?_) (fun K hK => ?_)
     ·-- the call first
      go_simp
      go_wp2_with ((go_at_call 46; refine Calls.mono (HCA.out w9.drew (Fr.refl _ _).drew) ?_; rintro e w10 ⟨aa, l1, c1, ra, l2, c2, rfl, q1, q2, q3, q4, q5, q6⟩))
      have hHeld2 : Fr (fun j => j = H + 1 + 1 ∨ j = H + 1) w9 w10 := ((Fr.refl _ w9).drew).trans q6
      have Q1 : Hd (IOwn w10 (H + 3) (.slice aa l1 c1) x.args) := q1
      have Q2 : Hd (IOwn w10 (H + 3) (.slice ra l2 c2) x.rets) := q2
      have Q3 : Hd (S3 w10 H a c bs G hs.length g vc (.slice (some ⟨ug, 0, none⟩) hs.length uc) hs D (P, Q, V, (M : Int)) R cv Lc B1 t'') := q3
      have Q4 : Hd (w10.heap[B1]? = some (.cells #[vI P, vI Q, vI V, .slice none 0 0] 67)) := q4
      have Q5 : Hd (Fr (fun j => j = H + 1 + 1 ∨ j = H + 1) W w10) := q5
      have Q6 : Hd (w9.heap.size ≤ w10.heap.size) := hHeld2.size
      clear q1 q2 q3 q4 q5 q6
      refine hK.out _ _ hHeld2 ?_
      clear hK K hHeld
      refine heldOne (i := 14) rfl (by kernel_rfl) (fun K hK => ?_)
      go_simp
      obtain ⟨X, hX⟩ : ∃ X, X = w10.heap.size := ⟨_, rfl⟩
      have hx : (w10.alloc (.cells #[vI 0, vI 0, vI 0, vI 0, vI 0, .slice none 0 0, .slice none 0 0] 71)).heap[X]? = some (.cells #[vI 0, vI 0, vI 0, vI 0, vI 0, .slice none 0 0, .slice none 0 0] 71) := by rw [hX]; exact heap_new w10 _
      have fal : Fr (fun _ => False) w10 (w10.alloc (.cells #[vI 0, vI 0, vI 0, vI 0, vI 0, .slice none 0 0, .slice none 0 0] 71)) := Fr.alloc (Fr.refl _ _) _
      have Q1 : Hd (IOwn (w10.alloc (.cells #[vI 0, vI 0, vI 0, vI 0, vI 0, .slice none 0 0, .slice none 0 0] 71)) (H + 3) (.slice aa l1 c1) x.args) := Q1.out.fr fal (fun _ _ e => e)
      have Q2 : Hd (IOwn (w10.alloc (.cells #[vI 0, vI 0, vI 0, vI 0, vI 0, .slice none 0 0, .slice none 0 0] 71)) (H + 3) (.slice ra l2 c2) x.rets) := Q2.out.fr fal (fun _ _ e => e)
      have Q3 : Hd (S3 (w10.alloc (.cells #[vI 0, vI 0, vI 0, vI 0, vI 0, .slice none 0 0, .slice none 0 0] 71)) H a c bs G hs.length g vc (.slice (some ⟨ug, 0, none⟩) hs.length uc) hs D (P, Q, V, (M : Int)) R cv Lc B1 t'') := Q3.out.stay fal
      have Q4 : Hd ((w10.alloc (.cells #[vI 0, vI 0, vI 0, vI 0, vI 0, .slice none 0 0, .slice none 0 0] 71)).heap[B1]? = some (.cells #[vI P, vI Q, vI V, .slice none 0 0] 67)) := (fal.block B1 (heap_lt Q4.out) (fun e => e)).trans Q4.out
      have Q5 : Hd (Fr (fun j => j = H + 1 + 1 ∨ j = H + 1) W (w10.alloc (.cells #[vI 0, vI 0, vI 0, vI 0, vI 0, .slice none 0 0, .slice none 0 0] 71))) := Q5.out.trans (fal.mono (fun _ _ e => e.elim))
      have HSW : Hd (Fr (fun j => j = H + 1 + 1 ∨ j = H + 1) w9 (w10.alloc (.cells #[vI 0, vI 0, vI 0, vI 0, vI 0, .slice none 0 0, .slice none 0 0] 71))) := hHeld2.trans (fal.mono (fun _ _ e => e.elim))
      have HXB : Hd (H + 3 ≤ X ∧ w9.heap.size ≤ X ∧ B1 < X ∧ g < B1) := by have := HLX.out; have := Q6.out; unfold Hd; omega
      rw [← hX]
      refine hK.out _ (w10.alloc (.cells #[vI 0, vI 0, vI 0, vI 0, vI 0, .slice none 0 0, .slice none 0 0] 71)) HSW.out ?_
      clear hK K hX fal hHeld2 Q6
      generalize w10.alloc (.cells #[vI 0, vI 0, vI 0, vI 0, vI 0, .slice none 0 0, .slice none 0 0] 71) = w11 at *
      have p0 : w11.cell? ⟨X, 0, none⟩ = some (vI 0) := by rw [cell_of hx]; rfl
      have p1 : w11.cell? ⟨X, 1, none⟩ = some (vI 0) := by rw [cell_of hx]; rfl
      have p2 : w11.cell? ⟨X, 2, none⟩ = some (vI 0) := by rw [cell_of hx]; rfl
      have p3 : w11.cell? ⟨X, 3, none⟩ = some (vI 0) := by rw [cell_of hx]; rfl
      have p4 : w11.cell? ⟨X, 4, none⟩ = some (vI 0) := by rw [cell_of hx]; rfl
      have p5 : w11.cell? ⟨X, 5, none⟩ = some (.slice none 0 0) := by rw [cell_of hx]; rfl
      have p6 : w11.cell? ⟨X, 6, none⟩ = some (.slice none 0 0) := by rw [cell_of hx]; rfl
      have g0 := frozen_of hx 0
      have g1 := frozen_of hx 1
      have g2 := frozen_of hx 2
      have g3 := frozen_of hx 3
      have g4 := frozen_of hx 4
      have g5 := frozen_of hx 5
      have g6 := frozen_of hx 6
      have fz := st7_fr w11 X (vI x.op) (vI x.r) (vI x.s) (vI x.t) (vI x.n) (.slice aa l1 c1) (.slice ra l2 c2)
      have hxb := HXB.out
      have RX : Hd (XB (st7 w11 X (vI x.op) (vI x.r) (vI x.s) (vI x.t) (vI x.n) (.slice aa l1 c1) (.slice ra l2 c2)) X x (.slice aa l1 c1) (.slice ra l2 c2)) := st7_of hx _ _ _ _ _ _ _
      have R1 : Hd (IOwn (st7 w11 X (vI x.op) (vI x.r) (vI x.s) (vI x.t) (vI x.n) (.slice aa l1 c1) (.slice ra l2 c2)) (H + 3) (.slice aa l1 c1) x.args) := Q1.out.fr fz (fun k e e2 => own_other Q1.out hx (by decide) (e2 ▸ e))
      have R2 : Hd (IOwn (st7 w11 X (vI x.op) (vI x.r) (vI x.s) (vI x.t) (vI x.n) (.slice aa l1 c1) (.slice ra l2 c2)) (H + 3) (.slice ra l2 c2) x.rets) := Q2.out.fr fz (fun k e e2 => own_other Q2.out hx (by decide) (e2 ▸ e))
      have R3 : Hd (S3 (st7 w11 X (vI x.op) (vI x.r) (vI x.s) (vI x.t) (vI x.n) (.slice aa l1 c1) (.slice ra l2 c2)) H a c bs G hs.length g vc (.slice (some ⟨ug, 0, none⟩) hs.length uc) hs D (P, Q, V, (M : Int)) R cv Lc B1 t'') := Q3.out.box fz hx (by omega) (fun e => by have := HCV.out X e; omega)
      have R4 : Hd ((st7 w11 X (vI x.op) (vI x.r) (vI x.s) (vI x.t) (vI x.n) (.slice aa l1 c1) (.slice ra l2 c2)).heap[B1]? = some (.cells #[vI P, vI Q, vI V, .slice none 0 0] 67)) := (fz.block B1 (heap_lt Q4.out) (by omega)).trans Q4.out
      have R5 : Hd (Fr (fun j => j = H + 1 + 1 ∨ j = H + 1) W (st7 w11 X (vI x.op) (vI x.r) (vI x.s) (vI x.t) (vI x.n) (.slice aa l1 c1) (.slice ra l2 c2))) := Fr.then Q5.out fz (fun j hj e => by have := HSZ.out; omega)
      have R6 : Hd (H + 3 ≤ X ∧ X ≠ g ∧ X ≠ B1 ∧ cv.ownBlock ≠ some X) := ⟨by omega, by omega, by omega, fun e => by have := HCV.out X e; omega⟩
      have hS : Fr (fun j => j = H + 1 + 1 ∨ j = H + 1) w9 (st7 w11 X (vI x.op) (vI x.r) (vI x.s) (vI x.t) (vI x.n) (.slice aa l1 c1) (.slice ra l2 c2)) := Fr.then HSW.out fz (fun j hj e => by omega)
      clear fz hx hxb Q1 Q2 Q3 Q4 Q5
      refine heldOne (i := 15) rfl (by kernel_rfl) (fun K hK => ?_)
      go_simp
      clear p0 p1 p2 p3 p4 p5 p6 g0 g1 g2 g3 g4 g5 g6
      refine hK.out _ (st7 w11 X (vI x.op) (vI x.r) (vI x.s) (vI x.t) (vI x.n) (.slice aa l1 c1) (.slice ra l2 c2)) hS ?_
      clear hK K
      refine wpAnyH_done (by kernel_rfl) ?_ _
      go_wp2_with fail
      go_meet
      exact ⟨X, aa, l1, c1, ra, l2, c2, rfl, RX, R1, R2, R3, R4, R5, R6⟩
     ·-- the box first
      go_simp
      obtain ⟨X, hX⟩ : ∃ X, X = w9.heap.size := ⟨_, rfl⟩
      have hx0 : (w9.alloc (.cells #[vI 0, vI 0, vI 0, vI 0, vI 0, .slice none 0 0, .slice none 0 0] 71)).drew.heap[X]? = some (.cells #[vI 0, vI 0, vI 0, vI 0, vI 0, .slice none 0 0, .slice none 0 0] 71) := by rw [hX]; exact heap_new w9 _
      have fal : Fr (fun _ => False) w9 (w9.alloc (.cells #[vI 0, vI 0, vI 0, vI 0, vI 0, .slice none 0 0, .slice none 0 0] 71)).drew := (Fr.alloc (Fr.refl _ _) _).drew
      have hb : Fr (fun j => j = H + 1 + 1 ∨ j = H + 1) w9 (w9.alloc (.cells #[vI 0, vI 0, vI 0, vI 0, vI 0, .slice none 0 0, .slice none 0 0] 71)).drew := fal.mono (fun _ _ e => e.elim)
      have HXB : Hd (H + 3 ≤ X ∧ w9.heap.size ≤ X ∧ B1 < X ∧ g < B1) := by have := HLX.out; unfold Hd; omega
      have HC2 : Hd _ := HCA.out _ fal
      rw [← hX]
      refine hK.out _ (w9.alloc (.cells #[vI 0, vI 0, vI 0, vI 0, vI 0, .slice none 0 0, .slice none 0 0] 71)).drew hb ?_
      clear hK K hX hHeld
      generalize (w9.alloc (.cells #[vI 0, vI 0, vI 0, vI 0, vI 0, .slice none 0 0, .slice none 0 0] 71)).drew = w11 at *
      refine heldOne (i := 13) rfl (by kernel_rfl) (fun K hK => ?_)
      go_simp
      go_wp2_with ((go_at_call 46; refine Calls.mono HC2.out ?_; rintro e w10 ⟨aa, l1, c1, ra, l2, c2, rfl, q1, q2, q3, q4, q5, q6⟩))
      have HSW : Hd (Fr (fun j => j = H + 1 + 1 ∨ j = H + 1) w9 w10) := hb.trans q6
      have hx : w10.heap[X]? = some (.cells #[vI 0, vI 0, vI 0, vI 0, vI 0, .slice none 0 0, .slice none 0 0] 71) := (q6.block X (heap_lt hx0) (by have := HXB.out; omega)).trans hx0
      have Q1 : Hd (IOwn w10 (H + 3) (.slice aa l1 c1) x.args) := q1
      have Q2 : Hd (IOwn w10 (H + 3) (.slice ra l2 c2) x.rets) := q2
      have Q3 : Hd (S3 w10 H a c bs G hs.length g vc (.slice (some ⟨ug, 0, none⟩) hs.length uc) hs D (P, Q, V, (M : Int)) R cv Lc B1 t'') := q3
      have Q4 : Hd (w10.heap[B1]? = some (.cells #[vI P, vI Q, vI V, .slice none 0 0] 67)) := q4
      have Q5 : Hd (Fr (fun j => j = H + 1 + 1 ∨ j = H + 1) W w10) := q5
      clear q1 q2 q3 q4 q5 q6 hx0 hb fal HC2
      refine hK.out _ _ HSW.out ?_
      clear hK K
      have p0 : w10.cell? ⟨X, 0, none⟩ = some (vI 0) := by rw [cell_of hx]; rfl
      have p1 : w10.cell? ⟨X, 1, none⟩ = some (vI 0) := by rw [cell_of hx]; rfl
      have p2 : w10.cell? ⟨X, 2, none⟩ = some (vI 0) := by rw [cell_of hx]; rfl
      have p3 : w10.cell? ⟨X, 3, none⟩ = some (vI 0) := by rw [cell_of hx]; rfl
      have p4 : w10.cell? ⟨X, 4, none⟩ = some (vI 0) := by rw [cell_of hx]; rfl
      have p5 : w10.cell? ⟨X, 5, none⟩ = some (.slice none 0 0) := by rw [cell_of hx]; rfl
      have p6 : w10.cell? ⟨X, 6, none⟩ = some (.slice none 0 0) := by rw [cell_of hx]; rfl
      have g0 := frozen_of hx 0
      have g1 := frozen_of hx 1
      have g2 := frozen_of hx 2
      have g3 := frozen_of hx 3
      have g4 := frozen_of hx 4
      have g5 := frozen_of hx 5
      have g6 := frozen_of hx 6
      have fz := st7_fr w10 X (vI x.op) (vI x.r) (vI x.s) (vI x.t) (vI x.n) (.slice aa l1 c1) (.slice ra l2 c2)
      have hxb := HXB.out
      have RX : Hd (XB (st7 w10 X (vI x.op) (vI x.r) (vI x.s) (vI x.t) (vI x.n) (.slice aa l1 c1) (.slice ra l2 c2)) X x (.slice aa l1 c1) (.slice ra l2 c2)) := st7_of hx _ _ _ _ _ _ _
      have R1 : Hd (IOwn (st7 w10 X (vI x.op) (vI x.r) (vI x.s) (vI x.t) (vI x.n) (.slice aa l1 c1) (.slice ra l2 c2)) (H + 3) (.slice aa l1 c1) x.args) := Q1.out.fr fz (fun k e e2 => own_other Q1.out hx (by decide) (e2 ▸ e))
      have R2 : Hd (IOwn (st7 w10 X (vI x.op) (vI x.r) (vI x.s) (vI x.t) (vI x.n) (.slice aa l1 c1) (.slice ra l2 c2)) (H + 3) (.slice ra l2 c2) x.rets) := Q2.out.fr fz (fun k e e2 => own_other Q2.out hx (by decide) (e2 ▸ e))
      have R3 : Hd (S3 (st7 w10 X (vI x.op) (vI x.r) (vI x.s) (vI x.t) (vI x.n) (.slice aa l1 c1) (.slice ra l2 c2)) H a c bs G hs.length g vc (.slice (some ⟨ug, 0, none⟩) hs.length uc) hs D (P, Q, V, (M : Int)) R cv Lc B1 t'') := Q3.out.box fz hx (by omega) (fun e => by have := HCV.out X e; omega)
      have R4 : Hd ((st7 w10 X (vI x.op) (vI x.r) (vI x.s) (vI x.t) (vI x.n) (.slice aa l1 c1) (.slice ra l2 c2)).heap[B1]? = some (.cells #[vI P, vI Q, vI V, .slice none 0 0] 67)) := (fz.block B1 (heap_lt Q4.out) (by omega)).trans Q4.out
      have R5 : Hd (Fr (fun j => j = H + 1 + 1 ∨ j = H + 1) W (st7 w10 X (vI x.op) (vI x.r) (vI x.s) (vI x.t) (vI x.n) (.slice aa l1 c1) (.slice ra l2 c2))) := Fr.then Q5.out fz (fun j hj e => by have := HSZ.out; omega)
      have R6 : Hd (H + 3 ≤ X ∧ X ≠ g ∧ X ≠ B1 ∧ cv.ownBlock ≠ some X) := ⟨by omega, by omega, by omega, fun e => by have := HCV.out X e; omega⟩
      have hS : Fr (fun j => j = H + 1 + 1 ∨ j = H + 1) w9 (st7 w10 X (vI x.op) (vI x.r) (vI x.s) (vI x.t) (vI x.n) (.slice aa l1 c1) (.slice ra l2 c2)) := Fr.then HSW.out fz (fun j hj e => by omega)
      clear fz hx hxb Q1 Q2 Q3 Q4 Q5
      refine heldOne (i := 15) rfl (by kernel_rfl) (fun K hK => ?_)
      go_simp
      clear p0 p1 p2 p3 p4 p5 p6 g0 g1 g2 g3 g4 g5 g6
      refine hK.out _ (st7 w10 X (vI x.op) (vI x.r) (vI x.s) (vI x.t) (vI x.n) (.slice aa l1 c1) (.slice ra l2 c2)) hS ?_
      clear hK K
      refine wpAnyH_done (by kernel_rfl) ?_ _
      go_wp2_with fail
      go_meet
      exact ⟨X, aa, l1, c1, ra, l2, c2, rfl, RX, R1, R2, R3, R4, R5, R6⟩
    case rest =>
     clear HS HZ HF HCA HCV HBS HSC
     obtain ⟨X, aa, l1, c1, ra, l2, c2, rfl, HX, HA1, HA2, HS, HZ, HF, HXn⟩ := hcut
     obtain ⟨x0, x1, x2, x3, x4, x5, x6, -, hXlt⟩ := HX.out.cells
     have y3 := HS.out.cell.2.2.2.1
     have k1 := HS.out.dr.rw.cells.2.1
     have hgl := HS.out.cell.2.2.2.2.2
     have hge : ∀ k, cv.ownBlock = some k → B1 ≤ k := HS.out.hi
     have HCE : Hd (∀ W', Fr (fun k => cv.ownBlock = some k) wc W' → W'.cell? ⟨H + 1, 1, none⟩ = some (.slice (some ⟨g, 0, none⟩) hs.length vc) ∧ W'.cell? ⟨g, D.length * 4 + 3, none⟩ = some cv ∧ W'.cell? ⟨X, 0, none⟩ = some (vI x.op) ∧ W'.cell? ⟨X, 1, none⟩ = some (vI x.r) ∧ W'.cell? ⟨X, 2, none⟩ = some (vI x.s) ∧ W'.cell? ⟨X, 3, none⟩ = some (vI x.t) ∧ W'.cell? ⟨X, 4, none⟩ = some (vI x.n) ∧ W'.cell? ⟨X, 5, none⟩ = some (.slice aa l1 c1) ∧ W'.cell? ⟨X, 6, none⟩ = some (.slice ra l2 c2)) := fun W' fW => by
      have n1 : cv.ownBlock ≠ some (H + 1) := fun e => by have := hge _ e; have := HB8.out; omega
      have n2 : cv.ownBlock ≠ some g := fun e => by have := hge _ e; have := HB8.out; omega
      have n3 := HXn.out.2.2.2
      have l1' := HS.out.dr.rw.cells.2.2.2.2.2
      exact ⟨(fW.cell l1' n1).trans k1, (fW.cell hgl.1 n2).trans y3, (fW.cell hXlt n3).trans x0, (fW.cell hXlt n3).trans x1, (fW.cell hXlt n3).trans x2, (fW.cell hXlt n3).trans x3, (fW.cell hXlt n3).trans x4, (fW.cell hXlt n3).trans x5, (fW.cell hXlt n3).trans x6⟩
     have HZB : Hd (cv.ownBlock ≠ some B1) := own_other HS.out.co.row HZ.out (by decide)
     clear x0 x1 x2 x3 x4 x5 x6 y3 k1 hgl hge hXlt
     go_upto_region 23 with fail
     have hHeld : Fr (fun k => cv.ownBlock = some k) wc wc.drew := (Fr.refl _ wc).drew
     refine wp_region_T (S := fun W' => Fr (fun k => cv.ownBlock = some k) wc W') (t := 20) mixed ?_
     refine wpAnyT_takeAt (i := 0) 117 (v := ?_) rfl rfl (by kernel_rfl) (by kernel_rfl) (by kernel_rfl) (by kernel_rfl) (fun _ _ _ h => h) (Or.inl ⟨by rfl, fun w hSw => (by obtain ⟨q1, q2, q3, q4, q5, q6, q7, q8, q9⟩ := HCE.out w hSw; go_simp; try with_reducible rfl)⟩) hHeld ?_
     simp only [Act.put, List.setIfInBounds_toArray, List.set_cons_zero, List.set_cons_succ]
     refine wpAnyT_takeAt (i := 1) 118 (v := ?_) rfl rfl (by kernel_rfl) (by kernel_rfl) (by kernel_rfl) (by kernel_rfl) (fun _ _ _ h => h) (Or.inl ⟨by rfl, fun w hSw => (by obtain ⟨q1, q2, q3, q4, q5, q6, q7, q8, q9⟩ := HCE.out w hSw; go_simp; try with_reducible rfl)⟩) hHeld ?_
     simp only [Act.put, List.setIfInBounds_toArray, List.set_cons_zero, List.set_cons_succ]
     refine wpAnyT_takeAt (i := 2) 119 (v := ?_) rfl rfl (by kernel_rfl) (by kernel_rfl) (by kernel_rfl) (by kernel_rfl) (fun _ _ _ h => h) (Or.inl ⟨by rfl, fun w hSw => (by obtain ⟨q1, q2, q3, q4, q5, q6, q7, q8, q9⟩ := HCE.out w hSw; go_simp; try with_reducible rfl)⟩) hHeld ?_
     simp only [Act.put, List.setIfInBounds_toArray, List.set_cons_zero, List.set_cons_succ]
     refine wpAnyT_takeAt (i := 3) 120 (v := ?_) rfl rfl (by kernel_rfl) (by kernel_rfl) (by kernel_rfl) (by kernel_rfl) (fun _ _ _ h => h) (Or.inl ⟨by rfl, fun w hSw => (by obtain ⟨q1, q2, q3, q4, q5, q6, q7, q8, q9⟩ := HCE.out w hSw; go_simp; try with_reducible rfl)⟩) hHeld ?_
     simp only [Act.put, List.setIfInBounds_toArray, List.set_cons_zero, List.set_cons_succ]
     refine wpAnyT_takeAt (i := 4) 121 (v := ?_) rfl rfl (by kernel_rfl) (by kernel_rfl) (by kernel_rfl) (by kernel_rfl) (fun _ _ _ h => h) (Or.inl ⟨by rfl, fun w hSw => (by obtain ⟨q1, q2, q3, q4, q5, q6, q7, q8, q9⟩ := HCE.out w hSw; go_simp; try with_reducible rfl)⟩) hHeld ?_
     simp only [Act.put, List.setIfInBounds_toArray, List.set_cons_zero, List.set_cons_succ]
     refine wpAnyT_takeAt (i := 5) 122 (v := ?_) rfl rfl (by kernel_rfl) (by kernel_rfl) (by kernel_rfl) (by kernel_rfl) (fun _ _ _ h => h) (Or.inl ⟨by rfl, fun w hSw => (by obtain ⟨q1, q2, q3, q4, q5, q6, q7, q8, q9⟩ := HCE.out w hSw; go_simp; try with_reducible rfl)⟩) hHeld ?_
     simp only [Act.put, List.setIfInBounds_toArray, List.set_cons_zero, List.set_cons_succ]
     refine wpAnyT_takeAt (i := 6) 123 (v := ?_) rfl rfl (by kernel_rfl) (by kernel_rfl) (by kernel_rfl) (by kernel_rfl) (fun _ _ _ h => h) (Or.inl ⟨by rfl, fun w hSw => (by obtain ⟨q1, q2, q3, q4, q5, q6, q7, q8, q9⟩ := HCE.out w hSw; go_simp; try with_reducible rfl)⟩) hHeld ?_
     simp only [Act.put, List.setIfInBounds_toArray, List.set_cons_zero, List.set_cons_succ]
     refine wpAnyT_takeAt (i := 7) 124 (v := ?_) rfl rfl (by kernel_rfl) (by kernel_rfl) (by kernel_rfl) (by kernel_rfl) (fun _ _ _ h => h) (Or.inl ⟨by rfl, fun w hSw => (by obtain ⟨q1, q2, q3, q4, q5, q6, q7, q8, q9⟩ := HCE.out w hSw; go_simp; try with_reducible rfl)⟩) hHeld ?_
     simp only [Act.put, List.setIfInBounds_toArray, List.set_cons_zero, List.set_cons_succ]
     refine wpAnyT_takeAt (i := 8) 125 (v := ?_) rfl rfl (by kernel_rfl) (by kernel_rfl) (by kernel_rfl) (by kernel_rfl) (fun _ _ _ h => h) (Or.inl ⟨by rfl, fun w hSw => (by obtain ⟨q1, q2, q3, q4, q5, q6, q7, q8, q9⟩ := HCE.out w hSw; go_simp; try with_reducible rfl)⟩) hHeld ?_
     simp only [Act.put, List.setIfInBounds_toArray, List.set_cons_zero, List.set_cons_succ]
     refine wpAnyT_takeAt (i := 9) 126 (v := ?_) rfl rfl (by kernel_rfl) (by kernel_rfl) (by kernel_rfl) (by kernel_rfl) (fun _ _ _ h => h) (Or.inl ⟨by rfl, fun w hSw => (by obtain ⟨q1, q2, q3, q4, q5, q6, q7, q8, q9⟩ := HCE.out w hSw; go_simp; try with_reducible rfl)⟩) hHeld ?_
     simp only [Act.put, List.setIfInBounds_toArray, List.set_cons_zero, List.set_cons_succ]
     refine wpAnyT_takeAt (i := 10) 127 (v := ?_) rfl rfl (by kernel_rfl) (by kernel_rfl) (by kernel_rfl) (by kernel_rfl) (fun _ _ _ h => h) (Or.inl ⟨by rfl, fun w hSw => (by obtain ⟨q1, q2, q3, q4, q5, q6, q7, q8, q9⟩ := HCE.out w hSw; go_simp; try with_reducible rfl)⟩) hHeld ?_
     simp only [Act.put, List.setIfInBounds_toArray, List.set_cons_zero, List.set_cons_succ]
     refine wpAnyT_takeAt (i := 11) 128 (v := ?_) rfl rfl (by kernel_rfl) (by kernel_rfl) (by kernel_rfl) (by kernel_rfl) (fun _ _ _ h => h) (Or.inl ⟨by rfl, fun w hSw => (by obtain ⟨q1, q2, q3, q4, q5, q6, q7, q8, q9⟩ := HCE.out w hSw; go_simp; try with_reducible rfl)⟩) hHeld ?_
     simp only [Act.put, List.setIfInBounds_toArray, List.set_cons_zero, List.set_cons_succ]
     refine wpAnyT_takeAt (i := 12) 129 (v := ?_) rfl rfl (by kernel_rfl) (by kernel_rfl) (by kernel_rfl) (by kernel_rfl) (fun _ _ _ h => h) (Or.inl ⟨by rfl, fun w hSw => (by obtain ⟨q1, q2, q3, q4, q5, q6, q7, q8, q9⟩ := HCE.out w hSw; go_simp; try with_reducible rfl)⟩) hHeld ?_
     simp only [Act.put, List.setIfInBounds_toArray, List.set_cons_zero, List.set_cons_succ]
     refine wpAnyT_takeAt (i := 13) 130 (v := ?_) rfl rfl (by kernel_rfl) (by kernel_rfl) (by kernel_rfl) (by kernel_rfl) (fun _ _ _ h => h) (Or.inl ⟨by rfl, fun w hSw => (by obtain ⟨q1, q2, q3, q4, q5, q6, q7, q8, q9⟩ := HCE.out w hSw; go_simp; try with_reducible rfl)⟩) hHeld ?_
     simp only [Act.put, List.setIfInBounds_toArray, List.set_cons_zero, List.set_cons_succ]
     refine wpAnyT_takeAt (i := 14) 131 (v := ?_) rfl rfl (by kernel_rfl) (by kernel_rfl) (by kernel_rfl) (by kernel_rfl) (fun _ _ _ h => h) (Or.inl ⟨by rfl, fun w hSw => (by obtain ⟨q1, q2, q3, q4, q5, q6, q7, q8, q9⟩ := HCE.out w hSw; go_simp; try with_reducible rfl)⟩) hHeld ?_
     simp only [Act.put, List.setIfInBounds_toArray, List.set_cons_zero, List.set_cons_succ]
     refine wpAnyT_takeAt (i := 15) 132 (v := ?_) rfl rfl (by kernel_rfl) (by kernel_rfl) (by kernel_rfl) (by kernel_rfl) (fun _ _ _ h => h) (Or.inl ⟨by rfl, fun w hSw => (by obtain ⟨q1, q2, q3, q4, q5, q6, q7, q8, q9⟩ := HCE.out w hSw; go_simp; try with_reducible rfl)⟩) hHeld ?_
     simp only [Act.put, List.setIfInBounds_toArray, List.set_cons_zero, List.set_cons_succ]
     refine wpAnyT_one (i := 16) rfl (by kernel_rfl) (fun K hK => ?_)
     go_simp
     have fal : Fr (fun _ => False) wc (wc.alloc (.cells #[vI x.op, vI x.r, vI x.s, vI x.t, vI x.n, .slice aa l1 c1, .slice ra l2 c2] 71)).drew := (Fr.alloc (Fr.refl _ _) _).drew
     have HSz : Hd (S3 (wc.alloc (.cells #[vI x.op, vI x.r, vI x.s, vI x.t, vI x.n, .slice aa l1 c1, .slice ra l2 c2] 71)).drew H a c bs G hs.length g vc (.slice (some ⟨ug, 0, none⟩) hs.length uc) hs D (P, Q, V, (M : Int)) R cv Lc B1 t'') := HS.out.stay fal
     have HA1z : Hd (IOwn (wc.alloc (.cells #[vI x.op, vI x.r, vI x.s, vI x.t, vI x.n, .slice aa l1 c1, .slice ra l2 c2] 71)).drew (H + 3) (.slice aa l1 c1) x.args) := HA1.out.fr fal (fun _ _ e => e)
     have HA2z : Hd (IOwn (wc.alloc (.cells #[vI x.op, vI x.r, vI x.s, vI x.t, vI x.n, .slice aa l1 c1, .slice ra l2 c2] 71)).drew (H + 3) (.slice ra l2 c2) x.rets) := HA2.out.fr fal (fun _ _ e => e)
     have HFz : Hd (Fr (fun j => j = H + 1 + 1 ∨ j = H + 1) W (wc.alloc (.cells #[vI x.op, vI x.r, vI x.s, vI x.t, vI x.n, .slice aa l1 c1, .slice ra l2 c2] 71)).drew) := HF.out.trans (fal.mono (fun _ _ e => e.elim))
     have HZz : Hd ((wc.alloc (.cells #[vI x.op, vI x.r, vI x.s, vI x.t, vI x.n, .slice aa l1 c1, .slice ra l2 c2] 71)).drew.heap[B1]? = some (.cells #[vI P, vI Q, vI V, .slice none 0 0] 67)) := (fal.block B1 (heap_lt HZ.out) (fun e => e)).trans HZ.out
     have HNW : Hd (∀ j' u, [vI x.op, vI x.r, vI x.s, vI x.t, vI x.n, .slice aa l1 c1, .slice ra l2 c2][j']? = some u → (wc.alloc (.cells #[vI x.op, vI x.r, vI x.s, vI x.t, vI x.n, .slice aa l1 c1, .slice ra l2 c2] 71)).drew.cell? ((⟨wc.heap.size, 0, none⟩ : Addr).add j') = some u) := World.news_of_block (w := wc.alloc (.cells #[vI x.op, vI x.r, vI x.s, vI x.t, vI x.n, .slice aa l1 c1, .slice ra l2 c2] 71)) (cs := #[vI x.op, vI x.r, vI x.s, vI x.t, vI x.n, .slice aa l1 c1, .slice ra l2 c2]) (heap_new wc _)
     have HSZz : Hd ((wc.alloc (.cells #[vI x.op, vI x.r, vI x.s, vI x.t, vI x.n, .slice aa l1 c1, .slice ra l2 c2] 71)).drew.heap.size = wc.heap.size + 1) := by unfold Hd; show (wc.alloc (.cells #[vI x.op, vI x.r, vI x.s, vI x.t, vI x.n, .slice aa l1 c1, .slice ra l2 c2] 71)).heap.size = _; rw [World.size_alloc]
     have HBSz : Hd (H + 3 ≤ (wc.alloc (.cells #[vI x.op, vI x.r, vI x.s, vI x.t, vI x.n, .slice aa l1 c1, .slice ra l2 c2] 71)).drew.heap.size) := by have := HFz.out.size; have := HSZ.out; unfold Hd; omega
     have HBW : Hd (B1 < wc.heap.size) := heap_lt HZ.out
     have hS1 : Fr (fun k => cv.ownBlock = some k) wc (wc.alloc (.cells #[vI x.op, vI x.r, vI x.s, vI x.t, vI x.n, .slice aa l1 c1, .slice ra l2 c2] 71)).drew := fal.mono (fun _ _ e => e.elim)
     refine hK.out _ (wc.alloc (.cells #[vI x.op, vI x.r, vI x.s, vI x.t, vI x.n, .slice aa l1 c1, .slice ra l2 c2] 71)).drew (fun _ => hS1) ?_
     clear hK K fal hHeld HS HA1 HA2 HF HZ HX
     generalize (wc.alloc (.cells #[vI x.op, vI x.r, vI x.s, vI x.t, vI x.n, .slice aa l1 c1, .slice ra l2 c2] 71)).drew = wz at *
     refine wpAnyT_one (i := 17) rfl (by kernel_rfl) (fun K hK => ?_)
     obtain ⟨i71, hi71, hz71, hs71, hb71⟩ := info_parts (P := Tryd.prog) (e := 71) (z := .agg #[vI 0, vI 0, vI 0, vI 0, vI 0, .slice none 0 0, .slice none 0 0]) (size := 7) (bytes := 88) (by kernel_rfl)
     refine step_append_lies _ rfl (.tmp 131) (.tmp 133) 65 rfl (H + 3) 71 i71 (.agg #[vI 0, vI 0, vI 0, vI 0, vI 0, .slice none 0 0, .slice none 0 0]) 7 88 under65 hi71 hz71 hs71 hb71 rfl (by omega) cv Lc.length _ (by simp [Act.eval, Act.put]) HSz.out.co.row ⟨wc.heap.size, 0, none⟩ 1 1 [vI x.op, vI x.r, vI x.s, vI x.t, vI x.n, .slice aa l1 c1, .slice ra l2 c2] (by simp [Act.eval, Act.put]) rfl HNW.out (by intro u hu; simp at hu; rcases hu with rfl | rfl | rfl | rfl | rfl | rfl | rfl <;> rfl) (by omega) (by unfold maxLen; omega) (by omega) HBSz.out (wc.heap.size + 1) HSZz.out ?_
     intro g6 cap6 w10 hown6 hgrow6 hat6 hlt6
     obtain ⟨k1, c1', c3, z3, k2⟩ := HSz.out.app x (.slice aa l1 c1) (.slice ra l2 c2) HA1z.out HA2z.out hgrow6 hown6 (by rcases hat6 with e | e; exact Or.inl e; exact Or.inr (by have := HBW.out; omega))
     have hS2 : Fr (fun k => cv.ownBlock = some k) wc w10 := hS1.trans (grown_frL hgrow6)
     have hS3 : Fr (fun k => cv.ownBlock = some k) wc (w10.setCell ⟨g, D.length * 4 + 3, none⟩ (.slice (some ⟨g6, 0, none⟩) (Lc.length + 1) cap6)) → True := fun _ => trivial
     have RS : Hd (S3 (w10.setCell ⟨g, D.length * 4 + 3, none⟩ (.slice (some ⟨g6, 0, none⟩) (Lc.length + 1) cap6)) H a c bs G hs.length g vc (.slice (some ⟨ug, 0, none⟩) hs.length uc) hs D (P, Q, V, (M : Int)) R (.slice (some ⟨g6, 0, none⟩) (Lc.length + 1) cap6) (Lc ++ [(x, .slice aa l1 c1, .slice ra l2 c2)]) B1 t'') := k1
     have RZ : Hd ((w10.setCell ⟨g, D.length * 4 + 3, none⟩ (.slice (some ⟨g6, 0, none⟩) (Lc.length + 1) cap6)).heap[B1]? = some (.cells #[vI P, vI Q, vI V, .slice none 0 0] 67)) := (k2.block B1 (heap_lt HZz.out) (by rintro (e | e); exact absurd e (by have := HB8.out; omega); exact HZB.out e)).trans HZz.out
     have RF : Hd (Fr (fun j => j = H + 1 + 1 ∨ j = H + 1) W (w10.setCell ⟨g, D.length * 4 + 3, none⟩ (.slice (some ⟨g6, 0, none⟩) (Lc.length + 1) cap6))) := Fr.then HFz.out k2 (fun j hj e => by
      have h8 := HB8.out
      have hz := HSZ.out
      rcases e with e | e
      ·omega
      ·have := HSz.out.hi j e; omega)
     clear hown6 hgrow6 hat6 hlt6 k1 k2 HSz HA1z HA2z HFz HZz HNW HSZz HBSz hi71 hz71 hs71 hb71 hS3
     refine hK.out _ _ (fun _ => hS2) ?_
     try simp only [Act.put, List.setIfInBounds_toArray, List.set_cons_zero, List.set_cons_succ]
     clear hK K
     have hHeld := hS2
     clear hS2 hS1
     refine wpAnyT_one (i := 18) rfl (by kernel_rfl) (fun K hK => ?_)
     go_simp
     refine hK.out _ _ (fun _ => hHeld) ?_
     clear hK K
     try simp only [Act.put, List.setIfInBounds_toArray, List.set_cons_zero, List.set_cons_succ]
     refine wpAnyT_one (i := 19) rfl (by kernel_rfl) (fun K hK => ?_)
     go_simp
     refine hK.out _ _ (fun _ => hHeld) ?_
     clear hK K
     try simp only [Act.put, List.setIfInBounds_toArray, List.set_cons_zero, List.set_cons_succ]
     refine wpAnyT_one (i := 20) rfl (by kernel_rfl) (fun K hK => ?_)
     go_simp
     refine hK.out _ _ (fun h => absurd rfl h) ?_
     clear hK K hHeld
     refine wpAnyT_done (by kernel_rfl) ?_ _
     clear c1' c3 z3 HCE HZB
     generalize w10.setCell ⟨g, D.length * 4 + 3, none⟩ (.slice (some ⟨g6, 0, none⟩) (Lc.length + 1) cap6) = w12 at *
     go_wp2_with fail
     exact ⟨⟨Lc ++ [(x, .slice aa l1 c1, .slice ra l2 c2)], _, t'', by simp, by simp; omega, RS, RZ, by unfold Hd; rw [HV4.out]; simp, HL2, RF⟩, by simp; omega⟩
 case rest =>
 clear HS2 HL HN HF HLM
 obtain ⟨D, cs, t, va, vc, HS, HV, HX, HF⟩ := hcut
 have HDEC : Hd (decD bs = (G, hs, (funcsD bs G hs hs t7).1, endD bs t)) := by
  unfold Hd decD
  rw [← HS1.out, HGD.out]
  simp only
  rw [HMD.out]
  simp only
  rw [Int.toNat_natCast, HR.out, HV.out]
 have HB : Hd (wc.heap[H]? = some (.cells #[vI 0, .slice none 0 0] 26)) := (HF.out.block H (heap_lt HB0.out) (by omega)).trans HB0.out
 have HG : Hd (DR (H + 1 + 1) (H + 1) a c bs G (.slice va hs.length vc) wc t) := HS.out.dr
 have HFW : Hd (Fr (fun _ => False) w wc) := Fr.then HF0.out HF.out (fun j hj e => by have := HH.out; omega)
 have hop := ropen_any _ _ _ G _ wc _ _ _ _ _ HG.out.rd HG.out.rw
 have hfv : ∀ z, Value.slice va hs.length vc ≠ .int .u8 z := fun z e => by cases e
 clear HR HV HGD HMD HS1 HF0 HB0 hn HLE
 by_cases hE : t.E = 0
 ·have hb : (t.E == 0) = true := by simpa using hE
  rw [hb] at hop
  by_cases hp : t.p = bs.length
  ·-- a program
   have HED : Hd (endD bs t = t) := if_neg (fun k => k.2 hp)
   have hpn : ((t.p : Int) != (bs.length : Int)) = false := by simp [hp]
   have HE0 : Hd (t.E = 0) := hE
   have r2 := HG.out.rd.cells.2.2.1
   clear hE hb hp
   go_wp2_with fail
   refine hop.mono ?_
   rintro e w8 ⟨rfl, rfl⟩
   go_wp2_with fail
   refine hop.mono ?_
   rintro e w9 ⟨rfl, rfl⟩
   clear hop r2 hpn
   have k0 := HG.out.rw.cells.1
   have k1 := HG.out.rw.cells.2.1
   have b0 : w9.cell? ⟨H, 0, none⟩ = some (vI 0) := by rw [cell_of HB.out]; rfl
   have b1 : w9.cell? ⟨H, 1, none⟩ = some (.slice none 0 0) := by rw [cell_of HB.out]; rfl
   have z0 := frozen_of HB.out 0
   have z1 := frozen_of HB.out 1
   have fz := st2_fr w9 H (vI G) (.slice va hs.length vc)
   have HXZ : Hd ((st2 w9 H (vI G) (.slice va hs.length vc)).heap[H]? = some (.cells #[vI G, .slice va hs.length vc] 26)) := st2_of HB.out _ _
   have HFZ : Hd (Fr (fun _ => False) w (st2 w9 H (vI G) (.slice va hs.length vc))) := Fr.then HFW.out fz (fun j hj e => by have := HH.out; omega)
   have HOZ : Hd (FO (st2 w9 H (vI G) (.slice va hs.length vc)) w.heap.size (.slice va hs.length vc) D) := by
    have h1 := HS.out.fo
    rw [(HX.out HE0.out).1, List.drop_length, List.map_nil, List.append_nil] at h1
    exact (h1.far fz (fun k e => by omega)).mono (by have := HH.out; omega)
   clear fz HS HF HFW HB HG
   go_wp2_with fail
   change bodyPost _ _ _ _ _ (st2 w9 H (vI G) (.slice va hs.length vc))
   generalize st2 w9 H (vI G) (.slice va hs.length vc) = wz at *
   have e0 : wz.cell? ⟨H, 0, none⟩ = some (vI G) := by rw [cell_of HXZ.out]; rfl
   have e1 : wz.cell? ⟨H, 1, none⟩ = some (.slice va hs.length vc) := by rw [cell_of HXZ.out]; rfl
   refine bodyPost_ret (v := .tuple #[.agg #[vI G, .slice va hs.length vc], vI 0, vI 0]) ?_ rfl ?_
   ·rw [results_cell3 (p := 2) (u := 3) (v := 4) (ty := 26) Tryd.results18]
    simp [go_sem, e0, e1]
   ·refine ⟨HFZ.out, ?_⟩
    rw [HDEC.out]
    simp only
    rw [HED.out, if_pos HE0.out]
    exact ⟨_, D, rfl, HOZ.out, (HX.out HE0.out).2.1, (HX.out HE0.out).2.2⟩
  ·-- bytes behind it
   have HED : Hd (endD bs t = { t with E := 22, o := t.p }) := if_pos ⟨hE, hp⟩
   have hpn : ((t.p : Int) != (bs.length : Int)) = true := by simp; omega
   have r2 := HG.out.rd.cells.2.2.1
   have r4 := HG.out.rd.cells.2.2.2.2.1
   have rz := HG.out.rd.cells.2.2.2.2.2.1 4
   have k3 := HG.out.rw.cells.2.2.2.1
   have kz := HG.out.rw.cells.2.2.2.2.1 3
   clear hE hb hp
   go_wp2_with fail
   refine hop.mono ?_
   rintro e w8 ⟨rfl, rfl⟩
   clear hop
   go_upto_region 26 with fail
   have f1 := setCell_fr w8 (H + 1) 3 (vI 22)
   have D1 : RD (H + 1 + 1) (H + 1) (.slice a bs.length c) (w8.setCell ⟨H + 1, 3, none⟩ (vI 22)) t.p t.q t.o := HG.out.rd.fr f1 (by omega)
   have K1 : RW (H + 1) G (.slice va hs.length vc) (w8.setCell ⟨H + 1, 3, none⟩ (vI 22)) t.L 22 := HG.out.rw.setE 22
   have hb1 : (w8.setCell ⟨H + 1, 3, none⟩ (vI 22)).heap[H]? = some (.cells #[vI 0, .slice none 0 0] 26) := (f1.block H (heap_lt HB.out) (by omega)).trans HB.out
   have HF1 : Hd (Fr (fun _ => False) w (w8.setCell ⟨H + 1, 3, none⟩ (vI 22))) := Fr.then HFW.out f1 (fun j hj e => by have := HH.out; omega)
   have HD1 : Hd (RD (H + 1 + 1) (H + 1) (.slice a bs.length c) (w8.setCell ⟨H + 1, 3, none⟩ (vI 22)) t.p t.q t.o) := D1
   have HK1 : Hd (RW (H + 1) G (.slice va hs.length vc) (w8.setCell ⟨H + 1, 3, none⟩ (vI 22)) t.L 22) := K1
   have HB1 : Hd ((w8.setCell ⟨H + 1, 3, none⟩ (vI 22)).heap[H]? = some (.cells #[vI 0, .slice none 0 0] 26)) := hb1
   clear r2 r4 rz k3 kz f1 D1 K1 hb1 hpn
   rw [show w8.setCell ⟨H + 1, 3, none⟩ (.int .i64 22) = w8.setCell ⟨H + 1, 3, none⟩ (vI 22) from rfl]
   generalize w8.setCell ⟨H + 1, 3, none⟩ (vI 22) = w9 at *
   have r2 := HD1.out.cells.2.2.1
   have r4 := HD1.out.cells.2.2.2.2.1
   have rz := HD1.out.cells.2.2.2.2.2.1 4
   go_upto_region 27 with fail
   have f2 := setCell_fr w9 (H + 1 + 1) 4 (vI t.p)
   have HD2 : Hd (RD (H + 1 + 1) (H + 1) (.slice a bs.length c) (w9.setCell ⟨H + 1 + 1, 4, none⟩ (vI t.p)) t.p t.q t.p) := HD1.out.setO t.p
   have HK2 : Hd (RW (H + 1) G (.slice va hs.length vc) (w9.setCell ⟨H + 1 + 1, 4, none⟩ (vI t.p)) t.L 22) := HK1.out.fr f2 (by omega)
   have HB2 : Hd ((w9.setCell ⟨H + 1 + 1, 4, none⟩ (vI t.p)).heap[H]? = some (.cells #[vI 0, .slice none 0 0] 26)) := (f2.block H (heap_lt HB1.out) (by omega)).trans HB1.out
   have HF2 : Hd (Fr (fun _ => False) w (w9.setCell ⟨H + 1 + 1, 4, none⟩ (vI t.p))) := Fr.then HF1.out f2 (fun j hj e => by have := HH.out; omega)
   clear r2 r4 rz f2 HD1 HK1 HB1 HF1 HS HF HFW HB HG HX
   generalize w9.setCell ⟨H + 1 + 1, 4, none⟩ (vI t.p) = w10 at *
   have hop := ropen_any _ _ _ G _ w10 _ _ _ _ _ HD2.out HK2.out
   have hb : ((22 : Int) == 0) = false := by decide
   rw [hb] at hop
   obtain ⟨E, hEE⟩ : ∃ E : Int, E = 22 := ⟨22, rfl⟩
   obtain ⟨O, hOO⟩ : ∃ O : Int, O = t.p := ⟨t.p, rfl⟩
   have HR2 : Hd ((decD bs).2.2.2.E = E ∧ (decD bs).2.2.2.o = O ∧ ¬ (decD bs).2.2.2.E = 0) := by
    unfold Hd
    rw [HDEC.out]
    simp only
    rw [HED.out, hEE, hOO]
    exact ⟨rfl, rfl, show ¬ (22 : Int) = 0 by decide⟩
   have HD3 : Hd (RD (H + 1 + 1) (H + 1) (.slice a bs.length c) w10 t.p t.q O) := by unfold Hd; rw [hOO]; exact HD2.out
   have HK3 : Hd (RW (H + 1) G (.slice va hs.length vc) w10 t.L E) := by unfold Hd; rw [hEE]; exact HK2.out
   clear hb hEE hOO HD2 HK2 HED
   go_wp2_with fail
   refine hop.mono ?_
   rintro e w11 ⟨rfl, rfl⟩
   clear hop
   have e3' := HK3.out.cells.2.2.2.1
   have o4' := HD3.out.cells.2.2.2.2.1
   have d0' := HD3.out.cells.1
   have b0 : w11.cell? ⟨H, 0, none⟩ = some (vI 0) := by rw [cell_of HB2.out]; rfl
   have b1 : w11.cell? ⟨H, 1, none⟩ = some (.slice none 0 0) := by rw [cell_of HB2.out]; rfl
   have z0 := frozen_of HB2.out 0
   have z1 := frozen_of HB2.out 1
   have fz := (st2_fr w11 H (vI 0) (.slice none 0 0)).drew
   have HXZ : Hd ((st2 w11 H (vI 0) (.slice none 0 0)).drew.heap[H]? = some (.cells #[vI 0, .slice none 0 0] 26)) := st2_of HB2.out _ _
   have HFZ : Hd (Fr (fun _ => False) w (st2 w11 H (vI 0) (.slice none 0 0)).drew) := Fr.then HF2.out fz (fun j hj e => by have := HH.out; omega)
   clear fz
   go_upto_region 28 with fail
   go_region
   all_goals
    go_wp2_with fail
    change bodyPost _ _ _ _ _ (st2 w11 H (vI 0) (.slice none 0 0)).drew
    generalize (st2 w11 H (vI 0) (.slice none 0 0)).drew = wz at *
    have e0 : wz.cell? ⟨H, 0, none⟩ = some (vI 0) := by rw [cell_of HXZ.out]; rfl
    have e1 : wz.cell? ⟨H, 1, none⟩ = some (.slice none 0 0) := by rw [cell_of HXZ.out]; rfl
    refine bodyPost_ret (v := .tuple #[.agg #[vI 0, .slice none 0 0], vI E, vI O]) ?_ rfl ?_
    ·rw [results_cell3 (p := 2) (u := 3) (v := 4) (ty := 26) Tryd.results18]
     simp [go_sem, e0, e1]
    ·refine ⟨HFZ.out, ?_⟩
     rw [if_neg HR2.out.2.2, HR2.out.1, HR2.out.2.1]
 ·have hb : (t.E == 0) = false := by simpa using hE
  rw [hb] at hop
  have HED : Hd (endD bs t = t) := if_neg (fun k => hE k.1)
  obtain ⟨E, hEE⟩ : ∃ E : Int, E = t.E := ⟨_, rfl⟩
  obtain ⟨O, hOO⟩ : ∃ O : Int, O = t.o := ⟨_, rfl⟩
  have HR2 : Hd ((decD bs).2.2.2.E = E ∧ (decD bs).2.2.2.o = O ∧ ¬ (decD bs).2.2.2.E = 0) := by
   unfold Hd
   rw [HDEC.out]
   simp only
   rw [HED.out, hEE, hOO]
   exact ⟨rfl, rfl, hE⟩
  have HD3 : Hd (RD (H + 1 + 1) (H + 1) (.slice a bs.length c) wc t.p t.q O) := by unfold Hd; rw [hOO]; exact HG.out.rd
  have HK3 : Hd (RW (H + 1) G (.slice va hs.length vc) wc t.L E) := by unfold Hd; rw [hEE]; exact HG.out.rw
  have HB2 : Hd (wc.heap[H]? = some (.cells #[vI 0, .slice none 0 0] 26)) := HB.out
  have HF2 : Hd (Fr (fun _ => False) w wc) := HFW.out
  clear hb hEE hOO HED hE HS HF HFW HB HG HX
  go_wp2_with fail
  refine hop.mono ?_
  rintro e w8 ⟨rfl, rfl⟩
  go_wp2_with fail
  refine hop.mono ?_
  rintro e w11 ⟨rfl, rfl⟩
  clear hop
  have e3' := HK3.out.cells.2.2.2.1
  have o4' := HD3.out.cells.2.2.2.2.1
  have d0' := HD3.out.cells.1
  have b0 : w11.cell? ⟨H, 0, none⟩ = some (vI 0) := by rw [cell_of HB2.out]; rfl
  have b1 : w11.cell? ⟨H, 1, none⟩ = some (.slice none 0 0) := by rw [cell_of HB2.out]; rfl
  have z0 := frozen_of HB2.out 0
  have z1 := frozen_of HB2.out 1
  have fz := (st2_fr w11 H (vI 0) (.slice none 0 0)).drew
  have HXZ : Hd ((st2 w11 H (vI 0) (.slice none 0 0)).drew.heap[H]? = some (.cells #[vI 0, .slice none 0 0] 26)) := st2_of HB2.out _ _
  have HFZ : Hd (Fr (fun _ => False) w (st2 w11 H (vI 0) (.slice none 0 0)).drew) := Fr.then HF2.out fz (fun j hj e => by have := HH.out; omega)
  clear fz
  go_upto_region 28 with fail
  go_region
  all_goals
   go_wp2_with fail
   change bodyPost _ _ _ _ _ (st2 w11 H (vI 0) (.slice none 0 0)).drew
   generalize (st2 w11 H (vI 0) (.slice none 0 0)).drew = wz at *
   have e0 : wz.cell? ⟨H, 0, none⟩ = some (vI 0) := by rw [cell_of HXZ.out]; rfl
   have e1 : wz.cell? ⟨H, 1, none⟩ = some (.slice none 0 0) := by rw [cell_of HXZ.out]; rfl
   refine bodyPost_ret (v := .tuple #[.agg #[vI 0, .slice none 0 0], vI E, vI O]) ?_ rfl ?_
   ·rw [results_cell3 (p := 2) (u := 3) (v := 4) (ty := 26) Tryd.results18]
    simp [go_sem, e0, e1]
   ·refine ⟨HFZ.out, ?_⟩
    rw [if_neg HR2.out.2.2, HR2.out.1, HR2.out.2.1]
end Go.Proofs.YtingenonbkencaaDoor
