import Derived.Test.YtingenonbkencaaDoorQXeJ
import Derived.Test.YtingenonbkencaaDoorQK8J
import Derived.Test.YtingenonbkencaaDoorQXw
set_option linter.unusedVariables false
set_option linter.unusedSimpArgs false
namespace Go.Proofs.YtingenonbkencaaDoor
open Go.RowKit (wrap32 wrap64)
set_option maxRecDepth 100000
set_option maxHeartbeats 4000000
theorem WB.handed {w : World} {B : Nat} {v : Value} {l : List UInt8} (h : WB w B v l) (hl : l.length ≤ 1000000000000000) : HandedW w v l := by
 obtain ⟨g, rfl, h1, h2⟩ := h
 refine ⟨hl, Or.inr ⟨g, 0, _, rfl, by omega, by omega, h2.lt, fun j hj => ?_⟩⟩
 have := h2.cell (i := j) (o := 0) (by omega) (by omega)
 rw [Nat.mul_one, Nat.add_zero] at this
 rw [Nat.zero_add, this]
 simp [wideB, hj, u8i]
theorem WB.at {w : World} {B g n : Nat} {l : List UInt8} (h : WB w B (.slice (some ⟨g, 0, none⟩) n (n + 64)) l) : B ≤ g ∧ l.length = n ∧ Rws w 5 1 g (n + 64) (fun i => [u8i (wideB l i)]) := by
 obtain ⟨g', e, h1, h2⟩ := h
 obtain ⟨e1, e2, -⟩ : g = g' ∧ n = l.length ∧ True := by simpa using e
 subst e1; subst e2
 exact ⟨h1, rfl, h2⟩
theorem WB.set {w : World} {B g n k : Nat} {l : List UInt8} (h : WB w B (.slice (some ⟨g, 0, none⟩) n (n + 64)) l) (hk : k < n) (y : UInt8) : WB (w.setCell ⟨g, k, none⟩ (.int .u8 (y.toNat : Int))) B (.slice (some ⟨g, 0, none⟩) n (n + 64)) (l.set k y) := by
 obtain ⟨h1, h2, h3⟩ := h.at
 refine ⟨g, by rw [List.length_set, h2], h1, ?_⟩
 rw [List.length_set, h2]
 have := h3.set1 (i := k) (o := 0) (by omega) (by omega) rfl (u8i (y.toNat : Int))
 rw [Nat.mul_one, Nat.add_zero] at this
 refine this.congr (fun i _ => ?_)
 by_cases e : i = k
 ·subst e; rw [at1_self]; simp [wideB, h2, hk]
 ·rw [at1_ne _ _ e]
  simp only [wideB, List.length_set, h2]
  by_cases hi : i < n
  ·rw [if_pos hi, if_pos hi]
   simp [List.getD_eq_getElem?_getD, List.getElem?_set_ne (fun h => e h.symm)]
  ·rw [if_neg hi, if_neg hi]
theorem xor_byte (x : UInt8) : bits BinOp.xor IntKind.u8 (x.toNat : Int) 1 = ((UInt8.ofNat (bits BinOp.xor IntKind.u8 (x.toNat : Int) 1).toNat).toNat : Int) := by
 have h : ∀ n : Fin 256, bits BinOp.xor IntKind.u8 ((n.val : Nat) : Int) 1 = ((UInt8.ofNat (bits BinOp.xor IntKind.u8 ((n.val : Nat) : Int) 1).toNat).toNat : Int) := by decide +kernel
 exact h ⟨x.toNat, x.toNat_lt⟩
theorem owns_apart {w : World} {base Z : Nat} {rv : Value} {bs : List UInt8} (h : w.ownsRow base 5 1 rv bs.length (bs.map u8v)) (hl : bs.length ≤ 1000000000000000) (hnil : bs = [] → rv = .slice none 0 0) (hZ : Z < base) : BytesOf Z w rv bs := by
 obtain ⟨-, ⟨rfl, rfl⟩ | ⟨hne, k, o, c, rfl, hc, hk, hcell⟩⟩ := owns_handed h hl hnil
 ·exact ⟨hl, none, 0, rfl, Nat.le_refl _, fun h => absurd rfl h⟩
 ·exact ⟨hl, _, c, rfl, hc, fun _ => ⟨k, o, rfl, hk, by have := (World.ownsRow.lt h k rfl).1; omega, hcell⟩⟩
theorem decodes_any (v : Value) (bs : List UInt8) (w : World) (hb : BytesIn w v bs) (hl : bs.length ≤ 140737488351232) (hT : Tab w) (h0 : 0 < w.heap.size) :
 Calls Tryd.prog 6 #[v] w fun e w' => e = .returned (.bool true) ∧ Fr (fun _ => False) w w' := by
 obtain ⟨a, c, ev, hac⟩ : ∃ a c, v = .slice a bs.length c ∧ bs.length ≤ c := by obtain ⟨-, a, c, e, h, -⟩ := hb; exact ⟨a, c, e, h⟩
 subst ev
 have PK : Hd (∀ wx, Fr (fun _ => False) w wx → BytesIn wx (.slice a bs.length c) bs ∧ Tab wx ∧ 0 < wx.heap.size ∧ w.heap.size ≤ wx.heap.size) := fun wx f => ⟨hb.grow f, hT.fr f (fun h => h), Nat.lt_of_lt_of_le h0 f.size, f.size⟩
 clear hb hT h0
 have qn : ∀ z : Int, (z != z) = false := fun z => by simp
 have qe : ∀ z : Int, (z == z) = true := fun z => by simp
 obtain ⟨n, hn⟩ : ∃ n, n = bs.length := ⟨_, rfl⟩
 have HN : Hd (n = bs.length) := hn
 go_enter Tryd.func6, Tryd.ntmps6
 go_wp2_with fail
 refine (works_any w (PK.out w (Fr.refl _ w)).2.1 (PK.out w (Fr.refl _ w)).2.2.1).mono ?_
 rintro e w1 ⟨rfl, f1⟩
 go_wp2_with fail
 refine (wideBytes_any _ bs w1 (PK.out w1 f1).1 hl).mono ?_
 rintro e w2 ⟨xv, rfl, hx, f2⟩
 obtain ⟨g, rfl, hg1, hR⟩ := id hx
 have HX : Hd (WB w2 w1.heap.size (.slice (some ⟨g, 0, none⟩) n (n + 64)) bs) := by rw [hn]; exact hx
 have HG : Hd (w.heap.size ≤ g ∧ g < w2.heap.size) := ⟨by have := f1.size; omega, hR.lt⟩
 have F2 : Hd (Fr (fun _ => False) w w2) := f1.trans f2
 have HB1 : Hd (w1.heap.size ≤ g) := hg1
 clear hx hR f1 f2 hg1
 rw [← hn] at hl hac ⊢
 clear hn
 go_wp2_with fail
 refine (decode_wide _ bs w2 (HX.out.handed (by have := HN.out; omega)) (PK.out w2 F2.out).2.1 (PK.out w2 F2.out).2.2.1).mono ?_
 intro e w3 hr
 obtain ⟨E, O, G, fs, hfine, ⟨f3, fv, rfl, hkp⟩, hsame⟩ := said_same (by have := HN.out; omega) hr
 have HS : Hd (∀ u e2 u', DecRes u bs e2 u' → EndsD u E O G fs e2 u') := hsame
 have HFP : Hd (FineP fs) := hfine
 obtain ⟨fa, fc, rfl, -⟩ := hkp.fa
 have fx : Fr (fun _ => False) w3 (w3.alloc (.cells #[vI G, .slice fa fs.length fc] 26)) := Fr.alloc (Fr.refl _ w3) _
 have HA : Hd (FA (w3.alloc (.cells #[vI G, .slice fa fs.length fc] 26)) (.slice fa fs.length fc) fs) := hkp.fa.stay fx
 have QB : Hd ((w3.alloc (.cells #[vI G, .slice fa fs.length fc] 26)).heap[w3.heap.size]? = some (.cells #[vI G, .slice fa fs.length fc] 26)) := heap_new w3 _
 have F4 : Hd (Fr (fun _ => False) w (w3.alloc (.cells #[vI G, .slice fa fs.length fc] 26))) := (F2.out.trans f3).trans fx
 have HX4 : Hd (WB (w3.alloc (.cells #[vI G, .slice fa fs.length fc] 26)) w1.heap.size (.slice (some ⟨g, 0, none⟩) n (n + 64)) bs) := HX.out.fr (f3.trans fx) (fun _ _ h => h)
 have HG4 : Hd (w.heap.size ≤ g ∧ g < w3.heap.size) := ⟨HG.out.1, Nat.lt_of_lt_of_le HG.out.2 f3.size⟩
 clear hr hfine hsame f3 hkp fx F2 HX HG
 go_upto_region 4 with fail
 rw [show w3.alloc (.cells #[.int .i64 G, .slice fa fs.length fc] 26) = w3.alloc (.cells #[vI G, .slice fa fs.length fc] 26) from rfl]
 generalize w3.alloc (.cells #[vI G, .slice fa fs.length fc] 26) = w4 at *
 generalize w3.heap.size = Z at *
 go_wp2_with fail
 have hby := (PK.out w4 F4.out).1
 have hrd := rdecode_walk hby
 rw [← HN.out] at hrd
 refine hrd.mono ?_
 clear hby hrd
 intro e w5 hr
 obtain ⟨f5, fv2, rfl, hkp⟩ := HS.out _ _ _ hr
 obtain ⟨fb, fd, rfl, -⟩ := hkp.fa
 have fx : Fr (fun _ => False) w5 (w5.alloc (.cells #[vI G, .slice fb fs.length fd] 26)) := Fr.alloc (Fr.refl _ w5) _
 have f46 := f5.trans fx
 have HA6 : Hd (FA (w5.alloc (.cells #[vI G, .slice fb fs.length fd] 26)) (.slice fa fs.length fc) fs) := HA.out.stay f46
 have HD6 : Hd (FA (w5.alloc (.cells #[vI G, .slice fb fs.length fd] 26)) (.slice fb fs.length fd) fs) := hkp.fa.stay fx
 have QA6 : Hd ((w5.alloc (.cells #[vI G, .slice fb fs.length fd] 26)).heap[Z]? = some (.cells #[vI G, .slice fa fs.length fc] 26)) := (f46.block Z (heap_lt QB.out) (fun h => h)).trans QB.out
 have QD6 : Hd ((w5.alloc (.cells #[vI G, .slice fb fs.length fd] 26)).heap[w5.heap.size]? = some (.cells #[vI G, .slice fb fs.length fd] 26)) := heap_new w5 _
 have F6 : Hd (Fr (fun _ => False) w (w5.alloc (.cells #[vI G, .slice fb fs.length fd] 26))) := F4.out.trans f46
 have HX6 : Hd (WB (w5.alloc (.cells #[vI G, .slice fb fs.length fd] 26)) w1.heap.size (.slice (some ⟨g, 0, none⟩) n (n + 64)) bs) := HX4.out.fr f46 (fun _ _ h => h)
 have HZ6 : Hd (w.heap.size ≤ g ∧ g < Z ∧ Z < w5.heap.size) := ⟨HG4.out.1, HG4.out.2, Nat.lt_of_lt_of_le (heap_lt QB.out) f5.size⟩
 clear hr f5 hkp fx f46 HA QB F4 HX4 HG4 HS
 go_upto_region 5 with fail
 rw [show w5.alloc (.cells #[.int .i64 G, .slice fb fs.length fd] 26) = w5.alloc (.cells #[vI G, .slice fb fs.length fd] 26) from rfl]
 generalize w5.alloc (.cells #[vI G, .slice fb fs.length fd] 26) = w6 at *
 generalize w5.heap.size = Y at *
 have y0 : w6.cell? ⟨Z, 0, none⟩ = some (vI G) := by rw [cell_of QA6.out]; rfl
 have y1 : w6.cell? ⟨Z, 1, none⟩ = some (.slice fa fs.length fc) := by rw [cell_of QA6.out]; rfl
 have y2 : w6.cell? ⟨Y, 0, none⟩ = some (vI G) := by rw [cell_of QD6.out]; rfl
 have y3 : w6.cell? ⟨Y, 1, none⟩ = some (.slice fb fs.length fd) := by rw [cell_of QD6.out]; rfl
 go_wp2_with fail
 refine (eqProgram_same G fs _ _ w6 HA6.out HD6.out HFP.out).mono ?_
 rintro e w7 ⟨rfl, f7⟩
 have F7 : Hd (Fr (fun _ => False) w w7) := F6.out.trans f7
 have HX7 : Hd (WB w7 w1.heap.size (.slice (some ⟨g, 0, none⟩) n (n + 64)) bs) := HX6.out.fr f7 (fun _ _ h => h)
 have QA7 : Hd (w7.heap[Z]? = some (.cells #[vI G, .slice fa fs.length fc] 26)) := (f7.block Z (heap_lt QA6.out) (fun h => h)).trans QA6.out
 have QD7 : Hd (w7.heap[Y]? = some (.cells #[vI G, .slice fb fs.length fd] 26)) := (f7.block Y (heap_lt QD6.out) (fun h => h)).trans QD6.out
 clear y0 y1 y2 y3 f7 HA6 HD6 HFP F6 HX6 QA6 QD6
 go_wp2_with fail
 refine (eqBytes_same _ _ bs w7 (HX7.out.bytes (by have := HN.out; omega)) (by have := (PK.out w7 F7.out).1; rw [← HN.out] at this; exact this)).mono ?_
 rintro e w8 ⟨rfl, f8⟩
 have F8 : Hd (Fr (fun _ => False) w w8) := F7.out.trans f8
 have HX8 : Hd (WB w8 w1.heap.size (.slice (some ⟨g, 0, none⟩) n (n + 64)) bs) := HX7.out.fr f8 (fun _ _ h => h)
 have QA8 : Hd (w8.heap[Z]? = some (.cells #[vI G, .slice fa fs.length fc] 26)) := (f8.block Z (heap_lt QA7.out) (fun h => h)).trans QA7.out
 have QD8 : Hd (w8.heap[Y]? = some (.cells #[vI G, .slice fb fs.length fd] 26)) := (f8.block Y (heap_lt QD7.out) (fun h => h)).trans QD7.out
 clear f8 F7 HX7 QA7 QD7
 go_wp2_with fail
 refine (spareBytes_any _ bs _ w8 HX8.out (by have := HN.out; omega)).mono ?_
 rintro e w8' ⟨rfl, rfl⟩
 have hF8 : Fr (fun j => j = g) w8' w8' := Fr.refl _ _
 clear hac
 go_wp2_with fail
 go_loopw [12] (fun v wr => ∃ (k : Nat), v = .int .i64 k ∧ k ≤ n + 12 ∧ Hd (∃ l, l.length = n ∧ WB wr w1.heap.size (.slice (some ⟨g, 0, none⟩) n (n + 64)) l) ∧ Hd (Fr (fun j => j = g) w8' wr)) (fun v _ => match v with | .int _ q => n + 12 - q.toNat | _ => 0)
 case atStart => exact ⟨9, rfl, by omega, ⟨bs, HN.out.symm, HX8.out⟩, hF8⟩
 case round =>
  clear HX8 hF8
  obtain ⟨k, rfl, hk, HX, HF⟩ := hrel
  by_cases hlt : k < n
  ·have hk0 : (0 : Int) ≤ k := by omega
   have hk1 : (k : Int) < n := by omega
   obtain ⟨l, hll, hW⟩ := HX.out
   obtain ⟨-, -, hR⟩ := hW.at
   have p0 := hR.cell (i := k) (o := 0) (by omega) (by omega)
   rw [Nat.mul_one, Nat.add_zero] at p0
   have z0 := hR.frozen k
   have e0 : wideB l k = ((l.getD k 0).toNat : Int) := if_pos (by omega)
   rw [e0] at p0
   generalize l.getD k 0 = x at p0
   have p1 : wr.cell? ⟨g, k, none⟩ = some (.int .u8 (x.toNat : Int)) := p0
   have HW : Hd (WB wr w1.heap.size (.slice (some ⟨g, 0, none⟩) n (n + 64)) l) := hW
   clear p0 e0 hR hW HX
   go_wp2_with fail
   obtain ⟨y, hy⟩ : ∃ y : UInt8, bits BinOp.xor IntKind.u8 (x.toNat : Int) 1 = (y.toNat : Int) := ⟨_, xor_byte x⟩
   rw [hy]
   refine ⟨⟨k + 3, by simp, by omega, ⟨l.set k y, ?_, ?_⟩, ?_⟩, by simp; omega⟩
   ·rw [List.length_set, hll]
   ·exact HW.out.set hlt y
   ·exact Fr.then HF.out (setCell_fr wr g k _) (fun j _ e => e)
  ·obtain ⟨l, hll, hW⟩ := HX.out
   have HW : Hd (WB wr w1.heap.size (.slice (some ⟨g, 0, none⟩) n (n + 64)) l) := hW
   have HL : Hd (l.length = n) := hll
   have hfw : Fr (fun _ => False) w wr := Fr.then F8.out HF.out (fun j hj e => by have := HZ6.out; omega)
   have F9 : Hd (Fr (fun _ => False) w wr) := hfw
   have QA9 : Hd (wr.heap[Z]? = some (.cells #[vI G, .slice fa fs.length fc] 26)) := (HF.out.block Z (heap_lt QA8.out) (fun h => by have := HZ6.out; omega)).trans QA8.out
   have QD9 : Hd (wr.heap[Y]? = some (.cells #[vI G, .slice fb fs.length fd] 26)) := (HF.out.block Y (heap_lt QD8.out) (fun h => by have := HZ6.out; omega)).trans QD8.out
   have HZ : Hd (w.heap.size ≤ Z ∧ Z < Y) := ⟨by have := HZ6.out; omega, by have := HZ6.out; omega⟩
   clear hll hW hfw HX HF F8 QA8 QD8 HZ6
   have hb := HW.out.bytes (by have := HL.out; omega)
   go_wp2_with fail
   refine (copyBytes_wide _ l wr hb (by have := HL.out; omega)).mono ?_
   clear hb
   rintro e w9 ⟨f9, yv, rfl, hown, hnil⟩
   have HY : Hd (BytesOf Z w9 yv l) := owns_apart hown (by have := HL.out; omega) hnil (heap_lt QA9.out)
   have F10 : Hd (Fr (fun _ => False) w w9) := F9.out.trans f9
   have HX : Hd (WB w9 w1.heap.size (.slice (some ⟨g, 0, none⟩) n (n + 64)) l) := HW.out.fr f9 (fun _ _ h => h)
   have QA10 : Hd (w9.heap[Z]? = some (.cells #[vI G, .slice fa fs.length fc] 26)) := (f9.block Z (heap_lt QA9.out) (fun h => h)).trans QA9.out
   have QD10 : Hd (w9.heap[Y]? = some (.cells #[vI G, .slice fb fs.length fd] 26)) := (f9.block Y (heap_lt QD9.out) (fun h => h)).trans QD9.out
   clear f9 hown hnil HW F9 QA9 QD9
   obtain ⟨ya, yc, rfl⟩ : ∃ a c, yv = .slice a l.length c := by obtain ⟨-, a, c, e, -⟩ := HY.out.plain; exact ⟨a, c, e⟩
   have hdw := decode_wide _ l w9 (HX.out.handed (by have := HL.out; omega)) (PK.out w9 F10.out).2.1 (PK.out w9 F10.out).2.2.1
   go_wp2_with fail
   refine hdw.mono ?_
   clear hdw HX
   intro e w10 hr
   obtain ⟨E2, O2, G2, fs2, hfine, ⟨f10, fv, rfl, hkp⟩, hsame⟩ := said_same (by have := HL.out; omega) hr
   have HS : Hd (∀ u e2 u', DecRes u l e2 u' → EndsD u E2 O2 G2 fs2 e2 u') := hsame
   have HFP : Hd (FineP fs2) := hfine
   obtain ⟨fa2, fc2, rfl, -⟩ := hkp.fa
   have HK : Hd (Kp w9 w10 (.slice fa2 fs2.length fc2) fs2) := hkp
   have F11 : Hd (Fr (fun _ => False) w w10) := F10.out.trans f10
   have HY10 : Hd (BytesOf Z w10 (.slice ya l.length yc) l) := HY.out.fr f10 (fun _ h => h.elim)
   have QA : Hd (w10.heap[Z]? = some (.cells #[vI G, .slice fa fs.length fc] 26)) := (f10.block Z (heap_lt QA10.out) (fun h => h)).trans QA10.out
   have QD : Hd (w10.heap[Y]? = some (.cells #[vI G, .slice fb fs.length fd] 26)) := (f10.block Y (heap_lt QD10.out) (fun h => h)).trans QD10.out
   have HZ9 : Hd (w.heap.size ≤ Z ∧ Z < Y ∧ Y < w9.heap.size) := ⟨HZ.out.1, HZ.out.2, heap_lt QD10.out⟩
   clear hr hfine hsame hkp f10 F10 HY QA10 QD10 HZ
   have b0 : w10.cell? ⟨Z, 0, none⟩ = some (vI G) := by rw [cell_of QA.out]; rfl
   have b1 : w10.cell? ⟨Z, 1, none⟩ = some (.slice fa fs.length fc) := by rw [cell_of QA.out]; rfl
   have z0 := frozen_of QA.out 0
   have z1 := frozen_of QA.out 1
   go_upto_region 14 with fail
   change Code.wp _ _ _ _ (st2 w10 Z (vI G2) (.slice fa2 fs2.length fc2))
   have fz := st2_fr w10 Z (vI G2) (.slice fa2 fs2.length fc2)
   have RA : Hd ((st2 w10 Z (vI G2) (.slice fa2 fs2.length fc2)).heap[Z]? = some (.cells #[vI G2, .slice fa2 fs2.length fc2] 26)) := st2_of QA.out _ _
   have RD : Hd ((st2 w10 Z (vI G2) (.slice fa2 fs2.length fc2)).heap[Y]? = some (.cells #[vI G, .slice fb fs.length fd] 26)) := (fz.block Y (heap_lt QD.out) (fun h => by have := HZ9.out; omega)).trans QD.out
   have F12 : Hd (Fr (fun _ => False) w (st2 w10 Z (vI G2) (.slice fa2 fs2.length fc2))) := Fr.then F11.out fz (fun j hj e => by have := HZ9.out; omega)
   have HY11 : Hd (BytesIn (st2 w10 Z (vI G2) (.slice fa2 fs2.length fc2)) (.slice ya l.length yc) l) := (HY10.out.fr fz (fun _ h _ => h)).plain
   have HFZ : Hd (Fr (fun j => j = Z) w10 (st2 w10 Z (vI G2) (.slice fa2 fs2.length fc2))) := fz
   generalize st2 w10 Z (vI G2) (.slice fa2 fs2.length fc2) = w11 at *
   clear b0 b1 z0 z1 fz QA QD F11 HY10
   go_wp2_with fail
   refine (rdecode_walk HY11.out).mono ?_
   intro e w12 hr
   obtain ⟨f12, fv3, rfl, hkp3⟩ := HS.out _ _ _ hr
   obtain ⟨fa3, fc3, rfl, -⟩ := hkp3.fa
   have HK3 : Hd (Kp w11 w12 (.slice fa3 fs2.length fc3) fs2) := hkp3
   have F13 : Hd (Fr (fun _ => False) w w12) := F12.out.trans f12
   have QA : Hd (w12.heap[Z]? = some (.cells #[vI G2, .slice fa2 fs2.length fc2] 26)) := (f12.block Z (heap_lt RA.out) (fun h => h)).trans RA.out
   have QD : Hd (w12.heap[Y]? = some (.cells #[vI G, .slice fb fs.length fd] 26)) := (f12.block Y (heap_lt RD.out) (fun h => h)).trans RD.out
   have HFZ2 : Hd (Fr (fun j => j = Z) w10 w12) := HFZ.out.trans (f12.mono (fun _ _ h => h.elim))
   have HZ11 : Hd (Y < w11.heap.size) := heap_lt RD.out
   clear hr f12 hkp3 RA RD F12 HY11 HFZ HS
   have b0 : w12.cell? ⟨Y, 0, none⟩ = some (vI G) := by rw [cell_of QD.out]; rfl
   have b1 : w12.cell? ⟨Y, 1, none⟩ = some (.slice fb fs.length fd) := by rw [cell_of QD.out]; rfl
   have z0 := frozen_of QD.out 0
   have z1 := frozen_of QD.out 1
   go_upto_region 15 with fail
   change Code.wp _ _ _ _ (st2 w12 Y (vI G2) (.slice fa3 fs2.length fc3))
   have fz := st2_fr w12 Y (vI G2) (.slice fa3 fs2.length fc3)
   have RA : Hd ((st2 w12 Y (vI G2) (.slice fa3 fs2.length fc3)).heap[Y]? = some (.cells #[vI G2, .slice fa3 fs2.length fc3] 26)) := st2_of QD.out _ _
   have RD : Hd ((st2 w12 Y (vI G2) (.slice fa3 fs2.length fc3)).heap[Z]? = some (.cells #[vI G2, .slice fa2 fs2.length fc2] 26)) := (fz.block Z (heap_lt QA.out) (fun h => by have := HZ9.out; omega)).trans QA.out
   have F14 : Hd (Fr (fun _ => False) w (st2 w12 Y (vI G2) (.slice fa3 fs2.length fc3))) := Fr.then F13.out fz (fun j hj e => by have := HZ9.out; omega)
   have H1 : Hd (FA (st2 w12 Y (vI G2) (.slice fa3 fs2.length fc3)) (.slice fa2 fs2.length fc2) fs2) := HK.out (fun j => j = Z ∨ j = Y) _ ((HFZ2.out.mono (fun j _ h => Or.inl h)).trans (fz.mono (fun j _ h => Or.inr h))) (fun j h => by have := HZ9.out; omega)
   have H2 : Hd (FA (st2 w12 Y (vI G2) (.slice fa3 fs2.length fc3)) (.slice fa3 fs2.length fc3) fs2) := HK3.out (fun j => j = Y) _ fz (fun j h => by have := HZ11.out; omega)
   generalize st2 w12 Y (vI G2) (.slice fa3 fs2.length fc3) = w13 at *
   have y0 : w13.cell? ⟨Z, 0, none⟩ = some (vI G2) := by rw [cell_of RD.out]; rfl
   have y1 : w13.cell? ⟨Z, 1, none⟩ = some (.slice fa2 fs2.length fc2) := by rw [cell_of RD.out]; rfl
   have y2 : w13.cell? ⟨Y, 0, none⟩ = some (vI G2) := by rw [cell_of RA.out]; rfl
   have y3 : w13.cell? ⟨Y, 1, none⟩ = some (.slice fa3 fs2.length fc3) := by rw [cell_of RA.out]; rfl
   clear b0 b1 z0 z1 fz QA QD F13 HK HK3 HFZ2
   go_wp2_with fail
   refine (eqProgram_same G2 fs2 _ _ w13 H1.out H2.out HFP.out).mono ?_
   rintro e w14 ⟨rfl, f14⟩
   have F15 : Hd (Fr (fun _ => False) w w14) := F14.out.trans f14
   clear y0 y1 y2 y3 f14 H1 H2 F14
   go_wp2_with fail
   go_ret
   exact ⟨rfl, F15.out⟩
end Go.Proofs.YtingenonbkencaaDoor
