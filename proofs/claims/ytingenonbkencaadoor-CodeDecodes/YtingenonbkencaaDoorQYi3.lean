import Derived.Test.YtingenonbkencaaDoorQYiJ
import Derived.Test.YtingenonbkencaaDoorQK9J
set_option linter.unusedVariables false
set_option linter.unusedSimpArgs false
namespace Go.Proofs.YtingenonbkencaaDoor
open Go.RowKit (wrap32 wrap64)
set_option maxRecDepth 100000
set_option maxHeartbeats 4000000
def st3 (w : World) (g o : Nat) (a b c : Value) : World := ((w.setCell ⟨g, o, none⟩ a).setCell ⟨g, o + 1, none⟩ b).setCell ⟨g, o + 2, none⟩ c
theorem st3_of0 {w : World} {g : Nat} {p q r s u v x : Value} {t : TypeId} (k : w.heap[g]? = some (.cells #[p, q, r, s, u, v, x] t)) (a b c : Value) : (st3 w g 0 a b c).heap[g]? = some (.cells #[a, b, c, s, u, v, x] t) := set_of (set_of (set_of k 0 a) 1 b) 2 c
theorem st3_of3 {w : World} {g : Nat} {p q r s u v x : Value} {t : TypeId} (k : w.heap[g]? = some (.cells #[p, q, r, s, u, v, x] t)) (a b c : Value) : (st3 w g 3 a b c).heap[g]? = some (.cells #[p, q, r, a, b, c, x] t) := set_of (set_of (set_of k 3 a) 4 b) 5 c
def st7 (w : World) (g : Nat) (a b c d e f h : Value) : World := ((((((w.setCell ⟨g, 0, none⟩ a).setCell ⟨g, 1, none⟩ b).setCell ⟨g, 2, none⟩ c).setCell ⟨g, 3, none⟩ d).setCell ⟨g, 4, none⟩ e).setCell ⟨g, 5, none⟩ f).setCell ⟨g, 6, none⟩ h
theorem st7_st3 (w : World) (g : Nat) (a b c d e f h : Value) : st7 w g a b c d e f h = (st3 (st3 w g 0 a b c) g 3 d e f).setCell ⟨g, 6, none⟩ h := rfl
theorem st7_of {w : World} {g : Nat} {p q r s u v x : Value} {t : TypeId} (k : w.heap[g]? = some (.cells #[p, q, r, s, u, v, x] t)) (a b c d e f h : Value) : (st7 w g a b c d e f h).heap[g]? = some (.cells #[a, b, c, d, e, f, h] t) := by
 rw [st7_st3]
 exact set_of (st3_of3 (st3_of0 k a b c) d e f) 6 h
theorem st3_fr (w : World) (g o : Nat) (a b c : Value) : Fr (fun k => k = g) w (st3 w g o a b c) := ((setCell_fr w g o a).trans (setCell_fr _ g (o + 1) b)).trans (setCell_fr _ g (o + 2) c)
theorem st7_fr (w : World) (g : Nat) (a b c d e f h : Value) : Fr (fun k => k = g) w (st7 w g a b c d e f h) := by
 rw [st7_st3]
 exact ((st3_fr w g 0 a b c).trans (st3_fr _ g 3 d e f)).trans (setCell_fr _ g 6 h)
theorem instr_open {r rb : Nat} {a : Option Addr} {c : Nat} {bs : List UInt8} {G : Int} {fa : Option Addr} {fc : Nat} {hs : List HT} {w : World} {s : DS} (h : DR r rb a c bs G (.slice fa hs.length fc) w s) (hlow : LowD s) (HI : HIn r rb w fa hs) (P R V : Int) (fca : Option Addr) (fcl fcc : Nat) (n : Int) (last : Bool) (hE : (thingD bs 1 s).2.E = 0)
 (hcall : ∀ k (hk : k < (partsN (opD bs last s).1.op.toNat).toList.length), ((partsN (opD bs last s).1.op.toNat).toList[k] = 65 ∨ (partsN (opD bs last s).1.op.toNat).toList[k] = 66) → (((partsN (opD bs last s).1.op.toNat).toList.take k).foldl (letS bs G hs R V n) (opD bs last s)).2.E = 0 → 0 ≤ (((partsN (opD bs last s).1.op.toNat).toList.take k).foldl (letS bs G hs R V n) (opD bs last s)).1.n ∧ (((partsN (opD bs last s).1.op.toNat).toList.take k).foldl (letS bs G hs R V n) (opD bs last s)).1.n < hs.length)
 (hlet : ∀ k (hk : k < (partsN (opD bs last s).1.op.toNat).toList.length), (partsN (opD bs last s).1.op.toNat).toList[k] ∈ ([82, 83, 84, 65, 66, 86, 99, 102, 103, 70, 74, 105] : List UInt8)) :
 Calls Tryd.prog 46 #[.pointer (some ⟨r, 0, none⟩), .agg #[vI P, vI R, vI V, .slice fca fcl fcc], vI n, .bool last] w fun e w' => ∃ av rv, e = .returned (.agg #[vI (instrD bs G hs R V n last s).1.op, vI (instrD bs G hs R V n last s).1.r, vI (instrD bs G hs R V n last s).1.s, vI (instrD bs G hs R V n last s).1.t, vI (instrD bs G hs R V n last s).1.n, av, rv]) ∧ IOwn w' w.heap.size av (instrD bs G hs R V n last s).1.args ∧ IOwn w' w.heap.size rv (instrD bs G hs R V n last s).1.rets ∧ DR r rb a c bs G (.slice fa hs.length fc) w' (instrD bs G hs R V n last s).2 ∧ Fr (fun j => j = r ∨ j = rb) w w' := by
 have hfv : ∀ z, Value.slice fa hs.length fc ≠ .int .u8 z := fun z e => by cases e
 obtain ⟨W, HW⟩ : ∃ W, W = (w.alloc (.cells #[vI P, vI R, vI V, .slice fca fcl fcc] 67)).alloc (.cells #[vI 0, vI 0, vI 0, vI 0, vI 0, .slice none 0 0, .slice none 0 0] 71) := ⟨_, rfl⟩
 have hf1 : Fr (fun _ => False) w W := by rw [HW]; exact Fr.alloc (Fr.alloc (Fr.refl _ _) _) _
 have hxa : W.heap[w.heap.size]? = some (.cells #[vI P, vI R, vI V, .slice fca fcl fcc] 67) := by
  rw [HW, Go.RowKit.Below.heap_alloc _ _ _ (by simp)]; exact heap_new w _
 have hxb : W.heap[w.heap.size + 1]? = some (.cells #[vI 0, vI 0, vI 0, vI 0, vI 0, .slice none 0 0, .slice none 0 0] 71) := by
  rw [HW, show w.heap.size + 1 = (w.alloc (.cells #[vI P, vI R, vI V, .slice fca fcl fcc] 67)).heap.size by simp]; exact heap_new _ _
 have h1 := h.stay hf1
 have hr : r < w.heap.size := heap_lt h.rd
 have hrb : rb < w.heap.size := heap_lt h.rw
 have HHI : Hd (HIn r rb w fa hs) := HI
 have HF1 : Hd (Fr (fun j => j = r ∨ j = rb) w W) := hf1.mono (fun _ _ e => e.elim)
 obtain ⟨H, hH⟩ : ∃ H, H = w.heap.size := ⟨_, rfl⟩
 have HH : Hd (H = w.heap.size) := hH
 have HSW : Hd (W.heap.size = H + 2) := by unfold Hd; rw [hH, HW]; simp
 rw [← hH] at hxa hxb hr hrb
 have HBA : Hd (∀ k o, a = some ⟨k, o, none⟩ → bs ≠ [] → k < H) := fun k o e e2 => by have := h.below k o e e2; omega
 have HXA : Hd (∀ wx, Fr (fun j => j = r ∨ j = rb) W wx → wx.heap[H]? = some (.cells #[vI P, vI R, vI V, .slice fca fcl fcc] 67) ∧ wx.heap[H + 1]? = some (.cells #[vI 0, vI 0, vI 0, vI 0, vI 0, .slice none 0 0, .slice none 0 0] 71)) := fun wx f => ⟨(f.block H (heap_lt hxa) (by omega)).trans hxa, (f.block (H + 1) (heap_lt hxb) (by omega)).trans hxb⟩
 -- the operation's byte
 have HT : Hd (opD bs last s = (⟨(thingD bs 1 s).1, 0, 0, 0, 0, [], []⟩, { (thingD bs 1 s).2 with L := opL (thingD bs 1 s).1 (thingD bs 1 s).2.L, E := opE (thingD bs 1 s).1 true last (thingD bs 1 s).2.L 0, o := toldO true (opE (thingD bs 1 s).1 true last (thingD bs 1 s).2.L 0) (thingD bs 1 s).2.q (thingD bs 1 s).2.o })) := by unfold Hd opD; rw [if_pos hE]
 have HLT : Hd (LowD (thingD bs 1 s).2) := hlow.le (thingD_le bs 1 s)
 have hth := thing_D h1 hfv 1 (by omega) (by omega)
 have HCL : Hd _ := hcall
 have HLE : Hd _ := hlet
 have HID : Hd (instrD bs G hs R V n last s = (partsN (opD bs last s).1.op.toNat).toList.foldl (letS bs G hs R V n) (opD bs last s)) := rfl
 generalize hOP : opD bs last s = O at HT HCL HLE HID
 generalize thingD bs 1 s = T at *
 obtain ⟨op, t1⟩ := T
 simp only at hE HT HLT
 clear h h1 hf1 hxa hxb hcall hlet HI hlow hOP
 go_enter Tryd.func46, Tryd.ntmps46
 go_upto_region 1 with fail
 rw [← HW, ← hH]
 clear HW hH
 go_wp2_with fail
 refine hth.mono ?_
 rintro e w2 ⟨rfl, h2, f2⟩
 obtain ⟨X, hX⟩ : ∃ X, X = w2.heap.size := ⟨_, rfl⟩
 have hHX : H + 2 ≤ X := by have := f2.size; have := HSW.out; omega
 obtain ⟨W3, hW3⟩ : ∃ W3, W3 = w2.alloc (.cells #[vI op, vI 0, vI 0, vI 0, vI 0, .slice none 0 0, .slice none 0 0] 71) := ⟨_, rfl⟩
 have f3 : Fr (fun _ => False) w2 W3 := by rw [hW3]; exact Fr.alloc (Fr.refl _ _) _
 have HX3 : Hd (XB W3 X ⟨op, 0, 0, 0, 0, [], []⟩ (.slice none 0 0) (.slice none 0 0)) := by unfold Hd XB; rw [hW3, hX]; exact heap_new w2 _
 have HG3 : Hd (DR r rb a c bs G (.slice fa hs.length fc) W3 t1) := h2.stay f3
 have HF3 : Hd (Fr (fun j => j = r ∨ j = rb) W W3) := f2.trans (f3.mono (fun _ _ e => e.elim))
 have HW3 : Hd (W3 = w2.alloc (.cells #[vI op, vI 0, vI 0, vI 0, vI 0, .slice none 0 0, .slice none 0 0] 71)) := hW3
 have HXS : Hd (X = w2.heap.size) := hX
 have hne := h2.ne
 have hop := ropen_any r rb _ G _ W3 _ _ _ _ _ HG3.out.rd HG3.out.rw
 have hb : (t1.E == 0) = true := by simpa using hE
 rw [hb] at hop
 clear hth h2 f2 f3 hW3 hX
 go_upto_region 2 with fail
 rw [← HW3.out, ← HXS.out]
 clear HW3 HXS
 go_wp2_with fail
 refine hop.mono ?_
 rintro e w4 ⟨rfl, rfl⟩
 clear hop
 -- the operation is asked
 have hL := HLT.out
 have hk := HG3.out.rw
 rw [hE] at hk
 have HCO : Hd (∀ wx, RW rb G (.slice fa hs.length fc) wx t1.L 0 → Calls Tryd.prog 69 #[.pointer (some ⟨rb, 0, none⟩), .agg #[vI op, vI 0, vI 0, vI 0, vI 0, .slice none 0 0, .slice none 0 0], .bool last] wx fun e w' => e = .returned (.tuple #[]) ∧ RW rb G (.slice fa hs.length fc) w' (opL op t1.L) (opE op true last t1.L 0) ∧ Fr (fun k => k = rb) wx w') := fun wx hx => by
  have := rop rb G (.slice fa hs.length fc) wx t1.L 0 hx hL.1 (by have := hL.2 hE; omega) op 0 0 0 0 none none 0 0 0 0 last
  rw [plainB_zero] at this
  exact this
 have HK : Hd (RW rb G (.slice fa hs.length fc) w4 t1.L 0) := hk
 obtain ⟨x0, x1, x2, x3, x4, x5, x6, -, hXlt⟩ := HX3.out.cells
 simp only at x0 x1 x2 x3 x4
 have d0 := HG3.out.rd.cells.1
 clear hL hk hb
 go_upto_region 4 with fail
 refine wp_region_still_tail 6 mixed (by kernel_rfl) ?_
 simp only [List.take_succ_cons, List.take_zero, List.drop_succ_cons, List.drop_zero]
 repeat still_step
 refine wpStill_nil ?_
 go_wp2_with fail
 refine (HCO.out w4.drew (HK.out.fr (Fr.drew (Fr.refl (fun _ => False) w4)) (fun e => e))).mono ?_
 rintro e w5 ⟨rfl, k5, f5⟩
 have fd : Fr (fun k => k = rb) w4 w5 := (Fr.drew (Fr.refl (fun k => k = rb) w4)).trans f5
 have h5 : RD r rb (.slice a bs.length c) w5 t1.p t1.q t1.o := HG3.out.rd.fr fd (fun e => hne e.symm)
 have hto := rtold_any r rb _ G _ w5 _ _ _ _ _ h5 k5 true t1.q hne
 have HX5 : Hd (XB w5 X ⟨op, 0, 0, 0, 0, [], []⟩ (.slice none 0 0) (.slice none 0 0)) := HX3.out.fr fd (by omega)
 have HF5 : Hd (Fr (fun j => j = r ∨ j = rb) W w5) := HF3.out.trans (fd.mono (fun _ _ e => Or.inr e))
 have HG5 : Hd (Fr (fun j => j = r ∨ j = rb) w4 w5) := fd.mono (fun _ _ e => Or.inr e)
 have e0 := h5.cells.1
 have e3 := h5.cells.2.2.2.1
 clear k5 f5 fd h5 x0 x1 x2 x3 x4 x5 x6 d0 HCO HK hXlt
 go_wp2_with fail
 refine hto.mono ?_
 rintro e w6 ⟨rfl, h6, k6, f6⟩
 obtain ⟨s2, hs2⟩ : ∃ s2 : DS, s2 = { t1 with L := opL op t1.L, E := opE op true last t1.L 0, o := toldO true (opE op true last t1.L 0) t1.q t1.o } := ⟨_, rfl⟩
 have HG6 : Hd (DR r rb a c bs G (.slice fa hs.length fc) w6 s2) := by unfold Hd; rw [hs2]; exact ⟨h6, k6, HG3.out.bytes' hfv (HG5.out.trans (f6.mono (fun _ _ e => Or.inl e))), hne, HG3.out.le⟩
 have HO2 : Hd (O = (⟨op, 0, 0, 0, 0, [], []⟩, s2)) := by unfold Hd; rw [hs2]; exact HT.out
 have HX6 : Hd (XB w6 X ⟨op, 0, 0, 0, 0, [], []⟩ (.slice none 0 0) (.slice none 0 0)) := HX5.out.fr f6 (by omega)
 have HF6 : Hd (Fr (fun j => j = r ∨ j = rb) W w6) := HF5.out.trans (f6.mono (fun _ _ e => Or.inl e))
 have y0 := HX6.out.cells.1
 simp only at y0
 have hpa := rparts op w6
 have HB : Hd (partsB op = ⟨(partsN op.toNat).toList.toArray⟩) := rfl
 have h3 : (partsN op.toNat).toList.length ≤ 3 := by simpa using partsN_size op.toNat
 rw [show O.1.op = op by rw [HO2.out]] at HCL HLE HID
 clear hto h6 k6 f6 hs2 HX5 HF5 HG5 HG3 HX3 HF3 HT e0 e3 hE HLT
 generalize (partsN op.toNat).toList = l at *
 rw [HB.out] at hpa
 go_wp2_with fail
 refine hpa.mono ?_
 rintro e w7 ⟨rfl, f7⟩
 have HG7 : Hd (DR r rb a c bs G (.slice fa hs.length fc) w7 s2) := HG6.out.stay f7
 have HX7 : Hd (XB w7 X ⟨op, 0, 0, 0, 0, [], []⟩ (.slice none 0 0) (.slice none 0 0)) := HX6.out.fr f7 (fun e => e)
 have HF7 : Hd (Fr (fun j => j = r ∨ j = rb) W w7) := HF6.out.trans (f7.mono (fun _ _ e => e.elim))
 clear hpa f7 HG6 HX6 HF6 y0 HB
 go_wp2_with fail
 go_loopw [12] (fun i wr => ∃ (k : Nat) (x : PI) (t : DS) (av rv : Value), i = .int .i64 k ∧ k ≤ l.length ∧ Hd (DR r rb a c bs G (.slice fa hs.length fc) wr t) ∧ Hd (XB wr X x av rv) ∧ Hd (IOwn wr (X + 1) av x.args) ∧ Hd (IOwn wr (X + 1) rv x.rets) ∧ Hd ((l.take k).foldl (letS bs G hs R V n) O = (x, t)) ∧ Hd (Fr (fun j => j = r ∨ j = rb) W wr)) (fun i _ => match i with | .int _ q => l.length - q.toNat | _ => 0)
 case atStart => exact ⟨0, ⟨op, 0, 0, 0, 0, [], []⟩, s2, _, _, rfl, Nat.zero_le _, HG7, HX7, World.ownsRow_nil _ _ _ _, World.ownsRow_nil _ _ _ _, HO2, HF7⟩
 case round =>
  clear HG7 HX7 HF7
  obtain ⟨k, x, t, av, rv, rfl, hk, HT, HX, HA, HR, HV, HF⟩ := hrel
  obtain ⟨aa, la, ca, rfl⟩ : ∃ aa la ca, av = .slice aa la ca := by obtain ⟨q1, q2, q3, -⟩ := HA.out.ia; exact ⟨q1, _, q2, q3⟩
  obtain ⟨ra, lr, cr, rfl⟩ : ∃ ra lr cr, rv = .slice ra lr cr := by obtain ⟨q1, q2, q3, -⟩ := HR.out.ia; exact ⟨q1, _, q2, q3⟩
  have hop := ropen_any r rb _ G _ wr _ _ _ _ _ HT.out.rd HT.out.rw
  obtain ⟨x0, x1, x2, x3, x4, x5, x6, hz, hXlt⟩ := HX.out.cells
  by_cases hlt : k < l.length
  rotate_left
  ·have hkl : k = l.length := by omega
   clear hop
   have HR2 : Hd (instrD bs G hs R V n last s = (x, t)) := by unfold Hd; rw [HID.out, foldS_stop O (k := k) (by rw [HV.out]; exact Or.inl hkl), HV.out]
   obtain ⟨-, gb⟩ := HXA.out wr HF.out
   have b0 : wr.cell? ⟨H + 1, 0, none⟩ = some (vI 0) := by rw [cell_of gb]; rfl
   have b1 : wr.cell? ⟨H + 1, 1, none⟩ = some (vI 0) := by rw [cell_of gb]; rfl
   have b2 : wr.cell? ⟨H + 1, 2, none⟩ = some (vI 0) := by rw [cell_of gb]; rfl
   have b3 : wr.cell? ⟨H + 1, 3, none⟩ = some (vI 0) := by rw [cell_of gb]; rfl
   have b4 : wr.cell? ⟨H + 1, 4, none⟩ = some (vI 0) := by rw [cell_of gb]; rfl
   have b5 : wr.cell? ⟨H + 1, 5, none⟩ = some (.slice none 0 0) := by rw [cell_of gb]; rfl
   have b6 : wr.cell? ⟨H + 1, 6, none⟩ = some (.slice none 0 0) := by rw [cell_of gb]; rfl
   have z0 := frozen_of gb 0
   have z1 := frozen_of gb 1
   have z2 := frozen_of gb 2
   have z3 := frozen_of gb 3
   have z4 := frozen_of gb 4
   have z5 := frozen_of gb 5
   have z6 := frozen_of gb 6
   have fz := st7_fr wr (H + 1) (vI x.op) (vI x.r) (vI x.s) (vI x.t) (vI x.n) (.slice aa la ca) (.slice ra lr cr)
   have HXZ : Hd ((st7 wr (H + 1) (vI x.op) (vI x.r) (vI x.s) (vI x.t) (vI x.n) (.slice aa la ca) (.slice ra lr cr)).heap[H + 1]? = some (.cells #[vI x.op, vI x.r, vI x.s, vI x.t, vI x.n, .slice aa la ca, .slice ra lr cr] 71)) := st7_of gb _ _ _ _ _ _ _
   have HGZ : Hd (DR r rb a c bs G (.slice fa hs.length fc) (st7 wr (H + 1) (vI x.op) (vI x.r) (vI x.s) (vI x.t) (vI x.n) (.slice aa la ca) (.slice ra lr cr)) t) := HT.out.apart fz (by omega) (by omega) (fun k o e e2 => by have := HBA.out k o e e2; omega)
   have HAZ : Hd (IOwn (st7 wr (H + 1) (vI x.op) (vI x.r) (vI x.s) (vI x.t) (vI x.n) (.slice aa la ca) (.slice ra lr cr)) w.heap.size (.slice aa la ca) x.args) := (HA.out.fr fz (fun j hj e => by have := (HA.out.ge j hj).1; omega)).mono (by have := HH.out; omega)
   have HRZ : Hd (IOwn (st7 wr (H + 1) (vI x.op) (vI x.r) (vI x.s) (vI x.t) (vI x.n) (.slice aa la ca) (.slice ra lr cr)) w.heap.size (.slice ra lr cr) x.rets) := (HR.out.fr fz (fun j hj e => by have := (HR.out.ge j hj).1; omega)).mono (by have := HH.out; omega)
   have HFZ : Hd (Fr (fun j => j = r ∨ j = rb) w (st7 wr (H + 1) (vI x.op) (vI x.r) (vI x.s) (vI x.t) (vI x.n) (.slice aa la ca) (.slice ra lr cr))) := Fr.then (HF1.out.trans HF.out) fz (fun j hj e => by have := HH.out; omega)
   clear fz gb HT HX HA HR HF HV hz
   go_wp2_with fail
   change bodyPost _ _ _ _ _ (st7 wr (H + 1) (vI x.op) (vI x.r) (vI x.s) (vI x.t) (vI x.n) (.slice aa la ca) (.slice ra lr cr))
   generalize st7 wr (H + 1) (vI x.op) (vI x.r) (vI x.s) (vI x.t) (vI x.n) (.slice aa la ca) (.slice ra lr cr) = wz at *
   have e0 : wz.cell? ⟨H + 1, 0, none⟩ = some (vI x.op) := by rw [cell_of HXZ.out]; rfl
   have e1 : wz.cell? ⟨H + 1, 1, none⟩ = some (vI x.r) := by rw [cell_of HXZ.out]; rfl
   have e2 : wz.cell? ⟨H + 1, 2, none⟩ = some (vI x.s) := by rw [cell_of HXZ.out]; rfl
   have e3 : wz.cell? ⟨H + 1, 3, none⟩ = some (vI x.t) := by rw [cell_of HXZ.out]; rfl
   have e4 : wz.cell? ⟨H + 1, 4, none⟩ = some (vI x.n) := by rw [cell_of HXZ.out]; rfl
   have e5 : wz.cell? ⟨H + 1, 5, none⟩ = some (.slice aa la ca) := by rw [cell_of HXZ.out]; rfl
   have e6 : wz.cell? ⟨H + 1, 6, none⟩ = some (.slice ra lr cr) := by rw [cell_of HXZ.out]; rfl
   refine bodyPost_ret (v := .agg #[vI x.op, vI x.r, vI x.s, vI x.t, vI x.n, .slice aa la ca, .slice ra lr cr]) ?_ rfl (by rw [HR2.out]; exact ⟨.slice aa la ca, .slice ra lr cr, rfl, HAZ.out, HRZ.out, HGZ.out, HFZ.out⟩)
   rw [results_cell (p := 8) (ty := 71) Tryd.results46]
   simp [go_sem, e0, e1, e2, e3, e4, e5, e6]
  by_cases hE : t.E = 0
  rotate_left
  ·have hb : (t.E == 0) = false := by simpa using hE
   rw [hb] at hop
   go_wp2_with fail
   refine hop.mono ?_
   rintro e w8 ⟨rfl, rfl⟩
   clear hop
   have HR2 : Hd (instrD bs G hs R V n last s = (x, t)) := by unfold Hd; rw [HID.out, foldS_stop O (k := k) (by rw [HV.out]; exact Or.inr hE), HV.out]
   obtain ⟨-, gb⟩ := HXA.out w8 HF.out
   have b0 : w8.cell? ⟨H + 1, 0, none⟩ = some (vI 0) := by rw [cell_of gb]; rfl
   have b1 : w8.cell? ⟨H + 1, 1, none⟩ = some (vI 0) := by rw [cell_of gb]; rfl
   have b2 : w8.cell? ⟨H + 1, 2, none⟩ = some (vI 0) := by rw [cell_of gb]; rfl
   have b3 : w8.cell? ⟨H + 1, 3, none⟩ = some (vI 0) := by rw [cell_of gb]; rfl
   have b4 : w8.cell? ⟨H + 1, 4, none⟩ = some (vI 0) := by rw [cell_of gb]; rfl
   have b5 : w8.cell? ⟨H + 1, 5, none⟩ = some (.slice none 0 0) := by rw [cell_of gb]; rfl
   have b6 : w8.cell? ⟨H + 1, 6, none⟩ = some (.slice none 0 0) := by rw [cell_of gb]; rfl
   have z0 := frozen_of gb 0
   have z1 := frozen_of gb 1
   have z2 := frozen_of gb 2
   have z3 := frozen_of gb 3
   have z4 := frozen_of gb 4
   have z5 := frozen_of gb 5
   have z6 := frozen_of gb 6
   have fz := st7_fr w8 (H + 1) (vI x.op) (vI x.r) (vI x.s) (vI x.t) (vI x.n) (.slice aa la ca) (.slice ra lr cr)
   have HXZ : Hd ((st7 w8 (H + 1) (vI x.op) (vI x.r) (vI x.s) (vI x.t) (vI x.n) (.slice aa la ca) (.slice ra lr cr)).heap[H + 1]? = some (.cells #[vI x.op, vI x.r, vI x.s, vI x.t, vI x.n, .slice aa la ca, .slice ra lr cr] 71)) := st7_of gb _ _ _ _ _ _ _
   have HGZ : Hd (DR r rb a c bs G (.slice fa hs.length fc) (st7 w8 (H + 1) (vI x.op) (vI x.r) (vI x.s) (vI x.t) (vI x.n) (.slice aa la ca) (.slice ra lr cr)) t) := HT.out.apart fz (by omega) (by omega) (fun k o e e2 => by have := HBA.out k o e e2; omega)
   have HAZ : Hd (IOwn (st7 w8 (H + 1) (vI x.op) (vI x.r) (vI x.s) (vI x.t) (vI x.n) (.slice aa la ca) (.slice ra lr cr)) w.heap.size (.slice aa la ca) x.args) := (HA.out.fr fz (fun j hj e => by have := (HA.out.ge j hj).1; omega)).mono (by have := HH.out; omega)
   have HRZ : Hd (IOwn (st7 w8 (H + 1) (vI x.op) (vI x.r) (vI x.s) (vI x.t) (vI x.n) (.slice aa la ca) (.slice ra lr cr)) w.heap.size (.slice ra lr cr) x.rets) := (HR.out.fr fz (fun j hj e => by have := (HR.out.ge j hj).1; omega)).mono (by have := HH.out; omega)
   have HFZ : Hd (Fr (fun j => j = r ∨ j = rb) w (st7 w8 (H + 1) (vI x.op) (vI x.r) (vI x.s) (vI x.t) (vI x.n) (.slice aa la ca) (.slice ra lr cr))) := Fr.then (HF1.out.trans HF.out) fz (fun j hj e => by have := HH.out; omega)
   clear fz gb HT HX HA HR HF HV hz
   go_wp2_with fail
   change bodyPost _ _ _ _ _ (st7 w8 (H + 1) (vI x.op) (vI x.r) (vI x.s) (vI x.t) (vI x.n) (.slice aa la ca) (.slice ra lr cr))
   generalize st7 w8 (H + 1) (vI x.op) (vI x.r) (vI x.s) (vI x.t) (vI x.n) (.slice aa la ca) (.slice ra lr cr) = wz at *
   have e0 : wz.cell? ⟨H + 1, 0, none⟩ = some (vI x.op) := by rw [cell_of HXZ.out]; rfl
   have e1 : wz.cell? ⟨H + 1, 1, none⟩ = some (vI x.r) := by rw [cell_of HXZ.out]; rfl
   have e2 : wz.cell? ⟨H + 1, 2, none⟩ = some (vI x.s) := by rw [cell_of HXZ.out]; rfl
   have e3 : wz.cell? ⟨H + 1, 3, none⟩ = some (vI x.t) := by rw [cell_of HXZ.out]; rfl
   have e4 : wz.cell? ⟨H + 1, 4, none⟩ = some (vI x.n) := by rw [cell_of HXZ.out]; rfl
   have e5 : wz.cell? ⟨H + 1, 5, none⟩ = some (.slice aa la ca) := by rw [cell_of HXZ.out]; rfl
   have e6 : wz.cell? ⟨H + 1, 6, none⟩ = some (.slice ra lr cr) := by rw [cell_of HXZ.out]; rfl
   refine bodyPost_ret (v := .agg #[vI x.op, vI x.r, vI x.s, vI x.t, vI x.n, .slice aa la ca, .slice ra lr cr]) ?_ rfl (by rw [HR2.out]; exact ⟨.slice aa la ca, .slice ra lr cr, rfl, HAZ.out, HRZ.out, HGZ.out, HFZ.out⟩)
   rw [results_cell (p := 8) (ty := 71) Tryd.results46]
   simp [go_sem, e0, e1, e2, e3, e4, e5, e6]
  have hb : (t.E == 0) = true := by simpa using hE
  rw [hb] at hop
  have hp : k < (⟨l.toArray⟩ : ByteArray).size := by show k < l.toArray.size; simpa using hlt
  have hi : (⟨l.toArray⟩ : ByteArray)[k]'hp = l[k] := rfl
  obtain ⟨ga, -⟩ := HXA.out wr HF.out
  have f0 : wr.cell? ⟨H, 0, none⟩ = some (vI P) := by rw [cell_of ga]; rfl
  have f1 : wr.cell? ⟨H, 1, none⟩ = some (vI R) := by rw [cell_of ga]; rfl
  have f2 : wr.cell? ⟨H, 2, none⟩ = some (vI V) := by rw [cell_of ga]; rfl
  have f3 : wr.cell? ⟨H, 3, none⟩ = some (.slice fca fcl fcc) := by rw [cell_of ga]; rfl
  clear ga hb
  by_cases q82 : l[k] = 82
  ·have e82 : (((((⟨l.toArray⟩ : ByteArray)[k]'hp).toNat : Nat) : Int) == 82) = true := by rw [hi, q82]; rfl
   have hcall := var_D HT.out hfv P R V (.slice fca fcl fcc)
   have hst : letS bs G hs R V n (x, t) 82 = ({ x with r := (varD bs V t).1 }, (varD bs V t).2) := if_pos hE
   have HV2 : Hd ((l.take (k + 1)).foldl (letS bs G hs R V n) O = ({ x with r := (varD bs V t).1 }, (varD bs V t).2)) := by unfold Hd; rw [foldS_step hlt, HV.out, q82, hst]
   generalize varD bs V t = T at *
   obtain ⟨v, t'⟩ := T
   clear hi q82 hst HV hz
   go_wp2_with fail
   refine hop.mono ?_
   rintro e w8 ⟨rfl, rfl⟩
   clear hop
   go_wp2_with fail
   refine hcall.mono ?_
   rintro e w9 ⟨rfl, h9, f9⟩
   have HT9 : Hd (DR r rb a c bs G (.slice fa hs.length fc) w9 t') := h9
   have HX9 : Hd (XB w9 X x (.slice aa la ca) (.slice ra lr cr)) := HX.out.fr f9 (by omega)
   have HA9 : Hd (IOwn w9 (X + 1) (.slice aa la ca) x.args) := HA.out.fr f9 (fun j hj e => by have := (HA.out.ge j hj).1; omega)
   have HR9 : Hd (IOwn w9 (X + 1) (.slice ra lr cr) x.rets) := HR.out.fr f9 (fun j hj e => by have := (HR.out.ge j hj).1; omega)
   have HF9 : Hd (Fr (fun j => j = r ∨ j = rb) W w9) := HF.out.trans f9
   clear hcall h9 f9 HT HX HA HR HF
   have hX9 := HX9.out.cells.2.2.2.2.2.2.2.1 1
   have hC9 := HX9.out.cells.2.1
   have fs := setCell_fr w9 X 1 (vI v)
   have HTs : Hd (DR r rb a c bs G (.slice fa hs.length fc) (w9.setCell ⟨X, 1, none⟩ (vI v)) t') := HT9.out.apart fs (by omega) (by omega) (fun k o e e2 => by have := HBA.out k o e e2; omega)
   have HXs : Hd (XB (w9.setCell ⟨X, 1, none⟩ (vI v)) X { x with r := v } (.slice aa la ca) (.slice ra lr cr)) := HX9.out.set1 v
   have HAs : Hd (IOwn (w9.setCell ⟨X, 1, none⟩ (vI v)) (X + 1) (.slice aa la ca) x.args) := HA9.out.fr fs (fun j hj e => by have := (HA9.out.ge j hj).1; omega)
   have HRs : Hd (IOwn (w9.setCell ⟨X, 1, none⟩ (vI v)) (X + 1) (.slice ra lr cr) x.rets) := HR9.out.fr fs (fun j hj e => by have := (HR9.out.ge j hj).1; omega)
   have HFs : Hd (Fr (fun j => j = r ∨ j = rb) W (w9.setCell ⟨X, 1, none⟩ (vI v))) := Fr.then HF9.out fs (fun j hj e => by have := HSW.out; omega)
   clear fs HT9 HX9 HA9 HR9 HF9 x0 x1 x2 x3 x4 x5 x6 f0 f1 f2 f3
   go_wp2_with fail
   exact ⟨⟨k + 1, { x with r := v }, t', .slice aa la ca, .slice ra lr cr, by simp, by omega, HTs.out, HXs.out, HAs.out, HRs.out, HV2.out, HFs.out⟩, by simp; omega⟩
  by_cases q83 : l[k] = 83
  ·have n82 : (((((⟨l.toArray⟩ : ByteArray)[k]'hp).toNat : Nat) : Int) == 82) = false := by
    rw [hi]; simp only [beq_eq_false_iff_ne, ne_eq]; intro e; exact q82 (UInt8.toNat_inj.1 (by show _ = 82; omega))
   have e83 : (((((⟨l.toArray⟩ : ByteArray)[k]'hp).toNat : Nat) : Int) == 83) = true := by rw [hi, q83]; rfl
   have hcall := var_D HT.out hfv P R V (.slice fca fcl fcc)
   have hst : letS bs G hs R V n (x, t) 83 = ({ x with s := (varD bs V t).1 }, (varD bs V t).2) := if_pos hE
   have HV2 : Hd ((l.take (k + 1)).foldl (letS bs G hs R V n) O = ({ x with s := (varD bs V t).1 }, (varD bs V t).2)) := by unfold Hd; rw [foldS_step hlt, HV.out, q83, hst]
   generalize varD bs V t = T at *
   obtain ⟨v, t'⟩ := T
   clear hi q83 hst HV hz
   go_wp2_with fail
   refine hop.mono ?_
   rintro e w8 ⟨rfl, rfl⟩
   clear hop
   go_wp2_with fail
   refine hcall.mono ?_
   rintro e w9 ⟨rfl, h9, f9⟩
   have HT9 : Hd (DR r rb a c bs G (.slice fa hs.length fc) w9 t') := h9
   have HX9 : Hd (XB w9 X x (.slice aa la ca) (.slice ra lr cr)) := HX.out.fr f9 (by omega)
   have HA9 : Hd (IOwn w9 (X + 1) (.slice aa la ca) x.args) := HA.out.fr f9 (fun j hj e => by have := (HA.out.ge j hj).1; omega)
   have HR9 : Hd (IOwn w9 (X + 1) (.slice ra lr cr) x.rets) := HR.out.fr f9 (fun j hj e => by have := (HR.out.ge j hj).1; omega)
   have HF9 : Hd (Fr (fun j => j = r ∨ j = rb) W w9) := HF.out.trans f9
   clear hcall h9 f9 HT HX HA HR HF
   have hX9 := HX9.out.cells.2.2.2.2.2.2.2.1 2
   have hC9 := HX9.out.cells.2.2.1
   have fs := setCell_fr w9 X 2 (vI v)
   have HTs : Hd (DR r rb a c bs G (.slice fa hs.length fc) (w9.setCell ⟨X, 2, none⟩ (vI v)) t') := HT9.out.apart fs (by omega) (by omega) (fun k o e e2 => by have := HBA.out k o e e2; omega)
   have HXs : Hd (XB (w9.setCell ⟨X, 2, none⟩ (vI v)) X { x with s := v } (.slice aa la ca) (.slice ra lr cr)) := HX9.out.set2 v
   have HAs : Hd (IOwn (w9.setCell ⟨X, 2, none⟩ (vI v)) (X + 1) (.slice aa la ca) x.args) := HA9.out.fr fs (fun j hj e => by have := (HA9.out.ge j hj).1; omega)
   have HRs : Hd (IOwn (w9.setCell ⟨X, 2, none⟩ (vI v)) (X + 1) (.slice ra lr cr) x.rets) := HR9.out.fr fs (fun j hj e => by have := (HR9.out.ge j hj).1; omega)
   have HFs : Hd (Fr (fun j => j = r ∨ j = rb) W (w9.setCell ⟨X, 2, none⟩ (vI v))) := Fr.then HF9.out fs (fun j hj e => by have := HSW.out; omega)
   clear fs HT9 HX9 HA9 HR9 HF9 x0 x1 x2 x3 x4 x5 x6 f0 f1 f2 f3
   go_wp2_with fail
   exact ⟨⟨k + 1, { x with s := v }, t', .slice aa la ca, .slice ra lr cr, by simp, by omega, HTs.out, HXs.out, HAs.out, HRs.out, HV2.out, HFs.out⟩, by simp; omega⟩
  by_cases q84 : l[k] = 84
  ·have n82 : (((((⟨l.toArray⟩ : ByteArray)[k]'hp).toNat : Nat) : Int) == 82) = false := by
    rw [hi]; simp only [beq_eq_false_iff_ne, ne_eq]; intro e; exact q82 (UInt8.toNat_inj.1 (by show _ = 82; omega))
   have n83 : (((((⟨l.toArray⟩ : ByteArray)[k]'hp).toNat : Nat) : Int) == 83) = false := by
    rw [hi]; simp only [beq_eq_false_iff_ne, ne_eq]; intro e; exact q83 (UInt8.toNat_inj.1 (by show _ = 83; omega))
   have e84 : (((((⟨l.toArray⟩ : ByteArray)[k]'hp).toNat : Nat) : Int) == 84) = true := by rw [hi, q84]; rfl
   have hcall := var_D HT.out hfv P R V (.slice fca fcl fcc)
   have hst : letS bs G hs R V n (x, t) 84 = ({ x with t := (varD bs V t).1 }, (varD bs V t).2) := if_pos hE
   have HV2 : Hd ((l.take (k + 1)).foldl (letS bs G hs R V n) O = ({ x with t := (varD bs V t).1 }, (varD bs V t).2)) := by unfold Hd; rw [foldS_step hlt, HV.out, q84, hst]
   generalize varD bs V t = T at *
   obtain ⟨v, t'⟩ := T
   clear hi q84 hst HV hz
   go_wp2_with fail
   refine hop.mono ?_
   rintro e w8 ⟨rfl, rfl⟩
   clear hop
   go_wp2_with fail
   refine hcall.mono ?_
   rintro e w9 ⟨rfl, h9, f9⟩
   have HT9 : Hd (DR r rb a c bs G (.slice fa hs.length fc) w9 t') := h9
   have HX9 : Hd (XB w9 X x (.slice aa la ca) (.slice ra lr cr)) := HX.out.fr f9 (by omega)
   have HA9 : Hd (IOwn w9 (X + 1) (.slice aa la ca) x.args) := HA.out.fr f9 (fun j hj e => by have := (HA.out.ge j hj).1; omega)
   have HR9 : Hd (IOwn w9 (X + 1) (.slice ra lr cr) x.rets) := HR.out.fr f9 (fun j hj e => by have := (HR.out.ge j hj).1; omega)
   have HF9 : Hd (Fr (fun j => j = r ∨ j = rb) W w9) := HF.out.trans f9
   clear hcall h9 f9 HT HX HA HR HF
   have hX9 := HX9.out.cells.2.2.2.2.2.2.2.1 3
   have hC9 := HX9.out.cells.2.2.2.1
   have fs := setCell_fr w9 X 3 (vI v)
   have HTs : Hd (DR r rb a c bs G (.slice fa hs.length fc) (w9.setCell ⟨X, 3, none⟩ (vI v)) t') := HT9.out.apart fs (by omega) (by omega) (fun k o e e2 => by have := HBA.out k o e e2; omega)
   have HXs : Hd (XB (w9.setCell ⟨X, 3, none⟩ (vI v)) X { x with t := v } (.slice aa la ca) (.slice ra lr cr)) := HX9.out.set3 v
   have HAs : Hd (IOwn (w9.setCell ⟨X, 3, none⟩ (vI v)) (X + 1) (.slice aa la ca) x.args) := HA9.out.fr fs (fun j hj e => by have := (HA9.out.ge j hj).1; omega)
   have HRs : Hd (IOwn (w9.setCell ⟨X, 3, none⟩ (vI v)) (X + 1) (.slice ra lr cr) x.rets) := HR9.out.fr fs (fun j hj e => by have := (HR9.out.ge j hj).1; omega)
   have HFs : Hd (Fr (fun j => j = r ∨ j = rb) W (w9.setCell ⟨X, 3, none⟩ (vI v))) := Fr.then HF9.out fs (fun j hj e => by have := HSW.out; omega)
   clear fs HT9 HX9 HA9 HR9 HF9 x0 x1 x2 x3 x4 x5 x6 f0 f1 f2 f3
   go_wp2_with fail
   exact ⟨⟨k + 1, { x with t := v }, t', .slice aa la ca, .slice ra lr cr, by simp, by omega, HTs.out, HXs.out, HAs.out, HRs.out, HV2.out, HFs.out⟩, by simp; omega⟩
  by_cases q65 : l[k] = 65
  ·have n82 : (((((⟨l.toArray⟩ : ByteArray)[k]'hp).toNat : Nat) : Int) == 82) = false := by
    rw [hi]; simp only [beq_eq_false_iff_ne, ne_eq]; intro e; exact q82 (UInt8.toNat_inj.1 (by show _ = 82; omega))
   have n83 : (((((⟨l.toArray⟩ : ByteArray)[k]'hp).toNat : Nat) : Int) == 83) = false := by
    rw [hi]; simp only [beq_eq_false_iff_ne, ne_eq]; intro e; exact q83 (UInt8.toNat_inj.1 (by show _ = 83; omega))
   have n84 : (((((⟨l.toArray⟩ : ByteArray)[k]'hp).toNat : Nat) : Int) == 84) = false := by
    rw [hi]; simp only [beq_eq_false_iff_ne, ne_eq]; intro e; exact q84 (UInt8.toNat_inj.1 (by show _ = 84; omega))
   have e65 : (((((⟨l.toArray⟩ : ByteArray)[k]'hp).toNat : Nat) : Int) == 65) = true := by rw [hi, q65]; rfl
   have HTd : Hd (DR r rb a c bs G (.slice fa hs.length fc) wr.drew t) := HT.out.stay (Fr.drew (Fr.refl (fun _ => False) wr))
   have hnn := HCL.out k hlt (by rw [q65]; left; rfl) (by rw [HV.out]; exact hE)
   rw [HV.out] at hnn
   have hcall := list_65 HTd.out (HHI.out.fr ((HF1.out.trans HF.out).drew)) P R V fca fcl fcc x aa ra la ca lr cr hnn
   have hst : letS bs G hs R V n (x, t) 65 = ({ x with args := (listD bs V (calP hs x.n) t).1 }, (listD bs V (calP hs x.n) t).2) := if_pos hE
   have HV2 : Hd ((l.take (k + 1)).foldl (letS bs G hs R V n) O = ({ x with args := (listD bs V (calP hs x.n) t).1 }, (listD bs V (calP hs x.n) t).2)) := by unfold Hd; rw [foldS_step hlt, HV.out, q65, hst]
   rw [show vU 65 = .int .u8 (((⟨l.toArray⟩ : ByteArray)[k]'hp).toNat : Nat) by rw [hi, q65]] at hcall
   generalize listD bs V (calP hs x.n) t = T at *
   obtain ⟨ls, t'⟩ := T
   have HCA : Hd _ := hcall
   clear hi q65 hst HV hz hcall hnn
   go_wp2_with fail
   refine hop.mono ?_
   rintro e w8 ⟨rfl, rfl⟩
   clear hop
   go_upto_region 20 with fail
   refine wp_region_still_tail 6 mixed (by kernel_rfl) ?_
   simp only [List.take_succ_cons, List.take_zero, List.drop_succ_cons, List.drop_zero]
   repeat still_step
   refine wpStill_nil ?_
   go_wp2_with fail
   refine Calls.mono HCA.out ?_
   rintro e w9 ⟨lv, rfl, hl, h9, f9⟩
   obtain ⟨ga', gl', gc', rfl⟩ : ∃ p q s, lv = .slice p q s := by obtain ⟨q1, q2, q3, -⟩ := hl.ia; exact ⟨q1, _, q2, q3⟩
   have fd : Fr (fun j => j = r ∨ j = rb) w8 w9 := (Fr.drew (Fr.refl (fun j => j = r ∨ j = rb) w8)).trans f9
   have HT9 : Hd (DR r rb a c bs G (.slice fa hs.length fc) w9 t') := h9
   have HX9 : Hd (XB w9 X x (.slice aa la ca) (.slice ra lr cr)) := HX.out.fr fd (by omega)
   have HA9 : Hd (IOwn w9 (X + 1) (.slice aa la ca) x.args) := HA.out.fr fd (fun j hj e => by have := (HA.out.ge j hj).1; omega)
   have HR9 : Hd (IOwn w9 (X + 1) (.slice ra lr cr) x.rets) := HR.out.fr fd (fun j hj e => by have := (HR.out.ge j hj).1; omega)
   have HF9 : Hd (Fr (fun j => j = r ∨ j = rb) W w9) := HF.out.trans fd
   have HL9 : Hd (IOwn w9 (X + 1) (.slice ga' gl' gc') ls) := hl.mono (by show X + 1 ≤ w8.heap.size; exact hXlt)
   clear h9 f9 fd hl HT HX HA HR HF HTd HCA
   have hX9 := HX9.out.cells.2.2.2.2.2.2.2.1 5
   have hC9 := HX9.out.cells.2.2.2.2.2.1
   have fs := setCell_fr w9 X 5 (.slice ga' gl' gc')
   have HTs : Hd (DR r rb a c bs G (.slice fa hs.length fc) (w9.setCell ⟨X, 5, none⟩ (.slice ga' gl' gc')) t') := HT9.out.apart fs (by omega) (by omega) (fun k o e e2 => by have := HBA.out k o e e2; omega)
   have HXs : Hd (XB (w9.setCell ⟨X, 5, none⟩ (.slice ga' gl' gc')) X { x with args := ls } (.slice ga' gl' gc') (.slice ra lr cr)) := HX9.out.set5 ls _
   have HAs : Hd (IOwn (w9.setCell ⟨X, 5, none⟩ (.slice ga' gl' gc')) (X + 1) (.slice ga' gl' gc') ls) := HL9.out.fr fs (fun j hj e => by have := (HL9.out.ge j hj).1; omega)
   have HRs : Hd (IOwn (w9.setCell ⟨X, 5, none⟩ (.slice ga' gl' gc')) (X + 1) (.slice ra lr cr) x.rets) := HR9.out.fr fs (fun j hj e => by have := (HR9.out.ge j hj).1; omega)
   have HFs : Hd (Fr (fun j => j = r ∨ j = rb) W (w9.setCell ⟨X, 5, none⟩ (.slice ga' gl' gc'))) := Fr.then HF9.out fs (fun j hj e => by have := HSW.out; omega)
   clear fs HT9 HX9 HA9 HR9 HF9 HL9 x0 x1 x2 x3 x4 x5 x6 f0 f1 f2 f3
   go_wp2_with fail
   exact ⟨⟨k + 1, { x with args := ls }, t', .slice ga' gl' gc', .slice ra lr cr, by simp, by omega, HTs.out, HXs.out, HAs.out, HRs.out, HV2.out, HFs.out⟩, by simp; omega⟩
  by_cases q86 : l[k] = 86
  ·have n82 : (((((⟨l.toArray⟩ : ByteArray)[k]'hp).toNat : Nat) : Int) == 82) = false := by
    rw [hi]; simp only [beq_eq_false_iff_ne, ne_eq]; intro e; exact q82 (UInt8.toNat_inj.1 (by show _ = 82; omega))
   have n83 : (((((⟨l.toArray⟩ : ByteArray)[k]'hp).toNat : Nat) : Int) == 83) = false := by
    rw [hi]; simp only [beq_eq_false_iff_ne, ne_eq]; intro e; exact q83 (UInt8.toNat_inj.1 (by show _ = 83; omega))
   have n84 : (((((⟨l.toArray⟩ : ByteArray)[k]'hp).toNat : Nat) : Int) == 84) = false := by
    rw [hi]; simp only [beq_eq_false_iff_ne, ne_eq]; intro e; exact q84 (UInt8.toNat_inj.1 (by show _ = 84; omega))
   have n65 : (((((⟨l.toArray⟩ : ByteArray)[k]'hp).toNat : Nat) : Int) == 65) = false := by
    rw [hi]; simp only [beq_eq_false_iff_ne, ne_eq]; intro e; exact q65 (UInt8.toNat_inj.1 (by show _ = 65; omega))
   have e86 : (((((⟨l.toArray⟩ : ByteArray)[k]'hp).toNat : Nat) : Int) == 86) = true := by rw [hi, q86]; rfl
   have HTd : Hd (DR r rb a c bs G (.slice fa hs.length fc) wr.drew t) := HT.out.stay (Fr.drew (Fr.refl (fun _ => False) wr))
   have hcall := list_86 HTd.out hfv P R V fca fcl fcc x aa ra la ca lr cr
   have hst : letS bs G hs R V n (x, t) 86 = ({ x with args := (listD bs V R t).1 }, (listD bs V R t).2) := if_pos hE
   have HV2 : Hd ((l.take (k + 1)).foldl (letS bs G hs R V n) O = ({ x with args := (listD bs V R t).1 }, (listD bs V R t).2)) := by unfold Hd; rw [foldS_step hlt, HV.out, q86, hst]
   rw [show vU 86 = .int .u8 (((⟨l.toArray⟩ : ByteArray)[k]'hp).toNat : Nat) by rw [hi, q86]] at hcall
   generalize listD bs V R t = T at *
   obtain ⟨ls, t'⟩ := T
   have HCA : Hd _ := hcall
   clear hi q86 hst HV hz hcall
   go_wp2_with fail
   refine hop.mono ?_
   rintro e w8 ⟨rfl, rfl⟩
   clear hop
   go_upto_region 20 with fail
   refine wp_region_still_tail 6 mixed (by kernel_rfl) ?_
   simp only [List.take_succ_cons, List.take_zero, List.drop_succ_cons, List.drop_zero]
   repeat still_step
   refine wpStill_nil ?_
   go_wp2_with fail
   refine Calls.mono HCA.out ?_
   rintro e w9 ⟨lv, rfl, hl, h9, f9⟩
   obtain ⟨ga', gl', gc', rfl⟩ : ∃ p q s, lv = .slice p q s := by obtain ⟨q1, q2, q3, -⟩ := hl.ia; exact ⟨q1, _, q2, q3⟩
   have fd : Fr (fun j => j = r ∨ j = rb) w8 w9 := (Fr.drew (Fr.refl (fun j => j = r ∨ j = rb) w8)).trans f9
   have HT9 : Hd (DR r rb a c bs G (.slice fa hs.length fc) w9 t') := h9
   have HX9 : Hd (XB w9 X x (.slice aa la ca) (.slice ra lr cr)) := HX.out.fr fd (by omega)
   have HA9 : Hd (IOwn w9 (X + 1) (.slice aa la ca) x.args) := HA.out.fr fd (fun j hj e => by have := (HA.out.ge j hj).1; omega)
   have HR9 : Hd (IOwn w9 (X + 1) (.slice ra lr cr) x.rets) := HR.out.fr fd (fun j hj e => by have := (HR.out.ge j hj).1; omega)
   have HF9 : Hd (Fr (fun j => j = r ∨ j = rb) W w9) := HF.out.trans fd
   have HL9 : Hd (IOwn w9 (X + 1) (.slice ga' gl' gc') ls) := hl.mono (by show X + 1 ≤ w8.heap.size; exact hXlt)
   clear h9 f9 fd hl HT HX HA HR HF HTd HCA
   have hX9 := HX9.out.cells.2.2.2.2.2.2.2.1 5
   have hC9 := HX9.out.cells.2.2.2.2.2.1
   have fs := setCell_fr w9 X 5 (.slice ga' gl' gc')
   have HTs : Hd (DR r rb a c bs G (.slice fa hs.length fc) (w9.setCell ⟨X, 5, none⟩ (.slice ga' gl' gc')) t') := HT9.out.apart fs (by omega) (by omega) (fun k o e e2 => by have := HBA.out k o e e2; omega)
   have HXs : Hd (XB (w9.setCell ⟨X, 5, none⟩ (.slice ga' gl' gc')) X { x with args := ls } (.slice ga' gl' gc') (.slice ra lr cr)) := HX9.out.set5 ls _
   have HAs : Hd (IOwn (w9.setCell ⟨X, 5, none⟩ (.slice ga' gl' gc')) (X + 1) (.slice ga' gl' gc') ls) := HL9.out.fr fs (fun j hj e => by have := (HL9.out.ge j hj).1; omega)
   have HRs : Hd (IOwn (w9.setCell ⟨X, 5, none⟩ (.slice ga' gl' gc')) (X + 1) (.slice ra lr cr) x.rets) := HR9.out.fr fs (fun j hj e => by have := (HR9.out.ge j hj).1; omega)
   have HFs : Hd (Fr (fun j => j = r ∨ j = rb) W (w9.setCell ⟨X, 5, none⟩ (.slice ga' gl' gc'))) := Fr.then HF9.out fs (fun j hj e => by have := HSW.out; omega)
   clear fs HT9 HX9 HA9 HR9 HF9 HL9 x0 x1 x2 x3 x4 x5 x6 f0 f1 f2 f3
   go_wp2_with fail
   exact ⟨⟨k + 1, { x with args := ls }, t', .slice ga' gl' gc', .slice ra lr cr, by simp, by omega, HTs.out, HXs.out, HAs.out, HRs.out, HV2.out, HFs.out⟩, by simp; omega⟩
  by_cases q66 : l[k] = 66
  ·have n82 : (((((⟨l.toArray⟩ : ByteArray)[k]'hp).toNat : Nat) : Int) == 82) = false := by
    rw [hi]; simp only [beq_eq_false_iff_ne, ne_eq]; intro e; exact q82 (UInt8.toNat_inj.1 (by show _ = 82; omega))
   have n83 : (((((⟨l.toArray⟩ : ByteArray)[k]'hp).toNat : Nat) : Int) == 83) = false := by
    rw [hi]; simp only [beq_eq_false_iff_ne, ne_eq]; intro e; exact q83 (UInt8.toNat_inj.1 (by show _ = 83; omega))
   have n84 : (((((⟨l.toArray⟩ : ByteArray)[k]'hp).toNat : Nat) : Int) == 84) = false := by
    rw [hi]; simp only [beq_eq_false_iff_ne, ne_eq]; intro e; exact q84 (UInt8.toNat_inj.1 (by show _ = 84; omega))
   have n65 : (((((⟨l.toArray⟩ : ByteArray)[k]'hp).toNat : Nat) : Int) == 65) = false := by
    rw [hi]; simp only [beq_eq_false_iff_ne, ne_eq]; intro e; exact q65 (UInt8.toNat_inj.1 (by show _ = 65; omega))
   have n86 : (((((⟨l.toArray⟩ : ByteArray)[k]'hp).toNat : Nat) : Int) == 86) = false := by
    rw [hi]; simp only [beq_eq_false_iff_ne, ne_eq]; intro e; exact q86 (UInt8.toNat_inj.1 (by show _ = 86; omega))
   have e66 : (((((⟨l.toArray⟩ : ByteArray)[k]'hp).toNat : Nat) : Int) == 66) = true := by rw [hi, q66]; rfl
   have HTd : Hd (DR r rb a c bs G (.slice fa hs.length fc) wr.drew t) := HT.out.stay (Fr.drew (Fr.refl (fun _ => False) wr))
   have hnn := HCL.out k hlt (by rw [q66]; right; rfl) (by rw [HV.out]; exact hE)
   rw [HV.out] at hnn
   have hcall := list_66 HTd.out (HHI.out.fr ((HF1.out.trans HF.out).drew)) P R V fca fcl fcc x aa ra la ca lr cr hnn
   have hst : letS bs G hs R V n (x, t) 66 = ({ x with rets := (listD bs V (calR hs x.n) t).1 }, (listD bs V (calR hs x.n) t).2) := if_pos hE
   have HV2 : Hd ((l.take (k + 1)).foldl (letS bs G hs R V n) O = ({ x with rets := (listD bs V (calR hs x.n) t).1 }, (listD bs V (calR hs x.n) t).2)) := by unfold Hd; rw [foldS_step hlt, HV.out, q66, hst]
   rw [show vU 66 = .int .u8 (((⟨l.toArray⟩ : ByteArray)[k]'hp).toNat : Nat) by rw [hi, q66]] at hcall
   generalize listD bs V (calR hs x.n) t = T at *
   obtain ⟨ls, t'⟩ := T
   have HCA : Hd _ := hcall
   clear hi q66 hst HV hz hcall hnn
   go_wp2_with fail
   refine hop.mono ?_
   rintro e w8 ⟨rfl, rfl⟩
   clear hop
   go_upto_region 22 with fail
   refine wp_region_still_tail 6 mixed (by kernel_rfl) ?_
   simp only [List.take_succ_cons, List.take_zero, List.drop_succ_cons, List.drop_zero]
   repeat still_step
   refine wpStill_nil ?_
   go_wp2_with fail
   refine Calls.mono HCA.out ?_
   rintro e w9 ⟨lv, rfl, hl, h9, f9⟩
   obtain ⟨ga', gl', gc', rfl⟩ : ∃ p q s, lv = .slice p q s := by obtain ⟨q1, q2, q3, -⟩ := hl.ia; exact ⟨q1, _, q2, q3⟩
   have fd : Fr (fun j => j = r ∨ j = rb) w8 w9 := (Fr.drew (Fr.refl (fun j => j = r ∨ j = rb) w8)).trans f9
   have HT9 : Hd (DR r rb a c bs G (.slice fa hs.length fc) w9 t') := h9
   have HX9 : Hd (XB w9 X x (.slice aa la ca) (.slice ra lr cr)) := HX.out.fr fd (by omega)
   have HA9 : Hd (IOwn w9 (X + 1) (.slice aa la ca) x.args) := HA.out.fr fd (fun j hj e => by have := (HA.out.ge j hj).1; omega)
   have HR9 : Hd (IOwn w9 (X + 1) (.slice ra lr cr) x.rets) := HR.out.fr fd (fun j hj e => by have := (HR.out.ge j hj).1; omega)
   have HF9 : Hd (Fr (fun j => j = r ∨ j = rb) W w9) := HF.out.trans fd
   have HL9 : Hd (IOwn w9 (X + 1) (.slice ga' gl' gc') ls) := hl.mono (by show X + 1 ≤ w8.heap.size; exact hXlt)
   clear h9 f9 fd hl HT HX HA HR HF HTd HCA
   have hX9 := HX9.out.cells.2.2.2.2.2.2.2.1 6
   have hC9 := HX9.out.cells.2.2.2.2.2.2.1
   have fs := setCell_fr w9 X 6 (.slice ga' gl' gc')
   have HTs : Hd (DR r rb a c bs G (.slice fa hs.length fc) (w9.setCell ⟨X, 6, none⟩ (.slice ga' gl' gc')) t') := HT9.out.apart fs (by omega) (by omega) (fun k o e e2 => by have := HBA.out k o e e2; omega)
   have HXs : Hd (XB (w9.setCell ⟨X, 6, none⟩ (.slice ga' gl' gc')) X { x with rets := ls } (.slice aa la ca) (.slice ga' gl' gc')) := HX9.out.set6 ls _
   have HAs : Hd (IOwn (w9.setCell ⟨X, 6, none⟩ (.slice ga' gl' gc')) (X + 1) (.slice aa la ca) x.args) := HA9.out.fr fs (fun j hj e => by have := (HA9.out.ge j hj).1; omega)
   have HRs : Hd (IOwn (w9.setCell ⟨X, 6, none⟩ (.slice ga' gl' gc')) (X + 1) (.slice ga' gl' gc') ls) := HL9.out.fr fs (fun j hj e => by have := (HL9.out.ge j hj).1; omega)
   have HFs : Hd (Fr (fun j => j = r ∨ j = rb) W (w9.setCell ⟨X, 6, none⟩ (.slice ga' gl' gc'))) := Fr.then HF9.out fs (fun j hj e => by have := HSW.out; omega)
   clear fs HT9 HX9 HA9 HR9 HF9 HL9 x0 x1 x2 x3 x4 x5 x6 f0 f1 f2 f3
   go_wp2_with fail
   exact ⟨⟨k + 1, { x with rets := ls }, t', .slice aa la ca, .slice ga' gl' gc', by simp, by omega, HTs.out, HXs.out, HAs.out, HRs.out, HV2.out, HFs.out⟩, by simp; omega⟩
  have n82 : (((((⟨l.toArray⟩ : ByteArray)[k]'hp).toNat : Nat) : Int) == 82) = false := by
   rw [hi]; simp only [beq_eq_false_iff_ne, ne_eq]; intro e; exact q82 (UInt8.toNat_inj.1 (by show _ = 82; omega))
  have n83 : (((((⟨l.toArray⟩ : ByteArray)[k]'hp).toNat : Nat) : Int) == 83) = false := by
   rw [hi]; simp only [beq_eq_false_iff_ne, ne_eq]; intro e; exact q83 (UInt8.toNat_inj.1 (by show _ = 83; omega))
  have n84 : (((((⟨l.toArray⟩ : ByteArray)[k]'hp).toNat : Nat) : Int) == 84) = false := by
   rw [hi]; simp only [beq_eq_false_iff_ne, ne_eq]; intro e; exact q84 (UInt8.toNat_inj.1 (by show _ = 84; omega))
  have n65 : (((((⟨l.toArray⟩ : ByteArray)[k]'hp).toNat : Nat) : Int) == 65) = false := by
   rw [hi]; simp only [beq_eq_false_iff_ne, ne_eq]; intro e; exact q65 (UInt8.toNat_inj.1 (by show _ = 65; omega))
  have n86 : (((((⟨l.toArray⟩ : ByteArray)[k]'hp).toNat : Nat) : Int) == 86) = false := by
   rw [hi]; simp only [beq_eq_false_iff_ne, ne_eq]; intro e; exact q86 (UInt8.toNat_inj.1 (by show _ = 86; omega))
  have n66 : (((((⟨l.toArray⟩ : ByteArray)[k]'hp).toNat : Nat) : Int) == 66) = false := by
   rw [hi]; simp only [beq_eq_false_iff_ne, ne_eq]; intro e; exact q66 (UInt8.toNat_inj.1 (by show _ = 66; omega))
  have hun : l[k] = 99 ∨ l[k] = 102 ∨ l[k] = 103 ∨ l[k] = 70 ∨ l[k] = 74 ∨ l[k] = 105 := by
   have := HLE.out k hlt
   simp only [List.mem_cons, List.not_mem_nil, or_false] at this
   rcases this with e | e | e | e | e | e | e | e | e | e | e | e
   ·exact absurd e q82
   ·exact absurd e q83
   ·exact absurd e q84
   ·exact absurd e q65
   ·exact absurd e q66
   ·exact absurd e q86
   ·exact Or.inl e
   ·exact Or.inr (Or.inl e)
   ·exact Or.inr (Or.inr (Or.inl e))
   ·exact Or.inr (Or.inr (Or.inr (Or.inl e)))
   ·exact Or.inr (Or.inr (Or.inr (Or.inr (Or.inl e))))
   ·exact Or.inr (Or.inr (Or.inr (Or.inr (Or.inr e))))
  have hcall := num_any HT.out n l[k] hun
  have hst : letS bs G hs R V n (x, t) l[k] = ({ x with n := (numD bs (numS l[k]) (numW G hs.length n l[k]) t).1 }, (numD bs (numS l[k]) (numW G hs.length n l[k]) t).2) := by
   unfold letS letD
   rw [if_pos hE, if_neg q82, if_neg q83, if_neg q84, if_neg q65, if_neg q66, if_neg q86]
  have HV2 : Hd ((l.take (k + 1)).foldl (letS bs G hs R V n) O = ({ x with n := (numD bs (numS l[k]) (numW G hs.length n l[k]) t).1 }, (numD bs (numS l[k]) (numW G hs.length n l[k]) t).2)) := by unfold Hd; rw [foldS_step hlt, HV.out, hst]
  rw [show vU l[k] = .int .u8 (((⟨l.toArray⟩ : ByteArray)[k]'hp).toNat : Nat) by rw [hi]] at hcall
  generalize numD bs (numS l[k]) (numW G hs.length n l[k]) t = T at *
  obtain ⟨v, t'⟩ := T
  clear hi hst HV hz hun q82 q83 q84 q65 q66 q86
  go_wp2_with fail
  refine hop.mono ?_
  rintro e w8 ⟨rfl, rfl⟩
  clear hop
  go_wp2_with fail
  refine hcall.mono ?_
  rintro e w9 ⟨rfl, h9, f9⟩
  have HT9 : Hd (DR r rb a c bs G (.slice fa hs.length fc) w9 t') := h9
  have HX9 : Hd (XB w9 X x (.slice aa la ca) (.slice ra lr cr)) := HX.out.fr f9 (by omega)
  have HA9 : Hd (IOwn w9 (X + 1) (.slice aa la ca) x.args) := HA.out.fr f9 (fun j hj e => by have := (HA.out.ge j hj).1; omega)
  have HR9 : Hd (IOwn w9 (X + 1) (.slice ra lr cr) x.rets) := HR.out.fr f9 (fun j hj e => by have := (HR.out.ge j hj).1; omega)
  have HF9 : Hd (Fr (fun j => j = r ∨ j = rb) W w9) := HF.out.trans f9
  clear hcall h9 f9 HT HX HA HR HF
  have hX9 := HX9.out.cells.2.2.2.2.2.2.2.1 4
  have hC9 := HX9.out.cells.2.2.2.2.1
  have fs := setCell_fr w9 X 4 (vI v)
  have HTs : Hd (DR r rb a c bs G (.slice fa hs.length fc) (w9.setCell ⟨X, 4, none⟩ (vI v)) t') := HT9.out.apart fs (by omega) (by omega) (fun k o e e2 => by have := HBA.out k o e e2; omega)
  have HXs : Hd (XB (w9.setCell ⟨X, 4, none⟩ (vI v)) X { x with n := v } (.slice aa la ca) (.slice ra lr cr)) := HX9.out.set4 v
  have HAs : Hd (IOwn (w9.setCell ⟨X, 4, none⟩ (vI v)) (X + 1) (.slice aa la ca) x.args) := HA9.out.fr fs (fun j hj e => by have := (HA9.out.ge j hj).1; omega)
  have HRs : Hd (IOwn (w9.setCell ⟨X, 4, none⟩ (vI v)) (X + 1) (.slice ra lr cr) x.rets) := HR9.out.fr fs (fun j hj e => by have := (HR9.out.ge j hj).1; omega)
  have HFs : Hd (Fr (fun j => j = r ∨ j = rb) W (w9.setCell ⟨X, 4, none⟩ (vI v))) := Fr.then HF9.out fs (fun j hj e => by have := HSW.out; omega)
  clear fs HT9 HX9 HA9 HR9 HF9 x0 x1 x2 x3 x4 x5 x6 f0 f1 f2 f3
  go_wp2_with fail
  exact ⟨⟨k + 1, { x with n := v }, t', .slice aa la ca, .slice ra lr cr, by simp, by omega, HTs.out, HXs.out, HAs.out, HRs.out, HV2.out, HFs.out⟩, by simp; omega⟩
end Go.Proofs.YtingenonbkencaaDoor
