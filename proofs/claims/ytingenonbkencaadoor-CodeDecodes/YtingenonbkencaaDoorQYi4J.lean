import Derived.Test.YtingenonbkencaaDoorQYi3
import Derived.Test.YtingenonbkencaaDoorQKbJ
import Derived.BigRegion
import Derived.Deep.CutBlock
import Derived.Deep.RegionLaw
set_option linter.unusedVariables false
set_option linter.unusedSimpArgs false
namespace Go.Proofs.YtingenonbkencaaDoor
open Go.RowKit (wrap32 wrap64)
set_option maxRecDepth 100000
set_option maxHeartbeats 4000000
theorem thingD_bad {bs : List UInt8} {n : Nat} {s : DS} (h : ¬ (thingD bs n s).2.E = 0) : thingD bs n s = (0, (thingD bs n s).2) := by
 by_cases h0 : s.E = 0
 ·have e : thingD bs n s = (match rd bs s.p n with | .ok v => (v, { s with p := s.p + n, q := s.p }) | .error z => (0, { s with o := z.2, E := z.1 })) := if_pos h0
  rw [e] at h ⊢
  cases hx : rd bs s.p n with
  | ok v => rw [hx] at h; exact absurd h0 h
  | error z => rfl
 ·have e : thingD bs n s = (0, s) := if_neg h0
  rw [e]
theorem instr_shut {r rb : Nat} {a : Option Addr} {c : Nat} {bs : List UInt8} {G : Int} {fa : Option Addr} {fc : Nat} {hs : List HT} {w : World} {s : DS} (h : DR r rb a c bs G (.slice fa hs.length fc) w s) (P R V : Int) (fca : Option Addr) (fcl fcc : Nat) (n : Int) (last : Bool) (hE : ¬ (thingD bs 1 s).2.E = 0) :
 Calls Tryd.prog 46 #[.pointer (some ⟨r, 0, none⟩), .agg #[vI P, vI R, vI V, .slice fca fcl fcc], vI n, .bool last] w fun e w' => ∃ av rv, e = .returned (.agg #[vI (instrD bs G hs R V n last s).1.op, vI (instrD bs G hs R V n last s).1.r, vI (instrD bs G hs R V n last s).1.s, vI (instrD bs G hs R V n last s).1.t, vI (instrD bs G hs R V n last s).1.n, av, rv]) ∧ IOwn w' w.heap.size av (instrD bs G hs R V n last s).1.args ∧ IOwn w' w.heap.size rv (instrD bs G hs R V n last s).1.rets ∧ DR r rb a c bs G (.slice fa hs.length fc) w' (instrD bs G hs R V n last s).2 ∧ Fr (fun j => j = r ∨ j = rb) w w' := by
 have hfv : ∀ z, Value.slice fa hs.length fc ≠ .int .u8 z := fun z e => by cases e
 obtain ⟨W, HW⟩ : ∃ W, W = (w.alloc (.cells #[vI P, vI R, vI V, .slice fca fcl fcc] 67)).alloc (.cells #[vI 0, vI 0, vI 0, vI 0, vI 0, .slice none 0 0, .slice none 0 0] 71) := ⟨_, rfl⟩
 have hf1 : Fr (fun _ => False) w W := by rw [HW]; exact Fr.alloc (Fr.alloc (Fr.refl _ _) _) _
 have hxa : W.heap[w.heap.size]? = some (.cells #[vI P, vI R, vI V, .slice fca fcl fcc] 67) := by
  rw [HW, Go.RowKit.Below.heap_alloc _ _ _ (by simp)]; exact heap_new w _
 have hxb : W.heap[w.heap.size + 1]? = some (.cells #[vI 0, vI 0, vI 0, vI 0, vI 0, .slice none 0 0, .slice none 0 0] 71) := by
  rw [HW, show w.heap.size + 1 = (w.alloc (.cells #[vI P, vI R, vI V, .slice fca fcl fcc] 67)).heap.size by simp]; exact heap_new _ _
 have h1 := h.stay hf1
 have hr : r < w.heap.size := heap_lt h.rd
 have hrb : rb < w.heap.size := heap_lt h.rw
 have HF1 : Hd (Fr (fun j => j = r ∨ j = rb) w W) := hf1.mono (fun _ _ e => e.elim)
 obtain ⟨H, hH⟩ : ∃ H, H = w.heap.size := ⟨_, rfl⟩
 have HH : Hd (H = w.heap.size) := hH
 have HSW : Hd (W.heap.size = H + 2) := by unfold Hd; rw [hH, HW]; simp
 rw [← hH] at hxa hxb hr hrb
 have HBA : Hd (∀ k o, a = some ⟨k, o, none⟩ → bs ≠ [] → k < H) := fun k o e e2 => by have := h.below k o e e2; omega
 have HXA : Hd (∀ wx, Fr (fun j => j = r ∨ j = rb) W wx → wx.heap[H]? = some (.cells #[vI P, vI R, vI V, .slice fca fcl fcc] 67) ∧ wx.heap[H + 1]? = some (.cells #[vI 0, vI 0, vI 0, vI 0, vI 0, .slice none 0 0, .slice none 0 0] 71)) := fun wx f => ⟨(f.block H (heap_lt hxa) (by omega)).trans hxa, (f.block (H + 1) (heap_lt hxb) (by omega)).trans hxb⟩
 -- the operation's byte
 have HID : Hd (instrD bs G hs R V n last s = (⟨0, 0, 0, 0, 0, [], []⟩, (thingD bs 1 s).2)) := by
  unfold Hd instrD opD
  rw [if_neg hE, thingD_bad hE]
  rfl
 have hth := thing_D h1 hfv 1 (by omega) (by omega)
 rw [thingD_bad hE] at hth
 generalize (thingD bs 1 s).2 = t1 at *
 obtain ⟨op, hop0⟩ : ∃ op : Int, op = 0 := ⟨0, rfl⟩
 rw [← hop0] at hth
 have HOP0 : Hd (op = 0) := hop0
 clear h h1 hf1 hxa hxb hop0
 go_enter Tryd.func46, Tryd.ntmps46
 go_upto_region 1 with fail
 rw [← HW, ← hH]
 clear HW hH
 go_wp2_with fail
 refine hth.mono ?_
 rintro e w2 ⟨rfl, h2, f2⟩
 obtain ⟨X, hX⟩ : ∃ X, X = w2.heap.size := ⟨_, rfl⟩
 have hHX : H + 2 ≤ X := by have := f2.size; have := HSW.out; omega
 obtain ⟨W3, hW3⟩ : ∃ W3, W3 = w2.alloc (.cells #[vI op, vI 0, vI 0, vI 0, vI 0, .slice none 0 0, .slice none 0 0] 71) := ⟨_, rfl⟩
 have f3 : Fr (fun _ => False) w2 W3 := by rw [hW3]; exact Fr.alloc (Fr.refl _ _) _
 have HX3 : Hd (XB W3 X ⟨op, 0, 0, 0, 0, [], []⟩ (.slice none 0 0) (.slice none 0 0)) := by unfold Hd XB; rw [hW3, hX]; exact heap_new w2 _
 have HG3 : Hd (DR r rb a c bs G (.slice fa hs.length fc) W3 t1) := h2.stay f3
 have HF3 : Hd (Fr (fun j => j = r ∨ j = rb) W W3) := f2.trans (f3.mono (fun _ _ e => e.elim))
 have HW3 : Hd (W3 = w2.alloc (.cells #[vI op, vI 0, vI 0, vI 0, vI 0, .slice none 0 0, .slice none 0 0] 71)) := hW3
 have HXS : Hd (X = w2.heap.size) := hX
 have hne := h2.ne
 have hop := ropen_any r rb _ G _ W3 _ _ _ _ _ HG3.out.rd HG3.out.rw
 have hb : (t1.E == 0) = false := by simpa using hE
 rw [hb] at hop
 clear hth h2 f2 f3 hW3 hX
 go_upto_region 2 with fail
 rw [← HW3.out, ← HXS.out]
 clear HW3 HXS
 go_wp2_with fail
 refine hop.mono ?_
 rintro e w4 ⟨rfl, rfl⟩
 clear hop
 have hto := rtold_any r rb _ G _ w4 _ _ _ _ _ HG3.out.rd HG3.out.rw false t1.q hne
 have e9 : toldO false t1.E t1.q t1.o = t1.o := if_neg (fun h => by cases h.1)
 rw [e9] at hto
 have e0 := HG3.out.rd.cells.1
 have e3 := HG3.out.rd.cells.2.2.2.1
 clear e9 hb
 go_wp2_with fail
 refine hto.mono ?_
 rintro e w6 ⟨rfl, h6, k6, f6⟩
 have HG6 : Hd (DR r rb a c bs G (.slice fa hs.length fc) w6 t1) := ⟨h6, k6, HG3.out.bytes' hfv (f6.mono (fun _ _ e => Or.inl e)), hne, HG3.out.le⟩
 have HX6 : Hd (XB w6 X ⟨op, 0, 0, 0, 0, [], []⟩ (.slice none 0 0) (.slice none 0 0)) := HX3.out.fr f6 (by omega)
 have HF6 : Hd (Fr (fun j => j = r ∨ j = rb) W w6) := HF3.out.trans (f6.mono (fun _ _ e => Or.inl e))
 have y0 := HX6.out.cells.1
 simp only at y0
 have hpa := rparts op w6
 have HB : Hd (partsB op = ⟨(partsN op.toNat).toList.toArray⟩) := rfl
 have HLN : Hd ((partsN op.toNat).toList.length = 0) := by unfold Hd; rw [HOP0.out]; rfl
 clear hto h6 k6 f6 HG3 HX3 HF3 e0 e3 hE
 generalize (partsN op.toNat).toList = l at *
 rw [HB.out] at hpa
 go_wp2_with fail
 refine hpa.mono ?_
 rintro e w7 ⟨rfl, f7⟩
 have HG7 : Hd (DR r rb a c bs G (.slice fa hs.length fc) w7 t1) := HG6.out.stay f7
 have HX7 : Hd (XB w7 X ⟨op, 0, 0, 0, 0, [], []⟩ (.slice none 0 0) (.slice none 0 0)) := HX6.out.fr f7 (fun e => e)
 have HF7 : Hd (Fr (fun j => j = r ∨ j = rb) W w7) := HF6.out.trans (f7.mono (fun _ _ e => e.elim))
 clear hpa f7 HG6 HX6 HF6 y0 HB
 go_wp2_with fail
 go_loopw [12] (fun i wr => ∃ (x : PI) (t : DS) (aa : Option Addr) (la ca : Nat) (ra : Option Addr) (lr cr : Nat), i = .int .i64 0 ∧ Hd (DR r rb a c bs G (.slice fa hs.length fc) wr t) ∧ Hd (XB wr X x (.slice aa la ca) (.slice ra lr cr)) ∧ Hd (IOwn wr (X + 1) (.slice aa la ca) x.args) ∧ Hd (IOwn wr (X + 1) (.slice ra lr cr) x.rets) ∧ Hd (((⟨op, 0, 0, 0, 0, [], []⟩, t1) : PI × DS) = (x, t)) ∧ Hd (Fr (fun j => j = r ∨ j = rb) W wr)) (fun i _ => 0)
 case atStart => exact ⟨⟨op, 0, 0, 0, 0, [], []⟩, t1, _, _, _, _, _, _, rfl, HG7, HX7, World.ownsRow_nil _ _ _ _, World.ownsRow_nil _ _ _ _, rfl, HF7⟩
 case round =>
  clear HG7 HX7 HF7
  obtain ⟨x, t, aa, la, ca, ra, lr, cr, rfl, HT, HX, HA, HR, HV, HF⟩ := hrel
  obtain ⟨x0, x1, x2, x3, x4, x5, x6, hz, hXlt⟩ := HX.out.cells
  have hl0 : l.length = 0 := HLN.out
  obtain rfl : l = [] := List.eq_nil_of_length_eq_zero hl0
  clear hl0
  have HR2 : Hd (instrD bs G hs R V n last s = (x, t)) := by unfold Hd; rw [HID.out, ← HV.out, HOP0.out]
  obtain ⟨-, gb⟩ := HXA.out wr HF.out
  have b0 : wr.cell? ⟨H + 1, 0, none⟩ = some (vI 0) := by rw [cell_of gb]; rfl
  have b1 : wr.cell? ⟨H + 1, 1, none⟩ = some (vI 0) := by rw [cell_of gb]; rfl
  have b2 : wr.cell? ⟨H + 1, 2, none⟩ = some (vI 0) := by rw [cell_of gb]; rfl
  have b3 : wr.cell? ⟨H + 1, 3, none⟩ = some (vI 0) := by rw [cell_of gb]; rfl
  have b4 : wr.cell? ⟨H + 1, 4, none⟩ = some (vI 0) := by rw [cell_of gb]; rfl
  have b5 : wr.cell? ⟨H + 1, 5, none⟩ = some (.slice none 0 0) := by rw [cell_of gb]; rfl
  have b6 : wr.cell? ⟨H + 1, 6, none⟩ = some (.slice none 0 0) := by rw [cell_of gb]; rfl
  have z0 := frozen_of gb 0
  have z1 := frozen_of gb 1
  have z2 := frozen_of gb 2
  have z3 := frozen_of gb 3
  have z4 := frozen_of gb 4
  have z5 := frozen_of gb 5
  have z6 := frozen_of gb 6
  have fz := st7_fr wr (H + 1) (vI x.op) (vI x.r) (vI x.s) (vI x.t) (vI x.n) (.slice aa la ca) (.slice ra lr cr)
  have HXZ : Hd ((st7 wr (H + 1) (vI x.op) (vI x.r) (vI x.s) (vI x.t) (vI x.n) (.slice aa la ca) (.slice ra lr cr)).heap[H + 1]? = some (.cells #[vI x.op, vI x.r, vI x.s, vI x.t, vI x.n, .slice aa la ca, .slice ra lr cr] 71)) := st7_of gb _ _ _ _ _ _ _
  have HGZ : Hd (DR r rb a c bs G (.slice fa hs.length fc) (st7 wr (H + 1) (vI x.op) (vI x.r) (vI x.s) (vI x.t) (vI x.n) (.slice aa la ca) (.slice ra lr cr)) t) := HT.out.apart fz (by omega) (by omega) (fun k o e e2 => by have := HBA.out k o e e2; omega)
  have HAZ : Hd (IOwn (st7 wr (H + 1) (vI x.op) (vI x.r) (vI x.s) (vI x.t) (vI x.n) (.slice aa la ca) (.slice ra lr cr)) w.heap.size (.slice aa la ca) x.args) := (HA.out.fr fz (fun j hj e => by have := (HA.out.ge j hj).1; omega)).mono (by have := HH.out; omega)
  have HRZ : Hd (IOwn (st7 wr (H + 1) (vI x.op) (vI x.r) (vI x.s) (vI x.t) (vI x.n) (.slice aa la ca) (.slice ra lr cr)) w.heap.size (.slice ra lr cr) x.rets) := (HR.out.fr fz (fun j hj e => by have := (HR.out.ge j hj).1; omega)).mono (by have := HH.out; omega)
  have HFZ : Hd (Fr (fun j => j = r ∨ j = rb) w (st7 wr (H + 1) (vI x.op) (vI x.r) (vI x.s) (vI x.t) (vI x.n) (.slice aa la ca) (.slice ra lr cr))) := Fr.then (HF1.out.trans HF.out) fz (fun j hj e => by have := HH.out; omega)
  clear fz gb HT HX HA HR HF HV hz
  go_wp2_with fail
  change bodyPost _ _ _ _ _ (st7 wr (H + 1) (vI x.op) (vI x.r) (vI x.s) (vI x.t) (vI x.n) (.slice aa la ca) (.slice ra lr cr))
  generalize st7 wr (H + 1) (vI x.op) (vI x.r) (vI x.s) (vI x.t) (vI x.n) (.slice aa la ca) (.slice ra lr cr) = wz at *
  have e0 : wz.cell? ⟨H + 1, 0, none⟩ = some (vI x.op) := by rw [cell_of HXZ.out]; rfl
  have e1 : wz.cell? ⟨H + 1, 1, none⟩ = some (vI x.r) := by rw [cell_of HXZ.out]; rfl
  have e2 : wz.cell? ⟨H + 1, 2, none⟩ = some (vI x.s) := by rw [cell_of HXZ.out]; rfl
  have e3 : wz.cell? ⟨H + 1, 3, none⟩ = some (vI x.t) := by rw [cell_of HXZ.out]; rfl
  have e4 : wz.cell? ⟨H + 1, 4, none⟩ = some (vI x.n) := by rw [cell_of HXZ.out]; rfl
  have e5 : wz.cell? ⟨H + 1, 5, none⟩ = some (.slice aa la ca) := by rw [cell_of HXZ.out]; rfl
  have e6 : wz.cell? ⟨H + 1, 6, none⟩ = some (.slice ra lr cr) := by rw [cell_of HXZ.out]; rfl
  refine bodyPost_ret (v := .agg #[vI x.op, vI x.r, vI x.s, vI x.t, vI x.n, .slice aa la ca, .slice ra lr cr]) ?_ rfl (by rw [HR2.out]; exact ⟨.slice aa la ca, .slice ra lr cr, rfl, HAZ.out, HRZ.out, HGZ.out, HFZ.out⟩)
  rw [results_cell (p := 8) (ty := 71) Tryd.results46]
  simp [go_sem, e0, e1, e2, e3, e4, e5, e6]
theorem parts_in : ∀ k, k < 18 → ∀ u ∈ (partsN k).toList, u ∈ ([82, 83, 84, 65, 66, 86, 99, 102, 103, 70, 74, 105] : List UInt8) ∧ ((u = 65 ∨ u = 66) → k = 11) := by decide
theorem parts_far (k : Nat) (h : 18 ≤ k) : (partsN k).toList = [] := by
 unfold partsN
 split <;> first | omega | rfl
theorem instr_D {r rb : Nat} {a : Option Addr} {c : Nat} {bs : List UInt8} {G : Int} {fa : Option Addr} {fc : Nat} {hs : List HT} {w : World} {s : DS} (h : DR r rb a c bs G (.slice fa hs.length fc) w s) (hlow : LowD s) (HI : HIn r rb w fa hs) (P R V : Int) (fca : Option Addr) (fcl fcc : Nat) (n : Int) (last : Bool) :
 Calls Tryd.prog 46 #[.pointer (some ⟨r, 0, none⟩), .agg #[vI P, vI R, vI V, .slice fca fcl fcc], vI n, .bool last] w fun e w' => ∃ av rv, e = .returned (.agg #[vI (instrD bs G hs R V n last s).1.op, vI (instrD bs G hs R V n last s).1.r, vI (instrD bs G hs R V n last s).1.s, vI (instrD bs G hs R V n last s).1.t, vI (instrD bs G hs R V n last s).1.n, av, rv]) ∧ IOwn w' w.heap.size av (instrD bs G hs R V n last s).1.args ∧ IOwn w' w.heap.size rv (instrD bs G hs R V n last s).1.rets ∧ DR r rb a c bs G (.slice fa hs.length fc) w' (instrD bs G hs R V n last s).2 ∧ Fr (fun j => j = r ∨ j = rb) w w' := by
 by_cases hE : (thingD bs 1 s).2.E = 0
 ·have hkk : ∀ k, k < (partsN (opD bs last s).1.op.toNat).toList.length → (opD bs last s).1.op.toNat < 18 := fun k hk => by
   rcases Nat.lt_or_ge (opD bs last s).1.op.toNat 18 with h | h
   ·exact h
   ·rw [parts_far _ h] at hk; simp at hk
  refine instr_open h hlow HI P R V fca fcl fcc n last hE (fun k hk hu h0 => ?_) (fun k hk => (parts_in _ (hkk k hk) _ (List.getElem_mem hk)).1)
  have h11 := (parts_in _ (hkk k hk) _ (List.getElem_mem hk)).2 hu
  -- the callee's number has been asked
  have hu3 : (partsN (opD bs last s).1.op.toNat).toList[k]? = some 65 ∨ (partsN (opD bs last s).1.op.toNat).toList[k]? = some 66 := by
   rw [List.getElem?_eq_getElem hk]
   rcases hu with h | h
   ·exact Or.inl (by rw [h])
   ·exact Or.inr (by rw [h])
  clear hu hkk
  generalize opD bs last s = x0 at *
  rw [h11] at hk h0 hu3 ⊢
  have h70 : (letS bs G hs R V n x0 70).2.E = 0 → 0 ≤ (letS bs G hs R V n x0 70).1.n ∧ (letS bs G hs R V n x0 70).1.n < hs.length := fun e => by
   unfold letS at e ⊢
   by_cases he : x0.2.E = 0
   ·rw [if_pos he] at e ⊢
    have e2 : (numD bs 2 (fun v E => mustE (numB 0 hs.length v) 14 E) x0.2).2.E = 0 := e
    show 0 ≤ (numD bs 2 (fun v E => mustE (numB 0 hs.length v) 14 E) x0.2).1 ∧ (numD bs 2 (fun v E => mustE (numB 0 hs.length v) 14 E) x0.2).1 < hs.length
    unfold numD at e2 ⊢
    by_cases h2 : (thingD bs 2 x0.2).2.E = 0
    ·simp only [h2, if_true] at e2
     have := (mustE_two (by decide) e2).1
     unfold numB at this
     simpa using this
    ·simp only [h2, if_false] at e2
   ·rw [if_neg he] at e
    exact absurd e he
  have hk3 : k < 3 := hk
  rcases (show k = 0 ∨ k = 1 ∨ k = 2 by omega) with rfl | rfl | rfl
  ·rcases hu3 with h | h <;> exact absurd h (by decide)
  ·exact h70 h0
  ·have h0 : (letS bs G hs R V n (letS bs G hs R V n x0 70) 65).2.E = 0 := h0
   show 0 ≤ (letS bs G hs R V n (letS bs G hs R V n x0 70) 65).1.n ∧ (letS bs G hs R V n (letS bs G hs R V n x0 70) 65).1.n < hs.length
   have h1 := (letS_le bs G hs R V n 65 (letS bs G hs R V n x0 70)).2 h0
   have h2 := h70 h1
   have e : letS bs G hs R V n (letS bs G hs R V n x0 70) 65 = letD bs G hs R V n 65 (letS bs G hs R V n x0 70) := if_pos h1
   rw [e]
   exact h2
 ·exact instr_shut h P R V fca fcl fcc n last hE
theorem DR.frS {S : Nat → Prop} {r rb : Nat} {a : Option Addr} {c : Nat} {bs : List UInt8} {G : Int} {fv : Value} {w w' : World} {s : DS} (h : DR r rb a c bs G fv w s) (f : Fr S w w') (h1 : ¬ S r) (h2 : ¬ S rb) (h3 : ∀ k o, a = some ⟨k, o, none⟩ → bs ≠ [] → ¬ S k) : DR r rb a c bs G fv w' s := by
 refine ⟨h.rd.fr f h1, h.rw.fr f h2, ?_, h.ne, h.le⟩
 obtain ⟨hL, a', c', e, hc, hb⟩ := h.bytes
 cases e
 refine ⟨hL, a, c, rfl, hc, fun hne => ?_⟩
 obtain ⟨k, o, e2, hk, hcell⟩ := hb hne
 exact ⟨k, o, e2, Nat.lt_of_lt_of_le hk f.size, fun i hi => (f.cell hk (h3 k o e2 hne)).trans (hcell i hi)⟩
theorem RW.setF {rb : Nat} {G : Int} {fv : Value} {w : World} {L E : Int} (h : RW rb G fv w L E) (v : Value) : RW rb G v (w.setCell ⟨rb, 1, none⟩ v) L E := set_of h 1 v
theorem RW.setG {rb : Nat} {G : Int} {fv : Value} {w : World} {L E : Int} (h : RW rb G fv w L E) (z : Int) : RW rb z fv (w.setCell ⟨rb, 0, none⟩ (vI z)) L E := set_of h 0 (vI z)
theorem DR.setF {r rb : Nat} {a : Option Addr} {c : Nat} {bs : List UInt8} {G : Int} {fv : Value} {w : World} {s : DS} (h : DR r rb a c bs G fv w s) (hfv : ∀ z, fv ≠ .int .u8 z) (v : Value) : DR r rb a c bs G v (w.setCell ⟨rb, 1, none⟩ v) s :=
 ⟨h.rd.fr (S := fun j => j = rb) (setCell_fr w rb 1 v) (fun e => h.ne e.symm), h.rw.setF v, h.bytes' hfv ((setCell_fr w rb 1 v).mono (fun _ _ e => Or.inr e)), h.ne, h.le⟩
theorem DR.setG {r rb : Nat} {a : Option Addr} {c : Nat} {bs : List UInt8} {G : Int} {fv : Value} {w : World} {s : DS} (h : DR r rb a c bs G fv w s) (hfv : ∀ z, fv ≠ .int .u8 z) (z : Int) : DR r rb a c bs z fv (w.setCell ⟨rb, 0, none⟩ (vI z)) s :=
 ⟨h.rd.fr (S := fun j => j = rb) (setCell_fr w rb 0 (vI z)) (fun e => h.ne e.symm), h.rw.setG z, h.bytes' hfv ((setCell_fr w rb 0 (vI z)).mono (fun _ _ e => Or.inr e)), h.ne, h.le⟩
def hf (h : HT) : FI := (⟨h.1, h.2.1, h.2.2.1, []⟩, .slice none 0 0, [])
theorem CO.none (w : World) (B : Nat) : CO w B (.slice none 0 0) [] := ⟨World.ownsRow_nil _ _ _ _, fun x hx => by simp at hx⟩
theorem CO.keepG {w w' : World} {B e sz n : Nat} {v u : Value} {xs : List Value} {M : List CI} (hM : CO w B v M) (hr : w.ownsRow B e sz u n xs) (he1 : e ≠ 71) (he3 : e ≠ 3) (hg : w.grownBy w' u.ownBlock) : CO w' B v M :=
 hM.fr (grown_frL hg) (fun j e1 e2 => own_apart hr hM.row he1 j e1 e2) (fun y hy j e1 e2 => by
  rcases e1 with e1 | e1
  ·exact own_apart hr (hM.ints y hy).1 he3 j e1 e2
  ·exact own_apart hr (hM.ints y hy).2 he3 j e1 e2)
theorem FO.addH {w w' : World} {B g cap : Nat} {v : Value} {L : List FI} (h : FO w B v L) (x : HT) (hg : w.grownBy w' v.ownBlock) (hown : w'.ownsRow B 67 4 (.slice (some ⟨g, 0, none⟩) (L.length + 1) cap) (L.length + 1) (L.flatMap rowF ++ [vI x.1, vI x.2.1, vI x.2.2.1, .slice none 0 0])) : FO w' B (.slice (some ⟨g, 0, none⟩) (L.length + 1) cap) (L ++ [hf x]) := by
 refine ⟨?_, fun y hy => ?_⟩
 ·rw [List.length_append, List.flatMap_append]
  show w'.ownsRow B 67 4 _ (L.length + 1) (L.flatMap rowF ++ (rowF (hf x) ++ []))
  rw [List.append_nil]
  exact hown
 ·rcases List.mem_append.1 hy with hy | hy
  ·exact ⟨(h.code y hy).1.keepG h.row (by decide) (by decide) hg, (h.code y hy).2⟩
  ·simp at hy
   subst hy
   exact ⟨CO.none _ _, rfl⟩
theorem FO.frI {S : Nat → Prop} {w w' : World} {B : Nat} {v : Value} {L : List FI} (h : FO w B v L) (f : Fr S w w') (h1 : ∀ k, v.ownBlock = some k → ¬ S k) (h2 : ∀ x ∈ L, ∀ k, x.2.1.ownBlock = some k → ¬ S k) (h3 : ∀ x ∈ L, ∀ y ∈ x.2.2, ∀ k, (y.2.1.ownBlock = some k ∨ y.2.2.ownBlock = some k) → ¬ S k) : FO w' B v L :=
 ⟨ownsRow_frL h.row f h1, fun x hx => ⟨(h.code x hx).1.fr f (h2 x hx) (h3 x hx), (h.code x hx).2⟩⟩
theorem FO.heads {w : World} {B : Nat} {v : Value} {hs : List HT} (h : w.ownsRow B 67 4 v hs.length ((hs.map hf).flatMap rowF)) : FO w B v (hs.map hf) :=
 ⟨by rw [List.length_map]; exact h, fun x hx => by
  obtain ⟨y, -, rfl⟩ := List.mem_map.1 hx
  exact ⟨CO.none _ _, rfl⟩⟩
structure S1 (w : World) (H : Nat) (a : Option Addr) (c : Nat) (bs : List UInt8) (G : Int) (fv u : Value) (hs : List HT) (ns : List Int) (t : DS) : Prop where
 dr : DR (H + 1 + 1) (H + 1) a c bs G fv w t
 fo : FO w (H + 3) fv (hs.map hf)
 sz : IOwn w (H + 3) u ns
 ba : ∀ k o, a = some ⟨k, o, none⟩ → bs ≠ [] → k < H
theorem S1.far {S : Nat → Prop} {w w' : World} {H : Nat} {a : Option Addr} {c : Nat} {bs : List UInt8} {G : Int} {fv u : Value} {hs : List HT} {ns : List Int} {t t' : DS} (h : S1 w H a c bs G fv u hs ns t) (f : Fr S w w') (hS : ∀ k, S k → k < H + 3) (d : DR (H + 1 + 1) (H + 1) a c bs G fv w' t') : S1 w' H a c bs G fv u hs ns t' :=
 ⟨d, h.fo.far f hS, h.sz.fr f (fun k e e2 => by have := (h.sz.ge k e).1; have := hS k e2; omega), h.ba⟩
theorem S1.stay {w w' : World} {H : Nat} {a : Option Addr} {c : Nat} {bs : List UInt8} {G : Int} {fv u : Value} {hs : List HT} {ns : List Int} {t : DS} (h : S1 w H a c bs G fv u hs ns t) (f : Fr (fun _ => False) w w') : S1 w' H a c bs G fv u hs ns t := h.far f (fun _ e => e.elim) (h.dr.stay f)
theorem S1.shape {w : World} {H : Nat} {a : Option Addr} {c : Nat} {bs : List UInt8} {G : Int} {fv u : Value} {hs : List HT} {ns : List Int} {t : DS} (h : S1 w H a c bs G fv u hs ns t) : ∃ va vc, fv = .slice va hs.length vc := by
 obtain ⟨p, q, e⟩ := h.fo.shape
 rw [List.length_map] at e
 exact ⟨p, q, e⟩
theorem S1.app {w w9 : World} {H : Nat} {a : Option Addr} {c : Nat} {bs : List UInt8} {G : Int} {fv u : Value} {hs : List HT} {ns : List Int} {t : DS} (h : S1 w H a c bs G fv u hs ns t) (x : HT) {g cap : Nat} (hg : w.grownBy w9 fv.ownBlock) (hown : w9.ownsRow (H + 3) 67 4 (.slice (some ⟨g, 0, none⟩) (hs.length + 1) cap) (hs.length + 1) ((hs.map hf).flatMap rowF ++ [vI x.1, vI x.2.1, vI x.2.2.1, .slice none 0 0])) :
 S1 (w9.setCell ⟨H + 1, 1, none⟩ (.slice (some ⟨g, 0, none⟩) (hs.length + 1) cap)) H a c bs G (.slice (some ⟨g, 0, none⟩) (hs.length + 1) cap) u (hs ++ [x]) ns t ∧ w9.cell? ⟨H + 1, 1, none⟩ = some fv ∧ w9.frozen? ⟨H + 1, 1, none⟩ = false ∧ Fr (fun k => k = H + 1 ∨ H + 3 ≤ k) w (w9.setCell ⟨H + 1, 1, none⟩ (.slice (some ⟨g, 0, none⟩) (hs.length + 1) cap)) := by
 have f1 := grown_frL hg
 have hge : ∀ k, fv.ownBlock = some k → H + 3 ≤ k := fun k e => (World.ownsRow.lt h.fo.row k e).1
 have hfv : ∀ z, fv ≠ .int .u8 z := fun z e => by obtain ⟨p, q, e2⟩ := h.shape; rw [e2] at e; cases e
 have d9 : DR (H + 1 + 1) (H + 1) a c bs G fv w9 t := h.dr.frS f1 (fun e => by have := hge _ e; omega) (fun e => by have := hge _ e; omega) (fun k o e e2 e3 => by have := hge _ e3; have := h.ba k o e e2; omega)
 have f2 := setCell_fr w9 (H + 1) 1 (.slice (some ⟨g, 0, none⟩) (hs.length + 1) cap)
 have hL : (hs.map hf).length = hs.length := List.length_map ..
 have fo9 : FO w9 (H + 3) (.slice (some ⟨g, 0, none⟩) (hs.length + 1) cap) (hs.map hf ++ [hf x]) := by
  have := h.fo.addH (g := g) (cap := cap) x hg (by rw [hL]; exact hown)
  rw [hL] at this
  exact this
 refine ⟨⟨d9.setF hfv _, ?_, ?_, h.ba⟩, d9.rw.cells.2.1, d9.rw.cells.2.2.2.2.1 1, (f1.mono (fun k _ e => Or.inr (hge k e))).trans (f2.mono (fun _ _ e => Or.inl e))⟩
 ·rw [List.map_append]
  exact fo9.far f2 (fun k e => by omega)
 ·have s9 : IOwn w9 (H + 3) u ns := h.sz.fr f1 (fun j e e2 => own_apart h.fo.row h.sz (by decide) j e e2)
  exact s9.fr f2 (fun k e e2 => by have := (s9.ge k e).1; omega)
theorem S1.size {w w9 : World} {H : Nat} {a : Option Addr} {c : Nat} {bs : List UInt8} {G : Int} {fv u : Value} {hs : List HT} {h0 : List HT} {x : HT} {t : DS} {g cap : Nat} (h : S1 w H a c bs G fv u hs (h0.map (·.2.2.2)) t) (f : Fr (fun k => u.ownBlock = some k) w w9) (hown : w9.ownsRow (H + 3) 3 1 (.slice (some ⟨g, 0, none⟩) (h0.length + 1) cap) (h0.length + 1) ((h0.map (·.2.2.2)).map vI ++ [vI x.2.2.2])) :
 S1 w9 H a c bs G fv (.slice (some ⟨g, 0, none⟩) (h0.length + 1) cap) hs ((h0 ++ [x]).map (·.2.2.2)) t := by
 have hge : ∀ k, u.ownBlock = some k → H + 3 ≤ k := fun k e => (h.sz.ge k e).1
 have hL : (hs.map hf).length = hs.length := List.length_map ..
 refine ⟨h.dr.frS f (fun e => by have := hge _ e; omega) (fun e => by have := hge _ e; omega) (fun k o e e2 e3 => by have := hge _ e3; have := h.ba k o e e2; omega), ?_, ?_, h.ba⟩
 ·refine FO.heads ?_
  have := h.fo.row
  rw [hL] at this
  exact ownsRow_frL this f (fun k e e2 => own_apart h.sz h.fo.row (by decide) k e e2)
 ·unfold IOwn
  rw [List.map_append, List.map_append, List.length_append, List.length_map]
  exact hown
theorem magicD_low {bs : List UInt8} {s : DS} (h : LowD s) : LowD (magicD bs s) := by
 unfold magicD
 split
 ·exact h.le (thingD_le bs 6 s)
 ·exact ⟨h.1, fun e => absurd e (show (10 : Int) ≠ 0 by decide)⟩
theorem thingD_two {bs : List UInt8} {s : DS} : 0 ≤ (thingD bs 2 s).1 ∧ (thingD bs 2 s).1 ≤ 65535 := by
 unfold thingD
 split
 ·cases hx : rd bs s.p 2 with
  | error z => simp
  | ok v =>
    unfold rd at hx
    split at hx
    ·have e := Except.ok.inj hx
     have h1 := leAt_lt bs s.p 2
     have h2 : leAt bs s.p 2 ≤ 65535 := by omega
     rw [← e, w64r (by omega) (by omega)]
     exact ⟨by simp, by simpa using (by omega : ((leAt bs s.p 2 : Nat) : Int) ≤ 65535)⟩
    ·cases hx
 ·simp
theorem row_set {w : World} {B e sz n g cap j : Nat} {xs : List Value} (h : w.ownsRow B e sz (.slice (some ⟨g, 0, none⟩) n cap) n xs) (u : Value) :
 (w.setCell ⟨g, j, none⟩ u).ownsRow B e sz (.slice (some ⟨g, 0, none⟩) n cap) n (xs.set j u) ∧ w.frozen? ⟨g, j, none⟩ = false := by
 obtain ⟨h0, h1⟩ := h
 rcases h1 with ⟨e1, -⟩ | ⟨g', cap', cur, e1, k1, k2, k3, k4, k5, k6⟩
 ·cases e1
 ·cases e1
  refine ⟨⟨by rw [List.length_set]; exact h0, Or.inr ⟨g, cap, cur.setIfInBounds j u, rfl, k1, set_of k2 j u, k3, k4, by simpa using k5, ?_⟩⟩, frozen_of k2 j⟩
  rw [← k6, Array.toList_setIfInBounds, List.take_set]
theorem rowF_len (L : List FI) : (L.flatMap rowF).length = L.length * 4 := flat_len rowF 4 (fun _ => rfl) L
theorem rowF_set (D : List FI) (m m' : FI) (R : List FI) (h0 : m'.1.P = m.1.P) (h1 : m'.1.R = m.1.R) (h2 : m'.1.V = m.1.V) : ((D ++ m :: R).flatMap rowF).set (D.length * 4 + 3) m'.2.1 = (D ++ m' :: R).flatMap rowF := by
 rw [List.flatMap_append, List.flatMap_append, List.flatMap_cons, List.flatMap_cons]
 rw [List.set_append_right _ _ (by rw [rowF_len]; omega), rowF_len, show D.length * 4 + 3 - D.length * 4 = 3 by omega]
 congr 1
 show ([vI m.1.P, vI m.1.R, vI m.1.V, m.2.1] ++ R.flatMap rowF).set 3 m'.2.1 = [vI m'.1.P, vI m'.1.R, vI m'.1.V, m'.2.1] ++ R.flatMap rowF
 rw [h0, h1, h2]
 rfl
structure S3 (w : World) (H : Nat) (a : Option Addr) (c : Nat) (bs : List UInt8) (G : Int) (N g cap : Nat) (u : Value) (hs : List HT) (D : List FI) (f : HT) (R : List HT) (cv : Value) (Lc : List CI) (B1 : Nat) (t : DS) : Prop where
 dr : DR (H + 1 + 1) (H + 1) a c bs G (.slice (some ⟨g, 0, none⟩) N cap) w t
 fo : FO w (H + 3) (.slice (some ⟨g, 0, none⟩) N cap) (D ++ ((⟨f.1, f.2.1, f.2.2.1, Lc.map (·.1)⟩ : PF), cv, Lc) :: R.map hf)
 len : (D ++ ((⟨f.1, f.2.1, f.2.2.1, Lc.map (·.1)⟩ : PF), cv, Lc) :: R.map hf).length = N
 hd : (D ++ hf f :: R.map hf).map (fun x => (x.1.P, x.1.R)) = hs.map (fun h => (h.1, h.2.1))
 sz : IOwn w (H + 3) u (hs.map (·.2.2.2))
 ba : ∀ k o, a = some ⟨k, o, none⟩ → bs ≠ [] → k < H
 lo : ∀ x ∈ D, ∀ k, x.2.1.ownBlock = some k → k < B1
 hi : ∀ k, cv.ownBlock = some k → B1 ≤ k
 b1 : H + 3 ≤ B1
theorem S3.far {S : Nat → Prop} {w w' : World} {H : Nat} {a : Option Addr} {c : Nat} {bs : List UInt8} {G : Int} {N g cap : Nat} {u : Value} {hs : List HT} {D : List FI} {f : HT} {R : List HT} {cv : Value} {Lc : List CI} {B1 : Nat} {t t' : DS} (h : S3 w H a c bs G N g cap u hs D f R cv Lc B1 t) (fr : Fr S w w') (hS : ∀ k, S k → k < H + 3) (d : DR (H + 1 + 1) (H + 1) a c bs G (.slice (some ⟨g, 0, none⟩) N cap) w' t') : S3 w' H a c bs G N g cap u hs D f R cv Lc B1 t' :=
 ⟨d, h.fo.far fr hS, h.len, h.hd, h.sz.fr fr (fun k e e2 => by have := (h.sz.ge k e).1; have := hS k e2; omega), h.ba, h.lo, h.hi, h.b1⟩
theorem S3.stay {w w' : World} {H : Nat} {a : Option Addr} {c : Nat} {bs : List UInt8} {G : Int} {N g cap : Nat} {u : Value} {hs : List HT} {D : List FI} {f : HT} {R : List HT} {cv : Value} {Lc : List CI} {B1 : Nat} {t : DS} (h : S3 w H a c bs G N g cap u hs D f R cv Lc B1 t) (fr : Fr (fun _ => False) w w') : S3 w' H a c bs G N g cap u hs D f R cv Lc B1 t := h.far fr (fun _ e => e.elim) (h.dr.stay fr)
theorem S3.co {w : World} {H : Nat} {a : Option Addr} {c : Nat} {bs : List UInt8} {G : Int} {N g cap : Nat} {u : Value} {hs : List HT} {D : List FI} {f : HT} {R : List HT} {cv : Value} {Lc : List CI} {B1 : Nat} {t : DS} (h : S3 w H a c bs G N g cap u hs D f R cv Lc B1 t) : CO w (H + 3) cv Lc := (h.fo.code _ (List.mem_append_right _ List.mem_cons_self)).1
theorem S3.cell {w : World} {H : Nat} {a : Option Addr} {c : Nat} {bs : List UInt8} {G : Int} {N g cap : Nat} {u : Value} {hs : List HT} {D : List FI} {f : HT} {R : List HT} {cv : Value} {Lc : List CI} {B1 : Nat} {t : DS} (h : S3 w H a c bs G N g cap u hs D f R cv Lc B1 t) :
 w.cell? ⟨g, D.length * 4, none⟩ = some (vI f.1) ∧ w.cell? ⟨g, D.length * 4 + 1, none⟩ = some (vI f.2.1) ∧ w.cell? ⟨g, D.length * 4 + 2, none⟩ = some (vI f.2.2.1) ∧ w.cell? ⟨g, D.length * 4 + 3, none⟩ = some cv ∧ (∀ j, w.frozen? ⟨g, j, none⟩ = false) ∧ g < w.heap.size ∧ H + 3 ≤ g := by
 have hr := h.fo.row
 rw [h.len] at hr
 have pc : ∀ o u, o < 4 → (rowF ((⟨f.1, f.2.1, f.2.2.1, Lc.map (·.1)⟩ : PF), cv, Lc))[o]? = some u → w.cell? ⟨g, D.length * 4 + o, none⟩ = some u := fun o u ho hu => by
  have hj : D.length < (D ++ ((⟨f.1, f.2.1, f.2.2.1, Lc.map (·.1)⟩ : PF), cv, Lc) :: R.map hf).length := by simp
  obtain ⟨g', cap', e', -, hc⟩ := own_cell hr (j := D.length * 4 + o) (u := u) (by rw [flat_get rowF 4 (fun _ => rfl) _ D.length o hj ho]; simpa using hu)
  cases e'
  exact hc
 exact ⟨pc 0 _ (by omega) rfl, pc 1 _ (by omega) rfl, pc 2 _ (by omega) rfl, pc 3 _ (by omega) rfl, fun j => (row_set (j := j) hr (vI 0)).2, (World.ownsRow.lt hr g rfl).2, (World.ownsRow.lt hr g rfl).1⟩
theorem S3.hin {w : World} {H : Nat} {a : Option Addr} {c : Nat} {bs : List UInt8} {G : Int} {N g cap : Nat} {u : Value} {hs : List HT} {D : List FI} {f : HT} {R : List HT} {cv : Value} {Lc : List CI} {B1 : Nat} {t : DS} (h : S3 w H a c bs G N g cap u hs D f R cv Lc B1 t) : HIn (H + 1 + 1) (H + 1) w (some ⟨g, 0, none⟩) hs := by
 intro j hj
 have hr := h.fo.row
 rw [h.len] at hr
 have hlen : (D ++ ((⟨f.1, f.2.1, f.2.2.1, Lc.map (·.1)⟩ : PF), cv, Lc) :: R.map hf).length = hs.length := by
  have := congrArg List.length h.hd
  simpa using this
 have hg := h.cell.2.2.2.2.2
 have hjL : j < (D ++ ((⟨f.1, f.2.1, f.2.2.1, Lc.map (·.1)⟩ : PF), cv, Lc) :: R.map hf).length := by rw [hlen]; exact hj
 have hh : (D ++ ((⟨f.1, f.2.1, f.2.2.1, Lc.map (·.1)⟩ : PF), cv, Lc) :: R.map hf).map (fun x => (x.1.P, x.1.R)) = hs.map (fun h => (h.1, h.2.1)) := by
  rw [← h.hd]
  simp [hf]
 have he := congrArg (fun l => l[j]?) hh
 simp only [List.getElem?_map, List.getElem?_eq_getElem hj, List.getElem?_eq_getElem hjL, Option.map_some, Option.some.injEq, Prod.mk.injEq] at he
 have pc : ∀ o u, o < 4 → (rowF (D ++ ((⟨f.1, f.2.1, f.2.2.1, Lc.map (·.1)⟩ : PF), cv, Lc) :: R.map hf)[j])[o]? = some u → w.cell? ⟨g, j * 4 + o, none⟩ = some u := fun o u ho hu => by
  obtain ⟨g', cap', e', -, hc⟩ := own_cell hr (j := j * 4 + o) (u := u) (by rw [flat_get rowF 4 (fun _ => rfl) _ j o hjL ho]; exact hu)
  cases e'
  exact hc
 refine ⟨g, 0, rfl, by omega, by omega, hg.1, ?_, ?_⟩
 ·rw [Nat.zero_add, ← he.1]; exact pc 0 _ (by omega) rfl
 ·rw [Nat.zero_add, ← he.2]; exact pc 1 _ (by omega) rfl
theorem S3.app {w w10 : World} {H : Nat} {a : Option Addr} {c : Nat} {bs : List UInt8} {G : Int} {N g cap : Nat} {u : Value} {hs : List HT} {D : List FI} {f : HT} {R : List HT} {cv : Value} {Lc : List CI} {B1 : Nat} {t : DS} (h : S3 w H a c bs G N g cap u hs D f R cv Lc B1 t) (x : PI) (av rv : Value) (ha : IOwn w (H + 3) av x.args) (hrv : IOwn w (H + 3) rv x.rets) {g6 cap6 : Nat} (hg : w.grownBy w10 cv.ownBlock)
 (hown : w10.ownsRow (H + 3) 71 7 (.slice (some ⟨g6, 0, none⟩) (Lc.length + 1) cap6) (Lc.length + 1) (Lc.flatMap rowI ++ [vI x.op, vI x.r, vI x.s, vI x.t, vI x.n, av, rv])) (hat : cv.ownBlock = some g6 ∨ B1 ≤ g6) :
 S3 (w10.setCell ⟨g, D.length * 4 + 3, none⟩ (.slice (some ⟨g6, 0, none⟩) (Lc.length + 1) cap6)) H a c bs G N g cap u hs D f R (.slice (some ⟨g6, 0, none⟩) (Lc.length + 1) cap6) (Lc ++ [(x, av, rv)]) B1 t ∧
 w10.cell? ⟨H + 1, 1, none⟩ = some (.slice (some ⟨g, 0, none⟩) N cap) ∧ w10.cell? ⟨g, D.length * 4 + 3, none⟩ = some cv ∧ w10.frozen? ⟨g, D.length * 4 + 3, none⟩ = false ∧ Fr (fun k => k = g ∨ cv.ownBlock = some k) w (w10.setCell ⟨g, D.length * 4 + 3, none⟩ (.slice (some ⟨g6, 0, none⟩) (Lc.length + 1) cap6)) := by
 have f1 := grown_frL hg
 have hco := h.co
 have hge : ∀ k, cv.ownBlock = some k → H + 3 ≤ k := fun k e => Nat.le_trans h.b1 (h.hi k e)
 have hr := h.fo.row
 have hcell := h.cell
 have hgg : H + 3 ≤ g := hcell.2.2.2.2.2.2
 have hglt : g < w.heap.size := hcell.2.2.2.2.2.1
 have d10 : DR (H + 1 + 1) (H + 1) a c bs G (.slice (some ⟨g, 0, none⟩) N cap) w10 t := h.dr.frS f1 (fun e => by have := hge _ e; omega) (fun e => by have := hge _ e; omega) (fun k o e e2 e3 => by have := hge _ e3; have := h.ba k o e e2; omega)
 have f2 := setCell_fr w10 g (D.length * 4 + 3) (.slice (some ⟨g6, 0, none⟩) (Lc.length + 1) cap6)
 have hng : cv.ownBlock ≠ some g := fun e => own_apart hr hco.row (by decide) g e rfl
 have c10 : w10.cell? ⟨g, D.length * 4 + 3, none⟩ = some cv := (f1.cell hglt (fun e => hng e)).trans hcell.2.2.2.1
 -- the row
 have r10 := ownsRow_frL hr f1 (fun k e e2 => own_apart hr hco.row (by decide) k e2 e)
 rw [h.len] at r10
 have rs := row_set (j := D.length * 4 + 3) r10 (.slice (some ⟨g6, 0, none⟩) (Lc.length + 1) cap6)
 have rs1 := rs.1
 have er : ((D ++ ((⟨f.1, f.2.1, f.2.2.1, Lc.map (·.1)⟩ : PF), cv, Lc) :: R.map hf).flatMap rowF).set (D.length * 4 + 3) (.slice (some ⟨g6, 0, none⟩) (Lc.length + 1) cap6) = (D ++ ((⟨f.1, f.2.1, f.2.2.1, (Lc ++ [(x, av, rv)]).map (·.1)⟩ : PF), (.slice (some ⟨g6, 0, none⟩) (Lc.length + 1) cap6 : Value), Lc ++ [(x, av, rv)]) :: R.map hf).flatMap rowF := rowF_set D ((⟨f.1, f.2.1, f.2.2.1, Lc.map (·.1)⟩ : PF), cv, Lc) ((⟨f.1, f.2.1, f.2.2.1, (Lc ++ [(x, av, rv)]).map (·.1)⟩ : PF), (.slice (some ⟨g6, 0, none⟩) (Lc.length + 1) cap6 : Value), Lc ++ [(x, av, rv)]) (R.map hf) rfl rfl rfl
 rw [er] at rs1
 have hlen' : (D ++ ((⟨f.1, f.2.1, f.2.2.1, (Lc ++ [(x, av, rv)]).map (·.1)⟩ : PF), (.slice (some ⟨g6, 0, none⟩) (Lc.length + 1) cap6 : Value), Lc ++ [(x, av, rv)]) :: R.map hf).length = N := by rw [← h.len]; simp
 -- what is kept of a code
 have keep1 : ∀ (v : Value) (M : List CI), CO w (H + 3) v M → (∀ k, v.ownBlock = some k → k < B1) → CO w10 (H + 3) v M := fun v M hM hlo =>
  hM.fr f1 (fun j e e2 => by have := hlo j e; have := h.hi j e2; omega) (fun y hy j e e2 => by
   rcases e with e | e
   ·exact own_apart hco.row (hM.ints y hy).1 (by decide) j e e2
   ·exact own_apart hco.row (hM.ints y hy).2 (by decide) j e e2)
 have keepI : ∀ (v : Value) (l : List Int), IOwn w (H + 3) v l → IOwn w10 (H + 3) v l := fun v l hl => hl.fr f1 (fun j e e2 => own_apart hco.row hl (by decide) j e e2)
 have keep2 : ∀ (v : Value) (M : List CI), CO w10 (H + 3) v M → CO (w10.setCell ⟨g, D.length * 4 + 3, none⟩ (.slice (some ⟨g6, 0, none⟩) (Lc.length + 1) cap6)) (H + 3) v M := fun v M hM =>
  hM.fr f2 (fun j e e2 => by subst e2; exact own_apart r10 hM.row (by decide) j e rfl) (fun y hy j e e2 => by
   subst e2
   rcases e with e | e
   ·exact own_apart r10 (hM.ints y hy).1 (by decide) j e rfl
   ·exact own_apart r10 (hM.ints y hy).2 (by decide) j e rfl)
 have cn : CO w10 (H + 3) (.slice (some ⟨g6, 0, none⟩) (Lc.length + 1) cap6) (Lc ++ [(x, av, rv)]) := by
  refine ⟨?_, fun y hy => ?_⟩
  ·rw [List.length_append, List.flatMap_append]
   show w10.ownsRow (H + 3) 71 7 _ (Lc.length + 1) (Lc.flatMap rowI ++ (rowI (x, av, rv) ++ []))
   rw [List.append_nil]
   exact hown
  ·rcases List.mem_append.1 hy with hy | hy
   ·exact ⟨keepI _ _ (hco.ints y hy).1, keepI _ _ (hco.ints y hy).2⟩
   ·simp at hy
    subst hy
    exact ⟨keepI _ _ ha, keepI _ _ hrv⟩
 refine ⟨⟨?_, ⟨?_, fun y hy => ?_⟩, hlen', h.hd, ?_, h.ba, h.lo, fun k e => ?_, h.b1⟩, d10.rw.cells.2.1, c10, rs.2, (f1.mono (fun k _ e => Or.inr e)).trans (f2.mono (fun k _ e => Or.inl e))⟩
 ·exact d10.frS f2 (fun e => by omega) (fun e => by omega) (fun k o e e2 e3 => by have := h.ba k o e e2; omega)
 ·rw [hlen']; exact rs1
 ·rcases List.mem_append.1 hy with hy | hy
  ·have hm : y ∈ D ++ ((⟨f.1, f.2.1, f.2.2.1, Lc.map (·.1)⟩ : PF), cv, Lc) :: R.map hf := List.mem_append_left _ hy
   exact ⟨keep2 _ _ (keep1 _ _ (h.fo.code y hm).1 (h.lo y hy)), (h.fo.code y hm).2⟩
  ·rcases List.mem_cons.1 hy with rfl | hy
   ·exact ⟨keep2 _ _ cn, rfl⟩
   ·obtain ⟨z, -, rfl⟩ := List.mem_map.1 hy
    exact ⟨CO.none _ _, rfl⟩
 ·have s10 := keepI _ _ h.sz
  exact s10.fr f2 (fun k e e2 => by subst e2; exact own_apart r10 s10 (by decide) k e rfl)
 ·cases e
  rcases hat with e | e
  ·exact h.hi _ e
  ·exact e
structure S2 (w : World) (H : Nat) (a : Option Addr) (c : Nat) (bs : List UInt8) (G : Int) (fv u : Value) (hs : List HT) (D : List FI) (t : DS) : Prop where
 dr : DR (H + 1 + 1) (H + 1) a c bs G fv w t
 fo : FO w (H + 3) fv (D ++ (hs.drop D.length).map hf)
 hd : D.map (fun x => (x.1.P, x.1.R)) = (hs.take D.length).map (fun h => (h.1, h.2.1))
 sz : IOwn w (H + 3) u (hs.map (·.2.2.2))
 ba : ∀ k o, a = some ⟨k, o, none⟩ → bs ≠ [] → k < H
 le : D.length ≤ hs.length
theorem S2.len {w : World} {H : Nat} {a : Option Addr} {c : Nat} {bs : List UInt8} {G : Int} {fv u : Value} {hs : List HT} {D : List FI} {t : DS} (h : S2 w H a c bs G fv u hs D t) : (D ++ (hs.drop D.length).map hf).length = hs.length := by
 have := h.le
 simp; omega
theorem S2.shape {w : World} {H : Nat} {a : Option Addr} {c : Nat} {bs : List UInt8} {G : Int} {fv u : Value} {hs : List HT} {D : List FI} {t : DS} (h : S2 w H a c bs G fv u hs D t) : ∃ va vc, fv = .slice va hs.length vc := by
 obtain ⟨p, q, e⟩ := h.fo.shape
 rw [h.len] at e
 exact ⟨p, q, e⟩
theorem S2.g {w : World} {H : Nat} {a : Option Addr} {c : Nat} {bs : List UInt8} {G : Int} {fv u : Value} {hs : List HT} {D : List FI} {t : DS} (h : S2 w H a c bs G fv u hs D t) (h0 : hs ≠ []) : ∃ g cap, fv = .slice (some ⟨g, 0, none⟩) hs.length cap := by
 have hr := h.fo.row
 rw [h.len] at hr
 rcases hr.2 with ⟨-, e2⟩ | ⟨g, cap, cur, e, -⟩
 ·exact absurd (List.eq_nil_of_length_eq_zero e2) h0
 ·exact ⟨g, cap, e⟩
theorem S2.start {w : World} {H : Nat} {a : Option Addr} {c : Nat} {bs : List UInt8} {G : Int} {fv u : Value} {hs : List HT} {t : DS} (h : S1 w H a c bs G fv u hs (hs.map (·.2.2.2)) t) : S2 w H a c bs G fv u hs [] t :=
 ⟨h.dr, by simpa using h.fo, by simp, h.sz, h.ba, Nat.zero_le _⟩
theorem S2.enter {w : World} {H : Nat} {a : Option Addr} {c : Nat} {bs : List UInt8} {G : Int} {g cap : Nat} {u : Value} {hs : List HT} {D : List FI} {t : DS} {f : HT} {R : List HT} (h : S2 w H a c bs G (.slice (some ⟨g, 0, none⟩) hs.length cap) u hs D t) (hdr : hs.drop D.length = f :: R) (hB : H + 3 ≤ w.heap.size) : S3 w H a c bs G hs.length g cap u hs D f R (.slice none 0 0) [] w.heap.size t := by
 have hfo := h.fo
 rw [hdr] at hfo
 refine ⟨h.dr, hfo, ?_, ?_, h.sz, h.ba, fun x hx k e => ?_, (fun k e => by cases e), hB⟩
 ·have := h.len
  rw [hdr] at this
  simpa using this
 ·rw [List.map_append, h.hd]
  conv => rhs; rw [← List.take_append_drop D.length hs, List.map_append]
  rw [hdr]
  simp [hf]
 ·exact (World.ownsRow.lt (hfo.code x (List.mem_append_left _ hx)).1.row k e).2
theorem S3.leave {w : World} {H : Nat} {a : Option Addr} {c : Nat} {bs : List UInt8} {G : Int} {g cap : Nat} {u : Value} {hs : List HT} {D : List FI} {f : HT} {R : List HT} {cv : Value} {Lc : List CI} {B1 : Nat} {t : DS} (h : S3 w H a c bs G hs.length g cap u hs D f R cv Lc B1 t) (hdr : hs.drop D.length = f :: R) (hD : D.map (fun x => (x.1.P, x.1.R)) = (hs.take D.length).map (fun h => (h.1, h.2.1))) : S2 w H a c bs G (.slice (some ⟨g, 0, none⟩) hs.length cap) u hs (D ++ [((⟨f.1, f.2.1, f.2.2.1, Lc.map (·.1)⟩ : PF), cv, Lc)]) t := by
 have hlt : D.length < hs.length := by
  rcases Nat.lt_or_ge D.length hs.length with e | e
  ·exact e
  ·rw [List.drop_eq_nil_of_le e] at hdr; cases hdr
 have hd2 : hs.drop (D.length + 1) = R := by rw [← List.drop_drop, hdr]; rfl
 have hf0 : hs[D.length] = f := by
  have := List.drop_eq_getElem_cons hlt
  rw [hdr] at this
  exact (List.cons.inj this).1.symm
 refine ⟨h.dr, ?_, ?_, h.sz, h.ba, by simp; omega⟩
 ·rw [List.length_append, List.length_singleton, hd2, List.append_assoc]
  exact h.fo
 ·rw [List.length_append, List.length_singleton, List.take_add_one, List.getElem?_eq_getElem hlt, hf0, List.map_append, List.map_append, hD]
  rfl
theorem headsD_sizes (bs : List UInt8) : ∀ (m : Nat) (s : DS), ∀ h ∈ (headsD bs m s).1, 0 ≤ h.2.2.2 ∧ h.2.2.2 ≤ 65535
 | 0, s, h, hh => by simp [headsD] at hh
 | m + 1, s, h, hh => by
   unfold headsD at hh
   split at hh
   ·rcases List.mem_cons.1 hh with rfl | hh
    ·unfold headD
     split
     ·exact ⟨show (0 : Int) ≤ 0 by decide, show (0 : Int) ≤ 65535 by decide⟩
     ·exact thingD_two
    ·exact headsD_sizes bs m _ h hh
   ·simp at hh
def pfD (hs : List HT) (cs : List (List PI)) : List PF := List.zipWith (fun h l => (⟨h.1, h.2.1, h.2.2.1, l⟩ : PF)) hs cs
theorem pfD_snoc (hs : List HT) (cs : List (List PI)) (h : HT) (l : List PI) (e : hs.length = cs.length) : pfD (hs ++ [h]) (cs ++ [l]) = pfD hs cs ++ [⟨h.1, h.2.1, h.2.2.1, l⟩] := by
 unfold pfD
 rw [List.zipWith_append e]
 rfl
theorem funcsD_shut {bs : List UInt8} {G : Int} {hs l : List HT} {s : DS} (h : s.E ≠ 0) : funcsD bs G hs l s = ([], s) := by
 cases l with
 | nil => rfl
 | cons d r => exact if_neg h
theorem codeD_shut {bs : List UInt8} {G R V fl : Int} {hs : List HT} {m : Nat} {s : DS} (h : s.E ≠ 0) : codeD bs G hs R V fl m s = ([], s) := by
 cases m with
 | zero => rfl
 | succ m => exact if_neg h
theorem own_other {w : World} {B e sz n X : Nat} {v : Value} {xs : List Value} {cs : Array Value} {t : TypeId} (h : w.ownsRow B e sz v n xs) (hx : w.heap[X]? = some (.cells cs t)) (ht : t ≠ e) : v.ownBlock ≠ some X := by
 intro e1
 rcases h.2 with ⟨rfl, -⟩ | ⟨g, cap, cur, rfl, -, h2, -⟩
 ·cases e1
 ·cases e1
  rw [hx] at h2
  cases h2
  exact ht rfl
theorem S3.box {w w' : World} {H : Nat} {a : Option Addr} {c : Nat} {bs : List UInt8} {G : Int} {N g cap : Nat} {u : Value} {hs : List HT} {D : List FI} {f : HT} {R : List HT} {cv : Value} {Lc : List CI} {B1 : Nat} {t : DS} (h : S3 w H a c bs G N g cap u hs D f R cv Lc B1 t) {X : Nat} {cs : Array Value} (fr : Fr (fun k => k = X) w w') (hx : w.heap[X]? = some (.cells cs 71)) (hB : B1 ≤ X) (hcv : cv.ownBlock ≠ some X) : S3 w' H a c bs G N g cap u hs D f R cv Lc B1 t := by
 have hb1 := h.b1
 have kI : ∀ (v : Value) (l : List Int), IOwn w (H + 3) v l → ∀ k, v.ownBlock = some k → ¬ k = X := fun v l hl k e e2 => own_other hl hx (by decide) (e2 ▸ e)
 refine ⟨h.dr.frS fr (by omega) (by omega) (fun k o e e2 e3 => by have := h.ba k o e e2; omega), h.fo.frI fr (fun k e e2 => own_other h.fo.row hx (by decide) (e2 ▸ e)) (fun x hx' k e e2 => ?_) (fun x hx' y hy k e => ?_), h.len, h.hd, h.sz.fr fr (kI _ _ h.sz), h.ba, h.lo, h.hi, h.b1⟩
 ·rcases List.mem_append.1 hx' with hm | hm
  ·have := h.lo x hm k e; omega
  ·rcases List.mem_cons.1 hm with rfl | hm
   ·exact hcv (e2 ▸ e)
   ·obtain ⟨z, -, rfl⟩ := List.mem_map.1 hm
    cases e
 ·have hi := (h.fo.code x hx').1.ints y hy
  rcases e with e | e
  ·exact kI _ _ hi.1 k e
  ·exact kI _ _ hi.2 k e
end Go.Proofs.YtingenonbkencaaDoor
