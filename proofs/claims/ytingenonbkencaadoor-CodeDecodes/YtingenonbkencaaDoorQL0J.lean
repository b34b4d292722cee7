import Derived.Test.YtingenonbkencaaDoorQA3
import Derived.Test.YtingenonbkencaaDoorQLbJ
import Derived.Test.YtingenonbkencaaDoorQK1
import Derived.Test.YtingenonbkencaaDoorQF3
import Derived.BigQuiet
import Derived.Test.YtingenonbkencaaDoorQK2J
import Derived.Test.YtingenonbkencaaDoorQLfJ
import Derived.Test.YtingenonbkencaaDoorQE6J
set_option linter.unusedVariables false
set_option linter.unusedSimpArgs false
namespace Go.Proofs.YtingenonbkencaaDoor
open Go.RowKit (wrap32 wrap64)
theorem w64r {n : Int} (h1 : -9223372036854775808 ≤ n) (h2 : n ≤ 9223372036854775807) : wrap64 n = n := by unfold wrap64; omega
theorem BytesIn.grow {w w' : World} {v : Value} {bs : List UInt8} (h : BytesIn w v bs) (f : Fr (fun _ => False) w w') : BytesIn w' v bs := by
 obtain ⟨h1, a, c, h2, h3, h4⟩ := h
 refine ⟨h1, a, c, h2, h3, fun hne => ?_⟩
 obtain ⟨k, o, e, hk, hc⟩ := h4 hne
 exact ⟨k, o, e, Nat.lt_of_lt_of_le hk f.size, fun i hi => (f.cell hk (fun h => h)).trans (hc i hi)⟩
set_option maxRecDepth 100000
set_option maxHeartbeats 1000000
def RD (r rb : Nat) (bv : Value) (w : World) (p q o : Int) : Prop := w.heap[r]? = some (.cells #[.pointer (some ⟨rb, 0, none⟩), bv, vI p, vI q, vI o] 61)
theorem RD.fr {S : Nat → Prop} {r rb : Nat} {bv : Value} {w w' : World} {p q o : Int} (h : RD r rb bv w p q o) (f : Fr S w w') (hS : ¬ S r) : RD r rb bv w' p q o := (f.block r (heap_lt h) hS).trans h
theorem RD.cells {r rb : Nat} {bv : Value} {w : World} {p q o : Int} (h : RD r rb bv w p q o) : w.cell? ⟨r, 0, none⟩ = some (.pointer (some ⟨rb, 0, none⟩)) ∧ w.cell? ⟨r, 1, none⟩ = some bv ∧ w.cell? ⟨r, 2, none⟩ = some (vI p) ∧ w.cell? ⟨r, 3, none⟩ = some (vI q) ∧ w.cell? ⟨r, 4, none⟩ = some (vI o) ∧ (∀ j, w.frozen? ⟨r, j, none⟩ = false) ∧ r < w.heap.size :=
 ⟨by rw [cell_of h]; rfl, by rw [cell_of h]; rfl, by rw [cell_of h]; rfl, by rw [cell_of h]; rfl, by rw [cell_of h]; rfl, fun j => frozen_of h j, heap_lt h⟩
theorem RD.setP {r rb : Nat} {bv : Value} {w : World} {p q o : Int} (h : RD r rb bv w p q o) (z : Int) : RD r rb bv (w.setCell ⟨r, 2, none⟩ (vI z)) z q o := set_of h 2 _
theorem RD.setQ {r rb : Nat} {bv : Value} {w : World} {p q o : Int} (h : RD r rb bv w p q o) (z : Int) : RD r rb bv (w.setCell ⟨r, 3, none⟩ (vI z)) p z o := set_of h 3 _
theorem RD.setO {r rb : Nat} {bv : Value} {w : World} {p q o : Int} (h : RD r rb bv w p q o) (z : Int) : RD r rb bv (w.setCell ⟨r, 4, none⟩ (vI z)) p q z := set_of h 4 _
theorem ropen_any (r rb : Nat) (bv : Value) (G : Int) (fv : Value) (w : World) (p q o L E : Int) (h : RD r rb bv w p q o) (k : RW rb G fv w L E) :
 Calls Tryd.prog 44 #[.pointer (some ⟨r, 0, none⟩)] w fun e w' => e = .returned (.bool (E == 0)) ∧ w' = w := by
 obtain ⟨c0, -⟩ := h.cells
 obtain ⟨-, -, -, k3, -, -⟩ := k.cells
 go_enter Tryd.func44, Tryd.ntmps44
 go_wp2_with fail
 go_ret
 exact ⟨rfl, rfl⟩
def toldO (was : Bool) (E from' o : Int) : Int := if was = true ∧ E ≠ 0 ∧ E ≠ 11 then from' else o
theorem rtold_any (r rb : Nat) (bv : Value) (G : Int) (fv : Value) (w : World) (p q o L E : Int) (h : RD r rb bv w p q o) (k : RW rb G fv w L E) (was : Bool) (z : Int) (hne : rb ≠ r) :
 Calls Tryd.prog 68 #[.pointer (some ⟨r, 0, none⟩), .bool was, vI z] w fun e w' => e = .returned (.tuple #[]) ∧ RD r rb bv w' p q (toldO was E z o) ∧ RW rb G fv w' L E ∧ Fr (fun j => j = r) w w' := by
 obtain ⟨c0, -, -, -, c4, hz, hlt⟩ := h.cells
 obtain ⟨-, -, -, k3, -, -⟩ := k.cells
 have HH : Hd (RD r rb bv w p q o) := h
 have KK : Hd (RW rb G fv w L E) := k
 have z4 := hz 4
 have hop := ropen_any r rb bv G fv w p q o L E h k
 clear h k hz
 cases was with
 | false =>
   go_enter Tryd.func68, Tryd.ntmps68
   go_wp2_with fail
   go_end0
   exact ⟨rfl, HH.out, KK.out, Fr.refl _ _⟩
 | true =>
   by_cases h0 : E = 0
   ·subst h0
    go_enter Tryd.func68, Tryd.ntmps68
    go_wp2_with fail
    refine hop.mono ?_
    rintro e w1 ⟨rfl, rfl⟩
    go_wp2_with fail
    go_end0
    exact ⟨rfl, HH.out, KK.out, Fr.refl _ _⟩
   ·have b0 : (E == 0) = false := by simpa using h0
    rw [b0] at hop
    by_cases h11 : E = 11
    ·subst h11
     go_enter Tryd.func68, Tryd.ntmps68
     go_wp2_with fail
     refine hop.mono ?_
     rintro e w1 ⟨rfl, rfl⟩
     go_wp2_with fail
     go_end0
     exact ⟨rfl, HH.out, KK.out, Fr.refl _ _⟩
    ·have b11 : (E != 11) = true := by simpa using h11
     go_enter Tryd.func68, Tryd.ntmps68
     go_wp2_with fail
     refine hop.mono ?_
     rintro e w1 ⟨rfl, rfl⟩
     go_wp2_with fail
     go_end0
     refine ⟨rfl, ?_, KK.out.fr (setCell_fr _ _ _ _) hne, setCell_fr _ _ _ _⟩
     have e : toldO true E z o = z := if_pos ⟨rfl, h0, h11⟩
     rw [e]
     exact HH.out.setO z
theorem rdmust_any (r rb : Nat) (bv : Value) (G : Int) (fv : Value) (w : World) (p q o L E : Int) (h : RD r rb bv w p q o) (k : RW rb G fv w L E) (ok : Bool) (er : Int) (hne : rb ≠ r) :
 Calls Tryd.prog 43 #[.pointer (some ⟨r, 0, none⟩), .bool ok, vI er] w fun e w' => e = .returned (.tuple #[]) ∧ RD r rb bv w' p q (toldO (E == 0) (mustE ok er E) q o) ∧ RW rb G fv w' L (mustE ok er E) ∧ Fr (fun j => j = r ∨ j = rb) w w' := by
 obtain ⟨c0, -, -, c3, -, -, hlt⟩ := h.cells
 have HH : Hd (RD r rb bv w p q o) := h
 have KK : Hd (RW rb G fv w L E) := k
 have hop := ropen_any r rb bv G fv w p q o L E h k
 clear h k
 go_enter Tryd.func43, Tryd.ntmps43
 go_wp2_with fail
 refine hop.mono ?_
 rintro e w1 ⟨rfl, rfl⟩
 clear hop
 go_wp2_with fail
 refine (rmust rb G fv _ L E KK.out ok er).mono ?_
 rintro e w2 ⟨rfl, k2, f2⟩
 have h2 : RD r rb bv w2 p q o := HH.out.fr f2 (fun e => hne e.symm)
 have c0' := h2.cells.1
 have c3' := h2.cells.2.2.2.1
 have hto := rtold_any r rb bv G fv w2 p q o L (mustE ok er E) h2 k2 (E == 0) q hne
 have HF : Hd (Fr (fun j => j = r ∨ j = rb) _ w2) := f2.mono (fun j _ e => Or.inr e)
 clear k2 f2 h2 c0 c3
 go_wp2_with fail
 refine hto.mono ?_
 rintro e w3 ⟨rfl, h3, k3, f3⟩
 clear hto c0' c3'
 go_wp2_with fail
 go_end0
 exact ⟨rfl, h3, k3, HF.out.trans (f3.mono (fun j _ e => Or.inl e))⟩
def conjT : List (Nat × Bool) → TR
 | [] => .leaf true
 |(d, nm) :: r => .node d (conjT r) (bif nm then conjT r else .leaf false)
theorem conjT_ev (e : Nat → Bool) : ∀ (l : List (Nat × Bool)), (conjT l).ev e = l.all fun p => e p.1 || p.2
 | [] => rfl
 |(d, nm) :: r => by
  simp only [conjT, TR.ev, List.all_cons, conjT_ev e r]
  cases e d <;> cases nm <;> simp [TR.ev, conjT_ev e r]
def zeros6 (zr zs zt zn la lr : Int) : List (Nat × Int × Bool) := [(43, zr, true), (52, zs, true), (62, zt, true), (72, zn, true), (81, la, true), (90, lr, true)]
def tested (nmf : UInt8 → Bool) : List (Nat × Bool) := [(43, nmf 82), (52, nmf 83), (62, nmf 84), (72, nmf 105 || nmf 99 || nmf 102 || nmf 103 || nmf 70 || nmf 74), (81, nmf 65 || nmf 86), (90, nmf 66)]
theorem WF.stay {w w' : World} {B : Nat} {v : Value} {fs : List PF} {g : Nat} {cv : Nat → Value} (h : WF w B v fs g cv) (f : Fr (fun _ => False) w w') : WF w' B v fs g cv :=
 ⟨h.val, h.ge, h.row.fr f (fun e => e), fun i x hx => (h.code i x hx).stay f, h.apart⟩
theorem WF.fa {w : World} {B : Nat} {v : Value} {fs : List PF} {g : Nat} {cv : Nat → Value} (h : WF w B v fs g cv) : FA w v fs := by
 refine ⟨_, _, h.val, fun _ => ⟨g, 0, rfl, h.row.lt, fun j hj => ?_⟩⟩
 have pc := fun o (ho : o < 4) => h.row.cell (i := j) (o := o) (by omega) ho
 have e1 : wideF fs cv j = fR fs[j] (cv j) := by unfold wideF; rw [List.getElem?_eq_getElem hj]
 rw [e1] at pc
 rw [Nat.zero_add]
 exact ⟨cv j, pc 0 (by omega), pc 1 (by omega), pc 2 (by omega), pc 3 (by omega), (h.code j fs[j] (List.getElem?_eq_getElem hj)).ca⟩
def IL (b : Nat) (w : World) (v : Value) (l : List Int) : Prop :=
 ∃ a c, v = .slice a l.length c ∧ (l ≠ [] → ∃ k o, a = some ⟨k, o, none⟩ ∧ k < w.heap.size ∧ k ≠ b ∧ ∀ j (h : j < l.length), w.cell? ⟨k, o + j, none⟩ = some (vI l[j]))
theorem IL.fr {S : Nat → Prop} {b : Nat} {w w' : World} {v : Value} {l : List Int} (h : IL b w v l) (f : Fr S w w') (hS : ∀ k, S k → k = b) : IL b w' v l := by
 obtain ⟨a, c, e, h⟩ := h
 refine ⟨a, c, e, fun hne => ?_⟩
 obtain ⟨k, o, e, hk, hb, hc⟩ := h hne
 exact ⟨k, o, e, Nat.lt_of_lt_of_le hk f.size, hb, fun j hj => (f.cell hk (fun h => hb (hS k h))).trans (hc j hj)⟩
end Go.Proofs.YtingenonbkencaaDoor
