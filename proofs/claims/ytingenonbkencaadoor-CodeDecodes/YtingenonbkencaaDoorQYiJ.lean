import Derived.Test.YtingenonbkencaaDoorQYgJ
import Derived.Test.YtingenonbkencaaDoorQKbJ
set_option linter.unusedVariables false
set_option linter.unusedSimpArgs false
namespace Go.Proofs.YtingenonbkencaaDoor
open Go.RowKit (wrap32 wrap64)
theorem head_D {r rb : Nat} {a : Option Addr} {c : Nat} {bs : List UInt8} {G : Int} {fv : Value} {w : World} {s : DS} (h : DR r rb a c bs G fv w s) (hfv : ∀ z, fv ≠ .int .u8 z) (hE : s.E = 0) (hlow : LowD s) :
 Calls Tryd.prog 45 #[.pointer (some ⟨r, 0, none⟩)] w fun e w' => e = .returned (.tuple #[.agg #[vI (headD bs s).1.1, vI (headD bs s).1.2.1, vI (headD bs s).1.2.2.1, .slice none 0 0], vI (headD bs s).1.2.2.2]) ∧ DR r rb a c bs G fv w' (headD bs s).2 ∧ Fr (fun j => j = r ∨ j = rb) w w' := by
 by_cases hsh : bs.length < s.p + 5
 ·have e : headD bs s = ((0, 0, 0, 0), { s with E := 11, o := (bs.length : Nat) }) := if_pos hsh
  rw [e]
  exact head_short h hfv hE hsh
 ·exact head_long h hfv hE hlow hsh
theorem plainB_zero (op : Int) : plainB op 0 0 0 0 0 0 = true := by
 unfold plainB tested
 simp [zzOf, zeros6]
def XB (w : World) (X : Nat) (c : PI) (av rv : Value) : Prop := w.heap[X]? = some (.cells #[vI c.op, vI c.r, vI c.s, vI c.t, vI c.n, av, rv] 71)
theorem XB.cells {w : World} {X : Nat} {c : PI} {av rv : Value} (h : XB w X c av rv) : w.cell? ⟨X, 0, none⟩ = some (vI c.op) ∧ w.cell? ⟨X, 1, none⟩ = some (vI c.r) ∧ w.cell? ⟨X, 2, none⟩ = some (vI c.s) ∧ w.cell? ⟨X, 3, none⟩ = some (vI c.t) ∧ w.cell? ⟨X, 4, none⟩ = some (vI c.n) ∧ w.cell? ⟨X, 5, none⟩ = some av ∧ w.cell? ⟨X, 6, none⟩ = some rv ∧ (∀ j, w.frozen? ⟨X, j, none⟩ = false) ∧ X < w.heap.size :=
 ⟨by rw [cell_of h]; rfl, by rw [cell_of h]; rfl, by rw [cell_of h]; rfl, by rw [cell_of h]; rfl, by rw [cell_of h]; rfl, by rw [cell_of h]; rfl, by rw [cell_of h]; rfl, fun j => frozen_of h j, heap_lt h⟩
theorem XB.fr {S : Nat → Prop} {w w' : World} {X : Nat} {c : PI} {av rv : Value} (h : XB w X c av rv) (f : Fr S w w') (hS : ¬ S X) : XB w' X c av rv := (f.block X (heap_lt h) hS).trans h
theorem XB.set1 {w : World} {X : Nat} {c : PI} {av rv : Value} (h : XB w X c av rv) (z : Int) : XB (w.setCell ⟨X, 1, none⟩ (vI z)) X { c with r := z } av rv := set_of h 1 _
theorem XB.set2 {w : World} {X : Nat} {c : PI} {av rv : Value} (h : XB w X c av rv) (z : Int) : XB (w.setCell ⟨X, 2, none⟩ (vI z)) X { c with s := z } av rv := set_of h 2 _
theorem XB.set3 {w : World} {X : Nat} {c : PI} {av rv : Value} (h : XB w X c av rv) (z : Int) : XB (w.setCell ⟨X, 3, none⟩ (vI z)) X { c with t := z } av rv := set_of h 3 _
theorem XB.set4 {w : World} {X : Nat} {c : PI} {av rv : Value} (h : XB w X c av rv) (z : Int) : XB (w.setCell ⟨X, 4, none⟩ (vI z)) X { c with n := z } av rv := set_of h 4 _
theorem XB.set5 {w : World} {X : Nat} {c : PI} {av rv : Value} (h : XB w X c av rv) (l : List Int) (v : Value) : XB (w.setCell ⟨X, 5, none⟩ v) X { c with args := l } v rv := set_of h 5 _
theorem XB.set6 {w : World} {X : Nat} {c : PI} {av rv : Value} (h : XB w X c av rv) (l : List Int) (v : Value) : XB (w.setCell ⟨X, 6, none⟩ v) X { c with rets := l } av v := set_of h 6 _
theorem foldS_step {bs : List UInt8} {G R V fl : Int} {hs : List HT} {l : List UInt8} {k : Nat} (hk : k < l.length) (x0 : PI × DS) : (l.take (k + 1)).foldl (letS bs G hs R V fl) x0 = letS bs G hs R V fl ((l.take k).foldl (letS bs G hs R V fl) x0) l[k] := by
 rw [List.take_add_one, List.getElem?_eq_getElem hk, List.foldl_append]
 rfl
theorem foldS_stop {bs : List UInt8} {G R V fl : Int} {hs : List HT} {l : List UInt8} {k : Nat} (x0 : PI × DS) (h : k = l.length ∨ ((l.take k).foldl (letS bs G hs R V fl) x0).2.E ≠ 0) : l.foldl (letS bs G hs R V fl) x0 = (l.take k).foldl (letS bs G hs R V fl) x0 := by
 rcases h with rfl | h
 ·rw [List.take_length]
 ·conv => lhs; rw [← List.take_append_drop k l]
  rw [List.foldl_append]
  generalize (l.take k).foldl (letS bs G hs R V fl) x0 = x at h ⊢
  induction l.drop k with
  | nil => rfl
  | cons u r ih =>
    show r.foldl _ (letS bs G hs R V fl x u) = x
    rw [show letS bs G hs R V fl x u = x from if_neg h]
    exact ih
theorem num_any {r rb : Nat} {a : Option Addr} {c : Nat} {bs : List UInt8} {G : Int} {fa : Option Addr} {nf fc : Nat} {w : World} {s : DS} (h : DR r rb a c bs G (.slice fa nf fc) w s) (n : Int) (u : UInt8) (hu : u = 99 ∨ u = 102 ∨ u = 103 ∨ u = 70 ∨ u = 74 ∨ u = 105) :
 Calls Tryd.prog 73 #[.pointer (some ⟨r, 0, none⟩), vU u, vI n] w fun e w' => e = .returned (vI (numD bs (numS u) (numW G nf n u) s).1) ∧ DR r rb a c bs G (.slice fa nf fc) w' (numD bs (numS u) (numW G nf n u) s).2 ∧ Fr (fun j => j = r ∨ j = rb) w w' := by
 rcases hu with rfl | rfl | rfl | rfl | rfl | rfl
 ·exact num_c h n
 ·exact num_f h n
 ·exact num_g h n
 ·exact num_F h n
 ·exact num_J h n
 ·exact num_i h n
def HIn (r rb : Nat) (w : World) (fa : Option Addr) (hs : List HT) : Prop :=
 ∀ j (hj : j < hs.length), ∃ fk fo, fa = some ⟨fk, fo, none⟩ ∧ fk ≠ r ∧ fk ≠ rb ∧ fk < w.heap.size ∧ w.cell? ⟨fk, fo + j * 4, none⟩ = some (vI hs[j].1) ∧ w.cell? ⟨fk, fo + j * 4 + 1, none⟩ = some (vI hs[j].2.1)
theorem HIn.fr {r rb : Nat} {w w' : World} {fa : Option Addr} {hs : List HT} (h : HIn r rb w fa hs) (f : Fr (fun j => j = r ∨ j = rb) w w') : HIn r rb w' fa hs := fun j hj => by
 obtain ⟨fk, fo, e, h1, h2, h3, h4, h5⟩ := h j hj
 have g : ∀ o, w'.cell? ⟨fk, o, none⟩ = w.cell? ⟨fk, o, none⟩ := fun o => f.cell h3 (fun k => k.elim h1 h2)
 exact ⟨fk, fo, e, h1, h2, Nat.lt_of_lt_of_le h3 f.size, (g _).trans h4, (g _).trans h5⟩
theorem list_65 {r rb : Nat} {a : Option Addr} {c : Nat} {bs : List UInt8} {G : Int} {fa : Option Addr} {fc : Nat} {hs : List HT} {w : World} {s : DS} (h : DR r rb a c bs G (.slice fa hs.length fc) w s) (HI : HIn r rb w fa hs) (P R V : Int) (fca : Option Addr) (fcl fcc : Nat) (x : PI) (aa ra : Option Addr) (la ca lr cr : Nat) (hn : 0 ≤ x.n ∧ x.n < hs.length) :
 Calls Tryd.prog 72 #[.pointer (some ⟨r, 0, none⟩), vU 65, .agg #[vI P, vI R, vI V, .slice fca fcl fcc], .agg #[vI x.op, vI x.r, vI x.s, vI x.t, vI x.n, .slice aa la ca, .slice ra lr cr]] w fun e w' => ∃ lv, e = .returned lv ∧ IOwn w' w.heap.size lv (listD bs V (calP hs x.n) s).1 ∧ DR r rb a c bs G (.slice fa hs.length fc) w' (listD bs V (calP hs x.n) s).2 ∧ Fr (fun j => j = r ∨ j = rb) w w' := by
 refine list_D h (fun z e => by cases e) 65 P R V _ _ _ _ _ _ _ _ (calP hs x.n) (fun wx s' hd hf => ?_)
 obtain ⟨N, hN⟩ : ∃ N : Nat, x.n = N := ⟨x.n.toNat, by omega⟩
 have hlt : N < hs.length := by omega
 obtain ⟨fk, fo, rfl, -, -, -, h4, h5⟩ := HI.fr hf N hlt
 have e : calP hs x.n = hs[N].1 := by
  unfold calP
  rw [hN, Int.toNat_natCast, List.getElem?_eq_getElem hlt]
  rfl
 rw [e, hN]
 exact rwanted_A rb fk fo hs.length fc N G wx s'.L s'.E hd.rw hlt _ h4 P R V fca fcl fcc x.op x.r x.s x.t aa ra la ca lr cr
theorem list_66 {r rb : Nat} {a : Option Addr} {c : Nat} {bs : List UInt8} {G : Int} {fa : Option Addr} {fc : Nat} {hs : List HT} {w : World} {s : DS} (h : DR r rb a c bs G (.slice fa hs.length fc) w s) (HI : HIn r rb w fa hs) (P R V : Int) (fca : Option Addr) (fcl fcc : Nat) (x : PI) (aa ra : Option Addr) (la ca lr cr : Nat) (hn : 0 ≤ x.n ∧ x.n < hs.length) :
 Calls Tryd.prog 72 #[.pointer (some ⟨r, 0, none⟩), vU 66, .agg #[vI P, vI R, vI V, .slice fca fcl fcc], .agg #[vI x.op, vI x.r, vI x.s, vI x.t, vI x.n, .slice aa la ca, .slice ra lr cr]] w fun e w' => ∃ lv, e = .returned lv ∧ IOwn w' w.heap.size lv (listD bs V (calR hs x.n) s).1 ∧ DR r rb a c bs G (.slice fa hs.length fc) w' (listD bs V (calR hs x.n) s).2 ∧ Fr (fun j => j = r ∨ j = rb) w w' := by
 refine list_D h (fun z e => by cases e) 66 P R V _ _ _ _ _ _ _ _ (calR hs x.n) (fun wx s' hd hf => ?_)
 obtain ⟨N, hN⟩ : ∃ N : Nat, x.n = N := ⟨x.n.toNat, by omega⟩
 have hlt : N < hs.length := by omega
 obtain ⟨fk, fo, rfl, -, -, -, h4, h5⟩ := HI.fr hf N hlt
 have e : calR hs x.n = hs[N].2.1 := by
  unfold calR
  rw [hN, Int.toNat_natCast, List.getElem?_eq_getElem hlt]
  rfl
 rw [e, hN]
 exact rwanted_B rb fk fo hs.length fc N G wx s'.L s'.E hd.rw hlt _ h5 P R V fca fcl fcc x.op x.r x.s x.t aa ra la ca lr cr
theorem list_86 {r rb : Nat} {a : Option Addr} {c : Nat} {bs : List UInt8} {G : Int} {fv : Value} {w : World} {s : DS} (h : DR r rb a c bs G fv w s) (hfv : ∀ z, fv ≠ .int .u8 z) (P R V : Int) (fca : Option Addr) (fcl fcc : Nat) (x : PI) (aa ra : Option Addr) (la ca lr cr : Nat) :
 Calls Tryd.prog 72 #[.pointer (some ⟨r, 0, none⟩), vU 86, .agg #[vI P, vI R, vI V, .slice fca fcl fcc], .agg #[vI x.op, vI x.r, vI x.s, vI x.t, vI x.n, .slice aa la ca, .slice ra lr cr]] w fun e w' => ∃ lv, e = .returned lv ∧ IOwn w' w.heap.size lv (listD bs V R s).1 ∧ DR r rb a c bs G fv w' (listD bs V R s).2 ∧ Fr (fun j => j = r ∨ j = rb) w w' :=
 list_D h hfv 86 P R V _ _ _ _ _ _ _ _ R (fun wx s' hd hf => rwanted_V rb wx P R V fca fcl fcc x.op x.r x.s x.t x.n aa ra la ca lr cr)
end Go.Proofs.YtingenonbkencaaDoor
