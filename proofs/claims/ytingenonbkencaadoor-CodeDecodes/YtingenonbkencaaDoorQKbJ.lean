import Derived.Test.YtingenonbkencaaDoorQK9J
import Derived.Test.YtingenonbkencaaDoorQK8J
import Derived.Test.YtingenonbkencaaDoorQE6J
import Derived.Test.YtingenonbkencaaDoorQW3J
import Derived.Test.YtingenonbkencaaDoorQF2J
import Derived.Test.YtingenonbkencaaDoorQS1J
set_option linter.unusedVariables false
set_option linter.unusedSimpArgs false
namespace Go.Proofs.YtingenonbkencaaDoor
open Go.RowKit (wrap32 wrap64)
set_option maxRecDepth 100000
set_option maxHeartbeats 2000000
theorem rwanted_V (rb : Nat) (w : World) (P R V : Int) (a : Option Addr) (l c : Nat) (op zr zs zt zn : Int) (aa ra : Option Addr) (la ca lr cr : Nat) :
 Calls Tryd.prog 97 #[.pointer (some ⟨rb, 0, none⟩), .int .u8 86, .agg #[vI P, vI R, vI V, .slice a l c], .agg #[vI op, vI zr, vI zs, vI zt, vI zn, .slice aa la ca, .slice ra lr cr]] w fun r w' => r = .returned (vI R) ∧ Fr (fun _ => False) w w' := by
 go_enter Tryd.func97, Tryd.ntmps97
 go_wp2_with fail
 go_ret
 refine ⟨rfl, ?_⟩
 repeat first
  | exact Fr.refl _ _
  | refine Fr.drew ?_
  | refine Fr.alloc ?_ _
theorem rwanted_A (rb fk fo nf fc N : Nat) (G : Int) (w : World) (L E : Int) (h : RW rb G (.slice (some ⟨fk, fo, none⟩) nf fc) w L E) (hN : N < nf) (X : Int) (hX : w.cell? ⟨fk, fo + N * 4, none⟩ = some (vI X)) (P R V : Int) (a : Option Addr) (l c : Nat) (op zr zs zt : Int) (aa ra : Option Addr) (la ca lr cr : Nat) :
 Calls Tryd.prog 97 #[.pointer (some ⟨rb, 0, none⟩), .int .u8 65, .agg #[vI P, vI R, vI V, .slice a l c], .agg #[vI op, vI zr, vI zs, vI zt, vI N, .slice aa la ca, .slice ra lr cr]] w fun r w' => r = .returned (vI X) ∧ Fr (fun _ => False) w w' := by
 obtain ⟨c0, c1, -, -, hz, hlt⟩ := h.cells
 have hfl : fk < w.heap.size := cell_lt hX
 clear h
 go_enter Tryd.func97, Tryd.ntmps97
 go_wp2_with fail
 go_region
 go_wp2_with fail
 go_ret
 refine ⟨rfl, ?_⟩
 repeat first
  | exact Fr.refl _ _
  | refine Fr.drew ?_
  | refine Fr.alloc ?_ _
theorem rwanted_B (rb fk fo nf fc N : Nat) (G : Int) (w : World) (L E : Int) (h : RW rb G (.slice (some ⟨fk, fo, none⟩) nf fc) w L E) (hN : N < nf) (X : Int) (hX : w.cell? ⟨fk, fo + N * 4 + 1, none⟩ = some (vI X)) (P R V : Int) (a : Option Addr) (l c : Nat) (op zr zs zt : Int) (aa ra : Option Addr) (la ca lr cr : Nat) :
 Calls Tryd.prog 97 #[.pointer (some ⟨rb, 0, none⟩), .int .u8 66, .agg #[vI P, vI R, vI V, .slice a l c], .agg #[vI op, vI zr, vI zs, vI zt, vI N, .slice aa la ca, .slice ra lr cr]] w fun r w' => r = .returned (vI X) ∧ Fr (fun _ => False) w w' := by
 obtain ⟨c0, c1, -, -, hz, hlt⟩ := h.cells
 have hfl : fk < w.heap.size := cell_lt hX
 clear h
 go_enter Tryd.func97, Tryd.ntmps97
 go_wp2_with fail
 go_region
 go_wp2_with fail
 go_ret
 refine ⟨rfl, ?_⟩
 repeat first
  | exact Fr.refl _ _
  | refine Fr.drew ?_
  | refine Fr.alloc ?_ _
theorem flat_get {α : Type} (row : α → List Value) (sz : Nat) (hr : ∀ x, (row x).length = sz) : ∀ (L : List α) (i o : Nat) (h : i < L.length), o < sz → (L.flatMap row)[i * sz + o]? = (row L[i])[o]?
 | [], i, o, h, _ => absurd h (by simp)
 | x :: L, 0, o, _, ho => by
   rw [Nat.zero_mul, Nat.zero_add, List.flatMap_cons, List.getElem?_append_left (by rw [hr]; exact ho)]
   rfl
 | x :: L, i + 1, o, h, ho => by
   rw [List.flatMap_cons, List.getElem?_append_right (by rw [hr, Nat.add_mul]; omega), hr, show (i + 1) * sz + o - sz = i * sz + o by rw [Nat.add_mul]; omega]
   exact flat_get row sz hr L i o (by simpa using h) ho
theorem flat_len {α : Type} (row : α → List Value) (sz : Nat) (hr : ∀ x, (row x).length = sz) : ∀ (L : List α), (L.flatMap row).length = L.length * sz
 | [] => by simp
 | x :: L => by rw [List.flatMap_cons, List.length_append, hr, flat_len row sz hr L, List.length_cons, Nat.add_mul]; omega
theorem own_cell {w : World} {B e sz n : Nat} {v : Value} {xs : List Value} (h : w.ownsRow B e sz v n xs) {j : Nat} {u : Value} (hj : xs[j]? = some u) : ∃ g cap, v = .slice (some ⟨g, 0, none⟩) n cap ∧ g < w.heap.size ∧ w.cell? ⟨g, j, none⟩ = some u := by
 obtain ⟨h0, h1⟩ := h
 have hjl := (List.getElem?_eq_some_iff.1 hj).1
 rcases h1 with ⟨-, e2⟩ | ⟨g, cap, cur, rfl, k1, k2, k3, k4, k5, k6⟩
 ·subst e2; simp at h0; subst h0; simp at hjl
 ·refine ⟨g, cap, rfl, heap_lt k2, ?_⟩
  rw [cell_of k2, ← Array.getElem?_toList]
  rw [← k6] at hj
  rw [List.getElem?_take_of_lt (by omega)] at hj
  exact hj
theorem own_apart {w : World} {B B' e e' sz sz' n m : Nat} {v u : Value} {xs ys : List Value} (h : w.ownsRow B e sz v n xs) (k : w.ownsRow B' e' sz' u m ys) (he : e ≠ e') : ∀ j, u.ownBlock = some j → v.ownBlock ≠ some j := by
 intro j hu hv
 rcases h.2 with ⟨rfl, -⟩ | ⟨g, cap, cur, rfl, -, h2, -⟩
 ·cases hv
 ·rcases k.2 with ⟨rfl, -⟩ | ⟨g', cap', cur', rfl, -, k2, -⟩
  ·cases hu
  ·cases hv
   cases hu
   rw [h2] at k2
   cases k2
   exact he rfl
abbrev CI := PI × Value × Value
abbrev rowI (x : CI) : List Value := iR x.1 x.2
structure CO (w : World) (B : Nat) (v : Value) (L : List CI) : Prop where
 row : w.ownsRow B 71 7 v L.length (L.flatMap rowI)
 ints : ∀ x ∈ L, IOwn w B x.2.1 x.1.args ∧ IOwn w B x.2.2 x.1.rets
theorem CO.ca {w : World} {B : Nat} {v : Value} {L : List CI} (h : CO w B v L) : CA w v (L.map (·.1)) := by
 rcases h.row.2 with ⟨h2, h3⟩ | ⟨g, cap, cur, e, -⟩
 ·refine ⟨none, 0, by rw [h2, List.length_map, h3], fun hne => ?_⟩
  exact absurd (by rw [List.eq_nil_of_length_eq_zero h3]; rfl) hne
 ·refine ⟨some ⟨g, 0, none⟩, cap, by rw [e, List.length_map], fun _ => ⟨g, 0, rfl, (World.ownsRow.lt h.row g (by rw [e]; rfl)).2, fun j hj => ?_⟩⟩
  have hj' : j < L.length := by simpa using hj
  have pc : ∀ o u, o < 7 → (rowI L[j])[o]? = some u → w.cell? ⟨g, j * 7 + o, none⟩ = some u := fun o u ho hu => by
   obtain ⟨g', cap', e', -, hc⟩ := own_cell h.row (j := j * 7 + o) (u := u) (by rw [flat_get rowI 7 (fun _ => rfl) L j o hj' ho]; exact hu)
   rw [e] at e'
   cases e'
   exact hc
  have hi := h.ints L[j] (List.getElem_mem hj')
  rw [Nat.zero_add]
  simp only [List.getElem_map]
  exact ⟨L[j].2.1, L[j].2.2, pc 0 _ (by omega) rfl, pc 1 _ (by omega) rfl, pc 2 _ (by omega) rfl, pc 3 _ (by omega) rfl, pc 4 _ (by omega) rfl, pc 5 _ (by omega) rfl, pc 6 _ (by omega) rfl, hi.1.ia, hi.2.ia⟩
theorem CO.fr {S : Nat → Prop} {w w' : World} {B : Nat} {v : Value} {L : List CI} (h : CO w B v L) (f : Fr S w w') (h1 : ∀ k, v.ownBlock = some k → ¬ S k) (h2 : ∀ x ∈ L, ∀ k, (x.2.1.ownBlock = some k ∨ x.2.2.ownBlock = some k) → ¬ S k) : CO w' B v L :=
 ⟨ownsRow_frL h.row f h1, fun x hx => ⟨(h.ints x hx).1.fr f (fun k e => h2 x hx k (Or.inl e)), (h.ints x hx).2.fr f (fun k e => h2 x hx k (Or.inr e))⟩⟩
theorem CO.stay {w w' : World} {B : Nat} {v : Value} {L : List CI} (h : CO w B v L) (f : Fr (fun _ => False) w w') : CO w' B v L := h.fr f (fun _ _ e => e) (fun _ _ _ _ e => e)
theorem CO.mono {w : World} {B B' : Nat} {v : Value} {L : List CI} (h : CO w B v L) (hB : B' ≤ B) : CO w B' v L := ⟨World.ownsRow.mono h.row hB, fun x hx => ⟨(h.ints x hx).1.mono hB, (h.ints x hx).2.mono hB⟩⟩
abbrev FI := PF × Value × List CI
abbrev rowF (x : FI) : List Value := fR x.1 x.2.1
structure FO (w : World) (B : Nat) (v : Value) (L : List FI) : Prop where
 row : w.ownsRow B 67 4 v L.length (L.flatMap rowF)
 code : ∀ x ∈ L, CO w B x.2.1 x.2.2 ∧ x.2.2.map (·.1) = x.1.code
theorem FO.fa {w : World} {B : Nat} {v : Value} {L : List FI} (h : FO w B v L) : FA w v (L.map (·.1)) := by
 rcases h.row.2 with ⟨h2, h3⟩ | ⟨g, cap, cur, e, -⟩
 ·refine ⟨none, 0, by rw [h2, List.length_map, h3], fun hne => ?_⟩
  exact absurd (by rw [List.eq_nil_of_length_eq_zero h3]; rfl) hne
 ·refine ⟨some ⟨g, 0, none⟩, cap, by rw [e, List.length_map], fun _ => ⟨g, 0, rfl, (World.ownsRow.lt h.row g (by rw [e]; rfl)).2, fun j hj => ?_⟩⟩
  have hj' : j < L.length := by simpa using hj
  have pc : ∀ o u, o < 4 → (rowF L[j])[o]? = some u → w.cell? ⟨g, j * 4 + o, none⟩ = some u := fun o u ho hu => by
   obtain ⟨g', cap', e', -, hc⟩ := own_cell h.row (j := j * 4 + o) (u := u) (by rw [flat_get rowF 4 (fun _ => rfl) L j o hj' ho]; exact hu)
   rw [e] at e'
   cases e'
   exact hc
  have hi := h.code L[j] (List.getElem_mem hj')
  rw [Nat.zero_add]
  simp only [List.getElem_map]
  refine ⟨L[j].2.1, pc 0 _ (by omega) rfl, pc 1 _ (by omega) rfl, pc 2 _ (by omega) rfl, pc 3 _ (by omega) rfl, ?_⟩
  rw [← hi.2]
  exact hi.1.ca
theorem FO.stay {w w' : World} {B : Nat} {v : Value} {L : List FI} (h : FO w B v L) (f : Fr (fun _ => False) w w') : FO w' B v L := ⟨ownsRow_frL h.row f (fun _ _ e => e), fun x hx => ⟨(h.code x hx).1.stay f, (h.code x hx).2⟩⟩
theorem CO.shape {w : World} {B : Nat} {v : Value} {L : List CI} (h : CO w B v L) : ∃ a c, v = .slice a L.length c := by
 rcases h.row.2 with ⟨h2, h3⟩ | ⟨g, cap, cur, e, -⟩
 ·exact ⟨none, 0, by rw [h2, h3]⟩
 ·exact ⟨_, _, e⟩
theorem FO.shape {w : World} {B : Nat} {v : Value} {L : List FI} (h : FO w B v L) : ∃ a c, v = .slice a L.length c := by
 rcases h.row.2 with ⟨h2, h3⟩ | ⟨g, cap, cur, e, -⟩
 ·exact ⟨none, 0, by rw [h2, h3]⟩
 ·exact ⟨_, _, e⟩
theorem FO.far {S : Nat → Prop} {w w' : World} {B : Nat} {v : Value} {L : List FI} (h : FO w B v L) (f : Fr S w w') (hS : ∀ k, S k → k < B) : FO w' B v L := by
 have no : ∀ k, B ≤ k → ¬ S k := fun k hk e => by have := hS k e; omega
 refine ⟨ownsRow_frL h.row f (fun k e => no k (World.ownsRow.lt h.row k e).1), fun x hx => ⟨(h.code x hx).1.fr f (fun k e => no k (World.ownsRow.lt (h.code x hx).1.row k e).1) (fun y hy k e => ?_), (h.code x hx).2⟩⟩
 rcases e with e | e
 ·exact no k (((h.code x hx).1.ints y hy).1.ge k e).1
 ·exact no k (((h.code x hx).1.ints y hy).2.ge k e).1
theorem FO.mono {w : World} {B B' : Nat} {v : Value} {L : List FI} (h : FO w B v L) (hB : B' ≤ B) : FO w B' v L := ⟨World.ownsRow.mono h.row hB, fun x hx => ⟨(h.code x hx).1.mono hB, (h.code x hx).2⟩⟩
def IS (S : Nat → Prop) (w : World) (v : Value) (l : List Int) : Prop :=
 ∃ a c, v = .slice a l.length c ∧ (l ≠ [] → ∃ k o, a = some ⟨k, o, none⟩ ∧ k < w.heap.size ∧ ¬ S k ∧ ∀ j (h : j < l.length), w.cell? ⟨k, o + j, none⟩ = some (vI l[j]))
theorem IS.fr {S : Nat → Prop} {w w' : World} {v : Value} {l : List Int} (h : IS S w v l) (f : Fr S w w') : IS S w' v l := by
 obtain ⟨a, c, e, h⟩ := h
 refine ⟨a, c, e, fun hne => ?_⟩
 obtain ⟨k, o, e, hk, hb, hc⟩ := h hne
 exact ⟨k, o, e, Nat.lt_of_lt_of_le hk f.size, hb, fun j hj => (f.cell hk hb).trans (hc j hj)⟩
theorem SimX.refl (r : X (WS × Unit)) : SimX r r := by cases r <;> exact rfl
theorem SimX.symm {r r' : X (WS × Unit)} (h : SimX r r') : SimX r' r := by
 cases r <;> cases r' <;> first | exact Eq.symm h | exact h.elim
theorem SimX.trans {r r' r'' : X (WS × Unit)} (h : SimX r r') (k : SimX r' r'') : SimX r r'' := by
 cases r <;> cases r' <;> cases r'' <;> first | exact Eq.trans h k | exact h.elim | exact k.elim
theorem SimX.err {z : Int × Int} {T : X (WS × Unit)} (h : SimX (.error z) T) : T = .error z := by
 cases T with
 | ok y => exact h.elim
 | error z' => exact congrArg _ (Eq.symm h)
theorem then_ok {α β : Type} {c : X α} {p : α → X β} {y : β} (h : thenX c p = .ok y) : ∃ x, c = .ok x ∧ p x = .ok y := by
 cases c with
 | ok x => exact ⟨x, rfl, h⟩
 | error z => cases h
theorem through_same {b b' : Nat} {rv rv' : Value} {bs : List UInt8} {s s' : WS} (fv fv' : Value) (hL : bs.length ≤ 1000000000000000) (hs : Eqv s s') (h6 : s.at' = 6) :
 throughX b rv bs s fv = throughX b' rv' bs s' fv' := by
 have h6' : s'.at' = 6 := (Eqv.at hs).trans h6
 have hE := body_stb ⟨b, b', rv, rv', bs, bs, bs.length, Nat.le_refl _, hL, hL, rfl⟩ s s' hs h6 fv fv'
 have hE' := body_stb ⟨b', b, rv', rv, bs, bs, bs.length, Nat.le_refl _, hL, hL, rfl⟩ s' s (Eq.symm hs) h6' fv' fv
 simp only at hE hE'
 rw [throughX_body, throughX_body]
 cases hb : bodyX b rv bs s fv with
 | ok q =>
   rw [hb] at hE
   obtain ⟨-, k2, k3, -⟩ := hE
   obtain ⟨q', e', hq⟩ := k3 k2
   rw [e']
   simp only [thenX]
   rw [hq.1, Eqv.at hq.2]
 | error z =>
   rw [hb] at hE
   by_cases hz : z.1 = 11
   ·have hp := hE.2.1 hz
    cases hb' : bodyX b' rv' bs s' fv' with
    | ok q' =>
      rw [hb', hb] at hE'
      obtain ⟨-, k2, k3, -⟩ := hE'
      obtain ⟨q, e, -⟩ := k3 k2
      cases e
    | error z' =>
      rw [hb', hb] at hE'
      by_cases hz' : z'.1 = 11
      ·have hp' := hE'.2.1 hz'
       rw [show z = z' from Prod.ext (hz.trans hz'.symm) (hp.trans hp'.symm)]
      ·obtain ⟨-, -, -, -, k5⟩ := hE'.2.2 hz'
       have := k5 (Or.inr (Int.le_refl _))
       cases this
       exact absurd hz hz'
   ·obtain ⟨-, -, -, -, k5⟩ := hE.2.2 hz
    rw [k5 (Or.inr (Int.le_refl _))]
def decX (bs : List UInt8) : X (Int × List HD × List (List AI)) := throughX 0 nilS bs (WS.start nilS) nilS
theorem decX_eq {b : Nat} {rv : Value} {bs : List UInt8} {num fv : Value} (hL : bs.length ≤ 1000000000000000) : throughX b rv bs (WS.start num) fv = decX bs :=
 through_same _ _ hL rfl rfl
theorem decX_told {bs : List UInt8} {z : Int × Int} (hL : bs.length ≤ 1000000000000000) (h : decX bs = .error z) : z.1 ≠ 0 := by
 unfold decX at h
 rw [throughX_body] at h
 split at h
 ·have hE := body_stb ⟨0, 0, nilS, nilS, bs, bs, bs.length, Nat.le_refl _, hL, hL, rfl⟩ (WS.start nilS) (WS.start nilS) rfl rfl nilS nilS
  simp only at hE
  cases hb : bodyX 0 nilS bs (WS.start nilS) nilS with
  | error z' =>
    rw [hb] at h hE
    cases h
    exact hE.1
  | ok q =>
    rw [hb] at h
    simp only [thenX] at h
    split at h
    ·cases h
    ·cases h; simp
 ·cases h; simp
end Go.Proofs.YtingenonbkencaaDoor
