import Derived.Test.YtingenonbkencabDoorQA4J
import Derived.Test.YtingenonbkencabDoorQS2
import Derived.Test.YtingenonbkencabDoorQK2J
set_option linter.unusedVariables false
set_option linter.unusedSimpArgs false
namespace Go.Proofs.YtingenonbkencabDoor
open Go.RowKit (wrap32 wrap64)
set_option maxRecDepth 100000
set_option maxHeartbeats 1000000
def Went (pq : Nat) (J : Int → Option Addr → Nat → Nat → World → Prop) (Pn : Int → Int → World → Prop) (e : Ending) (w1 : World) : Prop :=
 (∃ G a n c, e = .returned (.agg #[vI G, .slice a n c]) ∧ J G a n c w1 ∧ (∃ u0 u1, w1.cell? ⟨pq, 0, none⟩ = some u0 ∧ w1.cell? ⟨pq, 1, none⟩ = some u1) ∧ ∀ o, w1.frozen? ⟨pq, o, none⟩ = false) ∨
   ∃ er at', e = .panicked (viol er at') ∧ Pn er at' w1
def Went1 (pq : Nat) (J : Int → Option Addr → Nat → Nat → World → Prop) (Pn : Int → Int → World → Prop) (e : Ending) (w1 : World) : Prop :=
 (e = .returned (.tuple #[]) ∧ ∃ G a n c w0, J G a n c w0 ∧ w1 = (w0.setCell ⟨pq, 0, none⟩ (vI G)).setCell ⟨pq, 1, none⟩ (.slice a n c)) ∨
   ∃ er at', e = .panicked (viol er at') ∧ Pn er at' w1
theorem decode1_any (wv rq pq b : Nat) (ra : Option Addr) (rl rc : Nat) (w : World) (hw : w.cell? ⟨wv, 0, none⟩ = some (.pointer (some ⟨b, 0, none⟩))) (hr : w.cell? ⟨rq, 0, none⟩ = some (.slice ra rl rc))
 (J : Int → Option Addr → Nat → Nat → World → Prop) (Pn : Int → Int → World → Prop)
 (ht : Calls Tryd.prog 31 #[.pointer (some ⟨b, 0, none⟩), .agg #[.slice ra rl rc]] w (Went pq J Pn)) :
 Calls Tryd.prog 30 #[.pointer (some ⟨wv, 0, none⟩), .pointer (some ⟨rq, 0, none⟩), .pointer (some ⟨pq, 0, none⟩)] w (Went1 pq J Pn) := by
 go_enter Tryd.func30, Tryd.ntmps30
 go_wp2_with fail
 refine ht.mono ?_
 rintro e w1 (⟨G, a, n, c, rfl, hJ, ⟨u0, u1, h0, h1⟩, hz⟩ | ⟨er, at', rfl, hP⟩)
 ·clear ht
  go_wp2_with fail
  go_end0
  exact Or.inl ⟨rfl, G, a, n, c, w1, hJ, rfl⟩
 ·clear ht
  go_wp2_with fail
  exact ⟨rfl, Or.inr ⟨er, at', rfl, hP⟩⟩
theorem through_same {b b' : Nat} {rv rv' : Value} {bs : List UInt8} {s s' : WS} (fv fv' : Value) (hL : bs.length ≤ 1000000000000000) (hs : Eqv s s') (h6 : s.at' = 6) :
 throughX b rv bs s fv = throughX b' rv' bs s' fv' := by
 have h6' : s'.at' = 6 := (Eqv.at hs).trans h6
 have hE := body_stb ⟨b, b', rv, rv', bs, bs, bs.length, Nat.le_refl _, hL, hL, rfl⟩ s s' hs h6 fv fv'
 have hE' := body_stb ⟨b', b, rv', rv, bs, bs, bs.length, Nat.le_refl _, hL, hL, rfl⟩ s' s (Eq.symm hs) h6' fv' fv
 simp only at hE hE'
 rw [throughX_body, throughX_body]
 cases hb : bodyX b rv bs s fv with
 | ok q =>
   rw [hb] at hE
   obtain ⟨-, k2, k3, -⟩ := hE
   obtain ⟨q', e', hq⟩ := k3 k2
   rw [e']
   simp only [thenX]
   rw [hq.1, Eqv.at hq.2]
 | error z =>
   rw [hb] at hE
   by_cases hz : z.1 = 11
   ·have hp := hE.2.1 hz
    cases hb' : bodyX b' rv' bs s' fv' with
    | ok q' =>
      rw [hb', hb] at hE'
      obtain ⟨-, k2, k3, -⟩ := hE'
      obtain ⟨q, e, -⟩ := k3 k2
      cases e
    | error z' =>
      rw [hb', hb] at hE'
      by_cases hz' : z'.1 = 11
      ·have hp' := hE'.2.1 hz'
       rw [show z = z' from Prod.ext (hz.trans hz'.symm) (hp.trans hp'.symm)]
      ·obtain ⟨-, -, -, -, k5⟩ := hE'.2.2 hz'
       have := k5 (Or.inr (Int.le_refl _))
       cases this
       exact absurd hz hz'
   ·obtain ⟨-, -, -, -, k5⟩ := hE.2.2 hz
    rw [k5 (Or.inr (Int.le_refl _))]
def decX (bs : List UInt8) : X (Int × List HD × List (List AI)) := throughX 0 nilS bs (WS.start nilS) nilS
theorem decX_eq {b : Nat} {rv : Value} {bs : List UInt8} {num fv : Value} (hL : bs.length ≤ 1000000000000000) : throughX b rv bs (WS.start num) fv = decX bs :=
 through_same _ _ hL rfl rfl
theorem decX_told {bs : List UInt8} {z : Int × Int} (hL : bs.length ≤ 1000000000000000) (h : decX bs = .error z) : z.1 ≠ 0 := by
 unfold decX at h
 rw [throughX_body] at h
 split at h
 ·have hE := body_stb ⟨0, 0, nilS, nilS, bs, bs, bs.length, Nat.le_refl _, hL, hL, rfl⟩ (WS.start nilS) (WS.start nilS) rfl rfl nilS nilS
  simp only at hE
  cases hb : bodyX 0 nilS bs (WS.start nilS) nilS with
  | error z' =>
    rw [hb] at h hE
    cases h
    exact hE.1
  | ok q =>
    rw [hb] at h
    simp only [thenX] at h
    split at h
    ·cases h
    ·cases h; simp
 ·cases h; simp
set_option maxRecDepth 100000
set_option maxHeartbeats 1000000
def varB (V v : Int) : Bool := decide (0 ≤ v) && decide (v < V)
theorem rvariable (rb : Nat) (G : Int) (fv : Value) (w : World) (L E : Int) (h : RW rb G fv w L E) (P R V : Int) (a : Option Addr) (l c : Nat) (v : Int) :
 Calls Tryd.prog 69 #[.pointer (some ⟨rb, 0, none⟩), .agg #[vI P, vI R, vI V, .slice a l c], vI v] w fun r w' => r = .returned (.tuple #[]) ∧ RW rb G fv w' L (mustE (varB V v) 13 E) ∧ Fr (fun k => k = rb) w w' := by
 have hf0 : Fr (fun k => k = rb) w (w.alloc (.cells #[vI P, vI R, vI V, .slice a l c] 42)) := Fr.alloc (Fr.refl _ _) _
 have h0 : RW rb G fv (w.alloc (.cells #[vI P, vI R, vI V, .slice a l c] 42)) L E := h.fr (Fr.alloc (Fr.refl (fun _ => False) w) _) (fun h => h)
 have hm := rmust rb G fv _ L E h0 (varB V v) 13
 by_cases h1 : 0 ≤ v
 ·by_cases h2 : v < V
  ·have hv : varB V v = true := by unfold varB; simp [h1, h2]
   have HV : Hd (varB V v = true) := hv
   rw [hv] at hm
   clear hv h h0
   go_enter Tryd.func69, Tryd.ntmps69
   go_wp2_with fail
   refine hm.mono ?_
   rintro e w1 ⟨rfl, hr, hf⟩
   clear hm
   go_wp2_with fail
   go_end0
   exact ⟨rfl, by rw [HV.out]; exact hr, hf0.trans hf⟩
  ·have hv : varB V v = false := by unfold varB; simp [h2]
   have HV : Hd (varB V v = false) := hv
   rw [hv] at hm
   clear hv h h0
   go_enter Tryd.func69, Tryd.ntmps69
   go_wp2_with fail
   refine hm.mono ?_
   rintro e w1 ⟨rfl, hr, hf⟩
   clear hm
   go_wp2_with fail
   go_end0
   exact ⟨rfl, by rw [HV.out]; exact hr, hf0.trans hf⟩
 ·have hv : varB V v = false := by unfold varB; simp [h1]
  have HV : Hd (varB V v = false) := hv
  rw [hv] at hm
  clear hv h h0
  go_enter Tryd.func69, Tryd.ntmps69
  go_wp2_with fail
  refine hm.mono ?_
  rintro e w1 ⟨rfl, hr, hf⟩
  clear hm
  go_wp2_with fail
  go_end0
  exact ⟨rfl, by rw [HV.out]; exact hr, hf0.trans hf⟩
end Go.Proofs.YtingenonbkencabDoor
