import Derived.Test.YtingenonbkencaaDoorQYp
import Derived.Test.YtingenonbkencaaDoorQYj1
import Derived.Test.YtingenonbkencaaDoorQXd
import Derived.Test.YtingenonbkencaaDoorQKbJ
import Derived.Test.YtingenonbkencaaDoorQW7J
set_option linter.unusedVariables false
set_option linter.unusedSimpArgs false
namespace Go.Proofs.YtingenonbkencaaDoor
open Go.RowKit (wrap32 wrap64)
def Kp (w w' : World) (fv : Value) (fs : List PF) : Prop := ∀ (S : Nat → Prop) (u : World), Fr S w' u → (∀ k, S k → k < w.heap.size) → FA u fv fs
theorem Kp.fa {w w' : World} {fv : Value} {fs : List PF} (h : Kp w w' fv fs) : FA w' fv fs := h (fun _ => False) w' (Fr.refl _ _) (fun _ h => h.elim)
theorem nil_fa (w : World) : FA w (.slice none 0 0) [] := ⟨none, 0, rfl, fun h => absurd rfl h⟩
theorem pfD_pfs : ∀ (done : List HD) (ls : List (List AI)), pfD (done.map tup) (ls.map (List.map pi)) = pfs done ls
 | [], _ => by simp [pfD, pfs]
 | _ :: _, [] => by simp [pfD, pfs]
 | h :: r, l :: t => by
   have ih := pfD_pfs r t
   unfold pfD pfs at ih ⊢
   simp only [List.map_cons, List.zipWith_cons_cons, ih]
   rfl
def EndsD (w : World) (E O G : Int) (fs : List PF) (e : Ending) (w' : World) : Prop :=
 Fr (fun _ => False) w w' ∧ ∃ fv, e = .returned (.tuple #[.agg #[vI G, fv], vI E, vI O]) ∧ Kp w w' fv fs
theorem said_same {bs : List UInt8} (hL : bs.length ≤ 1000000000000000) {w w' : World} {e : Ending} (h : DecEnds w bs e w') :
 ∃ E O G fs, FineP fs ∧ EndsD w E O G fs e w' ∧ ∀ u e2 u', DecRes u bs e2 u' → EndsD u E O G fs e2 u' := by
 obtain ⟨f, h⟩ := h
 have hd := decD_is (rv := nilS) hL nilS nilS
 change (match decX bs with
  | .error z => ErS z (decD bs).2.2.2
  | .ok (G, done, ls) => (decD bs).2.2.2.E = 0 ∧ (decD bs).1 = G ∧ (decD bs).2.1 = done.map tup ∧ (decD bs).2.2.1 = ls.map (List.map pi)) at hd
 cases hx : decX bs with
 | error z =>
   rw [hx] at h hd
   obtain ⟨e1, e2, e3⟩ := hd
   refine ⟨z.1, z.2, 0, [], ⟨by simp, by simp⟩, ⟨f, _, h, fun S u _ _ => nil_fa u⟩, ?_⟩
   rintro u e2' u' ⟨f', h'⟩
   rw [if_neg (by rw [e1]; exact e2), e1, e3] at h'
   exact ⟨f', _, h', fun S u _ _ => nil_fa u⟩
 | ok q =>
   obtain ⟨G, done, ls⟩ := q
   rw [hx] at h hd
   obtain ⟨e1, e2, e3, e4⟩ := hd
   obtain ⟨v, rfl, hlp⟩ := h
   obtain ⟨fv, rfl, -, hll, hn65, hdf⟩ := hlp.fa
   have hfine := (dec_fs hL hx hll hn65 hdf).2.2.1
   refine ⟨0, 0, G, pfs done ls, hfine, ⟨f, fv, rfl, fun S u fu hS => ?_⟩, ?_⟩
   ·obtain ⟨fv2, e, hfa, -⟩ := (hlp.back (Nat.le_refl _) fu (fun k hk _ hs => by have := hS k hs; omega)).fa
    cases e
    exact hfa
   ·rintro u e2' u' ⟨f', h'⟩
    rw [if_pos e1, e2] at h'
    obtain ⟨fv, L, rfl, hfo, hL2, -⟩ := h'
    refine ⟨f', fv, rfl, fun S u2 fu hS => ?_⟩
    have := (hfo.far fu hS).fa
    rw [hL2, e3, e4, pfD_pfs] at this
    exact this
set_option maxRecDepth 100000
set_option maxHeartbeats 1000000
theorem eqBytes_same (v1 v2 : Value) (bs : List UInt8) (w : World) (h1 : BytesIn w v1 bs) (h2 : BytesIn w v2 bs) :
 Calls Tryd.prog 16 #[v1, v2] w fun e w' => e = .returned (.bool true) ∧ Fr (fun _ => False) w w' := by
 obtain ⟨hL, a1, c1, rfl, hc1, g1⟩ := h1
 obtain ⟨-, a2, c2, rfl, hc2, g2⟩ := h2
 have H1 : Hd _ := g1
 have H2 : Hd _ := g2
 clear g1 g2
 obtain ⟨n, hn⟩ : ∃ n, n = bs.length := ⟨_, rfl⟩
 have HN : Hd (n = bs.length) := hn
 rw [← hn] at hL hc1 hc2 ⊢
 clear hn
 go_enter Tryd.func16, Tryd.ntmps16
 go_wp2_with fail
 go_loopw [5] (fun v wr => ∃ (k : Nat), v = .int .i64 k ∧ k ≤ n ∧ Hd (Fr (fun _ => False) w wr)) (fun v _ => match v with | .int _ q => n - q.toNat | _ => 0)
 case atStart => exact ⟨0, rfl, Nat.zero_le _, Fr.refl _ _⟩
 case round =>
  obtain ⟨k, rfl, hk, HF⟩ := hrel
  by_cases hltn : k < n
  ·have hlt : k < bs.length := by rw [← HN.out]; exact hltn
   obtain ⟨k1, o1, rfl, hk1, g1⟩ := H1.out (by intro e; simp [e] at hlt)
   obtain ⟨k2, o2, rfl, hk2, g2⟩ := H2.out (by intro e; simp [e] at hlt)
   have q1 := (HF.out.cell (o := o1 + k) hk1 (fun h => h)).trans (g1 k hlt)
   have q2 := (HF.out.cell (o := o2 + k) hk2 (fun h => h)).trans (g2 k hlt)
   generalize bs[k].toNat = x at *
   have hk0 : (0 : Int) ≤ k := by omega
   have hk3 : (k : Int) < n := by omega
   clear g1 g2 hlt
   go_wp2_with fail
   refine wp_region_still_tail 8 mixed (by kernel_rfl) ?_
   simp only [List.take_succ_cons, List.take_zero, List.drop_succ_cons, List.drop_zero]
   repeat still_step
   refine wpStill_nil ?_
   go_wp2_with fail
   exact ⟨⟨k + 1, by simp, by omega, HF.out.drew⟩, by simp; omega⟩
  ·have hkn : k = n := by omega
   subst hkn
   go_wp2_with fail
   go_ret
   exact ⟨rfl, HF.out⟩
end Go.Proofs.YtingenonbkencaaDoor
