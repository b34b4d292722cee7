import Derived.Test.YtingenonbkencaaDoorQKbJ
import Derived.Test.YtingenonbkencaaDoorQLbJ
import Derived.Test.YtingenonbkencaaDoorQL0J
import Derived.StillTail
import Derived.Deep.RegionHeld
import Derived.Test.YtingenonbkencaaDoorQK8J
import Derived.Test.YtingenonbkencaaDoorQB2J
set_option linter.unusedVariables false
set_option linter.unusedSimpArgs false
namespace Go.Proofs.YtingenonbkencaaDoor
open Go.RowKit (wrap32 wrap64)
def Al {σ : Type} (x x' : WS × σ) : Prop := x.1.bare = x'.1.bare ∧ x.2 = x'.2
theorem Al.refl {σ : Type} (x : WS × σ) : Al x x := ⟨rfl, rfl⟩
def SimK {σ : Type} (r r' : X (WS × σ)) : Prop := match r, r' with
 | .ok y, .ok y' => Al y y'
 | .error z, .error z' => z = z'
 | _, _ => False
theorem SimK.refl {σ : Type} (r : X (WS × σ)) : SimK r r := by cases r <;> first | exact rfl | exact Al.refl _
theorem SimK.trans {σ : Type} {r r' r'' : X (WS × σ)} (h : SimK r r') (k : SimK r' r'') : SimK r r'' := by
 cases r <;> cases r' <;> cases r'' <;> first | exact Eq.trans h k | exact h.elim | exact k.elim | exact ⟨h.1.trans k.1, h.2.trans k.2⟩
theorem SimK.then {σ : Type} {c c' : X (WS × σ)} {p p' : WS × σ → X (WS × σ)} (h : SimK c c') (hp : ∀ y y', Al y y' → SimK (p y) (p' y')) : SimK (thenX c p) (thenX c' p') := by
 cases c with
 | ok y => cases c' with
   | ok y' => exact hp y y' h
   | error z => exact h.elim
 | error z => cases c' with
   | ok y' => exact h.elim
   | error z' => exact h
theorem SimK.cast {σ : Type} {r r' q q' : X (WS × σ)} (h1 : r = q) (h2 : r' = q') (h : SimK q q') : SimK r r' := by
 subst h1; subst h2; exact h
theorem SimK.ite {σ : Type} {p : Prop} [Decidable p] {a a' c c' : X (WS × σ)} (h1 : p → SimK a a') (h2 : ¬ p → SimK c c') : SimK (if p then a else c) (if p then a' else c') := by
 by_cases h : p
 ·exact SimK.cast (if_pos h) (if_pos h) (h1 h)
 ·exact SimK.cast (if_neg h) (if_neg h) (h2 h)
theorem SimK.err {σ : Type} {z : Int × Int} {T : X (WS × σ)} (h : SimK (.error z) T) : T = .error z := by
 cases T with
 | ok y => exact h.elim
 | error z' => exact congrArg _ (Eq.symm h)
def CS (S : Nat → Prop) (w : World) (v : Value) (c : List PI) : Prop :=
 c.length ≤ 1000000000000000 ∧ ∃ a cp, v = .slice a c.length cp ∧ (c ≠ [] → ∃ k o, a = some ⟨k, o, none⟩ ∧ k < w.heap.size ∧ ¬ S k ∧ ∀ j (h : j < c.length), ∃ av rv,
  w.cell? ⟨k, o + j * 7, none⟩ = some (vI c[j].op) ∧ w.cell? ⟨k, o + j * 7 + 1, none⟩ = some (vI c[j].r) ∧ w.cell? ⟨k, o + j * 7 + 2, none⟩ = some (vI c[j].s) ∧ w.cell? ⟨k, o + j * 7 + 3, none⟩ = some (vI c[j].t) ∧ w.cell? ⟨k, o + j * 7 + 4, none⟩ = some (vI c[j].n) ∧
  w.cell? ⟨k, o + j * 7 + 5, none⟩ = some av ∧ w.cell? ⟨k, o + j * 7 + 6, none⟩ = some rv ∧ IS S w av c[j].args ∧ IS S w rv c[j].rets ∧ c[j].args.length ≤ 1000000000000000 ∧ c[j].rets.length ≤ 1000000000000000)
def FS (S : Nat → Prop) (w : World) (v : Value) (fs : List PF) : Prop :=
 fs.length ≤ 1000000000000000 ∧ ∃ a cp, v = .slice a fs.length cp ∧ (fs ≠ [] → ∃ k o, a = some ⟨k, o, none⟩ ∧ k < w.heap.size ∧ ¬ S k ∧ ∀ j (h : j < fs.length), ∃ cv,
  w.cell? ⟨k, o + j * 4, none⟩ = some (vI fs[j].P) ∧ w.cell? ⟨k, o + j * 4 + 1, none⟩ = some (vI fs[j].R) ∧ w.cell? ⟨k, o + j * 4 + 2, none⟩ = some (vI fs[j].V) ∧ w.cell? ⟨k, o + j * 4 + 3, none⟩ = some cv ∧ CS S w cv fs[j].code)
theorem IL.out {b : Nat} {S : Nat → Prop} {w : World} {v : Value} {l : List Int} (h : IL b w v l) (hS : ∀ k, k < w.heap.size → k ≠ b → ¬ S k) : IS S w v l := by
 obtain ⟨a, c, e, h⟩ := h
 refine ⟨a, c, e, fun hne => ?_⟩
 obtain ⟨k, o, e, hk, hb, hc⟩ := h hne
 exact ⟨k, o, e, hk, hS k hk hb, hc⟩
theorem CL.out {b : Nat} {S : Nat → Prop} {w : World} {v : Value} {c : List PI} (h : CL b w v c) (hS : ∀ k, k < w.heap.size → k ≠ b → ¬ S k) : CS S w v c := by
 obtain ⟨h0, a, cp, e, h⟩ := h
 refine ⟨h0, a, cp, e, fun hne => ?_⟩
 obtain ⟨k, o, e, hk, hb, hc⟩ := h hne
 refine ⟨k, o, e, hk, hS k hk hb, fun j hj => ?_⟩
 obtain ⟨av, rv, h1, h2, h3, h4, h5, h6, h7, h8, h9, h10⟩ := hc j hj
 exact ⟨av, rv, h1, h2, h3, h4, h5, h6, h7, h8.out hS, h9.out hS, h10⟩
theorem FL.out {b : Nat} {S : Nat → Prop} {w : World} {v : Value} {fs : List PF} (h : FL b w v fs) (hS : ∀ k, k < w.heap.size → k ≠ b → ¬ S k) : FS S w v fs := by
 obtain ⟨h0, a, cp, e, h⟩ := h
 refine ⟨h0, a, cp, e, fun hne => ?_⟩
 obtain ⟨k, o, e, hk, hb, hc⟩ := h hne
 refine ⟨k, o, e, hk, hS k hk hb, fun j hj => ?_⟩
 obtain ⟨cv, h1, h2, h3, h4, h5⟩ := hc j hj
 exact ⟨cv, h1, h2, h3, h4, h5.out hS⟩
def Bd (L : Nat) {ρ : Type} (st : ρ → WS) (a : Int) (K : Nat) (r : X ρ) : Prop :=
 match r with
 | .ok y => a ≤ (st y).at' ∧ (st y).at' ≤ L ∧ (st y).at' ≤ a + K
 | .error z => z.1 ≠ 11 → z.2 ≤ a + K
theorem Bd.then {L : Nat} {ρ τ : Type} {st : ρ → WS} {st2 : τ → WS} {a : Int} {K K' : Nat} {r : X ρ} {g : ρ → X τ} (h : Bd L st a K r)
 (hg : ∀ y, r = .ok y → a ≤ (st y).at' → (st y).at' ≤ L → Bd L st2 (st y).at' K' (g y)) : Bd L st2 a (K + K') (thenX r g) := by
 cases r with
 | error z =>
   intro hz
   have h1 : z.2 ≤ a + K := h hz
   omega
 | ok y =>
   obtain ⟨h1, h2, h3⟩ := h
   have hk := hg y rfl h1 h2
   show Bd L st2 a (K + K') (g y)
   cases hgy : g y with
   | error z =>
     rw [hgy] at hk
     intro hz
     have h4 : z.2 ≤ (st y).at' + K' := hk hz
     omega
   | ok u =>
     rw [hgy] at hk
     obtain ⟨k1, k2, k3⟩ := hk
     exact ⟨by omega, k2, by omega⟩
theorem Bd.mono {L : Nat} {ρ : Type} {st : ρ → WS} {a : Int} {K K' : Nat} {r : X ρ} (h : Bd L st a K r) (hK : K ≤ K') : Bd L st a K' r := by
 cases r with
 | error z =>
   intro hz
   have h1 : z.2 ≤ a + K := h hz
   omega
 | ok y =>
   obtain ⟨h1, h2, h3⟩ := h
   exact ⟨h1, h2, by omega⟩
theorem Bd.cast {L : Nat} {ρ : Type} {st : ρ → WS} {a : Int} {K : Nat} {r s : X ρ} (h : r = s) (k : Bd L st a K s) : Bd L st a K r := by subst h; exact k
theorem Bd.ok {L : Nat} {ρ : Type} {st : ρ → WS} {a : Int} {K : Nat} {y : ρ} (ha : a = (st y).at') (hl : (st y).at' ≤ L) : Bd L st a K (.ok y) := ⟨by omega, hl, by omega⟩
theorem Bd.err {L : Nat} {ρ : Type} {st : ρ → WS} {a : Int} {K : Nat} {z : Int × Int} (h : z.2 ≤ a) : Bd L st a K (.error z : X ρ) := fun _ => by omega
section
variable {b : Nat} {rv : Value} {bs : List UInt8}
theorem next_err {o size : Nat} {x : WS × Unit} {z : Int × Int} (h : nextX (reading b rv bs) o size x = .error z) : z.1 = 11 := by
 unfold nextX at h
 split at h
 ·cases h
 ·rename_i z' hv
  cases h
  have hv' : (match rd bs x.1.at'.toNat size with | .ok v => Except.ok (v, ()) | .error z => .error z : X (Int × Unit)) = .error z := hv
  unfold rd at hv'
  by_cases hin : x.1.at'.toNat + size ≤ bs.length
  ·rw [if_pos hin] at hv'; cases hv'
  ·rw [if_neg hin] at hv'; cases hv'; rfl
theorem next_bd (hL : bs.length ≤ 1000000000000000) (o size : Nat) (x : WS × Unit) (h0 : 0 ≤ x.1.at') (h1 : x.1.at' ≤ 2000000000000000) (hs : size ≤ 8) : Bd bs.length st0 x.1.at' 8 (nextX (reading b rv bs) o size x) := by
 cases h : nextX (reading b rv bs) o size x with
 | error z => exact fun hz => absurd (next_err h) hz
 | ok y =>
   obtain ⟨e1, e2⟩ := nextX_at h h0 h1 hs hL
   exact ⟨by show x.1.at' ≤ y.1.at'; omega, by show y.1.at' ≤ _; omega, by show y.1.at' ≤ _; omega⟩
theorem next_count {x y : WS × Unit} (h : nextX (reading b rv bs) 161 1 x = .ok y) : y.1.count ≤ 255 := by
 unfold nextX at h
 split at h
 ·rename_i v st hv
  have hv' : (match rd bs x.1.at'.toNat 1 with | .ok v => Except.ok (v, ()) | .error z => .error z : X (Int × Unit)) = .ok (v, st) := hv
  unfold rd at hv'
  by_cases hin : x.1.at'.toNat + 1 ≤ bs.length
  ·rw [if_pos hin] at hv'
   cases hv'
   cases h
   have hlt := leAt_lt bs x.1.at'.toNat 1
   show wrap64 (leAt bs x.1.at'.toNat 1) ≤ 255
   unfold wrap64
   omega
  ·rw [if_neg hin] at hv'; cases hv'
 ·cases h
theorem ask_bd (hL : bs.length ≤ 1000000000000000) (o size : Nat) (c : WS → Bool) (er : Int) (x : WS × Unit) (h0 : 0 ≤ x.1.at') (h1 : x.1.at' ≤ 2000000000000000) (hs : size ≤ 8) : Bd bs.length st0 x.1.at' 8 (askX (reading b rv bs) o size c er x) := by
 refine Bd.cast (askX_then (reading b rv bs) o size c er x) (Bd.then (K' := 0) (next_bd hL o size x h0 h1 hs) fun y _ k1 k2 => ?_)
 split
 ·exact Bd.ok rfl k2
 ·exact Bd.err k1
theorem loc_bd (n p : Int) (x : WS × Unit) (hl : x.1.at' ≤ bs.length) (hp : p ≤ x.1.at') : Bd bs.length st0 x.1.at' 0 (locX (reading b rv bs) n p x) := by
 unfold locX
 split
 ·exact Bd.ok rfl hl
 ·exact Bd.err hp
theorem head_bd (hL : bs.length ≤ 1000000000000000) (x : WS × Unit) (h0 : 0 ≤ x.1.at') (h1 : x.1.at' ≤ 1000000000000000) : Bd bs.length st0 x.1.at' 32 (headX (reading b rv bs) x) := by
 refine Bd.cast (headX_then (reading b rv bs) x) (Bd.then (K' := 24) (next_bd hL 149 1 x h0 (by omega) (by omega)) fun y1 _ a1 b1 => ?_)
 have a1' : x.1.at' ≤ y1.1.at' := a1
 have b1' : y1.1.at' ≤ bs.length := b1
 refine Bd.then (K := 8) (K' := 16) (next_bd hL 150 1 y1 (by omega) (by omega) (by omega)) fun y2 _ a2 b2 => ?_
 have a2' : y1.1.at' ≤ y2.1.at' := a2
 have b2' : y2.1.at' ≤ bs.length := b2
 refine Bd.then (K := 8) (K' := 8) (next_bd hL 151 1 y2 (by omega) (by omega) (by omega)) fun y3 _ a3 b3 => ?_
 have a3' : y2.1.at' ≤ y3.1.at' := a3
 have b3' : y3.1.at' ≤ bs.length := b3
 refine Bd.then (K := 8) (K' := 0) (next_bd hL 153 2 y3 (by omega) (by omega) (by omega)) fun y4 _ a4 b4 => ?_
 have a4' : y3.1.at' ≤ y4.1.at' := a4
 have b4' : y4.1.at' ≤ bs.length := b4
 refine Bd.then (K := 0) (K' := 0) (st := fun _ => y4.1) ?_ fun _ _ _ _ => loc_bd _ _ y4 b4' (by omega)
 cases hk : headOk y4.1 x.1.at' with
 | ok u => exact Bd.ok rfl b4'
 | error z =>
   have := headOk_err hk
   exact Bd.err (by show z.2 ≤ y4.1.at'; omega)
theorem rdX_err {x : WS × Unit} {z : Int × Int} (h : rdX bs x = .error z) : z.1 = 11 := by
 unfold rdX rd at h
 by_cases hin : x.1.at'.toNat + 1 ≤ bs.length
 ·rw [if_pos hin] at h; cases h
 ·rw [if_neg hin] at h; cases h; rfl
theorem one_bd (old : Int) (x : WS × Unit) (h0 : 0 ≤ x.1.at') (h1 : x.1.at' ≤ 1000000000000000) : Bd bs.length st1 x.1.at' 1 (oneX (reading b rv bs) old x) := by
 refine Bd.cast (oneX_then b rv bs old x) (Bd.then (K := 1) (K' := 0) (st := st1) ?_ fun y hy k1 k2 => ?_)
 ·cases h : rdX bs x with
  | error z => exact fun hz => absurd (rdX_err h) hz
  | ok q =>
    obtain ⟨e1, e2⟩ := rdX_at h h0 (by omega)
    exact ⟨by show x.1.at' ≤ q.2.1.at'; omega, by show q.2.1.at' ≤ _; omega, by show q.2.1.at' ≤ _; omega⟩
 ·split
  ·exact Bd.ok rfl k2
  ·exact Bd.err k1
theorem vars_bd (hL : bs.length ≤ 1000000000000000) : ∀ (l : List Int) (x : WS × Unit), 0 ≤ x.1.at' → x.1.at' ≤ bs.length → Bd bs.length st1 x.1.at' l.length (varsX (reading b rv bs) l x)
 | [], x, _, hl => by
   have e : varsX (reading b rv bs) [] x = .ok ([], x) := rfl
   exact Bd.cast e (Bd.ok rfl hl)
 | old :: r, x, h0, hl => by
   refine Bd.cast (varsX_then (reading b rv bs) old r x) ?_
   refine Bd.mono (Bd.then (K := 1) (K' := r.length) (one_bd old x h0 (by omega)) fun y _ k1 k2 => ?_) (by simp only [List.length_cons]; omega)
   have k1' : x.1.at' ≤ y.2.1.at' := k1
   exact Bd.then (K := r.length) (K' := 0) (vars_bd hL r y.2 (by omega) k2) fun z _ _ hz => Bd.ok rfl hz
theorem list_bd (hL : bs.length ≤ 1000000000000000) (n : Nat) (l : List Int) (x : WS × Unit) (h0 : 0 ≤ x.1.at') (hl : x.1.at' ≤ 1000000000000000) : Bd bs.length st1 x.1.at' 263 (listX (reading b rv bs) n l x) := by
 refine Bd.cast (listX_then (reading b rv bs) n l x) ?_
 have hn := next_bd (b := b) (rv := rv) hL 161 1 ({ x.1 with count := l.length }, x.2) h0 (by show x.1.at' ≤ _; omega) (by omega)
 refine Bd.then (K := 8) (K' := 255) (a := x.1.at') hn fun y hy k1 k2 => ?_
 have k1' : x.1.at' ≤ y.1.at' := k1
 have hc := next_count hy
 split
 ·rename_i e
  refine (vars_bd hL _ y (by omega) k2).mono ?_
  split
  ·omega
  ·rw [List.length_replicate]; omega
 ·exact Bd.err k1
theorem front_bd (ends makes nb : Bool) (i : Nat) (p : Int) (y : WS × Unit) (hl : y.1.at' ≤ bs.length) (hp : p ≤ y.1.at') : Bd bs.length st0 y.1.at' 0 (frontOk (reading b rv bs) ends makes nb i p y) := by
 unfold frontOk
 split
 ·exact Bd.err hp
 ·split
  ·exact Bd.err hp
  ·split
   ·exact loc_bd 1 p y hl hp
   ·exact Bd.ok rfl hl
theorem Bd.part {a : Int} {K : Nat} {c : X (WS × Unit)} {p : WS × Unit → X (WS × Unit)} (hL : bs.length ≤ 1000000000000000) (hc : Bd bs.length st0 a K c) (h0 : 0 ≤ a)
 (hp : ∀ x : WS × Unit, 0 ≤ x.1.at' → x.1.at' ≤ 2000000000000000 → Bd bs.length st0 x.1.at' 8 (p x)) : Bd bs.length st0 a (K + 8) (thenX c p) :=
 Bd.then hc fun y _ h1 h2 => hp y (by have : a ≤ y.1.at' := h1; omega) (by have : y.1.at' ≤ bs.length := h2; omega)
theorem parts_bd (hL : bs.length ≤ 1000000000000000) (op : Nat) {a : Int} {K : Nat} {c : X (WS × Unit)} (hc : Bd bs.length st0 a K c) (h0 : 0 ≤ a) : Bd bs.length st0 a (K + 24) (partsX (reading b rv bs) op c) := by
 have hv : ∀ o (x : WS × Unit), 0 ≤ x.1.at' → x.1.at' ≤ 2000000000000000 → Bd bs.length st0 x.1.at' 8 (varPart (reading b rv bs) o x) := fun o x k0 k1 => ask_bd hL o 1 _ 13 x k0 k1 (by omega)
 have hf1 : ∀ (x : WS × Unit), 0 ≤ x.1.at' → x.1.at' ≤ 2000000000000000 → Bd bs.length st0 x.1.at' 8 (fieldsPart (reading b rv bs) x) := fun x k0 k1 => ask_bd hL 158 1 _ 17 x k0 k1 (by omega)
 have hf2 : ∀ (x : WS × Unit), 0 ≤ x.1.at' → x.1.at' ≤ 2000000000000000 → Bd bs.length st0 x.1.at' 8 (fieldPart (reading b rv bs) x) := fun x k0 k1 => ask_bd hL 158 1 _ 17 x k0 k1 (by omega)
 have hg : ∀ (x : WS × Unit), 0 ≤ x.1.at' → x.1.at' ≤ 2000000000000000 → Bd bs.length st0 x.1.at' 8 (globalPart (reading b rv bs) x) := fun x k0 k1 => ask_bd hL 158 1 _ 18 x k0 k1 (by omega)
 have ht : ∀ (x : WS × Unit), 0 ≤ x.1.at' → x.1.at' ≤ 2000000000000000 → Bd bs.length st0 x.1.at' 8 (targetPart (reading b rv bs) x) := fun x k0 k1 => ask_bd hL 158 2 _ 16 x k0 k1 (by omega)
 have hi : ∀ (x : WS × Unit), 0 ≤ x.1.at' → x.1.at' ≤ 2000000000000000 → Bd bs.length st0 x.1.at' 8 (intPart (reading b rv bs) x) := fun x k0 k1 => next_bd hL 158 8 x k0 k1 (by omega)
 match op with
 | 1 => exact ((hc.part hL h0 (hv 155)).part hL h0 hi).mono (by omega)
 | 2 => exact ((hc.part hL h0 (hv 155)).part hL h0 (hv 156)).mono (by omega)
 | 3 => exact (((hc.part hL h0 (hv 155)).part hL h0 (hv 156)).part hL h0 (hv 157)).mono (by omega)
 | 4 => exact (((hc.part hL h0 (hv 155)).part hL h0 (hv 156)).part hL h0 (hv 157)).mono (by omega)
 | 5 => exact ((hc.part hL h0 (hv 155)).part hL h0 (hv 156)).mono (by omega)
 | 6 => exact ((hc.part hL h0 (hv 155)).part hL h0 hf1).mono (by omega)
 | 7 => exact (((hc.part hL h0 (hv 155)).part hL h0 (hv 156)).part hL h0 hf2).mono (by omega)
 | 8 => exact (((hc.part hL h0 (hv 155)).part hL h0 (hv 156)).part hL h0 hf2).mono (by omega)
 | 9 => exact ((hc.part hL h0 (hv 155)).part hL h0 hg).mono (by omega)
 | 10 => exact ((hc.part hL h0 (hv 156)).part hL h0 hg).mono (by omega)
 | 12 => exact (hc.part hL h0 (hv 156)).mono (by omega)
 | 13 => exact (hc.part hL h0 ht).mono (by omega)
 | 14 => exact ((hc.part hL h0 (hv 156)).part hL h0 ht).mono (by omega)
 | 16 => exact (hc.part hL h0 (hv 155)).mono (by omega)
 | 17 => exact (((hc.part hL h0 (hv 155)).part hL h0 (hv 156)).part hL h0 (hv 157)).mono (by omega)
 | 0 => exact hc.mono (by omega)
 | 11 => exact hc.mono (by omega)
 | 15 => exact hc.mono (by omega)
 | n + 18 => exact hc.mono (by omega)
theorem ret_bd (hL : bs.length ≤ 1000000000000000) (n : Nat) {a : Int} {K : Nat} {c : X (WS × Unit)} (hc : Bd bs.length st0 a K c) (h0 : 0 ≤ a) : Bd bs.length st1 a (K + 263) (retX (reading b rv bs) n c) := by
 refine Bd.then hc fun y _ h1 h2 => ?_
 have h1' : a ≤ y.1.at' := h1
 have h2' : y.1.at' ≤ bs.length := h2
 exact Bd.then (K := 263) (K' := 0) (list_bd hL n [] y (by omega) (by omega)) fun z _ _ hl => Bd.ok rfl hl
theorem call_bd (hL : bs.length ≤ 1000000000000000) (heads : List (Nat × Nat)) {a : Int} {K : Nat} {c : X (WS × Unit)} (hc : Bd bs.length st0 a K c) (h0 : 0 ≤ a) : Bd bs.length st1 a (K + 8 + 526) (callX (reading b rv bs) heads c) := by
 refine Bd.then (hc.part hL h0 fun x k0 k1 => ask_bd hL 158 2 _ 14 x k0 k1 (by omega)) fun y _ h1 h2 => ?_
 have h1' : a ≤ y.1.at' := h1
 have h2' : y.1.at' ≤ bs.length := h2
 refine Bd.then (K := 263) (K' := 263) (list_bd hL _ [] y (by omega) (by omega)) fun z _ h3 h4 => ?_
 have h3' : y.1.at' ≤ z.2.1.at' := h3
 have h4' : z.2.1.at' ≤ bs.length := h4
 exact Bd.then (K := 263) (K' := 0) (list_bd hL _ [] z.2 (by omega) (by omega)) fun u _ _ hl => Bd.ok rfl hl
theorem instr_bd (hL : bs.length ≤ 1000000000000000) (heads : List (Nat × Nat)) (fR i : Nat) (x : WS × Unit) (h0 : 0 ≤ x.1.at') (h1 : x.1.at' ≤ 1000000000000000) : Bd bs.length st1 x.1.at' 600 (instrX (reading b rv bs) heads fR i x) := by
 refine Bd.then (K := 8) (K' := 592) (next_bd hL 154 1 x h0 (by omega) (by omega)) fun y hy k1 k2 => ?_
 have k1' : x.1.at' ≤ y.1.at' := k1
 have hy0 : 0 ≤ y.1.at' := by omega
 have hf : ∀ ends makes : Bool, Bd bs.length st0 y.1.at' 0 (frontOk (reading b rv bs) ends makes true i x.1.at' y) := fun ends makes => front_bd ends makes true i x.1.at' y k2 k1'
 split
 ·split
  ·exact (ret_bd hL fR (hf _ _) hy0).mono (by omega)
  ·split
   ·exact (call_bd hL heads (hf _ _) hy0).mono (by omega)
   ·refine Bd.mono (K := 24 + 0) ?_ (by omega)
    exact Bd.then (K := 24) (K' := 0) (Bd.mono (K := 0 + 24) (parts_bd hL _ (hf _ _) hy0) (by omega)) fun z _ _ hl => Bd.ok rfl hl
 ·exact Bd.err k1'
theorem code_bd (hL : bs.length ≤ 1000000000000000) (heads : List (Nat × Nat)) (fR len : Nat) : ∀ (m : Nat) (x : WS × Unit), 0 ≤ x.1.at' → x.1.at' ≤ bs.length → Bd bs.length st1 x.1.at' (m * 600) (codeX (reading b rv bs) heads fR len m x)
 | 0, x, _, hl => Bd.ok (y := ([], x)) rfl hl
 | m + 1, x, h0, hl => by
   refine Bd.cast (codeX_then (reading b rv bs) heads fR len m x) ?_
   have hi := instr_bd (b := b) (rv := rv) hL heads fR (len - (m + 1)) (blank x.1, x.2) h0 (by show x.1.at' ≤ _; omega)
   refine Bd.mono (Bd.then (K := 600) (K' := m * 600) (a := x.1.at') hi fun y _ k1 k2 => ?_) (by omega)
   have k1' : x.1.at' ≤ y.2.1.at' := k1
   refine Bd.mono (Bd.then (K := m * 600) (K' := 0) (code_bd hL heads fR len m y.2 (by omega) k2) fun z _ _ hz => Bd.ok rfl hz) (by omega)
theorem heads_bd (hL : bs.length ≤ 1000000000000000) : ∀ (m : Nat) (x : WS × Unit), 0 ≤ x.1.at' → x.1.at' ≤ bs.length → Bd bs.length st1 x.1.at' (m * 32) (headsX (reading b rv bs) m x)
 | 0, x, _, hl => Bd.ok (y := ([], x)) rfl hl
 | m + 1, x, h0, hl => by
   refine Bd.cast (headsX_then (reading b rv bs) m x) ?_
   refine Bd.mono (Bd.then (K := 32) (K' := m * 32) (head_bd hL x h0 (by omega)) fun y _ k1 k2 => ?_) (by omega)
   have k1' : x.1.at' ≤ y.1.at' := k1
   refine Bd.mono (Bd.then (K := m * 32) (K' := 0) (heads_bd hL m y (by omega) k2) fun z _ _ hz => Bd.ok rfl hz) (by omega)
theorem head_len {x y : WS × Unit} (h : headX (reading b rv bs) x = .ok y) : y.1.len ≤ 4096 := by
 have h := (headX_then (reading b rv bs) x).symm.trans h
 obtain ⟨y1, -, h⟩ := thenX_ok h
 obtain ⟨y2, -, h⟩ := thenX_ok h
 obtain ⟨y3, -, h⟩ := thenX_ok h
 obtain ⟨y4, -, h⟩ := thenX_ok h
 obtain ⟨u, hu, h⟩ := thenX_ok h
 have h4 : y4.1.len ≤ 4096 := by
  unfold headOk at hu
  repeat' split at hu
  all_goals first | (cases hu; done) | omega
 unfold locX at h
 split at h
 ·cases h; exact h4
 ·cases h
theorem heads_len : ∀ (m : Nat) (x : WS × Unit) (q : List HD × (WS × Unit)), headsX (reading b rv bs) m x = .ok q → q.1.length = m ∧ ∀ h ∈ q.1, h.len ≤ 4096
 | 0, x, q, h => by
   have e : headsX (reading b rv bs) 0 x = .ok ([], x) := rfl
   rw [e] at h
   cases h
   exact ⟨rfl, fun h hh => by cases hh⟩
 | m + 1, x, q, h => by
   have h := (headsX_then (reading b rv bs) m x).symm.trans h
   obtain ⟨y, hy, h⟩ := thenX_ok h
   obtain ⟨r, hr, h⟩ := thenX_ok h
   obtain ⟨h1, h2⟩ := heads_len m y r hr
   cases h
   refine ⟨by simp [h1], fun d hd => ?_⟩
   rcases List.mem_cons.1 hd with rfl | hd
   ·exact head_len hy
   ·exact h2 d hd
theorem funcs_bd (hL : bs.length ≤ 1000000000000000) (heads : List (Nat × Nat)) : ∀ (l : List HD) (x : WS × Unit), (∀ h ∈ l, h.len ≤ 4096) → 0 ≤ x.1.at' → x.1.at' ≤ bs.length → Bd bs.length st1 x.1.at' (l.length * 2457600) (funcsX (reading b rv bs) heads l x)
 | [], x, _, _, hl => Bd.ok (y := ([], x)) rfl hl
 | d :: r, x, hd, h0, hl => by
   have h4 := hd d List.mem_cons_self
   refine Bd.cast (funcsX_then (reading b rv bs) heads d r x) ?_
   have hi := code_bd (b := b) (rv := rv) hL heads d.R.toNat d.len.toNat d.len.toNat (inFunc d x.1, x.2) h0 hl
   refine Bd.mono (Bd.then (K := 2457600) (K' := r.length * 2457600) (a := x.1.at') (hi.mono (by omega)) fun y _ k1 k2 => ?_) (by simp only [List.length_cons]; omega)
   have k1' : x.1.at' ≤ y.2.1.at' := k1
   refine Bd.mono (Bd.then (K := r.length * 2457600) (K' := 0) (funcs_bd hL heads r y.2 (fun h hh => hd h (List.mem_cons_of_mem _ hh)) (by omega) k2) fun z _ _ hz => Bd.ok rfl hz) (by omega)
theorem body_bd (hL : bs.length ≤ 1000000000000000) (s : WS) (h6 : s.at' = 6) (fv : Value) : Bd bs.length st1 6 200000000000 (bodyX b rv bs s fv) := by
 have k0 := ask_bd (b := b) (rv := rv) hL 146 1 (fun s => decide (0 ≤ s.globals ∧ s.globals ≤ 16)) 18 (s, ()) (by show 0 ≤ s.at'; omega) (by show s.at' ≤ _; omega) (by omega)
 rw [show ((s, ()) : WS × Unit).1.at' = 6 from h6] at k0
 refine Bd.mono (Bd.then (K := 8) (K' := 180000000000) k0 fun y2 _ a2 l2 => ?_) (by omega)
 have a2' : 6 ≤ y2.1.at' := a2
 have l2' : y2.1.at' ≤ bs.length := l2
 refine Bd.mono (Bd.then (K := 8) (K' := 170000000000) (ask_bd hL 161 2 _ 20 y2 (by omega) (by omega) (by omega)) fun y3 hy3 a3 l3 => ?_) (by omega)
 have a3' : y2.1.at' ≤ y3.1.at' := a3
 have l3' : y3.1.at' ≤ bs.length := l3
 have hc : y3.1.count ≤ 65535 := by
  have hy3 := (askX_then (reading b rv bs) 161 2 (fun s => decide (1 ≤ s.count ∧ s.count ≤ 65535)) 20 y2).symm.trans hy3
  obtain ⟨y, -, h⟩ := thenX_ok hy3
  split at h
  ·rename_i hd
   cases h
   exact (of_decide_eq_true hd).2
  ·cases h
 refine Bd.mono (Bd.then (K := 2097120) (K' := 161058816000) ((heads_bd hL _ y3 (by omega) l3').mono (by omega)) fun q hq a4 l4 => ?_) (by omega)
 have a4' : y3.1.at' ≤ q.2.1.at' := a4
 obtain ⟨e1, e2⟩ := heads_len _ _ _ hq
 have hi := funcs_bd (b := b) (rv := rv) hL (headsOf q.1) q.1 ({ q.2.1 with funcs := fv }, q.2.2) e2 (by show 0 ≤ q.2.1.at'; omega) l4
 exact Bd.then (K := 161058816000) (K' := 0) (a := q.2.1.at') (hi.mono (by omega)) fun z _ _ hz => Bd.ok rfl hz
end
end Go.Proofs.YtingenonbkencaaDoor
namespace Go.Proofs.YtingenonbkencaaDoor
section
variable {P : Program} {ops : Array Oper} {Q : Exit → Act → World → Prop} {md : Region.Mode} {S : World → Prop} {t : Nat}
def wpAnyT (P : Program) (md : Region.Mode) (ops : Array Oper) (Q : Exit → Act → World → Prop) (S : World → Prop) (t : Nat) : Nat → Array Bool → Act → World → Prop
 | 0, listed, a, w => Region.ready md ops listed = [] ∧ Q .normal a w
 | fuel + 1, listed, a, w =>
   (Region.ready md ops listed = [] → Q .normal a w) ∧
   ∀ i ∈ Region.ready md ops listed, wpOp P ops Q i (fun a' w' => (i ≠ t → S w') ∧ wpAnyT P md ops Q S t fuel (listed.setIfInBounds i true) a' w') a w
theorem wpAny_of_T : ∀ (fuel : Nat) (listed : Array Bool) (a : Act) (w : World), wpAnyT P md ops Q S t fuel listed a w → wpAny P md ops Q fuel listed a w
 | 0, _, _, _, h => h
 | fuel + 1, _, _, _, h => ⟨h.1, fun i hi => wpOp_mono (fun a' w' h' => wpAny_of_T fuel _ a' w' h'.2) (h.2 i hi)⟩
theorem wpAnyT_first {i : Nat} {oi : Oper} {v : Value} (hi : ops[i]? = some oi) (hsel : ∀ (j : Nat) (o : Oper) cs b, ops[j]? = some o → o.op ≠ .select cs b)
 (hQ : ∀ c a w, Q (.panic c) (a.put oi.dst v) w → Q (.panic c) a w) (ht : Region.waitsFor md ops t i = true) :
 ∀ (fuel : Nat) (listed : Array Bool) (a : Act) (w : World),
  (∀ j oj, ops[j]? = some oj → j ≠ i → listed.getD j true = false → (∀ e ∈ oj.after, Region.binds md e = true → e.on ≠ i) → oi.apart ops oj = true) →
  i ∈ Region.ready md ops listed → YieldsIf P ops S oi v a → S w →
  wpAnyT P md ops Q S t fuel (listed.setIfInBounds i true) (a.put oi.dst v) w → wpAnyT P md ops Q S t (fuel + 1) listed a w := by
 have hun : ∀ listed : Array Bool, i ∈ Region.ready md ops listed → listed.getD i false = true → False := fun listed hr h1 => by
  have h0 := (mem_ready.1 hr).1
  rcases Nat.lt_or_ge i listed.size with h' | h'
  ·simp [h'] at h0 h1; rw [h0] at h1; cases h1
  ·simp [Array.getElem?_eq_none h'] at h1
 have htn : ∀ listed : Array Bool, i ∈ Region.ready md ops listed → t ∉ Region.ready md ops listed := fun listed hr h => by
  obtain ⟨-, ot, hot, hall⟩ := mem_ready.1 h
  obtain ⟨ot', hot', e, he, hb, hon⟩ := Region.waitsFor_spec ht
  rw [hot] at hot'
  cases hot'
  have := hall e he hb
  rw [hon] at this
  exact hun listed hr this
 intro fuel
 induction fuel with
 | zero =>
   intro listed a w _ hr hy hS H
   refine ⟨fun h => (by rw [h] at hr; cases hr), fun j hj => ?_⟩
   by_cases hji : j = i
   ·subst hji; exact hy.wpOp hi hS ⟨fun _ => hS, H⟩
   ·have := ready_mono hj hji
    rw [H.1] at this
    cases this
 | succ fuel ih =>
   intro listed a w hfree hr hy hS H
   refine ⟨fun h => (by rw [h] at hr; cases hr), fun j hj => ?_⟩
   by_cases hji : j = i
   ·subst hji; exact hy.wpOp hi hS ⟨fun _ => hS, H⟩
   ·have hjt : j ≠ t := fun e => htn listed hr (e ▸ hj)
    have h1 := H.2 j (ready_mono hj hji)
    obtain ⟨hjun, oj, hoj, hall⟩ := mem_ready.1 hj
    have hnot : ∀ e ∈ oj.after, Region.binds md e = true → e.on ≠ i := fun e he hb heq => by
     have h1 := hall e he hb
     rw [heq] at h1
     exact hun listed hr h1
    have h2 := wpOp_putIf hoj (hfree j oj hoj hji hjun hnot) (fun cs b => hsel i oi cs b hi) (fun cs b => hsel j oj cs b hoj) hQ hy h1
    have hfree' : ∀ k ok, ops[k]? = some ok → k ≠ i → (listed.setIfInBounds j true).getD k true = false →
     (∀ e ∈ ok.after, Region.binds md e = true → e.on ≠ i) → oi.apart ops ok = true := fun k ok hk hki hun hno => by
     refine hfree k ok hk hki ?_ hno
     by_cases hjk : j = k
     ·subst hjk; exact hjun
     ·rw [getD_set_ne true hjk] at hun; exact hun
    refine wpOp_mono (fun a' w' h3 => ⟨h3.2.1, ih (listed.setIfInBounds j true) a' w' hfree' (ready_mono hr (Ne.symm hji)) h3.1 (h3.2.1 hjt) ?_⟩) h2
    rw [Array.setIfInBounds_comm _ _ hji]
    exact h3.2.2
theorem wpAnyT_take {i : Nat} {oi : Oper} {v : Value} {fuel : Nat} {listed : Array Bool} {a : Act} {w : World} (hi : ops[i]? = some oi)
 (hs : Region.noSelect ops = true) (hf : Region.free md ops listed i = true) (hr : (Region.ready md ops listed).contains i = true) (ht : Region.waitsFor md ops t i = true)
 (hQ : ∀ c a w, Q (.panic c) (a.put oi.dst v) w → Q (.panic c) a w) (hy : YieldsIf P ops S oi v a) (hS : S w)
 (h : wpAnyT P md ops Q S t fuel (listed.setIfInBounds i true) (a.put oi.dst v) w) : wpAnyT P md ops Q S t (fuel + 1) listed a w :=
 wpAnyT_first hi (Region.noSelect_spec hs) hQ ht fuel listed a w (Region.free_spec hi hf) (by simpa using hr) hy hS h
theorem wpAnyT_takeAt {i : Nat} (d : Tmp) {oi : Oper} {v : Value} {fuel : Nat} {listed : Array Bool} {a : Act} {w : World} (hi : ops[i]? = some oi) (hd : oi.dst = some d)
 (hs : Region.noSelect ops = true) (hf : Region.free md ops listed i = true) (hr : (Region.ready md ops listed).contains i = true) (ht : Region.waitsFor md ops t i = true)
 (hQ : ∀ c a w, Q (.panic c) (a.put (some d) v) w → Q (.panic c) a w) (hy : YieldsIf P ops S oi v a) (hS : S w)
 (h : wpAnyT P md ops Q S t fuel (listed.setIfInBounds i true) (a.put (some d) v) w) : wpAnyT P md ops Q S t (fuel + 1) listed a w :=
 wpAnyT_take hi hs hf hr ht (by rw [hd]; exact hQ) hy hS (by rw [hd]; exact h)
theorem wpAnyT_one {i : Nat} {o : Oper} {fuel : Nat} {listed : Array Bool} {a : Act} {w : World} (ho : ops[i]? = some o) (hr : Region.ready md ops listed = [i])
 (h : ∀ K' : Act → World → Prop, Shut (∀ a w, (i ≠ t → S w) → wpAnyT P md ops Q S t fuel (listed.setIfInBounds i true) a w → K' a w) → if Region.wanted o (yielded ops a.tmps) = true then Oper.wp P o a w K' Q else K' (a.put o.dst undef) w) : wpAnyT P md ops Q S t (fuel + 1) listed a w := by
 refine ⟨fun h0 => (by rw [hr] at h0; cases h0), fun j hj => ?_⟩
 rw [hr] at hj
 obtain rfl := List.mem_singleton.1 hj
 exact wpOp_step ho (fun K' hK => h K' (fun a w h1 h2 => hK a w ⟨h1, h2⟩))
theorem wpAnyT_done {listed : Array Bool} {a : Act} {w : World} (hr : Region.ready md ops listed = []) (h : Q .normal a w) :
 ∀ fuel, wpAnyT P md ops Q S t fuel listed a w
 | 0 => ⟨hr, h⟩
 | _ + 1 => ⟨fun _ => h, by rw [hr]; simp⟩
theorem wp_region_T {id : Nat} {a : Act} {w : World} (hm : P.follows .mixedOrders = true)
 (h : wpAnyT P .any ops Q S t ops.size (Array.replicate ops.size false) a w.drew) : (Code.region id ops true).wp P Q a w :=
 wp_region_any hm (wpAny_of_T _ _ _ _ h)
end
end Go.Proofs.YtingenonbkencaaDoor
namespace Go.Proofs.YtingenonbkencaaDoor
open Go.RowKit (wrap32 wrap64)
set_option maxRecDepth 100000
set_option maxHeartbeats 1000000
def startW (w : World) (rv : Value) : World :=
 ((((((w.alloc (.cells #[vI 0, .slice none 0 0] 26)).alloc (.cells #[rv] 45)).alloc (.cells rowsC 85)).alloc (.cells (WS.start (readerFn rv)).cells 87)).alloc (.cells #[.pointer (some ⟨w.heap.size + 3, 0, none⟩)] 46)).alloc (.cells #[vI 0, .slice none 0 0] 26)).alloc (.cells #[vI 0, vI 0] 50)
def Spared (n : Nat) (w : World) : Prop := w.heap[n]? = some (.cells #[vI 0, .slice none 0 0] 26) ∧ Unsaid (n + 6) w
theorem results_cell3 {fn : Func} {p u v : Tmp} {ty : TypeId} (h : fn.results = #[.cell p ty, .tmp u, .tmp v]) (tmps : Array Value) (P : Program) (w : World) :
 (results fn tmps).run P w = ((asAddr (tmps.getD p undef)).run P w).andThen fun a w₁ => ((loadVar ty a).run P w₁).andThen fun x w₂ => .ok (.tuple #[x, tmps.getD u undef, tmps.getD v undef]) w₂ := by
 simp only [results, h]
 simp [Sem.run_bind, Result.andThen]
def Decoded (n : Nat) (J : Int → Option Addr → Nat → Nat → World → Prop) (Pn : Int → Int → World → Prop) (e : Ending) (w' : World) : Prop :=
 (∃ G a l c w0, J G a l c w0 ∧ e = .returned (.tuple #[.agg #[vI G, .slice a l c], vI 0, vI 0]) ∧ Fr (fun k => n ≤ k ∧ k < n + 7) w0 w') ∨
   ∃ er at' w0, Pn er at' w0 ∧ e = .returned (.tuple #[.agg #[vI 0, .slice none 0 0], vI er, vI at']) ∧ Fr (fun k => n ≤ k ∧ k < n + 7) w0 w'
theorem decode_any (ra : Option Addr) (rl rc : Nat) (w : World) (J : Int → Option Addr → Nat → Nat → World → Prop) (Pn : Int → Int → World → Prop)
 (hJ0 : ∀ G a n c w0, J G a n c w0 → Spared w.heap.size w0 ∧ (∃ u0 u1, w0.cell? ⟨w.heap.size + 5, 0, none⟩ = some u0 ∧ w0.cell? ⟨w.heap.size + 5, 1, none⟩ = some u1))
 (hP0 : ∀ er at' w0, Pn er at' w0 → er ≠ 0 ∧ Spared w.heap.size w0)
 (ht : Calls Tryd.prog 33 #[.pointer (some ⟨w.heap.size + 3, 0, none⟩), .agg #[.slice ra rl rc]] (startW w (.slice ra rl rc)) (Went (w.heap.size + 5) J Pn)) :
 Calls Tryd.prog 10 #[.slice ra rl rc] w (Decoded w.heap.size J Pn) := by
 have hmf : ∀ (fn : Fn) (first cap : Array Value) (w : World), (Instr.makeFunc fn first cap).run Tryd.prog w = .ok (.func fn first cap) w := fun _ _ _ _ => rfl
 generalize hR : w.heap.size = R at *
 have hfv : Calls Tryd.prog 31 #[.func (.func 32) #[] #[.pointer (some ⟨R + 4, 0, none⟩), .pointer (some ⟨R + 1, 0, none⟩), .pointer (some ⟨R + 5, 0, none⟩)]]
  ((((((w.alloc (.cells #[vI 0, .slice none 0 0] 26)).alloc (.cells #[.slice ra rl rc] 45)).alloc (.cells rowsC 85)).alloc (.cells (WS.start (readerFn (.slice ra rl rc))).cells 87)).alloc (.cells #[.pointer (some ⟨R + 3, 0, none⟩)] 46)).alloc (.cells #[vI 0, .slice none 0 0] 26))
  (Said1 (R + 6) (fun w1 => ∃ G a n c w0, J G a n c w0 ∧ w1 = (w0.setCell ⟨R + 5, 0, none⟩ (vI G)).setCell ⟨R + 5, 1, none⟩ (.slice a n c)) Pn) := by
  have hsz : ((((((w.alloc (.cells #[vI 0, .slice none 0 0] 26)).alloc (.cells #[.slice ra rl rc] 45)).alloc (.cells rowsC 85)).alloc (.cells (WS.start (readerFn (.slice ra rl rc))).cells 87)).alloc (.cells #[.pointer (some ⟨R + 3, 0, none⟩)] 46)).alloc (.cells #[vI 0, .slice none 0 0] 26)).heap.size = R + 6 := by simp [hR]
  have := firstViolation_any 32 #[.pointer (some ⟨R + 4, 0, none⟩), .pointer (some ⟨R + 1, 0, none⟩), .pointer (some ⟨R + 5, 0, none⟩)]
   ((((((w.alloc (.cells #[vI 0, .slice none 0 0] 26)).alloc (.cells #[.slice ra rl rc] 45)).alloc (.cells rowsC 85)).alloc (.cells (WS.start (readerFn (.slice ra rl rc))).cells 87)).alloc (.cells #[.pointer (some ⟨R + 3, 0, none⟩)] 46)).alloc (.cells #[vI 0, .slice none 0 0] 26))
   (fun w1 => ∃ G a n c w0, J G a n c w0 ∧ w1 = (w0.setCell ⟨R + 5, 0, none⟩ (vI G)).setCell ⟨R + 5, 1, none⟩ (.slice a n c)) Pn (fun _ => by kernel_rfl)
  rw [hsz] at this
  refine this ?_
  have hst : startW w (.slice ra rl rc) = ((((((w.alloc (.cells #[vI 0, .slice none 0 0] 26)).alloc (.cells #[.slice ra rl rc] 45)).alloc (.cells rowsC 85)).alloc (.cells (WS.start (readerFn (.slice ra rl rc))).cells 87)).alloc (.cells #[.pointer (some ⟨R + 3, 0, none⟩)] 46)).alloc (.cells #[vI 0, .slice none 0 0] 26)).alloc (.cells #[vI 0, vI 0] 50) := by
   unfold startW; rw [hR]
  rw [← hst]
  refine (decode1_any (R + 4) (R + 1) (R + 5) (R + 3) ra rl rc _ ?_ ?_ J Pn ht).mono ?_
  ·rw [hst]
   rw [World.cell?_alloc_past _ _ _ (by simp [hR]), World.cell?_alloc_past _ _ _ (by simp [hR]), World.cell?_alloc_at _ _ _ _ (by simp [hR])]; rfl
  ·rw [hst]
   rw [World.cell?_alloc_past _ _ _ (by simp [hR]), World.cell?_alloc_past _ _ _ (by simp [hR]), World.cell?_alloc_past _ _ _ (by simp [hR]), World.cell?_alloc_past _ _ _ (by simp [hR]), World.cell?_alloc_past _ _ _ (by simp [hR]), World.cell?_alloc_at _ _ _ _ (by simp [hR])]; rfl
  ·rintro e w1 (⟨rfl, G, a, n, c, w0, hJ, rfl⟩ | ⟨er, at', rfl, hP⟩)
   ·have hu := (hJ0 _ _ _ _ _ hJ).1.2
    refine ⟨⟨?_, ?_, ?_⟩, Or.inl ⟨rfl, G, a, n, c, w0, hJ, rfl⟩⟩
    ·rw [World.cell?_setCell_other _ _ _ _ (by simp), World.cell?_setCell_other _ _ _ _ (by simp)]; exact hu.1
    ·rw [World.cell?_setCell_other _ _ _ _ (by simp), World.cell?_setCell_other _ _ _ _ (by simp)]; exact hu.2.1
    ·intro o; rw [World.frozen?_setCell, World.frozen?_setCell]; exact hu.2.2 o
   ·exact ⟨(hP0 _ _ _ hP).2.2, Or.inr ⟨er, at', rfl, hP⟩⟩
 clear ht
 go_enter Tryd.func10, Tryd.ntmps10
 go_wp2_with fail
 refine (newWalk_any _ _ _ _).mono ?_
 rintro e w1 ⟨rfl, rfl⟩
 go_wp2_with fail
 refine hfv.mono ?_
 rintro e w2 ⟨er, at', w3, rfl, rfl, hcase⟩
 clear hfv
 rcases hcase with ⟨rfl, rfl, G, a, n, c, w0, hJ, rfl⟩ | hP
 ·obtain ⟨⟨hs1, hs2, hs3, hs4⟩, u0, u1, hu0, hu1⟩ := hJ0 _ _ _ _ _ hJ
  have hlt6 : R + 6 < w0.heap.size := by
   unfold World.cell? at hs2
   by_cases hk : R + 6 < w0.heap.size
   ·exact hk
   ·simp [Array.getElem?_eq_none (Nat.le_of_not_lt hk)] at hs2
  have hfr : Fr (fun k => R ≤ k ∧ k < R + 7) w0 ((((w0.setCell ⟨R + 5, 0, none⟩ (vI G)).setCell ⟨R + 5, 1, none⟩ (.slice a n c)).setCell ⟨R + 6, 0, none⟩ (vI 0)).setCell ⟨R + 6, 1, none⟩ (vI 0)) :=
   Fr.setCell (Fr.setCell (Fr.setCell (Fr.setCell (Fr.refl _ w0) _ _ (Or.inl ⟨by show R ≤ R + 5; omega, by show R + 5 < R + 7; omega⟩)) _ _ (Or.inl ⟨by show R ≤ R + 5; omega, by show R + 5 < R + 7; omega⟩)) _ _ (Or.inl ⟨by show R ≤ R + 6; omega, by show R + 6 < R + 7; omega⟩)) _ _ (Or.inl ⟨by show R ≤ R + 6; omega, by show R + 6 < R + 7; omega⟩)
  have c0 : ((((w0.setCell ⟨R + 5, 0, none⟩ (vI G)).setCell ⟨R + 5, 1, none⟩ (.slice a n c)).setCell ⟨R + 6, 0, none⟩ (vI 0)).setCell ⟨R + 6, 1, none⟩ (vI 0)).cell? ⟨R + 5, 0, none⟩ = some (vI G) := by
   rw [World.cell?_setCell_other _ _ _ _ (by simp), World.cell?_setCell_other _ _ _ _ (by simp), World.cell?_setCell_other _ _ _ _ (by simp)]
   exact World.cell?_setCell_same _ _ _ hu0
  have c1 : ((((w0.setCell ⟨R + 5, 0, none⟩ (vI G)).setCell ⟨R + 5, 1, none⟩ (.slice a n c)).setCell ⟨R + 6, 0, none⟩ (vI 0)).setCell ⟨R + 6, 1, none⟩ (vI 0)).cell? ⟨R + 5, 1, none⟩ = some (.slice a n c) := by
   rw [World.cell?_setCell_other _ _ _ _ (by simp), World.cell?_setCell_other _ _ _ _ (by simp)]
   exact World.cell?_setCell_same _ _ _ (by rw [World.cell?_setCell_other _ _ _ _ (by simp)]; exact hu1)
  have cR : ((((w0.setCell ⟨R + 5, 0, none⟩ (vI G)).setCell ⟨R + 5, 1, none⟩ (.slice a n c)).setCell ⟨R + 6, 0, none⟩ (vI 0)).setCell ⟨R + 6, 1, none⟩ (vI 0)).heap[R]? = some (.cells #[vI 0, .slice none 0 0] 26) := by
   rw [RowKit.Below.heap_setCell _ _ _ _ (by show R ≠ R + 6; omega), RowKit.Below.heap_setCell _ _ _ _ (by show R ≠ R + 6; omega), RowKit.Below.heap_setCell _ _ _ _ (by show R ≠ R + 5; omega), RowKit.Below.heap_setCell _ _ _ _ (by show R ≠ R + 5; omega)]; exact hs1
  have hsz2 : R + 6 < ((((w0.setCell ⟨R + 5, 0, none⟩ (vI G)).setCell ⟨R + 5, 1, none⟩ (.slice a n c)).setCell ⟨R + 6, 0, none⟩ (vI 0)).setCell ⟨R + 6, 1, none⟩ (vI 0)).heap.size := by simpa using hlt6
  generalize ((((w0.setCell ⟨R + 5, 0, none⟩ (vI G)).setCell ⟨R + 5, 1, none⟩ (.slice a n c)).setCell ⟨R + 6, 0, none⟩ (vI 0)).setCell ⟨R + 6, 1, none⟩ (vI 0)) = w4 at hfr c0 c1 cR hsz2 ⊢
  have cR0 : w4.cell? ⟨R, 0, none⟩ = some (vI 0) := by unfold World.cell?; simp [cR]
  have cR1 : w4.cell? ⟨R, 1, none⟩ = some (.slice none 0 0) := by unfold World.cell?; simp [cR]
  have cRz : ∀ o, w4.frozen? ⟨R, o, none⟩ = false := by intro o; unfold World.frozen?; simp [cR]
  have hRl : R < w4.heap.size := by omega
  have hR5 : R + 5 < w4.heap.size := by omega
  have hRx : R + 1 + 1 + 1 + 1 + 1 < w4.heap.size := by omega
  go_wp2_with fail
  refine ⟨rfl, .tuple #[.agg #[vI G, .slice a n c], vI 0, vI 0], ?_, Or.inl ⟨G, a, n, c, w0, hJ, rfl, ?_⟩⟩
  ·rw [results_cell3 (p := 2) (u := 3) (v := 4) (ty := 26) Tryd.results10]
   simp [go_sem, cR0, cR1, hRl]
  ·exact hfr.trans (Fr.alloc (Fr.setCell (Fr.setCell (Fr.refl _ w4) _ _ (Or.inl ⟨by show R ≤ R; omega, by show R < R + 7; omega⟩)) _ _ (Or.inl ⟨by show R ≤ R; omega, by show R < R + 7; omega⟩)) _)
 ·obtain ⟨her, hs1, hs2, hs3, hs4⟩ := hP0 _ _ _ hP
  have hlt6 : R + 6 < w3.heap.size := by
   unfold World.cell? at hs2
   by_cases hk : R + 6 < w3.heap.size
   ·exact hk
   ·simp [Array.getElem?_eq_none (Nat.le_of_not_lt hk)] at hs2
  have hfr : Fr (fun k => R ≤ k ∧ k < R + 7) w3 ((w3.setCell ⟨R + 6, 0, none⟩ (vI er)).setCell ⟨R + 6, 1, none⟩ (vI at')) :=
   Fr.setCell (Fr.setCell (Fr.refl _ w3) _ _ (Or.inl ⟨by show R ≤ R + 6; omega, by show R + 6 < R + 7; omega⟩)) _ _ (Or.inl ⟨by show R ≤ R + 6; omega, by show R + 6 < R + 7; omega⟩)
  have cR : ((w3.setCell ⟨R + 6, 0, none⟩ (vI er)).setCell ⟨R + 6, 1, none⟩ (vI at')).heap[R]? = some (.cells #[vI 0, .slice none 0 0] 26) := by
   rw [RowKit.Below.heap_setCell _ _ _ _ (by show R ≠ R + 6; omega), RowKit.Below.heap_setCell _ _ _ _ (by show R ≠ R + 6; omega)]; exact hs1
  have hsz2 : R + 6 < ((w3.setCell ⟨R + 6, 0, none⟩ (vI er)).setCell ⟨R + 6, 1, none⟩ (vI at')).heap.size := by simpa using hlt6
  generalize ((w3.setCell ⟨R + 6, 0, none⟩ (vI er)).setCell ⟨R + 6, 1, none⟩ (vI at')) = w4 at hfr cR hsz2 ⊢
  have cR0 : w4.cell? ⟨R, 0, none⟩ = some (vI 0) := by unfold World.cell?; simp [cR]
  have cR1 : w4.cell? ⟨R, 1, none⟩ = some (.slice none 0 0) := by unfold World.cell?; simp [cR]
  have cRz : ∀ o, w4.frozen? ⟨R, o, none⟩ = false := by intro o; unfold World.frozen?; simp [cR]
  have hRl : R < w4.heap.size := by omega
  have hne : (er != 0) = true := by rw [bne_iff_ne]; exact her
  clear her
  go_wp2_with fail
  have d0 : (w4.alloc (.cells #[vI er, vI at'] 50)).cell? ⟨w4.heap.size, 0, none⟩ = some (vI er) := by simp
  have d1 : (w4.alloc (.cells #[vI er, vI at'] 50)).cell? ⟨w4.heap.size, 1, none⟩ = some (vI at') := by simp
  have dR0 : (w4.alloc (.cells #[vI er, vI at'] 50)).cell? ⟨R, 0, none⟩ = some (vI 0) := by rw [World.cell?_alloc_past _ _ _ hRl]; exact cR0
  have dR1 : (w4.alloc (.cells #[vI er, vI at'] 50)).cell? ⟨R, 1, none⟩ = some (.slice none 0 0) := by rw [World.cell?_alloc_past _ _ _ hRl]; exact cR1
  have dRz : ∀ o, (w4.alloc (.cells #[vI er, vI at'] 50)).frozen? ⟨R, o, none⟩ = false := by intro o; rw [World.frozen?_alloc_past _ _ _ hRl]; exact cRz o
  have hfr5 : Fr (fun k => R ≤ k ∧ k < R + 7) w3 (w4.alloc (.cells #[vI er, vI at'] 50)) := Fr.alloc hfr _
  have hl5 : R < (w4.alloc (.cells #[vI er, vI at'] 50)).heap.size := by simp; omega
  change Code.wp _ _ _ _ (w4.alloc (.cells #[vI er, vI at'] 50))
  generalize (w4.alloc (.cells #[vI er, vI at'] 50)) = w5 at d0 d1 dR0 dR1 dRz hfr5 hl5 ⊢
  go_region
  all_goals
   go_wp2_with fail
   refine ⟨rfl, .tuple #[.agg #[vI 0, .slice none 0 0], vI er, vI at'], ?_, Or.inr ⟨er, at', w3, hP, rfl, ?_⟩⟩
   ·rw [results_cell3 (p := 2) (u := 3) (v := 4) (ty := 26) Tryd.results10]
    simp [go_sem, dR0, dR1]
   ·exact hfr5.trans (Fr.drew (Fr.setCell (Fr.setCell (Fr.refl _ w5) _ _ (Or.inl ⟨by show R ≤ R; omega, by show R < R + 7; omega⟩)) _ _ (Or.inl ⟨by show R ≤ R; omega, by show R < R + 7; omega⟩)))
end Go.Proofs.YtingenonbkencaaDoor
