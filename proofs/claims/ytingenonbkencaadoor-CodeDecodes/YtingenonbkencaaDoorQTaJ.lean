import Derived.Test.YtingenonbkencaaDoorQRcJ
import Derived.Test.YtingenonbkencaaDoorQW3J
import Derived.Test.YtingenonbkencaaDoorQS1J
import Derived.Test.YtingenonbkencaaDoorQLfJ
set_option linter.unusedVariables false
set_option linter.unusedSimpArgs false
namespace Go.Proofs.YtingenonbkencaaDoor
open Go.RowKit (wrap32 wrap64)
variable {b br wb g0 K : Nat} {rv : Value}
theorem w64_eq (x : Int) : wrap64 x = (x + 9223372036854775808) % 18446744073709551616 - 9223372036854775808 := by unfold wrap64; rfl
theorem u64_eq (x : Int) : IntKind.u64.wrap x = x % 18446744073709551616 := by
 unfold IntKind.wrap IntKind.signed IntKind.bits
 simp
theorem le_leBytes : ∀ (k n : Nat), le (leBytes k n) = n % 256 ^ k
 | 0, n => by simp [leBytes, le, Nat.mod_one]
 | k + 1, n => by
   simp only [leBytes, le, le_leBytes k]
   have h1 : (UInt8.ofNat (n % 256)).toNat = n % 256 := by simp
   rw [h1, Nat.pow_succ, Nat.mul_comm (256 ^ k) 256, Nat.mod_mul]
def InR (size : Nat) (v : Int) : Prop := (0 ≤ v ∧ v.toNat < 256 ^ size ∧ size ≤ 7) ∨ (size = 8 ∧ -9223372036854775808 ≤ v ∧ v < 9223372036854775808)
theorem rd_back {bs l : List UInt8} {v : Int} {size : Nat} (hp : (l ++ leBytes size (IntKind.u64.wrap v).toNat) <+: bs) (hv : InR size v) : rd bs l.length size = .ok v := by
 obtain ⟨rest, rfl⟩ := hp
 have hlen : l.length + size ≤ (l ++ leBytes size (IntKind.u64.wrap v).toNat ++ rest).length := by simp [leBytes_length]
 unfold rd
 rw [if_pos hlen]
 have e : leAt (l ++ leBytes size (IntKind.u64.wrap v).toNat ++ rest) l.length size = (IntKind.u64.wrap v).toNat % 256 ^ size := by
  unfold leAt
  rw [List.append_assoc, List.drop_left, List.take_append_of_le_length (by rw [leBytes_length]; exact Nat.le_refl _), List.take_of_length_le (by rw [leBytes_length]; exact Nat.le_refl _), le_leBytes]
 rw [e]
 refine congrArg _ ?_
 rcases hv with ⟨h0, h1, h7⟩ | ⟨rfl, h0, h1⟩
 ·have h2 : v.toNat < 72057594037927936 := by
   have h3 := Nat.pow_le_pow_right (n := 256) (by omega) h7
   have h4 : (256 : Nat) ^ 7 = 72057594037927936 := by decide
   rw [h4] at h3
   exact Nat.lt_of_lt_of_le h1 h3
  have e1 : (IntKind.u64.wrap v).toNat = v.toNat := by rw [u64_eq]; omega
  have e2 : v.toNat % 256 ^ size = v.toNat := Nat.mod_eq_of_lt h1
  clear h1
  rw [e1, e2]
  simp only [w64_eq]
  omega
 ·have e8 : (256 : Nat) ^ 8 = 18446744073709551616 := by decide
  rw [e8]
  simp only [w64_eq, u64_eq]
  omega
structure Ag (F : List Nat) (s t : WS) : Prop where
 num : ∀ o, o ∈ places → o ∉ F → s.get o = t.get o
 pos : s.at' = t.at'
 loc : s.locs = t.locs
theorem Ag.mono {F F' : List Nat} {s t : WS} (h : Ag F s t) (hF : ∀ o, o ∈ F → o ∈ F') : Ag F' s t := ⟨fun o h1 h2 => h.num o h1 (fun h3 => h2 (hF o h3)), h.pos, h.loc⟩
theorem get_at (s : WS) (o : Nat) (a : Int) : ({ s with at' := a } : WS).get o = s.get o := rfl
theorem get_set (s : WS) (o o' : Nat) (v : Int) (h : o ∈ places) (h' : o' ∈ places) : (s.set o v).get o' = if o' = o then v else s.get o' := by
 simp only [places, List.mem_cons, List.not_mem_nil, or_false] at h h'
 rcases h with rfl | rfl | rfl | rfl | rfl | rfl | rfl | rfl | rfl | rfl | rfl <;> rcases h' with rfl | rfl | rfl | rfl | rfl | rfl | rfl | rfl | rfl | rfl | rfl <;> rfl
theorem set_locs (s : WS) (o : Nat) (v : Int) : (s.set o v).locs = s.locs := by
 unfold WS.set; repeat' split
 all_goals rfl
theorem set_getT (s : WS) (o : Nat) (ho : o ∈ places) : s.set o (s.get o) = s := by
 simp only [places, List.mem_cons, List.not_mem_nil, or_false] at ho
 rcases ho with rfl | rfl | rfl | rfl | rfl | rfl | rfl | rfl | rfl | rfl | rfl <;> rfl
def Pos (x : WS × (Nat × List UInt8)) : Prop := x.1.at' = (x.2.2.length : Nat) ∧ x.2.2.length + 8 * x.2.1 ≤ 1000000000000
def Fn (s : WS) : Prop := (0 ≤ s.globals ∧ s.globals ≤ 16) ∧ (0 ≤ s.fV ∧ s.fV ≤ 255) ∧ (0 ≤ s.len ∧ s.len ≤ 4096) ∧ (-9223372036854775808 ≤ s.n ∧ s.n < 9223372036854775808)
structure Wr (x y : WS × (Nat × List UInt8)) : Prop where
 pre : x.2.2 <+: y.2.2
 pos : Pos y
 num : ∀ o, o ∈ places → o ≠ 161 → y.1.get o = x.1.get o
theorem Wr.refl {x : WS × (Nat × List UInt8)} (h : Pos x) : Wr x x := ⟨List.prefix_refl _, h, fun _ _ _ => rfl⟩
theorem Wr.trans {x y z : WS × (Nat × List UInt8)} (h : Wr x y) (k : Wr y z) : Wr x z := ⟨h.pre.trans k.pre, k.pos, fun o h1 h2 => (k.num o h1 h2).trans (h.num o h1 h2)⟩
theorem Wr.fn {x y : WS × (Nat × List UInt8)} (h : Wr x y) (k : Fn x.1) : Fn y.1 := by
 have e1 : y.1.globals = x.1.globals := h.num 146 (by simp [places]) (by omega)
 have e2 : y.1.fV = x.1.fV := h.num 151 (by simp [places]) (by omega)
 have e3 : y.1.len = x.1.len := h.num 153 (by simp [places]) (by omega)
 have e4 : y.1.n = x.1.n := h.num 158 (by simp [places]) (by omega)
 unfold Fn
 rw [e1, e2, e3, e4]
 exact k
theorem wr_next {o size : Nat} {x y : WS × (Nat × List UInt8)} (ho : o ∈ places) (hs : size ≤ 8) (hx : Pos x) (h : nextX (writing b wb g0 K) o size x = .ok y) :
 y = ({ x.1 with at' := x.1.at' + size }, (x.2.1 - 1, x.2.2 ++ leBytes size (IntKind.u64.wrap (x.1.get o)).toNat)) ∧ Wr x y := by
 obtain ⟨h1, h2⟩ := hx
 unfold nextX at h
 simp only [writing] at h
 split at h
 ·rename_i v st hv
  split at hv
  ·cases hv
  ·rename_i hr
   cases hv
   cases h
   rw [set_getT _ _ ho, adv_small _ _ (by omega) (by omega) hs]
   refine ⟨rfl, List.prefix_append _ _, ⟨?_, ?_⟩, fun _ _ _ => rfl⟩
   ·show x.1.at' + size = ((x.2.2 ++ leBytes size (IntKind.u64.wrap (x.1.get o)).toNat).length : Nat)
    rw [List.length_append, leBytes_length, h1]
    simp
   ·show (x.2.2 ++ leBytes size (IntKind.u64.wrap (x.1.get o)).toNat).length + 8 * (x.2.1 - 1) ≤ 1000000000000
    rw [List.length_append, leBytes_length]
    omega
 ·cases h
theorem rd_next {o size : Nat} {bs : List UInt8} {F F' : List Nat} {x y : WS × (Nat × List UInt8)} {t : WS} (ho : o ∈ places) (hs : size ≤ 8) (hx : Pos x) (h : nextX (writing b wb g0 K) o size x = .ok y) (hp : y.2.2 <+: bs) (hv : InR size (x.1.get o)) (hA : Ag F x.1 t)
 (hF : ∀ o', o' ∈ F → o' = o ∨ o' ∈ F') : ∃ t', nextX (reading br rv bs) o size (t, ()) = .ok (t', ()) ∧ Ag F' y.1 t' ∧ ∀ o', o' ∈ places → o' ≠ o → t'.get o' = t.get o' := by
 obtain ⟨rfl, -⟩ := wr_next ho hs hx h
 have e : rd bs t.at'.toNat size = .ok (x.1.get o) := by
  have e1 : t.at'.toNat = x.2.2.length := by rw [← hA.pos, hx.1]; simp
  rw [e1]
  exact rd_back hp hv
 refine ⟨{ t.set o (x.1.get o) with at' := adv t.at' size }, ?_, ⟨?_, ?_, ?_⟩, fun o' ho' hne => ?_⟩
 ·unfold nextX
  simp only [reading, e]
 ·intro o' ho' hn
  show x.1.get o' = (t.set o (x.1.get o)).get o'
  rw [get_set _ _ _ _ ho ho']
  split
  ·rename_i e; rw [e]
  ·rename_i hne
   refine hA.num o' ho' (fun hm => ?_)
   rcases hF o' hm with h | h
   ·exact hne h
   ·exact hn h
 ·show x.1.at' + size = adv t.at' size
  have h1 := hx.1
  have h2 := hx.2
  rw [← hA.pos, adv_small _ _ (by omega) (by omega) hs]
 ·show x.1.locs = (t.set o (x.1.get o)).locs
  rw [set_locs]; exact hA.loc
 ·show (t.set o (x.1.get o)).get o' = t.get o'
  rw [get_set _ _ _ _ ho ho', if_neg hne]
structure Sm (bs : List UInt8) (F F' : List Nat) (p : WS × (Nat × List UInt8) → X (WS × (Nat × List UInt8))) (q : WS × Unit → X (WS × Unit)) : Prop where
 wr : ∀ x y, Pos x → p x = .ok y → Wr x y
 sim : ∀ x y t, Pos x → Fn x.1 → p x = .ok y → y.2.2 <+: bs → Ag F x.1 t → ∃ t', q (t, ()) = .ok (t', ()) ∧ Ag F' y.1 t'
theorem Sm.then {bs : List UInt8} {F F1 F2 : List Nat} {p p2 : WS × (Nat × List UInt8) → X (WS × (Nat × List UInt8))} {q q2 : WS × Unit → X (WS × Unit)} (h : Sm bs F F1 p q) (k : Sm bs F1 F2 p2 q2) :
 Sm bs F F2 (fun x => thenX (p x) p2) (fun t => thenX (q t) q2) := by
 refine ⟨fun x y hx hy => ?_, fun x y t hx hf hy hp hA => ?_⟩
 ·obtain ⟨z, h1, h2⟩ := then_ok hy
  exact (h.wr x z hx h1).trans (k.wr z y (h.wr x z hx h1).pos h2)
 ·obtain ⟨z, h1, h2⟩ := then_ok hy
  have w1 := h.wr x z hx h1
  have w2 := k.wr z y w1.pos h2
  obtain ⟨t1, e1, A1⟩ := h.sim x z t hx hf h1 (w2.pre.trans hp) hA
  obtain ⟨t2, e2, A2⟩ := k.sim z y t1 w1.pos (w1.fn hf) h2 hp A1
  exact ⟨t2, by simp only [e1, thenX]; exact e2, A2⟩
theorem ask_of_next {M : Mode b} {o size : Nat} {c : WS → Bool} {er : Int} {x y : WS × M.σ} (e : nextX M o size x = .ok y) (h : c y.1 = true) : askX M o size c er x = .ok y := by
 unfold askX
 rw [e]
 simp only
 rw [if_pos h]
theorem Sm.ask {bs : List UInt8} {F F' : List Nat} {o size : Nat} {c : WS → Bool} {er : Int} (ho : o ∈ places) (hs : size ≤ 8) (hc : ∀ s t, Ag F' s t → c s = c t) (hr : ∀ s, Fn s → c s = true → InR size (s.get o)) (hF : ∀ o', o' ∈ F → o' = o ∨ o' ∈ F') (hn : o ≠ 161) :
 Sm bs F F' (askX (writing b wb g0 K) o size c er) (askX (reading br rv bs) o size c er) := by
 have ok : ∀ x y, askX (writing b wb g0 K) o size c er x = .ok y → nextX (writing b wb g0 K) o size x = .ok y ∧ c y.1 = true := by
  intro x y h
  unfold askX at h
  split at h
  ·rename_i y' hy
   split at h
   ·rename_i hcy; cases h; exact ⟨hy, hcy⟩
   ·cases h
  ·cases h
 refine ⟨fun x y hx hy => (wr_next ho hs hx (ok x y hy).1).2, fun x y t hx hf hy hp hA => ?_⟩
 obtain ⟨h1, h2⟩ := ok x y hy
 have w := (wr_next ho hs hx h1).2
 have hv : InR size (x.1.get o) := by rw [← w.num o ho hn]; exact hr y.1 (w.fn hf) h2
 obtain ⟨t', e, A, -⟩ := rd_next ho hs hx h1 hp hv hA hF
 exact ⟨t', ask_of_next e (by rw [← h2]; exact (hc y.1 t' A).symm), A⟩
theorem Ag.out {F : List Nat} {s t : WS} (h : Ag F s t) {o : Nat} (ho : o ∈ places) (hn : o ∉ F) : s.get o = t.get o := h.num o ho hn
def hd (f : PF) : HD := ⟨f.P, f.R, f.V, (f.code.length : Nat)⟩
abbrev F6 : List Nat := [154, 155, 156, 157, 158, 161]
def Fn0 (s : WS) : Prop := (0 ≤ s.globals ∧ s.globals ≤ 16) ∧ (0 ≤ s.fV ∧ s.fV ≤ 255) ∧ (0 ≤ s.len ∧ s.len ≤ 4096)
def In64n (c : PI) : Prop := -9223372036854775808 ≤ c.n ∧ c.n < 9223372036854775808
structure WrC (x y : WS × (Nat × List UInt8)) : Prop where
 pre : x.2.2 <+: y.2.2
 pos : Pos y
 num : ∀ o, o ∈ places → o ∉ F6 → y.1.get o = x.1.get o
theorem WrC.refl {x : WS × (Nat × List UInt8)} (h : Pos x) : WrC x x := ⟨List.prefix_refl _, h, fun _ _ _ => rfl⟩
theorem WrC.trans {x y z : WS × (Nat × List UInt8)} (h : WrC x y) (k : WrC y z) : WrC x z := ⟨h.pre.trans k.pre, k.pos, fun o h1 h2 => (k.num o h1 h2).trans (h.num o h1 h2)⟩
theorem WrC.fn {x y : WS × (Nat × List UInt8)} (h : WrC x y) (k : Fn0 x.1) : Fn0 y.1 := by
 have e1 : y.1.globals = x.1.globals := h.num 146 (by simp [places]) (by simp)
 have e2 : y.1.fV = x.1.fV := h.num 151 (by simp [places]) (by simp)
 have e3 : y.1.len = x.1.len := h.num 153 (by simp [places]) (by simp)
 unfold Fn0
 rw [e1, e2, e3]
 exact k
theorem ask_next {M : Mode b} {o size : Nat} {c : WS → Bool} {er : Int} {x y : WS × M.σ} (h : askX M o size c er x = .ok y) : nextX M o size x = .ok y ∧ c y.1 = true := by
 unfold askX at h
 split at h
 ·rename_i y' hy
  split at h
  ·rename_i hcy; cases h; exact ⟨hy, hcy⟩
  ·cases h
 ·cases h
variable {b br wb g0 K : Nat} {rv : Value}
theorem le_ltT : ∀ (l : List UInt8), le l < 256 ^ l.length
 | [] => by simp [le]
 | c :: r => by
   have h := le_ltT r
   have hc : c.toNat < 256 := c.toNat_lt
   simp only [le, List.length_cons, Nat.pow_succ]
   omega
theorem leBytes_le : ∀ (l : List UInt8), leBytes l.length (le l) = l
 | [] => rfl
 | c :: r => by
   have hc : c.toNat < 256 := c.toNat_lt
   have e1 : (c.toNat + 256 * le r) % 256 = c.toNat := by omega
   have e2 : (c.toNat + 256 * le r) / 256 = le r := by omega
   simp only [le, List.length_cons, leBytes]
   rw [e1, e2, leBytes_le r]
   simp
theorem wrap_back (N : Nat) (h : N < 18446744073709551616) : (IntKind.u64.wrap (wrap64 (N : Int))).toNat = N ∧ (-9223372036854775808 ≤ wrap64 (N : Int) ∧ wrap64 (N : Int) < 9223372036854775808) := by
 simp only [u64_eq, w64_eq]
 omega
theorem pow8T {size : Nat} (hs : size ≤ 8) : (256 : Nat) ^ size ≤ 18446744073709551616 := by
 have h3 := Nat.pow_le_pow_right (n := 256) (by omega) hs
 have h4 : (256 : Nat) ^ 8 = 18446744073709551616 := by decide
 rw [h4] at h3
 exact h3
theorem leAt_ltT (bs : List UInt8) (p size : Nat) (hl : p + size ≤ bs.length) : leAt bs p size < 256 ^ size ∧ leBytes size (leAt bs p size) = (bs.drop p).take size := by
 have hlen : ((bs.drop p).take size).length = size := by simp; omega
 have h1 := le_ltT ((bs.drop p).take size)
 have h2 := leBytes_le ((bs.drop p).take size)
 rw [hlen] at h1 h2
 exact ⟨h1, h2⟩
theorem rd_fwd {bs : List UInt8} {p size : Nat} {v : Int} (hs : size ≤ 8) (h : rd bs p size = .ok v) : p + size ≤ bs.length ∧ leBytes size (IntKind.u64.wrap v).toNat = (bs.drop p).take size ∧ (-9223372036854775808 ≤ v ∧ v < 9223372036854775808) := by
 unfold rd at h
 by_cases hl : p + size ≤ bs.length
 ·rw [if_pos hl] at h
  obtain ⟨h1, h2⟩ := leAt_ltT bs p size hl
  have h3 := Nat.lt_of_lt_of_le h1 (pow8T hs)
  obtain ⟨w1, w2⟩ := wrap_back _ h3
  have hv : wrap64 ((leAt bs p size : Nat) : Int) = v := Except.ok.inj h
  rw [hv] at w1 w2
  rw [w1]
  exact ⟨hl, h2, w2⟩
 ·rw [if_neg hl] at h
  cases h
structure Bk (bs : List UInt8) (x : WS × (Nat × List UInt8)) (t : WS) : Prop where
 pos : x.1.at' = t.at'
 loc : x.1.locs = t.locs
 low : 0 ≤ t.at'
 high : t.at' ≤ (bs.length : Nat)
 bytes : x.2.2 = bs.take t.at'.toNat
theorem rdX_eq {bs : List UInt8} {o size : Nat} {t t' : WS} (h : nextX (reading br rv bs) o size (t, ()) = .ok (t', ())) : ∃ v, rd bs t.at'.toNat size = .ok v ∧ t' = { t.set o v with at' := adv t.at' size } := by
 unfold nextX at h
 simp only [reading] at h
 cases e : rd bs t.at'.toNat size with
 | error z => rw [e] at h; cases h
 | ok v =>
   rw [e] at h
   exact ⟨v, rfl, ((Prod.mk.inj (Except.ok.inj h)).1).symm⟩
theorem bk_next {bs : List UInt8} {o size : Nat} {t t' : WS} {x : WS × (Nat × List UInt8)} (hL : bs.length ≤ 1000000000000) (ho : o ∈ places) (hs : size ≤ 8) (h : nextX (reading br rv bs) o size (t, ()) = .ok (t', ())) (hB : Bk bs x t) (hr : 1 ≤ x.2.1) (hv : x.1.get o = t'.get o) :
 ∃ y, nextX (writing b wb g0 K) o size x = .ok y ∧ Bk bs y t' ∧ (∀ o', o' ∈ places → y.1.get o' = x.1.get o') ∧ x.2.1 = y.2.1 + 1 := by
 obtain ⟨v, e, rfl⟩ := rdX_eq h
 obtain ⟨h1, h2, -⟩ := rd_fwd hs e
 have hlow := hB.low
 have hhigh := hB.high
 have gv : ({ t.set o v with at' := adv t.at' size } : WS).get o = v := by
  rw [get_at, get_set _ _ _ _ ho ho, if_pos rfl]
 rw [gv] at hv
 have ea : adv t.at' size = t.at' + size := adv_small _ _ hlow (by omega) hs
 refine ⟨({ x.1 with at' := adv x.1.at' size }, (x.2.1 - 1, x.2.2 ++ leBytes size (IntKind.u64.wrap v).toNat)), ?_, ⟨?_, ?_, ?_, ?_, ?_⟩, fun o' ho' => rfl, ?_⟩
 ·unfold nextX
  simp only [writing]
  rw [if_neg (by omega)]
  simp only [hv]
  have e5 : x.1.set o v = x.1 := by rw [← hv]; exact set_getT _ _ ho
  rw [e5]
 ·show adv x.1.at' size = adv t.at' size
  rw [hB.pos]
 ·show x.1.locs = (t.set o v).locs
  rw [set_locs]; exact hB.loc
 ·show 0 ≤ adv t.at' size
  rw [ea]; omega
 ·show adv t.at' size ≤ (bs.length : Nat)
  rw [ea]; omega
 ·show x.2.2 ++ leBytes size (IntKind.u64.wrap v).toNat = bs.take (adv t.at' size).toNat
  have e3 : (adv t.at' size).toNat = t.at'.toNat + size := by rw [ea]; omega
  rw [hB.bytes, h2, e3, List.take_add]
 ·show x.2.1 = x.2.1 - 1 + 1
  omega
theorem rd_keep {bs : List UInt8} {o size : Nat} {t t' : WS} (ho : o ∈ places) (h : nextX (reading br rv bs) o size (t, ()) = .ok (t', ())) : ∀ o', o' ∈ places → o' ≠ o → t'.get o' = t.get o' := by
 obtain ⟨v, -, rfl⟩ := rdX_eq h
 intro o' ho' hne
 rw [get_at, get_set _ _ _ _ ho ho', if_neg hne]
structure Sr (bs : List UInt8) (F O : List Nat) (q : WS × Unit → X (WS × Unit)) (p : WS × (Nat × List UInt8) → X (WS × (Nat × List UInt8))) : Prop where
 keep : ∀ t t', q (t, ()) = .ok (t', ()) → ∀ o, o ∈ places → o ∉ O → t'.get o = t.get o
 sim : ∀ t t' x, q (t, ()) = .ok (t', ()) → Bk bs x t → O.length ≤ x.2.1 → (∀ o, o ∈ places → o ∉ F → x.1.get o = t'.get o) → ∃ y, p x = .ok y ∧ Bk bs y t' ∧ (∀ o, o ∈ places → o ≠ 161 → y.1.get o = x.1.get o) ∧ x.2.1 ≤ y.2.1 + O.length
theorem Sr.then {bs : List UInt8} {F O1 O2 : List Nat} {q q2 : WS × Unit → X (WS × Unit)} {p p2 : WS × (Nat × List UInt8) → X (WS × (Nat × List UInt8))} (h161 : 161 ∈ F) (h : Sr bs (O2 ++ F) O1 q p) (k : Sr bs F O2 q2 p2) :
 Sr bs F (O1 ++ O2) (fun t => thenX (q t) q2) (fun x => thenX (p x) p2) := by
 refine ⟨fun t t' ht o ho hn => ?_, fun t t' x ht hB hr hv => ?_⟩
 ·obtain ⟨⟨t1, ⟨⟩⟩, h1, h2⟩ := then_ok ht
  rw [k.keep t1 t' h2 o ho (fun hh => hn (by simp [hh])), h.keep t t1 h1 o ho (fun hh => hn (by simp [hh]))]
 ·obtain ⟨⟨t1, ⟨⟩⟩, h1, h2⟩ := then_ok ht
  rw [List.length_append] at hr
  obtain ⟨y1, e1, B1, g1, r1⟩ := h.sim t t1 x h1 hB (by omega) (fun o ho hn => by
   rw [hv o ho (fun hh => hn (by simp [hh])), k.keep t1 t' h2 o ho (fun hh => hn (by simp [hh]))])
  obtain ⟨y2, e2, B2, g2, r2⟩ := k.sim t1 t' y1 h2 B1 (by omega) (fun o ho hn => by
   rw [g1 o ho (fun e => hn (e ▸ h161))]; exact hv o ho hn)
  exact ⟨y2, by simp only [e1, thenX]; exact e2, B2, fun o ho hn => (g2 o ho hn).trans (g1 o ho hn), by rw [List.length_append]; omega⟩
theorem Sr.next {bs : List UInt8} {F : List Nat} {o size : Nat} (hL : bs.length ≤ 1000000000000) (ho : o ∈ places) (hs : size ≤ 8) (hF : o ∉ F) : Sr bs F [o] (nextX (reading br rv bs) o size) (nextX (writing b wb g0 K) o size) := by
 refine ⟨fun t t' ht o' ho' hn => rd_keep ho ht o' ho' (by simpa using hn), fun t t' x ht hB hr hv => ?_⟩
 obtain ⟨y, e, B, g, r⟩ := bk_next hL ho hs ht hB hr (hv o ho hF)
 exact ⟨y, e, B, fun o ho _ => g o ho, by show x.2.1 ≤ y.2.1 + 1; omega⟩
theorem Sr.ask {bs : List UInt8} {F : List Nat} {o size : Nat} {c : WS → Bool} {er : Int} (hL : bs.length ≤ 1000000000000) (ho : o ∈ places) (hs : size ≤ 8) (hF : o ∉ F) (h161 : 161 ∈ F) (hc : ∀ s t : WS, (∀ o, o ∈ places → o ∉ F → s.get o = t.get o) → c s = c t) :
 Sr bs F [o] (askX (reading br rv bs) o size c er) (askX (writing b wb g0 K) o size c er) := by
 have N := Sr.next (b := b) (br := br) (wb := wb) (g0 := g0) (K := K) (rv := rv) (size := size) hL ho hs hF
 refine ⟨fun t t' ht => N.keep t t' (ask_next (M := reading br rv bs) ht).1, fun t t' x ht hB hr hv => ?_⟩
 obtain ⟨h1, h2⟩ := ask_next (M := reading br rv bs) ht
 obtain ⟨y, e, B, g, r⟩ := N.sim t t' x h1 hB hr hv
 refine ⟨y, ask_of_next (M := writing b wb g0 K) e ?_, B, g, r⟩
 rw [← h2]
 exact hc y.1 t' (fun o' ho' hn => by rw [g o' ho' (fun e => hn (e ▸ h161))]; exact hv o' ho' hn)
def pi (a : AI) : PI := ⟨a.op, a.r, a.s, a.t, a.n, a.args, a.rets⟩
abbrev H4 : List Nat := [149, 150, 151, 153]
section
variable {b : Nat} {rv : Value} {bs : List UInt8}
def N64 (z : Int) : Prop := -9223372036854775808 ≤ z ∧ z < 9223372036854775808
theorem n64_wrap (z : Int) : N64 (wrap64 z) := by
 unfold N64
 rw [w64_eq]
 omega
def Nk (c : X (WS × Unit)) : Prop := ∀ y, c = .ok y → N64 y.1.n
theorem Nk.then {c : X (WS × Unit)} {p : WS × Unit → X (WS × Unit)} (h : Nk c) (hp : ∀ y, N64 y.1.n → Nk (p y)) : Nk (thenX c p) := fun z hz => by
 obtain ⟨y, h1, h2⟩ := then_ok hz
 exact hp y (h y h1) z h2
theorem next_nk (o size : Nat) (x : WS × Unit) (hx : N64 x.1.n) : Nk (nextX (reading b rv bs) o size x) := fun y hy => by
 unfold nextX at hy
 split at hy
 ·rename_i v st he
  have hv : N64 v := by
   have he : (match rd bs x.1.at'.toNat size with | .ok v => .ok (v, ()) | .error z => .error z : X (Int × Unit)) = .ok (v, st) := he
   unfold rd at he
   split at he
   ·rename_i q hq
    split at hq
    ·have e1 := Except.ok.inj hq
     have e2 := (Prod.mk.inj (Except.ok.inj he)).1
     rw [← e2, ← e1]
     exact n64_wrap _
    ·cases hq
   ·cases he
  have e := (Except.ok.inj hy).symm
  rw [e]
  show N64 (x.1.set o v).n
  unfold WS.set
  repeat' split
  all_goals first | exact hx | exact hv
 ·cases hy
theorem ask_nk (o size : Nat) (c : WS → Bool) (er : Int) (x : WS × Unit) (hx : N64 x.1.n) : Nk (askX (reading b rv bs) o size c er x) := fun y hy => next_nk o size x hx y (ask_next hy).1
theorem parts_nk (op : Nat) {c : X (WS × Unit)} (hc : Nk c) : Nk (partsX (reading b rv bs) op c) := by
 have hv : ∀ {c : X (WS × Unit)} (o : Nat), Nk c → Nk (thenX c (varPart (reading b rv bs) o)) := fun o h => h.then (fun y hy => ask_nk o 1 _ 13 y hy)
 have ha : ∀ {c : X (WS × Unit)} (o size : Nat) (q : WS → Bool) (er : Int), Nk c → Nk (thenX c (askX (reading b rv bs) o size q er)) := fun o size q er h => h.then (fun y hy => ask_nk o size q er y hy)
 match op with
 | 1 => exact (hv 155 hc).then (fun y hy => next_nk 158 8 y hy)
 | 2 => exact hv 156 (hv 155 hc)
 | 3 => exact hv 157 (hv 156 (hv 155 hc))
 | 4 => exact hv 157 (hv 156 (hv 155 hc))
 | 5 => exact hv 156 (hv 155 hc)
 | 6 => exact ha _ _ _ _ (hv 155 hc)
 | 7 => exact ha _ _ _ _ (hv 156 (hv 155 hc))
 | 8 => exact ha _ _ _ _ (hv 156 (hv 155 hc))
 | 9 => exact ha _ _ _ _ (hv 155 hc)
 | 10 => exact ha _ _ _ _ (hv 156 hc)
 | 12 => exact hv 156 hc
 | 13 => exact ha _ _ _ _ hc
 | 14 => exact ha _ _ _ _ (hv 156 hc)
 | 16 => exact hv 155 hc
 | 17 => exact hv 157 (hv 156 (hv 155 hc))
 | 0 => exact hc
 | 11 => exact hc
 | 15 => exact hc
 | m + 18 => exact hc
theorem front_nk {ends makes nb : Bool} {i : Nat} {p : Int} {x : WS × Unit} (hx : N64 x.1.n) : Nk (frontOk (reading b rv bs) ends makes nb i p x) := fun y hy => by
 unfold frontOk at hy
 split at hy
 ·cases hy
 ·split at hy
  ·cases hy
  ·split at hy
   ·unfold locX at hy
    split at hy
    ·rw [← Except.ok.inj hy]; exact hx
    ·cases hy
   ·rw [← Except.ok.inj hy]; exact hx
theorem list_len {n : Nat} {x y : WS × Unit} {vs : List Int} (h : listX (reading b rv bs) n [] x = .ok (vs, y)) : vs.length = n := by
 unfold listX at h
 split at h
 ·cases h
 ·split at h
  ·rw [varsX_length h]
   split
   ·rename_i e; exact e
   ·simp
  ·cases h
def Fit (a : AI) : Prop := a.args.length ≤ 8 ∧ a.rets.length ≤ 8 ∧ N64 a.n
theorem instr_fit {heads : List (Nat × Nat)} {fR i : Nat} (hfR : fR ≤ 4) (hhd : ∀ k : Nat, (heads.getD k (0, 0)).1 ≤ 8 ∧ (heads.getD k (0, 0)).2 ≤ 4) {x y : WS × Unit} {ll : List Int × List Int} (hx : N64 x.1.n) (h : instrX (reading b rv bs) heads fR i x = .ok (ll, y)) : Fit (aiOf ll y.1) := by
 obtain ⟨y1, h1, h⟩ := then_ok h
 have n1 := next_nk 154 1 x hx y1 h1
 split at h
 ·split at h
  ·obtain ⟨y2, h2, h⟩ := then_ok h
   have n2 := front_nk n1 y2 h2
   obtain ⟨q, h3, h⟩ := then_ok h
   obtain ⟨vs, y3⟩ := q
   have e := Prod.mk.inj (Except.ok.inj h)
   obtain ⟨e1, e2⟩ := e
   have hl := list_len h3
   have hn := listX_n h3
   subst e1
   have e2 : y3 = y := e2
   subst e2
   exact ⟨by show vs.length ≤ 8; omega, by show ([] : List Int).length ≤ 8; simp, by show N64 y3.1.n; rw [hn]; exact n2⟩
  ·split at h
   ·obtain ⟨y2, h2, h⟩ := then_ok h
    have n2 : N64 y2.1.n := (Nk.then (c := frontOk (reading b rv bs) false false true i x.1.at' y1) (front_nk n1) (fun y hy => ask_nk _ _ _ _ y hy)) y2 h2
    obtain ⟨q, h3, h⟩ := then_ok h
    obtain ⟨vs, y3⟩ := q
    obtain ⟨q', h4, h⟩ := then_ok h
    obtain ⟨vs', y4⟩ := q'
    obtain ⟨e1, e2⟩ := Prod.mk.inj (Except.ok.inj h)
    have hl := list_len h3
    have hl' := list_len h4
    have hn := listX_n h3
    have hn' := listX_n h4
    have hb := hhd y2.1.n.toNat
    subst e1
    have e2 : y4 = y := e2
    subst e2
    exact ⟨by show vs.length ≤ 8; omega, by show vs'.length ≤ 8; omega, by show N64 y4.1.n; rw [hn', hn]; exact n2⟩
   ·obtain ⟨y2, h2, h⟩ := then_ok h
    have n2 := parts_nk _ (front_nk n1) y2 h2
    obtain ⟨e1, e2⟩ := Prod.mk.inj (Except.ok.inj h)
    subst e1
    have e2 : y2 = y := e2
    subst e2
    exact ⟨by show ([] : List Int).length ≤ 8; simp, by show ([] : List Int).length ≤ 8; simp, n2⟩
 ·cases h
theorem code_fit {heads : List (Nat × Nat)} {fR len : Nat} (hfR : fR ≤ 4) (hhd : ∀ k : Nat, (heads.getD k (0, 0)).1 ≤ 8 ∧ (heads.getD k (0, 0)).2 ≤ 4) : ∀ {m : Nat} {x y : WS × Unit} {l : List AI}, codeX (reading b rv bs) heads fR len m x = .ok (l, y) → ∀ a ∈ l, Fit a
 | 0, x, y, l, h => by
   simp only [codeX, Except.ok.injEq, Prod.mk.injEq] at h
   rw [← (Prod.mk.inj h).1]
   simp
 | m + 1, x, y, l, h => by
   simp only [codeX] at h
   split at h
   ·cases h
   ·rename_i ll y1 h1
    split at h
    ·cases h
    ·rename_i l' y' h2
     have e := (Prod.mk.inj (Except.ok.inj h)).1
     subst e
     intro a ha
     rcases List.mem_cons.1 ha with rfl | ha
     ·exact instr_fit hfR hhd (by show N64 0; unfold N64; omega) h1
     ·exact code_fit hfR hhd h2 a ha
theorem funcs_fit {heads : List (Nat × Nat)} (hhd : ∀ k : Nat, (heads.getD k (0, 0)).1 ≤ 8 ∧ (heads.getD k (0, 0)).2 ≤ 4) : ∀ {l : List HD} {x y : WS × Unit} {ls : List (List AI)}, (∀ h ∈ l, HeadFine h) → funcsX (reading b rv bs) heads l x = .ok (ls, y) → ls.map List.length = l.map (fun h => h.len.toNat) ∧ ∀ c ∈ ls, ∀ a ∈ c, Fit a
 | [], x, y, ls, _, h => by
   simp only [funcsX, Except.ok.injEq, Prod.mk.injEq] at h
   rw [← (Prod.mk.inj h).1]
   exact ⟨rfl, by simp⟩
 | h0 :: r, x, y, ls, hf, h => by
   simp only [funcsX] at h
   split at h
   ·cases h
   ·rename_i l' y1 h1
    split at h
    ·cases h
    ·rename_i ls' y' h2
     have e := (Prod.mk.inj (Except.ok.inj h)).1
     subst e
     have hh := hf h0 (by simp)
     obtain ⟨i1, i2⟩ := funcs_fit hhd (fun h' hm => hf h' (by simp [hm])) h2
     refine ⟨?_, ?_⟩
     ·simp only [List.map_cons, i1, codeX_length h1]
     ·intro c hc
      rcases List.mem_cons.1 hc with rfl | hc
      ·exact code_fit (by have := hh.2.2.1; omega) hhd h1
      ·exact i2 c hc
end
theorem through_fit {b : Nat} {rv fv : Value} {bs : List UInt8} {s : WS} {G : Int} {done : List HD} {ls : List (List AI)} (hd : ∀ h ∈ done, HeadFine h) (h : throughX b rv bs s fv = .ok (G, done, ls)) : ls.map List.length = done.map (fun h => h.len.toNat) ∧ ∀ c ∈ ls, ∀ a ∈ c, Fit a := by
 unfold throughX at h
 split at h
 ·split at h
  ·cases h
  ·split at h
   ·cases h
   ·split at h
    ·cases h
    ·rename_i done' y h4
     split at h
     ·cases h
     ·rename_i fs z h5
      split at h
      ·have e := Except.ok.inj h
       obtain ⟨e1, e2⟩ := Prod.mk.inj e
       obtain ⟨e2, e3⟩ := Prod.mk.inj e2
       subst e2 e3
       refine funcs_fit (fun k => ?_) hd h5
       unfold headsOf
       rw [List.getD_eq_getElem?_getD, List.getElem?_map]
       cases hk : done'[k]? with
       | none => simp
       | some q =>
         have := hd q (List.mem_of_getElem? hk)
         simp only [Option.map_some, Option.getD_some]
         have h2 := this.2.1
         have h3 := this.2.2.1
         omega
      ·cases h
 ·cases h
theorem NewL.ia {w0 w : World} {v : Value} {l : List Int} (h : NewL w0 w v l) : IA w v l := by
 rcases h with ⟨rfl, rfl⟩ | ⟨g, -, rfl, hb⟩
 ·exact ⟨none, 0, rfl, fun h => absurd rfl h⟩
 ·refine ⟨_, _, rfl, fun _ => ⟨g, 0, rfl, heap_lt hb, fun j hj => ?_⟩⟩
  rw [cell_of hb]
  simp [hj]
theorem CodeCells.at {w0 w : World} : ∀ {l : List AI} {cs : List Value}, CodeCells w0 w l cs → ∀ j (hj : j < l.length), ∃ av rv, cs[j * 7]? = some (vI l[j].op) ∧ cs[j * 7 + 1]? = some (vI l[j].r) ∧ cs[j * 7 + 2]? = some (vI l[j].s) ∧ cs[j * 7 + 3]? = some (vI l[j].t) ∧ cs[j * 7 + 4]? = some (vI l[j].n) ∧ cs[j * 7 + 5]? = some av ∧ cs[j * 7 + 6]? = some rv ∧ IA w av l[j].args ∧ IA w rv l[j].rets
 | a :: l, cs, h, 0, _ => by
   obtain ⟨av, rv, rest, rfl, h1, h2, -⟩ := h
   exact ⟨av, rv, rfl, rfl, rfl, rfl, rfl, rfl, rfl, h1.ia, h2.ia⟩
 | a :: l, cs, h, j + 1, hj => by
   obtain ⟨av, rv, rest, rfl, h1, h2, h3⟩ := h
   obtain ⟨av', rv', k0, k1, k2, k3, k4, k5, k6, k7, k8⟩ := CodeCells.at h3 j (by simpa using hj)
   have sh : ∀ o, ([vI a.op, vI a.r, vI a.s, vI a.t, vI a.n, av, rv] ++ rest)[(j + 1) * 7 + o]? = rest[j * 7 + o]? := fun o => by
    rw [List.getElem?_append_right (by simp; omega)]
    congr 1
    simp
    omega
   exact ⟨av', rv', (sh 0).trans k0, (sh 1).trans k1, (sh 2).trans k2, (sh 3).trans k3, (sh 4).trans k4, (sh 5).trans k5, (sh 6).trans k6, k7, k8⟩
theorem CodesAt.at {w0 w : World} : ∀ {ls : List (List AI)} {cs : List Value}, CodesAt w0 w ls cs → ∀ j (hj : j < ls.length), ∃ cv, cs[j]? = some cv ∧ CA w cv (ls[j].map pi)
 | l :: ls, c :: cs, h, 0, _ => by
   obtain ⟨⟨gc, cells, -, e, hb, hcc⟩, -⟩ := h
   refine ⟨c, rfl, ?_⟩
   subst e
   refine ⟨some ⟨gc, 0, none⟩, l.length, by simp, fun _ => ⟨gc, 0, rfl, heap_lt hb, fun j hj => ?_⟩⟩
   have hj' : j < l.length := by simpa using hj
   obtain ⟨av, rv, k0, k1, k2, k3, k4, k5, k6, k7, k8⟩ := hcc.at j hj'
   have g : ∀ o, w.cell? ⟨gc, o, none⟩ = cells[o]? := fun o => by rw [cell_of hb]; simp
   have e1 : ((l.map pi)[j]'hj) = pi l[j] := by simp
   simp only [List.getElem_cons_zero, e1, Nat.zero_add, g]
   exact ⟨av, rv, k0, k1, k2, k3, k4, k5, k6, k7, k8⟩
 | l :: ls, c :: cs, h, j + 1, hj => by
   obtain ⟨cv, h1, h2⟩ := CodesAt.at h.2 j (by simpa using hj)
   exact ⟨cv, h1, h2⟩
 | _ :: _, [], h, _, _ => h.elim
def pfs (done : List HD) (ls : List (List AI)) : List PF := List.zipWith (fun h l => (⟨h.P, h.R, h.V, l.map pi⟩ : PF)) done ls
theorem pfs_at (done : List HD) (ls : List (List AI)) (j : Nat) (h : j < (pfs done ls).length) (h1 : j < done.length) (h2 : j < ls.length) : (pfs done ls)[j] = ⟨done[j].P, done[j].R, done[j].V, ls[j].map pi⟩ := List.getElem_zipWith ..
theorem LaidP.fa {w0 w : World} {v : Value} {G : Int} {done : List HD} {ls : List (List AI)} (h : LaidP w0 w v G done ls) : ∃ fv, v = .agg #[vI G, fv] ∧ FA w fv (pfs done ls) ∧ ls.length = done.length ∧ done.length ≤ 65535 ∧ ∀ h ∈ done, HeadFine h := by
 obtain ⟨g, cap, cs, tl, h1, h2, h3, h4, h5, h6, h7, h8, h9⟩ := h
 have hlen : (pfs done ls).length = done.length := by unfold pfs; rw [List.length_zipWith]; omega
 refine ⟨_, h2, ⟨_, cap, by rw [hlen], fun _ => ⟨g, 0, rfl, heap_lt h7, fun j hj => ?_⟩⟩, h4, h6, h9⟩
 rw [hlen] at hj
 obtain ⟨cv, k1, k2⟩ := h8.at j (by omega)
 obtain ⟨f0, f1, f2, f3⟩ := funcCells_at done cs j hj h3
 have hfl := funcCells_length done cs h3
 have e : ((pfs done ls)[j]'(by omega)) = ⟨done[j].P, done[j].R, done[j].V, (ls[j]'(by omega)).map pi⟩ := pfs_at _ _ _ _ hj (by omega)
 have gg : ∀ o, o < 4 → w.cell? ⟨g, 0 + j * 4 + o, none⟩ = (funcCells done cs)[j * 4 + o]? := fun o ho => by
  rw [cell_of h7, Nat.zero_add]
  simp only [List.getElem?_toArray]
  exact List.getElem?_append_left (by omega)
 refine ⟨cv, ?_, ?_, ?_, ?_, ?_⟩
 ·rw [e]; exact (gg 0 (by omega)).trans f0
 ·rw [e]; exact (gg 1 (by omega)).trans f1
 ·rw [e]; exact (gg 2 (by omega)).trans f2
 ·exact ((gg 3 (by omega)).trans f3).trans k1
 ·rw [e]; exact k2
theorem decX_few {bs : List UInt8} {q : Int × List HD × List (List AI)} (hL : bs.length ≤ 1000000000000000) (h : decX bs = .ok q) : bs.length ≤ 1000000000000 := by
 unfold decX at h
 rw [throughX_body] at h
 split at h
 ·have hB := body_bd (b := 0) (rv := nilS) hL (WS.start nilS) rfl nilS
  obtain ⟨r, h1, h2⟩ := then_ok h
  rw [h1] at hB
  split at h2
  ·rename_i he
   obtain ⟨-, -, k3⟩ := hB
   have : (st1 r).at' = r.2.1.at' := rfl
   omega
  ·cases h2
 ·cases h
theorem dec_fs {bs : List UInt8} {G : Int} {done : List HD} {ls : List (List AI)} (hL : bs.length ≤ 1000000000000000) (h : decX bs = .ok (G, done, ls)) (hl : ls.length = done.length) (hn : done.length ≤ 65535) (hd' : ∀ h ∈ done, HeadFine h) :
 (pfs done ls).map hd = done ∧ (pfs done ls).map PF.code = ls.map (List.map pi) ∧ FineP (pfs done ls) ∧ (∀ f ∈ pfs done ls, ∀ c ∈ f.code, In64n c) ∧ bs.length ≤ 1000000000000 := by
 have hx : throughX 0 nilS bs (WS.start nilS) nilS = .ok (G, done, ls) := h
 obtain ⟨e1, e2⟩ := through_fit hd' hx
 have hlen : (pfs done ls).length = done.length := by unfold pfs; rw [List.length_zipWith]; omega
 have hat : ∀ j (hj : j < done.length), ((pfs done ls)[j]'(by omega)) = ⟨done[j].P, done[j].R, done[j].V, (ls[j]'(by omega)).map pi⟩ := fun j hj => pfs_at _ _ _ _ hj (by omega)
 have hll : ∀ j (hj : j < done.length), (ls[j]'(by omega)).length = done[j].len.toNat := fun j hj => by
  have := congrArg (fun l => l[j]?) e1
  simpa [hj, show j < ls.length by omega] using this
 refine ⟨?_, ?_, ⟨?_, ?_⟩, ?_, decX_few hL h⟩
 ·apply List.ext_getElem
  ·simp [hlen]
  ·intro j h1 h2
   rw [List.getElem_map, hat j h2]
   unfold hd
   have k1 := hll j h2
   have k2 := (hd' done[j] (List.getElem_mem h2)).2.2.2
   have k3 : (((ls[j]'(by omega)).map pi).length : Int) = done[j].len := by rw [List.length_map, k1]; omega
   simp only [k3]
 ·apply List.ext_getElem
  ·simp [hlen, hl]
  ·intro j h1 h2
   have hj : j < done.length := by simpa [hl] using h2
   rw [List.getElem_map, hat j hj, List.getElem_map]
 ·rw [hlen]
  omega
 ·intro f hf
  obtain ⟨j, hj, rfl⟩ := List.getElem_of_mem hf
  have hj : j < done.length := by omega
  rw [hat j hj]
  refine ⟨?_, ?_⟩
  ·have k1 := hll j hj
   have k2 := (hd' done[j] (List.getElem_mem hj)).2.2.2
   show ((ls[j]'(by omega)).map pi).length ≤ _
   rw [List.length_map, k1]; omega
  ·intro c hc
   obtain ⟨a, ha, rfl⟩ := List.mem_map.1 hc
   obtain ⟨q1, q2, -⟩ := e2 _ (List.getElem_mem (by omega)) a ha
   exact ⟨by show a.args.length ≤ _; omega, by show a.rets.length ≤ _; omega⟩
 ·intro f hf c hc
  obtain ⟨j, hj, rfl⟩ := List.getElem_of_mem hf
  have hj : j < done.length := by omega
  rw [hat j hj] at hc
  obtain ⟨a, ha, rfl⟩ := List.mem_map.1 hc
  exact (e2 _ (List.getElem_mem (by omega)) a ha).2.2
end Go.Proofs.YtingenonbkencaaDoor
