import Derived.Test.YtingenonbkencabDoorQRaJ
import Derived.Test.YtingenonbkencabDoorQW3J
import Derived.Test.YtingenonbkencabDoorQS2
import Derived.Test.YtingenonbkencabDoorRows
import Derived.ProofKit
import Derived.OpenShut
import Derived.ChangeOld
import Derived.Below
import Derived.Carry
import Derived.Deep.Slices
import Derived.SizedLaws
set_option linter.unusedVariables false
set_option linter.unusedSimpArgs false
namespace Go.Proofs.YtingenonbkencabDoor
open Go.RowKit (wrap32 wrap64)
variable {b br wb g0 K : Nat} {rv : Value}
theorem w64_eq (x : Int) : wrap64 x = (x + 9223372036854775808) % 18446744073709551616 - 9223372036854775808 := by unfold wrap64; rfl
theorem i64_eq (x : Int) : IntKind.i64.wrap x = (x + 9223372036854775808) % 18446744073709551616 - 9223372036854775808 := by rw [← wrap64_wrap, w64_eq]
theorem u64_eq (x : Int) : IntKind.u64.wrap x = x % 18446744073709551616 := by
 unfold IntKind.wrap IntKind.signed IntKind.bits
 simp
theorem le_leBytes : ∀ (k n : Nat), le (leBytes k n) = n % 256 ^ k
 | 0, n => by simp [leBytes, le, Nat.mod_one]
 | k + 1, n => by
   simp only [leBytes, le, le_leBytes k]
   have h1 : (UInt8.ofNat (n % 256)).toNat = n % 256 := by simp
   rw [h1, Nat.pow_succ, Nat.mul_comm (256 ^ k) 256, Nat.mod_mul]
def InR (size : Nat) (v : Int) : Prop := (0 ≤ v ∧ v.toNat < 256 ^ size ∧ size ≤ 7) ∨ (size = 8 ∧ -9223372036854775808 ≤ v ∧ v < 9223372036854775808)
theorem rd_back {bs l : List UInt8} {v : Int} {size : Nat} (hp : (l ++ leBytes size (IntKind.u64.wrap v).toNat) <+: bs) (hv : InR size v) : rd bs l.length size = .ok v := by
 obtain ⟨rest, rfl⟩ := hp
 have hlen : l.length + size ≤ (l ++ leBytes size (IntKind.u64.wrap v).toNat ++ rest).length := by simp [leBytes_length]
 unfold rd
 rw [if_pos hlen]
 have e : leAt (l ++ leBytes size (IntKind.u64.wrap v).toNat ++ rest) l.length size = (IntKind.u64.wrap v).toNat % 256 ^ size := by
  unfold leAt
  rw [List.append_assoc, List.drop_left, List.take_append_of_le_length (by rw [leBytes_length]; exact Nat.le_refl _), List.take_of_length_le (by rw [leBytes_length]; exact Nat.le_refl _), le_leBytes]
 rw [e]
 refine congrArg _ ?_
 rcases hv with ⟨h0, h1, h7⟩ | ⟨rfl, h0, h1⟩
 ·have h2 : v.toNat < 72057594037927936 := by
   have h3 := Nat.pow_le_pow_right (n := 256) (by omega) h7
   have h4 : (256 : Nat) ^ 7 = 72057594037927936 := by decide
   rw [h4] at h3
   exact Nat.lt_of_lt_of_le h1 h3
  have e1 : (IntKind.u64.wrap v).toNat = v.toNat := by rw [u64_eq]; omega
  have e2 : v.toNat % 256 ^ size = v.toNat := Nat.mod_eq_of_lt h1
  clear h1
  rw [e1, e2]
  simp only [w64_eq]
  omega
 ·have e8 : (256 : Nat) ^ 8 = 18446744073709551616 := by decide
  rw [e8]
  simp only [w64_eq, u64_eq]
  omega
structure Ag (F : List Nat) (s t : WS) : Prop where
 num : ∀ o, o ∈ places → o ∉ F → s.get o = t.get o
 pos : s.at' = t.at'
 loc : s.locs = t.locs
theorem Ag.mono {F F' : List Nat} {s t : WS} (h : Ag F s t) (hF : ∀ o, o ∈ F → o ∈ F') : Ag F' s t := ⟨fun o h1 h2 => h.num o h1 (fun h3 => h2 (hF o h3)), h.pos, h.loc⟩
theorem get_set (s : WS) (o o' : Nat) (v : Int) (h : o ∈ places) (h' : o' ∈ places) : (s.set o v).get o' = if o' = o then v else s.get o' := by
 simp only [places, List.mem_cons, List.not_mem_nil, or_false] at h h'
 rcases h with rfl | rfl | rfl | rfl | rfl | rfl | rfl | rfl | rfl | rfl | rfl <;> rcases h' with rfl | rfl | rfl | rfl | rfl | rfl | rfl | rfl | rfl | rfl | rfl <;> rfl
theorem set_locs (s : WS) (o : Nat) (v : Int) : (s.set o v).locs = s.locs := by
 unfold WS.set; repeat' split
 all_goals rfl
theorem set_getT (s : WS) (o : Nat) (ho : o ∈ places) : s.set o (s.get o) = s := by
 simp only [places, List.mem_cons, List.not_mem_nil, or_false] at ho
 rcases ho with rfl | rfl | rfl | rfl | rfl | rfl | rfl | rfl | rfl | rfl | rfl <;> rfl
def Pos (x : WS × (Nat × List UInt8)) : Prop := x.1.at' = (x.2.2.length : Nat) ∧ x.2.2.length + 8 * x.2.1 ≤ 1000000000000
def Fn (s : WS) : Prop := (0 ≤ s.globals ∧ s.globals ≤ 16) ∧ (0 ≤ s.fV ∧ s.fV ≤ 255) ∧ (0 ≤ s.len ∧ s.len ≤ 4096) ∧ (-9223372036854775808 ≤ s.n ∧ s.n < 9223372036854775808)
structure Wr (x y : WS × (Nat × List UInt8)) : Prop where
 pre : x.2.2 <+: y.2.2
 pos : Pos y
 num : ∀ o, o ∈ places → o ≠ 161 → y.1.get o = x.1.get o
theorem Wr.refl {x : WS × (Nat × List UInt8)} (h : Pos x) : Wr x x := ⟨List.prefix_refl _, h, fun _ _ _ => rfl⟩
theorem Wr.trans {x y z : WS × (Nat × List UInt8)} (h : Wr x y) (k : Wr y z) : Wr x z := ⟨h.pre.trans k.pre, k.pos, fun o h1 h2 => (k.num o h1 h2).trans (h.num o h1 h2)⟩
theorem Wr.fn {x y : WS × (Nat × List UInt8)} (h : Wr x y) (k : Fn x.1) : Fn y.1 := by
 have e1 : y.1.globals = x.1.globals := h.num 146 (by simp [places]) (by omega)
 have e2 : y.1.fV = x.1.fV := h.num 151 (by simp [places]) (by omega)
 have e3 : y.1.len = x.1.len := h.num 153 (by simp [places]) (by omega)
 have e4 : y.1.n = x.1.n := h.num 158 (by simp [places]) (by omega)
 unfold Fn
 rw [e1, e2, e3, e4]
 exact k
theorem wr_next {o size : Nat} {x y : WS × (Nat × List UInt8)} (ho : o ∈ places) (hs : size ≤ 8) (hx : Pos x) (h : nextX (writing b wb g0 K) o size x = .ok y) :
 y = ({ x.1 with at' := x.1.at' + size }, (x.2.1 - 1, x.2.2 ++ leBytes size (IntKind.u64.wrap (x.1.get o)).toNat)) ∧ Wr x y := by
 obtain ⟨h1, h2⟩ := hx
 unfold nextX at h
 simp only [writing] at h
 split at h
 ·rename_i v st hv
  split at hv
  ·cases hv
  ·rename_i hr
   cases hv
   cases h
   rw [set_getT _ _ ho, adv_small _ _ (by omega) (by omega) hs]
   refine ⟨rfl, List.prefix_append _ _, ⟨?_, ?_⟩, fun _ _ _ => rfl⟩
   ·show x.1.at' + size = ((x.2.2 ++ leBytes size (IntKind.u64.wrap (x.1.get o)).toNat).length : Nat)
    rw [List.length_append, leBytes_length, h1]
    simp
   ·show (x.2.2 ++ leBytes size (IntKind.u64.wrap (x.1.get o)).toNat).length + 8 * (x.2.1 - 1) ≤ 1000000000000
    rw [List.length_append, leBytes_length]
    omega
 ·cases h
theorem rd_next {o size : Nat} {bs : List UInt8} {F F' : List Nat} {x y : WS × (Nat × List UInt8)} {t : WS} (ho : o ∈ places) (hs : size ≤ 8) (hx : Pos x) (h : nextX (writing b wb g0 K) o size x = .ok y) (hp : y.2.2 <+: bs) (hv : InR size (x.1.get o)) (hA : Ag F x.1 t)
 (hF : ∀ o', o' ∈ F → o' = o ∨ o' ∈ F') : ∃ t', nextX (reading br rv bs) o size (t, ()) = .ok (t', ()) ∧ Ag F' y.1 t' ∧ ∀ o', o' ∈ places → o' ≠ o → t'.get o' = t.get o' := by
 obtain ⟨rfl, -⟩ := wr_next ho hs hx h
 have e : rd bs t.at'.toNat size = .ok (x.1.get o) := by
  have e1 : t.at'.toNat = x.2.2.length := by rw [← hA.pos, hx.1]; simp
  rw [e1]
  exact rd_back hp hv
 refine ⟨{ t.set o (x.1.get o) with at' := adv t.at' size }, ?_, ⟨?_, ?_, ?_⟩, fun o' ho' hne => ?_⟩
 ·unfold nextX
  simp only [reading, e]
 ·intro o' ho' hn
  show x.1.get o' = (t.set o (x.1.get o)).get o'
  rw [get_set _ _ _ _ ho ho']
  split
  ·rename_i e; rw [e]
  ·rename_i hne
   refine hA.num o' ho' (fun hm => ?_)
   rcases hF o' hm with h | h
   ·exact hne h
   ·exact hn h
 ·show x.1.at' + size = adv t.at' size
  have h1 := hx.1
  have h2 := hx.2
  rw [← hA.pos, adv_small _ _ (by omega) (by omega) hs]
 ·show x.1.locs = (t.set o (x.1.get o)).locs
  rw [set_locs]; exact hA.loc
 ·show (t.set o (x.1.get o)).get o' = t.get o'
  rw [get_set _ _ _ _ ho ho', if_neg hne]
structure Sm (bs : List UInt8) (F F' : List Nat) (p : WS × (Nat × List UInt8) → X (WS × (Nat × List UInt8))) (q : WS × Unit → X (WS × Unit)) : Prop where
 wr : ∀ x y, Pos x → p x = .ok y → Wr x y
 sim : ∀ x y t, Pos x → Fn x.1 → p x = .ok y → y.2.2 <+: bs → Ag F x.1 t → ∃ t', q (t, ()) = .ok (t', ()) ∧ Ag F' y.1 t'
theorem Sm.then {bs : List UInt8} {F F1 F2 : List Nat} {p p2 : WS × (Nat × List UInt8) → X (WS × (Nat × List UInt8))} {q q2 : WS × Unit → X (WS × Unit)} (h : Sm bs F F1 p q) (k : Sm bs F1 F2 p2 q2) :
 Sm bs F F2 (fun x => thenX (p x) p2) (fun t => thenX (q t) q2) := by
 refine ⟨fun x y hx hy => ?_, fun x y t hx hf hy hp hA => ?_⟩
 ·obtain ⟨z, h1, h2⟩ := then_ok hy
  exact (h.wr x z hx h1).trans (k.wr z y (h.wr x z hx h1).pos h2)
 ·obtain ⟨z, h1, h2⟩ := then_ok hy
  have w1 := h.wr x z hx h1
  have w2 := k.wr z y w1.pos h2
  obtain ⟨t1, e1, A1⟩ := h.sim x z t hx hf h1 (w2.pre.trans hp) hA
  obtain ⟨t2, e2, A2⟩ := k.sim z y t1 w1.pos (w1.fn hf) h2 hp A1
  exact ⟨t2, by simp only [e1, thenX]; exact e2, A2⟩
theorem ask_of_next {M : Mode b} {o size : Nat} {c : WS → Bool} {er : Int} {x y : WS × M.σ} (e : nextX M o size x = .ok y) (h : c y.1 = true) : askX M o size c er x = .ok y := by
 unfold askX
 rw [e]
 simp only
 rw [if_pos h]
theorem Sm.ask {bs : List UInt8} {F F' : List Nat} {o size : Nat} {c : WS → Bool} {er : Int} (ho : o ∈ places) (hs : size ≤ 8) (hc : ∀ s t, Ag F' s t → c s = c t) (hr : ∀ s, Fn s → c s = true → InR size (s.get o)) (hF : ∀ o', o' ∈ F → o' = o ∨ o' ∈ F') (hn : o ≠ 161) :
 Sm bs F F' (askX (writing b wb g0 K) o size c er) (askX (reading br rv bs) o size c er) := by
 have ok : ∀ x y, askX (writing b wb g0 K) o size c er x = .ok y → nextX (writing b wb g0 K) o size x = .ok y ∧ c y.1 = true := by
  intro x y h
  unfold askX at h
  split at h
  ·rename_i y' hy
   split at h
   ·rename_i hcy; cases h; exact ⟨hy, hcy⟩
   ·cases h
  ·cases h
 refine ⟨fun x y hx hy => (wr_next ho hs hx (ok x y hy).1).2, fun x y t hx hf hy hp hA => ?_⟩
 obtain ⟨h1, h2⟩ := ok x y hy
 have w := (wr_next ho hs hx h1).2
 have hv : InR size (x.1.get o) := by rw [← w.num o ho hn]; exact hr y.1 (w.fn hf) h2
 obtain ⟨t', e, A, -⟩ := rd_next ho hs hx h1 hp hv hA hF
 exact ⟨t', ask_of_next e (by rw [← h2]; exact (hc y.1 t' A).symm), A⟩
theorem sm_var {bs : List UInt8} {F F' : List Nat} (o : Nat) (ho : o = 155 ∨ o = 156 ∨ o = 157) (hF : ∀ o', o' ∈ F → o' = o ∨ o' ∈ F') (h1 : o ∉ F') (h2 : 151 ∉ F') : Sm bs F F' (varPart (writing b wb g0 K) o) (varPart (reading br rv bs) o) := by
 have hop : o ∈ places := by rcases ho with rfl | rfl | rfl <;> simp [places]
 refine Sm.ask (b := b) (bs := bs) (br := br) (rv := rv) (c := fun s => decide (0 ≤ s.get o ∧ s.get o ≤ IntKind.i64.wrap (s.fV - 1))) (er := 13) (size := 1) hop (by omega) (fun s t hA => ?_) (fun s hf hc => ?_) hF (by omega)
 ·have e1 := hA.num o hop h1
  have e2 : s.fV = t.fV := hA.num 151 (by simp [places]) h2
  rw [e1, e2]
 ·have hc := of_decide_eq_true hc
  obtain ⟨-, hV, -, -⟩ := hf
  simp only [i64_eq, w64_eq] at hc
  exact Or.inl ⟨hc.1, by omega, by omega⟩
theorem sm_fields {bs : List UInt8} {F F' : List Nat} (hF : ∀ o', o' ∈ F → o' = 158 ∨ o' ∈ F') (h1 : 158 ∉ F') : Sm bs F F' (fieldsPart (writing b wb g0 K)) (fieldsPart (reading br rv bs)) := by
 refine Sm.ask (b := b) (bs := bs) (br := br) (rv := rv) (c := fun s => decide (1 ≤ s.n ∧ s.n ≤ 8)) (er := 17) (o := 158) (size := 1) (by simp [places]) (by omega) (fun s t hA => ?_) (fun s hf hc => ?_) hF (by omega)
 ·have e1 : s.n = t.n := hA.num 158 (by simp [places]) h1
  rw [e1]
 ·have hc := of_decide_eq_true hc
  have e : s.get 158 = s.n := rfl
  rw [e]
  exact Or.inl ⟨by omega, by omega, by omega⟩
theorem sm_field {bs : List UInt8} {F F' : List Nat} (hF : ∀ o', o' ∈ F → o' = 158 ∨ o' ∈ F') (h1 : 158 ∉ F') : Sm bs F F' (fieldPart (writing b wb g0 K)) (fieldPart (reading br rv bs)) := by
 refine Sm.ask (b := b) (bs := bs) (br := br) (rv := rv) (c := fun s => decide (0 ≤ s.n ∧ s.n ≤ 7)) (er := 17) (o := 158) (size := 1) (by simp [places]) (by omega) (fun s t hA => ?_) (fun s hf hc => ?_) hF (by omega)
 ·have e1 : s.n = t.n := hA.num 158 (by simp [places]) h1
  rw [e1]
 ·have hc := of_decide_eq_true hc
  have e : s.get 158 = s.n := rfl
  rw [e]
  exact Or.inl ⟨by omega, by omega, by omega⟩
theorem sm_global {bs : List UInt8} {F F' : List Nat} (hF : ∀ o', o' ∈ F → o' = 158 ∨ o' ∈ F') (h1 : 158 ∉ F') (h2 : 146 ∉ F') : Sm bs F F' (globalPart (writing b wb g0 K)) (globalPart (reading br rv bs)) := by
 refine Sm.ask (b := b) (bs := bs) (br := br) (rv := rv) (c := fun s => decide (0 ≤ s.n ∧ s.n ≤ IntKind.i64.wrap (s.globals - 1))) (er := 18) (o := 158) (size := 1) (by simp [places]) (by omega) (fun s t hA => ?_) (fun s hf hc => ?_) hF (by omega)
 ·have e1 : s.n = t.n := hA.num 158 (by simp [places]) h1
  have e2 : s.globals = t.globals := hA.num 146 (by simp [places]) h2
  rw [e1, e2]
 ·have hc := of_decide_eq_true hc
  obtain ⟨hG, -, -, -⟩ := hf
  have e : s.get 158 = s.n := rfl
  rw [e]
  simp only [i64_eq, w64_eq] at hc
  exact Or.inl ⟨by omega, by omega, by omega⟩
theorem sm_target {bs : List UInt8} {F F' : List Nat} (hF : ∀ o', o' ∈ F → o' = 158 ∨ o' ∈ F') (h1 : 158 ∉ F') (h2 : 153 ∉ F') : Sm bs F F' (targetPart (writing b wb g0 K)) (targetPart (reading br rv bs)) := by
 refine Sm.ask (b := b) (bs := bs) (br := br) (rv := rv) (c := fun s => decide (0 ≤ s.n ∧ s.n ≤ IntKind.i64.wrap (s.len - 1))) (er := 16) (o := 158) (size := 2) (by simp [places]) (by omega) (fun s t hA => ?_) (fun s hf hc => ?_) hF (by omega)
 ·have e1 : s.n = t.n := hA.num 158 (by simp [places]) h1
  have e2 : s.len = t.len := hA.num 153 (by simp [places]) h2
  rw [e1, e2]
 ·have hc := of_decide_eq_true hc
  obtain ⟨-, -, hL, -⟩ := hf
  have e : s.get 158 = s.n := rfl
  rw [e]
  simp only [i64_eq, w64_eq] at hc
  exact Or.inl ⟨by omega, by omega, by omega⟩
theorem sm_callee {bs : List UInt8} {F F' : List Nat} (nf : Nat) (hnf : nf ≤ 65535) (hF : ∀ o', o' ∈ F → o' = 158 ∨ o' ∈ F') (h1 : 158 ∉ F') : Sm bs F F' (calleePart (writing b wb g0 K) nf) (calleePart (reading br rv bs) nf) := by
 refine Sm.ask (b := b) (bs := bs) (br := br) (rv := rv) (c := fun s => decide (0 ≤ s.n ∧ s.n ≤ IntKind.i64.wrap ((nf : Int) - 1))) (er := 14) (o := 158) (size := 2) (by simp [places]) (by omega) (fun s t hA => ?_) (fun s hf hc => ?_) hF (by omega)
 ·have e1 : s.n = t.n := hA.num 158 (by simp [places]) h1
  rw [e1]
 ·have hc := of_decide_eq_true hc
  have e : s.get 158 = s.n := rfl
  rw [e]
  simp only [i64_eq, w64_eq] at hc
  exact Or.inl ⟨by omega, by omega, by omega⟩
theorem sm_int {bs : List UInt8} {F F' : List Nat} (hF : ∀ o', o' ∈ F → o' = 158 ∨ o' ∈ F') : Sm bs F F' (intPart (writing b wb g0 K)) (intPart (reading br rv bs)) := by
 refine ⟨fun x y hx hy => (wr_next (b := b) (o := 158) (size := 8) (by simp [places]) (by omega) hx hy).2, fun x y t hx hf hy hp hA => ?_⟩
 obtain ⟨t', e, A, -⟩ := rd_next (b := b) (o := 158) (size := 8) (by simp [places]) (by omega) hx hy hp (Or.inr ⟨rfl, hf.2.2.2⟩) hA hF
 exact ⟨t', e, A⟩
def namesK : Nat → List Nat
 | 1 => [155, 158]
 | 2 => [155, 156]
 | 3 => [155, 156, 157]
 | 4 => [155, 156, 157]
 | 5 => [155, 156]
 | 6 => [155, 158]
 | 7 => [155, 156, 158]
 | 8 => [155, 156, 158]
 | 9 => [155, 158]
 | 10 => [156, 158]
 | 12 => [156]
 | 13 => [158]
 | 14 => [156, 158]
 | 16 => [155]
 | 17 => [155, 156, 157]
 | _ => []
theorem parts_sm {bs : List UInt8} (op : Nat) : Sm bs (161 :: namesK op) [161] (fun x => partsX (writing b wb g0 K) op (.ok x)) (fun t => partsX (reading br rv bs) op (.ok t)) := by
 have v : ∀ {F F' : List Nat} (o : Nat), (o = 155 ∨ o = 156 ∨ o = 157) → (∀ o', o' ∈ F → o' = o ∨ o' ∈ F') → o ∉ F' → 151 ∉ F' → Sm bs F F' (varPart (writing b wb g0 K) o) (varPart (reading br rv bs) o) := fun o h1 h2 h3 h4 => sm_var o h1 h2 h3 h4
 match op with
 | 1 => exact (v (F' := [161, 158]) 155 (by omega) (by simp [namesK]; try omega) (by simp) (by simp)).then (sm_int (by simp; try omega))
 | 2 => exact (v (F' := [161, 156]) 155 (by omega) (by simp [namesK]; try omega) (by simp) (by simp)).then (v 156 (by omega) (by simp; try omega) (by simp) (by simp))
 | 3 => exact ((v (F' := [161, 156, 157]) 155 (by omega) (by simp [namesK]; try omega) (by simp) (by simp)).then (v (F' := [161, 157]) 156 (by omega) (by simp; try omega) (by simp) (by simp))).then (v 157 (by omega) (by simp; try omega) (by simp) (by simp))
 | 4 => exact ((v (F' := [161, 156, 157]) 155 (by omega) (by simp [namesK]; try omega) (by simp) (by simp)).then (v (F' := [161, 157]) 156 (by omega) (by simp; try omega) (by simp) (by simp))).then (v 157 (by omega) (by simp; try omega) (by simp) (by simp))
 | 5 => exact (v (F' := [161, 156]) 155 (by omega) (by simp [namesK]; try omega) (by simp) (by simp)).then (v 156 (by omega) (by simp; try omega) (by simp) (by simp))
 | 6 => exact (v (F' := [161, 158]) 155 (by omega) (by simp [namesK]; try omega) (by simp) (by simp)).then (sm_fields (by simp; try omega) (by simp))
 | 7 => exact ((v (F' := [161, 156, 158]) 155 (by omega) (by simp [namesK]; try omega) (by simp) (by simp)).then (v (F' := [161, 158]) 156 (by omega) (by simp; try omega) (by simp) (by simp))).then (sm_field (by simp; try omega) (by simp))
 | 8 => exact ((v (F' := [161, 156, 158]) 155 (by omega) (by simp [namesK]; try omega) (by simp) (by simp)).then (v (F' := [161, 158]) 156 (by omega) (by simp; try omega) (by simp) (by simp))).then (sm_field (by simp; try omega) (by simp))
 | 9 => exact (v (F' := [161, 158]) 155 (by omega) (by simp [namesK]; try omega) (by simp) (by simp)).then (sm_global (by simp; try omega) (by simp) (by simp))
 | 10 => exact (v (F' := [161, 158]) 156 (by omega) (by simp [namesK]; try omega) (by simp) (by simp)).then (sm_global (by simp; try omega) (by simp) (by simp))
 | 12 => exact v 156 (by omega) (by simp [namesK]; try omega) (by simp) (by simp)
 | 13 => exact sm_target (by simp [namesK]; try omega) (by simp) (by simp)
 | 14 => exact (v (F' := [161, 158]) 156 (by omega) (by simp [namesK]; try omega) (by simp) (by simp)).then (sm_target (by simp; try omega) (by simp) (by simp))
 | 16 => exact v 155 (by omega) (by simp [namesK]; try omega) (by simp) (by simp)
 | 17 => exact ((v (F' := [161, 156, 157]) 155 (by omega) (by simp [namesK]; try omega) (by simp) (by simp)).then (v (F' := [161, 157]) 156 (by omega) (by simp; try omega) (by simp) (by simp))).then (v 157 (by omega) (by simp; try omega) (by simp) (by simp))
 | 0 => exact ⟨fun x y hx hy => by cases hy; exact Wr.refl hx, fun x y t _ _ hy _ hA => by cases hy; exact ⟨t, rfl, hA⟩⟩
 | 11 => exact ⟨fun x y hx hy => by cases hy; exact Wr.refl hx, fun x y t _ _ hy _ hA => by cases hy; exact ⟨t, rfl, hA⟩⟩
 | 15 => exact ⟨fun x y hx hy => by cases hy; exact Wr.refl hx, fun x y t _ _ hy _ hA => by cases hy; exact ⟨t, rfl, hA⟩⟩
 | m + 18 => exact ⟨fun x y hx hy => by cases hy; exact Wr.refl hx, fun x y t _ _ hy _ hA => by cases hy; exact ⟨t, rfl, hA⟩⟩
theorem Ag.out {F : List Nat} {s t : WS} (h : Ag F s t) {o : Nat} (ho : o ∈ places) (hn : o ∉ F) : s.get o = t.get o := h.num o ho hn
theorem wr_locs {x : WS × (Nat × List UInt8)} {v : Int} (h : Pos x) : Wr x ({ x.1 with locs := v }, x.2) := ⟨List.prefix_refl _, h, fun _ _ _ => rfl⟩
theorem front_sm {bs : List UInt8} {F : List Nat} (ends makes : Bool) {nb : Bool} {i : Nat} {p p' : Int} {x y : WS × (Nat × List UInt8)} (hx : Pos x) (h : frontOk (writing b wb g0 K) ends makes nb i p x = .ok y) :
 nb = true ∧ Wr x y ∧ (y.1.count = x.1.count) ∧ ∀ t, 153 ∉ F → Ag F x.1 t → ∃ t', frontOk (reading br rv bs) ends makes true i p' (t, ()) = .ok (t', ()) ∧ Ag F y.1 t' := by
 unfold frontOk at h
 split at h
 ·cases h
 ·rename_i h1
  split at h
  ·cases h
  ·rename_i h2
   have hl : ∀ t, 153 ∉ F → Ag F x.1 t → x.1.len = t.len := fun t hn hA => hA.out (o := 153) (by simp [places]) hn
   split at h
   ·rename_i hm
    unfold locX at h
    split at h
    ·rename_i h3
     cases h
     refine ⟨by simpa using h1, wr_locs hx, rfl, fun t hn hA => ⟨{ t with locs := wrap64 (t.locs + 1) }, ?_, ⟨hA.num, hA.pos, ?_⟩⟩⟩
     ·unfold frontOk
      rw [if_neg (by simp), if_neg (by rw [← hl t hn hA]; exact h2), if_pos hm]
      unfold locX
      rw [if_pos (by rw [← hA.loc]; exact h3)]
     ·show wrap64 (x.1.locs + 1) = wrap64 (t.locs + 1)
      rw [hA.loc]
    ·cases h
   ·rename_i hm
    cases h
    refine ⟨by simpa using h1, Wr.refl hx, rfl, fun t hn hA => ⟨t, ?_, hA⟩⟩
    unfold frontOk
    rw [if_neg (by simp), if_neg (by rw [← hl t hn hA]; exact h2), if_neg hm]
theorem one_wr {v : Int} {x y : WS × (Nat × List UInt8)} (hx : Pos x) (h : oneK (writing b wb g0 K) v x = .ok y) :
 y = ({ x.1 with at' := x.1.at' + 1 }, (x.2.1 - 1, x.2.2 ++ leBytes 1 (IntKind.u64.wrap v).toNat)) ∧ Wr x y ∧ varOk x.1.fV v = true := by
 obtain ⟨h1, h2⟩ := hx
 unfold oneK at h
 simp only [writing] at h
 split at h
 ·rename_i v' st hv
  split at hv
  ·cases hv
  ·rename_i hr
   cases hv
   split at h
   ·rename_i hc
    cases h
    rw [adv_small _ _ (by omega) (by omega) (by omega)]
    refine ⟨rfl, ⟨List.prefix_append _ _, ⟨?_, ?_⟩, fun _ _ _ => rfl⟩, hc⟩
    ·show x.1.at' + ((1 : Nat) : Int) = ((x.2.2 ++ leBytes 1 (IntKind.u64.wrap v).toNat).length : Nat)
     rw [List.length_append, leBytes_length, h1]
     simp
    ·show (x.2.2 ++ leBytes 1 (IntKind.u64.wrap v).toNat).length + 8 * (x.2.1 - 1) ≤ 1000000000000
     rw [List.length_append, leBytes_length]
     omega
   ·cases h
 ·cases h
theorem vars_wr : ∀ {l : List Int} {x y : WS × (Nat × List UInt8)}, Pos x → varsK (writing b wb g0 K) l x = .ok y → Wr x y
 | [], _, _, hx, h => by cases h; exact Wr.refl hx
 | v :: r, x, y, hx, h => by
   obtain ⟨z, h1, h2⟩ := then_ok h
   have w := (one_wr hx h1).2.1
   exact w.trans (vars_wr w.pos h2)
theorem wr_count {x : WS × (Nat × List UInt8)} {v : Int} (h : Pos x) : Wr x ({ x.1 with count := v }, x.2) := ⟨List.prefix_refl _, h, fun o ho hne => by
 simp only [places, List.mem_cons, List.not_mem_nil, or_false] at ho
 rcases ho with rfl | rfl | rfl | rfl | rfl | rfl | rfl | rfl | rfl | rfl | rfl <;> first | rfl | exact absurd rfl hne⟩
theorem list_wr {n : Nat} {l : List Int} {x y : WS × (Nat × List UInt8)} (hx : Pos x) (h : listK (writing b wb g0 K) n l x = .ok y) : Wr x y ∧ l.length = n := by
 obtain ⟨z, h1, h2⟩ := then_ok h
 have w0 := wr_count (v := l.length) hx
 have w1 := (wr_next (b := b) (by simp [places]) (by omega) w0.pos h1).2
 split at h2
 ·rename_i hl
  exact ⟨(w0.trans w1).trans (vars_wr w1.pos h2), hl⟩
 ·cases h2
def zerosK : Nat → List Nat
 | 11 => [155, 156, 157]
 | 15 => [155, 156, 157, 158]
 | k => [155, 156, 157, 158].filter (fun o => !(namesK k).contains o)
theorem nb_zero {k : Nat} {s : WS} {la lr : Nat} (h1 : 1 ≤ k) (h17 : k ≤ 17) (h : nbK k s la lr = true) : (∀ o, o ∈ zerosK k → s.get o = 0) ∧ (k ≠ 11 → lr = 0) ∧ (k ≠ 11 → k ≠ 15 → la = 0) := by
 have hk : k = 1 ∨ k = 2 ∨ k = 3 ∨ k = 4 ∨ k = 5 ∨ k = 6 ∨ k = 7 ∨ k = 8 ∨ k = 9 ∨ k = 10 ∨ k = 11 ∨ k = 12 ∨ k = 13 ∨ k = 14 ∨ k = 15 ∨ k = 16 ∨ k = 17 := by omega
 rcases hk with rfl | rfl | rfl | rfl | rfl | rfl | rfl | rfl | rfl | rfl | rfl | rfl | rfl | rfl | rfl | rfl | rfl <;>
  (simp only [nbK, Bool.and_eq_true, beq_iff_eq] at h
   simp [zerosK, namesK, WS.get]
   omega)
theorem thenX_okT {α β : Type} {c : X α} {p : α → X β} {y : α} (h : c = .ok y) : thenX c p = p y := by subst h; rfl
theorem instr_wr {heads : List (Nat × Nat)} {fR i : Nat} {la lr : List Int} {x y : WS × (Nat × List UInt8)} (hx : Pos x) (hnf : heads.length ≤ 65535) (h : instrK (writing b wb g0 K) heads fR i la lr x = .ok y) : Wr x y := by
 obtain ⟨x1, h1, h⟩ := then_ok h
 have w1 := (wr_next (b := b) (o := 154) (by simp [places]) (by omega) hx h1).2
 split at h
 ·split at h
  ·obtain ⟨x2, h2, h⟩ := then_ok h
   obtain ⟨-, w2, -⟩ := front_sm (b := b) (bs := []) (br := 0) (rv := nilS) (F := []) (p' := 0) _ _ w1.pos h2
   exact (w1.trans w2).trans (list_wr w2.pos h).1
  ·split at h
   ·obtain ⟨x3, h3, h⟩ := then_ok h
    obtain ⟨x2, h2, h3⟩ := then_ok h3
    obtain ⟨-, w2, -⟩ := front_sm (b := b) (bs := []) (br := 0) (rv := nilS) (F := []) (p' := 0) _ _ w1.pos h2
    have w3 := (sm_callee (b := b) (bs := []) (br := 0) (rv := nilS) (F := [158]) (F' := []) heads.length hnf (by simp) (by simp)).wr x2 x3 w2.pos h3
    obtain ⟨x4, h4, h⟩ := then_ok h
    have w4 := (list_wr w3.pos h4).1
    exact (((w1.trans w2).trans w3).trans w4).trans (list_wr w4.pos h).1
   ·cases h2 : frontOk (writing b wb g0 K) (x.1.op == 13) (x.1.op == 6) (nbK x.1.op.toNat x.1 la.length lr.length) i x.1.at' x1 with
    | error z =>
      rw [h2] at h
      have : ∀ k, partsX (writing b wb g0 K) k (.error z) = .error z := by
       intro k; unfold partsX; split <;> rfl
      rw [this] at h; cases h
    | ok x2 =>
      rw [h2] at h
      obtain ⟨-, w2, -⟩ := front_sm (b := b) (bs := []) (br := 0) (rv := nilS) (F := []) (p' := 0) _ _ w1.pos h2
      exact (w1.trans w2).trans ((parts_sm (b := b) (bs := []) (br := 0) (rv := nilS) x.1.op.toNat).wr x2 y w2.pos h)
 ·cases h
def hd (f : PF) : HD := ⟨f.P, f.R, f.V, (f.code.length : Nat)⟩
abbrev F6 : List Nat := [154, 155, 156, 157, 158, 161]
def Fn0 (s : WS) : Prop := (0 ≤ s.globals ∧ s.globals ≤ 16) ∧ (0 ≤ s.fV ∧ s.fV ≤ 255) ∧ (0 ≤ s.len ∧ s.len ≤ 4096)
def In64n (c : PI) : Prop := -9223372036854775808 ≤ c.n ∧ c.n < 9223372036854775808
structure WrC (x y : WS × (Nat × List UInt8)) : Prop where
 pre : x.2.2 <+: y.2.2
 pos : Pos y
 num : ∀ o, o ∈ places → o ∉ F6 → y.1.get o = x.1.get o
theorem WrC.refl {x : WS × (Nat × List UInt8)} (h : Pos x) : WrC x x := ⟨List.prefix_refl _, h, fun _ _ _ => rfl⟩
theorem WrC.trans {x y z : WS × (Nat × List UInt8)} (h : WrC x y) (k : WrC y z) : WrC x z := ⟨h.pre.trans k.pre, k.pos, fun o h1 h2 => (k.num o h1 h2).trans (h.num o h1 h2)⟩
theorem WrC.fn {x y : WS × (Nat × List UInt8)} (h : WrC x y) (k : Fn0 x.1) : Fn0 y.1 := by
 have e1 : y.1.globals = x.1.globals := h.num 146 (by simp [places]) (by simp)
 have e2 : y.1.fV = x.1.fV := h.num 151 (by simp [places]) (by simp)
 have e3 : y.1.len = x.1.len := h.num 153 (by simp [places]) (by simp)
 unfold Fn0
 rw [e1, e2, e3]
 exact k
theorem inI_get (c : PI) (s : WS) (o : Nat) (ho : o ∈ places) (hn : o ∉ F6) : (inI c s).get o = s.get o := by
 simp only [places, List.mem_cons, List.not_mem_nil, or_false] at ho
 rcases ho with rfl | rfl | rfl | rfl | rfl | rfl | rfl | rfl | rfl | rfl | rfl <;> first | rfl | exact absurd (by simp) hn
theorem wrC_instr {c : PI} {x y : WS × (Nat × List UInt8)} (h : Wr (inI c x.1, x.2) y) : WrC x y :=
 ⟨h.pre, h.pos, fun o ho hn => (h.num o ho (fun e => hn (by simp [e]))).trans (inI_get c x.1 o ho hn)⟩
theorem code_wr {heads : List (Nat × Nat)} {fR : Nat} (hnf : heads.length ≤ 65535) : ∀ {l : List PI} {i : Nat} {x y : WS × (Nat × List UInt8)}, Pos x → codeK (writing b wb g0 K) heads fR i l x = .ok y → WrC x y
 | [], _, _, _, hx, h => by cases h; exact WrC.refl hx
 | c :: r, i, x, y, hx, h => by
   obtain ⟨z, h1, h2⟩ := then_ok h
   have w := wrC_instr (instr_wr (x := (inI c x.1, x.2)) hx hnf h1)
   exact w.trans (code_wr hnf w.pos h2)
theorem headOk_told {s : WS} {p : Int} {u : Unit} (h : headOk s p = .ok u) : (0 ≤ s.fV ∧ s.fV ≤ 255) ∧ (0 ≤ s.fP ∧ s.fP ≤ 8) ∧ (0 ≤ s.fR ∧ s.fR ≤ 4) ∧ 0 < s.len ∧ s.len ≤ 4096 := by
 unfold headOk at h
 by_cases h1 : 0 ≤ s.fV ∧ s.fV ≤ 255
 rotate_left
 ·rw [if_pos h1] at h; cases h
 rw [if_neg (fun k => k h1)] at h
 by_cases h2 : 0 ≤ s.fP ∧ s.fP ≤ (if s.fV < 8 then s.fV else 8)
 rotate_left
 ·rw [if_pos h2] at h; cases h
 rw [if_neg (fun k => k h2)] at h
 by_cases h3 : 0 ≤ s.fR ∧ s.fR ≤ 4
 rotate_left
 ·rw [if_pos h3] at h; cases h
 rw [if_neg (fun k => k h3)] at h
 by_cases h4 : s.len ≤ 4096
 rotate_left
 ·rw [if_pos h4] at h; cases h
 rw [if_neg (fun k => k h4)] at h
 by_cases h5 : 0 < s.len
 rotate_left
 ·rw [if_pos h5] at h; cases h
 refine ⟨h1, ⟨h2.1, ?_⟩, h3, h5, h4⟩
 have h6 := h2.2
 split at h6 <;> omega
theorem head_sm {bs : List UInt8} {x y : WS × (Nat × List UInt8)} (hx : Pos x) (h : headX (writing b wb g0 K) x = .ok y) :
 Wr x y ∧ ((0 ≤ x.1.fV ∧ x.1.fV ≤ 255) ∧ (0 ≤ x.1.fP ∧ x.1.fP ≤ 8) ∧ (0 ≤ x.1.fR ∧ x.1.fR ≤ 4) ∧ 0 < x.1.len ∧ x.1.len ≤ 4096) ∧
 ∀ t, y.2.2 <+: bs → Ag [149, 150, 151, 153] x.1 t → ∃ t', headX (reading br rv bs) (t, ()) = .ok (t', ()) ∧ Ag [] y.1 t' := by
 have h := (headX_then (writing b wb g0 K) x).symm.trans h
 obtain ⟨y1, h1, h⟩ := then_ok h
 obtain ⟨y2, h2, h⟩ := then_ok h
 obtain ⟨y3, h3, h⟩ := then_ok h
 obtain ⟨y4, h4, h⟩ := then_ok h
 obtain ⟨u, h5, h⟩ := then_ok h
 have w1 := (wr_next (b := b) (o := 149) (by simp [places]) (by omega) hx h1).2
 have w2 := (wr_next (b := b) (o := 150) (by simp [places]) (by omega) w1.pos h2).2
 have w3 := (wr_next (b := b) (o := 151) (by simp [places]) (by omega) w2.pos h3).2
 have w4 := (wr_next (b := b) (o := 153) (by simp [places]) (by omega) w3.pos h4).2
 have w := ((w1.trans w2).trans w3).trans w4
 unfold locX at h
 split at h
 rotate_left
 ·cases h
 rename_i hloc
 cases h
 have w5 := w.trans (wr_locs (v := wrap64 (y4.1.locs + y4.1.fV)) w.pos)
 have g1 : y4.1.fP = x.1.fP := w.num 149 (by simp [places]) (by omega)
 have g2 : y4.1.fR = x.1.fR := w.num 150 (by simp [places]) (by omega)
 have g3 : y4.1.fV = x.1.fV := w.num 151 (by simp [places]) (by omega)
 have g4 : y4.1.len = x.1.len := w.num 153 (by simp [places]) (by omega)
 have hk := headOk_told h5
 rw [g1, g2, g3, g4] at hk
 refine ⟨w5, hk, fun t hp hA => ?_⟩
 have hp4 : y4.2.2 <+: bs := hp
 have hp3 := w4.pre.trans hp4
 have hp2 := w3.pre.trans hp3
 have hp1 := w2.pre.trans hp2
 have v2 : y1.1.get 150 = x.1.fR := w1.num 150 (by simp [places]) (by omega)
 have v3 : y2.1.get 151 = x.1.fV := (w1.trans w2).num 151 (by simp [places]) (by omega)
 have v4 : y3.1.get 153 = x.1.len := ((w1.trans w2).trans w3).num 153 (by simp [places]) (by omega)
 obtain ⟨t1, e1, A1, -⟩ := rd_next (b := b) (bs := bs) (br := br) (rv := rv) (F' := [150, 151, 153]) (by simp [places]) (by omega) hx h1 hp1 (Or.inl ⟨by show 0 ≤ x.1.fP; omega, by show x.1.fP.toNat < 256 ^ 1; omega, by omega⟩) hA (by simp)
 obtain ⟨t2, e2, A2, -⟩ := rd_next (b := b) (bs := bs) (br := br) (rv := rv) (F' := [151, 153]) (by simp [places]) (by omega) w1.pos h2 hp2 (Or.inl ⟨by rw [v2]; omega, by rw [v2]; omega, by omega⟩) A1 (by simp)
 obtain ⟨t3, e3, A3, -⟩ := rd_next (b := b) (bs := bs) (br := br) (rv := rv) (F' := [153]) (by simp [places]) (by omega) w2.pos h3 hp3 (Or.inl ⟨by rw [v3]; omega, by rw [v3]; omega, by omega⟩) A2 (by simp)
 obtain ⟨t4, e4, A4, -⟩ := rd_next (b := b) (bs := bs) (br := br) (rv := rv) (F' := []) (by simp [places]) (by omega) w3.pos h4 hp4 (Or.inl ⟨by rw [v4]; omega, by rw [v4]; omega, by omega⟩) A3 (by simp)
 have a1 : y4.1.fP = t4.fP := A4.out (o := 149) (by simp [places]) (by simp)
 have a2 : y4.1.fR = t4.fR := A4.out (o := 150) (by simp [places]) (by simp)
 have a3 : y4.1.fV = t4.fV := A4.out (o := 151) (by simp [places]) (by simp)
 have a4 : y4.1.len = t4.len := A4.out (o := 153) (by simp [places]) (by simp)
 have e5 : headOk t4 t.at' = .ok u := by
  rw [← h5, ← hA.pos]
  unfold headOk
  rw [a1, a2, a3, a4]
 refine ⟨{ t4 with locs := wrap64 (t4.locs + t4.fV) }, ?_, ⟨A4.num, A4.pos, ?_⟩⟩
 ·have l1 : locX (reading br rv bs) t4.fV t.at' (t4, ()) = .ok ({ t4 with locs := wrap64 (t4.locs + t4.fV) }, ()) := by
   unfold locX
   rw [if_pos (by show wrap64 (t4.locs + t4.fV) ≤ 1048576; rw [← A4.loc, ← a3]; exact hloc)]
  exact ((headX_then (reading br rv bs) (t, ())).trans ((thenX_okT e1).trans ((thenX_okT e2).trans ((thenX_okT e3).trans ((thenX_okT e4).trans ((thenX_okT e5).trans l1))))))
 ·show wrap64 (y4.1.locs + y4.1.fV) = wrap64 (t4.locs + t4.fV)
  rw [A4.loc, a3]
def HeadF (f : PF) : Prop := (0 ≤ f.V ∧ f.V ≤ 255) ∧ (0 ≤ f.P ∧ f.P ≤ 8) ∧ (0 ≤ f.R ∧ f.R ≤ 4) ∧ 0 < f.code.length ∧ f.code.length ≤ 4096
structure WrH (x y : WS × (Nat × List UInt8)) : Prop where
 pre : x.2.2 <+: y.2.2
 pos : Pos y
 glob : y.1.globals = x.1.globals
theorem headsX_step {M : Mode b} {m : Nat} {x y y' : WS × M.σ} {l : List HD} (h : headX M x = .ok y) (k : headsX M m y = .ok (l, y')) : headsX M (m + 1) x = .ok (hdOf y.1 :: l, y') := by
 unfold headsX
 rw [h]
 simp only
 rw [k]
theorem heads_sm {bs : List UInt8} : ∀ {fs : List PF} {x y : WS × (Nat × List UInt8)}, Pos x → headsK (writing b wb g0 K) fs x = .ok y →
 WrH x y ∧ (∀ f ∈ fs, HeadF f) ∧ ∀ t, y.2.2 <+: bs → Ag [] x.1 t → ∃ t', headsX (reading br rv bs) fs.length (t, ()) = .ok (fs.map hd, (t', ())) ∧ Ag [] y.1 t'
 | [], x, _, hx, h => by cases h; exact ⟨⟨List.prefix_refl _, hx, rfl⟩, by simp, fun t _ hA => ⟨t, rfl, hA⟩⟩
 | f :: r, x, y, hx, h => by
   obtain ⟨z, h1, h2⟩ := then_ok h
   obtain ⟨w, hk, hs⟩ := head_sm (b := b) (bs := bs) (br := br) (rv := rv) (x := (inF f x.1, x.2)) hx h1
   obtain ⟨w2, hk2, hs2⟩ := heads_sm (bs := bs) w.pos h2
   have hF : HeadF f := by
    obtain ⟨k1, k2, k3, k4, k5⟩ := hk
    have k4 : 0 < ((f.code.length : Nat) : Int) := k4
    have k5 : ((f.code.length : Nat) : Int) ≤ 4096 := k5
    exact ⟨k1, k2, k3, by omega, by omega⟩
   have eg : z.1.globals = x.1.globals := w.num 146 (by simp [places]) (by omega)
   refine ⟨⟨w.pre.trans w2.pre, w2.pos, w2.glob.trans eg⟩, fun f' hf' => ?_, fun t hp hA => ?_⟩
   ·rcases List.mem_cons.1 hf' with rfl | h
    ·exact hF
    ·exact hk2 f' h
   ·have hA0 : Ag [149, 150, 151, 153] (inF f x.1) t := by
     refine ⟨fun o ho hn => ?_, hA.pos, hA.loc⟩
     have h3 := hA.num o ho (by simp)
     simp only [places, List.mem_cons, List.not_mem_nil, or_false] at ho
     rcases ho with rfl | rfl | rfl | rfl | rfl | rfl | rfl | rfl | rfl | rfl | rfl <;> first | exact h3 | exact absurd (by simp) hn
    obtain ⟨t1, e1, A1⟩ := hs t (w2.pre.trans hp) hA0
    obtain ⟨t2, e2, A2⟩ := hs2 t1 hp A1
    refine ⟨t2, ?_, A2⟩
    have e3 := headsX_step (M := reading br rv bs) (x := (t, ())) e1 e2
    have eh : hdOf (t1, ()).1 = hd f := by
     have f' : ∀ o, o ∈ places → o ≠ 161 → t1.get o = (inF f x.1).get o := fun o ho hn => (A1.num o ho (by simp)).symm.trans (w.num o ho hn)
     have g1 : t1.fP = f.P := f' 149 (by simp [places]) (by omega)
     have g2 : t1.fR = f.R := f' 150 (by simp [places]) (by omega)
     have g3 : t1.fV = f.V := f' 151 (by simp [places]) (by omega)
     have g4 : t1.len = (f.code.length : Nat) := f' 153 (by simp [places]) (by omega)
     show hdOf t1 = hd f
     unfold hdOf hd
     rw [g1, g2, g3, g4]
    rw [eh] at e3
    exact e3
theorem ask_next {M : Mode b} {o size : Nat} {c : WS → Bool} {er : Int} {x y : WS × M.σ} (h : askX M o size c er x = .ok y) : nextX M o size x = .ok y ∧ c y.1 = true := by
 unfold askX at h
 split at h
 ·rename_i y' hy
  split at h
  ·rename_i hcy; cases h; exact ⟨hy, hcy⟩
  ·cases h
 ·cases h
set_option maxRecDepth 100000
set_option maxHeartbeats 4000000
abbrev fR (f : PF) (cv : Value) : List Value := [vI f.P, vI f.R, vI f.V, cv]
abbrev markF : List Value := [vI 0, vI 0, vI (-77), .slice none 0 0]
abbrev zeroF : List Value := [vI 0, vI 0, vI 0, .slice none 0 0]
def wideF (fs : List PF) (cv : Nat → Value) (i : Nat) : List Value := match fs[i]? with | some f => fR f (cv i) | none => markF
def FA (w : World) (v : Value) (fs : List PF) : Prop :=
 ∃ a cp, v = .slice a fs.length cp ∧ (fs ≠ [] → ∃ k o, a = some ⟨k, o, none⟩ ∧ k < w.heap.size ∧ ∀ j (h : j < fs.length), ∃ cv,
  w.cell? ⟨k, o + j * 4, none⟩ = some (vI fs[j].P) ∧ w.cell? ⟨k, o + j * 4 + 1, none⟩ = some (vI fs[j].R) ∧ w.cell? ⟨k, o + j * 4 + 2, none⟩ = some (vI fs[j].V) ∧ w.cell? ⟨k, o + j * 4 + 3, none⟩ = some cv ∧ CA w cv fs[j].code)
theorem FA.stay {w w' : World} {v : Value} {fs : List PF} (h : FA w v fs) (f : Fr (fun _ => False) w w') : FA w' v fs := by
 obtain ⟨a, cp, rfl, h⟩ := h
 refine ⟨a, cp, rfl, fun hne => ?_⟩
 obtain ⟨k, o, rfl, hk, hc⟩ := h hne
 refine ⟨k, o, rfl, Nat.lt_of_lt_of_le hk f.size, fun j hj => ?_⟩
 obtain ⟨cv, h1, h2, h3, h4, h5⟩ := hc j hj
 have g : ∀ o, w'.cell? ⟨k, o, none⟩ = w.cell? ⟨k, o, none⟩ := fun o => f.cell hk (fun h => h)
 exact ⟨cv, (g _).trans h1, (g _).trans h2, (g _).trans h3, (g _).trans h4, h5.stay f⟩
def FineP (fs : List PF) : Prop := fs.length ≤ 2932031007317 ∧ ∀ f ∈ fs, FineC f.code
structure WF (w : World) (B : Nat) (v : Value) (fs : List PF) (g : Nat) (cv : Nat → Value) : Prop where
 val : v = .slice (some ⟨g, 0, none⟩) fs.length (fs.length + 64)
 ge : B ≤ g
 row : Rws w 42 4 g (fs.length + 64) (wideF fs cv)
 code : ∀ i f, fs[i]? = some f → WC w B (cv i) f.code
 apart : ∀ i j, i < fs.length → j < fs.length → i ≠ j → (cv i).ownBlock ≠ (cv j).ownBlock
theorem WC.ne {w : World} {B g m : Nat} {t sz : Nat} {R : Nat → List Value} {v : Value} {cs : List PI} (h : WC w B v cs) (hR : Rws w t sz g m R) (ht : t ≠ 57) : ∀ k, v.ownBlock = some k → k ≠ g := by
 obtain ⟨g', ps, rfl, -, ⟨cs', h', -⟩, -⟩ := h
 obtain ⟨cs, h2, -⟩ := hR
 intro k e1 e2
 cases e1
 subst e2
 rw [h'] at h2
 cases h2
 exact ht rfl
theorem WC.at {w w' : World} {B g m : Nat} {R : Nat → List Value} {v : Value} {cs : List PI} (h : WC w B v cs) (hR : Rws w 42 4 g m R) (f : Fr (fun k => k = g) w w') : WC w' B v cs := by
 have hne := h.ne hR (by decide)
 obtain ⟨g', ps, rfl, h1, h2, h3⟩ := h
 exact ⟨g', ps, rfl, h1, h2.fr f (hne g' rfl), fun i c hc => ⟨(h3 i c hc).1.fr f ((h3 i c hc).1.ne hR (by decide)), (h3 i c hc).2.fr f ((h3 i c hc).2.ne hR (by decide))⟩⟩
theorem under24 : Tryd.prog.underlying 22 = some (.slice 42) := by kernel_rfl
theorem make24 (n : Nat) (hn : n ≤ 3000000000000) (w : World) : (Instr.makeSlice 22 (.int .i64 n) (.int .i64 n)).run Tryd.prog w = .ok (.slice (some ⟨w.heap.size, 0, none⟩) n n) (w.alloc (.cells (madeCells zeroF.toArray (n * 4)) 42)) := by
 rw [run_make_of 22 42 (.agg zeroF.toArray) 4 48 under24 (by kernel_rfl) (by kernel_rfl) (by kernel_rfl) n (by omega) (by omega) w]
 rfl
theorem Rws.made4 (w : World) (m : Nat) : Rws (w.alloc (.cells (madeCells zeroF.toArray (m * 4)) 42)) 42 4 w.heap.size m (fun _ => zeroF) :=
 ⟨_, heap_new w _, by simp [madeCells], fun i o hi ho => by
  have hlt : i * 4 + o < m * 4 := by omega
  have e : (i * 4 + o) % 4 = o := by omega
  unfold madeCells
  simp only [Array.getElem?_map, Array.getElem?_range, hlt, if_true, Option.map_some]
  show some (zeroF.toArray[(i * 4 + o) % 4]!) = _
  rw [e]
  rcases (show o = 0 ∨ o = 1 ∨ o = 2 ∨ o = 3 by omega) with rfl | rfl | rfl | rfl <;> rfl⟩
theorem list4 {α : Type} : ∀ (l : List α), l.length = 4 → ∃ a b c d, l = [a, b, c, d]
 | [a, b, c, d], _ => ⟨a, b, c, d, rfl⟩
def fou4 (w : World) (g q : Nat) (x : List Value) : World :=
 (((w.setCell ⟨g, q, none⟩ (x.getD 0 undef)).setCell ⟨g, q + 1, none⟩ (x.getD 1 undef)).setCell ⟨g, q + 2, none⟩ (x.getD 2 undef)).setCell ⟨g, q + 3, none⟩ (x.getD 3 undef)
theorem Rws.set4 {w : World} {t g m : Nat} {R : Nat → List Value} (h : Rws w t 4 g m R) {i : Nat} (hi : i < m) (hl : (R i).length = 4) (x : List Value) (hx : x.length = 4) : Rws (fou4 w g (i * 4) x) t 4 g m (at1 R i x) := by
 have h0 := h.set1 (o := 0) hi (by omega) hl (x.getD 0 undef)
 have h1 := h0.set1 (i := i) (o := 1) hi (by omega) (by simp only [at1_self, List.length_set]; exact hl) (x.getD 1 undef)
 have h2 := h1.set1 (i := i) (o := 2) hi (by omega) (by simp only [at1_self, List.length_set]; exact hl) (x.getD 2 undef)
 have h3 := h2.set1 (i := i) (o := 3) hi (by omega) (by simp only [at1_self, List.length_set]; exact hl) (x.getD 3 undef)
 simp only [at1_at1, at1_self, Nat.add_zero] at h3
 obtain ⟨a, b, c, d, hR⟩ := list4 _ hl
 obtain ⟨x0, x1, x2, x3, rfl⟩ := list4 _ hx
 rw [hR] at h3
 simp only [List.set_cons_zero, List.set_cons_succ, List.getD_cons_zero, List.getD_cons_succ] at h3
 unfold fou4
 simp only [List.getD_cons_zero, List.getD_cons_succ]
 exact h3
theorem fou4_fr (w : World) (g q : Nat) (x : List Value) : Fr (fun k => k = g) w (fou4 w g q x) := by
 unfold fou4
 refine Fr.setCell (S := fun k => k = g) ?_ _ _ (Or.inl rfl)
 refine Fr.setCell (S := fun k => k = g) ?_ _ _ (Or.inl rfl)
 refine Fr.setCell (S := fun k => k = g) ?_ _ _ (Or.inl rfl)
 refine Fr.setCell (S := fun k => k = g) ?_ _ _ (Or.inl rfl)
 exact Fr.refl _ _
theorem wideProgram_any (G : Int) (v : Value) (fs : List PF) (w : World) (hl : FA w v fs) (hn : FineP fs) :
 Calls Tryd.prog 5 #[.agg #[vI G, v]] w fun e w' => ∃ v' g cv, e = .returned (.agg #[vI G, v']) ∧ WF w' w.heap.size v' fs g cv ∧ Fr (fun _ => False) w w' := by
 obtain ⟨a, cp, rfl, h0⟩ := hl
 have H0 : Hd _ := h0
 clear h0
 have HFI : Hd (FineP fs) := hn
 have hn := hn.1
 obtain ⟨n, hnl⟩ : ∃ n, n = fs.length := ⟨_, rfl⟩
 have HN : Hd (n = fs.length) := hnl
 rw [← hnl] at hn ⊢
 clear hnl
 obtain ⟨wa, hwa⟩ : ∃ wa, wa = (w.alloc (.cells #[vI G, .slice a n cp] 24)).alloc (.cells #[vI 0, .slice none 0 0] 24) := ⟨_, rfl⟩
 have hFa : Fr (fun _ => False) w wa := by rw [hwa]; exact Fr.alloc (Fr.alloc (Fr.refl _ w) _) _
 have hsz : wa.heap.size = w.heap.size + 2 := by rw [hwa]; simp
 have b1 : wa.heap[w.heap.size]? = some (.cells #[vI G, .slice a n cp] 24) := by
  rw [hwa, Go.RowKit.Below.heap_alloc _ _ _ (by simp)]
  exact heap_new w _
 have b2 : wa.heap[w.heap.size + 1]? = some (.cells #[vI 0, .slice none 0 0] 24) := by
  rw [hwa, show w.heap.size + 1 = (w.alloc (.cells #[vI G, .slice a n cp] 24)).heap.size by simp]
  exact heap_new _ _
 have hmk := make24 (n + 64) (by omega) wa
 have hcast : ((n + 64 : Nat) : Int) = (n : Int) + 64 := by omega
 rw [hcast, hsz] at hmk
 have HR : Hd (Rws (wa.alloc (.cells (madeCells zeroF.toArray ((n + 64) * 4)) 42)) 42 4 (w.heap.size + 2) (n + 64) (fun i => if i < 0 then wideF fs (fun _ => undef) i else zeroF)) := by
  have := (Rws.made4 wa (n + 64)).congr (R' := fun i => if i < 0 then wideF fs (fun _ => undef) i else zeroF) (fun i _ => by simp)
  rw [hsz] at this
  exact this
 have HF : Hd (Fr (fun _ => False) w (wa.alloc (.cells (madeCells zeroF.toArray ((n + 64) * 4)) 42))) := Fr.alloc hFa _
 have B1 : Hd ((wa.alloc (.cells (madeCells zeroF.toArray ((n + 64) * 4)) 42)).heap[w.heap.size]? = some (.cells #[vI G, .slice a n cp] 24)) := by
  unfold Hd; rw [Go.RowKit.Below.heap_alloc _ _ _ (by omega)]; exact b1
 have B2 : Hd ((wa.alloc (.cells (madeCells zeroF.toArray ((n + 64) * 4)) 42)).heap[w.heap.size + 1]? = some (.cells #[vI 0, .slice none 0 0] 24)) := by
  unfold Hd; rw [Go.RowKit.Below.heap_alloc _ _ _ (by omega)]; exact b2
 have HWA : Hd (wa = (w.alloc (.cells #[vI G, .slice a n cp] 24)).alloc (.cells #[vI 0, .slice none 0 0] 24)) := hwa
 obtain ⟨H, hH⟩ : ∃ H, H = w.heap.size := ⟨_, rfl⟩
 have HH : Hd (H = w.heap.size) := hH
 rw [← hH] at hmk HR B1 B2 b1 b2
 have q1 : wa.cell? ⟨H, 1, none⟩ = some (.slice a n cp) := by rw [cell_of b1]; rfl
 clear b1 b2 hFa hsz hH hwa
 go_enter Tryd.func5, Tryd.ntmps5
 go_upto_region 1 with fail
 rw [← HWA.out, ← HH.out]
 clear HWA
 go_wp2_with fail
 generalize wa.alloc (.cells (madeCells zeroF.toArray ((n + 64) * 4)) 42) = wb at *
 clear q1 hmk
 go_loopw [4] (fun v wr => ∃ (k : Nat) (cv : Nat → Value), v = .int .i64 k ∧ k ≤ n + 64 ∧ Hd (Rws wr 42 4 (H + 2) (n + 64) (fun i => if i < k then wideF fs cv i else zeroF)) ∧ Hd (∀ i f, i < k → fs[i]? = some f → WC wr w.heap.size (cv i) f.code) ∧ Hd (∀ i j, i < k → j < k → i < n → j < n → i ≠ j → (cv i).ownBlock ≠ (cv j).ownBlock) ∧ Hd (wr.heap[H]? = some (.cells #[vI G, .slice a n cp] 24)) ∧ Hd (wr.heap[H + 1]? = some (.cells #[vI 0, .slice none 0 0] 24)) ∧ Hd (Fr (fun _ => False) w wr)) (fun v _ => match v with | .int _ q => n + 64 - q.toNat | _ => 0)
 case atStart => exact ⟨0, fun _ => undef, rfl, Nat.zero_le _, HR.out, fun i c hi => absurd hi (Nat.not_lt_zero _), fun i j hi => absurd hi (Nat.not_lt_zero _), B1.out, B2.out, HF.out⟩
 case round =>
  clear HR HF B1 B2
  obtain ⟨k, cv, rfl, hk, HR, HW, HA, B1, B2, HF⟩ := hrel
  have u1 : wr.cell? ⟨H, 1, none⟩ = some (.slice a n cp) := by rw [cell_of B1.out]; rfl
  by_cases hlt : k < n + 64
  ·have hk0 : (0 : Int) ≤ k := by omega
   have hk1 : (k : Int) < (n : Int) + 64 := by omega
   have pc := fun o (ho : o < 4) => HR.out.cell (i := k) (o := o) hlt ho
   rw [if_neg (Nat.lt_irrefl k)] at pc
   have p0 := pc 0 (by omega)
   have p1 := pc 1 (by omega)
   have p2 := pc 2 (by omega)
   have p3 := pc 3 (by omega)
   have z0 := HR.out.frozen (k * 4)
   have z1 := HR.out.frozen (k * 4 + 1)
   have z2 := HR.out.frozen (k * 4 + 2)
   have z3 := HR.out.frozen (k * 4 + 3)
   simp only [Nat.add_zero, List.getD_cons_zero, List.getD_cons_succ] at p0 p1 p2 p3
   clear pc
   have HR1 : Hd (Rws (fou4 wr (H + 2) (k * 4) markF) 42 4 (H + 2) (n + 64) (at1 (fun i => if i < k then wideF fs cv i else zeroF) k markF)) := HR.out.set4 hlt (by rw [if_neg (Nat.lt_irrefl k)]; rfl) markF rfl
   have hFs : Fr (fun j => j = H + 2) wr (fou4 wr (H + 2) (k * 4) markF) := fou4_fr _ _ _ _
   have HF1 : Hd (Fr (fun _ => False) w (fou4 wr (H + 2) (k * 4) markF)) := HF.out.then hFs (fun j hj e => by have := HH.out; omega)
   have HW1 : Hd (∀ i f, i < k → fs[i]? = some f → WC (fou4 wr (H + 2) (k * 4) markF) w.heap.size (cv i) f.code) := fun i f hi hf => (HW.out i f hi hf).at HR.out hFs
   have B11 : Hd ((fou4 wr (H + 2) (k * 4) markF).heap[H]? = some (.cells #[vI G, .slice a n cp] 24)) := (hFs.block H (heap_lt B1.out) (by omega)).trans B1.out
   have B21 : Hd ((fou4 wr (H + 2) (k * 4) markF).heap[H + 1]? = some (.cells #[vI 0, .slice none 0 0] 24)) := (hFs.block (H + 1) (heap_lt B2.out) (by omega)).trans B2.out
   clear hFs
   go_upto_region 6 with fail
   change Code.wp Tryd.prog _ _ _ (fou4 wr (H + 2) (k * 4) markF)
   clear p0 p1 p2 p3 z0 z1 z2 z3 HR HF HW B1 B2 u1
   generalize fou4 wr (H + 2) (k * 4) markF = w1 at *
   have u1 : w1.cell? ⟨H, 1, none⟩ = some (.slice a n cp) := by rw [cell_of B11.out]; rfl
   by_cases hin : k < n
   ·have hk2 : (k : Int) < n := by omega
    have d1 : decide ((k : Int) < n) = true := by simpa using hk2
    have hkc : k < fs.length := by have := HN.out; omega
    obtain ⟨ak, ao, rfl, hak, hcells⟩ := H0.out (by intro e; simp [e] at hkc)
    obtain ⟨av, c0, c1, c2, c3, hav⟩ := hcells k hkc
    have HC : Hd (fs[k]? = some fs[k]) := List.getElem?_eq_getElem hkc
    have HCF : Hd (FineC fs[k].code) := HFI.out.2 _ (List.getElem_mem hkc)
    generalize fs[k] = f at *
    have q0 := (HF1.out.cell (o := ao + k * 4) hak (fun e => e)).trans c0
    have q1 := (HF1.out.cell (o := ao + k * 4 + 1) hak (fun e => e)).trans c1
    have q2 := (HF1.out.cell (o := ao + k * 4 + 2) hak (fun e => e)).trans c2
    have q3 := (HF1.out.cell (o := ao + k * 4 + 3) hak (fun e => e)).trans c3
    have HAV : Hd (CA w av f.code) := hav
    obtain ⟨aa, ac, rfl, -⟩ := id hav
    clear hcells c0 c1 c2 c3 hav
    go_wp2_with fail
    refine (show Calls Tryd.prog 17 #[.agg #[vI f.P, vI f.R, vI f.V, .slice aa f.code.length ac]] w1 _ from wideFunc_any f.P f.R f.V _ f.code w1 (HAV.out.stay HF1.out) HCF.out).mono ?_
    rintro e w3 ⟨v3, rfl, hv3, hF3⟩
    have HR3 : Hd (Rws w3 42 4 (H + 2) (n + 64) (at1 (fun i => if i < k then wideF fs cv i else zeroF) k markF)) := HR1.out.fr hF3 (fun e => e)
    have HV3 : Hd (WC w3 w.heap.size v3 f.code) := hv3.mono HF1.out.size
    have HG3 : Hd (∀ j, v3.ownBlock = some j → w1.heap.size ≤ j) := fun j e => (hv3.ge j e).1
    have HF3 : Hd (Fr (fun _ => False) w w3) := HF1.out.trans hF3
    have HW3 : Hd (∀ i f, i < k → fs[i]? = some f → WC w3 w.heap.size (cv i) f.code) := fun i f hi hf => (HW1.out i f hi hf).stay hF3
    have HL3 : Hd (∀ i f, i < k → fs[i]? = some f → ∀ j, (cv i).ownBlock = some j → j < w1.heap.size) := fun i f hi hf j e => ((HW1.out i f hi hf).ge j e).2
    have B13 : Hd (w3.heap[H]? = some (.cells #[vI G, .slice (some ⟨ak, ao, none⟩) n cp] 24)) := (hF3.block H (heap_lt B11.out) (fun e => e)).trans B11.out
    have B23 : Hd (w3.heap[H + 1]? = some (.cells #[vI 0, .slice none 0 0] 24)) := (hF3.block (H + 1) (heap_lt B21.out) (fun e => e)).trans B21.out
    obtain ⟨g3, ps3, e3, -⟩ := id hv3
    subst e3
    clear hv3 hF3 HR1 HF1 HW1 q0 q1 q2 q3 B11 B21 u1
    have pc := fun o (ho : o < 4) => HR3.out.cell (i := k) (o := o) hlt ho
    rw [at1_self] at pc
    have p0 := pc 0 (by omega)
    have p1 := pc 1 (by omega)
    have p2 := pc 2 (by omega)
    have p3 := pc 3 (by omega)
    simp only [Nat.add_zero, List.getD_cons_zero, List.getD_cons_succ] at p0 p1 p2 p3
    have z0 := HR3.out.frozen (k * 4)
    have z1 := HR3.out.frozen (k * 4 + 1)
    have z2 := HR3.out.frozen (k * 4 + 2)
    have z3 := HR3.out.frozen (k * 4 + 3)
    clear pc
    obtain ⟨v3, hv3⟩ : ∃ v3, v3 = Value.slice (some ⟨g3, 0, none⟩) f.code.length (f.code.length + 64) := ⟨_, rfl⟩
    have HE3 : Hd (v3 = Value.slice (some ⟨g3, 0, none⟩) f.code.length (f.code.length + 64)) := hv3
    rw [← hv3] at HV3 HG3
    have hFs : Fr (fun j => j = H + 2) w3 (fou4 w3 (H + 2) (k * 4) (fR f v3)) := fou4_fr _ _ _ _
    have HR4 : Hd (Rws (fou4 w3 (H + 2) (k * 4) (fR f v3)) 42 4 (H + 2) (n + 64) (fun i => if i < k + 1 then wideF fs (at1 cv k v3) i else zeroF)) := by
     have := HR3.out.set4 (i := k) hlt (by rw [at1_self]; rfl) (fR f v3) rfl
     rw [at1_at1] at this
     refine this.congr (fun i _ => ?_)
     by_cases e : i = k
     ·subst e
      rw [at1_self, if_pos (by omega)]
      unfold wideF
      rw [HC.out, at1_self]
     ·rw [at1_ne _ _ e]
      by_cases hi : i < k
      ·rw [if_pos hi, if_pos (by omega)]
       unfold wideF
       rw [at1_ne _ _ e]
      ·rw [if_neg hi, if_neg (by omega)]
    have HF4 : Hd (Fr (fun _ => False) w (fou4 w3 (H + 2) (k * 4) (fR f v3))) := HF3.out.then hFs (fun j hj e => by have := HH.out; omega)
    have HW4 : Hd (∀ i h, i < k + 1 → fs[i]? = some h → WC (fou4 w3 (H + 2) (k * 4) (fR f v3)) w.heap.size (at1 cv k v3 i) h.code) := fun i h hi hf => by
     by_cases e : i = k
     ·subst e
      rw [HC.out] at hf
      cases hf
      rw [at1_self]
      exact HV3.out.at HR3.out hFs
     ·rw [at1_ne _ _ e]
      exact (HW3.out i h (by omega) hf).at HR3.out hFs
    have HA4 : Hd (∀ i j, i < k + 1 → j < k + 1 → i < n → j < n → i ≠ j → (at1 cv k v3 i).ownBlock ≠ (at1 cv k v3 j).ownBlock) := fun i j hi hj hi2 hjn hne => by
     have hbl : ∀ i, i < k → i < n → ∃ b, (cv i).ownBlock = some b ∧ b < w1.heap.size := fun i hi hin => by
      have hi2 : i < fs.length := by have := HN.out; omega
      obtain ⟨g', ps', e', -⟩ := HW3.out i fs[i] hi (List.getElem?_eq_getElem hi2)
      refine ⟨g', by rw [e']; rfl, HL3.out i fs[i] hi (List.getElem?_eq_getElem hi2) g' (by rw [e']; rfl)⟩
     have h3 : ∃ b, v3.ownBlock = some b ∧ w1.heap.size ≤ b := ⟨g3, by rw [HE3.out]; rfl, HG3.out g3 (by rw [HE3.out]; rfl)⟩
     obtain ⟨b3, e3, hb3⟩ := h3
     by_cases ei : i = k
     ·subst ei
      rw [at1_self, at1_ne _ _ (Ne.symm hne), e3]
      obtain ⟨b, eb, hb⟩ := hbl j (by omega) hjn
      rw [eb]
      intro e; cases e; omega
     ·by_cases ej : j = k
      ·subst ej
       rw [at1_self, at1_ne _ _ ei, e3]
       obtain ⟨b, eb, hb⟩ := hbl i (by omega) hi2
       rw [eb]
       intro e; cases e; omega
      ·rw [at1_ne _ _ ei, at1_ne _ _ ej]
       exact HA.out i j (by omega) (by omega) hi2 hjn hne
    have B14 : Hd ((fou4 w3 (H + 2) (k * 4) (fR f v3)).heap[H]? = some (.cells #[vI G, .slice (some ⟨ak, ao, none⟩) n cp] 24)) := (hFs.block H (heap_lt B13.out) (by omega)).trans B13.out
    have B24 : Hd ((fou4 w3 (H + 2) (k * 4) (fR f v3)).heap[H + 1]? = some (.cells #[vI 0, .slice none 0 0] 24)) := (hFs.block (H + 1) (heap_lt B23.out) (by omega)).trans B23.out
    clear hFs HR3 HF3 HW3 HA HG3 HL3 B13 B23 HV3
    subst hv3
    go_upto_region 4 with fail
    change Code.wp Tryd.prog _ _ _ (fou4 w3 (H + 2) (k * 4) (fR f (.slice (some ⟨g3, 0, none⟩) f.code.length (f.code.length + 64))))
    clear p0 p1 p2 p3 z0 z1 z2 z3
    generalize fou4 w3 (H + 2) (k * 4) (fR f (.slice (some ⟨g3, 0, none⟩) f.code.length (f.code.length + 64))) = w4 at *
    go_wp2_with fail
    exact ⟨⟨k + 1, _, by simp, by omega, HR4.out, HW4.out, HA4.out, B14.out, B24.out, HF4.out⟩, by simp; omega⟩
   ·have d1 : decide ((k : Int) < n) = false := by simp; omega
    have HR2 : Hd (Rws w1 42 4 (H + 2) (n + 64) (fun i => if i < k + 1 then wideF fs cv i else zeroF)) := by
     refine HR1.out.congr (fun i _ => ?_)
     by_cases e : i = k
     ·subst e; rw [at1_self, if_pos (by omega)]; unfold wideF; rw [List.getElem?_eq_none (by have := HN.out; omega)]
     ·rw [at1_ne _ _ e]
      by_cases hi : i < k
      ·rw [if_pos hi, if_pos (by omega)]
      ·rw [if_neg hi, if_neg (by omega)]
    have HW2 : Hd (∀ i f, i < k + 1 → fs[i]? = some f → WC w1 w.heap.size (cv i) f.code) := fun i f hi hf => HW1.out i f (by have := (List.getElem?_eq_some_iff.1 hf).1; have := HN.out; omega) hf
    have HA2 : Hd (∀ i j, i < k + 1 → j < k + 1 → i < n → j < n → i ≠ j → (cv i).ownBlock ≠ (cv j).ownBlock) := fun i j hi hj hin hjn => HA.out i j (by omega) (by omega) hin hjn
    clear HR1 HW1 HA
    go_wp2_with fail
    exact ⟨⟨k + 1, cv, by simp, by omega, HR2.out, HW2.out, HA2.out, B11.out, B21.out, HF1.out⟩, by simp; omega⟩
  ·have hke : k = n + 64 := by omega
   subst hke
   have hn0 : (0 : Int) ≤ n := by omega
   have hn1 : (n : Int) ≤ (n : Int) + 64 := by omega
   have u0 : wr.cell? ⟨H, 0, none⟩ = some (vI G) := by rw [cell_of B1.out]; rfl
   have r0 : wr.cell? ⟨H + 1, 0, none⟩ = some (vI 0) := by rw [cell_of B2.out]; rfl
   have r1 : wr.cell? ⟨H + 1, 1, none⟩ = some (.slice none 0 0) := by rw [cell_of B2.out]; rfl
   have y0 := frozen_of B2.out 0
   have y1 := frozen_of B2.out 1
   obtain ⟨v2, hv2⟩ : ∃ v2, v2 = Value.slice (some ⟨H + 2, 0, none⟩) n (n + 64) := ⟨_, rfl⟩
   have HV : Hd (v2 = Value.slice (some ⟨H + 2, 0, none⟩) n (n + 64)) := hv2
   have f1 : Fr (fun j => j = H + 1) wr (((wr.setCell ⟨H + 1, 0, none⟩ (vI G)).setCell ⟨H + 1, 1, none⟩ v2).drew) := ((Fr.setCell (S := fun j => j = H + 1) (Fr.setCell (S := fun j => j = H + 1) (Fr.refl _ wr) _ _ (Or.inl rfl)) _ _ (Or.inl rfl))).drew
   have HB3 : Hd ((((wr.setCell ⟨H + 1, 0, none⟩ (vI G)).setCell ⟨H + 1, 1, none⟩ v2).drew).heap[H + 1]? = some (.cells #[vI G, v2] 24)) := set_of (set_of B2.out 0 (vI G)) 1 v2
   have HX : Hd (WF (((wr.setCell ⟨H + 1, 0, none⟩ (vI G)).setCell ⟨H + 1, 1, none⟩ v2).drew) w.heap.size v2 fs (H + 2) cv) := by
    have nb : ∀ (o : Obj), wr.heap[H + 1]? = some o → o = .cells #[vI 0, .slice none 0 0] 24 := fun o e => by rw [B2.out] at e; exact (Option.some.inj e).symm
    refine ⟨by rw [HV.out, ← HN.out], by have := HH.out; omega, ?_, fun i f hf => ?_, fun i j hi hj => HA.out i j (by have := HN.out; omega) (by have := HN.out; omega) (by have := HN.out; omega) (by have := HN.out; omega)⟩
    ·rw [← HN.out]
     exact (HR.out.congr (fun i hi => by rw [if_pos hi])).fr f1 (by omega)
    ·have hi : i < n := by have := (List.getElem?_eq_some_iff.1 hf).1; have := HN.out; omega
     obtain ⟨g', ps, e, h1, h2, h3⟩ := HW.out i f (by omega) hf
     have n1 : g' ≠ H + 1 := fun e2 => by
      subst e2
      obtain ⟨cs, h4, -⟩ := h2
      cases nb _ h4
     have n2 : ∀ (v : Value) (l : List Int), WI wr w.heap.size v l → ∀ k, v.ownBlock = some k → ¬ (k = H + 1) := fun v l hv k ek e2 => by
      subst e2
      obtain ⟨g'', rfl, -, cs, h4, -⟩ := hv
      cases ek
      cases nb _ h4
     exact ⟨g', ps, e, h1, h2.fr f1 n1, fun i c hc => ⟨(h3 i c hc).1.fr f1 (n2 _ _ (h3 i c hc).1), (h3 i c hc).2.fr f1 (n2 _ _ (h3 i c hc).2)⟩⟩
   have HFX : Hd (Fr (fun _ => False) w (((wr.setCell ⟨H + 1, 0, none⟩ (vI G)).setCell ⟨H + 1, 1, none⟩ v2).drew)) := HF.out.then f1 (fun j hj e => by have := HH.out; omega)
   clear f1 HR HW HA hv2
   go_upto_region 8 with fail
   refine wp_region_still_tail 8 mixed (by kernel_rfl) ?_
   simp only [List.take_succ_cons, List.take_zero, List.drop_succ_cons, List.drop_zero]
   repeat still_step
   refine wpStill_nil ?_
   go_wp2_with fail
   rw [← HV.out]
   generalize ((wr.setCell ⟨H + 1, 0, none⟩ (vI G)).setCell ⟨H + 1, 1, none⟩ v2).drew = wz at *
   have c0 : wz.cell? ⟨H + 1, 0, none⟩ = some (vI G) := by rw [cell_of HB3.out]; rfl
   have c1 : wz.cell? ⟨H + 1, 1, none⟩ = some v2 := by rw [cell_of HB3.out]; rfl
   refine bodyPost_ret (v := .agg #[vI G, v2]) ?_ rfl ⟨v2, H + 2, cv, rfl, HX.out, HFX.out⟩
   rw [results_cell (p := 2) (ty := 24) Tryd.results5]
   simp [go_sem, c0, c1]
end Go.Proofs.YtingenonbkencabDoor
namespace Go.Proofs.YtingenonbkencabDoor
open Go.ChangeShapes Go.WideShapes Go.ChangeAt Go.RowKit
theorem addr_off (b off i : Nat) : (⟨b, off, none⟩ : Addr).add i = ⟨b, off + i, none⟩ := by unfold Addr.add; split <;> simp_all
def fld (name : String) (type offset byteOffset : Nat) : Field := { name := name, type := type, offset := offset, embedded := false, tag := "", pkgPath := "", byteOffset := byteOffset }
theorem und3 : Tryd.prog.underlying 3 = some (.int .i64) := by kernel_rfl
theorem und71 : Tryd.prog.underlying 57 = some (.struct #[fld "Op" 3 0 0, fld "R" 3 1 8, fld "S" 3 2 16, fld "T" 3 3 24, fld "N" 3 4 32, fld "Args" 55 5 40, fld "Rets" 55 6 64]) := by kernel_rfl
theorem und67 : Tryd.prog.underlying 42 = some (.struct #[fld "Params" 3 0 0, fld "Results" 3 1 8, fld "Vars" 3 2 16, fld "Code" 40 3 24]) := by kernel_rfl
theorem und26 : Tryd.prog.underlying 24 = some (.struct #[fld "Globals" 3 0 0, fld "Funcs" 22 1 8]) := by kernel_rfl
theorem cel3 : Tryd.prog.cellsOf 3 = 1 := by kernel_rfl
theorem cel64 : Tryd.prog.cellsOf 55 = 1 := by kernel_rfl
theorem cel65 : Tryd.prog.cellsOf 40 = 1 := by kernel_rfl
theorem cel24 : Tryd.prog.cellsOf 22 = 1 := by kernel_rfl
theorem cel71 : Tryd.prog.cellsOf 57 = 7 := by kernel_rfl
theorem cel67 : Tryd.prog.cellsOf 42 = 4 := by kernel_rfl
theorem cel26 : Tryd.prog.cellsOf 24 = 2 := by kernel_rfl
theorem len_cons {n : Nat} : ∀ {cs : List Value}, cs.length = n + 1 → ∃ c r, cs = c :: r ∧ r.length = n
 | c :: r, h => ⟨c, r, rfl, by simpa using h⟩
theorem int_of {H : Type} {enc : TypeId × Value → H} {W : World} {n : Nat} {c : Value} {x : DataW H × List MemPlace} (h : DataW.trod enc Tryd.prog W 0 (fun _ => true) true n 3 [c] = some x) : ∃ z : Int, c = vI z := by
 obtain ⟨z, e, -, -⟩ := DataW.trod_int und3 h
 exact ⟨z, (List.cons.inj e).1⟩
theorem reach_is : reachBytes = 140737488351232 := by decide
def Szd {H : Type} (d : DataW H) (t : Nat) : Prop := ∀ q ∈ d.weights Tryd.prog t, q ≤ reachBytes
theorem weightsAll_mem {H : Type} {P : Program} {e : TypeId} {d : DataW H} {n : Nat} (hn : n ∈ d.weights P e) : ∀ {ds : List (DataW H)}, d ∈ ds → n ∈ DataW.weightsAll P e ds
 | a :: r, h => by
   simp only [DataW.weightsAll, List.mem_append]
   rcases List.mem_cons.1 h with rfl | h
   ·exact Or.inl hn
   ·exact Or.inr (weightsAll_mem hn h)
theorem rows_sz {H : Type} {enc : TypeId × Value → H} {W : World} {n t e sz by' : Nat} {c : Value} {x : DataW H × List MemPlace} (ht : Tryd.prog.underlying t = some (.slice e)) (hsz : Tryd.prog.cellsOf e = sz) (hby : Tryd.prog.bytesOf e = by') (hs0 : 0 < sz)
 (h : DataW.trod enc Tryd.prog W 0 (fun _ => true) true n t [c] = some x) (hx : Szd x.1 t) {α : Type} (dflt : α) (Pr : α → List Value → Prop)
 (hel : ∀ n cs (y : DataW H × List MemPlace), DataW.trod enc Tryd.prog W 0 (fun _ => true) true n e cs = some y → Szd y.1 e → ∃ q, Pr q cs) :
 ∃ l : List α, l.length * by' ≤ reachBytes ∧ ∃ a cp, c = .slice a l.length cp ∧ (l ≠ [] → ∃ k o, a = some ⟨k, o, none⟩ ∧ k < W.heap.size ∧ ∀ j (h : j < l.length), ∃ cs, Pr l[j] cs ∧ ∀ i, i < sz → W.cell? ⟨k, o + j * sz + i, none⟩ = cs[i]?) := by
 rcases Deep.open_slice ht h with ⟨hcs, hx⟩ | ⟨a, len, cap, m, k, D, Pl, hcs, _, hl, hm, hmm, hxx, hc⟩
 ·have hcs := (List.cons.inj hcs).1
  subst hcs
  exact ⟨[], by simp, none, 0, rfl, fun h => absurd rfl h⟩
 ·have hcs := (List.cons.inj hcs).1
  subst hcs
  have hmc : m = cap := by simpa using hmm
  subst hmc
  have hw : ∀ q, q ∈ (((((List.range len).map D).length + ((List.range (m - len)).map fun j => D (len + j)).length) * by') :: DataW.weightsAll Tryd.prog e ((List.range len).map D)) → q ≤ reachBytes := by
   intro q hq
   apply hx
   rw [hxx]
   simp only [DataW.weights, ht, hby]
   rcases List.mem_cons.1 hq with rfl | hq
   ·exact List.mem_cons_self
   ·exact List.mem_cons_of_mem _ (List.mem_append_left _ hq)
  have hlw : len * by' ≤ reachBytes := by
   have := hw _ List.mem_cons_self
   simp only [List.length_map, List.length_range] at this
   exact Nat.le_trans (Nat.mul_le_mul_right by' (by omega)) this
  have hv : ∀ i, ∃ q : α × List Value, i < len → Pr q.1 q.2 ∧ q.2.length = sz ∧ ∀ j, j < sz → W.cell? ((a.add (i * sz)).add j) = q.2[j]? := by
   intro i
   by_cases hi : i < len
   ·obtain ⟨cs', r0, r1⟩ := hc i (by omega)
    rw [hsz] at r0
    obtain ⟨-, hcl, hcell⟩ := World.cells?_some r0
    obtain ⟨q, hq⟩ := hel _ _ _ r1 (fun q hq => hw q (List.mem_cons_of_mem _ (weightsAll_mem hq (List.mem_map.2 ⟨i, List.mem_range.2 hi, rfl⟩))))
    exact ⟨(q, cs'), fun _ => ⟨hq, hcl, hcell⟩⟩
   ·exact ⟨(dflt, []), fun h => absurd h hi⟩
  obtain ⟨Q, hQ⟩ : ∃ Q : Nat → α × List Value, ∀ i, i < len → Pr (Q i).1 (Q i).2 ∧ (Q i).2.length = sz ∧ ∀ j, j < sz → W.cell? ((a.add (i * sz)).add j) = (Q i).2[j]? :=
   ⟨fun i => (hv i).choose, fun i => (hv i).choose_spec⟩
  have hlen : ((List.range len).map fun i => (Q i).1).length = len := by simp
  refine ⟨(List.range len).map fun i => (Q i).1, by rw [hlen]; exact hlw, some a, m, by rw [hlen], fun hne => ?_⟩
  obtain ⟨b, off, spot⟩ := a
  have hpos : 0 < len := by
   rcases Nat.eq_zero_or_pos len with h0 | h0
   ·exfalso; apply hne; rw [h0]; rfl
   ·exact h0
  have h00 : W.cell? ((({ block := b, off := off, spot := spot } : Addr).add (0 * sz)).add 0) = some ((Q 0).2[0]'(by rw [(hQ 0 hpos).2.1]; exact hs0)) := by
   rw [(hQ 0 hpos).2.2 0 hs0]; exact List.getElem?_eq_getElem _
  have hspot : spot = none := by
   have := World.cell?_spot h00
   simpa [Addr.add] using this
  subst hspot
  simp only [addr_off] at hQ h00
  refine ⟨b, off, rfl, cell_lt h00, fun j hj => ?_⟩
  have hj' : j < len := by simpa using hj
  refine ⟨(Q j).2, ?_, (hQ j hj').2.2⟩
  have := (hQ j hj').1
  simpa using this
theorem byt3 : Tryd.prog.bytesOf 3 = 8 := by kernel_rfl
theorem byt71 : Tryd.prog.bytesOf 57 = 88 := by kernel_rfl
theorem byt67 : Tryd.prog.bytesOf 42 = 48 := by kernel_rfl
theorem ints_sz {H : Type} {enc : TypeId × Value → H} {W : World} {n : Nat} {c : Value} {x : DataW H × List MemPlace} (h : DataW.trod enc Tryd.prog W 0 (fun _ => true) true n 55 [c] = some x) (hx : Szd x.1 55) : ∃ l, IA W c l ∧ l.length ≤ 17592186043904 := by
 obtain ⟨l, hl, a, cp, e, hh⟩ := rows_sz under64 cel3 byt3 (by omega) h hx (0 : Int) (fun q cs => cs = [vI q]) (fun n cs y hy _ => by
  obtain ⟨z, e, -, -⟩ := DataW.trod_int und3 hy
  exact ⟨z, e⟩)
 have hr := reach_is
 refine ⟨l, ⟨a, cp, e, fun hne => ?_⟩, by omega⟩
 obtain ⟨k, o, ea, hk, hc⟩ := hh hne
 refine ⟨k, o, ea, hk, fun j hj => ?_⟩
 obtain ⟨cs, rfl, h1⟩ := hc j hj
 have := h1 0 (by omega)
 rw [Nat.mul_one] at this
 exact this
theorem int_ofB {H : Type} {enc : TypeId × Value → H} {W : World} {n : Nat} {c : Value} {x : DataW H × List MemPlace} (h : DataW.trod enc Tryd.prog W 0 (fun _ => true) true n 3 [c] = some x) : ∃ z : Int, c = vI z ∧ -9223372036854775808 ≤ z ∧ z < 9223372036854775808 := by
 obtain ⟨z, e, -, hw⟩ := DataW.trod_int und3 h
 have := bounds_i64 hw
 exact ⟨z, (List.cons.inj e).1, by omega, by omega⟩
def IsIz (W : World) (c : PI) (cs : List Value) : Prop := ∃ av rv, cs = [vI c.op, vI c.r, vI c.s, vI c.t, vI c.n, av, rv] ∧ IA W av c.args ∧ IA W rv c.rets ∧ c.args.length ≤ 17592186043904 ∧ c.rets.length ≤ 17592186043904 ∧ In64n c
theorem instr_sz {H : Type} {enc : TypeId × Value → H} {W : World} {n : Nat} {cs : List Value} {x : DataW H × List MemPlace} (h : DataW.trod enc Tryd.prog W 0 (fun _ => true) true n 57 cs = some x) (hx : Szd x.1 57) : ∃ c : PI, IsIz W c cs := by
 obtain ⟨xs, k, -, rfl, hcl, hxl, hf⟩ := DataW.trod_struct und71 h
 rw [cel71] at hcl
 have hxl : xs.length = 7 := hxl
 obtain ⟨c0, r0, rfl, hl1⟩ := len_cons hcl
 obtain ⟨c1, r1, rfl, hl2⟩ := len_cons hl1
 obtain ⟨c2, r2, rfl, hl3⟩ := len_cons hl2
 obtain ⟨c3, r3, rfl, hl4⟩ := len_cons hl3
 obtain ⟨c4, r4, rfl, hl5⟩ := len_cons hl4
 obtain ⟨c5, r5, rfl, hl6⟩ := len_cons hl5
 obtain ⟨c6, r6, rfl, hl7⟩ := len_cons hl6
 obtain rfl := List.length_eq_zero_iff.1 hl7
 have g0 := hf 0 (fld "Op" 3 0 0) rfl
 have g1 := hf 1 (fld "R" 3 1 8) rfl
 have g2 := hf 2 (fld "S" 3 2 16) rfl
 have g3 := hf 3 (fld "T" 3 3 24) rfl
 have g4 := hf 4 (fld "N" 3 4 32) rfl
 have g5 := hf 5 (fld "Args" 55 5 40) rfl
 have g6 := hf 6 (fld "Rets" 55 6 64) rfl
 have ee : ∀ i (hi : i < 7), xs[i]? = some (xs[i]'(by omega)) := fun i hi => List.getElem?_eq_getElem (by omega)
 rw [ee 0 (by omega)] at g0
 rw [ee 1 (by omega)] at g1
 rw [ee 2 (by omega)] at g2
 rw [ee 3 (by omega)] at g3
 rw [ee 4 (by omega)] at g4
 rw [ee 5 (by omega)] at g5
 rw [ee 6 (by omega)] at g6
 simp only [fld, cel3, cel64, List.drop_zero, List.drop_succ_cons, List.take_succ_cons, List.take_zero] at g0 g1 g2 g3 g4 g5 g6
 obtain ⟨z0, rfl⟩ := int_of g0
 obtain ⟨z1, rfl⟩ := int_of g1
 obtain ⟨z2, rfl⟩ := int_of g2
 obtain ⟨z3, rfl⟩ := int_of g3
 obtain ⟨z4, rfl, n4⟩ := int_ofB g4
 have bb : ∀ i (hi : i < 7) u, (#[fld "Op" 3 0 0, fld "R" 3 1 8, fld "S" 3 2 16, fld "T" 3 3 24, fld "N" 3 4 32, fld "Args" 55 5 40, fld "Rets" 55 6 64].toList.map (·.type))[i]? = some u → Szd (xs[i]'(by omega)).1 u := fun i hi u hu q hq => by
  apply hx
  simp only [DataW.weights, und71]
  exact DataW.weights_mem_each (j := i) (t := u) (d := (xs[i]'(by omega)).1) hu (by rw [List.getElem?_map, ee i hi]; rfl) q hq
 obtain ⟨la, hA, hla⟩ := ints_sz g5 (bb 5 (by omega) 55 rfl)
 obtain ⟨lr, hR, hlr⟩ := ints_sz g6 (bb 6 (by omega) 55 rfl)
 exact ⟨⟨z0, z1, z2, z3, z4, la, lr⟩, c5, c6, rfl, hA, hR, hla, hlr, n4⟩
theorem code_sz {H : Type} {enc : TypeId × Value → H} {W : World} {n : Nat} {c : Value} {x : DataW H × List MemPlace} (h : DataW.trod enc Tryd.prog W 0 (fun _ => true) true n 40 [c] = some x) (hx : Szd x.1 40) : ∃ l, CA W c l ∧ FineC l ∧ ∀ c ∈ l, In64n c := by
 obtain ⟨l, hl, a, cp, e, hh⟩ := rows_sz under65 cel71 byt71 (by omega) h hx (⟨0, 0, 0, 0, 0, [], []⟩ : PI) (IsIz W) (fun n cs y hy hs => instr_sz hy hs)
 have hr := reach_is
 refine ⟨l, ⟨a, cp, e, fun hne => ?_⟩, ⟨by omega, fun c hc => ?_⟩, fun c hc => ?_⟩
 ·obtain ⟨k, o, ea, hk, hc⟩ := hh hne
  refine ⟨k, o, ea, hk, fun j hj => ?_⟩
  obtain ⟨cs, ⟨av, rv, rfl, h2, h3, -⟩, h1⟩ := hc j hj
  exact ⟨av, rv, h1 0 (by omega), h1 1 (by omega), h1 2 (by omega), h1 3 (by omega), h1 4 (by omega), h1 5 (by omega), h1 6 (by omega), h2, h3⟩
 ·obtain ⟨j, hj, rfl⟩ := List.getElem_of_mem hc
  obtain ⟨k, o, ea, hk, hcc⟩ := hh (by intro e; simp [e] at hj)
  obtain ⟨cs, ⟨av, rv, -, -, -, h4, h5, -⟩, -⟩ := hcc j hj
  exact ⟨h4, h5⟩
 ·obtain ⟨j, hj, rfl⟩ := List.getElem_of_mem hc
  obtain ⟨k, o, ea, hk, hcc⟩ := hh (by intro e; simp [e] at hj)
  obtain ⟨cs, ⟨av, rv, -, -, -, -, -, h6⟩, -⟩ := hcc j hj
  exact h6
def IsFz (W : World) (f : PF) (cs : List Value) : Prop := ∃ cv, cs = [vI f.P, vI f.R, vI f.V, cv] ∧ CA W cv f.code ∧ FineC f.code ∧ ∀ c ∈ f.code, In64n c
theorem func_sz {H : Type} {enc : TypeId × Value → H} {W : World} {n : Nat} {cs : List Value} {x : DataW H × List MemPlace} (h : DataW.trod enc Tryd.prog W 0 (fun _ => true) true n 42 cs = some x) (hx : Szd x.1 42) : ∃ f : PF, IsFz W f cs := by
 obtain ⟨xs, k, -, rfl, hcl, hxl, hf⟩ := DataW.trod_struct und67 h
 rw [cel67] at hcl
 have hxl : xs.length = 4 := hxl
 obtain ⟨c0, r0, rfl, hl1⟩ := len_cons hcl
 obtain ⟨c1, r1, rfl, hl2⟩ := len_cons hl1
 obtain ⟨c2, r2, rfl, hl3⟩ := len_cons hl2
 obtain ⟨c3, r3, rfl, hl4⟩ := len_cons hl3
 obtain rfl := List.length_eq_zero_iff.1 hl4
 have g0 := hf 0 (fld "Params" 3 0 0) rfl
 have g1 := hf 1 (fld "Results" 3 1 8) rfl
 have g2 := hf 2 (fld "Vars" 3 2 16) rfl
 have g3 := hf 3 (fld "Code" 40 3 24) rfl
 have ee : ∀ i (hi : i < 4), xs[i]? = some (xs[i]'(by omega)) := fun i hi => List.getElem?_eq_getElem (by omega)
 rw [ee 0 (by omega)] at g0
 rw [ee 1 (by omega)] at g1
 rw [ee 2 (by omega)] at g2
 rw [ee 3 (by omega)] at g3
 simp only [fld, cel3, cel65, List.drop_zero, List.drop_succ_cons, List.take_succ_cons, List.take_zero] at g0 g1 g2 g3
 obtain ⟨z0, rfl⟩ := int_of g0
 obtain ⟨z1, rfl⟩ := int_of g1
 obtain ⟨z2, rfl⟩ := int_of g2
 have bb : Szd (xs[3]'(by omega)).1 40 := fun q hq => by
  apply hx
  simp only [DataW.weights, und67]
  exact DataW.weights_mem_each (j := 3) (t := 40) (d := (xs[3]'(by omega)).1) rfl (by rw [List.getElem?_map, ee 3 (by omega)]; rfl) q hq
 obtain ⟨l, hC, hl⟩ := code_sz g3 bb
 exact ⟨⟨z0, z1, z2, l⟩, c3, rfl, hC, hl⟩
theorem funcs_sz {H : Type} {enc : TypeId × Value → H} {W : World} {n : Nat} {c : Value} {x : DataW H × List MemPlace} (h : DataW.trod enc Tryd.prog W 0 (fun _ => true) true n 22 [c] = some x) (hx : Szd x.1 22) : ∃ l, FA W c l ∧ FineP l ∧ ∀ f ∈ l, ∀ c ∈ f.code, In64n c := by
 obtain ⟨l, hl, a, cp, e, hh⟩ := rows_sz under24 cel67 byt67 (by omega) h hx (⟨0, 0, 0, []⟩ : PF) (IsFz W) (fun n cs y hy hs => func_sz hy hs)
 have hr := reach_is
 refine ⟨l, ⟨a, cp, e, fun hne => ?_⟩, ⟨by omega, fun c hc => ?_⟩, fun c hc => ?_⟩
 ·obtain ⟨k, o, ea, hk, hc⟩ := hh hne
  refine ⟨k, o, ea, hk, fun j hj => ?_⟩
  obtain ⟨cs, ⟨cv, rfl, h2, -⟩, h1⟩ := hc j hj
  exact ⟨cv, h1 0 (by omega), h1 1 (by omega), h1 2 (by omega), h1 3 (by omega), h2⟩
 ·obtain ⟨j, hj, rfl⟩ := List.getElem_of_mem hc
  obtain ⟨k, o, ea, hk, hcc⟩ := hh (by intro e; simp [e] at hj)
  obtain ⟨cs, ⟨cv, -, -, h4, -⟩, -⟩ := hcc j hj
  exact h4
 ·obtain ⟨j, hj, rfl⟩ := List.getElem_of_mem hc
  obtain ⟨k, o, ea, hk, hcc⟩ := hh (by intro e; simp [e] at hj)
  obtain ⟨cs, ⟨cv, -, -, -, h5⟩, -⟩ := hcc j hj
  exact h5
theorem program_sz {H : Type} {enc : TypeId × Value → H} {W : World} {n : Nat} {cs : List Value} {x : DataW H × List MemPlace} (h : DataW.trod enc Tryd.prog W 0 (fun _ => true) true n 24 cs = some x) (hx : Szd x.1 24) : ∃ (G : Int) (fv : Value) (fs : List PF), cs = [vI G, fv] ∧ FA W fv fs ∧ FineP fs ∧ ∀ f ∈ fs, ∀ c ∈ f.code, In64n c := by
 obtain ⟨xs, k, -, rfl, hcl, hxl, hf⟩ := DataW.trod_struct und26 h
 rw [cel26] at hcl
 have hxl : xs.length = 2 := hxl
 obtain ⟨c0, r0, rfl, hl1⟩ := len_cons hcl
 obtain ⟨c1, r1, rfl, hl2⟩ := len_cons hl1
 obtain rfl := List.length_eq_zero_iff.1 hl2
 have g0 := hf 0 (fld "Globals" 3 0 0) rfl
 have g1 := hf 1 (fld "Funcs" 22 1 8) rfl
 have ee : ∀ i (hi : i < 2), xs[i]? = some (xs[i]'(by omega)) := fun i hi => List.getElem?_eq_getElem (by omega)
 rw [ee 0 (by omega)] at g0
 rw [ee 1 (by omega)] at g1
 simp only [fld, cel3, cel24, List.drop_zero, List.drop_succ_cons, List.take_succ_cons, List.take_zero] at g0 g1
 obtain ⟨z0, rfl⟩ := int_of g0
 have bb : Szd (xs[1]'(by omega)).1 22 := fun q hq => by
  apply hx
  simp only [DataW.weights, und26]
  exact DataW.weights_mem_each (j := 1) (t := 22) (d := (xs[1]'(by omega)).1) rfl (by rw [List.getElem?_map, ee 1 (by omega)]; rfl) q hq
 obtain ⟨l, hC, hl⟩ := funcs_sz g1 bb
 exact ⟨z0, c1, l, rfl, hC, hl⟩
end Go.Proofs.YtingenonbkencabDoor
namespace Go.Proofs.YtingenonbkencabDoor
open Go.RowKit (wrap32 wrap64)
set_option maxRecDepth 100000
set_option maxHeartbeats 4000000
theorem frK {b : Nat} {M : Mode b} {w w' : World} (h : Fr (fun k => k = b) w w') : Fr M.SB w w' := h.mono (fun _ _ hk => Or.inl hk)
def OverKE {b : Nat} (M : Mode b) (T : X (WS × M.σ)) (w : World) (e : Ending) (w' : World) : Prop :=
 Fr M.SB w w' ∧ match T with
  | .ok y => e = .returned (.tuple #[]) ∧ ∃ x, On M w' x ∧ Al x y
  | .error z => e = .panicked (viol z.1 z.2)
theorem overKE_err {b : Nat} {M : Mode b} {T : X (WS × M.σ)} {w w' : World} {z : Int × Int} (h : T = .error z) (hf : Fr M.SB w w') : OverKE M T w (.panicked (viol z.1 z.2)) w' := by
 subst h; exact ⟨hf, rfl⟩
theorem overKE_ok {b : Nat} {M : Mode b} {T : X (WS × M.σ)} {w w' : World} {x : WS × M.σ} (h : SimK (.ok x) T) (hf : Fr M.SB w w') (ho : On M w' x) : OverKE M T w (.returned (.tuple #[])) w' := by
 obtain ⟨y, rfl, hb⟩ := h.okk
 exact ⟨hf, rfl, x, ho, hb⟩
theorem headsAt_K {S : Nat → Prop} {w : World} {k o : Nat} {fs : List PF} (h : ∀ j (h : j < fs.length), ∃ cv,
 w.cell? ⟨k, o + j * 4, none⟩ = some (vI fs[j].P) ∧ w.cell? ⟨k, o + j * 4 + 1, none⟩ = some (vI fs[j].R) ∧ w.cell? ⟨k, o + j * 4 + 2, none⟩ = some (vI fs[j].V) ∧ w.cell? ⟨k, o + j * 4 + 3, none⟩ = some cv ∧ CS S w cv fs[j].code)
 (hf : ∀ f ∈ fs, FineF f) : HeadsAt w k o (headsOfP fs) := by
 intro j hj
 have hj' : j < fs.length := by simpa [headsOfP] using hj
 obtain ⟨cv, h1, h2, -⟩ := h j hj'
 obtain ⟨-, f2, f3, -⟩ := hf fs[j] (List.getElem_mem hj')
 have e : (headsOfP fs)[j] = (fs[j].P.toNat, fs[j].R.toNat) := by simp [headsOfP]
 rw [e]
 refine ⟨?_, ?_, ?_, ?_⟩
 ·rw [h1]; simp only; rw [Int.toNat_of_nonneg f2.1]
 ·rw [h2]; simp only; rw [Int.toNat_of_nonneg f3.1]
 ·simp only; omega
 ·simp only; omega
theorem askK_ok {b : Nat} {M : Mode b} {rm : M.σ → Nat} (hM : KM M rm) {o size : Nat} {c : WS → Bool} {er : Int} {s : WS} {st : M.σ} {y : WS × M.σ} (hp : 1 ≤ rm st) (h : askX M o size c er (s, st) = .ok y) : y.1 = { s with at' := adv s.at' size } ∧ c { s with at' := adv s.at' size } = true := by
 obtain ⟨st', e, -⟩ := K_next hM o size s st hp
 rw [askX_then, e] at h
 simp only [thenX] at h
 split at h
 ·rename_i hc
  cases h; exact ⟨rfl, hc⟩
 ·cases h
theorem askK_count {b : Nat} {M : Mode b} {rm : M.σ → Nat} (hM : KM M rm) {o size : Nat} {c : WS → Bool} {er G : Int} {n : Nat} {s : WS} {st : M.σ} {y : WS × M.σ} (hp : 1 ≤ rm st) (h : askX M o size c er ({ s with globals := G, count := (n : Nat) }, st) = .ok y) : y.1.count = (n : Nat) := by
 obtain ⟨e, -⟩ := askK_ok hM hp h
 rw [e]
theorem askK_nf {b : Nat} {M : Mode b} {rm : M.σ → Nat} (hM : KM M rm) {n : Nat} {x y : WS × M.σ} (hp : 1 ≤ rm x.2) (hc : x.1.count = (n : Nat)) (h : askX M 161 2 (fun s => decide (1 ≤ s.count ∧ s.count ≤ 65535)) 20 x = .ok y) : 1 ≤ n ∧ n ≤ 65535 := by
 obtain ⟨s, st⟩ := x
 have hc : s.count = (n : Nat) := hc
 obtain ⟨-, hd⟩ := askK_ok hM hp h
 have hd := of_decide_eq_true hd
 have hd : 1 ≤ s.count ∧ s.count ≤ 65535 := hd
 omega
theorem instrK_kept {b : Nat} {M : Mode b} {heads : List (Nat × Nat)} {fR i : Nat} {la lr : List Int} {x y : WS × M.σ} (h : instrK M heads fR i la lr x = .ok y) (hk : ∀ x1, nextX M 154 1 x = .ok x1 → Kept x.1 x1.1) : Kept x.1 y.1 := by
 unfold instrK at h
 obtain ⟨x1, hx, h⟩ := then_ok h
 have h0 := hk x1 hx
 split at h
 ·split at h
  ·obtain ⟨x2, e1, e2⟩ := then_ok h
   exact (h0.trans (frontOk_kept e1)).trans (listK_kept e2).1
  ·split at h
   ·obtain ⟨x2, e1, e2⟩ := then_ok h
    obtain ⟨x3, e3, e4⟩ := then_ok e1
    obtain ⟨x4, e5, e6⟩ := then_ok e2
    exact (((h0.trans (frontOk_kept e3)).trans (askX_kept (by simp) e4)).trans (listK_kept e5).1).trans (listK_kept e6).1
   ·have hk' : KeepsX (M := M) x.1 (frontOk M (x.1.op == 13) (x.1.op == 6) (nbK x.1.op.toNat x.1 la.length lr.length) i x.1.at' x1) := fun y hy => h0.trans (frontOk_kept hy)
    exact partsX_kept x.1.op.toNat hk' y h
 ·cases h
theorem K_op_kept {b : Nat} {M : Mode b} {rm : M.σ → Nat} (hM : KM M rm) {x x1 : WS × M.σ} (hp : 1 ≤ rm x.2) (h : nextX M 154 1 x = .ok x1) : Kept x.1 x1.1 := by
 obtain ⟨s, st⟩ := x
 obtain ⟨st', e, -⟩ := K_next hM 154 1 s st hp
 cases e.symm.trans h
 exact ⟨rfl, rfl, rfl, rfl, rfl, rfl, rfl, rfl, rfl, rfl, rfl⟩
theorem over_K {b : Nat} {M : Mode b} {rm : M.σ → Nat} (hM : KM M rm) (s : WS) (st0 : M.σ) (w : World) (h : Lies w b s) (hrm : 5368971270 ≤ rm st0) (G : Int) (fsv : Value) (fs : List PF) (hL : FS M.SB w fsv fs) (hnew : ∀ k, k = w.heap.size → ¬ M.SB k)
 (hOn : ∀ w1 s', Fr (fun k => k = b) w w1 → w1.heap[w.heap.size]? = some (.cells #[vI G, fsv] 24) → Lies w1 b s' → s'.num = s.num → s'.at' = s.at' → On M w1 (s', st0)) :
 Calls Tryd.prog 22 #[.pointer (some ⟨b, 0, none⟩), .agg #[vI G, fsv]] w (OverKE M (overK M G fs (s, st0)) w) := by
 obtain ⟨c2, -, c146, c147, -, c149, c150, c151, c152, c153, -, -, -, -, -, -, -, c161⟩ := h.facts
 have hz := h.frozen
 have hb := h.lt
 obtain ⟨hlen, fa, fcap, rfl, hin⟩ := hL
 have HIN : Hd _ := hin
 clear hin
 obtain ⟨T, HT⟩ : ∃ T, Hd (T = overK M G fs (s, st0)) := ⟨_, rfl⟩
 rw [← HT.out]
 go_enter Tryd.func22, Tryd.ntmps22
 go_wp2_with fail
 go_region
 have hl1 : Lies ((w.setCell ⟨b, 146, none⟩ (vI G)).setCell ⟨b, 161, none⟩ (vI fs.length)) b { s with globals := G, count := (fs.length : Nat) } :=
  (h.setCell 146 _ (cells_set s 146 G (by simp [places]))).setCell 161 _ (cells_set _ 161 _ (by simp [places]))
 have hf1 : Fr (fun k => k = b) w (((w.setCell ⟨b, 146, none⟩ (vI G)).setCell ⟨b, 161, none⟩ (vI fs.length)).alloc (.cells #[vI G, .slice fa fs.length fcap] 24)).drew :=
  (Fr.alloc (Fr.setCell (Fr.setCell (Fr.refl (fun k => k = b) w) _ _ (Or.inl rfl)) _ _ (Or.inl rfl)) _).drew
 have hpb : (((w.setCell ⟨b, 146, none⟩ (vI G)).setCell ⟨b, 161, none⟩ (vI fs.length)).alloc (.cells #[vI G, .slice fa fs.length fcap] 24)).drew.heap[w.heap.size]? = some (.cells #[vI G, .slice fa fs.length fcap] 24) := by
  have hsz : ((w.setCell ⟨b, 146, none⟩ (vI G)).setCell ⟨b, 161, none⟩ (vI fs.length)).heap.size = w.heap.size := by simp
  have := heap_alloc_last ((w.setCell ⟨b, 146, none⟩ (vI G)).setCell ⟨b, 161, none⟩ (vI fs.length)) (.cells #[vI G, .slice fa fs.length fcap] 24)
  rw [hsz] at this
  exact this
 have hon1 : On M (((w.setCell ⟨b, 146, none⟩ (vI G)).setCell ⟨b, 161, none⟩ (vI fs.length)).alloc (.cells #[vI G, .slice fa fs.length fcap] 24)).drew ({ s with globals := G, count := (fs.length : Nat) }, st0) := hOn _ _ hf1 hpb (hl1.alloc _).drew rfl rfl
 generalize (((w.setCell ⟨b, 146, none⟩ (vI G)).setCell ⟨b, 161, none⟩ (vI fs.length)).alloc (.cells #[vI G, .slice fa fs.length fcap] 24)).drew = w1 at hf1 hon1 hpb ⊢
 clear hOn hl1 c2 c146 c147 c149 c150 c151 c152 c153 c161 hz
 go_wp2_with fail
 refine (askGlobals_at M rm hM.next _ w1 hon1 (by show 1 ≤ rm st0; omega)).mono ?_
 rintro e w2 ⟨hf2, hres⟩
 have hfa : Fr M.SB w w2 := (frK hf1).trans hf2
 cases hx : askX M 146 1 (fun s => decide (0 ≤ s.globals ∧ s.globals ≤ 16)) 18 ({ s with globals := G, count := (fs.length : Nat) }, st0) with
 | error z =>
   rw [hx] at hres
   have hres : e = .panicked (viol z.1 z.2) := hres
   subst hres
   have hTz : Hd (T = .error z) := by
    unfold Hd; rw [HT.out]; unfold overK
    rw [hx]; rfl
   clear hx
   go_wp2_with fail
   exact ⟨rfl, overKE_err hTz.out hfa⟩
 | ok y1 =>
 rw [hx] at hres
 obtain ⟨rfl, hon2⟩ := hres
 have HT1 : Hd (T = thenX (askX M 161 2 (fun s => decide (1 ≤ s.count ∧ s.count ≤ 65535)) 20 y1) fun y => thenX (headsK M fs y) (funcsK M (headsOfP fs) fs)) := by
  unfold Hd; rw [HT.out]; unfold overK
  rw [hx]; rfl
 have hc1 : y1.1.count = (fs.length : Nat) ∧ 5368971269 ≤ rm y1.2 := by
  refine ⟨?_, by have := ask_goes hM.goes hx; have : rm st0 ≤ rm y1.2 + 1 := this; omega⟩
  exact askK_count hM (by show 1 ≤ rm st0; omega) hx
 clear hx HT
 go_wp2_with fail
 refine (askFunctions_at M rm hM.next y1 w2 hon2 (by omega)).mono ?_
 rintro e w3 ⟨hf3, hres⟩
 have hfb : Fr M.SB w w3 := hfa.trans hf3
 cases hx : askX M 161 2 (fun s => decide (1 ≤ s.count ∧ s.count ≤ 65535)) 20 y1 with
 | error z =>
   rw [hx] at hres
   have hres : e = .panicked (viol z.1 z.2) := hres
   subst hres
   have hTz : Hd (T = .error z) := by
    unfold Hd; rw [HT1.out, hx]; rfl
   clear hx
   go_wp2_with fail
   exact ⟨rfl, overKE_err hTz.out hfb⟩
 | ok y2 =>
 rw [hx] at hres
 obtain ⟨rfl, hon3⟩ := hres
 have HT2 : Hd (SimK (thenX (headsK M (fs.drop 0) y2) (funcsK M (headsOfP fs) fs)) T) := by
  unfold Hd; rw [HT1.out, hx]; exact SimK.refl _
 have hnf : 1 ≤ fs.length ∧ fs.length ≤ 65535 := askK_nf hM (by omega) hc1.1 hx
 have HR2 : Hd (5368971268 ≤ rm y2.2) := by have := ask_goes hM.goes hx; have := hc1.2; unfold Hd; omega
 clear hx HT1 hc1
 have hp3 : w3.cell? ⟨w.heap.size, 1, none⟩ = some (.slice fa fs.length fcap) := by
  have hpl := (Array.getElem?_eq_some_iff.1 hpb).1
  have e13 : Fr M.SB w1 w3 := hf2.trans hf3
  have : w3.heap[w.heap.size]? = some (.cells #[vI G, .slice fa fs.length fcap] 24) := by rw [e13.block _ hpl (hnew _ rfl)]; exact hpb
  unfold World.cell?; simp [this]
 obtain ⟨fk, fo, rfl, hfk, hfkb, hfc⟩ := HIN.out (by intro e; simp [e] at hnf)
 have HFC : Hd _ := hfc
 have HFN : Hd (1 ≤ fs.length ∧ fs.length ≤ 65535) := hnf
 have hps : ¬ M.SB w.heap.size := hnew _ rfl
 have hpsb : ¬ w.heap.size = b := fun e => hps (Or.inl e)
 have hfkb1 : ¬ fk = b := fun e => hfkb (Or.inl e)
 have hplt : w.heap.size < w3.heap.size := cell_lt hp3
 clear hf1 hf2 hf3 hfa hpb hon1 hon2 hfc HIN h hnf
 go_wp2_with fail
 go_loopw [28] (fun i wr => ∃ (k : Nat) (s1 : WS) (st1 : M.σ), k ≤ fs.length ∧ i = .int .i64 k ∧ On M wr (s1, st1) ∧ Fr M.SB w3 wr ∧ Hd (4 * (fs.length - k) + 5368709120 ≤ rm st1) ∧ Hd (SimK (thenX (headsK M (fs.drop k) (s1, st1)) (funcsK M (headsOfP fs) fs)) T) ∧ Hd (∀ f ∈ fs.take k, FineF f)) (fun i _ => match i with | .int _ q => fs.length - q.toNat | _ => 0)
 case atStart => exact ⟨0, y2.1, y2.2, Nat.zero_le _, rfl, hon3, Fr.refl _ _, by have h1 := HR2.out; have h2 := HFN.out; unfold Hd; omega, HT2, by unfold Hd; simp⟩
 case round =>
  obtain ⟨k, s1, st1, hk, rfl, hon, hfr, hrk, hvx, hfin⟩ := hrel
  have hfw : Fr M.SB w wr := hfb.trans hfr
  have hpu : wr.cell? ⟨w.heap.size, 1, none⟩ = some (.slice (some ⟨fk, fo, none⟩) fs.length fcap) := (hfr.cell hplt hps).trans hp3
  by_cases hlt : k < fs.length
  ·obtain ⟨cv, f0, f1, f2, f3, hcl⟩ := HFC.out k hlt
   have gg : ∀ o, wr.cell? ⟨fk, o, none⟩ = w.cell? ⟨fk, o, none⟩ := fun o => hfw.cell hfk hfkb
   rw [← gg] at f0 f1 f2 f3
   clear gg
   obtain ⟨hcl0, ca, ccap, rfl, -⟩ := hcl
   have hst := heads_stepK hlt (x2 := (inFv fs[k] (.slice ca fs[k].code.length ccap) s1, st1)) hvx.out ⟨rfl, rfl⟩
   have HST : Hd _ := hst
   clear hst
   obtain ⟨-, -, -, -, -, c149, c150, c151, c152, c153, -⟩ := hon.1.facts
   have hz := hon.1.frozen
   have hb' := hon.1.lt
   go_wp2_with fail
   go_region
   have hl1 := (func_lies fs[k].P fs[k].R fs[k].V fs[k].code.length (.slice ca fs[k].code.length ccap) hon.1)
   have hf1 : Fr (fun k => k = b) wr ((((((wr.setCell ⟨b, 149, none⟩ (vI fs[k].P)).setCell ⟨b, 150, none⟩ (vI fs[k].R)).setCell ⟨b, 151, none⟩ (vI fs[k].V)).setCell ⟨b, 152, none⟩ (.slice ca fs[k].code.length ccap)).setCell ⟨b, 153, none⟩ (vI fs[k].code.length)).alloc (.cells #[vI fs[k].P, vI fs[k].R, vI fs[k].V, .slice ca fs[k].code.length ccap] 42)).drew :=
    (Fr.alloc (Fr.setCell (Fr.setCell (Fr.setCell (Fr.setCell (Fr.setCell (Fr.refl (fun k => k = b) wr) _ _ (Or.inl rfl)) _ _ (Or.inl rfl)) _ _ (Or.inl rfl)) _ _ (Or.inl rfl)) _ _ (Or.inl rfl)) _).drew
   have hon1 : On M ((((((wr.setCell ⟨b, 149, none⟩ (vI fs[k].P)).setCell ⟨b, 150, none⟩ (vI fs[k].R)).setCell ⟨b, 151, none⟩ (vI fs[k].V)).setCell ⟨b, 152, none⟩ (.slice ca fs[k].code.length ccap)).setCell ⟨b, 153, none⟩ (vI fs[k].code.length)).alloc (.cells #[vI fs[k].P, vI fs[k].R, vI fs[k].V, .slice ca fs[k].code.length ccap] 42)).drew (inFv fs[k] (.slice ca fs[k].code.length ccap) s1, st1) := hon.fr hf1 (hl1.alloc _).drew rfl rfl
   generalize ((((((wr.setCell ⟨b, 149, none⟩ (vI fs[k].P)).setCell ⟨b, 150, none⟩ (vI fs[k].R)).setCell ⟨b, 151, none⟩ (vI fs[k].V)).setCell ⟨b, 152, none⟩ (.slice ca fs[k].code.length ccap)).setCell ⟨b, 153, none⟩ (vI fs[k].code.length)).alloc (.cells #[vI fs[k].P, vI fs[k].R, vI fs[k].V, .slice ca fs[k].code.length ccap] 42)).drew = w4 at hf1 hon1 ⊢
   clear c149 c150 c151 c152 c153 hz f0 f1 f2 f3 hl1 hon hvx
   have HFI : Hd (∀ y, headX M (inFv fs[k] (.slice ca fs[k].code.length ccap) s1, st1) = .ok y → FineF fs[k]) := fun y hy => headK_fine hM (by have := hrk.out; omega) rfl rfl rfl rfl hy
   go_wp2_with fail
   refine (askHead_at M rm hM.next _ w4 hon1 hM.goes (by have := hrk.out; show 4 ≤ rm st1; omega)).mono ?_
   rintro e w5 ⟨hf5, hres⟩
   have hf45 : Fr M.SB wr w5 := (frK hf1).trans hf5
   cases hx : headX M (inFv fs[k] (.slice ca fs[k].code.length ccap) s1, st1) with
   | error z =>
     rw [hx] at hres
     have hres : e = .panicked (viol z.1 z.2) := hres
     subst hres
     have hTz : Hd (T = .error z) := HST.out.1 z hx
     clear hx
     go_wp2_with fail
     exact ⟨rfl, overKE_err hTz.out (hfw.trans hf45)⟩
   | ok y =>
     rw [hx] at hres
     obtain ⟨rfl, hon5⟩ := hres
     have hn : Hd (SimK (thenX (headsK M (fs.drop (k + 1)) y) (funcsK M (headsOfP fs) fs)) T) := HST.out.2 y hx
     have hrk2 : Hd (4 * (fs.length - (k + 1)) + 5368709120 ≤ rm y.2) := by have h1 := headK_goes hM.goes hx; have h1 : rm st1 ≤ rm y.2 + 4 := h1; have h2 := hrk.out; unfold Hd; omega
     have hfin2 : Hd (∀ f ∈ fs.take (k + 1), FineF f) := by
      have hf0 := HFI.out y hx
      unfold Hd
      rw [List.take_succ_eq_append_getElem hlt]
      intro f hf
      rcases List.mem_append.1 hf with hf | hf
      ·exact hfin.out f hf
      ·rw [List.mem_singleton] at hf; rw [hf]; exact hf0
     clear hx HST HFI hfin hf1 hf5 hon1 hrk
     go_wp2_with fail
     exact ⟨⟨k + 1, y.1, y.2, by omega, by simp, hon5, hfr.trans hf45, hrk2, hn, hfin2⟩, by simp; omega⟩
  ·have hkl : k = fs.length := by omega
   have hvx2 : Hd (SimK (funcsK M (headsOfP fs) (fs.drop 0) (s1, st1)) T) := heads_endK hkl hvx.out
   have HR3 : Hd (5368709120 ≤ rm st1) := by have h2 := hrk.out; unfold Hd; omega
   have HFIN : Hd (∀ f ∈ fs, FineF f) := by
    have := hfin.out
    rw [hkl, List.take_length] at this
    exact this
   clear hvx hfin hrk
   subst hkl
   have c147 := hon.1.facts.2.2.2.1
   have hz := hon.1.frozen
   have hb' := hon.1.lt
   go_wp2_with fail
   have hff : Fr (fun k => k = b) wr (wr.setCell ⟨b, 147, none⟩ (.slice (some ⟨fk, fo, none⟩) fs.length fcap)) := Fr.setCell (Fr.refl (fun k => k = b) wr) _ _ (Or.inl rfl)
   have honf : On M (wr.setCell ⟨b, 147, none⟩ (.slice (some ⟨fk, fo, none⟩) fs.length fcap)) ({ s1 with funcs := .slice (some ⟨fk, fo, none⟩) fs.length fcap }, st1) := hon.fr hff (hon.1.setCell 147 _ (cells_funcs _ _)) rfl rfl
   have hfw2 : Fr M.SB w (wr.setCell ⟨b, 147, none⟩ (.slice (some ⟨fk, fo, none⟩) fs.length fcap)) := hfw.trans (frK hff)
   have hvx3 : Hd (SimK (funcsK M (headsOfP fs) (fs.drop 0) ({ s1 with funcs := .slice (some ⟨fk, fo, none⟩) fs.length fcap }, st1)) T) := (simK_funcs M (headsOfP fs) (fs.drop 0) ({ s1 with funcs := .slice (some ⟨fk, fo, none⟩) fs.length fcap }, st1) (s1, st1) ⟨rfl, rfl⟩).trans hvx2.out
   generalize (wr.setCell ⟨b, 147, none⟩ (.slice (some ⟨fk, fo, none⟩) fs.length fcap)) = wf at hff honf hfw2 ⊢
   clear c147 hz hb' hpu hff hon hvx2 hfw hfr hp3 hfb hon3 HT2 hplt
   go_loopw [53] (fun i wr => ∃ (j : Nat) (s2 : WS) (st2 : M.σ), j ≤ fs.length ∧ i = .int .i64 j ∧ On M wr (s2, st2) ∧ Fr M.SB w wr ∧ Hd (81920 * (fs.length - j) ≤ rm st2) ∧ Hd (s2.funcs = .slice (some ⟨fk, fo, none⟩) fs.length fcap) ∧ Hd (SimK (funcsK M (headsOfP fs) (fs.drop j) (s2, st2)) T)) (fun i _ => match i with | .int _ q => fs.length - q.toNat | _ => 0)
   case atStart => exact ⟨0, _, st1, Nat.zero_le _, rfl, honf, hfw2, by have h1 := HR3.out; have h2 := HFN.out; unfold Hd; omega, rfl, hvx3⟩
   case round =>
    clear honf hfw2 hvx3
    obtain ⟨j, s2, st2, hj, rfl, hon, hfr, hrj, hsf, hvx⟩ := hrel
    by_cases hlt : j < fs.length
    ·obtain ⟨cv, f0, f1, f2, f3, hcl⟩ := HFC.out j hlt
     have HCL : Hd (CS M.SB w cv fs[j].code) := hcl
     have gg : ∀ o, wr.cell? ⟨fk, o, none⟩ = w.cell? ⟨fk, o, none⟩ := fun o => hfr.cell hfk hfkb
     rw [← gg] at f0 f1 f2 f3
     clear gg
     obtain ⟨hcl0, ca, ccap, rfl, -⟩ := hcl
     have hst : Hd _ := funcs_beginK hlt (x2 := (inFv fs[j] (.slice ca fs[j].code.length ccap) s2, st2)) hvx.out ⟨rfl, rfl⟩
     obtain ⟨-, -, -, -, -, c149, c150, c151, c152, c153, -⟩ := hon.1.facts
     have hz := hon.1.frozen
     have hb' := hon.1.lt
     go_wp2_with fail
     go_region
     have hl1 := (func_lies fs[j].P fs[j].R fs[j].V fs[j].code.length (.slice ca fs[j].code.length ccap) hon.1)
     have hf1 : Fr (fun k => k = b) wr ((((((wr.setCell ⟨b, 149, none⟩ (vI fs[j].P)).setCell ⟨b, 150, none⟩ (vI fs[j].R)).setCell ⟨b, 151, none⟩ (vI fs[j].V)).setCell ⟨b, 152, none⟩ (.slice ca fs[j].code.length ccap)).setCell ⟨b, 153, none⟩ (vI fs[j].code.length)).alloc (.cells #[vI fs[j].P, vI fs[j].R, vI fs[j].V, .slice ca fs[j].code.length ccap] 42)).drew :=
      (Fr.alloc (Fr.setCell (Fr.setCell (Fr.setCell (Fr.setCell (Fr.setCell (Fr.refl (fun k => k = b) wr) _ _ (Or.inl rfl)) _ _ (Or.inl rfl)) _ _ (Or.inl rfl)) _ _ (Or.inl rfl)) _ _ (Or.inl rfl)) _).drew
     have hon1 : On M ((((((wr.setCell ⟨b, 149, none⟩ (vI fs[j].P)).setCell ⟨b, 150, none⟩ (vI fs[j].R)).setCell ⟨b, 151, none⟩ (vI fs[j].V)).setCell ⟨b, 152, none⟩ (.slice ca fs[j].code.length ccap)).setCell ⟨b, 153, none⟩ (vI fs[j].code.length)).alloc (.cells #[vI fs[j].P, vI fs[j].R, vI fs[j].V, .slice ca fs[j].code.length ccap] 42)).drew (inFv fs[j] (.slice ca fs[j].code.length ccap) s2, st2) := hon.fr hf1 (hl1.alloc _).drew rfl rfl
     have hcf : ((((((wr.setCell ⟨b, 149, none⟩ (vI fs[j].P)).setCell ⟨b, 150, none⟩ (vI fs[j].R)).setCell ⟨b, 151, none⟩ (vI fs[j].V)).setCell ⟨b, 152, none⟩ (.slice ca fs[j].code.length ccap)).setCell ⟨b, 153, none⟩ (vI fs[j].code.length)).alloc (.cells #[vI fs[j].P, vI fs[j].R, vI fs[j].V, .slice ca fs[j].code.length ccap] 42)).drew.cell? ⟨wr.heap.size, 3, none⟩ = some (.slice ca fs[j].code.length ccap) := by
      rw [World.cell?_drew, World.cell?_alloc_at _ _ _ _ (by simp)]; rfl
     generalize ((((((wr.setCell ⟨b, 149, none⟩ (vI fs[j].P)).setCell ⟨b, 150, none⟩ (vI fs[j].R)).setCell ⟨b, 151, none⟩ (vI fs[j].V)).setCell ⟨b, 152, none⟩ (.slice ca fs[j].code.length ccap)).setCell ⟨b, 153, none⟩ (vI fs[j].code.length)).alloc (.cells #[vI fs[j].P, vI fs[j].R, vI fs[j].V, .slice ca fs[j].code.length ccap] 42)).drew = w4 at hf1 hon1 hcf ⊢
     have hf4w : Fr M.SB w w4 := hfr.trans (frK hf1)
     have hrj0 : Hd (81920 * (fs.length - (j + 1)) + 20 * fs[j].code.length ≤ rm st2) := by have h1 := hrj.out; have h2 := HFIN.out _ (List.getElem_mem hlt); have h3 := h2.2.2.2.2; unfold Hd; omega
     have hfu : Hd ((inFv fs[j] (.slice ca fs[j].code.length ccap) s2).funcs = .slice (some ⟨fk, fo, none⟩) fs.length fcap) := hsf.out
     have hK0 : Hd ((inFv fs[j] (.slice ca fs[j].code.length ccap) s2).fR = fs[j].R ∧ (inFv fs[j] (.slice ca fs[j].code.length ccap) s2).len = (fs[j].code.length : Nat)) := ⟨rfl, rfl⟩
     have HFJ : Hd (FineF fs[j]) := HFIN.out _ (List.getElem_mem hlt)
     generalize inFv fs[j] (.slice ca fs[j].code.length ccap) s2 = s3 at hst hon1 hfu hK0
     clear c149 c150 c151 c152 c153 hz f0 f1 f2 f3 hl1 hon hb' hf1 hfr hvx hsf hrj
     go_wp2_with fail
     go_loopw [70] (fun i wr => ∃ (i' : Nat) (s4 : WS) (st4 : M.σ), i' ≤ fs[j].code.length ∧ i = .int .i64 i' ∧ On M wr (s4, st4) ∧ Fr M.SB w wr ∧ Hd (81920 * (fs.length - (j + 1)) + 20 * (fs[j].code.length - i') ≤ rm st4) ∧ Hd (s4.funcs = .slice (some ⟨fk, fo, none⟩) fs.length fcap) ∧ Hd (s4.fR = fs[j].R ∧ s4.len = (fs[j].code.length : Nat)) ∧ Hd (SimK (thenX (codeK M (headsOfP fs) fs[j].R.toNat i' (fs[j].code.drop i') (s4, st4)) (funcsK M (headsOfP fs) (fs.drop (j + 1)))) T)) (fun i _ => match i with | .int _ q => fs[j].code.length - q.toNat | _ => 0)
     case atStart => exact ⟨0, s3, st2, Nat.zero_le _, rfl, hon1, hf4w, hrj0, hfu, hK0, hst⟩
     case round =>
      clear hon1 hf4w hfu hK0 hst hcf hrj0
      obtain ⟨i, s4, st4, hi, rfl, hon, hfr, hri, hfu, hK, hvx⟩ := hrel
      by_cases hil : i < fs[j].code.length
      ·obtain ⟨-, ca', ccap', eca, hcode⟩ := HCL.out
       cases eca
       obtain ⟨ck, co, rfl, hck, hckb, hcode⟩ := hcode (by intro e; simp [e] at hil)
       have hckb1 : ¬ ck = b := fun e => hckb (Or.inl e)
       obtain ⟨av, rv, k0, k1, k2, k3, k4, k5, k6, ha, hr, hal, hrl⟩ := hcode i hil
       clear hcode
       have ha2 : IS M.SB wr av fs[j].code[i].args := ha.fr hfr
       have hr2 : IS M.SB wr rv fs[j].code[i].rets := hr.fr hfr
       clear ha hr
       have gg : ∀ o, wr.cell? ⟨ck, o, none⟩ = w.cell? ⟨ck, o, none⟩ := fun o => hfr.cell hck hckb
       rw [← gg] at k0 k1 k2 k3 k4 k5 k6
       clear gg
       have HA : Hd (IS M.SB wr av fs[j].code[i].args) := ha2
       have HR : Hd (IS M.SB wr rv fs[j].code[i].rets) := hr2
       obtain ⟨aa, ac, rfl, -⟩ := ha2
       obtain ⟨ra, rc, rfl, -⟩ := hr2
       have hst : Hd _ := code_stepK hil (x2 := (inIv fs[j].code[i] (.slice aa fs[j].code[i].args.length ac) (.slice ra fs[j].code[i].rets.length rc) s4, st4)) hvx.out ⟨rfl, rfl⟩
       obtain ⟨-, -, -, -, -, -, -, -, -, -, d0, d1, d2, d3, d4, d5, d6, -⟩ := hon.1.facts
       have hz := hon.1.frozen
       have hb' := hon.1.lt
       go_wp2_with fail
       have hil7 := inIv_lies fs[j].code[i] (.slice aa fs[j].code[i].args.length ac) (.slice ra fs[j].code[i].rets.length rc) hon.1
       have hf7 : Fr (fun k => k = b) wr ((((((((wr.setCell ⟨b, 154, none⟩ (vI fs[j].code[i].op)).setCell ⟨b, 155, none⟩ (vI fs[j].code[i].r)).setCell ⟨b, 156, none⟩ (vI fs[j].code[i].s)).setCell ⟨b, 157, none⟩ (vI fs[j].code[i].t)).setCell ⟨b, 158, none⟩ (vI fs[j].code[i].n)).setCell ⟨b, 159, none⟩ (.slice aa fs[j].code[i].args.length ac)).setCell ⟨b, 160, none⟩ (.slice ra fs[j].code[i].rets.length rc)).alloc (.cells #[vI fs[j].code[i].op, vI fs[j].code[i].r, vI fs[j].code[i].s, vI fs[j].code[i].t, vI fs[j].code[i].n, .slice aa fs[j].code[i].args.length ac, .slice ra fs[j].code[i].rets.length rc] 57)) :=
        Fr.alloc (Fr.setCell (Fr.setCell (Fr.setCell (Fr.setCell (Fr.setCell (Fr.setCell (Fr.setCell (Fr.refl (fun k => k = b) wr) _ _ (Or.inl rfl)) _ _ (Or.inl rfl)) _ _ (Or.inl rfl)) _ _ (Or.inl rfl)) _ _ (Or.inl rfl)) _ _ (Or.inl rfl)) _ _ (Or.inl rfl)) _
       have hong : On M ((((((((wr.setCell ⟨b, 154, none⟩ (vI fs[j].code[i].op)).setCell ⟨b, 155, none⟩ (vI fs[j].code[i].r)).setCell ⟨b, 156, none⟩ (vI fs[j].code[i].s)).setCell ⟨b, 157, none⟩ (vI fs[j].code[i].t)).setCell ⟨b, 158, none⟩ (vI fs[j].code[i].n)).setCell ⟨b, 159, none⟩ (.slice aa fs[j].code[i].args.length ac)).setCell ⟨b, 160, none⟩ (.slice ra fs[j].code[i].rets.length rc)).alloc (.cells #[vI fs[j].code[i].op, vI fs[j].code[i].r, vI fs[j].code[i].s, vI fs[j].code[i].t, vI fs[j].code[i].n, .slice aa fs[j].code[i].args.length ac, .slice ra fs[j].code[i].rets.length rc] 57)) (inIv fs[j].code[i] (.slice aa fs[j].code[i].args.length ac) (.slice ra fs[j].code[i].rets.length rc) s4, st4) := hon.fr hf7 (hil7.alloc _) rfl rfl
       change Calls Tryd.prog 41 _ ((((((((wr.setCell ⟨b, 154, none⟩ (vI fs[j].code[i].op)).setCell ⟨b, 155, none⟩ (vI fs[j].code[i].r)).setCell ⟨b, 156, none⟩ (vI fs[j].code[i].s)).setCell ⟨b, 157, none⟩ (vI fs[j].code[i].t)).setCell ⟨b, 158, none⟩ (vI fs[j].code[i].n)).setCell ⟨b, 159, none⟩ (.slice aa fs[j].code[i].args.length ac)).setCell ⟨b, 160, none⟩ (.slice ra fs[j].code[i].rets.length rc)).alloc (.cells #[vI fs[j].code[i].op, vI fs[j].code[i].r, vI fs[j].code[i].s, vI fs[j].code[i].t, vI fs[j].code[i].n, .slice aa fs[j].code[i].args.length ac, .slice ra fs[j].code[i].rets.length rc] 57)) _
       generalize ((((((((wr.setCell ⟨b, 154, none⟩ (vI fs[j].code[i].op)).setCell ⟨b, 155, none⟩ (vI fs[j].code[i].r)).setCell ⟨b, 156, none⟩ (vI fs[j].code[i].s)).setCell ⟨b, 157, none⟩ (vI fs[j].code[i].t)).setCell ⟨b, 158, none⟩ (vI fs[j].code[i].n)).setCell ⟨b, 159, none⟩ (.slice aa fs[j].code[i].args.length ac)).setCell ⟨b, 160, none⟩ (.slice ra fs[j].code[i].rets.length rc)).alloc (.cells #[vI fs[j].code[i].op, vI fs[j].code[i].r, vI fs[j].code[i].s, vI fs[j].code[i].t, vI fs[j].code[i].n, .slice aa fs[j].code[i].args.length ac, .slice ra fs[j].code[i].rets.length rc] 57)) = w6 at hf7 hong ⊢
       have hf6w : Fr M.SB w w6 := hfr.trans (frK hf7)
       have hHb : HeadsAt w6 fk fo (headsOfP fs) := (headsAt_K HFC.out HFIN.out).fr hf6w hfk hfkb
       have hlh : (headsOfP fs).length = fs.length := by simp [headsOfP]
       obtain ⟨hfV, hfP, hfR, hfl0, hfl1⟩ := HFJ.out
       have hPRo : ∀ q (h : q < (headsOfP fs).length), (headsOfP fs)[q].1 ≤ 8 ∧ (headsOfP fs)[q].2 ≤ 4 := fun q h => (hHb q h).2.2
       clear d0 d1 d2 d3 d4 d5 d6 hz k0 k1 k2 k3 k4 k5 k6 hil7
       refine (instr_K hM (inIv fs[j].code[i] (.slice aa fs[j].code[i].args.length ac) (.slice ra fs[j].code[i].rets.length rc) s4) st4 w6 hong (by have := hri.out; omega) i (by omega) (by show 0 ≤ s4.len; rw [hK.out.2]; omega) (by show s4.len ≤ 4096; rw [hK.out.2]; omega)
        fs[j].R.toNat (by show s4.fR = _; rw [hK.out.1, Int.toNat_of_nonneg hfR.1]) (by omega) fs[j].code[i].args fs[j].code[i].rets (IS.fr HA.out (frK hf7)) (IS.fr HR.out (frK hf7)) hal hrl
        (headsOfP fs) fk fo fcap (by rw [hlh]; exact hfu.out) hHb hfkb (Nat.lt_of_lt_of_le hfk hf6w.size) (by rw [hlh]; exact HFN.out.2)).mono ?_
       rintro e w7 ⟨hf77, hres⟩
       have hf67 : Fr M.SB w w7 := hf6w.trans hf77
       cases hx : instrK M (headsOfP fs) fs[j].R.toNat i fs[j].code[i].args fs[j].code[i].rets (inIv fs[j].code[i] (.slice aa fs[j].code[i].args.length ac) (.slice ra fs[j].code[i].rets.length rc) s4, st4) with
       | error z =>
         rw [hx] at hres
         have hres : e = .panicked (viol z.1 z.2) := hres
         subst hres
         have hTz : Hd (T = .error z) := hst.out.1 z hx
         clear hx
         go_wp2_with fail
         exact ⟨rfl, overKE_err hTz.out hf67⟩
       | ok y =>
         rw [hx] at hres
         obtain ⟨rfl, hon7⟩ := hres
         have hkp := instrK_kept hx (fun x1 h1 => K_op_kept hM (by have := hri.out; show 1 ≤ rm st4; omega) h1)
         have hri2 : Hd (81920 * (fs.length - (j + 1)) + 20 * (fs[j].code.length - (i + 1)) ≤ rm y.2) := by have h1 := instrK_goes hM.goes hPRo (by omega) hx; have h1 : rm st4 ≤ rm y.2 + 20 := h1; have h2 := hri.out; unfold Hd; omega
         have hn := hst.out.2 y hx
         have HN : Hd _ := hn
         have hfu2 : Hd (y.1.funcs = .slice (some ⟨fk, fo, none⟩) fs.length fcap) := hkp.funcs.trans hfu.out
         have hK2 : Hd (y.1.fR = fs[j].R ∧ y.1.len = (fs[j].code.length : Nat)) := ⟨hkp.fR.trans hK.out.1, hkp.len.trans hK.out.2⟩
         clear hx hst hkp hn hf7 hf77 hong hHb hfV hfP hfR hfl0 hfl1 hvx hfu hK HA HR hPRo hri
         go_wp2_with fail
         exact ⟨⟨i + 1, y.1, y.2, by omega, by simp, hon7, hf67, hri2, hfu2, hK2, HN⟩, by simp; omega⟩
      ·have hie : i = fs[j].code.length := by omega
       have hn : Hd _ := code_endK hie hvx.out
       clear hvx
       have hri2 : Hd (81920 * (fs.length - (j + 1)) ≤ rm st4) := by have h2 := hri.out; unfold Hd; omega
       clear hri
       subst hie
       go_wp2_with fail
       exact ⟨⟨j + 1, s4, st4, by omega, by simp, hon, hfr, hri2, hfu, hn⟩, by simp; omega⟩
    ·have hje : j = fs.length := by omega
     have hn : Hd _ := funcs_endK hje hvx.out
     clear hvx
     subst hje
     go_wp2_with fail
     go_end0
     exact overKE_ok hn.out hfr hon
def leN (size : Nat) (v : Int) : List UInt8 := leBytes size (IntKind.u64.wrap v).toNat
def lst (l : List Int) : List UInt8 := leN 1 (l.length : Nat) ++ l.flatMap (leN 1)
def docL (c : PI) (u : UInt8) : List UInt8 :=
 if u = 82 then leN 1 c.r else if u = 83 then leN 1 c.s else if u = 84 then leN 1 c.t else if u = 105 then leN 8 c.n else if u = 70 ∨ u = 74 then leN 2 c.n else if u = 65 ∨ u = 86 then lst c.args else if u = 66 then lst c.rets else leN 1 c.n
def docP : Nat → List UInt8
 | 1 => [82, 105] | 2 => [82, 83] | 3 => [82, 83, 84] | 4 => [82, 83, 84] | 5 => [82, 83] | 6 => [82, 99] | 7 => [82, 83, 102] | 8 => [82, 83, 102] | 9 => [82, 103] | 10 => [83, 103] | 11 => [70, 65, 66] | 12 => [83] | 13 => [74] | 14 => [83, 74] | 15 => [86] | 16 => [82] | 17 => [82, 83, 84] | _ => []
def docI (c : PI) : List UInt8 := leN 1 c.op ++ (docP c.op.toNat).flatMap (docL c)
def docH (f : PF) : List UInt8 := leN 1 f.P ++ leN 1 f.R ++ leN 1 f.V ++ leN 2 (f.code.length : Nat)
def docC (f : PF) : List UInt8 := f.code.flatMap docI
def docAll (G : Int) (fs : List PF) : List UInt8 := magicL ++ leN 1 G ++ leN 2 (fs.length : Nat) ++ fs.flatMap docH ++ fs.flatMap docC
section
variable {b wb g0 K : Nat}
structure Wb (s : WS) (l : List UInt8) (y : WS × (Nat × List UInt8)) : Prop where
 pos : Pos y
 bytes : y.2.2 = l
 num : ∀ o, o ∈ places → o ≠ 161 → y.1.get o = s.get o
def Wn (s : WS) (l : List UInt8) (c : X (WS × (Nat × List UInt8))) : Prop := ∀ y, c = .ok y → Wb s l y
theorem Wb.step {s : WS} {l : List UInt8} {x y : WS × (Nat × List UInt8)} {o size : Nat} (h : Wb s l x) (ho : o ∈ places) (hn : o ≠ 161) (hs : size ≤ 8) (hy : nextX (writing b wb g0 K) o size x = .ok y) : Wb s (l ++ leN size (s.get o)) y := by
 obtain ⟨e, w⟩ := wr_next (b := b) ho hs h.pos hy
 refine ⟨w.pos, ?_, fun o' h1 h2 => (w.num o' h1 h2).trans (h.num o' h1 h2)⟩
 rw [e]
 show x.2.2 ++ leBytes size (IntKind.u64.wrap (x.1.get o)).toNat = _
 rw [h.bytes, h.num o ho hn]
 rfl
theorem Wn.next {s : WS} {l : List UInt8} {c : X (WS × (Nat × List UInt8))} {o size : Nat} (h : Wn s l c) (ho : o ∈ places) (hn : o ≠ 161) (hs : size ≤ 8) : Wn s (l ++ leN size (s.get o)) (thenX c (nextX (writing b wb g0 K) o size)) := fun y hy => by
 obtain ⟨x, hx, hxy⟩ := then_ok hy
 exact (h x hx).step ho hn hs hxy
theorem Wn.ask {s : WS} {l : List UInt8} {c : X (WS × (Nat × List UInt8))} {o size : Nat} {t : WS → Bool} {er : Int} (h : Wn s l c) (ho : o ∈ places) (hn : o ≠ 161) (hs : size ≤ 8) : Wn s (l ++ leN size (s.get o)) (thenX c (askX (writing b wb g0 K) o size t er)) := fun y hy => by
 obtain ⟨x, hx, hxy⟩ := then_ok hy
 exact (h x hx).step ho hn hs (ask_next hxy).1
theorem Wb.front {s : WS} {l : List UInt8} {x : WS × (Nat × List UInt8)} {ends makes nb : Bool} {i : Nat} {p : Int} (h : Wb s l x) : Wn s l (frontOk (writing b wb g0 K) ends makes nb i p x) := fun y hy => by
 obtain ⟨-, w, -⟩ := front_sm (b := b) (bs := []) (br := 0) (rv := nilS) (F := []) (p' := 0) _ _ h.pos hy
 have e : y.2 = x.2 := front_snd hy
 exact ⟨w.pos, by rw [e]; exact h.bytes, fun o h1 h2 => (w.num o h1 h2).trans (h.num o h1 h2)⟩
theorem Wb.vars {s : WS} : ∀ {la : List Int} {l : List UInt8} {x y : WS × (Nat × List UInt8)}, Wb s l x → varsK (writing b wb g0 K) la x = .ok y → Wb s (l ++ la.flatMap (leN 1)) y
 | [], l, x, y, h, hy => by cases hy; simpa using h
 | v :: r, l, x, y, h, hy => by
   obtain ⟨z, h1, h2⟩ := then_ok hy
   obtain ⟨e, w, -⟩ := one_wr h.pos h1
   have hz : Wb s (l ++ leN 1 v) z := ⟨w.pos, by rw [e]; show x.2.2 ++ _ = _; rw [h.bytes]; rfl, fun o k1 k2 => (w.num o k1 k2).trans (h.num o k1 k2)⟩
   have := hz.vars h2
   rw [List.flatMap_cons, ← List.append_assoc]
   exact this
theorem Wb.list {s : WS} {n : Nat} {la : List Int} {l : List UInt8} {x y : WS × (Nat × List UInt8)} (h : Wb s l x) (hy : listK (writing b wb g0 K) n la x = .ok y) : Wb s (l ++ lst la) y := by
 obtain ⟨z, h1, h2⟩ := then_ok hy
 have w0 := wr_count (v := (la.length : Int)) h.pos
 obtain ⟨e, w⟩ := wr_next (b := b) (o := 161) (by simp [places]) (by omega) w0.pos h1
 have hz : Wb s (l ++ leN 1 (la.length : Nat)) z := ⟨w.pos, by rw [e]; show x.2.2 ++ _ = _; rw [h.bytes]; rfl, fun o k1 k2 => ((w.num o k1 k2).trans (w0.num o k1 k2)).trans (h.num o k1 k2)⟩
 split at h2
 ·have := hz.vars h2
  unfold lst
  rw [← List.append_assoc]
  exact this
 ·cases h2
theorem Wn.parts {s : WS} {l : List UInt8} {c : X (WS × (Nat × List UInt8))} {p : PI} (op : Nat) (h1 : 1 ≤ op ∧ op ≤ 17 ∧ op ≠ 11 ∧ op ≠ 15) (hr : s.get 155 = p.r) (hs : s.get 156 = p.s) (ht : s.get 157 = p.t) (hn : s.get 158 = p.n) (h : Wn s l c) : Wn s (l ++ (docP op).flatMap (docL p)) (partsX (writing b wb g0 K) op c) := by
 have m5 : 155 ∈ places := by simp [places]
 have m6 : 156 ∈ places := by simp [places]
 have m7 : 157 ∈ places := by simp [places]
 have m8 : 158 ∈ places := by simp [places]
 have vr : ∀ {l : List UInt8} {c : X (WS × (Nat × List UInt8))}, Wn s l c → Wn s (l ++ leN 1 p.r) (thenX c (varPart (writing b wb g0 K) 155)) := fun h => by rw [← hr]; exact h.ask m5 (by omega) (by omega)
 have vs : ∀ {l : List UInt8} {c : X (WS × (Nat × List UInt8))}, Wn s l c → Wn s (l ++ leN 1 p.s) (thenX c (varPart (writing b wb g0 K) 156)) := fun h => by rw [← hs]; exact h.ask m6 (by omega) (by omega)
 have vt : ∀ {l : List UInt8} {c : X (WS × (Nat × List UInt8))}, Wn s l c → Wn s (l ++ leN 1 p.t) (thenX c (varPart (writing b wb g0 K) 157)) := fun h => by rw [← ht]; exact h.ask m7 (by omega) (by omega)
 have vn : ∀ {l : List UInt8} {c : X (WS × (Nat × List UInt8))} {size : Nat} {t : WS → Bool} {er : Int}, size ≤ 8 → Wn s l c → Wn s (l ++ leN size p.n) (thenX c (askX (writing b wb g0 K) 158 size t er)) := fun hz h => by rw [← hn]; exact h.ask m8 (by omega) hz
 have vi : ∀ {l : List UInt8} {c : X (WS × (Nat × List UInt8))}, Wn s l c → Wn s (l ++ leN 8 p.n) (thenX c (intPart (writing b wb g0 K))) := fun h => by rw [← hn]; exact h.next m8 (by omega) (by omega)
 have cast : ∀ {l l' : List UInt8} {c : X (WS × (Nat × List UInt8))}, l = l' → Wn s l c → Wn s l' c := fun e h => by subst e; exact h
 match op with
 | 1 => exact cast (by simp [docP, docL]) (vi (vr h))
 | 2 => exact cast (by simp [docP, docL]) (vs (vr h))
 | 3 => exact cast (by simp [docP, docL]) (vt (vs (vr h)))
 | 4 => exact cast (by simp [docP, docL]) (vt (vs (vr h)))
 | 5 => exact cast (by simp [docP, docL]) (vs (vr h))
 | 6 => exact cast (by simp [docP, docL]) (vn (size := 1) (by omega) (vr h))
 | 7 => exact cast (by simp [docP, docL]) (vn (size := 1) (by omega) (vs (vr h)))
 | 8 => exact cast (by simp [docP, docL]) (vn (size := 1) (by omega) (vs (vr h)))
 | 9 => exact cast (by simp [docP, docL]) (vn (size := 1) (by omega) (vr h))
 | 10 => exact cast (by simp [docP, docL]) (vn (size := 1) (by omega) (vs h))
 | 12 => exact cast (by simp [docP, docL]) (vs h)
 | 13 => exact cast (by simp [docP, docL]) (vn (size := 2) (by omega) h)
 | 14 => exact cast (by simp [docP, docL]) (vn (size := 2) (by omega) (vs h))
 | 16 => exact cast (by simp [docP, docL]) (vr h)
 | 17 => exact cast (by simp [docP, docL]) (vt (vs (vr h)))
 | 0 => omega
 | 11 => omega
 | 15 => omega
 | m + 18 => omega
theorem instr_doc {heads : List (Nat × Nat)} {fR i : Nat} {c : PI} {s : WS} {l : List UInt8} {st : Nat × List UInt8} {y : WS × (Nat × List UInt8)} (hx : Pos (s, st)) (hl : st.2 = l) (h : instrK (writing b wb g0 K) heads fR i c.args c.rets (inI c s, st) = .ok y) : Pos y ∧ y.2.2 = l ++ docI c := by
 obtain ⟨x1, h1, h⟩ := then_ok h
 have h0 : Wb (inI c s) l (inI c s, st) := ⟨hx, hl, fun _ _ _ => rfl⟩
 have w1 : Wb (inI c s) (l ++ leN 1 c.op) x1 := h0.step (o := 154) (by simp [places]) (by omega) (by omega) h1
 have eo : (inI c s).op = c.op := rfl
 suffices hw : Wb (inI c s) (l ++ leN 1 c.op ++ (docP c.op.toNat).flatMap (docL c)) y by
  refine ⟨hw.pos, ?_⟩
  rw [hw.bytes]
  unfold docI
  rw [List.append_assoc]
 split at h
 ·rename_i hop
  have hop : 1 ≤ c.op ∧ c.op ≤ 17 := hop
  split at h
  ·rename_i h15
   have h15 : c.op = 15 := h15
   obtain ⟨x2, h2, h3⟩ := then_ok h
   have w2 := w1.front x2 h2
   have w3 := w2.list h3
   rw [h15] at w3 ⊢
   simpa [docP, docL] using w3
  ·split at h
   ·rename_i h11
    have h11 : c.op = 11 := h11
    obtain ⟨x3, h3, h⟩ := then_ok h
    obtain ⟨x2, h2, h3⟩ := then_ok h3
    have w2 := w1.front x2 h2
    have w3 : Wb (inI c s) (l ++ leN 1 c.op ++ leN 2 c.n) x3 := w2.step (o := 158) (by simp [places]) (by omega) (by omega) (ask_next h3).1
    obtain ⟨x4, h4, h5⟩ := then_ok h
    have w5 := (w3.list h4).list h5
    rw [h11] at w5 ⊢
    simpa [docP, docL] using w5
   ·rename_i n15 n11
    have n15 : ¬ c.op = 15 := n15
    have n11 : ¬ c.op = 11 := n11
    have h : partsX (writing b wb g0 K) c.op.toNat _ = .ok y := h
    exact Wn.parts (p := c) c.op.toNat (by omega) rfl rfl rfl rfl w1.front y h
 ·cases h
theorem code_doc {heads : List (Nat × Nat)} {fR : Nat} : ∀ {cs : List PI} {i : Nat} {s : WS} {l : List UInt8} {st : Nat × List UInt8} {y : WS × (Nat × List UInt8)}, Pos (s, st) → st.2 = l → codeK (writing b wb g0 K) heads fR i cs (s, st) = .ok y → Pos y ∧ y.2.2 = l ++ cs.flatMap docI
 | [], i, s, l, st, y, hx, hl, h => by cases h; exact ⟨hx, by simpa using hl⟩
 | c :: r, i, s, l, st, y, hx, hl, h => by
   obtain ⟨z, h1, h2⟩ := then_ok h
   obtain ⟨p1, e1⟩ := instr_doc hx hl h1
   obtain ⟨z1, z2⟩ := z
   obtain ⟨p2, e2⟩ := code_doc (s := z1) (st := z2) p1 e1 h2
   exact ⟨p2, by rw [e2, List.flatMap_cons, List.append_assoc]⟩
theorem funcs_doc {heads : List (Nat × Nat)} : ∀ {fs : List PF} {s : WS} {l : List UInt8} {st : Nat × List UInt8} {y : WS × (Nat × List UInt8)}, Pos (s, st) → st.2 = l → funcsK (writing b wb g0 K) heads fs (s, st) = .ok y → Pos y ∧ y.2.2 = l ++ fs.flatMap docC
 | [], s, l, st, y, hx, hl, h => by cases h; exact ⟨hx, by simpa using hl⟩
 | f :: r, s, l, st, y, hx, hl, h => by
   obtain ⟨z, h1, h2⟩ := then_ok h
   obtain ⟨p1, e1⟩ := code_doc (s := inF f s) (st := st) hx hl h1
   obtain ⟨z1, z2⟩ := z
   obtain ⟨p2, e2⟩ := funcs_doc (s := z1) (st := z2) p1 e1 h2
   exact ⟨p2, by rw [e2, List.flatMap_cons, List.append_assoc]; rfl⟩
theorem head_doc {f : PF} {s : WS} {l : List UInt8} {st : Nat × List UInt8} {y : WS × (Nat × List UInt8)} (hx : Pos (s, st)) (hl : st.2 = l) (h : headX (writing b wb g0 K) (inF f s, st) = .ok y) : Pos y ∧ y.2.2 = l ++ docH f := by
 have hp := (head_sm (b := b) (bs := []) (br := 0) (rv := nilS) (x := (inF f s, st)) hx h).1.pos
 have h := (headX_then (writing b wb g0 K) (inF f s, st)).symm.trans h
 obtain ⟨y1, h1, h⟩ := then_ok h
 obtain ⟨y2, h2, h⟩ := then_ok h
 obtain ⟨y3, h3, h⟩ := then_ok h
 obtain ⟨y4, h4, h⟩ := then_ok h
 obtain ⟨u, -, h⟩ := then_ok h
 have h0 : Wb (inF f s) l (inF f s, st) := ⟨hx, hl, fun _ _ _ => rfl⟩
 have w1 := h0.step (o := 149) (by simp [places]) (by omega) (by omega) h1
 have w2 := w1.step (o := 150) (by simp [places]) (by omega) (by omega) h2
 have w3 := w2.step (o := 151) (by simp [places]) (by omega) (by omega) h3
 have w4 := w3.step (o := 153) (by simp [places]) (by omega) (by omega) h4
 have e : y.2 = y4.2 := loc_snd h
 refine ⟨hp, ?_⟩
 rw [e, w4.bytes]
 unfold docH
 simp only [List.append_assoc]
 rfl
theorem heads_doc : ∀ {fs : List PF} {s : WS} {l : List UInt8} {st : Nat × List UInt8} {y : WS × (Nat × List UInt8)}, Pos (s, st) → st.2 = l → headsK (writing b wb g0 K) fs (s, st) = .ok y → Pos y ∧ y.2.2 = l ++ fs.flatMap docH
 | [], s, l, st, y, hx, hl, h => by cases h; exact ⟨hx, by simpa using hl⟩
 | f :: r, s, l, st, y, hx, hl, h => by
   obtain ⟨z, h1, h2⟩ := then_ok h
   obtain ⟨p1, e1⟩ := head_doc hx hl h1
   obtain ⟨z1, z2⟩ := z
   obtain ⟨p2, e2⟩ := heads_doc (s := z1) (st := z2) p1 e1 h2
   exact ⟨p2, by rw [e2, List.flatMap_cons, List.append_assoc]⟩
theorem over_docP {room : Nat} {G : Int} {fs : List PF} {vw : Value} {y : WS × (Nat × List UInt8)} (hroom : 6 + 8 * room ≤ 1000000000000)
 (h : overK (writing b wb g0 K) G fs (WS.start vw, ((room, magicL) : Nat × List UInt8)) = .ok y) : Pos y ∧ y.2.2 = docAll G fs := by
 obtain ⟨x1, h1, h⟩ := then_ok h
 obtain ⟨x2, h2, h⟩ := then_ok h
 obtain ⟨x3, h3, h4⟩ := then_ok h
 have h0 : Wb ({ WS.start vw with globals := G, count := (fs.length : Nat) } : WS) magicL (({ WS.start vw with globals := G, count := (fs.length : Nat) } : WS), ((room, magicL) : Nat × List UInt8)) := ⟨⟨rfl, hroom⟩, rfl, fun _ _ _ => rfl⟩
 have w1 : Wb ({ WS.start vw with globals := G, count := (fs.length : Nat) } : WS) (magicL ++ leN 1 G) x1 := h0.step (o := 146) (by simp [places]) (by omega) (by omega) (ask_next h1).1
 obtain ⟨e1, -⟩ := wr_next (b := b) (o := 146) (by simp [places]) (by omega) h0.pos (ask_next h1).1
 have k1 : x1.1.get 161 = (fs.length : Nat) := by rw [e1]; rfl
 obtain ⟨e2, q2⟩ := wr_next (b := b) (o := 161) (by simp [places]) (by omega) w1.pos (ask_next h2).1
 have b2 : x2.2.2 = magicL ++ leN 1 G ++ leN 2 (fs.length : Nat) := by
  rw [e2]
  show x1.2.2 ++ leBytes 2 (IntKind.u64.wrap (x1.1.get 161)).toNat = _
  rw [w1.bytes, k1]
  rfl
 obtain ⟨x21, x22⟩ := x2
 obtain ⟨p3, b3⟩ := heads_doc q2.pos b2 h3
 obtain ⟨x31, x32⟩ := x3
 exact funcs_doc p3 b3 h4
theorem over_doc {room : Nat} {G : Int} {fs : List PF} {vw : Value} {y : WS × (Nat × List UInt8)} (hroom : 6 + 8 * room ≤ 1000000000000)
 (h : overK (writing b wb g0 K) G fs (WS.start vw, ((room, magicL) : Nat × List UInt8)) = .ok y) : y.2.2 = docAll G fs := (over_docP hroom h).2
end
end Go.Proofs.YtingenonbkencabDoor
