import Derived.Test.YtingenonbkencaaDoorQL0J
import Derived.Test.YtingenonbkencaaDoorQK7J
set_option linter.unusedVariables false
set_option linter.unusedSimpArgs false
namespace Go.Proofs.YtingenonbkencaaDoor
open Go.RowKit (wrap32 wrap64)
set_option maxRecDepth 100000
set_option maxHeartbeats 1000000
theorem leAt_low (bs : List UInt8) (p s : Nat) (h : p < bs.length) : leAt bs p (s + 1) = leAt bs (p + 1) s * 256 + bs[p].toNat := by
 unfold leAt
 rw [List.drop_eq_getElem_cons h, List.take_succ_cons]
 simp only [le]
 omega
theorem Fr.drewN {S : Nat → Prop} {a w : World} (h : Fr S a w) (n : Nat) : Fr S a (w.drewN n) := ⟨h.os, h.tape, h.output, h.size, h.block⟩
theorem u64_small (x : Nat) (h : x < 18446744073709551616) : IntKind.u64.wrap (x : Int) = x := by
 simp only [IntKind.wrap, IntKind.signed, IntKind.bits]
 simp
 omega
theorem leAt_56 (bs : List UInt8) (p s : Nat) (h : s ≤ 7) : leAt bs p s < 72057594037927936 :=
 Nat.lt_of_lt_of_le (leAt_lt bs p s) (Nat.le_trans (Nat.pow_le_pow_right (by decide) h) (by decide))
theorem RD.noByte {r rb : Nat} {bv : Value} {w : World} {p q o : Int} (h : RD r rb bv w p q o) (hbv : ∀ z, bv ≠ .int .u8 z) (m : Nat) (z : Int) : w.cell? ⟨r, m, none⟩ ≠ some (.int .u8 z) := by
 rw [cell_of h]
 intro e
 match m with
 | 0 => cases e
 | 1 => exact hbv z (Option.some.inj e)
 | 2 => cases e
 | 3 => cases e
 | 4 => cases e
 | m + 5 => cases e
theorem thing_any (r rb : Nat) (a : Option Addr) (c : Nat) (bs : List UInt8) (G : Int) (fv : Value) (w : World) (P : Nat) (q o L : Int) (h : RD r rb (.slice a bs.length c) w P q o) (k : RW rb G fv w L 0) (hb : BytesIn w (.slice a bs.length c) bs) (hne : rb ≠ r) (hP : P ≤ bs.length) (n : Nat) (hn1 : 1 ≤ n) (hn : n ≤ 8) :
 Calls Tryd.prog 42 #[.pointer (some ⟨r, 0, none⟩), .int .i64 n] w fun e w' => Fr (fun j => j = r ∨ j = rb) w w' ∧ match rd bs P n with
  | .ok v => e = .returned (vI v) ∧ RD r rb (.slice a bs.length c) w' ((P + n : Nat) : Int) P o ∧ RW rb G fv w' L 0
  | .error z => e = .returned (vI 0) ∧ z.1 ≠ 0 ∧ RD r rb (.slice a bs.length c) w' P q z.2 ∧ RW rb G fv w' L z.1 := by
 obtain ⟨c0, c1, c2, c3, c4, hz, hlt⟩ := h.cells
 have z2 := hz 2
 have z3 := hz 3
 have z4 := hz 4
 obtain ⟨-, -, -, k3, kz, klt⟩ := k.cells
 have HH : Hd (RD r rb (.slice a bs.length c) w P q o) := h
 have KK : Hd (RW rb G fv w L 0) := k
 have hop := ropen_any r rb _ G fv w P q o L 0 h k
 obtain ⟨hL, -⟩ := id hb
 have HB : Hd (BytesIn w (.slice a bs.length c) bs) := hb
 clear h k hz hb
 obtain ⟨N, hN⟩ : ∃ N, N = bs.length := ⟨_, rfl⟩
 have HN : Hd (N = bs.length) := hN
 rw [← hN] at c1 hP hL
 clear hN
 by_cases hsh : P + n ≤ N
 rotate_left
 ·have e1 : rd bs P n = .error (11, (bs.length : Nat)) := by unfold rd; rw [if_neg (by rw [← HN.out]; exact hsh)]
  rw [e1]
  have hlss : ((N : Int) - P < n) := by omega
  have hwN : wrap64 ((N : Int) - P) = N - P := w64r (by omega) (by omega)
  clear e1
  go_enter Tryd.func42, Tryd.ntmps42
  go_wp2_with fail
  refine hop.mono ?_
  rintro e w1 ⟨rfl, rfl⟩
  clear hop
  go_upto_region 3 with fail
  refine wp_region_still_tail 11 mixed (by kernel_rfl) ?_
  simp only [List.take_succ_cons, List.take_zero, List.drop_succ_cons, List.drop_zero]
  repeat still_step
  refine wpStill_nil ?_
  have d0 : w1.drew.cell? ⟨r, 0, none⟩ = some (.pointer (some ⟨rb, 0, none⟩)) := c0
  have d1 : w1.drew.cell? ⟨r, 1, none⟩ = some (.slice a N c) := c1
  have HK1 : Hd (RW rb G fv (w1.setCell ⟨rb, 3, none⟩ (vI 11)).drew L 11) := RW.setE KK.out 11
  have HR1 : Hd (RD r rb (.slice a bs.length c) (w1.setCell ⟨rb, 3, none⟩ (vI 11)).drew P q o) := HH.out.fr (S := fun j => j = rb) (Fr.drew (setCell_fr w1 rb 3 (vI 11))) (fun e => hne e.symm)
  go_upto_region 5 with fail
  have e0 := HR1.out.cells.2.1
  rw [← HN.out] at e0
  have e4 := HR1.out.cells.2.2.2.2.1
  have ez := HR1.out.cells.2.2.2.2.2.1 4
  have elt := HR1.out.cells.2.2.2.2.2.2
  have HF : Hd (Fr (fun j => j = r ∨ j = rb) w1 (w1.setCell ⟨rb, 3, none⟩ (vI 11)).drew) := ((setCell_fr _ _ _ _).mono (fun _ _ e => Or.inr e)).drew
  rw [show (w1.setCell ⟨rb, 3, none⟩ (.int .i64 11)).drew = (w1.setCell ⟨rb, 3, none⟩ (vI 11)).drew from rfl]
  generalize (w1.setCell ⟨rb, 3, none⟩ (vI 11)).drew = w2 at *
  go_wp2_with fail
  go_ret
  refine ⟨HF.out.trans ((setCell_fr _ _ _ _).mono (fun _ _ e => Or.inl e)), rfl, by decide, ?_, HK1.out.fr (S := fun j => j = r) (setCell_fr w2 r 4 _) hne⟩
  rw [← HN.out]
  exact RD.setO (by have := HR1.out; rw [← HN.out] at this; exact this) N
 ·have e1 : rd bs P n = .ok (wrap64 (leAt bs P n)) := by unfold rd; rw [if_pos (by rw [← HN.out]; exact hsh)]
  rw [e1]
  have hlss : ¬ ((N : Int) - P < n) := by omega
  have hwN : wrap64 ((N : Int) - P) = N - P := w64r (by omega) (by omega)
  have hwn : wrap64 ((n : Int) - 1) = n - 1 := w64r (by omega) (by omega)
  clear e1
  go_enter Tryd.func42, Tryd.ntmps42
  go_wp2_with fail
  refine hop.mono ?_
  rintro e w1 ⟨rfl, rfl⟩
  clear hop
  go_upto_region 3 with fail
  refine wp_region_still_tail 11 mixed (by kernel_rfl) ?_
  simp only [List.take_succ_cons, List.take_zero, List.drop_succ_cons, List.drop_zero]
  repeat still_step
  refine wpStill_nil ?_
  have d0 : w1.drew.cell? ⟨r, 2, none⟩ = some (vI P) := c2
  have d3 : w1.drew.cell? ⟨r, 3, none⟩ = some (vI q) := c3
  have d4 : w1.drew.frozen? ⟨r, 3, none⟩ = false := z3
  have HR1 : Hd (RD r rb (.slice a bs.length c) (w1.setCell ⟨r, 3, none⟩ (vI P)).drew P P o) := HH.out.setQ P
  have HK1 : Hd (RW rb G fv (w1.setCell ⟨r, 3, none⟩ (vI P)).drew L 0) := KK.out.fr (S := fun j => j = r) (Fr.drew (setCell_fr w1 r 3 (vI P))) hne
  have HF : Hd (Fr (fun j => j = r) w1 (w1.setCell ⟨r, 3, none⟩ (vI P)).drew) := (setCell_fr _ _ _ _).drew
  go_upto_region 8 with fail
  rw [show (w1.setCell ⟨r, 3, none⟩ (.int .i64 P)).drew = (w1.setCell ⟨r, 3, none⟩ (vI P)).drew from rfl]
  generalize (w1.setCell ⟨r, 3, none⟩ (vI P)).drew = w2 at *
  go_wp2_with fail
  go_loopw [5, 6] (fun u i wr => ∃ (j V : Nat) (z : Int), j ≤ n ∧ i = .int .i64 z ∧ z = (j : Int) - 1 ∧ u = .int .u64 V ∧ Hd (V = leAt bs (P + j) (n - j)) ∧ Hd (RD r rb (.slice a bs.length c) wr P P o) ∧ Hd (RW rb G fv wr L 0) ∧ Hd (Fr (fun j => j = r) w1 wr)) (fun _ i _ => match i with | .int _ q => (q + 1).toNat | _ => 0)
  case atStart => exact ⟨n, 0, (n : Int) - 1, Nat.le_refl _, rfl, rfl, rfl, by unfold Hd; rw [Nat.sub_self, leAt_zero], HR1.out, HK1.out, HF.out⟩
  case round =>
   clear HR1 HK1 HF c0 c1 c2 c3 c4 z2 z3 z4 k3 kz klt d0 d3 d4 hlss hwN hwn
   obtain ⟨j, V, z, hj, rfl, hzj, rfl, HV, HR, HK, HF⟩ := hrel
   by_cases hj0 : j = 0
   ·subst hj0
    have hz1 : z = -1 := by omega
    subst hz1
    clear hzj
    have x2 := HR.out.cells.2.2.1
    have xz := HR.out.cells.2.2.2.2.2.1 2
    have xl := HR.out.cells.2.2.2.2.2.2
    have hwP : wrap64 ((P : Int) + n) = ((P + n : Nat) : Int) := by rw [w64r (by omega) (by omega)]; omega
    have HCV : Hd (wrap64 (V : Int) = wrap64 (leAt bs P n)) := by
     have := HV.out
     rw [Nat.add_zero, Nat.sub_zero] at this
     unfold Hd
     rw [this]
    clear HV
    go_wp2_with fail
    go_ret
    refine ⟨(HF.out.trans (setCell_fr wr r 2 _)).mono (fun _ _ e => Or.inl e), ?_, ?_, HK.out.fr (S := fun j => j = r) (setCell_fr wr r 2 _) hne⟩
    ·show Ending.returned (vI (wrap64 (V : Int))) = _
     rw [HCV.out]
    ·rw [show ((P + n : Nat) : Int) = (P : Int) + n by omega]
     exact HR.out.setP ((P : Int) + n)
   ·obtain ⟨i, rfl⟩ : ∃ i, j = i + 1 := ⟨j - 1, by omega⟩
    have hzi : z = (i : Int) := by omega
    subst hzi
    clear hzj hj0
    have x1 := HR.out.cells.2.1
    have x2 := HR.out.cells.2.2.1
    have xl := HR.out.cells.2.2.2.2.2.2
    rw [← HN.out] at x1
    have hPi : P + i < bs.length := by rw [← HN.out]; omega
    have hwi : wrap64 ((P : Int) + i) = ((P + i : Nat) : Int) := by rw [w64r (by omega) (by omega)]; omega
    have hwi2 : IntKind.i64.wrap ((P : Int) + i) = ((P + i : Nat) : Int) := by rw [wrap_small _ (by omega) (by omega)]; omega
    have hix : (0 : Int) ≤ ((P + i : Nat) : Int) ∧ ((P + i : Nat) : Int) < N := ⟨Int.natCast_nonneg _, Int.ofNat_lt.2 (by rw [HN.out]; exact hPi)⟩
    have hin : (P + i : Nat) < N := by rw [HN.out]; exact hPi
    obtain ⟨-, a', c', e0, hc', hcell⟩ := HB.out
    cases e0
    obtain ⟨g, o', rfl, hg, hcs⟩ := hcell (by intro e; rw [e] at hPi; simp at hPi)
    have hgr : g ≠ r := fun e => RD.noByte HH.out (fun z h => by cases h) _ _ (e ▸ hcs (P + i) hPi)
    have xc : wr.cell? ⟨g, o' + (P + i), none⟩ = some (.int .u8 (bs[P + i].toNat : Nat)) := (HF.out.cell hg hgr).trans (hcs _ hPi)
    have hlo := leAt_low bs (P + i) (n - (i + 1)) hPi
    have hVl : V < 72057594037927936 := by rw [HV.out]; exact leAt_56 bs _ _ (by omega)
    have HV2 : Hd (V * 256 + bs[P + i].toNat = leAt bs (P + i) (n - i)) := by
     unfold Hd
     rw [show n - i = n - (i + 1) + 1 by omega, hlo, show P + i + 1 = P + (i + 1) by omega, ← HV.out]
    have hby : bs[P + i].toNat < 256 := UInt8.toNat_lt _
    clear hlo HV hcs hcell
    generalize bs[P + i].toNat = y at *
    have hm1 : IntKind.u64.wrap ((V : Int) * 256) = ((V * 256 : Nat) : Int) := by
     rw [show (V : Int) * 256 = ((V * 256 : Nat) : Int) by omega]
     exact u64_small (V * 256) (by omega)
    have hm2 : IntKind.u64.wrap (((V * 256 : Nat) : Int) + y) = ((V * 256 + y : Nat) : Int) := by
     rw [show ((V * 256 : Nat) : Int) + y = ((V * 256 + y : Nat) : Int) by omega]
     exact u64_small (V * 256 + y) (by omega)
    have hm3 : IntKind.u64.wrap (y : Int) = y := u64_small y (by omega)
    go_upto_region 12 with fail
    go_quiet (fail)
    go_wp2_with fail
    clear hm1 hm2 hm3 hwi hwi2
    exact ⟨⟨i, V * 256 + y, (i : Int) - 1, by omega, rfl, rfl, by (rw [Int.natCast_add, Int.natCast_mul]; try rfl), HV2.out, HR.out, HK.out, HF.out.drewN _⟩, by (simp; try omega)⟩
set_option maxRecDepth 100000
set_option maxHeartbeats 1000000
structure DS where
 p : Nat
 q : Int
 o : Int
 L : Int
 E : Int
def thingD (bs : List UInt8) (n : Nat) (s : DS) : Int × DS :=
 if s.E = 0 then (match rd bs s.p n with | .ok v => (v, { s with p := s.p + n, q := s.p }) | .error z => (0, { s with o := z.2, E := z.1 })) else (0, s)
def mustD (ok : Bool) (er : Int) (s : DS) : DS := { s with E := mustE ok er s.E, o := toldO (s.E == 0) (mustE ok er s.E) s.q s.o }
def varD (bs : List UInt8) (V : Int) (s : DS) : Int × DS := ((thingD bs 1 s).1, mustD (decide ((thingD bs 1 s).1 < V)) 13 (thingD bs 1 s).2)
structure DR (r rb : Nat) (a : Option Addr) (c : Nat) (bs : List UInt8) (G : Int) (fv : Value) (w : World) (s : DS) : Prop where
 rd : RD r rb (.slice a bs.length c) w s.p s.q s.o
 rw : RW rb G fv w s.L s.E
 bytes : BytesIn w (.slice a bs.length c) bs
 ne : rb ≠ r
 le : s.p ≤ bs.length
theorem RW.noByte {rb : Nat} {G : Int} {fv : Value} {w : World} {L E : Int} (h : RW rb G fv w L E) (hfv : ∀ z, fv ≠ .int .u8 z) (m : Nat) (z : Int) : w.cell? ⟨rb, m, none⟩ ≠ some (.int .u8 z) := by
 have h : w.heap[rb]? = some (.cells #[vI G, fv, vI L, vI E] 58) := h
 rw [cell_of h]
 intro e
 match m with
 | 0 => cases e
 | 1 => exact hfv z (Option.some.inj e)
 | 2 => cases e
 | 3 => cases e
 | m + 4 => cases e
theorem DR.bytes' {r rb : Nat} {a : Option Addr} {c : Nat} {bs : List UInt8} {G : Int} {fv : Value} {w w' : World} {s : DS} (h : DR r rb a c bs G fv w s) (hfv : ∀ z, fv ≠ .int .u8 z) (f : Fr (fun j => j = r ∨ j = rb) w w') : BytesIn w' (.slice a bs.length c) bs := by
 obtain ⟨hL, a', c', e, hc, hb⟩ := h.bytes
 refine ⟨hL, a', c', e, hc, fun hne => ?_⟩
 obtain ⟨k, o, e2, hk, hcell⟩ := hb hne
 have h0 : 0 < bs.length := by cases bs with | nil => exact absurd rfl hne | cons x l => simp
 have hS : ¬ (k = r ∨ k = rb) := by
  rintro (e3 | e3)
  ·exact RD.noByte h.rd (fun z e => by cases e) _ _ (e3 ▸ hcell 0 h0)
  ·exact RW.noByte h.rw hfv _ _ (e3 ▸ hcell 0 h0)
 exact ⟨k, o, e2, Nat.lt_of_lt_of_le hk f.size, fun i hi => (f.cell hk hS).trans (hcell i hi)⟩
theorem thing_closed (r rb : Nat) (bv : Value) (G : Int) (fv : Value) (w : World) (p q o L E : Int) (h : RD r rb bv w p q o) (k : RW rb G fv w L E) (hE : E ≠ 0) (n : Nat) :
 Calls Tryd.prog 42 #[.pointer (some ⟨r, 0, none⟩), .int .i64 n] w fun e w' => e = .returned (vI 0) ∧ w' = w := by
 have hop := ropen_any r rb bv G fv w p q o L E h k
 have b0 : (E == 0) = false := by simpa using hE
 rw [b0] at hop
 clear h k
 go_enter Tryd.func42, Tryd.ntmps42
 go_wp2_with fail
 refine hop.mono ?_
 rintro e w1 ⟨rfl, rfl⟩
 go_wp2_with fail
 go_ret
 exact ⟨rfl, rfl⟩
theorem rd_fits {bs : List UInt8} {p n : Nat} {v : Int} (h : rd bs p n = .ok v) : p + n ≤ bs.length := by
 unfold rd at h
 split at h
 ·assumption
 ·cases h
theorem thing_D {r rb : Nat} {a : Option Addr} {c : Nat} {bs : List UInt8} {G : Int} {fv : Value} {w : World} {s : DS} (h : DR r rb a c bs G fv w s) (hfv : ∀ z, fv ≠ .int .u8 z) (n : Nat) (hn1 : 1 ≤ n) (hn : n ≤ 8) :
 Calls Tryd.prog 42 #[.pointer (some ⟨r, 0, none⟩), .int .i64 n] w fun e w' => e = .returned (vI (thingD bs n s).1) ∧ DR r rb a c bs G fv w' (thingD bs n s).2 ∧ Fr (fun j => j = r ∨ j = rb) w w' := by
 by_cases hE : s.E = 0
 ·have hk := h.rw
  rw [hE] at hk
  refine (thing_any r rb a c bs G fv w s.p s.q s.o s.L h.rd hk h.bytes h.ne h.le n hn1 hn).mono ?_
  rintro e w' ⟨f, hr⟩
  have hb := h.bytes' hfv f
  have ht : thingD bs n s = (match rd bs s.p n with | .ok v => (v, { s with p := s.p + n, q := s.p }) | .error z => (0, { s with o := z.2, E := z.1 })) := if_pos hE
  rw [ht]
  cases hx : rd bs s.p n with
  | ok v =>
    rw [hx] at hr
    obtain ⟨e1, h1, h2⟩ := hr
    exact ⟨e1, ⟨h1, by show RW rb G fv w' s.L s.E; rw [hE]; exact h2, hb, h.ne, rd_fits hx⟩, f⟩
  | error z =>
    rw [hx] at hr
    obtain ⟨e1, -, h1, h2⟩ := hr
    exact ⟨e1, ⟨h1, h2, hb, h.ne, h.le⟩, f⟩
 ·refine (thing_closed r rb _ G fv w _ _ _ _ _ h.rd h.rw hE n).mono ?_
  rintro e w' ⟨rfl, rfl⟩
  have ht : thingD bs n s = (0, s) := if_neg hE
  rw [ht]
  exact ⟨rfl, h, Fr.refl _ _⟩
theorem must_D {r rb : Nat} {a : Option Addr} {c : Nat} {bs : List UInt8} {G : Int} {fv : Value} {w : World} {s : DS} (h : DR r rb a c bs G fv w s) (hfv : ∀ z, fv ≠ .int .u8 z) (ok : Bool) (er : Int) :
 Calls Tryd.prog 43 #[.pointer (some ⟨r, 0, none⟩), .bool ok, vI er] w fun e w' => e = .returned (.tuple #[]) ∧ DR r rb a c bs G fv w' (mustD ok er s) ∧ Fr (fun j => j = r ∨ j = rb) w w' := by
 refine (rdmust_any r rb _ G fv w s.p s.q s.o s.L s.E h.rd h.rw ok er h.ne).mono ?_
 rintro e w' ⟨e1, h1, h2, f⟩
 exact ⟨e1, ⟨h1, h2, h.bytes' hfv f, h.ne, h.le⟩, f⟩
theorem DR.stay {r rb : Nat} {a : Option Addr} {c : Nat} {bs : List UInt8} {G : Int} {fv : Value} {w w' : World} {s : DS} (h : DR r rb a c bs G fv w s) (f : Fr (fun _ => False) w w') : DR r rb a c bs G fv w' s :=
 ⟨h.rd.fr f (fun e => e), h.rw.fr f (fun e => e), h.bytes.grow f, h.ne, h.le⟩
theorem var_D {r rb : Nat} {a : Option Addr} {c : Nat} {bs : List UInt8} {G : Int} {fv : Value} {w : World} {s : DS} (h : DR r rb a c bs G fv w s) (hfv : ∀ z, fv ≠ .int .u8 z) (fP fR fV : Int) (fc : Value) :
 Calls Tryd.prog 71 #[.pointer (some ⟨r, 0, none⟩), .agg #[vI fP, vI fR, vI fV, fc]] w fun e w' => e = .returned (vI (varD bs fV s).1) ∧ DR r rb a c bs G fv w' (varD bs fV s).2 ∧ Fr (fun j => j = r ∨ j = rb) w w' := by
 obtain ⟨W, HW⟩ : ∃ W, W = w.alloc (.cells #[vI fP, vI fR, vI fV, fc] 67) := ⟨_, rfl⟩
 have hf1 : Fr (fun _ => False) w W := by rw [HW]; exact Fr.alloc (Fr.refl _ _) _
 have hx1 : W.heap[w.heap.size]? = some (.cells #[vI fP, vI fR, vI fV, fc] 67) := by rw [HW]; exact heap_new w _
 have h1 := h.stay hf1
 have hr : r < w.heap.size := heap_lt h.rd
 have hrb : rb < w.heap.size := heap_lt h.rw
 have HF1 : Hd (Fr (fun j => j = r ∨ j = rb) w W) := hf1.mono (fun _ _ e => e.elim)
 have hcall := thing_D h1 hfv 1 (by omega) (by omega)
 have HD : Hd (varD bs fV s = ((thingD bs 1 s).1, mustD (decide ((thingD bs 1 s).1 < fV)) 13 (thingD bs 1 s).2)) := rfl
 generalize thingD bs 1 s = T at *
 obtain ⟨v, s1⟩ := T
 obtain ⟨H, hH⟩ : ∃ H, H = w.heap.size := ⟨_, rfl⟩
 rw [← hH] at hx1 hr hrb
 clear h h1 hf1
 go_enter Tryd.func71, Tryd.ntmps71
 go_upto_region 1 with fail
 rw [← HW, ← hH]
 clear HW hH
 go_wp2_with fail
 refine hcall.mono ?_
 rintro e w2 ⟨rfl, h2, f2⟩
 have hx2 : w2.heap[H]? = some (.cells #[vI fP, vI fR, vI fV, fc] 67) := (f2.block H (heap_lt hx1) (by omega)).trans hx1
 have y2 : w2.cell? ⟨H, 2, none⟩ = some (vI fV) := by rw [cell_of hx2]; rfl
 have HF2 : Hd (Fr (fun j => j = r ∨ j = rb) w w2) := HF1.out.trans f2
 have hcall2 := must_D h2 hfv (decide (v < fV)) 13
 clear hcall h2 f2 hx1 hx2 HF1
 go_wp2_with fail
 refine hcall2.mono ?_
 rintro e w3 ⟨rfl, h3, f3⟩
 clear hcall2 y2
 go_wp2_with fail
 go_ret
 rw [HD.out]
 exact ⟨rfl, h3, HF2.out.trans f3⟩
set_option maxRecDepth 100000
set_option maxHeartbeats 1000000
def numD (bs : List UInt8) (sz : Nat) (NE : Int → Int → Int) (s : DS) : Int × DS :=
 ((thingD bs sz s).1, if (thingD bs sz s).2.E = 0 then { (thingD bs sz s).2 with E := NE (thingD bs sz s).1 0, o := toldO true (NE (thingD bs sz s).1 0) (thingD bs sz s).2.q (thingD bs sz s).2.o } else (thingD bs sz s).2)
theorem num_c {r rb : Nat} {a : Option Addr} {c : Nat} {bs : List UInt8} {G : Int} {fa : Option Addr} {nf fc : Nat} {w : World} {s : DS} (h : DR r rb a c bs G (.slice fa nf fc) w s) (n : Int) :
 Calls Tryd.prog 73 #[.pointer (some ⟨r, 0, none⟩), .int .u8 99, vI n] w fun e w' => e = .returned (vI (numD bs 1 (fun v E => mustE (numB 1 9 v) 17 E) s).1) ∧ DR r rb a c bs G (.slice fa nf fc) w' (numD bs 1 (fun v E => mustE (numB 1 9 v) 17 E) s).2 ∧ Fr (fun j => j = r ∨ j = rb) w w' := by
 have hfv : ∀ z, Value.slice fa nf fc ≠ .int .u8 z := fun z e => by cases e
 have hcall := thing_D h hfv 1 (by omega) (by omega)
 have HD : Hd (numD bs 1 (fun v E => mustE (numB 1 9 v) 17 E) s = ((thingD bs 1 s).1, if (thingD bs 1 s).2.E = 0 then { (thingD bs 1 s).2 with E := (fun v E => mustE (numB 1 9 v) 17 E) (thingD bs 1 s).1 0, o := toldO true ((fun v E => mustE (numB 1 9 v) 17 E) (thingD bs 1 s).1 0) (thingD bs 1 s).2.q (thingD bs 1 s).2.o } else (thingD bs 1 s).2)) := rfl
 generalize thingD bs 1 s = T at *
 obtain ⟨v, s1⟩ := T
 rw [HD.out]
 clear HD h
 go_enter Tryd.func73, Tryd.ntmps73
 go_wp2_with fail
 refine hcall.mono ?_
 rintro e w2 ⟨rfl, h2, f2⟩
 have hop := ropen_any r rb _ G _ w2 _ _ _ _ _ h2.rd h2.rw
 have c0 := h2.rd.cells.1
 have c3 := h2.rd.cells.2.2.2.1
 have H2 : Hd _ := h2
 have HF2 : Hd (Fr (fun j => j = r ∨ j = rb) w w2) := f2
 clear hcall h2 f2
 go_wp2_with fail
 refine hop.mono ?_
 rintro e w3 ⟨rfl, rfl⟩
 clear hop
 by_cases hE : s1.E = 0
 ·have hk0 := H2.out.rw
  rw [hE] at hk0
  have hb : (s1.E == 0) = true := by simpa using hE
  have hnum := rnumber_c rb G fa nf fc w3 s1.L 0 hk0 v n
  clear hk0
  rw [hb]
  go_wp2_with fail
  refine hnum.mono ?_
  rintro e w4 ⟨rfl, k4, f4⟩
  have h4 : RD r rb (.slice a bs.length c) w4 s1.p s1.q s1.o := H2.out.rd.fr f4 (fun e => H2.out.ne e.symm)
  have hto := rtold_any r rb _ G _ w4 _ _ _ _ _ h4 k4 true s1.q H2.out.ne
  have d3 := h4.cells.2.2.2.1
  have d0 := h4.cells.1
  have HF4 : Hd (Fr (fun j => j = r ∨ j = rb) w w4) := HF2.out.trans (f4.mono (fun _ _ e => Or.inr e))
  have HG4 : Hd (Fr (fun j => j = r ∨ j = rb) w3 w4) := f4.mono (fun _ _ e => Or.inr e)
  clear hnum k4 f4 h4 c0 c3
  go_wp2_with fail
  refine hto.mono ?_
  rintro e w5 ⟨rfl, h5, k5, f5⟩
  have HF5 : Hd (Fr (fun j => j = r ∨ j = rb) w w5) := HF4.out.trans (f5.mono (fun _ _ e => Or.inl e))
  have hff : Hd (Fr (fun j => j = r ∨ j = rb) w3 w5) := HG4.out.trans (f5.mono (fun _ _ e => Or.inl e))
  clear hto d3 d0
  go_wp2_with fail
  go_ret
  simp only [hE, if_true]
  exact ⟨rfl, ⟨h5, k5, H2.out.bytes' hfv hff.out, H2.out.ne, H2.out.le⟩, HF5.out⟩
 ·have hb : (s1.E == 0) = false := by simpa using hE
  have hto := rtold_any r rb _ G _ w3 _ _ _ _ _ H2.out.rd H2.out.rw false s1.q H2.out.ne
  rw [hb]
  go_wp2_with fail
  refine hto.mono ?_
  rintro e w5 ⟨rfl, h5, k5, f5⟩
  have HF5 : Hd (Fr (fun j => j = r ∨ j = rb) w3 w5) := f5.mono (fun _ _ e => Or.inl e)
  clear hto c0 c3
  go_wp2_with fail
  go_ret
  simp only [hE, if_false]
  have e0 : toldO false s1.E s1.q s1.o = s1.o := if_neg (fun h => by cases h.1)
  rw [e0] at h5
  exact ⟨rfl, ⟨h5, k5, H2.out.bytes' hfv HF5.out, H2.out.ne, H2.out.le⟩, HF2.out.trans HF5.out⟩
theorem num_f {r rb : Nat} {a : Option Addr} {c : Nat} {bs : List UInt8} {G : Int} {fa : Option Addr} {nf fc : Nat} {w : World} {s : DS} (h : DR r rb a c bs G (.slice fa nf fc) w s) (n : Int) :
 Calls Tryd.prog 73 #[.pointer (some ⟨r, 0, none⟩), .int .u8 102, vI n] w fun e w' => e = .returned (vI (numD bs 1 (fun v E => mustE (numB 0 8 v) 17 E) s).1) ∧ DR r rb a c bs G (.slice fa nf fc) w' (numD bs 1 (fun v E => mustE (numB 0 8 v) 17 E) s).2 ∧ Fr (fun j => j = r ∨ j = rb) w w' := by
 have hfv : ∀ z, Value.slice fa nf fc ≠ .int .u8 z := fun z e => by cases e
 have hcall := thing_D h hfv 1 (by omega) (by omega)
 have HD : Hd (numD bs 1 (fun v E => mustE (numB 0 8 v) 17 E) s = ((thingD bs 1 s).1, if (thingD bs 1 s).2.E = 0 then { (thingD bs 1 s).2 with E := (fun v E => mustE (numB 0 8 v) 17 E) (thingD bs 1 s).1 0, o := toldO true ((fun v E => mustE (numB 0 8 v) 17 E) (thingD bs 1 s).1 0) (thingD bs 1 s).2.q (thingD bs 1 s).2.o } else (thingD bs 1 s).2)) := rfl
 generalize thingD bs 1 s = T at *
 obtain ⟨v, s1⟩ := T
 rw [HD.out]
 clear HD h
 go_enter Tryd.func73, Tryd.ntmps73
 go_wp2_with fail
 refine hcall.mono ?_
 rintro e w2 ⟨rfl, h2, f2⟩
 have hop := ropen_any r rb _ G _ w2 _ _ _ _ _ h2.rd h2.rw
 have c0 := h2.rd.cells.1
 have c3 := h2.rd.cells.2.2.2.1
 have H2 : Hd _ := h2
 have HF2 : Hd (Fr (fun j => j = r ∨ j = rb) w w2) := f2
 clear hcall h2 f2
 go_wp2_with fail
 refine hop.mono ?_
 rintro e w3 ⟨rfl, rfl⟩
 clear hop
 by_cases hE : s1.E = 0
 ·have hk0 := H2.out.rw
  rw [hE] at hk0
  have hb : (s1.E == 0) = true := by simpa using hE
  have hnum := rnumber_f rb G fa nf fc w3 s1.L 0 hk0 v n
  clear hk0
  rw [hb]
  go_wp2_with fail
  refine hnum.mono ?_
  rintro e w4 ⟨rfl, k4, f4⟩
  have h4 : RD r rb (.slice a bs.length c) w4 s1.p s1.q s1.o := H2.out.rd.fr f4 (fun e => H2.out.ne e.symm)
  have hto := rtold_any r rb _ G _ w4 _ _ _ _ _ h4 k4 true s1.q H2.out.ne
  have d3 := h4.cells.2.2.2.1
  have d0 := h4.cells.1
  have HF4 : Hd (Fr (fun j => j = r ∨ j = rb) w w4) := HF2.out.trans (f4.mono (fun _ _ e => Or.inr e))
  have HG4 : Hd (Fr (fun j => j = r ∨ j = rb) w3 w4) := f4.mono (fun _ _ e => Or.inr e)
  clear hnum k4 f4 h4 c0 c3
  go_wp2_with fail
  refine hto.mono ?_
  rintro e w5 ⟨rfl, h5, k5, f5⟩
  have HF5 : Hd (Fr (fun j => j = r ∨ j = rb) w w5) := HF4.out.trans (f5.mono (fun _ _ e => Or.inl e))
  have hff : Hd (Fr (fun j => j = r ∨ j = rb) w3 w5) := HG4.out.trans (f5.mono (fun _ _ e => Or.inl e))
  clear hto d3 d0
  go_wp2_with fail
  go_ret
  simp only [hE, if_true]
  exact ⟨rfl, ⟨h5, k5, H2.out.bytes' hfv hff.out, H2.out.ne, H2.out.le⟩, HF5.out⟩
 ·have hb : (s1.E == 0) = false := by simpa using hE
  have hto := rtold_any r rb _ G _ w3 _ _ _ _ _ H2.out.rd H2.out.rw false s1.q H2.out.ne
  rw [hb]
  go_wp2_with fail
  refine hto.mono ?_
  rintro e w5 ⟨rfl, h5, k5, f5⟩
  have HF5 : Hd (Fr (fun j => j = r ∨ j = rb) w3 w5) := f5.mono (fun _ _ e => Or.inl e)
  clear hto c0 c3
  go_wp2_with fail
  go_ret
  simp only [hE, if_false]
  have e0 : toldO false s1.E s1.q s1.o = s1.o := if_neg (fun h => by cases h.1)
  rw [e0] at h5
  exact ⟨rfl, ⟨h5, k5, H2.out.bytes' hfv HF5.out, H2.out.ne, H2.out.le⟩, HF2.out.trans HF5.out⟩
theorem num_g {r rb : Nat} {a : Option Addr} {c : Nat} {bs : List UInt8} {G : Int} {fa : Option Addr} {nf fc : Nat} {w : World} {s : DS} (h : DR r rb a c bs G (.slice fa nf fc) w s) (n : Int) :
 Calls Tryd.prog 73 #[.pointer (some ⟨r, 0, none⟩), .int .u8 103, vI n] w fun e w' => e = .returned (vI (numD bs 1 (fun v E => mustE (numB 0 G v) 18 E) s).1) ∧ DR r rb a c bs G (.slice fa nf fc) w' (numD bs 1 (fun v E => mustE (numB 0 G v) 18 E) s).2 ∧ Fr (fun j => j = r ∨ j = rb) w w' := by
 have hfv : ∀ z, Value.slice fa nf fc ≠ .int .u8 z := fun z e => by cases e
 have hcall := thing_D h hfv 1 (by omega) (by omega)
 have HD : Hd (numD bs 1 (fun v E => mustE (numB 0 G v) 18 E) s = ((thingD bs 1 s).1, if (thingD bs 1 s).2.E = 0 then { (thingD bs 1 s).2 with E := (fun v E => mustE (numB 0 G v) 18 E) (thingD bs 1 s).1 0, o := toldO true ((fun v E => mustE (numB 0 G v) 18 E) (thingD bs 1 s).1 0) (thingD bs 1 s).2.q (thingD bs 1 s).2.o } else (thingD bs 1 s).2)) := rfl
 generalize thingD bs 1 s = T at *
 obtain ⟨v, s1⟩ := T
 rw [HD.out]
 clear HD h
 go_enter Tryd.func73, Tryd.ntmps73
 go_wp2_with fail
 refine hcall.mono ?_
 rintro e w2 ⟨rfl, h2, f2⟩
 have hop := ropen_any r rb _ G _ w2 _ _ _ _ _ h2.rd h2.rw
 have c0 := h2.rd.cells.1
 have c3 := h2.rd.cells.2.2.2.1
 have H2 : Hd _ := h2
 have HF2 : Hd (Fr (fun j => j = r ∨ j = rb) w w2) := f2
 clear hcall h2 f2
 go_wp2_with fail
 refine hop.mono ?_
 rintro e w3 ⟨rfl, rfl⟩
 clear hop
 by_cases hE : s1.E = 0
 ·have hk0 := H2.out.rw
  rw [hE] at hk0
  have hb : (s1.E == 0) = true := by simpa using hE
  have hnum := rnumber_g rb G fa nf fc w3 s1.L 0 hk0 v n
  clear hk0
  rw [hb]
  go_wp2_with fail
  refine hnum.mono ?_
  rintro e w4 ⟨rfl, k4, f4⟩
  have h4 : RD r rb (.slice a bs.length c) w4 s1.p s1.q s1.o := H2.out.rd.fr f4 (fun e => H2.out.ne e.symm)
  have hto := rtold_any r rb _ G _ w4 _ _ _ _ _ h4 k4 true s1.q H2.out.ne
  have d3 := h4.cells.2.2.2.1
  have d0 := h4.cells.1
  have HF4 : Hd (Fr (fun j => j = r ∨ j = rb) w w4) := HF2.out.trans (f4.mono (fun _ _ e => Or.inr e))
  have HG4 : Hd (Fr (fun j => j = r ∨ j = rb) w3 w4) := f4.mono (fun _ _ e => Or.inr e)
  clear hnum k4 f4 h4 c0 c3
  go_wp2_with fail
  refine hto.mono ?_
  rintro e w5 ⟨rfl, h5, k5, f5⟩
  have HF5 : Hd (Fr (fun j => j = r ∨ j = rb) w w5) := HF4.out.trans (f5.mono (fun _ _ e => Or.inl e))
  have hff : Hd (Fr (fun j => j = r ∨ j = rb) w3 w5) := HG4.out.trans (f5.mono (fun _ _ e => Or.inl e))
  clear hto d3 d0
  go_wp2_with fail
  go_ret
  simp only [hE, if_true]
  exact ⟨rfl, ⟨h5, k5, H2.out.bytes' hfv hff.out, H2.out.ne, H2.out.le⟩, HF5.out⟩
 ·have hb : (s1.E == 0) = false := by simpa using hE
  have hto := rtold_any r rb _ G _ w3 _ _ _ _ _ H2.out.rd H2.out.rw false s1.q H2.out.ne
  rw [hb]
  go_wp2_with fail
  refine hto.mono ?_
  rintro e w5 ⟨rfl, h5, k5, f5⟩
  have HF5 : Hd (Fr (fun j => j = r ∨ j = rb) w3 w5) := f5.mono (fun _ _ e => Or.inl e)
  clear hto c0 c3
  go_wp2_with fail
  go_ret
  simp only [hE, if_false]
  have e0 : toldO false s1.E s1.q s1.o = s1.o := if_neg (fun h => by cases h.1)
  rw [e0] at h5
  exact ⟨rfl, ⟨h5, k5, H2.out.bytes' hfv HF5.out, H2.out.ne, H2.out.le⟩, HF2.out.trans HF5.out⟩
theorem num_F {r rb : Nat} {a : Option Addr} {c : Nat} {bs : List UInt8} {G : Int} {fa : Option Addr} {nf fc : Nat} {w : World} {s : DS} (h : DR r rb a c bs G (.slice fa nf fc) w s) (n : Int) :
 Calls Tryd.prog 73 #[.pointer (some ⟨r, 0, none⟩), .int .u8 70, vI n] w fun e w' => e = .returned (vI (numD bs 2 (fun v E => mustE (numB 0 nf v) 14 E) s).1) ∧ DR r rb a c bs G (.slice fa nf fc) w' (numD bs 2 (fun v E => mustE (numB 0 nf v) 14 E) s).2 ∧ Fr (fun j => j = r ∨ j = rb) w w' := by
 have hfv : ∀ z, Value.slice fa nf fc ≠ .int .u8 z := fun z e => by cases e
 have hcall := thing_D h hfv 2 (by omega) (by omega)
 have HD : Hd (numD bs 2 (fun v E => mustE (numB 0 nf v) 14 E) s = ((thingD bs 2 s).1, if (thingD bs 2 s).2.E = 0 then { (thingD bs 2 s).2 with E := (fun v E => mustE (numB 0 nf v) 14 E) (thingD bs 2 s).1 0, o := toldO true ((fun v E => mustE (numB 0 nf v) 14 E) (thingD bs 2 s).1 0) (thingD bs 2 s).2.q (thingD bs 2 s).2.o } else (thingD bs 2 s).2)) := rfl
 generalize thingD bs 2 s = T at *
 obtain ⟨v, s1⟩ := T
 rw [HD.out]
 clear HD h
 go_enter Tryd.func73, Tryd.ntmps73
 go_wp2_with fail
 refine hcall.mono ?_
 rintro e w2 ⟨rfl, h2, f2⟩
 have hop := ropen_any r rb _ G _ w2 _ _ _ _ _ h2.rd h2.rw
 have c0 := h2.rd.cells.1
 have c3 := h2.rd.cells.2.2.2.1
 have H2 : Hd _ := h2
 have HF2 : Hd (Fr (fun j => j = r ∨ j = rb) w w2) := f2
 clear hcall h2 f2
 go_wp2_with fail
 refine hop.mono ?_
 rintro e w3 ⟨rfl, rfl⟩
 clear hop
 by_cases hE : s1.E = 0
 ·have hk0 := H2.out.rw
  rw [hE] at hk0
  have hb : (s1.E == 0) = true := by simpa using hE
  have hnum := rnumber_F rb G fa nf fc w3 s1.L 0 hk0 v n
  clear hk0
  rw [hb]
  go_wp2_with fail
  refine hnum.mono ?_
  rintro e w4 ⟨rfl, k4, f4⟩
  have h4 : RD r rb (.slice a bs.length c) w4 s1.p s1.q s1.o := H2.out.rd.fr f4 (fun e => H2.out.ne e.symm)
  have hto := rtold_any r rb _ G _ w4 _ _ _ _ _ h4 k4 true s1.q H2.out.ne
  have d3 := h4.cells.2.2.2.1
  have d0 := h4.cells.1
  have HF4 : Hd (Fr (fun j => j = r ∨ j = rb) w w4) := HF2.out.trans (f4.mono (fun _ _ e => Or.inr e))
  have HG4 : Hd (Fr (fun j => j = r ∨ j = rb) w3 w4) := f4.mono (fun _ _ e => Or.inr e)
  clear hnum k4 f4 h4 c0 c3
  go_wp2_with fail
  refine hto.mono ?_
  rintro e w5 ⟨rfl, h5, k5, f5⟩
  have HF5 : Hd (Fr (fun j => j = r ∨ j = rb) w w5) := HF4.out.trans (f5.mono (fun _ _ e => Or.inl e))
  have hff : Hd (Fr (fun j => j = r ∨ j = rb) w3 w5) := HG4.out.trans (f5.mono (fun _ _ e => Or.inl e))
  clear hto d3 d0
  go_wp2_with fail
  go_ret
  simp only [hE, if_true]
  exact ⟨rfl, ⟨h5, k5, H2.out.bytes' hfv hff.out, H2.out.ne, H2.out.le⟩, HF5.out⟩
 ·have hb : (s1.E == 0) = false := by simpa using hE
  have hto := rtold_any r rb _ G _ w3 _ _ _ _ _ H2.out.rd H2.out.rw false s1.q H2.out.ne
  rw [hb]
  go_wp2_with fail
  refine hto.mono ?_
  rintro e w5 ⟨rfl, h5, k5, f5⟩
  have HF5 : Hd (Fr (fun j => j = r ∨ j = rb) w3 w5) := f5.mono (fun _ _ e => Or.inl e)
  clear hto c0 c3
  go_wp2_with fail
  go_ret
  simp only [hE, if_false]
  have e0 : toldO false s1.E s1.q s1.o = s1.o := if_neg (fun h => by cases h.1)
  rw [e0] at h5
  exact ⟨rfl, ⟨h5, k5, H2.out.bytes' hfv HF5.out, H2.out.ne, H2.out.le⟩, HF2.out.trans HF5.out⟩
theorem num_J {r rb : Nat} {a : Option Addr} {c : Nat} {bs : List UInt8} {G : Int} {fa : Option Addr} {nf fc : Nat} {w : World} {s : DS} (h : DR r rb a c bs G (.slice fa nf fc) w s) (n : Int) :
 Calls Tryd.prog 73 #[.pointer (some ⟨r, 0, none⟩), .int .u8 74, vI n] w fun e w' => e = .returned (vI (numD bs 2 (fun v E => mustE (numB 0 n v) 16 E) s).1) ∧ DR r rb a c bs G (.slice fa nf fc) w' (numD bs 2 (fun v E => mustE (numB 0 n v) 16 E) s).2 ∧ Fr (fun j => j = r ∨ j = rb) w w' := by
 have hfv : ∀ z, Value.slice fa nf fc ≠ .int .u8 z := fun z e => by cases e
 have hcall := thing_D h hfv 2 (by omega) (by omega)
 have HD : Hd (numD bs 2 (fun v E => mustE (numB 0 n v) 16 E) s = ((thingD bs 2 s).1, if (thingD bs 2 s).2.E = 0 then { (thingD bs 2 s).2 with E := (fun v E => mustE (numB 0 n v) 16 E) (thingD bs 2 s).1 0, o := toldO true ((fun v E => mustE (numB 0 n v) 16 E) (thingD bs 2 s).1 0) (thingD bs 2 s).2.q (thingD bs 2 s).2.o } else (thingD bs 2 s).2)) := rfl
 generalize thingD bs 2 s = T at *
 obtain ⟨v, s1⟩ := T
 rw [HD.out]
 clear HD h
 go_enter Tryd.func73, Tryd.ntmps73
 go_wp2_with fail
 refine hcall.mono ?_
 rintro e w2 ⟨rfl, h2, f2⟩
 have hop := ropen_any r rb _ G _ w2 _ _ _ _ _ h2.rd h2.rw
 have c0 := h2.rd.cells.1
 have c3 := h2.rd.cells.2.2.2.1
 have H2 : Hd _ := h2
 have HF2 : Hd (Fr (fun j => j = r ∨ j = rb) w w2) := f2
 clear hcall h2 f2
 go_wp2_with fail
 refine hop.mono ?_
 rintro e w3 ⟨rfl, rfl⟩
 clear hop
 by_cases hE : s1.E = 0
 ·have hk0 := H2.out.rw
  rw [hE] at hk0
  have hb : (s1.E == 0) = true := by simpa using hE
  have hnum := rnumber_J rb G fa nf fc w3 s1.L 0 hk0 v n
  clear hk0
  rw [hb]
  go_wp2_with fail
  refine hnum.mono ?_
  rintro e w4 ⟨rfl, k4, f4⟩
  have h4 : RD r rb (.slice a bs.length c) w4 s1.p s1.q s1.o := H2.out.rd.fr f4 (fun e => H2.out.ne e.symm)
  have hto := rtold_any r rb _ G _ w4 _ _ _ _ _ h4 k4 true s1.q H2.out.ne
  have d3 := h4.cells.2.2.2.1
  have d0 := h4.cells.1
  have HF4 : Hd (Fr (fun j => j = r ∨ j = rb) w w4) := HF2.out.trans (f4.mono (fun _ _ e => Or.inr e))
  have HG4 : Hd (Fr (fun j => j = r ∨ j = rb) w3 w4) := f4.mono (fun _ _ e => Or.inr e)
  clear hnum k4 f4 h4 c0 c3
  go_wp2_with fail
  refine hto.mono ?_
  rintro e w5 ⟨rfl, h5, k5, f5⟩
  have HF5 : Hd (Fr (fun j => j = r ∨ j = rb) w w5) := HF4.out.trans (f5.mono (fun _ _ e => Or.inl e))
  have hff : Hd (Fr (fun j => j = r ∨ j = rb) w3 w5) := HG4.out.trans (f5.mono (fun _ _ e => Or.inl e))
  clear hto d3 d0
  go_wp2_with fail
  go_ret
  simp only [hE, if_true]
  exact ⟨rfl, ⟨h5, k5, H2.out.bytes' hfv hff.out, H2.out.ne, H2.out.le⟩, HF5.out⟩
 ·have hb : (s1.E == 0) = false := by simpa using hE
  have hto := rtold_any r rb _ G _ w3 _ _ _ _ _ H2.out.rd H2.out.rw false s1.q H2.out.ne
  rw [hb]
  go_wp2_with fail
  refine hto.mono ?_
  rintro e w5 ⟨rfl, h5, k5, f5⟩
  have HF5 : Hd (Fr (fun j => j = r ∨ j = rb) w3 w5) := f5.mono (fun _ _ e => Or.inl e)
  clear hto c0 c3
  go_wp2_with fail
  go_ret
  simp only [hE, if_false]
  have e0 : toldO false s1.E s1.q s1.o = s1.o := if_neg (fun h => by cases h.1)
  rw [e0] at h5
  exact ⟨rfl, ⟨h5, k5, H2.out.bytes' hfv HF5.out, H2.out.ne, H2.out.le⟩, HF2.out.trans HF5.out⟩
theorem num_i {r rb : Nat} {a : Option Addr} {c : Nat} {bs : List UInt8} {G : Int} {fa : Option Addr} {nf fc : Nat} {w : World} {s : DS} (h : DR r rb a c bs G (.slice fa nf fc) w s) (n : Int) :
 Calls Tryd.prog 73 #[.pointer (some ⟨r, 0, none⟩), .int .u8 105, vI n] w fun e w' => e = .returned (vI (numD bs 8 (fun _ E => E) s).1) ∧ DR r rb a c bs G (.slice fa nf fc) w' (numD bs 8 (fun _ E => E) s).2 ∧ Fr (fun j => j = r ∨ j = rb) w w' := by
 have hfv : ∀ z, Value.slice fa nf fc ≠ .int .u8 z := fun z e => by cases e
 have hcall := thing_D h hfv 8 (by omega) (by omega)
 have HD : Hd (numD bs 8 (fun _ E => E) s = ((thingD bs 8 s).1, if (thingD bs 8 s).2.E = 0 then { (thingD bs 8 s).2 with E := (fun _ E => E) (thingD bs 8 s).1 0, o := toldO true ((fun _ E => E) (thingD bs 8 s).1 0) (thingD bs 8 s).2.q (thingD bs 8 s).2.o } else (thingD bs 8 s).2)) := rfl
 generalize thingD bs 8 s = T at *
 obtain ⟨v, s1⟩ := T
 rw [HD.out]
 clear HD h
 go_enter Tryd.func73, Tryd.ntmps73
 go_wp2_with fail
 refine hcall.mono ?_
 rintro e w2 ⟨rfl, h2, f2⟩
 have hop := ropen_any r rb _ G _ w2 _ _ _ _ _ h2.rd h2.rw
 have c0 := h2.rd.cells.1
 have c3 := h2.rd.cells.2.2.2.1
 have H2 : Hd _ := h2
 have HF2 : Hd (Fr (fun j => j = r ∨ j = rb) w w2) := f2
 clear hcall h2 f2
 go_wp2_with fail
 refine hop.mono ?_
 rintro e w3 ⟨rfl, rfl⟩
 clear hop
 by_cases hE : s1.E = 0
 ·have hk0 := H2.out.rw
  rw [hE] at hk0
  have hb : (s1.E == 0) = true := by simpa using hE
  have hnum := rnumber_i rb G (.slice fa nf fc) w3 s1.L 0 hk0 v n
  clear hk0
  rw [hb]
  go_wp2_with fail
  refine hnum.mono ?_
  rintro e w4 ⟨rfl, k4, f4⟩
  have h4 : RD r rb (.slice a bs.length c) w4 s1.p s1.q s1.o := H2.out.rd.fr f4 (fun e => H2.out.ne e.symm)
  have hto := rtold_any r rb _ G _ w4 _ _ _ _ _ h4 k4 true s1.q H2.out.ne
  have d3 := h4.cells.2.2.2.1
  have d0 := h4.cells.1
  have HF4 : Hd (Fr (fun j => j = r ∨ j = rb) w w4) := HF2.out.trans (f4.mono (fun _ _ e => Or.inr e))
  have HG4 : Hd (Fr (fun j => j = r ∨ j = rb) w3 w4) := f4.mono (fun _ _ e => Or.inr e)
  clear hnum k4 f4 h4 c0 c3
  go_wp2_with fail
  refine hto.mono ?_
  rintro e w5 ⟨rfl, h5, k5, f5⟩
  have HF5 : Hd (Fr (fun j => j = r ∨ j = rb) w w5) := HF4.out.trans (f5.mono (fun _ _ e => Or.inl e))
  have hff : Hd (Fr (fun j => j = r ∨ j = rb) w3 w5) := HG4.out.trans (f5.mono (fun _ _ e => Or.inl e))
  clear hto d3 d0
  go_wp2_with fail
  go_ret
  simp only [hE, if_true]
  exact ⟨rfl, ⟨h5, k5, H2.out.bytes' hfv hff.out, H2.out.ne, H2.out.le⟩, HF5.out⟩
 ·have hb : (s1.E == 0) = false := by simpa using hE
  have hto := rtold_any r rb _ G _ w3 _ _ _ _ _ H2.out.rd H2.out.rw false s1.q H2.out.ne
  rw [hb]
  go_wp2_with fail
  refine hto.mono ?_
  rintro e w5 ⟨rfl, h5, k5, f5⟩
  have HF5 : Hd (Fr (fun j => j = r ∨ j = rb) w3 w5) := f5.mono (fun _ _ e => Or.inl e)
  clear hto c0 c3
  go_wp2_with fail
  go_ret
  simp only [hE, if_false]
  have e0 : toldO false s1.E s1.q s1.o = s1.o := if_neg (fun h => by cases h.1)
  rw [e0] at h5
  exact ⟨rfl, ⟨h5, k5, H2.out.bytes' hfv HF5.out, H2.out.ne, H2.out.le⟩, HF2.out.trans HF5.out⟩
set_option maxRecDepth 100000
set_option maxHeartbeats 1000000
def magicD (bs : List UInt8) (s : DS) : DS := if bs.take 6 = magicL.take bs.length then (thingD bs 6 s).2 else { s with E := 10 }
theorem take_same {α : Type} {l m : List α} {k : Nat} (h : ∀ i (h1 : i < l.length) (h2 : i < m.length), i < k → l[i] = m[i]) (hl : k ≤ l.length) (hm : k ≤ m.length) : l.take k = m.take k := by
 apply List.ext_getElem
 ·simp; omega
 ·intro i h1 h2
  have hi : i < k := by simp at h1; omega
  rw [List.getElem_take, List.getElem_take]
  exact h i (by omega) (by omega) hi
theorem magic_D {r rb : Nat} {a : Option Addr} {c : Nat} {bs : List UInt8} {G : Int} {fv : Value} {w : World} {s : DS} (h : DR r rb a c bs G fv w s) (hfv : ∀ z, fv ≠ .int .u8 z) (hE : s.E = 0) :
 Calls Tryd.prog 41 #[.pointer (some ⟨r, 0, none⟩)] w fun e w' => e = .returned (.tuple #[]) ∧ DR r rb a c bs G fv w' (magicD bs s) ∧ Fr (fun j => j = r ∨ j = rb) w w' := by
 obtain ⟨W, HW⟩ : ∃ W, W = w.alloc (.cells #[.int .u8 102, .int .u8 117, .int .u8 103, .int .u8 117, .int .u8 101, .int .u8 1] 5) := ⟨_, rfl⟩
 have hf1 : Fr (fun _ => False) w W := by rw [HW]; exact Fr.alloc (Fr.refl _ _) _
 have hx1 : W.heap[w.heap.size]? = some (.cells #[.int .u8 102, .int .u8 117, .int .u8 103, .int .u8 117, .int .u8 101, .int .u8 1] 5) := by rw [HW]; exact heap_new w _
 have H1 : Hd (DR r rb a c bs G fv W s) := h.stay hf1
 have HF1 : Hd (Fr (fun j => j = r ∨ j = rb) w W) := hf1.mono (fun _ _ e => e.elim)
 obtain ⟨H, hH⟩ : ∃ H, H = w.heap.size := ⟨_, rfl⟩
 rw [← hH] at hx1
 have HX1 : Hd _ := hx1
 obtain ⟨N, hN⟩ : ∃ N, N = bs.length := ⟨_, rfl⟩
 have HN : Hd (N = bs.length) := hN
 have hml : ∀ k (hk : k < 6), W.cell? ⟨H, 0 + k, none⟩ = some (.int .u8 ((magicL[k]'(by simpa [magicL] using hk)).toNat : Nat)) := fun k hk => by
  rw [cell_of hx1]
  match k, hk with
  | 0, _ | 1, _ | 2, _ | 3, _ | 4, _ | 5, _ => rfl
  | k + 6, hk => omega
 have HML : Hd _ := hml
 have hL : N ≤ 1000000000000000 := by rw [hN]; exact h.bytes.1
 clear h hf1 hx1 hN hml
 go_enter Tryd.func41, Tryd.ntmps41
 go_upto_region 1 with fail
 rw [← HW, ← hH]
 clear HW hH
 go_wp2_with fail
 go_loopw [3] (fun i wr => ∃ (k : Nat), i = .int .i64 k ∧ k ≤ 6 ∧ k ≤ N ∧ Hd (∀ i (h1 : i < bs.length) (h2 : i < magicL.length), i < k → bs[i] = magicL[i]) ∧ Hd (Fr (fun _ => False) W wr)) (fun i _ => match i with | .int _ q => 6 - q.toNat | _ => 0)
 case atStart => exact ⟨0, rfl, by omega, by omega, fun i _ _ h => absurd h (by omega), Fr.refl _ _⟩
 case round =>
  obtain ⟨k, rfl, hk6, hkN, HS, HF⟩ := hrel
  have hD := H1.out.stay HF.out
  have c0 := hD.rd.cells.1
  have c1 := hD.rd.cells.2.1
  rw [← HN.out] at c1
  by_cases hlt : k < 6 ∧ k < N
  ·obtain ⟨hl6, hlN⟩ := hlt
   have hkb : k < bs.length := by rw [← HN.out]; exact hlN
   obtain ⟨-, a', c', e0, hc', hcell⟩ := hD.bytes
   cases e0
   obtain ⟨g, o', rfl, hg, hcs⟩ := hcell (by intro e; rw [e] at hkb; simp at hkb)
   have xc : wr.cell? ⟨g, o' + k, none⟩ = some (.int .u8 (bs[k].toNat : Nat)) := hcs k hkb
   have xm : wr.cell? ⟨H, 0 + k, none⟩ = some (.int .u8 ((magicL[k]'(by simpa [magicL] using hl6)).toNat : Nat)) := (HF.out.cell (heap_lt HX1.out) (fun h => h)).trans (HML.out k hl6)
   rw [Nat.zero_add] at xm
   have hk0 : (0 : Int) ≤ k ∧ (k : Int) < N ∧ (k : Int) < 6 := by omega
   have HD : Hd _ := hD
   have hkm : k < magicL.length := by simpa [magicL] using hl6
   by_cases heq : bs[k] = magicL[k]
   ·have HS2 : Hd (∀ i (h1 : i < bs.length) (h2 : i < magicL.length), i < k + 1 → bs[i] = magicL[i]) := fun i h1 h2 h3 => by
     by_cases e : i = k
     ·subst e; exact heq
     ·exact HS.out i h1 h2 (by omega)
    rw [heq] at xc
    generalize magicL[k].toNat = y at *
    clear hcell hcs hD heq HS
    go_upto_region 4 with fail
    go_quiet (fail)
    go_wp2_with fail
    exact ⟨⟨k + 1, by simp, by omega, by omega, HS2.out, HF.out.drewN _⟩, by simp; omega⟩
   ·have hbn : (((bs[k].toNat : Nat) : Int) != ((magicL[k].toNat : Nat) : Int)) = true := by
     simp only [bne_iff_ne, ne_eq]
     intro e
     exact heq (UInt8.toNat_inj.1 (by omega))
    have HNE : Hd (¬ bs.take 6 = magicL.take bs.length) := fun e => by
     have h1 : (bs.take 6)[k]? = (magicL.take bs.length)[k]? := by rw [e]
     rw [List.getElem?_take, List.getElem?_take, if_pos hl6, if_pos hkb, List.getElem?_eq_getElem hkb, List.getElem?_eq_getElem hkm] at h1
     exact heq (Option.some.inj h1)
    generalize bs[k].toNat = x at *
    generalize magicL[k].toNat = y at *
    have k3 := HD.out.rw.cells.2.2.2.1
    have kz := HD.out.rw.cells.2.2.2.2.1
    have kl := HD.out.rw.cells.2.2.2.2.2
    clear hcell hcs hD heq HS
    have z3 := kz 3
    have HMD : Hd (magicD bs s = { s with E := 10 }) := if_neg HNE.out
    clear kz
    go_upto_region 4 with fail
    go_quiet (fail)
    go_wp2_with fail
    (try simp only [Exit.inBlock, Exit.then])
    refine bodyPost_ret (results_none rfl _ _ _) rfl ?_
    have f0 : Fr (fun j => j = r ∨ j = rb) wr (wr.setCell ⟨rb, 3, none⟩ (vI 10)) := (setCell_fr wr rb 3 (vI 10)).mono (fun _ _ e => Or.inr e)
    have hres : DR r rb (some ⟨g, o', none⟩) c bs G fv (wr.setCell ⟨rb, 3, none⟩ (vI 10)) { s with E := 10 } :=
     ⟨HD.out.rd.fr (S := fun j => j = rb) (setCell_fr wr rb 3 (vI 10)) (fun e => HD.out.ne e.symm), HD.out.rw.setE 10, HD.out.bytes' hfv f0, HD.out.ne, HD.out.le⟩
    rw [HMD.out]
    exact ⟨rfl, ⟨hres.rd, hres.rw, hres.bytes, hres.ne, hres.le⟩, (HF1.out.trans (HF.out.mono (fun _ _ e => e.elim))).trans (f0.drewN _)⟩
  ·have hend : k = 6 ∨ k = N := by omega
   have HMD : Hd (magicD bs s = (thingD bs 6 s).2) := by
    refine if_pos ?_
    have hm6 : magicL.length = 6 := rfl
    have h1 := take_same (k := k) HS.out (by rw [← HN.out]; exact hkN) (by omega)
    rcases hend with e | e
    ·rw [e] at h1
     rw [h1, List.take_of_length_le (by omega), List.take_of_length_le (by rw [hm6, ← HN.out]; omega)]
    ·rw [e, HN.out, List.take_of_length_le (Nat.le_refl _)] at h1
     rw [List.take_of_length_le (by rw [← HN.out]; omega)]
     exact h1
   have hcall := thing_D hD hfv 6 (by omega) (by omega)
   clear hD
   have hdk : ¬ (k < 6 ∧ k < N) := hlt
   by_cases h6 : k < 6
   ·have hkn : k = N := by omega
    subst hkn
    clear hend hdk hlt
    go_wp2_with fail
    refine hcall.mono ?_
    rintro e w2 ⟨rfl, h2, f2⟩
    clear hcall
    go_wp2_with fail
    go_end0
    rw [HMD.out]
    exact ⟨rfl, h2, (HF1.out.trans (HF.out.mono (fun _ _ e => e.elim))).trans f2⟩
   ·have hkn : k = 6 := by omega
    subst hkn
    clear hend hdk hlt
    go_wp2_with fail
    refine hcall.mono ?_
    rintro e w2 ⟨rfl, h2, f2⟩
    clear hcall
    go_wp2_with fail
    go_end0
    rw [HMD.out]
    exact ⟨rfl, h2, (HF1.out.trans (HF.out.mono (fun _ _ e => e.elim))).trans f2⟩
end Go.Proofs.YtingenonbkencaaDoor
