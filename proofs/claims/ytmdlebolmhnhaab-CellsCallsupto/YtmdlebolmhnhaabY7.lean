import Derived.Test.YtmdlebolmhnhaabY3
namespace Go.Proofs.Ytmdlebolmhnhaab
open Go.RowKit (wrap32 wrap64)
open Go.Maps (Keyed)
set_option linter.unusedVariables false
set_option linter.unusedSimpArgs false

theorem Rel.liveV {a : Abs} {r : RA} (h : Rel a r) : ((rliveL r r.cells.length).map fun i : Nat => vI ((i : Int) + 1)) = (liveX a).map vI := by
  rw [h.live, List.map_map]
  rfl
theorem Rel.liveN {a : Abs} {r : RA} (h : Rel a r) : (rliveL r r.cells.length).length = (liveX a).length := by
  rw [h.live, List.length_map]

set_option maxRecDepth 100000 in
set_option maxHeartbeats 4000000 in
theorem lives0 (w0 w : World) (wb : Nat) (N : Nat) (hN : N ≤ 2000000) (ob : Nat) (x : Obj) (hst : StP w0 wb N ob x w) :
    Calls Try.prog 30 #[ptr wb, vI 0] w fun e w' => e = .returned (.bool true) ∧ StP w0 wb (N + 1) ob x w' := by
  obtain ⟨pb, rb, pg, rg, pa, ra, lv, mv, us, us', h, hR, hU, hP, hT⟩ := hst
  have HR : Hd _ := hR
  have hU2 : us.length ≤ 100000000 := by omega
  have HU : Hd _ := hU
  have HP : Hd _ := hP
  have HV : Hd _ := hT
  have hobw : ob < w.heap.size := heap_lt hT.a
  obtain ⟨za, hza⟩ : ∃ za, za = liveX (pa 0) := ⟨_, rfl⟩
  obtain ⟨zo, hzo⟩ : ∃ zo, zo = liveX (pa 1) := ⟨_, rfl⟩
  have hal : za.length ≤ 2000000 := by rw [hza]; have := live_len (hR 0 (by omega)).1 (hR 0 (by omega)).2; omega
  have hol : zo.length ≤ 2000000 := by rw [hzo]; have := live_len (hR 1 (by omega)).1 (hR 1 (by omega)).2; omega
  have hmK : (pa 0).made ≤ 10000000000000 := by have := ((hR 0 (by omega)).1.fine (hR 0 (by omega)).2).made; omega
  have hmJ : (pa 1).made ≤ 10000000000000 := by have := ((hR 1 (by omega)).1.fine (hR 1 (by omega)).2).made; omega
  have hrK : (ra 0).cells.length ≤ 100000000 := by have := (hR 0 (by omega)).2.cells; omega
  have hrJ : (ra 1).cells.length ≤ 100000000 := by have := (hR 1 (by omega)).2.cells; omega
  have HW : Hd _ := h
  have HZA : Hd _ := hza
  have HZO : Hd _ := hzo
  have HLt : Hd (∀ k, (k = wb ∨ LsB lv us k ∨ LsB mv us' k) → k < w.heap.size) := fun k hk => h.ltW hk
  have HZr : Hd (∀ k, w.heap.size ≤ k → Own0 wb pg rg k) := fun k hk => ⟨fun e => by have := heap_lt h.blk; omega, fun i hi => ⟨h.zero.1 i hi k hk, h.zero.2 i hi k hk⟩⟩
  clear h hR hU hP hza hzo hT
  obtain ⟨c0, c1, c2, c3, -, -⟩ := HW.out.heads
  go_enter Try.func30, Try.ntmps30
  go_wp2_with fail
  refine (show Calls Try.prog 20 #[ptr (pb 0)] w _ from live_any (pb 0) (pg 0) (pa 0) w (HW.out.pm 0 (by omega)) hmK).mono ?_
  rintro e w1 ⟨a, rfl, hra, hF1⟩
  rw [← HZA.out] at hra
  have HA1 : Hd (w1.ownsRow w.heap.size 3 1 a za.length (za.map vI)) := hra
  have HW1 : Hd _ := HW.out.keep hF1
  have HV1 : Hd _ := HV.out.keep hF1
  have HF1 : Hd _ := hF1
  clear c0 c1 c2 c3 hra hF1
  obtain ⟨c0, c1, c2, c3, -, -⟩ := HW1.out.heads
  go_wp2_with fail
  refine (show Calls Try.prog 20 #[ptr (pb 1)] w1 _ from live_any (pb 1) (pg 1) (pa 1) w1 (HW1.out.pm 1 (by omega)) hmJ).mono ?_
  rintro e w2 ⟨ot, rfl, hro, hF2⟩
  rw [← HZO.out] at hro
  have HO2 : Hd (w2.ownsRow w1.heap.size 3 1 ot zo.length (zo.map vI)) := hro
  have HA2 : Hd _ := ownsRow_fr HA1.out hF2 (fun _ _ e => e)
  have HW2 : Hd _ := HW1.out.keep hF2
  have HV2 : Hd _ := HV1.out.keep hF2
  have HF2 : Hd _ := hF2
  clear c0 c1 c2 c3 hro hF2 HW1 HA1
  obtain ⟨c0, c1, c2, c3, -, -⟩ := HW2.out.heads
  go_wp2_with fail
  refine (show Calls Try.prog 20 #[ptr (pb 0)] w2 _ from live_any (pb 0) (pg 0) (pa 0) w2 (HW2.out.pm 0 (by omega)) hmK).mono ?_
  rintro e w3 ⟨b, rfl, hrb, hF3⟩
  rw [← HZA.out] at hrb
  have HB3 : Hd (w3.ownsRow w2.heap.size 3 1 b za.length (za.map vI)) := hrb
  have HA3 : Hd _ := ownsRow_fr HA2.out hF3 (fun _ _ e => e)
  have HO3 : Hd _ := ownsRow_fr HO2.out hF3 (fun _ _ e => e)
  have HW3 : Hd _ := HW2.out.keep hF3
  have HV3 : Hd _ := HV2.out.keep hF3
  have HF3 : Hd _ := hF3
  clear c0 c1 c2 c3 hrb hF3 HW2 HO2
  obtain ⟨c0, c1, c2, c3, -, -⟩ := HW3.out.heads
  go_wp2_with fail
  refine (show Calls Try.prog 21 #[rptr (rb 0)] w3 _ from rlive_any (rb 0) (rg 0) (ra 0) w3 (HW3.out.rm 0 (by omega)) hrK).mono ?_
  rintro e w4 ⟨wt, rfl, hrw, hF4⟩
  rw [(HR.out 0 (by omega)).1.liveV, (HR.out 0 (by omega)).1.liveN, ← HZA.out] at hrw
  have HT4 : Hd (w4.ownsRow w3.heap.size 3 1 wt za.length (za.map vI)) := hrw
  have HA4 : Hd _ := ownsRow_fr HA3.out hF4 (fun _ _ e => e)
  have HB4 : Hd _ := ownsRow_fr HB3.out hF4 (fun _ _ e => e)
  have HO4 : Hd _ := ownsRow_fr HO3.out hF4 (fun _ _ e => e)
  have HW4 : Hd _ := HW3.out.keep hF4
  have HV4 : Hd _ := HV3.out.keep hF4
  clear c0 c1 c2 c3 hrw hF4 HW3 HA3 HO3
  go_wp2_with fail
  refine (show Calls Try.prog 19 #[a, wt] w4 _ from eqInts_same a wt za w4 (IntsAt.of_row HA4.out) (IntsAt.of_row HT4.out) (by omega)).mono ?_
  rintro e w5 ⟨rfl, hF5⟩
  have HA5 : Hd _ := ownsRow_fr HA4.out hF5 (fun _ _ e => e)
  have HB5 : Hd _ := ownsRow_fr HB4.out hF5 (fun _ _ e => e)
  have HO5 : Hd _ := ownsRow_fr HO4.out hF5 (fun _ _ e => e)
  have HT5 : Hd _ := ownsRow_fr HT4.out hF5 (fun _ _ e => e)
  have HW5 : Hd _ := HW4.out.keep hF5
  have HV5 : Hd _ := HV4.out.keep hF5
  clear hF5 HW4 HA4 HO4 HB4 HT4
  go_wp2_with fail
  refine (show Calls Try.prog 19 #[b, wt] w5 _ from eqInts_same b wt za w5 (IntsAt.of_row HB5.out) (IntsAt.of_row HT5.out) (by omega)).mono ?_
  rintro e w6 ⟨rfl, hF6⟩
  have HA6 : Hd _ := ownsRow_fr HA5.out hF6 (fun _ _ e => e)
  have HB6 : Hd _ := ownsRow_fr HB5.out hF6 (fun _ _ e => e)
  have HO6 : Hd _ := ownsRow_fr HO5.out hF6 (fun _ _ e => e)
  have HT6 : Hd _ := ownsRow_fr HT5.out hF6 (fun _ _ e => e)
  have HW6 : Hd _ := HW5.out.keep hF6
  have HV6 : Hd _ := HV5.out.keep hF6
  clear hF6 HW5 HA5 HO5 HB5 HT5
  obtain ⟨c0, c1, c2, c3, -, -⟩ := HW6.out.heads
  go_wp2_with fail
  refine (show Calls Try.prog 21 #[rptr (rb 1)] w6 _ from rlive_any (rb 1) (rg 1) (ra 1) w6 (HW6.out.rm 1 (by omega)) hrJ).mono ?_
  rintro e w7 ⟨wo, rfl, hrw, hF7⟩
  rw [(HR.out 1 (by omega)).1.liveV, (HR.out 1 (by omega)).1.liveN, ← HZO.out] at hrw
  have HX7 : Hd (w7.ownsRow w6.heap.size 3 1 wo zo.length (zo.map vI)) := hrw
  have HA7 : Hd _ := ownsRow_fr HA6.out hF7 (fun _ _ e => e)
  have HB7 : Hd _ := ownsRow_fr HB6.out hF7 (fun _ _ e => e)
  have HO7 : Hd _ := ownsRow_fr HO6.out hF7 (fun _ _ e => e)
  have HT7 : Hd _ := ownsRow_fr HT6.out hF7 (fun _ _ e => e)
  have HW7 : Hd _ := HW6.out.keep hF7
  have HV7 : Hd _ := HV6.out.keep hF7
  clear c0 c1 c2 c3 hrw hF7 HW6 HA6 HO6 HB6 HT6
  go_wp2_with fail
  refine (show Calls Try.prog 19 #[ot, wo] w7 _ from eqInts_same ot wo zo w7 (IntsAt.of_row HO7.out) (IntsAt.of_row HX7.out) (by omega)).mono ?_
  rintro e w8 ⟨rfl, hF8⟩
  have HA8 : Hd _ := ownsRow_fr HA7.out hF8 (fun _ _ e => e)
  have HB8 : Hd _ := ownsRow_fr HB7.out hF8 (fun _ _ e => e)
  have HT8 : Hd _ := ownsRow_fr HT7.out hF8 (fun _ _ e => e)
  have HW8 : Hd _ := HW7.out.keep hF8
  have HV8 : Hd _ := HV7.out.keep hF8
  clear hF8 HW7 HA7 HO7 HB7 HT7 HX7
  have HFa : Hd (∀ j, a.ownBlock = some j → w.heap.size ≤ j ∧ j < w2.heap.size) := fun j e => ⟨(World.ownsRow.lt HA8.out j e).1, (World.ownsRow.lt HA2.out j e).2⟩
  have HFb : Hd (∀ j, b.ownBlock = some j → w2.heap.size ≤ j ∧ j < w8.heap.size) := fun j e => World.ownsRow.lt HB8.out j e
  have HFt : Hd (∀ j, wt.ownBlock = some j → w3.heap.size ≤ j ∧ j < w8.heap.size) := fun j e => World.ownsRow.lt HT8.out j e
  have hs12 : w.heap.size ≤ w2.heap.size := Nat.le_trans HF1.out.size HF2.out.size
  have hs23 : w2.heap.size ≤ w3.heap.size := HF3.out.size
  have hs0 : w0.heap.size ≤ w.heap.size := HW.out.fr.size
  go_wp2_with fail
  refine (show Calls Try.prog 35 #[ptr wb, a] w8 _ from keep_any w0 w8 wb pb rb pg rg pa ra lv mv us us' HW8.out a za (World.ownsRow.mono HA8.out hs0) (fun j e => ⟨HZr.out j (HFa.out j e).1, fun e2 => by have := HLt.out j (Or.inr (Or.inl e2)); have := (HFa.out j e).1; omega, fun e2 => by have := HLt.out j (Or.inr (Or.inr e2)); have := (HFa.out j e).1; omega⟩) hU2 (by omega)).mono ?_
  rintro e w9 ⟨rfl, lv2, mv2, us2, us2', hW9, hU9, hP9, hF9, hS9⟩
  have far : ∀ j, w2.heap.size ≤ j → ¬ (j = wb ∨ LsB lv us j ∨ LsB mv us' j ∨ a.ownBlock = some j) := fun j hj e => by
    rcases e with e | e | e | e
    · have := HLt.out j (Or.inl e); omega
    · have := HLt.out j (Or.inr (Or.inl e)); omega
    · have := HLt.out j (Or.inr (Or.inr e)); omega
    · have := (HFa.out j e).2; omega
  have HB9 : Hd _ := ownsRow_fr HB8.out hF9 (fun j e => far j (HFb.out j e).1)
  have HT9 : Hd _ := ownsRow_fr HT8.out hF9 (fun j e => far j (by have := (HFt.out j e).1; omega))
  have HW9 : Hd _ := hW9
  have HV9 : Hd (Pt ob x wb pg rg lv2 mv2 us2 us2' w9) := HV8.out.kept (lv2 := lv2) (mv2 := mv2) (us2 := us2) (us2' := us2') hF9 (fun e => by have := (HFa.out ob e).1; omega) hS9
  have HU9 : Hd _ := hU9
  have HP9 : Hd _ := hP9
  have HS9 : Hd _ := hS9
  clear hW9 hU9 hP9 hF9 hS9 far HW8 HA8 HB8 HT8
  go_wp2_with fail
  refine (show Calls Try.prog 19 #[b, wt] w9 _ from eqInts_same b wt za w9 (IntsAt.of_row HB9.out) (IntsAt.of_row HT9.out) (by omega)).mono ?_
  rintro e w10 ⟨rfl, hF10⟩
  have HB10 : Hd _ := ownsRow_fr HB9.out hF10 (fun _ _ e => e)
  have HW10 : Hd _ := HW9.out.keep hF10
  have HV10 : Hd _ := HV9.out.keep hF10
  have hU10 : us2.length ≤ 100000000 := by have : us2.length = us.length + 2 := HU9.out; have : us.length ≤ 4 * N := HU.out; omega
  have HFR : Hd (∀ j, b.ownBlock = some j → Own0 wb pg rg j ∧ ¬ LsB lv2 us2 j ∧ ¬ LsB mv2 us2' j) := fun j e => by
    have hb := HFb.out j e
    have key : ¬ (LsB lv2 us2 j ∨ LsB mv2 us2' j) := fun hk => by
      rcases HS9.out j hk with e2 | e2 | e2 | e2
      · have := HLt.out j (Or.inr (Or.inl e2)); omega
      · have := HLt.out j (Or.inr (Or.inr e2)); omega
      · have := (HFa.out j e2).2; omega
      · omega
    exact ⟨HZr.out j (by omega), fun e2 => key (Or.inl e2), fun e2 => key (Or.inr e2)⟩
  clear hF10 HW9 HB9 HT9
  go_wp2_with fail
  refine (show Calls Try.prog 35 #[ptr wb, b] w10 _ from keep_any w0 w10 wb pb rb pg rg pa ra lv2 mv2 us2 us2' HW10.out b za (World.ownsRow.mono HB10.out (by omega)) HFR.out hU10 (by omega)).mono ?_
  rintro e w11 ⟨rfl, lv3, mv3, us3, us3', hW11, hU11, hP11, hF11, hS11⟩
  have HW11 : Hd _ := hW11
  have HV11 : Hd (Pt ob x wb pg rg lv3 mv3 us3 us3' w11) := HV10.out.kept (lv2 := lv3) (mv2 := mv3) (us2 := us3) (us2' := us3') hF11 (fun e => by have := (HFb.out ob e).1; omega) hS11
  have HU11 : Hd _ := hU11
  have HP11 : Hd _ := hP11
  clear hW11 hU11 hP11 hF11 hS11 HW10 HB10
  go_wp2_with fail
  go_ret
  refine ⟨by simp, pb, rb, pg, rg, pa, ra, lv3, mv3, us3, us3', HW11.out, fun i hi => ⟨(HR.out i hi).1, (HR.out i hi).2.mono (by omega)⟩, ?_, fun p hp => ?_, HV11.out⟩
  · have e1 : us3.length = us2.length + 2 := HU11.out
    have e2 : us2.length = us.length + 2 := HU9.out
    have e3 : us.length ≤ 4 * N := HU.out
    omega
  · rcases HP11.out p hp with hp | hp
    · rcases HP9.out p hp with hp | hp
      · exact HP.out p hp
      · omega
    · omega

set_option maxRecDepth 100000 in
set_option maxHeartbeats 4000000 in
theorem lives1 (w0 w : World) (wb : Nat) (N : Nat) (hN : N ≤ 2000000) (ob : Nat) (x : Obj) (hst : StP w0 wb N ob x w) :
    Calls Try.prog 30 #[ptr wb, vI 1] w fun e w' => e = .returned (.bool true) ∧ StP w0 wb (N + 1) ob x w' := by
  obtain ⟨pb, rb, pg, rg, pa, ra, lv, mv, us, us', h, hR, hU, hP, hT⟩ := hst
  have HR : Hd _ := hR
  have hU2 : us.length ≤ 100000000 := by omega
  have HU : Hd _ := hU
  have HP : Hd _ := hP
  have HV : Hd _ := hT
  have hobw : ob < w.heap.size := heap_lt hT.a
  obtain ⟨za, hza⟩ : ∃ za, za = liveX (pa 1) := ⟨_, rfl⟩
  obtain ⟨zo, hzo⟩ : ∃ zo, zo = liveX (pa 0) := ⟨_, rfl⟩
  have hal : za.length ≤ 2000000 := by rw [hza]; have := live_len (hR 1 (by omega)).1 (hR 1 (by omega)).2; omega
  have hol : zo.length ≤ 2000000 := by rw [hzo]; have := live_len (hR 0 (by omega)).1 (hR 0 (by omega)).2; omega
  have hmK : (pa 1).made ≤ 10000000000000 := by have := ((hR 1 (by omega)).1.fine (hR 1 (by omega)).2).made; omega
  have hmJ : (pa 0).made ≤ 10000000000000 := by have := ((hR 0 (by omega)).1.fine (hR 0 (by omega)).2).made; omega
  have hrK : (ra 1).cells.length ≤ 100000000 := by have := (hR 1 (by omega)).2.cells; omega
  have hrJ : (ra 0).cells.length ≤ 100000000 := by have := (hR 0 (by omega)).2.cells; omega
  have HW : Hd _ := h
  have HZA : Hd _ := hza
  have HZO : Hd _ := hzo
  have HLt : Hd (∀ k, (k = wb ∨ LsB lv us k ∨ LsB mv us' k) → k < w.heap.size) := fun k hk => h.ltW hk
  have HZr : Hd (∀ k, w.heap.size ≤ k → Own0 wb pg rg k) := fun k hk => ⟨fun e => by have := heap_lt h.blk; omega, fun i hi => ⟨h.zero.1 i hi k hk, h.zero.2 i hi k hk⟩⟩
  clear h hR hU hP hza hzo hT
  obtain ⟨c0, c1, c2, c3, -, -⟩ := HW.out.heads
  go_enter Try.func30, Try.ntmps30
  go_wp2_with fail
  refine (show Calls Try.prog 20 #[ptr (pb 1)] w _ from live_any (pb 1) (pg 1) (pa 1) w (HW.out.pm 1 (by omega)) hmK).mono ?_
  rintro e w1 ⟨a, rfl, hra, hF1⟩
  rw [← HZA.out] at hra
  have HA1 : Hd (w1.ownsRow w.heap.size 3 1 a za.length (za.map vI)) := hra
  have HW1 : Hd _ := HW.out.keep hF1
  have HV1 : Hd _ := HV.out.keep hF1
  have HF1 : Hd _ := hF1
  clear c0 c1 c2 c3 hra hF1
  obtain ⟨c0, c1, c2, c3, -, -⟩ := HW1.out.heads
  go_wp2_with fail
  refine (show Calls Try.prog 20 #[ptr (pb 0)] w1 _ from live_any (pb 0) (pg 0) (pa 0) w1 (HW1.out.pm 0 (by omega)) hmJ).mono ?_
  rintro e w2 ⟨ot, rfl, hro, hF2⟩
  rw [← HZO.out] at hro
  have HO2 : Hd (w2.ownsRow w1.heap.size 3 1 ot zo.length (zo.map vI)) := hro
  have HA2 : Hd _ := ownsRow_fr HA1.out hF2 (fun _ _ e => e)
  have HW2 : Hd _ := HW1.out.keep hF2
  have HV2 : Hd _ := HV1.out.keep hF2
  have HF2 : Hd _ := hF2
  clear c0 c1 c2 c3 hro hF2 HW1 HA1
  obtain ⟨c0, c1, c2, c3, -, -⟩ := HW2.out.heads
  go_wp2_with fail
  refine (show Calls Try.prog 20 #[ptr (pb 1)] w2 _ from live_any (pb 1) (pg 1) (pa 1) w2 (HW2.out.pm 1 (by omega)) hmK).mono ?_
  rintro e w3 ⟨b, rfl, hrb, hF3⟩
  rw [← HZA.out] at hrb
  have HB3 : Hd (w3.ownsRow w2.heap.size 3 1 b za.length (za.map vI)) := hrb
  have HA3 : Hd _ := ownsRow_fr HA2.out hF3 (fun _ _ e => e)
  have HO3 : Hd _ := ownsRow_fr HO2.out hF3 (fun _ _ e => e)
  have HW3 : Hd _ := HW2.out.keep hF3
  have HV3 : Hd _ := HV2.out.keep hF3
  have HF3 : Hd _ := hF3
  clear c0 c1 c2 c3 hrb hF3 HW2 HO2
  obtain ⟨c0, c1, c2, c3, -, -⟩ := HW3.out.heads
  go_wp2_with fail
  refine (show Calls Try.prog 21 #[rptr (rb 1)] w3 _ from rlive_any (rb 1) (rg 1) (ra 1) w3 (HW3.out.rm 1 (by omega)) hrK).mono ?_
  rintro e w4 ⟨wt, rfl, hrw, hF4⟩
  rw [(HR.out 1 (by omega)).1.liveV, (HR.out 1 (by omega)).1.liveN, ← HZA.out] at hrw
  have HT4 : Hd (w4.ownsRow w3.heap.size 3 1 wt za.length (za.map vI)) := hrw
  have HA4 : Hd _ := ownsRow_fr HA3.out hF4 (fun _ _ e => e)
  have HB4 : Hd _ := ownsRow_fr HB3.out hF4 (fun _ _ e => e)
  have HO4 : Hd _ := ownsRow_fr HO3.out hF4 (fun _ _ e => e)
  have HW4 : Hd _ := HW3.out.keep hF4
  have HV4 : Hd _ := HV3.out.keep hF4
  clear c0 c1 c2 c3 hrw hF4 HW3 HA3 HO3
  go_wp2_with fail
  refine (show Calls Try.prog 19 #[a, wt] w4 _ from eqInts_same a wt za w4 (IntsAt.of_row HA4.out) (IntsAt.of_row HT4.out) (by omega)).mono ?_
  rintro e w5 ⟨rfl, hF5⟩
  have HA5 : Hd _ := ownsRow_fr HA4.out hF5 (fun _ _ e => e)
  have HB5 : Hd _ := ownsRow_fr HB4.out hF5 (fun _ _ e => e)
  have HO5 : Hd _ := ownsRow_fr HO4.out hF5 (fun _ _ e => e)
  have HT5 : Hd _ := ownsRow_fr HT4.out hF5 (fun _ _ e => e)
  have HW5 : Hd _ := HW4.out.keep hF5
  have HV5 : Hd _ := HV4.out.keep hF5
  clear hF5 HW4 HA4 HO4 HB4 HT4
  go_wp2_with fail
  refine (show Calls Try.prog 19 #[b, wt] w5 _ from eqInts_same b wt za w5 (IntsAt.of_row HB5.out) (IntsAt.of_row HT5.out) (by omega)).mono ?_
  rintro e w6 ⟨rfl, hF6⟩
  have HA6 : Hd _ := ownsRow_fr HA5.out hF6 (fun _ _ e => e)
  have HB6 : Hd _ := ownsRow_fr HB5.out hF6 (fun _ _ e => e)
  have HO6 : Hd _ := ownsRow_fr HO5.out hF6 (fun _ _ e => e)
  have HT6 : Hd _ := ownsRow_fr HT5.out hF6 (fun _ _ e => e)
  have HW6 : Hd _ := HW5.out.keep hF6
  have HV6 : Hd _ := HV5.out.keep hF6
  clear hF6 HW5 HA5 HO5 HB5 HT5
  obtain ⟨c0, c1, c2, c3, -, -⟩ := HW6.out.heads
  go_wp2_with fail
  refine (show Calls Try.prog 21 #[rptr (rb 0)] w6 _ from rlive_any (rb 0) (rg 0) (ra 0) w6 (HW6.out.rm 0 (by omega)) hrJ).mono ?_
  rintro e w7 ⟨wo, rfl, hrw, hF7⟩
  rw [(HR.out 0 (by omega)).1.liveV, (HR.out 0 (by omega)).1.liveN, ← HZO.out] at hrw
  have HX7 : Hd (w7.ownsRow w6.heap.size 3 1 wo zo.length (zo.map vI)) := hrw
  have HA7 : Hd _ := ownsRow_fr HA6.out hF7 (fun _ _ e => e)
  have HB7 : Hd _ := ownsRow_fr HB6.out hF7 (fun _ _ e => e)
  have HO7 : Hd _ := ownsRow_fr HO6.out hF7 (fun _ _ e => e)
  have HT7 : Hd _ := ownsRow_fr HT6.out hF7 (fun _ _ e => e)
  have HW7 : Hd _ := HW6.out.keep hF7
  have HV7 : Hd _ := HV6.out.keep hF7
  clear c0 c1 c2 c3 hrw hF7 HW6 HA6 HO6 HB6 HT6
  go_wp2_with fail
  refine (show Calls Try.prog 19 #[ot, wo] w7 _ from eqInts_same ot wo zo w7 (IntsAt.of_row HO7.out) (IntsAt.of_row HX7.out) (by omega)).mono ?_
  rintro e w8 ⟨rfl, hF8⟩
  have HA8 : Hd _ := ownsRow_fr HA7.out hF8 (fun _ _ e => e)
  have HB8 : Hd _ := ownsRow_fr HB7.out hF8 (fun _ _ e => e)
  have HT8 : Hd _ := ownsRow_fr HT7.out hF8 (fun _ _ e => e)
  have HW8 : Hd _ := HW7.out.keep hF8
  have HV8 : Hd _ := HV7.out.keep hF8
  clear hF8 HW7 HA7 HO7 HB7 HT7 HX7
  have HFa : Hd (∀ j, a.ownBlock = some j → w.heap.size ≤ j ∧ j < w2.heap.size) := fun j e => ⟨(World.ownsRow.lt HA8.out j e).1, (World.ownsRow.lt HA2.out j e).2⟩
  have HFb : Hd (∀ j, b.ownBlock = some j → w2.heap.size ≤ j ∧ j < w8.heap.size) := fun j e => World.ownsRow.lt HB8.out j e
  have HFt : Hd (∀ j, wt.ownBlock = some j → w3.heap.size ≤ j ∧ j < w8.heap.size) := fun j e => World.ownsRow.lt HT8.out j e
  have hs12 : w.heap.size ≤ w2.heap.size := Nat.le_trans HF1.out.size HF2.out.size
  have hs23 : w2.heap.size ≤ w3.heap.size := HF3.out.size
  have hs0 : w0.heap.size ≤ w.heap.size := HW.out.fr.size
  go_wp2_with fail
  refine (show Calls Try.prog 35 #[ptr wb, a] w8 _ from keep_any w0 w8 wb pb rb pg rg pa ra lv mv us us' HW8.out a za (World.ownsRow.mono HA8.out hs0) (fun j e => ⟨HZr.out j (HFa.out j e).1, fun e2 => by have := HLt.out j (Or.inr (Or.inl e2)); have := (HFa.out j e).1; omega, fun e2 => by have := HLt.out j (Or.inr (Or.inr e2)); have := (HFa.out j e).1; omega⟩) hU2 (by omega)).mono ?_
  rintro e w9 ⟨rfl, lv2, mv2, us2, us2', hW9, hU9, hP9, hF9, hS9⟩
  have far : ∀ j, w2.heap.size ≤ j → ¬ (j = wb ∨ LsB lv us j ∨ LsB mv us' j ∨ a.ownBlock = some j) := fun j hj e => by
    rcases e with e | e | e | e
    · have := HLt.out j (Or.inl e); omega
    · have := HLt.out j (Or.inr (Or.inl e)); omega
    · have := HLt.out j (Or.inr (Or.inr e)); omega
    · have := (HFa.out j e).2; omega
  have HB9 : Hd _ := ownsRow_fr HB8.out hF9 (fun j e => far j (HFb.out j e).1)
  have HT9 : Hd _ := ownsRow_fr HT8.out hF9 (fun j e => far j (by have := (HFt.out j e).1; omega))
  have HW9 : Hd _ := hW9
  have HV9 : Hd (Pt ob x wb pg rg lv2 mv2 us2 us2' w9) := HV8.out.kept (lv2 := lv2) (mv2 := mv2) (us2 := us2) (us2' := us2') hF9 (fun e => by have := (HFa.out ob e).1; omega) hS9
  have HU9 : Hd _ := hU9
  have HP9 : Hd _ := hP9
  have HS9 : Hd _ := hS9
  clear hW9 hU9 hP9 hF9 hS9 far HW8 HA8 HB8 HT8
  go_wp2_with fail
  refine (show Calls Try.prog 19 #[b, wt] w9 _ from eqInts_same b wt za w9 (IntsAt.of_row HB9.out) (IntsAt.of_row HT9.out) (by omega)).mono ?_
  rintro e w10 ⟨rfl, hF10⟩
  have HB10 : Hd _ := ownsRow_fr HB9.out hF10 (fun _ _ e => e)
  have HW10 : Hd _ := HW9.out.keep hF10
  have HV10 : Hd _ := HV9.out.keep hF10
  have hU10 : us2.length ≤ 100000000 := by have : us2.length = us.length + 2 := HU9.out; have : us.length ≤ 4 * N := HU.out; omega
  have HFR : Hd (∀ j, b.ownBlock = some j → Own0 wb pg rg j ∧ ¬ LsB lv2 us2 j ∧ ¬ LsB mv2 us2' j) := fun j e => by
    have hb := HFb.out j e
    have key : ¬ (LsB lv2 us2 j ∨ LsB mv2 us2' j) := fun hk => by
      rcases HS9.out j hk with e2 | e2 | e2 | e2
      · have := HLt.out j (Or.inr (Or.inl e2)); omega
      · have := HLt.out j (Or.inr (Or.inr e2)); omega
      · have := (HFa.out j e2).2; omega
      · omega
    exact ⟨HZr.out j (by omega), fun e2 => key (Or.inl e2), fun e2 => key (Or.inr e2)⟩
  clear hF10 HW9 HB9 HT9
  go_wp2_with fail
  refine (show Calls Try.prog 35 #[ptr wb, b] w10 _ from keep_any w0 w10 wb pb rb pg rg pa ra lv2 mv2 us2 us2' HW10.out b za (World.ownsRow.mono HB10.out (by omega)) HFR.out hU10 (by omega)).mono ?_
  rintro e w11 ⟨rfl, lv3, mv3, us3, us3', hW11, hU11, hP11, hF11, hS11⟩
  have HW11 : Hd _ := hW11
  have HV11 : Hd (Pt ob x wb pg rg lv3 mv3 us3 us3' w11) := HV10.out.kept (lv2 := lv3) (mv2 := mv3) (us2 := us3) (us2' := us3') hF11 (fun e => by have := (HFb.out ob e).1; omega) hS11
  have HU11 : Hd _ := hU11
  have HP11 : Hd _ := hP11
  clear hW11 hU11 hP11 hF11 hS11 HW10 HB10
  go_wp2_with fail
  go_ret
  refine ⟨by simp, pb, rb, pg, rg, pa, ra, lv3, mv3, us3, us3', HW11.out, fun i hi => ⟨(HR.out i hi).1, (HR.out i hi).2.mono (by omega)⟩, ?_, fun p hp => ?_, HV11.out⟩
  · have e1 : us3.length = us2.length + 2 := HU11.out
    have e2 : us2.length = us.length + 2 := HU9.out
    have e3 : us.length ≤ 4 * N := HU.out
    omega
  · rcases HP11.out p hp with hp | hp
    · rcases HP9.out p hp with hp | hp
      · exact HP.out p hp
      · omega
    · omega

end Go.Proofs.Ytmdlebolmhnhaab
