import Derived.Test.YtingenonbkencabDoorQTaJ
import Derived.JoinedCond
import Derived.Test.YtingenonbkencabDoorCards
import Derived.Test.YtingenonbkencabDoorTie
import Derived.Deep.DeepHandedRow
import Derived.Lib.LaidTab
import Derived.Test.YtingenonbkencabDoorQD3J
import Derived.Test.YtingenonbkencabDoorQN6J
set_option linter.unusedVariables false
set_option linter.unusedSimpArgs false
namespace Go.Proofs.YtingenonbkencabDoor
open Go.ChangeShapes Go.WideShapes Go.ChangeAt Go.RowKit
theorem knob : ownKnob Tryd.prog.godebug = none := by kernel_rfl
theorem laysOut : laidOutB Tryd.prog = true := by kernel_rfl
theorem gTab : Tryd.prog.globalNamed "fugue/code.numberSizes" = some 0 := by kernel_rfl
theorem gTabType : (Tryd.prog.globals[0]?).map (·.type) = some 110 := by kernel_rfl
theorem under130 : Tryd.prog.underlying 110 = some (.array 18 3) := by kernel_rfl
theorem under4 : Tryd.prog.underlying 4 = some .bool := by kernel_rfl
theorem cells130 : Tryd.prog.cellsOf 110 = 18 := by kernel_rfl
theorem tab_is {W : World} (ht : Lib.TabIs Tryd.prog W "fugue/code.numberSizes" .i64 [0, 8, 0, 0, 0, 0, 1, 1, 1, 1, 1, 2, 0, 2, 2, 0, 0, 0]) : Tab W := by
 intro op hop
 have hc := ht.cell gTab op (by simpa using hop)
 rw [hc]
 simp only [Option.some.injEq, Value.int.injEq, true_and]
 match op, hop with
 | 0, _ | 1, _ | 2, _ | 3, _ | 4, _ | 5, _ | 6, _ | 7, _ | 8, _ | 9, _ | 10, _ | 11, _ | 12, _ | 13, _ | 14, _ | 15, _ | 16, _ | 17, _ => rfl
 | n + 18, h => exact absurd h (by omega)
end Go.Proofs.YtingenonbkencabDoor
namespace Go.Proofs.YtingenonbkencabDoor
open Go.RowKit (wrap32 wrap64)
theorem writing_other (b wb g0 K : Nat) : NextKeep (writing b wb g0 K) (fun st => st.1) := by
 intro pb po hpb x v size w hroom hx hs1 hs8 hu
 obtain ⟨s, st⟩ := x
 obtain ⟨hl, hn, hI⟩ := hx
 have hroom' : 1 ≤ st.1 := hroom
 simp only at hl hn
 obtain ⟨h1, h2, h3, h4, h5, h6, h7, h8, h9, bv, hrow⟩ := hI
 simp only at h1
 have h2' : st.2.length + 8 * st.1 ≤ 1000000000000 := h2
 have hbS : ¬ (b = wb ∨ K ≤ b) := by omega
 have h0 : w.cell? ⟨b, 0, none⟩ = some (writerFn wb) := by rw [hl.facts.1, hn]; rfl
 refine (next_writes b wb g0 K st.2 bv ⟨pb, po, none⟩ s.at' v size w h0 hl.facts.2.1 (hl.frozen 1) hu hs8 hrow (by omega) hbS hl.lt).mono ?_
 rintro e w' ⟨rfl, w1, bv', hr1, hf1, rfl⟩
 have hfb : Fr (fun k => k = b) w1 (w1.setCell ⟨b, 1, none⟩ (vI (adv s.at' size))) := Fr.setCell (Fr.refl (fun k => k = b) w1) _ _ (Or.inl rfl)
 refine ⟨(hf1.mono (fun k _ hk => Or.inr hk)).trans (hfb.mono (fun k _ hk => Or.inl hk)), rfl, ((st.1 - 1, st.2 ++ leBytes size (IntKind.u64.wrap v).toNat) : Nat × List UInt8), ?_, ?_⟩
 ·simp only [writing]
  rw [if_neg (by omega)]
 have hadv : adv s.at' size = s.at' + size := adv_small _ _ (by omega) (by omega) hs8
 have hl1 : Lies w1 b s := hl.fr hf1 hbS
 have hT1 : Tab w1 := h9.fr hf1 (by omega)
 refine ⟨hl1.setCell 1 _ (cells_at _ _), hn, ?_, ?_, h3, h4, h5, h6, h7, h8, hT1.fr hfb (by omega), bv', hr1.fr hfb (fun e => h7 e.symm) h8 (fun k hk e => by omega)⟩
 ·show adv s.at' size = ((st.2 ++ leBytes size (IntKind.u64.wrap v).toNat).length : Nat)
  rw [List.length_append, leBytes_length, hadv, h1]; simp
 ·show (st.2 ++ leBytes size (IntKind.u64.wrap v).toNat).length + 8 * (st.1 - 1) ≤ 1000000000000
  rw [List.length_append, leBytes_length]; omega
theorem writing_KM (b wb g0 K : Nat) : KM (writing b wb g0 K) (fun st => st.1) := ⟨writing_at b wb g0 K, writing_other b wb g0 K, writing_goes b wb g0 K, writing_keeps b wb g0 K⟩
theorem CS.fr {S : Nat → Prop} {w w' : World} {v : Value} {c : List PI} (h : CS S w v c) (f : Fr S w w') : CS S w' v c := by
 obtain ⟨h0, a, cp, e, h⟩ := h
 refine ⟨h0, a, cp, e, fun hne => ?_⟩
 obtain ⟨k, o, e, hk, hb, hc⟩ := h hne
 refine ⟨k, o, e, Nat.lt_of_lt_of_le hk f.size, hb, fun j hj => ?_⟩
 obtain ⟨av, rv, h1, h2, h3, h4, h5, h6, h7, h8, h9, h10⟩ := hc j hj
 exact ⟨av, rv, (f.cell hk hb).trans h1, (f.cell hk hb).trans h2, (f.cell hk hb).trans h3, (f.cell hk hb).trans h4, (f.cell hk hb).trans h5, (f.cell hk hb).trans h6, (f.cell hk hb).trans h7, h8.fr f, h9.fr f, h10⟩
theorem FS.fr {S : Nat → Prop} {w w' : World} {v : Value} {fs : List PF} (h : FS S w v fs) (f : Fr S w w') : FS S w' v fs := by
 obtain ⟨h0, a, cp, e, h⟩ := h
 refine ⟨h0, a, cp, e, fun hne => ?_⟩
 obtain ⟨k, o, e, hk, hb, hc⟩ := h hne
 refine ⟨k, o, e, Nat.lt_of_lt_of_le hk f.size, hb, fun j hj => ?_⟩
 obtain ⟨cv, h1, h2, h3, h4, h5⟩ := hc j hj
 exact ⟨cv, (f.cell hk hb).trans h1, (f.cell hk hb).trans h2, (f.cell hk hb).trans h3, (f.cell hk hb).trans h4, h5.fr f⟩
def startP (w : World) (G : Int) (fv : Value) : World :=
 ((((((w.alloc (.cells #[vI G, fv] 24)).alloc (.cells magicC 5 (6, 7))).alloc (.cells #[.slice (some ⟨w.heap.size + 1, 0, none⟩) 6 6] 45)).alloc (.cells rowsC 67)).alloc (.cells (WS.start (writerFn (w.heap.size + 2))).cells 69)).alloc (.cells #[.pointer (some ⟨w.heap.size + 4, 0, none⟩)] 46)).alloc (.cells #[vI 0, vI 0] 50)
theorem startP_at (w : World) (G : Int) (fv : Value) : (startP w G fv).heap[w.heap.size]? = some (.cells #[vI G, fv] 24) ∧ (startP w G fv).heap[w.heap.size + 1]? = some (.cells magicC 5 (6, 7)) ∧
 (startP w G fv).heap[w.heap.size + 2]? = some (.cells #[.slice (some ⟨w.heap.size + 1, 0, none⟩) 6 6] 45) ∧ (startP w G fv).heap[w.heap.size + 4]? = some (.cells (WS.start (writerFn (w.heap.size + 2))).cells 69) ∧
 (startP w G fv).heap[w.heap.size + 5]? = some (.cells #[.pointer (some ⟨w.heap.size + 4, 0, none⟩)] 46) ∧ (startP w G fv).heap[w.heap.size + 6]? = some (.cells #[vI 0, vI 0] 50) ∧ (startP w G fv).heap.size = w.heap.size + 7 ∧ Fr (fun _ => False) w (startP w G fv) := by
 have last : ∀ (v : World) (o : Obj) (n : Nat), v.heap.size = n → (v.alloc o).heap[n]? = some o := fun v o n h => by rw [← h]; exact heap_alloc_last v o
 have past : ∀ (v : World) (o : Obj) (n : Nat), n < v.heap.size → (v.alloc o).heap[n]? = v.heap[n]? := fun v o n h => Go.RowKit.Below.heap_alloc v o n h
 unfold startP
 refine ⟨?_, ?_, ?_, ?_, ?_, ?_, by simp, Fr.alloc (Fr.alloc (Fr.alloc (Fr.alloc (Fr.alloc (Fr.alloc (Fr.alloc (Fr.refl _ w) _) _) _) _) _) _) _⟩
 ·rw [past _ _ _ (by simp; try omega), past _ _ _ (by simp; try omega), past _ _ _ (by simp; try omega), past _ _ _ (by simp; try omega), past _ _ _ (by simp; try omega), past _ _ _ (by simp; try omega), last _ _ _ rfl]
 ·rw [past _ _ _ (by simp; try omega), past _ _ _ (by simp; try omega), past _ _ _ (by simp; try omega), past _ _ _ (by simp; try omega), past _ _ _ (by simp; try omega), last _ _ _ (by simp; try omega)]
 ·rw [past _ _ _ (by simp; try omega), past _ _ _ (by simp; try omega), past _ _ _ (by simp; try omega), past _ _ _ (by simp; try omega), last _ _ _ (by simp; try omega)]
 ·rw [past _ _ _ (by simp; try omega), past _ _ _ (by simp; try omega), last _ _ _ (by simp; try omega)]
 ·rw [past _ _ _ (by simp; try omega), last _ _ _ (by simp; try omega)]
 ·rw [last _ _ _ (by simp; try omega)]
def RoomOk (R : Nat) : Prop := 5368971270 ≤ R ∧ 6 + 8 * R ≤ 1000000000000
def encK (n R : Nat) (G : Int) (fs : List PF) : X (WS × (Nat × List UInt8)) := overK (writing (n + 4) (n + 2) (n + 1) (n + 8)) G fs (WS.start (writerFn (n + 2)), ((R, magicL) : Nat × List UInt8))
def EncJ (R : Nat) (w : World) (G : Int) (fs : List PF) (fv : Value) (w' : World) : Prop :=
 Fr (fun k => k = w.heap.size + 4 ∨ k = w.heap.size + 2) (startP w G fv) w' ∧ ∃ y bv, encK w.heap.size R G fs = .ok y ∧ w'.heap[w.heap.size + 2]? = some (.cells #[bv] 45) ∧ Handed w' bv y.2.2 ∧ ∃ a c, bv = .slice a y.2.2.length c
def EncN (R : Nat) (w : World) (G : Int) (fs : List PF) (fv : Value) (er at' : Int) (w' : World) : Prop :=
 Fr (fun k => k = w.heap.size + 4 ∨ k = w.heap.size + 2) (startP w G fv) w' ∧ encK w.heap.size R G fs = .error (er, at')
theorem over_encP {R : Nat} (hR : RoomOk R) (w : World) (G : Int) (fs : List PF) (fv : Value) (b0 : Nat) (hl : FL b0 w fv fs) (hT : Tab w) (h0 : 0 < w.heap.size) :
 Calls Tryd.prog 22 #[.pointer (some ⟨w.heap.size + 4, 0, none⟩), .agg #[vI G, fv]] (startP w G fv) fun e w' => (e = .returned (.tuple #[]) ∧ EncJ R w G fs fv w') ∨ ∃ er at', e = .panicked (viol er at') ∧ EncN R w G fs fv er at' w' := by
 obtain ⟨s0, s1, s2, s4, s5, s6, hsz, hsf⟩ := startP_at w G fv
 have hSB : ∀ k, (writing (w.heap.size + 4) (w.heap.size + 2) (w.heap.size + 1) (w.heap.size + 8)).SB k → k = w.heap.size + 4 ∨ k = w.heap.size + 2 ∨ w.heap.size + 8 ≤ k := fun k h => h
 have hFS : FS (writing (w.heap.size + 4) (w.heap.size + 2) (w.heap.size + 1) (w.heap.size + 8)).SB (startP w G fv) fv fs :=
  (hl.out (fun k hk _ h => by have := hSB k h; omega)).fr (hsf.mono (fun _ _ h => h.elim))
 refine (over_K (writing_KM (w.heap.size + 4) (w.heap.size + 2) (w.heap.size + 1) (w.heap.size + 8)) (WS.start (writerFn (w.heap.size + 2))) ((R, magicL) : Nat × List UInt8) (startP w G fv) s4 hR.1 G fv fs hFS (fun k e h => by have := hSB k h; omega) ?_).mono ?_
 ·intro w1 s' hf hp hls hn hat
  refine ⟨hls, hn, ?_, hR.2, by omega, by omega, by omega, by omega, by omega, by omega, (hT.fr hsf (fun h => h)).fr hf (by omega), .slice (some ⟨w.heap.size + 1, 0, none⟩) 6 6, ?_, Or.inr ⟨rfl, ?_⟩, by omega, by omega, by omega, ?_⟩
  ·show s'.at' = _; rw [hat]; rfl
  ·rw [hf.block _ (by omega) (by omega)]; exact s2
  ·intro j u hu
   rw [hf.cell (by omega) (by omega)]
   unfold World.cell?
   simp only [s1, Option.isSome_none, Bool.false_eq_true, if_false]
   have : (magicL.map u8v)[j]? = some u := hu
   rw [← this]
   show magicC[j]? = _
   rw [← Array.getElem?_toList]
   rfl
  ·have := (Array.getElem?_eq_some_iff.1 hp).1; omega
 ·rintro e w' ⟨hf, hres⟩
  have hf' : Fr (fun k => k = w.heap.size + 4 ∨ k = w.heap.size + 2) (startP w G fv) w' := hf.mono (fun k hk h => by have := hSB k h; omega)
  have hk : encK w.heap.size R G fs = overK (writing (w.heap.size + 4) (w.heap.size + 2) (w.heap.size + 1) (w.heap.size + 8)) G fs (WS.start (writerFn (w.heap.size + 2)), ((R, magicL) : Nat × List UInt8)) := rfl
  cases hx : overK (writing (w.heap.size + 4) (w.heap.size + 2) (w.heap.size + 1) (w.heap.size + 8)) G fs (WS.start (writerFn (w.heap.size + 2)), ((R, magicL) : Nat × List UInt8)) with
  | error z =>
    rw [hx] at hres
    exact Or.inr ⟨z.1, z.2, hres, hf', hk.trans hx⟩
  | ok y =>
    rw [hx] at hres
    obtain ⟨rfl, x, hon, hal⟩ := hres
    obtain ⟨h1, h2, -, -, -, -, -, -, -, bv, hrow⟩ := hon.2.2
    have e2 : (x.2 : Nat × List UInt8) = y.2 := hal.2
    have hrow' : Row w' (w.heap.size + 2) (w.heap.size + 1) (w.heap.size + 8) (y.2 : Nat × List UInt8).2 bv := by rw [← e2]; exact hrow
    have hlen : (y.2 : Nat × List UInt8).2.length ≤ 1000000000000 := by
     rw [← e2]
     have h2' : (x.2 : Nat × List UInt8).2.length + 8 * (x.2 : Nat × List UInt8).1 ≤ 1000000000000 := h2
     omega
    refine Or.inl ⟨rfl, hf', y, bv, hk.trans hx, hrow'.var, ?_⟩
    have hm : magicL <+: (y.2 : Nat × List UInt8).2 := by
     have e := over_doc (b := w.heap.size + 4) (wb := w.heap.size + 2) (g0 := w.heap.size + 1) (K := w.heap.size + 8) hR.2 hx
     rw [e]
     unfold docAll
     simp only [List.append_assoc]
     exact List.prefix_append _ _
    have hne : (y.2 : Nat × List UInt8).2 ≠ [] := by
     intro e
     have h3 := hm.length_le
     rw [e] at h3
     simp [magicL] at h3
    obtain ⟨k1, a, c, k2⟩ := row_handed hrow' hne (by omega)
    exact ⟨k1, a, c, k2⟩
def checkP (G : Int) (fs : List PF) : Int := match answerP G fs with | .ok _ => 0 | .error z => z.1
set_option maxRecDepth 100000
set_option maxHeartbeats 1000000
theorem dec_least : decX leastB = .ok (0, [⟨0, 0, 0, 1⟩], [[⟨15, 0, 0, 0, 0, [], []⟩]]) := by kernel_rfl
theorem eqInts_nil (a a' : Option Addr) (c c' : Nat) (w : World) : Calls Tryd.prog 81 #[.slice a 0 c, .slice a' 0 c'] w fun e w' => e = .returned (.bool true) ∧ w' = w := by
 go_enter Tryd.func81, Tryd.ntmps81
 go_wp2_with fail
 go_loopw [5] (fun i wr => i = .int .i64 0 ∧ wr = w) (fun _ _ => 0)
 case atStart => exact ⟨rfl, rfl⟩
 case round =>
  obtain ⟨rfl, rfl⟩ := hrel
  go_wp2_with fail
  go_ret
  exact ⟨rfl, rfl⟩
theorem eqInstr_1 (a5 a6 b5 b6 : Option Addr) (c5 c6 d5 d6 : Nat) (w : World) : Calls Tryd.prog 78 #[.agg #[vI 15, vI 0, vI 0, vI 0, vI 0, .slice a5 0 c5, .slice a6 0 c6], .agg #[vI 15, vI 0, vI 0, vI 0, vI 0, .slice b5 0 d5, .slice b6 0 d6]] w fun e w' => e = .returned (.bool true) ∧ Fr (fun _ => False) w w' := by
 go_enter Tryd.func78, Tryd.ntmps78
 go_wp2_with fail
 refine (eqInts_nil _ _ _ _ _).mono ?_
 rintro e w1 ⟨rfl, rfl⟩
 go_wp2_with fail
 refine (eqInts_nil _ _ _ _ _).mono ?_
 rintro e w1 ⟨rfl, rfl⟩
 go_wp2_with fail
 go_ret
 exact ⟨rfl, Fr.alloc (Fr.alloc (Fr.refl _ w) _) _⟩
structure Lay1 (w : World) (v : Value) (fb cb : Nat) (fc cc : Nat) : Prop where
 val : v = .agg #[vI 0, .slice (some ⟨fb, 0, none⟩) 1 fc]
 f : w.cell? ⟨fb, 0, none⟩ = some (vI 0) ∧ w.cell? ⟨fb, 1, none⟩ = some (vI 0) ∧ w.cell? ⟨fb, 2, none⟩ = some (vI 0) ∧ w.cell? ⟨fb, 3, none⟩ = some (.slice (some ⟨cb, 0, none⟩) 1 cc)
 c : w.cell? ⟨cb, 0, none⟩ = some (vI 15) ∧ w.cell? ⟨cb, 1, none⟩ = some (vI 0) ∧ w.cell? ⟨cb, 2, none⟩ = some (vI 0) ∧ w.cell? ⟨cb, 3, none⟩ = some (vI 0) ∧ w.cell? ⟨cb, 4, none⟩ = some (vI 0) ∧
  (∃ a n, w.cell? ⟨cb, 5, none⟩ = some (.slice a 0 n)) ∧ ∃ a n, w.cell? ⟨cb, 6, none⟩ = some (.slice a 0 n)
theorem Lay1.fr {w w' : World} {v : Value} {fb cb fc cc : Nat} (h : Lay1 w v fb cb fc cc) (f : Fr (fun _ => False) w w') : Lay1 w' v fb cb fc cc := by
 have h1 := cell_lt h.f.1
 have h2 := cell_lt h.c.1
 have e1 : ∀ o, w'.cell? ⟨fb, o, none⟩ = w.cell? ⟨fb, o, none⟩ := fun o => f.cell h1 (fun h => h)
 have e2 : ∀ o, w'.cell? ⟨cb, o, none⟩ = w.cell? ⟨cb, o, none⟩ := fun o => f.cell h2 (fun h => h)
 exact ⟨h.val, by simp only [e1]; exact h.f, by simp only [e2]; exact h.c⟩
theorem eqCode_1 (w : World) (v v' : Value) (fb cb fc cc fb' cb' fc' cc' : Nat) (h : Lay1 w v fb cb fc cc) (h' : Lay1 w v' fb' cb' fc' cc') :
 Calls Tryd.prog 72 #[.slice (some ⟨cb, 0, none⟩) 1 cc, .slice (some ⟨cb', 0, none⟩) 1 cc'] w fun e w' => e = .returned (.bool true) ∧ Fr (fun _ => False) w w' := by
 go_enter Tryd.func72, Tryd.ntmps72
 go_wp2_with fail
 go_loopw [5] (fun i wr => Fr (fun _ => False) w wr ∧ (i = .int .i64 0 ∨ i = .int .i64 1)) (fun i _ => match i with | .int _ q => 1 - q.toNat | _ => 0)
 case atStart => exact ⟨Fr.refl _ _, Or.inl rfl⟩
 case round =>
  obtain ⟨hfr, rfl | rfl⟩ := hrel
  ·have hr := h.fr hfr
   have hr' := h'.fr hfr
   obtain ⟨a0, a1, a2, a3, a4, ⟨p5, n5, a5⟩, p6, n6, a6⟩ := hr.c
   obtain ⟨b0, b1, b2, b3, b4, ⟨q5, m5, b5⟩, q6, m6, b6⟩ := hr'.c
   have hx := eqInstr_1 p5 p6 q5 q6 n5 n6 m5 m6 wr.drew
   clear hr hr'
   go_wp2_with fail
   refine wp_region_still_tail 8 mixed (by kernel_rfl) ?_
   simp only [List.take_succ_cons, List.take_zero, List.drop_succ_cons, List.drop_zero]
   repeat still_step
   refine wpStill_nil ?_
   go_wp2_with fail
   refine hx.mono ?_
   rintro e w1 ⟨rfl, hf⟩
   clear hx
   go_wp2_with fail
   exact ⟨⟨hfr.drew.trans hf, Or.inr (by simp)⟩, by simp⟩
  ·go_wp2_with fail
   go_ret
   exact ⟨rfl, hfr⟩
theorem eqFunc_1 (w : World) (v v' : Value) (fb cb fc cc fb' cb' fc' cc' : Nat) (h : Lay1 w v fb cb fc cc) (h' : Lay1 w v' fb' cb' fc' cc') :
 Calls Tryd.prog 47 #[.agg #[vI 0, vI 0, vI 0, .slice (some ⟨cb, 0, none⟩) 1 cc], .agg #[vI 0, vI 0, vI 0, .slice (some ⟨cb', 0, none⟩) 1 cc']] w fun e w' => e = .returned (.bool true) ∧ Fr (fun _ => False) w w' := by
 have hx := eqCode_1 ((w.alloc (.cells #[vI 0, vI 0, vI 0, .slice (some ⟨cb, 0, none⟩) 1 cc] 42)).alloc (.cells #[vI 0, vI 0, vI 0, .slice (some ⟨cb', 0, none⟩) 1 cc'] 42)) v v' fb cb fc cc fb' cb' fc' cc' (h.fr (Fr.alloc (Fr.alloc (Fr.refl _ w) _) _)) (h'.fr (Fr.alloc (Fr.alloc (Fr.refl _ w) _) _))
 go_enter Tryd.func47, Tryd.ntmps47
 go_wp2_with fail
 refine hx.mono ?_
 rintro e w1 ⟨rfl, hf⟩
 go_wp2_with fail
 go_ret
 exact ⟨rfl, (Fr.alloc (Fr.alloc (Fr.refl _ w) _) _).trans hf⟩
theorem eqFuncs_1 (w : World) (v v' : Value) (fb cb fc cc fb' cb' fc' cc' : Nat) (h : Lay1 w v fb cb fc cc) (h' : Lay1 w v' fb' cb' fc' cc') :
 Calls Tryd.prog 26 #[.slice (some ⟨fb, 0, none⟩) 1 fc, .slice (some ⟨fb', 0, none⟩) 1 fc'] w fun e w' => e = .returned (.bool true) ∧ Fr (fun _ => False) w w' := by
 go_enter Tryd.func26, Tryd.ntmps26
 go_wp2_with fail
 go_loopw [5] (fun i wr => Fr (fun _ => False) w wr ∧ (i = .int .i64 0 ∨ i = .int .i64 1)) (fun i _ => match i with | .int _ q => 1 - q.toNat | _ => 0)
 case atStart => exact ⟨Fr.refl _ _, Or.inl rfl⟩
 case round =>
  obtain ⟨hfr, rfl | rfl⟩ := hrel
  ·have hr := h.fr hfr
   have hr' := h'.fr hfr
   obtain ⟨a0, a1, a2, a3⟩ := hr.f
   obtain ⟨b0, b1, b2, b3⟩ := hr'.f
   have hx := eqFunc_1 wr.drew v v' fb cb fc cc fb' cb' fc' cc' (hr.fr (Fr.refl _ _).drew) (hr'.fr (Fr.refl _ _).drew)
   clear hr hr'
   go_wp2_with fail
   refine wp_region_still_tail 8 mixed (by kernel_rfl) ?_
   simp only [List.take_succ_cons, List.take_zero, List.drop_succ_cons, List.drop_zero]
   repeat still_step
   refine wpStill_nil ?_
   go_wp2_with fail
   refine hx.mono ?_
   rintro e w1 ⟨rfl, hf⟩
   clear hx
   go_wp2_with fail
   exact ⟨⟨hfr.drew.trans hf, Or.inr (by simp)⟩, by simp⟩
  ·go_wp2_with fail
   go_ret
   exact ⟨rfl, hfr⟩
theorem eqProgram_1 (w : World) (v v' : Value) (fb cb fc cc fb' cb' fc' cc' : Nat) (h : Lay1 w v fb cb fc cc) (h' : Lay1 w v' fb' cb' fc' cc') :
 Calls Tryd.prog 8 #[v, v'] w fun e w' => e = .returned (.bool true) ∧ Fr (fun _ => False) w w' := by
 have hx := eqFuncs_1 ((w.alloc (.cells #[vI 0, .slice (some ⟨fb, 0, none⟩) 1 fc] 24)).alloc (.cells #[vI 0, .slice (some ⟨fb', 0, none⟩) 1 fc'] 24)) v v' fb cb fc cc fb' cb' fc' cc' (h.fr (Fr.alloc (Fr.alloc (Fr.refl _ w) _) _)) (h'.fr (Fr.alloc (Fr.alloc (Fr.refl _ w) _) _))
 obtain ⟨rfl, -, -⟩ := h
 obtain ⟨rfl, -, -⟩ := h'
 go_enter Tryd.func8, Tryd.ntmps8
 go_wp2_with fail
 refine hx.mono ?_
 rintro e w1 ⟨rfl, hf⟩
 go_wp2_with fail
 go_ret
 exact ⟨rfl, (Fr.alloc (Fr.alloc (Fr.refl _ w) _) _).trans hf⟩
theorem Least.lay {w : World} {fb cb : Nat} (h : Least w fb cb) : Lay1 w (.agg #[vI 0, .slice (some ⟨fb, 0, none⟩) 1 1]) fb cb 1 1 := by
 obtain ⟨k0, k1, k2, k3, -⟩ := least_cells h
 obtain ⟨c0, c1, c2, c3, c4, c5, c6, -⟩ := least_code h
 exact ⟨rfl, ⟨k0, k1, k2, k3⟩, ⟨c0, c1, c2, c3, c4, ⟨_, _, c5⟩, _, _, c6⟩⟩
theorem LaidP.lay {w0 w : World} {v : Value} (h : LaidP w0 w v 0 [⟨0, 0, 0, 1⟩] [[⟨15, 0, 0, 0, 0, [], []⟩]]) : ∃ fb cb fc cc, Lay1 w v fb cb fc cc := by
 obtain ⟨g, cap, cs, tl, h1, h2, h3, h4, h5, h6, h7, h8, h9⟩ := h
 match cs, h3, h8 with
 | [c], _, h8 =>
   obtain ⟨⟨gc, cells, k1, k2, k3, av, rv, rest, k4, k5, k6, k7⟩, -⟩ := h8
   rw [show rest = [] from k7] at k4
   have e5 : ∃ a n, av = .slice a 0 n := by
    rcases k5 with ⟨-, e⟩ | ⟨g', -, e, h'⟩
    ·exact ⟨none, 0, e⟩
    ·exact ⟨_, _, e⟩
   have e6 : ∃ a n, rv = .slice a 0 n := by
    rcases k6 with ⟨-, e⟩ | ⟨g', -, e, h'⟩
    ·exact ⟨none, 0, e⟩
    ·exact ⟨_, _, e⟩
   obtain ⟨p5, n5, rfl⟩ := e5
   obtain ⟨p6, n6, rfl⟩ := e6
   subst k4 k2
   refine ⟨g, gc, cap, 1, h2, ?_, ?_⟩
   ·refine ⟨?_, ?_, ?_, ?_⟩ <;> (unfold World.cell?; simp [h7, funcCells])
   ·refine ⟨?_, ?_, ?_, ?_, ?_, ⟨p5, n5, ?_⟩, p6, n6, ?_⟩ <;> (unfold World.cell?; simp [k3])
set_option maxRecDepth 100000
set_option maxHeartbeats 1000000
theorem least_any (w : World) : Calls Tryd.prog 13 #[] w fun e w' => Fr (fun _ => False) w w' ∧ ∃ fb cb, e = .returned (.agg #[vI 0, .slice (some ⟨fb, 0, none⟩) 1 1]) ∧ Least w' fb cb := by
 go_enter Tryd.func13, Tryd.ntmps13
 go_wp2_with fail
 have hlast : ∀ (v : World) (o : Obj) (n : Nat), v.heap.size = n → (v.alloc o).heap[n]? = some o := fun v o n h => by rw [← h]; exact heap_alloc_last v o
 have hpast : ∀ (v : World) (o : Obj) (n : Nat), n < v.heap.size → (v.alloc o).heap[n]? = v.heap[n]? := fun v o n h => Go.RowKit.Below.heap_alloc v o n h
 refine ⟨rfl, .agg #[vI 0, .slice (some ⟨w.heap.size + 2, 0, none⟩) 1 1], ?_, Fr.alloc (Fr.alloc (Fr.alloc (Fr.refl _ w) _) _) _, w.heap.size + 2, w.heap.size + 1, rfl, ?_, ?_⟩
 ·rw [results_cell (p := 0) (ty := 24) Tryd.results13]
  simp [go_sem]
 ·rw [hlast _ _ _ (by simp)]
 ·rw [hpast _ _ _ (by simp), hlast _ _ _ (by simp)]
theorem works_any (w : World) (hT : Tab w) (h0 : 0 < w.heap.size) : Calls Tryd.prog 4 #[] w fun e w' => e = .returned (.bool true) ∧ Fr (fun _ => False) w w' := by
 go_enter Tryd.func4, Tryd.ntmps4
 go_wp2_with fail
 refine (least_any w).mono ?_
 rintro e w1 ⟨hf1, fb, cb, rfl, hl1⟩
 have hT1 : Tab w1 := hT.fr hf1 (fun h => h)
 have hs1 := hf1.size
 go_wp2_with fail
 refine (encode_least w1 fb cb hl1 hT1 (by omega)).mono ?_
 rintro e w2 ⟨⟨bv, rfl, hbh, a, c, rfl⟩, hf2⟩
 have hT2 : Tab w2 := hT1.fr hf2 (fun h => h)
 have hs2 := hf2.size
 clear hl1 hT1
 go_wp2_with fail
 refine (decode_said _ leastB w2 hbh hT2 (by omega)).mono ?_
 rintro e w3 ⟨hf3, hr3⟩
 rw [dec_least] at hr3
 obtain ⟨v, rfl, hlp⟩ := hr3
 obtain ⟨fb3, cb3, fc3, cc3, hy3⟩ := hlp.lay
 have hv := hy3.val
 have hT3 : Tab w3 := hT2.fr hf3 (fun h => h)
 have hs3 := hf3.size
 clear hlp hbh hT2
 subst hv
 go_wp2_with fail
 have hf4 : Fr (fun _ => False) w3 (w3.alloc (.cells #[vI 0, .slice (some ⟨fb3, 0, none⟩) 1 fc3] 24)) := Fr.alloc (Fr.refl _ w3) _
 have hp4 : (w3.alloc (.cells #[vI 0, .slice (some ⟨fb3, 0, none⟩) 1 fc3] 24)).heap[w3.heap.size]? = some (.cells #[vI 0, .slice (some ⟨fb3, 0, none⟩) 1 fc3] 24) := heap_alloc_last _ _
 have hy4 := hy3.fr hf4
 have hT4 := hT3.fr hf4 (fun h => h)
 have hfw4 : Fr (fun _ => False) w (w3.alloc (.cells #[vI 0, .slice (some ⟨fb3, 0, none⟩) 1 fc3] 24)) := ((hf1.trans hf2).trans hf3).trans hf4
 generalize (w3.alloc (.cells #[vI 0, .slice (some ⟨fb3, 0, none⟩) 1 fc3] 24)) = w4 at hf4 hp4 hy4 hT4 hfw4 ⊢
 generalize w3.heap.size = pq at hp4 ⊢
 have hpl : pq < w4.heap.size := (Array.getElem?_eq_some_iff.1 hp4).1
 have p0 : w4.cell? ⟨pq, 0, none⟩ = some (vI 0) := by unfold World.cell?; simp [hp4]
 have p1 : w4.cell? ⟨pq, 1, none⟩ = some (.slice (some ⟨fb3, 0, none⟩) 1 fc3) := by unfold World.cell?; simp [hp4]
 have HP : Hd (w4.heap[pq]? = some (.cells #[vI 0, .slice (some ⟨fb3, 0, none⟩) 1 fc3] 24)) := hp4
 have HY : Hd (Lay1 w4 (.agg #[vI 0, .slice (some ⟨fb3, 0, none⟩) 1 fc3]) fb3 cb3 fc3 cc3) := hy4
 clear hp4 hy4 hy3 hf3 hf2 hf1 hs1 hs2 hs3 hT3 hT h0 hf4
 have hfin : Hd (∀ w7, Fr (fun _ => False) w4 w7 → Fr (fun _ => False) w w7 ∧ Tab w7) := fun w7 h7 => ⟨hfw4.trans h7, hT4.fr h7 (fun h => h)⟩
 have h04 : 0 < w4.heap.size := by omega
 clear hfw4 hT4
 go_region_with ((
  first
   |(go_at_call 13
     refine (least_any _).mono ?_
     rintro e w5 ⟨hf5, fb5, cb5, rfl, hl5⟩
     have hf45 : Fr (fun _ => False) w4 w5 := (Fr.refl _ w4).drew.trans hf5
     have k0 : w5.cell? ⟨pq, 0, none⟩ = some (vI 0) := (hf45.cell hpl (fun h => h)).trans p0
     have k1 : w5.cell? ⟨pq, 1, none⟩ = some (.slice (some ⟨fb3, 0, none⟩) 1 fc3) := (hf45.cell hpl (fun h => h)).trans p1)
   |(go_at_call 8
     refine (eqProgram_1 _ _ _ fb3 cb3 fc3 cc3 fb5 cb5 1 1 (HY.out.fr hf45) hl5.lay).mono ?_
     rintro e w6 ⟨rfl, hf6⟩
     have hf46 : Fr (fun _ => False) w4 w6 := hf45.trans hf6)))
 all_goals
  clear hf45 k0 k1 hl5 hf5 hf6
  have hs6 := hf46.size
  go_wp2_with fail
  refine (least_any w6).mono ?_
  rintro e w7 ⟨hf7, fb7, cb7, rfl, hl7⟩
  have hf47 := hf46.trans hf7
  have hs7 := hf7.size
  clear hf46 hf7
  go_wp2_with fail
  refine (check_least w7 fb7 cb7 hl7 (hfin.out w7 hf47).2 (by omega)).mono ?_
  rintro e w8 ⟨rfl, hf8⟩
  have hf48 := hf47.trans hf8
  have hs8 := hf8.size
  clear hf47 hf8 hl7
  go_wp2_with fail
  refine (least_any w8).mono ?_
  rintro e w9 ⟨hf9, fb9, cb9, rfl, hl9⟩
  have hf49 := hf48.trans hf9
  have hs9 := hf9.size
  clear hf48 hf9
  go_wp2_with fail
  refine (locations_least w9 fb9 cb9 hl9 (hfin.out w9 hf49).2 (by omega)).mono ?_
  rintro e w10 ⟨rfl, hf10⟩
  have hf410 := hf49.trans hf10
  clear hf49 hf10 hl9
  go_wp2_with fail
  go_ret
  exact ⟨rfl, (hfin.out w10 hf410).1⟩
theorem IA.il {w : World} {v : Value} {l : List Int} (h : IA w v l) {b : Nat} (hb : w.heap.size ≤ b) : IL b w v l := by
 obtain ⟨a, c, e, h⟩ := h
 refine ⟨a, c, e, fun hne => ?_⟩
 obtain ⟨k, o, e, hk, hc⟩ := h hne
 exact ⟨k, o, e, hk, by omega, hc⟩
theorem CA.cl {w : World} {v : Value} {cs : List PI} (h : CA w v cs) (hn : FineC cs) {b : Nat} (hb : w.heap.size ≤ b) : CL b w v cs := by
 obtain ⟨a, c, e, h⟩ := h
 refine ⟨by have := hn.1; omega, a, c, e, fun hne => ?_⟩
 obtain ⟨k, o, e, hk, hc⟩ := h hne
 refine ⟨k, o, e, hk, by omega, fun j hj => ?_⟩
 obtain ⟨av, rv, h1, h2, h3, h4, h5, h6, h7, h8, h9⟩ := hc j hj
 have hf := hn.2 _ (List.getElem_mem hj)
 exact ⟨av, rv, h1, h2, h3, h4, h5, h6, h7, h8.il hb, h9.il hb, by omega, by omega⟩
theorem FA.fl {w : World} {v : Value} {fs : List PF} (h : FA w v fs) (hn : FineP fs) {b : Nat} (hb : w.heap.size ≤ b) : FL b w v fs := by
 obtain ⟨a, c, e, h⟩ := h
 refine ⟨by have := hn.1; omega, a, c, e, fun hne => ?_⟩
 obtain ⟨k, o, e, hk, hc⟩ := h hne
 refine ⟨k, o, e, hk, by omega, fun j hj => ?_⟩
 obtain ⟨cv, h1, h2, h3, h4, h5⟩ := hc j hj
 exact ⟨cv, h1, h2, h3, h4, h5.cl (hn.2 _ (List.getElem_mem hj)) hb⟩
set_option maxRecDepth 100000
set_option maxHeartbeats 1000000
theorem eqBytes_same (v1 v2 : Value) (bs : List UInt8) (w : World) (h1 : BytesIn w v1 bs) (h2 : BytesIn w v2 bs) :
 Calls Tryd.prog 10 #[v1, v2] w fun e w' => e = .returned (.bool true) ∧ Fr (fun _ => False) w w' := by
 obtain ⟨hL, a1, c1, rfl, hc1, g1⟩ := h1
 obtain ⟨-, a2, c2, rfl, hc2, g2⟩ := h2
 have H1 : Hd _ := g1
 have H2 : Hd _ := g2
 clear g1 g2
 obtain ⟨n, hn⟩ : ∃ n, n = bs.length := ⟨_, rfl⟩
 have HN : Hd (n = bs.length) := hn
 rw [← hn] at hL hc1 hc2 ⊢
 clear hn
 go_enter Tryd.func10, Tryd.ntmps10
 go_wp2_with fail
 go_loopw [5] (fun v wr => ∃ (k : Nat), v = .int .i64 k ∧ k ≤ n ∧ Hd (Fr (fun _ => False) w wr)) (fun v _ => match v with | .int _ q => n - q.toNat | _ => 0)
 case atStart => exact ⟨0, rfl, Nat.zero_le _, Fr.refl _ _⟩
 case round =>
  obtain ⟨k, rfl, hk, HF⟩ := hrel
  by_cases hltn : k < n
  ·have hlt : k < bs.length := by rw [← HN.out]; exact hltn
   obtain ⟨k1, o1, rfl, hk1, g1⟩ := H1.out (by intro e; simp [e] at hlt)
   obtain ⟨k2, o2, rfl, hk2, g2⟩ := H2.out (by intro e; simp [e] at hlt)
   have q1 := (HF.out.cell (o := o1 + k) hk1 (fun h => h)).trans (g1 k hlt)
   have q2 := (HF.out.cell (o := o2 + k) hk2 (fun h => h)).trans (g2 k hlt)
   generalize bs[k].toNat = x at *
   have hk0 : (0 : Int) ≤ k := by omega
   have hk3 : (k : Int) < n := by omega
   clear g1 g2 hlt
   go_wp2_with fail
   refine wp_region_still_tail 8 mixed (by kernel_rfl) ?_
   simp only [List.take_succ_cons, List.take_zero, List.drop_succ_cons, List.drop_zero]
   repeat still_step
   refine wpStill_nil ?_
   go_wp2_with fail
   exact ⟨⟨k + 1, by simp, by omega, HF.out.drew⟩, by simp; omega⟩
  ·have hkn : k = n := by omega
   subst hkn
   go_wp2_with fail
   go_ret
   exact ⟨rfl, HF.out⟩
set_option maxRecDepth 100000
set_option maxHeartbeats 4000000
theorem WF.stay {w w' : World} {B : Nat} {v : Value} {fs : List PF} {g : Nat} {cv : Nat → Value} (h : WF w B v fs g cv) (f : Fr (fun _ => False) w w') : WF w' B v fs g cv :=
 ⟨h.val, h.ge, h.row.fr f (fun e => e), fun i x hx => (h.code i x hx).stay f, h.apart⟩
theorem WF.fa {w : World} {B : Nat} {v : Value} {fs : List PF} {g : Nat} {cv : Nat → Value} (h : WF w B v fs g cv) : FA w v fs := by
 refine ⟨_, _, h.val, fun _ => ⟨g, 0, rfl, h.row.lt, fun j hj => ?_⟩⟩
 have pc := fun o (ho : o < 4) => h.row.cell (i := j) (o := o) (by omega) ho
 have e1 : wideF fs cv j = fR fs[j] (cv j) := by unfold wideF; rw [List.getElem?_eq_getElem hj]
 rw [e1] at pc
 rw [Nat.zero_add]
 exact ⟨cv j, pc 0 (by omega), pc 1 (by omega), pc 2 (by omega), pc 3 (by omega), (h.code j fs[j] (List.getElem?_eq_getElem hj)).ca⟩
theorem spareProgram_any (G : Int) (v : Value) (fs : List PF) (B g : Nat) (cv : Nat → Value) (w : World) (hl : WF w B v fs g cv) (hn : FineP fs) : Calls Tryd.prog 9 #[.agg #[vI G, v]] w fun e w' => e = .returned (.bool true) ∧ Fr (fun _ => False) w w' := by
 have hv := hl.val
 subst hv
 have hF1 : Fr (fun _ => False) w (w.alloc (.cells #[vI G, .slice (some ⟨g, 0, none⟩) fs.length (fs.length + 64)] 24)) := Fr.alloc (Fr.refl _ w) _
 have b1 : (w.alloc (.cells #[vI G, .slice (some ⟨g, 0, none⟩) fs.length (fs.length + 64)] 24)).heap[w.heap.size]? = some (.cells #[vI G, .slice (some ⟨g, 0, none⟩) fs.length (fs.length + 64)] 24) := heap_new w _
 have HF1 : Hd _ := hF1
 have HL : Hd (WF (w.alloc (.cells #[vI G, .slice (some ⟨g, 0, none⟩) fs.length (fs.length + 64)] 24)) B (.slice (some ⟨g, 0, none⟩) fs.length (fs.length + 64)) fs g cv) := hl.stay hF1
 have q1 : (w.alloc (.cells #[vI G, .slice (some ⟨g, 0, none⟩) fs.length (fs.length + 64)] 24)).cell? ⟨w.heap.size, 1, none⟩ = some (.slice (some ⟨g, 0, none⟩) fs.length (fs.length + 64)) := by rw [cell_of b1]; rfl
 have HFI : Hd (FineP fs) := hn
 have hn := hn.1
 clear hF1 b1 hl
 obtain ⟨n, hnl⟩ : ∃ n, n = fs.length := ⟨_, rfl⟩
 have HN : Hd (n = fs.length) := hnl
 rw [← hnl] at hn HL q1 HF1 ⊢
 clear hnl
 have hn0 : (0 : Int) ≤ (n : Int) + 64 := by omega
 have hn1 : (n : Int) + 64 ≤ ((n + 64 : Nat) : Int) := by omega
 have ht : ((n : Int) + 64).toNat = n + 64 := by omega
 obtain ⟨H, hH⟩ : ∃ H, H = w.heap.size := ⟨_, rfl⟩
 have HH : Hd (H = w.heap.size) := hH
 rw [← hH] at q1
 clear hH
 go_enter Tryd.func9, Tryd.ntmps9
 go_upto_region 1 with fail
 rw [← HH.out]
 generalize w.alloc (.cells #[vI G, .slice (some ⟨g, 0, none⟩) n (n + 64)] 24) = wa at *
 go_wp2_with fail
 go_loopw [4] (fun v wr => ∃ (k : Nat), v = .int .i64 k ∧ k ≤ n + 64 ∧ wr = wa) (fun v _ => match v with | .int _ q => n + 64 - q.toNat | _ => 0)
 case atStart => exact ⟨0, rfl, by omega, rfl⟩
 case round =>
  obtain ⟨k, rfl, hk, hwr⟩ := hrel
  subst hwr
  by_cases hlt : k < n + 64
  ·have hk0 : (0 : Int) ≤ k := by omega
   have hk1 : (k : Int) < (n : Int) + 64 := by omega
   have hk3 : (k : Int) < ((n + 64 : Nat) : Int) := by omega
   have hkl : k < fs.length + 64 := by have := HN.out; omega
   have pc := fun o (ho : o < 4) => HL.out.row.cell (i := k) (o := o) hkl ho
   by_cases hin : k < n
   ·have d1 : decide ((k : Int) < n) = true := by simp; omega
    have d2 : decide ((k : Int) ≥ n) = false := by simp; omega
    have hkc : k < fs.length := by have := HN.out; omega
    have e1 : wideF fs cv k = fR fs[k] (cv k) := by unfold wideF; rw [List.getElem?_eq_getElem hkc]
    rw [e1] at pc
    have p3 := pc 3 (by omega)
    simp only [List.getD_cons_zero, List.getD_cons_succ] at p3
    have HA : Hd (WC wr B (cv k) fs[k].code) := HL.out.code k fs[k] (List.getElem?_eq_getElem hkc)
    have HC : Hd (FineC fs[k].code) := HFI.out.2 _ (List.getElem_mem hkc)
    generalize fs[k] = f at *
    generalize cv k = x1 at *
    obtain ⟨g1, ps1, e1, -⟩ := id HA.out
    subst e1
    clear pc
    go_wp2_with fail
    refine (show Calls Tryd.prog 27 #[.slice (some ⟨g1, 0, none⟩) f.code.length (f.code.length + 64)] wr _ from spareCode_any _ f.code B wr HA.out HC.out).mono ?_
    rintro e w1 ⟨rfl, hw1⟩
    subst hw1
    go_wp2_with fail
    exact ⟨⟨k + 1, by simp, by omega, by trivial⟩, by simp; omega⟩
   ·have d1 : decide ((k : Int) < n) = false := by simp; omega
    have d2 : decide ((k : Int) ≥ n) = true := by simp; omega
    have e1 : wideF fs cv k = markF := by unfold wideF; rw [List.getElem?_eq_none (by have := HN.out; omega)]
    rw [e1] at pc
    have p2 := pc 2 (by omega)
    have p3 := pc 3 (by omega)
    simp only [Nat.add_zero, List.getD_cons_zero, List.getD_cons_succ] at p2 p3
    clear pc
    go_wp2_with fail
    exact ⟨⟨k + 1, by simp, by omega, by trivial⟩, by simp; omega⟩
  ·have hke : k = n + 64 := by omega
   subst hke
   go_wp2_with fail
   go_ret
   exact ⟨rfl, HF1.out⟩
end Go.Proofs.YtingenonbkencabDoor
