import Derived.Test.YtingenonbkencaaDoorQS3J
namespace Go.Proofs.YtingenonbkencaaDoor
open Go.RowKit (wrap32 wrap64)
set_option linter.unusedVariables false
set_option linter.unusedSimpArgs false

abbrev magicC : Array Value := #[.int .u8 102, .int .u8 117, .int .u8 103, .int .u8 117, .int .u8 101, .int .u8 1]

/-- The least program's bytes. -/
def leastB : List UInt8 := [102, 117, 103, 117, 101, 1, 0, 1, 0, 0, 0, 0, 1, 0, 15, 0]

/-- The world in which 'over' begins, in Encode. -/
def startE (w : World) (fb : Nat) : World :=
  ((((((w.alloc (.cells #[vI 0, .slice (some ⟨fb, 0, none⟩) 1 1] 26)).alloc (.cells magicC 5 (6, 7))).alloc (.cells #[.slice (some ⟨w.heap.size + 1, 0, none⟩) 6 6] 53)).alloc (.cells rowsC 85)).alloc (.cells (WS.start (writerFn (w.heap.size + 2))).cells 87)).alloc (.cells #[.pointer (some ⟨w.heap.size + 4, 0, none⟩)] 46)).alloc (.cells #[vI 0, vI 0] 50)

theorem startE_at (w : World) (fb : Nat) : (startE w fb).heap[w.heap.size]? = some (.cells #[vI 0, .slice (some ⟨fb, 0, none⟩) 1 1] 26) ∧ (startE w fb).heap[w.heap.size + 1]? = some (.cells magicC 5 (6, 7)) ∧
    (startE w fb).heap[w.heap.size + 2]? = some (.cells #[.slice (some ⟨w.heap.size + 1, 0, none⟩) 6 6] 53) ∧ (startE w fb).heap[w.heap.size + 4]? = some (.cells (WS.start (writerFn (w.heap.size + 2))).cells 87) ∧
    (startE w fb).heap[w.heap.size + 5]? = some (.cells #[.pointer (some ⟨w.heap.size + 4, 0, none⟩)] 46) ∧ (startE w fb).heap[w.heap.size + 6]? = some (.cells #[vI 0, vI 0] 50) ∧ (startE w fb).heap.size = w.heap.size + 7 ∧ Fr (fun _ => False) w (startE w fb) := by
  have last : ∀ (v : World) (o : Obj) (n : Nat), v.heap.size = n → (v.alloc o).heap[n]? = some o := fun v o n h => by rw [← h]; exact heap_alloc_last v o
  have past : ∀ (v : World) (o : Obj) (n : Nat), n < v.heap.size → (v.alloc o).heap[n]? = v.heap[n]? := fun v o n h => Go.RowKit.Below.heap_alloc v o n h
  unfold startE
  refine ⟨?_, ?_, ?_, ?_, ?_, ?_, by simp, Fr.alloc (Fr.alloc (Fr.alloc (Fr.alloc (Fr.alloc (Fr.alloc (Fr.alloc (Fr.refl _ w) _) _) _) _) _) _) _⟩
  · rw [past _ _ _ (by simp; try omega), past _ _ _ (by simp; try omega), past _ _ _ (by simp; try omega), past _ _ _ (by simp; try omega), past _ _ _ (by simp; try omega), past _ _ _ (by simp; try omega), last _ _ _ rfl]
  · rw [past _ _ _ (by simp; try omega), past _ _ _ (by simp; try omega), past _ _ _ (by simp; try omega), past _ _ _ (by simp; try omega), past _ _ _ (by simp; try omega), last _ _ _ (by simp; try omega)]
  · rw [past _ _ _ (by simp; try omega), past _ _ _ (by simp; try omega), past _ _ _ (by simp; try omega), past _ _ _ (by simp; try omega), last _ _ _ (by simp; try omega)]
  · rw [past _ _ _ (by simp; try omega), past _ _ _ (by simp; try omega), last _ _ _ (by simp; try omega)]
  · rw [past _ _ _ (by simp; try omega), last _ _ _ (by simp; try omega)]
  · rw [last _ _ _ (by simp; try omega)]

theorem chain_bytes {b wb g0 K : Nat} {n : Nat} {st8 : Nat × List UInt8} (h : Chain8 (writing b wb g0 K) (n + 8, magicL) st8) : st8 = (n, leastB) := by
  obtain ⟨st1, st2, st3, st4, st5, st6, st7, h1, h2, h3, h4, h5, h6, h7, h8⟩ := h
  have step : ∀ (k : Nat) (l : List UInt8) (p : Int) (size : Nat) (v : Int) (st' : Nat × List UInt8), (writing b wb g0 K).eff (k + 1, l) p size v = .ok (v, st') → st' = (k, l ++ leBytes size (IntKind.u64.wrap v).toNat) := by
    intro k l p size v st' h
    have e : (writing b wb g0 K).eff (k + 1, l) p size v = .ok (v, ((k, l ++ leBytes size (IntKind.u64.wrap v).toNat) : Nat × List UInt8)) := rfl
    rw [e] at h
    exact ((Prod.mk.inj (Except.ok.inj h)).2).symm
  have w0 : (IntKind.u64.wrap 0).toNat = 0 := by decide
  have w1 : (IntKind.u64.wrap 1).toNat = 1 := by decide
  have w15 : (IntKind.u64.wrap 15).toNat = 15 := by decide
  have e1 := step (n + 7) _ _ _ _ _ h1; subst e1
  have e2 := step (n + 6) _ _ _ _ _ h2; subst e2
  have e3 := step (n + 5) _ _ _ _ _ h3; subst e3
  have e4 := step (n + 4) _ _ _ _ _ h4; subst e4
  have e5 := step (n + 3) _ _ _ _ _ h5; subst e5
  have e6 := step (n + 2) _ _ _ _ _ h6; subst e6
  have e7 := step (n + 1) _ _ _ _ _ h7; subst e7
  have e8 := step n _ _ _ _ _ h8
  rw [e8, w0, w1, w15]
  rfl

theorem row_handed {w : World} {wb g0 K : Nat} {l : List UInt8} {bv : Value} (h : Row w wb g0 K l bv) (hne : l ≠ []) (hl : l.length ≤ 1000000000000000) : Handed w bv l ∧ ∃ a c, bv = .slice a l.length c := by
  have hKw := h.Kw
  have hgK := h.g0K
  rcases h.own with k | ⟨k1, k2⟩
  · rcases k.2 with ⟨-, e⟩ | ⟨g, cap, cur, e, h1, h2, h3, h4, h5, h6⟩
    · exact absurd (List.length_eq_zero_iff.1 e) hne
    · refine ⟨⟨hl, Or.inr ⟨hne, g, 0, cap, e, h3, (Array.getElem?_eq_some_iff.1 h2).1, fun i hi => ?_⟩⟩, _, _, e⟩
      have := World.ownsRow.cells k (g := g) (by rw [e]; rfl) i (u8v l[i]) (by simp [hi])
      rw [addr_add] at this
      rw [Nat.zero_add]
      exact this
  · refine ⟨⟨hl, Or.inr ⟨hne, g0, 0, l.length, k1, Nat.le_refl _, by omega, fun i hi => ?_⟩⟩, _, _, k1⟩
    rw [Nat.zero_add]
    exact k2 i _ (by simp [hi])

theorem Handed.spared {w w' : World} {rv : Value} {bs : List UInt8} {n : Nat} (h : Handed w rv bs) (f : Fr (fun k => k = n) w w') (hn : w.heap[n]? = some (.cells #[vI 0, vI 0] 50)) : Handed w' rv bs := by
  obtain ⟨h1, h2 | ⟨hne, k, o, c, h3, h4, h5, h6⟩⟩ := h
  · exact ⟨h1, Or.inl h2⟩
  · refine ⟨h1, Or.inr ⟨hne, k, o, c, h3, h4, Nat.lt_of_lt_of_le h5 f.size, fun i hi => ?_⟩⟩
    by_cases hk : k = n
    · exfalso
      have := h6 i hi
      unfold World.cell? at this
      simp only [hk, hn, Option.isSome_none, Bool.false_eq_true, if_false] at this
      have hm := Array.mem_of_getElem? this
      simp at hm
    · rw [f.cell h5 hk]
      exact h6 i hi

theorem over_encode (w : World) (fb cb : Nat) (hl : Least w fb cb) (hT : Tab w) (h0 : 0 < w.heap.size) :
    Calls Tryd.prog 36 #[.pointer (some ⟨w.heap.size + 4, 0, none⟩), .agg #[vI 0, .slice (some ⟨fb, 0, none⟩) 1 1]] (startE w fb) fun e w' => e = .returned (.tuple #[]) ∧
      Fr (fun k => k = w.heap.size + 4 ∨ k = w.heap.size + 2) (startE w fb) w' ∧ ∃ bv, w'.heap[w.heap.size + 2]? = some (.cells #[bv] 53) ∧ Handed w' bv leastB ∧ ∃ a c, bv = .slice a 16 c := by
  obtain ⟨s0, s1, s2, s4, s5, s6, hsz, hsf⟩ := startE_at w fb
  have hfbl := (Array.getElem?_eq_some_iff.1 hl.funcs).1
  have hcbl := (Array.getElem?_eq_some_iff.1 hl.code).1
  have hSB : ∀ k, (writing (w.heap.size + 4) (w.heap.size + 2) (w.heap.size + 1) (w.heap.size + 8)).SB k → k = w.heap.size + 4 ∨ k = w.heap.size + 2 ∨ w.heap.size + 8 ≤ k := fun k h => h
  refine (over_least (writing (w.heap.size + 4) (w.heap.size + 2) (w.heap.size + 1) (w.heap.size + 8)) (fun st => st.1) (writing_at _ _ _ _) (writing_goes _ _ _ _) (writing_keeps _ _ _ _) (WS.start (writerFn (w.heap.size + 2))) ((8, magicL) : Nat × List UInt8) (startE w fb) s4 (Nat.le_refl 8) rfl rfl fb cb (hl.fr hsf (fun h => h) (fun h => h))
    (fun h => by have := hSB _ h; omega) (fun h => by have := hSB _ h; omega) (fun k e h => by have := hSB _ h; omega) ?_).mono ?_
  · intro w1 s' hf hp hls hn hat
    refine ⟨hls, hn, ?_, by simp [magicL], by omega, by omega, by omega, by omega, by omega, by omega, (hT.fr hsf (fun h => h)).fr hf (by omega), .slice (some ⟨w.heap.size + 1, 0, none⟩) 6 6, ?_, Or.inr ⟨rfl, ?_⟩, by omega, by omega, by omega, ?_⟩
    · show s'.at' = _; rw [hat]; rfl
    · rw [hf.block _ (by omega) (by omega)]; exact s2
    · intro j u hu
      rw [hf.cell (by omega) (by omega)]
      unfold World.cell?
      simp only [s1, Option.isSome_none, Bool.false_eq_true, if_false]
      have : (magicL.map u8v)[j]? = some u := hu
      rw [← this]
      show magicC[j]? = _
      rw [← Array.getElem?_toList]
      rfl
    · have := (Array.getElem?_eq_some_iff.1 hp).1; omega
  · rintro e w' ⟨rfl, hf, s', st8, hon, hlo, hch⟩
    have e8 := chain_bytes (n := 0) hch
    subst e8
    obtain ⟨-, -, -, -, -, -, -, -, -, bv, hrow⟩ := hon.2.2
    have hrow' : Row w' (w.heap.size + 2) (w.heap.size + 1) (w.heap.size + 8) leastB bv := hrow
    obtain ⟨k1, a, c, k2⟩ := row_handed hrow' (by simp [leastB]) (by simp [leastB])
    exact ⟨rfl, hf.mono (fun k hk h => by have := hSB k h; omega), bv, hrow'.var, k1, a, c, k2⟩

set_option maxRecDepth 100000 in
set_option maxHeartbeats 1000000 in
theorem encode_least (w : World) (fb cb : Nat) (hl : Least w fb cb) (hT : Tab w) (h0 : 0 < w.heap.size) :
    Calls Tryd.prog 12 #[.agg #[vI 0, .slice (some ⟨fb, 0, none⟩) 1 1]] w fun e w' => (∃ bv, e = .returned (.tuple #[bv, vI 0]) ∧ Handed w' bv leastB ∧ ∃ a c, bv = .slice a 16 c) ∧ Fr (fun _ => False) w w' := by
  have hmf : ∀ (fn : Fn) (first cap : Array Value) (w : World), (Instr.makeFunc fn first cap).run Tryd.prog w = .ok (.func fn first cap) w := fun _ _ _ _ => rfl
  obtain ⟨s0, s1, s2, s4, s5, s6, hsz, hsf⟩ := startE_at w fb
  have hcv : (convert 22 22 (.slice (some ⟨w.heap.size + 1, 0, none⟩) 6 6)).run Tryd.prog ((w.alloc (.cells #[vI 0, .slice (some ⟨fb, 0, none⟩) 1 1] 26)).alloc (.cells magicC 5)) = .ok (.slice (some ⟨w.heap.size + 1, 0, none⟩) 6 6) ((w.alloc (.cells #[vI 0, .slice (some ⟨fb, 0, none⟩) 1 1] 26)).alloc (.cells magicC 5 (6, 7))) := by
    have := Go.Lib.run_convert_bytes_const (P := Tryd.prog) (w.alloc (.cells #[vI 0, .slice (some ⟨fb, 0, none⟩) 1 1] 26)) 22 5 magicC 6 6 Tryd.underlying22 (by kernel_rfl)
    simpa using this
  have hfv : Calls Tryd.prog 31 #[.func (.func 35) #[] #[.pointer (some ⟨w.heap.size + 5, 0, none⟩), .pointer (some ⟨w.heap.size, 0, none⟩)]]
      ((((((w.alloc (.cells #[vI 0, .slice (some ⟨fb, 0, none⟩) 1 1] 26)).alloc (.cells magicC 5 (6, 7))).alloc (.cells #[.slice (some ⟨w.heap.size + 1, 0, none⟩) 6 6] 53)).alloc (.cells rowsC 85)).alloc (.cells (WS.start (writerFn (w.heap.size + 2))).cells 87)).alloc (.cells #[.pointer (some ⟨w.heap.size + 4, 0, none⟩)] 46))
      (Said1 (w.heap.size + 6) (fun w' => Fr (fun k => k = w.heap.size + 4 ∨ k = w.heap.size + 2) (startE w fb) w' ∧ ∃ bv, w'.heap[w.heap.size + 2]? = some (.cells #[bv] 53) ∧ Handed w' bv leastB ∧ ∃ a c, bv = .slice a 16 c) (fun _ _ _ => False)) := by
    have e6 : ((((((w.alloc (.cells #[vI 0, .slice (some ⟨fb, 0, none⟩) 1 1] 26)).alloc (.cells magicC 5 (6, 7))).alloc (.cells #[.slice (some ⟨w.heap.size + 1, 0, none⟩) 6 6] 53)).alloc (.cells rowsC 85)).alloc (.cells (WS.start (writerFn (w.heap.size + 2))).cells 87)).alloc (.cells #[.pointer (some ⟨w.heap.size + 4, 0, none⟩)] 46)).heap.size = w.heap.size + 6 := by simp
    have := firstViolation_any 35 #[.pointer (some ⟨w.heap.size + 5, 0, none⟩), .pointer (some ⟨w.heap.size, 0, none⟩)]
      ((((((w.alloc (.cells #[vI 0, .slice (some ⟨fb, 0, none⟩) 1 1] 26)).alloc (.cells magicC 5 (6, 7))).alloc (.cells #[.slice (some ⟨w.heap.size + 1, 0, none⟩) 6 6] 53)).alloc (.cells rowsC 85)).alloc (.cells (WS.start (writerFn (w.heap.size + 2))).cells 87)).alloc (.cells #[.pointer (some ⟨w.heap.size + 4, 0, none⟩)] 46))
      (fun w' => Fr (fun k => k = w.heap.size + 4 ∨ k = w.heap.size + 2) (startE w fb) w' ∧ ∃ bv, w'.heap[w.heap.size + 2]? = some (.cells #[bv] 53) ∧ Handed w' bv leastB ∧ ∃ a c, bv = .slice a 16 c) (fun _ _ _ => False) (fun _ => by kernel_rfl) ?_
    · rw [e6] at this; exact this
    · refine (enc1_any (w.heap.size + 5) w.heap.size (w.heap.size + 4) fb (startE w fb) ?_ ?_ ?_ _ (over_encode w fb cb hl hT h0)).mono ?_
      · unfold World.cell?; simp [s5]
      · unfold World.cell?; simp [s0]
      · unfold World.cell?; simp [s0]
      · rintro e w' ⟨rfl, hf, hr⟩
        refine ⟨unsaid_of ?_, Or.inl ⟨rfl, hf, hr⟩⟩
        rw [e6, hf.block _ (by omega) (by omega)]
        exact s6
  unfold writerFn at hfv
  go_enter Tryd.func12, Tryd.ntmps12
  go_wp2_with fail
  refine (newWalk_any _ _ _ _).mono ?_
  rintro e w1 ⟨rfl, rfl⟩
  go_wp2_with fail
  refine hfv.mono ?_
  rintro e w2 ⟨er, at', w3, rfl, rfl, hcase⟩
  clear hfv hcv
  rcases hcase with ⟨rfl, rfl, hf, bv, hb2, hbh, a, c, rfl⟩ | h
  rotate_left
  · exact h.elim
  have hfd : ∀ (v : World), (Instr.field 50 (.agg #[vI 0, vI 0]) 0).run Tryd.prog v = .ok (vI 0) v := fun _ => by kernel_rfl
  have hf4 : Fr (fun k => k = w.heap.size + 6) w3 ((w3.setCell ⟨w.heap.size + 6, 0, none⟩ (vI 0)).setCell ⟨w.heap.size + 6, 1, none⟩ (vI 0)) := Fr.setCell (Fr.setCell (Fr.refl (fun k => k = w.heap.size + 6) w3) _ _ (Or.inl rfl)) _ _ (Or.inl rfl)
  have hb4 : ((w3.setCell ⟨w.heap.size + 6, 0, none⟩ (vI 0)).setCell ⟨w.heap.size + 6, 1, none⟩ (vI 0)).heap[w.heap.size + 2]? = some (.cells #[.slice a 16 c] 53) := by
    rw [hf4.block _ (Array.getElem?_eq_some_iff.1 hb2).1 (by omega)]; exact hb2
  have h6' : w3.heap[w.heap.size + 6]? = some (.cells #[vI 0, vI 0] 50) := by rw [hf.block _ (by omega) (by omega)]; exact s6
  have hend : Hd (∀ w4, Fr (fun k => k = w.heap.size + 6) w3 w4 → ((∃ bv, Ending.returned (.tuple #[.slice a 16 c, vI 0]) = .returned (.tuple #[bv, vI 0]) ∧ Handed w4 bv leastB ∧ ∃ a c, bv = .slice a 16 c) ∧ Fr (fun _ => False) w w4)) := fun w4 h4 => by
    have h1 : Fr (fun k => w.heap.size ≤ k) w w4 := ((hsf.mono (fun _ _ h => h.elim)).trans (hf.mono (fun k _ hk => by omega))).trans (h4.mono (fun k _ hk => by omega))
    refine ⟨⟨_, rfl, hbh.spared h4 h6', a, c, rfl⟩, h1.mono (fun k hk hS => by omega)⟩
  generalize ((w3.setCell ⟨w.heap.size + 6, 0, none⟩ (vI 0)).setCell ⟨w.heap.size + 6, 1, none⟩ (vI 0)) = w4 at hf4 hb4 ⊢
  have c2 : w4.cell? ⟨w.heap.size + 1 + 1, 0, none⟩ = some (.slice a 16 c) := by unfold World.cell?; simp [hb4]
  have hl2 : w.heap.size + 1 + 1 < w4.heap.size := cell_lt c2
  go_wp2_with fail
  go_ret2
  exact hend.out _ (hf4.trans (Fr.alloc (Fr.refl _ w4) _))
end Go.Proofs.YtingenonbkencaaDoor

namespace Go.Proofs.YtingenonbkencaaDoor
open Go.RowKit (wrap32 wrap64)
set_option linter.unusedVariables false
set_option linter.unusedSimpArgs false

theorem dec_least : decX leastB = .ok (0, [⟨0, 0, 0, 1⟩], [[⟨15, 0, 0, 0, 0, [], []⟩]]) := by kernel_rfl

set_option maxRecDepth 100000 in
set_option maxHeartbeats 1000000 in
theorem eqInts_nil (a a' : Option Addr) (c c' : Nat) (w : World) : Calls Tryd.prog 105 #[.slice a 0 c, .slice a' 0 c'] w fun e w' => e = .returned (.bool true) ∧ w' = w := by
  go_enter Tryd.func105, Tryd.ntmps105
  go_wp2_with fail
  go_loopw [5] (fun i wr => i = .int .i64 0 ∧ wr = w) (fun _ _ => 0)
  case atStart => exact ⟨rfl, rfl⟩
  case round =>
    obtain ⟨rfl, rfl⟩ := hrel
    go_wp2_with fail
    go_ret
    exact ⟨rfl, rfl⟩

set_option maxRecDepth 100000 in
set_option maxHeartbeats 1000000 in
theorem eqInstr_1 (a5 a6 b5 b6 : Option Addr) (c5 c6 d5 d6 : Nat) (w : World) : Calls Tryd.prog 102 #[.agg #[vI 15, vI 0, vI 0, vI 0, vI 0, .slice a5 0 c5, .slice a6 0 c6], .agg #[vI 15, vI 0, vI 0, vI 0, vI 0, .slice b5 0 d5, .slice b6 0 d6]] w fun e w' => e = .returned (.bool true) ∧ Fr (fun _ => False) w w' := by
  go_enter Tryd.func102, Tryd.ntmps102
  go_wp2_with fail
  refine (eqInts_nil _ _ _ _ _).mono ?_
  rintro e w1 ⟨rfl, rfl⟩
  go_wp2_with fail
  refine (eqInts_nil _ _ _ _ _).mono ?_
  rintro e w1 ⟨rfl, rfl⟩
  go_wp2_with fail
  go_ret
  exact ⟨rfl, Fr.alloc (Fr.alloc (Fr.refl _ w) _) _⟩

/-- A program that says what the least one says. -/
structure Lay1 (w : World) (v : Value) (fb cb : Nat) (fc cc : Nat) : Prop where
  val : v = .agg #[vI 0, .slice (some ⟨fb, 0, none⟩) 1 fc]
  f : w.cell? ⟨fb, 0, none⟩ = some (vI 0) ∧ w.cell? ⟨fb, 1, none⟩ = some (vI 0) ∧ w.cell? ⟨fb, 2, none⟩ = some (vI 0) ∧ w.cell? ⟨fb, 3, none⟩ = some (.slice (some ⟨cb, 0, none⟩) 1 cc)
  c : w.cell? ⟨cb, 0, none⟩ = some (vI 15) ∧ w.cell? ⟨cb, 1, none⟩ = some (vI 0) ∧ w.cell? ⟨cb, 2, none⟩ = some (vI 0) ∧ w.cell? ⟨cb, 3, none⟩ = some (vI 0) ∧ w.cell? ⟨cb, 4, none⟩ = some (vI 0) ∧
    (∃ a n, w.cell? ⟨cb, 5, none⟩ = some (.slice a 0 n)) ∧ ∃ a n, w.cell? ⟨cb, 6, none⟩ = some (.slice a 0 n)

theorem Lay1.fr {w w' : World} {v : Value} {fb cb fc cc : Nat} (h : Lay1 w v fb cb fc cc) (f : Fr (fun _ => False) w w') : Lay1 w' v fb cb fc cc := by
  have h1 := cell_lt h.f.1
  have h2 := cell_lt h.c.1
  have e1 : ∀ o, w'.cell? ⟨fb, o, none⟩ = w.cell? ⟨fb, o, none⟩ := fun o => f.cell h1 (fun h => h)
  have e2 : ∀ o, w'.cell? ⟨cb, o, none⟩ = w.cell? ⟨cb, o, none⟩ := fun o => f.cell h2 (fun h => h)
  exact ⟨h.val, by simp only [e1]; exact h.f, by simp only [e2]; exact h.c⟩

set_option maxRecDepth 100000 in
set_option maxHeartbeats 1000000 in
theorem eqCode_1 (w : World) (v v' : Value) (fb cb fc cc fb' cb' fc' cc' : Nat) (h : Lay1 w v fb cb fc cc) (h' : Lay1 w v' fb' cb' fc' cc') :
    Calls Tryd.prog 95 #[.slice (some ⟨cb, 0, none⟩) 1 cc, .slice (some ⟨cb', 0, none⟩) 1 cc'] w fun e w' => e = .returned (.bool true) ∧ Fr (fun _ => False) w w' := by
  go_enter Tryd.func95, Tryd.ntmps95
  go_wp2_with fail
  go_loopw [5] (fun i wr => Fr (fun _ => False) w wr ∧ (i = .int .i64 0 ∨ i = .int .i64 1)) (fun i _ => match i with | .int _ q => 1 - q.toNat | _ => 0)
  case atStart => exact ⟨Fr.refl _ _, Or.inl rfl⟩
  case round =>
    obtain ⟨hfr, rfl | rfl⟩ := hrel
    · have hr := h.fr hfr
      have hr' := h'.fr hfr
      obtain ⟨a0, a1, a2, a3, a4, ⟨p5, n5, a5⟩, p6, n6, a6⟩ := hr.c
      obtain ⟨b0, b1, b2, b3, b4, ⟨q5, m5, b5⟩, q6, m6, b6⟩ := hr'.c
      have hx := eqInstr_1 p5 p6 q5 q6 n5 n6 m5 m6 wr.drew
      clear hr hr'
      go_wp2_with fail
      refine wp_region_still_tail 8 mixed (by kernel_rfl) ?_
      simp only [List.take_succ_cons, List.take_zero, List.drop_succ_cons, List.drop_zero]
      repeat still_step
      refine wpStill_nil ?_
      go_wp2_with fail
      refine hx.mono ?_
      rintro e w1 ⟨rfl, hf⟩
      clear hx
      go_wp2_with fail
      exact ⟨⟨hfr.drew.trans hf, Or.inr (by simp)⟩, by simp⟩
    · go_wp2_with fail
      go_ret
      exact ⟨rfl, hfr⟩
set_option maxRecDepth 100000 in
set_option maxHeartbeats 1000000 in
theorem eqFunc_1 (w : World) (v v' : Value) (fb cb fc cc fb' cb' fc' cc' : Nat) (h : Lay1 w v fb cb fc cc) (h' : Lay1 w v' fb' cb' fc' cc') :
    Calls Tryd.prog 67 #[.agg #[vI 0, vI 0, vI 0, .slice (some ⟨cb, 0, none⟩) 1 cc], .agg #[vI 0, vI 0, vI 0, .slice (some ⟨cb', 0, none⟩) 1 cc']] w fun e w' => e = .returned (.bool true) ∧ Fr (fun _ => False) w w' := by
  have hx := eqCode_1 ((w.alloc (.cells #[vI 0, vI 0, vI 0, .slice (some ⟨cb, 0, none⟩) 1 cc] 67)).alloc (.cells #[vI 0, vI 0, vI 0, .slice (some ⟨cb', 0, none⟩) 1 cc'] 67)) v v' fb cb fc cc fb' cb' fc' cc' (h.fr (Fr.alloc (Fr.alloc (Fr.refl _ w) _) _)) (h'.fr (Fr.alloc (Fr.alloc (Fr.refl _ w) _) _))
  go_enter Tryd.func67, Tryd.ntmps67
  go_wp2_with fail
  refine hx.mono ?_
  rintro e w1 ⟨rfl, hf⟩
  go_wp2_with fail
  go_ret
  exact ⟨rfl, (Fr.alloc (Fr.alloc (Fr.refl _ w) _) _).trans hf⟩

set_option maxRecDepth 100000 in
set_option maxHeartbeats 1000000 in
theorem eqFuncs_1 (w : World) (v v' : Value) (fb cb fc cc fb' cb' fc' cc' : Nat) (h : Lay1 w v fb cb fc cc) (h' : Lay1 w v' fb' cb' fc' cc') :
    Calls Tryd.prog 40 #[.slice (some ⟨fb, 0, none⟩) 1 fc, .slice (some ⟨fb', 0, none⟩) 1 fc'] w fun e w' => e = .returned (.bool true) ∧ Fr (fun _ => False) w w' := by
  go_enter Tryd.func40, Tryd.ntmps40
  go_wp2_with fail
  go_loopw [5] (fun i wr => Fr (fun _ => False) w wr ∧ (i = .int .i64 0 ∨ i = .int .i64 1)) (fun i _ => match i with | .int _ q => 1 - q.toNat | _ => 0)
  case atStart => exact ⟨Fr.refl _ _, Or.inl rfl⟩
  case round =>
    obtain ⟨hfr, rfl | rfl⟩ := hrel
    · have hr := h.fr hfr
      have hr' := h'.fr hfr
      obtain ⟨a0, a1, a2, a3⟩ := hr.f
      obtain ⟨b0, b1, b2, b3⟩ := hr'.f
      have hx := eqFunc_1 wr.drew v v' fb cb fc cc fb' cb' fc' cc' (hr.fr (Fr.refl _ _).drew) (hr'.fr (Fr.refl _ _).drew)
      clear hr hr'
      go_wp2_with fail
      refine wp_region_still_tail 8 mixed (by kernel_rfl) ?_
      simp only [List.take_succ_cons, List.take_zero, List.drop_succ_cons, List.drop_zero]
      repeat still_step
      refine wpStill_nil ?_
      go_wp2_with fail
      refine hx.mono ?_
      rintro e w1 ⟨rfl, hf⟩
      clear hx
      go_wp2_with fail
      exact ⟨⟨hfr.drew.trans hf, Or.inr (by simp)⟩, by simp⟩
    · go_wp2_with fail
      go_ret
      exact ⟨rfl, hfr⟩

set_option maxRecDepth 100000 in
set_option maxHeartbeats 1000000 in
theorem eqProgram_1 (w : World) (v v' : Value) (fb cb fc cc fb' cb' fc' cc' : Nat) (h : Lay1 w v fb cb fc cc) (h' : Lay1 w v' fb' cb' fc' cc') :
    Calls Tryd.prog 15 #[v, v'] w fun e w' => e = .returned (.bool true) ∧ Fr (fun _ => False) w w' := by
  have hx := eqFuncs_1 ((w.alloc (.cells #[vI 0, .slice (some ⟨fb, 0, none⟩) 1 fc] 26)).alloc (.cells #[vI 0, .slice (some ⟨fb', 0, none⟩) 1 fc'] 26)) v v' fb cb fc cc fb' cb' fc' cc' (h.fr (Fr.alloc (Fr.alloc (Fr.refl _ w) _) _)) (h'.fr (Fr.alloc (Fr.alloc (Fr.refl _ w) _) _))
  obtain ⟨rfl, -, -⟩ := h
  obtain ⟨rfl, -, -⟩ := h'
  go_enter Tryd.func15, Tryd.ntmps15
  go_wp2_with fail
  refine hx.mono ?_
  rintro e w1 ⟨rfl, hf⟩
  go_wp2_with fail
  go_ret
  exact ⟨rfl, (Fr.alloc (Fr.alloc (Fr.refl _ w) _) _).trans hf⟩

theorem Least.lay {w : World} {fb cb : Nat} (h : Least w fb cb) : Lay1 w (.agg #[vI 0, .slice (some ⟨fb, 0, none⟩) 1 1]) fb cb 1 1 := by
  obtain ⟨k0, k1, k2, k3, -⟩ := least_cells h
  obtain ⟨c0, c1, c2, c3, c4, c5, c6, -⟩ := least_code h
  exact ⟨rfl, ⟨k0, k1, k2, k3⟩, ⟨c0, c1, c2, c3, c4, ⟨_, _, c5⟩, _, _, c6⟩⟩

theorem LaidP.lay {w0 w : World} {v : Value} (h : LaidP w0 w v 0 [⟨0, 0, 0, 1⟩] [[⟨15, 0, 0, 0, 0, [], []⟩]]) : ∃ fb cb fc cc, Lay1 w v fb cb fc cc := by
  obtain ⟨g, cap, cs, tl, h1, h2, h3, h4, h5, h6, h7, h8, h9⟩ := h
  match cs, h3, h8 with
  | [c], _, h8 =>
    obtain ⟨⟨gc, cells, k1, k2, k3, av, rv, rest, k4, k5, k6, k7⟩, -⟩ := h8
    rw [show rest = [] from k7] at k4
    have e5 : ∃ a n, av = .slice a 0 n := by
      rcases k5 with ⟨-, e⟩ | ⟨g', -, e, h'⟩
      · exact ⟨none, 0, e⟩
      · exact ⟨_, _, e⟩
    have e6 : ∃ a n, rv = .slice a 0 n := by
      rcases k6 with ⟨-, e⟩ | ⟨g', -, e, h'⟩
      · exact ⟨none, 0, e⟩
      · exact ⟨_, _, e⟩
    obtain ⟨p5, n5, rfl⟩ := e5
    obtain ⟨p6, n6, rfl⟩ := e6
    subst k4 k2
    refine ⟨g, gc, cap, 1, h2, ?_, ?_⟩
    · refine ⟨?_, ?_, ?_, ?_⟩ <;> (unfold World.cell?; simp [h7, funcCells])
    · refine ⟨?_, ?_, ?_, ?_, ?_, ⟨p5, n5, ?_⟩, p6, n6, ?_⟩ <;> (unfold World.cell?; simp [k3])
end Go.Proofs.YtingenonbkencaaDoor

namespace Go.Proofs.YtingenonbkencaaDoor
open Go.RowKit (wrap32 wrap64)
set_option linter.unusedVariables false
set_option linter.unusedSimpArgs false

set_option maxRecDepth 100000 in
set_option maxHeartbeats 1000000 in
theorem least_any (w : World) : Calls Tryd.prog 28 #[] w fun e w' => Fr (fun _ => False) w w' ∧ ∃ fb cb, e = .returned (.agg #[vI 0, .slice (some ⟨fb, 0, none⟩) 1 1]) ∧ Least w' fb cb := by
  go_enter Tryd.func28, Tryd.ntmps28
  go_wp2_with fail
  have hlast : ∀ (v : World) (o : Obj) (n : Nat), v.heap.size = n → (v.alloc o).heap[n]? = some o := fun v o n h => by rw [← h]; exact heap_alloc_last v o
  have hpast : ∀ (v : World) (o : Obj) (n : Nat), n < v.heap.size → (v.alloc o).heap[n]? = v.heap[n]? := fun v o n h => Go.RowKit.Below.heap_alloc v o n h
  refine ⟨rfl, .agg #[vI 0, .slice (some ⟨w.heap.size + 2, 0, none⟩) 1 1], ?_, Fr.alloc (Fr.alloc (Fr.alloc (Fr.refl _ w) _) _) _, w.heap.size + 2, w.heap.size + 1, rfl, ?_, ?_⟩
  · rw [results_cell (p := 0) (ty := 26) Tryd.results28]
    simp [go_sem]
  · rw [hlast _ _ _ (by simp)]
  · rw [hpast _ _ _ (by simp), hlast _ _ _ (by simp)]

set_option maxRecDepth 100000 in
set_option maxHeartbeats 1000000 in
theorem works_any (w : World) (hT : Tab w) (h0 : 0 < w.heap.size) : Calls Tryd.prog 9 #[] w fun e w' => e = .returned (.bool true) ∧ Fr (fun _ => False) w w' := by
  go_enter Tryd.func9, Tryd.ntmps9
  go_wp2_with fail
  refine (least_any w).mono ?_
  rintro e w1 ⟨hf1, fb, cb, rfl, hl1⟩
  have hT1 : Tab w1 := hT.fr hf1 (fun h => h)
  have hs1 := hf1.size
  go_wp2_with fail
  refine (encode_least w1 fb cb hl1 hT1 (by omega)).mono ?_
  rintro e w2 ⟨⟨bv, rfl, hbh, a, c, rfl⟩, hf2⟩
  have hT2 : Tab w2 := hT1.fr hf2 (fun h => h)
  have hs2 := hf2.size
  clear hl1 hT1
  go_wp2_with fail
  refine (decode_said _ leastB w2 hbh hT2 (by omega)).mono ?_
  rintro e w3 ⟨hf3, hr3⟩
  rw [dec_least] at hr3
  obtain ⟨v, rfl, hlp⟩ := hr3
  obtain ⟨fb3, cb3, fc3, cc3, hy3⟩ := hlp.lay
  have hv := hy3.val
  have hT3 : Tab w3 := hT2.fr hf3 (fun h => h)
  have hs3 := hf3.size
  clear hlp hbh hT2
  subst hv
  go_wp2_with fail
  have hf4 : Fr (fun _ => False) w3 (w3.alloc (.cells #[vI 0, .slice (some ⟨fb3, 0, none⟩) 1 fc3] 26)) := Fr.alloc (Fr.refl _ w3) _
  have hp4 : (w3.alloc (.cells #[vI 0, .slice (some ⟨fb3, 0, none⟩) 1 fc3] 26)).heap[w3.heap.size]? = some (.cells #[vI 0, .slice (some ⟨fb3, 0, none⟩) 1 fc3] 26) := heap_alloc_last _ _
  have hy4 := hy3.fr hf4
  have hT4 := hT3.fr hf4 (fun h => h)
  have hfw4 : Fr (fun _ => False) w (w3.alloc (.cells #[vI 0, .slice (some ⟨fb3, 0, none⟩) 1 fc3] 26)) := ((hf1.trans hf2).trans hf3).trans hf4
  generalize (w3.alloc (.cells #[vI 0, .slice (some ⟨fb3, 0, none⟩) 1 fc3] 26)) = w4 at hf4 hp4 hy4 hT4 hfw4 ⊢
  generalize w3.heap.size = pq at hp4 ⊢
  have hpl : pq < w4.heap.size := (Array.getElem?_eq_some_iff.1 hp4).1
  have p0 : w4.cell? ⟨pq, 0, none⟩ = some (vI 0) := by unfold World.cell?; simp [hp4]
  have p1 : w4.cell? ⟨pq, 1, none⟩ = some (.slice (some ⟨fb3, 0, none⟩) 1 fc3) := by unfold World.cell?; simp [hp4]
  have HP : Hd (w4.heap[pq]? = some (.cells #[vI 0, .slice (some ⟨fb3, 0, none⟩) 1 fc3] 26)) := hp4
  have HY : Hd (Lay1 w4 (.agg #[vI 0, .slice (some ⟨fb3, 0, none⟩) 1 fc3]) fb3 cb3 fc3 cc3) := hy4
  clear hp4 hy4 hy3 hf3 hf2 hf1 hs1 hs2 hs3 hT3 hT h0 hf4
  have hfin : Hd (∀ w7, Fr (fun _ => False) w4 w7 → Fr (fun _ => False) w w7 ∧ Tab w7) := fun w7 h7 => ⟨hfw4.trans h7, hT4.fr h7 (fun h => h)⟩
  have h04 : 0 < w4.heap.size := by omega
  clear hfw4 hT4
  go_region_with ((
    first
      | (go_at_call 28
         refine (least_any _).mono ?_
         rintro e w5 ⟨hf5, fb5, cb5, rfl, hl5⟩
         have hf45 : Fr (fun _ => False) w4 w5 := (Fr.refl _ w4).drew.trans hf5
         have k0 : w5.cell? ⟨pq, 0, none⟩ = some (vI 0) := (hf45.cell hpl (fun h => h)).trans p0
         have k1 : w5.cell? ⟨pq, 1, none⟩ = some (.slice (some ⟨fb3, 0, none⟩) 1 fc3) := (hf45.cell hpl (fun h => h)).trans p1)
      | (go_at_call 15
         refine (eqProgram_1 _ _ _ fb3 cb3 fc3 cc3 fb5 cb5 1 1 (HY.out.fr hf45) hl5.lay).mono ?_
         rintro e w6 ⟨rfl, hf6⟩
         have hf46 : Fr (fun _ => False) w4 w6 := hf45.trans hf6)))
  all_goals
    clear hf45 k0 k1 hl5 hf5 hf6
    have hs6 := hf46.size
    go_wp2_with fail
    refine (least_any w6).mono ?_
    rintro e w7 ⟨hf7, fb7, cb7, rfl, hl7⟩
    have hf47 := hf46.trans hf7
    have hs7 := hf7.size
    clear hf46 hf7
    go_wp2_with fail
    refine (check_least w7 fb7 cb7 hl7 (hfin.out w7 hf47).2 (by omega)).mono ?_
    rintro e w8 ⟨rfl, hf8⟩
    have hf48 := hf47.trans hf8
    have hs8 := hf8.size
    clear hf47 hf8 hl7
    go_wp2_with fail
    refine (least_any w8).mono ?_
    rintro e w9 ⟨hf9, fb9, cb9, rfl, hl9⟩
    have hf49 := hf48.trans hf9
    have hs9 := hf9.size
    clear hf48 hf9
    go_wp2_with fail
    refine (locations_least w9 fb9 cb9 hl9 (hfin.out w9 hf49).2 (by omega)).mono ?_
    rintro e w10 ⟨rfl, hf10⟩
    have hf410 := hf49.trans hf10
    clear hf49 hf10 hl9
    go_wp2_with fail
    go_ret
    exact ⟨rfl, (hfin.out w10 hf410).1⟩
end Go.Proofs.YtingenonbkencaaDoor
