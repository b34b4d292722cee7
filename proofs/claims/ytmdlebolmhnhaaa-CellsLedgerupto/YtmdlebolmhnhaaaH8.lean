import Derived.Test.YtmdlebolmhnhaaaH6
namespace Go.Proofs.Ytmdlebolmhnhaaa
open Go.RowKit (wrap32 wrap64)
open Go.Maps (Keyed)
set_option linter.unusedVariables false
set_option linter.unusedSimpArgs false

structure ActR where
  kind : Int
  n : Int
  heap : Bool
  field : Int
  x : Int

abbrev actC (o : ActR) : Array Value := #[vI o.kind, vI o.n, .bool o.heap, vI o.field, vI o.x]
abbrev actV (o : ActR) : Value := .agg (actC o)

/-- What an act leaves. -/
def ActEnds (w0 : World) (b lb N : Nat) (e : Ending) (w' : World) : Prop :=
  e = .returned (.bool true) ∧ ∃ g' a' d' av' E', Both w0 w' b g' a' lb d' av' E' ∧ Sq a' d' (ms E') ∧ Fine (N + 1) a'

theorem tmod_negB (k : Int) (n : Nat) (hn : 0 < n) (hn' : n ≤ 1000000000000000) (h : k.tmod n < 0) : wrap64 (k.tmod n + n) = k % n := by
  have h2 : -(n : Int) < k.tmod n := by
    have := Int.tmod_lt_of_pos (-k) (show (0 : Int) < n by omega)
    rw [Int.neg_tmod] at this
    omega
  rw [show wrap64 (k.tmod n + n) = k.tmod n + n by unfold wrap64; omega, tmod_is, ← Int.add_emod_right, Int.emod_eq_of_lt (by omega) (by omega)]

/-- mod: 0 to n - 1, of greater numbers. -/
theorem mod_big (k : Int) (n : Nat) (hn : 0 < n) (hn' : n ≤ 1000000000000000) (w : World) :
    Calls Try.prog 13 #[.int .i64 k, .int .i64 n] w fun e w' => e = .returned (vI (k % n)) ∧ w' = w := by
  have hn0 : (n : Int) ≠ 0 := by omega
  by_cases h : k.tmod n < 0
  · have h' : decide (k.tmod n < 0) = true := by simpa using h
    go_enter Try.func13, Try.ntmps13
    go_wp2
    go_ret
    exact ⟨by rw [tmod_negB k n hn hn' h]; rfl, rfl⟩
  · have h' : decide (k.tmod n < 0) = false := by simpa using h
    go_enter Try.func13, Try.ntmps13
    go_wp2
    go_ret
    exact ⟨by rw [tmod_nonneg k n hn (by omega)]; rfl, rfl⟩

theorem mod_lt (k : Int) (n : Nat) (hn : 0 < n) : ∃ m : Nat, k % n = m ∧ m < n := by
  have h1 := Int.emod_nonneg k (show (n : Int) ≠ 0 by omega)
  have h2 := Int.emod_lt_of_pos k (show (0 : Int) < n by omega)
  exact ⟨(k % n).toNat, by omega, by omega⟩

theorem Fine.pushS {N : Nat} {a : Abs} (h : Fine N a) : Fine (N + 1) (pushX a) := h.one ⟨2, 0, 0, false, (0, 0), (0, 0), none, 0, 0⟩
theorem Fine.popS {N : Nat} {a : Abs} (h : Fine N a) : Fine (N + 1) (popX a).1 := h.one ⟨3, 0, 0, false, (0, 0), (0, 0), none, 0, 0⟩
theorem Fine.makeS {N : Nat} {a : Abs} (h : Fine N a) (n : Int) (heap : Bool) : Fine (N + 1) (makeX a n heap).1 := h.one ⟨4, 0, n, heap, (0, 0), (0, 0), none, 0, 0⟩
theorem Fine.storeS {N : Nat} {a : Abs} (h : Fine N a) (v : Val) (f : Int) (x : Val) : Fine (N + 1) (storeX a v f x).1 := h.one ⟨6, 0, f, false, v, x, none, 0, 0⟩

set_option maxRecDepth 100000 in
set_option maxHeartbeats 2000000 in
/-- act, of a frame, a cell, or nothing. -/
theorem act_few (w0 : World) (b : Nat) (g : Gh) (a : Abs) (lb d : Nat) (av : Value) (E : List Ent) (o : ActR) (w : World) (h : Both w0 w b g a lb d av E) (hq : Sq a d (ms E)) {N : Nat} (hf : Fine N a) (hN : N + 1 ≤ 2000000000000) (h4 : o.kind ≠ 4) (h5 : o.kind ≠ 5) :
    Calls Try.prog 22 #[ptr lb, actV o] w (ActEnds w0 b lb N) := by
  have hmd : a.made = E.length := by have := hq.made; simpa [ms] using this
  have hE : E.length ≤ N := by have := hf.made; omega
  have hd : d ≤ N := by have := hq.deep; have := hf.frs; omega
  have hfr : a.frs.length ≤ N := hf.frs
  have hFA : Fr (fun _ => False) w (w.alloc (.cells (actC o) 55)) := Fr.alloc (Fr.refl _ w) _
  have HB : Hd _ := h.keep hFA
  have HQ : Hd _ := hq
  have HF : Hd _ := hf
  have A1 := heap_alloc_last w (.cells (actC o) 55)
  obtain ⟨k0, n0, hp0, f0, x0⟩ := o
  clear h hq hf hmd hFA
  go_enter Try.func22, Try.ntmps22
  go_wp2_with fail
  generalize w.alloc (.cells (actC ⟨k0, n0, hp0, f0, x0⟩) 55) = w1 at *
  obtain ⟨ob, hob⟩ : ∃ ob, ob = w.heap.size := ⟨_, rfl⟩
  rw [← hob] at A1 ⊢
  clear hob
  refine (show Calls Try.prog 33 #[ptr lb] w1 _ from there_any w0 b g a lb d av E w1 HB.out (by omega)).mono ?_
  rintro e w2 ⟨v1, rfl, hr1, hF1⟩
  have HB2 : Hd _ := HB.out.keep hF1
  have A2 := (hF1.block ob (heap_lt A1) (fun h => h)).trans A1
  clear hr1 hF1 A1 HB
  have p0 : w2.cell? ⟨ob, 0, none⟩ = some (vI k0) := by rw [cell_of A2]; rfl
  have p1 : w2.cell? ⟨ob, 1, none⟩ = some (vI n0) := by rw [cell_of A2]; rfl
  have p2 : w2.cell? ⟨ob, 2, none⟩ = some (.bool hp0) := by rw [cell_of A2]; rfl
  obtain ⟨c0, c1, c2⟩ := HB2.out.led.heads
  have z1 : w2.frozen? ⟨lb, 1, none⟩ = false := frozen_of HB2.out.led.blk 1
  have h4 : k0 ≠ 4 := h4
  have h5 : k0 ≠ 5 := h5
  clear A2
  by_cases h1 : k0 = 1
  · subst h1
    have HBd : Hd (Both w0 (w2.setCell ⟨lb, 1, none⟩ (.int .i64 ((d : Int) + 1))) b g a lb (d + 1) av E) := by
      have := HB2.out.depth (d + 1)
      rw [show ((d + 1 : Nat) : Int) = (d : Int) + 1 by omega] at this
      exact this
    go_wp2_with fail
    refine (show Calls Try.prog 11 #[ptr b] (w2.setCell ⟨lb, 1, none⟩ (.int .i64 ((d : Int) + 1))) _ from push_any b g a _ HBd.out.mem (by omega)).mono ?_
    rintro e w3 ⟨g', rfl, hM, hF, hE3⟩
    go_wp2_with fail
    go_ret
    exact ⟨rfl, g', pushX a, d + 1, av, E, HBd.out.call hM hF hE3, HQ.out.push, HF.out.pushS⟩
  · by_cases h2 : k0 = 2
    · subst h2
      go_wp2_with fail
      refine (show Calls Try.prog 34 #[ptr lb] w2 _ from popl_any w0 b g a lb d av E w2 HB2.out HQ.out HF.out (by omega)).mono ?_
      rintro e w3 ⟨rfl, g', d', E', hB', hS'⟩
      go_wp2_with fail
      go_ret
      exact ⟨rfl, g', _, d', av, E', hB', hS', HF.out.popS⟩
    · by_cases h3 : k0 = 3
      · subst h3
        obtain ⟨m, hm, hml⟩ := mod_lt n0 8 (by omega)
        have mod8 : ∀ w : World, Calls Try.prog 13 #[vI n0, .int .i64 8] w fun e w' => e = .returned (vI m) ∧ w' = w := fun w => by
          have := mod_big n0 8 (by omega) (by omega) w
          rw [hm] at this
          exact this
        clear hm
        go_wp2_with fail
        refine wp_region_still_tail 7 mixed (by kernel_rfl) ?_
        simp only [List.take_succ_cons, List.take_zero, List.drop_succ_cons, List.drop_zero]
        repeat still_step
        still_call (mod8 _)
        repeat still_step
        refine wpStill_nil ?_
        have hmk := makel_any w0 b g a lb d av E w2.drew (HB2.out.keep (Fr.drew (Fr.refl _ _))) HQ.out HF.out (by omega) (n := m + 1) (by omega) (by omega) hp0
        rw [show ((m + 1 : Nat) : Int) = 1 + (m : Int) by omega] at hmk
        go_wp2_with fail
        refine (show Calls Try.prog 35 #[ptr lb, .int .i64 (1 + (m : Int)), .bool hp0] w2.drew _ from hmk).mono ?_
        rintro e w3 ⟨rfl, g', av', E', hB', hS'⟩
        go_wp2_with fail
        go_ret
        exact ⟨rfl, g', _, d, av', E', hB', hS', HF.out.makeS _ _⟩
      · have e1 := eqb_false h1
        have e2 := eqb_false h2
        have e3 := eqb_false h3
        have e4 := eqb_false h4
        have e5 := eqb_false h5
        go_wp2_with fail
        go_ret
        exact ⟨rfl, g, a, d, av, E, HB2.out, HQ.out, HF.out.mono (Nat.le_succ N)⟩

end Go.Proofs.Ytmdlebolmhnhaaa
