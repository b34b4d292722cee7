import Derived.Test.YtcjfmfddkhpfnaaQA7
namespace Go.Proofs.Ytcjfmfddkhpfnaa
open Go.RowKit (wrap32 wrap64)
set_option linter.unusedVariables false
set_option linter.unusedSimpArgs false

def meetX (a b : Int) : Int := min (weightX a) (weightX b)

theorem weight_any (d : Int) (w : World) : Calls Try.prog 29 #[.int .i64 d] w fun e w' => e = .returned (vI (weightX d)) ∧ w' = w := by
  cases hd : flowsX d
  · go_enter Try.func29, Try.ntmps29
    go_wp2_with fail
    refine (flows_any d w).mono ?_
    rintro e w1 ⟨rfl, rfl⟩
    rw [hd]
    go_wp2_with fail
    go_ret
    exact ⟨by simp [weightX, hd], rfl⟩
  · go_enter Try.func29, Try.ntmps29
    go_wp2_with fail
    refine (flows_any d w).mono ?_
    rintro e w1 ⟨rfl, rfl⟩
    rw [hd]
    go_wp2_with fail
    go_ret
    exact ⟨by simp [weightX, hd], rfl⟩

theorem meet_any (a b : Int) (w : World) : Calls Try.prog 16 #[.int .i64 a, .int .i64 b] w fun e w' => e = .returned (vI (meetX a b)) ∧ w' = w := by
  go_enter Try.func16, Try.ntmps16
  go_wp2_with fail
  refine (weight_any a w).mono ?_
  rintro e w1 ⟨rfl, rfl⟩
  go_wp2_with fail
  refine (weight_any b w1).mono ?_
  rintro e w2 ⟨rfl, rfl⟩
  go_wp2_with fail
  all_goals
    go_ret
    refine ⟨?_, rfl⟩
    refine congrArg (fun z => Ending.returned (vI z)) ?_
    unfold meetX
    omega

theorem rweight_any (d : Int) (w : World) : Calls Try.prog 30 #[.int .i64 d] w fun e w' => e = .returned (vI (weightX d)) ∧ w' = w := by
  by_cases h1 : d < -1
  · have h1' : decide (d < -1) = true := by simpa using h1
    go_enter Try.func30, Try.ntmps30
    go_wp2_with fail
    go_ret
    exact ⟨by unfold weightX flowsX; rw [decide_eq_false (by omega)]; rfl, rfl⟩
  · have h1' : decide (d < -1) = false := by simpa using h1
    by_cases h2 : 3 < d
    · have h2' : decide (3 < d) = true := by simpa using h2
      go_enter Try.func30, Try.ntmps30
      go_wp2_with fail
      go_ret
      exact ⟨by unfold weightX flowsX; rw [decide_eq_false (by omega)]; rfl, rfl⟩
    · have h2' : decide (3 < d) = false := by simpa using h2
      go_enter Try.func30, Try.ntmps30
      go_wp2_with fail
      go_ret
      exact ⟨by unfold weightX flowsX; rw [decide_eq_true (by omega)]; rfl, rfl⟩

/-- A number from -1 to K, or None. -/
def isW (a : Int) : Prop := a = -1 ∨ a = 0 ∨ a = 1 ∨ a = 2 ∨ a = 3 ∨ a = 9
theorem weightX_is (d : Int) : isW (weightX d) := by
  unfold weightX flowsX isW
  split
  · rename_i h; simp at h; omega
  · simp
theorem plusX_weight (a b : Int) : plusX (weightX a) (weightX b) = plusX a b := by
  have h9 : flowsX 9 = false := by decide
  unfold weightX
  cases h1 : flowsX a <;> cases h2 : flowsX b <;> simp [plusX, h1, h2, h9]

theorem rplus_w (a b : Int) (ha : isW a) (hb : isW b) : plusX a b = if a = 9 ∨ b = 9 then 9 else if (if a < 0 then 0 else a) + b > 3 then 3 else (if a < 0 then 0 else a) + b := by
  rcases ha with rfl | rfl | rfl | rfl | rfl | rfl <;> rcases hb with rfl | rfl | rfl | rfl | rfl | rfl <;> decide

theorem rplus_any (a b : Int) (w : World) : Calls Try.prog 18 #[.int .i64 a, .int .i64 b] w fun e w' => e = .returned (vI (plusX a b)) ∧ w' = w := by
  have hA := weightX_is a
  have hB := weightX_is b
  have hP := rplus_w _ _ hA hB
  rw [plusX_weight] at hP
  have HP : Hd _ := hP
  clear hP
  go_enter Try.func18, Try.ntmps18
  go_wp2_with fail
  refine (rweight_any a w).mono ?_
  rintro e w1 ⟨rfl, rfl⟩
  go_wp2_with fail
  refine (rweight_any b w1).mono ?_
  rintro e w2 ⟨rfl, rfl⟩
  generalize weightX a = x at *
  generalize weightX b = y at *
  by_cases hx : x = 9
  · subst hx
    go_wp2_with fail
    go_ret
    exact ⟨by rw [show plusX a b = _ from HP.out]; simp, rfl⟩
  · have hx' : (x == 9) = false := by simpa using hx
    by_cases hy : y = 9
    · subst hy
      go_wp2_with fail
      go_ret
      exact ⟨by rw [show plusX a b = _ from HP.out]; simp, rfl⟩
    · have hy' : (y == 9) = false := by simpa using hy
      have hxr : -1 ≤ x ∧ x ≤ 3 := by unfold isW at hA; omega
      have hyr : -1 ≤ y ∧ y ≤ 3 := by unfold isW at hB; omega
      clear hA hB
      by_cases hn : x < 0
      · have hn' : decide (x < 0) = true := by simpa using hn
        by_cases h3 : 0 + y > 3
        · omega
        · have h3' : decide (3 < y) = false := by simp; omega
          have hw : wrap64 y = y := by unfold wrap64; omega
          go_wp2_with fail
          go_ret
          exact ⟨by rw [show plusX a b = _ from HP.out, if_neg (by omega), if_pos hn, if_neg (by omega)]; simp, rfl⟩
      · have hn' : decide (x < 0) = false := by simpa using hn
        have hw : wrap64 (x + y) = x + y := by unfold wrap64; omega
        by_cases h3 : x + y > 3
        · have h3' : decide (3 < x + y) = true := by simpa using h3
          go_wp2_with fail
          go_ret
          exact ⟨by rw [show plusX a b = _ from HP.out, if_neg (show ¬ (x = 9 ∨ y = 9) by omega), if_neg (show ¬ x < 0 by omega), if_pos (by omega)]; rfl, rfl⟩
        · have h3' : decide (3 < x + y) = false := by simpa using h3
          go_wp2_with fail
          go_ret
          exact ⟨by rw [show plusX a b = _ from HP.out, if_neg (show ¬ (x = 9 ∨ y = 9) by omega), if_neg (show ¬ x < 0 by omega), if_neg (by omega)]; rfl, rfl⟩

theorem rmeet_any (a b : Int) (w : World) : Calls Try.prog 19 #[.int .i64 a, .int .i64 b] w fun e w' => e = .returned (vI (meetX a b)) ∧ w' = w := by
  have HM : Hd (meetX a b = min (weightX a) (weightX b)) := rfl
  go_enter Try.func19, Try.ntmps19
  go_wp2_with fail
  refine (rweight_any a w).mono ?_
  rintro e w1 ⟨rfl, rfl⟩
  go_wp2_with fail
  refine (rweight_any b w1).mono ?_
  rintro e w2 ⟨rfl, rfl⟩
  generalize weightX a = x at *
  generalize weightX b = y at *
  by_cases hn : x < y
  · have hn' : decide (x < y) = true := by simpa using hn
    go_wp2_with fail
    go_ret
    exact ⟨by rw [show meetX a b = _ from HM.out, show min x y = x by omega]; rfl, rfl⟩
  · have hn' : decide (x < y) = false := by simpa using hn
    go_wp2_with fail
    go_ret
    exact ⟨by rw [show meetX a b = _ from HM.out, show min x y = y by omega]; rfl, rfl⟩

theorem tmod_is (k : Int) (n : Nat) : k % n = k.tmod n % n := by
  have h1 := Int.tmod_add_mul_tdiv k n
  conv => lhs; rw [← h1]
  exact Int.add_mul_emod_self_left _ _ _
theorem tmod_neg (k : Int) (n : Nat) (hn : 0 < n) (hn' : n ≤ 1000000000000000) (h : k.tmod n < 0) : wrap64 (k.tmod n + n) = k % n := by
  have h2 : -(n : Int) < k.tmod n := by
    have := Int.tmod_lt_of_pos (-k) (show (0 : Int) < n by omega)
    rw [Int.neg_tmod] at this
    omega
  rw [show wrap64 (k.tmod n + n) = k.tmod n + n by unfold wrap64; omega, tmod_is, ← Int.add_emod_right, Int.emod_eq_of_lt (by omega) (by omega)]
theorem tmod_nonneg (k : Int) (n : Nat) (hn : 0 < n) (h : 0 ≤ k.tmod n) : k.tmod n = k % n := by
  have h2 := Int.tmod_lt_of_pos k (show (0 : Int) < n by omega)
  rw [tmod_is, Int.emod_eq_of_lt h h2]

/-- mod: 0 to n - 1. -/
theorem mod_any (k : Int) (n : Nat) (hn : 0 < n) (hn' : n ≤ 1000000000000000) (w : World) :
    Calls Try.prog 10 #[.int .i64 k, .int .i64 n] w fun e w' => e = .returned (vI (k % n)) ∧ w' = w := by
  have hn0 : (n : Int) ≠ 0 := by omega
  by_cases h : k.tmod n < 0
  · have h' : decide (k.tmod n < 0) = true := by simpa using h
    go_enter Try.func10, Try.ntmps10
    go_wp2
    go_ret
    exact ⟨by rw [tmod_neg k n hn hn' h]; rfl, rfl⟩
  · have h' : decide (k.tmod n < 0) = false := by simpa using h
    go_enter Try.func10, Try.ntmps10
    go_wp2
    go_ret
    exact ⟨by rw [tmod_nonneg k n hn (by omega)]; rfl, rfl⟩

/-- The weights that the statements draw. -/
theorem lweight_any (k : Int) (w : World) : Calls Try.prog 20 #[.int .i64 k] w fun e w' => ∃ a, e = .returned (vI a) ∧ isW a ∧ w' = w := by
  by_cases h : k.tmod 6 < 0
  · have h' : decide (k.tmod 6 < 0) = true := by simpa using h
    have hw : wrap64 (k.tmod 6 + 6) = k % 6 := tmod_neg k 6 (by omega) (by omega) h
    by_cases h5 : k % 6 = 5
    · have h5' : decide (k % 6 = 5) = true := by simpa using h5
      go_enter Try.func20, Try.ntmps20
      go_wp2
      go_ret
      exact ⟨9, rfl, by simp [isW], rfl⟩
    · have h5' : decide (k % 6 = 5) = false := by simpa using h5
      have hw2 : wrap64 (k % 6 - 1) = k % 6 - 1 := by unfold wrap64; omega
      go_enter Try.func20, Try.ntmps20
      go_wp2
      go_ret
      exact ⟨k % 6 - 1, rfl, by unfold isW; omega, rfl⟩
  · have h' : decide (k.tmod 6 < 0) = false := by simpa using h
    have hw : k.tmod 6 = k % 6 := tmod_nonneg k 6 (by omega) (by show 0 ≤ k.tmod 6; omega)
    by_cases h5 : k % 6 = 5
    · have h5' : decide (k % 6 = 5) = true := by simpa using h5
      go_enter Try.func20, Try.ntmps20
      go_wp2
      go_ret
      exact ⟨9, rfl, by simp [isW], rfl⟩
    · have h5' : decide (k % 6 = 5) = false := by simpa using h5
      have hw2 : wrap64 (k % 6 - 1) = k % 6 - 1 := by unfold wrap64; omega
      go_enter Try.func20, Try.ntmps20
      go_wp2
      go_ret
      exact ⟨k % 6 - 1, rfl, by unfold isW; omega, rfl⟩

end Go.Proofs.Ytcjfmfddkhpfnaa

namespace Go.Proofs.Ytcjfmfddkhpfnaa
open Go.RowKit (wrap32 wrap64)
set_option linter.unusedVariables false
set_option linter.unusedSimpArgs false

set_option maxRecDepth 100000 in
set_option maxHeartbeats 1000000 in
/-- EqInts. -/
theorem eqInts_any (v1 v2 : Value) (zs ys : List Int) (w : World) (h1 : IntsAt w.heap.size w v1 zs) (h2 : IntsAt w.heap.size w v2 ys) (hz : zs.length ≤ 100000000000000) (hy : ys.length ≤ 100000000000000) :
    Calls Try.prog 13 #[v1, v2] w fun e w' => e = .returned (.bool (decide (zs = ys))) ∧ Fr (fun _ => False) w w' := by
  obtain ⟨a1, c1, rfl, -, hc1⟩ := h1
  obtain ⟨a2, c2, rfl, -, hc2⟩ := h2
  have H1 : Hd _ := hc1
  have H2 : Hd _ := hc2
  clear hc1 hc2
  by_cases hl : zs.length = ys.length
  · have hl' : ((zs.length : Int) != (ys.length : Int)) = false := by simp; omega
    have HL : Hd (zs.length = ys.length) := hl
    clear hl
    go_enter Try.func13, Try.ntmps13
    go_wp2_with fail
    go_loopw [5] (fun v wr => ∃ (k : Nat), v = .int .i64 k ∧ k ≤ zs.length ∧ Hd (zs.take k = ys.take k) ∧ Hd (Fr (fun _ => False) w wr)) (fun v _ => match v with | .int _ q => zs.length - q.toNat | _ => 0)
    case atStart => exact ⟨0, rfl, Nat.zero_le _, rfl, Fr.refl _ _⟩
    case round =>
      obtain ⟨k, rfl, hk, HT, HF⟩ := hrel
      by_cases hlt : k < zs.length
      · obtain ⟨k1, o1, rfl, hk1, g1⟩ := H1.out (by intro e; simp [e] at hlt)
        obtain ⟨k2, o2, rfl, hk2, g2⟩ := H2.out (by intro e; have hl := HL.out; rw [e] at hl; simp at hl; simp [hl] at hlt)
        have q1 := (HF.out.cell (o := o1 + k) hk1 (fun h => h)).trans (g1 k hlt)
        have q2 := (HF.out.cell (o := o2 + k) hk2 (fun h => h)).trans (g2 k (by have := HL.out; omega))
        have HZ : Hd (zs[k]? = some zs[k]) := List.getElem?_eq_getElem hlt
        have hky : k < ys.length := by have := HL.out; omega
        have HY : Hd (ys[k]? = some ys[k]) := List.getElem?_eq_getElem hky
        generalize zs[k] = z at *
        generalize ys[k] = y at *
        have hk0 : (0 : Int) ≤ k := by omega
        have hk3 : (k : Int) < zs.length := by omega
        have hk4 : (k : Int) < ys.length := by omega
        clear g1 g2
        by_cases hzy : z = y
        · subst hzy
          go_wp2_with fail
          refine wp_region_still_tail 8 mixed (by kernel_rfl) ?_
          simp only [List.take_succ_cons, List.take_zero, List.drop_succ_cons, List.drop_zero]
          repeat still_step
          refine wpStill_nil ?_
          go_wp2_with fail
          refine ⟨⟨k + 1, by simp; try omega, by omega, ?_, HF.out.drew⟩, by simp; try omega⟩
          unfold Hd
          rw [List.take_add_one, List.take_add_one, HZ.out, HY.out, HT.out]
        · have hzy' : (z != y) = true := by simpa using hzy
          go_wp2_with fail
          refine wp_region_still_tail 8 mixed (by kernel_rfl) ?_
          simp only [List.take_succ_cons, List.take_zero, List.drop_succ_cons, List.drop_zero]
          repeat still_step
          refine wpStill_nil ?_
          go_wp2_with fail
          go_ret
          refine ⟨?_, HF.out.drew⟩
          rw [decide_eq_false (fun e => hzy (by
            have h1 := HZ.out
            have h2 := HY.out
            rw [e, h2] at h1
            exact (Option.some.inj h1).symm))]
          rfl
      · have hke : k = zs.length := by omega
        have HE : Hd (zs = ys) := by have := HT.out; rw [hke, List.take_length, HL.out, List.take_length] at this; exact this
        clear HT
        go_wp2_with fail
        go_ret
        refine ⟨?_, HF.out⟩
        rw [decide_eq_true HE.out]
        rfl
  · have hl' : ((zs.length : Int) != (ys.length : Int)) = true := by simp; omega
    go_enter Try.func13, Try.ntmps13
    go_wp2_with fail
    go_ret
    refine ⟨?_, Fr.refl _ _⟩
    rw [decide_eq_false (fun e => hl (by rw [e]))]
    rfl

/-- A row of numbers, as a list. -/
theorem Row.intsAt {w : World} {b m : Nat} {f : Nat → Int} (h : Row w 3 b m (fun i => vI (f i))) {c : Nat} (hc : m ≤ c) : IntsAt w.heap.size w (.slice (some ⟨b, 0, none⟩) m c) ((List.range m).map f) := by
  refine ⟨some ⟨b, 0, none⟩, c, by simp, by simpa using hc, fun _ => ⟨b, 0, rfl, h.lt, fun i hi => ?_⟩⟩
  have hi' : i < m := by simpa using hi
  rw [Nat.zero_add, h.cell hi']
  simp
theorem IntsAt.wide {n n' : Nat} {w : World} {v : Value} {zs : List Int} (h : IntsAt n w v zs) (hn : n ≤ n') : IntsAt n' w v zs := by
  obtain ⟨a, c, e1, e2, e3⟩ := h
  exact ⟨a, c, e1, e2, fun hne => by obtain ⟨k, o, h1, h2, h3⟩ := e3 hne; exact ⟨k, o, h1, by omega, h3⟩⟩
theorem EdgesAt.wide {n n' : Nat} {w : World} {v : Value} {es : List Ed} (h : EdgesAt n w v es) (hn : n ≤ n') : EdgesAt n' w v es := by
  obtain ⟨a, c, e1, e2, e3⟩ := h
  exact ⟨a, c, e1, e2, fun hne => by obtain ⟨k, o, h1, h2, h3⟩ := e3 hne; exact ⟨k, o, h1, by omega, h3⟩⟩
/-- What a list of numbers lies in stays. -/
theorem IntsAt.stay {w w' : World} {v : Value} {zs : List Int} (h : IntsAt w.heap.size w v zs) (f : Fr (fun _ => False) w w') : IntsAt w'.heap.size w' v zs := (h.fr f (Nat.le_refl _) (fun _ _ h => h)).wide f.size
theorem EdgesAt.stay {w w' : World} {v : Value} {es : List Ed} (h : EdgesAt w.heap.size w v es) (f : Fr (fun _ => False) w w') : EdgesAt w'.heap.size w' v es := (h.fr f (Nat.le_refl _) (fun _ _ h => h)).wide f.size
theorem ints_lit (w : World) (b : Nat) (zs : List Int) (h : w.heap[b]? = some (.cells (zs.map vI).toArray 3)) : IntsAt w.heap.size w (.slice (some ⟨b, 0, none⟩) zs.length zs.length) zs := by
  refine ⟨_, _, rfl, Nat.le_refl _, fun _ => ⟨b, 0, rfl, heap_lt h, fun i hi => ?_⟩⟩
  rw [Nat.zero_add, cell_of h]
  simp [hi]
def eCells : List Ed → List Value
  | [] => []
  | e :: r => vI e.1 :: vI e.2.1 :: vI e.2.2 :: eCells r
theorem eCells_get : ∀ (es : List Ed) (i : Nat) (h : i < es.length), (eCells es)[i * 3]? = some (vI es[i].1) ∧ (eCells es)[i * 3 + 1]? = some (vI es[i].2.1) ∧ (eCells es)[i * 3 + 2]? = some (vI es[i].2.2)
  | e :: r, 0, _ => ⟨rfl, rfl, rfl⟩
  | e :: r, i + 1, h => by
    have := eCells_get r i (by simpa using h)
    rw [show (i + 1) * 3 = i * 3 + 1 + 1 + 1 by omega]
    simpa [eCells] using this
theorem edges_lit (w : World) (b : Nat) (es : List Ed) (h : w.heap[b]? = some (.cells (eCells es).toArray 27)) : EdgesAt w.heap.size w (.slice (some ⟨b, 0, none⟩) es.length es.length) es := by
  refine ⟨_, _, rfl, Nat.le_refl _, fun _ => ⟨b, 0, rfl, heap_lt h, fun i hi => ?_⟩⟩
  have := eCells_get es i hi
  simp only [Nat.zero_add, cell_of h, List.getElem?_toArray]
  exact this

def es0 : List Ed := [(0, 1, 0), (1, 2, 1), (2, 3, -1)]
theorem least0 : Least 4 es0 [0] (fun i => ([0, 0, 1, 0] : List Int).getD i 0) := by
  have r0 : Reach es0 [0] 0 0 := .root (by simp)
  have r1 : Reach es0 [0] 1 0 := .step (e := (0, 1, 0)) (by simp [es0]) r0
  have r2 : Reach es0 [0] 2 1 := .step (e := (1, 2, 1)) (by simp [es0]) r1
  have r3 : Reach es0 [0] 3 0 := by
    have := Reach.step (e := (2, 3, -1)) (es := es0) (rs := [0]) (by simp [es0]) r2
    rw [show plusX 1 (2, 3, -1).2.2 = 0 by decide] at this
    exact this
  refine ⟨fun r hr => ?_, fun d s k he => ?_, fun i hi => ?_⟩
  · simp at hr
    subst hr
    decide
  · simp only [es0, List.mem_cons, Prod.mk.injEq, List.not_mem_nil, or_false] at he
    rcases he with ⟨h1, h2, rfl⟩ | ⟨h1, h2, rfl⟩ | ⟨h1, h2, rfl⟩
    · obtain rfl : d = 0 := by omega
      obtain rfl : s = 1 := by omega
      decide
    · obtain rfl : d = 1 := by omega
      obtain rfl : s = 2 := by omega
      decide
    · obtain rfl : d = 2 := by omega
      obtain rfl : s = 3 := by omega
      decide
  · rcases (show i = 0 ∨ i = 1 ∨ i = 2 ∨ i = 3 by omega) with rfl | rfl | rfl | rfl
    · exact Or.inr r0
    · exact Or.inr r1
    · exact Or.inr r2
    · exact Or.inr r3
theorem right0 : RightG 4 es0 [0] := by decide
theorem map_least {n : Nat} {es : List Ed} {rs : List Int} {x y : Nat → Int} (hr : RightG n es rs) (hx : Least n es rs x) (hy : Least n es rs y) : (List.range n).map x = (List.range n).map y :=
  List.map_congr_left fun i hi => hx.unique hr hy (List.mem_range.1 hi)

/-- fixed. -/
theorem fixed_any (w : World) : Calls Try.prog 9 #[] w fun e w' => e = .returned (.bool true) ∧ Fr (fun _ => False) w w' := by
  have hE1 := heap_alloc_last w (.cells #[vI 0, vI 1, vI 0, vI 1, vI 2, vI 1, vI 2, vI 3, vI (-1)] 27)
  have hF1 : Fr (fun _ => False) w (w.alloc (.cells #[vI 0, vI 1, vI 0, vI 1, vI 2, vI 1, vI 2, vI 3, vI (-1)] 27)) := (Fr.refl _ w).alloc _
  have HE : Hd (EdgesAt ((w.alloc (.cells #[vI 0, vI 1, vI 0, vI 1, vI 2, vI 1, vI 2, vI 3, vI (-1)] 27)).alloc (.cells #[vI 0] 3)).heap.size ((w.alloc (.cells #[vI 0, vI 1, vI 0, vI 1, vI 2, vI 1, vI 2, vI 3, vI (-1)] 27)).alloc (.cells #[vI 0] 3)) (.slice (some ⟨w.heap.size, 0, none⟩) 3 3) es0) :=
    (edges_lit _ _ es0 hE1).stay ((Fr.refl _ _).alloc _)
  have HR : Hd (IntsAt ((w.alloc (.cells #[vI 0, vI 1, vI 0, vI 1, vI 2, vI 1, vI 2, vI 3, vI (-1)] 27)).alloc (.cells #[vI 0] 3)).heap.size ((w.alloc (.cells #[vI 0, vI 1, vI 0, vI 1, vI 2, vI 1, vI 2, vI 3, vI (-1)] 27)).alloc (.cells #[vI 0] 3)) (.slice (some ⟨w.heap.size + 1, 0, none⟩) 1 1) [0]) := by
    have h := heap_alloc_last (w.alloc (.cells #[vI 0, vI 1, vI 0, vI 1, vI 2, vI 1, vI 2, vI 3, vI (-1)] 27)) (.cells #[vI 0] 3)
    rw [show (w.alloc (.cells #[vI 0, vI 1, vI 0, vI 1, vI 2, vI 1, vI 2, vI 3, vI (-1)] 27)).heap.size = w.heap.size + 1 by simp] at h
    exact ints_lit _ _ [0] h
  have HF : Hd (Fr (fun _ => False) w ((w.alloc (.cells #[vI 0, vI 1, vI 0, vI 1, vI 2, vI 1, vI 2, vI 3, vI (-1)] 27)).alloc (.cells #[vI 0] 3))) := hF1.alloc _
  clear hE1 hF1
  go_enter Try.func9, Try.ntmps9
  go_wp2_with fail
  refine (show Calls Try.prog 12 #[.int .i64 4, .slice (some ⟨w.heap.size, 0, none⟩) 3 3, .slice (some ⟨w.heap.size + 1, 0, none⟩) 1 1] _ _ from from_any 4 _ _ es0 [0] _ HE.out HR.out (by simp [es0]) (by simp)).mono ?_
  rintro e w2 ⟨hF2, ⟨hno, -⟩ | ⟨-, b, x, rfl, hb, hrow, hleast⟩⟩
  · exact absurd right0 hno
  · have hx : (List.range 4).map x = [0, 0, 1, 0] := map_least (n := 4) right0 hleast least0
    have HF2 : Hd (Fr (fun _ => False) w w2) := HF.out.trans hF2
    have HX : Hd (IntsAt (w2.alloc (.cells #[vI 0, vI 0, vI 1, vI 0] 3)).heap.size (w2.alloc (.cells #[vI 0, vI 0, vI 1, vI 0] 3)) (.slice (some ⟨b, 0, none⟩) 4 4) [0, 0, 1, 0]) := by
      have := (hrow.intsAt (c := 4) (Nat.le_refl _)).stay ((Fr.refl _ w2).alloc (.cells #[vI 0, vI 0, vI 1, vI 0] 3))
      rw [← hx]
      exact this
    have HY : Hd (IntsAt (w2.alloc (.cells #[vI 0, vI 0, vI 1, vI 0] 3)).heap.size (w2.alloc (.cells #[vI 0, vI 0, vI 1, vI 0] 3)) (.slice (some ⟨w2.heap.size, 0, none⟩) 4 4) [0, 0, 1, 0]) :=
      ints_lit _ _ [0, 0, 1, 0] (heap_alloc_last w2 _)
    clear hrow hleast hx hF2 hb HE HR HF
    go_wp2_with fail
    refine (eqInts_any _ _ [0, 0, 1, 0] [0, 0, 1, 0] _ HX.out HY.out (by simp) (by simp)).mono ?_
    rintro e w3 ⟨rfl, hF3⟩
    have HF3 : Hd (Fr (fun _ => False) w w3) := (HF2.out.alloc _).trans hF3
    clear hF3
    go_wp2_with fail
    go_ret
    exact ⟨rfl, HF3.out⟩

end Go.Proofs.Ytcjfmfddkhpfnaa
