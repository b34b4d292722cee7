import Derived.Test.YtmdlebolmhnhaaaB5
namespace Go.Proofs.Ytmdlebolmhnhaaa
open Go.RowKit (wrap32 wrap64)
open Go.Maps (Keyed)
set_option linter.unusedVariables false
set_option linter.unusedSimpArgs false

def mkH (a : Abs) (n : Nat) (heap : Bool) : Abs := if heap then mkA a n else { mkA a n with pss := a.pss ++ [a.made + 1] }

theorem make_ok (b : Nat) (g : Gh) (a : Abs) (n : Nat) (heap : Bool) (w : World) (h : Mem w b g a) (h1 : 1 ≤ n) (h8 : n ≤ 8) (hfr : a.frs ≠ []) (hm : a.made ≤ 1000000000000) (hl : a.frs.length ≤ 1000000000000) (hp : a.pss.length ≤ 1000000000000) :
    Calls Try.prog 12 #[ptr b, vI n, .bool heap] w fun e w' => ∃ g', e = .returned (.tuple #[vI ((a.made + 1 : Nat) : Int), vI 0]) ∧ Mem w' b g' (mkH a n heap) ∧ Fr (fun j => g.own j ≠ 0) w w' ∧ Ext w.heap.size g g' := by
  cases heap with
  | true => exact make_heap b g a n w h h1 h8 hfr hm hl
  | false => exact make_frame b g a n w h h1 h8 hfr hm hl hp

/-- The two cells of CellsCopies: the box, and the other, if it is there. -/
def cs2 (l : Option (List Val)) : Nat → Option (List Val) := fun i => if i = 1 then some [(2, 2)] else if i = 2 then l else none
def T0 (l : List Val) (heap : Bool) : Abs := { gl := [(2, 2)], made := 2, cells := cs2 (some l), frs := [0, 1], pss := if heap then [] else [2] }
def T1 (l : List Val) (heap : Bool) : Abs := { gl := [(2, 2)], made := 2, cells := cs2 (if heap then some l else none), frs := [0], pss := [] }
def T2 (l : List Val) (heap : Bool) : Abs := { gl := [(2, 2)], made := 2, cells := cs2 (if heap then some l else none), frs := [], pss := [] }

def k1 : Abs := pushX (newX 1)
def k2 : Abs := mkA k1 1
def k3 : Abs := pushX k2
def k4 (n : Nat) (heap : Bool) : Abs := mkH k3 n heap

theorem k5 (n : Nat) (heap : Bool) : (setGlobalX (storeX (k4 n heap) (2, 1) 0 (2, 2)).1 0 (2, 2)).1 = T0 (List.replicate n (0, 0)) heap ∧ (storeX (k4 n heap) (2, 1) 0 (2, 2)).2 = 0 ∧ (setGlobalX (storeX (k4 n heap) (2, 1) 0 (2, 2)).1 0 (2, 2)).2 = 0 := by
  have hs : storeX (k4 n heap) (2, 1) 0 (2, 2) = ({ k4 n heap with cells := upd (k4 n heap).cells 1 (some [(2, 2)]) }, 0) := by cases heap <;> rfl
  rw [hs]
  refine ⟨?_, rfl, by cases heap <;> rfl⟩
  have hg : setGlobalX { k4 n heap with cells := upd (k4 n heap).cells 1 (some [(2, 2)]) } 0 (2, 2) = ({ k4 n heap with cells := upd (k4 n heap).cells 1 (some [(2, 2)]), gl := [(2, 2)] }, 0) := by cases heap <;> rfl
  rw [hg]
  have hc : upd (k4 n heap).cells 1 (some [(2, 2)]) = cs2 (some (List.replicate n (0, 0))) := by
    funext i
    simp only [upd, cs2]
    by_cases h1 : i = 1
    · simp [h1]
    · simp only [h1, if_false]
      have : (k4 n heap).cells i = if i = 2 then some (List.replicate n (0, 0)) else none := by
        have e : (k4 n heap).cells = upd (upd (fun _ => none) 1 (some (List.replicate 1 (0, 0)))) 2 (some (List.replicate n (0, 0))) := by cases heap <;> rfl
        rw [e]
        simp only [upd, h1, if_false]
      rw [this]
  rw [hc]
  cases heap <;> rfl

theorem store_T0 (l : List Val) (heap : Bool) (n k : Nat) (x2 : Int) (hl : l.length = n) (hn : 1 ≤ n) : storeX (T0 l heap) (2, 2) ((k : Int) % (n : Int)) (1, x2) = (T0 (l.set (k % n) (1, x2)) heap, 0) := by
  have hlt : k % n < n := Nat.mod_lt _ (by omega)
  have e : ((k : Int) % (n : Int)) = ((k % n : Nat) : Int) := by simp
  have hc : (T0 l heap).cells 2 = some l := rfl
  have hu : upd (T0 l heap).cells 2 (some (l.set (k % n) (1, x2))) = cs2 (some (l.set (k % n) (1, x2))) := by
    funext i
    simp only [upd, T0, cs2]
    by_cases h1 : i = 1
    · simp [h1]
    · by_cases h2 : i = 2
      · simp [h2]
      · simp [h1, h2]
  rw [e]
  have h1 : rightB (T0 l heap).made (2, 2) = true := rfl
  have h2 : rightB (T0 l heap).made (1, x2) = true := rfl
  simp only [storeX, h1, h2, Int.toNat_natCast]
  simp only [show (2 : Int).toNat = 2 from rfl, hc, hl, hu]
  rw [if_neg (by simp), if_neg (by simp), if_pos ⟨by omega, by omega⟩]
  rfl

/-- The memory in the turns of CellsCopies. -/
def Tt (t : Nat) (l : List Val) (heap : Bool) : Abs := if t = 0 then T0 l heap else if t = 1 then T1 l heap else T2 l heap
theorem Tt_made (t : Nat) (l : List Val) (heap : Bool) : (Tt t l heap).made = 2 := by
  unfold Tt; split
  · rfl
  · split <;> rfl
theorem Tt_gl (t : Nat) (l : List Val) (heap : Bool) : (Tt t l heap).gl = [(2, 2)] := by
  unfold Tt; split
  · rfl
  · split <;> rfl
theorem Tt_box (t : Nat) (l : List Val) (heap : Bool) : (Tt t l heap).cells 1 = some [(2, 2)] := by
  unfold Tt; split
  · rfl
  · split <;> rfl
theorem Tt_other (t : Nat) (l : List Val) (heap : Bool) : (Tt t l heap).cells 2 = if t ≠ 0 ∧ heap = false then none else some l := by
  unfold Tt; split
  · rename_i h; simp [h, T0, cs2]
  · rename_i h; split
    · cases heap <;> simp [h, T1, cs2]
    · cases heap <;> simp [h, T2, cs2]
theorem load_box (t : Nat) (l : List Val) (heap : Bool) : loadX (Tt t l heap) (2, 1) 0 = ((2, 2), 0) := by
  have h1 : rightB (Tt t l heap).made (2, 1) = true := by rw [Tt_made]; rfl
  simp only [loadX, h1]
  simp only [show (1 : Int).toNat = 1 from rfl, Tt_box]
  rfl
theorem glob_T (t : Nat) (l : List Val) (heap : Bool) : globalX (Tt t l heap) 0 = ((2, 2), 0) := by
  simp only [globalX, Tt_gl]; rfl
/-- What the other cell tells. -/
theorem load_T (t : Nat) (l : List Val) (heap : Bool) (f : Int) (ht : t < 2) : ((loadX (Tt t l heap) (2, 2) f).2 == 32) = (decide (t = 1) && !heap) := by
  have h1 : rightB (Tt t l heap).made (2, 2) = true := by rw [Tt_made]; rfl
  simp only [loadX, h1]
  simp only [show (2 : Int).toNat = 2 from rfl, Tt_other]
  have ht' : t = 0 ∨ t = 1 := by omega
  rcases ht' with rfl | rfl
  · simp
    split <;> simp
  · cases heap
    · simp
    · simp
      split <;> simp
theorem pop_T (t : Nat) (l : List Val) (heap : Bool) (ht : t < 2) {a' : Abs} (h : PopX (Tt t l heap) a') : a' = Tt (t + 1) l heap := by
  have ht' : t = 0 ∨ t = 1 := by omega
  rcases ht' with rfl | rfl
  · rw [h.is (l := [0]) (num := 1) (k := 0) rfl (isCut_zero (by cases heap <;> simp [Tt, T0]))]
    have : gone (T0 l heap).cells ((T0 l heap).pss.drop 0) = cs2 (if heap then some l else none) := by
      funext i
      cases heap
      · simp only [gone, T0, cs2]
        by_cases h1 : i = 1
        · simp [h1]
        · by_cases h2 : i = 2
          · simp [h2]
          · simp [h1, h2]
      · simp [gone, T0, cs2]
    have e : Tt 0 l heap = T0 l heap := rfl
    have e' : Tt (0 + 1) l heap = T1 l heap := rfl
    rw [e, e', this]
    cases heap <;> rfl
  · rw [h.is (l := []) (num := 0) (k := 0) rfl (isCut_zero (by simp [Tt, T1]))]
    have : gone (T1 l heap).cells ((T1 l heap).pss.drop 0) = (T1 l heap).cells := by simp [T1, gone_nil]
    simp [Tt, this, T2, T1, gone_nil]

/-- Values that came in. -/
def ValsIn (w : World) (v : Value) (xs : List Val) : Prop :=
  ∃ a c, v = .slice a xs.length c ∧ xs.length ≤ c ∧ (xs ≠ [] → ∃ k o, a = some ⟨k, o, none⟩ ∧ k < w.heap.size ∧ ∀ i (h : i < xs.length), w.cell? ⟨k, o + i * 2, none⟩ = some (vI xs[i].1) ∧ w.cell? ⟨k, o + i * 2 + 1, none⟩ = some (vI xs[i].2))

set_option maxRecDepth 100000 in
set_option maxHeartbeats 4000000 in
theorem copies_walk (fields : Int) (heap : Bool) (pv : Value) (xs : List Val) (w : World) (h : ValsIn w pv xs) (hx : xs.length ≤ 9223372036854775807) :
    Calls Try.prog 3 #[vI fields, .bool heap, pv] w fun e w' => e = .returned (.bool true) ∧ Fr (fun _ => False) w w' := by
  obtain ⟨n, hn, hn1, hn8⟩ : ∃ n : Nat, 1 + fields % ((8 : Nat) : Int) = n ∧ 1 ≤ n ∧ n ≤ 8 := ⟨(1 + fields % 8).toNat, by omega, by omega, by omega⟩
  obtain ⟨a0, c0, rfl, hc0, hin⟩ := h
  have HIN : Hd _ := hin
  clear hin
  go_enter Try.func3, Try.ntmps3
  go_wp2_with fail
  refine (fixed_any w).mono ?_
  rintro e w0 ⟨rfl, hF0⟩
  go_wp2_with fail
  refine (show Calls Try.prog 10 #[.int .i64 1] w0 _ from new_any 1 (by omega) w0).mono ?_
  rintro e w1 ⟨b, g1, rfl, hM1, hF1, hO1⟩
  have hG1 := hF0.trans hF1
  have hO1 : OwnNew w.heap.size g1 := fun k hk => by have := hO1 k hk; have := hF0.size; omega
  have hs1 := hG1.size
  clear hF0 hF1
  go_wp2_with fail
  refine (push_any b g1 (newX 1) w1 hM1 (by simp [newX])).mono ?_
  rintro e w2 ⟨g2, rfl, hM2, hF2, hE2⟩
  have hG2 := hG1.anew hF2 hO1
  have hO2 := hO1.ext hE2 hs1
  have hs2 := hG2.size
  clear hG1 hF2 hM1 hE2 hO1
  go_wp2_with fail
  refine (show Calls Try.prog 12 #[ptr b, .int .i64 1, .bool true] w2 _ from make_ok b g2 k1 1 true w2 hM2 (by omega) (by omega) (by simp [k1, pushX]) (by simp [k1, pushX, newX]) (by simp [k1, pushX, newX]) (by simp [k1, pushX, newX])).mono ?_
  rintro e w3 ⟨g3, he, hM3, hF3, hE3⟩
  obtain rfl : e = .returned (.tuple #[.int .i64 1, .int .i64 0]) := he
  have hM3 : Mem w3 b g3 k2 := hM3
  have hG3 := hG2.anew hF3 hO2
  have hO3 := hO2.ext hE3 hs2
  have hs3 := hG3.size
  clear hG2 hF3 hM2 hE3 hO2
  go_wp2_with fail
  refine (push_any b g3 k2 w3 hM3 (by simp [k2, mkA, k1, pushX, newX])).mono ?_
  rintro e w4 ⟨g4, rfl, hM4, hF4, hE4⟩
  have hM4 : Mem w4 b g4 k3 := hM4
  have hG4 := hG3.anew hF4 hO3
  have hO4 := hO3.ext hE4 hs3
  have hs4 := hG4.size
  clear hG3 hF4 hM3 hE4 hO3
  go_wp2_with fail
  refine (show Calls Try.prog 13 #[vI fields, .int .i64 8] w4 _ from mod_any fields 8 (by omega) (by omega) w4).mono ?_
  rintro e w5 ⟨rfl, rfl⟩
  have hr0 : 0 ≤ fields % ((8 : Nat) : Int) := by omega
  have hr8 : fields % ((8 : Nat) : Int) < 8 := by omega
  have HR : Hd (1 + fields % ((8 : Nat) : Int) = n) := hn
  generalize hfr : fields % ((8 : Nat) : Int) = r at *
  have HFR : Hd (fields % ((8 : Nat) : Int) = r) := hfr
  clear hfr
  go_wp2_with fail
  refine (make_ok b g4 k3 n heap w5 hM4 hn1 hn8 (by simp [k3, pushX]) (by simp [k3, k2, mkA, k1, pushX, newX]) (by simp [k3, k2, mkA, k1, pushX, newX]) (by simp [k3, k2, mkA, k1, pushX, newX])).mono ?_
  rintro e w6 ⟨g, he, hM6, hF6, hE6⟩
  obtain rfl : e = .returned (.tuple #[.int .i64 2, .int .i64 0]) := he
  have hM6 : Mem w6 b g (k4 n heap) := hM6
  have hG6 := hG4.anew hF6 hO4
  have hO := hO4.ext hE6 hs4
  have hs6 := hG6.size
  clear hG4 hF6 hM4 hE6 hO4
  go_wp2_with fail
  have V7 := heap_alloc_last w6 (.cells #[.int .i64 2, .int .i64 2] 32)
  have hF7 : Fr (fun _ => False) w6 (w6.alloc (.cells #[.int .i64 2, .int .i64 2] 32)) := Fr.alloc (Fr.refl _ w6) _
  obtain ⟨pb, hpb⟩ : ∃ pb, pb = w6.heap.size := ⟨_, rfl⟩
  have hv0 : g.own pb = 0 := by
    rw [hpb]
    by_cases h0 : g.own w6.heap.size = 0
    · exact h0
    · have := hM6.olt _ h0; omega
  rw [← hpb] at V7 ⊢
  generalize w6.alloc (.cells #[.int .i64 2, .int .i64 2] 32) = w7 at *
  have hM7 := hM6.keep hF7
  have hG7 := hG6.trans hF7
  clear hM6 hF7 hG6 hpb
  refine (show Calls Try.prog 14 #[ptr b, .agg #[.int .i64 2, .int .i64 1], .int .i64 0, .agg #[.int .i64 2, .int .i64 2]] w7 _ from store_any b g (k4 n heap) (2, 1) 0 (2, 2) w7 hM7 (by cases heap <;> simp [k4, mkH, k3, k2, mkA, k1, pushX, newX])).mono ?_
  rintro e w8 ⟨he, hM8, hF8⟩
  obtain ⟨t1, t2, t3⟩ := k5 n heap
  rw [t2] at he
  subst he
  have V8 := (hF8.block _ (heap_lt V7) (fun e => e hv0)).trans V7
  have hG8 := hG7.anew hF8 hO
  have d0 : w8.cell? ⟨pb, 0, none⟩ = some (.int .i64 2) := by rw [cell_of V8]; rfl
  have d1 : w8.cell? ⟨pb, 1, none⟩ = some (.int .i64 2) := by rw [cell_of V8]; rfl
  clear hM7 hF8 hG7 V7 t2
  go_wp2_with fail
  refine (show Calls Try.prog 15 #[ptr b, .int .i64 0, .agg #[.int .i64 2, .int .i64 2]] w8 _ from setGlobal_any b g _ 0 (2, 2) w8 hM8).mono ?_
  rintro e w9 ⟨he, hM9, hF9⟩
  rw [t3] at he
  rw [t1] at hM9
  subst he
  have V9 := (hF9.block _ (heap_lt V8) (fun e => e hv0)).trans V8
  have hG9 := hG8.anew hF9 hO
  clear hM8 hF9 hG8 V8 t1 t3 d0 d1
  have HM : Hd (Mem w9 b g (T0 (List.replicate n (0, 0)) heap)) := hM9
  have HV : Hd (w9.heap[pb]? = some (.cells #[.int .i64 2, .int .i64 2] 32)) := V9
  have HG : Hd (Fr (fun _ => False) w w9) := hG9
  have HO : Hd (OwnNew w.heap.size g) := hO
  have HP0 : Hd (g.own pb = 0) := hv0
  clear hM9 V9 hG9 hO hv0 hn hr0 hr8
  go_wp2_with fail
  go_loopw [16] (fun v wr => ∃ (k : Nat) (l : List Val), v = .int .i64 k ∧ k ≤ xs.length ∧ Hd (l.length = n) ∧ Hd (Mem wr b g (T0 l heap)) ∧ Hd (wr.heap[pb]? = some (.cells #[.int .i64 2, .int .i64 2] 32)) ∧ Hd (Fr (fun _ => False) w wr)) (fun v _ => match v with | .int _ q => xs.length - q.toNat | _ => 0)
  case atStart => exact ⟨0, _, rfl, Nat.zero_le _, by unfold Hd; simp, HM.out, HV.out, HG.out⟩
  case round =>
    obtain ⟨k, l, rfl, hk, HL, HMr, HVr, HGr⟩ := hrel
    clear HM HV HG
    by_cases hlt : k < xs.length
    · obtain ⟨pk, po, rfl, hpk, hcs⟩ := HIN.out (by intro e; simp [e] at hlt)
      have hgr := HGr.out
      have x1 : wr.cell? ⟨pk, po + k * 2, none⟩ = some (vI xs[k].1) := (hgr.cell hpk (fun h => h)).trans (hcs k hlt).1
      have x2 : wr.cell? ⟨pk, po + k * 2 + 1, none⟩ = some (vI xs[k].2) := (hgr.cell hpk (fun h => h)).trans (hcs k hlt).2
      clear hcs hgr
      generalize xs[k] = x at *
      have d0 : wr.cell? ⟨pb, 0, none⟩ = some (.int .i64 2) := by rw [cell_of HVr.out]; rfl
      have d1 : wr.cell? ⟨pb, 1, none⟩ = some (.int .i64 2) := by rw [cell_of HVr.out]; rfl
      have hk0 : (0 : Int) ≤ k := by omega
      have hk1 : (k : Int) < xs.length := by omega
      by_cases hx1 : x.1 = 1
      · have mod8 : ∀ w : World, Calls Try.prog 13 #[vI fields, .int .i64 8] w fun e w' => e = .returned (vI r) ∧ w' = w := fun w => by
          have := mod_any fields 8 (by omega) (by omega) w
          rw [HFR.out] at this
          exact this
        have modn : ∀ w : World, Calls Try.prog 13 #[vI k, .int .i64 (IntKind.i64.wrap n)] w fun e w' => e = .returned (vI ((k % n : Nat) : Int)) ∧ w' = w := fun w => by
          have := mod_any k n (by omega) (by omega) w
          rw [show IntKind.i64.wrap (n : Int) = n by rw [IntKind.wrap_i64]; omega]
          exact this
        have hn : 1 + r = n := HR.out
        have hr0 : 0 ≤ r := by omega
        have hr8 : r < 8 := by omega
        go_wp2_with fail
        refine wp_region_still_tail 11 mixed (by kernel_rfl) ?_
        simp only [List.take_succ_cons, List.take_zero, List.drop_succ_cons, List.drop_zero]
        repeat still_step
        still_call (mod8 _)
        repeat still_step
        still_call (modn _)
        repeat still_step
        refine wpStill_nil ?_
        go_wp2_with fail
        refine (show Calls Try.prog 14 #[ptr b, .agg #[.int .i64 2, .int .i64 2], vI ((k : Int) % (n : Int)), .agg #[vI 1, vI x.2]] wr.drew _ from store_any b g (T0 l heap) (2, 2) ((k : Int) % (n : Int)) (1, x.2) wr.drew HMr.out.drew (by simp [T0])).mono ?_
        rintro e w1 ⟨he, hM1, hF1⟩
        rw [store_T0 l heap n k x.2 HL.out hn1] at he hM1
        subst he
        have V1 := (hF1.block _ (heap_lt HVr.out) (fun e => e HP0.out)).trans HVr.out
        have hG1 := (HGr.out.drew).anew hF1 HO.out
        go_wp2_with fail
        refine ⟨⟨k + 1, _, by simp, by omega, ?_, hM1, V1, hG1⟩, by simp; omega⟩
        unfold Hd
        rw [List.length_set]
        exact HL.out
      · have bx := eqb_false hx1
        go_wp2_with fail
        refine ⟨⟨k + 1, l, by simp, by omega, HL, HMr, HVr, HGr⟩, by simp; omega⟩
    · have hke : k = xs.length := by omega
      subst hke
      go_wp2_with fail
      go_loopw [17] (fun v wr => ∃ (t : Nat) (g' : Gh), v = .int .i64 t ∧ t ≤ 2 ∧ Hd (Mem wr b g' (Tt t l heap)) ∧ Hd (g'.own = g.own) ∧ Hd (wr.heap[pb]? = some (.cells #[.int .i64 2, .int .i64 2] 32)) ∧ Hd (Fr (fun _ => False) w wr)) (fun v _ => match v with | .int _ q => 2 - q.toNat | _ => 0)
      case atStart => exact ⟨0, g, rfl, by omega, HMr.out, rfl, HVr.out, HGr.out⟩
      case round =>
        obtain ⟨t, g', rfl, ht, HM2, HE2, HV2, HG2⟩ := hrel
        clear HMr HVr HGr HL
        by_cases htt : t < 2
        · have hdt : decide ((t : Int) < 2) = true := by simp; omega
          go_wp2_with fail
          refine (show Calls Try.prog 16 #[ptr b, .agg #[.int .i64 2, .int .i64 1], .int .i64 0] wr _ from load_any b g' (Tt t l heap) (2, 1) 0 wr HM2.out (by rw [Tt_made]; omega)).mono ?_
          rintro e w1' ⟨he, hF1⟩
          rw [load_box] at he
          subst he
          have hM1 := HM2.out.keep hF1
          have V1 := (hF1.block _ (heap_lt HV2.out) (fun e => e)).trans HV2.out
          have hG1 := HG2.out.trans hF1
          clear hF1
          go_wp2_with fail
          obtain ⟨qb, hqb⟩ : ∃ qb, qb = w1'.heap.size := ⟨_, rfl⟩
          have Q2 := heap_alloc_last w1' (.cells #[.int .i64 2, .int .i64 2] 32)
          have hF2 : Fr (fun _ => False) w1' (w1'.alloc (.cells #[.int .i64 2, .int .i64 2] 32)) := Fr.alloc (Fr.refl _ w1') _
          rw [← hqb] at Q2 ⊢
          generalize w1'.alloc (.cells #[.int .i64 2, .int .i64 2] 32) = w2' at *
          have hM2 := hM1.keep hF2
          have V2 := (hF2.block _ (heap_lt V1) (fun e => e)).trans V1
          have hG2 := hG1.trans hF2
          clear hF2 hM1 V1 hG1 hqb
          refine (show Calls Try.prog 17 #[ptr b, .int .i64 0] w2' _ from global_any b g' (Tt t l heap) 0 w2' hM2).mono ?_
          rintro e w3' ⟨he, hF3⟩
          rw [glob_T] at he
          subst he
          have hM3' := hM2.keep hF3
          have V3 := (hF3.block _ (heap_lt V2) (fun e => e)).trans V2
          have Q3 := (hF3.block _ (heap_lt Q2) (fun e => e)).trans Q2
          have hG3' := hG2.trans hF3
          have v0 : w3'.cell? ⟨pb, 0, none⟩ = some (.int .i64 2) := by rw [cell_of V3]; rfl
          have v1 : w3'.cell? ⟨pb, 1, none⟩ = some (.int .i64 2) := by rw [cell_of V3]; rfl
          have q0 : w3'.cell? ⟨qb, 0, none⟩ = some (.int .i64 2) := by rw [cell_of Q3]; rfl
          have q1 : w3'.cell? ⟨qb, 1, none⟩ = some (.int .i64 2) := by rw [cell_of Q3]; rfl
          have lv := heap_lt V3
          have lq := heap_lt Q3
          clear hF3 hM2 V2 Q2 hG2
          have R4 := heap_alloc_last w3' (.cells #[.int .i64 2, .int .i64 2] 32)
          have hF4 : Fr (fun _ => False) w3' (w3'.alloc (.cells #[.int .i64 2, .int .i64 2] 32)) := Fr.alloc (Fr.refl _ w3') _
          have HR4 : Hd _ := R4
          have HF4 : Hd _ := hF4
          have HM3 : Hd _ := hM3'
          have HV3 : Hd _ := V3
          have HQ3 : Hd _ := Q3
          have HG3 : Hd _ := hG3'
          clear R4 hF4 hM3' V3 Q3 hG3' HV2 HG2
          go_wp2_with fail
          obtain ⟨rb, hrb⟩ : ∃ rb, rb = w3'.heap.size := ⟨_, rfl⟩
          rw [← hrb] at HR4 ⊢
          generalize w3'.alloc (.cells #[.int .i64 2, .int .i64 2] 32) = w4' at *
          have HM4 : Hd _ := HM3.out.keep HF4.out
          have HV4 : Hd _ := (HF4.out.block _ (heap_lt HV3.out) (fun e => e)).trans HV3.out
          have HQ4 : Hd _ := (HF4.out.block _ (heap_lt HQ3.out) (fun e => e)).trans HQ3.out
          have HG4 : Hd _ := HG3.out.trans HF4.out
          clear HM3 HV3 HQ3 HG3 HF4 v0 v1 q0 q1 lv lq hrb
          go_loopw [22] (fun v wr3 => ∃ (k : Nat), v = .int .i64 k ∧ k ≤ 9 ∧ Hd (Mem wr3 b g' (Tt t l heap)) ∧ Hd (wr3.heap[pb]? = some (.cells #[.int .i64 2, .int .i64 2] 32)) ∧ Hd (wr3.heap[qb]? = some (.cells #[.int .i64 2, .int .i64 2] 32)) ∧ Hd (wr3.heap[rb]? = some (.cells #[.int .i64 2, .int .i64 2] 32)) ∧ Hd (Fr (fun _ => False) w wr3)) (fun v _ => match v with | .int _ q => 9 - q.toNat | _ => 0)
          case atStart => exact ⟨0, rfl, by omega, HM4.out, HV4.out, HQ4.out, HR4.out, HG4.out⟩
          case round =>
            obtain ⟨k, rfl, hk9, HM5, HV5, HQ5, HR5, HG5⟩ := hrel
            clear HM4 HV4 HQ4 HR4 HG4
            by_cases hk8 : k ≤ 8
            · have hdk : decide ((k : Int) ≤ 8) = true := by simp; omega
              obtain ⟨y, er, hL⟩ : ∃ y er, loadX (Tt t l heap) (2, 2) k = (y, er) := ⟨_, _, rfl⟩
              have hE := load_T t l heap k htt
              rw [hL] at hE
              have HL3 : Hd (loadX (Tt t l heap) (2, 2) k = (y, er)) := hL
              have v0 : wr.cell? ⟨pb, 0, none⟩ = some (.int .i64 2) := by rw [cell_of HV5.out]; rfl
              have v1 : wr.cell? ⟨pb, 1, none⟩ = some (.int .i64 2) := by rw [cell_of HV5.out]; rfl
              have HE3 : Hd ((er == 32) = (decide (t = 1) && !heap)) := hE
              clear hL hE
              go_wp2_with fail
              refine (show Calls Try.prog 16 #[ptr b, .agg #[.int .i64 2, .int .i64 2], .int .i64 k] wr _ from load_any b g' (Tt t l heap) (2, 2) k wr HM5.out (by rw [Tt_made]; omega)).mono ?_
              rintro e y1 ⟨he, hF⟩
              rw [HL3.out] at he
              subst he
              have HM6 : Hd _ := HM5.out.keep hF
              have HV6 : Hd _ := (hF.block _ (heap_lt HV5.out) (fun e => e)).trans HV5.out
              have HQ6 : Hd _ := (hF.block _ (heap_lt HQ5.out) (fun e => e)).trans HQ5.out
              have HR6 : Hd _ := (hF.block _ (heap_lt HR5.out) (fun e => e)).trans HR5.out
              have HG6 : Hd _ := HG5.out.trans hF
              clear hF v0 v1 HM5 HV5 HQ5 HR5 HG5
              have q0 : y1.cell? ⟨qb, 0, none⟩ = some (.int .i64 2) := by rw [cell_of HQ6.out]; rfl
              have q1 : y1.cell? ⟨qb, 1, none⟩ = some (.int .i64 2) := by rw [cell_of HQ6.out]; rfl
              have ql := heap_lt HQ6.out
              have A7 := heap_alloc_last y1 (.cells #[.int .i64 y.1, .int .i64 y.2] 32)
              have hF7 : Fr (fun _ => False) y1 (y1.alloc (.cells #[.int .i64 y.1, .int .i64 y.2] 32)) := Fr.alloc (Fr.refl _ y1) _
              have HA7 : Hd _ := A7
              have HF7 : Hd _ := hF7
              clear A7 hF7
              go_wp2_with fail
              obtain ⟨ab, hab⟩ : ∃ ab, ab = y1.heap.size := ⟨_, rfl⟩
              rw [← hab] at HA7 ⊢
              generalize y1.alloc (.cells #[.int .i64 y.1, .int .i64 y.2] 32) = y2 at *
              refine (show Calls Try.prog 16 #[ptr b, .agg #[.int .i64 2, .int .i64 2], .int .i64 k] y2 _ from load_any b g' (Tt t l heap) (2, 2) k y2 (HM6.out.keep HF7.out) (by rw [Tt_made]; omega)).mono ?_
              rintro e y3 ⟨he, hF⟩
              rw [HL3.out] at he
              subst he
              have hF13 := HF7.out.trans hF
              have HM8 : Hd _ := HM6.out.keep hF13
              have HV8 : Hd _ := (hF13.block _ (heap_lt HV6.out) (fun e => e)).trans HV6.out
              have HQ8 : Hd _ := (hF13.block _ (heap_lt HQ6.out) (fun e => e)).trans HQ6.out
              have HR8 : Hd _ := (hF13.block _ (heap_lt HR6.out) (fun e => e)).trans HR6.out
              have HA8 : Hd _ := (hF.block _ (heap_lt HA7.out) (fun e => e)).trans HA7.out
              have HG8 : Hd _ := HG6.out.trans hF13
              clear hF hF13 q0 q1 ql HM6 HV6 HQ6 HR6 HG6 HA7 HF7 hab
              have q0 : y3.cell? ⟨rb, 0, none⟩ = some (.int .i64 2) := by rw [cell_of HR8.out]; rfl
              have q1 : y3.cell? ⟨rb, 1, none⟩ = some (.int .i64 2) := by rw [cell_of HR8.out]; rfl
              have ql := heap_lt HR8.out
              have HB9 : Hd _ := heap_alloc_last y3 (.cells #[.int .i64 y.1, .int .i64 y.2] 32)
              have HF9 : Hd (Fr (fun _ => False) y3 (y3.alloc (.cells #[.int .i64 y.1, .int .i64 y.2] 32))) := Fr.alloc (Fr.refl _ y3) _
              go_wp2_with fail
              obtain ⟨bb, hbb⟩ : ∃ bb, bb = y3.heap.size := ⟨_, rfl⟩
              rw [← hbb] at HB9 ⊢
              generalize y3.alloc (.cells #[.int .i64 y.1, .int .i64 y.2] 32) = y4 at *
              refine (show Calls Try.prog 16 #[ptr b, .agg #[.int .i64 2, .int .i64 2], .int .i64 k] y4 _ from load_any b g' (Tt t l heap) (2, 2) k y4 (HM8.out.keep HF9.out) (by rw [Tt_made]; omega)).mono ?_
              rintro e y5 ⟨he, hF⟩
              rw [HL3.out] at he
              subst he
              have hF35 := HF9.out.trans hF
              have HM10 : Hd _ := HM8.out.keep hF35
              have HV10 : Hd _ := (hF35.block _ (heap_lt HV8.out) (fun e => e)).trans HV8.out
              have HQ10 : Hd _ := (hF35.block _ (heap_lt HQ8.out) (fun e => e)).trans HQ8.out
              have HR10 : Hd _ := (hF35.block _ (heap_lt HR8.out) (fun e => e)).trans HR8.out
              have HA10 : Hd _ := (hF35.block _ (heap_lt HA8.out) (fun e => e)).trans HA8.out
              have HB10 : Hd _ := (hF.block _ (heap_lt HB9.out) (fun e => e)).trans HB9.out
              have HG10 : Hd _ := HG8.out.trans hF35
              clear hF hF35 q0 q1 ql HM8 HV8 HQ8 HR8 HG8 HA8 HB9 HF9 hbb
              have a0' : y5.cell? ⟨ab, 0, none⟩ = some (.int .i64 y.1) := by rw [cell_of HA10.out]; rfl
              have a1' : y5.cell? ⟨ab, 1, none⟩ = some (.int .i64 y.2) := by rw [cell_of HA10.out]; rfl
              have b0' : y5.cell? ⟨bb, 0, none⟩ = some (.int .i64 y.1) := by rw [cell_of HB10.out]; rfl
              have b1' : y5.cell? ⟨bb, 1, none⟩ = some (.int .i64 y.2) := by rw [cell_of HB10.out]; rfl
              have la := heap_lt HA10.out
              have lb := heap_lt HB10.out
              have HX : Hd (Fr (fun _ => False) y5 (y5.alloc (.cells #[.int .i64 y.1, .int .i64 y.2] 32))) := Fr.alloc (Fr.refl _ y5) _
              have HEND : Hd (∃ (k' : Nat), Value.int .i64 ((k : Int) + 1) = .int .i64 k' ∧ k' ≤ 9 ∧ Hd (Mem (y5.alloc (.cells #[.int .i64 y.1, .int .i64 y.2] 32)) b g' (Tt t l heap)) ∧ Hd ((y5.alloc (.cells #[.int .i64 y.1, .int .i64 y.2] 32)).heap[pb]? = some (.cells #[.int .i64 2, .int .i64 2] 32)) ∧ Hd ((y5.alloc (.cells #[.int .i64 y.1, .int .i64 y.2] 32)).heap[qb]? = some (.cells #[.int .i64 2, .int .i64 2] 32)) ∧ Hd ((y5.alloc (.cells #[.int .i64 y.1, .int .i64 y.2] 32)).heap[rb]? = some (.cells #[.int .i64 2, .int .i64 2] 32)) ∧ Hd (Fr (fun _ => False) w (y5.alloc (.cells #[.int .i64 y.1, .int .i64 y.2] 32)))) :=
                ⟨k + 1, by simp, by omega, HM10.out.keep HX.out, (HX.out.block _ (heap_lt HV10.out) (fun e => e)).trans HV10.out, (HX.out.block _ (heap_lt HQ10.out) (fun e => e)).trans HQ10.out, (HX.out.block _ (heap_lt HR10.out) (fun e => e)).trans HR10.out, HG10.out.trans HX.out⟩
              clear HM10 HV10 HQ10 HR10 HA10 HB10 HG10 HX HL3
              by_cases ht1 : t = 1
              · have hE := HE3.out
                simp only [ht1, decide_true, Bool.true_and] at hE
                clear HE3
                have bt : ((t : Int) == 1) = true := by simp; omega
                clear ht1
                cases heap with
                | true =>
                  simp only [Bool.not_true] at hE
                  go_wp2_with fail
                  exact ⟨HEND.out, by simp; omega⟩
                | false =>
                  simp only [Bool.not_false] at hE
                  go_wp2_with fail
                  exact ⟨HEND.out, by simp; omega⟩
              · have hE := HE3.out
                simp only [ht1, decide_false, Bool.false_and] at hE
                have bt : ((t : Int) == 1) = false := by simp; omega
                clear HE3
                go_wp2_with fail
                exact ⟨HEND.out, by simp; omega⟩
            · have hke : k = 9 := by omega
              subst hke
              go_wp2_with fail
              have hp0 : g'.own pb = 0 := by rw [HE2.out]; exact HP0.out
              have hO' : OwnNew w.heap.size g' := fun k hk => HO.out k (by rw [HE2.out] at hk; exact hk)
              refine (pop_any b g' (Tt t l heap) wr HM5.out ?_ ?_ ?_ ?_).mono ?_
              · unfold Tt; split
                · simp [T0]
                · rw [if_pos (by omega)]; simp [T1]
              · unfold Tt; split
                · simp [T0]
                · rw [if_pos (by omega)]; simp [T1]
              · unfold Tt; split
                · cases heap <;> simp [T0]
                · rw [if_pos (by omega)]; simp [T1]
              · unfold Tt; split
                · cases heap <;> simp [T0]
                · rw [if_pos (by omega)]; simp [T1]
              rintro e w8' ⟨rfl, g8, a8, hP8, hM8, hF8, hE8⟩
              have ha8 := pop_T t l heap htt hP8
              subst ha8
              have V8 := (hF8.block _ (heap_lt HV5.out) (fun e => e hp0)).trans HV5.out
              have hG8 := HG5.out.anew hF8 hO'
              clear hP8 hF8
              go_wp2_with fail
              exact ⟨⟨t + 1, g8, by simp, by omega, hM8, hE8.trans HE2.out, V8, hG8⟩, by simp; omega⟩
        · have hte : t = 2 := by omega
          subst hte
          go_wp2_with fail
          go_ret
          exact ⟨rfl, HG2.out⟩
end Go.Proofs.Ytmdlebolmhnhaaa
