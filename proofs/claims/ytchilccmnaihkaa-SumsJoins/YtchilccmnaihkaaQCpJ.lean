import Derived.Test.YtchilccmnaihkaaQAf
namespace Go.Proofs.Ytchilccmnaihkaa
set_option linter.unusedVariables false
set_option linter.unusedSimpArgs false

/-! ### reading, plainly -/
/-- The first t are there, and each may be. -/
def okT (l : List Int) (t : Nat) : Bool := decide (t ≤ l.length) && (l.take t).all okN
theorem okT_zero (l : List Int) : okT l 0 = true := by simp [okT]
theorem okT_le {l : List Int} {t : Nat} (h : okT l t = true) : t ≤ l.length := by simp [okT] at h; exact h.1
theorem okT_at {l : List Int} {t j : Nat} (h : okT l t = true) (hj : j < t) : okN (l.getD j 0) = true := by
  have hl := okT_le h
  simp only [okT, Bool.and_eq_true, List.all_eq_true] at h
  refine h.2 _ ?_
  rw [List.getD_eq_getElem?_getD, List.getElem?_eq_getElem (by omega)]
  have : (l.take t)[j]? = some l[j] := by rw [List.getElem?_take, if_pos hj, List.getElem?_eq_getElem (by omega)]
  exact List.mem_of_getElem? this
theorem okT_iff {l : List Int} {t : Nat} : okT l t = true ↔ t ≤ l.length ∧ ∀ j, j < t → okN (l.getD j 0) = true := by
  constructor
  · intro h; exact ⟨okT_le h, fun j hj => okT_at h hj⟩
  · rintro ⟨h1, h2⟩
    simp only [okT, Bool.and_eq_true, List.all_eq_true, decide_eq_true_eq]
    refine ⟨h1, fun x hx => ?_⟩
    obtain ⟨j, hj, rfl⟩ := List.mem_iff_getElem.1 hx
    have hjt : j < t := by simp at hj; omega
    have := h2 j hjt
    rw [List.getD_eq_getElem?_getD, List.getElem?_eq_getElem (by omega)] at this
    rw [List.getElem_take]
    exact this
theorem getD_drop (l : List Int) (s j : Nat) : (l.drop s).getD j 0 = l.getD (s + j) 0 := by
  rw [List.getD_eq_getElem?_getD, List.getD_eq_getElem?_getD, List.getElem?_drop]
theorem okT_add (l : List Int) (s t : Nat) : okT l (s + t) = (okT l s && okT (l.drop s) t) := by
  rw [Bool.eq_iff_iff, Bool.and_eq_true, okT_iff, okT_iff, okT_iff]
  simp only [List.length_drop, getD_drop]
  constructor
  · rintro ⟨h1, h2⟩; exact ⟨⟨by omega, fun j hj => h2 j (by omega)⟩, by omega, fun j hj => h2 _ (by omega)⟩
  · rintro ⟨⟨h1, h2⟩, h3, h4⟩
    refine ⟨by omega, fun j hj => ?_⟩
    by_cases e : j < s
    · exact h2 j e
    · have := h4 (j - s) (by omega)
      rw [show s + (j - s) = j by omega] at this
      exact this
theorem okT_mono {l : List Int} {s t : Nat} (h : okT l t = true) (hs : s ≤ t) : okT l s = true := by
  rw [show t = s + (t - s) by omega, okT_add, Bool.and_eq_true] at h; exact h.1
theorem okT_one (l : List Int) : okT l 1 = true ↔ ∃ x t, l = x :: t ∧ okN x = true := by
  cases l with
  | nil => simp [okT]
  | cons x t => simp [okT]

/-- A summary of such a shape, as the numbers tell it. -/
def hpT (R : Nat) (l : List Int) (i : Nat) : Int := l.getD (i * (R + 1)) 0
def rsT (R : Nat) (l : List Int) (i : Nat) : List Int := (l.drop (i * (R + 1) + 1)).take R
def psT (P R : Nat) (l : List Int) : PS := ⟨(List.range P).map (hpT R l), (List.range P).map (rsT R l)⟩
theorem psT_right {P R : Nat} {l : List Int} (h : okT l (P * (R + 1)) = true) : PS.Right P R (psT P R l) := by
  have hi : ∀ i, i < P → i * (R + 1) + (R + 1) ≤ P * (R + 1) := fun i hi => by
    have : (i + 1) * (R + 1) ≤ P * (R + 1) := Nat.mul_le_mul_right _ hi
    rw [Nat.add_mul, Nat.one_mul] at this; exact this
  have hl := okT_le h
  refine ⟨by simp [psT], by simp [psT], fun x hx => ?_, fun r hr => ?_⟩
  · simp only [psT, List.mem_map, List.mem_range] at hx
    obtain ⟨i, h1, rfl⟩ := hx
    exact okT_at h (by have := hi i h1; omega)
  · simp only [psT, List.mem_map, List.mem_range] at hr
    obtain ⟨i, h1, rfl⟩ := hr
    have h2 := hi i h1
    refine ⟨by simp [rsT]; omega, fun x hx => ?_⟩
    obtain ⟨j, hj, rfl⟩ := List.mem_iff_getElem.1 hx
    simp [rsT] at hj
    have := okT_at h (j := i * (R + 1) + 1 + j) (by omega)
    rw [List.getD_eq_getElem?_getD, List.getElem?_eq_getElem (by omega)] at this
    simp only [rsT, List.getElem_take, List.getElem_drop]
    exact this
theorem psT_drop (P R : Nat) (l : List Int) : psT (P + 1) R l = ⟨l.getD 0 0 :: (psT P R (l.drop (R + 1))).heap, (l.drop 1).take R :: (psT P R (l.drop (R + 1))).res⟩ := by
  have e : ∀ i, (i + 1) * (R + 1) = R + 1 + i * (R + 1) := fun i => by rw [Nat.add_mul, Nat.one_mul, Nat.add_comm]
  simp only [psT, List.range_succ_eq_map, List.map_cons, List.map_map]
  congr 1
  · congr 1
    · simp [hpT]
    · apply List.map_congr_left; intro i _; simp only [Function.comp, hpT, getD_drop]; rw [e]
  · congr 1
    · simp [rsT]
    · apply List.map_congr_left; intro i _; simp only [Function.comp, rsT, List.drop_drop]; rw [e, Nat.add_assoc]
theorem lay_psT (P R : Nat) : ∀ (l : List Int), P * (R + 1) ≤ l.length → layL (psT P R l).heap (psT P R l).res = l.take (P * (R + 1)) := by
  induction P with
  | zero => intro l _; simp [psT, layL]
  | succ P ih =>
    intro l hl
    rw [Nat.add_mul, Nat.one_mul] at hl
    rw [psT_drop]
    simp only [layL]
    rw [ih (l.drop (R + 1)) (by simp; omega)]
    cases l with
    | nil => simp at hl
    | cons x l =>
      simp only [List.getD_cons_zero, List.drop_succ_cons, List.drop_zero]
      rw [show (P + 1) * (R + 1) = (R + P * (R + 1)) + 1 by rw [Nat.add_mul, Nat.one_mul]; omega, List.take_succ_cons, List.take_add]
theorem psT_lay {P R : Nat} : ∀ {s : PS} (_ : PS.Right P R s) (l : List Int), psT P R (layL s.heap s.res ++ l) = s := by
  induction P with
  | zero =>
    rintro ⟨h, r⟩ hs l
    have h1 := hs.hl; have h2 := hs.rl
    cases h with
    | nil => cases r with
      | nil => simp [psT]
      | cons => simp at h2
    | cons => simp at h1
  | succ P ih =>
    rintro ⟨h, r⟩ hs l
    cases h with
    | nil => have := hs.hl; simp at this
    | cons x h => cases r with
      | nil => have := hs.rl; simp at this
      | cons y r =>
        have hy : y.length = R := (hs.ro y (by simp)).1
        have hs' : PS.Right P R ⟨h, r⟩ := ⟨by have := hs.hl; simpa using this, by have := hs.rl; simpa using this, fun z hz => hs.ho z (by simp [hz]), fun z hz => hs.ro z (by simp [hz])⟩
        have := ih hs' l
        rw [psT_drop]
        simp only [layL, List.cons_append, List.append_assoc, List.getD_cons_zero, List.drop_succ_cons, List.drop_zero]
        rw [← hy, List.drop_left, List.take_left, hy, this]
theorem layL_okT {P R : Nat} {s : PS} (h : PS.Right P R s) : (layL s.heap s.res).length = P * (R + 1) ∧ ∀ x ∈ layL s.heap s.res, okN x = true := by
  induction P generalizing s with
  | zero =>
    obtain ⟨hh, r⟩ := s
    have h1 := h.hl
    cases hh with
    | nil => simp [layL]
    | cons => simp at h1
  | succ P ih =>
    obtain ⟨hh, r⟩ := s
    cases hh with
    | nil => have := h.hl; simp at this
    | cons x hh => cases r with
      | nil => have := h.rl; simp at this
      | cons y r =>
        have hs' : PS.Right P R ⟨hh, r⟩ := ⟨by have := h.hl; simpa using this, by have := h.rl; simpa using this, fun z hz => h.ho z (by simp [hz]), fun z hz => h.ro z (by simp [hz])⟩
        obtain ⟨i1, i2⟩ := ih hs'
        have hy := h.ro y (by simp)
        simp only at i1 i2
        refine ⟨?_, ?_⟩
        · simp only [layL, List.length_cons, List.length_append, i1, hy.1]
          rw [Nat.add_mul, Nat.one_mul]; omega
        · intro z hz
          simp only [layL, List.mem_cons, List.mem_append] at hz
          rcases hz with rfl | hz | hz
          · exact h.ho _ (by simp)
          · exact hy.2 z hz
          · exact i2 z hz

/-- Shapes: how many numbers they ask for, the summaries that numbers tell. -/
def totT : List (Nat × Nat) → Nat
  | [] => 0
  | f :: fs => f.1 * (f.2 + 1) + totT fs
def ssT : List (Nat × Nat) → List Int → List PS
  | [], _ => []
  | f :: fs, l => psT f.1 f.2 l :: ssT fs (l.drop (f.1 * (f.2 + 1)))
/-- The bytes can be read. -/
def decT (fs : List (Nat × Nat)) (l : List Int) : Bool := okT l (totT fs) && decide (l.length = totT fs)
inductive Fit : List (Nat × Nat) → List PS → Prop
  | nil : Fit [] []
  | cons {f : Nat × Nat} {fs : List (Nat × Nat)} {s : PS} {ss : List PS} (h : PS.Right f.1 f.2 s) (hs : Fit fs ss) : Fit (f :: fs) (s :: ss)
theorem Fit.len {fs : List (Nat × Nat)} {ss : List PS} (h : Fit fs ss) : ss.length = fs.length := by
  induction h with
  | nil => rfl
  | cons _ _ ih => simp [ih]
theorem Fit.append {fs gs : List (Nat × Nat)} {ss ts : List PS} (h : Fit fs ss) (k : Fit gs ts) : Fit (fs ++ gs) (ss ++ ts) := by
  induction h with
  | nil => exact k
  | cons h _ ih => exact Fit.cons h ih
theorem Fit.enc {fs : List (Nat × Nat)} {ss : List PS} (h : Fit fs ss) : (encB ss).length = totT fs ∧ ∀ x ∈ encB ss, okN x = true := by
  induction h with
  | nil => simp [encB, totT]
  | @cons f fs s ss h _ ih =>
    obtain ⟨a1, a2⟩ := layL_okT h
    have e : encB (s :: ss) = layL s.heap s.res ++ encB ss := by simp [encB]
    rw [e]
    refine ⟨by simp [a1, ih.1, totT], fun x hx => ?_⟩
    rcases List.mem_append.1 hx with hx | hx
    · exact a2 x hx
    · exact ih.2 x hx
theorem all_decT {fs : List (Nat × Nat)} {l : List Int} (h1 : l.length = totT fs) (h2 : ∀ x ∈ l, okN x = true) : decT fs l = true := by
  simp only [decT, okT, Bool.and_eq_true, decide_eq_true_eq, List.all_eq_true]
  exact ⟨⟨by omega, fun x hx => h2 x (List.mem_of_mem_take hx)⟩, h1⟩
theorem Fit.dec {fs : List (Nat × Nat)} {ss : List PS} (h : Fit fs ss) : decT fs (encB ss) = true := all_decT h.enc.1 h.enc.2
theorem Fit.back {fs : List (Nat × Nat)} {ss : List PS} (h : Fit fs ss) : ∀ l, ssT fs (encB ss ++ l) = ss := by
  induction h with
  | nil => intro l; rfl
  | @cons f fs s ss h _ ih =>
    intro l
    have e : encB (s :: ss) = layL s.heap s.res ++ encB ss := by simp [encB]
    have e2 := (layL_okT h).1
    rw [e]
    simp only [ssT]
    rw [List.append_assoc, psT_lay h, ← e2, List.drop_left, ih l]
theorem ssT_fit {fs : List (Nat × Nat)} : ∀ {l : List Int}, okT l (totT fs) = true → Fit fs (ssT fs l) := by
  induction fs with
  | nil => intro l _; exact Fit.nil
  | cons f fs ih =>
    intro l h
    simp only [totT] at h
    rw [okT_add, Bool.and_eq_true] at h
    exact Fit.cons (psT_right h.1) (ih h.2)
theorem ssT_enc {fs : List (Nat × Nat)} : ∀ {l : List Int}, totT fs ≤ l.length → encB (ssT fs l) = l.take (totT fs) := by
  induction fs with
  | nil => intro l _; simp [ssT, encB, totT]
  | cons f fs ih =>
    intro l h
    simp only [totT] at h
    have e : encB (ssT (f :: fs) l) = layL (psT f.1 f.2 l).heap (psT f.1 f.2 l).res ++ encB (ssT fs (l.drop (f.1 * (f.2 + 1)))) := by simp [encB, ssT]
    rw [e, lay_psT f.1 f.2 l (by omega), ih (by simp; omega), totT, List.take_add]
theorem encB_append (a b : List PS) : encB (a ++ b) = encB a ++ encB b := by simp [encB]
theorem totT_append (a b : List (Nat × Nat)) : totT (a ++ b) = totT a + totT b := by
  induction a with
  | nil => simp [totT]
  | cons f a ih => simp [totT, ih]; omega
theorem ssT_append (a b : List (Nat × Nat)) : ∀ l, ssT (a ++ b) l = ssT a l ++ ssT b (l.drop (totT a)) := by
  induction a with
  | nil => intro l; simp [ssT, totT]
  | cons f a ih => intro l; simp [ssT, totT, ih, List.drop_drop]
theorem ssT_len (a : List (Nat × Nat)) : ∀ l, (ssT a l).length = a.length := by
  induction a with
  | nil => intro l; rfl
  | cons f a ih => intro l; simp [ssT, ih]

end Go.Proofs.Ytchilccmnaihkaa

namespace Go.Proofs.Ytchilccmnaihkaa
open Go.RowKit (wrap32 wrap64)
set_option linter.unusedVariables false
set_option linter.unusedSimpArgs false

/-! ### the reader -/
/-- What is thrown where the bytes are not as they must be. -/
abbrev thrown : List PanicEntry := [{ v := .iface 78 (.agg #[vI 90]), recovered := false }]

set_option maxRecDepth 100000 in
set_option maxHeartbeats 1000000 in
theorem must_yes (w : World) : Calls Try.prog 50 #[.bool true] w fun e w' => e = .returned (.tuple #[]) ∧ w' = w := by
  go_enter Try.func50, Try.ntmps50
  go_wp2_with fail
  go_end0
  exact ⟨rfl, rfl⟩

set_option maxRecDepth 100000 in
set_option maxHeartbeats 1000000 in
theorem must_no (w : World) : Calls Try.prog 50 #[.bool false] w fun e w' => e = .panicked thrown ∧ w' = w := by
  go_enter Try.func50, Try.ntmps50
  go_wp2_with fail
  exact ⟨rfl, rfl, rfl⟩

set_option maxRecDepth 100000 in
set_option maxHeartbeats 1000000 in
/-- There are not so many bytes left. -/
theorem take_no (b n m : Nat) (a : Option Addr) (c : Nat) (w : World) (hb : w.heap[b]? = some (.cells #[.slice a n c] 69)) (hm : n < m) (hmz : m ≤ 1000000) : Calls Try.prog 52 #[.pointer (some ⟨b, 0, none⟩), vI m] w fun e w' => e = .panicked thrown ∧ w' = w := by
  have c0 : w.cell? ⟨b, 0, none⟩ = some (.slice a n c) := by rw [cell_of hb]; rfl
  have hd : decide ((m : Int) ≤ n) = false := by simp; omega
  clear hb
  go_enter Try.func52, Try.ntmps52
  go_wp2_with fail
  rw [show decide (m ≤ n) = false by simp; omega] <;> skip
  refine (show Calls Try.prog 50 #[.bool false] w _ from must_no w).mono ?_
  rintro e w' ⟨rfl, rfl⟩
  go_wp2_with fail
  exact ⟨rfl, rfl, rfl⟩

set_option maxRecDepth 100000 in
set_option maxHeartbeats 1000000 in
/-- There are. -/
theorem take_yes (b n m : Nat) (k o : Nat) (c : Nat) (w : World) (hb : w.heap[b]? = some (.cells #[.slice (some ⟨k, o, none⟩) n c] 69)) (hm : m ≤ n) (hnc : n ≤ c) (hmz : m ≤ 1000000) : Calls Try.prog 52 #[.pointer (some ⟨b, 0, none⟩), vI m] w fun e w' => e = .returned (.slice (some ⟨k, o, none⟩) m c) ∧ w' = w.setCell ⟨b, 0, none⟩ (.slice (if c = m then some ⟨k, o, none⟩ else some ⟨k, o + m, none⟩) (n - m) (c - m)) := by
  have c0 : w.cell? ⟨b, 0, none⟩ = some (.slice (some ⟨k, o, none⟩) n c) := by rw [cell_of hb]; rfl
  have z0 := frozen_of hb 0
  have hd : decide ((m : Int) ≤ n) = true := by simp; omega
  have h0 : (0 : Int) ≤ m := by omega
  have h1 : (m : Int) ≤ c := by omega
  have h2 : (m : Int) ≤ n := by omega
  clear hb
  go_enter Try.func52, Try.ntmps52
  go_wp2_with fail
  refine (show Calls Try.prog 50 #[.bool true] w _ from must_yes w).mono ?_
  rintro e w' ⟨rfl, rfl⟩
  go_wp2_with fail
  all_goals
    go_ret
    exact ⟨rfl, rfl⟩

/-- The reader: the bytes that are left; all of it lies below B. -/
def Rd (B : Nat) (w : World) (b : Nat) (l : List Int) : Prop := b < B ∧ B ≤ w.heap.size ∧ l.length ≤ 140737488351232 ∧ (∀ x ∈ l, 0 ≤ x ∧ x ≤ 255) ∧ ∃ v, w.heap[b]? = some (.cells #[v] 69) ∧ ∃ a c, v = .slice a l.length c ∧ l.length ≤ c ∧ (l ≠ [] → ∃ k o, a = some ⟨k, o, none⟩ ∧ k ≠ b ∧ k < B ∧ ∀ j (h : j < l.length), w.cell? ⟨k, o + j, none⟩ = some (vB l[j]))
theorem Rd.fr {S : Nat → Prop} {B b : Nat} {w w' : World} {l : List Int} (h : Rd B w b l) (f : Fr S w w') (hS : ∀ k, k < B → ¬ S k) : Rd B w' b l := by
  obtain ⟨h1, h2, h3, h4, v, hb, a, c, rfl, hc, h⟩ := h
  refine ⟨h1, Nat.le_trans h2 f.size, h3, h4, _, (f.block b (heap_lt hb) (hS b h1)).trans hb, a, c, rfl, hc, fun hne => ?_⟩
  obtain ⟨k, o, rfl, hkb, hk, hcs⟩ := h hne
  exact ⟨k, o, rfl, hkb, hk, fun j hj => (f.cell (by omega) (hS k hk)).trans (hcs j hj)⟩
theorem Rd.stay {B b : Nat} {w w' : World} {l : List Int} (h : Rd B w b l) (f : Fr (fun _ => False) w w') : Rd B w' b l := h.fr f (fun _ _ e => e)
theorem Rd.lt {B b : Nat} {w : World} {l : List Int} (h : Rd B w b l) : b < B := h.1
theorem Rd.size {B b : Nat} {w : World} {l : List Int} (h : Rd B w b l) : B ≤ w.heap.size := h.2.1

set_option maxRecDepth 100000 in
set_option maxHeartbeats 1000000 in
theorem number_short (B b : Nat) (w : World) (h : Rd B w b []) : Calls Try.prog 48 #[.pointer (some ⟨b, 0, none⟩)] w fun e w' => e = .panicked thrown ∧ w' = w := by
  obtain ⟨-, -, -, -, v, hb, a, c, rfl, -, -⟩ := h
  have HB : Hd _ := hb
  clear hb
  go_enter Try.func48, Try.ntmps48
  go_wp2_with fail
  refine (show Calls Try.prog 52 #[.pointer (some ⟨b, 0, none⟩), vI (1 : Nat)] w _ from take_no b 0 1 a c w HB.out (by omega) (by omega)).mono ?_
  rintro e w' ⟨rfl, rfl⟩
  go_wp2_with fail
  exact ⟨rfl, rfl, rfl⟩

set_option maxRecDepth 100000 in
set_option maxHeartbeats 1000000 in
theorem number_one (B b : Nat) (x : Int) (l : List Int) (w : World) (h : Rd B w b (x :: l)) : Calls Try.prog 48 #[.pointer (some ⟨b, 0, none⟩)] w fun e w' => e = (if okN x = true then .returned (vI x) else .panicked thrown) ∧ Rd B w' b l ∧ Fr (fun k => k = b) w w' := by
  obtain ⟨hbB, hBw, hl', hby, v, hb, a, c, rfl, hlc, hin⟩ := h
  have hl : l.length ≤ 140737488351232 := by simp at hl'; omega
  obtain ⟨hx0, hx1⟩ := hby x (by simp)
  have hby' : ∀ z ∈ l, 0 ≤ z ∧ z ≤ 255 := fun z hz => hby z (by simp [hz])
  obtain ⟨k, o, rfl, hkb, hkB, hcs⟩ := hin (by simp)
  have hk : k < w.heap.size := by omega
  have hlen : (x :: l).length = l.length + 1 := rfl
  rw [hlen] at hb hlc
  obtain ⟨w1, hw1⟩ : ∃ W, W = w.setCell ⟨b, 0, none⟩ (.slice (if c = 1 then some ⟨k, o, none⟩ else some ⟨k, o + 1, none⟩) (l.length + 1 - 1) (c - 1)) := ⟨_, rfl⟩
  have f1 : Fr (fun k => k = b) w w1 := by rw [hw1]; exact setCell_fr w b 0 _
  have x0 : w1.cell? ⟨k, o, none⟩ = some (vB x) := (f1.cell hk hkb).trans (by have := hcs 0 (by simp); simpa using this)
  have HR : Hd (Rd B w1 b l) := by
    refine ⟨hbB, Nat.le_trans hBw f1.size, hl, hby', _, by rw [hw1]; exact set_of hb 0 _, _, c - 1, by rw [Nat.add_sub_cancel], by omega, fun hne => ?_⟩
    have hl0 : 0 < l.length := List.length_pos_iff.2 hne
    refine ⟨k, o + 1, by rw [if_neg (by omega)], hkb, hkB, fun j hj => ?_⟩
    have := hcs (j + 1) (by simp; omega)
    rw [f1.cell hk hkb, Nat.add_assoc, Nat.add_comm 1 j]
    simpa using this
  have HF : Hd (Fr (fun k => k = b) w w1) := f1
  have HB : Hd _ := hb
  have HW : Hd (w1 = _) := hw1
  clear hb hcs hin f1 hw1 hlen hby hby' hl' hbB hBw hkB
  obtain ⟨E, hE⟩ : ∃ E : Ending, E = (if okN x = true then .returned (vI x) else .panicked thrown) := ⟨_, rfl⟩
  rw [← hE]
  have HE : Hd (E = (if okN x = true then .returned (vI x) else .panicked thrown)) := hE
  clear hE
  go_enter Try.func48, Try.ntmps48
  go_wp2_with fail
  refine (show Calls Try.prog 52 #[.pointer (some ⟨b, 0, none⟩), vI (1 : Nat)] w _ from take_yes b (l.length + 1) 1 k o c w HB.out (by omega) hlc (by omega)).mono ?_
  rintro e w' ⟨rfl, rfl⟩
  rw [← HW.out]
  have hcv : IntKind.i64.wrap x = x := by have h := IntKind.wrap_i64 x; rw [h]; first | exact w64 (by omega) (by omega) | omega
  go_wp2_with fail
  refine (show Calls Try.prog 39 #[vI x] w1 _ from mayBe_any x w1).mono ?_
  rintro e w' ⟨rfl, rfl⟩
  cases hok : okN x with
  | false =>
    have HEf : Hd (E = .panicked thrown) := by unfold Hd; rw [HE.out, if_neg (by rw [hok]; simp)]
    clear hok
    go_wp2_with fail
    refine (show Calls Try.prog 50 #[.bool false] w' _ from must_no w').mono ?_
    rintro e w2 ⟨rfl, rfl⟩
    go_wp2_with fail
    exact ⟨rfl, HEf.out.symm, HR.out, HF.out⟩
  | true =>
    have HEt : Hd (E = .returned (vI x)) := by unfold Hd; rw [HE.out, if_pos hok]
    clear hok
    go_wp2_with fail
    refine (show Calls Try.prog 50 #[.bool true] w' _ from must_yes w').mono ?_
    rintro e w2 ⟨rfl, rfl⟩
    go_wp2_with fail
    go_ret
    exact ⟨HEt.out.symm, HR.out, HF.out⟩

/-- A number, or thrown. -/
theorem number_any (B b : Nat) (l : List Int) (w : World) (h : Rd B w b l) : Calls Try.prog 48 #[.pointer (some ⟨b, 0, none⟩)] w fun e w' => Fr (fun k => k = b) w w' ∧ ((okT l 1 = true ∧ e = .returned (vI (l.getD 0 0)) ∧ Rd B w' b (l.drop 1)) ∨ (okT l 1 = false ∧ e = .panicked thrown)) := by
  cases l with
  | nil =>
    refine (number_short B b w h).mono ?_
    rintro e w' ⟨rfl, rfl⟩
    exact ⟨Fr.refl _ _, Or.inr ⟨by simp [okT], rfl⟩⟩
  | cons x t =>
    refine (number_one B b x t w h).mono ?_
    rintro e w' ⟨rfl, h1, h2⟩
    refine ⟨h2, ?_⟩
    cases hx : okN x with
    | true => exact Or.inl ⟨by simp [okT, hx], by simp, by simpa using h1⟩
    | false => exact Or.inr ⟨by simp [okT, hx], by simp⟩

end Go.Proofs.Ytchilccmnaihkaa

namespace Go.Proofs.Ytchilccmnaihkaa
open Go.RowKit (wrap32 wrap64)
set_option linter.unusedVariables false
set_option linter.unusedSimpArgs false

/-! ### lists of functions and of summaries that grow -/
theorem flat_get {α : Type} (f : α → List Value) (sz : Nat) (hf : ∀ x, (f x).length = sz) : ∀ (xs : List α) (j o : Nat) (hj : j < xs.length) (_ : o < sz), (xs.flatMap f)[j * sz + o]? = (f xs[j])[o]?
  | x :: xs, 0, o, _, ho => by
    rw [List.flatMap_cons, Nat.zero_mul, Nat.zero_add, List.getElem?_append_left (by rw [hf]; exact ho)]; rfl
  | x :: xs, j + 1, o, hj, ho => by
    have ih := flat_get f sz hf xs j o (by simpa using hj) ho
    rw [List.flatMap_cons, List.getElem?_append_right (by rw [hf, Nat.add_mul]; omega), hf, show (j + 1) * sz + o - sz = j * sz + o by rw [Nat.add_mul]; omega, ih]
    rfl
abbrev PH.cells (f : PH) : List Value := [vI f.P, vI f.R, vI f.V, .slice f.ca f.cn f.cc]
abbrev pairC (p : Value × Value) : List Value := [p.1, p.2]
def FOwn (w : World) (B : Nat) (v : Value) (fs : List PH) : Prop := w.ownsRow B 28 4 v fs.length (fs.flatMap PH.cells)
theorem FOwn.nil (w : World) (B : Nat) : FOwn w B (.slice none 0 0) [] := World.ownsRow_nil w B 28 4
theorem FOwn.fr {S : Nat → Prop} {w w' : World} {B : Nat} {v : Value} {fs : List PH} (h : FOwn w B v fs) (f : Fr S w w') (hS : ∀ g, v.ownBlock = some g → ¬ S g) : FOwn w' B v fs := ownsRow_fr h f hS
theorem FOwn.ge {w : World} {B : Nat} {v : Value} {fs : List PH} (h : FOwn w B v fs) : ∀ k, v.ownBlock = some k → B ≤ k ∧ k < w.heap.size := World.ownsRow.lt h
theorem FOwn.of {w6 : World} {B : Nat} {fs : List PH} {f : PH} {g cap : Nat} (h : w6.ownsRow B 28 4 (.slice (some ⟨g, 0, none⟩) (fs.length + 1) cap) (fs.length + 1) (fs.flatMap PH.cells ++ f.cells)) : FOwn w6 B (.slice (some ⟨g, 0, none⟩) (fs.length + 1) cap) (fs ++ [f]) := by
  unfold FOwn
  rw [List.flatMap_append, List.length_append]
  simpa using h
theorem FOwn.fsa {w : World} {B : Nat} {v : Value} {fs : List PH} (h : FOwn w B v fs) : FsA w v fs := by
  obtain ⟨a, c, e⟩ := own_slice h
  refine ⟨a, c, e, fun hne => ?_⟩
  have h0 : 0 < fs.length := List.length_pos_iff.2 hne
  have key : ∀ j o (hj : j < fs.length) (_ : o < 4) u, (fs[j].cells)[o]? = some u → ∃ g cap, v = .slice (some ⟨g, 0, none⟩) fs.length cap ∧ g < w.heap.size ∧ w.cell? ⟨g, j * 4 + o, none⟩ = some u := fun j o hj ho u hu => own_cell h (by rw [flat_get PH.cells 4 (fun _ => rfl) fs j o hj ho]; exact hu)
  obtain ⟨g, cap, e', hg, -⟩ := key 0 0 h0 (by omega) _ rfl
  rw [e] at e'
  cases e'
  refine ⟨g, rfl, hg, fun j hj => ?_⟩
  have key2 : ∀ o (_ : o < 4) u, (fs[j].cells)[o]? = some u → w.cell? ⟨g, j * 4 + o, none⟩ = some u := fun o ho u hu => by
    obtain ⟨g', cap', e'', -, hc⟩ := key j o hj ho u hu
    rw [e] at e''
    cases e''
    exact hc
  exact ⟨key2 0 (by omega) _ rfl, key2 1 (by omega) _ rfl, key2 2 (by omega) _ rfl, key2 3 (by omega) _ rfl⟩

/-- A list of summaries; what they hold lies in Q, the list itself does not. -/
def SR (w : World) (B : Nat) (Q : Nat → Prop) (v : Value) (ss : List PS) : Prop :=
  ∃ vs : List (Value × Value), vs.length = ss.length ∧ w.ownsRow B 31 2 v vs.length (vs.flatMap pairC) ∧ (∀ k, v.ownBlock = some k → ¬ Q k) ∧ (∀ k, Q k → k < w.heap.size) ∧ ∀ j (_ : j < vs.length) (_ : j < ss.length), SAq Q w (.agg #[vs[j].1, vs[j].2]) ss[j]
theorem SR.nil (w : World) (B : Nat) {Q : Nat → Prop} (hQ : ∀ k, Q k → k < w.heap.size) : SR w B Q (.slice none 0 0) [] :=
  ⟨[], rfl, World.ownsRow_nil w B 31 2, fun k e => (by cases e), hQ, fun j h => (by simp at h)⟩
theorem SR.fr {S Q : Nat → Prop} {w w' : World} {B : Nat} {v : Value} {ss : List PS} (h : SR w B Q v ss) (f : Fr S w w') (hS : ∀ g, v.ownBlock = some g → ¬ S g) (hQ : ∀ k, Q k → ¬ S k) : SR w' B Q v ss := by
  obtain ⟨vs, h1, h2, h3, h4, h5⟩ := h
  exact ⟨vs, h1, ownsRow_fr h2 f hS, h3, fun k hk => Nat.lt_of_lt_of_le (h4 k hk) f.size, fun j hj hj' => (h5 j hj hj').fr f hQ⟩
theorem SR.ge {Q : Nat → Prop} {w : World} {B : Nat} {v : Value} {ss : List PS} (h : SR w B Q v ss) : ∀ k, v.ownBlock = some k → B ≤ k ∧ k < w.heap.size := by
  obtain ⟨vs, h1, h2, -⟩ := h; exact World.ownsRow.lt h2
theorem SR.shape {Q : Nat → Prop} {w : World} {B : Nat} {v : Value} {ss : List PS} (h : SR w B Q v ss) : ∃ a c, v = .slice a ss.length c := by
  obtain ⟨vs, h1, h2, -⟩ := h; obtain ⟨a, c, e⟩ := own_slice h2; exact ⟨a, c, by rw [e, h1]⟩
theorem FOwn.shape {w : World} {B : Nat} {v : Value} {fs : List PH} (h : FOwn w B v fs) : ∃ a c, v = .slice a fs.length c := by
  obtain ⟨a, c, e⟩ := own_slice h; exact ⟨a, c, e⟩
/-- More blocks may be held. -/
theorem SR.more {Q Q' : Nat → Prop} {w : World} {B : Nat} {v : Value} {ss : List PS} (h : SR w B Q v ss) (hQ : ∀ k, Q k → Q' k) (hv : ∀ k, v.ownBlock = some k → ¬ Q' k) (hl : ∀ k, Q' k → k < w.heap.size) : SR w B Q' v ss := by
  obtain ⟨vs, h1, h2, h3, h4, h5⟩ := h
  exact ⟨vs, h1, h2, hv, hl, fun j hj hj' => (h5 j hj hj').mono hQ⟩
theorem SR.push {Q : Nat → Prop} {w w6 : World} {B : Nat} {v x y : Value} {ss : List PS} {s : PS} {g cap : Nat} {vs : List (Value × Value)} (h1 : vs.length = ss.length) (h3 : ∀ k, v.ownBlock = some k → ¬ Q k) (h4 : ∀ k, Q k → k < w.heap.size) (h5 : ∀ j (_ : j < vs.length) (_ : j < ss.length), SAq Q w (.agg #[vs[j].1, vs[j].2]) ss[j]) (hs : SAq Q w (.agg #[x, y]) s) (ho : w6.ownsRow B 31 2 (.slice (some ⟨g, 0, none⟩) (vs.length + 1) cap) (vs.length + 1) (vs.flatMap pairC ++ [x, y])) {S : Nat → Prop} (f : Fr S w w6) (hS : ∀ k, Q k → ¬ S k) (hg : ¬ Q g) : SR w6 B Q (.slice (some ⟨g, 0, none⟩) (vs.length + 1) cap) (ss ++ [s]) := by
  refine ⟨vs ++ [(x, y)], by simp [h1], ?_, fun k e => by cases e; exact hg, fun k hk => Nat.lt_of_lt_of_le (h4 k hk) f.size, fun j hj hj' => ?_⟩
  · rw [List.flatMap_append, List.length_append]; simpa using ho
  · by_cases e : j < vs.length
    · have e' : j < ss.length := by omega
      simp only [List.getElem_append_left e, List.getElem_append_left e']
      exact (h5 j e e').fr f hS
    · have e1 : j = vs.length := by simp at hj; omega
      have e2 : j = ss.length := by omega
      subst e1
      have q1 : (vs ++ [(x, y)])[vs.length] = (x, y) := by simp
      have q2 : (ss ++ [s])[vs.length] = s := by simp [h1]
      rw [q1, q2]
      exact hs.fr f hS
theorem SR.ssa {Q : Nat → Prop} {w : World} {B : Nat} {v : Value} {ss : List PS} (h : SR w B Q v ss) : SsA w v ss := by
  obtain ⟨vs, h1, h2, h3, h4, h5⟩ := h
  obtain ⟨a, c, e⟩ := own_slice h2
  refine ⟨a, c, by rw [e, h1], fun hne => ?_⟩
  have h0 : 0 < vs.length := by rw [h1]; exact List.length_pos_iff.2 hne
  have key : ∀ j o (hj : j < vs.length) (_ : o < 2) u, (pairC vs[j])[o]? = some u → ∃ g cap, v = .slice (some ⟨g, 0, none⟩) vs.length cap ∧ g < w.heap.size ∧ w.cell? ⟨g, j * 2 + o, none⟩ = some u := fun j o hj ho u hu => own_cell h2 (by rw [flat_get pairC 2 (fun _ => rfl) vs j o hj ho]; exact hu)
  obtain ⟨g, cap, e', hg, -⟩ := key 0 0 h0 (by omega) _ rfl
  rw [e] at e'
  cases e'
  refine ⟨g, rfl, hg, fun j hj => ?_⟩
  have hj' : j < vs.length := by omega
  have key2 : ∀ o (_ : o < 2) u, (pairC vs[j])[o]? = some u → w.cell? ⟨g, j * 2 + o, none⟩ = some u := fun o ho u hu => by
    obtain ⟨g', cap', e'', -, hc⟩ := key j o hj' ho u hu
    rw [e] at e''
    cases e''
    exact hc
  obtain ⟨hv, rv, e1, q1, q2⟩ := (h5 j hj' hj).sa
  injection e1 with e1
  have e2 := congrArg Array.toList e1
  simp only [List.cons.injEq, and_true] at e2
  obtain ⟨rfl, rfl⟩ := e2
  exact ⟨_, _, key2 0 (by omega) _ rfl, key2 1 (by omega) _ rfl, q1, q2⟩

end Go.Proofs.Ytchilccmnaihkaa

namespace Go.Proofs.Ytchilccmnaihkaa
open Go.RowKit (wrap32 wrap64)
set_option linter.unusedVariables false
set_option linter.unusedSimpArgs false

theorem Row0.keep {S : Nat → Prop} {w w' : World} {g n : Nat} {l : List Int} (h : Row0 w g n l) (f : Fr S w w') (hS : ¬ S g) : Row0 w' g n l := by
  obtain ⟨cs, h1, h2, h3, h4⟩ := h; exact ⟨cs, (f.block g (heap_lt h1) hS).trans h1, h2, h3, h4⟩
theorem take_one (l : List Int) (k : Nat) (h : k < l.length) : l.take (k + 1) = l.take k ++ [l.getD k 0] := by
  rw [List.take_add_one, List.getElem?_eq_getElem h, List.getD_eq_getElem?_getD, List.getElem?_eq_getElem h]; rfl

set_option maxRecDepth 100000 in
set_option maxHeartbeats 1000000 in
theorem numbers_any (B b n : Nat) (l : List Int) (w : World) (h : Rd B w b l) (hnz : n ≤ 1000) :
    Calls Try.prog 49 #[.pointer (some ⟨b, 0, none⟩), vI n] w fun e w' => Fr (fun k => k = b) w w' ∧ ((okT l n = true ∧ ∃ g, e = .returned (.slice (some ⟨g, 0, none⟩) n n) ∧ w.heap.size ≤ g ∧ w'.heap[g]? = some (minsO (l.take n)) ∧ Rd B w' b (l.drop n)) ∨ (okT l n = false ∧ e = .panicked thrown)) := by
  have hm := make22 n (by omega) w
  obtain ⟨wa, hwa⟩ : ∃ wa, wa = w.alloc (.cells (madeCells #[vI 0] n) 3) := ⟨_, rfl⟩
  rw [← hwa] at hm
  have HR0 : Hd (Row0 wa w.heap.size n []) := by unfold Hd; rw [hwa]; exact Row0.new w n
  have HF0 : Hd (Fr (fun k => k = b) w wa) := by unfold Hd; rw [hwa]; exact Fr.alloc (Fr.refl _ w) _
  have HD0 : Hd (Rd B wa b l) := by unfold Hd; rw [hwa]; exact h.stay (Fr.alloc (Fr.refl _ w) _)
  have HBG : Hd (b < B ∧ B ≤ w.heap.size) := ⟨h.lt, h.size⟩
  obtain ⟨G, hG⟩ : ∃ G, G = w.heap.size := ⟨_, rfl⟩
  have HG : Hd (G = w.heap.size) := hG
  rw [← hG] at hm HR0
  clear hwa hG h
  go_enter Try.func49, Try.ntmps49
  go_wp2_with fail
  clear hm
  go_loopw [11] (fun v wr => ∃ (k : Nat), v = .int .i64 k ∧ k ≤ n ∧ Hd (okT l k = true) ∧ Hd (Row0 wr G n (l.take k)) ∧ Hd (Rd B wr b (l.drop k)) ∧ Hd (Fr (fun k => k = b) w wr)) (fun v _ => match v with | .int _ q => n - q.toNat | _ => 0)
  case atStart => exact ⟨0, rfl, Nat.zero_le _, okT_zero l, by unfold Hd; rw [List.take_zero]; exact HR0.out, HD0.out, HF0.out⟩
  case round =>
    obtain ⟨k, rfl, hk, HK, HR, HD, HF⟩ := hrel
    by_cases hltn : k < n
    · have hk0 : (0 : Int) ≤ k := by omega
      have hk3 : (k : Int) < n := by omega
      clear HR0 HF0 HD0
      go_wp2_with fail
      refine (show Calls Try.prog 48 #[.pointer (some ⟨b, 0, none⟩)] wr _ from number_any B b (l.drop k) wr HD.out).mono ?_
      rintro e w2 ⟨hf2, (⟨ho, rfl, hd⟩ | ⟨ho, rfl⟩)⟩
      · have HK1 : Hd (okT l (k + 1) = true) := by unfold Hd; rw [okT_add, HK.out, ho]; rfl
        have hkl : k < l.length := by have := okT_le HK1.out; omega
        have hbG : G ≠ b := by have := HBG.out; have := HG.out; omega
        have HR2 : Hd (Row0 w2 G n (l.take k)) := HR.out.keep hf2 hbG
        have hx : (l.drop k).getD 0 0 = l.getD k 0 := by rw [getD_drop]; rfl
        rw [hx]
        obtain ⟨z, q3, q4⟩ : ∃ z : Int, w2.cell? ⟨G, k, none⟩ = some (vI z) ∧ w2.frozen? ⟨G, k, none⟩ = false := by
          obtain ⟨cs, c1, c2, c3, -⟩ := HR2.out
          obtain ⟨z, hz⟩ := c3 k hltn
          exact ⟨z, by rw [cell_of c1]; exact hz, frozen_of c1 k⟩
        have HS : Hd (Row0 (w2.setCell ⟨G, k, none⟩ (vI (l.getD k 0))) G n (l.take (k + 1))) := by
          have h1 := HR2.out.set (l.getD k 0) (by simp; omega)
          rw [List.length_take, Nat.min_eq_left (by omega), ← take_one l k hkl] at h1
          exact h1
        have HDS : Hd (Rd B (w2.setCell ⟨G, k, none⟩ (vI (l.getD k 0))) b (l.drop (k + 1))) := by
          have h1 := hd.fr (setCell_fr w2 G k (vI (l.getD k 0))) (fun j hj e => by have := HBG.out; have := HG.out; omega)
          rw [List.drop_drop] at h1
          exact h1
        have HFS : Hd (Fr (fun k => k = b) w (w2.setCell ⟨G, k, none⟩ (vI (l.getD k 0)))) := (HF.out.trans hf2).then (setCell_fr w2 G k _) (fun j hj e => by have := HG.out; omega)
        generalize l.getD k 0 = x at *
        clear hd hf2 ho hx
        go_wp2_with fail
        exact ⟨⟨k + 1, by simp, by omega, HK1.out, HS.out, HDS.out, HFS.out⟩, by simp; omega⟩
      · have hno : okT l n = false := by
          cases hq : okT l n with
          | false => rfl
          | true =>
            have := okT_mono hq (s := k + 1) (by omega)
            rw [okT_add, ho, Bool.and_false] at this; cases this
        have HX : Hd (Fr (fun k => k = b) w w2 ∧ okT l n = false) := ⟨HF.out.trans hf2, hno⟩
        clear hno ho hf2
        go_wp2_with fail
        exact ⟨rfl, HX.out.1, Or.inr ⟨HX.out.2, rfl⟩⟩
    · have hke : k = n := by omega
      subst hke
      have HR2 : Hd (wr.heap[G]? = some (minsO (l.take k))) := HR.out.full (by have := okT_le HK.out; simp; omega)
      go_wp2_with fail
      go_ret
      exact ⟨HF.out, Or.inl ⟨HK.out, _, rfl, by rw [HG.out]; exact Nat.le_refl _, HR2.out, HD.out⟩⟩

end Go.Proofs.Ytchilccmnaihkaa
