import Derived.Test.YtcjfmfddkhpfnaaQA8J
namespace Go.Proofs.Ytcjfmfddkhpfnaa
open Go.RowKit (wrap32 wrap64)
set_option linter.unusedVariables false
set_option linter.unusedSimpArgs false

theorem isW_cases {p : Int → Prop} (h0 : p (-1)) (h1 : p 0) (h2 : p 1) (h3 : p 2) (h4 : p 3) (h5 : p 9) {a : Int} (h : isW a) : p a := by
  rcases h with rfl | rfl | rfl | rfl | rfl | rfl <;> assumption
def all6 (f : Int → Bool) : Bool := f (-1) && f 0 && f 1 && f 2 && f 3 && f 9
theorem all6_of {f : Int → Bool} (h : all6 f = true) {a : Int} (ha : isW a) : f a = true := by
  simp only [all6, Bool.and_eq_true] at h
  exact isW_cases (p := fun a => f a = true) h.1.1.1.1.1 h.1.1.1.1.2 h.1.1.1.2 h.1.1.2 h.1.2 h.2 ha
theorem all6_3 {f : Int → Int → Int → Bool} (h : (all6 fun a => all6 fun b => all6 fun c => f a b c) = true) {a b c : Int} (ha : isW a) (hb : isW b) (hc : isW c) : f a b c = true :=
  all6_of (all6_of (f := fun b => all6 fun c => f a b c) (all6_of (f := fun a => all6 fun b => all6 fun c => f a b c) h ha) hb) hc

section
variable {a b c : Int} (ha : isW a) (hb : isW b) (hc : isW c)
include ha hb hc
theorem w_mono1 (h : a ≤ c) : plusX a b ≤ plusX c b := by
  have := all6_3 (f := fun a b c => !decide (a ≤ c) || decide (plusX a b ≤ plusX c b)) (by decide) ha hb hc
  simpa [h] using this
theorem w_mono2 (h : b ≤ c) : plusX a b ≤ plusX a c := by
  have := all6_3 (f := fun a b c => !decide (b ≤ c) || decide (plusX a b ≤ plusX a c)) (by decide) ha hb hc
  simpa [h] using this
theorem w_over1 : plusX (meetX a c) b = meetX (plusX a b) (plusX c b) := by
  have := all6_3 (f := fun a b c => decide (plusX (meetX a c) b = meetX (plusX a b) (plusX c b))) (by decide) ha hb hc
  simpa using this
theorem w_over2 : plusX a (meetX b c) = meetX (plusX a b) (plusX a c) := by
  have := all6_3 (f := fun a b c => decide (plusX a (meetX b c) = meetX (plusX a b) (plusX a c))) (by decide) ha hb hc
  simpa using this
theorem w_assoc : meetX a (meetX b c) = meetX (meetX a b) c := by
  have := all6_3 (f := fun a b c => decide (meetX a (meetX b c) = meetX (meetX a b) c)) (by decide) ha hb hc
  simpa using this
end
section
variable {a b : Int} (ha : isW a) (hb : isW b)
include ha hb
theorem w_ge : b ≤ plusX a b := by
  have := all6_3 (f := fun a b _ => decide (b ≤ plusX a b)) (by decide) ha hb hb
  simpa using this
theorem w_zero (h : 0 ≤ a) : plusX a 0 = a := by
  have := all6_3 (f := fun a _ _ => !decide (0 ≤ a) || decide (plusX a 0 = a)) (by decide) ha hb hb
  simpa [Int.not_lt.2 h] using this
theorem w_comm : meetX a b = meetX b a := by
  have := all6_3 (f := fun a b _ => decide (meetX a b = meetX b a)) (by decide) ha hb hb
  simpa using this
theorem w_le1 : meetX a b ≤ a := by
  have := all6_3 (f := fun a b _ => decide (meetX a b ≤ a)) (by decide) ha hb hb
  simpa using this
theorem w_le2 : meetX a b ≤ b := by
  have := all6_3 (f := fun a b _ => decide (meetX a b ≤ b)) (by decide) ha hb hb
  simpa using this
theorem w_one : meetX a b = a ∨ meetX a b = b := by
  have := all6_3 (f := fun a b _ => decide (meetX a b = a ∨ meetX a b = b)) (by decide) ha hb hb
  simpa using this
theorem w_self : meetX a a = a := by
  have := all6_3 (f := fun a _ _ => decide (meetX a a = a)) (by decide) ha hb hb
  simpa using this
end

set_option maxRecDepth 100000 in
set_option maxHeartbeats 4000000 in
theorem plus_walk (x y z : Int) (w : World) : Calls Try.prog 8 #[.int .i64 x, .int .i64 y, .int .i64 z] w fun e w' => e = .returned (.bool true) ∧ Fr (fun _ => False) w w' := by
  go_enter Try.func8, Try.ntmps8
  go_wp2_with fail
  refine (fixed_any w).mono ?_
  rintro e w1 ⟨rfl, hF1⟩
  have HF : Hd (Fr (fun _ => False) w w1) := hF1
  clear hF1
  go_wp2_with fail
  refine (plus_any x y w1).mono ?_
  rintro e w2 ⟨rfl, rfl⟩
  go_wp2_with fail
  refine (rplus_any x y w2).mono ?_
  rintro e w3 ⟨rfl, rfl⟩
  go_wp2_with fail
  refine (meet_any x y w3).mono ?_
  rintro e w4 ⟨rfl, rfl⟩
  go_wp2_with fail
  refine (rmeet_any x y w4).mono ?_
  rintro e w5 ⟨rfl, rfl⟩
  go_wp2_with fail
  refine (lweight_any x w5).mono ?_
  rintro e w6 ⟨a, rfl, ha, rfl⟩
  go_wp2_with fail
  refine (lweight_any y w6).mono ?_
  rintro e w7 ⟨b, rfl, hb, rfl⟩
  go_wp2_with fail
  refine (lweight_any z w7).mono ?_
  rintro e w8 ⟨c, rfl, hc, rfl⟩
  have HA : Hd (isW a) := ha
  have HB : Hd (isW b) := hb
  have HC : Hd (isW c) := hc
  have o1 := w_over1 ha hb hc
  have o2 := w_over2 ha hb hc
  have o3 := w_assoc ha hb hc
  have g1 : decide (plusX a b < b) = false := by have := w_ge ha hb; simp; omega
  have g2 := w_comm hb ha
  have g3 := w_self ha hb
  have g4 : decide (meetX a b ≤ a) = true := by simpa using w_le1 ha hb
  have g5 : decide (meetX a b ≤ b) = true := by simpa using w_le2 ha hb
  have m1 : a ≤ c → decide (plusX c b < plusX a b) = false := fun h => by have := w_mono1 ha hb hc h; simp; omega
  have m2 : b ≤ c → decide (plusX a c < plusX a b) = false := fun h => by have := w_mono2 ha hb hc h; simp; omega
  have m3 : 0 ≤ a → plusX a 0 = a := w_zero ha hb
  have m4 := w_one ha hb
  clear ha hb hc
  by_cases h1 : a ≤ c
  · have q1 := m1 h1
    have k1 : decide (a ≤ c) = true := by simpa using h1
    by_cases h2 : b ≤ c
    · have q2 := m2 h2
      have k2 : decide (b ≤ c) = true := by simpa using h2
      clear m1 m2
      go_wp2_with ((first | (refine (plus_any _ _ _).mono ?_; rintro _ _ ⟨rfl, rfl⟩) | (refine (meet_any _ _ _).mono ?_; rintro _ _ ⟨rfl, rfl⟩)))
      all_goals
        go_ret
        exact ⟨rfl, HF.out⟩
    · have k2 : decide (b ≤ c) = false := by simpa using h2
      clear m1 m2
      go_wp2_with ((first | (refine (plus_any _ _ _).mono ?_; rintro _ _ ⟨rfl, rfl⟩) | (refine (meet_any _ _ _).mono ?_; rintro _ _ ⟨rfl, rfl⟩)))
      all_goals
        go_ret
        exact ⟨rfl, HF.out⟩
  · have k1 : decide (a ≤ c) = false := by simpa using h1
    by_cases h2 : b ≤ c
    · have q2 := m2 h2
      have k2 : decide (b ≤ c) = true := by simpa using h2
      clear m1 m2
      go_wp2_with ((first | (refine (plus_any _ _ _).mono ?_; rintro _ _ ⟨rfl, rfl⟩) | (refine (meet_any _ _ _).mono ?_; rintro _ _ ⟨rfl, rfl⟩)))
      all_goals
        go_ret
        exact ⟨rfl, HF.out⟩
    · have k2 : decide (b ≤ c) = false := by simpa using h2
      clear m1 m2
      go_wp2_with ((first | (refine (plus_any _ _ _).mono ?_; rintro _ _ ⟨rfl, rfl⟩) | (refine (meet_any _ _ _).mono ?_; rintro _ _ ⟨rfl, rfl⟩)))
      all_goals
        go_ret
        exact ⟨rfl, HF.out⟩

end Go.Proofs.Ytcjfmfddkhpfnaa
