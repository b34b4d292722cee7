import Derived.Test.YtingenonbkencaaDoorQD4J
set_option linter.unusedVariables false
set_option linter.unusedSimpArgs false
namespace Go.Proofs.YtingenonbkencaaDoor
open Go.RowKit (wrap32 wrap64)
set_option maxRecDepth 100000
set_option maxHeartbeats 1000000
def HandedW (w : World) (rv : Value) (bs : List UInt8) : Prop :=
 bs.length ≤ 1000000000000000 ∧ ((bs = [] ∧ rv = .slice none 0 0) ∨ (∃ k o c, rv = .slice (some ⟨k, o, none⟩) bs.length c ∧ bs.length ≤ c ∧ 1 ≤ c ∧ k < w.heap.size ∧ ∀ i, (h : i < bs.length) → w.cell? ⟨k, o + i, none⟩ = some (.int .u8 bs[i].toNat)))
theorem begins_wide (k o c : Nat) (bs : List UInt8) (hc : bs.length ≤ c) (hp : 1 ≤ c) (hn' : bs.length ≤ 1000000000000000) (w : World) (hk : k < w.heap.size) (hcell : ∀ i, (h : i < bs.length) → w.cell? ⟨k, o + i, none⟩ = some (.int .u8 bs[i].toNat)) :
 Calls Tryd.prog 60 #[.agg #[.slice (some ⟨k, o, none⟩) bs.length c]] w fun e w' =>
  (if bs.take 6 = magicL.take bs.length then e = .returned (.tuple #[]) else e = .panicked (viol 10 0)) ∧ w' = (w.alloc (.cells #[.slice (some ⟨k, o, none⟩) bs.length c] 45)).drew := by
 by_cases h6 : 6 < bs.length
 ·have hm : (6 : Int) < bs.length := by omega
  have e6 : magicL.take bs.length = ((⟨#[102, 117, 103, 117, 101, 1]⟩ : ByteArray).extract 0 6).toList := by
   rw [List.take_of_length_le (by simp [magicL]; omega)]; kernel_rfl
  have hcv := run_bytes_string ((w.alloc (.cells #[.slice (some ⟨k, o, none⟩) bs.length c] 45)).drew) k o c (bs.take 6) (fun i hi => by
   rw [World.cell?_drew, World.cell?_alloc_past _ _ _ hk]; simp only [List.getElem_take]; exact hcell i (by simp at hi; omega))
  rw [show (bs.take 6).length = 6 by simp; omega] at hcv
  have hs1 : ¬ ((c : Int) < 6) := by omega
  have hs2 : ¬ c = 0 := by omega
  have hs3 : (6 : Int) ≤ c := by omega
  have hcr : (w.alloc (.cells #[.slice (some ⟨k, o, none⟩) bs.length c] 45)).cell? ⟨w.heap.size, 0, none⟩ = some (.slice (some ⟨k, o, none⟩) bs.length c) := by simp
  by_cases hmg : bs.take 6 = magicL.take bs.length
  ·have hbb : (List.take 6 bs == ((⟨#[102, 117, 103, 117, 101, 1]⟩ : ByteArray).extract 0 6).toList) = true := by rw [hmg, e6]; simp
   simp only [if_pos hmg]
   clear hmg
   go_enter Tryd.func60, Tryd.ntmps60
   go_wp2_with fail
   generalize hwa : (w.alloc (.cells #[.slice (some ⟨k, o, none⟩) bs.length c] 45)) = wa at hcv hcr ⊢
   have Hwa : Hd (w.alloc (.cells #[.slice (some ⟨k, o, none⟩) bs.length c] 45) = wa) := hwa
   clear hwa
   refine wp_region_still_tail 8 mixed (by kernel_rfl) ?_
   simp only [List.take_succ_cons, List.take_zero, List.drop_succ_cons, List.drop_zero]
   repeat still_step
   refine wpStill_nil ?_
   go_wp2_with fail
   refine (must_true 10 0 _).mono ?_
   rintro e w' ⟨rfl, rfl⟩
   go_wp2_with fail
   go_end0
   exact ⟨rfl, by rw [Hwa.out]⟩
  ·have hbb : (List.take 6 bs == ((⟨#[102, 117, 103, 117, 101, 1]⟩ : ByteArray).extract 0 6).toList) = false := by
    rw [← e6]; simpa using hmg
   simp only [if_neg hmg]
   clear hmg
   go_enter Tryd.func60, Tryd.ntmps60
   go_wp2_with fail
   generalize hwa : (w.alloc (.cells #[.slice (some ⟨k, o, none⟩) bs.length c] 45)) = wa at hcv hcr ⊢
   have Hwa : Hd (w.alloc (.cells #[.slice (some ⟨k, o, none⟩) bs.length c] 45) = wa) := hwa
   clear hwa
   refine wp_region_still_tail 8 mixed (by kernel_rfl) ?_
   simp only [List.take_succ_cons, List.take_zero, List.drop_succ_cons, List.drop_zero]
   repeat still_step
   refine wpStill_nil ?_
   go_wp2_with fail
   refine (must_false 10 0 _).mono ?_
   rintro e w' ⟨rfl, rfl⟩
   go_wp2_with fail
   exact ⟨rfl, rfl, by rw [Hwa.out]⟩
 ·have hm : ((bs.length : Nat) : Int) ≤ 6 := by omega
  have h6' : bs.length ≤ 6 := by omega
  have e6 : magicL.take bs.length = ((⟨#[102, 117, 103, 117, 101, 1]⟩ : ByteArray).extract 0 bs.length).toList := by
   have : ∀ n, n ≤ 6 → magicL.take n = ((⟨#[102, 117, 103, 117, 101, 1]⟩ : ByteArray).extract 0 n).toList := by
    intro n hn
    have : n = 0 ∨ n = 1 ∨ n = 2 ∨ n = 3 ∨ n = 4 ∨ n = 5 ∨ n = 6 := by omega
    have t0 : magicL.take 0 = ((⟨#[102, 117, 103, 117, 101, 1]⟩ : ByteArray).extract 0 0).toList := by kernel_rfl
    have t1 : magicL.take 1 = ((⟨#[102, 117, 103, 117, 101, 1]⟩ : ByteArray).extract 0 1).toList := by kernel_rfl
    have t2 : magicL.take 2 = ((⟨#[102, 117, 103, 117, 101, 1]⟩ : ByteArray).extract 0 2).toList := by kernel_rfl
    have t3 : magicL.take 3 = ((⟨#[102, 117, 103, 117, 101, 1]⟩ : ByteArray).extract 0 3).toList := by kernel_rfl
    have t4 : magicL.take 4 = ((⟨#[102, 117, 103, 117, 101, 1]⟩ : ByteArray).extract 0 4).toList := by kernel_rfl
    have t5 : magicL.take 5 = ((⟨#[102, 117, 103, 117, 101, 1]⟩ : ByteArray).extract 0 5).toList := by kernel_rfl
    have t6 : magicL.take 6 = ((⟨#[102, 117, 103, 117, 101, 1]⟩ : ByteArray).extract 0 6).toList := by kernel_rfl
    rcases this with rfl | rfl | rfl | rfl | rfl | rfl | rfl
    ·exact t0
    ·exact t1
    ·exact t2
    ·exact t3
    ·exact t4
    ·exact t5
    ·exact t6
   exact this _ h6'
  have hcv := run_bytes_string ((w.alloc (.cells #[.slice (some ⟨k, o, none⟩) bs.length c] 45)).drew) k o c (bs.take 6) (fun i hi => by
   rw [World.cell?_drew, World.cell?_alloc_past _ _ _ hk]; simp only [List.getElem_take]; exact hcell i (by simp at hi; omega))
  rw [show (bs.take 6).length = bs.length by simp; omega] at hcv
  have hs1 : ¬ ((c : Int) < bs.length) := by omega
  have hs2 : ¬ c = 0 := by omega
  have hs3 : (bs.length : Int) ≤ c := by omega
  have hcr : (w.alloc (.cells #[.slice (some ⟨k, o, none⟩) bs.length c] 45)).cell? ⟨w.heap.size, 0, none⟩ = some (.slice (some ⟨k, o, none⟩) bs.length c) := by simp
  by_cases hmg : bs.take 6 = magicL.take bs.length
  ·have hbb : (List.take 6 bs == ((⟨#[102, 117, 103, 117, 101, 1]⟩ : ByteArray).extract 0 bs.length).toList) = true := by rw [hmg, e6]; simp
   simp only [if_pos hmg]
   clear hmg
   go_enter Tryd.func60, Tryd.ntmps60
   go_wp2_with fail
   generalize hwa : (w.alloc (.cells #[.slice (some ⟨k, o, none⟩) bs.length c] 45)) = wa at hcv hcr ⊢
   have Hwa : Hd (w.alloc (.cells #[.slice (some ⟨k, o, none⟩) bs.length c] 45) = wa) := hwa
   clear hwa
   refine wp_region_still_tail 8 mixed (by kernel_rfl) ?_
   simp only [List.take_succ_cons, List.take_zero, List.drop_succ_cons, List.drop_zero]
   repeat still_step
   refine wpStill_nil ?_
   go_wp2_with fail
   refine (must_true 10 0 _).mono ?_
   rintro e w' ⟨rfl, rfl⟩
   go_wp2_with fail
   go_end0
   exact ⟨rfl, by rw [Hwa.out]⟩
  ·have hbb : (List.take 6 bs == ((⟨#[102, 117, 103, 117, 101, 1]⟩ : ByteArray).extract 0 bs.length).toList) = false := by
    rw [← e6]; simpa using hmg
   simp only [if_neg hmg]
   clear hmg
   go_enter Tryd.func60, Tryd.ntmps60
   go_wp2_with fail
   generalize hwa : (w.alloc (.cells #[.slice (some ⟨k, o, none⟩) bs.length c] 45)) = wa at hcv hcr ⊢
   have Hwa : Hd (w.alloc (.cells #[.slice (some ⟨k, o, none⟩) bs.length c] 45) = wa) := hwa
   clear hwa
   refine wp_region_still_tail 8 mixed (by kernel_rfl) ?_
   simp only [List.take_succ_cons, List.take_zero, List.drop_succ_cons, List.drop_zero]
   repeat still_step
   refine wpStill_nil ?_
   go_wp2_with fail
   refine (must_false 10 0 _).mono ?_
   rintro e w' ⟨rfl, rfl⟩
   go_wp2_with fail
   exact ⟨rfl, rfl, by rw [Hwa.out]⟩
theorem decode_wide (rv : Value) (bs : List UInt8) (w : World) (hb : HandedW w rv bs) (hT : Tab w) (h0 : 0 < w.heap.size) :
 Calls Tryd.prog 10 #[rv] w (DecEnds w bs) := by
 obtain ⟨hL, hb⟩ := hb
 have hsz := startW_size w rv
 have hsf := startW_fr w rv
 obtain ⟨s0, s3, s5, s6⟩ := startW_at w rv
 obtain ⟨ra, rc, hrv⟩ : ∃ ra rc, rv = .slice ra bs.length rc := by
  rcases hb with ⟨rfl, rfl⟩ | ⟨k, o, c, rfl, -⟩
  ·exact ⟨none, 0, rfl⟩
  ·exact ⟨_, _, rfl⟩
 have hBO : BytesOf (w.heap.size + 3) (startW w rv) rv bs := by
  refine ⟨hL, ?_⟩
  rcases hb with ⟨rfl, rfl⟩ | ⟨k, o, c, rfl, hc, hp, hk, hcell⟩
  ·exact ⟨none, 0, rfl, Nat.le_refl _, fun h => absurd rfl h⟩
  ·refine ⟨_, c, rfl, hc, fun _ => ⟨k, o, rfl, by omega, by omega, fun i hi => ?_⟩⟩
   rw [hsf.cell hk (fun h => h)]
   exact hcell i hi
 have hon : On (reading (w.heap.size + 3) rv bs) (startW w rv) (WS.start (readerFn rv), ()) :=
  ⟨s3, rfl, hBO, by show (0 : Int) ≤ 6; omega, by show (6 : Int) ≤ _; omega, by omega, hT.fr hsf (fun h => h)⟩
 have hU : Under (w.heap.size + 3) rv (startW w rv).heap.size := ⟨by omega, by omega, fun k o n c e hne => by
  rcases hb with ⟨h1, h2⟩ | ⟨k', o', c', h2, -, -, hk, -⟩
  ·rw [h2] at e; cases e
  ·rw [h2] at e; cases e; omega⟩
 have hbeg : ∀ w1, Fr (fun k => k = w.heap.size + 3) (startW w rv) w1 → Calls Tryd.prog 60 #[.agg #[rv]] w1 fun e w' => (if bs.take 6 = magicL.take bs.length then e = .returned (.tuple #[]) else e = .panicked (viol 10 0)) ∧ w' = (w1.alloc (.cells #[rv] 45)).drew := by
  intro w1 hf1
  rcases hb with ⟨h1, h2⟩ | ⟨k, o, c, h2, hc, hp, hk, hcell⟩
  ·subst h1
   rw [h2]
   refine (begins_nil w1).mono ?_
   rintro e w' ⟨h3, h4⟩
   exact ⟨by rw [if_pos (by simp)]; exact h3, h4⟩
  ·rw [h2]
   refine begins_wide k o c bs hc hp hL w1 (by have := hf1.size; omega) (fun i hi => ?_)
   rw [hf1.cell (by omega) (by omega), hsf.cell hk (fun h => h)]
   exact hcell i hi
 have ht := through_said (w.heap.size + 3) rv bs (WS.start (readerFn rv)) (startW w rv) hon hU rfl hbeg ra bs.length rc hrv
 subst hrv
 clear hbeg hon hU hBO hb
 have hsp : ∀ w0, Fr (fun k => k = w.heap.size + 3) (startW w (.slice ra bs.length rc)) w0 → Spared w.heap.size w0 ∧ (∃ u0 u1, w0.cell? ⟨w.heap.size + 5, 0, none⟩ = some u0 ∧ w0.cell? ⟨w.heap.size + 5, 1, none⟩ = some u1) ∧ ∀ o, w0.frozen? ⟨w.heap.size + 5, o, none⟩ = false := by
  intro w0 hf
  have e0 : w0.heap[w.heap.size]? = some (.cells #[vI 0, .slice none 0 0] 26) := by rw [hf.block _ (by omega) (by omega)]; exact s0
  have e5 : w0.heap[w.heap.size + 5]? = some (.cells #[vI 0, .slice none 0 0] 26) := by rw [hf.block _ (by omega) (by omega)]; exact s5
  have e6 : w0.heap[w.heap.size + 6]? = some (.cells #[vI 0, vI 0] 50) := by rw [hf.block _ (by omega) (by omega)]; exact s6
  refine ⟨⟨e0, ?_, ?_, ?_⟩, ⟨vI 0, .slice none 0 0, ?_, ?_⟩, ?_⟩
  ·unfold World.cell?; simp [e6]
  ·unfold World.cell?; simp [e6]
  ·intro o; unfold World.frozen?; simp [e6]
  ·unfold World.cell?; simp [e5]
  ·unfold World.cell?; simp [e5]
  ·intro o; unfold World.frozen?; simp [e5]
 refine (decode_any ra bs.length rc w
  (fun G a n c w0 => Fr (fun k => k = w.heap.size + 3) (startW w (.slice ra bs.length rc)) w0 ∧ ∃ done fs, decX bs = .ok (G, done, fs) ∧ LaidP (startW w (.slice ra bs.length rc)) w0 (.agg #[vI G, .slice a n c]) G done fs)
  (fun er at' w0 => Fr (fun k => k = w.heap.size + 3) (startW w (.slice ra bs.length rc)) w0 ∧ decX bs = .error (er, at'))
  (fun G a n c w0 h => ⟨(hsp w0 h.1).1, (hsp w0 h.1).2.1⟩) (fun er at' w0 h => ⟨decX_told hL h.2, (hsp w0 h.1).1⟩) ?_).mono ?_
 ·refine ht.mono ?_
  rintro e w0 ⟨hf, fv, hr⟩
  rw [decX_eq hL] at hr
  cases hd : decX bs with
  | error z =>
    rw [hd] at hr
    exact Or.inr ⟨z.1, z.2, hr, hf, rfl⟩
  | ok q =>
    obtain ⟨G, done, fs⟩ := q
    rw [hd] at hr
    obtain ⟨v, rfl, hl⟩ := hr
    obtain ⟨g, cap, cs, tl, h1, h2, hrest⟩ := hl
    refine Or.inl ⟨G, some ⟨g, 0, none⟩, done.length, cap, by rw [h2], ⟨hf, done, fs, rfl, g, cap, cs, tl, h1, rfl, hrest⟩, (hsp w0 hf).2.1, (hsp w0 hf).2.2⟩
 ·have hfin : ∀ w0 w', Fr (fun k => k = w.heap.size + 3) (startW w (.slice ra bs.length rc)) w0 → Fr (fun k => w.heap.size ≤ k ∧ k < w.heap.size + 7) w0 w' → Fr (fun _ => False) w w' := by
   intro w0 w' f1 f2
   have h1 : Fr (fun k => w.heap.size ≤ k) w w' := ((hsf.mono (fun _ _ h => h.elim)).trans (f1.mono (fun k _ hk => by omega))).trans (f2.mono (fun k _ hk => hk.1))
   exact h1.mono (fun k hk hS => by omega)
  rintro e w' (⟨G, a, l, c, w0, ⟨hf, done, fs, hd, hl⟩, rfl, hf'⟩ | ⟨er, at', w0, ⟨hf, hd⟩, rfl, hf'⟩)
  ·refine ⟨hfin w0 w' hf hf', ?_⟩
   rw [hd]
   exact ⟨_, rfl, hl.back (by omega) hf' (fun k hk _ => by omega)⟩
  ·refine ⟨hfin w0 w' hf hf', ?_⟩
   rw [hd]
end Go.Proofs.YtingenonbkencaaDoor
