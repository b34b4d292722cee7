import Derived.Test.YtingenonbkencaaDoorQE2
import Derived.Test.YtingenonbkencaaDoorQE5
import Derived.Test.YtingenonbkencaaDoorQC1a
import Derived.Test.YtingenonbkencaaDoorQC1b
import Derived.Test.YtingenonbkencaaDoorQC1c
namespace Go.Proofs.YtingenonbkencaaDoor
open Go.RowKit (wrap32 wrap64)
set_option linter.unusedVariables false
set_option linter.unusedSimpArgs false
def KeepsX {b : Nat} {M : Mode b} (s0 : WS) (c : X (WS × M.σ)) : Prop := ∀ y, c = .ok y → Kept s0 y.1
def KeepsP {b : Nat} {M : Mode b} (p : WS × M.σ → X (WS × M.σ)) : Prop := ∀ y y', p y = .ok y' → Kept y.1 y'.1
theorem keeps_then {b : Nat} {M : Mode b} {s0 : WS} {c : X (WS × M.σ)} {p : WS × M.σ → X (WS × M.σ)} (h : KeepsX s0 c) (hp : KeepsP p) : KeepsX s0 (thenX c p) := by
  intro y hy
  unfold thenX at hy
  split at hy
  · exact (h _ rfl).trans (hp _ _ hy)
  · cases hy
theorem keeps_var {b : Nat} (M : Mode b) (o : Nat) (ho : o = 155 ∨ o = 156 ∨ o = 157 ∨ o = 158 ∨ o = 161) : KeepsP (varPart M o) := fun _ _ h => askX_kept ho h
theorem keeps_fields {b : Nat} (M : Mode b) : KeepsP (fieldsPart M) := fun _ _ h => askX_kept (by simp) h
theorem keeps_field {b : Nat} (M : Mode b) : KeepsP (fieldPart M) := fun _ _ h => askX_kept (by simp) h
theorem keeps_global {b : Nat} (M : Mode b) : KeepsP (globalPart M) := fun _ _ h => askX_kept (by simp) h
theorem keeps_target {b : Nat} (M : Mode b) : KeepsP (targetPart M) := fun _ _ h => askX_kept (by simp) h
theorem keeps_int {b : Nat} (M : Mode b) : KeepsP (intPart M) := fun _ _ h => nextX_kept (by simp) h
theorem partsX_kept {b : Nat} {M : Mode b} {s0 : WS} (op : Nat) {c : X (WS × M.σ)} (h : KeepsX s0 c) : KeepsX s0 (partsX M op c) := by
  unfold partsX
  split
  all_goals repeat (first | exact h | (refine keeps_then ?_ (keeps_var M _ (by simp))) | (refine keeps_then ?_ (keeps_fields M)) | (refine keeps_then ?_ (keeps_field M)) | (refine keeps_then ?_ (keeps_global M)) | (refine keeps_then ?_ (keeps_target M)) | (refine keeps_then ?_ (keeps_int M)))
def instrX {b : Nat} (M : Mode b) (heads : List (Nat × Nat)) (fR i : Nat) (x : WS × M.σ) : X ((List Int × List Int) × (WS × M.σ)) :=
  thenX (nextX M 154 1 x) fun y =>
    if 1 ≤ y.1.op ∧ y.1.op ≤ 17 then
      (if y.1.op = 15 then retX M fR (frontOk M true false true i x.1.at' y)
       else if y.1.op = 11 then callX M heads (frontOk M false false true i x.1.at' y)
       else thenX (partsX M y.1.op.toNat (frontOk M (y.1.op == 13) (y.1.op == 6) true i x.1.at' y)) fun y' => .ok (([], []), y'))
    else .error (12, x.1.at')
theorem ends_instr {b : Nat} {M : Mode b} {w w' : World} {s0 : WS} {c : X (WS × M.σ)} {e : Ending} (hk : KeepsX s0 c) (ha : s0.args = nilS) (hr : s0.rets = nilS) (h : Ends M w c e w') :
    EndsI M w (thenX c fun y' => .ok (([], []), y')) e w' := by
  obtain ⟨hf, h⟩ := h
  refine ⟨hf, ?_⟩
  cases c with
  | error z => exact h
  | ok y =>
    obtain ⟨he, hon⟩ := h
    have k := hk y rfl
    refine ⟨he, nilS, nilS, Or.inl ⟨rfl, rfl⟩, Or.inl ⟨rfl, rfl⟩, ?_⟩
    have : ({ y.1 with args := nilS, rets := nilS } : WS) = y.1 := by
      have h1 := k.args.trans ha
      have h2 := k.rets.trans hr
      generalize y.1 = s at h1 h2
      cases s
      simp only at h1 h2
      subst h1 h2
      rfl
    rw [this]
    exact hon
structure Blank (s : WS) : Prop where
  r : s.r = 0
  s' : s.s = 0
  t : s.t = 0
  n : s.n = 0
  args : s.args = nilS
  rets : s.rets = nilS
theorem instr_any {b : Nat} (M : Mode b) (hN : NextOwn M) (hO : NextOther M) (hF : FreshOk M) (x : WS × M.σ) (w : World) (h : On M w x) (hbl : Blank x.1) (i : Nat) (hi : i ≤ 4096) (hl0 : 0 ≤ x.1.len) (hl1 : x.1.len ≤ 4096)
    (fR : Nat) (hR : x.1.fR = fR) (hRn : fR ≤ 255) (heads : List (Nat × Nat)) (fb fo fc : Nat) (hfu : x.1.funcs = .slice (some ⟨fb, fo, none⟩) heads.length fc) (hH : HeadsAt w fb fo heads) (hfb : fb ≠ b) (hfS : ¬ M.S fb) (hflt : fb < w.heap.size) (hnf : heads.length ≤ 65535) (hSnew : ∀ k, w.heap.size ≤ k → ¬ M.S k) :
    Calls Tryd.prog 65 #[.pointer (some ⟨b, 0, none⟩), .int .i64 i] w (EndsI M w (instrX M heads fR i x)) := by
  cases hx : nextX M 154 1 x with
  | error z =>
    refine (askInstr_short M hN x w h i z hx).mono ?_
    rintro e w' ⟨rfl, hf⟩
    exact endsI_error (by simp only [instrX, hx, thenX]) hf
  | ok y =>
    by_cases hop : 1 ≤ y.1.op ∧ y.1.op ≤ 17
    rotate_left
    · refine (askInstr_noOp M hN x y w h i hx hop).mono ?_
      rintro e w' ⟨rfl, hf⟩
      exact endsI_error (z := (12, x.1.at')) (by simp only [instrX, hx, thenX]; rw [if_neg hop]) hf
    obtain ⟨v, st, hy⟩ := nextX_num hx
    have g : y.1.len = x.1.len ∧ y.1.funcs = x.1.funcs ∧ y.1.fR = x.1.fR ∧ y.1.args = x.1.args ∧ y.1.rets = x.1.rets ∧ y.1.r = x.1.r ∧ y.1.s = x.1.s ∧ y.1.t = x.1.t ∧ y.1.n = x.1.n := by
      rw [hy]; exact ⟨rfl, rfl, rfl, rfl, rfl, rfl, rfl, rfl, rfl⟩
    obtain ⟨g1, g2, g3, g4, g5, g6, g7, g8, g9⟩ := g
    have ha : y.1.args = nilS := g4.trans hbl.args
    have hr : y.1.rets = nilS := g5.trans hbl.rets
    have hla : lenOf y.1.args = 0 := by rw [ha]; rfl
    have hlr : lenOf y.1.rets = 0 := by rw [hr]; rfl
    have z0 := g6.trans hbl.r; have z1 := g7.trans hbl.s'; have z2 := g8.trans hbl.t; have z3 := g9.trans hbl.n
    have hX : instrX M heads fR i x = (if y.1.op = 15 then retX M fR (frontOk M true false true i x.1.at' y)
       else if y.1.op = 11 then callX M heads (frontOk M false false true i x.1.at' y)
       else thenX (partsX M y.1.op.toNat (frontOk M (y.1.op == 13) (y.1.op == 6) true i x.1.at' y)) fun y' => .ok (([], []), y')) := by
      simp only [instrX, hx, thenX]; rw [if_pos hop]
    rw [hX]
    obtain ⟨k, hk⟩ := Int.eq_ofNat_of_zero_le (show 0 ≤ y.1.op by omega)
    have hk17 : k = 1 ∨ k = 2 ∨ k = 3 ∨ k = 4 ∨ k = 5 ∨ k = 6 ∨ k = 7 ∨ k = 8 ∨ k = 9 ∨ k = 10 ∨ k = 11 ∨ k = 12 ∨ k = 13 ∨ k = 14 ∨ k = 15 ∨ k = 16 ∨ k = 17 := by omega
    clear hX hop
    have hl0' : 0 ≤ y.1.len := by omega
    have hl1' : y.1.len ≤ 4096 := by omega
    rcases hk17 with rfl | rfl | rfl | rfl | rfl | rfl | rfl | rfl | rfl | rfl | rfl | rfl | rfl | rfl | rfl | rfl | rfl
    · rw [if_neg (by rw [hk]; decide), if_neg (by rw [hk]; decide), hk]
      exact (instr_1 M hN x y w h i hi hx hk hl0' hl1' true (fun w1 hl => namesAll_1 y.1 w1 hl none none 0 0 0 0 ha hr z1 z2 hla hlr)).mono fun e w' he => ends_instr (partsX_kept 1 (fun _ h => frontOk_kept h)) ha hr he
    · rw [if_neg (by rw [hk]; decide), if_neg (by rw [hk]; decide), hk]
      exact (instr_2 M hN x y w h i hi hx hk hl0' hl1' true (fun w1 hl => namesAll_2 y.1 w1 hl none none 0 0 0 0 ha hr z2 z3 hla hlr)).mono fun e w' he => ends_instr (partsX_kept 2 (fun _ h => frontOk_kept h)) ha hr he
    · rw [if_neg (by rw [hk]; decide), if_neg (by rw [hk]; decide), hk]
      exact (instr_3 M hN x y w h i hi hx hk hl0' hl1' true (fun w1 hl => namesAll_3 y.1 w1 hl none none 0 0 0 0 ha hr z3 hla hlr)).mono fun e w' he => ends_instr (partsX_kept 3 (fun _ h => frontOk_kept h)) ha hr he
    · rw [if_neg (by rw [hk]; decide), if_neg (by rw [hk]; decide), hk]
      exact (instr_4 M hN x y w h i hi hx hk hl0' hl1' true (fun w1 hl => namesAll_4 y.1 w1 hl none none 0 0 0 0 ha hr z3 hla hlr)).mono fun e w' he => ends_instr (partsX_kept 4 (fun _ h => frontOk_kept h)) ha hr he
    · rw [if_neg (by rw [hk]; decide), if_neg (by rw [hk]; decide), hk]
      exact (instr_5 M hN x y w h i hi hx hk hl0' hl1' true (fun w1 hl => namesAll_5 y.1 w1 hl none none 0 0 0 0 ha hr z2 z3 hla hlr)).mono fun e w' he => ends_instr (partsX_kept 5 (fun _ h => frontOk_kept h)) ha hr he
    · rw [if_neg (by rw [hk]; decide), if_neg (by rw [hk]; decide), hk]
      exact (instr_6 M hN x y w h i hi hx hk hl0' hl1' true (fun w1 hl => namesAll_6 y.1 w1 hl none none 0 0 0 0 ha hr z1 z2 hla hlr)).mono fun e w' he => ends_instr (partsX_kept 6 (fun _ h => frontOk_kept h)) ha hr he
    · rw [if_neg (by rw [hk]; decide), if_neg (by rw [hk]; decide), hk]
      exact (instr_7 M hN x y w h i hi hx hk hl0' hl1' true (fun w1 hl => namesAll_7 y.1 w1 hl none none 0 0 0 0 ha hr z2 hla hlr)).mono fun e w' he => ends_instr (partsX_kept 7 (fun _ h => frontOk_kept h)) ha hr he
    · rw [if_neg (by rw [hk]; decide), if_neg (by rw [hk]; decide), hk]
      exact (instr_8 M hN x y w h i hi hx hk hl0' hl1' true (fun w1 hl => namesAll_8 y.1 w1 hl none none 0 0 0 0 ha hr z2 hla hlr)).mono fun e w' he => ends_instr (partsX_kept 8 (fun _ h => frontOk_kept h)) ha hr he
    · rw [if_neg (by rw [hk]; decide), if_neg (by rw [hk]; decide), hk]
      exact (instr_9 M hN x y w h i hi hx hk hl0' hl1' true (fun w1 hl => namesAll_9 y.1 w1 hl none none 0 0 0 0 ha hr z1 z2 hla hlr)).mono fun e w' he => ends_instr (partsX_kept 9 (fun _ h => frontOk_kept h)) ha hr he
    · rw [if_neg (by rw [hk]; decide), if_neg (by rw [hk]; decide), hk]
      exact (instr_10 M hN x y w h i hi hx hk hl0' hl1' true (fun w1 hl => namesAll_10 y.1 w1 hl none none 0 0 0 0 ha hr z0 z2 hla hlr)).mono fun e w' he => ends_instr (partsX_kept 10 (fun _ h => frontOk_kept h)) ha hr he
    · rw [if_neg (by rw [hk]; decide), if_pos (by rw [hk]; rfl)]
      exact instr_11 M hN hO hF x y w h i hi hx hk hl0' hl1' true (fun w1 hl => namesAll_11 y.1 w1 hl none none 0 0 0 0 ha hr z0 z1 z2) ha hr heads fb fo fc (g2.trans hfu) hH hfb hfS hflt hnf hSnew
    · rw [if_neg (by rw [hk]; decide), if_neg (by rw [hk]; decide), hk]
      exact (instr_12 M hN x y w h i hi hx hk hl0' hl1' true (fun w1 hl => namesAll_12 y.1 w1 hl none none 0 0 0 0 ha hr z0 z2 z3 hla hlr)).mono fun e w' he => ends_instr (partsX_kept 12 (fun _ h => frontOk_kept h)) ha hr he
    · rw [if_neg (by rw [hk]; decide), if_neg (by rw [hk]; decide), hk]
      exact (instr_13 M hN x y w h i hi hx hk hl0' hl1' true (fun w1 hl => namesAll_13 y.1 w1 hl none none 0 0 0 0 ha hr z0 z1 z2 hla hlr)).mono fun e w' he => ends_instr (partsX_kept 13 (fun _ h => frontOk_kept h)) ha hr he
    · rw [if_neg (by rw [hk]; decide), if_neg (by rw [hk]; decide), hk]
      exact (instr_14 M hN x y w h i hi hx hk hl0' hl1' true (fun w1 hl => namesAll_14 y.1 w1 hl none none 0 0 0 0 ha hr z0 z2 hla hlr)).mono fun e w' he => ends_instr (partsX_kept 14 (fun _ h => frontOk_kept h)) ha hr he
    · rw [if_pos (by rw [hk]; rfl)]
      exact instr_15 M hN hO hF x y w h i hi hx hk hl0' hl1' true (fun w1 hl => namesAll_15 y.1 w1 hl none none 0 0 0 0 ha hr z0 z1 z2 z3 hlr) ha hr fR (g3.trans hR) hRn
    · rw [if_neg (by rw [hk]; decide), if_neg (by rw [hk]; decide), hk]
      exact (instr_16 M hN x y w h i hi hx hk hl0' hl1' true (fun w1 hl => namesAll_16 y.1 w1 hl none none 0 0 0 0 ha hr z1 z2 z3 hla hlr)).mono fun e w' he => ends_instr (partsX_kept 16 (fun _ h => frontOk_kept h)) ha hr he
    · rw [if_neg (by rw [hk]; decide), if_neg (by rw [hk]; decide), hk]
      exact (instr_17 M hN x y w h i hi hx hk hl0' hl1' true (fun w1 hl => namesAll_17 y.1 w1 hl none none 0 0 0 0 ha hr z3 hla hlr)).mono fun e w' he => ends_instr (partsX_kept 17 (fun _ h => frontOk_kept h)) ha hr he
end Go.Proofs.YtingenonbkencaaDoor
