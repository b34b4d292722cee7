import Derived.Test.YtingenonbkencaaDoorQE2
import Derived.Test.YtingenonbkencaaDoorQE4J
import Derived.Test.YtingenonbkencaaDoorQC1a
import Derived.Test.YtingenonbkencaaDoorQC1b
import Derived.Test.YtingenonbkencaaDoorQC1c
set_option linter.unusedVariables false
set_option linter.unusedSimpArgs false
namespace Go.Proofs.YtingenonbkencaaDoor
open Go.RowKit (wrap32 wrap64)
def KeepsX {b : Nat} {M : Mode b} (s0 : WS) (c : X (WS × M.σ)) : Prop := ∀ y, c = .ok y → Kept s0 y.1
def KeepsP {b : Nat} {M : Mode b} (p : WS × M.σ → X (WS × M.σ)) : Prop := ∀ y y', p y = .ok y' → Kept y.1 y'.1
theorem keeps_then {b : Nat} {M : Mode b} {s0 : WS} {c : X (WS × M.σ)} {p : WS × M.σ → X (WS × M.σ)} (h : KeepsX s0 c) (hp : KeepsP p) : KeepsX s0 (thenX c p) := by
 intro y hy
 unfold thenX at hy
 split at hy
 ·exact (h _ rfl).trans (hp _ _ hy)
 ·cases hy
theorem keeps_var {b : Nat} (M : Mode b) (o : Nat) (ho : o = 155 ∨ o = 156 ∨ o = 157 ∨ o = 158 ∨ o = 161) : KeepsP (varPart M o) := fun _ _ h => askX_kept ho h
theorem keeps_fields {b : Nat} (M : Mode b) : KeepsP (fieldsPart M) := fun _ _ h => askX_kept (by simp) h
theorem keeps_field {b : Nat} (M : Mode b) : KeepsP (fieldPart M) := fun _ _ h => askX_kept (by simp) h
theorem keeps_global {b : Nat} (M : Mode b) : KeepsP (globalPart M) := fun _ _ h => askX_kept (by simp) h
theorem keeps_target {b : Nat} (M : Mode b) : KeepsP (targetPart M) := fun _ _ h => askX_kept (by simp) h
theorem keeps_int {b : Nat} (M : Mode b) : KeepsP (intPart M) := fun _ _ h => nextX_kept (by simp) h
theorem partsX_kept {b : Nat} {M : Mode b} {s0 : WS} (op : Nat) {c : X (WS × M.σ)} (h : KeepsX s0 c) : KeepsX s0 (partsX M op c) := by
 unfold partsX
 split
 all_goals repeat (first | exact h | (refine keeps_then ?_ (keeps_var M _ (by simp))) | (refine keeps_then ?_ (keeps_fields M)) | (refine keeps_then ?_ (keeps_field M)) | (refine keeps_then ?_ (keeps_global M)) | (refine keeps_then ?_ (keeps_target M)) | (refine keeps_then ?_ (keeps_int M)))
def instrX {b : Nat} (M : Mode b) (heads : List (Nat × Nat)) (fR i : Nat) (x : WS × M.σ) : X ((List Int × List Int) × (WS × M.σ)) :=
 thenX (nextX M 154 1 x) fun y =>
  if 1 ≤ y.1.op ∧ y.1.op ≤ 17 then
   (if y.1.op = 15 then retX M fR (frontOk M true false true i x.1.at' y)
    else if y.1.op = 11 then callX M heads (frontOk M false false true i x.1.at' y)
    else thenX (partsX M y.1.op.toNat (frontOk M (y.1.op == 13) (y.1.op == 6) true i x.1.at' y)) fun y' => .ok (([], []), y'))
  else .error (12, x.1.at')
theorem ends_instr {b : Nat} {M : Mode b} {w w' : World} {s0 : WS} {c : X (WS × M.σ)} {e : Ending} (hk : KeepsX s0 c) (ha : s0.args = nilS) (hr : s0.rets = nilS) (h : Ends M w c e w') :
 EndsI M w (thenX c fun y' => .ok (([], []), y')) e w' := by
 obtain ⟨hf, h⟩ := h
 refine ⟨hf, ?_⟩
 cases c with
 | error z => exact h
 | ok y =>
   obtain ⟨he, hon⟩ := h
   have k := hk y rfl
   refine ⟨he, nilS, nilS, Or.inl ⟨rfl, rfl⟩, Or.inl ⟨rfl, rfl⟩, ?_⟩
   have : ({ y.1 with args := nilS, rets := nilS } : WS) = y.1 := by
    have h1 := k.args.trans ha
    have h2 := k.rets.trans hr
    generalize y.1 = s at h1 h2
    cases s
    simp only at h1 h2
    subst h1 h2
    rfl
   rw [this]
   exact hon
structure Blank (s : WS) : Prop where
 r : s.r = 0
 s' : s.s = 0
 t : s.t = 0
 n : s.n = 0
 args : s.args = nilS
 rets : s.rets = nilS
theorem instr_any {b : Nat} (M : Mode b) (hN : NextOwn M) (hO : NextOther M) (hF : FreshOk M) (x : WS × M.σ) (w : World) (h : On M w x) (hbl : Blank x.1) (i : Nat) (hi : i ≤ 4096) (hl0 : 0 ≤ x.1.len) (hl1 : x.1.len ≤ 4096)
 (fR : Nat) (hR : x.1.fR = fR) (hRn : fR ≤ 255) (heads : List (Nat × Nat)) (fb fo fc : Nat) (hfu : x.1.funcs = .slice (some ⟨fb, fo, none⟩) heads.length fc) (hH : HeadsAt w fb fo heads) (hfb : fb ≠ b) (hfS : ¬ M.S fb) (hflt : fb < w.heap.size) (hnf : heads.length ≤ 65535) (hSnew : ∀ k, w.heap.size ≤ k → ¬ M.S k) :
 Calls Tryd.prog 65 #[.pointer (some ⟨b, 0, none⟩), .int .i64 i] w (EndsI M w (instrX M heads fR i x)) := by
 cases hx : nextX M 154 1 x with
 | error z =>
   refine (askInstr_short M hN x w h i z hx).mono ?_
   rintro e w' ⟨rfl, hf⟩
   exact endsI_error (by simp only [instrX, hx, thenX]) hf
 | ok y =>
   by_cases hop : 1 ≤ y.1.op ∧ y.1.op ≤ 17
   rotate_left
   ·refine (askInstr_noOp M hN x y w h i hx hop).mono ?_
    rintro e w' ⟨rfl, hf⟩
    exact endsI_error (z := (12, x.1.at')) (by simp only [instrX, hx, thenX]; rw [if_neg hop]) hf
   obtain ⟨v, st, hy⟩ := nextX_num hx
   have g : y.1.len = x.1.len ∧ y.1.funcs = x.1.funcs ∧ y.1.fR = x.1.fR ∧ y.1.args = x.1.args ∧ y.1.rets = x.1.rets ∧ y.1.r = x.1.r ∧ y.1.s = x.1.s ∧ y.1.t = x.1.t ∧ y.1.n = x.1.n := by
    rw [hy]; exact ⟨rfl, rfl, rfl, rfl, rfl, rfl, rfl, rfl, rfl⟩
   obtain ⟨g1, g2, g3, g4, g5, g6, g7, g8, g9⟩ := g
   have ha : y.1.args = nilS := g4.trans hbl.args
   have hr : y.1.rets = nilS := g5.trans hbl.rets
   have hla : lenOf y.1.args = 0 := by rw [ha]; rfl
   have hlr : lenOf y.1.rets = 0 := by rw [hr]; rfl
   have z0 := g6.trans hbl.r; have z1 := g7.trans hbl.s'; have z2 := g8.trans hbl.t; have z3 := g9.trans hbl.n
   have hX : instrX M heads fR i x = (if y.1.op = 15 then retX M fR (frontOk M true false true i x.1.at' y)
    else if y.1.op = 11 then callX M heads (frontOk M false false true i x.1.at' y)
    else thenX (partsX M y.1.op.toNat (frontOk M (y.1.op == 13) (y.1.op == 6) true i x.1.at' y)) fun y' => .ok (([], []), y')) := by
    simp only [instrX, hx, thenX]; rw [if_pos hop]
   rw [hX]
   obtain ⟨k, hk⟩ := Int.eq_ofNat_of_zero_le (show 0 ≤ y.1.op by omega)
   have hk17 : k = 1 ∨ k = 2 ∨ k = 3 ∨ k = 4 ∨ k = 5 ∨ k = 6 ∨ k = 7 ∨ k = 8 ∨ k = 9 ∨ k = 10 ∨ k = 11 ∨ k = 12 ∨ k = 13 ∨ k = 14 ∨ k = 15 ∨ k = 16 ∨ k = 17 := by omega
   clear hX hop
   have hl0' : 0 ≤ y.1.len := by omega
   have hl1' : y.1.len ≤ 4096 := by omega
   rcases hk17 with rfl | rfl | rfl | rfl | rfl | rfl | rfl | rfl | rfl | rfl | rfl | rfl | rfl | rfl | rfl | rfl | rfl
   ·rw [if_neg (by rw [hk]; decide), if_neg (by rw [hk]; decide), hk]
    exact (instr_1 M hN x y w h i hi hx hk hl0' hl1' true (fun w1 hl => namesAll_1 y.1 w1 hl none none 0 0 0 0 ha hr z1 z2 hla hlr)).mono fun e w' he => ends_instr (partsX_kept 1 (fun _ h => frontOk_kept h)) ha hr he
   ·rw [if_neg (by rw [hk]; decide), if_neg (by rw [hk]; decide), hk]
    exact (instr_2 M hN x y w h i hi hx hk hl0' hl1' true (fun w1 hl => namesAll_2 y.1 w1 hl none none 0 0 0 0 ha hr z2 z3 hla hlr)).mono fun e w' he => ends_instr (partsX_kept 2 (fun _ h => frontOk_kept h)) ha hr he
   ·rw [if_neg (by rw [hk]; decide), if_neg (by rw [hk]; decide), hk]
    exact (instr_3 M hN x y w h i hi hx hk hl0' hl1' true (fun w1 hl => namesAll_3 y.1 w1 hl none none 0 0 0 0 ha hr z3 hla hlr)).mono fun e w' he => ends_instr (partsX_kept 3 (fun _ h => frontOk_kept h)) ha hr he
   ·rw [if_neg (by rw [hk]; decide), if_neg (by rw [hk]; decide), hk]
    exact (instr_4 M hN x y w h i hi hx hk hl0' hl1' true (fun w1 hl => namesAll_4 y.1 w1 hl none none 0 0 0 0 ha hr z3 hla hlr)).mono fun e w' he => ends_instr (partsX_kept 4 (fun _ h => frontOk_kept h)) ha hr he
   ·rw [if_neg (by rw [hk]; decide), if_neg (by rw [hk]; decide), hk]
    exact (instr_5 M hN x y w h i hi hx hk hl0' hl1' true (fun w1 hl => namesAll_5 y.1 w1 hl none none 0 0 0 0 ha hr z2 z3 hla hlr)).mono fun e w' he => ends_instr (partsX_kept 5 (fun _ h => frontOk_kept h)) ha hr he
   ·rw [if_neg (by rw [hk]; decide), if_neg (by rw [hk]; decide), hk]
    exact (instr_6 M hN x y w h i hi hx hk hl0' hl1' true (fun w1 hl => namesAll_6 y.1 w1 hl none none 0 0 0 0 ha hr z1 z2 hla hlr)).mono fun e w' he => ends_instr (partsX_kept 6 (fun _ h => frontOk_kept h)) ha hr he
   ·rw [if_neg (by rw [hk]; decide), if_neg (by rw [hk]; decide), hk]
    exact (instr_7 M hN x y w h i hi hx hk hl0' hl1' true (fun w1 hl => namesAll_7 y.1 w1 hl none none 0 0 0 0 ha hr z2 hla hlr)).mono fun e w' he => ends_instr (partsX_kept 7 (fun _ h => frontOk_kept h)) ha hr he
   ·rw [if_neg (by rw [hk]; decide), if_neg (by rw [hk]; decide), hk]
    exact (instr_8 M hN x y w h i hi hx hk hl0' hl1' true (fun w1 hl => namesAll_8 y.1 w1 hl none none 0 0 0 0 ha hr z2 hla hlr)).mono fun e w' he => ends_instr (partsX_kept 8 (fun _ h => frontOk_kept h)) ha hr he
   ·rw [if_neg (by rw [hk]; decide), if_neg (by rw [hk]; decide), hk]
    exact (instr_9 M hN x y w h i hi hx hk hl0' hl1' true (fun w1 hl => namesAll_9 y.1 w1 hl none none 0 0 0 0 ha hr z1 z2 hla hlr)).mono fun e w' he => ends_instr (partsX_kept 9 (fun _ h => frontOk_kept h)) ha hr he
   ·rw [if_neg (by rw [hk]; decide), if_neg (by rw [hk]; decide), hk]
    exact (instr_10 M hN x y w h i hi hx hk hl0' hl1' true (fun w1 hl => namesAll_10 y.1 w1 hl none none 0 0 0 0 ha hr z0 z2 hla hlr)).mono fun e w' he => ends_instr (partsX_kept 10 (fun _ h => frontOk_kept h)) ha hr he
   ·rw [if_neg (by rw [hk]; decide), if_pos (by rw [hk]; rfl)]
    exact instr_11 M hN hO hF x y w h i hi hx hk hl0' hl1' true (fun w1 hl => namesAll_11 y.1 w1 hl none none 0 0 0 0 ha hr z0 z1 z2) ha hr heads fb fo fc (g2.trans hfu) hH hfb hfS hflt hnf hSnew
   ·rw [if_neg (by rw [hk]; decide), if_neg (by rw [hk]; decide), hk]
    exact (instr_12 M hN x y w h i hi hx hk hl0' hl1' true (fun w1 hl => namesAll_12 y.1 w1 hl none none 0 0 0 0 ha hr z0 z2 z3 hla hlr)).mono fun e w' he => ends_instr (partsX_kept 12 (fun _ h => frontOk_kept h)) ha hr he
   ·rw [if_neg (by rw [hk]; decide), if_neg (by rw [hk]; decide), hk]
    exact (instr_13 M hN x y w h i hi hx hk hl0' hl1' true (fun w1 hl => namesAll_13 y.1 w1 hl none none 0 0 0 0 ha hr z0 z1 z2 hla hlr)).mono fun e w' he => ends_instr (partsX_kept 13 (fun _ h => frontOk_kept h)) ha hr he
   ·rw [if_neg (by rw [hk]; decide), if_neg (by rw [hk]; decide), hk]
    exact (instr_14 M hN x y w h i hi hx hk hl0' hl1' true (fun w1 hl => namesAll_14 y.1 w1 hl none none 0 0 0 0 ha hr z0 z2 hla hlr)).mono fun e w' he => ends_instr (partsX_kept 14 (fun _ h => frontOk_kept h)) ha hr he
   ·rw [if_pos (by rw [hk]; rfl)]
    exact instr_15 M hN hO hF x y w h i hi hx hk hl0' hl1' true (fun w1 hl => namesAll_15 y.1 w1 hl none none 0 0 0 0 ha hr z0 z1 z2 z3 hlr) ha hr fR (g3.trans hR) hRn
   ·rw [if_neg (by rw [hk]; decide), if_neg (by rw [hk]; decide), hk]
    exact (instr_16 M hN x y w h i hi hx hk hl0' hl1' true (fun w1 hl => namesAll_16 y.1 w1 hl none none 0 0 0 0 ha hr z1 z2 z3 hla hlr)).mono fun e w' he => ends_instr (partsX_kept 16 (fun _ h => frontOk_kept h)) ha hr he
   ·rw [if_neg (by rw [hk]; decide), if_neg (by rw [hk]; decide), hk]
    exact (instr_17 M hN x y w h i hi hx hk hl0' hl1' true (fun w1 hl => namesAll_17 y.1 w1 hl none none 0 0 0 0 ha hr z3 hla hlr)).mono fun e w' he => ends_instr (partsX_kept 17 (fun _ h => frontOk_kept h)) ha hr he
structure AI where
 op : Int
 r : Int
 s : Int
 t : Int
 n : Int
 args : List Int
 rets : List Int
def z7 : List Value := [vI 0, vI 0, vI 0, vI 0, vI 0, nilS, nilS]
def zeros7 (n : Nat) : Array Value := madeCells z7.toArray (n * 7)
theorem run_make65 (n : Nat) (hn : n ≤ 4096) (w : World) : (Instr.makeSlice 65 (.int .i64 n) (.int .i64 n)).run Tryd.prog w = .ok (.slice (some ⟨w.heap.size, 0, none⟩) n n) (w.alloc (.cells (zeros7 n) 71)) := by
 rw [run_make_of 65 71 (.agg z7.toArray) 7 88 Tryd.underlying65 (by kernel_rfl) (by kernel_rfl) (by kernel_rfl) n (by omega) (by omega) w]
 rfl
def blank (s : WS) : WS := { s with op := 0, r := 0, s := 0, t := 0, n := 0, args := nilS, rets := nilS }
theorem blank_lies {w : World} {b : Nat} {s : WS} (h : Lies w b s) :
 Lies (((((((w.setCell ⟨b, 154, none⟩ (vI 0)).setCell ⟨b, 155, none⟩ (vI 0)).setCell ⟨b, 156, none⟩ (vI 0)).setCell ⟨b, 157, none⟩ (vI 0)).setCell ⟨b, 158, none⟩ (vI 0)).setCell ⟨b, 159, none⟩ nilS).setCell ⟨b, 160, none⟩ nilS) b (blank s) := by
 have h1 := h.setCell (s' := { s with op := 0 }) 154 (vI 0) (by kernel_rfl)
 have h2 := h1.setCell (s' := { s with op := 0, r := 0 }) 155 (vI 0) (by kernel_rfl)
 have h3 := h2.setCell (s' := { s with op := 0, r := 0, s := 0 }) 156 (vI 0) (by kernel_rfl)
 have h4 := h3.setCell (s' := { s with op := 0, r := 0, s := 0, t := 0 }) 157 (vI 0) (by kernel_rfl)
 have h5 := h4.setCell (s' := { s with op := 0, r := 0, s := 0, t := 0, n := 0 }) 158 (vI 0) (by kernel_rfl)
 have h6 := h5.setCell (s' := { s with op := 0, r := 0, s := 0, t := 0, n := 0, args := nilS }) 159 nilS (by kernel_rfl)
 exact h6.setCell (s' := blank s) 160 nilS (by kernel_rfl)
theorem func_lies {w : World} {b : Nat} {s : WS} (fP fR fV len : Int) (fC : Value) (h : Lies w b s) :
 Lies (((((w.setCell ⟨b, 149, none⟩ (vI fP)).setCell ⟨b, 150, none⟩ (vI fR)).setCell ⟨b, 151, none⟩ (vI fV)).setCell ⟨b, 152, none⟩ fC).setCell ⟨b, 153, none⟩ (vI len)) b { s with fP := fP, fR := fR, fV := fV, fC := fC, len := len } := by
 have h1 := h.setCell (s' := { s with fP := fP }) 149 (vI fP) (by kernel_rfl)
 have h2 := h1.setCell (s' := { s with fP := fP, fR := fR }) 150 (vI fR) (by kernel_rfl)
 have h3 := h2.setCell (s' := { s with fP := fP, fR := fR, fV := fV }) 151 (vI fV) (by kernel_rfl)
 have h4 := h3.setCell (s' := { s with fP := fP, fR := fR, fV := fV, fC := fC }) 152 fC (by kernel_rfl)
 exact h4.setCell (s' := { s with fP := fP, fR := fR, fV := fV, fC := fC, len := len }) 153 (vI len) (by kernel_rfl)
structure Kept2 (s s' : WS) : Prop where
 num : s'.num = s.num
 globals : s'.globals = s.globals
 funcs : s'.funcs = s.funcs
 fP : s'.fP = s.fP
 fR : s'.fR = s.fR
 fV : s'.fV = s.fV
 fC : s'.fC = s.fC
 len : s'.len = s.len
theorem Kept2.refl (s : WS) : Kept2 s s := ⟨rfl, rfl, rfl, rfl, rfl, rfl, rfl, rfl⟩
theorem Kept2.trans {a b c : WS} (h : Kept2 a b) (k : Kept2 b c) : Kept2 a c :=
 ⟨k.num.trans h.num, k.globals.trans h.globals, k.funcs.trans h.funcs, k.fP.trans h.fP, k.fR.trans h.fR, k.fV.trans h.fV, k.fC.trans h.fC, k.len.trans h.len⟩
theorem Kept.two {a b : WS} (h : Kept a b) : Kept2 a b := ⟨h.num, h.globals, h.funcs, h.fP, h.fR, h.fV, h.fC, h.len⟩
theorem thenX_ok {α β : Type} {c : X α} {p : α → X β} {r : β} (h : thenX c p = .ok r) : ∃ y, c = .ok y ∧ p y = .ok r := by
 unfold thenX at h
 split at h
 ·exact ⟨_, rfl, h⟩
 ·cases h
theorem instrX_kept {b : Nat} {M : Mode b} {heads : List (Nat × Nat)} {fR i : Nat} {x y : WS × M.σ} {ll : List Int × List Int} (h : instrX M heads fR i x = .ok (ll, y)) : Kept2 x.1 y.1 := by
 obtain ⟨y1, h1, h2⟩ := thenX_ok h
 have k1 : Kept2 x.1 y1.1 := by
  obtain ⟨v, st, rfl⟩ := nextX_num h1
  exact ⟨rfl, rfl, rfl, rfl, rfl, rfl, rfl, rfl⟩
 refine k1.trans ?_
 split at h2
 ·split at h2
  ·obtain ⟨y2, h3, h4⟩ := thenX_ok h2
   obtain ⟨q, h5, h6⟩ := thenX_ok h4
   simp only [Except.ok.injEq, Prod.mk.injEq] at h6
   rw [← h6.2]
   exact ((frontOk_kept h3).trans (listX_kept h5)).two
  ·split at h2
   ·obtain ⟨y2, h3, h4⟩ := thenX_ok h2
    obtain ⟨y2', h3', h3''⟩ := thenX_ok h3
    obtain ⟨q, h5, h6⟩ := thenX_ok h4
    obtain ⟨q', h7, h8⟩ := thenX_ok h6
    simp only [Except.ok.injEq, Prod.mk.injEq] at h8
    rw [← h8.2]
    exact ((((frontOk_kept h3').trans (askX_kept (by simp) h3'')).trans (listX_kept h5)).trans (listX_kept h7)).two
   ·obtain ⟨y2, h3, h4⟩ := thenX_ok h2
    simp only [Except.ok.injEq, Prod.mk.injEq] at h4
    rw [← h4.2]
    exact (partsX_kept _ (fun _ h => frontOk_kept h) y2 h3).two
 ·cases h2
def aiOf (ll : List Int × List Int) (s : WS) : AI := ⟨s.op, s.r, s.s, s.t, s.n, ll.1, ll.2⟩
def codeX {b : Nat} (M : Mode b) (heads : List (Nat × Nat)) (fR len : Nat) : Nat → WS × M.σ → X (List AI × (WS × M.σ))
 | 0, x => .ok ([], x)
 | m + 1, x => match instrX M heads fR (len - (m + 1)) (blank x.1, x.2) with
   | .error z => .error z
   | .ok (ll, y) => match codeX M heads fR len m y with
     | .error z => .error z
     | .ok (l, y') => .ok (aiOf ll y.1 :: l, y')
def contC {α : Type} (done : List AI) : X (List AI × α) → X (List AI × α)
 | .ok (vs, y) => .ok (done ++ vs, y)
 | .error z => .error z
theorem contC_nil {α : Type} (r : X (List AI × α)) : contC [] r = r := by cases r <;> simp [contC]
theorem contC_cons {b : Nat} (M : Mode b) (heads : List (Nat × Nat)) (fR len m : Nat) (done : List AI) (x y : WS × M.σ) (ll : List Int × List Int) (h : instrX M heads fR (len - (m + 1)) (blank x.1, x.2) = .ok (ll, y)) :
 contC done (codeX M heads fR len (m + 1) x) = contC (done ++ [aiOf ll y.1]) (codeX M heads fR len m y) := by
 simp only [codeX, h]
 cases codeX M heads fR len m y with
 | error z => rfl
 | ok p => simp [contC]
def CodeCells (w0 w : World) : List AI → List Value → Prop
 | [], cs => cs = []
 | a :: l, cs => ∃ av rv rest, cs = [vI a.op, vI a.r, vI a.s, vI a.t, vI a.n, av, rv] ++ rest ∧ NewL w0 w av a.args ∧ NewL w0 w rv a.rets ∧ CodeCells w0 w l rest
theorem CodeCells.length {w0 w : World} : ∀ {l : List AI} {cs : List Value}, CodeCells w0 w l cs → cs.length = l.length * 7
 | [], cs, h => by rw [show cs = [] from h]; rfl
 | a :: l, cs, h => by
   obtain ⟨av, rv, rest, rfl, -, -, h⟩ := h
   simp only [List.length_append, List.length_cons, List.length_nil, CodeCells.length h]
   omega
theorem CodeCells.snoc {w0 w : World} (a : AI) (av rv : Value) (ha : NewL w0 w av a.args) (hr : NewL w0 w rv a.rets) : ∀ {l : List AI} {cs : List Value}, CodeCells w0 w l cs → CodeCells w0 w (l ++ [a]) (cs ++ [vI a.op, vI a.r, vI a.s, vI a.t, vI a.n, av, rv])
 | [], cs, h => by rw [show cs = [] from h]; exact ⟨av, rv, [], rfl, ha, hr, rfl⟩
 | a' :: l, cs, h => by
   obtain ⟨av', rv', rest, rfl, h1, h2, h⟩ := h
   exact ⟨av', rv', rest ++ [vI a.op, vI a.r, vI a.s, vI a.t, vI a.n, av, rv], by simp, h1, h2, CodeCells.snoc a av rv ha hr h⟩
theorem CodeCells.fr {S : Nat → Prop} {w0 w w' : World} (f : Fr S w w') (hS : ∀ k, w0.heap.size ≤ k → k < w.heap.size → ¬ S k) : ∀ {l : List AI} {cs : List Value}, CodeCells w0 w l cs → CodeCells w0 w' l cs
 | [], _, h => h
 | _ :: _, _, h => by
   obtain ⟨av, rv, rest, e, h1, h2, h⟩ := h
   exact ⟨av, rv, rest, e, h1.fr f hS, h2.fr f hS, CodeCells.fr f hS h⟩
theorem CodeCells.mono {w0 w1 w : World} (hs : w0.heap.size ≤ w1.heap.size) : ∀ {l : List AI} {cs : List Value}, CodeCells w1 w l cs → CodeCells w0 w l cs
 | [], _, h => h
 | _ :: _, _, h => by
   obtain ⟨av, rv, rest, e, h1, h2, h⟩ := h
   exact ⟨av, rv, rest, e, h1.mono hs, h2.mono hs, CodeCells.mono hs h⟩
def z7s (n : Nat) : List Value := (List.replicate n z7).flatten
theorem z7s_length (n : Nat) : (z7s n).length = n * 7 := by
 induction n with
 | zero => rfl
 | succ n ih =>
   unfold z7s at *
   rw [List.replicate_succ, List.flatten_cons, List.length_append, ih]
   simp [z7]; omega
theorem zeros7_eq (n : Nat) : zeros7 n = (z7s n).toArray := by
 unfold zeros7 madeCells
 apply Array.ext
 ·simp [z7s_length]
 ·intro i h1 h2
  simp only [List.getElem_toArray]
  have hi : i < n * 7 := by simpa [z7s_length] using h2
  have key : ∀ (n i : Nat) (h : i < (z7s n).length), (z7s n)[i] = z7.toArray[i % 7]! := by
   intro n
   induction n with
   | zero => intro i h; simp [z7s] at h
   | succ n ih =>
     intro i h
     have e : z7s (n + 1) = z7 ++ z7s n := by unfold z7s; rw [List.replicate_succ, List.flatten_cons]
     simp only [e]
     by_cases h7 : i < 7
     ·rw [List.getElem_append_left (by simpa [z7] using h7), Nat.mod_eq_of_lt h7]
      simp [z7, getElem!_pos, h7]
     ·rw [List.getElem_append_right (by simp [z7]; omega)]
      rw [ih]
      simp only [z7, List.length_cons, List.length_nil]
      rw [show i % 7 = (i - 7) % 7 by omega]
  rw [key]
  simp [z7]
end Go.Proofs.YtingenonbkencaaDoor
