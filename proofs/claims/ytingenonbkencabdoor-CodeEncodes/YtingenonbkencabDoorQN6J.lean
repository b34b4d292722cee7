import Derived.Test.YtingenonbkencabDoorQN3J
import Derived.Test.YtingenonbkencabDoorQW4
import Derived.Test.YtingenonbkencabDoorQE6J
set_option linter.unusedVariables false
set_option linter.unusedSimpArgs false
namespace Go.Proofs.YtingenonbkencabDoor
open Go.RowKit (wrap32 wrap64)
theorem then_ok {α β : Type} {c : X α} {p : α → X β} {y : β} (h : thenX c p = .ok y) : ∃ x, c = .ok x ∧ p x = .ok y := by
 cases c with
 | ok x => exact ⟨x, rfl, h⟩
 | error z => cases h
def inFv (f : PF) (cv : Value) (s : WS) : WS := { s with fP := f.P, fR := f.R, fV := f.V, fC := cv, len := (f.code.length : Nat) }
def inIv (c : PI) (av rv : Value) (s : WS) : WS := { s with op := c.op, r := c.r, s := c.s, t := c.t, n := c.n, args := av, rets := rv }
theorem inIv_lies {w : World} {b : Nat} {s : WS} (c : PI) (av rv : Value) (h : Lies w b s) :
 Lies (((((((w.setCell ⟨b, 154, none⟩ (vI c.op)).setCell ⟨b, 155, none⟩ (vI c.r)).setCell ⟨b, 156, none⟩ (vI c.s)).setCell ⟨b, 157, none⟩ (vI c.t)).setCell ⟨b, 158, none⟩ (vI c.n)).setCell ⟨b, 159, none⟩ av).setCell ⟨b, 160, none⟩ rv) b (inIv c av rv s) := by
 have h1 := h.setCell (s' := { s with op := c.op }) 154 (vI c.op) (by kernel_rfl)
 have h2 := h1.setCell (s' := { s with op := c.op, r := c.r }) 155 (vI c.r) (by kernel_rfl)
 have h3 := h2.setCell (s' := { s with op := c.op, r := c.r, s := c.s }) 156 (vI c.s) (by kernel_rfl)
 have h4 := h3.setCell (s' := { s with op := c.op, r := c.r, s := c.s, t := c.t }) 157 (vI c.t) (by kernel_rfl)
 have h5 := h4.setCell (s' := { s with op := c.op, r := c.r, s := c.s, t := c.t, n := c.n }) 158 (vI c.n) (by kernel_rfl)
 have h6 := h5.setCell (s' := { s with op := c.op, r := c.r, s := c.s, t := c.t, n := c.n, args := av }) 159 av (by kernel_rfl)
 exact h6.setCell (s' := inIv c av rv s) 160 rv (by kernel_rfl)
theorem head_b (b : Nat) (x : WS × Unit) : (headX (leaving b) x : X (WS × Unit)) = headX (leaving 0) x := rfl
theorem instr_b (b : Nat) (heads : List (Nat × Nat)) (fR i : Nat) (la lr : List Int) (s : WS) : (instrL (b := b) heads fR i la lr s : X (WS × Unit)) = instrL (b := 0) heads fR i la lr s := rfl
theorem then_eq {c c' : X (WS × Unit)} {p p' : WS × Unit → X (WS × Unit)} (h : c = c') (hp : ∀ y, p y = p' y) : thenX c p = thenX c' p' := by
 subst h
 cases c with
 | ok y => exact hp y
 | error z => rfl
theorem headsP_b (b : Nat) : ∀ (fs : List PF) (s : WS), headsP b fs s = headsP 0 fs s
 | [], _ => rfl
 | f :: r, s => then_eq (head_b b (inF f s, ())) (fun y => headsP_b b r y.1)
theorem codeP_b (b : Nat) (heads : List (Nat × Nat)) (fR : Nat) : ∀ (l : List PI) (i : Nat) (s : WS), codeP b heads fR i l s = codeP 0 heads fR i l s
 | [], _, _ => rfl
 | c :: r, i, s => then_eq (instr_b b heads fR i c.args c.rets (inI c s)) (fun y => codeP_b b heads fR r (i + 1) y.1)
theorem funcsP_b (b : Nat) (heads : List (Nat × Nat)) : ∀ (fs : List PF) (s : WS), funcsP b heads fs s = funcsP 0 heads fs s
 | [], _ => rfl
 | f :: r, s => then_eq (codeP_b b heads f.R.toNat f.code 0 (inF f s)) (fun y => funcsP_b b heads r y.1)
theorem ask_b (b o size : Nat) (c : WS → Bool) (er : Int) (x : WS × Unit) : (askX (leaving b) o size c er x : X (WS × Unit)) = askX (leaving 0) o size c er x := rfl
theorem overP_b (b : Nat) (G : Int) (fs : List PF) (s : WS) : overP b G fs s = overP 0 G fs s :=
 then_eq (ask_b b _ _ _ _ _) (fun y => then_eq (ask_b b _ _ _ _ y) (fun y => then_eq (headsP_b b fs y.1) (fun y => funcsP_b b _ fs y.1)))
theorem sim_overP (G : Int) (fs : List PF) (s s' : WS) (h : s.bare = s'.bare) : SimX (overP 0 G fs s) (overP 0 G fs s') := by
 refine SimX.then (sim_ask (b := 0) 146 1 _ (fun _ => rfl) 18 _ _ ?_) (fun y y' hy => SimX.then (sim_ask (b := 0) 161 2 _ (fun _ => rfl) 20 y y' hy) (fun y y' hy => SimX.then (sim_headsP 0 fs y.1 y'.1 hy) (fun y y' hy => sim_funcsP 0 _ fs y.1 y'.1 hy)))
 exact (congrArg (fun t : WS => ({ t with globals := G, count := (fs.length : Nat) } : WS)) h : ({ s.bare with globals := G, count := (fs.length : Nat) } : WS) = { s'.bare with globals := G, count := (fs.length : Nat) })
def answerP (G : Int) (fs : List PF) : X (WS × Unit) := overP 0 G fs (WS.start nilS)
theorem sim_answer (b : Nat) (v : Value) (G : Int) (fs : List PF) : SimX (overP b G fs (WS.start v)) (answerP G fs) := by
 rw [overP_b]
 exact sim_overP G fs _ _ rfl
def Told (r : X (WS × Unit)) : Prop := ∀ z, r = .error z → z.1 ≠ 0
theorem told_ok (y : WS × Unit) : Told (.ok y) := fun _ h => by cases h
theorem told_then {c : X (WS × Unit)} {p : WS × Unit → X (WS × Unit)} (hc : Told c) (hp : ∀ y, Told (p y)) : Told (thenX c p) := by
 cases c with
 | ok y => exact hp y
 | error z => exact fun z' h => hc z' h
theorem told_next {b : Nat} (o size : Nat) (x : WS × Unit) : Told (nextX (leaving b) o size x) := by
 obtain ⟨s, u⟩ := x
 intro z h
 cases (L_next o size s u).symm.trans h
theorem told_ask {b : Nat} (o size : Nat) (c : WS → Bool) (er : Int) (he : er ≠ 0) (x : WS × Unit) : Told (askX (leaving b) o size c er x) := by
 obtain ⟨s, u⟩ := x
 intro z h
 have h := (L_ask o size c er s u).symm.trans h
 split at h
 ·cases h
 ·cases h; exact he
theorem told_loc {b : Nat} (n p : Int) (x : WS × Unit) : Told (locX (leaving b) n p x) := by
 intro z h
 unfold locX at h
 split at h
 ·cases h
 ·cases h; simp
theorem told_front {b : Nat} (ends makes nb : Bool) (i : Nat) (p : Int) (x : WS × Unit) : Told (frontOk (leaving b) ends makes nb i p x) := by
 intro z h
 unfold frontOk at h
 split at h
 ·cases h; simp
 ·split at h
  ·cases h; simp
  ·split at h
   ·exact told_loc (b := b) 1 p x z h
   ·cases h
theorem told_vars : ∀ (l : List Int) (x : WS × Unit), Told (varsL l x)
 | [], _ => told_ok _
 | v :: r, x => by
   refine told_then (c := oneL v x) (p := varsL r) ?_ (fun y => told_vars r y)
   intro z h
   unfold oneL at h
   split at h
   ·cases h
   ·cases h; simp
theorem told_list (n : Nat) (l : List Int) (x : WS × Unit) : Told (listL n l x) := by
 intro z h
 unfold listL at h
 split at h
 ·exact told_vars l _ z h
 ·cases h; simp
theorem told_parts {b : Nat} (op : Nat) (c : X (WS × Unit)) (h : Told c) : Told (partsX (leaving b) op c) := by
 have hv : ∀ o (y : WS × Unit), Told (varPart (leaving b) o y) := fun o y => told_ask (b := b) _ _ _ _ (by decide) y
 have hn : ∀ (y : WS × Unit), Told (intPart (leaving b) y) := fun y => told_next (b := b) _ _ y
 have hf : ∀ (y : WS × Unit), Told (fieldsPart (leaving b) y) := fun y => told_ask (b := b) _ _ _ _ (by decide) y
 have hd : ∀ (y : WS × Unit), Told (fieldPart (leaving b) y) := fun y => told_ask (b := b) _ _ _ _ (by decide) y
 have hg : ∀ (y : WS × Unit), Told (globalPart (leaving b) y) := fun y => told_ask (b := b) _ _ _ _ (by decide) y
 have ht : ∀ (y : WS × Unit), Told (targetPart (leaving b) y) := fun y => told_ask (b := b) _ _ _ _ (by decide) y
 match op with
 | 1 => exact told_then (told_then h (hv 155)) hn
 | 2 => exact told_then (told_then h (hv 155)) (hv 156)
 | 3 => exact told_then (told_then (told_then h (hv 155)) (hv 156)) (hv 157)
 | 4 => exact told_then (told_then (told_then h (hv 155)) (hv 156)) (hv 157)
 | 5 => exact told_then (told_then h (hv 155)) (hv 156)
 | 6 => exact told_then (told_then h (hv 155)) hf
 | 7 => exact told_then (told_then (told_then h (hv 155)) (hv 156)) hd
 | 8 => exact told_then (told_then (told_then h (hv 155)) (hv 156)) hd
 | 9 => exact told_then (told_then h (hv 155)) hg
 | 10 => exact told_then (told_then h (hv 156)) hg
 | 12 => exact told_then h (hv 156)
 | 13 => exact told_then h ht
 | 14 => exact told_then (told_then h (hv 156)) ht
 | 16 => exact told_then h (hv 155)
 | 17 => exact told_then (told_then (told_then h (hv 155)) (hv 156)) (hv 157)
 | 0 => exact h
 | 11 => exact h
 | 15 => exact h
 | n + 18 => exact h
theorem told_instr {b : Nat} (heads : List (Nat × Nat)) (fR i : Nat) (la lr : List Int) (s : WS) : Told (instrL (b := b) heads fR i la lr s) := by
 by_cases h1 : 1 ≤ s.op ∧ s.op ≤ 17
 ·by_cases h15 : s.op = 15
  ·intro z h
   exact told_then (told_front (b := b) _ _ _ _ _ _) (fun y => told_list fR la y) z ((instrL_15 heads fR i la lr s h15).symm.trans h)
  ·by_cases h11 : s.op = 11
   ·intro z h
    exact told_then (told_then (told_front (b := b) _ _ _ _ _ _) (fun y => told_ask (b := b) _ _ _ _ (by decide) y)) (fun y => told_then (told_list _ la y) (fun y2 => told_list _ lr y2)) z ((instrL_11 heads fR i la lr s h11).symm.trans h)
   ·intro z h
    exact told_parts (b := b) _ _ (told_front (b := b) _ _ _ _ _ _) z ((instrL_k heads fR i la lr s h1 h15 h11).symm.trans h)
 ·intro z h
  cases (instrL_no heads fR i la lr s h1).symm.trans h
  simp
theorem told_head {b : Nat} (x : WS × Unit) : Told (headX (leaving b) x) := by
 have h2 : Told _ := told_then (told_next (b := b) 149 1 x) fun y1 => told_then (told_next (b := b) 150 1 y1) fun y2 => told_then (told_next (b := b) 151 1 y2) fun y3 => told_then (told_next (b := b) 153 2 y3) fun y4 =>
  (show Told (thenX (headOk y4.1 x.1.at') fun _ => locX (leaving b) y4.1.fV x.1.at' y4) from by
    cases h : headOk y4.1 x.1.at' with
    | ok u => exact told_loc (b := b) _ _ _
    | error z =>
      intro z' hz
      cases hz
      unfold headOk at h
      repeat' split at h
      all_goals first | (cases h; simp) | cases h)
 intro z h
 exact h2 z ((headX_then (leaving b) x).symm.trans h)
theorem told_headsP (b : Nat) : ∀ (fs : List PF) (s : WS), Told (headsP b fs s)
 | [], _ => told_ok _
 | f :: r, s => told_then (told_head (b := b) _) (fun y => told_headsP b r y.1)
theorem told_codeP (b : Nat) (heads : List (Nat × Nat)) (fR : Nat) : ∀ (l : List PI) (i : Nat) (s : WS), Told (codeP b heads fR i l s)
 | [], _, _ => told_ok _
 | c :: r, i, s => told_then (told_instr (b := b) _ _ _ _ _ _) (fun y => told_codeP b heads fR r (i + 1) y.1)
theorem told_funcsP (b : Nat) (heads : List (Nat × Nat)) : ∀ (fs : List PF) (s : WS), Told (funcsP b heads fs s)
 | [], _ => told_ok _
 | f :: r, s => told_then (told_codeP b _ _ _ _ _) (fun y => told_funcsP b heads r y.1)
theorem told_overP (b : Nat) (G : Int) (fs : List PF) (s : WS) : Told (overP b G fs s) :=
 told_then (told_ask (b := b) _ _ _ _ (by decide) _) (fun y => told_then (told_ask (b := b) _ _ _ _ (by decide) y) (fun y => told_then (told_headsP b fs y.1) (fun y => told_funcsP b _ fs y.1)))
end Go.Proofs.YtingenonbkencabDoor
