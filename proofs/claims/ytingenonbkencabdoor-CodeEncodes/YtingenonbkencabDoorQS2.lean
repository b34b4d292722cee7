import Derived.Test.YtingenonbkencabDoorQS1
set_option linter.unusedVariables false
set_option linter.unusedSimpArgs false
namespace Go.Proofs.YtingenonbkencabDoor
open Go.RowKit (wrap32 wrap64)
theorem Stb.part {E : Env} {a : Int} {c c' : X (WS × Unit)} {p p' : WS × Unit → X (WS × Unit)} (hc : Stb E st0 eq0 a c c') (h0 : 0 ≤ a)
 (hp : ∀ x x', eq0 x x' → 0 ≤ x.1.at' → x.1.at' ≤ 1000000000000000 → Stb E st0 eq0 x.1.at' (p x) (p' x')) : Stb E st0 eq0 a (thenX c p) (thenX c' p') :=
 Stb.then eq0_refl hc (fun y y' _ hq h1 h2 => hp y y' hq (by have : a ≤ y.1.at' := h1; omega) (by have := E.hL; have : y.1.at' ≤ E.bs.length := h2; omega))
theorem var_stb (E : Env) (o : Nat) (x x' : WS × Unit) (h : eq0 x x') (h0 : 0 ≤ x.1.at') (h1 : x.1.at' ≤ 1000000000000000) : Stb E st0 eq0 x.1.at' (varPart E.M o x) (varPart E.M' o x') :=
 ask_stb E o 1 _ (fun _ => rfl) 13 (by decide) x x' h h0 (by omega) (by omega)
theorem fields_stb (E : Env) (x x' : WS × Unit) (h : eq0 x x') (h0 : 0 ≤ x.1.at') (h1 : x.1.at' ≤ 1000000000000000) : Stb E st0 eq0 x.1.at' (fieldsPart E.M x) (fieldsPart E.M' x') :=
 ask_stb E 158 1 _ (fun _ => rfl) 17 (by decide) x x' h h0 (by omega) (by omega)
theorem field_stb (E : Env) (x x' : WS × Unit) (h : eq0 x x') (h0 : 0 ≤ x.1.at') (h1 : x.1.at' ≤ 1000000000000000) : Stb E st0 eq0 x.1.at' (fieldPart E.M x) (fieldPart E.M' x') :=
 ask_stb E 158 1 _ (fun _ => rfl) 17 (by decide) x x' h h0 (by omega) (by omega)
theorem global_stb (E : Env) (x x' : WS × Unit) (h : eq0 x x') (h0 : 0 ≤ x.1.at') (h1 : x.1.at' ≤ 1000000000000000) : Stb E st0 eq0 x.1.at' (globalPart E.M x) (globalPart E.M' x') :=
 ask_stb E 158 1 _ (fun _ => rfl) 18 (by decide) x x' h h0 (by omega) (by omega)
theorem target_stb (E : Env) (x x' : WS × Unit) (h : eq0 x x') (h0 : 0 ≤ x.1.at') (h1 : x.1.at' ≤ 1000000000000000) : Stb E st0 eq0 x.1.at' (targetPart E.M x) (targetPart E.M' x') :=
 ask_stb E 158 2 _ (fun _ => rfl) 16 (by decide) x x' h h0 (by omega) (by omega)
theorem int_stb (E : Env) (x x' : WS × Unit) (h : eq0 x x') (h0 : 0 ≤ x.1.at') (h1 : x.1.at' ≤ 1000000000000000) : Stb E st0 eq0 x.1.at' (intPart E.M x) (intPart E.M' x') :=
 next_stb E 158 8 x x' h h0 (by omega) (by omega)
theorem callee_stb (E : Env) (nf : Nat) (x x' : WS × Unit) (h : eq0 x x') (h0 : 0 ≤ x.1.at') (h1 : x.1.at' ≤ 1000000000000000) : Stb E st0 eq0 x.1.at' (calleePart E.M nf x) (calleePart E.M' nf x') :=
 ask_stb E 158 2 _ (fun _ => rfl) 14 (by decide) x x' h h0 (by omega) (by omega)
theorem parts_stb (E : Env) (op : Nat) {a : Int} {c c' : X (WS × Unit)} (hc : Stb E st0 eq0 a c c') (h0 : 0 ≤ a) : Stb E st0 eq0 a (partsX E.M op c) (partsX E.M' op c') := by
 match op with
 | 1 => exact ((hc.part h0 (var_stb E 155)).part h0 (int_stb E))
 | 2 => exact ((hc.part h0 (var_stb E 155)).part h0 (var_stb E 156))
 | 3 => exact (((hc.part h0 (var_stb E 155)).part h0 (var_stb E 156)).part h0 (var_stb E 157))
 | 4 => exact (((hc.part h0 (var_stb E 155)).part h0 (var_stb E 156)).part h0 (var_stb E 157))
 | 5 => exact ((hc.part h0 (var_stb E 155)).part h0 (var_stb E 156))
 | 6 => exact ((hc.part h0 (var_stb E 155)).part h0 (fields_stb E))
 | 7 => exact (((hc.part h0 (var_stb E 155)).part h0 (var_stb E 156)).part h0 (field_stb E))
 | 8 => exact (((hc.part h0 (var_stb E 155)).part h0 (var_stb E 156)).part h0 (field_stb E))
 | 9 => exact ((hc.part h0 (var_stb E 155)).part h0 (global_stb E))
 | 10 => exact ((hc.part h0 (var_stb E 156)).part h0 (global_stb E))
 | 12 => exact (hc.part h0 (var_stb E 156))
 | 13 => exact (hc.part h0 (target_stb E))
 | 14 => exact ((hc.part h0 (var_stb E 156)).part h0 (target_stb E))
 | 16 => exact (hc.part h0 (var_stb E 155))
 | 17 => exact (((hc.part h0 (var_stb E 155)).part h0 (var_stb E 156)).part h0 (var_stb E 157))
 | 0 => exact hc
 | 11 => exact hc
 | 15 => exact hc
 | n + 18 => exact hc
theorem ret_stb (E : Env) (n : Nat) {a : Int} {c c' : X (WS × Unit)} (hc : Stb E st0 eq0 a c c') (h0 : 0 ≤ a) : Stb E st1 eq1 a (retX E.M n c) (retX E.M' n c') := by
 refine Stb.then eq0_refl hc (fun y y' _ hq h1 h2 => ?_)
 refine Stb.then eq1_refl (list_stb E n [] y y' hq (by have : a ≤ y.1.at' := h1; omega) (by have := E.hL; have : y.1.at' ≤ E.bs.length := h2; omega)) (fun z z' _ hz _ hl => ?_)
 exact Stb.ok ⟨by rw [hz.1], hz.2⟩ hl rfl
theorem call_stb (E : Env) (heads : List (Nat × Nat)) {a : Int} {c c' : X (WS × Unit)} (hc : Stb E st0 eq0 a c c') (h0 : 0 ≤ a) : Stb E st1 eq1 a (callX E.M heads c) (callX E.M' heads c') := by
 have hL := E.hL
 refine Stb.then eq0_refl (hc.part h0 (callee_stb E heads.length)) (fun y y' _ hq h1 h2 => ?_)
 have hn : y'.1.n = y.1.n := (congrArg WS.n hq).symm
 have h2' : y.1.at' ≤ E.bs.length := h2
 have h1' : a ≤ y.1.at' := h1
 rw [hn]
 refine Stb.then eq1_refl (list_stb E _ [] y y' hq (by omega) (by omega)) (fun z z' _ hz h3 h4 => ?_)
 have h3' : y.1.at' ≤ z.2.1.at' := h3
 have h4' : z.2.1.at' ≤ E.bs.length := h4
 refine Stb.then eq1_refl (list_stb E _ [] z.2 z'.2 hz.2 (by omega) (by omega)) (fun u u' _ hu _ hl => ?_)
 exact Stb.ok ⟨by rw [hz.1, hu.1], hu.2⟩ hl rfl
theorem instr_stb (E : Env) (heads : List (Nat × Nat)) (fR i : Nat) (x x' : WS × Unit) (h : eq0 x x') (h0 : 0 ≤ x.1.at') (h1 : x.1.at' ≤ 1000000000000000) : Stb E st1 eq1 x.1.at' (instrX E.M heads fR i x) (instrX E.M' heads fR i x') := by
 have hL := E.hL
 refine Stb.then eq0_refl (next_stb E 154 1 x x' h h0 (by omega) (by omega)) (fun y y' hy hq k1 k2 => ?_)
 obtain ⟨e1, e2⟩ := nextX_at hy h0 (by omega) (by omega) E.hL
 have ho : y'.1.op = y.1.op := (congrArg WS.op hq).symm
 have hyl : y.1.at' ≤ E.bs.length := k2
 have hy0 : 0 ≤ y.1.at' := by omega
 have hxl : x.1.at' ≤ E.bs.length := by omega
 have hf : ∀ ends makes : Bool, Stb E st0 eq0 y.1.at' (frontOk E.M ends makes true i x.1.at' y) (frontOk E.M' ends makes true i x.1.at' y') := fun ends makes => front_stb E ends makes true i x.1.at' y y' hq hyl h0 hxl (by omega)
 rw [ho, Eqv.at h]
 refine Stb.ite Iff.rfl (fun _ => ?_) (fun _ => Stb.err (by simp) h0 hxl (by show y.1.at' ≤ x.1.at' + 5; omega) hyl)
 refine Stb.ite Iff.rfl (fun _ => ret_stb E fR (hf _ _) hy0) (fun _ => ?_)
 refine Stb.ite Iff.rfl (fun _ => call_stb E heads (hf _ _) hy0) (fun _ => ?_)
 exact Stb.then eq0_refl (parts_stb E _ (hf _ _) hy0) (fun z z' _ hz _ hl => Stb.ok ⟨rfl, hz⟩ hl rfl)
theorem Eqv.blank {s s' : WS} (h : Eqv s s') : Eqv (blank s) (blank s') := by
 have := congrArg YtingenonbkencabDoor.blank h
 exact this
theorem codeX_then {b : Nat} (M : Mode b) (heads : List (Nat × Nat)) (fR len m : Nat) (x : WS × M.σ) : codeX M heads fR len (m + 1) x = thenX (instrX M heads fR (len - (m + 1)) (blank x.1, x.2)) fun q => thenX (codeX M heads fR len m q.2) fun q' => .ok (aiOf q.1 q.2.1 :: q'.1, q'.2) := by
 simp only [codeX, thenX]
 cases instrX M heads fR (len - (m + 1)) (blank x.1, x.2) with
 | error z => rfl
 | ok q =>
   obtain ⟨ll, y⟩ := q
   simp only
   cases codeX M heads fR len m y <;> rfl
theorem code_stb (E : Env) (heads : List (Nat × Nat)) (fR len : Nat) : ∀ (m : Nat) (x x' : WS × Unit), eq0 x x' → 0 ≤ x.1.at' → x.1.at' ≤ E.bs.length → Stb E st1 eq1 x.1.at' (codeX E.M heads fR len m x) (codeX E.M' heads fR len m x')
 | 0, x, x', h, _, hl => Stb.ok (y := ([], x)) (y' := ([], x')) ⟨rfl, h⟩ hl rfl
 | m + 1, x, x', h, h0, hl => by
   have hL := E.hL
   refine Stb.cast (codeX_then E.M heads fR len m x) (codeX_then E.M' heads fR len m x') ?_
   refine Stb.then eq1_refl (instr_stb E heads fR _ (blank x.1, x.2) (blank x'.1, x'.2) (Eqv.blank h) h0 (by show x.1.at' ≤ _; omega)) (fun y y' _ hq h1 h2 => ?_)
   have h1' : x.1.at' ≤ y.2.1.at' := h1
   refine Stb.then eq1_refl (code_stb E heads fR len m y.2 y'.2 hq.2 (by omega) h2) (fun z z' _ hz _ hzl => ?_)
   refine Stb.ok ⟨?_, hz.2⟩ hzl rfl
   have e : aiOf y'.1 y'.2.1 = aiOf y.1 y.2.1 := by
    rw [← hq.1]
    exact (congrArg (fun t : WS => aiOf y.1 t) (Eq.symm hq.2) : aiOf y.1 y'.2.1.bare = aiOf y.1 y.2.1.bare)
   rw [e, hz.1]
theorem headsX_then {b : Nat} (M : Mode b) (m : Nat) (x : WS × M.σ) : headsX M (m + 1) x = thenX (headX M x) fun y => thenX (headsX M m y) fun q => .ok (hdOf y.1 :: q.1, q.2) := by
 simp only [headsX, thenX]
 cases headX M x with
 | error z => rfl
 | ok y =>
   simp only
   cases headsX M m y <;> rfl
theorem heads_stb (E : Env) : ∀ (m : Nat) (x x' : WS × Unit), eq0 x x' → 0 ≤ x.1.at' → x.1.at' ≤ E.bs.length → Stb E st1 eq1 x.1.at' (headsX E.M m x) (headsX E.M' m x')
 | 0, x, x', h, _, hl => Stb.ok (y := ([], x)) (y' := ([], x')) ⟨rfl, h⟩ hl rfl
 | m + 1, x, x', h, h0, hl => by
   have hL := E.hL
   refine Stb.cast (headsX_then E.M m x) (headsX_then E.M' m x') ?_
   refine Stb.then eq0_refl (head_stb E x x' h h0 (by omega)) (fun y y' _ hq h1 h2 => ?_)
   have h1' : x.1.at' ≤ y.1.at' := h1
   refine Stb.then eq1_refl (heads_stb E m y y' hq (by omega) h2) (fun z z' _ hz _ hzl => ?_)
   refine Stb.ok ⟨?_, hz.2⟩ hzl rfl
   have e : hdOf y'.1 = hdOf y.1 := (congrArg hdOf (Eq.symm hq) : hdOf y'.1.bare = hdOf y.1.bare)
   rw [e, hz.1]
def inFunc (h : HD) (s : WS) : WS := { s with fP := h.P, fR := (h.R.toNat : Nat), fV := h.V, fC := .slice none 0 0, len := (h.len.toNat : Nat) }
theorem Eqv.inFunc {s s' : WS} (h : Eqv s s') (d : HD) : Eqv (inFunc d s) (inFunc d s') := by
 have := congrArg (fun t : WS => (YtingenonbkencabDoor.inFunc d t).bare) h
 exact this
theorem funcsX_then {b : Nat} (M : Mode b) (heads : List (Nat × Nat)) (h : HD) (r : List HD) (x : WS × M.σ) : funcsX M heads (h :: r) x = thenX (codeX M heads h.R.toNat h.len.toNat h.len.toNat (inFunc h x.1, x.2)) fun q => thenX (funcsX M heads r q.2) fun q' => .ok (q.1 :: q'.1, q'.2) := by
 simp only [funcsX, thenX, inFunc]
 cases codeX M heads h.R.toNat h.len.toNat h.len.toNat ({ x.1 with fP := h.P, fR := (h.R.toNat : Nat), fV := h.V, fC := .slice none 0 0, len := (h.len.toNat : Nat) }, x.2) with
 | error z => rfl
 | ok q =>
   obtain ⟨l, y⟩ := q
   simp only
   cases funcsX M heads r y <;> rfl
theorem funcs_stb (E : Env) (heads : List (Nat × Nat)) : ∀ (l : List HD) (x x' : WS × Unit), eq0 x x' → 0 ≤ x.1.at' → x.1.at' ≤ E.bs.length → Stb E st1 eq1 x.1.at' (funcsX E.M heads l x) (funcsX E.M' heads l x')
 | [], x, x', h, _, hl => Stb.ok (y := ([], x)) (y' := ([], x')) ⟨rfl, h⟩ hl rfl
 | d :: r, x, x', h, h0, hl => by
   refine Stb.cast (funcsX_then E.M heads d r x) (funcsX_then E.M' heads d r x') ?_
   refine Stb.then eq1_refl (code_stb E heads _ _ _ (inFunc d x.1, x.2) (inFunc d x'.1, x'.2) (Eqv.inFunc h d) h0 hl) (fun y y' _ hq h1 h2 => ?_)
   have h1' : x.1.at' ≤ y.2.1.at' := h1
   refine Stb.then eq1_refl (funcs_stb E heads r y.2 y'.2 hq.2 (by omega) h2) (fun z z' _ hz _ hzl => ?_)
   exact Stb.ok ⟨by rw [hq.1, hz.1], hz.2⟩ hzl rfl
def bodyX (b : Nat) (rv : Value) (bs : List UInt8) (s : WS) (fv : Value) : X ((Int × List HD × List (List AI)) × (WS × Unit)) :=
 thenX (askX (reading b rv bs) 146 1 (fun s => decide (0 ≤ s.globals ∧ s.globals ≤ 16)) 18 (s, ())) fun y2 =>
  thenX (askX (reading b rv bs) 161 2 (fun s => decide (1 ≤ s.count ∧ s.count ≤ 65535)) 20 y2) fun y3 =>
   thenX (headsX (reading b rv bs) y3.1.count.toNat y3) fun q =>
    thenX (funcsX (reading b rv bs) (headsOf q.1) q.1 ({ q.2.1 with funcs := fv }, q.2.2)) fun q' => .ok ((y3.1.globals, q.1, q'.1), q'.2)
theorem throughX_body (b : Nat) (rv : Value) (bs : List UInt8) (s : WS) (fv : Value) : throughX b rv bs s fv = if bs.take 6 = magicL.take bs.length then thenX (bodyX b rv bs s fv) (fun q => if q.2.1.at' = bs.length then .ok q.1 else .error (22, q.2.1.at')) else .error (10, 0) := by
 unfold throughX bodyX
 split
 ·cases askX (reading b rv bs) 146 1 (fun s => decide (0 ≤ s.globals ∧ s.globals ≤ 16)) 18 (s, ()) with
  | error z => rfl
  | ok y2 =>
    simp only [thenX]
    cases askX (reading b rv bs) 161 2 (fun s => decide (1 ≤ s.count ∧ s.count ≤ 65535)) 20 y2 with
    | error z => rfl
    | ok y3 =>
      simp only
      cases headsX (reading b rv bs) y3.1.count.toNat y3 with
      | error z => rfl
      | ok q =>
        obtain ⟨done, y⟩ := q
        simp only
        cases funcsX (reading b rv bs) (headsOf done) done ({ y.1 with funcs := fv }, y.2) <;> rfl
 ·rfl
theorem body_stb (E : Env) (s s' : WS) (h : Eqv s s') (h6 : s.at' = 6) (fv fv' : Value) : Stb E st1 eq1 6 (bodyX E.b E.rv E.bs s fv) (bodyX E.b' E.rv' E.bs' s' fv') := by
 have hL := E.hL
 have k0 := ask_stb E 146 1 (fun s => decide (0 ≤ s.globals ∧ s.globals ≤ 16)) (fun _ => rfl) 18 (by decide) (s, ()) (s', ()) h (by show 0 ≤ s.at'; omega) (by show s.at' ≤ _; omega) (by omega)
 rw [show ((s, ()) : WS × Unit).1.at' = 6 from h6] at k0
 refine Stb.then eq0_refl k0 (fun y2 y2' _ hq2 a2 l2 => ?_)
 have a2' : 6 ≤ y2.1.at' := a2
 have l2' : y2.1.at' ≤ E.bs.length := l2
 refine Stb.then eq0_refl (ask_stb E 161 2 _ (fun _ => rfl) 20 (by decide) y2 y2' hq2 (by omega) (by omega) (by omega)) (fun y3 y3' _ hq3 a3 l3 => ?_)
 have a3' : y2.1.at' ≤ y3.1.at' := a3
 have l3' : y3.1.at' ≤ E.bs.length := l3
 have hc : y3'.1.count = y3.1.count := (congrArg WS.count hq3).symm
 have hg : y3'.1.globals = y3.1.globals := (congrArg WS.globals hq3).symm
 rw [hc, hg]
 refine Stb.then eq1_refl (heads_stb E _ y3 y3' hq3 (by omega) l3') (fun q q' _ hq a4 l4 => ?_)
 have a4' : y3.1.at' ≤ q.2.1.at' := a4
 have hqf : Eqv { q.2.1 with funcs := fv } { q'.2.1 with funcs := fv' } := hq.2
 rw [← hq.1]
 refine Stb.then eq1_refl (funcs_stb E (headsOf q.1) q.1 ({ q.2.1 with funcs := fv }, q.2.2) ({ q'.2.1 with funcs := fv' }, q'.2.2) hqf (by show 0 ≤ q.2.1.at'; omega) l4) (fun z z' _ hz _ hzl => ?_)
 exact Stb.ok ⟨by rw [hz.1], hz.2⟩ hzl rfl
end Go.Proofs.YtingenonbkencabDoor
