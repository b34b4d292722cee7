import Derived.Test.YtingenonbkencaaDoorQS1
namespace Go.Proofs.YtingenonbkencaaDoor
open Go.RowKit (wrap32 wrap64)
set_option linter.unusedVariables false
set_option linter.unusedSimpArgs false
theorem Stb.part {E : Env} {a : Int} {c c' : X (WS × Unit)} {p p' : WS × Unit → X (WS × Unit)} (hc : Stb E st0 eq0 a c c') (h0 : 0 ≤ a)
    (hp : ∀ x x', eq0 x x' → 0 ≤ x.1.at' → x.1.at' ≤ 1000000000000000 → Stb E st0 eq0 x.1.at' (p x) (p' x')) : Stb E st0 eq0 a (thenX c p) (thenX c' p') :=
  Stb.then eq0_refl hc (fun y y' _ hq h1 h2 => hp y y' hq (by have : a ≤ y.1.at' := h1; omega) (by have := E.hL; have : y.1.at' ≤ E.bs.length := h2; omega))
theorem var_stb (E : Env) (o : Nat) (x x' : WS × Unit) (h : eq0 x x') (h0 : 0 ≤ x.1.at') (h1 : x.1.at' ≤ 1000000000000000) : Stb E st0 eq0 x.1.at' (varPart E.M o x) (varPart E.M' o x') :=
  ask_stb E o 1 _ (fun _ => rfl) 13 (by decide) x x' h h0 (by omega) (by omega)
theorem fields_stb (E : Env) (x x' : WS × Unit) (h : eq0 x x') (h0 : 0 ≤ x.1.at') (h1 : x.1.at' ≤ 1000000000000000) : Stb E st0 eq0 x.1.at' (fieldsPart E.M x) (fieldsPart E.M' x') :=
  ask_stb E 158 1 _ (fun _ => rfl) 17 (by decide) x x' h h0 (by omega) (by omega)
theorem field_stb (E : Env) (x x' : WS × Unit) (h : eq0 x x') (h0 : 0 ≤ x.1.at') (h1 : x.1.at' ≤ 1000000000000000) : Stb E st0 eq0 x.1.at' (fieldPart E.M x) (fieldPart E.M' x') :=
  ask_stb E 158 1 _ (fun _ => rfl) 17 (by decide) x x' h h0 (by omega) (by omega)
theorem global_stb (E : Env) (x x' : WS × Unit) (h : eq0 x x') (h0 : 0 ≤ x.1.at') (h1 : x.1.at' ≤ 1000000000000000) : Stb E st0 eq0 x.1.at' (globalPart E.M x) (globalPart E.M' x') :=
  ask_stb E 158 1 _ (fun _ => rfl) 18 (by decide) x x' h h0 (by omega) (by omega)
theorem target_stb (E : Env) (x x' : WS × Unit) (h : eq0 x x') (h0 : 0 ≤ x.1.at') (h1 : x.1.at' ≤ 1000000000000000) : Stb E st0 eq0 x.1.at' (targetPart E.M x) (targetPart E.M' x') :=
  ask_stb E 158 2 _ (fun _ => rfl) 16 (by decide) x x' h h0 (by omega) (by omega)
theorem int_stb (E : Env) (x x' : WS × Unit) (h : eq0 x x') (h0 : 0 ≤ x.1.at') (h1 : x.1.at' ≤ 1000000000000000) : Stb E st0 eq0 x.1.at' (intPart E.M x) (intPart E.M' x') :=
  next_stb E 158 8 x x' h h0 (by omega) (by omega)
theorem callee_stb (E : Env) (nf : Nat) (x x' : WS × Unit) (h : eq0 x x') (h0 : 0 ≤ x.1.at') (h1 : x.1.at' ≤ 1000000000000000) : Stb E st0 eq0 x.1.at' (calleePart E.M nf x) (calleePart E.M' nf x') :=
  ask_stb E 158 2 _ (fun _ => rfl) 14 (by decide) x x' h h0 (by omega) (by omega)
theorem parts_stb (E : Env) (op : Nat) {a : Int} {c c' : X (WS × Unit)} (hc : Stb E st0 eq0 a c c') (h0 : 0 ≤ a) : Stb E st0 eq0 a (partsX E.M op c) (partsX E.M' op c') := by
  match op with
  | 1 => exact ((hc.part h0 (var_stb E 155)).part h0 (int_stb E))
  | 2 => exact ((hc.part h0 (var_stb E 155)).part h0 (var_stb E 156))
  | 3 => exact (((hc.part h0 (var_stb E 155)).part h0 (var_stb E 156)).part h0 (var_stb E 157))
  | 4 => exact (((hc.part h0 (var_stb E 155)).part h0 (var_stb E 156)).part h0 (var_stb E 157))
  | 5 => exact ((hc.part h0 (var_stb E 155)).part h0 (var_stb E 156))
  | 6 => exact ((hc.part h0 (var_stb E 155)).part h0 (fields_stb E))
  | 7 => exact (((hc.part h0 (var_stb E 155)).part h0 (var_stb E 156)).part h0 (field_stb E))
  | 8 => exact (((hc.part h0 (var_stb E 155)).part h0 (var_stb E 156)).part h0 (field_stb E))
  | 9 => exact ((hc.part h0 (var_stb E 155)).part h0 (global_stb E))
  | 10 => exact ((hc.part h0 (var_stb E 156)).part h0 (global_stb E))
  | 12 => exact (hc.part h0 (var_stb E 156))
  | 13 => exact (hc.part h0 (target_stb E))
  | 14 => exact ((hc.part h0 (var_stb E 156)).part h0 (target_stb E))
  | 16 => exact (hc.part h0 (var_stb E 155))
  | 17 => exact (((hc.part h0 (var_stb E 155)).part h0 (var_stb E 156)).part h0 (var_stb E 157))
  | 0 => exact hc
  | 11 => exact hc
  | 15 => exact hc
  | n + 18 => exact hc
theorem ret_stb (E : Env) (n : Nat) {a : Int} {c c' : X (WS × Unit)} (hc : Stb E st0 eq0 a c c') (h0 : 0 ≤ a) : Stb E st1 eq1 a (retX E.M n c) (retX E.M' n c') := by
  refine Stb.then eq0_refl hc (fun y y' _ hq h1 h2 => ?_)
  refine Stb.then eq1_refl (list_stb E n [] y y' hq (by have : a ≤ y.1.at' := h1; omega) (by have := E.hL; have : y.1.at' ≤ E.bs.length := h2; omega)) (fun z z' _ hz _ hl => ?_)
  exact Stb.ok ⟨by rw [hz.1], hz.2⟩ hl rfl
theorem call_stb (E : Env) (heads : List (Nat × Nat)) {a : Int} {c c' : X (WS × Unit)} (hc : Stb E st0 eq0 a c c') (h0 : 0 ≤ a) : Stb E st1 eq1 a (callX E.M heads c) (callX E.M' heads c') := by
  have hL := E.hL
  refine Stb.then eq0_refl (hc.part h0 (callee_stb E heads.length)) (fun y y' _ hq h1 h2 => ?_)
  have hn : y'.1.n = y.1.n := (congrArg WS.n hq).symm
  have h2' : y.1.at' ≤ E.bs.length := h2
  have h1' : a ≤ y.1.at' := h1
  rw [hn]
  refine Stb.then eq1_refl (list_stb E _ [] y y' hq (by omega) (by omega)) (fun z z' _ hz h3 h4 => ?_)
  have h3' : y.1.at' ≤ z.2.1.at' := h3
  have h4' : z.2.1.at' ≤ E.bs.length := h4
  refine Stb.then eq1_refl (list_stb E _ [] z.2 z'.2 hz.2 (by omega) (by omega)) (fun u u' _ hu _ hl => ?_)
  exact Stb.ok ⟨by rw [hz.1, hu.1], hu.2⟩ hl rfl
theorem instr_stb (E : Env) (heads : List (Nat × Nat)) (fR i : Nat) (x x' : WS × Unit) (h : eq0 x x') (h0 : 0 ≤ x.1.at') (h1 : x.1.at' ≤ 1000000000000000) : Stb E st1 eq1 x.1.at' (instrX E.M heads fR i x) (instrX E.M' heads fR i x') := by
  have hL := E.hL
  refine Stb.then eq0_refl (next_stb E 154 1 x x' h h0 (by omega) (by omega)) (fun y y' hy hq k1 k2 => ?_)
  obtain ⟨e1, e2⟩ := nextX_at hy h0 (by omega) (by omega) E.hL
  have ho : y'.1.op = y.1.op := (congrArg WS.op hq).symm
  have hyl : y.1.at' ≤ E.bs.length := k2
  have hy0 : 0 ≤ y.1.at' := by omega
  have hxl : x.1.at' ≤ E.bs.length := by omega
  have hf : ∀ ends makes : Bool, Stb E st0 eq0 y.1.at' (frontOk E.M ends makes true i x.1.at' y) (frontOk E.M' ends makes true i x.1.at' y') := fun ends makes => front_stb E ends makes true i x.1.at' y y' hq hyl h0 hxl (by omega)
  rw [ho, Eqv.at h]
  refine Stb.ite Iff.rfl (fun _ => ?_) (fun _ => Stb.err (by simp) h0 hxl (by show y.1.at' ≤ x.1.at' + 5; omega) hyl)
  refine Stb.ite Iff.rfl (fun _ => ret_stb E fR (hf _ _) hy0) (fun _ => ?_)
  refine Stb.ite Iff.rfl (fun _ => call_stb E heads (hf _ _) hy0) (fun _ => ?_)
  exact Stb.then eq0_refl (parts_stb E _ (hf _ _) hy0) (fun z z' _ hz _ hl => Stb.ok ⟨rfl, hz⟩ hl rfl)
theorem Eqv.blank {s s' : WS} (h : Eqv s s') : Eqv (blank s) (blank s') := by
  have := congrArg YtingenonbkencaaDoor.blank h
  exact this
theorem codeX_then {b : Nat} (M : Mode b) (heads : List (Nat × Nat)) (fR len m : Nat) (x : WS × M.σ) : codeX M heads fR len (m + 1) x = thenX (instrX M heads fR (len - (m + 1)) (blank x.1, x.2)) fun q => thenX (codeX M heads fR len m q.2) fun q' => .ok (aiOf q.1 q.2.1 :: q'.1, q'.2) := by
  simp only [codeX, thenX]
  cases instrX M heads fR (len - (m + 1)) (blank x.1, x.2) with
  | error z => rfl
  | ok q =>
    obtain ⟨ll, y⟩ := q
    simp only
    cases codeX M heads fR len m y <;> rfl
theorem code_stb (E : Env) (heads : List (Nat × Nat)) (fR len : Nat) : ∀ (m : Nat) (x x' : WS × Unit), eq0 x x' → 0 ≤ x.1.at' → x.1.at' ≤ E.bs.length → Stb E st1 eq1 x.1.at' (codeX E.M heads fR len m x) (codeX E.M' heads fR len m x')
  | 0, x, x', h, _, hl => Stb.ok (y := ([], x)) (y' := ([], x')) ⟨rfl, h⟩ hl rfl
  | m + 1, x, x', h, h0, hl => by
    have hL := E.hL
    refine Stb.cast (codeX_then E.M heads fR len m x) (codeX_then E.M' heads fR len m x') ?_
    refine Stb.then eq1_refl (instr_stb E heads fR _ (blank x.1, x.2) (blank x'.1, x'.2) (Eqv.blank h) h0 (by show x.1.at' ≤ _; omega)) (fun y y' _ hq h1 h2 => ?_)
    have h1' : x.1.at' ≤ y.2.1.at' := h1
    refine Stb.then eq1_refl (code_stb E heads fR len m y.2 y'.2 hq.2 (by omega) h2) (fun z z' _ hz _ hzl => ?_)
    refine Stb.ok ⟨?_, hz.2⟩ hzl rfl
    have e : aiOf y'.1 y'.2.1 = aiOf y.1 y.2.1 := by
      rw [← hq.1]
      exact (congrArg (fun t : WS => aiOf y.1 t) (Eq.symm hq.2) : aiOf y.1 y'.2.1.bare = aiOf y.1 y.2.1.bare)
    rw [e, hz.1]
theorem headsX_then {b : Nat} (M : Mode b) (m : Nat) (x : WS × M.σ) : headsX M (m + 1) x = thenX (headX M x) fun y => thenX (headsX M m y) fun q => .ok (hdOf y.1 :: q.1, q.2) := by
  simp only [headsX, thenX]
  cases headX M x with
  | error z => rfl
  | ok y =>
    simp only
    cases headsX M m y <;> rfl
theorem heads_stb (E : Env) : ∀ (m : Nat) (x x' : WS × Unit), eq0 x x' → 0 ≤ x.1.at' → x.1.at' ≤ E.bs.length → Stb E st1 eq1 x.1.at' (headsX E.M m x) (headsX E.M' m x')
  | 0, x, x', h, _, hl => Stb.ok (y := ([], x)) (y' := ([], x')) ⟨rfl, h⟩ hl rfl
  | m + 1, x, x', h, h0, hl => by
    have hL := E.hL
    refine Stb.cast (headsX_then E.M m x) (headsX_then E.M' m x') ?_
    refine Stb.then eq0_refl (head_stb E x x' h h0 (by omega)) (fun y y' _ hq h1 h2 => ?_)
    have h1' : x.1.at' ≤ y.1.at' := h1
    refine Stb.then eq1_refl (heads_stb E m y y' hq (by omega) h2) (fun z z' _ hz _ hzl => ?_)
    refine Stb.ok ⟨?_, hz.2⟩ hzl rfl
    have e : hdOf y'.1 = hdOf y.1 := (congrArg hdOf (Eq.symm hq) : hdOf y'.1.bare = hdOf y.1.bare)
    rw [e, hz.1]
def inFunc (h : HD) (s : WS) : WS := { s with fP := h.P, fR := (h.R.toNat : Nat), fV := h.V, fC := .slice none 0 0, len := (h.len.toNat : Nat) }
theorem Eqv.inFunc {s s' : WS} (h : Eqv s s') (d : HD) : Eqv (inFunc d s) (inFunc d s') := by
  have := congrArg (fun t : WS => (YtingenonbkencaaDoor.inFunc d t).bare) h
  exact this
theorem funcsX_then {b : Nat} (M : Mode b) (heads : List (Nat × Nat)) (h : HD) (r : List HD) (x : WS × M.σ) : funcsX M heads (h :: r) x = thenX (codeX M heads h.R.toNat h.len.toNat h.len.toNat (inFunc h x.1, x.2)) fun q => thenX (funcsX M heads r q.2) fun q' => .ok (q.1 :: q'.1, q'.2) := by
  simp only [funcsX, thenX, inFunc]
  cases codeX M heads h.R.toNat h.len.toNat h.len.toNat ({ x.1 with fP := h.P, fR := (h.R.toNat : Nat), fV := h.V, fC := .slice none 0 0, len := (h.len.toNat : Nat) }, x.2) with
  | error z => rfl
  | ok q =>
    obtain ⟨l, y⟩ := q
    simp only
    cases funcsX M heads r y <;> rfl
theorem funcs_stb (E : Env) (heads : List (Nat × Nat)) : ∀ (l : List HD) (x x' : WS × Unit), eq0 x x' → 0 ≤ x.1.at' → x.1.at' ≤ E.bs.length → Stb E st1 eq1 x.1.at' (funcsX E.M heads l x) (funcsX E.M' heads l x')
  | [], x, x', h, _, hl => Stb.ok (y := ([], x)) (y' := ([], x')) ⟨rfl, h⟩ hl rfl
  | d :: r, x, x', h, h0, hl => by
    refine Stb.cast (funcsX_then E.M heads d r x) (funcsX_then E.M' heads d r x') ?_
    refine Stb.then eq1_refl (code_stb E heads _ _ _ (inFunc d x.1, x.2) (inFunc d x'.1, x'.2) (Eqv.inFunc h d) h0 hl) (fun y y' _ hq h1 h2 => ?_)
    have h1' : x.1.at' ≤ y.2.1.at' := h1
    refine Stb.then eq1_refl (funcs_stb E heads r y.2 y'.2 hq.2 (by omega) h2) (fun z z' _ hz _ hzl => ?_)
    exact Stb.ok ⟨by rw [hq.1, hz.1], hz.2⟩ hzl rfl
def bodyX (b : Nat) (rv : Value) (bs : List UInt8) (s : WS) (fv : Value) : X ((Int × List HD × List (List AI)) × (WS × Unit)) :=
  thenX (askX (reading b rv bs) 146 1 (fun s => decide (0 ≤ s.globals ∧ s.globals ≤ 16)) 18 (s, ())) fun y2 =>
    thenX (askX (reading b rv bs) 161 2 (fun s => decide (1 ≤ s.count ∧ s.count ≤ 65535)) 20 y2) fun y3 =>
      thenX (headsX (reading b rv bs) y3.1.count.toNat y3) fun q =>
        thenX (funcsX (reading b rv bs) (headsOf q.1) q.1 ({ q.2.1 with funcs := fv }, q.2.2)) fun q' => .ok ((y3.1.globals, q.1, q'.1), q'.2)
theorem throughX_body (b : Nat) (rv : Value) (bs : List UInt8) (s : WS) (fv : Value) : throughX b rv bs s fv = if bs.take 6 = magicL.take bs.length then thenX (bodyX b rv bs s fv) (fun q => if q.2.1.at' = bs.length then .ok q.1 else .error (22, q.2.1.at')) else .error (10, 0) := by
  unfold throughX bodyX
  split
  · cases askX (reading b rv bs) 146 1 (fun s => decide (0 ≤ s.globals ∧ s.globals ≤ 16)) 18 (s, ()) with
    | error z => rfl
    | ok y2 =>
      simp only [thenX]
      cases askX (reading b rv bs) 161 2 (fun s => decide (1 ≤ s.count ∧ s.count ≤ 65535)) 20 y2 with
      | error z => rfl
      | ok y3 =>
        simp only
        cases headsX (reading b rv bs) y3.1.count.toNat y3 with
        | error z => rfl
        | ok q =>
          obtain ⟨done, y⟩ := q
          simp only
          cases funcsX (reading b rv bs) (headsOf done) done ({ y.1 with funcs := fv }, y.2) <;> rfl
  · rfl
theorem body_stb (E : Env) (s s' : WS) (h : Eqv s s') (h6 : s.at' = 6) (fv fv' : Value) : Stb E st1 eq1 6 (bodyX E.b E.rv E.bs s fv) (bodyX E.b' E.rv' E.bs' s' fv') := by
  have hL := E.hL
  have k0 := ask_stb E 146 1 (fun s => decide (0 ≤ s.globals ∧ s.globals ≤ 16)) (fun _ => rfl) 18 (by decide) (s, ()) (s', ()) h (by show 0 ≤ s.at'; omega) (by show s.at' ≤ _; omega) (by omega)
  rw [show ((s, ()) : WS × Unit).1.at' = 6 from h6] at k0
  refine Stb.then eq0_refl k0 (fun y2 y2' _ hq2 a2 l2 => ?_)
  have a2' : 6 ≤ y2.1.at' := a2
  have l2' : y2.1.at' ≤ E.bs.length := l2
  refine Stb.then eq0_refl (ask_stb E 161 2 _ (fun _ => rfl) 20 (by decide) y2 y2' hq2 (by omega) (by omega) (by omega)) (fun y3 y3' _ hq3 a3 l3 => ?_)
  have a3' : y2.1.at' ≤ y3.1.at' := a3
  have l3' : y3.1.at' ≤ E.bs.length := l3
  have hc : y3'.1.count = y3.1.count := (congrArg WS.count hq3).symm
  have hg : y3'.1.globals = y3.1.globals := (congrArg WS.globals hq3).symm
  rw [hc, hg]
  refine Stb.then eq1_refl (heads_stb E _ y3 y3' hq3 (by omega) l3') (fun q q' _ hq a4 l4 => ?_)
  have a4' : y3.1.at' ≤ q.2.1.at' := a4
  have hqf : Eqv { q.2.1 with funcs := fv } { q'.2.1 with funcs := fv' } := hq.2
  rw [← hq.1]
  refine Stb.then eq1_refl (funcs_stb E (headsOf q.1) q.1 ({ q.2.1 with funcs := fv }, q.2.2) ({ q'.2.1 with funcs := fv' }, q'.2.2) hqf (by show 0 ≤ q.2.1.at'; omega) l4) (fun z z' _ hz _ hzl => ?_)
  exact Stb.ok ⟨by rw [hz.1], hz.2⟩ hzl rfl
theorem magic_of {bs bs' : List UInt8} {m : Nat} (h : bs.take 6 = magicL.take bs.length) (hL : 6 ≤ bs.length) (hm : 6 ≤ m) (hm' : m ≤ bs'.length) (ha : bs.take m = bs'.take m) : bs'.take 6 = magicL.take bs'.length := by
  have h1 : bs.take 6 = magicL := by rw [h]; exact List.take_of_length_le (by simpa [magicL] using hL)
  have h2 : bs'.take 6 = bs.take 6 := by
    have := congrArg (List.take 6) ha
    rw [List.take_take, List.take_take, Nat.min_eq_left hm] at this
    exact this.symm
  rw [h2, h1]
  exact (List.take_of_length_le (by simp [magicL]; omega)).symm
theorem through_stays {b b' : Nat} {rv rv' : Value} {bs bs' : List UInt8} {s s' : WS} {fv fv' : Value} {e p : Int} (hL : bs.length ≤ 1000000000000000) (hL' : bs'.length ≤ 1000000000000000)
    (hs : Eqv s s') (h6 : s.at' = 6) (h : throughX b rv bs s fv = .error (e, p)) (h10 : e ≠ 10) (h11 : e ≠ 11) (h22 : e ≠ 22) :
    0 ≤ p ∧ p ≤ bs.length ∧ ∀ m : Nat, m ≤ bs'.length → bs.take m = bs'.take m → (p + 5 ≤ m ∨ bs.length ≤ m) → throughX b' rv' bs' s' fv' = .error (e, p) := by
  rw [throughX_body] at h
  by_cases hmg : bs.take 6 = magicL.take bs.length
  · rw [if_pos hmg] at h
    have key : bodyX b rv bs s fv = .error (e, p) := by
      cases hb : bodyX b rv bs s fv with
      | error z =>
        rw [hb] at h
        simp only [thenX, Except.error.injEq] at h
        rw [h]
      | ok q =>
        rw [hb] at h
        simp only [thenX] at h
        split at h
        · cases h
        · cases h; exact absurd rfl h22
    have hE0 := body_stb ⟨b, b', rv, rv', bs, [], 0, Nat.le_refl _, hL, by simp, by simp⟩ s s' hs h6 fv fv'
    simp only [key] at hE0
    obtain ⟨k1, k2, k3, k4, -⟩ := hE0.2.2 h11
    simp only at k1 k2 k3 k4
    refine ⟨k1, k2, ?_⟩
    intro m hm ha hd
    have hE := body_stb ⟨b, b', rv, rv', bs, bs', m, hm, hL, hL', ha⟩ s s' hs h6 fv fv'
    simp only [key] at hE
    obtain ⟨-, -, -, -, k5⟩ := hE.2.2 h11
    simp only at k5
    have k6 := k5 (by omega)
    rw [throughX_body, if_pos (magic_of hmg (by omega) (by omega) hm ha), k6]
    rfl
  · rw [if_neg hmg] at h
    cases h
    exact absurd rfl h10
theorem through_same {b b' : Nat} {rv rv' : Value} {bs : List UInt8} {s s' : WS} (fv fv' : Value) (hL : bs.length ≤ 1000000000000000) (hs : Eqv s s') (h6 : s.at' = 6) :
    throughX b rv bs s fv = throughX b' rv' bs s' fv' := by
  have h6' : s'.at' = 6 := (Eqv.at hs).trans h6
  have hE := body_stb ⟨b, b', rv, rv', bs, bs, bs.length, Nat.le_refl _, hL, hL, rfl⟩ s s' hs h6 fv fv'
  have hE' := body_stb ⟨b', b, rv', rv, bs, bs, bs.length, Nat.le_refl _, hL, hL, rfl⟩ s' s (Eq.symm hs) h6' fv' fv
  simp only at hE hE'
  rw [throughX_body, throughX_body]
  cases hb : bodyX b rv bs s fv with
  | ok q =>
    rw [hb] at hE
    obtain ⟨-, k2, k3, -⟩ := hE
    obtain ⟨q', e', hq⟩ := k3 k2
    rw [e']
    simp only [thenX]
    rw [hq.1, Eqv.at hq.2]
  | error z =>
    rw [hb] at hE
    by_cases hz : z.1 = 11
    · have hp := hE.2.1 hz
      cases hb' : bodyX b' rv' bs s' fv' with
      | ok q' =>
        rw [hb', hb] at hE'
        obtain ⟨-, k2, k3, -⟩ := hE'
        obtain ⟨q, e, -⟩ := k3 k2
        cases e
      | error z' =>
        rw [hb', hb] at hE'
        by_cases hz' : z'.1 = 11
        · have hp' := hE'.2.1 hz'
          rw [show z = z' from Prod.ext (hz.trans hz'.symm) (hp.trans hp'.symm)]
        · obtain ⟨-, -, -, -, k5⟩ := hE'.2.2 hz'
          have := k5 (Or.inr (Int.le_refl _))
          cases this
          exact absurd hz hz'
    · obtain ⟨-, -, -, -, k5⟩ := hE.2.2 hz
      rw [k5 (Or.inr (Int.le_refl _))]
def decX (bs : List UInt8) : X (Int × List HD × List (List AI)) := throughX 0 nilS bs (WS.start nilS) nilS
theorem decX_eq {b : Nat} {rv : Value} {bs : List UInt8} {num fv : Value} (hL : bs.length ≤ 1000000000000000) : throughX b rv bs (WS.start num) fv = decX bs :=
  through_same _ _ hL rfl rfl
theorem decX_told {bs : List UInt8} {z : Int × Int} (hL : bs.length ≤ 1000000000000000) (h : decX bs = .error z) : z.1 ≠ 0 := by
  unfold decX at h
  rw [throughX_body] at h
  split at h
  · have hE := body_stb ⟨0, 0, nilS, nilS, bs, bs, bs.length, Nat.le_refl _, hL, hL, rfl⟩ (WS.start nilS) (WS.start nilS) rfl rfl nilS nilS
    simp only at hE
    cases hb : bodyX 0 nilS bs (WS.start nilS) nilS with
    | error z' =>
      rw [hb] at h hE
      cases h
      exact hE.1
    | ok q =>
      rw [hb] at h
      simp only [thenX] at h
      split at h
      · cases h
      · cases h; simp
  · cases h; simp
def Bd (L : Nat) {ρ : Type} (st : ρ → WS) (a : Int) (K : Nat) (r : X ρ) : Prop :=
  match r with
  | .ok y => a ≤ (st y).at' ∧ (st y).at' ≤ L ∧ (st y).at' ≤ a + K
  | .error z => z.1 ≠ 11 → z.2 ≤ a + K
theorem Bd.then {L : Nat} {ρ τ : Type} {st : ρ → WS} {st2 : τ → WS} {a : Int} {K K' : Nat} {r : X ρ} {g : ρ → X τ} (h : Bd L st a K r)
    (hg : ∀ y, r = .ok y → a ≤ (st y).at' → (st y).at' ≤ L → Bd L st2 (st y).at' K' (g y)) : Bd L st2 a (K + K') (thenX r g) := by
  cases r with
  | error z =>
    intro hz
    have h1 : z.2 ≤ a + K := h hz
    omega
  | ok y =>
    obtain ⟨h1, h2, h3⟩ := h
    have hk := hg y rfl h1 h2
    show Bd L st2 a (K + K') (g y)
    cases hgy : g y with
    | error z =>
      rw [hgy] at hk
      intro hz
      have h4 : z.2 ≤ (st y).at' + K' := hk hz
      omega
    | ok u =>
      rw [hgy] at hk
      obtain ⟨k1, k2, k3⟩ := hk
      exact ⟨by omega, k2, by omega⟩
theorem Bd.mono {L : Nat} {ρ : Type} {st : ρ → WS} {a : Int} {K K' : Nat} {r : X ρ} (h : Bd L st a K r) (hK : K ≤ K') : Bd L st a K' r := by
  cases r with
  | error z =>
    intro hz
    have h1 : z.2 ≤ a + K := h hz
    omega
  | ok y =>
    obtain ⟨h1, h2, h3⟩ := h
    exact ⟨h1, h2, by omega⟩
theorem Bd.cast {L : Nat} {ρ : Type} {st : ρ → WS} {a : Int} {K : Nat} {r s : X ρ} (h : r = s) (k : Bd L st a K s) : Bd L st a K r := by subst h; exact k
theorem Bd.ok {L : Nat} {ρ : Type} {st : ρ → WS} {a : Int} {K : Nat} {y : ρ} (ha : a = (st y).at') (hl : (st y).at' ≤ L) : Bd L st a K (.ok y) := ⟨by omega, hl, by omega⟩
theorem Bd.err {L : Nat} {ρ : Type} {st : ρ → WS} {a : Int} {K : Nat} {z : Int × Int} (h : z.2 ≤ a) : Bd L st a K (.error z : X ρ) := fun _ => by omega
section
variable {b : Nat} {rv : Value} {bs : List UInt8}
theorem next_err {o size : Nat} {x : WS × Unit} {z : Int × Int} (h : nextX (reading b rv bs) o size x = .error z) : z.1 = 11 := by
  unfold nextX at h
  split at h
  · cases h
  · rename_i z' hv
    cases h
    have hv' : (match rd bs x.1.at'.toNat size with | .ok v => Except.ok (v, ()) | .error z => .error z : X (Int × Unit)) = .error z := hv
    unfold rd at hv'
    by_cases hin : x.1.at'.toNat + size ≤ bs.length
    · rw [if_pos hin] at hv'; cases hv'
    · rw [if_neg hin] at hv'; cases hv'; rfl
theorem next_bd (hL : bs.length ≤ 1000000000000000) (o size : Nat) (x : WS × Unit) (h0 : 0 ≤ x.1.at') (h1 : x.1.at' ≤ 2000000000000000) (hs : size ≤ 8) : Bd bs.length st0 x.1.at' 8 (nextX (reading b rv bs) o size x) := by
  cases h : nextX (reading b rv bs) o size x with
  | error z => exact fun hz => absurd (next_err h) hz
  | ok y =>
    obtain ⟨e1, e2⟩ := nextX_at h h0 h1 hs hL
    exact ⟨by show x.1.at' ≤ y.1.at'; omega, by show y.1.at' ≤ _; omega, by show y.1.at' ≤ _; omega⟩
theorem next_count {x y : WS × Unit} (h : nextX (reading b rv bs) 161 1 x = .ok y) : y.1.count ≤ 255 := by
  unfold nextX at h
  split at h
  · rename_i v st hv
    have hv' : (match rd bs x.1.at'.toNat 1 with | .ok v => Except.ok (v, ()) | .error z => .error z : X (Int × Unit)) = .ok (v, st) := hv
    unfold rd at hv'
    by_cases hin : x.1.at'.toNat + 1 ≤ bs.length
    · rw [if_pos hin] at hv'
      cases hv'
      cases h
      have hlt := leAt_lt bs x.1.at'.toNat 1
      show wrap64 (leAt bs x.1.at'.toNat 1) ≤ 255
      unfold wrap64
      omega
    · rw [if_neg hin] at hv'; cases hv'
  · cases h
theorem ask_bd (hL : bs.length ≤ 1000000000000000) (o size : Nat) (c : WS → Bool) (er : Int) (x : WS × Unit) (h0 : 0 ≤ x.1.at') (h1 : x.1.at' ≤ 2000000000000000) (hs : size ≤ 8) : Bd bs.length st0 x.1.at' 8 (askX (reading b rv bs) o size c er x) := by
  refine Bd.cast (askX_then (reading b rv bs) o size c er x) (Bd.then (K' := 0) (next_bd hL o size x h0 h1 hs) fun y _ k1 k2 => ?_)
  split
  · exact Bd.ok rfl k2
  · exact Bd.err k1
theorem loc_bd (n p : Int) (x : WS × Unit) (hl : x.1.at' ≤ bs.length) (hp : p ≤ x.1.at') : Bd bs.length st0 x.1.at' 0 (locX (reading b rv bs) n p x) := by
  unfold locX
  split
  · exact Bd.ok rfl hl
  · exact Bd.err hp
theorem head_bd (hL : bs.length ≤ 1000000000000000) (x : WS × Unit) (h0 : 0 ≤ x.1.at') (h1 : x.1.at' ≤ 1000000000000000) : Bd bs.length st0 x.1.at' 32 (headX (reading b rv bs) x) := by
  refine Bd.cast (headX_then (reading b rv bs) x) (Bd.then (K' := 24) (next_bd hL 149 1 x h0 (by omega) (by omega)) fun y1 _ a1 b1 => ?_)
  have a1' : x.1.at' ≤ y1.1.at' := a1
  have b1' : y1.1.at' ≤ bs.length := b1
  refine Bd.then (K := 8) (K' := 16) (next_bd hL 150 1 y1 (by omega) (by omega) (by omega)) fun y2 _ a2 b2 => ?_
  have a2' : y1.1.at' ≤ y2.1.at' := a2
  have b2' : y2.1.at' ≤ bs.length := b2
  refine Bd.then (K := 8) (K' := 8) (next_bd hL 151 1 y2 (by omega) (by omega) (by omega)) fun y3 _ a3 b3 => ?_
  have a3' : y2.1.at' ≤ y3.1.at' := a3
  have b3' : y3.1.at' ≤ bs.length := b3
  refine Bd.then (K := 8) (K' := 0) (next_bd hL 153 2 y3 (by omega) (by omega) (by omega)) fun y4 _ a4 b4 => ?_
  have a4' : y3.1.at' ≤ y4.1.at' := a4
  have b4' : y4.1.at' ≤ bs.length := b4
  refine Bd.then (K := 0) (K' := 0) (st := fun _ => y4.1) ?_ fun _ _ _ _ => loc_bd _ _ y4 b4' (by omega)
  cases hk : headOk y4.1 x.1.at' with
  | ok u => exact Bd.ok rfl b4'
  | error z =>
    have := headOk_err hk
    exact Bd.err (by show z.2 ≤ y4.1.at'; omega)
theorem rdX_err {x : WS × Unit} {z : Int × Int} (h : rdX bs x = .error z) : z.1 = 11 := by
  unfold rdX rd at h
  by_cases hin : x.1.at'.toNat + 1 ≤ bs.length
  · rw [if_pos hin] at h; cases h
  · rw [if_neg hin] at h; cases h; rfl
theorem one_bd (old : Int) (x : WS × Unit) (h0 : 0 ≤ x.1.at') (h1 : x.1.at' ≤ 1000000000000000) : Bd bs.length st1 x.1.at' 1 (oneX (reading b rv bs) old x) := by
  refine Bd.cast (oneX_then b rv bs old x) (Bd.then (K := 1) (K' := 0) (st := st1) ?_ fun y hy k1 k2 => ?_)
  · cases h : rdX bs x with
    | error z => exact fun hz => absurd (rdX_err h) hz
    | ok q =>
      obtain ⟨e1, e2⟩ := rdX_at h h0 (by omega)
      exact ⟨by show x.1.at' ≤ q.2.1.at'; omega, by show q.2.1.at' ≤ _; omega, by show q.2.1.at' ≤ _; omega⟩
  · split
    · exact Bd.ok rfl k2
    · exact Bd.err k1
theorem vars_bd (hL : bs.length ≤ 1000000000000000) : ∀ (l : List Int) (x : WS × Unit), 0 ≤ x.1.at' → x.1.at' ≤ bs.length → Bd bs.length st1 x.1.at' l.length (varsX (reading b rv bs) l x)
  | [], x, _, hl => by
    have e : varsX (reading b rv bs) [] x = .ok ([], x) := rfl
    exact Bd.cast e (Bd.ok rfl hl)
  | old :: r, x, h0, hl => by
    refine Bd.cast (varsX_then (reading b rv bs) old r x) ?_
    refine Bd.mono (Bd.then (K := 1) (K' := r.length) (one_bd old x h0 (by omega)) fun y _ k1 k2 => ?_) (by simp only [List.length_cons]; omega)
    have k1' : x.1.at' ≤ y.2.1.at' := k1
    exact Bd.then (K := r.length) (K' := 0) (vars_bd hL r y.2 (by omega) k2) fun z _ _ hz => Bd.ok rfl hz
theorem list_bd (hL : bs.length ≤ 1000000000000000) (n : Nat) (l : List Int) (x : WS × Unit) (h0 : 0 ≤ x.1.at') (hl : x.1.at' ≤ 1000000000000000) : Bd bs.length st1 x.1.at' 263 (listX (reading b rv bs) n l x) := by
  refine Bd.cast (listX_then (reading b rv bs) n l x) ?_
  have hn := next_bd (b := b) (rv := rv) hL 161 1 ({ x.1 with count := l.length }, x.2) h0 (by show x.1.at' ≤ _; omega) (by omega)
  refine Bd.then (K := 8) (K' := 255) (a := x.1.at') hn fun y hy k1 k2 => ?_
  have k1' : x.1.at' ≤ y.1.at' := k1
  have hc := next_count hy
  split
  · rename_i e
    refine (vars_bd hL _ y (by omega) k2).mono ?_
    split
    · omega
    · rw [List.length_replicate]; omega
  · exact Bd.err k1
theorem front_bd (ends makes nb : Bool) (i : Nat) (p : Int) (y : WS × Unit) (hl : y.1.at' ≤ bs.length) (hp : p ≤ y.1.at') : Bd bs.length st0 y.1.at' 0 (frontOk (reading b rv bs) ends makes nb i p y) := by
  unfold frontOk
  split
  · exact Bd.err hp
  · split
    · exact Bd.err hp
    · split
      · exact loc_bd 1 p y hl hp
      · exact Bd.ok rfl hl
theorem Bd.part {a : Int} {K : Nat} {c : X (WS × Unit)} {p : WS × Unit → X (WS × Unit)} (hL : bs.length ≤ 1000000000000000) (hc : Bd bs.length st0 a K c) (h0 : 0 ≤ a)
    (hp : ∀ x : WS × Unit, 0 ≤ x.1.at' → x.1.at' ≤ 2000000000000000 → Bd bs.length st0 x.1.at' 8 (p x)) : Bd bs.length st0 a (K + 8) (thenX c p) :=
  Bd.then hc fun y _ h1 h2 => hp y (by have : a ≤ y.1.at' := h1; omega) (by have : y.1.at' ≤ bs.length := h2; omega)
theorem parts_bd (hL : bs.length ≤ 1000000000000000) (op : Nat) {a : Int} {K : Nat} {c : X (WS × Unit)} (hc : Bd bs.length st0 a K c) (h0 : 0 ≤ a) : Bd bs.length st0 a (K + 24) (partsX (reading b rv bs) op c) := by
  have hv : ∀ o (x : WS × Unit), 0 ≤ x.1.at' → x.1.at' ≤ 2000000000000000 → Bd bs.length st0 x.1.at' 8 (varPart (reading b rv bs) o x) := fun o x k0 k1 => ask_bd hL o 1 _ 13 x k0 k1 (by omega)
  have hf1 : ∀ (x : WS × Unit), 0 ≤ x.1.at' → x.1.at' ≤ 2000000000000000 → Bd bs.length st0 x.1.at' 8 (fieldsPart (reading b rv bs) x) := fun x k0 k1 => ask_bd hL 158 1 _ 17 x k0 k1 (by omega)
  have hf2 : ∀ (x : WS × Unit), 0 ≤ x.1.at' → x.1.at' ≤ 2000000000000000 → Bd bs.length st0 x.1.at' 8 (fieldPart (reading b rv bs) x) := fun x k0 k1 => ask_bd hL 158 1 _ 17 x k0 k1 (by omega)
  have hg : ∀ (x : WS × Unit), 0 ≤ x.1.at' → x.1.at' ≤ 2000000000000000 → Bd bs.length st0 x.1.at' 8 (globalPart (reading b rv bs) x) := fun x k0 k1 => ask_bd hL 158 1 _ 18 x k0 k1 (by omega)
  have ht : ∀ (x : WS × Unit), 0 ≤ x.1.at' → x.1.at' ≤ 2000000000000000 → Bd bs.length st0 x.1.at' 8 (targetPart (reading b rv bs) x) := fun x k0 k1 => ask_bd hL 158 2 _ 16 x k0 k1 (by omega)
  have hi : ∀ (x : WS × Unit), 0 ≤ x.1.at' → x.1.at' ≤ 2000000000000000 → Bd bs.length st0 x.1.at' 8 (intPart (reading b rv bs) x) := fun x k0 k1 => next_bd hL 158 8 x k0 k1 (by omega)
  match op with
  | 1 => exact ((hc.part hL h0 (hv 155)).part hL h0 hi).mono (by omega)
  | 2 => exact ((hc.part hL h0 (hv 155)).part hL h0 (hv 156)).mono (by omega)
  | 3 => exact (((hc.part hL h0 (hv 155)).part hL h0 (hv 156)).part hL h0 (hv 157)).mono (by omega)
  | 4 => exact (((hc.part hL h0 (hv 155)).part hL h0 (hv 156)).part hL h0 (hv 157)).mono (by omega)
  | 5 => exact ((hc.part hL h0 (hv 155)).part hL h0 (hv 156)).mono (by omega)
  | 6 => exact ((hc.part hL h0 (hv 155)).part hL h0 hf1).mono (by omega)
  | 7 => exact (((hc.part hL h0 (hv 155)).part hL h0 (hv 156)).part hL h0 hf2).mono (by omega)
  | 8 => exact (((hc.part hL h0 (hv 155)).part hL h0 (hv 156)).part hL h0 hf2).mono (by omega)
  | 9 => exact ((hc.part hL h0 (hv 155)).part hL h0 hg).mono (by omega)
  | 10 => exact ((hc.part hL h0 (hv 156)).part hL h0 hg).mono (by omega)
  | 12 => exact (hc.part hL h0 (hv 156)).mono (by omega)
  | 13 => exact (hc.part hL h0 ht).mono (by omega)
  | 14 => exact ((hc.part hL h0 (hv 156)).part hL h0 ht).mono (by omega)
  | 16 => exact (hc.part hL h0 (hv 155)).mono (by omega)
  | 17 => exact (((hc.part hL h0 (hv 155)).part hL h0 (hv 156)).part hL h0 (hv 157)).mono (by omega)
  | 0 => exact hc.mono (by omega)
  | 11 => exact hc.mono (by omega)
  | 15 => exact hc.mono (by omega)
  | n + 18 => exact hc.mono (by omega)
theorem ret_bd (hL : bs.length ≤ 1000000000000000) (n : Nat) {a : Int} {K : Nat} {c : X (WS × Unit)} (hc : Bd bs.length st0 a K c) (h0 : 0 ≤ a) : Bd bs.length st1 a (K + 263) (retX (reading b rv bs) n c) := by
  refine Bd.then hc fun y _ h1 h2 => ?_
  have h1' : a ≤ y.1.at' := h1
  have h2' : y.1.at' ≤ bs.length := h2
  exact Bd.then (K := 263) (K' := 0) (list_bd hL n [] y (by omega) (by omega)) fun z _ _ hl => Bd.ok rfl hl
theorem call_bd (hL : bs.length ≤ 1000000000000000) (heads : List (Nat × Nat)) {a : Int} {K : Nat} {c : X (WS × Unit)} (hc : Bd bs.length st0 a K c) (h0 : 0 ≤ a) : Bd bs.length st1 a (K + 8 + 526) (callX (reading b rv bs) heads c) := by
  refine Bd.then (hc.part hL h0 fun x k0 k1 => ask_bd hL 158 2 _ 14 x k0 k1 (by omega)) fun y _ h1 h2 => ?_
  have h1' : a ≤ y.1.at' := h1
  have h2' : y.1.at' ≤ bs.length := h2
  refine Bd.then (K := 263) (K' := 263) (list_bd hL _ [] y (by omega) (by omega)) fun z _ h3 h4 => ?_
  have h3' : y.1.at' ≤ z.2.1.at' := h3
  have h4' : z.2.1.at' ≤ bs.length := h4
  exact Bd.then (K := 263) (K' := 0) (list_bd hL _ [] z.2 (by omega) (by omega)) fun u _ _ hl => Bd.ok rfl hl
theorem instr_bd (hL : bs.length ≤ 1000000000000000) (heads : List (Nat × Nat)) (fR i : Nat) (x : WS × Unit) (h0 : 0 ≤ x.1.at') (h1 : x.1.at' ≤ 1000000000000000) : Bd bs.length st1 x.1.at' 600 (instrX (reading b rv bs) heads fR i x) := by
  refine Bd.then (K := 8) (K' := 592) (next_bd hL 154 1 x h0 (by omega) (by omega)) fun y hy k1 k2 => ?_
  have k1' : x.1.at' ≤ y.1.at' := k1
  have hy0 : 0 ≤ y.1.at' := by omega
  have hf : ∀ ends makes : Bool, Bd bs.length st0 y.1.at' 0 (frontOk (reading b rv bs) ends makes true i x.1.at' y) := fun ends makes => front_bd ends makes true i x.1.at' y k2 k1'
  split
  · split
    · exact (ret_bd hL fR (hf _ _) hy0).mono (by omega)
    · split
      · exact (call_bd hL heads (hf _ _) hy0).mono (by omega)
      · refine Bd.mono (K := 24 + 0) ?_ (by omega)
        exact Bd.then (K := 24) (K' := 0) (Bd.mono (K := 0 + 24) (parts_bd hL _ (hf _ _) hy0) (by omega)) fun z _ _ hl => Bd.ok rfl hl
  · exact Bd.err k1'
theorem code_bd (hL : bs.length ≤ 1000000000000000) (heads : List (Nat × Nat)) (fR len : Nat) : ∀ (m : Nat) (x : WS × Unit), 0 ≤ x.1.at' → x.1.at' ≤ bs.length → Bd bs.length st1 x.1.at' (m * 600) (codeX (reading b rv bs) heads fR len m x)
  | 0, x, _, hl => Bd.ok (y := ([], x)) rfl hl
  | m + 1, x, h0, hl => by
    refine Bd.cast (codeX_then (reading b rv bs) heads fR len m x) ?_
    have hi := instr_bd (b := b) (rv := rv) hL heads fR (len - (m + 1)) (blank x.1, x.2) h0 (by show x.1.at' ≤ _; omega)
    refine Bd.mono (Bd.then (K := 600) (K' := m * 600) (a := x.1.at') hi fun y _ k1 k2 => ?_) (by omega)
    have k1' : x.1.at' ≤ y.2.1.at' := k1
    refine Bd.mono (Bd.then (K := m * 600) (K' := 0) (code_bd hL heads fR len m y.2 (by omega) k2) fun z _ _ hz => Bd.ok rfl hz) (by omega)
theorem heads_bd (hL : bs.length ≤ 1000000000000000) : ∀ (m : Nat) (x : WS × Unit), 0 ≤ x.1.at' → x.1.at' ≤ bs.length → Bd bs.length st1 x.1.at' (m * 32) (headsX (reading b rv bs) m x)
  | 0, x, _, hl => Bd.ok (y := ([], x)) rfl hl
  | m + 1, x, h0, hl => by
    refine Bd.cast (headsX_then (reading b rv bs) m x) ?_
    refine Bd.mono (Bd.then (K := 32) (K' := m * 32) (head_bd hL x h0 (by omega)) fun y _ k1 k2 => ?_) (by omega)
    have k1' : x.1.at' ≤ y.1.at' := k1
    refine Bd.mono (Bd.then (K := m * 32) (K' := 0) (heads_bd hL m y (by omega) k2) fun z _ _ hz => Bd.ok rfl hz) (by omega)
theorem head_len {x y : WS × Unit} (h : headX (reading b rv bs) x = .ok y) : y.1.len ≤ 4096 := by
  have h := (headX_then (reading b rv bs) x).symm.trans h
  obtain ⟨y1, -, h⟩ := thenX_ok h
  obtain ⟨y2, -, h⟩ := thenX_ok h
  obtain ⟨y3, -, h⟩ := thenX_ok h
  obtain ⟨y4, -, h⟩ := thenX_ok h
  obtain ⟨u, hu, h⟩ := thenX_ok h
  have h4 : y4.1.len ≤ 4096 := by
    unfold headOk at hu
    repeat' split at hu
    all_goals first | (cases hu; done) | omega
  unfold locX at h
  split at h
  · cases h; exact h4
  · cases h
theorem heads_len : ∀ (m : Nat) (x : WS × Unit) (q : List HD × (WS × Unit)), headsX (reading b rv bs) m x = .ok q → q.1.length = m ∧ ∀ h ∈ q.1, h.len ≤ 4096
  | 0, x, q, h => by
    have e : headsX (reading b rv bs) 0 x = .ok ([], x) := rfl
    rw [e] at h
    cases h
    exact ⟨rfl, fun h hh => by cases hh⟩
  | m + 1, x, q, h => by
    have h := (headsX_then (reading b rv bs) m x).symm.trans h
    obtain ⟨y, hy, h⟩ := thenX_ok h
    obtain ⟨r, hr, h⟩ := thenX_ok h
    obtain ⟨h1, h2⟩ := heads_len m y r hr
    cases h
    refine ⟨by simp [h1], fun d hd => ?_⟩
    rcases List.mem_cons.1 hd with rfl | hd
    · exact head_len hy
    · exact h2 d hd
theorem funcs_bd (hL : bs.length ≤ 1000000000000000) (heads : List (Nat × Nat)) : ∀ (l : List HD) (x : WS × Unit), (∀ h ∈ l, h.len ≤ 4096) → 0 ≤ x.1.at' → x.1.at' ≤ bs.length → Bd bs.length st1 x.1.at' (l.length * 2457600) (funcsX (reading b rv bs) heads l x)
  | [], x, _, _, hl => Bd.ok (y := ([], x)) rfl hl
  | d :: r, x, hd, h0, hl => by
    have h4 := hd d List.mem_cons_self
    refine Bd.cast (funcsX_then (reading b rv bs) heads d r x) ?_
    have hi := code_bd (b := b) (rv := rv) hL heads d.R.toNat d.len.toNat d.len.toNat (inFunc d x.1, x.2) h0 hl
    refine Bd.mono (Bd.then (K := 2457600) (K' := r.length * 2457600) (a := x.1.at') (hi.mono (by omega)) fun y _ k1 k2 => ?_) (by simp only [List.length_cons]; omega)
    have k1' : x.1.at' ≤ y.2.1.at' := k1
    refine Bd.mono (Bd.then (K := r.length * 2457600) (K' := 0) (funcs_bd hL heads r y.2 (fun h hh => hd h (List.mem_cons_of_mem _ hh)) (by omega) k2) fun z _ _ hz => Bd.ok rfl hz) (by omega)
theorem body_bd (hL : bs.length ≤ 1000000000000000) (s : WS) (h6 : s.at' = 6) (fv : Value) : Bd bs.length st1 6 200000000000 (bodyX b rv bs s fv) := by
  have k0 := ask_bd (b := b) (rv := rv) hL 146 1 (fun s => decide (0 ≤ s.globals ∧ s.globals ≤ 16)) 18 (s, ()) (by show 0 ≤ s.at'; omega) (by show s.at' ≤ _; omega) (by omega)
  rw [show ((s, ()) : WS × Unit).1.at' = 6 from h6] at k0
  refine Bd.mono (Bd.then (K := 8) (K' := 180000000000) k0 fun y2 _ a2 l2 => ?_) (by omega)
  have a2' : 6 ≤ y2.1.at' := a2
  have l2' : y2.1.at' ≤ bs.length := l2
  refine Bd.mono (Bd.then (K := 8) (K' := 170000000000) (ask_bd hL 161 2 _ 20 y2 (by omega) (by omega) (by omega)) fun y3 hy3 a3 l3 => ?_) (by omega)
  have a3' : y2.1.at' ≤ y3.1.at' := a3
  have l3' : y3.1.at' ≤ bs.length := l3
  have hc : y3.1.count ≤ 65535 := by
    have hy3 := (askX_then (reading b rv bs) 161 2 (fun s => decide (1 ≤ s.count ∧ s.count ≤ 65535)) 20 y2).symm.trans hy3
    obtain ⟨y, -, h⟩ := thenX_ok hy3
    split at h
    · rename_i hd
      cases h
      exact (of_decide_eq_true hd).2
    · cases h
  refine Bd.mono (Bd.then (K := 2097120) (K' := 161058816000) ((heads_bd hL _ y3 (by omega) l3').mono (by omega)) fun q hq a4 l4 => ?_) (by omega)
  have a4' : y3.1.at' ≤ q.2.1.at' := a4
  obtain ⟨e1, e2⟩ := heads_len _ _ _ hq
  have hi := funcs_bd (b := b) (rv := rv) hL (headsOf q.1) q.1 ({ q.2.1 with funcs := fv }, q.2.2) e2 (by show 0 ≤ q.2.1.at'; omega) l4
  exact Bd.then (K := 161058816000) (K' := 0) (a := q.2.1.at') (hi.mono (by omega)) fun z _ _ hz => Bd.ok rfl hz
end
theorem decX_far {bs : List UInt8} {e p : Int} (hL : bs.length ≤ 1000000000000000) (h : decX bs = .error (e, p)) (h10 : e ≠ 10) (h11 : e ≠ 11) (h22 : e ≠ 22) : p ≤ 200000000006 := by
  unfold decX at h
  rw [throughX_body] at h
  split at h
  · have hE := body_bd (b := 0) (rv := nilS) hL (WS.start nilS) rfl nilS
    cases hb : bodyX 0 nilS bs (WS.start nilS) nilS with
    | error z =>
      rw [hb] at h hE
      cases h
      have : p ≤ 6 + (200000000000 : Nat) := hE h11
      omega
    | ok q =>
      rw [hb] at h
      simp only [thenX] at h
      split at h
      · cases h
      · cases h; exact absurd rfl h22
  · cases h; exact absurd rfl h10
end Go.Proofs.YtingenonbkencaaDoor
