import Derived.Test.YtlmlmhinbkcpoaaDoorQN7J
namespace Go.Proofs.YtlmlmhinbkcpoaaDoor
open Go.RowKit (wrap32 wrap64)
set_option linter.unusedVariables false
set_option linter.unusedSimpArgs false

/-! ### What is known of a function that Check lets by -/
abbrev InV (V v : Int) : Prop := 0 ≤ v ∧ v ≤ IntKind.i64.wrap (V - 1)
/-- What a step of the walk leaves as it was. -/
structure Sme (s y : WS) : Prop where
  gV : y.fV = s.fV
  gr : y.r = s.r
  gs : y.s = s.s
  gt : y.t = s.t
  gn : y.n = s.n
theorem Sme.refl (s : WS) : Sme s s := ⟨rfl, rfl, rfl, rfl, rfl⟩
theorem Sme.trans {a b c : WS} (h : Sme a b) (k : Sme b c) : Sme a c := ⟨k.gV.trans h.gV, k.gr.trans h.gr, k.gs.trans h.gs, k.gt.trans h.gt, k.gn.trans h.gn⟩
section
variable {b : Nat} {y : WS × Unit} {x : WS × Unit}
theorem ask_okL {o size : Nat} {c : WS → Bool} {er : Int} (h : askX (leaving b) o size c er x = .ok y) : c { x.1 with at' := adv x.1.at' size } = true ∧ Sme x.1 y.1 := by
  obtain ⟨s, u⟩ := x
  have h := (L_ask o size c er s u).symm.trans h
  split at h
  · rename_i hc
    cases h
    exact ⟨hc, rfl, rfl, rfl, rfl, rfl⟩
  · cases h
theorem R_ok (h : varPart (leaving b) 155 x = .ok y) : InV x.1.fV x.1.r ∧ Sme x.1 y.1 := by
  obtain ⟨h1, h2⟩ := ask_okL h
  exact ⟨of_decide_eq_true h1, h2⟩
theorem S_ok (h : varPart (leaving b) 156 x = .ok y) : InV x.1.fV x.1.s ∧ Sme x.1 y.1 := by
  obtain ⟨h1, h2⟩ := ask_okL h
  exact ⟨of_decide_eq_true h1, h2⟩
theorem T_ok (h : varPart (leaving b) 157 x = .ok y) : InV x.1.fV x.1.t ∧ Sme x.1 y.1 := by
  obtain ⟨h1, h2⟩ := ask_okL h
  exact ⟨of_decide_eq_true h1, h2⟩
theorem int_ok (h : intPart (leaving b) x = .ok y) : True ∧ Sme x.1 y.1 := by
  obtain ⟨s, u⟩ := x
  cases (L_next 158 8 s u).symm.trans h
  exact ⟨trivial, rfl, rfl, rfl, rfl, rfl⟩
theorem fields_ok (h : fieldsPart (leaving b) x = .ok y) : True ∧ Sme x.1 y.1 := ⟨trivial, (ask_okL h).2⟩
theorem field_ok (h : fieldPart (leaving b) x = .ok y) : True ∧ Sme x.1 y.1 := ⟨trivial, (ask_okL h).2⟩
theorem global_ok (h : globalPart (leaving b) x = .ok y) : True ∧ Sme x.1 y.1 := ⟨trivial, (ask_okL h).2⟩
theorem target_ok (h : targetPart (leaving b) x = .ok y) : True ∧ Sme x.1 y.1 := ⟨trivial, (ask_okL h).2⟩
theorem loc_ok {n p : Int} (h : locX (leaving b) n p x = .ok y) : Sme x.1 y.1 := by
  unfold locX at h
  split at h
  · cases h; exact ⟨rfl, rfl, rfl, rfl, rfl⟩
  · cases h
theorem front_ok {e m nb : Bool} {i : Nat} {p : Int} (h : frontOk (leaving b) e m nb i p x = .ok y) : Sme x.1 y.1 := by
  unfold frontOk at h
  split at h
  · cases h
  · split at h
    · cases h
    · split at h
      · exact loc_ok (b := b) h
      · cases h; exact Sme.refl _
theorem vars_ok : ∀ (l : List Int) (x y : WS × Unit), varsL l x = .ok y → (∀ v ∈ l, InV x.1.fV v) ∧ Sme x.1 y.1
  | [], x, y, h => by cases h; exact ⟨fun v hv => (by cases hv), Sme.refl _⟩
  | v :: r, x, y, h => by
    obtain ⟨z, h1, h2⟩ := thenX_ok h
    unfold oneL at h1
    split at h1
    · rename_i hv
      cases h1
      obtain ⟨k1, k2⟩ := vars_ok r _ y h2
      refine ⟨fun u hu => ?_, Sme.trans (by exact ⟨rfl, rfl, rfl, rfl, rfl⟩) k2⟩
      rcases List.mem_cons.1 hu with rfl | hu
      · exact of_decide_eq_true hv
      · exact k1 u hu
    · cases h1
theorem list_ok {n : Nat} {l : List Int} (h : listL n l x = .ok y) : l.length = n ∧ (∀ v ∈ l, InV x.1.fV v) ∧ Sme x.1 y.1 := by
  unfold listL at h
  split at h
  · rename_i hn
    obtain ⟨k1, k2⟩ := vars_ok l _ y h
    exact ⟨hn, k1, Sme.trans (by exact ⟨rfl, rfl, rfl, rfl, rfl⟩) k2⟩
  · cases h
/-- What is known of an instruction. -/
structure InsK (heads : List (Nat × Nat)) (fR : Nat) (V op r s n : Int) (la lr : List Int) : Prop where
  kop : 1 ≤ op ∧ op ≤ 17
  kr : op = 2 ∨ op = 5 ∨ op = 6 ∨ op = 7 ∨ op = 8 → InV V r
  ks : op = 2 ∨ op = 5 ∨ op = 7 ∨ op = 8 ∨ op = 10 → InV V s
  kret : op = 15 → la.length = fR ∧ ∀ v ∈ la, InV V v
  kcall : op = 11 → (0 ≤ n ∧ n < heads.length) ∧ la.length = (heads.getD n.toNat (0, 0)).1 ∧ lr.length = (heads.getD n.toNat (0, 0)).2 ∧ (∀ v ∈ la, InV V v) ∧ ∀ v ∈ lr, InV V v
theorem parts1 {c : X (WS × Unit)} (h : partsX (leaving b) 1 c = .ok y) : ∃ x, c = .ok x ∧ Sme x.1 y.1 ∧ InV x.1.fV x.1.r := by
  have h : thenX (thenX (c) (varPart (leaving b) 155)) (intPart (leaving b)) = .ok y := h
  obtain ⟨x1, h1, g1⟩ := thenX_ok h
  obtain ⟨x0, h0, g0⟩ := thenX_ok h1
  obtain ⟨a0, s0⟩ := R_ok g0
  obtain ⟨a1, s1⟩ := int_ok g1
  exact ⟨x0, h0, (s0).trans s1, a0⟩
theorem parts2 {c : X (WS × Unit)} (h : partsX (leaving b) 2 c = .ok y) : ∃ x, c = .ok x ∧ Sme x.1 y.1 ∧ InV x.1.fV x.1.r ∧ InV x.1.fV x.1.s := by
  have h : thenX (thenX (c) (varPart (leaving b) 155)) (varPart (leaving b) 156) = .ok y := h
  obtain ⟨x1, h1, g1⟩ := thenX_ok h
  obtain ⟨x0, h0, g0⟩ := thenX_ok h1
  obtain ⟨a0, s0⟩ := R_ok g0
  obtain ⟨a1, s1⟩ := S_ok g1
  exact ⟨x0, h0, (s0).trans s1, a0, (by have e := s0; rw [← e.gV, ← e.gs]; exact a1)⟩
theorem parts3 {c : X (WS × Unit)} (h : partsX (leaving b) 3 c = .ok y) : ∃ x, c = .ok x ∧ Sme x.1 y.1 ∧ InV x.1.fV x.1.r ∧ InV x.1.fV x.1.s := by
  have h : thenX (thenX (thenX (c) (varPart (leaving b) 155)) (varPart (leaving b) 156)) (varPart (leaving b) 157) = .ok y := h
  obtain ⟨x2, h2, g2⟩ := thenX_ok h
  obtain ⟨x1, h1, g1⟩ := thenX_ok h2
  obtain ⟨x0, h0, g0⟩ := thenX_ok h1
  obtain ⟨a0, s0⟩ := R_ok g0
  obtain ⟨a1, s1⟩ := S_ok g1
  obtain ⟨a2, s2⟩ := T_ok g2
  exact ⟨x0, h0, ((s0).trans s1).trans s2, a0, (by have e := s0; rw [← e.gV, ← e.gs]; exact a1)⟩
theorem parts4 {c : X (WS × Unit)} (h : partsX (leaving b) 4 c = .ok y) : ∃ x, c = .ok x ∧ Sme x.1 y.1 ∧ InV x.1.fV x.1.r ∧ InV x.1.fV x.1.s := by
  have h : thenX (thenX (thenX (c) (varPart (leaving b) 155)) (varPart (leaving b) 156)) (varPart (leaving b) 157) = .ok y := h
  obtain ⟨x2, h2, g2⟩ := thenX_ok h
  obtain ⟨x1, h1, g1⟩ := thenX_ok h2
  obtain ⟨x0, h0, g0⟩ := thenX_ok h1
  obtain ⟨a0, s0⟩ := R_ok g0
  obtain ⟨a1, s1⟩ := S_ok g1
  obtain ⟨a2, s2⟩ := T_ok g2
  exact ⟨x0, h0, ((s0).trans s1).trans s2, a0, (by have e := s0; rw [← e.gV, ← e.gs]; exact a1)⟩
theorem parts5 {c : X (WS × Unit)} (h : partsX (leaving b) 5 c = .ok y) : ∃ x, c = .ok x ∧ Sme x.1 y.1 ∧ InV x.1.fV x.1.r ∧ InV x.1.fV x.1.s := by
  have h : thenX (thenX (c) (varPart (leaving b) 155)) (varPart (leaving b) 156) = .ok y := h
  obtain ⟨x1, h1, g1⟩ := thenX_ok h
  obtain ⟨x0, h0, g0⟩ := thenX_ok h1
  obtain ⟨a0, s0⟩ := R_ok g0
  obtain ⟨a1, s1⟩ := S_ok g1
  exact ⟨x0, h0, (s0).trans s1, a0, (by have e := s0; rw [← e.gV, ← e.gs]; exact a1)⟩
theorem parts6 {c : X (WS × Unit)} (h : partsX (leaving b) 6 c = .ok y) : ∃ x, c = .ok x ∧ Sme x.1 y.1 ∧ InV x.1.fV x.1.r := by
  have h : thenX (thenX (c) (varPart (leaving b) 155)) (fieldsPart (leaving b)) = .ok y := h
  obtain ⟨x1, h1, g1⟩ := thenX_ok h
  obtain ⟨x0, h0, g0⟩ := thenX_ok h1
  obtain ⟨a0, s0⟩ := R_ok g0
  obtain ⟨a1, s1⟩ := fields_ok g1
  exact ⟨x0, h0, (s0).trans s1, a0⟩
theorem parts7 {c : X (WS × Unit)} (h : partsX (leaving b) 7 c = .ok y) : ∃ x, c = .ok x ∧ Sme x.1 y.1 ∧ InV x.1.fV x.1.r ∧ InV x.1.fV x.1.s := by
  have h : thenX (thenX (thenX (c) (varPart (leaving b) 155)) (varPart (leaving b) 156)) (fieldPart (leaving b)) = .ok y := h
  obtain ⟨x2, h2, g2⟩ := thenX_ok h
  obtain ⟨x1, h1, g1⟩ := thenX_ok h2
  obtain ⟨x0, h0, g0⟩ := thenX_ok h1
  obtain ⟨a0, s0⟩ := R_ok g0
  obtain ⟨a1, s1⟩ := S_ok g1
  obtain ⟨a2, s2⟩ := field_ok g2
  exact ⟨x0, h0, ((s0).trans s1).trans s2, a0, (by have e := s0; rw [← e.gV, ← e.gs]; exact a1)⟩
theorem parts8 {c : X (WS × Unit)} (h : partsX (leaving b) 8 c = .ok y) : ∃ x, c = .ok x ∧ Sme x.1 y.1 ∧ InV x.1.fV x.1.r ∧ InV x.1.fV x.1.s := by
  have h : thenX (thenX (thenX (c) (varPart (leaving b) 155)) (varPart (leaving b) 156)) (fieldPart (leaving b)) = .ok y := h
  obtain ⟨x2, h2, g2⟩ := thenX_ok h
  obtain ⟨x1, h1, g1⟩ := thenX_ok h2
  obtain ⟨x0, h0, g0⟩ := thenX_ok h1
  obtain ⟨a0, s0⟩ := R_ok g0
  obtain ⟨a1, s1⟩ := S_ok g1
  obtain ⟨a2, s2⟩ := field_ok g2
  exact ⟨x0, h0, ((s0).trans s1).trans s2, a0, (by have e := s0; rw [← e.gV, ← e.gs]; exact a1)⟩
theorem parts9 {c : X (WS × Unit)} (h : partsX (leaving b) 9 c = .ok y) : ∃ x, c = .ok x ∧ Sme x.1 y.1 ∧ InV x.1.fV x.1.r := by
  have h : thenX (thenX (c) (varPart (leaving b) 155)) (globalPart (leaving b)) = .ok y := h
  obtain ⟨x1, h1, g1⟩ := thenX_ok h
  obtain ⟨x0, h0, g0⟩ := thenX_ok h1
  obtain ⟨a0, s0⟩ := R_ok g0
  obtain ⟨a1, s1⟩ := global_ok g1
  exact ⟨x0, h0, (s0).trans s1, a0⟩
theorem parts10 {c : X (WS × Unit)} (h : partsX (leaving b) 10 c = .ok y) : ∃ x, c = .ok x ∧ Sme x.1 y.1 ∧ InV x.1.fV x.1.s := by
  have h : thenX (thenX (c) (varPart (leaving b) 156)) (globalPart (leaving b)) = .ok y := h
  obtain ⟨x1, h1, g1⟩ := thenX_ok h
  obtain ⟨x0, h0, g0⟩ := thenX_ok h1
  obtain ⟨a0, s0⟩ := S_ok g0
  obtain ⟨a1, s1⟩ := global_ok g1
  exact ⟨x0, h0, (s0).trans s1, a0⟩
theorem parts12 {c : X (WS × Unit)} (h : partsX (leaving b) 12 c = .ok y) : ∃ x, c = .ok x ∧ Sme x.1 y.1 ∧ InV x.1.fV x.1.s := by
  have h : thenX (c) (varPart (leaving b) 156) = .ok y := h
  obtain ⟨x0, h0, g0⟩ := thenX_ok h
  obtain ⟨a0, s0⟩ := S_ok g0
  exact ⟨x0, h0, s0, a0⟩
theorem parts13 {c : X (WS × Unit)} (h : partsX (leaving b) 13 c = .ok y) : ∃ x, c = .ok x ∧ Sme x.1 y.1 := by
  have h : thenX (c) (targetPart (leaving b)) = .ok y := h
  obtain ⟨x0, h0, g0⟩ := thenX_ok h
  obtain ⟨a0, s0⟩ := target_ok g0
  exact ⟨x0, h0, s0⟩
theorem parts14 {c : X (WS × Unit)} (h : partsX (leaving b) 14 c = .ok y) : ∃ x, c = .ok x ∧ Sme x.1 y.1 ∧ InV x.1.fV x.1.s := by
  have h : thenX (thenX (c) (varPart (leaving b) 156)) (targetPart (leaving b)) = .ok y := h
  obtain ⟨x1, h1, g1⟩ := thenX_ok h
  obtain ⟨x0, h0, g0⟩ := thenX_ok h1
  obtain ⟨a0, s0⟩ := S_ok g0
  obtain ⟨a1, s1⟩ := target_ok g1
  exact ⟨x0, h0, (s0).trans s1, a0⟩
theorem parts16 {c : X (WS × Unit)} (h : partsX (leaving b) 16 c = .ok y) : ∃ x, c = .ok x ∧ Sme x.1 y.1 ∧ InV x.1.fV x.1.r := by
  have h : thenX (c) (varPart (leaving b) 155) = .ok y := h
  obtain ⟨x0, h0, g0⟩ := thenX_ok h
  obtain ⟨a0, s0⟩ := R_ok g0
  exact ⟨x0, h0, s0, a0⟩
theorem parts17 {c : X (WS × Unit)} (h : partsX (leaving b) 17 c = .ok y) : ∃ x, c = .ok x ∧ Sme x.1 y.1 ∧ InV x.1.fV x.1.r ∧ InV x.1.fV x.1.s := by
  have h : thenX (thenX (thenX (c) (varPart (leaving b) 155)) (varPart (leaving b) 156)) (varPart (leaving b) 157) = .ok y := h
  obtain ⟨x2, h2, g2⟩ := thenX_ok h
  obtain ⟨x1, h1, g1⟩ := thenX_ok h2
  obtain ⟨x0, h0, g0⟩ := thenX_ok h1
  obtain ⟨a0, s0⟩ := R_ok g0
  obtain ⟨a1, s1⟩ := S_ok g1
  obtain ⟨a2, s2⟩ := T_ok g2
  exact ⟨x0, h0, ((s0).trans s1).trans s2, a0, (by have e := s0; rw [← e.gV, ← e.gs]; exact a1)⟩

theorem callee_ok {nf : Nat} (hnf : nf ≤ 65535) (h : calleePart (leaving b) nf x = .ok y) : (0 ≤ x.1.n ∧ x.1.n < nf) ∧ Sme x.1 y.1 := by
  obtain ⟨h1, h2⟩ := ask_okL h
  have h1 : 0 ≤ x.1.n ∧ x.1.n ≤ IntKind.i64.wrap ((nf : Int) - 1) := of_decide_eq_true h1
  rw [wrap_small _ (by omega) (by omega)] at h1
  exact ⟨by omega, h2⟩
theorem instr_ok {heads : List (Nat × Nat)} {fR i : Nat} {la lr : List Int} {s : WS} (hnf : heads.length ≤ 65535) (h : instrL (b := b) heads fR i la lr s = .ok y) : InsK heads fR s.fV s.op s.r s.s s.n la lr ∧ Sme s y.1 := by
  unfold instrL at h
  split at h
  · rename_i hop
    split at h
    · rename_i e
      obtain ⟨x, h1, h2⟩ := thenX_ok (p := listL fR la) h
      have k1 := front_ok h1
      obtain ⟨k2, k3, k4⟩ := list_ok h2
      have k1 : Sme s x.1 := ⟨k1.gV, k1.gr, k1.gs, k1.gt, k1.gn⟩
      rw [k1.gV] at k3
      exact ⟨⟨hop, fun e' => by omega, fun e' => by omega, fun _ => ⟨k2, k3⟩, fun e' => by omega⟩, k1.trans k4⟩
    · split at h
      · rename_i e
        obtain ⟨x, h1, h2⟩ := thenX_ok h
        obtain ⟨x0, h0, h1⟩ := thenX_ok h1
        obtain ⟨x2, h2, h3⟩ := thenX_ok h2
        have k0 := front_ok h0
        have k0 : Sme s x0.1 := ⟨k0.gV, k0.gr, k0.gs, k0.gt, k0.gn⟩
        obtain ⟨c1, c2⟩ := callee_ok hnf h1
        have k1 := k0.trans c2
        obtain ⟨a1, a2, a3⟩ := list_ok h2
        obtain ⟨b1, b2, b3⟩ := list_ok h3
        have k2 := k1.trans a3
        rw [k1.gV] at a2
        rw [k2.gV] at b2
        rw [k1.gn] at a1 b1
        rw [k0.gn] at c1
        exact ⟨⟨hop, fun e' => by omega, fun e' => by omega, fun e' => by omega, fun _ => ⟨c1, a1, b1, a2, b2⟩⟩, k2.trans b3⟩
      · rename_i n15 n11
        have hop2 : s.op = 1 ∨ s.op = 2 ∨ s.op = 3 ∨ s.op = 4 ∨ s.op = 5 ∨ s.op = 6 ∨ s.op = 7 ∨ s.op = 8 ∨ s.op = 9 ∨ s.op = 10 ∨ s.op = 12 ∨ s.op = 13 ∨ s.op = 14 ∨ s.op = 16 ∨ s.op = 17 := by omega
        obtain ⟨c, hc⟩ : ∃ c : X (WS × Unit), c = frontOk (leaving b) (s.op == 13) (s.op == 6) (nbK s.op.toNat s la.length lr.length) i s.at' ({ s with at' := adv s.at' 1 }, ()) := ⟨_, rfl⟩
        have hc' : ∀ x, c = .ok x → Sme s x.1 := fun x hx => by
          rw [hc] at hx
          have k := front_ok hx
          exact ⟨k.gV, k.gr, k.gs, k.gt, k.gn⟩
        rw [← hc] at h
        clear hc
        obtain ⟨o, ho⟩ : ∃ o : Nat, s.op.toNat = o := ⟨_, rfl⟩
        rw [ho] at h
        rcases hop2 with e | e | e | e | e | e | e | e | e | e | e | e | e | e | e
        · obtain rfl : o = 1 := by omega
          obtain ⟨x, hx, k, kr⟩ := parts1 h
          have e0 := hc' x hx
          rw [e0.gV, e0.gr] at kr
          exact ⟨⟨hop, fun e' => by omega, fun e' => by omega, fun e' => by omega, fun e' => by omega⟩, e0.trans k⟩
        · obtain rfl : o = 2 := by omega
          obtain ⟨x, hx, k, kr, ks⟩ := parts2 h
          have e0 := hc' x hx
          rw [e0.gV, e0.gr] at kr
          rw [e0.gV, e0.gs] at ks
          exact ⟨⟨hop, fun _ => kr, fun _ => ks, fun e' => by omega, fun e' => by omega⟩, e0.trans k⟩
        · obtain rfl : o = 3 := by omega
          obtain ⟨x, hx, k, kr, ks⟩ := parts3 h
          have e0 := hc' x hx
          rw [e0.gV, e0.gr] at kr
          rw [e0.gV, e0.gs] at ks
          exact ⟨⟨hop, fun e' => by omega, fun e' => by omega, fun e' => by omega, fun e' => by omega⟩, e0.trans k⟩
        · obtain rfl : o = 4 := by omega
          obtain ⟨x, hx, k, kr, ks⟩ := parts4 h
          have e0 := hc' x hx
          rw [e0.gV, e0.gr] at kr
          rw [e0.gV, e0.gs] at ks
          exact ⟨⟨hop, fun e' => by omega, fun e' => by omega, fun e' => by omega, fun e' => by omega⟩, e0.trans k⟩
        · obtain rfl : o = 5 := by omega
          obtain ⟨x, hx, k, kr, ks⟩ := parts5 h
          have e0 := hc' x hx
          rw [e0.gV, e0.gr] at kr
          rw [e0.gV, e0.gs] at ks
          exact ⟨⟨hop, fun _ => kr, fun _ => ks, fun e' => by omega, fun e' => by omega⟩, e0.trans k⟩
        · obtain rfl : o = 6 := by omega
          obtain ⟨x, hx, k, kr⟩ := parts6 h
          have e0 := hc' x hx
          rw [e0.gV, e0.gr] at kr
          exact ⟨⟨hop, fun _ => kr, fun e' => by omega, fun e' => by omega, fun e' => by omega⟩, e0.trans k⟩
        · obtain rfl : o = 7 := by omega
          obtain ⟨x, hx, k, kr, ks⟩ := parts7 h
          have e0 := hc' x hx
          rw [e0.gV, e0.gr] at kr
          rw [e0.gV, e0.gs] at ks
          exact ⟨⟨hop, fun _ => kr, fun _ => ks, fun e' => by omega, fun e' => by omega⟩, e0.trans k⟩
        · obtain rfl : o = 8 := by omega
          obtain ⟨x, hx, k, kr, ks⟩ := parts8 h
          have e0 := hc' x hx
          rw [e0.gV, e0.gr] at kr
          rw [e0.gV, e0.gs] at ks
          exact ⟨⟨hop, fun _ => kr, fun _ => ks, fun e' => by omega, fun e' => by omega⟩, e0.trans k⟩
        · obtain rfl : o = 9 := by omega
          obtain ⟨x, hx, k, kr⟩ := parts9 h
          have e0 := hc' x hx
          rw [e0.gV, e0.gr] at kr
          exact ⟨⟨hop, fun e' => by omega, fun e' => by omega, fun e' => by omega, fun e' => by omega⟩, e0.trans k⟩
        · obtain rfl : o = 10 := by omega
          obtain ⟨x, hx, k, ks⟩ := parts10 h
          have e0 := hc' x hx
          rw [e0.gV, e0.gs] at ks
          exact ⟨⟨hop, fun e' => by omega, fun _ => ks, fun e' => by omega, fun e' => by omega⟩, e0.trans k⟩
        · obtain rfl : o = 12 := by omega
          obtain ⟨x, hx, k, ks⟩ := parts12 h
          have e0 := hc' x hx
          rw [e0.gV, e0.gs] at ks
          exact ⟨⟨hop, fun e' => by omega, fun e' => by omega, fun e' => by omega, fun e' => by omega⟩, e0.trans k⟩
        · obtain rfl : o = 13 := by omega
          obtain ⟨x, hx, k⟩ := parts13 h
          have e0 := hc' x hx
          exact ⟨⟨hop, fun e' => by omega, fun e' => by omega, fun e' => by omega, fun e' => by omega⟩, e0.trans k⟩
        · obtain rfl : o = 14 := by omega
          obtain ⟨x, hx, k, ks⟩ := parts14 h
          have e0 := hc' x hx
          rw [e0.gV, e0.gs] at ks
          exact ⟨⟨hop, fun e' => by omega, fun e' => by omega, fun e' => by omega, fun e' => by omega⟩, e0.trans k⟩
        · obtain rfl : o = 16 := by omega
          obtain ⟨x, hx, k, kr⟩ := parts16 h
          have e0 := hc' x hx
          rw [e0.gV, e0.gr] at kr
          exact ⟨⟨hop, fun e' => by omega, fun e' => by omega, fun e' => by omega, fun e' => by omega⟩, e0.trans k⟩
        · obtain rfl : o = 17 := by omega
          obtain ⟨x, hx, k, kr, ks⟩ := parts17 h
          have e0 := hc' x hx
          rw [e0.gV, e0.gr] at kr
          rw [e0.gV, e0.gs] at ks
          exact ⟨⟨hop, fun e' => by omega, fun e' => by omega, fun e' => by omega, fun e' => by omega⟩, e0.trans k⟩
  · cases h
end
theorem ask_cnt {b o size : Nat} {c : WS → Bool} {er : Int} {x y : WS × Unit} (h : askX (leaving b) o size c er x = .ok y) : y.1.count = x.1.count := by
  obtain ⟨s, u⟩ := x
  have h := (L_ask o size c er s u).symm.trans h
  split at h
  · cases h; rfl
  · cases h
/-- The code of a function. -/
theorem code_ok (b : Nat) (heads : List (Nat × Nat)) (hnf : heads.length ≤ 65535) (fR : Nat) : ∀ (l : List PI) (i : Nat) (s : WS) (y : WS × Unit), codeP b heads fR i l s = .ok y → ∀ c ∈ l, InsK heads fR s.fV c.op c.r c.s c.n c.args c.rets
  | [], _, _, _, _, c, hc => by cases hc
  | c :: r, i, s, y, h, d, hd => by
    obtain ⟨x, h1, h2⟩ := thenX_ok h
    obtain ⟨k1, k2⟩ := instr_ok hnf h1
    have e : x.1.fV = s.fV := k2.gV
    rcases List.mem_cons.1 hd with rfl | hd
    · exact k1
    · have := code_ok b heads hnf fR r (i + 1) x.1 y h2 d hd
      rw [e] at this
      exact this
/-- What is known of the first function of a program that Check lets by. -/
structure FunK (heads : List (Nat × Nat)) (f : PF) : Prop where
  V : 0 ≤ f.V ∧ f.V ≤ 255
  P : 0 ≤ f.P ∧ f.P ≤ 8
  R : 0 ≤ f.R ∧ f.R ≤ 4
  len : 1 ≤ f.code.length ∧ f.code.length ≤ 4096
  code : ∀ c ∈ f.code, InsK heads f.R.toNat f.V c.op c.r c.s c.n c.args c.rets
theorem head_ok {b : Nat} {s : WS} {y : WS × Unit} (h : headX (leaving b) (s, ()) = .ok y) : (0 ≤ s.fV ∧ s.fV ≤ 255) ∧ (0 ≤ s.fP ∧ s.fP ≤ 8) ∧ (0 ≤ s.fR ∧ s.fR ≤ 4) ∧ 0 < s.len ∧ s.len ≤ 4096 := by
  rw [headX_then] at h
  obtain ⟨y1, h1, h⟩ := thenX_ok h
  obtain ⟨y2, h2, h⟩ := thenX_ok h
  obtain ⟨y3, h3, h⟩ := thenX_ok h
  obtain ⟨y4, h4, h⟩ := thenX_ok h
  obtain ⟨u, h5, -⟩ := thenX_ok h
  cases (L_next 149 1 s ()).symm.trans h1
  cases (L_next 150 1 _ ()).symm.trans h2
  cases (L_next 151 1 _ ()).symm.trans h3
  cases (L_next 153 2 _ ()).symm.trans h4
  obtain ⟨g1, g2, g3, g4, g5⟩ := headOk_ok h5
  refine ⟨g1, ⟨g2.1, ?_⟩, g3, g5, g4⟩
  have g2 := g2.2
  have e : ∀ a : Int, (if a < 8 then a else 8) ≤ 8 := fun a => by split <;> omega
  exact Int.le_trans g2 (e _)
theorem heads_ok (b : Nat) : ∀ (fs : List PF) (s : WS) (y : WS × Unit), headsP b fs s = .ok y → ∀ g ∈ fs, (0 ≤ g.V ∧ g.V ≤ 255) ∧ (0 ≤ g.P ∧ g.P ≤ 8) ∧ (0 ≤ g.R ∧ g.R ≤ 4)
  | [], _, _, _, g, hg => by cases hg
  | f :: r, s, y, h, g, hg => by
    obtain ⟨x, h1, h2⟩ := thenX_ok h
    rcases List.mem_cons.1 hg with rfl | hg
    · obtain ⟨k1, k2, k3, -, -⟩ := head_ok h1
      exact ⟨k1, k2, k3⟩
    · exact heads_ok b r x.1 y h2 g hg
theorem check_ok {G : Int} {f : PF} {r : List PF} (h : checkP G (f :: r) = 0) : FunK (headsOfP (f :: r)) f ∧ (f :: r).length ≤ 65535 ∧ ∀ g ∈ f :: r, (0 ≤ g.V ∧ g.V ≤ 255) ∧ (0 ≤ g.P ∧ g.P ≤ 8) ∧ (0 ≤ g.R ∧ g.R ≤ 4) := by
  have ht := told_overP 0 G (f :: r) (WS.start nilS)
  unfold checkP at h
  cases ha : answerP G (f :: r) with
  | error z =>
    rw [ha] at h
    exact absurd h (ht z ha)
  | ok y =>
    have ha : overP 0 G (f :: r) (WS.start nilS) = .ok y := ha
    obtain ⟨x1, h1, h2⟩ := thenX_ok ha
    obtain ⟨x2, h3, h4⟩ := thenX_ok h2
    obtain ⟨x3, h5, h6⟩ := thenX_ok h4
    obtain ⟨x4, h7, h8⟩ := thenX_ok h5
    obtain ⟨x5, h9, h10⟩ := thenX_ok h6
    have hl : (f :: r).length ≤ 65535 := by
      have e1 := ask_cnt h1
      have e2 := ask_cnt h3
      have e3 := (ask_okL h3).1
      simp only [decide_eq_true_eq] at e3
      rw [e1] at e3
      have : ((f :: r).length : Int) ≤ 65535 := e3.2
      omega
    obtain ⟨k1, k2, k3, k4, k5⟩ := head_ok h7
    have hh : (headsOfP (f :: r)).length ≤ 65535 := by rw [headsOfP, List.length_map]; exact hl
    have k4 : 0 < ((f.code.length : Nat) : Int) := k4
    have k5 : ((f.code.length : Nat) : Int) ≤ 4096 := k5
    exact ⟨⟨k1, k2, k3, ⟨by omega, by omega⟩, code_ok 0 _ hh _ f.code 0 _ _ h9⟩, hl, heads_ok 0 _ _ _ h5⟩
end Go.Proofs.YtlmlmhinbkcpoaaDoor
