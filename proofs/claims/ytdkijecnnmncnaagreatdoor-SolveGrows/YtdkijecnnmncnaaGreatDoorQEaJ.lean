import Derived.Test.YtdkijecnnmncnaaGreatDoorQD1J
namespace Go.Proofs.YtdkijecnnmncnaaGreatDoor
open Go.RowKit (wrap32 wrap64)
set_option linter.unusedVariables false
set_option linter.unusedSimpArgs false
abbrev InV (V v : Int) : Prop := 0 ≤ v ∧ v ≤ IntKind.i64.wrap (V - 1)
structure Sme (s y : WS) : Prop where
 gV : y.fV = s.fV
 gr : y.r = s.r
 gs : y.s = s.s
 gt : y.t = s.t
 gn : y.n = s.n
theorem Sme.refl (s : WS) : Sme s s := ⟨rfl, rfl, rfl, rfl, rfl⟩
theorem Sme.trans {a b c : WS} (h : Sme a b) (k : Sme b c) : Sme a c := ⟨k.gV.trans h.gV, k.gr.trans h.gr, k.gs.trans h.gs, k.gt.trans h.gt, k.gn.trans h.gn⟩
section
variable {b : Nat} {y : WS × Unit} {x : WS × Unit}
theorem ask_okL {o size : Nat} {c : WS → Bool} {er : Int} (h : askX (leaving b) o size c er x = .ok y) : c { x.1 with at' := adv x.1.at' size } = true ∧ Sme x.1 y.1 := by
 obtain ⟨s, u⟩ := x
 have h := (L_ask o size c er s u).symm.trans h
 split at h
 ·rename_i hc
  cases h
  exact ⟨hc, rfl, rfl, rfl, rfl, rfl⟩
 ·cases h
theorem R_ok (h : varPart (leaving b) 155 x = .ok y) : InV x.1.fV x.1.r ∧ Sme x.1 y.1 := by
 obtain ⟨h1, h2⟩ := ask_okL h
 exact ⟨of_decide_eq_true h1, h2⟩
theorem S_ok (h : varPart (leaving b) 156 x = .ok y) : InV x.1.fV x.1.s ∧ Sme x.1 y.1 := by
 obtain ⟨h1, h2⟩ := ask_okL h
 exact ⟨of_decide_eq_true h1, h2⟩
theorem T_ok (h : varPart (leaving b) 157 x = .ok y) : InV x.1.fV x.1.t ∧ Sme x.1 y.1 := by
 obtain ⟨h1, h2⟩ := ask_okL h
 exact ⟨of_decide_eq_true h1, h2⟩
theorem int_ok (h : intPart (leaving b) x = .ok y) : True ∧ Sme x.1 y.1 := by
 obtain ⟨s, u⟩ := x
 cases (L_next 158 8 s u).symm.trans h
 exact ⟨trivial, rfl, rfl, rfl, rfl, rfl⟩
theorem fields_ok (h : fieldsPart (leaving b) x = .ok y) : True ∧ Sme x.1 y.1 := ⟨trivial, (ask_okL h).2⟩
theorem field_ok (h : fieldPart (leaving b) x = .ok y) : True ∧ Sme x.1 y.1 := ⟨trivial, (ask_okL h).2⟩
theorem global_ok (h : globalPart (leaving b) x = .ok y) : True ∧ Sme x.1 y.1 := ⟨trivial, (ask_okL h).2⟩
theorem target_ok (h : targetPart (leaving b) x = .ok y) : True ∧ Sme x.1 y.1 := ⟨trivial, (ask_okL h).2⟩
theorem loc_ok {n p : Int} (h : locX (leaving b) n p x = .ok y) : Sme x.1 y.1 := by
 unfold locX at h
 split at h
 ·cases h; exact ⟨rfl, rfl, rfl, rfl, rfl⟩
 ·cases h
theorem front_ok {e m nb : Bool} {i : Nat} {p : Int} (h : frontOk (leaving b) e m nb i p x = .ok y) : Sme x.1 y.1 := by
 unfold frontOk at h
 split at h
 ·cases h
 ·split at h
  ·cases h
  ·split at h
   ·exact loc_ok (b := b) h
   ·cases h; exact Sme.refl _
theorem vars_ok : ∀ (l : List Int) (x y : WS × Unit), varsL l x = .ok y → (∀ v ∈ l, InV x.1.fV v) ∧ Sme x.1 y.1
 | [], x, y, h => by cases h; exact ⟨fun v hv => (by cases hv), Sme.refl _⟩
 | v :: r, x, y, h => by
   obtain ⟨z, h1, h2⟩ := thenX_ok h
   unfold oneL at h1
   split at h1
   ·rename_i hv
    cases h1
    obtain ⟨k1, k2⟩ := vars_ok r _ y h2
    refine ⟨fun u hu => ?_, Sme.trans (by exact ⟨rfl, rfl, rfl, rfl, rfl⟩) k2⟩
    rcases List.mem_cons.1 hu with rfl | hu
    ·exact of_decide_eq_true hv
    ·exact k1 u hu
   ·cases h1
theorem list_ok {n : Nat} {l : List Int} (h : listL n l x = .ok y) : l.length = n ∧ (∀ v ∈ l, InV x.1.fV v) ∧ Sme x.1 y.1 := by
 unfold listL at h
 split at h
 ·rename_i hn
  obtain ⟨k1, k2⟩ := vars_ok l _ y h
  exact ⟨hn, k1, Sme.trans (by exact ⟨rfl, rfl, rfl, rfl, rfl⟩) k2⟩
 ·cases h
structure InsK (heads : List (Nat × Nat)) (fR : Nat) (V op r s n : Int) (la lr : List Int) : Prop where
 kop : 1 ≤ op ∧ op ≤ 17
 kr : op = 2 ∨ op = 5 ∨ op = 6 ∨ op = 7 ∨ op = 8 → InV V r
 ks : op = 2 ∨ op = 5 ∨ op = 7 ∨ op = 8 ∨ op = 10 → InV V s
 kret : op = 15 → la.length = fR ∧ ∀ v ∈ la, InV V v
 kcall : op = 11 → (0 ≤ n ∧ n < heads.length) ∧ la.length = (heads.getD n.toNat (0, 0)).1 ∧ lr.length = (heads.getD n.toNat (0, 0)).2 ∧ (∀ v ∈ la, InV V v) ∧ ∀ v ∈ lr, InV V v
theorem parts1 {c : X (WS × Unit)} (h : partsX (leaving b) 1 c = .ok y) : ∃ x, c = .ok x ∧ Sme x.1 y.1 ∧ InV x.1.fV x.1.r := by
 have h : thenX (thenX (c) (varPart (leaving b) 155)) (intPart (leaving b)) = .ok y := h
 obtain ⟨x1, h1, g1⟩ := thenX_ok h
 obtain ⟨x0, h0, g0⟩ := thenX_ok h1
 obtain ⟨a0, s0⟩ := R_ok g0
 obtain ⟨a1, s1⟩ := int_ok g1
 exact ⟨x0, h0, (s0).trans s1, a0⟩
theorem parts2 {c : X (WS × Unit)} (h : partsX (leaving b) 2 c = .ok y) : ∃ x, c = .ok x ∧ Sme x.1 y.1 ∧ InV x.1.fV x.1.r ∧ InV x.1.fV x.1.s := by
 have h : thenX (thenX (c) (varPart (leaving b) 155)) (varPart (leaving b) 156) = .ok y := h
 obtain ⟨x1, h1, g1⟩ := thenX_ok h
 obtain ⟨x0, h0, g0⟩ := thenX_ok h1
 obtain ⟨a0, s0⟩ := R_ok g0
 obtain ⟨a1, s1⟩ := S_ok g1
 exact ⟨x0, h0, (s0).trans s1, a0, (by have e := s0; rw [← e.gV, ← e.gs]; exact a1)⟩
theorem parts3 {c : X (WS × Unit)} (h : partsX (leaving b) 3 c = .ok y) : ∃ x, c = .ok x ∧ Sme x.1 y.1 ∧ InV x.1.fV x.1.r ∧ InV x.1.fV x.1.s := by
 have h : thenX (thenX (thenX (c) (varPart (leaving b) 155)) (varPart (leaving b) 156)) (varPart (leaving b) 157) = .ok y := h
 obtain ⟨x2, h2, g2⟩ := thenX_ok h
 obtain ⟨x1, h1, g1⟩ := thenX_ok h2
 obtain ⟨x0, h0, g0⟩ := thenX_ok h1
 obtain ⟨a0, s0⟩ := R_ok g0
 obtain ⟨a1, s1⟩ := S_ok g1
 obtain ⟨a2, s2⟩ := T_ok g2
 exact ⟨x0, h0, ((s0).trans s1).trans s2, a0, (by have e := s0; rw [← e.gV, ← e.gs]; exact a1)⟩
theorem parts4 {c : X (WS × Unit)} (h : partsX (leaving b) 4 c = .ok y) : ∃ x, c = .ok x ∧ Sme x.1 y.1 ∧ InV x.1.fV x.1.r ∧ InV x.1.fV x.1.s := by
 have h : thenX (thenX (thenX (c) (varPart (leaving b) 155)) (varPart (leaving b) 156)) (varPart (leaving b) 157) = .ok y := h
 obtain ⟨x2, h2, g2⟩ := thenX_ok h
 obtain ⟨x1, h1, g1⟩ := thenX_ok h2
 obtain ⟨x0, h0, g0⟩ := thenX_ok h1
 obtain ⟨a0, s0⟩ := R_ok g0
 obtain ⟨a1, s1⟩ := S_ok g1
 obtain ⟨a2, s2⟩ := T_ok g2
 exact ⟨x0, h0, ((s0).trans s1).trans s2, a0, (by have e := s0; rw [← e.gV, ← e.gs]; exact a1)⟩
theorem parts5 {c : X (WS × Unit)} (h : partsX (leaving b) 5 c = .ok y) : ∃ x, c = .ok x ∧ Sme x.1 y.1 ∧ InV x.1.fV x.1.r ∧ InV x.1.fV x.1.s := by
 have h : thenX (thenX (c) (varPart (leaving b) 155)) (varPart (leaving b) 156) = .ok y := h
 obtain ⟨x1, h1, g1⟩ := thenX_ok h
 obtain ⟨x0, h0, g0⟩ := thenX_ok h1
 obtain ⟨a0, s0⟩ := R_ok g0
 obtain ⟨a1, s1⟩ := S_ok g1
 exact ⟨x0, h0, (s0).trans s1, a0, (by have e := s0; rw [← e.gV, ← e.gs]; exact a1)⟩
theorem parts6 {c : X (WS × Unit)} (h : partsX (leaving b) 6 c = .ok y) : ∃ x, c = .ok x ∧ Sme x.1 y.1 ∧ InV x.1.fV x.1.r := by
 have h : thenX (thenX (c) (varPart (leaving b) 155)) (fieldsPart (leaving b)) = .ok y := h
 obtain ⟨x1, h1, g1⟩ := thenX_ok h
 obtain ⟨x0, h0, g0⟩ := thenX_ok h1
 obtain ⟨a0, s0⟩ := R_ok g0
 obtain ⟨a1, s1⟩ := fields_ok g1
 exact ⟨x0, h0, (s0).trans s1, a0⟩
theorem parts7 {c : X (WS × Unit)} (h : partsX (leaving b) 7 c = .ok y) : ∃ x, c = .ok x ∧ Sme x.1 y.1 ∧ InV x.1.fV x.1.r ∧ InV x.1.fV x.1.s := by
 have h : thenX (thenX (thenX (c) (varPart (leaving b) 155)) (varPart (leaving b) 156)) (fieldPart (leaving b)) = .ok y := h
 obtain ⟨x2, h2, g2⟩ := thenX_ok h
 obtain ⟨x1, h1, g1⟩ := thenX_ok h2
 obtain ⟨x0, h0, g0⟩ := thenX_ok h1
 obtain ⟨a0, s0⟩ := R_ok g0
 obtain ⟨a1, s1⟩ := S_ok g1
 obtain ⟨a2, s2⟩ := field_ok g2
 exact ⟨x0, h0, ((s0).trans s1).trans s2, a0, (by have e := s0; rw [← e.gV, ← e.gs]; exact a1)⟩
theorem parts8 {c : X (WS × Unit)} (h : partsX (leaving b) 8 c = .ok y) : ∃ x, c = .ok x ∧ Sme x.1 y.1 ∧ InV x.1.fV x.1.r ∧ InV x.1.fV x.1.s := by
 have h : thenX (thenX (thenX (c) (varPart (leaving b) 155)) (varPart (leaving b) 156)) (fieldPart (leaving b)) = .ok y := h
 obtain ⟨x2, h2, g2⟩ := thenX_ok h
 obtain ⟨x1, h1, g1⟩ := thenX_ok h2
 obtain ⟨x0, h0, g0⟩ := thenX_ok h1
 obtain ⟨a0, s0⟩ := R_ok g0
 obtain ⟨a1, s1⟩ := S_ok g1
 obtain ⟨a2, s2⟩ := field_ok g2
 exact ⟨x0, h0, ((s0).trans s1).trans s2, a0, (by have e := s0; rw [← e.gV, ← e.gs]; exact a1)⟩
theorem parts9 {c : X (WS × Unit)} (h : partsX (leaving b) 9 c = .ok y) : ∃ x, c = .ok x ∧ Sme x.1 y.1 ∧ InV x.1.fV x.1.r := by
 have h : thenX (thenX (c) (varPart (leaving b) 155)) (globalPart (leaving b)) = .ok y := h
 obtain ⟨x1, h1, g1⟩ := thenX_ok h
 obtain ⟨x0, h0, g0⟩ := thenX_ok h1
 obtain ⟨a0, s0⟩ := R_ok g0
 obtain ⟨a1, s1⟩ := global_ok g1
 exact ⟨x0, h0, (s0).trans s1, a0⟩
theorem parts10 {c : X (WS × Unit)} (h : partsX (leaving b) 10 c = .ok y) : ∃ x, c = .ok x ∧ Sme x.1 y.1 ∧ InV x.1.fV x.1.s := by
 have h : thenX (thenX (c) (varPart (leaving b) 156)) (globalPart (leaving b)) = .ok y := h
 obtain ⟨x1, h1, g1⟩ := thenX_ok h
 obtain ⟨x0, h0, g0⟩ := thenX_ok h1
 obtain ⟨a0, s0⟩ := S_ok g0
 obtain ⟨a1, s1⟩ := global_ok g1
 exact ⟨x0, h0, (s0).trans s1, a0⟩
theorem parts12 {c : X (WS × Unit)} (h : partsX (leaving b) 12 c = .ok y) : ∃ x, c = .ok x ∧ Sme x.1 y.1 ∧ InV x.1.fV x.1.s := by
 have h : thenX (c) (varPart (leaving b) 156) = .ok y := h
 obtain ⟨x0, h0, g0⟩ := thenX_ok h
 obtain ⟨a0, s0⟩ := S_ok g0
 exact ⟨x0, h0, s0, a0⟩
theorem parts13 {c : X (WS × Unit)} (h : partsX (leaving b) 13 c = .ok y) : ∃ x, c = .ok x ∧ Sme x.1 y.1 := by
 have h : thenX (c) (targetPart (leaving b)) = .ok y := h
 obtain ⟨x0, h0, g0⟩ := thenX_ok h
 obtain ⟨a0, s0⟩ := target_ok g0
 exact ⟨x0, h0, s0⟩
theorem parts14 {c : X (WS × Unit)} (h : partsX (leaving b) 14 c = .ok y) : ∃ x, c = .ok x ∧ Sme x.1 y.1 ∧ InV x.1.fV x.1.s := by
 have h : thenX (thenX (c) (varPart (leaving b) 156)) (targetPart (leaving b)) = .ok y := h
 obtain ⟨x1, h1, g1⟩ := thenX_ok h
 obtain ⟨x0, h0, g0⟩ := thenX_ok h1
 obtain ⟨a0, s0⟩ := S_ok g0
 obtain ⟨a1, s1⟩ := target_ok g1
 exact ⟨x0, h0, (s0).trans s1, a0⟩
theorem parts16 {c : X (WS × Unit)} (h : partsX (leaving b) 16 c = .ok y) : ∃ x, c = .ok x ∧ Sme x.1 y.1 ∧ InV x.1.fV x.1.r := by
 have h : thenX (c) (varPart (leaving b) 155) = .ok y := h
 obtain ⟨x0, h0, g0⟩ := thenX_ok h
 obtain ⟨a0, s0⟩ := R_ok g0
 exact ⟨x0, h0, s0, a0⟩
theorem parts17 {c : X (WS × Unit)} (h : partsX (leaving b) 17 c = .ok y) : ∃ x, c = .ok x ∧ Sme x.1 y.1 ∧ InV x.1.fV x.1.r ∧ InV x.1.fV x.1.s := by
 have h : thenX (thenX (thenX (c) (varPart (leaving b) 155)) (varPart (leaving b) 156)) (varPart (leaving b) 157) = .ok y := h
 obtain ⟨x2, h2, g2⟩ := thenX_ok h
 obtain ⟨x1, h1, g1⟩ := thenX_ok h2
 obtain ⟨x0, h0, g0⟩ := thenX_ok h1
 obtain ⟨a0, s0⟩ := R_ok g0
 obtain ⟨a1, s1⟩ := S_ok g1
 obtain ⟨a2, s2⟩ := T_ok g2
 exact ⟨x0, h0, ((s0).trans s1).trans s2, a0, (by have e := s0; rw [← e.gV, ← e.gs]; exact a1)⟩
theorem callee_ok {nf : Nat} (hnf : nf ≤ 65535) (h : calleePart (leaving b) nf x = .ok y) : (0 ≤ x.1.n ∧ x.1.n < nf) ∧ Sme x.1 y.1 := by
 obtain ⟨h1, h2⟩ := ask_okL h
 have h1 : 0 ≤ x.1.n ∧ x.1.n ≤ IntKind.i64.wrap ((nf : Int) - 1) := of_decide_eq_true h1
 rw [wrap_small _ (by omega) (by omega)] at h1
 exact ⟨by omega, h2⟩
theorem instr_ok {heads : List (Nat × Nat)} {fR i : Nat} {la lr : List Int} {s : WS} (hnf : heads.length ≤ 65535) (h : instrL (b := b) heads fR i la lr s = .ok y) : InsK heads fR s.fV s.op s.r s.s s.n la lr ∧ Sme s y.1 := by
 unfold instrL at h
 split at h
 ·rename_i hop
  split at h
  ·rename_i e
   obtain ⟨x, h1, h2⟩ := thenX_ok (p := listL fR la) h
   have k1 := front_ok h1
   obtain ⟨k2, k3, k4⟩ := list_ok h2
   have k1 : Sme s x.1 := ⟨k1.gV, k1.gr, k1.gs, k1.gt, k1.gn⟩
   rw [k1.gV] at k3
   exact ⟨⟨hop, fun e' => by omega, fun e' => by omega, fun _ => ⟨k2, k3⟩, fun e' => by omega⟩, k1.trans k4⟩
  ·split at h
   ·rename_i e
    obtain ⟨x, h1, h2⟩ := thenX_ok h
    obtain ⟨x0, h0, h1⟩ := thenX_ok h1
    obtain ⟨x2, h2, h3⟩ := thenX_ok h2
    have k0 := front_ok h0
    have k0 : Sme s x0.1 := ⟨k0.gV, k0.gr, k0.gs, k0.gt, k0.gn⟩
    obtain ⟨c1, c2⟩ := callee_ok hnf h1
    have k1 := k0.trans c2
    obtain ⟨a1, a2, a3⟩ := list_ok h2
    obtain ⟨b1, b2, b3⟩ := list_ok h3
    have k2 := k1.trans a3
    rw [k1.gV] at a2
    rw [k2.gV] at b2
    rw [k1.gn] at a1 b1
    rw [k0.gn] at c1
    exact ⟨⟨hop, fun e' => by omega, fun e' => by omega, fun e' => by omega, fun _ => ⟨c1, a1, b1, a2, b2⟩⟩, k2.trans b3⟩
   ·rename_i n15 n11
    have hop2 : s.op = 1 ∨ s.op = 2 ∨ s.op = 3 ∨ s.op = 4 ∨ s.op = 5 ∨ s.op = 6 ∨ s.op = 7 ∨ s.op = 8 ∨ s.op = 9 ∨ s.op = 10 ∨ s.op = 12 ∨ s.op = 13 ∨ s.op = 14 ∨ s.op = 16 ∨ s.op = 17 := by omega
    obtain ⟨c, hc⟩ : ∃ c : X (WS × Unit), c = frontOk (leaving b) (s.op == 13) (s.op == 6) (nbK s.op.toNat s la.length lr.length) i s.at' ({ s with at' := adv s.at' 1 }, ()) := ⟨_, rfl⟩
    have hc' : ∀ x, c = .ok x → Sme s x.1 := fun x hx => by
     rw [hc] at hx
     have k := front_ok hx
     exact ⟨k.gV, k.gr, k.gs, k.gt, k.gn⟩
    rw [← hc] at h
    clear hc
    obtain ⟨o, ho⟩ : ∃ o : Nat, s.op.toNat = o := ⟨_, rfl⟩
    rw [ho] at h
    rcases hop2 with e | e | e | e | e | e | e | e | e | e | e | e | e | e | e
    ·obtain rfl : o = 1 := by omega
     obtain ⟨x, hx, k, kr⟩ := parts1 h
     have e0 := hc' x hx
     rw [e0.gV, e0.gr] at kr
     exact ⟨⟨hop, fun e' => by omega, fun e' => by omega, fun e' => by omega, fun e' => by omega⟩, e0.trans k⟩
    ·obtain rfl : o = 2 := by omega
     obtain ⟨x, hx, k, kr, ks⟩ := parts2 h
     have e0 := hc' x hx
     rw [e0.gV, e0.gr] at kr
     rw [e0.gV, e0.gs] at ks
     exact ⟨⟨hop, fun _ => kr, fun _ => ks, fun e' => by omega, fun e' => by omega⟩, e0.trans k⟩
    ·obtain rfl : o = 3 := by omega
     obtain ⟨x, hx, k, kr, ks⟩ := parts3 h
     have e0 := hc' x hx
     rw [e0.gV, e0.gr] at kr
     rw [e0.gV, e0.gs] at ks
     exact ⟨⟨hop, fun e' => by omega, fun e' => by omega, fun e' => by omega, fun e' => by omega⟩, e0.trans k⟩
    ·obtain rfl : o = 4 := by omega
     obtain ⟨x, hx, k, kr, ks⟩ := parts4 h
     have e0 := hc' x hx
     rw [e0.gV, e0.gr] at kr
     rw [e0.gV, e0.gs] at ks
     exact ⟨⟨hop, fun e' => by omega, fun e' => by omega, fun e' => by omega, fun e' => by omega⟩, e0.trans k⟩
    ·obtain rfl : o = 5 := by omega
     obtain ⟨x, hx, k, kr, ks⟩ := parts5 h
     have e0 := hc' x hx
     rw [e0.gV, e0.gr] at kr
     rw [e0.gV, e0.gs] at ks
     exact ⟨⟨hop, fun _ => kr, fun _ => ks, fun e' => by omega, fun e' => by omega⟩, e0.trans k⟩
    ·obtain rfl : o = 6 := by omega
     obtain ⟨x, hx, k, kr⟩ := parts6 h
     have e0 := hc' x hx
     rw [e0.gV, e0.gr] at kr
     exact ⟨⟨hop, fun _ => kr, fun e' => by omega, fun e' => by omega, fun e' => by omega⟩, e0.trans k⟩
    ·obtain rfl : o = 7 := by omega
     obtain ⟨x, hx, k, kr, ks⟩ := parts7 h
     have e0 := hc' x hx
     rw [e0.gV, e0.gr] at kr
     rw [e0.gV, e0.gs] at ks
     exact ⟨⟨hop, fun _ => kr, fun _ => ks, fun e' => by omega, fun e' => by omega⟩, e0.trans k⟩
    ·obtain rfl : o = 8 := by omega
     obtain ⟨x, hx, k, kr, ks⟩ := parts8 h
     have e0 := hc' x hx
     rw [e0.gV, e0.gr] at kr
     rw [e0.gV, e0.gs] at ks
     exact ⟨⟨hop, fun _ => kr, fun _ => ks, fun e' => by omega, fun e' => by omega⟩, e0.trans k⟩
    ·obtain rfl : o = 9 := by omega
     obtain ⟨x, hx, k, kr⟩ := parts9 h
     have e0 := hc' x hx
     rw [e0.gV, e0.gr] at kr
     exact ⟨⟨hop, fun e' => by omega, fun e' => by omega, fun e' => by omega, fun e' => by omega⟩, e0.trans k⟩
    ·obtain rfl : o = 10 := by omega
     obtain ⟨x, hx, k, ks⟩ := parts10 h
     have e0 := hc' x hx
     rw [e0.gV, e0.gs] at ks
     exact ⟨⟨hop, fun e' => by omega, fun _ => ks, fun e' => by omega, fun e' => by omega⟩, e0.trans k⟩
    ·obtain rfl : o = 12 := by omega
     obtain ⟨x, hx, k, ks⟩ := parts12 h
     have e0 := hc' x hx
     rw [e0.gV, e0.gs] at ks
     exact ⟨⟨hop, fun e' => by omega, fun e' => by omega, fun e' => by omega, fun e' => by omega⟩, e0.trans k⟩
    ·obtain rfl : o = 13 := by omega
     obtain ⟨x, hx, k⟩ := parts13 h
     have e0 := hc' x hx
     exact ⟨⟨hop, fun e' => by omega, fun e' => by omega, fun e' => by omega, fun e' => by omega⟩, e0.trans k⟩
    ·obtain rfl : o = 14 := by omega
     obtain ⟨x, hx, k, ks⟩ := parts14 h
     have e0 := hc' x hx
     rw [e0.gV, e0.gs] at ks
     exact ⟨⟨hop, fun e' => by omega, fun e' => by omega, fun e' => by omega, fun e' => by omega⟩, e0.trans k⟩
    ·obtain rfl : o = 16 := by omega
     obtain ⟨x, hx, k, kr⟩ := parts16 h
     have e0 := hc' x hx
     rw [e0.gV, e0.gr] at kr
     exact ⟨⟨hop, fun e' => by omega, fun e' => by omega, fun e' => by omega, fun e' => by omega⟩, e0.trans k⟩
    ·obtain rfl : o = 17 := by omega
     obtain ⟨x, hx, k, kr, ks⟩ := parts17 h
     have e0 := hc' x hx
     rw [e0.gV, e0.gr] at kr
     rw [e0.gV, e0.gs] at ks
     exact ⟨⟨hop, fun e' => by omega, fun e' => by omega, fun e' => by omega, fun e' => by omega⟩, e0.trans k⟩
 ·cases h
end
theorem ask_cnt {b o size : Nat} {c : WS → Bool} {er : Int} {x y : WS × Unit} (h : askX (leaving b) o size c er x = .ok y) : y.1.count = x.1.count := by
 obtain ⟨s, u⟩ := x
 have h := (L_ask o size c er s u).symm.trans h
 split at h
 ·cases h; rfl
 ·cases h
theorem code_ok (b : Nat) (heads : List (Nat × Nat)) (hnf : heads.length ≤ 65535) (fR : Nat) : ∀ (l : List PI) (i : Nat) (s : WS) (y : WS × Unit), codeP b heads fR i l s = .ok y → ∀ c ∈ l, InsK heads fR s.fV c.op c.r c.s c.n c.args c.rets
 | [], _, _, _, _, c, hc => by cases hc
 | c :: r, i, s, y, h, d, hd => by
   obtain ⟨x, h1, h2⟩ := thenX_ok h
   obtain ⟨k1, k2⟩ := instr_ok hnf h1
   have e : x.1.fV = s.fV := k2.gV
   rcases List.mem_cons.1 hd with rfl | hd
   ·exact k1
   ·have := code_ok b heads hnf fR r (i + 1) x.1 y h2 d hd
    rw [e] at this
    exact this
structure FunK (heads : List (Nat × Nat)) (f : PF) : Prop where
 V : 0 ≤ f.V ∧ f.V ≤ 255
 P : 0 ≤ f.P ∧ f.P ≤ 8
 R : 0 ≤ f.R ∧ f.R ≤ 4
 len : 1 ≤ f.code.length ∧ f.code.length ≤ 4096
 code : ∀ c ∈ f.code, InsK heads f.R.toNat f.V c.op c.r c.s c.n c.args c.rets
theorem head_ok {b : Nat} {s : WS} {y : WS × Unit} (h : headX (leaving b) (s, ()) = .ok y) : (0 ≤ s.fV ∧ s.fV ≤ 255) ∧ (0 ≤ s.fP ∧ s.fP ≤ 8) ∧ (0 ≤ s.fR ∧ s.fR ≤ 4) ∧ 0 < s.len ∧ s.len ≤ 4096 := by
 rw [headX_then] at h
 obtain ⟨y1, h1, h⟩ := thenX_ok h
 obtain ⟨y2, h2, h⟩ := thenX_ok h
 obtain ⟨y3, h3, h⟩ := thenX_ok h
 obtain ⟨y4, h4, h⟩ := thenX_ok h
 obtain ⟨u, h5, -⟩ := thenX_ok h
 cases (L_next 149 1 s ()).symm.trans h1
 cases (L_next 150 1 _ ()).symm.trans h2
 cases (L_next 151 1 _ ()).symm.trans h3
 cases (L_next 153 2 _ ()).symm.trans h4
 obtain ⟨g1, g2, g3, g4, g5⟩ := headOk_ok h5
 refine ⟨g1, ⟨g2.1, ?_⟩, g3, g5, g4⟩
 have g2 := g2.2
 have e : ∀ a : Int, (if a < 8 then a else 8) ≤ 8 := fun a => by split <;> omega
 exact Int.le_trans g2 (e _)
theorem heads_ok (b : Nat) : ∀ (fs : List PF) (s : WS) (y : WS × Unit), headsP b fs s = .ok y → ∀ g ∈ fs, (0 ≤ g.V ∧ g.V ≤ 255) ∧ (0 ≤ g.P ∧ g.P ≤ 8) ∧ (0 ≤ g.R ∧ g.R ≤ 4)
 | [], _, _, _, g, hg => by cases hg
 | f :: r, s, y, h, g, hg => by
   obtain ⟨x, h1, h2⟩ := thenX_ok h
   rcases List.mem_cons.1 hg with rfl | hg
   ·obtain ⟨k1, k2, k3, -, -⟩ := head_ok h1
    exact ⟨k1, k2, k3⟩
   ·exact heads_ok b r x.1 y h2 g hg
theorem check_ok {G : Int} {f : PF} {r : List PF} (h : checkP G (f :: r) = 0) : FunK (headsOfP (f :: r)) f ∧ (f :: r).length ≤ 65535 ∧ ∀ g ∈ f :: r, (0 ≤ g.V ∧ g.V ≤ 255) ∧ (0 ≤ g.P ∧ g.P ≤ 8) ∧ (0 ≤ g.R ∧ g.R ≤ 4) := by
 have ht := told_overP 0 G (f :: r) (WS.start nilS)
 unfold checkP at h
 cases ha : answerP G (f :: r) with
 | error z =>
   rw [ha] at h
   exact absurd h (ht z ha)
 | ok y =>
   have ha : overP 0 G (f :: r) (WS.start nilS) = .ok y := ha
   obtain ⟨x1, h1, h2⟩ := thenX_ok ha
   obtain ⟨x2, h3, h4⟩ := thenX_ok h2
   obtain ⟨x3, h5, h6⟩ := thenX_ok h4
   obtain ⟨x4, h7, h8⟩ := thenX_ok h5
   obtain ⟨x5, h9, h10⟩ := thenX_ok h6
   have hl : (f :: r).length ≤ 65535 := by
    have e1 := ask_cnt h1
    have e2 := ask_cnt h3
    have e3 := (ask_okL h3).1
    simp only [decide_eq_true_eq] at e3
    rw [e1] at e3
    have : ((f :: r).length : Int) ≤ 65535 := e3.2
    omega
   obtain ⟨k1, k2, k3, k4, k5⟩ := head_ok h7
   have hh : (headsOfP (f :: r)).length ≤ 65535 := by rw [headsOfP, List.length_map]; exact hl
   have k4 : 0 < ((f.code.length : Nat) : Int) := k4
   have k5 : ((f.code.length : Nat) : Int) ≤ 4096 := k5
   exact ⟨⟨k1, k2, k3, ⟨by omega, by omega⟩, code_ok 0 _ hh _ f.code 0 _ _ h9⟩, hl, heads_ok 0 _ _ _ h5⟩
end Go.Proofs.YtdkijecnnmncnaaGreatDoor
namespace Go.Proofs.YtdkijecnnmncnaaGreatDoor
open Go.RowKit (wrap32 wrap64)
set_option linter.unusedVariables false
set_option linter.unusedSimpArgs false
set_option maxRecDepth 100000
set_option maxHeartbeats 1000000
theorem flat_get {α : Type} (row : α → List Value) (sz : Nat) (hr : ∀ x, (row x).length = sz) : ∀ (L : List α) (i o : Nat) (h : i < L.length), o < sz → (L.flatMap row)[i * sz + o]? = (row L[i])[o]?
 | [], i, o, h, _ => absurd h (by simp)
 | x :: L, 0, o, _, ho => by
   rw [Nat.zero_mul, Nat.zero_add, List.flatMap_cons, List.getElem?_append_left (by rw [hr]; exact ho)]
   rfl
 | x :: L, i + 1, o, h, ho => by
   rw [List.flatMap_cons, List.getElem?_append_right (by rw [hr, Nat.add_mul]; omega), hr, show (i + 1) * sz + o - sz = i * sz + o by rw [Nat.add_mul]; omega]
   exact flat_get row sz hr L i o (by simpa using h) ho
theorem flat_len {α : Type} (row : α → List Value) (sz : Nat) (hr : ∀ x, (row x).length = sz) : ∀ (L : List α), (L.flatMap row).length = L.length * sz
 | [] => by simp
 | x :: L => by rw [List.flatMap_cons, List.length_append, hr, flat_len row sz hr L, List.length_cons, Nat.add_mul]; omega
theorem own_cell {w : World} {B e sz n : Nat} {v : Value} {xs : List Value} (h : w.ownsRow B e sz v n xs) {j : Nat} {u : Value} (hj : xs[j]? = some u) : ∃ g cap, v = .slice (some ⟨g, 0, none⟩) n cap ∧ g < w.heap.size ∧ w.cell? ⟨g, j, none⟩ = some u := by
 obtain ⟨h0, h1⟩ := h
 have hjl := (List.getElem?_eq_some_iff.1 hj).1
 rcases h1 with ⟨-, e2⟩ | ⟨g, cap, cur, rfl, k1, k2, k3, k4, k5, k6⟩
 ·subst e2; simp at h0; subst h0; simp at hjl
 ·refine ⟨g, cap, rfl, heap_lt k2, ?_⟩
  rw [cell_of k2, ← Array.getElem?_toList]
  rw [← k6] at hj
  rw [List.getElem?_take_of_lt (by omega)] at hj
  exact hj
theorem own_apart {w : World} {B B' e e' sz sz' n m : Nat} {v u : Value} {xs ys : List Value} (h : w.ownsRow B e sz v n xs) (k : w.ownsRow B' e' sz' u m ys) (he : e ≠ e') : ∀ j, u.ownBlock = some j → v.ownBlock ≠ some j := by
 intro j hu hv
 rcases h.2 with ⟨rfl, -⟩ | ⟨g, cap, cur, rfl, -, h2, -⟩
 ·cases hv
 ·rcases k.2 with ⟨rfl, -⟩ | ⟨g', cap', cur', rfl, -, k2, -⟩
  ·cases hu
  ·cases hv
   cases hu
   rw [h2] at k2
   cases k2
   exact he rfl
abbrev CI := PI × Value × Value
abbrev rowI (x : CI) : List Value := iR x.1 x.2
structure CO (w : World) (B : Nat) (v : Value) (L : List CI) : Prop where
 row : w.ownsRow B 79 7 v L.length (L.flatMap rowI)
 ints : ∀ x ∈ L, IOwn w B x.2.1 x.1.args ∧ IOwn w B x.2.2 x.1.rets
theorem CO.ca {w : World} {B : Nat} {v : Value} {L : List CI} (h : CO w B v L) : CA w v (L.map (·.1)) := by
 rcases h.row.2 with ⟨h2, h3⟩ | ⟨g, cap, cur, e, -⟩
 ·refine ⟨none, 0, by rw [h2, List.length_map, h3], fun hne => ?_⟩
  exact absurd (by rw [List.eq_nil_of_length_eq_zero h3]; rfl) hne
 ·refine ⟨some ⟨g, 0, none⟩, cap, by rw [e, List.length_map], fun _ => ⟨g, 0, rfl, (World.ownsRow.lt h.row g (by rw [e]; rfl)).2, fun j hj => ?_⟩⟩
  have hj' : j < L.length := by simpa using hj
  have pc : ∀ o u, o < 7 → (rowI L[j])[o]? = some u → w.cell? ⟨g, j * 7 + o, none⟩ = some u := fun o u ho hu => by
   obtain ⟨g', cap', e', -, hc⟩ := own_cell h.row (j := j * 7 + o) (u := u) (by rw [flat_get rowI 7 (fun _ => rfl) L j o hj' ho]; exact hu)
   rw [e] at e'
   cases e'
   exact hc
  have hi := h.ints L[j] (List.getElem_mem hj')
  rw [Nat.zero_add]
  simp only [List.getElem_map]
  exact ⟨L[j].2.1, L[j].2.2, pc 0 _ (by omega) rfl, pc 1 _ (by omega) rfl, pc 2 _ (by omega) rfl, pc 3 _ (by omega) rfl, pc 4 _ (by omega) rfl, pc 5 _ (by omega) rfl, pc 6 _ (by omega) rfl, hi.1.ia, hi.2.ia⟩
theorem CO.fr {S : Nat → Prop} {w w' : World} {B : Nat} {v : Value} {L : List CI} (h : CO w B v L) (f : Fr S w w') (h1 : ∀ k, v.ownBlock = some k → ¬ S k) (h2 : ∀ x ∈ L, ∀ k, (x.2.1.ownBlock = some k ∨ x.2.2.ownBlock = some k) → ¬ S k) : CO w' B v L :=
 ⟨ownsRow_frL h.row f h1, fun x hx => ⟨(h.ints x hx).1.fr f (fun k e => h2 x hx k (Or.inl e)), (h.ints x hx).2.fr f (fun k e => h2 x hx k (Or.inr e))⟩⟩
theorem CO.stay {w w' : World} {B : Nat} {v : Value} {L : List CI} (h : CO w B v L) (f : Fr (fun _ => False) w w') : CO w' B v L := h.fr f (fun _ _ e => e) (fun _ _ _ _ e => e)
theorem CO.mono {w : World} {B B' : Nat} {v : Value} {L : List CI} (h : CO w B v L) (hB : B' ≤ B) : CO w B' v L := ⟨World.ownsRow.mono h.row hB, fun x hx => ⟨(h.ints x hx).1.mono hB, (h.ints x hx).2.mono hB⟩⟩
theorem copyInstr_any (c : PI) (x y : Value) (w : World) (h1 : IA w x c.args) (h2 : IA w y c.rets) (hla : c.args.length ≤ 17592186043904) (hlr : c.rets.length ≤ 17592186043904) :
 Calls Tryz.prog 48 #[.agg #[vI c.op, vI c.r, vI c.s, vI c.t, vI c.n, x, y]] w fun e w' => ∃ x' y', e = .returned (.agg #[vI c.op, vI c.r, vI c.s, vI c.t, vI c.n, x', y']) ∧ IOwn w' w.heap.size x' c.args ∧ IOwn w' w.heap.size y' c.rets ∧ Fr (fun _ => False) w w' := by
 obtain ⟨a1, b1, e1, -⟩ := id h1
 obtain ⟨a2, b2, e2, -⟩ := id h2
 obtain ⟨wa, hwa⟩ : ∃ wa, wa = (w.alloc (.cells #[vI c.op, vI c.r, vI c.s, vI c.t, vI c.n, x, y] 79)).alloc (.cells #[vI 0, vI 0, vI 0, vI 0, vI 0, .slice none 0 0, .slice none 0 0] 79) := ⟨_, rfl⟩
 have hF : Fr (fun _ => False) w wa := by rw [hwa]; exact Fr.alloc (Fr.alloc (Fr.refl _ w) _) _
 have hsz : wa.heap.size = w.heap.size + 2 := by rw [hwa]; simp
 have b1' : wa.heap[w.heap.size]? = some (.cells #[vI c.op, vI c.r, vI c.s, vI c.t, vI c.n, x, y] 79) := by
  rw [hwa, Go.RowKit.Below.heap_alloc _ _ _ (by simp)]; exact heap_new w _
 have b2' : wa.heap[w.heap.size + 1]? = some (.cells #[vI 0, vI 0, vI 0, vI 0, vI 0, .slice none 0 0, .slice none 0 0] 79) := by
  rw [hwa, show w.heap.size + 1 = (w.alloc (.cells #[vI c.op, vI c.r, vI c.s, vI c.t, vI c.n, x, y] 79)).heap.size by simp]; exact heap_new _ _
 have HWA : Hd (wa = (w.alloc (.cells #[vI c.op, vI c.r, vI c.s, vI c.t, vI c.n, x, y] 79)).alloc (.cells #[vI 0, vI 0, vI 0, vI 0, vI 0, .slice none 0 0, .slice none 0 0] 79)) := hwa
 have G1 : Hd (IA wa x c.args) := h1.stay hF
 have G2 : Hd (IA w y c.rets) := h2
 have HF : Hd (Fr (fun _ => False) w wa) := hF
 obtain ⟨H, hH⟩ : ∃ H, H = w.heap.size := ⟨_, rfl⟩
 have HH : Hd (H = w.heap.size) := hH
 have HSZ : Hd (wa.heap.size = H + 2) := by rw [hH]; exact hsz
 rw [← hH] at b1' b2'
 have B1 : Hd _ := b1'
 have B2 : Hd _ := b2'
 have p5 : wa.cell? ⟨H, 5, none⟩ = some x := by rw [cell_of b1']; rfl
 subst e1; subst e2
 clear h1 h2 hF hsz hwa hH b1' b2'
 go_enter Tryz.func48, Tryz.ntmps48
 go_upto_region 1 with fail
 rw [← HWA.out, ← HH.out]
 clear HWA
 go_wp2_with fail
 refine (show Calls Tryz.prog 83 #[.slice a1 c.args.length b1] wa _ from copyInts_any _ c.args wa G1.out hla).mono ?_
 rintro e w2 ⟨x', rfl, hx', hF2⟩
 have hxs : ∀ k, x'.ownBlock = some k → H + 2 ≤ k := fun k e => by have := (hx'.ge k e).1; have := HSZ.out; omega
 have B1' : w2.heap[H]? = some (.cells #[vI c.op, vI c.r, vI c.s, vI c.t, vI c.n, .slice a1 c.args.length b1, .slice a2 c.rets.length b2] 79) := (hF2.block H (heap_lt B1.out) (fun e => e)).trans B1.out
 have B2' : w2.heap[H + 1]? = some (.cells #[vI 0, vI 0, vI 0, vI 0, vI 0, .slice none 0 0, .slice none 0 0] 79) := (hF2.block (H + 1) (heap_lt B2.out) (fun e => e)).trans B2.out
 obtain ⟨xa, xc, exa⟩ : ∃ xa xc, x' = .slice xa c.args.length xc := by obtain ⟨xa, xc, e, -⟩ := hx'.ia; exact ⟨xa, xc, e⟩
 have q5 : w2.cell? ⟨H, 5, none⟩ = some (.slice a1 c.args.length b1) := by rw [cell_of B1']; rfl
 have z5 := frozen_of B1' 5
 have fs2 := setCell_fr w2 H 5 x'
 have C1 : Hd ((w2.setCell ⟨H, 5, none⟩ x').heap[H]? = some (.cells #[vI c.op, vI c.r, vI c.s, vI c.t, vI c.n, x', .slice a2 c.rets.length b2] 79)) := set_of B1' 5 x'
 have C2 : Hd ((w2.setCell ⟨H, 5, none⟩ x').heap[H + 1]? = some (.cells #[vI 0, vI 0, vI 0, vI 0, vI 0, .slice none 0 0, .slice none 0 0] 79)) := (fs2.block (H + 1) (heap_lt B2') (by omega)).trans B2'
 have HX : Hd (IOwn (w2.setCell ⟨H, 5, none⟩ x') (H + 2) x' c.args) := (hx'.mono (by rw [HSZ.out]; exact Nat.le_refl _)).fr fs2 (fun k e e2 => by have := hxs k e; omega)
 have HF2 : Hd (Fr (fun _ => False) w (w2.setCell ⟨H, 5, none⟩ x')) := (HF.out.trans hF2).then fs2 (fun j hj e => by have := HH.out; omega)
 have HZ2 : Hd (H + 2 ≤ (w2.setCell ⟨H, 5, none⟩ x').heap.size) := by have := hF2.size; have := HSZ.out; have := fs2.size; unfold Hd; omega
 have G2' : Hd (IA (w2.setCell ⟨H, 5, none⟩ x') (.slice a2 c.rets.length b2) c.rets) := IA.stay G2.out HF2.out
 subst exa
 clear hx' hF2 hxs fs2 B1' B2' p5 B1 B2 G1 G2 HF HSZ
 go_upto_region 2 with fail
 clear q5 z5
 generalize w2.setCell ⟨H, 5, none⟩ (.slice xa c.args.length xc) = w3 at *
 have q6 : w3.cell? ⟨H, 6, none⟩ = some (.slice a2 c.rets.length b2) := by rw [cell_of C1.out]; rfl
 go_wp2_with fail
 refine (show Calls Tryz.prog 83 #[.slice a2 c.rets.length b2] w3 _ from copyInts_any _ c.rets w3 G2'.out hlr).mono ?_
 rintro e w4 ⟨y', rfl, hy', hF4⟩
 have hys : ∀ k, y'.ownBlock = some k → H + 2 ≤ k := fun k e => by have := (hy'.ge k e).1; have := HZ2.out; omega
 have B1' : w4.heap[H]? = some (.cells #[vI c.op, vI c.r, vI c.s, vI c.t, vI c.n, .slice xa c.args.length xc, .slice a2 c.rets.length b2] 79) := (hF4.block H (heap_lt C1.out) (fun e => e)).trans C1.out
 have B2' : w4.heap[H + 1]? = some (.cells #[vI 0, vI 0, vI 0, vI 0, vI 0, .slice none 0 0, .slice none 0 0] 79) := (hF4.block (H + 1) (heap_lt C2.out) (fun e => e)).trans C2.out
 obtain ⟨ya, yc, eya⟩ : ∃ ya yc, y' = .slice ya c.rets.length yc := by obtain ⟨ya, yc, e, -⟩ := hy'.ia; exact ⟨ya, yc, e⟩
 have fs4 := setCell_fr w4 H 6 y'
 have D1 : (w4.setCell ⟨H, 6, none⟩ y').heap[H]? = some (.cells #[vI c.op, vI c.r, vI c.s, vI c.t, vI c.n, .slice xa c.args.length xc, y'] 79) := set_of B1' 6 y'
 have D2 : (w4.setCell ⟨H, 6, none⟩ y').heap[H + 1]? = some (.cells #[vI 0, vI 0, vI 0, vI 0, vI 0, .slice none 0 0, .slice none 0 0] 79) := (fs4.block (H + 1) (heap_lt B2') (by omega)).trans B2'
 have HX4 : IOwn (w4.setCell ⟨H, 6, none⟩ y') (H + 2) (.slice xa c.args.length xc) c.args := (HX.out.fr hF4 (fun _ _ e => e)).fr fs4 (fun k e e2 => by have := (HX.out.ge k e).1; omega)
 have HY4 : IOwn (w4.setCell ⟨H, 6, none⟩ y') (H + 2) y' c.rets := (hy'.mono HZ2.out).fr fs4 (fun k e e2 => by have := hys k e; omega)
 have HF4 : Fr (fun _ => False) w (w4.setCell ⟨H, 6, none⟩ y') := (HF2.out.trans hF4).then fs4 (fun j hj e => by have := HH.out; omega)
 have r6 : w4.cell? ⟨H, 6, none⟩ = some (.slice a2 c.rets.length b2) := by rw [cell_of B1']; rfl
 have z6 := frozen_of B1' 6
 subst eya
 have J1 : Hd _ := D1
 have J2 : Hd _ := D2
 have JX : Hd _ := HX4
 have JY : Hd _ := HY4
 have JF : Hd _ := HF4
 clear hy' hF4 hys fs4 B1' B2' D1 D2 HX4 HY4 HF4 C1 C2 HX HF2 HZ2 G2'
 go_upto_region 3 with fail
 clear q6 r6 z6
 generalize w4.setCell ⟨H, 6, none⟩ (.slice ya c.rets.length yc) = w5 at *
 have c0 : w5.cell? ⟨H, 0, none⟩ = some (vI c.op) := by rw [cell_of J1.out]; rfl
 have c1 : w5.cell? ⟨H, 1, none⟩ = some (vI c.r) := by rw [cell_of J1.out]; rfl
 have c2 : w5.cell? ⟨H, 2, none⟩ = some (vI c.s) := by rw [cell_of J1.out]; rfl
 have c3 : w5.cell? ⟨H, 3, none⟩ = some (vI c.t) := by rw [cell_of J1.out]; rfl
 have c4 : w5.cell? ⟨H, 4, none⟩ = some (vI c.n) := by rw [cell_of J1.out]; rfl
 have c5 : w5.cell? ⟨H, 5, none⟩ = some (.slice xa c.args.length xc) := by rw [cell_of J1.out]; rfl
 have c6 : w5.cell? ⟨H, 6, none⟩ = some (.slice ya c.rets.length yc) := by rw [cell_of J1.out]; rfl
 have d0 : w5.cell? ⟨H + 1, 0, none⟩ = some (vI 0) := by rw [cell_of J2.out]; rfl
 have d1 : w5.cell? ⟨H + 1, 1, none⟩ = some (vI 0) := by rw [cell_of J2.out]; rfl
 have d2 : w5.cell? ⟨H + 1, 2, none⟩ = some (vI 0) := by rw [cell_of J2.out]; rfl
 have d3 : w5.cell? ⟨H + 1, 3, none⟩ = some (vI 0) := by rw [cell_of J2.out]; rfl
 have d4 : w5.cell? ⟨H + 1, 4, none⟩ = some (vI 0) := by rw [cell_of J2.out]; rfl
 have d5 : w5.cell? ⟨H + 1, 5, none⟩ = some (.slice none 0 0) := by rw [cell_of J2.out]; rfl
 have d6 : w5.cell? ⟨H + 1, 6, none⟩ = some (.slice none 0 0) := by rw [cell_of J2.out]; rfl
 have y0 := frozen_of J2.out 0
 have y1 := frozen_of J2.out 1
 have y2 := frozen_of J2.out 2
 have y3 := frozen_of J2.out 3
 have y4 := frozen_of J2.out 4
 have y5 := frozen_of J2.out 5
 have y6 := frozen_of J2.out 6
 have HL : Hd ((sev7 w5 (H + 1) 0 (iR c (.slice xa c.args.length xc, .slice ya c.rets.length yc))).heap[H + 1]? = some (.cells #[vI c.op, vI c.r, vI c.s, vI c.t, vI c.n, .slice xa c.args.length xc, .slice ya c.rets.length yc] 79)) :=
  set_of (set_of (set_of (set_of (set_of (set_of (set_of J2.out 0 _) 1 _) 2 _) 3 _) 4 _) 5 _) 6 _
 have fs6 := sev7_fr w5 (H + 1) 0 (iR c (.slice xa c.args.length xc, .slice ya c.rets.length yc))
 have KX : Hd (IOwn (sev7 w5 (H + 1) 0 (iR c (.slice xa c.args.length xc, .slice ya c.rets.length yc))) w.heap.size (.slice xa c.args.length xc) c.args) := (IOwn.fr JX.out fs6 (fun k e e2 => by have := (IOwn.ge JX.out k e).1; omega)).mono (by have := HH.out; omega)
 have KY : Hd (IOwn (sev7 w5 (H + 1) 0 (iR c (.slice xa c.args.length xc, .slice ya c.rets.length yc))) w.heap.size (.slice ya c.rets.length yc) c.rets) := (IOwn.fr JY.out fs6 (fun k e e2 => by have := (IOwn.ge JY.out k e).1; omega)).mono (by have := HH.out; omega)
 have KF : Hd (Fr (fun _ => False) w (sev7 w5 (H + 1) 0 (iR c (.slice xa c.args.length xc, .slice ya c.rets.length yc)))) := Fr.then JF.out fs6 (fun j hj e => by have := HH.out; omega)
 clear fs6
 go_wp2_with fail
 change bodyPost _ _ _ _ _ (sev7 w5 (H + 1) 0 (iR c (.slice xa c.args.length xc, .slice ya c.rets.length yc)))
 generalize sev7 w5 (H + 1) 0 (iR c (.slice xa c.args.length xc, .slice ya c.rets.length yc)) = wz at *
 have e0 : wz.cell? ⟨H + 1, 0, none⟩ = some (vI c.op) := by rw [cell_of HL.out]; rfl
 have e1 : wz.cell? ⟨H + 1, 1, none⟩ = some (vI c.r) := by rw [cell_of HL.out]; rfl
 have e2 : wz.cell? ⟨H + 1, 2, none⟩ = some (vI c.s) := by rw [cell_of HL.out]; rfl
 have e3 : wz.cell? ⟨H + 1, 3, none⟩ = some (vI c.t) := by rw [cell_of HL.out]; rfl
 have e4 : wz.cell? ⟨H + 1, 4, none⟩ = some (vI c.n) := by rw [cell_of HL.out]; rfl
 have e5 : wz.cell? ⟨H + 1, 5, none⟩ = some (.slice xa c.args.length xc) := by rw [cell_of HL.out]; rfl
 have e6 : wz.cell? ⟨H + 1, 6, none⟩ = some (.slice ya c.rets.length yc) := by rw [cell_of HL.out]; rfl
 refine bodyPost_ret (v := .agg #[vI c.op, vI c.r, vI c.s, vI c.t, vI c.n, .slice xa c.args.length xc, .slice ya c.rets.length yc]) ?_ rfl ⟨_, _, rfl, KX.out, KY.out, KF.out⟩
 rw [results_cell (p := 2) (ty := 79) Tryz.results48]
 simp [go_sem, e0, e1, e2, e3, e4, e5, e6]
end Go.Proofs.YtdkijecnnmncnaaGreatDoor
