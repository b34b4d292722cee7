import Derived.Test.YtdkijecnnmncnaaGreatDoorQD1J
import Derived.Test.YtdkijecnnmncnaaGreatDoorQEbJ
import Derived.Laws.OwnMore
namespace Go.Proofs.YtdkijecnnmncnaaGreatDoor
open Go.RowKit (wrap32 wrap64)
set_option linter.unusedVariables false
set_option linter.unusedSimpArgs false
abbrev InV (V v : Int) : Prop := 0 ≤ v ∧ v ≤ IntKind.i64.wrap (V - 1)
structure Sme (s y : WS) : Prop where
 gV : y.fV = s.fV
 gr : y.r = s.r
 gs : y.s = s.s
 gt : y.t = s.t
 gn : y.n = s.n
theorem Sme.refl (s : WS) : Sme s s := ⟨rfl, rfl, rfl, rfl, rfl⟩
theorem Sme.trans {a b c : WS} (h : Sme a b) (k : Sme b c) : Sme a c := ⟨k.gV.trans h.gV, k.gr.trans h.gr, k.gs.trans h.gs, k.gt.trans h.gt, k.gn.trans h.gn⟩
section
variable {b : Nat} {y : WS × Unit} {x : WS × Unit}
theorem ask_okL {o size : Nat} {c : WS → Bool} {er : Int} (h : askX (leaving b) o size c er x = .ok y) : c { x.1 with at' := adv x.1.at' size } = true ∧ Sme x.1 y.1 := by
 obtain ⟨s, u⟩ := x
 have h := (L_ask o size c er s u).symm.trans h
 split at h
 ·rename_i hc
  cases h
  exact ⟨hc, rfl, rfl, rfl, rfl, rfl⟩
 ·cases h
theorem R_ok (h : varPart (leaving b) 155 x = .ok y) : InV x.1.fV x.1.r ∧ Sme x.1 y.1 := by
 obtain ⟨h1, h2⟩ := ask_okL h
 exact ⟨of_decide_eq_true h1, h2⟩
theorem S_ok (h : varPart (leaving b) 156 x = .ok y) : InV x.1.fV x.1.s ∧ Sme x.1 y.1 := by
 obtain ⟨h1, h2⟩ := ask_okL h
 exact ⟨of_decide_eq_true h1, h2⟩
theorem T_ok (h : varPart (leaving b) 157 x = .ok y) : InV x.1.fV x.1.t ∧ Sme x.1 y.1 := by
 obtain ⟨h1, h2⟩ := ask_okL h
 exact ⟨of_decide_eq_true h1, h2⟩
theorem int_ok (h : intPart (leaving b) x = .ok y) : True ∧ Sme x.1 y.1 := by
 obtain ⟨s, u⟩ := x
 cases (L_next 158 8 s u).symm.trans h
 exact ⟨trivial, rfl, rfl, rfl, rfl, rfl⟩
theorem fields_ok (h : fieldsPart (leaving b) x = .ok y) : True ∧ Sme x.1 y.1 := ⟨trivial, (ask_okL h).2⟩
theorem field_ok (h : fieldPart (leaving b) x = .ok y) : True ∧ Sme x.1 y.1 := ⟨trivial, (ask_okL h).2⟩
theorem global_ok (h : globalPart (leaving b) x = .ok y) : True ∧ Sme x.1 y.1 := ⟨trivial, (ask_okL h).2⟩
theorem target_ok (h : targetPart (leaving b) x = .ok y) : True ∧ Sme x.1 y.1 := ⟨trivial, (ask_okL h).2⟩
theorem loc_ok {n p : Int} (h : locX (leaving b) n p x = .ok y) : Sme x.1 y.1 := by
 unfold locX at h
 split at h
 ·cases h; exact ⟨rfl, rfl, rfl, rfl, rfl⟩
 ·cases h
theorem front_ok {e m nb : Bool} {i : Nat} {p : Int} (h : frontOk (leaving b) e m nb i p x = .ok y) : Sme x.1 y.1 := by
 unfold frontOk at h
 split at h
 ·cases h
 ·split at h
  ·cases h
  ·split at h
   ·exact loc_ok (b := b) h
   ·cases h; exact Sme.refl _
theorem vars_ok : ∀ (l : List Int) (x y : WS × Unit), varsL l x = .ok y → (∀ v ∈ l, InV x.1.fV v) ∧ Sme x.1 y.1
 | [], x, y, h => by cases h; exact ⟨fun v hv => (by cases hv), Sme.refl _⟩
 | v :: r, x, y, h => by
   obtain ⟨z, h1, h2⟩ := thenX_ok h
   unfold oneL at h1
   split at h1
   ·rename_i hv
    cases h1
    obtain ⟨k1, k2⟩ := vars_ok r _ y h2
    refine ⟨fun u hu => ?_, Sme.trans (by exact ⟨rfl, rfl, rfl, rfl, rfl⟩) k2⟩
    rcases List.mem_cons.1 hu with rfl | hu
    ·exact of_decide_eq_true hv
    ·exact k1 u hu
   ·cases h1
theorem list_ok {n : Nat} {l : List Int} (h : listL n l x = .ok y) : l.length = n ∧ (∀ v ∈ l, InV x.1.fV v) ∧ Sme x.1 y.1 := by
 unfold listL at h
 split at h
 ·rename_i hn
  obtain ⟨k1, k2⟩ := vars_ok l _ y h
  exact ⟨hn, k1, Sme.trans (by exact ⟨rfl, rfl, rfl, rfl, rfl⟩) k2⟩
 ·cases h
structure InsK (heads : List (Nat × Nat)) (fR : Nat) (V op r s n : Int) (la lr : List Int) : Prop where
 kop : 1 ≤ op ∧ op ≤ 17
 kr : op = 2 ∨ op = 5 ∨ op = 6 ∨ op = 7 ∨ op = 8 → InV V r
 ks : op = 2 ∨ op = 5 ∨ op = 7 ∨ op = 8 ∨ op = 10 → InV V s
 kret : op = 15 → la.length = fR ∧ ∀ v ∈ la, InV V v
 kcall : op = 11 → (0 ≤ n ∧ n < heads.length) ∧ la.length = (heads.getD n.toNat (0, 0)).1 ∧ lr.length = (heads.getD n.toNat (0, 0)).2 ∧ (∀ v ∈ la, InV V v) ∧ ∀ v ∈ lr, InV V v
theorem parts1 {c : X (WS × Unit)} (h : partsX (leaving b) 1 c = .ok y) : ∃ x, c = .ok x ∧ Sme x.1 y.1 ∧ InV x.1.fV x.1.r := by
 have h : thenX (thenX (c) (varPart (leaving b) 155)) (intPart (leaving b)) = .ok y := h
 obtain ⟨x1, h1, g1⟩ := thenX_ok h
 obtain ⟨x0, h0, g0⟩ := thenX_ok h1
 obtain ⟨a0, s0⟩ := R_ok g0
 obtain ⟨a1, s1⟩ := int_ok g1
 exact ⟨x0, h0, (s0).trans s1, a0⟩
theorem parts2 {c : X (WS × Unit)} (h : partsX (leaving b) 2 c = .ok y) : ∃ x, c = .ok x ∧ Sme x.1 y.1 ∧ InV x.1.fV x.1.r ∧ InV x.1.fV x.1.s := by
 have h : thenX (thenX (c) (varPart (leaving b) 155)) (varPart (leaving b) 156) = .ok y := h
 obtain ⟨x1, h1, g1⟩ := thenX_ok h
 obtain ⟨x0, h0, g0⟩ := thenX_ok h1
 obtain ⟨a0, s0⟩ := R_ok g0
 obtain ⟨a1, s1⟩ := S_ok g1
 exact ⟨x0, h0, (s0).trans s1, a0, (by have e := s0; rw [← e.gV, ← e.gs]; exact a1)⟩
theorem parts3 {c : X (WS × Unit)} (h : partsX (leaving b) 3 c = .ok y) : ∃ x, c = .ok x ∧ Sme x.1 y.1 ∧ InV x.1.fV x.1.r ∧ InV x.1.fV x.1.s := by
 have h : thenX (thenX (thenX (c) (varPart (leaving b) 155)) (varPart (leaving b) 156)) (varPart (leaving b) 157) = .ok y := h
 obtain ⟨x2, h2, g2⟩ := thenX_ok h
 obtain ⟨x1, h1, g1⟩ := thenX_ok h2
 obtain ⟨x0, h0, g0⟩ := thenX_ok h1
 obtain ⟨a0, s0⟩ := R_ok g0
 obtain ⟨a1, s1⟩ := S_ok g1
 obtain ⟨a2, s2⟩ := T_ok g2
 exact ⟨x0, h0, ((s0).trans s1).trans s2, a0, (by have e := s0; rw [← e.gV, ← e.gs]; exact a1)⟩
theorem parts4 {c : X (WS × Unit)} (h : partsX (leaving b) 4 c = .ok y) : ∃ x, c = .ok x ∧ Sme x.1 y.1 ∧ InV x.1.fV x.1.r ∧ InV x.1.fV x.1.s := by
 have h : thenX (thenX (thenX (c) (varPart (leaving b) 155)) (varPart (leaving b) 156)) (varPart (leaving b) 157) = .ok y := h
 obtain ⟨x2, h2, g2⟩ := thenX_ok h
 obtain ⟨x1, h1, g1⟩ := thenX_ok h2
 obtain ⟨x0, h0, g0⟩ := thenX_ok h1
 obtain ⟨a0, s0⟩ := R_ok g0
 obtain ⟨a1, s1⟩ := S_ok g1
 obtain ⟨a2, s2⟩ := T_ok g2
 exact ⟨x0, h0, ((s0).trans s1).trans s2, a0, (by have e := s0; rw [← e.gV, ← e.gs]; exact a1)⟩
theorem parts5 {c : X (WS × Unit)} (h : partsX (leaving b) 5 c = .ok y) : ∃ x, c = .ok x ∧ Sme x.1 y.1 ∧ InV x.1.fV x.1.r ∧ InV x.1.fV x.1.s := by
 have h : thenX (thenX (c) (varPart (leaving b) 155)) (varPart (leaving b) 156) = .ok y := h
 obtain ⟨x1, h1, g1⟩ := thenX_ok h
 obtain ⟨x0, h0, g0⟩ := thenX_ok h1
 obtain ⟨a0, s0⟩ := R_ok g0
 obtain ⟨a1, s1⟩ := S_ok g1
 exact ⟨x0, h0, (s0).trans s1, a0, (by have e := s0; rw [← e.gV, ← e.gs]; exact a1)⟩
theorem parts6 {c : X (WS × Unit)} (h : partsX (leaving b) 6 c = .ok y) : ∃ x, c = .ok x ∧ Sme x.1 y.1 ∧ InV x.1.fV x.1.r := by
 have h : thenX (thenX (c) (varPart (leaving b) 155)) (fieldsPart (leaving b)) = .ok y := h
 obtain ⟨x1, h1, g1⟩ := thenX_ok h
 obtain ⟨x0, h0, g0⟩ := thenX_ok h1
 obtain ⟨a0, s0⟩ := R_ok g0
 obtain ⟨a1, s1⟩ := fields_ok g1
 exact ⟨x0, h0, (s0).trans s1, a0⟩
theorem parts7 {c : X (WS × Unit)} (h : partsX (leaving b) 7 c = .ok y) : ∃ x, c = .ok x ∧ Sme x.1 y.1 ∧ InV x.1.fV x.1.r ∧ InV x.1.fV x.1.s := by
 have h : thenX (thenX (thenX (c) (varPart (leaving b) 155)) (varPart (leaving b) 156)) (fieldPart (leaving b)) = .ok y := h
 obtain ⟨x2, h2, g2⟩ := thenX_ok h
 obtain ⟨x1, h1, g1⟩ := thenX_ok h2
 obtain ⟨x0, h0, g0⟩ := thenX_ok h1
 obtain ⟨a0, s0⟩ := R_ok g0
 obtain ⟨a1, s1⟩ := S_ok g1
 obtain ⟨a2, s2⟩ := field_ok g2
 exact ⟨x0, h0, ((s0).trans s1).trans s2, a0, (by have e := s0; rw [← e.gV, ← e.gs]; exact a1)⟩
theorem parts8 {c : X (WS × Unit)} (h : partsX (leaving b) 8 c = .ok y) : ∃ x, c = .ok x ∧ Sme x.1 y.1 ∧ InV x.1.fV x.1.r ∧ InV x.1.fV x.1.s := by
 have h : thenX (thenX (thenX (c) (varPart (leaving b) 155)) (varPart (leaving b) 156)) (fieldPart (leaving b)) = .ok y := h
 obtain ⟨x2, h2, g2⟩ := thenX_ok h
 obtain ⟨x1, h1, g1⟩ := thenX_ok h2
 obtain ⟨x0, h0, g0⟩ := thenX_ok h1
 obtain ⟨a0, s0⟩ := R_ok g0
 obtain ⟨a1, s1⟩ := S_ok g1
 obtain ⟨a2, s2⟩ := field_ok g2
 exact ⟨x0, h0, ((s0).trans s1).trans s2, a0, (by have e := s0; rw [← e.gV, ← e.gs]; exact a1)⟩
theorem parts9 {c : X (WS × Unit)} (h : partsX (leaving b) 9 c = .ok y) : ∃ x, c = .ok x ∧ Sme x.1 y.1 ∧ InV x.1.fV x.1.r := by
 have h : thenX (thenX (c) (varPart (leaving b) 155)) (globalPart (leaving b)) = .ok y := h
 obtain ⟨x1, h1, g1⟩ := thenX_ok h
 obtain ⟨x0, h0, g0⟩ := thenX_ok h1
 obtain ⟨a0, s0⟩ := R_ok g0
 obtain ⟨a1, s1⟩ := global_ok g1
 exact ⟨x0, h0, (s0).trans s1, a0⟩
theorem parts10 {c : X (WS × Unit)} (h : partsX (leaving b) 10 c = .ok y) : ∃ x, c = .ok x ∧ Sme x.1 y.1 ∧ InV x.1.fV x.1.s := by
 have h : thenX (thenX (c) (varPart (leaving b) 156)) (globalPart (leaving b)) = .ok y := h
 obtain ⟨x1, h1, g1⟩ := thenX_ok h
 obtain ⟨x0, h0, g0⟩ := thenX_ok h1
 obtain ⟨a0, s0⟩ := S_ok g0
 obtain ⟨a1, s1⟩ := global_ok g1
 exact ⟨x0, h0, (s0).trans s1, a0⟩
theorem parts12 {c : X (WS × Unit)} (h : partsX (leaving b) 12 c = .ok y) : ∃ x, c = .ok x ∧ Sme x.1 y.1 ∧ InV x.1.fV x.1.s := by
 have h : thenX (c) (varPart (leaving b) 156) = .ok y := h
 obtain ⟨x0, h0, g0⟩ := thenX_ok h
 obtain ⟨a0, s0⟩ := S_ok g0
 exact ⟨x0, h0, s0, a0⟩
theorem parts13 {c : X (WS × Unit)} (h : partsX (leaving b) 13 c = .ok y) : ∃ x, c = .ok x ∧ Sme x.1 y.1 := by
 have h : thenX (c) (targetPart (leaving b)) = .ok y := h
 obtain ⟨x0, h0, g0⟩ := thenX_ok h
 obtain ⟨a0, s0⟩ := target_ok g0
 exact ⟨x0, h0, s0⟩
theorem parts14 {c : X (WS × Unit)} (h : partsX (leaving b) 14 c = .ok y) : ∃ x, c = .ok x ∧ Sme x.1 y.1 ∧ InV x.1.fV x.1.s := by
 have h : thenX (thenX (c) (varPart (leaving b) 156)) (targetPart (leaving b)) = .ok y := h
 obtain ⟨x1, h1, g1⟩ := thenX_ok h
 obtain ⟨x0, h0, g0⟩ := thenX_ok h1
 obtain ⟨a0, s0⟩ := S_ok g0
 obtain ⟨a1, s1⟩ := target_ok g1
 exact ⟨x0, h0, (s0).trans s1, a0⟩
theorem parts16 {c : X (WS × Unit)} (h : partsX (leaving b) 16 c = .ok y) : ∃ x, c = .ok x ∧ Sme x.1 y.1 ∧ InV x.1.fV x.1.r := by
 have h : thenX (c) (varPart (leaving b) 155) = .ok y := h
 obtain ⟨x0, h0, g0⟩ := thenX_ok h
 obtain ⟨a0, s0⟩ := R_ok g0
 exact ⟨x0, h0, s0, a0⟩
theorem parts17 {c : X (WS × Unit)} (h : partsX (leaving b) 17 c = .ok y) : ∃ x, c = .ok x ∧ Sme x.1 y.1 ∧ InV x.1.fV x.1.r ∧ InV x.1.fV x.1.s := by
 have h : thenX (thenX (thenX (c) (varPart (leaving b) 155)) (varPart (leaving b) 156)) (varPart (leaving b) 157) = .ok y := h
 obtain ⟨x2, h2, g2⟩ := thenX_ok h
 obtain ⟨x1, h1, g1⟩ := thenX_ok h2
 obtain ⟨x0, h0, g0⟩ := thenX_ok h1
 obtain ⟨a0, s0⟩ := R_ok g0
 obtain ⟨a1, s1⟩ := S_ok g1
 obtain ⟨a2, s2⟩ := T_ok g2
 exact ⟨x0, h0, ((s0).trans s1).trans s2, a0, (by have e := s0; rw [← e.gV, ← e.gs]; exact a1)⟩
theorem callee_ok {nf : Nat} (hnf : nf ≤ 65535) (h : calleePart (leaving b) nf x = .ok y) : (0 ≤ x.1.n ∧ x.1.n < nf) ∧ Sme x.1 y.1 := by
 obtain ⟨h1, h2⟩ := ask_okL h
 have h1 : 0 ≤ x.1.n ∧ x.1.n ≤ IntKind.i64.wrap ((nf : Int) - 1) := of_decide_eq_true h1
 rw [wrap_small _ (by omega) (by omega)] at h1
 exact ⟨by omega, h2⟩
theorem instr_ok {heads : List (Nat × Nat)} {fR i : Nat} {la lr : List Int} {s : WS} (hnf : heads.length ≤ 65535) (h : instrL (b := b) heads fR i la lr s = .ok y) : InsK heads fR s.fV s.op s.r s.s s.n la lr ∧ Sme s y.1 := by
 unfold instrL at h
 split at h
 ·rename_i hop
  split at h
  ·rename_i e
   obtain ⟨x, h1, h2⟩ := thenX_ok (p := listL fR la) h
   have k1 := front_ok h1
   obtain ⟨k2, k3, k4⟩ := list_ok h2
   have k1 : Sme s x.1 := ⟨k1.gV, k1.gr, k1.gs, k1.gt, k1.gn⟩
   rw [k1.gV] at k3
   exact ⟨⟨hop, fun e' => by omega, fun e' => by omega, fun _ => ⟨k2, k3⟩, fun e' => by omega⟩, k1.trans k4⟩
  ·split at h
   ·rename_i e
    obtain ⟨x, h1, h2⟩ := thenX_ok h
    obtain ⟨x0, h0, h1⟩ := thenX_ok h1
    obtain ⟨x2, h2, h3⟩ := thenX_ok h2
    have k0 := front_ok h0
    have k0 : Sme s x0.1 := ⟨k0.gV, k0.gr, k0.gs, k0.gt, k0.gn⟩
    obtain ⟨c1, c2⟩ := callee_ok hnf h1
    have k1 := k0.trans c2
    obtain ⟨a1, a2, a3⟩ := list_ok h2
    obtain ⟨b1, b2, b3⟩ := list_ok h3
    have k2 := k1.trans a3
    rw [k1.gV] at a2
    rw [k2.gV] at b2
    rw [k1.gn] at a1 b1
    rw [k0.gn] at c1
    exact ⟨⟨hop, fun e' => by omega, fun e' => by omega, fun e' => by omega, fun _ => ⟨c1, a1, b1, a2, b2⟩⟩, k2.trans b3⟩
   ·rename_i n15 n11
    have hop2 : s.op = 1 ∨ s.op = 2 ∨ s.op = 3 ∨ s.op = 4 ∨ s.op = 5 ∨ s.op = 6 ∨ s.op = 7 ∨ s.op = 8 ∨ s.op = 9 ∨ s.op = 10 ∨ s.op = 12 ∨ s.op = 13 ∨ s.op = 14 ∨ s.op = 16 ∨ s.op = 17 := by omega
    obtain ⟨c, hc⟩ : ∃ c : X (WS × Unit), c = frontOk (leaving b) (s.op == 13) (s.op == 6) (nbK s.op.toNat s la.length lr.length) i s.at' ({ s with at' := adv s.at' 1 }, ()) := ⟨_, rfl⟩
    have hc' : ∀ x, c = .ok x → Sme s x.1 := fun x hx => by
     rw [hc] at hx
     have k := front_ok hx
     exact ⟨k.gV, k.gr, k.gs, k.gt, k.gn⟩
    rw [← hc] at h
    clear hc
    obtain ⟨o, ho⟩ : ∃ o : Nat, s.op.toNat = o := ⟨_, rfl⟩
    rw [ho] at h
    rcases hop2 with e | e | e | e | e | e | e | e | e | e | e | e | e | e | e
    ·obtain rfl : o = 1 := by omega
     obtain ⟨x, hx, k, kr⟩ := parts1 h
     have e0 := hc' x hx
     rw [e0.gV, e0.gr] at kr
     exact ⟨⟨hop, fun e' => by omega, fun e' => by omega, fun e' => by omega, fun e' => by omega⟩, e0.trans k⟩
    ·obtain rfl : o = 2 := by omega
     obtain ⟨x, hx, k, kr, ks⟩ := parts2 h
     have e0 := hc' x hx
     rw [e0.gV, e0.gr] at kr
     rw [e0.gV, e0.gs] at ks
     exact ⟨⟨hop, fun _ => kr, fun _ => ks, fun e' => by omega, fun e' => by omega⟩, e0.trans k⟩
    ·obtain rfl : o = 3 := by omega
     obtain ⟨x, hx, k, kr, ks⟩ := parts3 h
     have e0 := hc' x hx
     rw [e0.gV, e0.gr] at kr
     rw [e0.gV, e0.gs] at ks
     exact ⟨⟨hop, fun e' => by omega, fun e' => by omega, fun e' => by omega, fun e' => by omega⟩, e0.trans k⟩
    ·obtain rfl : o = 4 := by omega
     obtain ⟨x, hx, k, kr, ks⟩ := parts4 h
     have e0 := hc' x hx
     rw [e0.gV, e0.gr] at kr
     rw [e0.gV, e0.gs] at ks
     exact ⟨⟨hop, fun e' => by omega, fun e' => by omega, fun e' => by omega, fun e' => by omega⟩, e0.trans k⟩
    ·obtain rfl : o = 5 := by omega
     obtain ⟨x, hx, k, kr, ks⟩ := parts5 h
     have e0 := hc' x hx
     rw [e0.gV, e0.gr] at kr
     rw [e0.gV, e0.gs] at ks
     exact ⟨⟨hop, fun _ => kr, fun _ => ks, fun e' => by omega, fun e' => by omega⟩, e0.trans k⟩
    ·obtain rfl : o = 6 := by omega
     obtain ⟨x, hx, k, kr⟩ := parts6 h
     have e0 := hc' x hx
     rw [e0.gV, e0.gr] at kr
     exact ⟨⟨hop, fun _ => kr, fun e' => by omega, fun e' => by omega, fun e' => by omega⟩, e0.trans k⟩
    ·obtain rfl : o = 7 := by omega
     obtain ⟨x, hx, k, kr, ks⟩ := parts7 h
     have e0 := hc' x hx
     rw [e0.gV, e0.gr] at kr
     rw [e0.gV, e0.gs] at ks
     exact ⟨⟨hop, fun _ => kr, fun _ => ks, fun e' => by omega, fun e' => by omega⟩, e0.trans k⟩
    ·obtain rfl : o = 8 := by omega
     obtain ⟨x, hx, k, kr, ks⟩ := parts8 h
     have e0 := hc' x hx
     rw [e0.gV, e0.gr] at kr
     rw [e0.gV, e0.gs] at ks
     exact ⟨⟨hop, fun _ => kr, fun _ => ks, fun e' => by omega, fun e' => by omega⟩, e0.trans k⟩
    ·obtain rfl : o = 9 := by omega
     obtain ⟨x, hx, k, kr⟩ := parts9 h
     have e0 := hc' x hx
     rw [e0.gV, e0.gr] at kr
     exact ⟨⟨hop, fun e' => by omega, fun e' => by omega, fun e' => by omega, fun e' => by omega⟩, e0.trans k⟩
    ·obtain rfl : o = 10 := by omega
     obtain ⟨x, hx, k, ks⟩ := parts10 h
     have e0 := hc' x hx
     rw [e0.gV, e0.gs] at ks
     exact ⟨⟨hop, fun e' => by omega, fun _ => ks, fun e' => by omega, fun e' => by omega⟩, e0.trans k⟩
    ·obtain rfl : o = 12 := by omega
     obtain ⟨x, hx, k, ks⟩ := parts12 h
     have e0 := hc' x hx
     rw [e0.gV, e0.gs] at ks
     exact ⟨⟨hop, fun e' => by omega, fun e' => by omega, fun e' => by omega, fun e' => by omega⟩, e0.trans k⟩
    ·obtain rfl : o = 13 := by omega
     obtain ⟨x, hx, k⟩ := parts13 h
     have e0 := hc' x hx
     exact ⟨⟨hop, fun e' => by omega, fun e' => by omega, fun e' => by omega, fun e' => by omega⟩, e0.trans k⟩
    ·obtain rfl : o = 14 := by omega
     obtain ⟨x, hx, k, ks⟩ := parts14 h
     have e0 := hc' x hx
     rw [e0.gV, e0.gs] at ks
     exact ⟨⟨hop, fun e' => by omega, fun e' => by omega, fun e' => by omega, fun e' => by omega⟩, e0.trans k⟩
    ·obtain rfl : o = 16 := by omega
     obtain ⟨x, hx, k, kr⟩ := parts16 h
     have e0 := hc' x hx
     rw [e0.gV, e0.gr] at kr
     exact ⟨⟨hop, fun e' => by omega, fun e' => by omega, fun e' => by omega, fun e' => by omega⟩, e0.trans k⟩
    ·obtain rfl : o = 17 := by omega
     obtain ⟨x, hx, k, kr, ks⟩ := parts17 h
     have e0 := hc' x hx
     rw [e0.gV, e0.gr] at kr
     rw [e0.gV, e0.gs] at ks
     exact ⟨⟨hop, fun e' => by omega, fun e' => by omega, fun e' => by omega, fun e' => by omega⟩, e0.trans k⟩
 ·cases h
end
theorem ask_cnt {b o size : Nat} {c : WS → Bool} {er : Int} {x y : WS × Unit} (h : askX (leaving b) o size c er x = .ok y) : y.1.count = x.1.count := by
 obtain ⟨s, u⟩ := x
 have h := (L_ask o size c er s u).symm.trans h
 split at h
 ·cases h; rfl
 ·cases h
theorem code_ok (b : Nat) (heads : List (Nat × Nat)) (hnf : heads.length ≤ 65535) (fR : Nat) : ∀ (l : List PI) (i : Nat) (s : WS) (y : WS × Unit), codeP b heads fR i l s = .ok y → ∀ c ∈ l, InsK heads fR s.fV c.op c.r c.s c.n c.args c.rets
 | [], _, _, _, _, c, hc => by cases hc
 | c :: r, i, s, y, h, d, hd => by
   obtain ⟨x, h1, h2⟩ := thenX_ok h
   obtain ⟨k1, k2⟩ := instr_ok hnf h1
   have e : x.1.fV = s.fV := k2.gV
   rcases List.mem_cons.1 hd with rfl | hd
   ·exact k1
   ·have := code_ok b heads hnf fR r (i + 1) x.1 y h2 d hd
    rw [e] at this
    exact this
structure FunK (heads : List (Nat × Nat)) (f : PF) : Prop where
 V : 0 ≤ f.V ∧ f.V ≤ 255
 P : 0 ≤ f.P ∧ f.P ≤ 8
 R : 0 ≤ f.R ∧ f.R ≤ 4
 len : 1 ≤ f.code.length ∧ f.code.length ≤ 4096
 code : ∀ c ∈ f.code, InsK heads f.R.toNat f.V c.op c.r c.s c.n c.args c.rets
theorem head_ok {b : Nat} {s : WS} {y : WS × Unit} (h : headX (leaving b) (s, ()) = .ok y) : (0 ≤ s.fV ∧ s.fV ≤ 255) ∧ (0 ≤ s.fP ∧ s.fP ≤ 8) ∧ (0 ≤ s.fR ∧ s.fR ≤ 4) ∧ 0 < s.len ∧ s.len ≤ 4096 := by
 rw [headX_then] at h
 obtain ⟨y1, h1, h⟩ := thenX_ok h
 obtain ⟨y2, h2, h⟩ := thenX_ok h
 obtain ⟨y3, h3, h⟩ := thenX_ok h
 obtain ⟨y4, h4, h⟩ := thenX_ok h
 obtain ⟨u, h5, -⟩ := thenX_ok h
 cases (L_next 149 1 s ()).symm.trans h1
 cases (L_next 150 1 _ ()).symm.trans h2
 cases (L_next 151 1 _ ()).symm.trans h3
 cases (L_next 153 2 _ ()).symm.trans h4
 obtain ⟨g1, g2, g3, g4, g5⟩ := headOk_ok h5
 refine ⟨g1, ⟨g2.1, ?_⟩, g3, g5, g4⟩
 have g2 := g2.2
 have e : ∀ a : Int, (if a < 8 then a else 8) ≤ 8 := fun a => by split <;> omega
 exact Int.le_trans g2 (e _)
theorem heads_ok (b : Nat) : ∀ (fs : List PF) (s : WS) (y : WS × Unit), headsP b fs s = .ok y → ∀ g ∈ fs, (0 ≤ g.V ∧ g.V ≤ 255) ∧ (0 ≤ g.P ∧ g.P ≤ 8) ∧ (0 ≤ g.R ∧ g.R ≤ 4)
 | [], _, _, _, g, hg => by cases hg
 | f :: r, s, y, h, g, hg => by
   obtain ⟨x, h1, h2⟩ := thenX_ok h
   rcases List.mem_cons.1 hg with rfl | hg
   ·obtain ⟨k1, k2, k3, -, -⟩ := head_ok h1
    exact ⟨k1, k2, k3⟩
   ·exact heads_ok b r x.1 y h2 g hg
theorem check_ok {G : Int} {f : PF} {r : List PF} (h : checkP G (f :: r) = 0) : FunK (headsOfP (f :: r)) f ∧ (f :: r).length ≤ 65535 ∧ ∀ g ∈ f :: r, (0 ≤ g.V ∧ g.V ≤ 255) ∧ (0 ≤ g.P ∧ g.P ≤ 8) ∧ (0 ≤ g.R ∧ g.R ≤ 4) := by
 have ht := told_overP 0 G (f :: r) (WS.start nilS)
 unfold checkP at h
 cases ha : answerP G (f :: r) with
 | error z =>
   rw [ha] at h
   exact absurd h (ht z ha)
 | ok y =>
   have ha : overP 0 G (f :: r) (WS.start nilS) = .ok y := ha
   obtain ⟨x1, h1, h2⟩ := thenX_ok ha
   obtain ⟨x2, h3, h4⟩ := thenX_ok h2
   obtain ⟨x3, h5, h6⟩ := thenX_ok h4
   obtain ⟨x4, h7, h8⟩ := thenX_ok h5
   obtain ⟨x5, h9, h10⟩ := thenX_ok h6
   have hl : (f :: r).length ≤ 65535 := by
    have e1 := ask_cnt h1
    have e2 := ask_cnt h3
    have e3 := (ask_okL h3).1
    simp only [decide_eq_true_eq] at e3
    rw [e1] at e3
    have : ((f :: r).length : Int) ≤ 65535 := e3.2
    omega
   obtain ⟨k1, k2, k3, k4, k5⟩ := head_ok h7
   have hh : (headsOfP (f :: r)).length ≤ 65535 := by rw [headsOfP, List.length_map]; exact hl
   have k4 : 0 < ((f.code.length : Nat) : Int) := k4
   have k5 : ((f.code.length : Nat) : Int) ≤ 4096 := k5
   exact ⟨⟨k1, k2, k3, ⟨by omega, by omega⟩, code_ok 0 _ hh _ f.code 0 _ _ h9⟩, hl, heads_ok 0 _ _ _ h5⟩
end Go.Proofs.YtdkijecnnmncnaaGreatDoor
namespace Go.Proofs.YtdkijecnnmncnaaGreatDoor
open Go.RowKit (wrap32 wrap64)
set_option linter.unusedVariables false
set_option linter.unusedSimpArgs false
theorem flat_get {α : Type} (row : α → List Value) (sz : Nat) (hr : ∀ x, (row x).length = sz) : ∀ (L : List α) (i o : Nat) (h : i < L.length), o < sz → (L.flatMap row)[i * sz + o]? = (row L[i])[o]?
 | [], i, o, h, _ => absurd h (by simp)
 | x :: L, 0, o, _, ho => by
   rw [Nat.zero_mul, Nat.zero_add, List.flatMap_cons, List.getElem?_append_left (by rw [hr]; exact ho)]
   rfl
 | x :: L, i + 1, o, h, ho => by
   rw [List.flatMap_cons, List.getElem?_append_right (by rw [hr, Nat.add_mul]; omega), hr, show (i + 1) * sz + o - sz = i * sz + o by rw [Nat.add_mul]; omega]
   exact flat_get row sz hr L i o (by simpa using h) ho
theorem own_cell {w : World} {B e sz n : Nat} {v : Value} {xs : List Value} (h : w.ownsRow B e sz v n xs) {j : Nat} {u : Value} (hj : xs[j]? = some u) : ∃ g cap, v = .slice (some ⟨g, 0, none⟩) n cap ∧ g < w.heap.size ∧ w.cell? ⟨g, j, none⟩ = some u := by
 obtain ⟨h0, h1⟩ := h
 have hjl := (List.getElem?_eq_some_iff.1 hj).1
 rcases h1 with ⟨-, e2⟩ | ⟨g, cap, cur, rfl, k1, k2, k3, k4, k5, k6⟩
 ·subst e2; simp at h0; subst h0; simp at hjl
 ·refine ⟨g, cap, rfl, heap_lt k2, ?_⟩
  rw [cell_of k2, ← Array.getElem?_toList]
  rw [← k6] at hj
  rw [List.getElem?_take_of_lt (by omega)] at hj
  exact hj
theorem own_apart {w : World} {B B' e e' sz sz' n m : Nat} {v u : Value} {xs ys : List Value} (h : w.ownsRow B e sz v n xs) (k : w.ownsRow B' e' sz' u m ys) (he : e ≠ e') : ∀ j, u.ownBlock = some j → v.ownBlock ≠ some j := by
 intro j hu hv
 rcases h.2 with ⟨rfl, -⟩ | ⟨g, cap, cur, rfl, -, h2, -⟩
 ·cases hv
 ·rcases k.2 with ⟨rfl, -⟩ | ⟨g', cap', cur', rfl, -, k2, -⟩
  ·cases hu
  ·cases hv
   cases hu
   rw [h2] at k2
   cases k2
   exact he rfl
abbrev CI := PI × Value × Value
abbrev rowI (x : CI) : List Value := iR x.1 x.2
end Go.Proofs.YtdkijecnnmncnaaGreatDoor
namespace Go.Proofs.YtdkijecnnmncnaaGreatDoor
open Go.RowKit (wrap32 wrap64)
set_option linter.unusedVariables false
set_option linter.unusedSimpArgs false
set_option maxRecDepth 100000
set_option maxHeartbeats 2000000
theorem addr_plus (b off i : Nat) : (⟨b, off, none⟩ : Addr).add i = ⟨b, off + i, none⟩ := by unfold Addr.add; split <;> simp_all
theorem row_set {w : World} {B e sz n g cap j : Nat} {xs : List Value} (h : w.ownsRow B e sz (.slice (some ⟨g, 0, none⟩) n cap) n xs) (u : Value) :
 (w.setCell ⟨g, j, none⟩ u).ownsRow B e sz (.slice (some ⟨g, 0, none⟩) n cap) n (xs.set j u) ∧ w.frozen? ⟨g, j, none⟩ = false := by
 obtain ⟨h0, h1⟩ := h
 rcases h1 with ⟨e1, -⟩ | ⟨g', cap', cur, e1, k1, k2, k3, k4, k5, k6⟩
 ·cases e1
 ·cases e1
  refine ⟨⟨by rw [List.length_set]; exact h0, Or.inr ⟨g, cap, cur.setIfInBounds j u, rfl, k1, set_of k2 j u, k3, k4, by simpa using k5, ?_⟩⟩, frozen_of k2 j⟩
  rw [← k6, Array.toList_setIfInBounds, List.take_set]
structure CSo (w : World) (B : Nat) (v : Value) (L : List CI) : Prop where
 row : w.ownsRow B 79 7 v L.length (L.flatMap rowI)
 ints : ∀ x ∈ L, IA w x.2.1 x.1.args ∧ IA w x.2.2 x.1.rets
theorem CSo.ca {w : World} {B : Nat} {v : Value} {L : List CI} (h : CSo w B v L) : CA w v (L.map (·.1)) := by
 rcases h.row.2 with ⟨h2, h3⟩ | ⟨g, cap, cur, e, -⟩
 ·refine ⟨none, 0, by rw [h2, List.length_map, h3], fun hne => ?_⟩
  exact absurd (by rw [List.eq_nil_of_length_eq_zero h3]; rfl) hne
 ·refine ⟨some ⟨g, 0, none⟩, cap, by rw [e, List.length_map], fun _ => ⟨g, 0, rfl, (World.ownsRow.lt h.row g (by rw [e]; rfl)).2, fun j hj => ?_⟩⟩
  have hj' : j < L.length := by simpa using hj
  have pc : ∀ o u, o < 7 → (rowI L[j])[o]? = some u → w.cell? ⟨g, j * 7 + o, none⟩ = some u := fun o u ho hu => by
   obtain ⟨g', cap', e', -, hc⟩ := own_cell h.row (j := j * 7 + o) (u := u) (by rw [flat_get rowI 7 (fun _ => rfl) L j o hj' ho]; exact hu)
   rw [e] at e'
   cases e'
   exact hc
  have hi := h.ints L[j] (List.getElem_mem hj')
  rw [Nat.zero_add]
  simp only [List.getElem_map]
  exact ⟨L[j].2.1, L[j].2.2, pc 0 _ (by omega) rfl, pc 1 _ (by omega) rfl, pc 2 _ (by omega) rfl, pc 3 _ (by omega) rfl, pc 4 _ (by omega) rfl, pc 5 _ (by omega) rfl, pc 6 _ (by omega) rfl, hi.1, hi.2⟩
theorem CA.items {w : World} {a : Option Addr} {n cp : Nat} {cs : List PI} (h : CA w (.slice a n cp) cs) (hne : cs ≠ []) :
 ∃ k o, a = some ⟨k, o, none⟩ ∧ k < w.heap.size ∧ ∃ L : List CI, L.map (·.1) = cs ∧ (∀ x ∈ L, IA w x.2.1 x.1.args ∧ IA w x.2.2 x.1.rets) ∧ ∀ j u, (L.flatMap rowI)[j]? = some u → w.cell? ⟨k, o + j, none⟩ = some u := by
 obtain ⟨a', cp', e, h⟩ := h
 cases e
 obtain ⟨k, o, rfl, hk, hc⟩ := h hne
 have hf : ∃ f : Nat → Value × Value, ∀ j (h : j < cs.length), w.cell? ⟨k, o + j * 7, none⟩ = some (vI cs[j].op) ∧ w.cell? ⟨k, o + j * 7 + 1, none⟩ = some (vI cs[j].r) ∧ w.cell? ⟨k, o + j * 7 + 2, none⟩ = some (vI cs[j].s) ∧ w.cell? ⟨k, o + j * 7 + 3, none⟩ = some (vI cs[j].t) ∧ w.cell? ⟨k, o + j * 7 + 4, none⟩ = some (vI cs[j].n) ∧
  w.cell? ⟨k, o + j * 7 + 5, none⟩ = some (f j).1 ∧ w.cell? ⟨k, o + j * 7 + 6, none⟩ = some (f j).2 ∧ IA w (f j).1 cs[j].args ∧ IA w (f j).2 cs[j].rets := by
  have hv : ∀ j, ∃ p : Value × Value, ∀ (h : j < cs.length), w.cell? ⟨k, o + j * 7, none⟩ = some (vI cs[j].op) ∧ w.cell? ⟨k, o + j * 7 + 1, none⟩ = some (vI cs[j].r) ∧ w.cell? ⟨k, o + j * 7 + 2, none⟩ = some (vI cs[j].s) ∧ w.cell? ⟨k, o + j * 7 + 3, none⟩ = some (vI cs[j].t) ∧ w.cell? ⟨k, o + j * 7 + 4, none⟩ = some (vI cs[j].n) ∧
   w.cell? ⟨k, o + j * 7 + 5, none⟩ = some p.1 ∧ w.cell? ⟨k, o + j * 7 + 6, none⟩ = some p.2 ∧ IA w p.1 cs[j].args ∧ IA w p.2 cs[j].rets := fun j => by
   by_cases hj : j < cs.length
   ·obtain ⟨av, rv, q⟩ := hc j hj
    exact ⟨(av, rv), fun _ => q⟩
   ·exact ⟨(undef, undef), fun h => absurd h hj⟩
  exact ⟨fun j => (hv j).choose, fun j => (hv j).choose_spec⟩
 obtain ⟨f, hf⟩ := hf
 have hL : ∀ j (h : j < (List.zip cs ((List.range cs.length).map f)).length), j < cs.length := fun j h => by simpa using h
 have hg : ∀ j (h : j < (List.zip cs ((List.range cs.length).map f)).length), (List.zip cs ((List.range cs.length).map f))[j] = (cs[j]'(hL j h), f j) := fun j h => by simp
 refine ⟨k, o, rfl, hk, List.zip cs ((List.range cs.length).map f), ?_, fun x hx => ?_, fun j u hu => ?_⟩
 ·apply List.map_fst_zip
  simp
 ·obtain ⟨j, hj, rfl⟩ := List.mem_iff_getElem.1 hx
  rw [hg j hj]
  exact ⟨(hf j (hL j hj)).2.2.2.2.2.2.2.1, (hf j (hL j hj)).2.2.2.2.2.2.2.2⟩
 ·have hlen : ((List.zip cs ((List.range cs.length).map f)).flatMap rowI).length = cs.length * 7 := by
   rw [List.length_flatMap]
   simp [List.map_const']
  have hj := (List.getElem?_eq_some_iff.1 hu).1
  rw [hlen] at hj
  have hi : j / 7 < cs.length := by omega
  have hi' : j / 7 < (List.zip cs ((List.range cs.length).map f)).length := by simpa using hi
  have ho : j % 7 < 7 := Nat.mod_lt _ (by omega)
  have e : j = j / 7 * 7 + j % 7 := by omega
  rw [e, flat_get rowI 7 (fun _ => rfl) _ _ _ hi' ho, hg _ hi'] at hu
  rw [e, ← Nat.add_assoc]
  obtain ⟨c0, c1, c2, c3, c4, c5, c6, -⟩ := hf (j / 7) hi
  generalize j / 7 = i at *
  generalize j % 7 = r at *
  have hr : r = 0 ∨ r = 1 ∨ r = 2 ∨ r = 3 ∨ r = 4 ∨ r = 5 ∨ r = 6 := by omega
  rcases hr with rfl | rfl | rfl | rfl | rfl | rfl | rfl
  all_goals (cases hu; assumption)
theorem items_one {w : World} {L : List CI} (h : ∀ x ∈ L, IA w x.2.1 x.1.args ∧ IA w x.2.2 x.1.rets) : ∀ u ∈ L.flatMap rowI, u.oneCell' = true := fun u hu => by
 obtain ⟨x, hx, hu⟩ := List.mem_flatMap.1 hu
 obtain ⟨⟨a1, c1, e1, -⟩, ⟨a2, c2, e2, -⟩⟩ := h x hx
 simp only [rowI, iR, List.mem_cons, List.not_mem_nil, or_false] at hu
 rcases hu with rfl | rfl | rfl | rfl | rfl | rfl | rfl
 all_goals first | rfl | (rw [e1]; rfl) | (rw [e2]; rfl)
theorem run_append_none0 {P : Program} {w : World} (base : Nat) (t ty e : TypeId) (i : TypeInfo) (size : Nat) (ht : P.underlying t = some (.slice e)) (hi : P.info? e = some i)
 (v : Value) (n : Nat) (xs : List Value) (hown : w.ownsRow base e size v n xs) (ad : Addr) (c : Nat) :
 (Builtin.append_ #[t, t] ty #[v, .slice (some ad) 0 c]).run P w = .ok v w := by
 rcases hown.2 with ⟨rfl, rfl⟩ | ⟨g, cap, cur, rfl, _, _, hnc, _⟩
 ·simp [Builtin.append_, run_underlying ht, sizeOf, typeInfo, hi, Builtin.lenOf, Builtin.firstCells, loadCells, loadCellsFrom]
 ·simp [Builtin.append_, run_underlying ht, sizeOf, typeInfo, hi, Builtin.lenOf, Builtin.firstCells, hnc, storeCells, loadCells, loadCellsFrom]
theorem wpList_append_none0 {P : Program} {w : World} {ops : Array Oper} {rest : List Oper} {o : Oper} {a : Act} {Q : Exit → Act → World → Prop} (hgd : o.guard = none) (s x : Operand) (t : TypeId)
 (ho : o.op = .call { callee := .builtin .append, args := #[s, x], argTypes := #[t, t] })
 (base : Nat) (e : TypeId) (i : TypeInfo) (size : Nat) (ht : P.underlying t = some (.slice e)) (hi : P.info? e = some i)
 (v : Value) (n : Nat) (xs : List Value) (hs : a.eval s = v) (hown : w.ownsRow base e size v n xs) (ad : Addr) (c : Nat) (hx : a.eval x = .slice (some ad) 0 c)
 (h : wpList P ops Q rest (a.put o.dst v) w) : wpList P ops Q (o :: rest) a w := by
 refine wpList_plain hgd fun K hK => ?_
 have hrun := run_append_none0 (P := P) (w := w) base t o.type e i size ht hi v n xs hown ad c
 unfold Oper.wp
 simp [execOp, ho, resolve, invoke, builtin, hs, hx, hrun, Result.andThen]
 exact hK _ _ h
theorem clone_any (v : Value) (cs : List PI) (w0 w : World) (h : CA w0 v cs) (f : Fr (fun _ => False) w0 w) (hn : FineC cs) :
 Calls Tryz.prog 148 #[v] w fun e w' => ∃ (v' : Value) (L : List CI), e = .returned v' ∧ w'.ownsRow w.heap.size 79 7 v' cs.length (L.flatMap rowI) ∧ L.map (·.1) = cs ∧ (∀ x ∈ L, IA w0 x.2.1 x.1.args ∧ IA w0 x.2.2 x.1.rets) ∧ Fr (fun _ => False) w w' := by
 by_cases hne : cs = []
 ·subst hne
  obtain ⟨a0, cp, rfl, -⟩ := h
  rcases a0 with _ | ad
  rotate_left
  ·obtain ⟨i7, hi7, hz7, hs7, hb7⟩ := info_parts (P := Tryz.prog) (e := 79) (z := .agg #[vI 0, vI 0, vI 0, vI 0, vI 0, .slice none 0 0, .slice none 0 0]) (size := 7) (bytes := 88) (by kernel_rfl)
   have hq : (binOp .eql 41 (.slice (some ad) 0 cp) (.slice none 0 0)).run Tryz.prog w = .ok (.bool false) w := by first | rfl | kernel_rfl
   have HF1 : Hd (Fr (fun _ => False) w (w.alloc (.cells #[] 79))) := Fr.alloc (Fr.refl _ w) _
   have HRW : Hd ((w.alloc (.cells #[] 79)).ownsRow w.heap.size 79 7 (.slice (some ⟨w.heap.size, 0, none⟩) 0 0) 0 []) := ⟨rfl, Or.inr ⟨w.heap.size, 0, #[], rfl, Nat.le_refl _, heap_new w _, Nat.le_refl _, Nat.zero_le _, rfl, rfl⟩⟩
   show Calls Tryz.prog 148 #[.slice (some ad) 0 cp] w _
   go_enter Tryz.func148, Tryz.ntmps148
   go_wp2_with ((at_builtin; refine Hd.out ?_))
   unfold Hd
   refine wpList_append_none0 rfl (.tmp 5) (.tmp 6) 41 rfl w.heap.size 79 i7 7 (by kernel_rfl) hi7 (.slice (some ⟨w.heap.size, 0, none⟩) 0 0) 0 [] rfl HRW.out ad cp rfl ?_
   go_wp2_with fail
   go_ret
   exact ⟨_, [], rfl, HRW.out, rfl, (fun x hx => by simp at hx), HF1.out⟩
  show Calls Tryz.prog 148 #[.slice none 0 cp] w _
  have hq : (binOp .eql 41 (.slice none 0 cp) (.slice none 0 0)).run Tryz.prog w = .ok (.bool true) w := by first | rfl | kernel_rfl
  go_enter Tryz.func148, Tryz.ntmps148
  go_wp2_with fail
  go_ret
  exact ⟨_, [], rfl, World.ownsRow_nil _ _ _ _, rfl, (fun x hx => by simp at hx), Fr.refl _ _⟩
 ·obtain ⟨a0, cp, rfl, -⟩ := id h
  obtain ⟨k, o, rfl, hk, L, hL, hI, hcell⟩ := h.items hne
  have hLl : L.length = cs.length := by rw [← hL, List.length_map]
  have hlen : (L.flatMap rowI).length = cs.length * 7 := by
   rw [List.length_flatMap, ← hLl]
   simp [List.map_const']
  have hpos : 0 < cs.length := List.length_pos_iff.2 hne
  obtain ⟨i7, hi7, hz7, hs7, hb7⟩ := info_parts (P := Tryz.prog) (e := 79) (z := .agg #[vI 0, vI 0, vI 0, vI 0, vI 0, .slice none 0 0, .slice none 0 0]) (size := 7) (bytes := 88) (by kernel_rfl)
  have hq : (binOp .eql 41 (.slice (some ⟨k, o, none⟩) cs.length cp) (.slice none 0 0)).run Tryz.prog w = .ok (.bool false) w := by first | rfl | kernel_rfl
  have hF1 : Fr (fun _ => False) w (w.alloc (.cells #[] 79)) := Fr.alloc (Fr.refl _ w) _
  have HF1 : Hd (Fr (fun _ => False) w (w.alloc (.cells #[] 79))) := hF1
  have HRW : Hd ((w.alloc (.cells #[] 79)).ownsRow w.heap.size 79 7 (.slice (some ⟨w.heap.size, 0, none⟩) 0 0) 0 []) := ⟨rfl, Or.inr ⟨w.heap.size, 0, #[], rfl, Nat.le_refl _, heap_new w _, Nat.le_refl _, Nat.zero_le _, rfl, rfl⟩⟩
  have HNW : Hd (∀ j u, (L.flatMap rowI)[j]? = some u → (w.alloc (.cells #[] 79)).cell? ((⟨k, o, none⟩ : Addr).add j) = some u) := fun j u hu => by
   rw [addr_plus, hF1.cell (Nat.lt_of_lt_of_le hk f.size) (fun h => h), f.cell hk (fun h => h)]
   exact hcell j u hu
  have hbase : w.heap.size ≤ (w.alloc (.cells #[] 79)).heap.size := hF1.size
  have HI : Hd (∀ x ∈ L, IA w0 x.2.1 x.1.args ∧ IA w0 x.2.2 x.1.rets) := hI
  have HL : Hd (L.map (·.1) = cs ∧ L.length = cs.length ∧ (L.flatMap rowI).length = cs.length * 7 ∧ cs.length ≤ 1599289640354) := ⟨hL, hLl, hlen, hn.1⟩
  clear hF1 hcell hI hL hLl hlen hn h hne
  go_enter Tryz.func148, Tryz.ntmps148
  go_wp2_with ((at_builtin; refine Hd.out ?_))
  unfold Hd
  refine wpList_append_lies _ rfl (.tmp 5) (.tmp 6) 41 rfl w.heap.size 79 i7 (.agg #[vI 0, vI 0, vI 0, vI 0, vI 0, .slice none 0 0, .slice none 0 0]) 7 88 (by kernel_rfl) hi7 hz7 hs7 hb7 rfl (by omega) (.slice (some ⟨w.heap.size, 0, none⟩) 0 0) 0 _ rfl HRW.out ⟨k, o, none⟩ cs.length cp (L.flatMap rowI) rfl HL.out.2.2.1 HNW.out (items_one HI.out) hpos (by have := HL.out; unfold maxLen; omega) (by have := HL.out; omega) hbase (w.heap.size + 1) (by simp) ?_
  intro g6 cap6 w6 hown6 hgrow6 hat6 hlt6
  have HF6 : Hd (Fr (fun _ => False) w w6) := HF1.out.then (⟨hgrow6.os, hgrow6.tape, hgrow6.output, hgrow6.size, fun k hk hS => hgrow6.block k hk (fun e => hS e.symm)⟩ : Fr (fun k => (Value.slice (some ⟨w.heap.size, 0, none⟩) 0 0).ownBlock = some k) _ _) (fun j hj e => by cases e; exact absurd hj (Nat.lt_irrefl _))
  have HO6 : Hd (w6.ownsRow w.heap.size 79 7 (.slice (some ⟨g6, 0, none⟩) cs.length cap6) cs.length (L.flatMap rowI)) := by unfold Hd; simpa using hown6
  clear hown6 hgrow6 hat6 hlt6 hbase HRW HNW
  rw [Nat.zero_add]
  go_wp2_with fail
  go_ret
  exact ⟨_, L, rfl, HO6.out, HL.out.1, HI.out, HF6.out⟩
end Go.Proofs.YtdkijecnnmncnaaGreatDoor
