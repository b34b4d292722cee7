import Derived.Test.YtjmbfjaahadbhaaGreatDoorQKeJ
import Derived.Test.YtjmbfjaahadbhaaGreatDoorQB5J
set_option linter.unusedVariables false
set_option linter.unusedSimpArgs false
namespace Go.Proofs.YtjmbfjaahadbhaaGreatDoor
open Go.RowKit (wrap32 wrap64)

theorem w64 {z : Int} (h0 : 0 ≤ z) (h1 : z ≤ 1000000000000) : wrap64 z = z := by unfold wrap64; omega

/-- What stands ahead of an instruction. -/
structure CorF (G V : Int) (fl : Nat) (s : WS) (L : Int) : Prop where
  g : s.globals = G
  v : s.fV = V
  l : s.len = fl
  lo : s.locs = L + 1

theorem front_agi {G V : Int} {fl : Nat} {L : Int} (b : Nat) (c : PI) (i : Nat) (hi : i < fl) (s : WS) (hs : CorF G V fl s L) (hL0 : 0 ≤ L) (hL1 : L + 1 ≤ 1048576) (hop : 1 ≤ c.op ∧ c.op ≤ 17)
    (nb ends makes : Bool) (he : ends = (c.op == 13 || c.op == 15)) (hm : makes = (c.op == 6)) (p a : Int) :
    AGI G V fl c (opL c.op L) (opE c.op nb ((i : Int) == (fl : Int) - 1) L 0) (frontOk (leaving b) ends makes nb i p ({ inI c s with at' := a }, ())) := by
  have hob : opB c.op = true := by unfold opB; simp [hop.1, hop.2]
  have hla : (ends || decide ((i : Int) < (inI c s).len - 1)) = lastB ((i : Int) == (fl : Int) - 1) c.op := by
    rw [show (inI c s).len = s.len from rfl, hs.l, he]
    unfold lastB
    cases hx : (c.op == 13 || c.op == 15)
    · rw [Bool.or_false, Bool.false_or, Bool.eq_iff_iff]; simp; omega
    · simp
  unfold frontOk opE
  rw [hob, mustE_yes]
  cases nb with
  | false =>
    rw [if_pos rfl, mustE_no, mustE_keep (E := 1) (by decide), mustE_keep (E := 1) (by decide)]
    exact ⟨rfl, show (1 : Int) ≠ 0 by decide⟩
  | true =>
    rw [if_neg (by decide), mustE_yes]
    rw [show (({ inI c s with at' := a }, ()) : WS × Unit).1.len = (inI c s).len from rfl, hla]
    cases lastB ((i : Int) == (fl : Int) - 1) c.op with
    | false =>
      rw [if_pos rfl, mustE_no, mustE_keep (by decide)]
      exact ⟨rfl, show (19 : Int) ≠ 0 by decide⟩
    | true =>
      rw [if_neg (by decide), mustE_yes, hm]
      by_cases h6 : c.op = 6
      · have e : opL c.op L = L + 1 := by unfold opL; rw [if_pos h6]
        rw [e, if_pos (by simp [h6])]
        unfold locX
        have e2 : wrap64 ((({ inI c s with at' := a }, ()) : WS × Unit).1.locs + 1) = L + 1 + 1 := by
          rw [show (({ inI c s with at' := a }, ()) : WS × Unit).1.locs = s.locs from rfl, hs.lo]
          exact w64 (by omega) (by omega)
        rw [e2]
        by_cases hle : L + 1 + 1 ≤ 1048576
        · rw [if_pos hle, show decide (L + 1 + 1 ≤ 1048576) = true by simpa using hle, mustE_yes]
          exact ⟨rfl, ⟨hs.g, hs.v, hs.l, rfl, rfl, rfl, rfl, rfl⟩⟩
        · rw [if_neg hle, show decide (L + 1 + 1 ≤ 1048576) = false by simpa using hle, mustE_no]
          exact ⟨rfl, show (21 : Int) ≠ 0 by decide⟩
      · have e : opL c.op L = L := by unfold opL; rw [if_neg h6]
        rw [e, if_neg (by simp [h6]), show decide (L + 1 ≤ 1048576) = true by simpa using hL1, mustE_yes]
        exact ⟨rfl, ⟨hs.g, hs.v, hs.l, rfl, rfl, rfl, rfl, hs.lo⟩⟩

theorem call_agi {G V R : Int} {fl : Nat} {c : PI} {L E : Int} {r1 : X (WS × Unit)} (fs : List PF) (hP : ∀ f ∈ fs, 0 ≤ f.P ∧ 0 ≤ f.R) (hV0 : 0 ≤ V) (hV1 : V ≤ 255) (h1 : AGI G V fl c L E r1) (hE : E = 0 → 0 ≤ c.n ∧ c.n < fs.length) :
    AGI G V fl c L (letE G fs R V fl c 66 (letE G fs R V fl c 65 E)) (thenX r1 fun y => thenX (listL (((headsOfP fs).getD y.1.n.toNat (0, 0)).1) c.args y) fun y2 => listL (((headsOfP fs).getD y.1.n.toNat (0, 0)).2) c.rets y2) := by
  show AGI G V fl c L (listE (calleeR fs c.n) V c.rets (listE (calleeP fs c.n) V c.args E)) _
  cases r1 with
  | error z =>
    have h1 : E = z.1 ∧ z.1 ≠ 0 := h1
    have hz : ¬ E = 0 := by rw [h1.1]; exact h1.2
    have e1 : listE (calleeP fs c.n) V c.args E = E := by unfold listE; rw [if_neg hz]
    have e2 : listE (calleeR fs c.n) V c.rets E = E := by unfold listE; rw [if_neg hz]
    rw [e1, e2]
    exact h1
  | ok y =>
    have h2 : E = 0 ∧ Cor G V fl c y.1 L := h1
    obtain ⟨hn0, hn1⟩ := hE h2.1
    have hlt : c.n.toNat < fs.length := by omega
    have hn : y.1.n.toNat = c.n.toNat := by rw [h2.2.n]
    have hg : (headsOfP fs).getD y.1.n.toNat (0, 0) = (fs[c.n.toNat].P.toNat, fs[c.n.toNat].R.toNat) := by
      rw [hn]
      unfold headsOfP
      rw [List.getD_eq_getElem?_getD, List.getElem?_map, List.getElem?_eq_getElem hlt]
      rfl
    have hp := hP _ (List.getElem_mem hlt)
    have cP : calleeP fs c.n = (fs[c.n.toNat].P.toNat : Nat) := by
      unfold calleeP; rw [List.getElem?_eq_getElem hlt]; show fs[c.n.toNat].P = _; omega
    have cR : calleeR fs c.n = (fs[c.n.toNat].R.toNat : Nat) := by
      unfold calleeR; rw [List.getElem?_eq_getElem hlt]; show fs[c.n.toNat].R = _; omega
    have h3 := h1.list hV0 hV1 _ _ cP c.args
    have h4 := h3.list hV0 hV1 _ _ cR c.rets
    refine AGI.cast ?_ h4
    show thenX (listL (((headsOfP fs).getD y.1.n.toNat (0, 0)).1) c.args y) (fun y2 => listL (((headsOfP fs).getD y.1.n.toNat (0, 0)).2) c.rets y2) = _
    rw [hg]
    rfl

theorem instr_agi {G V R : Int} {fl : Nat} {L : Int} (b : Nat) (fs : List PF) (hP : ∀ f ∈ fs, 0 ≤ f.P ∧ 0 ≤ f.R) (hnf : fs.length ≤ 65535) (hG0 : 0 ≤ G) (hG1 : G ≤ 16) (hV0 : 0 ≤ V) (hV1 : V ≤ 255) (hR : 0 ≤ R) (hfl : fl ≤ 4096)
    (c : PI) (i : Nat) (hi : i < fl) (s : WS) (hs : CorF G V fl s L) (hL0 : 0 ≤ L) (hL1 : L + 1 ≤ 1048576) :
    AGI G V fl c (opL c.op L) (instrE G fs R V fl c ((i : Int) == (fl : Int) - 1) L 0) (instrL (b := b) (headsOfP fs) R.toNat i c.args c.rets (inI c s)) := by
  by_cases hop : 1 ≤ c.op ∧ c.op ≤ 17
  · obtain ⟨k, hk⟩ : ∃ k : Nat, c.op = k := ⟨c.op.toNat, by omega⟩
    have hkk : 1 ≤ k ∧ k ≤ 17 := by omega
    have hpl : plainB c.op c.r c.s c.t c.n c.args.length c.rets.length = nbK k (inI c s) c.args.length c.rets.length := by
      rw [hk]; exact plainB_nbK k hkk (inI c s) c.args.length c.rets.length
    have hfr : ∀ (ends makes : Bool), ends = (c.op == 13 || c.op == 15) → makes = (c.op == 6) → AGI G V fl c (opL c.op L) (opE c.op (plainB c.op c.r c.s c.t c.n c.args.length c.rets.length) ((i : Int) == (fl : Int) - 1) L 0) (frontOk (leaving b) ends makes (nbK k (inI c s) c.args.length c.rets.length) i (inI c s).at' ({ inI c s with at' := adv (inI c s).at' 1 }, ())) := fun e m he hm => by
      rw [hpl]; exact front_agi b c i hi s hs hL0 hL1 hop _ e m he hm _ _
    unfold instrL
    rw [if_pos (show 1 ≤ (inI c s).op ∧ (inI c s).op ≤ 17 from hop)]
    rw [show (inI c s).op = c.op from rfl]
    unfold instrE
    have hN : c.op.toNat = k := by omega
    rw [hN]
    generalize hEE : opE c.op (plainB c.op c.r c.s c.t c.n c.args.length c.rets.length) ((i : Int) == (fl : Int) - 1) L 0 = EE at hfr ⊢
    rcases (show k = 1 ∨ k = 2 ∨ k = 3 ∨ k = 4 ∨ k = 5 ∨ k = 6 ∨ k = 7 ∨ k = 8 ∨ k = 9 ∨ k = 10 ∨ k = 11 ∨ k = 12 ∨ k = 13 ∨ k = 14 ∨ k = 15 ∨ k = 16 ∨ k = 17 by omega) with rfl | rfl | rfl | rfl | rfl | rfl | rfl | rfl | rfl | rfl | rfl | rfl | rfl | rfl | rfl | rfl | rfl
    case inr.inr.inr.inr.inr.inr.inr.inr.inr.inr.inl =>
      have h1 := (hfr false false (by rw [hk]; rfl) (by rw [hk]; rfl)).l70 (fs := fs) (R := R) b hnf
      rw [if_neg (by omega), if_pos (show c.op = 11 by omega)]
      refine call_agi fs hP hV0 hV1 (r1 := thenX _ (calleePart (leaving b) (headsOfP fs).length)) ?_ ?_
      · rw [show (headsOfP fs).length = fs.length by unfold headsOfP; simp]
        exact h1
      · intro h0
        have hn := (mustE_zero (by decide) (show mustE (numB 0 fs.length c.n) 14 EE = 0 from h0)).1
        unfold numB at hn
        simp at hn
        exact ⟨hn.1, hn.2⟩
    case inr.inr.inr.inr.inr.inr.inr.inr.inr.inr.inr.inr.inr.inr.inl =>
      have h1 := hfr true false (by rw [hk]; rfl) (by rw [hk]; rfl)
      rw [if_pos (show c.op = 15 by omega)]
      exact h1.list hV0 hV1 R.toNat R (by omega) c.args
    · rw [if_neg (by omega), if_neg (by omega)]
      have h1 := hfr (c.op == 13) (c.op == 6) (by rw [hk]; rfl) rfl
      exact ((h1.l82 (fs := fs) (R := R) b hV0 hV1).l105 (fs := fs) (R := R) b)
    · rw [if_neg (by omega), if_neg (by omega)]
      have h1 := hfr (c.op == 13) (c.op == 6) (by rw [hk]; rfl) rfl
      exact ((h1.l82 (fs := fs) (R := R) b hV0 hV1).l83 (fs := fs) (R := R) b hV0 hV1)
    · rw [if_neg (by omega), if_neg (by omega)]
      have h1 := hfr (c.op == 13) (c.op == 6) (by rw [hk]; rfl) rfl
      exact (((h1.l82 (fs := fs) (R := R) b hV0 hV1).l83 (fs := fs) (R := R) b hV0 hV1).l84 (fs := fs) (R := R) b hV0 hV1)
    · rw [if_neg (by omega), if_neg (by omega)]
      have h1 := hfr (c.op == 13) (c.op == 6) (by rw [hk]; rfl) rfl
      exact (((h1.l82 (fs := fs) (R := R) b hV0 hV1).l83 (fs := fs) (R := R) b hV0 hV1).l84 (fs := fs) (R := R) b hV0 hV1)
    · rw [if_neg (by omega), if_neg (by omega)]
      have h1 := hfr (c.op == 13) (c.op == 6) (by rw [hk]; rfl) rfl
      exact ((h1.l82 (fs := fs) (R := R) b hV0 hV1).l83 (fs := fs) (R := R) b hV0 hV1)
    · rw [if_neg (by omega), if_neg (by omega)]
      have h1 := hfr (c.op == 13) (c.op == 6) (by rw [hk]; rfl) rfl
      exact ((h1.l82 (fs := fs) (R := R) b hV0 hV1).l99 (fs := fs) (R := R) b)
    · rw [if_neg (by omega), if_neg (by omega)]
      have h1 := hfr (c.op == 13) (c.op == 6) (by rw [hk]; rfl) rfl
      exact (((h1.l82 (fs := fs) (R := R) b hV0 hV1).l83 (fs := fs) (R := R) b hV0 hV1).l102 (fs := fs) (R := R) b)
    · rw [if_neg (by omega), if_neg (by omega)]
      have h1 := hfr (c.op == 13) (c.op == 6) (by rw [hk]; rfl) rfl
      exact (((h1.l82 (fs := fs) (R := R) b hV0 hV1).l83 (fs := fs) (R := R) b hV0 hV1).l102 (fs := fs) (R := R) b)
    · rw [if_neg (by omega), if_neg (by omega)]
      have h1 := hfr (c.op == 13) (c.op == 6) (by rw [hk]; rfl) rfl
      exact ((h1.l82 (fs := fs) (R := R) b hV0 hV1).l103 (fs := fs) (R := R) b hG0 hG1)
    · rw [if_neg (by omega), if_neg (by omega)]
      have h1 := hfr (c.op == 13) (c.op == 6) (by rw [hk]; rfl) rfl
      exact ((h1.l83 (fs := fs) (R := R) b hV0 hV1).l103 (fs := fs) (R := R) b hG0 hG1)
    · rw [if_neg (by omega), if_neg (by omega)]
      have h1 := hfr (c.op == 13) (c.op == 6) (by rw [hk]; rfl) rfl
      exact (h1.l83 (fs := fs) (R := R) b hV0 hV1)
    · rw [if_neg (by omega), if_neg (by omega)]
      have h1 := hfr (c.op == 13) (c.op == 6) (by rw [hk]; rfl) rfl
      exact (h1.l74 (fs := fs) (R := R) b hfl)
    · rw [if_neg (by omega), if_neg (by omega)]
      have h1 := hfr (c.op == 13) (c.op == 6) (by rw [hk]; rfl) rfl
      exact ((h1.l83 (fs := fs) (R := R) b hV0 hV1).l74 (fs := fs) (R := R) b hfl)
    · rw [if_neg (by omega), if_neg (by omega)]
      have h1 := hfr (c.op == 13) (c.op == 6) (by rw [hk]; rfl) rfl
      exact (h1.l82 (fs := fs) (R := R) b hV0 hV1)
    · rw [if_neg (by omega), if_neg (by omega)]
      have h1 := hfr (c.op == 13) (c.op == 6) (by rw [hk]; rfl) rfl
      exact (((h1.l82 (fs := fs) (R := R) b hV0 hV1).l83 (fs := fs) (R := R) b hV0 hV1).l84 (fs := fs) (R := R) b hV0 hV1)
  · have hob : opB c.op = false := by unfold opB; simp; omega
    have e1 : opE c.op (plainB c.op c.r c.s c.t c.n c.args.length c.rets.length) ((i : Int) == (fl : Int) - 1) L 0 = 12 := by
      unfold opE
      rw [hob, mustE_no, mustE_keep (E := 12) (by decide), mustE_keep (E := 12) (by decide), mustE_keep (E := 12) (by decide)]
    unfold instrL instrE
    rw [if_neg (show ¬ (1 ≤ (inI c s).op ∧ (inI c s).op ≤ 17) from hop), e1]
    have e2 : (partsN c.op.toNat).toList = [] := by
      rcases Nat.lt_or_ge c.op.toNat 18 with h | h
      · have : c.op.toNat = 0 := by omega
        rw [this]; rfl
      · exact partsN_big _ h
    rw [e2]
    exact ⟨rfl, show (12 : Int) ≠ 0 by decide⟩


def AGF (G V : Int) (fl : Nat) (p : Int × Int) (r : X (WS × Unit)) : Prop := match r with
  | .ok y => p.2 = 0 ∧ CorF G V fl y.1 p.1
  | .error z => p.2 = z.1 ∧ z.1 ≠ 0
theorem AGF.cast {G V : Int} {fl : Nat} {p : Int × Int} {r q : X (WS × Unit)} (e : r = q) (h : AGF G V fl p q) : AGF G V fl p r := by rw [e]; exact h

theorem code_agi {G V R : Int} {fl : Nat} (b : Nat) (fs : List PF) (hP : ∀ f ∈ fs, 0 ≤ f.P ∧ 0 ≤ f.R) (hnf : fs.length ≤ 65535) (hG0 : 0 ≤ G) (hG1 : G ≤ 16) (hV0 : 0 ≤ V) (hV1 : V ≤ 255) (hR : 0 ≤ R) (hfl : fl ≤ 4096) :
    ∀ (cs : List PI) (i : Nat) (s : WS) (L : Int), CorF G V fl s L → 0 ≤ L → L + 1 ≤ 1048576 → i + cs.length = fl → AGF G V fl (rCode G fs R V fl i cs L 0) (codeP b (headsOfP fs) R.toNat i cs s)
  | [], i, s, L, hs, h0, h1, hi => ⟨rfl, hs⟩
  | c :: cs, i, s, L, hs, h0, h1, hi => by
    have hi' : i < fl := by simp at hi; omega
    have h := instr_agi b fs hP hnf hG0 hG1 hV0 hV1 hR hfl c i hi' s hs h0 h1
    have hlow : Low (opL c.op L) (instrE G fs R V fl c ((i : Int) == (fl : Int) - 1) L 0) := Low.instr h0
    obtain ⟨r1, hr1⟩ : ∃ r1 : X (WS × Unit), r1 = instrL (b := b) (headsOfP fs) R.toNat i c.args c.rets (inI c s) := ⟨_, rfl⟩
    have h : AGI G V fl c (opL c.op L) (instrE G fs R V fl c ((i : Int) == (fl : Int) - 1) L 0) r1 := by rw [hr1]; exact h
    refine AGF.cast (q := thenX r1 fun y => codeP b (headsOfP fs) R.toNat (i + 1) cs y.1) (by rw [hr1]; rfl) ?_
    show AGF G V fl (rCode G fs R V fl (i + 1) cs (opL c.op L) (instrE G fs R V fl c ((i : Int) == (fl : Int) - 1) L 0)) _
    clear hr1
    cases r1 with
    | error z =>
      have h : instrE G fs R V fl c ((i : Int) == (fl : Int) - 1) L 0 = z.1 ∧ z.1 ≠ 0 := h
      rw [rCode_ne _ _ _ _ _ _ _ _ (by rw [h.1]; exact h.2)]
      exact h
    | ok y =>
      have h : instrE G fs R V fl c ((i : Int) == (fl : Int) - 1) L 0 = 0 ∧ Cor G V fl c y.1 (opL c.op L) := h
      rw [h.1] at hlow ⊢
      exact code_agi b fs hP hnf hG0 hG1 hV0 hV1 hR hfl cs (i + 1) y.1 _ ⟨h.2.g, h.2.v, h.2.l, h.2.lo⟩ hlow.1 (hlow.2 rfl) (by simp at hi; omega)

def AG0 (G : Int) (p : Int × Int) (r : X (WS × Unit)) : Prop := match r with
  | .ok y => p.2 = 0 ∧ y.1.globals = G ∧ y.1.locs = p.1 + 1
  | .error z => p.2 = z.1 ∧ z.1 ≠ 0
theorem AG0.cast {G : Int} {p : Int × Int} {r q : X (WS × Unit)} (e : r = q) (h : AG0 G p q) : AG0 G p r := by rw [e]; exact h

theorem funcs_agi {G : Int} (b : Nat) (fs : List PF) (hP : ∀ f ∈ fs, 0 ≤ f.P ∧ 0 ≤ f.R) (hnf : fs.length ≤ 65535) (hG0 : 0 ≤ G) (hG1 : G ≤ 16) :
    ∀ (l : List PF) (s : WS) (L : Int), (∀ f ∈ l, FineF f) → s.globals = G → s.locs = L + 1 → 0 ≤ L → L + 1 ≤ 1048576 → AG0 G (rFuncs G fs l L 0) (funcsP b (headsOfP fs) l s)
  | [], s, L, hf, hg, hs, h0, h1 => ⟨rfl, hg, hs⟩
  | f :: l, s, L, hf, hg, hs, h0, h1 => by
    have hff := hf f List.mem_cons_self
    have h := code_agi (V := f.V) (R := f.R) (fl := f.code.length) b fs hP hnf hG0 hG1 hff.1.1 hff.1.2 hff.2.2.1.1 hff.2.2.2.2 f.code 0 (inF f s) L ⟨hg, rfl, rfl, hs⟩ h0 h1 (by omega)
    have hlow := Low.code G fs f.R f.V f.code.length f.code 0 L 0 ⟨h0, fun _ => h1⟩
    show AG0 G (rFuncs G fs l (rCode G fs f.R f.V f.code.length 0 f.code L 0).1 (rCode G fs f.R f.V f.code.length 0 f.code L 0).2) (thenX (codeP b (headsOfP fs) f.R.toNat 0 f.code (inF f s)) fun y => funcsP b (headsOfP fs) l y.1)
    generalize codeP b (headsOfP fs) f.R.toNat 0 f.code (inF f s) = r1 at h ⊢
    generalize rCode G fs f.R f.V f.code.length 0 f.code L 0 = p at h hlow ⊢
    cases r1 with
    | error z =>
      have h : p.2 = z.1 ∧ z.1 ≠ 0 := h
      rw [rFuncs_ne _ _ _ _ (by rw [h.1]; exact h.2)]
      exact h
    | ok y =>
      have h : p.2 = 0 ∧ CorF G f.V f.code.length y.1 p.1 := h
      rw [h.1] at hlow ⊢
      exact funcs_agi b fs hP hnf hG0 hG1 l y.1 p.1 (fun x hx => hf x (List.mem_cons_of_mem _ hx)) h.2.g h.2.lo hlow.1 (hlow.2 rfl)

theorem headOk_small (s : WS) (p : Int) : headOk s p = if smallB s.fP s.fR s.fV && decide (s.len ≤ 4096) then (if 0 < s.len then .ok () else .error (19, p)) else .error (20, p) := by
  unfold headOk
  by_cases h1 : 0 ≤ s.fV ∧ s.fV ≤ 255
  · rw [if_neg (by simpa using h1)]
    by_cases h2 : 0 ≤ s.fP ∧ s.fP ≤ (if s.fV < 8 then s.fV else 8)
    · rw [if_neg (fun h => h h2)]
      have h2' : 0 ≤ s.fP ∧ s.fP ≤ 8 ∧ s.fP ≤ s.fV := by
        obtain ⟨a, c⟩ := h2
        split at c <;> omega
      by_cases h3 : 0 ≤ s.fR ∧ s.fR ≤ 4
      · rw [if_neg (fun h => h h3)]
        by_cases h4 : s.len ≤ 4096
        · rw [if_neg (fun h => h h4)]
          rw [if_pos (show (smallB s.fP s.fR s.fV && decide (s.len ≤ 4096)) = true by unfold smallB; simp; omega)]
          by_cases h5 : 0 < s.len
          · rw [if_neg (fun h => h h5), if_pos h5]
          · rw [if_pos h5, if_neg h5]
        · rw [if_pos h4, if_neg (show ¬ (smallB s.fP s.fR s.fV && decide (s.len ≤ 4096)) = true by simp; omega)]
      · rw [if_pos h3, if_neg (show ¬ (smallB s.fP s.fR s.fV && decide (s.len ≤ 4096)) = true by unfold smallB; simp; omega)]
    · rw [if_pos h2, if_neg (show ¬ (smallB s.fP s.fR s.fV && decide (s.len ≤ 4096)) = true by
        unfold smallB; simp
        intro a c d
        exfalso
        refine h2 ⟨a, ?_⟩
        split <;> omega)]
  · rw [if_pos (by simpa using h1), if_neg (show ¬ (smallB s.fP s.fR s.fV && decide (s.len ≤ 4096)) = true by unfold smallB; simp; omega)]

theorem head_agi {G : Int} (b : Nat) (f : PF) (s : WS) (L : Int) (hg : s.globals = G) (hs : s.locs = L + 1) (h0 : 0 ≤ L) (h1 : L + 1 ≤ 1048576) :
    AG0 G (headL f.P f.R f.V f.code.length L 0, headE f.P f.R f.V f.code.length L 0) (headX (leaving b) (inF f s, ())) := by
  have e : headX (leaving b) (inF f s, ()) = (thenX (headOk ({ inF f s with at' := adv (adv (adv (adv s.at' 1) 1) 1) 2 }) s.at') fun _ => locX (leaving b) f.V s.at' ({ inF f s with at' := adv (adv (adv (adv s.at' 1) 1) 1) 2 }, ()) : X (WS × Unit)) := by
    refine (headX_then (leaving b) (inF f s, ())).trans ?_
    rw [L_next]
    simp only [thenX]
    rw [L_next]
    simp only
    rw [L_next]
    simp only
    rw [L_next]
    rfl
  refine AG0.cast e ?_
  rw [headOk_small]
  show AG0 G _ (thenX (if (smallB f.P f.R f.V && decide ((f.code.length : Int) ≤ 4096)) = true then (if 0 < (f.code.length : Int) then .ok () else .error (19, s.at')) else .error (20, s.at')) _)
  by_cases hS : (smallB f.P f.R f.V && decide ((f.code.length : Int) ≤ 4096)) = true
  · rw [if_pos hS]
    by_cases hn : 0 < (f.code.length : Int)
    · rw [if_pos hn]
      have e2 : headE2 f.P f.R f.V f.code.length 0 = 0 := by
        unfold headE2
        rw [hS, mustE_yes, show decide ((1 : Int) ≤ f.code.length) = true from decide_eq_true (by omega), mustE_yes]
      have e3 : headL f.P f.R f.V f.code.length L 0 = L + f.V := by unfold headL; rw [if_pos e2]
      have hV : 0 ≤ f.V ∧ f.V ≤ 255 := by
        have := hS
        unfold smallB at this
        simp at this
        omega
      unfold headE
      rw [e2, e3]
      show AG0 G _ (locX (leaving b) f.V s.at' ({ inF f s with at' := adv (adv (adv (adv s.at' 1) 1) 1) 2 }, ()))
      unfold locX
      have e4 : wrap64 ((({ inF f s with at' := adv (adv (adv (adv s.at' 1) 1) 1) 2 }, ()) : WS × Unit).1.locs + f.V) = L + f.V + 1 := by
        rw [show (({ inF f s with at' := adv (adv (adv (adv s.at' 1) 1) 1) 2 }, ()) : WS × Unit).1.locs = s.locs from rfl, hs, w64 (by omega) (by omega)]
        omega
      rw [e4]
      by_cases hle : L + f.V + 1 ≤ 1048576
      · rw [if_pos hle, show decide (L + f.V + 1 ≤ 1048576) = true by simpa using hle, mustE_yes]
        exact ⟨rfl, hg, rfl⟩
      · rw [if_neg hle, show decide (L + f.V + 1 ≤ 1048576) = false by simpa using hle, mustE_no]
        exact ⟨rfl, show (21 : Int) ≠ 0 by decide⟩
    · rw [if_neg hn]
      have e2 : headE2 f.P f.R f.V f.code.length 0 = 19 := by
        unfold headE2
        rw [hS, mustE_yes, show decide ((1 : Int) ≤ f.code.length) = false from decide_eq_false (by omega), mustE_no]
      refine ⟨?_, show (19 : Int) ≠ 0 by decide⟩
      show headE f.P f.R f.V f.code.length L 0 = 19
      unfold headE
      rw [e2, mustE_keep (E := 19) (by decide)]
  · rw [if_neg hS]
    have e2 : headE2 f.P f.R f.V f.code.length 0 = 20 := by
      unfold headE2
      rw [Bool.eq_false_iff.2 hS, mustE_no, mustE_keep (E := 20) (by decide)]
    refine ⟨?_, show (20 : Int) ≠ 0 by decide⟩
    show headE f.P f.R f.V f.code.length L 0 = 20
    unfold headE
    rw [e2, mustE_keep (E := 20) (by decide)]

theorem heads_agi {G : Int} (b : Nat) : ∀ (l : List PF) (s : WS) (L : Int), s.globals = G → s.locs = L + 1 → 0 ≤ L → L + 1 ≤ 1048576 → AG0 G (rHeads l L 0) (headsP b l s) ∧ ((rHeads l L 0).2 = 0 → ∀ f ∈ l, FineF f)
  | [], s, L, hg, hs, h0, h1 => ⟨⟨rfl, hg, hs⟩, fun _ f hf => by cases hf⟩
  | f :: l, s, L, hg, hs, h0, h1 => by
    have h := head_agi b f s L hg hs h0 h1
    have hlow : Low (headL f.P f.R f.V f.code.length L 0) (headE f.P f.R f.V f.code.length L 0) := Low.head h0
    obtain ⟨r1, hr1⟩ : ∃ r1 : X (WS × Unit), r1 = headX (leaving b) (inF f s, ()) := ⟨_, rfl⟩
    have hfine : ∀ y, r1 = .ok y → FineF f := fun y hy => head_fine (b := b) (s := inF f s) rfl rfl rfl rfl (hr1.symm.trans hy)
    have h : AG0 G (headL f.P f.R f.V f.code.length L 0, headE f.P f.R f.V f.code.length L 0) r1 := by rw [hr1]; exact h
    have key : AG0 G (rHeads l (headL f.P f.R f.V f.code.length L 0) (headE f.P f.R f.V f.code.length L 0)) (thenX r1 fun y => headsP b l y.1) ∧ ((rHeads l (headL f.P f.R f.V f.code.length L 0) (headE f.P f.R f.V f.code.length L 0)).2 = 0 → ∀ x ∈ f :: l, FineF x) := by
      clear hr1
      cases r1 with
      | error z =>
        have h : headE f.P f.R f.V f.code.length L 0 = z.1 ∧ z.1 ≠ 0 := h
        have hne : ¬ headE f.P f.R f.V f.code.length L 0 = 0 := by rw [h.1]; exact h.2
        rw [rHeads_ne _ _ hne]
        exact ⟨h, fun hz => absurd hz hne⟩
      | ok y =>
        have h : headE f.P f.R f.V f.code.length L 0 = 0 ∧ y.1.globals = G ∧ y.1.locs = headL f.P f.R f.V f.code.length L 0 + 1 := h
        rw [h.1] at hlow ⊢
        obtain ⟨k1, k2⟩ := heads_agi b l y.1 _ h.2.1 h.2.2 hlow.1 (hlow.2 rfl)
        refine ⟨k1, fun hz x hx => ?_⟩
        rcases List.mem_cons.1 hx with rfl | hx
        · exact hfine y rfl
        · exact k2 hz x hx
    exact ⟨AG0.cast (q := thenX r1 fun y => headsP b l y.1) (by rw [hr1]; rfl) key.1, key.2⟩

theorem answer_agi (G : Int) (fs : List PF) : AG0 G (rAll G fs) (answerP G fs) := by
  have eA : ∀ er : Int, ¬ er = 0 → rE1 G fs.length = er → rAll G fs = (0, er) := fun er he h => by
    unfold rAll rHd
    rw [h, rHeads_ne _ _ he, rFuncs_ne _ _ _ _ he]
  obtain ⟨s0, hs0⟩ : ∃ s0 : WS, s0 = { WS.start nilS with globals := G, count := (fs.length : Nat) } := ⟨_, rfl⟩
  have e0 : answerP G fs = (thenX (if decide (0 ≤ G ∧ G ≤ 16) then .ok ({ s0 with at' := adv s0.at' 1 }, ()) else .error (18, s0.at')) fun y =>
      thenX (askX (leaving 0) 161 2 (fun s => decide (1 ≤ s.count ∧ s.count ≤ 65535)) 20 y) fun y => thenX (headsP 0 fs y.1) fun y => funcsP 0 (headsOfP fs) fs y.1 : X (WS × Unit)) := by
    unfold answerP overP
    rw [hs0]
    refine then_eq ?_ (fun y => ?_)
    · exact L_ask (b := 0) 146 1 _ 18 _ ()
    · rfl
  refine AG0.cast e0 ?_
  by_cases hG : 0 ≤ G ∧ G ≤ 16
  · rw [if_pos (by simpa using hG)]
    have r0 : rE0 G = 0 := by unfold rE0; rw [show (decide (0 ≤ G) && decide (G ≤ 16)) = true by simpa using hG, mustE_yes]
    refine AG0.cast (q := thenX (if decide (1 ≤ (fs.length : Int) ∧ (fs.length : Int) ≤ 65535) then .ok ({ s0 with at' := adv (adv s0.at' 1) 2 }, ()) else .error (20, adv s0.at' 1)) fun y => thenX (headsP 0 fs y.1) fun y => funcsP 0 (headsOfP fs) fs y.1) ?_ ?_
    · refine (show thenX (askX (leaving 0) 161 2 (fun s => decide (1 ≤ s.count ∧ s.count ≤ 65535)) 20 ({ s0 with at' := adv s0.at' 1 }, ())) (fun y => thenX (headsP 0 fs y.1) fun y => funcsP 0 (headsOfP fs) fs y.1) = _ from ?_)
      refine then_eq ?_ (fun _ => rfl)
      have := L_ask (b := 0) 161 2 (fun s => decide (1 ≤ s.count ∧ s.count ≤ 65535)) 20 { s0 with at' := adv s0.at' 1 } ()
      refine this.trans ?_
      rw [hs0]
      rfl
    · by_cases hn : 1 ≤ (fs.length : Int) ∧ (fs.length : Int) ≤ 65535
      · rw [if_pos (by simpa using hn)]
        have r1 : rE1 G fs.length = 0 := by unfold rE1; rw [r0, show (decide ((1 : Int) ≤ fs.length) && decide ((fs.length : Int) ≤ 65535)) = true by simpa using hn, mustE_yes]
        obtain ⟨k1, k2⟩ := heads_agi (G := G) 0 fs { s0 with at' := adv (adv s0.at' 1) 2 } 0 (by rw [hs0]) (by rw [hs0]; rfl) (by omega) (by omega)
        have hlow := Low.heads fs 0 0 (Low.zero 0)
        show AG0 G (rAll G fs) (thenX (headsP 0 fs { s0 with at' := adv (adv s0.at' 1) 2 }) fun y => funcsP 0 (headsOfP fs) fs y.1)
        unfold rAll rHd
        rw [r1]
        generalize headsP 0 fs { s0 with at' := adv (adv s0.at' 1) 2 } = q1 at k1 ⊢
        generalize rHeads fs 0 0 = p at k1 k2 hlow ⊢
        cases q1 with
        | error z =>
          have h : p.2 = z.1 ∧ z.1 ≠ 0 := k1
          rw [rFuncs_ne _ _ _ _ (by rw [h.1]; exact h.2)]
          exact h
        | ok y =>
          have h : p.2 = 0 ∧ y.1.globals = G ∧ y.1.locs = p.1 + 1 := k1
          have hf := k2 h.1
          rw [h.1] at hlow ⊢
          exact funcs_agi 0 fs (fun f hx => ⟨(hf f hx).2.1.1, (hf f hx).2.2.1.1⟩) (by omega) hG.1 hG.2 fs y.1 p.1 hf h.2.1 h.2.2 hlow.1 (hlow.2 rfl)
      · rw [if_neg (by simpa using hn)]
        have r1 : rE1 G fs.length = 20 := by unfold rE1; rw [r0, show (decide ((1 : Int) ≤ fs.length) && decide ((fs.length : Int) ≤ 65535)) = false by rw [Bool.eq_false_iff]; simpa using hn, mustE_no]
        rw [eA 20 (by decide) r1]
        exact ⟨rfl, show (20 : Int) ≠ 0 by decide⟩
  · rw [if_neg (by simpa using hG)]
    have r0 : rE0 G = 18 := by unfold rE0; rw [show (decide (0 ≤ G) && decide (G ≤ 16)) = false by rw [Bool.eq_false_iff]; simpa using hG, mustE_no]
    have r1 : rE1 G fs.length = 18 := by unfold rE1; rw [r0, mustE_keep (E := 18) (by decide)]
    rw [eA 18 (by decide) r1]
    exact ⟨rfl, show (18 : Int) ≠ 0 by decide⟩

/-- Check and Locations say what the document says. -/
theorem checkP_eq (G : Int) (fs : List PF) : checkP G fs = (rAll G fs).2 := by
  have h := answer_agi G fs
  unfold checkP
  generalize answerP G fs = r at h ⊢
  cases r with
  | ok y => exact h.1.symm
  | error z => exact h.1.symm

theorem rHeads_at {fs : List PF} {k : Nat} (hk : k < fs.length) (L : Int) : rHeads (fs.drop k) L 0 = rHeads (fs.drop (k + 1)) (headL fs[k].P fs[k].R fs[k].V fs[k].code.length L 0) (headE fs[k].P fs[k].R fs[k].V fs[k].code.length L 0) := by
  rw [List.drop_eq_getElem_cons hk]; rfl
theorem rCode_at {G : Int} {FS : List PF} {R V : Int} {fl : Nat} {cs : List PI} {k : Nat} (hk : k < cs.length) (L : Int) : rCode G FS R V fl k (cs.drop k) L 0 = rCode G FS R V fl (k + 1) (cs.drop (k + 1)) (opL cs[k].op L) (instrE G FS R V fl cs[k] ((k : Int) == (fl : Int) - 1) L 0) := by
  rw [List.drop_eq_getElem_cons hk]; rfl
theorem rFuncs_at {G : Int} {FS fs : List PF} {k : Nat} (hk : k < fs.length) (L : Int) : rFuncs G FS (fs.drop k) L 0 = rFuncs G FS (fs.drop (k + 1)) (rCode G FS fs[k].R fs[k].V fs[k].code.length 0 fs[k].code L 0).1 (rCode G FS fs[k].R fs[k].V fs[k].code.length 0 fs[k].code L 0).2 := by
  rw [List.drop_eq_getElem_cons hk]; rfl

set_option maxRecDepth 100000 in
set_option maxHeartbeats 4000000 in
/-- The document's Check of any program. -/
theorem rcheck_any (w : World) (G : Int) (fs : List PF) (fv : Value) (hl : FL (w.heap.size + 1) w fv fs) :
    Calls Tryz.prog 20 #[.agg #[vI G, fv]] w fun e w' => e = .returned (vI (rAll G fs).2) ∧ Fr (fun _ => False) w w' := by
  have HFL : Hd (FL (w.heap.size + 1) w fv fs) := hl
  obtain ⟨hlen, fa, fcap, rfl, hin⟩ := hl
  have HIN : Hd _ := hin
  clear hin
  have hP : ((w.alloc (.cells #[vI G, .slice fa fs.length fcap] 24)).alloc (.cells #[vI G, .slice fa fs.length fcap, vI 0, vI 0] 84)).heap[w.heap.size]? = some (.cells #[vI G, .slice fa fs.length fcap] 24) := by
    rw [Go.RowKit.Below.heap_alloc _ _ _ (by simp)]; exact heap_new w _
  have hR : RW (w.heap.size + 1) G (.slice fa fs.length fcap) ((w.alloc (.cells #[vI G, .slice fa fs.length fcap] 24)).alloc (.cells #[vI G, .slice fa fs.length fcap, vI 0, vI 0] 84)) 0 0 := by
    unfold RW; rw [show w.heap.size + 1 = (w.alloc (.cells #[vI G, .slice fa fs.length fcap] 24)).heap.size by simp]; exact heap_new _ _
  have HF : Hd (Fr (fun k => k = w.heap.size + 1) w ((w.alloc (.cells #[vI G, .slice fa fs.length fcap] 24)).alloc (.cells #[vI G, .slice fa fs.length fcap, vI 0, vI 0] 84))) := Fr.alloc (Fr.alloc (Fr.refl _ w) _) _
  have HP : Hd _ := hP
  have HR : Hd _ := hR
  clear hP hR
  obtain ⟨H, hH⟩ : ∃ H, H = w.heap.size := ⟨_, rfl⟩
  have HH : Hd (H = w.heap.size) := hH
  have HE : Hd (∀ w', Fr (fun k => k = H + 1) w w' → Fr (fun _ => False) w w') := fun w' h => h.mono (fun k hk hS => by have := HH.out; omega)
  obtain ⟨T, HT⟩ : ∃ T, Hd (T = rAll G fs) := ⟨_, rfl⟩
  rw [← HT.out]
  go_enter Tryz.func20, Tryz.ntmps20
  go_upto_region 2 with fail
  rw [← hH] at HFL HIN HP HR HF ⊢
  clear hH
  generalize (w.alloc (.cells #[vI G, .slice fa fs.length fcap] 24)).alloc (.cells #[vI G, .slice fa fs.length fcap, vI 0, vI 0] 84) = wa at *
  have p0 : wa.cell? ⟨H, 0, none⟩ = some (vI G) := by rw [cell_of HP.out]; rfl
  go_cut [] from 11 to 20 (fun wx => Hd (RW (H + 1) G (.slice fa fs.length fcap) wx 0 (rE0 G)) ∧ Hd (wx.heap[H]? = some (.cells #[vI G, .slice fa fs.length fcap] 24)) ∧ Hd (Fr (fun k => k = H + 1) w wx))
  case first =>
    by_cases hg : 0 ≤ G
    · have hq : Hd ((decide (0 ≤ G) && decide (G ≤ 16)) = decide (G ≤ 16)) := by unfold Hd; simp [hg]
      go_wp2_with fail
      refine (rmust (H + 1) G _ wa 0 0 HR.out (decide (G ≤ 16)) 18).mono ?_
      rintro e w2 ⟨rfl, h2, hf2⟩
      have X1 : Hd (RW (H + 1) G (.slice fa fs.length fcap) w2 0 (rE0 G)) := by unfold Hd rE0; rw [hq.out]; exact h2
      have X2 : Hd (w2.heap[H]? = some (.cells #[vI G, .slice fa fs.length fcap] 24)) := (hf2.block H (heap_lt HP.out) (by omega)).trans HP.out
      have X3 : Hd (Fr (fun k => k = H + 1) w w2) := HF.out.trans hf2
      clear h2 hf2
      go_wp2_with fail
      go_meet
      exact ⟨X1, X2, X3⟩
    · have hq : Hd ((decide (0 ≤ G) && decide (G ≤ 16)) = false) := by unfold Hd; simp [hg]
      go_wp2_with fail
      refine (rmust (H + 1) G _ wa 0 0 HR.out false 18).mono ?_
      rintro e w2 ⟨rfl, h2, hf2⟩
      have X1 : Hd (RW (H + 1) G (.slice fa fs.length fcap) w2 0 (rE0 G)) := by unfold Hd rE0; rw [hq.out]; exact h2
      have X2 : Hd (w2.heap[H]? = some (.cells #[vI G, .slice fa fs.length fcap] 24)) := (hf2.block H (heap_lt HP.out) (by omega)).trans HP.out
      have X3 : Hd (Fr (fun k => k = H + 1) w w2) := HF.out.trans hf2
      clear h2 hf2
      go_wp2_with fail
      go_meet
      exact ⟨X1, X2, X3⟩
  case rest =>
  clear HR HP HF p0
  obtain ⟨HR, HP, HF⟩ := hcut
  go_upto_region 3 with fail
  have p1 : wc.cell? ⟨H, 1, none⟩ = some (.slice fa fs.length fcap) := by rw [cell_of HP.out]; rfl
  go_cut [] from 21 to 32 (fun wx => Hd (RW (H + 1) G (.slice fa fs.length fcap) wx 0 (rE1 G fs.length)) ∧ Hd (wx.heap[H]? = some (.cells #[vI G, .slice fa fs.length fcap] 24)) ∧ Hd (Fr (fun k => k = H + 1) w wx))
  case first =>
    by_cases hg : (1 : Int) ≤ fs.length
    · have hq : Hd ((decide ((1 : Int) ≤ fs.length) && decide ((fs.length : Int) ≤ 65535)) = decide ((fs.length : Int) ≤ 65535)) := by unfold Hd; rw [decide_eq_true hg]; rfl
      go_wp2_with fail
      refine (rmust (H + 1) G _ wc 0 (rE0 G) HR.out (decide ((fs.length : Int) ≤ 65535)) 20).mono ?_
      rintro e w2 ⟨rfl, h2, hf2⟩
      have X1 : Hd (RW (H + 1) G (.slice fa fs.length fcap) w2 0 (rE1 G fs.length)) := by unfold Hd rE1; rw [hq.out]; exact h2
      have X2 : Hd (w2.heap[H]? = some (.cells #[vI G, .slice fa fs.length fcap] 24)) := (hf2.block H (heap_lt HP.out) (by omega)).trans HP.out
      have X3 : Hd (Fr (fun k => k = H + 1) w w2) := HF.out.trans hf2
      clear h2 hf2
      go_wp2_with fail
      go_meet
      exact ⟨X1, X2, X3⟩
    · have hq : Hd ((decide ((1 : Int) ≤ fs.length) && decide ((fs.length : Int) ≤ 65535)) = false) := by unfold Hd; rw [decide_eq_false hg]; rfl
      go_wp2_with fail
      refine (rmust (H + 1) G _ wc 0 (rE0 G) HR.out false 20).mono ?_
      rintro e w2 ⟨rfl, h2, hf2⟩
      have X1 : Hd (RW (H + 1) G (.slice fa fs.length fcap) w2 0 (rE1 G fs.length)) := by unfold Hd rE1; rw [hq.out]; exact h2
      have X2 : Hd (w2.heap[H]? = some (.cells #[vI G, .slice fa fs.length fcap] 24)) := (hf2.block H (heap_lt HP.out) (by omega)).trans HP.out
      have X3 : Hd (Fr (fun k => k = H + 1) w w2) := HF.out.trans hf2
      clear h2 hf2
      go_wp2_with fail
      go_meet
      exact ⟨X1, X2, X3⟩
  case rest =>
  clear HR HP HF p1
  obtain ⟨HR, HP, HF⟩ := hcut
  go_upto_block 0 with fail
  go_cut [4] from 33 to 60 (fun x wx => ∃ (L E : Int), Hd (RW (H + 1) G (.slice fa fs.length fcap) wx L E) ∧ Hd (Low L E) ∧ Hd (rHd G fs = (L, E)) ∧ Hd (wx.heap[H]? = some (.cells #[vI G, .slice fa fs.length fcap] 24)) ∧ Hd (Fr (fun k => k = H + 1) w wx))
  case first =>
    go_wp2_with fail
    go_loopw [4] (fun v wx => ∃ (k : Nat) (L E : Int), v = .int .i64 k ∧ k ≤ fs.length ∧ Hd (RW (H + 1) G (.slice fa fs.length fcap) wx L E) ∧ Hd (Low L E) ∧ Hd (rHd G fs = rHeads (fs.drop k) L E) ∧ Hd (wx.heap[H]? = some (.cells #[vI G, .slice fa fs.length fcap] 24)) ∧ Hd (Fr (fun k => k = H + 1) w wx)) (fun v _ => match v with | .int _ q => fs.length - q.toNat | _ => 0)
    case atStart => exact ⟨0, 0, rE1 G fs.length, rfl, Nat.zero_le _, HR, Low.zero _, rfl, HP, HF⟩
    case round =>
      clear HR HP HF
      obtain ⟨k, L, E, rfl, hk, HR, HLO, HRH, HP, HF⟩ := hrel
      have p1 : wr.cell? ⟨H, 1, none⟩ = some (.slice fa fs.length fcap) := by rw [cell_of HP.out]; rfl
      obtain ⟨-, -, -, r3, -, -⟩ := HR.out.cells
      by_cases hlt : k < fs.length
      · by_cases hE : E = 0
        · subst hE
          have hne : fs ≠ [] := by intro e; simp [e] at hlt
          obtain ⟨fk, fo, rfl, hfk, hfb, hfc⟩ := HIN.out hne
          obtain ⟨cv, f0, f1, f2, f3, hcl⟩ := hfc k hlt
          obtain ⟨-, ca, ccap, rfl, -⟩ := hcl
          have gg : ∀ o, wr.cell? ⟨fk, o, none⟩ = w.cell? ⟨fk, o, none⟩ := fun o => HF.out.cell (HH.out ▸ hfk) hfb
          rw [← gg] at f0 f1 f2 f3
          have HST := rHeads_at hlt L
          have HST : Hd _ := HST
          have hk0 : (0 : Int) ≤ k := by omega
          have hk3 : (k : Int) < fs.length := by omega
          clear gg hfc hfk hfb
          generalize fs[k] = f at *
          go_upto_region 7 with fail
          refine wp_region_still_tail 13 mixed (by kernel_rfl) ?_
          simp only [List.take_succ_cons, List.take_zero, List.drop_succ_cons, List.drop_zero]
          repeat still_step
          refine wpStill_nil ?_
          go_wp2_with fail
          refine (show Calls Tryz.prog 50 #[.pointer (some ⟨H + 1, 0, none⟩), .agg #[vI f.P, vI f.R, vI f.V, .slice ca f.code.length ccap], vI f.code.length] wr.drew _ from rhead (H + 1) G _ wr.drew L 0 (HR.out.fr (Fr.drew (Fr.refl (fun _ => False) wr)) (fun h => h)) HLO.out.1 (by have := HLO.out.2 rfl; omega) f.P f.R f.V f.code.length ca f.code.length ccap).mono ?_
          rintro e w2 ⟨rfl, h2, hf2⟩
          have X1 : Hd (RW (H + 1) G (.slice (some ⟨fk, fo, none⟩) fs.length fcap) w2 (headL f.P f.R f.V f.code.length L 0) (headE f.P f.R f.V f.code.length L 0)) := h2
          have X2 : Hd (w2.heap[H]? = some (.cells #[vI G, .slice (some ⟨fk, fo, none⟩) fs.length fcap] 24)) := (hf2.block H (heap_lt HP.out) (by omega)).trans HP.out
          have X3 : Hd (Fr (fun k => k = H + 1) w w2) := HF.out.drew.trans hf2
          have X4 : Hd (Low (headL f.P f.R f.V f.code.length L 0) (headE f.P f.R f.V f.code.length L 0)) := Low.head HLO.out.1
          clear h2 hf2 p1 r3 f0 f1 f2 f3
          go_wp2_with fail
          exact ⟨⟨k + 1, _, _, by simp, by omega, X1, X4, HRH.out.trans HST.out, X2, X3⟩, by simp; omega⟩
        · have hE' : (E == 0) = false := by simpa using hE
          have X4 : Hd (rHd G fs = (L, E)) := HRH.out.trans (rHeads_ne _ L hE)
          go_wp2_with fail
          go_meet
          exact ⟨L, E, HR, HLO, X4, HP, HF⟩
      · have hke : k = fs.length := by omega
        have X4 : Hd (rHd G fs = (L, E)) := by
          refine HRH.out.trans ?_
          rw [hke, List.drop_length]; rfl
        subst hke
        go_wp2_with fail
        go_meet
        exact ⟨L, E, HR, HLO, X4, HP, HF⟩
  case rest =>
  clear HR HP HF
  obtain ⟨L, E, HR, HLO, HRH, HP, HF⟩ := hcut
  have HT2 : Hd (T = rFuncs G fs (fs.drop 0) L E) := by
    unfold Hd; rw [HT.out, List.drop_zero]; unfold rAll; rw [HRH.out]
  clear HT HRH
  go_wp2_with fail
  go_loopw [5] (fun v wx => ∃ (k : Nat) (L E : Int), v = .int .i64 k ∧ k ≤ fs.length ∧ Hd (RW (H + 1) G (.slice fa fs.length fcap) wx L E) ∧ Hd (Low L E) ∧ Hd (T = rFuncs G fs (fs.drop k) L E) ∧ Hd (wx.heap[H]? = some (.cells #[vI G, .slice fa fs.length fcap] 24)) ∧ Hd (Fr (fun k => k = H + 1) w wx)) (fun v _ => match v with | .int _ q => fs.length - q.toNat | _ => 0)
  case atStart => exact ⟨0, L, E, rfl, Nat.zero_le _, HR, HLO, HT2, HP, HF⟩
  case round =>
    clear HR HP HF HLO HT2
    obtain ⟨i, L, E, rfl, hi, HR, HLO, HT, HP, HF⟩ := hrel
    have p1 : wr.cell? ⟨H, 1, none⟩ = some (.slice fa fs.length fcap) := by rw [cell_of HP.out]; rfl
    obtain ⟨-, -, -, r3, -, -⟩ := HR.out.cells
    by_cases hlt : i < fs.length
    · by_cases hE : E = 0
      · subst hE
        have hne : fs ≠ [] := by intro e; simp [e] at hlt
        obtain ⟨fk, fo, rfl, hfk, hfb, hfc⟩ := HIN.out hne
        obtain ⟨cv, f0, f1, f2, f3, hcl⟩ := hfc i hlt
        obtain ⟨hcl0, ca, ccap, rfl, hcc⟩ := hcl
        have gg : ∀ o, wr.cell? ⟨fk, o, none⟩ = w.cell? ⟨fk, o, none⟩ := fun o => HF.out.cell (HH.out ▸ hfk) hfb
        rw [← gg] at f0 f1 f2 f3
        have HST : Hd (rFuncs G fs (fs.drop i) L 0 = _) := rFuncs_at hlt L
        have HCC : Hd _ := hcc
        have hk0 : (0 : Int) ≤ i := by omega
        have hk3 : (i : Int) < fs.length := by omega
        clear gg hfc hfk hfb hcc
        generalize fs[i] = f at *
        have HB : Hd ((wr.alloc (.cells #[vI f.P, vI f.R, vI f.V, .slice ca f.code.length ccap] 41)).heap[wr.heap.size]? = some (.cells #[vI f.P, vI f.R, vI f.V, .slice ca f.code.length ccap] 41)) := heap_new wr _
        have hfa : Fr (fun _ => False) wr (wr.alloc (.cells #[vI f.P, vI f.R, vI f.V, .slice ca f.code.length ccap] 41)) := Fr.alloc (Fr.refl _ wr) _
        have HR2 : Hd (RW (H + 1) G (.slice (some ⟨fk, fo, none⟩) fs.length fcap) (wr.alloc (.cells #[vI f.P, vI f.R, vI f.V, .slice ca f.code.length ccap] 41)) L 0) := HR.out.fr hfa (fun h => h)
        have HP2 : Hd ((wr.alloc (.cells #[vI f.P, vI f.R, vI f.V, .slice ca f.code.length ccap] 41)).heap[H]? = some (.cells #[vI G, (.slice (some ⟨fk, fo, none⟩) fs.length fcap)] 24)) := (hfa.block H (heap_lt HP.out) (fun h => h)).trans HP.out
        have HF2 : Hd (Fr (fun k => k = H + 1) w (wr.alloc (.cells #[vI f.P, vI f.R, vI f.V, .slice ca f.code.length ccap] 41))) := HF.out.trans (hfa.mono (fun _ _ h => h.elim))
        have HLT : Hd (H + 1 < wr.heap.size) := HR.out.cells.2.2.2.2.2
        clear hfa
        go_upto_region 12 with fail
        clear HR HP HF p1 r3 f0 f1 f2 f3
        obtain ⟨Q, hQ⟩ : ∃ Q, Q = wr.heap.size := ⟨_, rfl⟩
        rw [← hQ] at HB HLT ⊢
        clear hQ
        generalize wr.alloc (.cells #[vI f.P, vI f.R, vI f.V, .slice ca f.code.length ccap] 41) = wy at *
        go_wp2_with fail
        go_loopw [7] (fun v wx => ∃ (k : Nat) (L' E : Int), v = .int .i64 k ∧ k ≤ f.code.length ∧ Hd (RW (H + 1) G (.slice (some ⟨fk, fo, none⟩) fs.length fcap) wx L' E) ∧ Hd (Low L' E) ∧ Hd (rCode G fs f.R f.V f.code.length 0 f.code L 0 = rCode G fs f.R f.V f.code.length k (f.code.drop k) L' E) ∧ Hd (wx.heap[Q]? = some (.cells #[vI f.P, vI f.R, vI f.V, .slice ca f.code.length ccap] 41)) ∧ Hd (wx.heap[H]? = some (.cells #[vI G, .slice (some ⟨fk, fo, none⟩) fs.length fcap] 24)) ∧ Hd (Fr (fun k => k = H + 1) w wx)) (fun v _ => match v with | .int _ q => f.code.length - q.toNat | _ => 0)
        case atStart => exact ⟨0, L, 0, rfl, Nat.zero_le _, HR2, HLO, by unfold Hd; rw [List.drop_zero], HB, HP2, HF2⟩
        case round =>
          clear HR2 HP2 HF2 HB HLO
          obtain ⟨k, L', E, rfl, hk, HR, HLO, HRC, HB, HP, HF⟩ := hrel
          have b0 : wr.cell? ⟨Q, 0, none⟩ = some (vI f.P) := by rw [cell_of HB.out]; rfl
          have b1 : wr.cell? ⟨Q, 1, none⟩ = some (vI f.R) := by rw [cell_of HB.out]; rfl
          have b2 : wr.cell? ⟨Q, 2, none⟩ = some (vI f.V) := by rw [cell_of HB.out]; rfl
          have b3 : wr.cell? ⟨Q, 3, none⟩ = some (.slice ca f.code.length ccap) := by rw [cell_of HB.out]; rfl
          obtain ⟨-, -, -, r3, -, -⟩ := HR.out.cells
          by_cases hkt : k < f.code.length
          · by_cases hE : E = 0
            · subst hE
              have hne : f.code ≠ [] := by intro e; simp [e] at hkt
              obtain ⟨ck, co, rfl, hck, hcb, hcc⟩ := HCC.out hne
              obtain ⟨av, rv, q0, q1, q2, q3, q4, q5, q6, hA, hB, hla, hlr⟩ := hcc k hkt
              have gg : ∀ o, wr.cell? ⟨ck, o, none⟩ = w.cell? ⟨ck, o, none⟩ := fun o => HF.out.cell (HH.out ▸ hck) hcb
              rw [← gg] at q0 q1 q2 q3 q4 q5 q6
              have HA := hA.fr HF.out (fun _ h => h)
              have HB2 := hB.fr HF.out (fun _ h => h)
              have HST2 : Hd (rCode G fs f.R f.V f.code.length k (f.code.drop k) L' 0 = _) := rCode_at hkt L'
              generalize f.code[k] = c at *
              obtain ⟨aa, acap, rfl, -⟩ := id hA
              obtain ⟨ra, rcap, rfl, -⟩ := id hB
              have HA : Hd (IL (H + 1) wr (.slice aa c.args.length acap) c.args) := HA
              have HB2 : Hd (IL (H + 1) wr (.slice ra c.rets.length rcap) c.rets) := HB2
              have hk0' : (0 : Int) ≤ k := by omega
              have hk3' : (k : Int) < f.code.length := by omega
              clear gg hcc hck hcb hA hB
              go_upto_region 15 with fail
              refine wp_region_still_tail 13 mixed (by kernel_rfl) ?_
              simp only [List.take_succ_cons, List.take_zero, List.drop_succ_cons, List.drop_zero]
              repeat still_step
              refine wpStill_nil ?_
              go_wp2_with fail
              have hfd : Fr (fun _ => False) wr wr.drew := Fr.drew (Fr.refl _ wr)
              refine (rinstr_any (H + 1) G _ wr.drew L' 0 (HR.out.fr hfd (fun h => h)) HLO.out.1 (by have := HLO.out.2 rfl; omega) fs ((HFL.out.fr HF.out (fun _ h => h)).fr hfd (fun _ h => h.elim)) f.P f.R f.V _ f.code.length ccap c aa ra acap rcap (HA.out.fr hfd (fun _ h => h.elim)) (HB2.out.fr hfd (fun _ h => h.elim)) hla hlr ((k : Int) == (f.code.length : Int) - 1)).mono ?_
              rintro e w2 ⟨rfl, h2, hf2⟩
              have X1 : Hd (RW (H + 1) G (.slice (some ⟨fk, fo, none⟩) fs.length fcap) w2 (opL c.op L') (instrE G fs f.R f.V f.code.length c ((k : Int) == (f.code.length : Int) - 1) L' 0)) := h2
              have X2 : Hd (w2.heap[H]? = some (.cells #[vI G, .slice (some ⟨fk, fo, none⟩) fs.length fcap] 24)) := (hf2.block H (heap_lt HP.out) (by omega)).trans HP.out
              have X6 : Hd (w2.heap[Q]? = some (.cells #[vI f.P, vI f.R, vI f.V, .slice (some ⟨ck, co, none⟩) f.code.length ccap] 41)) := (hf2.block Q (heap_lt HB.out) (by have := HLT.out; omega)).trans HB.out
              have X3 : Hd (Fr (fun k => k = H + 1) w w2) := HF.out.drew.trans hf2
              have X4 : Hd (Low (opL c.op L') (instrE G fs f.R f.V f.code.length c ((k : Int) == (f.code.length : Int) - 1) L' 0)) := Low.instr HLO.out.1
              clear h2 hf2 hfd q0 q1 q2 q3 q4 q5 q6 b0 b1 b2 b3 r3
              go_wp2_with fail
              exact ⟨⟨k + 1, _, _, by simp, by omega, X1, X4, HRC.out.trans HST2.out, X6, X2, X3⟩, by simp; omega⟩
            · have hE' : (E == 0) = false := by simpa using hE
              have X4 : Hd (rCode G fs f.R f.V f.code.length 0 f.code L 0 = (L', E)) := HRC.out.trans (rCode_ne _ _ _ _ _ _ _ L' hE)
              have X5 : Hd (T = rFuncs G fs (fs.drop (i + 1)) L' E) := by
                unfold Hd; rw [HT.out, HST.out, X4.out]
              clear HRC
              go_wp2_with fail
              exact ⟨⟨i + 1, L', E, by simp, by omega, HR, HLO, X5, HP, HF⟩, by simp; omega⟩
          · have hke : k = f.code.length := by omega
            have X4 : Hd (rCode G fs f.R f.V f.code.length 0 f.code L 0 = (L', E)) := by
              refine HRC.out.trans ?_
              rw [hke, List.drop_length]; rfl
            have X5 : Hd (T = rFuncs G fs (fs.drop (i + 1)) L' E) := by
              unfold Hd; rw [HT.out, HST.out, X4.out]
            clear HRC
            subst hke
            go_wp2_with fail
            exact ⟨⟨i + 1, L', E, by simp, by omega, HR, HLO, X5, HP, HF⟩, by simp; omega⟩
      · have hE' : (E == 0) = false := by simpa using hE
        have X4 : Hd (T = (L, E)) := HT.out.trans (rFuncs_ne _ _ _ L hE)
        go_wp2_with fail
        go_ret
        exact ⟨by rw [X4.out]; rfl, HE.out _ HF.out⟩
    · have hke : i = fs.length := by omega
      have X4 : Hd (T = (L, E)) := by
        refine HT.out.trans ?_
        rw [hke, List.drop_length]; rfl
      subst hke
      go_wp2_with fail
      go_ret
      exact ⟨by rw [X4.out]; rfl, HE.out _ HF.out⟩

end Go.Proofs.YtjmbfjaahadbhaaGreatDoor
