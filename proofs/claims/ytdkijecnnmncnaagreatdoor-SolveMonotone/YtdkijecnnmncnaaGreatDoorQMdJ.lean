import Derived.Test.YtdkijecnnmncnaaGreatDoorQKeJ
import Derived.Test.YtdkijecnnmncnaaGreatDoorQEaJ
namespace Go.Proofs.YtdkijecnnmncnaaGreatDoor
open Go.RowKit (wrap32 wrap64)
set_option linter.unusedVariables false
set_option linter.unusedSimpArgs false
structure Cor (G V : Int) (fl : Nat) (c : PI) (s : WS) (L : Int) : Prop where
 g : s.globals = G
 v : s.fV = V
 l : s.len = fl
 r : s.r = c.r
 ss : s.s = c.s
 t : s.t = c.t
 n : s.n = c.n
 lo : s.locs = L + 1
def AGI (G V : Int) (fl : Nat) (c : PI) (L E : Int) (r : X (WS × Unit)) : Prop := match r with
 | .ok y => E = 0 ∧ Cor G V fl c y.1 L
 | .error z => E = z.1 ∧ z.1 ≠ 0
theorem AGI.cast {G V : Int} {fl : Nat} {c : PI} {L E : Int} {r q : X (WS × Unit)} (e : r = q) (h : AGI G V fl c L E q) : AGI G V fl c L E r := by rw [e]; exact h
theorem mustE_keep {ok : Bool} {e E : Int} (h : ¬ E = 0) : mustE ok e E = E := by unfold mustE; simp [h]
theorem mustE_yes {e E : Int} : mustE true e E = E := by unfold mustE; simp
theorem mustE_no {e : Int} : mustE false e 0 = e := by unfold mustE; simp
theorem Cor.at {G V : Int} {fl : Nat} {c : PI} {s : WS} {L : Int} (h : Cor G V fl c s L) (a : Int) : Cor G V fl c { s with at' := a } L := ⟨h.g, h.v, h.l, h.r, h.ss, h.t, h.n, h.lo⟩
theorem AGI.ask {G V : Int} {fl : Nat} {c : PI} {L E : Int} {r : X (WS × Unit)} (h : AGI G V fl c L E r) (b o size : Nat) (q : WS → Bool) (B : Bool) (er : Int) (he : er ≠ 0) (hq : ∀ s, Cor G V fl c s L → q s = B) :
 AGI G V fl c L (mustE B er E) (thenX r (askX (leaving b) o size q er)) := by
 cases r with
 | error z =>
   have h : E = z.1 ∧ z.1 ≠ 0 := h
   show mustE B er E = z.1 ∧ z.1 ≠ 0
   rw [mustE_keep (by rw [h.1]; exact h.2)]
   exact h
 | ok y =>
   obtain ⟨s, u⟩ := y
   obtain ⟨h0, hc⟩ : E = 0 ∧ Cor G V fl c s L := h
   subst h0
   have e : thenX (.ok (s, u)) (askX (leaving b) o size q er) = if q { s with at' := adv s.at' size } then .ok ({ s with at' := adv s.at' size }, u) else .error (er, s.at') := L_ask o size q er s u
   rw [hq _ (hc.at _)] at e
   refine AGI.cast e ?_
   cases B with
   | true => rw [if_pos rfl, mustE_yes]; exact ⟨rfl, hc.at _⟩
   | false => rw [if_neg (by decide), mustE_no]; exact ⟨rfl, he⟩
theorem varq {V v : Int} (h0 : 0 ≤ V) (h1 : V ≤ 1000000) : decide (0 ≤ v ∧ v ≤ IntKind.i64.wrap (V - 1)) = varB V v := by
 rw [wrap_small (V - 1) (by omega) (by omega)]
 unfold varB
 rw [Bool.eq_iff_iff]
 simp
 omega
section
variable {G V : Int} {fl : Nat} {c : PI} {L E : Int} {r : X (WS × Unit)} {fs : List PF} {R : Int} (b : Nat)
theorem AGI.l82 (h : AGI G V fl c L E r) (h0 : 0 ≤ V) (h1 : V ≤ 255) : AGI G V fl c L (letE G fs R V fl c 82 E) (thenX r (varPart (leaving b) 155)) :=
 h.ask b 155 1 _ (varB V c.r) 13 (by decide) (fun s hs => by
  show decide (0 ≤ s.r ∧ s.r ≤ IntKind.i64.wrap (s.fV - 1)) = _
  rw [hs.r, hs.v]; exact varq h0 (by omega))
theorem AGI.l83 (h : AGI G V fl c L E r) (h0 : 0 ≤ V) (h1 : V ≤ 255) : AGI G V fl c L (letE G fs R V fl c 83 E) (thenX r (varPart (leaving b) 156)) :=
 h.ask b 156 1 _ (varB V c.s) 13 (by decide) (fun s hs => by
  show decide (0 ≤ s.s ∧ s.s ≤ IntKind.i64.wrap (s.fV - 1)) = _
  rw [hs.ss, hs.v]; exact varq h0 (by omega))
theorem AGI.l84 (h : AGI G V fl c L E r) (h0 : 0 ≤ V) (h1 : V ≤ 255) : AGI G V fl c L (letE G fs R V fl c 84 E) (thenX r (varPart (leaving b) 157)) :=
 h.ask b 157 1 _ (varB V c.t) 13 (by decide) (fun s hs => by
  show decide (0 ≤ s.t ∧ s.t ≤ IntKind.i64.wrap (s.fV - 1)) = _
  rw [hs.t, hs.v]; exact varq h0 (by omega))
theorem AGI.l99 (h : AGI G V fl c L E r) : AGI G V fl c L (letE G fs R V fl c 99 E) (thenX r (fieldsPart (leaving b))) :=
 h.ask b 158 1 _ (numB 1 9 c.n) 17 (by decide) (fun s hs => by
  show decide (1 ≤ s.n ∧ s.n ≤ 8) = _
  rw [hs.n]; unfold numB; rw [Bool.eq_iff_iff]; simp; omega)
theorem AGI.l102 (h : AGI G V fl c L E r) : AGI G V fl c L (letE G fs R V fl c 102 E) (thenX r (fieldPart (leaving b))) :=
 h.ask b 158 1 _ (numB 0 8 c.n) 17 (by decide) (fun s hs => by
  show decide (0 ≤ s.n ∧ s.n ≤ 7) = _
  rw [hs.n]; unfold numB; rw [Bool.eq_iff_iff]; simp; omega)
theorem AGI.l103 (h : AGI G V fl c L E r) (h0 : 0 ≤ G) (h1 : G ≤ 16) : AGI G V fl c L (letE G fs R V fl c 103 E) (thenX r (globalPart (leaving b))) :=
 h.ask b 158 1 _ (numB 0 G c.n) 18 (by decide) (fun s hs => by
  show decide (0 ≤ s.n ∧ s.n ≤ IntKind.i64.wrap (s.globals - 1)) = _
  rw [hs.n, hs.g]; exact varq h0 (by omega))
theorem AGI.l74 (h : AGI G V fl c L E r) (h1 : fl ≤ 4096) : AGI G V fl c L (letE G fs R V fl c 74 E) (thenX r (targetPart (leaving b))) :=
 h.ask b 158 2 _ (numB 0 fl c.n) 16 (by decide) (fun s hs => by
  show decide (0 ≤ s.n ∧ s.n ≤ IntKind.i64.wrap (s.len - 1)) = _
  rw [hs.n, hs.l]; exact varq (by omega) (by omega))
theorem AGI.l70 (h : AGI G V fl c L E r) (h1 : fs.length ≤ 65535) : AGI G V fl c L (letE G fs R V fl c 70 E) (thenX r (calleePart (leaving b) fs.length)) :=
 h.ask b 158 2 _ (numB 0 fs.length c.n) 14 (by decide) (fun s hs => by
  show decide (0 ≤ s.n ∧ s.n ≤ IntKind.i64.wrap ((fs.length : Int) - 1)) = _
  rw [hs.n]; exact varq (by omega) (by omega))
theorem AGI.l105 (h : AGI G V fl c L E r) : AGI G V fl c L (letE G fs R V fl c 105 E) (thenX r (intPart (leaving b))) := by
 cases r with
 | error z => exact h
 | ok y =>
   obtain ⟨s, u⟩ := y
   obtain ⟨h0, hc⟩ : E = 0 ∧ Cor G V fl c s L := h
   have e : thenX (.ok (s, u)) (intPart (leaving b)) = .ok ({ s with at' := adv s.at' 8 }, u) := L_next 158 8 s u
   refine AGI.cast e ?_
   exact ⟨h0, hc.at _⟩
theorem varsL_agi (h0 : 0 ≤ V) (h1 : V ≤ 255) : ∀ (l : List Int) (x : WS × Unit), Cor G V fl c x.1 L → AGI G V fl c L (varsE V l 0) (varsL l x)
 | [], x, h => ⟨rfl, h⟩
 | v :: l, x, h => by
   show AGI G V fl c L (varsE V l (mustE (varB V v) 13 0)) (thenX (oneL v x) (varsL l))
   have hq : varOk x.1.fV v = varB V v := by rw [h.v]; exact varq h0 (by omega)
   unfold oneL
   rw [hq]
   cases hb : varB V v with
   | true =>
     rw [if_pos rfl, mustE_yes]
     exact varsL_agi h0 h1 l _ (h.at _)
   | false =>
     rw [if_neg (by decide), mustE_no]
     refine ⟨?_, show (13 : Int) ≠ 0 by decide⟩
     show varsE V l 13 = 13
     have : ∀ (l : List Int), varsE V l 13 = 13 := by
      intro l
      induction l with
      | nil => rfl
      | cons a l ih => show varsE V l (mustE (varB V a) 13 13) = 13; rw [mustE_keep (by decide)]; exact ih
     exact this l
theorem AGI.list (h : AGI G V fl c L E r) (h0 : 0 ≤ V) (h1 : V ≤ 255) (n : Nat) (m : Int) (hm : m = n) (l : List Int) : AGI G V fl c L (listE m V l E) (thenX r (listL n l)) := by
 cases r with
 | error z =>
   have h : E = z.1 ∧ z.1 ≠ 0 := h
   show listE m V l E = z.1 ∧ z.1 ≠ 0
   unfold listE
   rw [if_neg (by rw [h.1]; exact h.2)]
   exact h
 | ok y =>
   obtain ⟨s, u⟩ := y
   obtain ⟨e0, hc⟩ : E = 0 ∧ Cor G V fl c s L := h
   subst e0
   show AGI G V fl c L (listE m V l 0) (listL n l (s, u))
   unfold listE listL
   rw [if_pos rfl]
   by_cases hl : l.length = n
   ·rw [if_pos hl, show ((l.length : Int) == m) = true by rw [hm]; simp [hl], mustE_yes]
    exact varsL_agi h0 h1 l _ ⟨hc.g, hc.v, hc.l, hc.r, hc.ss, hc.t, hc.n, hc.lo⟩
   ·rw [if_neg hl, show ((l.length : Int) == m) = false by rw [hm]; simpa using (by omega : ¬ (l.length : Int) = n), mustE_no]
    refine ⟨?_, show (15 : Int) ≠ 0 by decide⟩
    show varsE V l 15 = 15
    have : ∀ (l : List Int), varsE V l 15 = 15 := by
     intro l
     induction l with
     | nil => rfl
     | cons a l ih => show varsE V l (mustE (varB V a) 13 15) = 15; rw [mustE_keep (by decide)]; exact ih
    exact this l
end
end Go.Proofs.YtdkijecnnmncnaaGreatDoor
namespace Go.Proofs.YtdkijecnnmncnaaGreatDoor
open Go.RowKit (wrap32 wrap64)
set_option linter.unusedVariables false
set_option linter.unusedSimpArgs false
theorem w64 {z : Int} (h0 : 0 ≤ z) (h1 : z ≤ 1000000000000) : wrap64 z = z := by unfold wrap64; omega
structure CorF (G V : Int) (fl : Nat) (s : WS) (L : Int) : Prop where
 g : s.globals = G
 v : s.fV = V
 l : s.len = fl
 lo : s.locs = L + 1
theorem front_agi {G V : Int} {fl : Nat} {L : Int} (b : Nat) (c : PI) (i : Nat) (hi : i < fl) (s : WS) (hs : CorF G V fl s L) (hL0 : 0 ≤ L) (hL1 : L + 1 ≤ 1048576) (hop : 1 ≤ c.op ∧ c.op ≤ 17)
 (nb ends makes : Bool) (he : ends = (c.op == 13 || c.op == 15)) (hm : makes = (c.op == 6)) (p a : Int) :
 AGI G V fl c (opL c.op L) (opE c.op nb ((i : Int) == (fl : Int) - 1) L 0) (frontOk (leaving b) ends makes nb i p ({ inI c s with at' := a }, ())) := by
 have hob : opB c.op = true := by unfold opB; simp [hop.1, hop.2]
 have hla : (ends || decide ((i : Int) < (inI c s).len - 1)) = lastB ((i : Int) == (fl : Int) - 1) c.op := by
  rw [show (inI c s).len = s.len from rfl, hs.l, he]
  unfold lastB
  cases hx : (c.op == 13 || c.op == 15)
  ·rw [Bool.or_false, Bool.false_or, Bool.eq_iff_iff]; simp; omega
  ·simp
 unfold frontOk opE
 rw [hob, mustE_yes]
 cases nb with
 | false =>
   rw [if_pos rfl, mustE_no, mustE_keep (E := 1) (by decide), mustE_keep (E := 1) (by decide)]
   exact ⟨rfl, show (1 : Int) ≠ 0 by decide⟩
 | true =>
   rw [if_neg (by decide), mustE_yes]
   rw [show (({ inI c s with at' := a }, ()) : WS × Unit).1.len = (inI c s).len from rfl, hla]
   cases lastB ((i : Int) == (fl : Int) - 1) c.op with
   | false =>
     rw [if_pos rfl, mustE_no, mustE_keep (by decide)]
     exact ⟨rfl, show (19 : Int) ≠ 0 by decide⟩
   | true =>
     rw [if_neg (by decide), mustE_yes, hm]
     by_cases h6 : c.op = 6
     ·have e : opL c.op L = L + 1 := by unfold opL; rw [if_pos h6]
      rw [e, if_pos (by simp [h6])]
      unfold locX
      have e2 : wrap64 ((({ inI c s with at' := a }, ()) : WS × Unit).1.locs + 1) = L + 1 + 1 := by
       rw [show (({ inI c s with at' := a }, ()) : WS × Unit).1.locs = s.locs from rfl, hs.lo]
       exact w64 (by omega) (by omega)
      rw [e2]
      by_cases hle : L + 1 + 1 ≤ 1048576
      ·rw [if_pos hle, show decide (L + 1 + 1 ≤ 1048576) = true by simpa using hle, mustE_yes]
       exact ⟨rfl, ⟨hs.g, hs.v, hs.l, rfl, rfl, rfl, rfl, rfl⟩⟩
      ·rw [if_neg hle, show decide (L + 1 + 1 ≤ 1048576) = false by simpa using hle, mustE_no]
       exact ⟨rfl, show (21 : Int) ≠ 0 by decide⟩
     ·have e : opL c.op L = L := by unfold opL; rw [if_neg h6]
      rw [e, if_neg (by simp [h6]), show decide (L + 1 ≤ 1048576) = true by simpa using hL1, mustE_yes]
      exact ⟨rfl, ⟨hs.g, hs.v, hs.l, rfl, rfl, rfl, rfl, hs.lo⟩⟩
theorem call_agi {G V R : Int} {fl : Nat} {c : PI} {L E : Int} {r1 : X (WS × Unit)} (fs : List PF) (hP : ∀ f ∈ fs, 0 ≤ f.P ∧ 0 ≤ f.R) (hV0 : 0 ≤ V) (hV1 : V ≤ 255) (h1 : AGI G V fl c L E r1) (hE : E = 0 → 0 ≤ c.n ∧ c.n < fs.length) :
 AGI G V fl c L (letE G fs R V fl c 66 (letE G fs R V fl c 65 E)) (thenX r1 fun y => thenX (listL (((headsOfP fs).getD y.1.n.toNat (0, 0)).1) c.args y) fun y2 => listL (((headsOfP fs).getD y.1.n.toNat (0, 0)).2) c.rets y2) := by
 show AGI G V fl c L (listE (calleeR fs c.n) V c.rets (listE (calleeP fs c.n) V c.args E)) _
 cases r1 with
 | error z =>
   have h1 : E = z.1 ∧ z.1 ≠ 0 := h1
   have hz : ¬ E = 0 := by rw [h1.1]; exact h1.2
   have e1 : listE (calleeP fs c.n) V c.args E = E := by unfold listE; rw [if_neg hz]
   have e2 : listE (calleeR fs c.n) V c.rets E = E := by unfold listE; rw [if_neg hz]
   rw [e1, e2]
   exact h1
 | ok y =>
   have h2 : E = 0 ∧ Cor G V fl c y.1 L := h1
   obtain ⟨hn0, hn1⟩ := hE h2.1
   have hlt : c.n.toNat < fs.length := by omega
   have hn : y.1.n.toNat = c.n.toNat := by rw [h2.2.n]
   have hg : (headsOfP fs).getD y.1.n.toNat (0, 0) = (fs[c.n.toNat].P.toNat, fs[c.n.toNat].R.toNat) := by
    rw [hn]
    unfold headsOfP
    rw [List.getD_eq_getElem?_getD, List.getElem?_map, List.getElem?_eq_getElem hlt]
    rfl
   have hp := hP _ (List.getElem_mem hlt)
   have cP : calleeP fs c.n = (fs[c.n.toNat].P.toNat : Nat) := by
    unfold calleeP; rw [List.getElem?_eq_getElem hlt]; show fs[c.n.toNat].P = _; omega
   have cR : calleeR fs c.n = (fs[c.n.toNat].R.toNat : Nat) := by
    unfold calleeR; rw [List.getElem?_eq_getElem hlt]; show fs[c.n.toNat].R = _; omega
   have h3 := h1.list hV0 hV1 _ _ cP c.args
   have h4 := h3.list hV0 hV1 _ _ cR c.rets
   refine AGI.cast ?_ h4
   show thenX (listL (((headsOfP fs).getD y.1.n.toNat (0, 0)).1) c.args y) (fun y2 => listL (((headsOfP fs).getD y.1.n.toNat (0, 0)).2) c.rets y2) = _
   rw [hg]
   rfl
theorem instr_agi {G V R : Int} {fl : Nat} {L : Int} (b : Nat) (fs : List PF) (hP : ∀ f ∈ fs, 0 ≤ f.P ∧ 0 ≤ f.R) (hnf : fs.length ≤ 65535) (hG0 : 0 ≤ G) (hG1 : G ≤ 16) (hV0 : 0 ≤ V) (hV1 : V ≤ 255) (hR : 0 ≤ R) (hfl : fl ≤ 4096)
 (c : PI) (i : Nat) (hi : i < fl) (s : WS) (hs : CorF G V fl s L) (hL0 : 0 ≤ L) (hL1 : L + 1 ≤ 1048576) :
 AGI G V fl c (opL c.op L) (instrE G fs R V fl c ((i : Int) == (fl : Int) - 1) L 0) (instrL (b := b) (headsOfP fs) R.toNat i c.args c.rets (inI c s)) := by
 by_cases hop : 1 ≤ c.op ∧ c.op ≤ 17
 ·obtain ⟨k, hk⟩ : ∃ k : Nat, c.op = k := ⟨c.op.toNat, by omega⟩
  have hkk : 1 ≤ k ∧ k ≤ 17 := by omega
  have hpl : plainB c.op c.r c.s c.t c.n c.args.length c.rets.length = nbK k (inI c s) c.args.length c.rets.length := by
   rw [hk]; exact plainB_nbK k hkk (inI c s) c.args.length c.rets.length
  have hfr : ∀ (ends makes : Bool), ends = (c.op == 13 || c.op == 15) → makes = (c.op == 6) → AGI G V fl c (opL c.op L) (opE c.op (plainB c.op c.r c.s c.t c.n c.args.length c.rets.length) ((i : Int) == (fl : Int) - 1) L 0) (frontOk (leaving b) ends makes (nbK k (inI c s) c.args.length c.rets.length) i (inI c s).at' ({ inI c s with at' := adv (inI c s).at' 1 }, ())) := fun e m he hm => by
   rw [hpl]; exact front_agi b c i hi s hs hL0 hL1 hop _ e m he hm _ _
  unfold instrL
  rw [if_pos (show 1 ≤ (inI c s).op ∧ (inI c s).op ≤ 17 from hop)]
  rw [show (inI c s).op = c.op from rfl]
  unfold instrE
  have hN : c.op.toNat = k := by omega
  rw [hN]
  generalize hEE : opE c.op (plainB c.op c.r c.s c.t c.n c.args.length c.rets.length) ((i : Int) == (fl : Int) - 1) L 0 = EE at hfr ⊢
  rcases (show k = 1 ∨ k = 2 ∨ k = 3 ∨ k = 4 ∨ k = 5 ∨ k = 6 ∨ k = 7 ∨ k = 8 ∨ k = 9 ∨ k = 10 ∨ k = 11 ∨ k = 12 ∨ k = 13 ∨ k = 14 ∨ k = 15 ∨ k = 16 ∨ k = 17 by omega) with rfl | rfl | rfl | rfl | rfl | rfl | rfl | rfl | rfl | rfl | rfl | rfl | rfl | rfl | rfl | rfl | rfl
  case inr.inr.inr.inr.inr.inr.inr.inr.inr.inr.inl =>
   have h1 := (hfr false false (by rw [hk]; rfl) (by rw [hk]; rfl)).l70 (fs := fs) (R := R) b hnf
   rw [if_neg (by omega), if_pos (show c.op = 11 by omega)]
   refine call_agi fs hP hV0 hV1 (r1 := thenX _ (calleePart (leaving b) (headsOfP fs).length)) ?_ ?_
   ·rw [show (headsOfP fs).length = fs.length by unfold headsOfP; simp]
    exact h1
   ·intro h0
    have hn := (mustE_zero (by decide) (show mustE (numB 0 fs.length c.n) 14 EE = 0 from h0)).1
    unfold numB at hn
    simp at hn
    exact ⟨hn.1, hn.2⟩
  case inr.inr.inr.inr.inr.inr.inr.inr.inr.inr.inr.inr.inr.inr.inl =>
   have h1 := hfr true false (by rw [hk]; rfl) (by rw [hk]; rfl)
   rw [if_pos (show c.op = 15 by omega)]
   exact h1.list hV0 hV1 R.toNat R (by omega) c.args
  ·rw [if_neg (by omega), if_neg (by omega)]
   have h1 := hfr (c.op == 13) (c.op == 6) (by rw [hk]; rfl) rfl
   exact ((h1.l82 (fs := fs) (R := R) b hV0 hV1).l105 (fs := fs) (R := R) b)
  ·rw [if_neg (by omega), if_neg (by omega)]
   have h1 := hfr (c.op == 13) (c.op == 6) (by rw [hk]; rfl) rfl
   exact ((h1.l82 (fs := fs) (R := R) b hV0 hV1).l83 (fs := fs) (R := R) b hV0 hV1)
  ·rw [if_neg (by omega), if_neg (by omega)]
   have h1 := hfr (c.op == 13) (c.op == 6) (by rw [hk]; rfl) rfl
   exact (((h1.l82 (fs := fs) (R := R) b hV0 hV1).l83 (fs := fs) (R := R) b hV0 hV1).l84 (fs := fs) (R := R) b hV0 hV1)
  ·rw [if_neg (by omega), if_neg (by omega)]
   have h1 := hfr (c.op == 13) (c.op == 6) (by rw [hk]; rfl) rfl
   exact (((h1.l82 (fs := fs) (R := R) b hV0 hV1).l83 (fs := fs) (R := R) b hV0 hV1).l84 (fs := fs) (R := R) b hV0 hV1)
  ·rw [if_neg (by omega), if_neg (by omega)]
   have h1 := hfr (c.op == 13) (c.op == 6) (by rw [hk]; rfl) rfl
   exact ((h1.l82 (fs := fs) (R := R) b hV0 hV1).l83 (fs := fs) (R := R) b hV0 hV1)
  ·rw [if_neg (by omega), if_neg (by omega)]
   have h1 := hfr (c.op == 13) (c.op == 6) (by rw [hk]; rfl) rfl
   exact ((h1.l82 (fs := fs) (R := R) b hV0 hV1).l99 (fs := fs) (R := R) b)
  ·rw [if_neg (by omega), if_neg (by omega)]
   have h1 := hfr (c.op == 13) (c.op == 6) (by rw [hk]; rfl) rfl
   exact (((h1.l82 (fs := fs) (R := R) b hV0 hV1).l83 (fs := fs) (R := R) b hV0 hV1).l102 (fs := fs) (R := R) b)
  ·rw [if_neg (by omega), if_neg (by omega)]
   have h1 := hfr (c.op == 13) (c.op == 6) (by rw [hk]; rfl) rfl
   exact (((h1.l82 (fs := fs) (R := R) b hV0 hV1).l83 (fs := fs) (R := R) b hV0 hV1).l102 (fs := fs) (R := R) b)
  ·rw [if_neg (by omega), if_neg (by omega)]
   have h1 := hfr (c.op == 13) (c.op == 6) (by rw [hk]; rfl) rfl
   exact ((h1.l82 (fs := fs) (R := R) b hV0 hV1).l103 (fs := fs) (R := R) b hG0 hG1)
  ·rw [if_neg (by omega), if_neg (by omega)]
   have h1 := hfr (c.op == 13) (c.op == 6) (by rw [hk]; rfl) rfl
   exact ((h1.l83 (fs := fs) (R := R) b hV0 hV1).l103 (fs := fs) (R := R) b hG0 hG1)
  ·rw [if_neg (by omega), if_neg (by omega)]
   have h1 := hfr (c.op == 13) (c.op == 6) (by rw [hk]; rfl) rfl
   exact (h1.l83 (fs := fs) (R := R) b hV0 hV1)
  ·rw [if_neg (by omega), if_neg (by omega)]
   have h1 := hfr (c.op == 13) (c.op == 6) (by rw [hk]; rfl) rfl
   exact (h1.l74 (fs := fs) (R := R) b hfl)
  ·rw [if_neg (by omega), if_neg (by omega)]
   have h1 := hfr (c.op == 13) (c.op == 6) (by rw [hk]; rfl) rfl
   exact ((h1.l83 (fs := fs) (R := R) b hV0 hV1).l74 (fs := fs) (R := R) b hfl)
  ·rw [if_neg (by omega), if_neg (by omega)]
   have h1 := hfr (c.op == 13) (c.op == 6) (by rw [hk]; rfl) rfl
   exact (h1.l82 (fs := fs) (R := R) b hV0 hV1)
  ·rw [if_neg (by omega), if_neg (by omega)]
   have h1 := hfr (c.op == 13) (c.op == 6) (by rw [hk]; rfl) rfl
   exact (((h1.l82 (fs := fs) (R := R) b hV0 hV1).l83 (fs := fs) (R := R) b hV0 hV1).l84 (fs := fs) (R := R) b hV0 hV1)
 ·have hob : opB c.op = false := by unfold opB; simp; omega
  have e1 : opE c.op (plainB c.op c.r c.s c.t c.n c.args.length c.rets.length) ((i : Int) == (fl : Int) - 1) L 0 = 12 := by
   unfold opE
   rw [hob, mustE_no, mustE_keep (E := 12) (by decide), mustE_keep (E := 12) (by decide), mustE_keep (E := 12) (by decide)]
  unfold instrL instrE
  rw [if_neg (show ¬ (1 ≤ (inI c s).op ∧ (inI c s).op ≤ 17) from hop), e1]
  have e2 : (partsN c.op.toNat).toList = [] := by
   rcases Nat.lt_or_ge c.op.toNat 18 with h | h
   ·have : c.op.toNat = 0 := by omega
    rw [this]; rfl
   ·exact partsN_big _ h
  rw [e2]
  exact ⟨rfl, show (12 : Int) ≠ 0 by decide⟩
end Go.Proofs.YtdkijecnnmncnaaGreatDoor
namespace Go.Proofs.YtdkijecnnmncnaaGreatDoor
open Go.RowKit (wrap32 wrap64)
set_option linter.unusedVariables false
set_option linter.unusedSimpArgs false
def AGF (G V : Int) (fl : Nat) (p : Int × Int) (r : X (WS × Unit)) : Prop := match r with
 | .ok y => p.2 = 0 ∧ CorF G V fl y.1 p.1
 | .error z => p.2 = z.1 ∧ z.1 ≠ 0
theorem AGF.cast {G V : Int} {fl : Nat} {p : Int × Int} {r q : X (WS × Unit)} (e : r = q) (h : AGF G V fl p q) : AGF G V fl p r := by rw [e]; exact h
theorem code_agi {G V R : Int} {fl : Nat} (b : Nat) (fs : List PF) (hP : ∀ f ∈ fs, 0 ≤ f.P ∧ 0 ≤ f.R) (hnf : fs.length ≤ 65535) (hG0 : 0 ≤ G) (hG1 : G ≤ 16) (hV0 : 0 ≤ V) (hV1 : V ≤ 255) (hR : 0 ≤ R) (hfl : fl ≤ 4096) :
 ∀ (cs : List PI) (i : Nat) (s : WS) (L : Int), CorF G V fl s L → 0 ≤ L → L + 1 ≤ 1048576 → i + cs.length = fl → AGF G V fl (rCode G fs R V fl i cs L 0) (codeP b (headsOfP fs) R.toNat i cs s)
 | [], i, s, L, hs, h0, h1, hi => ⟨rfl, hs⟩
 | c :: cs, i, s, L, hs, h0, h1, hi => by
   have hi' : i < fl := by simp at hi; omega
   have h := instr_agi b fs hP hnf hG0 hG1 hV0 hV1 hR hfl c i hi' s hs h0 h1
   have hlow : Low (opL c.op L) (instrE G fs R V fl c ((i : Int) == (fl : Int) - 1) L 0) := Low.instr h0
   obtain ⟨r1, hr1⟩ : ∃ r1 : X (WS × Unit), r1 = instrL (b := b) (headsOfP fs) R.toNat i c.args c.rets (inI c s) := ⟨_, rfl⟩
   have h : AGI G V fl c (opL c.op L) (instrE G fs R V fl c ((i : Int) == (fl : Int) - 1) L 0) r1 := by rw [hr1]; exact h
   refine AGF.cast (q := thenX r1 fun y => codeP b (headsOfP fs) R.toNat (i + 1) cs y.1) (by rw [hr1]; rfl) ?_
   show AGF G V fl (rCode G fs R V fl (i + 1) cs (opL c.op L) (instrE G fs R V fl c ((i : Int) == (fl : Int) - 1) L 0)) _
   clear hr1
   cases r1 with
   | error z =>
     have h : instrE G fs R V fl c ((i : Int) == (fl : Int) - 1) L 0 = z.1 ∧ z.1 ≠ 0 := h
     rw [rCode_ne _ _ _ _ _ _ _ _ (by rw [h.1]; exact h.2)]
     exact h
   | ok y =>
     have h : instrE G fs R V fl c ((i : Int) == (fl : Int) - 1) L 0 = 0 ∧ Cor G V fl c y.1 (opL c.op L) := h
     rw [h.1] at hlow ⊢
     exact code_agi b fs hP hnf hG0 hG1 hV0 hV1 hR hfl cs (i + 1) y.1 _ ⟨h.2.g, h.2.v, h.2.l, h.2.lo⟩ hlow.1 (hlow.2 rfl) (by simp at hi; omega)
def AG0 (G : Int) (p : Int × Int) (r : X (WS × Unit)) : Prop := match r with
 | .ok y => p.2 = 0 ∧ y.1.globals = G ∧ y.1.locs = p.1 + 1
 | .error z => p.2 = z.1 ∧ z.1 ≠ 0
theorem AG0.cast {G : Int} {p : Int × Int} {r q : X (WS × Unit)} (e : r = q) (h : AG0 G p q) : AG0 G p r := by rw [e]; exact h
theorem funcs_agi {G : Int} (b : Nat) (fs : List PF) (hP : ∀ f ∈ fs, 0 ≤ f.P ∧ 0 ≤ f.R) (hnf : fs.length ≤ 65535) (hG0 : 0 ≤ G) (hG1 : G ≤ 16) :
 ∀ (l : List PF) (s : WS) (L : Int), (∀ f ∈ l, FineF f) → s.globals = G → s.locs = L + 1 → 0 ≤ L → L + 1 ≤ 1048576 → AG0 G (rFuncs G fs l L 0) (funcsP b (headsOfP fs) l s)
 | [], s, L, hf, hg, hs, h0, h1 => ⟨rfl, hg, hs⟩
 | f :: l, s, L, hf, hg, hs, h0, h1 => by
   have hff := hf f List.mem_cons_self
   have h := code_agi (V := f.V) (R := f.R) (fl := f.code.length) b fs hP hnf hG0 hG1 hff.1.1 hff.1.2 hff.2.2.1.1 hff.2.2.2.2 f.code 0 (inF f s) L ⟨hg, rfl, rfl, hs⟩ h0 h1 (by omega)
   have hlow := Low.code G fs f.R f.V f.code.length f.code 0 L 0 ⟨h0, fun _ => h1⟩
   show AG0 G (rFuncs G fs l (rCode G fs f.R f.V f.code.length 0 f.code L 0).1 (rCode G fs f.R f.V f.code.length 0 f.code L 0).2) (thenX (codeP b (headsOfP fs) f.R.toNat 0 f.code (inF f s)) fun y => funcsP b (headsOfP fs) l y.1)
   generalize codeP b (headsOfP fs) f.R.toNat 0 f.code (inF f s) = r1 at h ⊢
   generalize rCode G fs f.R f.V f.code.length 0 f.code L 0 = p at h hlow ⊢
   cases r1 with
   | error z =>
     have h : p.2 = z.1 ∧ z.1 ≠ 0 := h
     rw [rFuncs_ne _ _ _ _ (by rw [h.1]; exact h.2)]
     exact h
   | ok y =>
     have h : p.2 = 0 ∧ CorF G f.V f.code.length y.1 p.1 := h
     rw [h.1] at hlow ⊢
     exact funcs_agi b fs hP hnf hG0 hG1 l y.1 p.1 (fun x hx => hf x (List.mem_cons_of_mem _ hx)) h.2.g h.2.lo hlow.1 (hlow.2 rfl)
theorem headOk_small (s : WS) (p : Int) : headOk s p = if smallB s.fP s.fR s.fV && decide (s.len ≤ 4096) then (if 0 < s.len then .ok () else .error (19, p)) else .error (20, p) := by
 unfold headOk
 by_cases h1 : 0 ≤ s.fV ∧ s.fV ≤ 255
 ·rw [if_neg (by simpa using h1)]
  by_cases h2 : 0 ≤ s.fP ∧ s.fP ≤ (if s.fV < 8 then s.fV else 8)
  ·rw [if_neg (fun h => h h2)]
   have h2' : 0 ≤ s.fP ∧ s.fP ≤ 8 ∧ s.fP ≤ s.fV := by
    obtain ⟨a, c⟩ := h2
    split at c <;> omega
   by_cases h3 : 0 ≤ s.fR ∧ s.fR ≤ 4
   ·rw [if_neg (fun h => h h3)]
    by_cases h4 : s.len ≤ 4096
    ·rw [if_neg (fun h => h h4)]
     rw [if_pos (show (smallB s.fP s.fR s.fV && decide (s.len ≤ 4096)) = true by unfold smallB; simp; omega)]
     by_cases h5 : 0 < s.len
     ·rw [if_neg (fun h => h h5), if_pos h5]
     ·rw [if_pos h5, if_neg h5]
    ·rw [if_pos h4, if_neg (show ¬ (smallB s.fP s.fR s.fV && decide (s.len ≤ 4096)) = true by simp; omega)]
   ·rw [if_pos h3, if_neg (show ¬ (smallB s.fP s.fR s.fV && decide (s.len ≤ 4096)) = true by unfold smallB; simp; omega)]
  ·rw [if_pos h2, if_neg (show ¬ (smallB s.fP s.fR s.fV && decide (s.len ≤ 4096)) = true by
    unfold smallB; simp
    intro a c d
    exfalso
    refine h2 ⟨a, ?_⟩
    split <;> omega)]
 ·rw [if_pos (by simpa using h1), if_neg (show ¬ (smallB s.fP s.fR s.fV && decide (s.len ≤ 4096)) = true by unfold smallB; simp; omega)]
theorem head_agi {G : Int} (b : Nat) (f : PF) (s : WS) (L : Int) (hg : s.globals = G) (hs : s.locs = L + 1) (h0 : 0 ≤ L) (h1 : L + 1 ≤ 1048576) :
 AG0 G (headL f.P f.R f.V f.code.length L 0, headE f.P f.R f.V f.code.length L 0) (headX (leaving b) (inF f s, ())) := by
 have e : headX (leaving b) (inF f s, ()) = (thenX (headOk ({ inF f s with at' := adv (adv (adv (adv s.at' 1) 1) 1) 2 }) s.at') fun _ => locX (leaving b) f.V s.at' ({ inF f s with at' := adv (adv (adv (adv s.at' 1) 1) 1) 2 }, ()) : X (WS × Unit)) := by
  refine (headX_then (leaving b) (inF f s, ())).trans ?_
  rw [L_next]
  simp only [thenX]
  rw [L_next]
  simp only
  rw [L_next]
  simp only
  rw [L_next]
  rfl
 refine AG0.cast e ?_
 rw [headOk_small]
 show AG0 G _ (thenX (if (smallB f.P f.R f.V && decide ((f.code.length : Int) ≤ 4096)) = true then (if 0 < (f.code.length : Int) then .ok () else .error (19, s.at')) else .error (20, s.at')) _)
 by_cases hS : (smallB f.P f.R f.V && decide ((f.code.length : Int) ≤ 4096)) = true
 ·rw [if_pos hS]
  by_cases hn : 0 < (f.code.length : Int)
  ·rw [if_pos hn]
   have e2 : headE2 f.P f.R f.V f.code.length 0 = 0 := by
    unfold headE2
    rw [hS, mustE_yes, show decide ((1 : Int) ≤ f.code.length) = true from decide_eq_true (by omega), mustE_yes]
   have e3 : headL f.P f.R f.V f.code.length L 0 = L + f.V := by unfold headL; rw [if_pos e2]
   have hV : 0 ≤ f.V ∧ f.V ≤ 255 := by
    have := hS
    unfold smallB at this
    simp at this
    omega
   unfold headE
   rw [e2, e3]
   show AG0 G _ (locX (leaving b) f.V s.at' ({ inF f s with at' := adv (adv (adv (adv s.at' 1) 1) 1) 2 }, ()))
   unfold locX
   have e4 : wrap64 ((({ inF f s with at' := adv (adv (adv (adv s.at' 1) 1) 1) 2 }, ()) : WS × Unit).1.locs + f.V) = L + f.V + 1 := by
    rw [show (({ inF f s with at' := adv (adv (adv (adv s.at' 1) 1) 1) 2 }, ()) : WS × Unit).1.locs = s.locs from rfl, hs, w64 (by omega) (by omega)]
    omega
   rw [e4]
   by_cases hle : L + f.V + 1 ≤ 1048576
   ·rw [if_pos hle, show decide (L + f.V + 1 ≤ 1048576) = true by simpa using hle, mustE_yes]
    exact ⟨rfl, hg, rfl⟩
   ·rw [if_neg hle, show decide (L + f.V + 1 ≤ 1048576) = false by simpa using hle, mustE_no]
    exact ⟨rfl, show (21 : Int) ≠ 0 by decide⟩
  ·rw [if_neg hn]
   have e2 : headE2 f.P f.R f.V f.code.length 0 = 19 := by
    unfold headE2
    rw [hS, mustE_yes, show decide ((1 : Int) ≤ f.code.length) = false from decide_eq_false (by omega), mustE_no]
   refine ⟨?_, show (19 : Int) ≠ 0 by decide⟩
   show headE f.P f.R f.V f.code.length L 0 = 19
   unfold headE
   rw [e2, mustE_keep (E := 19) (by decide)]
 ·rw [if_neg hS]
  have e2 : headE2 f.P f.R f.V f.code.length 0 = 20 := by
   unfold headE2
   rw [Bool.eq_false_iff.2 hS, mustE_no, mustE_keep (E := 20) (by decide)]
  refine ⟨?_, show (20 : Int) ≠ 0 by decide⟩
  show headE f.P f.R f.V f.code.length L 0 = 20
  unfold headE
  rw [e2, mustE_keep (E := 20) (by decide)]
theorem heads_agi {G : Int} (b : Nat) : ∀ (l : List PF) (s : WS) (L : Int), s.globals = G → s.locs = L + 1 → 0 ≤ L → L + 1 ≤ 1048576 → AG0 G (rHeads l L 0) (headsP b l s) ∧ ((rHeads l L 0).2 = 0 → ∀ f ∈ l, FineF f)
 | [], s, L, hg, hs, h0, h1 => ⟨⟨rfl, hg, hs⟩, fun _ f hf => by cases hf⟩
 | f :: l, s, L, hg, hs, h0, h1 => by
   have h := head_agi b f s L hg hs h0 h1
   have hlow : Low (headL f.P f.R f.V f.code.length L 0) (headE f.P f.R f.V f.code.length L 0) := Low.head h0
   obtain ⟨r1, hr1⟩ : ∃ r1 : X (WS × Unit), r1 = headX (leaving b) (inF f s, ()) := ⟨_, rfl⟩
   have hfine : ∀ y, r1 = .ok y → FineF f := fun y hy => head_fine (b := b) (s := inF f s) rfl rfl rfl rfl (hr1.symm.trans hy)
   have h : AG0 G (headL f.P f.R f.V f.code.length L 0, headE f.P f.R f.V f.code.length L 0) r1 := by rw [hr1]; exact h
   have key : AG0 G (rHeads l (headL f.P f.R f.V f.code.length L 0) (headE f.P f.R f.V f.code.length L 0)) (thenX r1 fun y => headsP b l y.1) ∧ ((rHeads l (headL f.P f.R f.V f.code.length L 0) (headE f.P f.R f.V f.code.length L 0)).2 = 0 → ∀ x ∈ f :: l, FineF x) := by
    clear hr1
    cases r1 with
    | error z =>
      have h : headE f.P f.R f.V f.code.length L 0 = z.1 ∧ z.1 ≠ 0 := h
      have hne : ¬ headE f.P f.R f.V f.code.length L 0 = 0 := by rw [h.1]; exact h.2
      rw [rHeads_ne _ _ hne]
      exact ⟨h, fun hz => absurd hz hne⟩
    | ok y =>
      have h : headE f.P f.R f.V f.code.length L 0 = 0 ∧ y.1.globals = G ∧ y.1.locs = headL f.P f.R f.V f.code.length L 0 + 1 := h
      rw [h.1] at hlow ⊢
      obtain ⟨k1, k2⟩ := heads_agi b l y.1 _ h.2.1 h.2.2 hlow.1 (hlow.2 rfl)
      refine ⟨k1, fun hz x hx => ?_⟩
      rcases List.mem_cons.1 hx with rfl | hx
      ·exact hfine y rfl
      ·exact k2 hz x hx
   exact ⟨AG0.cast (q := thenX r1 fun y => headsP b l y.1) (by rw [hr1]; rfl) key.1, key.2⟩
theorem answer_agi (G : Int) (fs : List PF) : AG0 G (rAll G fs) (answerP G fs) := by
 have eA : ∀ er : Int, ¬ er = 0 → rE1 G fs.length = er → rAll G fs = (0, er) := fun er he h => by
  unfold rAll rHd
  rw [h, rHeads_ne _ _ he, rFuncs_ne _ _ _ _ he]
 obtain ⟨s0, hs0⟩ : ∃ s0 : WS, s0 = { WS.start nilS with globals := G, count := (fs.length : Nat) } := ⟨_, rfl⟩
 have e0 : answerP G fs = (thenX (if decide (0 ≤ G ∧ G ≤ 16) then .ok ({ s0 with at' := adv s0.at' 1 }, ()) else .error (18, s0.at')) fun y =>
  thenX (askX (leaving 0) 161 2 (fun s => decide (1 ≤ s.count ∧ s.count ≤ 65535)) 20 y) fun y => thenX (headsP 0 fs y.1) fun y => funcsP 0 (headsOfP fs) fs y.1 : X (WS × Unit)) := by
  unfold answerP overP
  rw [hs0]
  refine then_eq ?_ (fun y => ?_)
  ·exact L_ask (b := 0) 146 1 _ 18 _ ()
  ·rfl
 refine AG0.cast e0 ?_
 by_cases hG : 0 ≤ G ∧ G ≤ 16
 ·rw [if_pos (by simpa using hG)]
  have r0 : rE0 G = 0 := by unfold rE0; rw [show (decide (0 ≤ G) && decide (G ≤ 16)) = true by simpa using hG, mustE_yes]
  refine AG0.cast (q := thenX (if decide (1 ≤ (fs.length : Int) ∧ (fs.length : Int) ≤ 65535) then .ok ({ s0 with at' := adv (adv s0.at' 1) 2 }, ()) else .error (20, adv s0.at' 1)) fun y => thenX (headsP 0 fs y.1) fun y => funcsP 0 (headsOfP fs) fs y.1) ?_ ?_
  ·refine (show thenX (askX (leaving 0) 161 2 (fun s => decide (1 ≤ s.count ∧ s.count ≤ 65535)) 20 ({ s0 with at' := adv s0.at' 1 }, ())) (fun y => thenX (headsP 0 fs y.1) fun y => funcsP 0 (headsOfP fs) fs y.1) = _ from ?_)
   refine then_eq ?_ (fun _ => rfl)
   have := L_ask (b := 0) 161 2 (fun s => decide (1 ≤ s.count ∧ s.count ≤ 65535)) 20 { s0 with at' := adv s0.at' 1 } ()
   refine this.trans ?_
   rw [hs0]
   rfl
  ·by_cases hn : 1 ≤ (fs.length : Int) ∧ (fs.length : Int) ≤ 65535
   ·rw [if_pos (by simpa using hn)]
    have r1 : rE1 G fs.length = 0 := by unfold rE1; rw [r0, show (decide ((1 : Int) ≤ fs.length) && decide ((fs.length : Int) ≤ 65535)) = true by simpa using hn, mustE_yes]
    obtain ⟨k1, k2⟩ := heads_agi (G := G) 0 fs { s0 with at' := adv (adv s0.at' 1) 2 } 0 (by rw [hs0]) (by rw [hs0]; rfl) (by omega) (by omega)
    have hlow := Low.heads fs 0 0 (Low.zero 0)
    show AG0 G (rAll G fs) (thenX (headsP 0 fs { s0 with at' := adv (adv s0.at' 1) 2 }) fun y => funcsP 0 (headsOfP fs) fs y.1)
    unfold rAll rHd
    rw [r1]
    generalize headsP 0 fs { s0 with at' := adv (adv s0.at' 1) 2 } = q1 at k1 ⊢
    generalize rHeads fs 0 0 = p at k1 k2 hlow ⊢
    cases q1 with
    | error z =>
      have h : p.2 = z.1 ∧ z.1 ≠ 0 := k1
      rw [rFuncs_ne _ _ _ _ (by rw [h.1]; exact h.2)]
      exact h
    | ok y =>
      have h : p.2 = 0 ∧ y.1.globals = G ∧ y.1.locs = p.1 + 1 := k1
      have hf := k2 h.1
      rw [h.1] at hlow ⊢
      exact funcs_agi 0 fs (fun f hx => ⟨(hf f hx).2.1.1, (hf f hx).2.2.1.1⟩) (by omega) hG.1 hG.2 fs y.1 p.1 hf h.2.1 h.2.2 hlow.1 (hlow.2 rfl)
   ·rw [if_neg (by simpa using hn)]
    have r1 : rE1 G fs.length = 20 := by unfold rE1; rw [r0, show (decide ((1 : Int) ≤ fs.length) && decide ((fs.length : Int) ≤ 65535)) = false by rw [Bool.eq_false_iff]; simpa using hn, mustE_no]
    rw [eA 20 (by decide) r1]
    exact ⟨rfl, show (20 : Int) ≠ 0 by decide⟩
 ·rw [if_neg (by simpa using hG)]
  have r0 : rE0 G = 18 := by unfold rE0; rw [show (decide (0 ≤ G) && decide (G ≤ 16)) = false by rw [Bool.eq_false_iff]; simpa using hG, mustE_no]
  have r1 : rE1 G fs.length = 18 := by unfold rE1; rw [r0, mustE_keep (E := 18) (by decide)]
  rw [eA 18 (by decide) r1]
  exact ⟨rfl, show (18 : Int) ≠ 0 by decide⟩
theorem checkP_eq (G : Int) (fs : List PF) : checkP G fs = (rAll G fs).2 := by
 have h := answer_agi G fs
 unfold checkP
 generalize answerP G fs = r at h ⊢
 cases r with
 | ok y => exact h.1.symm
 | error z => exact h.1.symm
end Go.Proofs.YtdkijecnnmncnaaGreatDoor
namespace Go.Proofs.YtdkijecnnmncnaaGreatDoor
open Go.RowKit (wrap32 wrap64)
set_option linter.unusedVariables false
set_option linter.unusedSimpArgs false
def jmp : PI := ⟨13, 0, 0, 0, 0, [], []⟩
def isH (n : Nat) (c : PI) : Bool := decide (c.op = 11 ∧ 0 ≤ c.n ∧ c.n < n)
def renI (n k : Nat) (c : PI) : PI := if c.op = 11 then (if 0 ≤ c.n ∧ c.n < n then { c with n := (k : Int) } else { c with n := -1 }) else c
def renC (n : Nat) : Nat → List PI → List PI
 | _, [] => []
 | k, c :: r => renI n k c :: renC n (k + (if isH n c then 1 else 0)) r
def hcnt (n : Nat) (l : List PI) : Nat := (l.filter (isH n)).length
def headF (fs : List PF) (c : PI) : PF := { fs.getD c.n.toNat ⟨0, 0, 0, []⟩ with code := [jmp] }
def headsF (fs : List PF) (cs : List PI) : List PF := (cs.filter (isH fs.length)).map (headF fs)
def aloneP (fs : List PF) (f : PF) : List PF := { f with code := renC fs.length 1 f.code } :: headsF fs f.code
theorem renC_len (n : Nat) : ∀ (k : Nat) (cs : List PI), (renC n k cs).length = cs.length
 | _, [] => rfl
 | k, c :: r => by simp [renC, renC_len n _ r]
theorem renC_get (n : Nat) : ∀ (cs : List PI) (k j : Nat) (h : j < cs.length), (renC n k cs)[j]? = some (renI n (k + hcnt n (cs.take j)) cs[j])
 | c :: r, k, 0, _ => by simp [renC, hcnt]
 | c :: r, k, j + 1, h => by
   have := renC_get n r (k + (if isH n c then 1 else 0)) j (by simpa using h)
   simp only [renC, List.getElem?_cons_succ, this, List.getElem_cons_succ, List.take_succ_cons]
   congr 2
   unfold hcnt
   rw [List.filter_cons]
   split <;> simp <;> omega
def midC (n : Nat) (cs : List PI) (ps : List (Value × Value)) (k : Nat) : List CI := List.zip ((renC n 1 cs).take k ++ cs.drop k) ps
theorem midC_len {n : Nat} {cs : List PI} {ps : List (Value × Value)} {k : Nat} (hp : ps.length = cs.length) (hk : k ≤ cs.length) : (midC n cs ps k).length = cs.length := by
 unfold midC
 rw [List.length_zip, List.length_append, List.length_take, List.length_drop, renC_len]
 omega
theorem midC_zero {n : Nat} {cs : List PI} {ps : List (Value × Value)} : midC n cs ps 0 = List.zip cs ps := by unfold midC; simp
theorem midC_end {n : Nat} {cs : List PI} {ps : List (Value × Value)} : midC n cs ps cs.length = List.zip (renC n 1 cs) ps := by
 unfold midC
 rw [List.drop_length, List.append_nil, ← renC_len n 1 cs, List.take_length]
theorem midC_get {n : Nat} {cs : List PI} {ps : List (Value × Value)} {k : Nat} (hp : ps.length = cs.length) (hk : k < cs.length) : (midC n cs ps k)[k]? = some (cs[k], ps[k]'(by omega)) := by
 unfold midC
 rw [List.getElem?_zip_eq_some]
 refine ⟨?_, List.getElem?_eq_getElem _⟩
 rw [List.getElem?_append_right (by rw [List.length_take, renC_len]; omega), List.length_take, renC_len, Nat.min_eq_left (by omega), Nat.sub_self, List.getElem?_drop, Nat.add_zero]
 exact List.getElem?_eq_getElem hk
theorem midC_succ {n : Nat} {cs : List PI} {ps : List (Value × Value)} {k : Nat} (hp : ps.length = cs.length) (hk : k < cs.length) : midC n cs ps (k + 1) = (midC n cs ps k).set k (renI n (1 + hcnt n (cs.take k)) cs[k], ps[k]'(by omega)) := by
 apply List.ext_getElem?
 intro j
 by_cases hj : j < cs.length
 ·have e : ∀ m, m ≤ cs.length → ((renC n 1 cs).take m ++ cs.drop m)[j]? = if j < m then (renC n 1 cs)[j]? else cs[j]? := fun m hm => by
   split
   ·rename_i h
    rw [List.getElem?_append_left (by rw [List.length_take, renC_len]; omega), List.getElem?_take_of_lt h]
   ·rename_i h
    rw [List.getElem?_append_right (by rw [List.length_take, renC_len]; omega), List.length_take, renC_len, Nat.min_eq_left (by omega), List.getElem?_drop, show m + (j - m) = j by omega]
  have hz : ∀ m, m ≤ cs.length → (midC n cs ps m)[j]? = if j < m then some (renI n (1 + hcnt n (cs.take j)) cs[j], ps[j]'(by omega)) else some (cs[j], ps[j]'(by omega)) := fun m hm => by
   unfold midC
   split
   ·rename_i h
    rw [List.getElem?_zip_eq_some]
    refine ⟨?_, List.getElem?_eq_getElem _⟩
    rw [e m hm, if_pos h, renC_get n cs 1 j hj]
   ·rename_i h
    rw [List.getElem?_zip_eq_some]
    refine ⟨?_, List.getElem?_eq_getElem _⟩
    rw [e m hm, if_neg h]
    exact List.getElem?_eq_getElem hj
  rw [hz (k + 1) (by omega), List.getElem?_set]
  by_cases hjk : k = j
  ·subst hjk
   rw [if_pos (by omega), if_pos rfl, if_pos (by rw [midC_len hp (by omega)]; omega)]
  ·rw [if_neg hjk, hz k (by omega)]
   by_cases h1 : j < k
   ·rw [if_pos h1, if_pos (by omega)]
   ·rw [if_neg h1, if_neg (by omega)]
 ·rw [List.getElem?_eq_none (by rw [midC_len hp (by omega)]; omega), List.getElem?_eq_none (by rw [List.length_set, midC_len hp (by omega)]; omega)]
theorem flat_set {α : Type} (row : α → List Value) (sz : Nat) (hr : ∀ x, (row x).length = sz) (o : Nat) (ho : o < sz) (u : Value) : ∀ (L : List α) (i : Nat) (h : i < L.length) (y : α), row y = (row L[i]).set o u → (L.set i y).flatMap row = (L.flatMap row).set (i * sz + o) u
 | x :: L, 0, _, y, e => by
   simp only [List.set_cons_zero, List.flatMap_cons, Nat.zero_mul, Nat.zero_add]
   rw [e, List.set_append_left _ _ (by rw [hr]; exact ho)]
   rfl
 | x :: L, i + 1, h, y, e => by
   simp only [List.set_cons_succ, List.flatMap_cons]
   rw [List.set_append_right _ _ (by rw [hr, Nat.add_mul]; omega), hr, show (i + 1) * sz + o - sz = i * sz + o by rw [Nat.add_mul]; omega]
   rw [flat_set row sz hr o ho u L i (by simpa using h) y e]
end Go.Proofs.YtdkijecnnmncnaaGreatDoor
