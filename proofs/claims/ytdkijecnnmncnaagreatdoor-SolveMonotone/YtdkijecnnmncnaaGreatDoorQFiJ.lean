import Derived.Test.YtdkijecnnmncnaaGreatDoorQMdJ
namespace Go.Proofs.YtdkijecnnmncnaaGreatDoor
open Go.RowKit (wrap32 wrap64)
set_option linter.unusedVariables false
set_option linter.unusedSimpArgs false
theorem mustE_iff {ok : Bool} {e E : Int} (he : e ≠ 0) : mustE ok e E = 0 ↔ ok = true ∧ E = 0 :=
 ⟨mustE_zero he, fun ⟨h1, h2⟩ => by rw [h1, h2]; rfl⟩
def InsOk (G : Int) (fs : List PF) (R V : Int) (fl : Nat) (c : PI) (last : Bool) : Prop :=
 opB c.op = true ∧ plainB c.op c.r c.s c.t c.n c.args.length c.rets.length = true ∧ lastB last c.op = true ∧ ∀ u ∈ (partsN c.op.toNat).toList, letE G fs R V fl c u 0 = 0
theorem fold_iff {G : Int} {fs : List PF} {R V : Int} {fl : Nat} {c : PI} : ∀ (l : List UInt8) (E : Int), l.foldl (fun E u => letE G fs R V fl c u E) E = 0 ↔ E = 0 ∧ ∀ u ∈ l, letE G fs R V fl c u 0 = 0
 | [], E => by simp
 | u :: l, E => by
   rw [List.foldl_cons, fold_iff l]
   constructor
   ·rintro ⟨h1, h2⟩
    have e := letE_zero h1
    subst e
    refine ⟨rfl, fun x hx => ?_⟩
    rcases List.mem_cons.1 hx with rfl | hx
    ·exact h1
    ·exact h2 x hx
   ·rintro ⟨rfl, h⟩
    exact ⟨h u (List.mem_cons_self ..), fun x hx => h x (List.mem_cons_of_mem _ hx)⟩
theorem instrE_iff {G : Int} {fs : List PF} {R V : Int} {fl : Nat} {c : PI} {last : Bool} {L : Int} : instrE G fs R V fl c last L 0 = 0 ↔ InsOk G fs R V fl c last ∧ opL c.op L + 1 ≤ 1048576 := by
 unfold instrE InsOk
 rw [fold_iff]
 unfold opE
 rw [mustE_iff (by decide), mustE_iff (by decide), mustE_iff (by decide), mustE_iff (by decide)]
 simp only [decide_eq_true_eq]
 constructor
 ·rintro ⟨⟨h1, h2, h3, h4, -⟩, h5⟩
  exact ⟨⟨h4, h3, h2, h5⟩, h1⟩
 ·rintro ⟨⟨h4, h3, h2, h5⟩, h1⟩
  exact ⟨⟨h1, h2, h3, h4, trivial⟩, h5⟩
def newsC : List PI → Int
 | [] => 0
 | c :: cs => (if c.op = 6 then 1 else 0) + newsC cs
theorem newsC_ge : ∀ cs, 0 ≤ newsC cs
 | [] => by simp [newsC]
 | c :: cs => by have := newsC_ge cs; unfold newsC; split <;> omega
theorem opL_is (op L : Int) : opL op L = L + (if op = 6 then 1 else 0) := by unfold opL; split <;> omega
theorem rCode_iff {G : Int} {fs : List PF} {R V : Int} {fl : Nat} : ∀ (cs : List PI) (i : Nat) (L : Int), L + 1 ≤ 1048576 →
 ((rCode G fs R V fl i cs L 0).2 = 0 ↔ (∀ j (h : j < cs.length), InsOk G fs R V fl cs[j] (((i + j : Nat) : Int) == (fl : Int) - 1)) ∧ L + newsC cs + 1 ≤ 1048576) ∧ ((rCode G fs R V fl i cs L 0).2 = 0 → (rCode G fs R V fl i cs L 0).1 = L + newsC cs)
 | [], i, L, hL => by simp [rCode, newsC]; exact hL
 | c :: cs, i, L, hL => by
   have hn := newsC_ge cs
   have hx := @instrE_iff G fs R V fl c ((i : Int) == (fl : Int) - 1) L
   have e1 : rCode G fs R V fl i (c :: cs) L 0 = rCode G fs R V fl (i + 1) cs (opL c.op L) (instrE G fs R V fl c ((i : Int) == (fl : Int) - 1) L 0) := by simp [rCode]
   rw [e1]
   have eL := opL_is c.op L
   have eN : newsC (c :: cs) = (if c.op = 6 then 1 else 0) + newsC cs := rfl
   by_cases hz : instrE G fs R V fl c ((i : Int) == (fl : Int) - 1) L 0 = 0
   ·rw [hz]
    obtain ⟨h1, h2⟩ := hx.1 hz
    obtain ⟨ih, ih2⟩ := rCode_iff cs (i + 1) (opL c.op L) h2
    refine ⟨?_, fun h => by rw [ih2 h]; omega⟩
    rw [ih]
    constructor
    ·rintro ⟨k1, k2⟩
     refine ⟨fun j hj => ?_, by omega⟩
     cases j with
     | zero => exact h1
     | succ j =>
       have := k1 j (by simpa using hj)
       rw [show i + (j + 1) = i + 1 + j by omega]
       exact this
    ·rintro ⟨k1, k2⟩
     refine ⟨fun j hj => ?_, by omega⟩
     have := k1 (j + 1) (by simpa using hj)
     rw [show i + (j + 1) = i + 1 + j by omega] at this
     exact this
   ·rw [rCode_ne _ _ _ _ _ _ _ _ hz]
    refine ⟨⟨fun h => absurd h hz, fun ⟨k1, k2⟩ => absurd (hx.2 ⟨k1 0 (by simp), ?_⟩) hz⟩, fun h => absurd h hz⟩
    split at eL <;> omega
def HeadOk (P R V n : Int) : Prop := smallB P R V = true ∧ n ≤ 4096 ∧ 1 ≤ n
theorem HeadOk.V {P R V n : Int} (h : HeadOk P R V n) : 0 ≤ V ∧ V ≤ 255 := by
 have := h.1
 unfold smallB at this
 simp at this
 omega
theorem headE2_iff {P R V n : Int} : headE2 P R V n 0 = 0 ↔ HeadOk P R V n := by
 unfold headE2 HeadOk
 rw [mustE_iff (by decide), mustE_iff (by decide)]
 simp only [decide_eq_true_eq, Bool.and_eq_true]
 constructor
 ·rintro ⟨h1, ⟨h2, h3⟩, -⟩; exact ⟨h2, h3, h1⟩
 ·rintro ⟨h2, h3, h1⟩; exact ⟨h1, ⟨h2, h3⟩, trivial⟩
theorem headE_iff {P R V n L : Int} : headE P R V n L 0 = 0 ↔ HeadOk P R V n ∧ L + V + 1 ≤ 1048576 := by
 unfold headE
 rw [mustE_iff (by decide), headE2_iff]
 simp only [decide_eq_true_eq]
 constructor
 ·rintro ⟨h1, h2⟩
  unfold headL at h1
  rw [if_pos (headE2_iff.2 h2)] at h1
  exact ⟨h2, h1⟩
 ·rintro ⟨h2, h1⟩
  refine ⟨?_, h2⟩
  unfold headL
  rw [if_pos (headE2_iff.2 h2)]
  exact h1
def sumV : List PF → Int
 | [] => 0
 | f :: fs => f.V + sumV fs
theorem rHeads_iff : ∀ (hs : List PF) (L : Int), L + 1 ≤ 1048576 →
 ((rHeads hs L 0).2 = 0 ↔ (∀ h ∈ hs, HeadOk h.P h.R h.V h.code.length) ∧ L + sumV hs + 1 ≤ 1048576) ∧ ((rHeads hs L 0).2 = 0 → (rHeads hs L 0).1 = L + sumV hs)
 | [], L, hL => by simp [rHeads, sumV]; exact hL
 | f :: hs, L, hL => by
   have e1 : rHeads (f :: hs) L 0 = rHeads hs (headL f.P f.R f.V f.code.length L 0) (headE f.P f.R f.V f.code.length L 0) := by simp [rHeads]
   rw [e1]
   have eN : sumV (f :: hs) = f.V + sumV hs := rfl
   by_cases hz : headE f.P f.R f.V f.code.length L 0 = 0
   ·rw [hz]
    obtain ⟨h1, h2⟩ := headE_iff.1 hz
    have eL : headL f.P f.R f.V f.code.length L 0 = L + f.V := by unfold headL; rw [if_pos (headE2_iff.2 h1)]
    rw [eL]
    obtain ⟨ih, ih2⟩ := rHeads_iff hs (L + f.V) h2
    refine ⟨?_, fun h => by rw [ih2 h]; omega⟩
    rw [ih]
    constructor
    ·rintro ⟨k1, k2⟩
     refine ⟨fun h hh => ?_, by omega⟩
     rcases List.mem_cons.1 hh with rfl | hh
     ·exact h1
     ·exact k1 h hh
    ·rintro ⟨k1, k2⟩
     exact ⟨fun h hh => k1 h (List.mem_cons_of_mem _ hh), by omega⟩
   ·rw [rHeads_ne _ _ hz]
    refine ⟨⟨fun h => absurd h hz, fun ⟨k1, k2⟩ => absurd (headE_iff.2 ⟨k1 f (List.mem_cons_self ..), ?_⟩) hz⟩, fun h => absurd h hz⟩
    have : 0 ≤ sumV hs := by
     clear k2 e1 eN
     have : ∀ l : List PF, (∀ h ∈ l, HeadOk h.P h.R h.V h.code.length) → 0 ≤ sumV l := by
      intro l
      induction l with
      | nil => intro _; simp [sumV]
      | cons a l ih =>
        intro h
        have h1 := (h a (List.mem_cons_self ..)).V
        have h2 := ih (fun x hx => h x (List.mem_cons_of_mem _ hx))
        unfold sumV
        omega
     exact this hs (fun h hh => k1 h (List.mem_cons_of_mem _ hh))
    omega
theorem jmp_ok (G : Int) (fs : List PF) (R V : Int) : InsOk G fs R V 1 jmp (((0 + 0 : Nat) : Int) == ((1 : Nat) : Int) - 1) := by
 refine ⟨by decide, by decide, by decide, fun u hu => ?_⟩
 have : u = 74 := by
  have h : (partsN jmp.op.toNat).toList = [74] := by decide
  rw [h] at hu
  simpa using hu
 subst this
 rfl
theorem rFuncs_jmp {G : Int} {Q : List PF} : ∀ (hs : List PF) (L : Int), L + 1 ≤ 1048576 → (∀ h ∈ hs, h.code = [jmp]) → (rFuncs G Q hs L 0).2 = 0
 | [], L, _, _ => rfl
 | f :: hs, L, hL, h => by
   have e1 : rFuncs G Q (f :: hs) L 0 = rFuncs G Q hs (rCode G Q f.R f.V f.code.length 0 f.code L 0).1 (rCode G Q f.R f.V f.code.length 0 f.code L 0).2 := by simp [rFuncs]
   rw [e1, h f (List.mem_cons_self ..)]
   obtain ⟨h1, h2⟩ := @rCode_iff G Q f.R f.V 1 [jmp] 0 L hL
   have hz : (rCode G Q f.R f.V 1 0 [jmp] L 0).2 = 0 := h1.2 ⟨fun j hj => by
    have : j = 0 := by simpa using hj
    subst this
    exact jmp_ok G Q f.R f.V, by
    have : newsC [jmp] = 0 := by decide
    rw [this]; omega⟩
   show (rFuncs G Q hs (rCode G Q f.R f.V 1 0 [jmp] L 0).1 (rCode G Q f.R f.V 1 0 [jmp] L 0).2).2 = 0
   rw [hz, h2 hz]
   have : newsC [jmp] = 0 := by decide
   rw [this]
   exact rFuncs_jmp hs _ (by omega) (fun x hx => h x (List.mem_cons_of_mem _ hx))
end Go.Proofs.YtdkijecnnmncnaaGreatDoor
namespace Go.Proofs.YtdkijecnnmncnaaGreatDoor
open Go.RowKit (wrap32 wrap64)
set_option linter.unusedVariables false
set_option linter.unusedSimpArgs false
theorem lets_call : ∀ k, k < 18 → ∀ u ∈ (partsN k).toList, (u = 65 ∨ u = 66 ∨ u = 70) → k = 11 := by decide
theorem ins_same {G : Int} {fs Q : List PF} {R V : Int} {fl : Nat} {c : PI} {last : Bool} (h : c.op ≠ 11) : InsOk G Q R V fl c last ↔ InsOk G fs R V fl c last := by
 have key : ∀ u ∈ (partsN c.op.toNat).toList, letE G Q R V fl c u 0 = letE G fs R V fl c u 0 := fun u hu => by
  have hk : c.op.toNat < 18 := by
   refine Nat.lt_of_not_le fun h18 => ?_
   rw [partsN_big _ h18] at hu
   simp at hu
  have hne : ¬ (u = 65 ∨ u = 66 ∨ u = 70) := fun hu' => by
   have := lets_call _ hk u hu hu'
   omega
  have h1 : ¬ u = 65 := fun e => hne (Or.inl e)
  have h2 : ¬ u = 66 := fun e => hne (Or.inr (Or.inl e))
  have h3 : ¬ u = 70 := fun e => hne (Or.inr (Or.inr e))
  unfold letE
  simp only [if_neg h1, if_neg h2, if_neg h3]
 unfold InsOk
 constructor
 ·rintro ⟨a, b, d, e⟩
  exact ⟨a, b, d, fun u hu => by rw [← key u hu]; exact e u hu⟩
 ·rintro ⟨a, b, d, e⟩
  exact ⟨a, b, d, fun u hu => by rw [key u hu]; exact e u hu⟩
theorem plain11 (zr zs zt zn zn' : Int) (la lr : Nat) : plainB 11 zr zs zt zn la lr = plainB 11 zr zs zt zn' la lr := by
 have e : tested (namesB 11) = [(43, false), (52, false), (62, false), (72, true), (81, true), (90, true)] := by decide
 unfold plainB
 rw [e]
 simp only [List.all_cons, List.all_nil, Bool.or_true, Bool.or_false]
 rfl
theorem ins_call {G : Int} {fs Q : List PF} {R V : Int} {fl : Nat} {c : PI} {last : Bool} {n : Int} (h : c.op = 11) (hl : numB 0 Q.length n = numB 0 fs.length c.n) (hP : numB 0 fs.length c.n = true → calleeP Q n = calleeP fs c.n) (hR : numB 0 fs.length c.n = true → calleeR Q n = calleeR fs c.n) :
 InsOk G Q R V fl { c with n := n } last ↔ InsOk G fs R V fl c last := by
 have hp : (partsN c.op.toNat).toList = [70, 65, 66] := by rw [h]; decide
 unfold InsOk
 simp only [hp]
 have hpl : plainB c.op c.r c.s c.t n c.args.length c.rets.length = plainB c.op c.r c.s c.t c.n c.args.length c.rets.length := by rw [h]; exact plain11 ..
 rw [hpl]
 have e70 : letE G Q R V fl { c with n := n } 70 0 = letE G fs R V fl c 70 0 := by
  show mustE (numB 0 Q.length n) 14 0 = mustE (numB 0 fs.length c.n) 14 0
  rw [hl]
 have hn : letE G fs R V fl c 70 0 = 0 → numB 0 fs.length c.n = true := fun e => ((mustE_iff (by decide)).1 (show mustE (numB 0 fs.length c.n) 14 0 = 0 from e)).1
 have e65 : numB 0 fs.length c.n = true → letE G Q R V fl { c with n := n } 65 0 = letE G fs R V fl c 65 0 := fun hb => by
  show listE (calleeP Q n) V c.args 0 = listE (calleeP fs c.n) V c.args 0
  rw [hP hb]
 have e66 : numB 0 fs.length c.n = true → letE G Q R V fl { c with n := n } 66 0 = letE G fs R V fl c 66 0 := fun hb => by
  show listE (calleeR Q n) V c.rets 0 = listE (calleeR fs c.n) V c.rets 0
  rw [hR hb]
 constructor
 ·rintro ⟨a, b, d, e⟩
  have h70 : letE G fs R V fl c 70 0 = 0 := by rw [← e70]; exact e 70 (by simp)
  have hb := hn h70
  refine ⟨a, b, d, fun u hu => ?_⟩
  simp only [List.mem_cons, List.not_mem_nil, or_false] at hu
  rcases hu with rfl | rfl | rfl
  ·exact h70
  ·rw [← e65 hb]; exact e 65 (by simp)
  ·rw [← e66 hb]; exact e 66 (by simp)
 ·rintro ⟨a, b, d, e⟩
  have h70 := e 70 (by simp)
  have hb := hn h70
  refine ⟨a, b, d, fun u hu => ?_⟩
  simp only [List.mem_cons, List.not_mem_nil, or_false] at hu
  rcases hu with rfl | rfl | rfl
  ·rw [e70]; exact h70
  ·rw [e65 hb]; exact e 65 (by simp)
  ·rw [e66 hb]; exact e 66 (by simp)
theorem ins_numB {G : Int} {fs : List PF} {R V : Int} {fl : Nat} {c : PI} {last : Bool} (h : c.op = 11) (hi : InsOk G fs R V fl c last) : 0 ≤ c.n ∧ c.n < fs.length := by
 have hp : (partsN c.op.toNat).toList = [70, 65, 66] := by rw [h]; decide
 have e := hi.2.2.2 70 (by rw [hp]; simp)
 have := ((mustE_iff (by decide)).1 (show mustE (numB 0 fs.length c.n) 14 0 = 0 from e)).1
 unfold numB at this
 simpa using this
theorem alone_get {fs : List PF} {f : PF} {j : Nat} (hj : j < f.code.length) (hH : isH fs.length f.code[j] = true) : (aloneP fs f)[1 + hcnt fs.length (f.code.take j)]? = some (headF fs f.code[j]) := by
 unfold aloneP headsF
 rw [show 1 + hcnt fs.length (f.code.take j) = hcnt fs.length (f.code.take j) + 1 by omega, List.getElem?_cons_succ, List.getElem?_map]
 have e : f.code = f.code.take j ++ f.code[j] :: f.code.drop (j + 1) := by
  rw [← List.drop_eq_getElem_cons hj, List.take_append_drop]
 have e2 : (f.code.filter (isH fs.length))[hcnt fs.length (f.code.take j)]? = some f.code[j] := by
  have e3 : f.code.filter (isH fs.length) = (f.code.take j).filter (isH fs.length) ++ f.code[j] :: (f.code.drop (j + 1)).filter (isH fs.length) := by
   conv => lhs; rw [e]
   rw [List.filter_append, List.filter_cons, if_pos hH]
  rw [e3]
  unfold hcnt
  rw [List.getElem?_append_right (Nat.le_refl _), Nat.sub_self]
  rfl
 rw [e2]
 rfl
theorem ren_iff {G : Int} {fs : List PF} {f : PF} {R V : Int} {fl j : Nat} {last : Bool} (hj : j < f.code.length) : InsOk G (aloneP fs f) R V fl (renI fs.length (1 + hcnt fs.length (f.code.take j)) f.code[j]) last ↔ InsOk G fs R V fl f.code[j] last := by
 unfold renI
 by_cases h11 : f.code[j].op = 11
 ·rw [if_pos h11]
  by_cases hr : 0 ≤ f.code[j].n ∧ f.code[j].n < fs.length
  ·rw [if_pos hr]
   have hH : isH fs.length f.code[j] = true := by unfold isH; simp; exact ⟨h11, hr⟩
   have hg := alone_get hj hH
   have hlt : 1 + hcnt fs.length (f.code.take j) < (aloneP fs f).length := by
    rcases Nat.lt_or_ge (1 + hcnt fs.length (f.code.take j)) (aloneP fs f).length with h | h
    ·exact h
    ·rw [List.getElem?_eq_none h] at hg; cases hg
   have hq : f.code[j].n.toNat < fs.length := by omega
   refine ins_call h11 ?_ (fun _ => ?_) (fun _ => ?_)
   ·unfold numB
    rw [decide_eq_true (by omega), decide_eq_true (by omega), decide_eq_true hr.1, decide_eq_true hr.2]
   ·unfold calleeP
    rw [Int.toNat_natCast, hg]
    unfold headF
    simp [hq]
   ·unfold calleeR
    rw [Int.toNat_natCast, hg]
    unfold headF
    simp [hq]
  ·rw [if_neg hr]
   have hf : numB 0 fs.length f.code[j].n = false := by
    unfold numB
    rw [Bool.and_eq_false_iff]
    simp only [decide_eq_false_iff_not]
    omega
   refine ins_call h11 ?_ (fun h => by rw [hf] at h; cases h) (fun h => by rw [hf] at h; cases h)
   rw [hf]
   rfl
 ·rw [if_neg h11]
  exact ins_same h11
theorem sumV_le : ∀ l : List PF, (∀ h ∈ l, HeadOk h.P h.R h.V h.code.length) → 0 ≤ sumV l ∧ sumV l ≤ 255 * l.length
 | [], _ => by simp [sumV]
 | a :: l, h => by
   have h1 := (h a (List.mem_cons_self ..)).V
   have h2 := sumV_le l (fun x hx => h x (List.mem_cons_of_mem _ hx))
   simp only [sumV, List.length_cons]
   omega
theorem news_hcnt (n : Nat) : ∀ cs : List PI, newsC cs + hcnt n cs ≤ cs.length
 | [] => by simp [newsC, hcnt]
 | c :: cs => by
   have ih := news_hcnt n cs
   unfold hcnt at ih ⊢
   unfold newsC
   rw [List.filter_cons]
   by_cases h6 : c.op = 6
   ·have : isH n c = false := by unfold isH; simp; omega
    rw [if_pos h6, this]
    simp
    omega
   ·rw [if_neg h6]
    split <;> simp <;> omega
theorem news_ren (n : Nat) : ∀ (cs : List PI) (k : Nat), newsC (renC n k cs) = newsC cs
 | [], _ => rfl
 | c :: cs, k => by
   have e : (renI n k c).op = c.op := by
    unfold renI
    split
    ·split <;> rfl
    ·rfl
   simp only [renC, newsC, e, news_ren n cs]
def AloneOk (G : Int) (fs : List PF) (f : PF) : Prop := (0 ≤ G ∧ G ≤ 16) ∧ HeadOk f.P f.R f.V f.code.length ∧ ∀ j (h : j < f.code.length), InsOk G fs f.R f.V f.code.length f.code[j] ((j : Int) == (f.code.length : Int) - 1) ∧ (f.code[j].op = 11 → ∀ g, fs[f.code[j].n.toNat]? = some g → HeadOk g.P g.R g.V 1)
theorem alone_iff (G : Int) (fs : List PF) (f : PF) : checkP G (aloneP fs f) = 0 ↔ AloneOk G fs f := by
 rw [checkP_eq]
 have hlen : (aloneP fs f).length = 1 + hcnt fs.length f.code := by unfold aloneP headsF hcnt; simp; omega
 have hnh := news_hcnt fs.length f.code
 have hng := newsC_ge f.code
 have eF : ∀ L, rFuncs G (aloneP fs f) (aloneP fs f) L 0 = rFuncs G (aloneP fs f) (headsF fs f.code) (rCode G (aloneP fs f) f.R f.V f.code.length 0 (renC fs.length 1 f.code) L 0).1 (rCode G (aloneP fs f) f.R f.V f.code.length 0 (renC fs.length 1 f.code) L 0).2 := fun L => by
  conv => lhs; unfold aloneP
  simp only [rFuncs, if_pos, renC_len]
  rfl
 have hjm : ∀ h ∈ headsF fs f.code, h.code = [jmp] := fun h hh => by
  unfold headsF at hh
  obtain ⟨c, -, rfl⟩ := List.mem_map.1 hh
  rfl
 have eHd : ∀ {h}, h ∈ aloneP fs f ↔ h = { f with code := renC fs.length 1 f.code } ∨ h ∈ headsF fs f.code := fun {h} => List.mem_cons
 have hIns : (∀ j (h : j < (renC fs.length 1 f.code).length), InsOk G (aloneP fs f) f.R f.V f.code.length (renC fs.length 1 f.code)[j] (((0 + j : Nat) : Int) == (f.code.length : Int) - 1)) ↔ ∀ j (h : j < f.code.length), InsOk G fs f.R f.V f.code.length f.code[j] ((j : Int) == (f.code.length : Int) - 1) := by
  have e : ∀ j (h : j < f.code.length) (h' : j < (renC fs.length 1 f.code).length), (renC fs.length 1 f.code)[j] = renI fs.length (1 + hcnt fs.length (f.code.take j)) f.code[j] := fun j h h' => by
   have := renC_get fs.length f.code 1 j h
   rw [List.getElem?_eq_getElem h'] at this
   exact Option.some.inj this
  constructor
  ·intro h j hj
   have hj' : j < (renC fs.length 1 f.code).length := by rw [renC_len]; exact hj
   have := h j hj'
   rw [e j hj hj', ren_iff hj, Nat.zero_add] at this
   exact this
  ·intro h j hj'
   have hj : j < f.code.length := by rw [renC_len] at hj'; exact hj'
   rw [e j hj hj', ren_iff hj, Nat.zero_add]
   exact h j hj
 have hHs : (∀ h ∈ aloneP fs f, HeadOk h.P h.R h.V h.code.length) ↔ HeadOk f.P f.R f.V f.code.length ∧ ∀ h ∈ headsF fs f.code, HeadOk h.P h.R h.V 1 := by
  constructor
  ·intro h
   refine ⟨?_, fun x hx => ?_⟩
   ·have := h { f with code := renC fs.length 1 f.code } (eHd.2 (Or.inl rfl))
    have e : ((renC fs.length 1 f.code).length : Int) = f.code.length := by rw [renC_len]
    rw [e] at this
    exact this
   ·have := h x (eHd.2 (Or.inr hx))
    rw [hjm x hx] at this
    exact this
  ·rintro ⟨h1, h2⟩ x hx
   rcases eHd.1 hx with rfl | hx
   ·show HeadOk f.P f.R f.V ((renC fs.length 1 f.code).length : Nat)
    rw [renC_len]
    exact h1
   ·rw [hjm x hx]
    exact h2 x hx
 have hE1 : rE1 G (aloneP fs f).length = 0 ↔ (0 ≤ G ∧ G ≤ 16) ∧ (aloneP fs f).length ≤ 65535 := by
  unfold rE1 rE0
  rw [mustE_iff (by decide), mustE_iff (by decide)]
  simp only [Bool.and_eq_true, decide_eq_true_eq, and_true]
  rw [hlen]
  constructor
  ·rintro ⟨⟨-, h2⟩, h3⟩; exact ⟨h3, by omega⟩
  ·rintro ⟨h3, h2⟩; exact ⟨⟨by omega, by omega⟩, h3⟩
 unfold rAll rHd
 by_cases he : rE1 G (aloneP fs f).length = 0
 ·obtain ⟨hG, hn⟩ := hE1.1 he
  rw [he]
  obtain ⟨r1, r2⟩ := rHeads_iff (aloneP fs f) 0 (by omega)
  by_cases hz : (rHeads (aloneP fs f) 0 0).2 = 0
  ·obtain ⟨q1, q2⟩ := r1.1 hz
   rw [hz, r2 hz, eF]
   obtain ⟨c1, c2⟩ := @rCode_iff G (aloneP fs f) f.R f.V f.code.length (renC fs.length 1 f.code) 0 (0 + sumV (aloneP fs f)) q2
   obtain ⟨p1, p2⟩ := hHs.1 q1
   have hc4 := p1.2.1
   have hsv := (sumV_le _ q1).2
   rw [hlen] at hsv
   rw [news_ren] at c1 c2
   have hb : 0 + sumV (aloneP fs f) + newsC f.code + 1 ≤ 1048576 := by omega
   constructor
   ·intro h
    have hcz : (rCode G (aloneP fs f) f.R f.V f.code.length 0 (renC fs.length 1 f.code) (0 + sumV (aloneP fs f)) 0).2 = 0 := by
     refine Classical.byContradiction fun hne => ?_
     rw [rFuncs_ne _ _ _ _ hne] at h
     exact hne h
    have hi := hIns.1 (c1.1 hcz).1
    refine ⟨hG, p1, fun j hj => ⟨hi j hj, fun h11 g hg => ?_⟩⟩
    obtain ⟨n1, n2⟩ := ins_numB h11 (hi j hj)
    have hq : f.code[j].n.toNat < fs.length := by omega
    have := p2 (headF fs f.code[j]) (List.mem_map.2 ⟨f.code[j], List.mem_filter.2 ⟨List.getElem_mem hj, by unfold isH; simp; exact ⟨h11, n1, n2⟩⟩, rfl⟩)
    rw [List.getElem?_eq_getElem hq] at hg
    have hg := Option.some.inj hg
    unfold headF at this
    simp [hq, hg] at this
    exact this
   ·rintro ⟨-, -, h⟩
    have hcz := c1.2 ⟨hIns.2 (fun j hj => (h j hj).1), hb⟩
    rw [hcz, c2 hcz]
    exact rFuncs_jmp _ _ hb hjm
  ·rw [rFuncs_ne _ _ _ _ hz]
   refine ⟨fun h => absurd h hz, fun ⟨_, p1, h⟩ => absurd (r1.2 ?_) hz⟩
   have hq : ∀ h ∈ aloneP fs f, HeadOk h.P h.R h.V h.code.length := hHs.2 ⟨p1, fun x hx => by
    unfold headsF at hx
    obtain ⟨c, hc, rfl⟩ := List.mem_map.1 hx
    obtain ⟨hc1, hc2⟩ := List.mem_filter.1 hc
    unfold isH at hc2
    simp at hc2
    obtain ⟨j, hj, rfl⟩ := List.mem_iff_getElem.1 hc1
    have hqn : f.code[j].n.toNat < fs.length := by omega
    have := (h j hj).2 hc2.1 fs[f.code[j].n.toNat] (List.getElem?_eq_getElem hqn)
    unfold headF
    simp [hqn]
    exact this⟩
   have hsv := (sumV_le _ hq).2
   rw [hlen] at hsv
   have hc4 := p1.2.1
   exact ⟨hq, by omega⟩
 ·rw [rHeads_ne _ _ he, rFuncs_ne _ _ _ _ he]
  refine ⟨fun h => absurd h he, fun ⟨hG, p1, h⟩ => absurd (hE1.2 ⟨hG, ?_⟩) he⟩
  have hc4 := p1.2.1
  rw [hlen]
  omega
end Go.Proofs.YtdkijecnnmncnaaGreatDoor
