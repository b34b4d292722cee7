import Derived.Test.YtjmbfjaahadbhaaDoorQMeJ
import Derived.Test.YtjmbfjaahadbhaaDoorQN4J
import Derived.Test.YtjmbfjaahadbhaaDoorQGeJ
set_option linter.unusedVariables false
set_option linter.unusedSimpArgs false
namespace Go.Proofs.YtjmbfjaahadbhaaDoor
open Go.RowKit (wrap32 wrap64)

/-! ### what is known of a program that Check lets by -/
theorem mustE_iff {ok : Bool} {e E : Int} (he : e ≠ 0) : mustE ok e E = 0 ↔ ok = true ∧ E = 0 :=
  ⟨mustE_zero he, fun ⟨h1, h2⟩ => by rw [h1, h2]; rfl⟩
def InsOk (G : Int) (fs : List PF) (R V : Int) (fl : Nat) (c : PI) (last : Bool) : Prop :=
  opB c.op = true ∧ plainB c.op c.r c.s c.t c.n c.args.length c.rets.length = true ∧ lastB last c.op = true ∧ ∀ u ∈ (partsN c.op.toNat).toList, letE G fs R V fl c u 0 = 0
theorem fold_iff {G : Int} {fs : List PF} {R V : Int} {fl : Nat} {c : PI} : ∀ (l : List UInt8) (E : Int), l.foldl (fun E u => letE G fs R V fl c u E) E = 0 ↔ E = 0 ∧ ∀ u ∈ l, letE G fs R V fl c u 0 = 0
  | [], E => by simp
  | u :: l, E => by
    rw [List.foldl_cons, fold_iff l]
    constructor
    · rintro ⟨h1, h2⟩
      have e := letE_zero h1
      subst e
      refine ⟨rfl, fun x hx => ?_⟩
      rcases List.mem_cons.1 hx with rfl | hx
      · exact h1
      · exact h2 x hx
    · rintro ⟨rfl, h⟩
      exact ⟨h u (List.mem_cons_self ..), fun x hx => h x (List.mem_cons_of_mem _ hx)⟩
theorem instrE_iff {G : Int} {fs : List PF} {R V : Int} {fl : Nat} {c : PI} {last : Bool} {L : Int} : instrE G fs R V fl c last L 0 = 0 ↔ InsOk G fs R V fl c last ∧ opL c.op L + 1 ≤ 1048576 := by
  unfold instrE InsOk
  rw [fold_iff]
  unfold opE
  rw [mustE_iff (by decide), mustE_iff (by decide), mustE_iff (by decide), mustE_iff (by decide)]
  simp only [decide_eq_true_eq]
  constructor
  · rintro ⟨⟨h1, h2, h3, h4, -⟩, h5⟩
    exact ⟨⟨h4, h3, h2, h5⟩, h1⟩
  · rintro ⟨⟨h4, h3, h2, h5⟩, h1⟩
    exact ⟨⟨h1, h2, h3, h4, trivial⟩, h5⟩
def newsC : List PI → Int
  | [] => 0
  | c :: cs => (if c.op = 6 then 1 else 0) + newsC cs
theorem newsC_ge : ∀ cs, 0 ≤ newsC cs
  | [] => by simp [newsC]
  | c :: cs => by have := newsC_ge cs; unfold newsC; split <;> omega
theorem opL_is (op L : Int) : opL op L = L + (if op = 6 then 1 else 0) := by unfold opL; split <;> omega
theorem rCode_iff {G : Int} {fs : List PF} {R V : Int} {fl : Nat} : ∀ (cs : List PI) (i : Nat) (L : Int), L + 1 ≤ 1048576 →
    ((rCode G fs R V fl i cs L 0).2 = 0 ↔ (∀ j (h : j < cs.length), InsOk G fs R V fl cs[j] (((i + j : Nat) : Int) == (fl : Int) - 1)) ∧ L + newsC cs + 1 ≤ 1048576) ∧ ((rCode G fs R V fl i cs L 0).2 = 0 → (rCode G fs R V fl i cs L 0).1 = L + newsC cs)
  | [], i, L, hL => by simp [rCode, newsC]; exact hL
  | c :: cs, i, L, hL => by
    have hn := newsC_ge cs
    have hx := @instrE_iff G fs R V fl c ((i : Int) == (fl : Int) - 1) L
    have e1 : rCode G fs R V fl i (c :: cs) L 0 = rCode G fs R V fl (i + 1) cs (opL c.op L) (instrE G fs R V fl c ((i : Int) == (fl : Int) - 1) L 0) := by simp [rCode]
    rw [e1]
    have eL := opL_is c.op L
    have eN : newsC (c :: cs) = (if c.op = 6 then 1 else 0) + newsC cs := rfl
    by_cases hz : instrE G fs R V fl c ((i : Int) == (fl : Int) - 1) L 0 = 0
    · rw [hz]
      obtain ⟨h1, h2⟩ := hx.1 hz
      obtain ⟨ih, ih2⟩ := rCode_iff cs (i + 1) (opL c.op L) h2
      refine ⟨?_, fun h => by rw [ih2 h]; omega⟩
      rw [ih]
      constructor
      · rintro ⟨k1, k2⟩
        refine ⟨fun j hj => ?_, by omega⟩
        cases j with
        | zero => exact h1
        | succ j =>
          have := k1 j (by simpa using hj)
          rw [show i + (j + 1) = i + 1 + j by omega]
          exact this
      · rintro ⟨k1, k2⟩
        refine ⟨fun j hj => ?_, by omega⟩
        have := k1 (j + 1) (by simpa using hj)
        rw [show i + (j + 1) = i + 1 + j by omega] at this
        exact this
    · rw [rCode_ne _ _ _ _ _ _ _ _ hz]
      refine ⟨⟨fun h => absurd h hz, fun ⟨k1, k2⟩ => absurd (hx.2 ⟨k1 0 (by simp), ?_⟩) hz⟩, fun h => absurd h hz⟩
      split at eL <;> omega
def HeadOk (P R V n : Int) : Prop := smallB P R V = true ∧ n ≤ 4096 ∧ 1 ≤ n
theorem HeadOk.V {P R V n : Int} (h : HeadOk P R V n) : 0 ≤ V ∧ V ≤ 255 := by
  have := h.1
  unfold smallB at this
  simp at this
  omega
theorem headE2_iff {P R V n : Int} : headE2 P R V n 0 = 0 ↔ HeadOk P R V n := by
  unfold headE2 HeadOk
  rw [mustE_iff (by decide), mustE_iff (by decide)]
  simp only [decide_eq_true_eq, Bool.and_eq_true]
  constructor
  · rintro ⟨h1, ⟨h2, h3⟩, -⟩; exact ⟨h2, h3, h1⟩
  · rintro ⟨h2, h3, h1⟩; exact ⟨h1, ⟨h2, h3⟩, trivial⟩
theorem headE_iff {P R V n L : Int} : headE P R V n L 0 = 0 ↔ HeadOk P R V n ∧ L + V + 1 ≤ 1048576 := by
  unfold headE
  rw [mustE_iff (by decide), headE2_iff]
  simp only [decide_eq_true_eq]
  constructor
  · rintro ⟨h1, h2⟩
    unfold headL at h1
    rw [if_pos (headE2_iff.2 h2)] at h1
    exact ⟨h2, h1⟩
  · rintro ⟨h2, h1⟩
    refine ⟨?_, h2⟩
    unfold headL
    rw [if_pos (headE2_iff.2 h2)]
    exact h1
def sumV : List PF → Int
  | [] => 0
  | f :: fs => f.V + sumV fs
theorem rHeads_iff : ∀ (hs : List PF) (L : Int), L + 1 ≤ 1048576 →
    ((rHeads hs L 0).2 = 0 ↔ (∀ h ∈ hs, HeadOk h.P h.R h.V h.code.length) ∧ L + sumV hs + 1 ≤ 1048576) ∧ ((rHeads hs L 0).2 = 0 → (rHeads hs L 0).1 = L + sumV hs)
  | [], L, hL => by simp [rHeads, sumV]; exact hL
  | f :: hs, L, hL => by
    have e1 : rHeads (f :: hs) L 0 = rHeads hs (headL f.P f.R f.V f.code.length L 0) (headE f.P f.R f.V f.code.length L 0) := by simp [rHeads]
    rw [e1]
    have eN : sumV (f :: hs) = f.V + sumV hs := rfl
    by_cases hz : headE f.P f.R f.V f.code.length L 0 = 0
    · rw [hz]
      obtain ⟨h1, h2⟩ := headE_iff.1 hz
      have eL : headL f.P f.R f.V f.code.length L 0 = L + f.V := by unfold headL; rw [if_pos (headE2_iff.2 h1)]
      rw [eL]
      obtain ⟨ih, ih2⟩ := rHeads_iff hs (L + f.V) h2
      refine ⟨?_, fun h => by rw [ih2 h]; omega⟩
      rw [ih]
      constructor
      · rintro ⟨k1, k2⟩
        refine ⟨fun h hh => ?_, by omega⟩
        rcases List.mem_cons.1 hh with rfl | hh
        · exact h1
        · exact k1 h hh
      · rintro ⟨k1, k2⟩
        exact ⟨fun h hh => k1 h (List.mem_cons_of_mem _ hh), by omega⟩
    · rw [rHeads_ne _ _ hz]
      refine ⟨⟨fun h => absurd h hz, fun ⟨k1, k2⟩ => absurd (headE_iff.2 ⟨k1 f (List.mem_cons_self ..), ?_⟩) hz⟩, fun h => absurd h hz⟩
      have : 0 ≤ sumV hs := by
        clear k2 e1 eN
        have : ∀ l : List PF, (∀ h ∈ l, HeadOk h.P h.R h.V h.code.length) → 0 ≤ sumV l := by
          intro l
          induction l with
          | nil => intro _; simp [sumV]
          | cons a l ih =>
            intro h
            have h1 := (h a (List.mem_cons_self ..)).V
            have h2 := ih (fun x hx => h x (List.mem_cons_of_mem _ hx))
            unfold sumV
            omega
        exact this hs (fun h hh => k1 h (List.mem_cons_of_mem _ hh))
      omega
theorem rFuncs_ok {G : Int} {FS : List PF} : ∀ (hs : List PF) (L : Int), L + 1 ≤ 1048576 → (rFuncs G FS hs L 0).2 = 0 → ∀ f ∈ hs, ∀ j (h : j < f.code.length), InsOk G FS f.R f.V f.code.length f.code[j] ((j : Int) == (f.code.length : Int) - 1)
  | [], _, _, _, f, hf => by cases hf
  | g :: hs, L, hL, h, f, hf => by
    have e1 : rFuncs G FS (g :: hs) L 0 = rFuncs G FS hs (rCode G FS g.R g.V g.code.length 0 g.code L 0).1 (rCode G FS g.R g.V g.code.length 0 g.code L 0).2 := by simp [rFuncs]
    rw [e1] at h
    obtain ⟨c1, c2⟩ := @rCode_iff G FS g.R g.V g.code.length g.code 0 L hL
    by_cases hz : (rCode G FS g.R g.V g.code.length 0 g.code L 0).2 = 0
    · obtain ⟨k1, k2⟩ := c1.1 hz
      rw [hz, c2 hz] at h
      rcases List.mem_cons.1 hf with rfl | hf
      · intro j hj
        have := k1 j hj
        rw [Nat.zero_add] at this
        exact this
      · exact rFuncs_ok hs _ k2 h f hf
    · rw [rFuncs_ne _ _ _ _ hz] at h
      exact absurd h hz
theorem check_len {G : Int} {fs : List PF} (h : checkP G fs = 0) : 1 ≤ fs.length ∧ fs.length ≤ 65535 := by
  rw [checkP_eq] at h
  unfold rAll rHd at h
  by_cases he : rE1 G fs.length = 0
  · unfold rE1 rE0 at he
    rw [mustE_iff (by decide), mustE_iff (by decide)] at he
    simp only [Bool.and_eq_true, decide_eq_true_eq, and_true] at he
    omega
  · rw [rHeads_ne _ _ he] at h
    rw [rFuncs_ne _ _ _ _ he] at h
    exact absurd h he
theorem IA.il {w : World} {v : Value} {l : List Int} (h : IA w v l) {b : Nat} (hb : w.heap.size ≤ b) : IL b w v l := by
  obtain ⟨a, c, e, h⟩ := h
  refine ⟨a, c, e, fun hne => ?_⟩
  obtain ⟨k, o, e, hk, hc⟩ := h hne
  exact ⟨k, o, e, hk, by omega, hc⟩
theorem CA.cl {w : World} {v : Value} {cs : List PI} (h : CA w v cs) (hn : FineC cs) {b : Nat} (hb : w.heap.size ≤ b) : CL b w v cs := by
  obtain ⟨a, c, e, h⟩ := h
  refine ⟨by have := hn.1; omega, a, c, e, fun hne => ?_⟩
  obtain ⟨k, o, e, hk, hc⟩ := h hne
  refine ⟨k, o, e, hk, by omega, fun j hj => ?_⟩
  obtain ⟨av, rv, h1, h2, h3, h4, h5, h6, h7, h8, h9⟩ := hc j hj
  have hf := hn.2 _ (List.getElem_mem hj)
  exact ⟨av, rv, h1, h2, h3, h4, h5, h6, h7, h8.il hb, h9.il hb, by omega, by omega⟩
theorem FA.fl {w : World} {v : Value} {fs : List PF} (h : FA w v fs) (hn : FineP fs) {b : Nat} (hb : w.heap.size ≤ b) : FL b w v fs := by
  obtain ⟨a, c, e, h⟩ := h
  refine ⟨by have := hn.1; omega, a, c, e, fun hne => ?_⟩
  obtain ⟨k, o, e, hk, hc⟩ := h hne
  refine ⟨k, o, e, hk, by omega, fun j hj => ?_⟩
  obtain ⟨cv, h1, h2, h3, h4, h5⟩ := hc j hj
  exact ⟨cv, h1, h2, h3, h4, h5.cl (hn.2 _ (List.getElem_mem hj)) hb⟩
theorem rcheck_fa (w : World) (G : Int) (fs : List PF) (fv : Value) (h : FA w fv fs) (hn : FineP fs) :
    Calls Tryd.prog 37 #[.agg #[vI G, fv]] w fun e w' => e = .returned (vI (checkP G fs)) ∧ Fr (fun _ => False) w w' := by
  have := rcheck_any w G fs fv (h.fl hn (by omega))
  rw [← checkP_eq] at this
  exact this
theorem check_fa (w : World) (G : Int) (fs : List PF) (fv : Value) (h : FA w fv fs) (hn : FineP fs) (hT : Tab w) (h0 : 0 < w.heap.size) :
    Calls Tryd.prog 30 #[.agg #[vI G, fv]] w fun e w' => e = .returned (vI (checkP G fs)) ∧ Fr (fun _ => False) w w' := check_prog w G fs fv (h.fl hn (by omega)) hT h0
theorem check_calls {G : Int} {fs : List PF} (h : checkP G fs = 0) : CallOk fs ∧ ∀ f ∈ fs, f.code.length ≤ 4096 := by
  rw [checkP_eq] at h
  unfold rAll rHd at h
  by_cases he : rE1 G fs.length = 0
  · rw [he] at h
    obtain ⟨r1, r2⟩ := rHeads_iff fs 0 (by omega)
    by_cases hz : (rHeads fs 0 0).2 = 0
    · obtain ⟨q1, q2⟩ := r1.1 hz
      rw [hz, r2 hz] at h
      refine ⟨fun f hf c hc hop => ?_, fun f hf => ?_⟩
      · obtain ⟨j, hj, rfl⟩ := List.getElem_of_mem hc
        obtain ⟨-, -, -, k4⟩ := rFuncs_ok fs _ q2 h f hf j hj
        rw [hop] at k4
        have := k4 70 (by decide)
        unfold letE at this
        rw [if_neg (by decide), if_neg (by decide), if_neg (by decide), if_neg (by decide), if_neg (by decide), if_neg (by decide), if_neg (by decide), if_neg (by decide), if_neg (by decide), if_pos rfl] at this
        rw [mustE_iff (by decide)] at this
        have k := this.1
        unfold numB at k
        simp only [Bool.and_eq_true, decide_eq_true_eq] at k
        exact k
      · have := (q1 f hf).2.1
        omega
    · rw [rFuncs_ne _ _ _ _ hz] at h
      exact absurd h hz
  · rw [rHeads_ne _ _ he] at h
    rw [rFuncs_ne _ _ _ _ he] at h
    exact absurd h he
end Go.Proofs.YtjmbfjaahadbhaaDoor
