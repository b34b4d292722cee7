import Derived.Test.YtingenonbkencaaDoorQKd
import Derived.Test.YtingenonbkencaaDoorQN4J
import Derived.Test.YtingenonbkencaaDoorQN8
import Derived.Deep.CutBlock
namespace Go.Proofs.YtingenonbkencaaDoor
open Go.RowKit (wrap32 wrap64)
set_option linter.unusedVariables false
set_option linter.unusedSimpArgs false

def calleeP (fs : List PF) (n : Int) : Int := (fs[n.toNat]?.map (·.P)).getD 0
def calleeR (fs : List PF) (n : Int) : Int := (fs[n.toNat]?.map (·.R)).getD 0

/-- What a letter of an operation asks. -/
def letE (G : Int) (fs : List PF) (R V : Int) (fl : Nat) (c : PI) (u : UInt8) (E : Int) : Int :=
  if u = 82 then mustE (varB V c.r) 13 E else if u = 83 then mustE (varB V c.s) 13 E else if u = 84 then mustE (varB V c.t) 13 E
  else if u = 65 then listE (calleeP fs c.n) V c.args E else if u = 66 then listE (calleeR fs c.n) V c.rets E else if u = 86 then listE R V c.args E
  else if u = 99 then mustE (numB 1 9 c.n) 17 E else if u = 102 then mustE (numB 0 8 c.n) 17 E else if u = 103 then mustE (numB 0 G c.n) 18 E
  else if u = 70 then mustE (numB 0 fs.length c.n) 14 E else if u = 74 then mustE (numB 0 fl c.n) 16 E else E

def letters : List UInt8 := [82, 83, 84, 65, 66, 86, 99, 102, 103, 70, 74, 105]

/-- What an instruction comes to. -/
def instrE (G : Int) (fs : List PF) (R V : Int) (fl : Nat) (c : PI) (last : Bool) (L E : Int) : Int :=
  (partsN c.op.toNat).toList.foldl (fun E u => letE G fs R V fl c u E) (opE c.op (plainB c.op c.r c.s c.t c.n c.args.length c.rets.length) last L E)

theorem parts_letters : ∀ k, k < 18 → ∀ u ∈ (partsN k).toList, u ∈ letters ∧ ((u = 65 ∨ u = 66) → k = 11) := by decide
theorem partsN_big (k : Nat) (h : 18 ≤ k) : (partsN k).toList = [] := by
  unfold partsN
  split <;> first | omega | rfl

theorem mustE_zero {ok : Bool} {e E : Int} (he : e ≠ 0) (h : mustE ok e E = 0) : ok = true ∧ E = 0 := by
  unfold mustE at h
  cases ok with
  | true => simp at h; exact ⟨rfl, h⟩
  | false =>
    by_cases hE : E = 0
    · simp [hE] at h; omega
    · simp [hE] at h
theorem listE_zero {m V : Int} {l : List Int} {E : Int} (h : listE m V l E = 0) : E = 0 := by
  unfold listE at h
  by_cases hE : E = 0
  · exact hE
  · rw [if_neg hE] at h; exact h

theorem letter_call (rb : Nat) (G : Int) (fv : Value) (w : World) (L E : Int) (h : RW rb G fv w L E) (fs : List PF) (hFL : FL rb w fv fs) (P R V : Int) (a : Option Addr) (fl cc : Nat) (c : PI) (aa ra : Option Addr) (ca cr : Nat)
    (hA : IL rb w (.slice aa c.args.length ca) c.args) (hB : IL rb w (.slice ra c.rets.length cr) c.rets) (hla : c.args.length ≤ 1000000000000000) (hlr : c.rets.length ≤ 1000000000000000) (u : UInt8) (hu : u ∈ letters) (hc : (u = 65 ∨ u = 66) → E = 0 → 0 ≤ c.n ∧ c.n < fs.length) :
    Calls Tryd.prog (partCall rb (.agg #[vI P, vI R, vI V, .slice a fl cc]) (.agg #[vI c.op, vI c.r, vI c.s, vI c.t, vI c.n, .slice aa c.args.length ca, .slice ra c.rets.length cr]) c.r c.s c.t c.n fl u).1 (partCall rb (.agg #[vI P, vI R, vI V, .slice a fl cc]) (.agg #[vI c.op, vI c.r, vI c.s, vI c.t, vI c.n, .slice aa c.args.length ca, .slice ra c.rets.length cr]) c.r c.s c.t c.n fl u).2 w
      fun r w'' => r = .returned (.tuple #[]) ∧ RW rb G fv w'' L (letE G fs R V fl c u E) ∧ Fr (fun k => k = rb) w w'' := by
  obtain ⟨-, fa, fc, efv, hcells⟩ := hFL
  subst efv
  have ilA : c.args ≠ [] → ∃ k o, aa = some ⟨k, o, none⟩ ∧ k < w.heap.size ∧ k ≠ rb ∧ ∀ j (h : j < c.args.length), w.cell? ⟨k, o + j, none⟩ = some (vI c.args[j]) := fun hne => by
    obtain ⟨a1, c1, e1, h1⟩ := hA
    cases e1
    exact h1 hne
  have ilB : c.rets ≠ [] → ∃ k o, ra = some ⟨k, o, none⟩ ∧ k < w.heap.size ∧ k ≠ rb ∧ ∀ j (h : j < c.rets.length), w.cell? ⟨k, o + j, none⟩ = some (vI c.rets[j]) := fun hne => by
    obtain ⟨a1, c1, e1, h1⟩ := hB
    cases e1
    exact h1 hne
  -- the callee's head
  have callee : E = 0 → (u = 65 ∨ u = 66) → ∃ fk fo N, fa = some ⟨fk, fo, none⟩ ∧ c.n = ((N : Nat) : Int) ∧ N < fs.length ∧ fk < w.heap.size ∧ w.cell? ⟨fk, fo + N * 4, none⟩ = some (vI (calleeP fs c.n)) ∧ w.cell? ⟨fk, fo + N * 4 + 1, none⟩ = some (vI (calleeR fs c.n)) := fun hE hu2 => by
    obtain ⟨n0, n1⟩ := hc hu2 hE
    have hN : c.n.toNat < fs.length := by omega
    obtain ⟨fk, fo, e, hk, -, hj⟩ := hcells (by intro e; simp [e] at hN)
    obtain ⟨cv, h1, h2, -⟩ := hj c.n.toNat hN
    refine ⟨fk, fo, c.n.toNat, e, by omega, hN, hk, ?_, ?_⟩
    · unfold calleeP; rw [List.getElem?_eq_getElem hN]; exact h1
    · unfold calleeR; rw [List.getElem?_eq_getElem hN]; exact h2
  simp only [letters, List.mem_cons, List.not_mem_nil, or_false] at hu
  rcases hu with rfl | rfl | rfl | rfl | rfl | rfl | rfl | rfl | rfl | rfl | rfl | rfl
  · exact rvariable rb G _ w L E h P R V a fl cc c.r
  · exact rvariable rb G _ w L E h P R V a fl cc c.s
  · exact rvariable rb G _ w L E h P R V a fl cc c.t
  · refine rlist_A rb G _ w L E h P R V a fl cc c.op c.r c.s c.t c.n aa ra ca cr c.rets.length c.args hla (calleeP fs c.n) ilA (fun hE w' hf => ?_)
    obtain ⟨fk, fo, N, rfl, en, hN, hk, c0, -⟩ := callee hE (Or.inl rfl)
    have := rwanted_A rb fk fo fs.length fc N G w' L E (h.fr hf (fun h => h)) hN (calleeP fs c.n) ((hf.cell hk (fun h => h)).trans c0) P R V a fl cc c.op c.r c.s c.t aa ra c.args.length ca c.rets.length cr
    rw [← en] at this
    exact this
  · refine rlist_B rb G _ w L E h P R V a fl cc c.op c.r c.s c.t c.n aa ra ca cr c.args.length c.rets hlr (calleeR fs c.n) ilB (fun hE w' hf => ?_)
    obtain ⟨fk, fo, N, rfl, en, hN, hk, -, c1⟩ := callee hE (Or.inr rfl)
    have := rwanted_B rb fk fo fs.length fc N G w' L E (h.fr hf (fun h => h)) hN (calleeR fs c.n) ((hf.cell hk (fun h => h)).trans c1) P R V a fl cc c.op c.r c.s c.t aa ra c.args.length ca c.rets.length cr
    rw [← en] at this
    exact this
  · exact rlist_V rb G _ w L E h P R V a fl cc c.op c.r c.s c.t c.n aa ra ca cr c.rets.length c.args hla R ilA (fun _ w' _ => rwanted_V rb w' P R V a fl cc c.op c.r c.s c.t c.n aa ra c.args.length ca c.rets.length cr)
  · exact rnumber_c rb G fa fs.length fc w L E h c.n fl
  · exact rnumber_f rb G fa fs.length fc w L E h c.n fl
  · exact rnumber_g rb G fa fs.length fc w L E h c.n fl
  · exact rnumber_F rb G fa fs.length fc w L E h c.n fl
  · exact rnumber_J rb G fa fs.length fc w L E h c.n fl
  · exact rnumber_i rb G _ w L E h c.n fl

/-- The document's walk over an instruction of any program. -/
theorem rinstr_any (rb : Nat) (G : Int) (fv : Value) (w : World) (L E : Int) (h : RW rb G fv w L E) (hL0 : 0 ≤ L) (hL1 : L ≤ 1000000000000) (fs : List PF) (hFL : FL rb w fv fs) (P R V : Int) (a : Option Addr) (fl cc : Nat) (c : PI) (aa ra : Option Addr) (ca cr : Nat)
    (hA : IL rb w (.slice aa c.args.length ca) c.args) (hB : IL rb w (.slice ra c.rets.length cr) c.rets) (hla : c.args.length ≤ 1000000000000000) (hlr : c.rets.length ≤ 1000000000000000) (last : Bool) :
    Calls Tryd.prog 56 #[.pointer (some ⟨rb, 0, none⟩), .agg #[vI P, vI R, vI V, .slice a fl cc], .agg #[vI c.op, vI c.r, vI c.s, vI c.t, vI c.n, .slice aa c.args.length ca, .slice ra c.rets.length cr], .bool last] w
      fun r w' => r = .returned (.tuple #[]) ∧ RW rb G fv w' (opL c.op L) (instrE G fs R V fl c last L E) ∧ Fr (fun k => k = rb) w w' := by
  have key := rinstr rb G fv w L E h hL0 hL1 P R V a fl cc c.op c.r c.s c.t c.n aa ra c.args.length ca c.rets.length cr last
    (fun j => ((partsN c.op.toNat).toList.take j).foldl (fun E u => letE G fs R V fl c u E) (opE c.op (plainB c.op c.r c.s c.t c.n c.args.length c.rets.length) last L E)) rfl ?_
  · refine key.mono ?_
    rintro r w' ⟨rfl, h1, h2⟩
    rw [List.take_length] at h1
    exact ⟨rfl, h1, h2⟩
  · intro j hj w' hr hf
    have hk : c.op.toNat < 18 := by
      rcases Nat.lt_or_ge c.op.toNat 18 with h | h
      · exact h
      · rw [partsN_big _ h] at hj; simp at hj
    have hu := parts_letters _ hk _ (List.getElem_mem hj)
    have step : ((partsN c.op.toNat).toList.take (j + 1)).foldl (fun E u => letE G fs R V fl c u E) (opE c.op (plainB c.op c.r c.s c.t c.n c.args.length c.rets.length) last L E) = letE G fs R V fl c (partsN c.op.toNat).toList[j] (((partsN c.op.toNat).toList.take j).foldl (fun E u => letE G fs R V fl c u E) (opE c.op (plainB c.op c.r c.s c.t c.n c.args.length c.rets.length) last L E)) := by
      rw [List.take_add_one, List.getElem?_eq_getElem hj, List.foldl_append]
      rfl
    rw [step]
    refine letter_call rb G fv w' (opL c.op L) _ hr fs (hFL.fr hf (fun _ h => h)) P R V a fl cc c aa ra ca cr (hA.fr hf (fun _ h => h)) (hB.fr hf (fun _ h => h)) hla hlr _ hu.1 (fun hu2 hE => ?_)
    have h11 := hu.2 hu2
    have hn : numB 0 fs.length c.n = true := by
      have hu3 : (partsN c.op.toNat).toList[j]? = some 65 ∨ (partsN c.op.toNat).toList[j]? = some 66 := by
        rw [List.getElem?_eq_getElem hj]
        rcases hu2 with h | h
        · exact Or.inl (by rw [h])
        · exact Or.inr (by rw [h])
      have hj2 : j < (partsN c.op.toNat).toList.length := hj
      rw [h11] at hE hu3 hj2
      have hj3 : j < 3 := hj2
      rcases (show j = 0 ∨ j = 1 ∨ j = 2 by omega) with rfl | rfl | rfl
      · rcases hu3 with h | h <;> exact absurd h (by decide)
      · exact (mustE_zero (by decide) hE).1
      · exact (mustE_zero (by decide) (listE_zero hE)).1
    unfold numB at hn
    simp at hn
    exact ⟨hn.1, hn.2⟩

end Go.Proofs.YtingenonbkencaaDoor

namespace Go.Proofs.YtingenonbkencaaDoor
open Go.RowKit (wrap32 wrap64)
set_option linter.unusedVariables false
set_option linter.unusedSimpArgs false

/-- The document's walk over the heads, the code, the functions: the locations, the first violation. -/
def rHeads : List PF → Int → Int → Int × Int
  | [], L, E => (L, E)
  | f :: fs, L, E => if E = 0 then rHeads fs (headL f.P f.R f.V f.code.length L E) (headE f.P f.R f.V f.code.length L E) else (L, E)
def rCode (G : Int) (fs : List PF) (R V : Int) (fl : Nat) : Nat → List PI → Int → Int → Int × Int
  | _, [], L, E => (L, E)
  | i, c :: cs, L, E => if E = 0 then rCode G fs R V fl (i + 1) cs (opL c.op L) (instrE G fs R V fl c ((i : Int) == (fl : Int) - 1) L E) else (L, E)
def rFuncs (G : Int) (FS : List PF) : List PF → Int → Int → Int × Int
  | [], L, E => (L, E)
  | f :: fs, L, E => if E = 0 then rFuncs G FS fs (rCode G FS f.R f.V f.code.length 0 f.code L E).1 (rCode G FS f.R f.V f.code.length 0 f.code L E).2 else (L, E)
def rE0 (G : Int) : Int := mustE (decide (0 ≤ G) && decide (G ≤ 16)) 18 0
def rE1 (G : Int) (n : Nat) : Int := mustE (decide ((1 : Int) ≤ n) && decide ((n : Int) ≤ 65535)) 20 (rE0 G)
def rHd (G : Int) (fs : List PF) : Int × Int := rHeads fs 0 (rE1 G fs.length)
def rAll (G : Int) (fs : List PF) : Int × Int := rFuncs G fs fs (rHd G fs).1 (rHd G fs).2

/-- What holds between the rounds. -/
def Low (L E : Int) : Prop := 0 ≤ L ∧ (E = 0 → L + 1 ≤ 1048576)
theorem Low.zero (E : Int) : Low 0 E := ⟨by omega, fun _ => by omega⟩
theorem opL_ge {op L : Int} (h : 0 ≤ L) : 0 ≤ opL op L := by unfold opL; split <;> omega
theorem Low.head {P R V n L E : Int} (h : 0 ≤ L) : Low (headL P R V n L E) (headE P R V n L E) := by
  refine ⟨?_, fun he => ?_⟩
  · unfold headL
    split
    · rename_i hz
      unfold headE2 at hz
      have h1 := (mustE_zero (by decide) (mustE_zero (by decide) hz).2).1
      unfold smallB at h1
      simp at h1
      omega
    · exact h
  · unfold headE at he
    have := (mustE_zero (by decide) he).1
    simpa using this
theorem letE_zero {G : Int} {fs : List PF} {R V : Int} {fl : Nat} {c : PI} {u : UInt8} {E : Int} (h : letE G fs R V fl c u E = 0) : E = 0 := by
  unfold letE at h
  by_cases hE : E = 0
  · exact hE
  · exfalso
    have m : ∀ ok e, ¬ mustE ok e E = 0 := fun ok e => mustE_ne ok e E hE
    have l : ∀ m V l, ¬ listE m V l E = 0 := fun _ _ _ hh => hE (listE_zero hh)
    repeat (first | exact m _ _ h | exact l _ _ _ h | exact hE h | split at h)
theorem letE_fold {G : Int} {fs : List PF} {R V : Int} {fl : Nat} {c : PI} : ∀ (l : List UInt8) (E : Int), l.foldl (fun E u => letE G fs R V fl c u E) E = 0 → E = 0
  | [], _, h => h
  | u :: l, E, h => letE_zero (letE_fold l _ h)
theorem Low.instr {G : Int} {fs : List PF} {R V : Int} {fl : Nat} {c : PI} {last : Bool} {L E : Int} (h : 0 ≤ L) : Low (opL c.op L) (instrE G fs R V fl c last L E) := by
  refine ⟨opL_ge h, fun he => ?_⟩
  have h1 := letE_fold _ _ he
  unfold opE at h1
  have := (mustE_zero (by decide) h1).1
  simpa using this

theorem rHeads_ne (fs : List PF) (L : Int) {E : Int} (h : ¬ E = 0) : rHeads fs L E = (L, E) := by cases fs <;> simp [rHeads, h]
theorem rCode_ne (G : Int) (FS : List PF) (R V : Int) (fl i : Nat) (cs : List PI) (L : Int) {E : Int} (h : ¬ E = 0) : rCode G FS R V fl i cs L E = (L, E) := by cases cs <;> simp [rCode, h]
theorem rFuncs_ne (G : Int) (FS fs : List PF) (L : Int) {E : Int} (h : ¬ E = 0) : rFuncs G FS fs L E = (L, E) := by cases fs <;> simp [rFuncs, h]
theorem rHeads_at {fs : List PF} {k : Nat} (hk : k < fs.length) (L : Int) : rHeads (fs.drop k) L 0 = rHeads (fs.drop (k + 1)) (headL fs[k].P fs[k].R fs[k].V fs[k].code.length L 0) (headE fs[k].P fs[k].R fs[k].V fs[k].code.length L 0) := by
  rw [List.drop_eq_getElem_cons hk]; rfl
theorem rCode_at {G : Int} {FS : List PF} {R V : Int} {fl : Nat} {cs : List PI} {k : Nat} (hk : k < cs.length) (L : Int) : rCode G FS R V fl k (cs.drop k) L 0 = rCode G FS R V fl (k + 1) (cs.drop (k + 1)) (opL cs[k].op L) (instrE G FS R V fl cs[k] ((k : Int) == (fl : Int) - 1) L 0) := by
  rw [List.drop_eq_getElem_cons hk]; rfl
theorem rFuncs_at {G : Int} {FS fs : List PF} {k : Nat} (hk : k < fs.length) (L : Int) : rFuncs G FS (fs.drop k) L 0 = rFuncs G FS (fs.drop (k + 1)) (rCode G FS fs[k].R fs[k].V fs[k].code.length 0 fs[k].code L 0).1 (rCode G FS fs[k].R fs[k].V fs[k].code.length 0 fs[k].code L 0).2 := by
  rw [List.drop_eq_getElem_cons hk]; rfl

end Go.Proofs.YtingenonbkencaaDoor
