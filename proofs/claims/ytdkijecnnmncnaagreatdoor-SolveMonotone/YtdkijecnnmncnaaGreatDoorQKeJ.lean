import Derived.Test.YtdkijecnnmncnaaGreatDoorQKd
import Derived.Test.YtdkijecnnmncnaaGreatDoorQG1J
import Derived.Test.YtdkijecnnmncnaaGreatDoorQD1J
import Derived.Deep.CutBlock
namespace Go.Proofs.YtdkijecnnmncnaaGreatDoor
open Go.RowKit (wrap32 wrap64)
set_option linter.unusedVariables false
set_option linter.unusedSimpArgs false
def calleeP (fs : List PF) (n : Int) : Int := (fs[n.toNat]?.map (·.P)).getD 0
def calleeR (fs : List PF) (n : Int) : Int := (fs[n.toNat]?.map (·.R)).getD 0
def letE (G : Int) (fs : List PF) (R V : Int) (fl : Nat) (c : PI) (u : UInt8) (E : Int) : Int :=
 if u = 82 then mustE (varB V c.r) 13 E else if u = 83 then mustE (varB V c.s) 13 E else if u = 84 then mustE (varB V c.t) 13 E
 else if u = 65 then listE (calleeP fs c.n) V c.args E else if u = 66 then listE (calleeR fs c.n) V c.rets E else if u = 86 then listE R V c.args E
 else if u = 99 then mustE (numB 1 9 c.n) 17 E else if u = 102 then mustE (numB 0 8 c.n) 17 E else if u = 103 then mustE (numB 0 G c.n) 18 E
 else if u = 70 then mustE (numB 0 fs.length c.n) 14 E else if u = 74 then mustE (numB 0 fl c.n) 16 E else E
def letters : List UInt8 := [82, 83, 84, 65, 66, 86, 99, 102, 103, 70, 74, 105]
def instrE (G : Int) (fs : List PF) (R V : Int) (fl : Nat) (c : PI) (last : Bool) (L E : Int) : Int :=
 (partsN c.op.toNat).toList.foldl (fun E u => letE G fs R V fl c u E) (opE c.op (plainB c.op c.r c.s c.t c.n c.args.length c.rets.length) last L E)
theorem parts_letters : ∀ k, k < 18 → ∀ u ∈ (partsN k).toList, u ∈ letters ∧ ((u = 65 ∨ u = 66) → k = 11) := by decide
theorem partsN_big (k : Nat) (h : 18 ≤ k) : (partsN k).toList = [] := by
 unfold partsN
 split <;> first | omega | rfl
theorem mustE_zero {ok : Bool} {e E : Int} (he : e ≠ 0) (h : mustE ok e E = 0) : ok = true ∧ E = 0 := by
 unfold mustE at h
 cases ok with
 | true => simp at h; exact ⟨rfl, h⟩
 | false =>
   by_cases hE : E = 0
   ·simp [hE] at h; omega
   ·simp [hE] at h
theorem listE_zero {m V : Int} {l : List Int} {E : Int} (h : listE m V l E = 0) : E = 0 := by
 unfold listE at h
 by_cases hE : E = 0
 ·exact hE
 ·rw [if_neg hE] at h; exact h
theorem letter_call (rb : Nat) (G : Int) (fv : Value) (w : World) (L E : Int) (h : RW rb G fv w L E) (fs : List PF) (hFL : FL rb w fv fs) (P R V : Int) (a : Option Addr) (fl cc : Nat) (c : PI) (aa ra : Option Addr) (ca cr : Nat)
 (hA : IL rb w (.slice aa c.args.length ca) c.args) (hB : IL rb w (.slice ra c.rets.length cr) c.rets) (hla : c.args.length ≤ 1000000000000000) (hlr : c.rets.length ≤ 1000000000000000) (u : UInt8) (hu : u ∈ letters) (hc : (u = 65 ∨ u = 66) → E = 0 → 0 ≤ c.n ∧ c.n < fs.length) :
 Calls Tryz.prog (partCall rb (.agg #[vI P, vI R, vI V, .slice a fl cc]) (.agg #[vI c.op, vI c.r, vI c.s, vI c.t, vI c.n, .slice aa c.args.length ca, .slice ra c.rets.length cr]) c.r c.s c.t c.n fl u).1 (partCall rb (.agg #[vI P, vI R, vI V, .slice a fl cc]) (.agg #[vI c.op, vI c.r, vI c.s, vI c.t, vI c.n, .slice aa c.args.length ca, .slice ra c.rets.length cr]) c.r c.s c.t c.n fl u).2 w
  fun r w'' => r = .returned (.tuple #[]) ∧ RW rb G fv w'' L (letE G fs R V fl c u E) ∧ Fr (fun k => k = rb) w w'' := by
 obtain ⟨-, fa, fc, efv, hcells⟩ := hFL
 subst efv
 have ilA : c.args ≠ [] → ∃ k o, aa = some ⟨k, o, none⟩ ∧ k < w.heap.size ∧ k ≠ rb ∧ ∀ j (h : j < c.args.length), w.cell? ⟨k, o + j, none⟩ = some (vI c.args[j]) := fun hne => by
  obtain ⟨a1, c1, e1, h1⟩ := hA
  cases e1
  exact h1 hne
 have ilB : c.rets ≠ [] → ∃ k o, ra = some ⟨k, o, none⟩ ∧ k < w.heap.size ∧ k ≠ rb ∧ ∀ j (h : j < c.rets.length), w.cell? ⟨k, o + j, none⟩ = some (vI c.rets[j]) := fun hne => by
  obtain ⟨a1, c1, e1, h1⟩ := hB
  cases e1
  exact h1 hne
 -- the callee's head
 have callee : E = 0 → (u = 65 ∨ u = 66) → ∃ fk fo N, fa = some ⟨fk, fo, none⟩ ∧ c.n = ((N : Nat) : Int) ∧ N < fs.length ∧ fk < w.heap.size ∧ w.cell? ⟨fk, fo + N * 4, none⟩ = some (vI (calleeP fs c.n)) ∧ w.cell? ⟨fk, fo + N * 4 + 1, none⟩ = some (vI (calleeR fs c.n)) := fun hE hu2 => by
  obtain ⟨n0, n1⟩ := hc hu2 hE
  have hN : c.n.toNat < fs.length := by omega
  obtain ⟨fk, fo, e, hk, -, hj⟩ := hcells (by intro e; simp [e] at hN)
  obtain ⟨cv, h1, h2, -⟩ := hj c.n.toNat hN
  refine ⟨fk, fo, c.n.toNat, e, by omega, hN, hk, ?_, ?_⟩
  ·unfold calleeP; rw [List.getElem?_eq_getElem hN]; exact h1
  ·unfold calleeR; rw [List.getElem?_eq_getElem hN]; exact h2
 simp only [letters, List.mem_cons, List.not_mem_nil, or_false] at hu
 rcases hu with rfl | rfl | rfl | rfl | rfl | rfl | rfl | rfl | rfl | rfl | rfl | rfl
 ·exact rvariable rb G _ w L E h P R V a fl cc c.r
 ·exact rvariable rb G _ w L E h P R V a fl cc c.s
 ·exact rvariable rb G _ w L E h P R V a fl cc c.t
 ·refine rlist_A rb G _ w L E h P R V a fl cc c.op c.r c.s c.t c.n aa ra ca cr c.rets.length c.args hla (calleeP fs c.n) ilA (fun hE w' hf => ?_)
  obtain ⟨fk, fo, N, rfl, en, hN, hk, c0, -⟩ := callee hE (Or.inl rfl)
  have := rwanted_A rb fk fo fs.length fc N G w' L E (h.fr hf (fun h => h)) hN (calleeP fs c.n) ((hf.cell hk (fun h => h)).trans c0) P R V a fl cc c.op c.r c.s c.t aa ra c.args.length ca c.rets.length cr
  rw [← en] at this
  exact this
 ·refine rlist_B rb G _ w L E h P R V a fl cc c.op c.r c.s c.t c.n aa ra ca cr c.args.length c.rets hlr (calleeR fs c.n) ilB (fun hE w' hf => ?_)
  obtain ⟨fk, fo, N, rfl, en, hN, hk, -, c1⟩ := callee hE (Or.inr rfl)
  have := rwanted_B rb fk fo fs.length fc N G w' L E (h.fr hf (fun h => h)) hN (calleeR fs c.n) ((hf.cell hk (fun h => h)).trans c1) P R V a fl cc c.op c.r c.s c.t aa ra c.args.length ca c.rets.length cr
  rw [← en] at this
  exact this
 ·exact rlist_V rb G _ w L E h P R V a fl cc c.op c.r c.s c.t c.n aa ra ca cr c.rets.length c.args hla R ilA (fun _ w' _ => rwanted_V rb w' P R V a fl cc c.op c.r c.s c.t c.n aa ra c.args.length ca c.rets.length cr)
 ·exact rnumber_c rb G fa fs.length fc w L E h c.n fl
 ·exact rnumber_f rb G fa fs.length fc w L E h c.n fl
 ·exact rnumber_g rb G fa fs.length fc w L E h c.n fl
 ·exact rnumber_F rb G fa fs.length fc w L E h c.n fl
 ·exact rnumber_J rb G fa fs.length fc w L E h c.n fl
 ·exact rnumber_i rb G _ w L E h c.n fl
theorem rinstr_any (rb : Nat) (G : Int) (fv : Value) (w : World) (L E : Int) (h : RW rb G fv w L E) (hL0 : 0 ≤ L) (hL1 : L ≤ 1000000000000) (fs : List PF) (hFL : FL rb w fv fs) (P R V : Int) (a : Option Addr) (fl cc : Nat) (c : PI) (aa ra : Option Addr) (ca cr : Nat)
 (hA : IL rb w (.slice aa c.args.length ca) c.args) (hB : IL rb w (.slice ra c.rets.length cr) c.rets) (hla : c.args.length ≤ 1000000000000000) (hlr : c.rets.length ≤ 1000000000000000) (last : Bool) :
 Calls Tryz.prog 51 #[.pointer (some ⟨rb, 0, none⟩), .agg #[vI P, vI R, vI V, .slice a fl cc], .agg #[vI c.op, vI c.r, vI c.s, vI c.t, vI c.n, .slice aa c.args.length ca, .slice ra c.rets.length cr], .bool last] w
  fun r w' => r = .returned (.tuple #[]) ∧ RW rb G fv w' (opL c.op L) (instrE G fs R V fl c last L E) ∧ Fr (fun k => k = rb) w w' := by
 have key := rinstr rb G fv w L E h hL0 hL1 P R V a fl cc c.op c.r c.s c.t c.n aa ra c.args.length ca c.rets.length cr last
  (fun j => ((partsN c.op.toNat).toList.take j).foldl (fun E u => letE G fs R V fl c u E) (opE c.op (plainB c.op c.r c.s c.t c.n c.args.length c.rets.length) last L E)) rfl ?_
 ·refine key.mono ?_
  rintro r w' ⟨rfl, h1, h2⟩
  rw [List.take_length] at h1
  exact ⟨rfl, h1, h2⟩
 ·intro j hj w' hr hf
  have hk : c.op.toNat < 18 := by
   rcases Nat.lt_or_ge c.op.toNat 18 with h | h
   ·exact h
   ·rw [partsN_big _ h] at hj; simp at hj
  have hu := parts_letters _ hk _ (List.getElem_mem hj)
  have step : ((partsN c.op.toNat).toList.take (j + 1)).foldl (fun E u => letE G fs R V fl c u E) (opE c.op (plainB c.op c.r c.s c.t c.n c.args.length c.rets.length) last L E) = letE G fs R V fl c (partsN c.op.toNat).toList[j] (((partsN c.op.toNat).toList.take j).foldl (fun E u => letE G fs R V fl c u E) (opE c.op (plainB c.op c.r c.s c.t c.n c.args.length c.rets.length) last L E)) := by
   rw [List.take_add_one, List.getElem?_eq_getElem hj, List.foldl_append]
   rfl
  rw [step]
  refine letter_call rb G fv w' (opL c.op L) _ hr fs (hFL.fr hf (fun _ h => h)) P R V a fl cc c aa ra ca cr (hA.fr hf (fun _ h => h)) (hB.fr hf (fun _ h => h)) hla hlr _ hu.1 (fun hu2 hE => ?_)
  have h11 := hu.2 hu2
  have hn : numB 0 fs.length c.n = true := by
   have hu3 : (partsN c.op.toNat).toList[j]? = some 65 ∨ (partsN c.op.toNat).toList[j]? = some 66 := by
    rw [List.getElem?_eq_getElem hj]
    rcases hu2 with h | h
    ·exact Or.inl (by rw [h])
    ·exact Or.inr (by rw [h])
   have hj2 : j < (partsN c.op.toNat).toList.length := hj
   rw [h11] at hE hu3 hj2
   have hj3 : j < 3 := hj2
   rcases (show j = 0 ∨ j = 1 ∨ j = 2 by omega) with rfl | rfl | rfl
   ·rcases hu3 with h | h <;> exact absurd h (by decide)
   ·exact (mustE_zero (by decide) hE).1
   ·exact (mustE_zero (by decide) (listE_zero hE)).1
  unfold numB at hn
  simp at hn
  exact ⟨hn.1, hn.2⟩
end Go.Proofs.YtdkijecnnmncnaaGreatDoor
namespace Go.Proofs.YtdkijecnnmncnaaGreatDoor
open Go.RowKit (wrap32 wrap64)
set_option linter.unusedVariables false
set_option linter.unusedSimpArgs false
def rHeads : List PF → Int → Int → Int × Int
 | [], L, E => (L, E)
 | f :: fs, L, E => if E = 0 then rHeads fs (headL f.P f.R f.V f.code.length L E) (headE f.P f.R f.V f.code.length L E) else (L, E)
def rCode (G : Int) (fs : List PF) (R V : Int) (fl : Nat) : Nat → List PI → Int → Int → Int × Int
 | _, [], L, E => (L, E)
 | i, c :: cs, L, E => if E = 0 then rCode G fs R V fl (i + 1) cs (opL c.op L) (instrE G fs R V fl c ((i : Int) == (fl : Int) - 1) L E) else (L, E)
def rFuncs (G : Int) (FS : List PF) : List PF → Int → Int → Int × Int
 | [], L, E => (L, E)
 | f :: fs, L, E => if E = 0 then rFuncs G FS fs (rCode G FS f.R f.V f.code.length 0 f.code L E).1 (rCode G FS f.R f.V f.code.length 0 f.code L E).2 else (L, E)
def rE0 (G : Int) : Int := mustE (decide (0 ≤ G) && decide (G ≤ 16)) 18 0
def rE1 (G : Int) (n : Nat) : Int := mustE (decide ((1 : Int) ≤ n) && decide ((n : Int) ≤ 65535)) 20 (rE0 G)
def rHd (G : Int) (fs : List PF) : Int × Int := rHeads fs 0 (rE1 G fs.length)
def rAll (G : Int) (fs : List PF) : Int × Int := rFuncs G fs fs (rHd G fs).1 (rHd G fs).2
def Low (L E : Int) : Prop := 0 ≤ L ∧ (E = 0 → L + 1 ≤ 1048576)
theorem Low.zero (E : Int) : Low 0 E := ⟨by omega, fun _ => by omega⟩
theorem opL_ge {op L : Int} (h : 0 ≤ L) : 0 ≤ opL op L := by unfold opL; split <;> omega
theorem Low.head {P R V n L E : Int} (h : 0 ≤ L) : Low (headL P R V n L E) (headE P R V n L E) := by
 refine ⟨?_, fun he => ?_⟩
 ·unfold headL
  split
  ·rename_i hz
   unfold headE2 at hz
   have h1 := (mustE_zero (by decide) (mustE_zero (by decide) hz).2).1
   unfold smallB at h1
   simp at h1
   omega
  ·exact h
 ·unfold headE at he
  have := (mustE_zero (by decide) he).1
  simpa using this
theorem letE_zero {G : Int} {fs : List PF} {R V : Int} {fl : Nat} {c : PI} {u : UInt8} {E : Int} (h : letE G fs R V fl c u E = 0) : E = 0 := by
 unfold letE at h
 by_cases hE : E = 0
 ·exact hE
 ·exfalso
  have m : ∀ ok e, ¬ mustE ok e E = 0 := fun ok e => mustE_ne ok e E hE
  have l : ∀ m V l, ¬ listE m V l E = 0 := fun _ _ _ hh => hE (listE_zero hh)
  repeat (first | exact m _ _ h | exact l _ _ _ h | exact hE h | split at h)
theorem letE_fold {G : Int} {fs : List PF} {R V : Int} {fl : Nat} {c : PI} : ∀ (l : List UInt8) (E : Int), l.foldl (fun E u => letE G fs R V fl c u E) E = 0 → E = 0
 | [], _, h => h
 | u :: l, E, h => letE_zero (letE_fold l _ h)
theorem Low.instr {G : Int} {fs : List PF} {R V : Int} {fl : Nat} {c : PI} {last : Bool} {L E : Int} (h : 0 ≤ L) : Low (opL c.op L) (instrE G fs R V fl c last L E) := by
 refine ⟨opL_ge h, fun he => ?_⟩
 have h1 := letE_fold _ _ he
 unfold opE at h1
 have := (mustE_zero (by decide) h1).1
 simpa using this
theorem rHeads_ne (fs : List PF) (L : Int) {E : Int} (h : ¬ E = 0) : rHeads fs L E = (L, E) := by cases fs <;> simp [rHeads, h]
theorem rCode_ne (G : Int) (FS : List PF) (R V : Int) (fl i : Nat) (cs : List PI) (L : Int) {E : Int} (h : ¬ E = 0) : rCode G FS R V fl i cs L E = (L, E) := by cases cs <;> simp [rCode, h]
theorem rFuncs_ne (G : Int) (FS fs : List PF) (L : Int) {E : Int} (h : ¬ E = 0) : rFuncs G FS fs L E = (L, E) := by cases fs <;> simp [rFuncs, h]
theorem Low.heads : ∀ (fs : List PF) (L E : Int), Low L E → Low (rHeads fs L E).1 (rHeads fs L E).2
 | [], _, _, h => h
 | f :: fs, L, E, h => by
   by_cases hE : E = 0
   ·subst hE; exact Low.heads fs _ _ (Low.head h.1)
   ·rw [rHeads_ne _ _ hE]; exact h
theorem Low.code (G : Int) (FS : List PF) (R V : Int) (fl : Nat) : ∀ (cs : List PI) (i : Nat) (L E : Int), Low L E → Low (rCode G FS R V fl i cs L E).1 (rCode G FS R V fl i cs L E).2
 | [], _, _, _, h => h
 | c :: cs, i, L, E, h => by
   by_cases hE : E = 0
   ·subst hE; exact Low.code G FS R V fl cs (i + 1) _ _ (Low.instr h.1)
   ·rw [rCode_ne _ _ _ _ _ _ _ _ hE]; exact h
end Go.Proofs.YtdkijecnnmncnaaGreatDoor
namespace Go.Proofs.YtdkijecnnmncnaaGreatDoor
open Go.RowKit (wrap32 wrap64)
set_option linter.unusedVariables false
set_option linter.unusedSimpArgs false
set_option maxRecDepth 100000
set_option maxHeartbeats 4000000
theorem rHeads_at {fs : List PF} {k : Nat} (hk : k < fs.length) (L : Int) : rHeads (fs.drop k) L 0 = rHeads (fs.drop (k + 1)) (headL fs[k].P fs[k].R fs[k].V fs[k].code.length L 0) (headE fs[k].P fs[k].R fs[k].V fs[k].code.length L 0) := by
 rw [List.drop_eq_getElem_cons hk]; rfl
theorem rCode_at {G : Int} {FS : List PF} {R V : Int} {fl : Nat} {cs : List PI} {k : Nat} (hk : k < cs.length) (L : Int) : rCode G FS R V fl k (cs.drop k) L 0 = rCode G FS R V fl (k + 1) (cs.drop (k + 1)) (opL cs[k].op L) (instrE G FS R V fl cs[k] ((k : Int) == (fl : Int) - 1) L 0) := by
 rw [List.drop_eq_getElem_cons hk]; rfl
theorem rFuncs_at {G : Int} {FS fs : List PF} {k : Nat} (hk : k < fs.length) (L : Int) : rFuncs G FS (fs.drop k) L 0 = rFuncs G FS (fs.drop (k + 1)) (rCode G FS fs[k].R fs[k].V fs[k].code.length 0 fs[k].code L 0).1 (rCode G FS fs[k].R fs[k].V fs[k].code.length 0 fs[k].code L 0).2 := by
 rw [List.drop_eq_getElem_cons hk]; rfl
theorem rcheck_any (w : World) (G : Int) (fs : List PF) (fv : Value) (hl : FL (w.heap.size + 1) w fv fs) :
 Calls Tryz.prog 17 #[.agg #[vI G, fv]] w fun e w' => e = .returned (vI (rAll G fs).2) ∧ Fr (fun _ => False) w w' := by
 have HFL : Hd (FL (w.heap.size + 1) w fv fs) := hl
 obtain ⟨hlen, fa, fcap, rfl, hin⟩ := hl
 have HIN : Hd _ := hin
 clear hin
 have hP : ((w.alloc (.cells #[vI G, .slice fa fs.length fcap] 24)).alloc (.cells #[vI G, .slice fa fs.length fcap, vI 0, vI 0] 96)).heap[w.heap.size]? = some (.cells #[vI G, .slice fa fs.length fcap] 24) := by
  rw [Go.RowKit.Below.heap_alloc _ _ _ (by simp)]; exact heap_new w _
 have hR : RW (w.heap.size + 1) G (.slice fa fs.length fcap) ((w.alloc (.cells #[vI G, .slice fa fs.length fcap] 24)).alloc (.cells #[vI G, .slice fa fs.length fcap, vI 0, vI 0] 96)) 0 0 := by
  unfold RW; rw [show w.heap.size + 1 = (w.alloc (.cells #[vI G, .slice fa fs.length fcap] 24)).heap.size by simp]; exact heap_new _ _
 have HF : Hd (Fr (fun k => k = w.heap.size + 1) w ((w.alloc (.cells #[vI G, .slice fa fs.length fcap] 24)).alloc (.cells #[vI G, .slice fa fs.length fcap, vI 0, vI 0] 96))) := Fr.alloc (Fr.alloc (Fr.refl _ w) _) _
 have HP : Hd _ := hP
 have HR : Hd _ := hR
 clear hP hR
 obtain ⟨H, hH⟩ : ∃ H, H = w.heap.size := ⟨_, rfl⟩
 have HH : Hd (H = w.heap.size) := hH
 have HE : Hd (∀ w', Fr (fun k => k = H + 1) w w' → Fr (fun _ => False) w w') := fun w' h => h.mono (fun k hk hS => by have := HH.out; omega)
 obtain ⟨T, HT⟩ : ∃ T, Hd (T = rAll G fs) := ⟨_, rfl⟩
 rw [← HT.out]
 go_enter Tryz.func17, Tryz.ntmps17
 go_upto_region 2 with fail
 rw [← hH] at HFL HIN HP HR HF ⊢
 clear hH
 generalize (w.alloc (.cells #[vI G, .slice fa fs.length fcap] 24)).alloc (.cells #[vI G, .slice fa fs.length fcap, vI 0, vI 0] 96) = wa at *
 have p0 : wa.cell? ⟨H, 0, none⟩ = some (vI G) := by rw [cell_of HP.out]; rfl
 go_cut [] from 11 to 20 (fun wx => Hd (RW (H + 1) G (.slice fa fs.length fcap) wx 0 (rE0 G)) ∧ Hd (wx.heap[H]? = some (.cells #[vI G, .slice fa fs.length fcap] 24)) ∧ Hd (Fr (fun k => k = H + 1) w wx))
 case first =>
  by_cases hg : 0 ≤ G
  ·have hq : Hd ((decide (0 ≤ G) && decide (G ≤ 16)) = decide (G ≤ 16)) := by unfold Hd; simp [hg]
   go_wp2_with fail
   refine (rmust (H + 1) G _ wa 0 0 HR.out (decide (G ≤ 16)) 18).mono ?_
   rintro e w2 ⟨rfl, h2, hf2⟩
   have X1 : Hd (RW (H + 1) G (.slice fa fs.length fcap) w2 0 (rE0 G)) := by unfold Hd rE0; rw [hq.out]; exact h2
   have X2 : Hd (w2.heap[H]? = some (.cells #[vI G, .slice fa fs.length fcap] 24)) := (hf2.block H (heap_lt HP.out) (by omega)).trans HP.out
   have X3 : Hd (Fr (fun k => k = H + 1) w w2) := HF.out.trans hf2
   clear h2 hf2
   go_wp2_with fail
   go_meet
   exact ⟨X1, X2, X3⟩
  ·have hq : Hd ((decide (0 ≤ G) && decide (G ≤ 16)) = false) := by unfold Hd; simp [hg]
   go_wp2_with fail
   refine (rmust (H + 1) G _ wa 0 0 HR.out false 18).mono ?_
   rintro e w2 ⟨rfl, h2, hf2⟩
   have X1 : Hd (RW (H + 1) G (.slice fa fs.length fcap) w2 0 (rE0 G)) := by unfold Hd rE0; rw [hq.out]; exact h2
   have X2 : Hd (w2.heap[H]? = some (.cells #[vI G, .slice fa fs.length fcap] 24)) := (hf2.block H (heap_lt HP.out) (by omega)).trans HP.out
   have X3 : Hd (Fr (fun k => k = H + 1) w w2) := HF.out.trans hf2
   clear h2 hf2
   go_wp2_with fail
   go_meet
   exact ⟨X1, X2, X3⟩
 case rest =>
 clear HR HP HF p0
 obtain ⟨HR, HP, HF⟩ := hcut
 go_upto_region 3 with fail
 have p1 : wc.cell? ⟨H, 1, none⟩ = some (.slice fa fs.length fcap) := by rw [cell_of HP.out]; rfl
 go_cut [] from 21 to 32 (fun wx => Hd (RW (H + 1) G (.slice fa fs.length fcap) wx 0 (rE1 G fs.length)) ∧ Hd (wx.heap[H]? = some (.cells #[vI G, .slice fa fs.length fcap] 24)) ∧ Hd (Fr (fun k => k = H + 1) w wx))
 case first =>
  by_cases hg : (1 : Int) ≤ fs.length
  ·have hq : Hd ((decide ((1 : Int) ≤ fs.length) && decide ((fs.length : Int) ≤ 65535)) = decide ((fs.length : Int) ≤ 65535)) := by unfold Hd; rw [decide_eq_true hg]; rfl
   go_wp2_with fail
   refine (rmust (H + 1) G _ wc 0 (rE0 G) HR.out (decide ((fs.length : Int) ≤ 65535)) 20).mono ?_
   rintro e w2 ⟨rfl, h2, hf2⟩
   have X1 : Hd (RW (H + 1) G (.slice fa fs.length fcap) w2 0 (rE1 G fs.length)) := by unfold Hd rE1; rw [hq.out]; exact h2
   have X2 : Hd (w2.heap[H]? = some (.cells #[vI G, .slice fa fs.length fcap] 24)) := (hf2.block H (heap_lt HP.out) (by omega)).trans HP.out
   have X3 : Hd (Fr (fun k => k = H + 1) w w2) := HF.out.trans hf2
   clear h2 hf2
   go_wp2_with fail
   go_meet
   exact ⟨X1, X2, X3⟩
  ·have hq : Hd ((decide ((1 : Int) ≤ fs.length) && decide ((fs.length : Int) ≤ 65535)) = false) := by unfold Hd; rw [decide_eq_false hg]; rfl
   go_wp2_with fail
   refine (rmust (H + 1) G _ wc 0 (rE0 G) HR.out false 20).mono ?_
   rintro e w2 ⟨rfl, h2, hf2⟩
   have X1 : Hd (RW (H + 1) G (.slice fa fs.length fcap) w2 0 (rE1 G fs.length)) := by unfold Hd rE1; rw [hq.out]; exact h2
   have X2 : Hd (w2.heap[H]? = some (.cells #[vI G, .slice fa fs.length fcap] 24)) := (hf2.block H (heap_lt HP.out) (by omega)).trans HP.out
   have X3 : Hd (Fr (fun k => k = H + 1) w w2) := HF.out.trans hf2
   clear h2 hf2
   go_wp2_with fail
   go_meet
   exact ⟨X1, X2, X3⟩
 case rest =>
 clear HR HP HF p1
 obtain ⟨HR, HP, HF⟩ := hcut
 go_upto_block 0 with fail
 go_cut [4] from 33 to 60 (fun x wx => ∃ (L E : Int), Hd (RW (H + 1) G (.slice fa fs.length fcap) wx L E) ∧ Hd (Low L E) ∧ Hd (rHd G fs = (L, E)) ∧ Hd (wx.heap[H]? = some (.cells #[vI G, .slice fa fs.length fcap] 24)) ∧ Hd (Fr (fun k => k = H + 1) w wx))
 case first =>
  go_wp2_with fail
  go_loopw [4] (fun v wx => ∃ (k : Nat) (L E : Int), v = .int .i64 k ∧ k ≤ fs.length ∧ Hd (RW (H + 1) G (.slice fa fs.length fcap) wx L E) ∧ Hd (Low L E) ∧ Hd (rHd G fs = rHeads (fs.drop k) L E) ∧ Hd (wx.heap[H]? = some (.cells #[vI G, .slice fa fs.length fcap] 24)) ∧ Hd (Fr (fun k => k = H + 1) w wx)) (fun v _ => match v with | .int _ q => fs.length - q.toNat | _ => 0)
  case atStart => exact ⟨0, 0, rE1 G fs.length, rfl, Nat.zero_le _, HR, Low.zero _, rfl, HP, HF⟩
  case round =>
   clear HR HP HF
   obtain ⟨k, L, E, rfl, hk, HR, HLO, HRH, HP, HF⟩ := hrel
   have p1 : wr.cell? ⟨H, 1, none⟩ = some (.slice fa fs.length fcap) := by rw [cell_of HP.out]; rfl
   obtain ⟨-, -, -, r3, -, -⟩ := HR.out.cells
   by_cases hlt : k < fs.length
   ·by_cases hE : E = 0
    ·subst hE
     have hne : fs ≠ [] := by intro e; simp [e] at hlt
     obtain ⟨fk, fo, rfl, hfk, hfb, hfc⟩ := HIN.out hne
     obtain ⟨cv, f0, f1, f2, f3, hcl⟩ := hfc k hlt
     obtain ⟨-, ca, ccap, rfl, -⟩ := hcl
     have gg : ∀ o, wr.cell? ⟨fk, o, none⟩ = w.cell? ⟨fk, o, none⟩ := fun o => HF.out.cell (HH.out ▸ hfk) hfb
     rw [← gg] at f0 f1 f2 f3
     have HST := rHeads_at hlt L
     have HST : Hd _ := HST
     have hk0 : (0 : Int) ≤ k := by omega
     have hk3 : (k : Int) < fs.length := by omega
     clear gg hfc hfk hfb
     generalize fs[k] = f at *
     go_upto_region 7 with fail
     refine wp_region_still_tail 13 mixed (by kernel_rfl) ?_
     simp only [List.take_succ_cons, List.take_zero, List.drop_succ_cons, List.drop_zero]
     repeat still_step
     refine wpStill_nil ?_
     go_wp2_with fail
     refine (show Calls Tryz.prog 50 #[.pointer (some ⟨H + 1, 0, none⟩), .agg #[vI f.P, vI f.R, vI f.V, .slice ca f.code.length ccap], vI f.code.length] wr.drew _ from rhead (H + 1) G _ wr.drew L 0 (HR.out.fr (Fr.drew (Fr.refl (fun _ => False) wr)) (fun h => h)) HLO.out.1 (by have := HLO.out.2 rfl; omega) f.P f.R f.V f.code.length ca f.code.length ccap).mono ?_
     rintro e w2 ⟨rfl, h2, hf2⟩
     have X1 : Hd (RW (H + 1) G (.slice (some ⟨fk, fo, none⟩) fs.length fcap) w2 (headL f.P f.R f.V f.code.length L 0) (headE f.P f.R f.V f.code.length L 0)) := h2
     have X2 : Hd (w2.heap[H]? = some (.cells #[vI G, .slice (some ⟨fk, fo, none⟩) fs.length fcap] 24)) := (hf2.block H (heap_lt HP.out) (by omega)).trans HP.out
     have X3 : Hd (Fr (fun k => k = H + 1) w w2) := HF.out.drew.trans hf2
     have X4 : Hd (Low (headL f.P f.R f.V f.code.length L 0) (headE f.P f.R f.V f.code.length L 0)) := Low.head HLO.out.1
     clear h2 hf2 p1 r3 f0 f1 f2 f3
     go_wp2_with fail
     exact ⟨⟨k + 1, _, _, by simp, by omega, X1, X4, HRH.out.trans HST.out, X2, X3⟩, by simp; omega⟩
    ·have hE' : (E == 0) = false := by simpa using hE
     have X4 : Hd (rHd G fs = (L, E)) := HRH.out.trans (rHeads_ne _ L hE)
     go_wp2_with fail
     go_meet
     exact ⟨L, E, HR, HLO, X4, HP, HF⟩
   ·have hke : k = fs.length := by omega
    have X4 : Hd (rHd G fs = (L, E)) := by
     refine HRH.out.trans ?_
     rw [hke, List.drop_length]; rfl
    subst hke
    go_wp2_with fail
    go_meet
    exact ⟨L, E, HR, HLO, X4, HP, HF⟩
 case rest =>
 clear HR HP HF
 obtain ⟨L, E, HR, HLO, HRH, HP, HF⟩ := hcut
 have HT2 : Hd (T = rFuncs G fs (fs.drop 0) L E) := by
  unfold Hd; rw [HT.out, List.drop_zero]; unfold rAll; rw [HRH.out]
 clear HT HRH
 go_wp2_with fail
 go_loopw [5] (fun v wx => ∃ (k : Nat) (L E : Int), v = .int .i64 k ∧ k ≤ fs.length ∧ Hd (RW (H + 1) G (.slice fa fs.length fcap) wx L E) ∧ Hd (Low L E) ∧ Hd (T = rFuncs G fs (fs.drop k) L E) ∧ Hd (wx.heap[H]? = some (.cells #[vI G, .slice fa fs.length fcap] 24)) ∧ Hd (Fr (fun k => k = H + 1) w wx)) (fun v _ => match v with | .int _ q => fs.length - q.toNat | _ => 0)
 case atStart => exact ⟨0, L, E, rfl, Nat.zero_le _, HR, HLO, HT2, HP, HF⟩
 case round =>
  clear HR HP HF HLO HT2
  obtain ⟨i, L, E, rfl, hi, HR, HLO, HT, HP, HF⟩ := hrel
  have p1 : wr.cell? ⟨H, 1, none⟩ = some (.slice fa fs.length fcap) := by rw [cell_of HP.out]; rfl
  obtain ⟨-, -, -, r3, -, -⟩ := HR.out.cells
  by_cases hlt : i < fs.length
  ·by_cases hE : E = 0
   ·subst hE
    have hne : fs ≠ [] := by intro e; simp [e] at hlt
    obtain ⟨fk, fo, rfl, hfk, hfb, hfc⟩ := HIN.out hne
    obtain ⟨cv, f0, f1, f2, f3, hcl⟩ := hfc i hlt
    obtain ⟨hcl0, ca, ccap, rfl, hcc⟩ := hcl
    have gg : ∀ o, wr.cell? ⟨fk, o, none⟩ = w.cell? ⟨fk, o, none⟩ := fun o => HF.out.cell (HH.out ▸ hfk) hfb
    rw [← gg] at f0 f1 f2 f3
    have HST : Hd (rFuncs G fs (fs.drop i) L 0 = _) := rFuncs_at hlt L
    have HCC : Hd _ := hcc
    have hk0 : (0 : Int) ≤ i := by omega
    have hk3 : (i : Int) < fs.length := by omega
    clear gg hfc hfk hfb hcc
    generalize fs[i] = f at *
    have HB : Hd ((wr.alloc (.cells #[vI f.P, vI f.R, vI f.V, .slice ca f.code.length ccap] 45)).heap[wr.heap.size]? = some (.cells #[vI f.P, vI f.R, vI f.V, .slice ca f.code.length ccap] 45)) := heap_new wr _
    have hfa : Fr (fun _ => False) wr (wr.alloc (.cells #[vI f.P, vI f.R, vI f.V, .slice ca f.code.length ccap] 45)) := Fr.alloc (Fr.refl _ wr) _
    have HR2 : Hd (RW (H + 1) G (.slice (some ⟨fk, fo, none⟩) fs.length fcap) (wr.alloc (.cells #[vI f.P, vI f.R, vI f.V, .slice ca f.code.length ccap] 45)) L 0) := HR.out.fr hfa (fun h => h)
    have HP2 : Hd ((wr.alloc (.cells #[vI f.P, vI f.R, vI f.V, .slice ca f.code.length ccap] 45)).heap[H]? = some (.cells #[vI G, (.slice (some ⟨fk, fo, none⟩) fs.length fcap)] 24)) := (hfa.block H (heap_lt HP.out) (fun h => h)).trans HP.out
    have HF2 : Hd (Fr (fun k => k = H + 1) w (wr.alloc (.cells #[vI f.P, vI f.R, vI f.V, .slice ca f.code.length ccap] 45))) := HF.out.trans (hfa.mono (fun _ _ h => h.elim))
    have HLT : Hd (H + 1 < wr.heap.size) := HR.out.cells.2.2.2.2.2
    clear hfa
    go_upto_region 12 with fail
    clear HR HP HF p1 r3 f0 f1 f2 f3
    obtain ⟨Q, hQ⟩ : ∃ Q, Q = wr.heap.size := ⟨_, rfl⟩
    rw [← hQ] at HB HLT ⊢
    clear hQ
    generalize wr.alloc (.cells #[vI f.P, vI f.R, vI f.V, .slice ca f.code.length ccap] 45) = wy at *
    go_wp2_with fail
    go_loopw [7] (fun v wx => ∃ (k : Nat) (L' E : Int), v = .int .i64 k ∧ k ≤ f.code.length ∧ Hd (RW (H + 1) G (.slice (some ⟨fk, fo, none⟩) fs.length fcap) wx L' E) ∧ Hd (Low L' E) ∧ Hd (rCode G fs f.R f.V f.code.length 0 f.code L 0 = rCode G fs f.R f.V f.code.length k (f.code.drop k) L' E) ∧ Hd (wx.heap[Q]? = some (.cells #[vI f.P, vI f.R, vI f.V, .slice ca f.code.length ccap] 45)) ∧ Hd (wx.heap[H]? = some (.cells #[vI G, .slice (some ⟨fk, fo, none⟩) fs.length fcap] 24)) ∧ Hd (Fr (fun k => k = H + 1) w wx)) (fun v _ => match v with | .int _ q => f.code.length - q.toNat | _ => 0)
    case atStart => exact ⟨0, L, 0, rfl, Nat.zero_le _, HR2, HLO, by unfold Hd; rw [List.drop_zero], HB, HP2, HF2⟩
    case round =>
     clear HR2 HP2 HF2 HB HLO
     obtain ⟨k, L', E, rfl, hk, HR, HLO, HRC, HB, HP, HF⟩ := hrel
     have b0 : wr.cell? ⟨Q, 0, none⟩ = some (vI f.P) := by rw [cell_of HB.out]; rfl
     have b1 : wr.cell? ⟨Q, 1, none⟩ = some (vI f.R) := by rw [cell_of HB.out]; rfl
     have b2 : wr.cell? ⟨Q, 2, none⟩ = some (vI f.V) := by rw [cell_of HB.out]; rfl
     have b3 : wr.cell? ⟨Q, 3, none⟩ = some (.slice ca f.code.length ccap) := by rw [cell_of HB.out]; rfl
     obtain ⟨-, -, -, r3, -, -⟩ := HR.out.cells
     by_cases hkt : k < f.code.length
     ·by_cases hE : E = 0
      ·subst hE
       have hne : f.code ≠ [] := by intro e; simp [e] at hkt
       obtain ⟨ck, co, rfl, hck, hcb, hcc⟩ := HCC.out hne
       obtain ⟨av, rv, q0, q1, q2, q3, q4, q5, q6, hA, hB, hla, hlr⟩ := hcc k hkt
       have gg : ∀ o, wr.cell? ⟨ck, o, none⟩ = w.cell? ⟨ck, o, none⟩ := fun o => HF.out.cell (HH.out ▸ hck) hcb
       rw [← gg] at q0 q1 q2 q3 q4 q5 q6
       have HA := hA.fr HF.out (fun _ h => h)
       have HB2 := hB.fr HF.out (fun _ h => h)
       have HST2 : Hd (rCode G fs f.R f.V f.code.length k (f.code.drop k) L' 0 = _) := rCode_at hkt L'
       generalize f.code[k] = c at *
       obtain ⟨aa, acap, rfl, -⟩ := id hA
       obtain ⟨ra, rcap, rfl, -⟩ := id hB
       have HA : Hd (IL (H + 1) wr (.slice aa c.args.length acap) c.args) := HA
       have HB2 : Hd (IL (H + 1) wr (.slice ra c.rets.length rcap) c.rets) := HB2
       have hk0' : (0 : Int) ≤ k := by omega
       have hk3' : (k : Int) < f.code.length := by omega
       clear gg hcc hck hcb hA hB
       go_upto_region 15 with fail
       refine wp_region_still_tail 13 mixed (by kernel_rfl) ?_
       simp only [List.take_succ_cons, List.take_zero, List.drop_succ_cons, List.drop_zero]
       repeat still_step
       refine wpStill_nil ?_
       go_wp2_with fail
       have hfd : Fr (fun _ => False) wr wr.drew := Fr.drew (Fr.refl _ wr)
       refine (rinstr_any (H + 1) G _ wr.drew L' 0 (HR.out.fr hfd (fun h => h)) HLO.out.1 (by have := HLO.out.2 rfl; omega) fs ((HFL.out.fr HF.out (fun _ h => h)).fr hfd (fun _ h => h.elim)) f.P f.R f.V _ f.code.length ccap c aa ra acap rcap (HA.out.fr hfd (fun _ h => h.elim)) (HB2.out.fr hfd (fun _ h => h.elim)) hla hlr ((k : Int) == (f.code.length : Int) - 1)).mono ?_
       rintro e w2 ⟨rfl, h2, hf2⟩
       have X1 : Hd (RW (H + 1) G (.slice (some ⟨fk, fo, none⟩) fs.length fcap) w2 (opL c.op L') (instrE G fs f.R f.V f.code.length c ((k : Int) == (f.code.length : Int) - 1) L' 0)) := h2
       have X2 : Hd (w2.heap[H]? = some (.cells #[vI G, .slice (some ⟨fk, fo, none⟩) fs.length fcap] 24)) := (hf2.block H (heap_lt HP.out) (by omega)).trans HP.out
       have X6 : Hd (w2.heap[Q]? = some (.cells #[vI f.P, vI f.R, vI f.V, .slice (some ⟨ck, co, none⟩) f.code.length ccap] 45)) := (hf2.block Q (heap_lt HB.out) (by have := HLT.out; omega)).trans HB.out
       have X3 : Hd (Fr (fun k => k = H + 1) w w2) := HF.out.drew.trans hf2
       have X4 : Hd (Low (opL c.op L') (instrE G fs f.R f.V f.code.length c ((k : Int) == (f.code.length : Int) - 1) L' 0)) := Low.instr HLO.out.1
       clear h2 hf2 hfd q0 q1 q2 q3 q4 q5 q6 b0 b1 b2 b3 r3
       go_wp2_with fail
       exact ⟨⟨k + 1, _, _, by simp, by omega, X1, X4, HRC.out.trans HST2.out, X6, X2, X3⟩, by simp; omega⟩
      ·have hE' : (E == 0) = false := by simpa using hE
       have X4 : Hd (rCode G fs f.R f.V f.code.length 0 f.code L 0 = (L', E)) := HRC.out.trans (rCode_ne _ _ _ _ _ _ _ L' hE)
       have X5 : Hd (T = rFuncs G fs (fs.drop (i + 1)) L' E) := by
        unfold Hd; rw [HT.out, HST.out, X4.out]
       clear HRC
       go_wp2_with fail
       exact ⟨⟨i + 1, L', E, by simp, by omega, HR, HLO, X5, HP, HF⟩, by simp; omega⟩
     ·have hke : k = f.code.length := by omega
      have X4 : Hd (rCode G fs f.R f.V f.code.length 0 f.code L 0 = (L', E)) := by
       refine HRC.out.trans ?_
       rw [hke, List.drop_length]; rfl
      have X5 : Hd (T = rFuncs G fs (fs.drop (i + 1)) L' E) := by
       unfold Hd; rw [HT.out, HST.out, X4.out]
      clear HRC
      subst hke
      go_wp2_with fail
      exact ⟨⟨i + 1, L', E, by simp, by omega, HR, HLO, X5, HP, HF⟩, by simp; omega⟩
   ·have hE' : (E == 0) = false := by simpa using hE
    have X4 : Hd (T = (L, E)) := HT.out.trans (rFuncs_ne _ _ _ L hE)
    go_wp2_with fail
    go_ret
    exact ⟨by rw [X4.out]; rfl, HE.out _ HF.out⟩
  ·have hke : i = fs.length := by omega
   have X4 : Hd (T = (L, E)) := by
    refine HT.out.trans ?_
    rw [hke, List.drop_length]; rfl
   subst hke
   go_wp2_with fail
   go_ret
   exact ⟨by rw [X4.out]; rfl, HE.out _ HF.out⟩
end Go.Proofs.YtdkijecnnmncnaaGreatDoor
