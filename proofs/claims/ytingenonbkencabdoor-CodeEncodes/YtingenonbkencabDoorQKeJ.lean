import Derived.Test.YtingenonbkencabDoorQKd
import Derived.Test.YtingenonbkencabDoorQN3J
import Derived.Test.YtingenonbkencabDoorQRtJ
import Derived.Deep.CutBlock
import Derived.Test.YtingenonbkencabDoorQE5J
set_option linter.unusedVariables false
set_option linter.unusedSimpArgs false
namespace Go.Proofs.YtingenonbkencabDoor
open Go.RowKit (wrap32 wrap64)
def calleeP (fs : List PF) (n : Int) : Int := (fs[n.toNat]?.map (·.P)).getD 0
def calleeR (fs : List PF) (n : Int) : Int := (fs[n.toNat]?.map (·.R)).getD 0
def letE (G : Int) (fs : List PF) (R V : Int) (fl : Nat) (c : PI) (u : UInt8) (E : Int) : Int :=
 if u = 82 then mustE (varB V c.r) 13 E else if u = 83 then mustE (varB V c.s) 13 E else if u = 84 then mustE (varB V c.t) 13 E
 else if u = 65 then listE (calleeP fs c.n) V c.args E else if u = 66 then listE (calleeR fs c.n) V c.rets E else if u = 86 then listE R V c.args E
 else if u = 99 then mustE (numB 1 9 c.n) 17 E else if u = 102 then mustE (numB 0 8 c.n) 17 E else if u = 103 then mustE (numB 0 G c.n) 18 E
 else if u = 70 then mustE (numB 0 fs.length c.n) 14 E else if u = 74 then mustE (numB 0 fl c.n) 16 E else E
def letters : List UInt8 := [82, 83, 84, 65, 66, 86, 99, 102, 103, 70, 74, 105]
def instrE (G : Int) (fs : List PF) (R V : Int) (fl : Nat) (c : PI) (last : Bool) (L E : Int) : Int :=
 (partsN c.op.toNat).toList.foldl (fun E u => letE G fs R V fl c u E) (opE c.op (plainB c.op c.r c.s c.t c.n c.args.length c.rets.length) last L E)
theorem parts_letters : ∀ k, k < 18 → ∀ u ∈ (partsN k).toList, u ∈ letters ∧ ((u = 65 ∨ u = 66) → k = 11) := by decide
theorem partsN_big (k : Nat) (h : 18 ≤ k) : (partsN k).toList = [] := by
 unfold partsN
 split <;> first | omega | rfl
theorem mustE_zero {ok : Bool} {e E : Int} (he : e ≠ 0) (h : mustE ok e E = 0) : ok = true ∧ E = 0 := by
 unfold mustE at h
 cases ok with
 | true => simp at h; exact ⟨rfl, h⟩
 | false =>
   by_cases hE : E = 0
   ·simp [hE] at h; omega
   ·simp [hE] at h
theorem listE_zero {m V : Int} {l : List Int} {E : Int} (h : listE m V l E = 0) : E = 0 := by
 unfold listE at h
 by_cases hE : E = 0
 ·exact hE
 ·rw [if_neg hE] at h; exact h
theorem letter_call (rb : Nat) (G : Int) (fv : Value) (w : World) (L E : Int) (h : RW rb G fv w L E) (fs : List PF) (hFL : FL rb w fv fs) (P R V : Int) (a : Option Addr) (fl cc : Nat) (c : PI) (aa ra : Option Addr) (ca cr : Nat)
 (hA : IL rb w (.slice aa c.args.length ca) c.args) (hB : IL rb w (.slice ra c.rets.length cr) c.rets) (hla : c.args.length ≤ 1000000000000000) (hlr : c.rets.length ≤ 1000000000000000) (u : UInt8) (hu : u ∈ letters) (hc : (u = 65 ∨ u = 66) → E = 0 → 0 ≤ c.n ∧ c.n < fs.length) :
 Calls Tryd.prog (partCall rb (.agg #[vI P, vI R, vI V, .slice a fl cc]) (.agg #[vI c.op, vI c.r, vI c.s, vI c.t, vI c.n, .slice aa c.args.length ca, .slice ra c.rets.length cr]) c.r c.s c.t c.n fl u).1 (partCall rb (.agg #[vI P, vI R, vI V, .slice a fl cc]) (.agg #[vI c.op, vI c.r, vI c.s, vI c.t, vI c.n, .slice aa c.args.length ca, .slice ra c.rets.length cr]) c.r c.s c.t c.n fl u).2 w
  fun r w'' => r = .returned (.tuple #[]) ∧ RW rb G fv w'' L (letE G fs R V fl c u E) ∧ Fr (fun k => k = rb) w w'' := by
 obtain ⟨-, fa, fc, efv, hcells⟩ := hFL
 subst efv
 have ilA : c.args ≠ [] → ∃ k o, aa = some ⟨k, o, none⟩ ∧ k < w.heap.size ∧ k ≠ rb ∧ ∀ j (h : j < c.args.length), w.cell? ⟨k, o + j, none⟩ = some (vI c.args[j]) := fun hne => by
  obtain ⟨a1, c1, e1, h1⟩ := hA
  cases e1
  exact h1 hne
 have ilB : c.rets ≠ [] → ∃ k o, ra = some ⟨k, o, none⟩ ∧ k < w.heap.size ∧ k ≠ rb ∧ ∀ j (h : j < c.rets.length), w.cell? ⟨k, o + j, none⟩ = some (vI c.rets[j]) := fun hne => by
  obtain ⟨a1, c1, e1, h1⟩ := hB
  cases e1
  exact h1 hne
 -- the callee's head
 have callee : E = 0 → (u = 65 ∨ u = 66) → ∃ fk fo N, fa = some ⟨fk, fo, none⟩ ∧ c.n = ((N : Nat) : Int) ∧ N < fs.length ∧ fk < w.heap.size ∧ w.cell? ⟨fk, fo + N * 4, none⟩ = some (vI (calleeP fs c.n)) ∧ w.cell? ⟨fk, fo + N * 4 + 1, none⟩ = some (vI (calleeR fs c.n)) := fun hE hu2 => by
  obtain ⟨n0, n1⟩ := hc hu2 hE
  have hN : c.n.toNat < fs.length := by omega
  obtain ⟨fk, fo, e, hk, -, hj⟩ := hcells (by intro e; simp [e] at hN)
  obtain ⟨cv, h1, h2, -⟩ := hj c.n.toNat hN
  refine ⟨fk, fo, c.n.toNat, e, by omega, hN, hk, ?_, ?_⟩
  ·unfold calleeP; rw [List.getElem?_eq_getElem hN]; exact h1
  ·unfold calleeR; rw [List.getElem?_eq_getElem hN]; exact h2
 simp only [letters, List.mem_cons, List.not_mem_nil, or_false] at hu
 rcases hu with rfl | rfl | rfl | rfl | rfl | rfl | rfl | rfl | rfl | rfl | rfl | rfl
 ·exact rvariable rb G _ w L E h P R V a fl cc c.r
 ·exact rvariable rb G _ w L E h P R V a fl cc c.s
 ·exact rvariable rb G _ w L E h P R V a fl cc c.t
 ·refine rlist_A rb G _ w L E h P R V a fl cc c.op c.r c.s c.t c.n aa ra ca cr c.rets.length c.args hla (calleeP fs c.n) ilA (fun hE w' hf => ?_)
  obtain ⟨fk, fo, N, rfl, en, hN, hk, c0, -⟩ := callee hE (Or.inl rfl)
  have := rwanted_A rb fk fo fs.length fc N G w' L E (h.fr hf (fun h => h)) hN (calleeP fs c.n) ((hf.cell hk (fun h => h)).trans c0) P R V a fl cc c.op c.r c.s c.t aa ra c.args.length ca c.rets.length cr
  rw [← en] at this
  exact this
 ·refine rlist_B rb G _ w L E h P R V a fl cc c.op c.r c.s c.t c.n aa ra ca cr c.args.length c.rets hlr (calleeR fs c.n) ilB (fun hE w' hf => ?_)
  obtain ⟨fk, fo, N, rfl, en, hN, hk, -, c1⟩ := callee hE (Or.inr rfl)
  have := rwanted_B rb fk fo fs.length fc N G w' L E (h.fr hf (fun h => h)) hN (calleeR fs c.n) ((hf.cell hk (fun h => h)).trans c1) P R V a fl cc c.op c.r c.s c.t aa ra c.args.length ca c.rets.length cr
  rw [← en] at this
  exact this
 ·exact rlist_V rb G _ w L E h P R V a fl cc c.op c.r c.s c.t c.n aa ra ca cr c.rets.length c.args hla R ilA (fun _ w' _ => rwanted_V rb w' P R V a fl cc c.op c.r c.s c.t c.n aa ra c.args.length ca c.rets.length cr)
 ·exact rnumber_c rb G fa fs.length fc w L E h c.n fl
 ·exact rnumber_f rb G fa fs.length fc w L E h c.n fl
 ·exact rnumber_g rb G fa fs.length fc w L E h c.n fl
 ·exact rnumber_F rb G fa fs.length fc w L E h c.n fl
 ·exact rnumber_J rb G fa fs.length fc w L E h c.n fl
 ·exact rnumber_i rb G _ w L E h c.n fl
theorem rinstr_any (rb : Nat) (G : Int) (fv : Value) (w : World) (L E : Int) (h : RW rb G fv w L E) (hL0 : 0 ≤ L) (hL1 : L ≤ 1000000000000) (fs : List PF) (hFL : FL rb w fv fs) (P R V : Int) (a : Option Addr) (fl cc : Nat) (c : PI) (aa ra : Option Addr) (ca cr : Nat)
 (hA : IL rb w (.slice aa c.args.length ca) c.args) (hB : IL rb w (.slice ra c.rets.length cr) c.rets) (hla : c.args.length ≤ 1000000000000000) (hlr : c.rets.length ≤ 1000000000000000) (last : Bool) :
 Calls Tryd.prog 44 #[.pointer (some ⟨rb, 0, none⟩), .agg #[vI P, vI R, vI V, .slice a fl cc], .agg #[vI c.op, vI c.r, vI c.s, vI c.t, vI c.n, .slice aa c.args.length ca, .slice ra c.rets.length cr], .bool last] w
  fun r w' => r = .returned (.tuple #[]) ∧ RW rb G fv w' (opL c.op L) (instrE G fs R V fl c last L E) ∧ Fr (fun k => k = rb) w w' := by
 have key := rinstr rb G fv w L E h hL0 hL1 P R V a fl cc c.op c.r c.s c.t c.n aa ra c.args.length ca c.rets.length cr last
  (fun j => ((partsN c.op.toNat).toList.take j).foldl (fun E u => letE G fs R V fl c u E) (opE c.op (plainB c.op c.r c.s c.t c.n c.args.length c.rets.length) last L E)) rfl ?_
 ·refine key.mono ?_
  rintro r w' ⟨rfl, h1, h2⟩
  rw [List.take_length] at h1
  exact ⟨rfl, h1, h2⟩
 ·intro j hj w' hr hf
  have hk : c.op.toNat < 18 := by
   rcases Nat.lt_or_ge c.op.toNat 18 with h | h
   ·exact h
   ·rw [partsN_big _ h] at hj; simp at hj
  have hu := parts_letters _ hk _ (List.getElem_mem hj)
  have step : ((partsN c.op.toNat).toList.take (j + 1)).foldl (fun E u => letE G fs R V fl c u E) (opE c.op (plainB c.op c.r c.s c.t c.n c.args.length c.rets.length) last L E) = letE G fs R V fl c (partsN c.op.toNat).toList[j] (((partsN c.op.toNat).toList.take j).foldl (fun E u => letE G fs R V fl c u E) (opE c.op (plainB c.op c.r c.s c.t c.n c.args.length c.rets.length) last L E)) := by
   rw [List.take_add_one, List.getElem?_eq_getElem hj, List.foldl_append]
   rfl
  rw [step]
  refine letter_call rb G fv w' (opL c.op L) _ hr fs (hFL.fr hf (fun _ h => h)) P R V a fl cc c aa ra ca cr (hA.fr hf (fun _ h => h)) (hB.fr hf (fun _ h => h)) hla hlr _ hu.1 (fun hu2 hE => ?_)
  have h11 := hu.2 hu2
  have hn : numB 0 fs.length c.n = true := by
   have hu3 : (partsN c.op.toNat).toList[j]? = some 65 ∨ (partsN c.op.toNat).toList[j]? = some 66 := by
    rw [List.getElem?_eq_getElem hj]
    rcases hu2 with h | h
    ·exact Or.inl (by rw [h])
    ·exact Or.inr (by rw [h])
   have hj2 : j < (partsN c.op.toNat).toList.length := hj
   rw [h11] at hE hu3 hj2
   have hj3 : j < 3 := hj2
   rcases (show j = 0 ∨ j = 1 ∨ j = 2 by omega) with rfl | rfl | rfl
   ·rcases hu3 with h | h <;> exact absurd h (by decide)
   ·exact (mustE_zero (by decide) hE).1
   ·exact (mustE_zero (by decide) (listE_zero hE)).1
  unfold numB at hn
  simp at hn
  exact ⟨hn.1, hn.2⟩
def rHeads : List PF → Int → Int → Int × Int
 | [], L, E => (L, E)
 | f :: fs, L, E => if E = 0 then rHeads fs (headL f.P f.R f.V f.code.length L E) (headE f.P f.R f.V f.code.length L E) else (L, E)
def rCode (G : Int) (fs : List PF) (R V : Int) (fl : Nat) : Nat → List PI → Int → Int → Int × Int
 | _, [], L, E => (L, E)
 | i, c :: cs, L, E => if E = 0 then rCode G fs R V fl (i + 1) cs (opL c.op L) (instrE G fs R V fl c ((i : Int) == (fl : Int) - 1) L E) else (L, E)
def rFuncs (G : Int) (FS : List PF) : List PF → Int → Int → Int × Int
 | [], L, E => (L, E)
 | f :: fs, L, E => if E = 0 then rFuncs G FS fs (rCode G FS f.R f.V f.code.length 0 f.code L E).1 (rCode G FS f.R f.V f.code.length 0 f.code L E).2 else (L, E)
def rE0 (G : Int) : Int := mustE (decide (0 ≤ G) && decide (G ≤ 16)) 18 0
def rE1 (G : Int) (n : Nat) : Int := mustE (decide ((1 : Int) ≤ n) && decide ((n : Int) ≤ 65535)) 20 (rE0 G)
def rHd (G : Int) (fs : List PF) : Int × Int := rHeads fs 0 (rE1 G fs.length)
def rAll (G : Int) (fs : List PF) : Int × Int := rFuncs G fs fs (rHd G fs).1 (rHd G fs).2
def Low (L E : Int) : Prop := 0 ≤ L ∧ (E = 0 → L + 1 ≤ 1048576)
theorem Low.zero (E : Int) : Low 0 E := ⟨by omega, fun _ => by omega⟩
theorem opL_ge {op L : Int} (h : 0 ≤ L) : 0 ≤ opL op L := by unfold opL; split <;> omega
theorem Low.head {P R V n L E : Int} (h : 0 ≤ L) : Low (headL P R V n L E) (headE P R V n L E) := by
 refine ⟨?_, fun he => ?_⟩
 ·unfold headL
  split
  ·rename_i hz
   unfold headE2 at hz
   have h1 := (mustE_zero (by decide) (mustE_zero (by decide) hz).2).1
   unfold smallB at h1
   simp at h1
   omega
  ·exact h
 ·unfold headE at he
  have := (mustE_zero (by decide) he).1
  simpa using this
theorem letE_zero {G : Int} {fs : List PF} {R V : Int} {fl : Nat} {c : PI} {u : UInt8} {E : Int} (h : letE G fs R V fl c u E = 0) : E = 0 := by
 unfold letE at h
 by_cases hE : E = 0
 ·exact hE
 ·exfalso
  have m : ∀ ok e, ¬ mustE ok e E = 0 := fun ok e => mustE_ne ok e E hE
  have l : ∀ m V l, ¬ listE m V l E = 0 := fun _ _ _ hh => hE (listE_zero hh)
  repeat (first | exact m _ _ h | exact l _ _ _ h | exact hE h | split at h)
theorem letE_fold {G : Int} {fs : List PF} {R V : Int} {fl : Nat} {c : PI} : ∀ (l : List UInt8) (E : Int), l.foldl (fun E u => letE G fs R V fl c u E) E = 0 → E = 0
 | [], _, h => h
 | u :: l, E, h => letE_zero (letE_fold l _ h)
theorem Low.instr {G : Int} {fs : List PF} {R V : Int} {fl : Nat} {c : PI} {last : Bool} {L E : Int} (h : 0 ≤ L) : Low (opL c.op L) (instrE G fs R V fl c last L E) := by
 refine ⟨opL_ge h, fun he => ?_⟩
 have h1 := letE_fold _ _ he
 unfold opE at h1
 have := (mustE_zero (by decide) h1).1
 simpa using this
theorem rHeads_ne (fs : List PF) (L : Int) {E : Int} (h : ¬ E = 0) : rHeads fs L E = (L, E) := by cases fs <;> simp [rHeads, h]
theorem rCode_ne (G : Int) (FS : List PF) (R V : Int) (fl i : Nat) (cs : List PI) (L : Int) {E : Int} (h : ¬ E = 0) : rCode G FS R V fl i cs L E = (L, E) := by cases cs <;> simp [rCode, h]
theorem rFuncs_ne (G : Int) (FS fs : List PF) (L : Int) {E : Int} (h : ¬ E = 0) : rFuncs G FS fs L E = (L, E) := by cases fs <;> simp [rFuncs, h]
theorem rHeads_at {fs : List PF} {k : Nat} (hk : k < fs.length) (L : Int) : rHeads (fs.drop k) L 0 = rHeads (fs.drop (k + 1)) (headL fs[k].P fs[k].R fs[k].V fs[k].code.length L 0) (headE fs[k].P fs[k].R fs[k].V fs[k].code.length L 0) := by
 rw [List.drop_eq_getElem_cons hk]; rfl
theorem rCode_at {G : Int} {FS : List PF} {R V : Int} {fl : Nat} {cs : List PI} {k : Nat} (hk : k < cs.length) (L : Int) : rCode G FS R V fl k (cs.drop k) L 0 = rCode G FS R V fl (k + 1) (cs.drop (k + 1)) (opL cs[k].op L) (instrE G FS R V fl cs[k] ((k : Int) == (fl : Int) - 1) L 0) := by
 rw [List.drop_eq_getElem_cons hk]; rfl
theorem rFuncs_at {G : Int} {FS fs : List PF} {k : Nat} (hk : k < fs.length) (L : Int) : rFuncs G FS (fs.drop k) L 0 = rFuncs G FS (fs.drop (k + 1)) (rCode G FS fs[k].R fs[k].V fs[k].code.length 0 fs[k].code L 0).1 (rCode G FS fs[k].R fs[k].V fs[k].code.length 0 fs[k].code L 0).2 := by
 rw [List.drop_eq_getElem_cons hk]; rfl
set_option maxRecDepth 100000
set_option maxHeartbeats 4000000
theorem rcheck_any (w : World) (G : Int) (fs : List PF) (fv : Value) (hl : FL (w.heap.size + 1) w fv fs) :
 Calls Tryd.prog 23 #[.agg #[vI G, fv]] w fun e w' => e = .returned (vI (rAll G fs).2) ∧ Fr (fun _ => False) w w' := by
 have HFL : Hd (FL (w.heap.size + 1) w fv fs) := hl
 obtain ⟨hlen, fa, fcap, rfl, hin⟩ := hl
 have HIN : Hd _ := hin
 clear hin
 have hP : ((w.alloc (.cells #[vI G, .slice fa fs.length fcap] 24)).alloc (.cells #[vI G, .slice fa fs.length fcap, vI 0, vI 0] 78)).heap[w.heap.size]? = some (.cells #[vI G, .slice fa fs.length fcap] 24) := by
  rw [Go.RowKit.Below.heap_alloc _ _ _ (by simp)]; exact heap_new w _
 have hR : RW (w.heap.size + 1) G (.slice fa fs.length fcap) ((w.alloc (.cells #[vI G, .slice fa fs.length fcap] 24)).alloc (.cells #[vI G, .slice fa fs.length fcap, vI 0, vI 0] 78)) 0 0 := by
  unfold RW; rw [show w.heap.size + 1 = (w.alloc (.cells #[vI G, .slice fa fs.length fcap] 24)).heap.size by simp]; exact heap_new _ _
 have HF : Hd (Fr (fun k => k = w.heap.size + 1) w ((w.alloc (.cells #[vI G, .slice fa fs.length fcap] 24)).alloc (.cells #[vI G, .slice fa fs.length fcap, vI 0, vI 0] 78))) := Fr.alloc (Fr.alloc (Fr.refl _ w) _) _
 have HP : Hd _ := hP
 have HR : Hd _ := hR
 clear hP hR
 obtain ⟨H, hH⟩ : ∃ H, H = w.heap.size := ⟨_, rfl⟩
 have HH : Hd (H = w.heap.size) := hH
 have HE : Hd (∀ w', Fr (fun k => k = H + 1) w w' → Fr (fun _ => False) w w') := fun w' h => h.mono (fun k hk hS => by have := HH.out; omega)
 obtain ⟨T, HT⟩ : ∃ T, Hd (T = rAll G fs) := ⟨_, rfl⟩
 rw [← HT.out]
 go_enter Tryd.func23, Tryd.ntmps23
 go_upto_region 2 with fail
 rw [← hH] at HFL HIN HP HR HF ⊢
 clear hH
 generalize (w.alloc (.cells #[vI G, .slice fa fs.length fcap] 24)).alloc (.cells #[vI G, .slice fa fs.length fcap, vI 0, vI 0] 78) = wa at *
 have p0 : wa.cell? ⟨H, 0, none⟩ = some (vI G) := by rw [cell_of HP.out]; rfl
 go_cut [] from 11 to 20 (fun wx => Hd (RW (H + 1) G (.slice fa fs.length fcap) wx 0 (rE0 G)) ∧ Hd (wx.heap[H]? = some (.cells #[vI G, .slice fa fs.length fcap] 24)) ∧ Hd (Fr (fun k => k = H + 1) w wx))
 case first =>
  by_cases hg : 0 ≤ G
  ·have hq : Hd ((decide (0 ≤ G) && decide (G ≤ 16)) = decide (G ≤ 16)) := by unfold Hd; simp [hg]
   go_wp2_with fail
   refine (rmust (H + 1) G _ wa 0 0 HR.out (decide (G ≤ 16)) 18).mono ?_
   rintro e w2 ⟨rfl, h2, hf2⟩
   have X1 : Hd (RW (H + 1) G (.slice fa fs.length fcap) w2 0 (rE0 G)) := by unfold Hd rE0; rw [hq.out]; exact h2
   have X2 : Hd (w2.heap[H]? = some (.cells #[vI G, .slice fa fs.length fcap] 24)) := (hf2.block H (heap_lt HP.out) (by omega)).trans HP.out
   have X3 : Hd (Fr (fun k => k = H + 1) w w2) := HF.out.trans hf2
   clear h2 hf2
   go_wp2_with fail
   go_meet
   exact ⟨X1, X2, X3⟩
  ·have hq : Hd ((decide (0 ≤ G) && decide (G ≤ 16)) = false) := by unfold Hd; simp [hg]
   go_wp2_with fail
   refine (rmust (H + 1) G _ wa 0 0 HR.out false 18).mono ?_
   rintro e w2 ⟨rfl, h2, hf2⟩
   have X1 : Hd (RW (H + 1) G (.slice fa fs.length fcap) w2 0 (rE0 G)) := by unfold Hd rE0; rw [hq.out]; exact h2
   have X2 : Hd (w2.heap[H]? = some (.cells #[vI G, .slice fa fs.length fcap] 24)) := (hf2.block H (heap_lt HP.out) (by omega)).trans HP.out
   have X3 : Hd (Fr (fun k => k = H + 1) w w2) := HF.out.trans hf2
   clear h2 hf2
   go_wp2_with fail
   go_meet
   exact ⟨X1, X2, X3⟩
 case rest =>
 clear HR HP HF p0
 obtain ⟨HR, HP, HF⟩ := hcut
 go_upto_region 3 with fail
 have p1 : wc.cell? ⟨H, 1, none⟩ = some (.slice fa fs.length fcap) := by rw [cell_of HP.out]; rfl
 go_cut [] from 21 to 32 (fun wx => Hd (RW (H + 1) G (.slice fa fs.length fcap) wx 0 (rE1 G fs.length)) ∧ Hd (wx.heap[H]? = some (.cells #[vI G, .slice fa fs.length fcap] 24)) ∧ Hd (Fr (fun k => k = H + 1) w wx))
 case first =>
  by_cases hg : (1 : Int) ≤ fs.length
  ·have hq : Hd ((decide ((1 : Int) ≤ fs.length) && decide ((fs.length : Int) ≤ 65535)) = decide ((fs.length : Int) ≤ 65535)) := by unfold Hd; rw [decide_eq_true hg]; rfl
   go_wp2_with fail
   refine (rmust (H + 1) G _ wc 0 (rE0 G) HR.out (decide ((fs.length : Int) ≤ 65535)) 20).mono ?_
   rintro e w2 ⟨rfl, h2, hf2⟩
   have X1 : Hd (RW (H + 1) G (.slice fa fs.length fcap) w2 0 (rE1 G fs.length)) := by unfold Hd rE1; rw [hq.out]; exact h2
   have X2 : Hd (w2.heap[H]? = some (.cells #[vI G, .slice fa fs.length fcap] 24)) := (hf2.block H (heap_lt HP.out) (by omega)).trans HP.out
   have X3 : Hd (Fr (fun k => k = H + 1) w w2) := HF.out.trans hf2
   clear h2 hf2
   go_wp2_with fail
   go_meet
   exact ⟨X1, X2, X3⟩
  ·have hq : Hd ((decide ((1 : Int) ≤ fs.length) && decide ((fs.length : Int) ≤ 65535)) = false) := by unfold Hd; rw [decide_eq_false hg]; rfl
   go_wp2_with fail
   refine (rmust (H + 1) G _ wc 0 (rE0 G) HR.out false 20).mono ?_
   rintro e w2 ⟨rfl, h2, hf2⟩
   have X1 : Hd (RW (H + 1) G (.slice fa fs.length fcap) w2 0 (rE1 G fs.length)) := by unfold Hd rE1; rw [hq.out]; exact h2
   have X2 : Hd (w2.heap[H]? = some (.cells #[vI G, .slice fa fs.length fcap] 24)) := (hf2.block H (heap_lt HP.out) (by omega)).trans HP.out
   have X3 : Hd (Fr (fun k => k = H + 1) w w2) := HF.out.trans hf2
   clear h2 hf2
   go_wp2_with fail
   go_meet
   exact ⟨X1, X2, X3⟩
 case rest =>
 clear HR HP HF p1
 obtain ⟨HR, HP, HF⟩ := hcut
 go_upto_block 0 with fail
 go_cut [4] from 33 to 60 (fun x wx => ∃ (L E : Int), Hd (RW (H + 1) G (.slice fa fs.length fcap) wx L E) ∧ Hd (Low L E) ∧ Hd (rHd G fs = (L, E)) ∧ Hd (wx.heap[H]? = some (.cells #[vI G, .slice fa fs.length fcap] 24)) ∧ Hd (Fr (fun k => k = H + 1) w wx))
 case first =>
  go_wp2_with fail
  go_loopw [4] (fun v wx => ∃ (k : Nat) (L E : Int), v = .int .i64 k ∧ k ≤ fs.length ∧ Hd (RW (H + 1) G (.slice fa fs.length fcap) wx L E) ∧ Hd (Low L E) ∧ Hd (rHd G fs = rHeads (fs.drop k) L E) ∧ Hd (wx.heap[H]? = some (.cells #[vI G, .slice fa fs.length fcap] 24)) ∧ Hd (Fr (fun k => k = H + 1) w wx)) (fun v _ => match v with | .int _ q => fs.length - q.toNat | _ => 0)
  case atStart => exact ⟨0, 0, rE1 G fs.length, rfl, Nat.zero_le _, HR, Low.zero _, rfl, HP, HF⟩
  case round =>
   clear HR HP HF
   obtain ⟨k, L, E, rfl, hk, HR, HLO, HRH, HP, HF⟩ := hrel
   have p1 : wr.cell? ⟨H, 1, none⟩ = some (.slice fa fs.length fcap) := by rw [cell_of HP.out]; rfl
   obtain ⟨-, -, -, r3, -, -⟩ := HR.out.cells
   by_cases hlt : k < fs.length
   ·by_cases hE : E = 0
    ·subst hE
     have hne : fs ≠ [] := by intro e; simp [e] at hlt
     obtain ⟨fk, fo, rfl, hfk, hfb, hfc⟩ := HIN.out hne
     obtain ⟨cv, f0, f1, f2, f3, hcl⟩ := hfc k hlt
     obtain ⟨-, ca, ccap, rfl, -⟩ := hcl
     have gg : ∀ o, wr.cell? ⟨fk, o, none⟩ = w.cell? ⟨fk, o, none⟩ := fun o => HF.out.cell (HH.out ▸ hfk) hfb
     rw [← gg] at f0 f1 f2 f3
     have HST := rHeads_at hlt L
     have HST : Hd _ := HST
     have hk0 : (0 : Int) ≤ k := by omega
     have hk3 : (k : Int) < fs.length := by omega
     clear gg hfc hfk hfb
     generalize fs[k] = f at *
     go_upto_region 7 with fail
     refine wp_region_still_tail 13 mixed (by kernel_rfl) ?_
     simp only [List.take_succ_cons, List.take_zero, List.drop_succ_cons, List.drop_zero]
     repeat still_step
     refine wpStill_nil ?_
     go_wp2_with fail
     refine (show Calls Tryd.prog 43 #[.pointer (some ⟨H + 1, 0, none⟩), .agg #[vI f.P, vI f.R, vI f.V, .slice ca f.code.length ccap], vI f.code.length] wr.drew _ from rhead (H + 1) G _ wr.drew L 0 (HR.out.fr (Fr.drew (Fr.refl (fun _ => False) wr)) (fun h => h)) HLO.out.1 (by have := HLO.out.2 rfl; omega) f.P f.R f.V f.code.length ca f.code.length ccap).mono ?_
     rintro e w2 ⟨rfl, h2, hf2⟩
     have X1 : Hd (RW (H + 1) G (.slice (some ⟨fk, fo, none⟩) fs.length fcap) w2 (headL f.P f.R f.V f.code.length L 0) (headE f.P f.R f.V f.code.length L 0)) := h2
     have X2 : Hd (w2.heap[H]? = some (.cells #[vI G, .slice (some ⟨fk, fo, none⟩) fs.length fcap] 24)) := (hf2.block H (heap_lt HP.out) (by omega)).trans HP.out
     have X3 : Hd (Fr (fun k => k = H + 1) w w2) := HF.out.drew.trans hf2
     have X4 : Hd (Low (headL f.P f.R f.V f.code.length L 0) (headE f.P f.R f.V f.code.length L 0)) := Low.head HLO.out.1
     clear h2 hf2 p1 r3 f0 f1 f2 f3
     go_wp2_with fail
     exact ⟨⟨k + 1, _, _, by simp, by omega, X1, X4, HRH.out.trans HST.out, X2, X3⟩, by simp; omega⟩
    ·have hE' : (E == 0) = false := by simpa using hE
     have X4 : Hd (rHd G fs = (L, E)) := HRH.out.trans (rHeads_ne _ L hE)
     go_wp2_with fail
     go_meet
     exact ⟨L, E, HR, HLO, X4, HP, HF⟩
   ·have hke : k = fs.length := by omega
    have X4 : Hd (rHd G fs = (L, E)) := by
     refine HRH.out.trans ?_
     rw [hke, List.drop_length]; rfl
    subst hke
    go_wp2_with fail
    go_meet
    exact ⟨L, E, HR, HLO, X4, HP, HF⟩
 case rest =>
 clear HR HP HF
 obtain ⟨L, E, HR, HLO, HRH, HP, HF⟩ := hcut
 have HT2 : Hd (T = rFuncs G fs (fs.drop 0) L E) := by
  unfold Hd; rw [HT.out, List.drop_zero]; unfold rAll; rw [HRH.out]
 clear HT HRH
 go_wp2_with fail
 go_loopw [5] (fun v wx => ∃ (k : Nat) (L E : Int), v = .int .i64 k ∧ k ≤ fs.length ∧ Hd (RW (H + 1) G (.slice fa fs.length fcap) wx L E) ∧ Hd (Low L E) ∧ Hd (T = rFuncs G fs (fs.drop k) L E) ∧ Hd (wx.heap[H]? = some (.cells #[vI G, .slice fa fs.length fcap] 24)) ∧ Hd (Fr (fun k => k = H + 1) w wx)) (fun v _ => match v with | .int _ q => fs.length - q.toNat | _ => 0)
 case atStart => exact ⟨0, L, E, rfl, Nat.zero_le _, HR, HLO, HT2, HP, HF⟩
 case round =>
  clear HR HP HF HLO HT2
  obtain ⟨i, L, E, rfl, hi, HR, HLO, HT, HP, HF⟩ := hrel
  have p1 : wr.cell? ⟨H, 1, none⟩ = some (.slice fa fs.length fcap) := by rw [cell_of HP.out]; rfl
  obtain ⟨-, -, -, r3, -, -⟩ := HR.out.cells
  by_cases hlt : i < fs.length
  ·by_cases hE : E = 0
   ·subst hE
    have hne : fs ≠ [] := by intro e; simp [e] at hlt
    obtain ⟨fk, fo, rfl, hfk, hfb, hfc⟩ := HIN.out hne
    obtain ⟨cv, f0, f1, f2, f3, hcl⟩ := hfc i hlt
    obtain ⟨hcl0, ca, ccap, rfl, hcc⟩ := hcl
    have gg : ∀ o, wr.cell? ⟨fk, o, none⟩ = w.cell? ⟨fk, o, none⟩ := fun o => HF.out.cell (HH.out ▸ hfk) hfb
    rw [← gg] at f0 f1 f2 f3
    have HST : Hd (rFuncs G fs (fs.drop i) L 0 = _) := rFuncs_at hlt L
    have HCC : Hd _ := hcc
    have hk0 : (0 : Int) ≤ i := by omega
    have hk3 : (i : Int) < fs.length := by omega
    clear gg hfc hfk hfb hcc
    generalize fs[i] = f at *
    have HB : Hd ((wr.alloc (.cells #[vI f.P, vI f.R, vI f.V, .slice ca f.code.length ccap] 42)).heap[wr.heap.size]? = some (.cells #[vI f.P, vI f.R, vI f.V, .slice ca f.code.length ccap] 42)) := heap_new wr _
    have hfa : Fr (fun _ => False) wr (wr.alloc (.cells #[vI f.P, vI f.R, vI f.V, .slice ca f.code.length ccap] 42)) := Fr.alloc (Fr.refl _ wr) _
    have HR2 : Hd (RW (H + 1) G (.slice (some ⟨fk, fo, none⟩) fs.length fcap) (wr.alloc (.cells #[vI f.P, vI f.R, vI f.V, .slice ca f.code.length ccap] 42)) L 0) := HR.out.fr hfa (fun h => h)
    have HP2 : Hd ((wr.alloc (.cells #[vI f.P, vI f.R, vI f.V, .slice ca f.code.length ccap] 42)).heap[H]? = some (.cells #[vI G, (.slice (some ⟨fk, fo, none⟩) fs.length fcap)] 24)) := (hfa.block H (heap_lt HP.out) (fun h => h)).trans HP.out
    have HF2 : Hd (Fr (fun k => k = H + 1) w (wr.alloc (.cells #[vI f.P, vI f.R, vI f.V, .slice ca f.code.length ccap] 42))) := HF.out.trans (hfa.mono (fun _ _ h => h.elim))
    have HLT : Hd (H + 1 < wr.heap.size) := HR.out.cells.2.2.2.2.2
    clear hfa
    go_upto_region 12 with fail
    clear HR HP HF p1 r3 f0 f1 f2 f3
    obtain ⟨Q, hQ⟩ : ∃ Q, Q = wr.heap.size := ⟨_, rfl⟩
    rw [← hQ] at HB HLT ⊢
    clear hQ
    generalize wr.alloc (.cells #[vI f.P, vI f.R, vI f.V, .slice ca f.code.length ccap] 42) = wy at *
    go_wp2_with fail
    go_loopw [7] (fun v wx => ∃ (k : Nat) (L' E : Int), v = .int .i64 k ∧ k ≤ f.code.length ∧ Hd (RW (H + 1) G (.slice (some ⟨fk, fo, none⟩) fs.length fcap) wx L' E) ∧ Hd (Low L' E) ∧ Hd (rCode G fs f.R f.V f.code.length 0 f.code L 0 = rCode G fs f.R f.V f.code.length k (f.code.drop k) L' E) ∧ Hd (wx.heap[Q]? = some (.cells #[vI f.P, vI f.R, vI f.V, .slice ca f.code.length ccap] 42)) ∧ Hd (wx.heap[H]? = some (.cells #[vI G, .slice (some ⟨fk, fo, none⟩) fs.length fcap] 24)) ∧ Hd (Fr (fun k => k = H + 1) w wx)) (fun v _ => match v with | .int _ q => f.code.length - q.toNat | _ => 0)
    case atStart => exact ⟨0, L, 0, rfl, Nat.zero_le _, HR2, HLO, by unfold Hd; rw [List.drop_zero], HB, HP2, HF2⟩
    case round =>
     clear HR2 HP2 HF2 HB HLO
     obtain ⟨k, L', E, rfl, hk, HR, HLO, HRC, HB, HP, HF⟩ := hrel
     have b0 : wr.cell? ⟨Q, 0, none⟩ = some (vI f.P) := by rw [cell_of HB.out]; rfl
     have b1 : wr.cell? ⟨Q, 1, none⟩ = some (vI f.R) := by rw [cell_of HB.out]; rfl
     have b2 : wr.cell? ⟨Q, 2, none⟩ = some (vI f.V) := by rw [cell_of HB.out]; rfl
     have b3 : wr.cell? ⟨Q, 3, none⟩ = some (.slice ca f.code.length ccap) := by rw [cell_of HB.out]; rfl
     obtain ⟨-, -, -, r3, -, -⟩ := HR.out.cells
     by_cases hkt : k < f.code.length
     ·by_cases hE : E = 0
      ·subst hE
       have hne : f.code ≠ [] := by intro e; simp [e] at hkt
       obtain ⟨ck, co, rfl, hck, hcb, hcc⟩ := HCC.out hne
       obtain ⟨av, rv, q0, q1, q2, q3, q4, q5, q6, hA, hB, hla, hlr⟩ := hcc k hkt
       have gg : ∀ o, wr.cell? ⟨ck, o, none⟩ = w.cell? ⟨ck, o, none⟩ := fun o => HF.out.cell (HH.out ▸ hck) hcb
       rw [← gg] at q0 q1 q2 q3 q4 q5 q6
       have HA := hA.fr HF.out (fun _ h => h)
       have HB2 := hB.fr HF.out (fun _ h => h)
       have HST2 : Hd (rCode G fs f.R f.V f.code.length k (f.code.drop k) L' 0 = _) := rCode_at hkt L'
       generalize f.code[k] = c at *
       obtain ⟨aa, acap, rfl, -⟩ := id hA
       obtain ⟨ra, rcap, rfl, -⟩ := id hB
       have HA : Hd (IL (H + 1) wr (.slice aa c.args.length acap) c.args) := HA
       have HB2 : Hd (IL (H + 1) wr (.slice ra c.rets.length rcap) c.rets) := HB2
       have hk0' : (0 : Int) ≤ k := by omega
       have hk3' : (k : Int) < f.code.length := by omega
       clear gg hcc hck hcb hA hB
       go_upto_region 15 with fail
       refine wp_region_still_tail 13 mixed (by kernel_rfl) ?_
       simp only [List.take_succ_cons, List.take_zero, List.drop_succ_cons, List.drop_zero]
       repeat still_step
       refine wpStill_nil ?_
       go_wp2_with fail
       have hfd : Fr (fun _ => False) wr wr.drew := Fr.drew (Fr.refl _ wr)
       refine (rinstr_any (H + 1) G _ wr.drew L' 0 (HR.out.fr hfd (fun h => h)) HLO.out.1 (by have := HLO.out.2 rfl; omega) fs ((HFL.out.fr HF.out (fun _ h => h)).fr hfd (fun _ h => h.elim)) f.P f.R f.V _ f.code.length ccap c aa ra acap rcap (HA.out.fr hfd (fun _ h => h.elim)) (HB2.out.fr hfd (fun _ h => h.elim)) hla hlr ((k : Int) == (f.code.length : Int) - 1)).mono ?_
       rintro e w2 ⟨rfl, h2, hf2⟩
       have X1 : Hd (RW (H + 1) G (.slice (some ⟨fk, fo, none⟩) fs.length fcap) w2 (opL c.op L') (instrE G fs f.R f.V f.code.length c ((k : Int) == (f.code.length : Int) - 1) L' 0)) := h2
       have X2 : Hd (w2.heap[H]? = some (.cells #[vI G, .slice (some ⟨fk, fo, none⟩) fs.length fcap] 24)) := (hf2.block H (heap_lt HP.out) (by omega)).trans HP.out
       have X6 : Hd (w2.heap[Q]? = some (.cells #[vI f.P, vI f.R, vI f.V, .slice (some ⟨ck, co, none⟩) f.code.length ccap] 42)) := (hf2.block Q (heap_lt HB.out) (by have := HLT.out; omega)).trans HB.out
       have X3 : Hd (Fr (fun k => k = H + 1) w w2) := HF.out.drew.trans hf2
       have X4 : Hd (Low (opL c.op L') (instrE G fs f.R f.V f.code.length c ((k : Int) == (f.code.length : Int) - 1) L' 0)) := Low.instr HLO.out.1
       clear h2 hf2 hfd q0 q1 q2 q3 q4 q5 q6 b0 b1 b2 b3 r3
       go_wp2_with fail
       exact ⟨⟨k + 1, _, _, by simp, by omega, X1, X4, HRC.out.trans HST2.out, X6, X2, X3⟩, by simp; omega⟩
      ·have hE' : (E == 0) = false := by simpa using hE
       have X4 : Hd (rCode G fs f.R f.V f.code.length 0 f.code L 0 = (L', E)) := HRC.out.trans (rCode_ne _ _ _ _ _ _ _ L' hE)
       have X5 : Hd (T = rFuncs G fs (fs.drop (i + 1)) L' E) := by
        unfold Hd; rw [HT.out, HST.out, X4.out]
       clear HRC
       go_wp2_with fail
       exact ⟨⟨i + 1, L', E, by simp, by omega, HR, HLO, X5, HP, HF⟩, by simp; omega⟩
     ·have hke : k = f.code.length := by omega
      have X4 : Hd (rCode G fs f.R f.V f.code.length 0 f.code L 0 = (L', E)) := by
       refine HRC.out.trans ?_
       rw [hke, List.drop_length]; rfl
      have X5 : Hd (T = rFuncs G fs (fs.drop (i + 1)) L' E) := by
       unfold Hd; rw [HT.out, HST.out, X4.out]
      clear HRC
      subst hke
      go_wp2_with fail
      exact ⟨⟨i + 1, L', E, by simp, by omega, HR, HLO, X5, HP, HF⟩, by simp; omega⟩
   ·have hE' : (E == 0) = false := by simpa using hE
    have X4 : Hd (T = (L, E)) := HT.out.trans (rFuncs_ne _ _ _ L hE)
    go_wp2_with fail
    go_ret
    exact ⟨by rw [X4.out]; rfl, HE.out _ HF.out⟩
  ·have hke : i = fs.length := by omega
   have X4 : Hd (T = (L, E)) := by
    refine HT.out.trans ?_
    rw [hke, List.drop_length]; rfl
   subst hke
   go_wp2_with fail
   go_ret
   exact ⟨by rw [X4.out]; rfl, HE.out _ HF.out⟩
def c6 : List PI → Int
 | [] => 0
 | c :: cs => (if c.op = 6 then 1 else 0) + c6 cs
def s6 : List PF → Int
 | [] => 0
 | f :: fs => c6 f.code + s6 fs
theorem Low.heads : ∀ (fs : List PF) (L E : Int), Low L E → Low (rHeads fs L E).1 (rHeads fs L E).2
 | [], _, _, h => h
 | f :: fs, L, E, h => by
   by_cases hE : E = 0
   ·subst hE; exact Low.heads fs _ _ (Low.head h.1)
   ·rw [rHeads_ne _ _ hE]; exact h
theorem Low.code (G : Int) (FS : List PF) (R V : Int) (fl : Nat) : ∀ (cs : List PI) (i : Nat) (L E : Int), Low L E → Low (rCode G FS R V fl i cs L E).1 (rCode G FS R V fl i cs L E).2
 | [], _, _, _, h => h
 | c :: cs, i, L, E, h => by
   by_cases hE : E = 0
   ·subst hE; exact Low.code G FS R V fl cs (i + 1) _ _ (Low.instr h.1)
   ·rw [rCode_ne _ _ _ _ _ _ _ _ hE]; exact h
theorem Low.funcs (G : Int) (FS : List PF) : ∀ (fs : List PF) (L E : Int), Low L E → Low (rFuncs G FS fs L E).1 (rFuncs G FS fs L E).2
 | [], _, _, h => h
 | f :: fs, L, E, h => by
   by_cases hE : E = 0
   ·subst hE; exact Low.funcs G FS fs _ _ (Low.code G FS _ _ _ _ _ _ _ h)
   ·rw [rFuncs_ne _ _ _ _ hE]; exact h
structure Cor (G V : Int) (fl : Nat) (c : PI) (s : WS) (L : Int) : Prop where
 g : s.globals = G
 v : s.fV = V
 l : s.len = fl
 r : s.r = c.r
 ss : s.s = c.s
 t : s.t = c.t
 n : s.n = c.n
 lo : s.locs = L + 1
def AGI (G V : Int) (fl : Nat) (c : PI) (L E : Int) (r : X (WS × Unit)) : Prop := match r with
 | .ok y => E = 0 ∧ Cor G V fl c y.1 L
 | .error z => E = z.1 ∧ z.1 ≠ 0
theorem AGI.cast {G V : Int} {fl : Nat} {c : PI} {L E : Int} {r q : X (WS × Unit)} (e : r = q) (h : AGI G V fl c L E q) : AGI G V fl c L E r := by rw [e]; exact h
theorem mustE_keep {ok : Bool} {e E : Int} (h : ¬ E = 0) : mustE ok e E = E := by unfold mustE; simp [h]
theorem mustE_yes {e E : Int} : mustE true e E = E := by unfold mustE; simp
theorem mustE_no {e : Int} : mustE false e 0 = e := by unfold mustE; simp
theorem Cor.at {G V : Int} {fl : Nat} {c : PI} {s : WS} {L : Int} (h : Cor G V fl c s L) (a : Int) : Cor G V fl c { s with at' := a } L := ⟨h.g, h.v, h.l, h.r, h.ss, h.t, h.n, h.lo⟩
theorem AGI.ask {G V : Int} {fl : Nat} {c : PI} {L E : Int} {r : X (WS × Unit)} (h : AGI G V fl c L E r) (b o size : Nat) (q : WS → Bool) (B : Bool) (er : Int) (he : er ≠ 0) (hq : ∀ s, Cor G V fl c s L → q s = B) :
 AGI G V fl c L (mustE B er E) (thenX r (askX (leaving b) o size q er)) := by
 cases r with
 | error z =>
   have h : E = z.1 ∧ z.1 ≠ 0 := h
   show mustE B er E = z.1 ∧ z.1 ≠ 0
   rw [mustE_keep (by rw [h.1]; exact h.2)]
   exact h
 | ok y =>
   obtain ⟨s, u⟩ := y
   obtain ⟨h0, hc⟩ : E = 0 ∧ Cor G V fl c s L := h
   subst h0
   have e : thenX (.ok (s, u)) (askX (leaving b) o size q er) = if q { s with at' := adv s.at' size } then .ok ({ s with at' := adv s.at' size }, u) else .error (er, s.at') := L_ask o size q er s u
   rw [hq _ (hc.at _)] at e
   refine AGI.cast e ?_
   cases B with
   | true => rw [if_pos rfl, mustE_yes]; exact ⟨rfl, hc.at _⟩
   | false => rw [if_neg (by decide), mustE_no]; exact ⟨rfl, he⟩
theorem varq {V v : Int} (h0 : 0 ≤ V) (h1 : V ≤ 1000000) : decide (0 ≤ v ∧ v ≤ IntKind.i64.wrap (V - 1)) = varB V v := by
 rw [wrap_small (V - 1) (by omega) (by omega)]
 unfold varB
 rw [Bool.eq_iff_iff]
 simp
 omega
section
variable {G V : Int} {fl : Nat} {c : PI} {L E : Int} {r : X (WS × Unit)} {fs : List PF} {R : Int} (b : Nat)
theorem AGI.l82 (h : AGI G V fl c L E r) (h0 : 0 ≤ V) (h1 : V ≤ 255) : AGI G V fl c L (letE G fs R V fl c 82 E) (thenX r (varPart (leaving b) 155)) :=
 h.ask b 155 1 _ (varB V c.r) 13 (by decide) (fun s hs => by
  show decide (0 ≤ s.r ∧ s.r ≤ IntKind.i64.wrap (s.fV - 1)) = _
  rw [hs.r, hs.v]; exact varq h0 (by omega))
theorem AGI.l83 (h : AGI G V fl c L E r) (h0 : 0 ≤ V) (h1 : V ≤ 255) : AGI G V fl c L (letE G fs R V fl c 83 E) (thenX r (varPart (leaving b) 156)) :=
 h.ask b 156 1 _ (varB V c.s) 13 (by decide) (fun s hs => by
  show decide (0 ≤ s.s ∧ s.s ≤ IntKind.i64.wrap (s.fV - 1)) = _
  rw [hs.ss, hs.v]; exact varq h0 (by omega))
theorem AGI.l84 (h : AGI G V fl c L E r) (h0 : 0 ≤ V) (h1 : V ≤ 255) : AGI G V fl c L (letE G fs R V fl c 84 E) (thenX r (varPart (leaving b) 157)) :=
 h.ask b 157 1 _ (varB V c.t) 13 (by decide) (fun s hs => by
  show decide (0 ≤ s.t ∧ s.t ≤ IntKind.i64.wrap (s.fV - 1)) = _
  rw [hs.t, hs.v]; exact varq h0 (by omega))
theorem AGI.l99 (h : AGI G V fl c L E r) : AGI G V fl c L (letE G fs R V fl c 99 E) (thenX r (fieldsPart (leaving b))) :=
 h.ask b 158 1 _ (numB 1 9 c.n) 17 (by decide) (fun s hs => by
  show decide (1 ≤ s.n ∧ s.n ≤ 8) = _
  rw [hs.n]; unfold numB; rw [Bool.eq_iff_iff]; simp; omega)
theorem AGI.l102 (h : AGI G V fl c L E r) : AGI G V fl c L (letE G fs R V fl c 102 E) (thenX r (fieldPart (leaving b))) :=
 h.ask b 158 1 _ (numB 0 8 c.n) 17 (by decide) (fun s hs => by
  show decide (0 ≤ s.n ∧ s.n ≤ 7) = _
  rw [hs.n]; unfold numB; rw [Bool.eq_iff_iff]; simp; omega)
theorem AGI.l103 (h : AGI G V fl c L E r) (h0 : 0 ≤ G) (h1 : G ≤ 16) : AGI G V fl c L (letE G fs R V fl c 103 E) (thenX r (globalPart (leaving b))) :=
 h.ask b 158 1 _ (numB 0 G c.n) 18 (by decide) (fun s hs => by
  show decide (0 ≤ s.n ∧ s.n ≤ IntKind.i64.wrap (s.globals - 1)) = _
  rw [hs.n, hs.g]; exact varq h0 (by omega))
theorem AGI.l74 (h : AGI G V fl c L E r) (h1 : fl ≤ 4096) : AGI G V fl c L (letE G fs R V fl c 74 E) (thenX r (targetPart (leaving b))) :=
 h.ask b 158 2 _ (numB 0 fl c.n) 16 (by decide) (fun s hs => by
  show decide (0 ≤ s.n ∧ s.n ≤ IntKind.i64.wrap (s.len - 1)) = _
  rw [hs.n, hs.l]; exact varq (by omega) (by omega))
theorem AGI.l70 (h : AGI G V fl c L E r) (h1 : fs.length ≤ 65535) : AGI G V fl c L (letE G fs R V fl c 70 E) (thenX r (calleePart (leaving b) fs.length)) :=
 h.ask b 158 2 _ (numB 0 fs.length c.n) 14 (by decide) (fun s hs => by
  show decide (0 ≤ s.n ∧ s.n ≤ IntKind.i64.wrap ((fs.length : Int) - 1)) = _
  rw [hs.n]; exact varq (by omega) (by omega))
theorem AGI.l105 (h : AGI G V fl c L E r) : AGI G V fl c L (letE G fs R V fl c 105 E) (thenX r (intPart (leaving b))) := by
 cases r with
 | error z => exact h
 | ok y =>
   obtain ⟨s, u⟩ := y
   obtain ⟨h0, hc⟩ : E = 0 ∧ Cor G V fl c s L := h
   have e : thenX (.ok (s, u)) (intPart (leaving b)) = .ok ({ s with at' := adv s.at' 8 }, u) := L_next 158 8 s u
   refine AGI.cast e ?_
   exact ⟨h0, hc.at _⟩
theorem varsL_agi (h0 : 0 ≤ V) (h1 : V ≤ 255) : ∀ (l : List Int) (x : WS × Unit), Cor G V fl c x.1 L → AGI G V fl c L (varsE V l 0) (varsL l x)
 | [], x, h => ⟨rfl, h⟩
 | v :: l, x, h => by
   show AGI G V fl c L (varsE V l (mustE (varB V v) 13 0)) (thenX (oneL v x) (varsL l))
   have hq : varOk x.1.fV v = varB V v := by rw [h.v]; exact varq h0 (by omega)
   unfold oneL
   rw [hq]
   cases hb : varB V v with
   | true =>
     rw [if_pos rfl, mustE_yes]
     exact varsL_agi h0 h1 l _ (h.at _)
   | false =>
     rw [if_neg (by decide), mustE_no]
     refine ⟨?_, show (13 : Int) ≠ 0 by decide⟩
     show varsE V l 13 = 13
     have : ∀ (l : List Int), varsE V l 13 = 13 := by
      intro l
      induction l with
      | nil => rfl
      | cons a l ih => show varsE V l (mustE (varB V a) 13 13) = 13; rw [mustE_keep (by decide)]; exact ih
     exact this l
theorem AGI.list (h : AGI G V fl c L E r) (h0 : 0 ≤ V) (h1 : V ≤ 255) (n : Nat) (m : Int) (hm : m = n) (l : List Int) : AGI G V fl c L (listE m V l E) (thenX r (listL n l)) := by
 cases r with
 | error z =>
   have h : E = z.1 ∧ z.1 ≠ 0 := h
   show listE m V l E = z.1 ∧ z.1 ≠ 0
   unfold listE
   rw [if_neg (by rw [h.1]; exact h.2)]
   exact h
 | ok y =>
   obtain ⟨s, u⟩ := y
   obtain ⟨e0, hc⟩ : E = 0 ∧ Cor G V fl c s L := h
   subst e0
   show AGI G V fl c L (listE m V l 0) (listL n l (s, u))
   unfold listE listL
   rw [if_pos rfl]
   by_cases hl : l.length = n
   ·rw [if_pos hl, show ((l.length : Int) == m) = true by rw [hm]; simp [hl], mustE_yes]
    exact varsL_agi h0 h1 l _ ⟨hc.g, hc.v, hc.l, hc.r, hc.ss, hc.t, hc.n, hc.lo⟩
   ·rw [if_neg hl, show ((l.length : Int) == m) = false by rw [hm]; simpa using (by omega : ¬ (l.length : Int) = n), mustE_no]
    refine ⟨?_, show (15 : Int) ≠ 0 by decide⟩
    show varsE V l 15 = 15
    have : ∀ (l : List Int), varsE V l 15 = 15 := by
     intro l
     induction l with
     | nil => rfl
     | cons a l ih => show varsE V l (mustE (varB V a) 13 15) = 15; rw [mustE_keep (by decide)]; exact ih
    exact this l
end
theorem w64 {z : Int} (h0 : 0 ≤ z) (h1 : z ≤ 1000000000000) : wrap64 z = z := by unfold wrap64; omega
structure CorF (G V : Int) (fl : Nat) (s : WS) (L : Int) : Prop where
 g : s.globals = G
 v : s.fV = V
 l : s.len = fl
 lo : s.locs = L + 1
theorem front_agi {G V : Int} {fl : Nat} {L : Int} (b : Nat) (c : PI) (i : Nat) (hi : i < fl) (s : WS) (hs : CorF G V fl s L) (hL0 : 0 ≤ L) (hL1 : L + 1 ≤ 1048576) (hop : 1 ≤ c.op ∧ c.op ≤ 17)
 (nb ends makes : Bool) (he : ends = (c.op == 13 || c.op == 15)) (hm : makes = (c.op == 6)) (p a : Int) :
 AGI G V fl c (opL c.op L) (opE c.op nb ((i : Int) == (fl : Int) - 1) L 0) (frontOk (leaving b) ends makes nb i p ({ inI c s with at' := a }, ())) := by
 have hob : opB c.op = true := by unfold opB; simp [hop.1, hop.2]
 have hla : (ends || decide ((i : Int) < (inI c s).len - 1)) = lastB ((i : Int) == (fl : Int) - 1) c.op := by
  rw [show (inI c s).len = s.len from rfl, hs.l, he]
  unfold lastB
  cases hx : (c.op == 13 || c.op == 15)
  ·rw [Bool.or_false, Bool.false_or, Bool.eq_iff_iff]; simp; omega
  ·simp
 unfold frontOk opE
 rw [hob, mustE_yes]
 cases nb with
 | false =>
   rw [if_pos rfl, mustE_no, mustE_keep (E := 1) (by decide), mustE_keep (E := 1) (by decide)]
   exact ⟨rfl, show (1 : Int) ≠ 0 by decide⟩
 | true =>
   rw [if_neg (by decide), mustE_yes]
   rw [show (({ inI c s with at' := a }, ()) : WS × Unit).1.len = (inI c s).len from rfl, hla]
   cases lastB ((i : Int) == (fl : Int) - 1) c.op with
   | false =>
     rw [if_pos rfl, mustE_no, mustE_keep (by decide)]
     exact ⟨rfl, show (19 : Int) ≠ 0 by decide⟩
   | true =>
     rw [if_neg (by decide), mustE_yes, hm]
     by_cases h6 : c.op = 6
     ·have e : opL c.op L = L + 1 := by unfold opL; rw [if_pos h6]
      rw [e, if_pos (by simp [h6])]
      unfold locX
      have e2 : wrap64 ((({ inI c s with at' := a }, ()) : WS × Unit).1.locs + 1) = L + 1 + 1 := by
       rw [show (({ inI c s with at' := a }, ()) : WS × Unit).1.locs = s.locs from rfl, hs.lo]
       exact w64 (by omega) (by omega)
      rw [e2]
      by_cases hle : L + 1 + 1 ≤ 1048576
      ·rw [if_pos hle, show decide (L + 1 + 1 ≤ 1048576) = true by simpa using hle, mustE_yes]
       exact ⟨rfl, ⟨hs.g, hs.v, hs.l, rfl, rfl, rfl, rfl, rfl⟩⟩
      ·rw [if_neg hle, show decide (L + 1 + 1 ≤ 1048576) = false by simpa using hle, mustE_no]
       exact ⟨rfl, show (21 : Int) ≠ 0 by decide⟩
     ·have e : opL c.op L = L := by unfold opL; rw [if_neg h6]
      rw [e, if_neg (by simp [h6]), show decide (L + 1 ≤ 1048576) = true by simpa using hL1, mustE_yes]
      exact ⟨rfl, ⟨hs.g, hs.v, hs.l, rfl, rfl, rfl, rfl, hs.lo⟩⟩
theorem call_agi {G V R : Int} {fl : Nat} {c : PI} {L E : Int} {r1 : X (WS × Unit)} (fs : List PF) (hP : ∀ f ∈ fs, 0 ≤ f.P ∧ 0 ≤ f.R) (hV0 : 0 ≤ V) (hV1 : V ≤ 255) (h1 : AGI G V fl c L E r1) (hE : E = 0 → 0 ≤ c.n ∧ c.n < fs.length) :
 AGI G V fl c L (letE G fs R V fl c 66 (letE G fs R V fl c 65 E)) (thenX r1 fun y => thenX (listL (((headsOfP fs).getD y.1.n.toNat (0, 0)).1) c.args y) fun y2 => listL (((headsOfP fs).getD y.1.n.toNat (0, 0)).2) c.rets y2) := by
 show AGI G V fl c L (listE (calleeR fs c.n) V c.rets (listE (calleeP fs c.n) V c.args E)) _
 cases r1 with
 | error z =>
   have h1 : E = z.1 ∧ z.1 ≠ 0 := h1
   have hz : ¬ E = 0 := by rw [h1.1]; exact h1.2
   have e1 : listE (calleeP fs c.n) V c.args E = E := by unfold listE; rw [if_neg hz]
   have e2 : listE (calleeR fs c.n) V c.rets E = E := by unfold listE; rw [if_neg hz]
   rw [e1, e2]
   exact h1
 | ok y =>
   have h2 : E = 0 ∧ Cor G V fl c y.1 L := h1
   obtain ⟨hn0, hn1⟩ := hE h2.1
   have hlt : c.n.toNat < fs.length := by omega
   have hn : y.1.n.toNat = c.n.toNat := by rw [h2.2.n]
   have hg : (headsOfP fs).getD y.1.n.toNat (0, 0) = (fs[c.n.toNat].P.toNat, fs[c.n.toNat].R.toNat) := by
    rw [hn]
    unfold headsOfP
    rw [List.getD_eq_getElem?_getD, List.getElem?_map, List.getElem?_eq_getElem hlt]
    rfl
   have hp := hP _ (List.getElem_mem hlt)
   have cP : calleeP fs c.n = (fs[c.n.toNat].P.toNat : Nat) := by
    unfold calleeP; rw [List.getElem?_eq_getElem hlt]; show fs[c.n.toNat].P = _; omega
   have cR : calleeR fs c.n = (fs[c.n.toNat].R.toNat : Nat) := by
    unfold calleeR; rw [List.getElem?_eq_getElem hlt]; show fs[c.n.toNat].R = _; omega
   have h3 := h1.list hV0 hV1 _ _ cP c.args
   have h4 := h3.list hV0 hV1 _ _ cR c.rets
   refine AGI.cast ?_ h4
   show thenX (listL (((headsOfP fs).getD y.1.n.toNat (0, 0)).1) c.args y) (fun y2 => listL (((headsOfP fs).getD y.1.n.toNat (0, 0)).2) c.rets y2) = _
   rw [hg]
   rfl
theorem instr_agi {G V R : Int} {fl : Nat} {L : Int} (b : Nat) (fs : List PF) (hP : ∀ f ∈ fs, 0 ≤ f.P ∧ 0 ≤ f.R) (hnf : fs.length ≤ 65535) (hG0 : 0 ≤ G) (hG1 : G ≤ 16) (hV0 : 0 ≤ V) (hV1 : V ≤ 255) (hR : 0 ≤ R) (hfl : fl ≤ 4096)
 (c : PI) (i : Nat) (hi : i < fl) (s : WS) (hs : CorF G V fl s L) (hL0 : 0 ≤ L) (hL1 : L + 1 ≤ 1048576) :
 AGI G V fl c (opL c.op L) (instrE G fs R V fl c ((i : Int) == (fl : Int) - 1) L 0) (instrL (b := b) (headsOfP fs) R.toNat i c.args c.rets (inI c s)) := by
 by_cases hop : 1 ≤ c.op ∧ c.op ≤ 17
 ·obtain ⟨k, hk⟩ : ∃ k : Nat, c.op = k := ⟨c.op.toNat, by omega⟩
  have hkk : 1 ≤ k ∧ k ≤ 17 := by omega
  have hpl : plainB c.op c.r c.s c.t c.n c.args.length c.rets.length = nbK k (inI c s) c.args.length c.rets.length := by
   rw [hk]; exact plainB_nbK k hkk (inI c s) c.args.length c.rets.length
  have hfr : ∀ (ends makes : Bool), ends = (c.op == 13 || c.op == 15) → makes = (c.op == 6) → AGI G V fl c (opL c.op L) (opE c.op (plainB c.op c.r c.s c.t c.n c.args.length c.rets.length) ((i : Int) == (fl : Int) - 1) L 0) (frontOk (leaving b) ends makes (nbK k (inI c s) c.args.length c.rets.length) i (inI c s).at' ({ inI c s with at' := adv (inI c s).at' 1 }, ())) := fun e m he hm => by
   rw [hpl]; exact front_agi b c i hi s hs hL0 hL1 hop _ e m he hm _ _
  unfold instrL
  rw [if_pos (show 1 ≤ (inI c s).op ∧ (inI c s).op ≤ 17 from hop)]
  rw [show (inI c s).op = c.op from rfl]
  unfold instrE
  have hN : c.op.toNat = k := by omega
  rw [hN]
  generalize hEE : opE c.op (plainB c.op c.r c.s c.t c.n c.args.length c.rets.length) ((i : Int) == (fl : Int) - 1) L 0 = EE at hfr ⊢
  rcases (show k = 1 ∨ k = 2 ∨ k = 3 ∨ k = 4 ∨ k = 5 ∨ k = 6 ∨ k = 7 ∨ k = 8 ∨ k = 9 ∨ k = 10 ∨ k = 11 ∨ k = 12 ∨ k = 13 ∨ k = 14 ∨ k = 15 ∨ k = 16 ∨ k = 17 by omega) with rfl | rfl | rfl | rfl | rfl | rfl | rfl | rfl | rfl | rfl | rfl | rfl | rfl | rfl | rfl | rfl | rfl
  case inr.inr.inr.inr.inr.inr.inr.inr.inr.inr.inl =>
   have h1 := (hfr false false (by rw [hk]; rfl) (by rw [hk]; rfl)).l70 (fs := fs) (R := R) b hnf
   rw [if_neg (by omega), if_pos (show c.op = 11 by omega)]
   refine call_agi fs hP hV0 hV1 (r1 := thenX _ (calleePart (leaving b) (headsOfP fs).length)) ?_ ?_
   ·rw [show (headsOfP fs).length = fs.length by unfold headsOfP; simp]
    exact h1
   ·intro h0
    have hn := (mustE_zero (by decide) (show mustE (numB 0 fs.length c.n) 14 EE = 0 from h0)).1
    unfold numB at hn
    simp at hn
    exact ⟨hn.1, hn.2⟩
  case inr.inr.inr.inr.inr.inr.inr.inr.inr.inr.inr.inr.inr.inr.inl =>
   have h1 := hfr true false (by rw [hk]; rfl) (by rw [hk]; rfl)
   rw [if_pos (show c.op = 15 by omega)]
   exact h1.list hV0 hV1 R.toNat R (by omega) c.args
  ·rw [if_neg (by omega), if_neg (by omega)]
   have h1 := hfr (c.op == 13) (c.op == 6) (by rw [hk]; rfl) rfl
   exact ((h1.l82 (fs := fs) (R := R) b hV0 hV1).l105 (fs := fs) (R := R) b)
  ·rw [if_neg (by omega), if_neg (by omega)]
   have h1 := hfr (c.op == 13) (c.op == 6) (by rw [hk]; rfl) rfl
   exact ((h1.l82 (fs := fs) (R := R) b hV0 hV1).l83 (fs := fs) (R := R) b hV0 hV1)
  ·rw [if_neg (by omega), if_neg (by omega)]
   have h1 := hfr (c.op == 13) (c.op == 6) (by rw [hk]; rfl) rfl
   exact (((h1.l82 (fs := fs) (R := R) b hV0 hV1).l83 (fs := fs) (R := R) b hV0 hV1).l84 (fs := fs) (R := R) b hV0 hV1)
  ·rw [if_neg (by omega), if_neg (by omega)]
   have h1 := hfr (c.op == 13) (c.op == 6) (by rw [hk]; rfl) rfl
   exact (((h1.l82 (fs := fs) (R := R) b hV0 hV1).l83 (fs := fs) (R := R) b hV0 hV1).l84 (fs := fs) (R := R) b hV0 hV1)
  ·rw [if_neg (by omega), if_neg (by omega)]
   have h1 := hfr (c.op == 13) (c.op == 6) (by rw [hk]; rfl) rfl
   exact ((h1.l82 (fs := fs) (R := R) b hV0 hV1).l83 (fs := fs) (R := R) b hV0 hV1)
  ·rw [if_neg (by omega), if_neg (by omega)]
   have h1 := hfr (c.op == 13) (c.op == 6) (by rw [hk]; rfl) rfl
   exact ((h1.l82 (fs := fs) (R := R) b hV0 hV1).l99 (fs := fs) (R := R) b)
  ·rw [if_neg (by omega), if_neg (by omega)]
   have h1 := hfr (c.op == 13) (c.op == 6) (by rw [hk]; rfl) rfl
   exact (((h1.l82 (fs := fs) (R := R) b hV0 hV1).l83 (fs := fs) (R := R) b hV0 hV1).l102 (fs := fs) (R := R) b)
  ·rw [if_neg (by omega), if_neg (by omega)]
   have h1 := hfr (c.op == 13) (c.op == 6) (by rw [hk]; rfl) rfl
   exact (((h1.l82 (fs := fs) (R := R) b hV0 hV1).l83 (fs := fs) (R := R) b hV0 hV1).l102 (fs := fs) (R := R) b)
  ·rw [if_neg (by omega), if_neg (by omega)]
   have h1 := hfr (c.op == 13) (c.op == 6) (by rw [hk]; rfl) rfl
   exact ((h1.l82 (fs := fs) (R := R) b hV0 hV1).l103 (fs := fs) (R := R) b hG0 hG1)
  ·rw [if_neg (by omega), if_neg (by omega)]
   have h1 := hfr (c.op == 13) (c.op == 6) (by rw [hk]; rfl) rfl
   exact ((h1.l83 (fs := fs) (R := R) b hV0 hV1).l103 (fs := fs) (R := R) b hG0 hG1)
  ·rw [if_neg (by omega), if_neg (by omega)]
   have h1 := hfr (c.op == 13) (c.op == 6) (by rw [hk]; rfl) rfl
   exact (h1.l83 (fs := fs) (R := R) b hV0 hV1)
  ·rw [if_neg (by omega), if_neg (by omega)]
   have h1 := hfr (c.op == 13) (c.op == 6) (by rw [hk]; rfl) rfl
   exact (h1.l74 (fs := fs) (R := R) b hfl)
  ·rw [if_neg (by omega), if_neg (by omega)]
   have h1 := hfr (c.op == 13) (c.op == 6) (by rw [hk]; rfl) rfl
   exact ((h1.l83 (fs := fs) (R := R) b hV0 hV1).l74 (fs := fs) (R := R) b hfl)
  ·rw [if_neg (by omega), if_neg (by omega)]
   have h1 := hfr (c.op == 13) (c.op == 6) (by rw [hk]; rfl) rfl
   exact (h1.l82 (fs := fs) (R := R) b hV0 hV1)
  ·rw [if_neg (by omega), if_neg (by omega)]
   have h1 := hfr (c.op == 13) (c.op == 6) (by rw [hk]; rfl) rfl
   exact (((h1.l82 (fs := fs) (R := R) b hV0 hV1).l83 (fs := fs) (R := R) b hV0 hV1).l84 (fs := fs) (R := R) b hV0 hV1)
 ·have hob : opB c.op = false := by unfold opB; simp; omega
  have e1 : opE c.op (plainB c.op c.r c.s c.t c.n c.args.length c.rets.length) ((i : Int) == (fl : Int) - 1) L 0 = 12 := by
   unfold opE
   rw [hob, mustE_no, mustE_keep (E := 12) (by decide), mustE_keep (E := 12) (by decide), mustE_keep (E := 12) (by decide)]
  unfold instrL instrE
  rw [if_neg (show ¬ (1 ≤ (inI c s).op ∧ (inI c s).op ≤ 17) from hop), e1]
  have e2 : (partsN c.op.toNat).toList = [] := by
   rcases Nat.lt_or_ge c.op.toNat 18 with h | h
   ·have : c.op.toNat = 0 := by omega
    rw [this]; rfl
   ·exact partsN_big _ h
  rw [e2]
  exact ⟨rfl, show (12 : Int) ≠ 0 by decide⟩
end Go.Proofs.YtingenonbkencabDoor
