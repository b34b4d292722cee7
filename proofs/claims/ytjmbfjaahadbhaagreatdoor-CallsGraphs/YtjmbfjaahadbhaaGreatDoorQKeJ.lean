import Derived.Test.YtjmbfjaahadbhaaGreatDoorQKd
import Derived.Test.YtjmbfjaahadbhaaGreatDoorQN4J
import Derived.Test.YtjmbfjaahadbhaaGreatDoorQA3J
import Derived.Defers
import Derived.Recover
import Derived.Test.YtjmbfjaahadbhaaGreatDoorQN5J
import Derived.Deep.CutBlock
set_option linter.unusedVariables false
set_option linter.unusedSimpArgs false
namespace Go.Proofs.YtjmbfjaahadbhaaGreatDoor
open Go.RowKit (wrap32 wrap64)

def calleeP (fs : List PF) (n : Int) : Int := (fs[n.toNat]?.map (·.P)).getD 0
def calleeR (fs : List PF) (n : Int) : Int := (fs[n.toNat]?.map (·.R)).getD 0

/-- What a letter of an operation asks. -/
def letE (G : Int) (fs : List PF) (R V : Int) (fl : Nat) (c : PI) (u : UInt8) (E : Int) : Int :=
  if u = 82 then mustE (varB V c.r) 13 E else if u = 83 then mustE (varB V c.s) 13 E else if u = 84 then mustE (varB V c.t) 13 E
  else if u = 65 then listE (calleeP fs c.n) V c.args E else if u = 66 then listE (calleeR fs c.n) V c.rets E else if u = 86 then listE R V c.args E
  else if u = 99 then mustE (numB 1 9 c.n) 17 E else if u = 102 then mustE (numB 0 8 c.n) 17 E else if u = 103 then mustE (numB 0 G c.n) 18 E
  else if u = 70 then mustE (numB 0 fs.length c.n) 14 E else if u = 74 then mustE (numB 0 fl c.n) 16 E else E

def letters : List UInt8 := [82, 83, 84, 65, 66, 86, 99, 102, 103, 70, 74, 105]

/-- What an instruction comes to. -/
def instrE (G : Int) (fs : List PF) (R V : Int) (fl : Nat) (c : PI) (last : Bool) (L E : Int) : Int :=
  (partsN c.op.toNat).toList.foldl (fun E u => letE G fs R V fl c u E) (opE c.op (plainB c.op c.r c.s c.t c.n c.args.length c.rets.length) last L E)

theorem parts_letters : ∀ k, k < 18 → ∀ u ∈ (partsN k).toList, u ∈ letters ∧ ((u = 65 ∨ u = 66) → k = 11) := by decide
theorem partsN_big (k : Nat) (h : 18 ≤ k) : (partsN k).toList = [] := by
  unfold partsN
  split <;> first | omega | rfl

theorem mustE_zero {ok : Bool} {e E : Int} (he : e ≠ 0) (h : mustE ok e E = 0) : ok = true ∧ E = 0 := by
  unfold mustE at h
  cases ok with
  | true => simp at h; exact ⟨rfl, h⟩
  | false =>
    by_cases hE : E = 0
    · simp [hE] at h; omega
    · simp [hE] at h
theorem listE_zero {m V : Int} {l : List Int} {E : Int} (h : listE m V l E = 0) : E = 0 := by
  unfold listE at h
  by_cases hE : E = 0
  · exact hE
  · rw [if_neg hE] at h; exact h

theorem letter_call (rb : Nat) (G : Int) (fv : Value) (w : World) (L E : Int) (h : RW rb G fv w L E) (fs : List PF) (hFL : FL rb w fv fs) (P R V : Int) (a : Option Addr) (fl cc : Nat) (c : PI) (aa ra : Option Addr) (ca cr : Nat)
    (hA : IL rb w (.slice aa c.args.length ca) c.args) (hB : IL rb w (.slice ra c.rets.length cr) c.rets) (hla : c.args.length ≤ 1000000000000000) (hlr : c.rets.length ≤ 1000000000000000) (u : UInt8) (hu : u ∈ letters) (hc : (u = 65 ∨ u = 66) → E = 0 → 0 ≤ c.n ∧ c.n < fs.length) :
    Calls Tryz.prog (partCall rb (.agg #[vI P, vI R, vI V, .slice a fl cc]) (.agg #[vI c.op, vI c.r, vI c.s, vI c.t, vI c.n, .slice aa c.args.length ca, .slice ra c.rets.length cr]) c.r c.s c.t c.n fl u).1 (partCall rb (.agg #[vI P, vI R, vI V, .slice a fl cc]) (.agg #[vI c.op, vI c.r, vI c.s, vI c.t, vI c.n, .slice aa c.args.length ca, .slice ra c.rets.length cr]) c.r c.s c.t c.n fl u).2 w
      fun r w'' => r = .returned (.tuple #[]) ∧ RW rb G fv w'' L (letE G fs R V fl c u E) ∧ Fr (fun k => k = rb) w w'' := by
  obtain ⟨-, fa, fc, efv, hcells⟩ := hFL
  subst efv
  have ilA : c.args ≠ [] → ∃ k o, aa = some ⟨k, o, none⟩ ∧ k < w.heap.size ∧ k ≠ rb ∧ ∀ j (h : j < c.args.length), w.cell? ⟨k, o + j, none⟩ = some (vI c.args[j]) := fun hne => by
    obtain ⟨a1, c1, e1, h1⟩ := hA
    cases e1
    exact h1 hne
  have ilB : c.rets ≠ [] → ∃ k o, ra = some ⟨k, o, none⟩ ∧ k < w.heap.size ∧ k ≠ rb ∧ ∀ j (h : j < c.rets.length), w.cell? ⟨k, o + j, none⟩ = some (vI c.rets[j]) := fun hne => by
    obtain ⟨a1, c1, e1, h1⟩ := hB
    cases e1
    exact h1 hne
  -- the callee's head
  have callee : E = 0 → (u = 65 ∨ u = 66) → ∃ fk fo N, fa = some ⟨fk, fo, none⟩ ∧ c.n = ((N : Nat) : Int) ∧ N < fs.length ∧ fk < w.heap.size ∧ w.cell? ⟨fk, fo + N * 4, none⟩ = some (vI (calleeP fs c.n)) ∧ w.cell? ⟨fk, fo + N * 4 + 1, none⟩ = some (vI (calleeR fs c.n)) := fun hE hu2 => by
    obtain ⟨n0, n1⟩ := hc hu2 hE
    have hN : c.n.toNat < fs.length := by omega
    obtain ⟨fk, fo, e, hk, -, hj⟩ := hcells (by intro e; simp [e] at hN)
    obtain ⟨cv, h1, h2, -⟩ := hj c.n.toNat hN
    refine ⟨fk, fo, c.n.toNat, e, by omega, hN, hk, ?_, ?_⟩
    · unfold calleeP; rw [List.getElem?_eq_getElem hN]; exact h1
    · unfold calleeR; rw [List.getElem?_eq_getElem hN]; exact h2
  simp only [letters, List.mem_cons, List.not_mem_nil, or_false] at hu
  rcases hu with rfl | rfl | rfl | rfl | rfl | rfl | rfl | rfl | rfl | rfl | rfl | rfl
  · exact rvariable rb G _ w L E h P R V a fl cc c.r
  · exact rvariable rb G _ w L E h P R V a fl cc c.s
  · exact rvariable rb G _ w L E h P R V a fl cc c.t
  · refine rlist_A rb G _ w L E h P R V a fl cc c.op c.r c.s c.t c.n aa ra ca cr c.rets.length c.args hla (calleeP fs c.n) ilA (fun hE w' hf => ?_)
    obtain ⟨fk, fo, N, rfl, en, hN, hk, c0, -⟩ := callee hE (Or.inl rfl)
    have := rwanted_A rb fk fo fs.length fc N G w' L E (h.fr hf (fun h => h)) hN (calleeP fs c.n) ((hf.cell hk (fun h => h)).trans c0) P R V a fl cc c.op c.r c.s c.t aa ra c.args.length ca c.rets.length cr
    rw [← en] at this
    exact this
  · refine rlist_B rb G _ w L E h P R V a fl cc c.op c.r c.s c.t c.n aa ra ca cr c.args.length c.rets hlr (calleeR fs c.n) ilB (fun hE w' hf => ?_)
    obtain ⟨fk, fo, N, rfl, en, hN, hk, -, c1⟩ := callee hE (Or.inr rfl)
    have := rwanted_B rb fk fo fs.length fc N G w' L E (h.fr hf (fun h => h)) hN (calleeR fs c.n) ((hf.cell hk (fun h => h)).trans c1) P R V a fl cc c.op c.r c.s c.t aa ra c.args.length ca c.rets.length cr
    rw [← en] at this
    exact this
  · exact rlist_V rb G _ w L E h P R V a fl cc c.op c.r c.s c.t c.n aa ra ca cr c.rets.length c.args hla R ilA (fun _ w' _ => rwanted_V rb w' P R V a fl cc c.op c.r c.s c.t c.n aa ra c.args.length ca c.rets.length cr)
  · exact rnumber_c rb G fa fs.length fc w L E h c.n fl
  · exact rnumber_f rb G fa fs.length fc w L E h c.n fl
  · exact rnumber_g rb G fa fs.length fc w L E h c.n fl
  · exact rnumber_F rb G fa fs.length fc w L E h c.n fl
  · exact rnumber_J rb G fa fs.length fc w L E h c.n fl
  · exact rnumber_i rb G _ w L E h c.n fl

/-- The document's walk over an instruction of any program. -/
theorem rinstr_any (rb : Nat) (G : Int) (fv : Value) (w : World) (L E : Int) (h : RW rb G fv w L E) (hL0 : 0 ≤ L) (hL1 : L ≤ 1000000000000) (fs : List PF) (hFL : FL rb w fv fs) (P R V : Int) (a : Option Addr) (fl cc : Nat) (c : PI) (aa ra : Option Addr) (ca cr : Nat)
    (hA : IL rb w (.slice aa c.args.length ca) c.args) (hB : IL rb w (.slice ra c.rets.length cr) c.rets) (hla : c.args.length ≤ 1000000000000000) (hlr : c.rets.length ≤ 1000000000000000) (last : Bool) :
    Calls Tryz.prog 51 #[.pointer (some ⟨rb, 0, none⟩), .agg #[vI P, vI R, vI V, .slice a fl cc], .agg #[vI c.op, vI c.r, vI c.s, vI c.t, vI c.n, .slice aa c.args.length ca, .slice ra c.rets.length cr], .bool last] w
      fun r w' => r = .returned (.tuple #[]) ∧ RW rb G fv w' (opL c.op L) (instrE G fs R V fl c last L E) ∧ Fr (fun k => k = rb) w w' := by
  have key := rinstr rb G fv w L E h hL0 hL1 P R V a fl cc c.op c.r c.s c.t c.n aa ra c.args.length ca c.rets.length cr last
    (fun j => ((partsN c.op.toNat).toList.take j).foldl (fun E u => letE G fs R V fl c u E) (opE c.op (plainB c.op c.r c.s c.t c.n c.args.length c.rets.length) last L E)) rfl ?_
  · refine key.mono ?_
    rintro r w' ⟨rfl, h1, h2⟩
    rw [List.take_length] at h1
    exact ⟨rfl, h1, h2⟩
  · intro j hj w' hr hf
    have hk : c.op.toNat < 18 := by
      rcases Nat.lt_or_ge c.op.toNat 18 with h | h
      · exact h
      · rw [partsN_big _ h] at hj; simp at hj
    have hu := parts_letters _ hk _ (List.getElem_mem hj)
    have step : ((partsN c.op.toNat).toList.take (j + 1)).foldl (fun E u => letE G fs R V fl c u E) (opE c.op (plainB c.op c.r c.s c.t c.n c.args.length c.rets.length) last L E) = letE G fs R V fl c (partsN c.op.toNat).toList[j] (((partsN c.op.toNat).toList.take j).foldl (fun E u => letE G fs R V fl c u E) (opE c.op (plainB c.op c.r c.s c.t c.n c.args.length c.rets.length) last L E)) := by
      rw [List.take_add_one, List.getElem?_eq_getElem hj, List.foldl_append]
      rfl
    rw [step]
    refine letter_call rb G fv w' (opL c.op L) _ hr fs (hFL.fr hf (fun _ h => h)) P R V a fl cc c aa ra ca cr (hA.fr hf (fun _ h => h)) (hB.fr hf (fun _ h => h)) hla hlr _ hu.1 (fun hu2 hE => ?_)
    have h11 := hu.2 hu2
    have hn : numB 0 fs.length c.n = true := by
      have hu3 : (partsN c.op.toNat).toList[j]? = some 65 ∨ (partsN c.op.toNat).toList[j]? = some 66 := by
        rw [List.getElem?_eq_getElem hj]
        rcases hu2 with h | h
        · exact Or.inl (by rw [h])
        · exact Or.inr (by rw [h])
      have hj2 : j < (partsN c.op.toNat).toList.length := hj
      rw [h11] at hE hu3 hj2
      have hj3 : j < 3 := hj2
      rcases (show j = 0 ∨ j = 1 ∨ j = 2 by omega) with rfl | rfl | rfl
      · rcases hu3 with h | h <;> exact absurd h (by decide)
      · exact (mustE_zero (by decide) hE).1
      · exact (mustE_zero (by decide) (listE_zero hE)).1
    unfold numB at hn
    simp at hn
    exact ⟨hn.1, hn.2⟩


set_option maxRecDepth 100000 in
set_option maxHeartbeats 400000 in
/-- The deferred closure of firstViolation, of a frame that panics with a violation. -/
theorem catch_panicking (pb : Nat) (er at' : Int) (older : List PanicEntry) (w : World) (h0 : w.cell? ⟨pb, 0, none⟩ = some (vI 0)) (h1 : w.cell? ⟨pb, 1, none⟩ = some (vI 0)) (hz : ∀ o, w.frozen? ⟨pb, o, none⟩ = false) :
    CallsD Tryz.prog 61 #[.pointer (some ⟨pb, 0, none⟩)] (.panicking ({ v := .iface 68 (.agg #[vI er, vI at']), recovered := false } :: older)) w fun e u' w' =>
      e = .returned (.tuple #[]) ∧ u' = .panicking ({ v := .iface 68 (.agg #[vI er, vI at']), recovered := true } :: older) ∧ w' = (w.setCell ⟨pb, 0, none⟩ (vI er)).setCell ⟨pb, 1, none⟩ (vI at') := by
  refine callsD_of_wpS Tryz.func61 rfl fun c₀ cs hu => ?_
  apply wpS_seq
  apply wpS_region
  simp [wpOpsS, go_sem, recoverD, hu, Tryz.ntmps61, Exit.thenS]
  have hq : ∀ w, (binOp .neq 20 (.iface 68 (.agg #[vI er, vI at'])) .nilIface).run Tryz.prog w = .ok (.bool true) w := fun _ => by kernel_rfl
  have hta : ∀ w, (Instr.typeAssert (.iface 68 (.agg #[vI er, vI at'])) 20 68 false).run Tryz.prog w = .ok (.agg #[vI er, vI at']) w := fun _ => by kernel_rfl
  refine wpS_of_wp ?_
  rw [show (#[Value.pointer (some ⟨pb, 0, none⟩)] ++ ((Array.replicate 6 undef).setIfInBounds 1 (Value.iface 68 (Value.agg #[vI er, vI at']))).setIfInBounds 0 (Value.iface 68 (Value.agg #[vI er, vI at']))) = #[Value.pointer (some ⟨pb, 0, none⟩), Value.iface 68 (Value.agg #[vI er, vI at']), Value.iface 68 (Value.agg #[vI er, vI at']), undef, undef, undef, undef] from rfl]
  generalize hQ : (fun (e : Exit) (a' : Act) (w' : World) => bodyPostS Tryz.prog Tryz.f61 c₀ cs _ e a' _ w') = Q
  go_wp2_with fail
  subst hQ
  refine ⟨rfl, _, rfl, .tuple #[], ?_, rfl, rfl, rfl⟩
  simp [results, Tryz.results61]

set_option maxRecDepth 100000 in
set_option maxHeartbeats 400000 in
theorem catch_idle (p : Addr) (w : World) :
    CallsD Tryz.prog 61 #[.pointer (some p)] .returning w fun e u' w' => e = .returned (.tuple #[]) ∧ u' = .returning ∧ w' = w := by
  refine callsD_of_wpS Tryz.func61 rfl fun c₀ cs hu => ?_
  apply wpS_seq
  apply wpS_region
  simp [wpOpsS, go_sem, recoverD, hu, Tryz.ntmps61, Exit.thenS]
  have hq : ∀ w, (binOp .neq 20 .nilIface .nilIface).run Tryz.prog w = .ok (.bool false) w := fun _ => by kernel_rfl
  refine wpS_of_wp ?_
  rw [show (#[Value.pointer (some p)] ++ ((Array.replicate 6 undef).setIfInBounds 1 Value.nilIface).setIfInBounds 0 Value.nilIface) = #[Value.pointer (some p), Value.nilIface, Value.nilIface, undef, undef, undef, undef] from rfl]
  generalize hQ : (fun (e : Exit) (a' : Act) (w' : World) => bodyPostS Tryz.prog Tryz.f61 c₀ cs _ e a' _ w') = Q
  go_wp2_with fail
  subst hQ
  refine ⟨rfl, .returning, by rw [← hu], .tuple #[], ?_, rfl, rfl, rfl⟩
  simp [results, Tryz.results61]

/-- The result's variable is as it was made. -/
def Unsaid (pb : Nat) (w : World) : Prop := w.cell? ⟨pb, 0, none⟩ = some (vI 0) ∧ w.cell? ⟨pb, 1, none⟩ = some (vI 0) ∧ ∀ o, w.frozen? ⟨pb, o, none⟩ = false

/-- How firstViolation's walk may end. -/
def Walked (pb : Nat) (J : World → Prop) (Pn : Int → Int → World → Prop) (e : Ending) (w1 : World) : Prop :=
  Unsaid pb w1 ∧ ((e = .returned (.tuple #[]) ∧ J w1) ∨ ∃ er at', e = .panicked (viol er at') ∧ Pn er at' w1)

/-- How firstViolation itself ends. -/
def Said1 (pb : Nat) (J : World → Prop) (Pn : Int → Int → World → Prop) (e : Ending) (w' : World) : Prop :=
  ∃ er at' w1, w' = (w1.setCell ⟨pb, 0, none⟩ (vI er)).setCell ⟨pb, 1, none⟩ (vI at') ∧ e = .returned (.agg #[vI er, vI at']) ∧ ((er = 0 ∧ at' = 0 ∧ J w1) ∨ Pn er at' w1)

set_option maxRecDepth 100000 in
set_option maxHeartbeats 400000 in
theorem firstViolation_any (fn : Nat) (cap : Array Value) (w : World) (J : World → Prop) (Pn : Int → Int → World → Prop)
    (hen : ∀ w, (callFunc fn cap).run Tryz.prog w = .ok (.enter fn cap) w)
    (hc : Calls Tryz.prog fn cap (w.alloc (.cells #[vI 0, vI 0] 68)) (Walked w.heap.size J Pn)) :
    Calls Tryz.prog 40 #[.func (.func fn) #[] cap] w (Said1 w.heap.size J Pn) := by
  have hmf : ∀ (fn : Fn) (first cap : Array Value) (w : World), (Instr.makeFunc fn first cap).run Tryz.prog w = .ok (.func fn first cap) w := fun _ _ _ _ => rfl
  go_enter_defers Tryz.func40, Tryz.ntmps40
  go_wp2_with fail
  refine hc.mono ?_
  rintro e w1 ⟨⟨u0, u1, uz⟩, (⟨rfl, hJ⟩ | ⟨er, at', rfl, hP⟩)⟩
  · clear hc hen
    go_wp2_with fail
    refine leaves_cons (f := 61) (args := #[.pointer (some ⟨w.heap.size, 0, none⟩)]) (by simp) (by simp [go_sem]) ?_
    refine (catch_idle ⟨w.heap.size, 0, none⟩ _).mono ?_
    rintro e u' w'' ⟨rfl, rfl, rfl⟩
    refine ⟨.agg #[vI 0, vI 0], ?_, 0, 0, w1, rfl, rfl, Or.inl ⟨rfl, rfl, hJ⟩⟩
    rw [results_cell (p := 2) (ty := 68) Tryz.results40]
    simp [go_sem, u0, u1]
  · clear hc hen
    go_wp2_with fail
    refine leaves_cons (f := 61) (args := #[.pointer (some ⟨w.heap.size, 0, none⟩)]) (by simp) (by simp [go_sem]) ?_
    refine (catch_panicking w.heap.size er at' [] _ u0 u1 uz).mono ?_
    rintro e u' w'' ⟨rfl, rfl, rfl⟩
    refine ⟨.agg #[vI er, vI at'], ?_, er, at', w1, rfl, rfl, Or.inr hP⟩
    rw [results_cell (p := 2) (ty := 68) Tryz.results40]
    simp [go_sem, u0, u1]

theorem unsaid_of {w : World} {n : Nat} (h : w.heap[n]? = some (.cells #[vI 0, vI 0] 68)) : Unsaid n w := by
  refine ⟨?_, ?_, ?_⟩
  · unfold World.cell?; simp [h]
  · unfold World.cell?; simp [h]
  · intro o; unfold World.frozen?; simp [h]

set_option maxRecDepth 100000 in
set_option maxHeartbeats 1000000 in
theorem check1_gen (wv pv b : Nat) (G : Int) (fv : Value) (w : World) (hw : w.cell? ⟨wv, 0, none⟩ = some (.pointer (some ⟨b, 0, none⟩))) (h0 : w.cell? ⟨pv, 0, none⟩ = some (vI G)) (a : Option Addr) (l c : Nat) (hfv : fv = .slice a l c) (h1 : w.cell? ⟨pv, 1, none⟩ = some fv) (J : World → Prop) (Pn : Int → Int → World → Prop)
    (ho : Calls Tryz.prog 42 #[.pointer (some ⟨b, 0, none⟩), .agg #[vI G, fv]] w fun e w' => (e = .returned (.tuple #[]) ∧ J w') ∨ ∃ er at', e = .panicked (viol er at') ∧ Pn er at' w') :
    Calls Tryz.prog 41 #[.pointer (some ⟨wv, 0, none⟩), .pointer (some ⟨pv, 0, none⟩)] w fun e w' => (e = .returned (.tuple #[]) ∧ J w') ∨ ∃ er at', e = .panicked (viol er at') ∧ Pn er at' w' := by
  subst hfv
  go_enter Tryz.func41, Tryz.ntmps41
  go_wp2_with fail
  refine ho.mono ?_
  rintro e w1 (⟨rfl, hQ⟩ | ⟨er, at', rfl, hQ⟩)
  · clear ho
    go_wp2_with fail
    go_end0
    exact Or.inl ⟨rfl, hQ⟩
  · clear ho
    go_wp2_with fail
    exact ⟨rfl, Or.inr ⟨er, at', rfl, hQ⟩⟩

/-- The world in which 'over' begins, in Check and Locations. -/
def startG (w : World) (G : Int) (fv : Value) : World :=
  ((((w.alloc (.cells #[vI G, fv] 24)).alloc (.cells rowsC 99)).alloc (.cells (WS.start (vF 39)).cells 102)).alloc (.cells #[.pointer (some ⟨w.heap.size + 2, 0, none⟩)] 64)).alloc (.cells #[vI 0, vI 0] 68)

theorem startG_at (w : World) (G : Int) (fv : Value) : (startG w G fv).heap[w.heap.size]? = some (.cells #[vI G, fv] 24) ∧ (startG w G fv).heap[w.heap.size + 2]? = some (.cells (WS.start (vF 39)).cells 102) ∧
    (startG w G fv).heap[w.heap.size + 3]? = some (.cells #[.pointer (some ⟨w.heap.size + 2, 0, none⟩)] 64) ∧ (startG w G fv).heap[w.heap.size + 4]? = some (.cells #[vI 0, vI 0] 68) ∧ (startG w G fv).heap.size = w.heap.size + 5 ∧ Fr (fun _ => False) w (startG w G fv) := by
  have last : ∀ (v : World) (o : Obj) (n : Nat), v.heap.size = n → (v.alloc o).heap[n]? = some o := fun v o n h => by rw [← h]; exact heap_alloc_last v o
  have past : ∀ (v : World) (o : Obj) (n : Nat), n < v.heap.size → (v.alloc o).heap[n]? = v.heap[n]? := fun v o n h => Go.RowKit.Below.heap_alloc v o n h
  unfold startG
  refine ⟨?_, ?_, ?_, ?_, by simp, Fr.alloc (Fr.alloc (Fr.alloc (Fr.alloc (Fr.alloc (Fr.refl _ w) _) _) _) _) _⟩
  · rw [past _ _ _ (by simp; try omega), past _ _ _ (by simp; try omega), past _ _ _ (by simp; try omega), past _ _ _ (by simp; try omega), last _ _ _ rfl]
  · rw [past _ _ _ (by simp; try omega), past _ _ _ (by simp; try omega), last _ _ _ (by simp; try omega)]
  · rw [past _ _ _ (by simp; try omega), last _ _ _ (by simp; try omega)]
  · rw [last _ _ _ (by simp; try omega)]

/-- How 'over' ends in Check and Locations: what it left, or the violation. -/
def OverJ (w : World) (G : Int) (fs : List PF) (fv : Value) (w' : World) : Prop :=
  Fr (fun k => k = w.heap.size + 2) (startG w G fv) w' ∧ ∃ y, answerP G fs = .ok y ∧ w'.cell? ⟨w.heap.size + 2, 148, none⟩ = some (vI y.1.locs)
def OverN (w : World) (G : Int) (fs : List PF) (fv : Value) (er at' : Int) (w' : World) : Prop :=
  Fr (fun k => k = w.heap.size + 2) (startG w G fv) w' ∧ answerP G fs = .error (er, at')

theorem over_checkG (w : World) (G : Int) (fs : List PF) (fv : Value) (hl : FL (w.heap.size + 2) w fv fs) (hT : Tab w) (h0 : 0 < w.heap.size) :
    Calls Tryz.prog 42 #[.pointer (some ⟨w.heap.size + 2, 0, none⟩), .agg #[vI G, fv]] (startG w G fv) fun e w' => (e = .returned (.tuple #[]) ∧ OverJ w G fs fv w') ∨ ∃ er at', e = .panicked (viol er at') ∧ OverN w G fs fv er at' w' := by
  obtain ⟨s0, s2, s3, s4, hsz, hsf⟩ := startG_at w G fv
  have hon : On (leaving (w.heap.size + 2)) (startG w G fv) (WS.start (vF 39), ()) := ⟨s2, rfl, by show _ ≠ 0; omega, hT.fr hsf (fun h => h)⟩
  refine (over_any (WS.start (vF 39)) (startG w G fv) hon G fv fs (hl.fr hsf (fun _ h => h.elim))).mono ?_
  rintro e w' ⟨hf, hres⟩
  have hsim := sim_answer (w.heap.size + 2) (vF 39) G fs
  cases hx : overP (w.heap.size + 2) G fs (WS.start (vF 39)) with
  | error z =>
    rw [hx] at hres hsim
    exact Or.inr ⟨z.1, z.2, hres, hf, hsim.err⟩
  | ok y =>
    rw [hx] at hres hsim
    obtain ⟨rfl, x, honx, hb⟩ := hres
    obtain ⟨y', hy', hby⟩ := hsim.okk
    refine Or.inl ⟨rfl, hf, y', hy', ?_⟩
    have e : x.locs = y'.1.locs := (congrArg WS.locs (hb.trans hby) : x.bare.locs = y'.1.bare.locs)
    rw [honx.1.facts.2.2.2.2.1, e]

theorem first_check1 (w : World) (G : Int) (fs : List PF) (fv : Value) (hl : FL (w.heap.size + 2) w fv fs) (hT : Tab w) (h0 : 0 < w.heap.size) :
    Calls Tryz.prog 40 #[.func (.func 41) #[] #[.pointer (some ⟨w.heap.size + 3, 0, none⟩), .pointer (some ⟨w.heap.size, 0, none⟩)]]
      ((((w.alloc (.cells #[vI G, fv] 24)).alloc (.cells rowsC 99)).alloc (.cells (WS.start (vF 39)).cells 102)).alloc (.cells #[.pointer (some ⟨w.heap.size + 2, 0, none⟩)] 64))
      (Said1 (w.heap.size + 4) (OverJ w G fs fv) (OverN w G fs fv)) := by
  obtain ⟨s0, s2, s3, s4, hsz, hsf⟩ := startG_at w G fv
  have := firstViolation_any 41 #[.pointer (some ⟨w.heap.size + 3, 0, none⟩), .pointer (some ⟨w.heap.size, 0, none⟩)]
    ((((w.alloc (.cells #[vI G, fv] 24)).alloc (.cells rowsC 99)).alloc (.cells (WS.start (vF 39)).cells 102)).alloc (.cells #[.pointer (some ⟨w.heap.size + 2, 0, none⟩)] 64))
    (OverJ w G fs fv) (OverN w G fs fv) (fun _ => by kernel_rfl) ?_
  · simpa using this
  · obtain ⟨-, a, c, ea, -⟩ := id hl
    have hun : ∀ w', Fr (fun k => k = w.heap.size + 2) (startG w G fv) w' → Unsaid (((((w.alloc (.cells #[vI G, fv] 24)).alloc (.cells rowsC 99)).alloc (.cells (WS.start (vF 39)).cells 102)).alloc (.cells #[.pointer (some ⟨w.heap.size + 2, 0, none⟩)] 64))).heap.size w' := fun w' hf => by
      have e4 : (((((w.alloc (.cells #[vI G, fv] 24)).alloc (.cells rowsC 99)).alloc (.cells (WS.start (vF 39)).cells 102)).alloc (.cells #[.pointer (some ⟨w.heap.size + 2, 0, none⟩)] 64))).heap.size = w.heap.size + 4 := by simp
      rw [e4]
      refine unsaid_of ?_
      rw [hf.block _ (by omega) (by omega)]
      exact s4
    refine (check1_gen (w.heap.size + 3) w.heap.size (w.heap.size + 2) G fv (startG w G fv) ?_ ?_ a fs.length c ea ?_ (OverJ w G fs fv) (OverN w G fs fv) (over_checkG w G fs fv hl hT h0)).mono ?_
    · unfold World.cell?; simp [s3]
    · unfold World.cell?; simp [s0]
    · unfold World.cell?; simp [s0]
    · rintro e w' (⟨rfl, hJ⟩ | ⟨er, at', rfl, hN⟩)
      · exact ⟨hun w' hJ.1, Or.inl ⟨rfl, hJ⟩⟩
      · exact ⟨hun w' hN.1, Or.inr ⟨er, at', rfl, hN⟩⟩

/-- What Check says, what Locations says. -/
def checkP (G : Int) (fs : List PF) : Int := match answerP G fs with | .ok _ => 0 | .error z => z.1
set_option maxRecDepth 100000 in
set_option maxHeartbeats 1000000 in
theorem check_prog (w : World) (G : Int) (fs : List PF) (fv : Value) (hl : FL (w.heap.size + 2) w fv fs) (hT : Tab w) (h0 : 0 < w.heap.size) :
    Calls Tryz.prog 15 #[.agg #[vI G, fv]] w fun e w' => e = .returned (vI (checkP G fs)) ∧ Fr (fun _ => False) w w' := by
  have hmf : ∀ (fn : Fn) (first cap : Array Value) (w : World), (Instr.makeFunc fn first cap).run Tryz.prog w = .ok (.func fn first cap) w := fun _ _ _ _ => rfl
  obtain ⟨s0, s2, s3, s4, hsz, hsf⟩ := startG_at w G fv
  have hfv := first_check1 w G fs fv hl hT h0
  obtain ⟨-, a, c, ea, -⟩ := hl
  subst ea
  go_enter Tryz.func15, Tryz.ntmps15
  go_wp2_with fail
  refine (newWalk_any _ _ _ _).mono ?_
  rintro e w1 ⟨rfl, rfl⟩
  go_wp2_with fail
  refine hfv.mono ?_
  rintro e w2 ⟨er, at', w3, rfl, rfl, hcase⟩
  clear hfv
  have hck : Hd (checkP G fs = er ∧ Fr (fun k => k = w.heap.size + 2) (startG w G (.slice a fs.length c)) w3) := by
    unfold Hd checkP
    rcases hcase with ⟨rfl, rfl, hf, y, hy, -⟩ | ⟨hf, hy⟩
    · rw [hy]; exact ⟨rfl, hf⟩
    · rw [hy]; exact ⟨rfl, hf⟩
  clear hcase
  have hfd : ∀ (v : World), (Instr.field 68 (.agg #[vI er, vI at']) 0).run Tryz.prog v = .ok (vI er) v := fun _ => by kernel_rfl
  have hend : Hd (∀ w4, Fr (fun k => w.heap.size ≤ k) w3 w4 → Fr (fun _ => False) w w4) := fun w4 h4 => by
    have h1 : Fr (fun k => w.heap.size ≤ k) w w4 := ((hsf.mono (fun _ _ h => h.elim)).trans (hck.out.2.mono (fun k _ hk => by omega))).trans h4
    exact h1.mono (fun k hk hS => by omega)
  go_wp2_with fail
  go_ret
  refine ⟨by rw [hck.out.1]; rfl, hend.out _ ?_⟩
  repeat first
    | exact Fr.refl _ _
    | refine Fr.drew ?_
    | refine Fr.alloc ?_ _
    | refine Fr.setCell ?_ _ _ (Or.inl (by simp <;> omega))


/-- The document's walk over the heads, the code, the functions: the locations, the first violation. -/
def rHeads : List PF → Int → Int → Int × Int
  | [], L, E => (L, E)
  | f :: fs, L, E => if E = 0 then rHeads fs (headL f.P f.R f.V f.code.length L E) (headE f.P f.R f.V f.code.length L E) else (L, E)
def rCode (G : Int) (fs : List PF) (R V : Int) (fl : Nat) : Nat → List PI → Int → Int → Int × Int
  | _, [], L, E => (L, E)
  | i, c :: cs, L, E => if E = 0 then rCode G fs R V fl (i + 1) cs (opL c.op L) (instrE G fs R V fl c ((i : Int) == (fl : Int) - 1) L E) else (L, E)
def rFuncs (G : Int) (FS : List PF) : List PF → Int → Int → Int × Int
  | [], L, E => (L, E)
  | f :: fs, L, E => if E = 0 then rFuncs G FS fs (rCode G FS f.R f.V f.code.length 0 f.code L E).1 (rCode G FS f.R f.V f.code.length 0 f.code L E).2 else (L, E)
def rE0 (G : Int) : Int := mustE (decide (0 ≤ G) && decide (G ≤ 16)) 18 0
def rE1 (G : Int) (n : Nat) : Int := mustE (decide ((1 : Int) ≤ n) && decide ((n : Int) ≤ 65535)) 20 (rE0 G)
def rHd (G : Int) (fs : List PF) : Int × Int := rHeads fs 0 (rE1 G fs.length)
def rAll (G : Int) (fs : List PF) : Int × Int := rFuncs G fs fs (rHd G fs).1 (rHd G fs).2

/-- What holds between the rounds. -/
def Low (L E : Int) : Prop := 0 ≤ L ∧ (E = 0 → L + 1 ≤ 1048576)
theorem Low.zero (E : Int) : Low 0 E := ⟨by omega, fun _ => by omega⟩
theorem opL_ge {op L : Int} (h : 0 ≤ L) : 0 ≤ opL op L := by unfold opL; split <;> omega
theorem Low.head {P R V n L E : Int} (h : 0 ≤ L) : Low (headL P R V n L E) (headE P R V n L E) := by
  refine ⟨?_, fun he => ?_⟩
  · unfold headL
    split
    · rename_i hz
      unfold headE2 at hz
      have h1 := (mustE_zero (by decide) (mustE_zero (by decide) hz).2).1
      unfold smallB at h1
      simp at h1
      omega
    · exact h
  · unfold headE at he
    have := (mustE_zero (by decide) he).1
    simpa using this
theorem letE_zero {G : Int} {fs : List PF} {R V : Int} {fl : Nat} {c : PI} {u : UInt8} {E : Int} (h : letE G fs R V fl c u E = 0) : E = 0 := by
  unfold letE at h
  by_cases hE : E = 0
  · exact hE
  · exfalso
    have m : ∀ ok e, ¬ mustE ok e E = 0 := fun ok e => mustE_ne ok e E hE
    have l : ∀ m V l, ¬ listE m V l E = 0 := fun _ _ _ hh => hE (listE_zero hh)
    repeat (first | exact m _ _ h | exact l _ _ _ h | exact hE h | split at h)
theorem letE_fold {G : Int} {fs : List PF} {R V : Int} {fl : Nat} {c : PI} : ∀ (l : List UInt8) (E : Int), l.foldl (fun E u => letE G fs R V fl c u E) E = 0 → E = 0
  | [], _, h => h
  | u :: l, E, h => letE_zero (letE_fold l _ h)
theorem Low.instr {G : Int} {fs : List PF} {R V : Int} {fl : Nat} {c : PI} {last : Bool} {L E : Int} (h : 0 ≤ L) : Low (opL c.op L) (instrE G fs R V fl c last L E) := by
  refine ⟨opL_ge h, fun he => ?_⟩
  have h1 := letE_fold _ _ he
  unfold opE at h1
  have := (mustE_zero (by decide) h1).1
  simpa using this

theorem rHeads_ne (fs : List PF) (L : Int) {E : Int} (h : ¬ E = 0) : rHeads fs L E = (L, E) := by cases fs <;> simp [rHeads, h]
theorem rCode_ne (G : Int) (FS : List PF) (R V : Int) (fl i : Nat) (cs : List PI) (L : Int) {E : Int} (h : ¬ E = 0) : rCode G FS R V fl i cs L E = (L, E) := by cases cs <;> simp [rCode, h]
theorem rFuncs_ne (G : Int) (FS fs : List PF) (L : Int) {E : Int} (h : ¬ E = 0) : rFuncs G FS fs L E = (L, E) := by cases fs <;> simp [rFuncs, h]
theorem Low.heads : ∀ (fs : List PF) (L E : Int), Low L E → Low (rHeads fs L E).1 (rHeads fs L E).2
  | [], _, _, h => h
  | f :: fs, L, E, h => by
    by_cases hE : E = 0
    · subst hE; exact Low.heads fs _ _ (Low.head h.1)
    · rw [rHeads_ne _ _ hE]; exact h
theorem Low.code (G : Int) (FS : List PF) (R V : Int) (fl : Nat) : ∀ (cs : List PI) (i : Nat) (L E : Int), Low L E → Low (rCode G FS R V fl i cs L E).1 (rCode G FS R V fl i cs L E).2
  | [], _, _, _, h => h
  | c :: cs, i, L, E, h => by
    by_cases hE : E = 0
    · subst hE; exact Low.code G FS R V fl cs (i + 1) _ _ (Low.instr h.1)
    · rw [rCode_ne _ _ _ _ _ _ _ _ hE]; exact h


/-- The program's walk and the document's stand at the same place. -/
structure Cor (G V : Int) (fl : Nat) (c : PI) (s : WS) (L : Int) : Prop where
  g : s.globals = G
  v : s.fV = V
  l : s.len = fl
  r : s.r = c.r
  ss : s.s = c.s
  t : s.t = c.t
  n : s.n = c.n
  lo : s.locs = L + 1

def AGI (G V : Int) (fl : Nat) (c : PI) (L E : Int) (r : X (WS × Unit)) : Prop := match r with
  | .ok y => E = 0 ∧ Cor G V fl c y.1 L
  | .error z => E = z.1 ∧ z.1 ≠ 0

theorem AGI.cast {G V : Int} {fl : Nat} {c : PI} {L E : Int} {r q : X (WS × Unit)} (e : r = q) (h : AGI G V fl c L E q) : AGI G V fl c L E r := by rw [e]; exact h
theorem mustE_keep {ok : Bool} {e E : Int} (h : ¬ E = 0) : mustE ok e E = E := by unfold mustE; simp [h]
theorem mustE_yes {e E : Int} : mustE true e E = E := by unfold mustE; simp
theorem mustE_no {e : Int} : mustE false e 0 = e := by unfold mustE; simp
theorem Cor.at {G V : Int} {fl : Nat} {c : PI} {s : WS} {L : Int} (h : Cor G V fl c s L) (a : Int) : Cor G V fl c { s with at' := a } L := ⟨h.g, h.v, h.l, h.r, h.ss, h.t, h.n, h.lo⟩

theorem AGI.ask {G V : Int} {fl : Nat} {c : PI} {L E : Int} {r : X (WS × Unit)} (h : AGI G V fl c L E r) (b o size : Nat) (q : WS → Bool) (B : Bool) (er : Int) (he : er ≠ 0) (hq : ∀ s, Cor G V fl c s L → q s = B) :
    AGI G V fl c L (mustE B er E) (thenX r (askX (leaving b) o size q er)) := by
  cases r with
  | error z =>
    have h : E = z.1 ∧ z.1 ≠ 0 := h
    show mustE B er E = z.1 ∧ z.1 ≠ 0
    rw [mustE_keep (by rw [h.1]; exact h.2)]
    exact h
  | ok y =>
    obtain ⟨s, u⟩ := y
    obtain ⟨h0, hc⟩ : E = 0 ∧ Cor G V fl c s L := h
    subst h0
    have e : thenX (.ok (s, u)) (askX (leaving b) o size q er) = if q { s with at' := adv s.at' size } then .ok ({ s with at' := adv s.at' size }, u) else .error (er, s.at') := L_ask o size q er s u
    rw [hq _ (hc.at _)] at e
    refine AGI.cast e ?_
    cases B with
    | true => rw [if_pos rfl, mustE_yes]; exact ⟨rfl, hc.at _⟩
    | false => rw [if_neg (by decide), mustE_no]; exact ⟨rfl, he⟩

theorem varq {V v : Int} (h0 : 0 ≤ V) (h1 : V ≤ 1000000) : decide (0 ≤ v ∧ v ≤ IntKind.i64.wrap (V - 1)) = varB V v := by
  rw [wrap_small (V - 1) (by omega) (by omega)]
  unfold varB
  rw [Bool.eq_iff_iff]
  simp
  omega

section
variable {G V : Int} {fl : Nat} {c : PI} {L E : Int} {r : X (WS × Unit)} {fs : List PF} {R : Int} (b : Nat)

theorem AGI.l82 (h : AGI G V fl c L E r) (h0 : 0 ≤ V) (h1 : V ≤ 255) : AGI G V fl c L (letE G fs R V fl c 82 E) (thenX r (varPart (leaving b) 155)) :=
  h.ask b 155 1 _ (varB V c.r) 13 (by decide) (fun s hs => by
    show decide (0 ≤ s.r ∧ s.r ≤ IntKind.i64.wrap (s.fV - 1)) = _
    rw [hs.r, hs.v]; exact varq h0 (by omega))
theorem AGI.l83 (h : AGI G V fl c L E r) (h0 : 0 ≤ V) (h1 : V ≤ 255) : AGI G V fl c L (letE G fs R V fl c 83 E) (thenX r (varPart (leaving b) 156)) :=
  h.ask b 156 1 _ (varB V c.s) 13 (by decide) (fun s hs => by
    show decide (0 ≤ s.s ∧ s.s ≤ IntKind.i64.wrap (s.fV - 1)) = _
    rw [hs.ss, hs.v]; exact varq h0 (by omega))
theorem AGI.l84 (h : AGI G V fl c L E r) (h0 : 0 ≤ V) (h1 : V ≤ 255) : AGI G V fl c L (letE G fs R V fl c 84 E) (thenX r (varPart (leaving b) 157)) :=
  h.ask b 157 1 _ (varB V c.t) 13 (by decide) (fun s hs => by
    show decide (0 ≤ s.t ∧ s.t ≤ IntKind.i64.wrap (s.fV - 1)) = _
    rw [hs.t, hs.v]; exact varq h0 (by omega))
theorem AGI.l99 (h : AGI G V fl c L E r) : AGI G V fl c L (letE G fs R V fl c 99 E) (thenX r (fieldsPart (leaving b))) :=
  h.ask b 158 1 _ (numB 1 9 c.n) 17 (by decide) (fun s hs => by
    show decide (1 ≤ s.n ∧ s.n ≤ 8) = _
    rw [hs.n]; unfold numB; rw [Bool.eq_iff_iff]; simp; omega)
theorem AGI.l102 (h : AGI G V fl c L E r) : AGI G V fl c L (letE G fs R V fl c 102 E) (thenX r (fieldPart (leaving b))) :=
  h.ask b 158 1 _ (numB 0 8 c.n) 17 (by decide) (fun s hs => by
    show decide (0 ≤ s.n ∧ s.n ≤ 7) = _
    rw [hs.n]; unfold numB; rw [Bool.eq_iff_iff]; simp; omega)
theorem AGI.l103 (h : AGI G V fl c L E r) (h0 : 0 ≤ G) (h1 : G ≤ 16) : AGI G V fl c L (letE G fs R V fl c 103 E) (thenX r (globalPart (leaving b))) :=
  h.ask b 158 1 _ (numB 0 G c.n) 18 (by decide) (fun s hs => by
    show decide (0 ≤ s.n ∧ s.n ≤ IntKind.i64.wrap (s.globals - 1)) = _
    rw [hs.n, hs.g]; exact varq h0 (by omega))
theorem AGI.l74 (h : AGI G V fl c L E r) (h1 : fl ≤ 4096) : AGI G V fl c L (letE G fs R V fl c 74 E) (thenX r (targetPart (leaving b))) :=
  h.ask b 158 2 _ (numB 0 fl c.n) 16 (by decide) (fun s hs => by
    show decide (0 ≤ s.n ∧ s.n ≤ IntKind.i64.wrap (s.len - 1)) = _
    rw [hs.n, hs.l]; exact varq (by omega) (by omega))
theorem AGI.l70 (h : AGI G V fl c L E r) (h1 : fs.length ≤ 65535) : AGI G V fl c L (letE G fs R V fl c 70 E) (thenX r (calleePart (leaving b) fs.length)) :=
  h.ask b 158 2 _ (numB 0 fs.length c.n) 14 (by decide) (fun s hs => by
    show decide (0 ≤ s.n ∧ s.n ≤ IntKind.i64.wrap ((fs.length : Int) - 1)) = _
    rw [hs.n]; exact varq (by omega) (by omega))
theorem AGI.l105 (h : AGI G V fl c L E r) : AGI G V fl c L (letE G fs R V fl c 105 E) (thenX r (intPart (leaving b))) := by
  cases r with
  | error z => exact h
  | ok y =>
    obtain ⟨s, u⟩ := y
    obtain ⟨h0, hc⟩ : E = 0 ∧ Cor G V fl c s L := h
    have e : thenX (.ok (s, u)) (intPart (leaving b)) = .ok ({ s with at' := adv s.at' 8 }, u) := L_next 158 8 s u
    refine AGI.cast e ?_
    exact ⟨h0, hc.at _⟩

theorem varsL_agi (h0 : 0 ≤ V) (h1 : V ≤ 255) : ∀ (l : List Int) (x : WS × Unit), Cor G V fl c x.1 L → AGI G V fl c L (varsE V l 0) (varsL l x)
  | [], x, h => ⟨rfl, h⟩
  | v :: l, x, h => by
    show AGI G V fl c L (varsE V l (mustE (varB V v) 13 0)) (thenX (oneL v x) (varsL l))
    have hq : varOk x.1.fV v = varB V v := by rw [h.v]; exact varq h0 (by omega)
    unfold oneL
    rw [hq]
    cases hb : varB V v with
    | true =>
      rw [if_pos rfl, mustE_yes]
      exact varsL_agi h0 h1 l _ (h.at _)
    | false =>
      rw [if_neg (by decide), mustE_no]
      refine ⟨?_, show (13 : Int) ≠ 0 by decide⟩
      show varsE V l 13 = 13
      have : ∀ (l : List Int), varsE V l 13 = 13 := by
        intro l
        induction l with
        | nil => rfl
        | cons a l ih => show varsE V l (mustE (varB V a) 13 13) = 13; rw [mustE_keep (by decide)]; exact ih
      exact this l
theorem AGI.list (h : AGI G V fl c L E r) (h0 : 0 ≤ V) (h1 : V ≤ 255) (n : Nat) (m : Int) (hm : m = n) (l : List Int) : AGI G V fl c L (listE m V l E) (thenX r (listL n l)) := by
  cases r with
  | error z =>
    have h : E = z.1 ∧ z.1 ≠ 0 := h
    show listE m V l E = z.1 ∧ z.1 ≠ 0
    unfold listE
    rw [if_neg (by rw [h.1]; exact h.2)]
    exact h
  | ok y =>
    obtain ⟨s, u⟩ := y
    obtain ⟨e0, hc⟩ : E = 0 ∧ Cor G V fl c s L := h
    subst e0
    show AGI G V fl c L (listE m V l 0) (listL n l (s, u))
    unfold listE listL
    rw [if_pos rfl]
    by_cases hl : l.length = n
    · rw [if_pos hl, show ((l.length : Int) == m) = true by rw [hm]; simp [hl], mustE_yes]
      exact varsL_agi h0 h1 l _ ⟨hc.g, hc.v, hc.l, hc.r, hc.ss, hc.t, hc.n, hc.lo⟩
    · rw [if_neg hl, show ((l.length : Int) == m) = false by rw [hm]; simpa using (by omega : ¬ (l.length : Int) = n), mustE_no]
      refine ⟨?_, show (15 : Int) ≠ 0 by decide⟩
      show varsE V l 15 = 15
      have : ∀ (l : List Int), varsE V l 15 = 15 := by
        intro l
        induction l with
        | nil => rfl
        | cons a l ih => show varsE V l (mustE (varB V a) 13 15) = 15; rw [mustE_keep (by decide)]; exact ih
      exact this l
end

end Go.Proofs.YtjmbfjaahadbhaaGreatDoor
