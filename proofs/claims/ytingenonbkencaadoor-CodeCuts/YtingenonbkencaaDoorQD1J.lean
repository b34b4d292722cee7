import Derived.Test.YtingenonbkencaaDoorQA3J
import Derived.Defers
import Derived.Recover
import Derived.Test.YtingenonbkencaaDoorQF2J
set_option linter.unusedVariables false
set_option linter.unusedSimpArgs false
namespace Go.Proofs.YtingenonbkencaaDoor
open Go.RowKit (wrap32 wrap64)
set_option maxRecDepth 100000
set_option maxHeartbeats 400000
theorem catch_panicking (pb : Nat) (er at' : Int) (older : List PanicEntry) (w : World) (h0 : w.cell? ⟨pb, 0, none⟩ = some (vI 0)) (h1 : w.cell? ⟨pb, 1, none⟩ = some (vI 0)) (hz : ∀ o, w.frozen? ⟨pb, o, none⟩ = false) :
    CallsD Tryd.prog 59 #[.pointer (some ⟨pb, 0, none⟩)] (.panicking ({ v := .iface 50 (.agg #[vI er, vI at']), recovered := false } :: older)) w fun e u' w' =>
      e = .returned (.tuple #[]) ∧ u' = .panicking ({ v := .iface 50 (.agg #[vI er, vI at']), recovered := true } :: older) ∧ w' = (w.setCell ⟨pb, 0, none⟩ (vI er)).setCell ⟨pb, 1, none⟩ (vI at') := by
  refine callsD_of_wpS Tryd.func59 rfl fun c₀ cs hu => ?_
  apply wpS_seq
  apply wpS_region
  simp [wpOpsS, go_sem, recoverD, hu, Tryd.ntmps59, Exit.thenS]
  have hq : ∀ w, (binOp .neq 20 (.iface 50 (.agg #[vI er, vI at'])) .nilIface).run Tryd.prog w = .ok (.bool true) w := fun _ => by kernel_rfl
  have hta : ∀ w, (Instr.typeAssert (.iface 50 (.agg #[vI er, vI at'])) 20 50 false).run Tryd.prog w = .ok (.agg #[vI er, vI at']) w := fun _ => by kernel_rfl
  refine wpS_of_wp ?_
  rw [show (#[Value.pointer (some ⟨pb, 0, none⟩)] ++ ((Array.replicate 6 undef).setIfInBounds 1 (Value.iface 50 (Value.agg #[vI er, vI at']))).setIfInBounds 0 (Value.iface 50 (Value.agg #[vI er, vI at']))) = #[Value.pointer (some ⟨pb, 0, none⟩), Value.iface 50 (Value.agg #[vI er, vI at']), Value.iface 50 (Value.agg #[vI er, vI at']), undef, undef, undef, undef] from rfl]
  generalize hQ : (fun (e : Exit) (a' : Act) (w' : World) => bodyPostS Tryd.prog Tryd.f59 c₀ cs _ e a' _ w') = Q
  go_wp2_with fail
  subst hQ
  refine ⟨rfl, _, rfl, .tuple #[], ?_, rfl, rfl, rfl⟩
  simp [results, Tryd.results59]
theorem catch_idle (p : Addr) (w : World) :
    CallsD Tryd.prog 59 #[.pointer (some p)] .returning w fun e u' w' => e = .returned (.tuple #[]) ∧ u' = .returning ∧ w' = w := by
  refine callsD_of_wpS Tryd.func59 rfl fun c₀ cs hu => ?_
  apply wpS_seq
  apply wpS_region
  simp [wpOpsS, go_sem, recoverD, hu, Tryd.ntmps59, Exit.thenS]
  have hq : ∀ w, (binOp .neq 20 .nilIface .nilIface).run Tryd.prog w = .ok (.bool false) w := fun _ => by kernel_rfl
  refine wpS_of_wp ?_
  rw [show (#[Value.pointer (some p)] ++ ((Array.replicate 6 undef).setIfInBounds 1 Value.nilIface).setIfInBounds 0 Value.nilIface) = #[Value.pointer (some p), Value.nilIface, Value.nilIface, undef, undef, undef, undef] from rfl]
  generalize hQ : (fun (e : Exit) (a' : Act) (w' : World) => bodyPostS Tryd.prog Tryd.f59 c₀ cs _ e a' _ w') = Q
  go_wp2_with fail
  subst hQ
  refine ⟨rfl, .returning, by rw [← hu], .tuple #[], ?_, rfl, rfl, rfl⟩
  simp [results, Tryd.results59]
def Unsaid (pb : Nat) (w : World) : Prop := w.cell? ⟨pb, 0, none⟩ = some (vI 0) ∧ w.cell? ⟨pb, 1, none⟩ = some (vI 0) ∧ ∀ o, w.frozen? ⟨pb, o, none⟩ = false
def Walked (pb : Nat) (J : World → Prop) (Pn : Int → Int → World → Prop) (e : Ending) (w1 : World) : Prop :=
  Unsaid pb w1 ∧ ((e = .returned (.tuple #[]) ∧ J w1) ∨ ∃ er at', e = .panicked (viol er at') ∧ Pn er at' w1)
def Said1 (pb : Nat) (J : World → Prop) (Pn : Int → Int → World → Prop) (e : Ending) (w' : World) : Prop :=
  ∃ er at' w1, w' = (w1.setCell ⟨pb, 0, none⟩ (vI er)).setCell ⟨pb, 1, none⟩ (vI at') ∧ e = .returned (.agg #[vI er, vI at']) ∧ ((er = 0 ∧ at' = 0 ∧ J w1) ∨ Pn er at' w1)
theorem firstViolation_any (fn : Nat) (cap : Array Value) (w : World) (J : World → Prop) (Pn : Int → Int → World → Prop)
    (hen : ∀ w, (callFunc fn cap).run Tryd.prog w = .ok (.enter fn cap) w)
    (hc : Calls Tryd.prog fn cap (w.alloc (.cells #[vI 0, vI 0] 50)) (Walked w.heap.size J Pn)) :
    Calls Tryd.prog 31 #[.func (.func fn) #[] cap] w (Said1 w.heap.size J Pn) := by
  have hmf : ∀ (fn : Fn) (first cap : Array Value) (w : World), (Instr.makeFunc fn first cap).run Tryd.prog w = .ok (.func fn first cap) w := fun _ _ _ _ => rfl
  go_enter_defers Tryd.func31, Tryd.ntmps31
  go_wp2_with fail
  refine hc.mono ?_
  rintro e w1 ⟨⟨u0, u1, uz⟩, (⟨rfl, hJ⟩ | ⟨er, at', rfl, hP⟩)⟩
  · clear hc hen
    go_wp2_with fail
    refine leaves_cons (f := 59) (args := #[.pointer (some ⟨w.heap.size, 0, none⟩)]) (by simp) (by simp [go_sem]) ?_
    refine (catch_idle ⟨w.heap.size, 0, none⟩ _).mono ?_
    rintro e u' w'' ⟨rfl, rfl, rfl⟩
    refine ⟨.agg #[vI 0, vI 0], ?_, 0, 0, w1, rfl, rfl, Or.inl ⟨rfl, rfl, hJ⟩⟩
    rw [results_cell (p := 2) (ty := 50) Tryd.results31]
    simp [go_sem, u0, u1]
  · clear hc hen
    go_wp2_with fail
    refine leaves_cons (f := 59) (args := #[.pointer (some ⟨w.heap.size, 0, none⟩)]) (by simp) (by simp [go_sem]) ?_
    refine (catch_panicking w.heap.size er at' [] _ u0 u1 uz).mono ?_
    rintro e u' w'' ⟨rfl, rfl, rfl⟩
    refine ⟨.agg #[vI er, vI at'], ?_, er, at', w1, rfl, rfl, Or.inr hP⟩
    rw [results_cell (p := 2) (ty := 50) Tryd.results31]
    simp [go_sem, u0, u1]
set_option maxRecDepth 100000
set_option maxHeartbeats 1000000
def Went (pq : Nat) (J : Int → Option Addr → Nat → Nat → World → Prop) (Pn : Int → Int → World → Prop) (e : Ending) (w1 : World) : Prop :=
  (∃ G a n c, e = .returned (.agg #[vI G, .slice a n c]) ∧ J G a n c w1 ∧ (∃ u0 u1, w1.cell? ⟨pq, 0, none⟩ = some u0 ∧ w1.cell? ⟨pq, 1, none⟩ = some u1) ∧ ∀ o, w1.frozen? ⟨pq, o, none⟩ = false) ∨
    ∃ er at', e = .panicked (viol er at') ∧ Pn er at' w1
def Went1 (pq : Nat) (J : Int → Option Addr → Nat → Nat → World → Prop) (Pn : Int → Int → World → Prop) (e : Ending) (w1 : World) : Prop :=
  (e = .returned (.tuple #[]) ∧ ∃ G a n c w0, J G a n c w0 ∧ w1 = (w0.setCell ⟨pq, 0, none⟩ (vI G)).setCell ⟨pq, 1, none⟩ (.slice a n c)) ∨
    ∃ er at', e = .panicked (viol er at') ∧ Pn er at' w1
theorem decode1_any (wv rq pq b : Nat) (ra : Option Addr) (rl rc : Nat) (w : World) (hw : w.cell? ⟨wv, 0, none⟩ = some (.pointer (some ⟨b, 0, none⟩))) (hr : w.cell? ⟨rq, 0, none⟩ = some (.slice ra rl rc))
    (J : Int → Option Addr → Nat → Nat → World → Prop) (Pn : Int → Int → World → Prop)
    (ht : Calls Tryd.prog 33 #[.pointer (some ⟨b, 0, none⟩), .agg #[.slice ra rl rc]] w (Went pq J Pn)) :
    Calls Tryd.prog 32 #[.pointer (some ⟨wv, 0, none⟩), .pointer (some ⟨rq, 0, none⟩), .pointer (some ⟨pq, 0, none⟩)] w (Went1 pq J Pn) := by
  go_enter Tryd.func32, Tryd.ntmps32
  go_wp2_with fail
  refine ht.mono ?_
  rintro e w1 (⟨G, a, n, c, rfl, hJ, ⟨u0, u1, h0, h1⟩, hz⟩ | ⟨er, at', rfl, hP⟩)
  · clear ht
    go_wp2_with fail
    go_end0
    exact Or.inl ⟨rfl, G, a, n, c, w1, hJ, rfl⟩
  · clear ht
    go_wp2_with fail
    exact ⟨rfl, Or.inr ⟨er, at', rfl, hP⟩⟩
set_option maxRecDepth 100000
set_option maxHeartbeats 1000000
def startW (w : World) (rv : Value) : World :=
  ((((((w.alloc (.cells #[vI 0, .slice none 0 0] 26)).alloc (.cells #[rv] 45)).alloc (.cells rowsC 85)).alloc (.cells (WS.start (readerFn rv)).cells 87)).alloc (.cells #[.pointer (some ⟨w.heap.size + 3, 0, none⟩)] 46)).alloc (.cells #[vI 0, .slice none 0 0] 26)).alloc (.cells #[vI 0, vI 0] 50)
def Spared (n : Nat) (w : World) : Prop := w.heap[n]? = some (.cells #[vI 0, .slice none 0 0] 26) ∧ Unsaid (n + 6) w
theorem results_cell3 {fn : Func} {p u v : Tmp} {ty : TypeId} (h : fn.results = #[.cell p ty, .tmp u, .tmp v]) (tmps : Array Value) (P : Program) (w : World) :
    (results fn tmps).run P w = ((asAddr (tmps.getD p undef)).run P w).andThen fun a w₁ => ((loadVar ty a).run P w₁).andThen fun x w₂ => .ok (.tuple #[x, tmps.getD u undef, tmps.getD v undef]) w₂ := by
  simp only [results, h]
  simp [Sem.run_bind, Result.andThen]
def Decoded (n : Nat) (J : Int → Option Addr → Nat → Nat → World → Prop) (Pn : Int → Int → World → Prop) (e : Ending) (w' : World) : Prop :=
  (∃ G a l c w0, J G a l c w0 ∧ e = .returned (.tuple #[.agg #[vI G, .slice a l c], vI 0, vI 0]) ∧ Fr (fun k => n ≤ k ∧ k < n + 7) w0 w') ∨
    ∃ er at' w0, Pn er at' w0 ∧ e = .returned (.tuple #[.agg #[vI 0, .slice none 0 0], vI er, vI at']) ∧ Fr (fun k => n ≤ k ∧ k < n + 7) w0 w'
theorem decode_any (ra : Option Addr) (rl rc : Nat) (w : World) (J : Int → Option Addr → Nat → Nat → World → Prop) (Pn : Int → Int → World → Prop)
    (hJ0 : ∀ G a n c w0, J G a n c w0 → Spared w.heap.size w0 ∧ (∃ u0 u1, w0.cell? ⟨w.heap.size + 5, 0, none⟩ = some u0 ∧ w0.cell? ⟨w.heap.size + 5, 1, none⟩ = some u1))
    (hP0 : ∀ er at' w0, Pn er at' w0 → er ≠ 0 ∧ Spared w.heap.size w0)
    (ht : Calls Tryd.prog 33 #[.pointer (some ⟨w.heap.size + 3, 0, none⟩), .agg #[.slice ra rl rc]] (startW w (.slice ra rl rc)) (Went (w.heap.size + 5) J Pn)) :
    Calls Tryd.prog 10 #[.slice ra rl rc] w (Decoded w.heap.size J Pn) := by
  have hmf : ∀ (fn : Fn) (first cap : Array Value) (w : World), (Instr.makeFunc fn first cap).run Tryd.prog w = .ok (.func fn first cap) w := fun _ _ _ _ => rfl
  generalize hR : w.heap.size = R at *
  have hfv : Calls Tryd.prog 31 #[.func (.func 32) #[] #[.pointer (some ⟨R + 4, 0, none⟩), .pointer (some ⟨R + 1, 0, none⟩), .pointer (some ⟨R + 5, 0, none⟩)]]
      ((((((w.alloc (.cells #[vI 0, .slice none 0 0] 26)).alloc (.cells #[.slice ra rl rc] 45)).alloc (.cells rowsC 85)).alloc (.cells (WS.start (readerFn (.slice ra rl rc))).cells 87)).alloc (.cells #[.pointer (some ⟨R + 3, 0, none⟩)] 46)).alloc (.cells #[vI 0, .slice none 0 0] 26))
      (Said1 (R + 6) (fun w1 => ∃ G a n c w0, J G a n c w0 ∧ w1 = (w0.setCell ⟨R + 5, 0, none⟩ (vI G)).setCell ⟨R + 5, 1, none⟩ (.slice a n c)) Pn) := by
    have hsz : ((((((w.alloc (.cells #[vI 0, .slice none 0 0] 26)).alloc (.cells #[.slice ra rl rc] 45)).alloc (.cells rowsC 85)).alloc (.cells (WS.start (readerFn (.slice ra rl rc))).cells 87)).alloc (.cells #[.pointer (some ⟨R + 3, 0, none⟩)] 46)).alloc (.cells #[vI 0, .slice none 0 0] 26)).heap.size = R + 6 := by simp [hR]
    have := firstViolation_any 32 #[.pointer (some ⟨R + 4, 0, none⟩), .pointer (some ⟨R + 1, 0, none⟩), .pointer (some ⟨R + 5, 0, none⟩)]
      ((((((w.alloc (.cells #[vI 0, .slice none 0 0] 26)).alloc (.cells #[.slice ra rl rc] 45)).alloc (.cells rowsC 85)).alloc (.cells (WS.start (readerFn (.slice ra rl rc))).cells 87)).alloc (.cells #[.pointer (some ⟨R + 3, 0, none⟩)] 46)).alloc (.cells #[vI 0, .slice none 0 0] 26))
      (fun w1 => ∃ G a n c w0, J G a n c w0 ∧ w1 = (w0.setCell ⟨R + 5, 0, none⟩ (vI G)).setCell ⟨R + 5, 1, none⟩ (.slice a n c)) Pn (fun _ => by kernel_rfl)
    rw [hsz] at this
    refine this ?_
    have hst : startW w (.slice ra rl rc) = ((((((w.alloc (.cells #[vI 0, .slice none 0 0] 26)).alloc (.cells #[.slice ra rl rc] 45)).alloc (.cells rowsC 85)).alloc (.cells (WS.start (readerFn (.slice ra rl rc))).cells 87)).alloc (.cells #[.pointer (some ⟨R + 3, 0, none⟩)] 46)).alloc (.cells #[vI 0, .slice none 0 0] 26)).alloc (.cells #[vI 0, vI 0] 50) := by
      unfold startW; rw [hR]
    rw [← hst]
    refine (decode1_any (R + 4) (R + 1) (R + 5) (R + 3) ra rl rc _ ?_ ?_ J Pn ht).mono ?_
    · rw [hst]
      rw [World.cell?_alloc_past _ _ _ (by simp [hR]), World.cell?_alloc_past _ _ _ (by simp [hR]), World.cell?_alloc_at _ _ _ _ (by simp [hR])]; rfl
    · rw [hst]
      rw [World.cell?_alloc_past _ _ _ (by simp [hR]), World.cell?_alloc_past _ _ _ (by simp [hR]), World.cell?_alloc_past _ _ _ (by simp [hR]), World.cell?_alloc_past _ _ _ (by simp [hR]), World.cell?_alloc_past _ _ _ (by simp [hR]), World.cell?_alloc_at _ _ _ _ (by simp [hR])]; rfl
    · rintro e w1 (⟨rfl, G, a, n, c, w0, hJ, rfl⟩ | ⟨er, at', rfl, hP⟩)
      · have hu := (hJ0 _ _ _ _ _ hJ).1.2
        refine ⟨⟨?_, ?_, ?_⟩, Or.inl ⟨rfl, G, a, n, c, w0, hJ, rfl⟩⟩
        · rw [World.cell?_setCell_other _ _ _ _ (by simp), World.cell?_setCell_other _ _ _ _ (by simp)]; exact hu.1
        · rw [World.cell?_setCell_other _ _ _ _ (by simp), World.cell?_setCell_other _ _ _ _ (by simp)]; exact hu.2.1
        · intro o; rw [World.frozen?_setCell, World.frozen?_setCell]; exact hu.2.2 o
      · exact ⟨(hP0 _ _ _ hP).2.2, Or.inr ⟨er, at', rfl, hP⟩⟩
  clear ht
  go_enter Tryd.func10, Tryd.ntmps10
  go_wp2_with fail
  refine (newWalk_any _ _ _ _).mono ?_
  rintro e w1 ⟨rfl, rfl⟩
  go_wp2_with fail
  refine hfv.mono ?_
  rintro e w2 ⟨er, at', w3, rfl, rfl, hcase⟩
  clear hfv
  rcases hcase with ⟨rfl, rfl, G, a, n, c, w0, hJ, rfl⟩ | hP
  · obtain ⟨⟨hs1, hs2, hs3, hs4⟩, u0, u1, hu0, hu1⟩ := hJ0 _ _ _ _ _ hJ
    have hlt6 : R + 6 < w0.heap.size := by
      unfold World.cell? at hs2
      by_cases hk : R + 6 < w0.heap.size
      · exact hk
      · simp [Array.getElem?_eq_none (Nat.le_of_not_lt hk)] at hs2
    have hfr : Fr (fun k => R ≤ k ∧ k < R + 7) w0 ((((w0.setCell ⟨R + 5, 0, none⟩ (vI G)).setCell ⟨R + 5, 1, none⟩ (.slice a n c)).setCell ⟨R + 6, 0, none⟩ (vI 0)).setCell ⟨R + 6, 1, none⟩ (vI 0)) :=
      Fr.setCell (Fr.setCell (Fr.setCell (Fr.setCell (Fr.refl _ w0) _ _ (Or.inl ⟨by show R ≤ R + 5; omega, by show R + 5 < R + 7; omega⟩)) _ _ (Or.inl ⟨by show R ≤ R + 5; omega, by show R + 5 < R + 7; omega⟩)) _ _ (Or.inl ⟨by show R ≤ R + 6; omega, by show R + 6 < R + 7; omega⟩)) _ _ (Or.inl ⟨by show R ≤ R + 6; omega, by show R + 6 < R + 7; omega⟩)
    have c0 : ((((w0.setCell ⟨R + 5, 0, none⟩ (vI G)).setCell ⟨R + 5, 1, none⟩ (.slice a n c)).setCell ⟨R + 6, 0, none⟩ (vI 0)).setCell ⟨R + 6, 1, none⟩ (vI 0)).cell? ⟨R + 5, 0, none⟩ = some (vI G) := by
      rw [World.cell?_setCell_other _ _ _ _ (by simp), World.cell?_setCell_other _ _ _ _ (by simp), World.cell?_setCell_other _ _ _ _ (by simp)]
      exact World.cell?_setCell_same _ _ _ hu0
    have c1 : ((((w0.setCell ⟨R + 5, 0, none⟩ (vI G)).setCell ⟨R + 5, 1, none⟩ (.slice a n c)).setCell ⟨R + 6, 0, none⟩ (vI 0)).setCell ⟨R + 6, 1, none⟩ (vI 0)).cell? ⟨R + 5, 1, none⟩ = some (.slice a n c) := by
      rw [World.cell?_setCell_other _ _ _ _ (by simp), World.cell?_setCell_other _ _ _ _ (by simp)]
      exact World.cell?_setCell_same _ _ _ (by rw [World.cell?_setCell_other _ _ _ _ (by simp)]; exact hu1)
    have cR : ((((w0.setCell ⟨R + 5, 0, none⟩ (vI G)).setCell ⟨R + 5, 1, none⟩ (.slice a n c)).setCell ⟨R + 6, 0, none⟩ (vI 0)).setCell ⟨R + 6, 1, none⟩ (vI 0)).heap[R]? = some (.cells #[vI 0, .slice none 0 0] 26) := by
      rw [RowKit.Below.heap_setCell _ _ _ _ (by show R ≠ R + 6; omega), RowKit.Below.heap_setCell _ _ _ _ (by show R ≠ R + 6; omega), RowKit.Below.heap_setCell _ _ _ _ (by show R ≠ R + 5; omega), RowKit.Below.heap_setCell _ _ _ _ (by show R ≠ R + 5; omega)]; exact hs1
    have hsz2 : R + 6 < ((((w0.setCell ⟨R + 5, 0, none⟩ (vI G)).setCell ⟨R + 5, 1, none⟩ (.slice a n c)).setCell ⟨R + 6, 0, none⟩ (vI 0)).setCell ⟨R + 6, 1, none⟩ (vI 0)).heap.size := by simpa using hlt6
    generalize ((((w0.setCell ⟨R + 5, 0, none⟩ (vI G)).setCell ⟨R + 5, 1, none⟩ (.slice a n c)).setCell ⟨R + 6, 0, none⟩ (vI 0)).setCell ⟨R + 6, 1, none⟩ (vI 0)) = w4 at hfr c0 c1 cR hsz2 ⊢
    have cR0 : w4.cell? ⟨R, 0, none⟩ = some (vI 0) := by unfold World.cell?; simp [cR]
    have cR1 : w4.cell? ⟨R, 1, none⟩ = some (.slice none 0 0) := by unfold World.cell?; simp [cR]
    have cRz : ∀ o, w4.frozen? ⟨R, o, none⟩ = false := by intro o; unfold World.frozen?; simp [cR]
    have hRl : R < w4.heap.size := by omega
    have hR5 : R + 5 < w4.heap.size := by omega
    have hRx : R + 1 + 1 + 1 + 1 + 1 < w4.heap.size := by omega
    go_wp2_with fail
    refine ⟨rfl, .tuple #[.agg #[vI G, .slice a n c], vI 0, vI 0], ?_, Or.inl ⟨G, a, n, c, w0, hJ, rfl, ?_⟩⟩
    · rw [results_cell3 (p := 2) (u := 3) (v := 4) (ty := 26) Tryd.results10]
      simp [go_sem, cR0, cR1, hRl]
    · exact hfr.trans (Fr.alloc (Fr.setCell (Fr.setCell (Fr.refl _ w4) _ _ (Or.inl ⟨by show R ≤ R; omega, by show R < R + 7; omega⟩)) _ _ (Or.inl ⟨by show R ≤ R; omega, by show R < R + 7; omega⟩)) _)
  · obtain ⟨her, hs1, hs2, hs3, hs4⟩ := hP0 _ _ _ hP
    have hlt6 : R + 6 < w3.heap.size := by
      unfold World.cell? at hs2
      by_cases hk : R + 6 < w3.heap.size
      · exact hk
      · simp [Array.getElem?_eq_none (Nat.le_of_not_lt hk)] at hs2
    have hfr : Fr (fun k => R ≤ k ∧ k < R + 7) w3 ((w3.setCell ⟨R + 6, 0, none⟩ (vI er)).setCell ⟨R + 6, 1, none⟩ (vI at')) :=
      Fr.setCell (Fr.setCell (Fr.refl _ w3) _ _ (Or.inl ⟨by show R ≤ R + 6; omega, by show R + 6 < R + 7; omega⟩)) _ _ (Or.inl ⟨by show R ≤ R + 6; omega, by show R + 6 < R + 7; omega⟩)
    have cR : ((w3.setCell ⟨R + 6, 0, none⟩ (vI er)).setCell ⟨R + 6, 1, none⟩ (vI at')).heap[R]? = some (.cells #[vI 0, .slice none 0 0] 26) := by
      rw [RowKit.Below.heap_setCell _ _ _ _ (by show R ≠ R + 6; omega), RowKit.Below.heap_setCell _ _ _ _ (by show R ≠ R + 6; omega)]; exact hs1
    have hsz2 : R + 6 < ((w3.setCell ⟨R + 6, 0, none⟩ (vI er)).setCell ⟨R + 6, 1, none⟩ (vI at')).heap.size := by simpa using hlt6
    generalize ((w3.setCell ⟨R + 6, 0, none⟩ (vI er)).setCell ⟨R + 6, 1, none⟩ (vI at')) = w4 at hfr cR hsz2 ⊢
    have cR0 : w4.cell? ⟨R, 0, none⟩ = some (vI 0) := by unfold World.cell?; simp [cR]
    have cR1 : w4.cell? ⟨R, 1, none⟩ = some (.slice none 0 0) := by unfold World.cell?; simp [cR]
    have cRz : ∀ o, w4.frozen? ⟨R, o, none⟩ = false := by intro o; unfold World.frozen?; simp [cR]
    have hRl : R < w4.heap.size := by omega
    have hne : (er != 0) = true := by rw [bne_iff_ne]; exact her
    clear her
    go_wp2_with fail
    have d0 : (w4.alloc (.cells #[vI er, vI at'] 50)).cell? ⟨w4.heap.size, 0, none⟩ = some (vI er) := by simp
    have d1 : (w4.alloc (.cells #[vI er, vI at'] 50)).cell? ⟨w4.heap.size, 1, none⟩ = some (vI at') := by simp
    have dR0 : (w4.alloc (.cells #[vI er, vI at'] 50)).cell? ⟨R, 0, none⟩ = some (vI 0) := by rw [World.cell?_alloc_past _ _ _ hRl]; exact cR0
    have dR1 : (w4.alloc (.cells #[vI er, vI at'] 50)).cell? ⟨R, 1, none⟩ = some (.slice none 0 0) := by rw [World.cell?_alloc_past _ _ _ hRl]; exact cR1
    have dRz : ∀ o, (w4.alloc (.cells #[vI er, vI at'] 50)).frozen? ⟨R, o, none⟩ = false := by intro o; rw [World.frozen?_alloc_past _ _ _ hRl]; exact cRz o
    have hfr5 : Fr (fun k => R ≤ k ∧ k < R + 7) w3 (w4.alloc (.cells #[vI er, vI at'] 50)) := Fr.alloc hfr _
    have hl5 : R < (w4.alloc (.cells #[vI er, vI at'] 50)).heap.size := by simp; omega
    change Code.wp _ _ _ _ (w4.alloc (.cells #[vI er, vI at'] 50))
    generalize (w4.alloc (.cells #[vI er, vI at'] 50)) = w5 at d0 d1 dR0 dR1 dRz hfr5 hl5 ⊢
    go_region
    all_goals
      go_wp2_with fail
      refine ⟨rfl, .tuple #[.agg #[vI 0, .slice none 0 0], vI er, vI at'], ?_, Or.inr ⟨er, at', w3, hP, rfl, ?_⟩⟩
      · rw [results_cell3 (p := 2) (u := 3) (v := 4) (ty := 26) Tryd.results10]
        simp [go_sem, dR0, dR1]
      · exact hfr5.trans (Fr.drew (Fr.setCell (Fr.setCell (Fr.refl _ w5) _ _ (Or.inl ⟨by show R ≤ R; omega, by show R < R + 7; omega⟩)) _ _ (Or.inl ⟨by show R ≤ R; omega, by show R < R + 7; omega⟩)))
set_option maxRecDepth 100000
set_option maxHeartbeats 1000000
theorem run_nil_string (w : World) (c : Nat) : (convert 22 9 (.slice none 0 c)).run Tryd.prog w = .ok (.string ⟨#[]⟩) w := by
  rw [run_convert_bytes_string w 22 9 5 _ _ _ Tryd.underlying22 (by kernel_rfl) (by kernel_rfl)]
  rfl
theorem begins_nil (w : World) :
    Calls Tryd.prog 60 #[.agg #[.slice none 0 0]] w fun e w' => e = .returned (.tuple #[]) ∧ w' = (w.alloc (.cells #[.slice none 0 0] 45)).drew := by
  have hcv := run_nil_string
  go_enter Tryd.func60, Tryd.ntmps60
  go_wp2_with fail
  have hcr : (w.alloc (.cells #[.slice none 0 0] 45)).cell? ⟨w.heap.size, 0, none⟩ = some (.slice none 0 0) := by simp
  generalize hwa : (w.alloc (.cells #[.slice none 0 0] 45)) = wa at hcr ⊢
  have Hwa : Hd (w.alloc (.cells #[.slice none 0 0] 45) = wa) := hwa
  clear hwa
  refine wp_region_still_tail 8 mixed (by kernel_rfl) ?_
  simp only [List.take_succ_cons, List.take_zero, List.drop_succ_cons, List.drop_zero]
  repeat still_step
  refine wpStill_nil ?_
  go_wp2_with fail
  refine (must_true 10 0 _).mono ?_
  rintro e w' ⟨rfl, rfl⟩
  go_wp2_with fail
  go_end0
  exact ⟨rfl, by rw [Hwa.out]⟩
end Go.Proofs.YtingenonbkencaaDoor
