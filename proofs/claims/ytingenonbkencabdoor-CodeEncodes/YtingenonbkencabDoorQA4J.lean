import Derived.Test.YtingenonbkencabDoorQA3
import Derived.Defers
import Derived.Recover
set_option linter.unusedVariables false
set_option linter.unusedSimpArgs false
namespace Go.Proofs.YtingenonbkencabDoor
open Go.RowKit (wrap32 wrap64)
def NextAt {b : Nat} (M : Mode b) (rm : M.σ → Nat) : Prop := ∀ (o : Nat), o ∈ places → ∀ (x : WS × M.σ) (size : Nat) (w : World), 1 ≤ rm x.2 → On M w x → 1 ≤ size → size ≤ 8 →
 Calls Tryd.prog 64 #[.pointer (some ⟨b, 0, none⟩), .pointer (some ⟨b, o, none⟩), .int .i64 size] w fun e w' => Fr M.SB w w' ∧
  match nextX M o size x with
  | .ok y => e = .returned (vI x.1.at') ∧ On M w' y
  | .error z => e = .panicked (viol z.1 z.2)
theorem NextOwn.at {b : Nat} {M : Mode b} (h : NextOwn M) (rm : M.σ → Nat) : NextAt M rm := fun o ho x size w _ hon h1 h8 => h o ho x size w hon h1 h8
def RoomGoes {b : Nat} (M : Mode b) (rm : M.σ → Nat) : Prop := ∀ o size x y, nextX M o size x = .ok y → rm x.2 ≤ rm y.2 + 1
set_option maxRecDepth 100000
set_option maxHeartbeats 400000
theorem catch_panicking (pb : Nat) (er at' : Int) (older : List PanicEntry) (w : World) (h0 : w.cell? ⟨pb, 0, none⟩ = some (vI 0)) (h1 : w.cell? ⟨pb, 1, none⟩ = some (vI 0)) (hz : ∀ o, w.frozen? ⟨pb, o, none⟩ = false) :
 CallsD Tryd.prog 37 #[.pointer (some ⟨pb, 0, none⟩)] (.panicking ({ v := .iface 50 (.agg #[vI er, vI at']), recovered := false } :: older)) w fun e u' w' =>
  e = .returned (.tuple #[]) ∧ u' = .panicking ({ v := .iface 50 (.agg #[vI er, vI at']), recovered := true } :: older) ∧ w' = (w.setCell ⟨pb, 0, none⟩ (vI er)).setCell ⟨pb, 1, none⟩ (vI at') := by
 refine callsD_of_wpS Tryd.func37 rfl fun c₀ cs hu => ?_
 apply wpS_seq
 apply wpS_region
 simp [wpOpsS, go_sem, recoverD, hu, Tryd.ntmps37, Exit.thenS]
 have hq : ∀ w, (binOp .neq 20 (.iface 50 (.agg #[vI er, vI at'])) .nilIface).run Tryd.prog w = .ok (.bool true) w := fun _ => by kernel_rfl
 have hta : ∀ w, (Instr.typeAssert (.iface 50 (.agg #[vI er, vI at'])) 20 50 false).run Tryd.prog w = .ok (.agg #[vI er, vI at']) w := fun _ => by kernel_rfl
 refine wpS_of_wp ?_
 rw [show (#[Value.pointer (some ⟨pb, 0, none⟩)] ++ ((Array.replicate 6 undef).setIfInBounds 1 (Value.iface 50 (Value.agg #[vI er, vI at']))).setIfInBounds 0 (Value.iface 50 (Value.agg #[vI er, vI at']))) = #[Value.pointer (some ⟨pb, 0, none⟩), Value.iface 50 (Value.agg #[vI er, vI at']), Value.iface 50 (Value.agg #[vI er, vI at']), undef, undef, undef, undef] from rfl]
 generalize hQ : (fun (e : Exit) (a' : Act) (w' : World) => bodyPostS Tryd.prog Tryd.f37 c₀ cs _ e a' _ w') = Q
 go_wp2_with fail
 subst hQ
 refine ⟨rfl, _, rfl, .tuple #[], ?_, rfl, rfl, rfl⟩
 simp [results, Tryd.results37]
theorem catch_idle (p : Addr) (w : World) :
 CallsD Tryd.prog 37 #[.pointer (some p)] .returning w fun e u' w' => e = .returned (.tuple #[]) ∧ u' = .returning ∧ w' = w := by
 refine callsD_of_wpS Tryd.func37 rfl fun c₀ cs hu => ?_
 apply wpS_seq
 apply wpS_region
 simp [wpOpsS, go_sem, recoverD, hu, Tryd.ntmps37, Exit.thenS]
 have hq : ∀ w, (binOp .neq 20 .nilIface .nilIface).run Tryd.prog w = .ok (.bool false) w := fun _ => by kernel_rfl
 refine wpS_of_wp ?_
 rw [show (#[Value.pointer (some p)] ++ ((Array.replicate 6 undef).setIfInBounds 1 Value.nilIface).setIfInBounds 0 Value.nilIface) = #[Value.pointer (some p), Value.nilIface, Value.nilIface, undef, undef, undef, undef] from rfl]
 generalize hQ : (fun (e : Exit) (a' : Act) (w' : World) => bodyPostS Tryd.prog Tryd.f37 c₀ cs _ e a' _ w') = Q
 go_wp2_with fail
 subst hQ
 refine ⟨rfl, .returning, by rw [← hu], .tuple #[], ?_, rfl, rfl, rfl⟩
 simp [results, Tryd.results37]
def Unsaid (pb : Nat) (w : World) : Prop := w.cell? ⟨pb, 0, none⟩ = some (vI 0) ∧ w.cell? ⟨pb, 1, none⟩ = some (vI 0) ∧ ∀ o, w.frozen? ⟨pb, o, none⟩ = false
def Walked (pb : Nat) (J : World → Prop) (Pn : Int → Int → World → Prop) (e : Ending) (w1 : World) : Prop :=
 Unsaid pb w1 ∧ ((e = .returned (.tuple #[]) ∧ J w1) ∨ ∃ er at', e = .panicked (viol er at') ∧ Pn er at' w1)
def Said1 (pb : Nat) (J : World → Prop) (Pn : Int → Int → World → Prop) (e : Ending) (w' : World) : Prop :=
 ∃ er at' w1, w' = (w1.setCell ⟨pb, 0, none⟩ (vI er)).setCell ⟨pb, 1, none⟩ (vI at') ∧ e = .returned (.agg #[vI er, vI at']) ∧ ((er = 0 ∧ at' = 0 ∧ J w1) ∨ Pn er at' w1)
theorem firstViolation_any (fn : Nat) (cap : Array Value) (w : World) (J : World → Prop) (Pn : Int → Int → World → Prop)
 (hen : ∀ w, (callFunc fn cap).run Tryd.prog w = .ok (.enter fn cap) w)
 (hc : Calls Tryd.prog fn cap (w.alloc (.cells #[vI 0, vI 0] 50)) (Walked w.heap.size J Pn)) :
 Calls Tryd.prog 20 #[.func (.func fn) #[] cap] w (Said1 w.heap.size J Pn) := by
 have hmf : ∀ (fn : _root_.Go.Fn) (first cap : Array Value) (w : World), (Instr.makeFunc fn first cap).run Tryd.prog w = .ok (.func fn first cap) w := fun _ _ _ _ => rfl
 go_enter_defers Tryd.func20, Tryd.ntmps20
 go_wp2_with fail
 refine hc.mono ?_
 rintro e w1 ⟨⟨u0, u1, uz⟩, (⟨rfl, hJ⟩ | ⟨er, at', rfl, hP⟩)⟩
 ·clear hc hen
  go_wp2_with fail
  refine leaves_cons (f := 37) (args := #[.pointer (some ⟨w.heap.size, 0, none⟩)]) (by simp) (by simp [go_sem]) ?_
  refine (catch_idle ⟨w.heap.size, 0, none⟩ _).mono ?_
  rintro e u' w'' ⟨rfl, rfl, rfl⟩
  refine ⟨.agg #[vI 0, vI 0], ?_, 0, 0, w1, rfl, rfl, Or.inl ⟨rfl, rfl, hJ⟩⟩
  rw [results_cell (p := 2) (ty := 50) Tryd.results20]
  simp [go_sem, u0, u1]
 ·clear hc hen
  go_wp2_with fail
  refine leaves_cons (f := 37) (args := #[.pointer (some ⟨w.heap.size, 0, none⟩)]) (by simp) (by simp [go_sem]) ?_
  refine (catch_panicking w.heap.size er at' [] _ u0 u1 uz).mono ?_
  rintro e u' w'' ⟨rfl, rfl, rfl⟩
  refine ⟨.agg #[vI er, vI at'], ?_, er, at', w1, rfl, rfl, Or.inr hP⟩
  rw [results_cell (p := 2) (ty := 50) Tryd.results20]
  simp [go_sem, u0, u1]
end Go.Proofs.YtingenonbkencabDoor
