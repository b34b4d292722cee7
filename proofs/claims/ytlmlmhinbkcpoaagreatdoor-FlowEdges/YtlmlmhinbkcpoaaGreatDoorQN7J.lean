import Derived.Test.YtlmlmhinbkcpoaaGreatDoorQN5J
import Derived.Test.YtlmlmhinbkcpoaaGreatDoorQA3J
import Derived.Defers
import Derived.Recover
namespace Go.Proofs.YtlmlmhinbkcpoaaGreatDoor
open Go.RowKit (wrap32 wrap64)
set_option linter.unusedVariables false
set_option linter.unusedSimpArgs false
set_option maxRecDepth 100000
set_option maxHeartbeats 1000000
theorem head_b (b : Nat) (x : WS × Unit) : (headX (leaving b) x : X (WS × Unit)) = headX (leaving 0) x := rfl
theorem instr_b (b : Nat) (heads : List (Nat × Nat)) (fR i : Nat) (la lr : List Int) (s : WS) : (instrL (b := b) heads fR i la lr s : X (WS × Unit)) = instrL (b := 0) heads fR i la lr s := rfl
theorem then_eq {c c' : X (WS × Unit)} {p p' : WS × Unit → X (WS × Unit)} (h : c = c') (hp : ∀ y, p y = p' y) : thenX c p = thenX c' p' := by
  subst h
  cases c with
  | ok y => exact hp y
  | error z => rfl
theorem headsP_b (b : Nat) : ∀ (fs : List PF) (s : WS), headsP b fs s = headsP 0 fs s
  | [], _ => rfl
  | f :: r, s => then_eq (head_b b (inF f s, ())) (fun y => headsP_b b r y.1)
theorem codeP_b (b : Nat) (heads : List (Nat × Nat)) (fR : Nat) : ∀ (l : List PI) (i : Nat) (s : WS), codeP b heads fR i l s = codeP 0 heads fR i l s
  | [], _, _ => rfl
  | c :: r, i, s => then_eq (instr_b b heads fR i c.args c.rets (inI c s)) (fun y => codeP_b b heads fR r (i + 1) y.1)
theorem funcsP_b (b : Nat) (heads : List (Nat × Nat)) : ∀ (fs : List PF) (s : WS), funcsP b heads fs s = funcsP 0 heads fs s
  | [], _ => rfl
  | f :: r, s => then_eq (codeP_b b heads f.R.toNat f.code 0 (inF f s)) (fun y => funcsP_b b heads r y.1)
theorem ask_b (b o size : Nat) (c : WS → Bool) (er : Int) (x : WS × Unit) : (askX (leaving b) o size c er x : X (WS × Unit)) = askX (leaving 0) o size c er x := rfl
theorem overP_b (b : Nat) (G : Int) (fs : List PF) (s : WS) : overP b G fs s = overP 0 G fs s :=
  then_eq (ask_b b _ _ _ _ _) (fun y => then_eq (ask_b b _ _ _ _ y) (fun y => then_eq (headsP_b b fs y.1) (fun y => funcsP_b b _ fs y.1)))
theorem sim_overP (G : Int) (fs : List PF) (s s' : WS) (h : s.bare = s'.bare) : SimX (overP 0 G fs s) (overP 0 G fs s') := by
  refine SimX.then (sim_ask (b := 0) 146 1 _ (fun _ => rfl) 18 _ _ ?_) (fun y y' hy => SimX.then (sim_ask (b := 0) 161 2 _ (fun _ => rfl) 20 y y' hy) (fun y y' hy => SimX.then (sim_headsP 0 fs y.1 y'.1 hy) (fun y y' hy => sim_funcsP 0 _ fs y.1 y'.1 hy)))
  exact (congrArg (fun t : WS => ({ t with globals := G, count := (fs.length : Nat) } : WS)) h : ({ s.bare with globals := G, count := (fs.length : Nat) } : WS) = { s'.bare with globals := G, count := (fs.length : Nat) })
def answerP (G : Int) (fs : List PF) : X (WS × Unit) := overP 0 G fs (WS.start nilS)
theorem sim_answer (b : Nat) (v : Value) (G : Int) (fs : List PF) : SimX (overP b G fs (WS.start v)) (answerP G fs) := by
  rw [overP_b]
  exact sim_overP G fs _ _ rfl
def Told (r : X (WS × Unit)) : Prop := ∀ z, r = .error z → z.1 ≠ 0
theorem told_ok (y : WS × Unit) : Told (.ok y) := fun _ h => by cases h
theorem told_then {c : X (WS × Unit)} {p : WS × Unit → X (WS × Unit)} (hc : Told c) (hp : ∀ y, Told (p y)) : Told (thenX c p) := by
  cases c with
  | ok y => exact hp y
  | error z => exact fun z' h => hc z' h
theorem told_next {b : Nat} (o size : Nat) (x : WS × Unit) : Told (nextX (leaving b) o size x) := by
  obtain ⟨s, u⟩ := x
  intro z h
  cases (L_next o size s u).symm.trans h
theorem told_ask {b : Nat} (o size : Nat) (c : WS → Bool) (er : Int) (he : er ≠ 0) (x : WS × Unit) : Told (askX (leaving b) o size c er x) := by
  obtain ⟨s, u⟩ := x
  intro z h
  have h := (L_ask o size c er s u).symm.trans h
  split at h
  · cases h
  · cases h; exact he
theorem told_loc {b : Nat} (n p : Int) (x : WS × Unit) : Told (locX (leaving b) n p x) := by
  intro z h
  unfold locX at h
  split at h
  · cases h
  · cases h; simp
theorem told_front {b : Nat} (ends makes nb : Bool) (i : Nat) (p : Int) (x : WS × Unit) : Told (frontOk (leaving b) ends makes nb i p x) := by
  intro z h
  unfold frontOk at h
  split at h
  · cases h; simp
  · split at h
    · cases h; simp
    · split at h
      · exact told_loc (b := b) 1 p x z h
      · cases h
theorem told_vars : ∀ (l : List Int) (x : WS × Unit), Told (varsL l x)
  | [], _ => told_ok _
  | v :: r, x => by
    refine told_then (c := oneL v x) (p := varsL r) ?_ (fun y => told_vars r y)
    intro z h
    unfold oneL at h
    split at h
    · cases h
    · cases h; simp
theorem told_list (n : Nat) (l : List Int) (x : WS × Unit) : Told (listL n l x) := by
  intro z h
  unfold listL at h
  split at h
  · exact told_vars l _ z h
  · cases h; simp
theorem told_parts {b : Nat} (op : Nat) (c : X (WS × Unit)) (h : Told c) : Told (partsX (leaving b) op c) := by
  have hv : ∀ o (y : WS × Unit), Told (varPart (leaving b) o y) := fun o y => told_ask (b := b) _ _ _ _ (by decide) y
  have hn : ∀ (y : WS × Unit), Told (intPart (leaving b) y) := fun y => told_next (b := b) _ _ y
  have hf : ∀ (y : WS × Unit), Told (fieldsPart (leaving b) y) := fun y => told_ask (b := b) _ _ _ _ (by decide) y
  have hd : ∀ (y : WS × Unit), Told (fieldPart (leaving b) y) := fun y => told_ask (b := b) _ _ _ _ (by decide) y
  have hg : ∀ (y : WS × Unit), Told (globalPart (leaving b) y) := fun y => told_ask (b := b) _ _ _ _ (by decide) y
  have ht : ∀ (y : WS × Unit), Told (targetPart (leaving b) y) := fun y => told_ask (b := b) _ _ _ _ (by decide) y
  match op with
  | 1 => exact told_then (told_then h (hv 155)) hn
  | 2 => exact told_then (told_then h (hv 155)) (hv 156)
  | 3 => exact told_then (told_then (told_then h (hv 155)) (hv 156)) (hv 157)
  | 4 => exact told_then (told_then (told_then h (hv 155)) (hv 156)) (hv 157)
  | 5 => exact told_then (told_then h (hv 155)) (hv 156)
  | 6 => exact told_then (told_then h (hv 155)) hf
  | 7 => exact told_then (told_then (told_then h (hv 155)) (hv 156)) hd
  | 8 => exact told_then (told_then (told_then h (hv 155)) (hv 156)) hd
  | 9 => exact told_then (told_then h (hv 155)) hg
  | 10 => exact told_then (told_then h (hv 156)) hg
  | 12 => exact told_then h (hv 156)
  | 13 => exact told_then h ht
  | 14 => exact told_then (told_then h (hv 156)) ht
  | 16 => exact told_then h (hv 155)
  | 17 => exact told_then (told_then (told_then h (hv 155)) (hv 156)) (hv 157)
  | 0 => exact h
  | 11 => exact h
  | 15 => exact h
  | n + 18 => exact h
theorem told_instr {b : Nat} (heads : List (Nat × Nat)) (fR i : Nat) (la lr : List Int) (s : WS) : Told (instrL (b := b) heads fR i la lr s) := by
  by_cases h1 : 1 ≤ s.op ∧ s.op ≤ 17
  · by_cases h15 : s.op = 15
    · intro z h
      exact told_then (told_front (b := b) _ _ _ _ _ _) (fun y => told_list fR la y) z ((instrL_15 heads fR i la lr s h15).symm.trans h)
    · by_cases h11 : s.op = 11
      · intro z h
        exact told_then (told_then (told_front (b := b) _ _ _ _ _ _) (fun y => told_ask (b := b) _ _ _ _ (by decide) y)) (fun y => told_then (told_list _ la y) (fun y2 => told_list _ lr y2)) z ((instrL_11 heads fR i la lr s h11).symm.trans h)
      · intro z h
        exact told_parts (b := b) _ _ (told_front (b := b) _ _ _ _ _ _) z ((instrL_k heads fR i la lr s h1 h15 h11).symm.trans h)
  · intro z h
    cases (instrL_no heads fR i la lr s h1).symm.trans h
    simp
theorem told_head {b : Nat} (x : WS × Unit) : Told (headX (leaving b) x) := by
  have h2 : Told _ := told_then (told_next (b := b) 149 1 x) fun y1 => told_then (told_next (b := b) 150 1 y1) fun y2 => told_then (told_next (b := b) 151 1 y2) fun y3 => told_then (told_next (b := b) 153 2 y3) fun y4 =>
    (show Told (thenX (headOk y4.1 x.1.at') fun _ => locX (leaving b) y4.1.fV x.1.at' y4) from by
      cases h : headOk y4.1 x.1.at' with
      | ok u => exact told_loc (b := b) _ _ _
      | error z =>
        intro z' hz
        cases hz
        unfold headOk at h
        repeat' split at h
        all_goals first | (cases h; simp) | cases h)
  intro z h
  exact h2 z ((headX_then (leaving b) x).symm.trans h)
theorem told_headsP (b : Nat) : ∀ (fs : List PF) (s : WS), Told (headsP b fs s)
  | [], _ => told_ok _
  | f :: r, s => told_then (told_head (b := b) _) (fun y => told_headsP b r y.1)
theorem told_codeP (b : Nat) (heads : List (Nat × Nat)) (fR : Nat) : ∀ (l : List PI) (i : Nat) (s : WS), Told (codeP b heads fR i l s)
  | [], _, _ => told_ok _
  | c :: r, i, s => told_then (told_instr (b := b) _ _ _ _ _ _) (fun y => told_codeP b heads fR r (i + 1) y.1)
theorem told_funcsP (b : Nat) (heads : List (Nat × Nat)) : ∀ (fs : List PF) (s : WS), Told (funcsP b heads fs s)
  | [], _ => told_ok _
  | f :: r, s => told_then (told_codeP b _ _ _ _ _) (fun y => told_funcsP b heads r y.1)
theorem told_overP (b : Nat) (G : Int) (fs : List PF) (s : WS) : Told (overP b G fs s) :=
  told_then (told_ask (b := b) _ _ _ _ (by decide) _) (fun y => told_then (told_ask (b := b) _ _ _ _ (by decide) y) (fun y => told_then (told_headsP b fs y.1) (fun y => told_funcsP b _ fs y.1)))
theorem catch_panicking (pb : Nat) (er at' : Int) (older : List PanicEntry) (w : World) (h0 : w.cell? ⟨pb, 0, none⟩ = some (vI 0)) (h1 : w.cell? ⟨pb, 1, none⟩ = some (vI 0)) (hz : ∀ o, w.frozen? ⟨pb, o, none⟩ = false) :
    CallsD Tryz.prog 72 #[.pointer (some ⟨pb, 0, none⟩)] (.panicking ({ v := .iface 93 (.agg #[vI er, vI at']), recovered := false } :: older)) w fun e u' w' =>
      e = .returned (.tuple #[]) ∧ u' = .panicking ({ v := .iface 93 (.agg #[vI er, vI at']), recovered := true } :: older) ∧ w' = (w.setCell ⟨pb, 0, none⟩ (vI er)).setCell ⟨pb, 1, none⟩ (vI at') := by
  refine callsD_of_wpS Tryz.func72 rfl fun c₀ cs hu => ?_
  apply wpS_seq
  apply wpS_region
  simp [wpOpsS, go_sem, recoverD, hu, Tryz.ntmps72, Exit.thenS]
  have hq : ∀ w, (binOp .neq 20 (.iface 93 (.agg #[vI er, vI at'])) .nilIface).run Tryz.prog w = .ok (.bool true) w := fun _ => by kernel_rfl
  have hta : ∀ w, (Instr.typeAssert (.iface 93 (.agg #[vI er, vI at'])) 20 93 false).run Tryz.prog w = .ok (.agg #[vI er, vI at']) w := fun _ => by kernel_rfl
  refine wpS_of_wp ?_
  rw [show (#[Value.pointer (some ⟨pb, 0, none⟩)] ++ ((Array.replicate 6 undef).setIfInBounds 1 (Value.iface 93 (Value.agg #[vI er, vI at']))).setIfInBounds 0 (Value.iface 93 (Value.agg #[vI er, vI at']))) = #[Value.pointer (some ⟨pb, 0, none⟩), Value.iface 93 (Value.agg #[vI er, vI at']), Value.iface 93 (Value.agg #[vI er, vI at']), undef, undef, undef, undef] from rfl]
  generalize hQ : (fun (e : Exit) (a' : Act) (w' : World) => bodyPostS Tryz.prog Tryz.f72 c₀ cs _ e a' _ w') = Q
  go_wp2_with fail
  subst hQ
  refine ⟨rfl, _, rfl, .tuple #[], ?_, rfl, rfl, rfl⟩
  simp [results, Tryz.results72]
theorem catch_idle (p : Addr) (w : World) :
    CallsD Tryz.prog 72 #[.pointer (some p)] .returning w fun e u' w' => e = .returned (.tuple #[]) ∧ u' = .returning ∧ w' = w := by
  refine callsD_of_wpS Tryz.func72 rfl fun c₀ cs hu => ?_
  apply wpS_seq
  apply wpS_region
  simp [wpOpsS, go_sem, recoverD, hu, Tryz.ntmps72, Exit.thenS]
  have hq : ∀ w, (binOp .neq 20 .nilIface .nilIface).run Tryz.prog w = .ok (.bool false) w := fun _ => by kernel_rfl
  refine wpS_of_wp ?_
  rw [show (#[Value.pointer (some p)] ++ ((Array.replicate 6 undef).setIfInBounds 1 Value.nilIface).setIfInBounds 0 Value.nilIface) = #[Value.pointer (some p), Value.nilIface, Value.nilIface, undef, undef, undef, undef] from rfl]
  generalize hQ : (fun (e : Exit) (a' : Act) (w' : World) => bodyPostS Tryz.prog Tryz.f72 c₀ cs _ e a' _ w') = Q
  go_wp2_with fail
  subst hQ
  refine ⟨rfl, .returning, by rw [← hu], .tuple #[], ?_, rfl, rfl, rfl⟩
  simp [results, Tryz.results72]
def Unsaid (pb : Nat) (w : World) : Prop := w.cell? ⟨pb, 0, none⟩ = some (vI 0) ∧ w.cell? ⟨pb, 1, none⟩ = some (vI 0) ∧ ∀ o, w.frozen? ⟨pb, o, none⟩ = false
def Walked (pb : Nat) (J : World → Prop) (Pn : Int → Int → World → Prop) (e : Ending) (w1 : World) : Prop :=
  Unsaid pb w1 ∧ ((e = .returned (.tuple #[]) ∧ J w1) ∨ ∃ er at', e = .panicked (viol er at') ∧ Pn er at' w1)
def Said1 (pb : Nat) (J : World → Prop) (Pn : Int → Int → World → Prop) (e : Ending) (w' : World) : Prop :=
  ∃ er at' w1, w' = (w1.setCell ⟨pb, 0, none⟩ (vI er)).setCell ⟨pb, 1, none⟩ (vI at') ∧ e = .returned (.agg #[vI er, vI at']) ∧ ((er = 0 ∧ at' = 0 ∧ J w1) ∨ Pn er at' w1)
theorem firstViolation_any (fn : Nat) (cap : Array Value) (w : World) (J : World → Prop) (Pn : Int → Int → World → Prop)
    (hen : ∀ w, (callFunc fn cap).run Tryz.prog w = .ok (.enter fn cap) w)
    (hc : Calls Tryz.prog fn cap (w.alloc (.cells #[vI 0, vI 0] 93)) (Walked w.heap.size J Pn)) :
    Calls Tryz.prog 53 #[.func (.func fn) #[] cap] w (Said1 w.heap.size J Pn) := by
  have hmf : ∀ (fn : Fn) (first cap : Array Value) (w : World), (Instr.makeFunc fn first cap).run Tryz.prog w = .ok (.func fn first cap) w := fun _ _ _ _ => rfl
  go_enter_defers Tryz.func53, Tryz.ntmps53
  go_wp2_with fail
  refine hc.mono ?_
  rintro e w1 ⟨⟨u0, u1, uz⟩, (⟨rfl, hJ⟩ | ⟨er, at', rfl, hP⟩)⟩
  · clear hc hen
    go_wp2_with fail
    refine leaves_cons (f := 72) (args := #[.pointer (some ⟨w.heap.size, 0, none⟩)]) (by simp) (by simp [go_sem]) ?_
    refine (catch_idle ⟨w.heap.size, 0, none⟩ _).mono ?_
    rintro e u' w'' ⟨rfl, rfl, rfl⟩
    refine ⟨.agg #[vI 0, vI 0], ?_, 0, 0, w1, rfl, rfl, Or.inl ⟨rfl, rfl, hJ⟩⟩
    rw [results_cell (p := 2) (ty := 93) Tryz.results53]
    simp [go_sem, u0, u1]
  · clear hc hen
    go_wp2_with fail
    refine leaves_cons (f := 72) (args := #[.pointer (some ⟨w.heap.size, 0, none⟩)]) (by simp) (by simp [go_sem]) ?_
    refine (catch_panicking w.heap.size er at' [] _ u0 u1 uz).mono ?_
    rintro e u' w'' ⟨rfl, rfl, rfl⟩
    refine ⟨.agg #[vI er, vI at'], ?_, er, at', w1, rfl, rfl, Or.inr hP⟩
    rw [results_cell (p := 2) (ty := 93) Tryz.results53]
    simp [go_sem, u0, u1]
theorem unsaid_of {w : World} {n : Nat} (h : w.heap[n]? = some (.cells #[vI 0, vI 0] 93)) : Unsaid n w := by
  refine ⟨?_, ?_, ?_⟩
  · unfold World.cell?; simp [h]
  · unfold World.cell?; simp [h]
  · intro o; unfold World.frozen?; simp [h]
theorem check1_gen (wv pv b : Nat) (G : Int) (fv : Value) (w : World) (hw : w.cell? ⟨wv, 0, none⟩ = some (.pointer (some ⟨b, 0, none⟩))) (h0 : w.cell? ⟨pv, 0, none⟩ = some (vI G)) (a : Option Addr) (l c : Nat) (hfv : fv = .slice a l c) (h1 : w.cell? ⟨pv, 1, none⟩ = some fv) (J : World → Prop) (Pn : Int → Int → World → Prop)
    (ho : Calls Tryz.prog 55 #[.pointer (some ⟨b, 0, none⟩), .agg #[vI G, fv]] w fun e w' => (e = .returned (.tuple #[]) ∧ J w') ∨ ∃ er at', e = .panicked (viol er at') ∧ Pn er at' w') :
    Calls Tryz.prog 54 #[.pointer (some ⟨wv, 0, none⟩), .pointer (some ⟨pv, 0, none⟩)] w fun e w' => (e = .returned (.tuple #[]) ∧ J w') ∨ ∃ er at', e = .panicked (viol er at') ∧ Pn er at' w' := by
  subst hfv
  go_enter Tryz.func54, Tryz.ntmps54
  go_wp2_with fail
  refine ho.mono ?_
  rintro e w1 (⟨rfl, hQ⟩ | ⟨er, at', rfl, hQ⟩)
  · clear ho
    go_wp2_with fail
    go_end0
    exact Or.inl ⟨rfl, hQ⟩
  · clear ho
    go_wp2_with fail
    exact ⟨rfl, Or.inr ⟨er, at', rfl, hQ⟩⟩
def startG (w : World) (G : Int) (fv : Value) : World :=
  ((((w.alloc (.cells #[vI G, fv] 24)).alloc (.cells rowsC 114)).alloc (.cells (WS.start (vF 52)).cells 117)).alloc (.cells #[.pointer (some ⟨w.heap.size + 2, 0, none⟩)] 89)).alloc (.cells #[vI 0, vI 0] 93)
theorem startG_at (w : World) (G : Int) (fv : Value) : (startG w G fv).heap[w.heap.size]? = some (.cells #[vI G, fv] 24) ∧ (startG w G fv).heap[w.heap.size + 2]? = some (.cells (WS.start (vF 52)).cells 117) ∧
    (startG w G fv).heap[w.heap.size + 3]? = some (.cells #[.pointer (some ⟨w.heap.size + 2, 0, none⟩)] 89) ∧ (startG w G fv).heap[w.heap.size + 4]? = some (.cells #[vI 0, vI 0] 93) ∧ (startG w G fv).heap.size = w.heap.size + 5 ∧ Fr (fun _ => False) w (startG w G fv) := by
  have last : ∀ (v : World) (o : Obj) (n : Nat), v.heap.size = n → (v.alloc o).heap[n]? = some o := fun v o n h => by rw [← h]; exact heap_alloc_last v o
  have past : ∀ (v : World) (o : Obj) (n : Nat), n < v.heap.size → (v.alloc o).heap[n]? = v.heap[n]? := fun v o n h => Go.RowKit.Below.heap_alloc v o n h
  unfold startG
  refine ⟨?_, ?_, ?_, ?_, by simp, Fr.alloc (Fr.alloc (Fr.alloc (Fr.alloc (Fr.alloc (Fr.refl _ w) _) _) _) _) _⟩
  · rw [past _ _ _ (by simp; try omega), past _ _ _ (by simp; try omega), past _ _ _ (by simp; try omega), past _ _ _ (by simp; try omega), last _ _ _ rfl]
  · rw [past _ _ _ (by simp; try omega), past _ _ _ (by simp; try omega), last _ _ _ (by simp; try omega)]
  · rw [past _ _ _ (by simp; try omega), last _ _ _ (by simp; try omega)]
  · rw [last _ _ _ (by simp; try omega)]
def OverJ (w : World) (G : Int) (fs : List PF) (fv : Value) (w' : World) : Prop :=
  Fr (fun k => k = w.heap.size + 2) (startG w G fv) w' ∧ ∃ y, answerP G fs = .ok y ∧ w'.cell? ⟨w.heap.size + 2, 148, none⟩ = some (vI y.1.locs)
def OverN (w : World) (G : Int) (fs : List PF) (fv : Value) (er at' : Int) (w' : World) : Prop :=
  Fr (fun k => k = w.heap.size + 2) (startG w G fv) w' ∧ answerP G fs = .error (er, at')
theorem over_checkG (w : World) (G : Int) (fs : List PF) (fv : Value) (hl : FL (w.heap.size + 2) w fv fs) (hT : Tab w) (h0 : 0 < w.heap.size) :
    Calls Tryz.prog 55 #[.pointer (some ⟨w.heap.size + 2, 0, none⟩), .agg #[vI G, fv]] (startG w G fv) fun e w' => (e = .returned (.tuple #[]) ∧ OverJ w G fs fv w') ∨ ∃ er at', e = .panicked (viol er at') ∧ OverN w G fs fv er at' w' := by
  obtain ⟨s0, s2, s3, s4, hsz, hsf⟩ := startG_at w G fv
  have hon : On (leaving (w.heap.size + 2)) (startG w G fv) (WS.start (vF 52), ()) := ⟨s2, rfl, by show _ ≠ 1; omega, hT.fr hsf (fun h => h)⟩
  refine (over_any (WS.start (vF 52)) (startG w G fv) hon G fv fs (hl.fr hsf (fun _ h => h.elim))).mono ?_
  rintro e w' ⟨hf, hres⟩
  have hsim := sim_answer (w.heap.size + 2) (vF 52) G fs
  cases hx : overP (w.heap.size + 2) G fs (WS.start (vF 52)) with
  | error z =>
    rw [hx] at hres hsim
    exact Or.inr ⟨z.1, z.2, hres, hf, hsim.err⟩
  | ok y =>
    rw [hx] at hres hsim
    obtain ⟨rfl, x, honx, hb⟩ := hres
    obtain ⟨y', hy', hby⟩ := hsim.okk
    refine Or.inl ⟨rfl, hf, y', hy', ?_⟩
    have e : x.locs = y'.1.locs := (congrArg WS.locs (hb.trans hby) : x.bare.locs = y'.1.bare.locs)
    rw [honx.1.facts.2.2.2.2.1, e]
theorem first_check1 (w : World) (G : Int) (fs : List PF) (fv : Value) (hl : FL (w.heap.size + 2) w fv fs) (hT : Tab w) (h0 : 0 < w.heap.size) :
    Calls Tryz.prog 53 #[.func (.func 54) #[] #[.pointer (some ⟨w.heap.size + 3, 0, none⟩), .pointer (some ⟨w.heap.size, 0, none⟩)]]
      ((((w.alloc (.cells #[vI G, fv] 24)).alloc (.cells rowsC 114)).alloc (.cells (WS.start (vF 52)).cells 117)).alloc (.cells #[.pointer (some ⟨w.heap.size + 2, 0, none⟩)] 89))
      (Said1 (w.heap.size + 4) (OverJ w G fs fv) (OverN w G fs fv)) := by
  obtain ⟨s0, s2, s3, s4, hsz, hsf⟩ := startG_at w G fv
  have := firstViolation_any 54 #[.pointer (some ⟨w.heap.size + 3, 0, none⟩), .pointer (some ⟨w.heap.size, 0, none⟩)]
    ((((w.alloc (.cells #[vI G, fv] 24)).alloc (.cells rowsC 114)).alloc (.cells (WS.start (vF 52)).cells 117)).alloc (.cells #[.pointer (some ⟨w.heap.size + 2, 0, none⟩)] 89))
    (OverJ w G fs fv) (OverN w G fs fv) (fun _ => by kernel_rfl) ?_
  · simpa using this
  · obtain ⟨-, a, c, ea, -⟩ := id hl
    have hun : ∀ w', Fr (fun k => k = w.heap.size + 2) (startG w G fv) w' → Unsaid (((((w.alloc (.cells #[vI G, fv] 24)).alloc (.cells rowsC 114)).alloc (.cells (WS.start (vF 52)).cells 117)).alloc (.cells #[.pointer (some ⟨w.heap.size + 2, 0, none⟩)] 89))).heap.size w' := fun w' hf => by
      have e4 : (((((w.alloc (.cells #[vI G, fv] 24)).alloc (.cells rowsC 114)).alloc (.cells (WS.start (vF 52)).cells 117)).alloc (.cells #[.pointer (some ⟨w.heap.size + 2, 0, none⟩)] 89))).heap.size = w.heap.size + 4 := by simp
      rw [e4]
      refine unsaid_of ?_
      rw [hf.block _ (by omega) (by omega)]
      exact s4
    refine (check1_gen (w.heap.size + 3) w.heap.size (w.heap.size + 2) G fv (startG w G fv) ?_ ?_ a fs.length c ea ?_ (OverJ w G fs fv) (OverN w G fs fv) (over_checkG w G fs fv hl hT h0)).mono ?_
    · unfold World.cell?; simp [s3]
    · unfold World.cell?; simp [s0]
    · unfold World.cell?; simp [s0]
    · rintro e w' (⟨rfl, hJ⟩ | ⟨er, at', rfl, hN⟩)
      · exact ⟨hun w' hJ.1, Or.inl ⟨rfl, hJ⟩⟩
      · exact ⟨hun w' hN.1, Or.inr ⟨er, at', rfl, hN⟩⟩
def checkP (G : Int) (fs : List PF) : Int := match answerP G fs with | .ok _ => 0 | .error z => z.1
theorem check_prog (w : World) (G : Int) (fs : List PF) (fv : Value) (hl : FL (w.heap.size + 2) w fv fs) (hT : Tab w) (h0 : 0 < w.heap.size) :
    Calls Tryz.prog 33 #[.agg #[vI G, fv]] w fun e w' => e = .returned (vI (checkP G fs)) ∧ Fr (fun _ => False) w w' := by
  have hmf : ∀ (fn : Fn) (first cap : Array Value) (w : World), (Instr.makeFunc fn first cap).run Tryz.prog w = .ok (.func fn first cap) w := fun _ _ _ _ => rfl
  obtain ⟨s0, s2, s3, s4, hsz, hsf⟩ := startG_at w G fv
  have hfv := first_check1 w G fs fv hl hT h0
  obtain ⟨-, a, c, ea, -⟩ := hl
  subst ea
  go_enter Tryz.func33, Tryz.ntmps33
  go_wp2_with fail
  refine (newWalk_any _ _ _ _).mono ?_
  rintro e w1 ⟨rfl, rfl⟩
  go_wp2_with fail
  refine hfv.mono ?_
  rintro e w2 ⟨er, at', w3, rfl, rfl, hcase⟩
  clear hfv
  have hck : Hd (checkP G fs = er ∧ Fr (fun k => k = w.heap.size + 2) (startG w G (.slice a fs.length c)) w3) := by
    unfold Hd checkP
    rcases hcase with ⟨rfl, rfl, hf, y, hy, -⟩ | ⟨hf, hy⟩
    · rw [hy]; exact ⟨rfl, hf⟩
    · rw [hy]; exact ⟨rfl, hf⟩
  clear hcase
  have hfd : ∀ (v : World), (Instr.field 93 (.agg #[vI er, vI at']) 0).run Tryz.prog v = .ok (vI er) v := fun _ => by kernel_rfl
  have hend : Hd (∀ w4, Fr (fun k => w.heap.size ≤ k) w3 w4 → Fr (fun _ => False) w w4) := fun w4 h4 => by
    have h1 : Fr (fun k => w.heap.size ≤ k) w w4 := ((hsf.mono (fun _ _ h => h.elim)).trans (hck.out.2.mono (fun k _ hk => by omega))).trans h4
    exact h1.mono (fun k hk hS => by omega)
  go_wp2_with fail
  go_ret
  refine ⟨by rw [hck.out.1]; rfl, hend.out _ ?_⟩
  repeat first
    | exact Fr.refl _ _
    | refine Fr.drew ?_
    | refine Fr.alloc ?_ _
    | refine Fr.setCell ?_ _ _ (Or.inl (by simp <;> omega))
end Go.Proofs.YtlmlmhinbkcpoaaGreatDoor
