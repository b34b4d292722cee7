import Derived.Test.YtingenonbkencaaDoorQN7
import Derived.Test.YtingenonbkencaaDoorQS3J
import Derived.Test.YtingenonbkencaaDoorQRf
set_option linter.unusedVariables false
set_option linter.unusedSimpArgs false
namespace Go.Proofs.YtingenonbkencaaDoor
open Go.RowKit (wrap32 wrap64)
set_option maxRecDepth 100000
set_option maxHeartbeats 1000000
theorem check1_gen (wv pv b : Nat) (G : Int) (fv : Value) (w : World) (hw : w.cell? ⟨wv, 0, none⟩ = some (.pointer (some ⟨b, 0, none⟩))) (h0 : w.cell? ⟨pv, 0, none⟩ = some (vI G)) (a : Option Addr) (l c : Nat) (hfv : fv = .slice a l c) (h1 : w.cell? ⟨pv, 1, none⟩ = some fv) (J : World → Prop) (Pn : Int → Int → World → Prop)
    (ho : Calls Tryd.prog 36 #[.pointer (some ⟨b, 0, none⟩), .agg #[vI G, fv]] w fun e w' => (e = .returned (.tuple #[]) ∧ J w') ∨ ∃ er at', e = .panicked (viol er at') ∧ Pn er at' w') :
    Calls Tryd.prog 39 #[.pointer (some ⟨wv, 0, none⟩), .pointer (some ⟨pv, 0, none⟩)] w fun e w' => (e = .returned (.tuple #[]) ∧ J w') ∨ ∃ er at', e = .panicked (viol er at') ∧ Pn er at' w' := by
  subst hfv
  go_enter Tryd.func39, Tryd.ntmps39
  go_wp2_with fail
  refine ho.mono ?_
  rintro e w1 (⟨rfl, hQ⟩ | ⟨er, at', rfl, hQ⟩)
  · clear ho
    go_wp2_with fail
    go_end0
    exact Or.inl ⟨rfl, hQ⟩
  · clear ho
    go_wp2_with fail
    exact ⟨rfl, Or.inr ⟨er, at', rfl, hQ⟩⟩
def startG (w : World) (G : Int) (fv : Value) : World :=
  ((((w.alloc (.cells #[vI G, fv] 26)).alloc (.cells rowsC 85)).alloc (.cells (WS.start (vF 38)).cells 87)).alloc (.cells #[.pointer (some ⟨w.heap.size + 2, 0, none⟩)] 46)).alloc (.cells #[vI 0, vI 0] 50)
theorem startG_at (w : World) (G : Int) (fv : Value) : (startG w G fv).heap[w.heap.size]? = some (.cells #[vI G, fv] 26) ∧ (startG w G fv).heap[w.heap.size + 2]? = some (.cells (WS.start (vF 38)).cells 87) ∧
    (startG w G fv).heap[w.heap.size + 3]? = some (.cells #[.pointer (some ⟨w.heap.size + 2, 0, none⟩)] 46) ∧ (startG w G fv).heap[w.heap.size + 4]? = some (.cells #[vI 0, vI 0] 50) ∧ (startG w G fv).heap.size = w.heap.size + 5 ∧ Fr (fun _ => False) w (startG w G fv) := by
  have last : ∀ (v : World) (o : Obj) (n : Nat), v.heap.size = n → (v.alloc o).heap[n]? = some o := fun v o n h => by rw [← h]; exact heap_alloc_last v o
  have past : ∀ (v : World) (o : Obj) (n : Nat), n < v.heap.size → (v.alloc o).heap[n]? = v.heap[n]? := fun v o n h => Go.RowKit.Below.heap_alloc v o n h
  unfold startG
  refine ⟨?_, ?_, ?_, ?_, by simp, Fr.alloc (Fr.alloc (Fr.alloc (Fr.alloc (Fr.alloc (Fr.refl _ w) _) _) _) _) _⟩
  · rw [past _ _ _ (by simp; try omega), past _ _ _ (by simp; try omega), past _ _ _ (by simp; try omega), past _ _ _ (by simp; try omega), last _ _ _ rfl]
  · rw [past _ _ _ (by simp; try omega), past _ _ _ (by simp; try omega), last _ _ _ (by simp; try omega)]
  · rw [past _ _ _ (by simp; try omega), last _ _ _ (by simp; try omega)]
  · rw [last _ _ _ (by simp; try omega)]
def OverJ (w : World) (G : Int) (fs : List PF) (fv : Value) (w' : World) : Prop :=
  Fr (fun k => k = w.heap.size + 2) (startG w G fv) w' ∧ ∃ y, answerP G fs = .ok y ∧ w'.cell? ⟨w.heap.size + 2, 148, none⟩ = some (vI y.1.locs)
def OverN (w : World) (G : Int) (fs : List PF) (fv : Value) (er at' : Int) (w' : World) : Prop :=
  Fr (fun k => k = w.heap.size + 2) (startG w G fv) w' ∧ answerP G fs = .error (er, at')
theorem over_checkG (w : World) (G : Int) (fs : List PF) (fv : Value) (hl : FL (w.heap.size + 2) w fv fs) (hT : Tab w) (h0 : 0 < w.heap.size) :
    Calls Tryd.prog 36 #[.pointer (some ⟨w.heap.size + 2, 0, none⟩), .agg #[vI G, fv]] (startG w G fv) fun e w' => (e = .returned (.tuple #[]) ∧ OverJ w G fs fv w') ∨ ∃ er at', e = .panicked (viol er at') ∧ OverN w G fs fv er at' w' := by
  obtain ⟨s0, s2, s3, s4, hsz, hsf⟩ := startG_at w G fv
  have hon : On (leaving (w.heap.size + 2)) (startG w G fv) (WS.start (vF 38), ()) := ⟨s2, rfl, by show _ ≠ 0; omega, hT.fr hsf (fun h => h)⟩
  refine (over_any (WS.start (vF 38)) (startG w G fv) hon G fv fs (hl.fr hsf (fun _ h => h.elim))).mono ?_
  rintro e w' ⟨hf, hres⟩
  have hsim := sim_answer (w.heap.size + 2) (vF 38) G fs
  cases hx : overP (w.heap.size + 2) G fs (WS.start (vF 38)) with
  | error z =>
    rw [hx] at hres hsim
    exact Or.inr ⟨z.1, z.2, hres, hf, hsim.err⟩
  | ok y =>
    rw [hx] at hres hsim
    obtain ⟨rfl, x, honx, hb⟩ := hres
    obtain ⟨y', hy', hby⟩ := hsim.okk
    refine Or.inl ⟨rfl, hf, y', hy', ?_⟩
    have e : x.locs = y'.1.locs := (congrArg WS.locs (hb.trans hby) : x.bare.locs = y'.1.bare.locs)
    rw [honx.1.facts.2.2.2.2.1, e]
theorem first_check1 (w : World) (G : Int) (fs : List PF) (fv : Value) (hl : FL (w.heap.size + 2) w fv fs) (hT : Tab w) (h0 : 0 < w.heap.size) :
    Calls Tryd.prog 31 #[.func (.func 39) #[] #[.pointer (some ⟨w.heap.size + 3, 0, none⟩), .pointer (some ⟨w.heap.size, 0, none⟩)]]
      ((((w.alloc (.cells #[vI G, fv] 26)).alloc (.cells rowsC 85)).alloc (.cells (WS.start (vF 38)).cells 87)).alloc (.cells #[.pointer (some ⟨w.heap.size + 2, 0, none⟩)] 46))
      (Said1 (w.heap.size + 4) (OverJ w G fs fv) (OverN w G fs fv)) := by
  obtain ⟨s0, s2, s3, s4, hsz, hsf⟩ := startG_at w G fv
  have := firstViolation_any 39 #[.pointer (some ⟨w.heap.size + 3, 0, none⟩), .pointer (some ⟨w.heap.size, 0, none⟩)]
    ((((w.alloc (.cells #[vI G, fv] 26)).alloc (.cells rowsC 85)).alloc (.cells (WS.start (vF 38)).cells 87)).alloc (.cells #[.pointer (some ⟨w.heap.size + 2, 0, none⟩)] 46))
    (OverJ w G fs fv) (OverN w G fs fv) (fun _ => by kernel_rfl) ?_
  · simpa using this
  · obtain ⟨-, a, c, ea, -⟩ := id hl
    have hun : ∀ w', Fr (fun k => k = w.heap.size + 2) (startG w G fv) w' → Unsaid (((((w.alloc (.cells #[vI G, fv] 26)).alloc (.cells rowsC 85)).alloc (.cells (WS.start (vF 38)).cells 87)).alloc (.cells #[.pointer (some ⟨w.heap.size + 2, 0, none⟩)] 46))).heap.size w' := fun w' hf => by
      have e4 : (((((w.alloc (.cells #[vI G, fv] 26)).alloc (.cells rowsC 85)).alloc (.cells (WS.start (vF 38)).cells 87)).alloc (.cells #[.pointer (some ⟨w.heap.size + 2, 0, none⟩)] 46))).heap.size = w.heap.size + 4 := by simp
      rw [e4]
      refine unsaid_of ?_
      rw [hf.block _ (by omega) (by omega)]
      exact s4
    refine (check1_gen (w.heap.size + 3) w.heap.size (w.heap.size + 2) G fv (startG w G fv) ?_ ?_ a fs.length c ea ?_ (OverJ w G fs fv) (OverN w G fs fv) (over_checkG w G fs fv hl hT h0)).mono ?_
    · unfold World.cell?; simp [s3]
    · unfold World.cell?; simp [s0]
    · unfold World.cell?; simp [s0]
    · rintro e w' (⟨rfl, hJ⟩ | ⟨er, at', rfl, hN⟩)
      · exact ⟨hun w' hJ.1, Or.inl ⟨rfl, hJ⟩⟩
      · exact ⟨hun w' hN.1, Or.inr ⟨er, at', rfl, hN⟩⟩
def checkP (G : Int) (fs : List PF) : Int := match answerP G fs with | .ok _ => 0 | .error z => z.1
theorem check_prog (w : World) (G : Int) (fs : List PF) (fv : Value) (hl : FL (w.heap.size + 2) w fv fs) (hT : Tab w) (h0 : 0 < w.heap.size) :
    Calls Tryd.prog 14 #[.agg #[vI G, fv]] w fun e w' => e = .returned (vI (checkP G fs)) ∧ Fr (fun _ => False) w w' := by
  have hmf : ∀ (fn : _root_.Go.Fn) (first cap : Array Value) (w : World), (Instr.makeFunc fn first cap).run Tryd.prog w = .ok (.func fn first cap) w := fun _ _ _ _ => rfl
  obtain ⟨s0, s2, s3, s4, hsz, hsf⟩ := startG_at w G fv
  have hfv := first_check1 w G fs fv hl hT h0
  obtain ⟨-, a, c, ea, -⟩ := hl
  subst ea
  go_enter Tryd.func14, Tryd.ntmps14
  go_wp2_with fail
  refine (newWalk_any _ _ _ _).mono ?_
  rintro e w1 ⟨rfl, rfl⟩
  go_wp2_with fail
  refine hfv.mono ?_
  rintro e w2 ⟨er, at', w3, rfl, rfl, hcase⟩
  clear hfv
  have hck : Hd (checkP G fs = er ∧ Fr (fun k => k = w.heap.size + 2) (startG w G (.slice a fs.length c)) w3) := by
    unfold Hd checkP
    rcases hcase with ⟨rfl, rfl, hf, y, hy, -⟩ | ⟨hf, hy⟩
    · rw [hy]; exact ⟨rfl, hf⟩
    · rw [hy]; exact ⟨rfl, hf⟩
  clear hcase
  have hfd : ∀ (v : World), (Instr.field 50 (.agg #[vI er, vI at']) 0).run Tryd.prog v = .ok (vI er) v := fun _ => by kernel_rfl
  have hend : Hd (∀ w4, Fr (fun k => w.heap.size ≤ k) w3 w4 → Fr (fun _ => False) w w4) := fun w4 h4 => by
    have h1 : Fr (fun k => w.heap.size ≤ k) w w4 := ((hsf.mono (fun _ _ h => h.elim)).trans (hck.out.2.mono (fun k _ hk => by omega))).trans h4
    exact h1.mono (fun k hk hS => by omega)
  go_wp2_with fail
  go_ret
  refine ⟨by rw [hck.out.1]; rfl, hend.out _ ?_⟩
  repeat first
    | exact Fr.refl _ _
    | refine Fr.drew ?_
    | refine Fr.alloc ?_ _
    | refine Fr.setCell ?_ _ _ (Or.inl (by simp <;> omega))
def Er {σ : Type} (r : X (WS × σ)) (r' : X (WS × Unit)) : Prop := match r, r' with
  | .ok y, .ok y' => y.1 = y'.1
  | .error z, .error z' => z = z'
  | _, _ => False
theorem Er.cast {σ : Type} {r q : X (WS × σ)} {r' q' : X (WS × Unit)} (h1 : r = q) (h2 : r' = q') (h : Er q q') : Er r r' := by
  subst h1; subst h2; exact h
theorem Er.then {σ : Type} {c : X (WS × σ)} {c' : X (WS × Unit)} {p : WS × σ → X (WS × σ)} {p' : WS × Unit → X (WS × Unit)} (h : Er c c') (hp : ∀ y y', c = .ok y → y.1 = y'.1 → Er (p y) (p' y')) : Er (thenX c p) (thenX c' p') := by
  cases c with
  | ok y => cases c' with
    | ok y' => exact hp y y' rfl h
    | error z => exact h.elim
  | error z => cases c' with
    | ok y' => exact h.elim
    | error z' => exact h
theorem Er.ite {σ : Type} {p : Prop} [Decidable p] {a c : X (WS × σ)} {a' c' : X (WS × Unit)} (h1 : p → Er a a') (h2 : ¬ p → Er c c') : Er (if p then a else c) (if p then a' else c') := by
  by_cases h : p
  · exact Er.cast (if_pos h) (if_pos h) (h1 h)
  · exact Er.cast (if_neg h) (if_neg h) (h2 h)
theorem er_next {b b' : Nat} {M : Mode b} {rm : M.σ → Nat} (hM : KM M rm) (o size : Nat) (x : WS × M.σ) (x' : WS × Unit) (hp : 1 ≤ rm x.2) (e : x.1 = x'.1) : Er (nextX M o size x) (nextX (leaving b') o size x') := by
  obtain ⟨s, st⟩ := x
  obtain ⟨s', u⟩ := x'
  have e : s = s' := e
  subst e
  obtain ⟨st', hn, -⟩ := K_next hM o size s st hp
  exact Er.cast hn (L_next (b := b') o size s u) rfl
theorem er_ask {b b' : Nat} {M : Mode b} {rm : M.σ → Nat} (hM : KM M rm) (o size : Nat) (c : WS → Bool) (er : Int) (x : WS × M.σ) (x' : WS × Unit) (hp : 1 ≤ rm x.2) (e : x.1 = x'.1) : Er (askX M o size c er x) (askX (leaving b') o size c er x') := by
  have ea : x.1.at' = x'.1.at' := by rw [e]
  refine Er.cast (askX_then M o size c er x) (askX_then (leaving b') o size c er x') (Er.then (er_next hM o size x x' hp e) (fun y y' _ e' => ?_))
  obtain ⟨s, st⟩ := y
  obtain ⟨s', u⟩ := y'
  have e' : s = s' := e'
  subst e'
  exact Er.ite (fun _ => rfl) (fun _ => congrArg (fun z => (er, z)) ea)
theorem er_loc {b b' : Nat} {M : Mode b} (n p : Int) (x : WS × M.σ) (x' : WS × Unit) (e : x.1 = x'.1) : Er (locX M n p x) (locX (leaving b') n p x') := by
  obtain ⟨s, st⟩ := x
  obtain ⟨s', u⟩ := x'
  have e : s = s' := e
  subst e
  unfold locX
  exact Er.ite (fun _ => rfl) (fun _ => rfl)
theorem er_front {b b' : Nat} {M : Mode b} (ends makes nb : Bool) (i : Nat) (p : Int) (x : WS × M.σ) (x' : WS × Unit) (e : x.1 = x'.1) : Er (frontOk M ends makes nb i p x) (frontOk (leaving b') ends makes nb i p x') := by
  obtain ⟨s, st⟩ := x
  obtain ⟨s', u⟩ := x'
  have e : s = s' := e
  subst e
  unfold frontOk
  exact Er.ite (fun _ => rfl) (fun _ => Er.ite (fun _ => rfl) (fun _ => Er.ite (fun _ => er_loc 1 p _ _ rfl) (fun _ => rfl)))
theorem er_one {b : Nat} {M : Mode b} {rm : M.σ → Nat} (hM : KM M rm) (v : Int) (x : WS × M.σ) (x' : WS × Unit) (hp : 1 ≤ rm x.2) (e : x.1 = x'.1) : Er (oneK M v x) (oneL v x') := by
  obtain ⟨s, st⟩ := x
  obtain ⟨s', u⟩ := x'
  have e : s = s' := e
  subst e
  obtain ⟨st', hst⟩ := hM.keeps st s.at' 1 v hp
  have h1 : oneK M v (s, st) = if varOk s.fV v then .ok ({ s with at' := adv s.at' 1 }, st') else .error (13, s.at') := by unfold oneK; simp only [hst]
  refine Er.cast h1 (q' := if varOk s.fV v then .ok ({ s with at' := adv s.at' 1 }, u) else .error (13, s.at')) rfl ?_
  exact Er.ite (fun _ => rfl) (fun _ => rfl)
theorem er_vars {b : Nat} {M : Mode b} {rm : M.σ → Nat} (hM : KM M rm) : ∀ (l : List Int) (x : WS × M.σ) (x' : WS × Unit), l.length ≤ rm x.2 → x.1 = x'.1 → Er (varsK M l x) (varsL l x')
  | [], _, _, _, e => e
  | v :: r, x, x', hp, e => by
    simp only [List.length_cons] at hp
    refine Er.then (c := oneK M v x) (c' := oneL v x') (er_one hM v x x' (by omega) e) (fun y y' hy e' => er_vars hM r y y' ?_ e')
    have := oneK_goes hM.goes hy
    omega
theorem er_list {b : Nat} {M : Mode b} {rm : M.σ → Nat} (hM : KM M rm) (n : Nat) (l : List Int) (x : WS × M.σ) (x' : WS × Unit) (hp : n + 1 ≤ rm x.2) (e : x.1 = x'.1) : Er (listK M n l x) (listL n l x') := by
  obtain ⟨s, st⟩ := x
  obtain ⟨s', u⟩ := x'
  have e : s = s' := e
  subst e
  have hp : n + 1 ≤ rm st := hp
  obtain ⟨st', hn, hr⟩ := K_next hM 161 1 { s with count := l.length } st (by omega)
  have h1 : listK M n l (s, st) = if l.length = n then varsK M l ({ s with count := l.length, at' := adv s.at' 1 }, st') else .error (15, s.at') := by
    unfold listK; rw [hn]; rfl
  refine Er.cast h1 (q' := if l.length = n then varsL l ({ s with count := l.length, at' := adv s.at' 1 }, u) else .error (15, s.at')) rfl ?_
  exact Er.ite (fun h => er_vars hM l _ _ (by show l.length ≤ rm st'; omega) rfl) (fun _ => rfl)
def ErR {b : Nat} {M : Mode b} (rm : M.σ → Nat) (n : Nat) (c : X (WS × M.σ)) (c' : X (WS × Unit)) : Prop := Er c c' ∧ ∀ y, c = .ok y → n ≤ rm y.2
theorem ErR.then {b : Nat} {M : Mode b} {rm : M.σ → Nat} {n : Nat} {c : X (WS × M.σ)} {c' : X (WS × Unit)} {p : WS × M.σ → X (WS × M.σ)} {p' : WS × Unit → X (WS × Unit)} (h : ErR rm (n + 1) c c') (hp : ∀ y y', 1 ≤ rm y.2 → y.1 = y'.1 → Er (p y) (p' y'))
    (hg : ∀ a a', p a = .ok a' → rm a.2 ≤ rm a'.2 + 1) : ErR rm n (thenX c p) (thenX c' p') := by
  refine ⟨h.1.then (fun y y' hy e => hp y y' (by have := h.2 y hy; omega) e), fun y hy => ?_⟩
  obtain ⟨a, ha, hpa⟩ := then_ok hy
  have h1 := h.2 a ha
  have h2 := hg a y hpa
  omega
theorem er_parts {b b' : Nat} {M : Mode b} {rm : M.σ → Nat} (hM : KM M rm) (op : Nat) (c : X (WS × M.σ)) (c' : X (WS × Unit)) (h : ErR rm 3 c c') : Er (partsX M op c) (partsX (leaving b') op c') := by
  have hv : ∀ o {n : Nat} {c : X (WS × M.σ)} {c' : X (WS × Unit)}, ErR rm (n + 1) c c' → ErR rm n (thenX c (varPart M o)) (thenX c' (varPart (leaving b') o)) := fun o _ _ _ h => h.then (fun y y' hp e => er_ask hM _ _ _ _ y y' hp e) (fun a a' ha => ask_goes hM.goes ha)
  have hn : ∀ {n : Nat} {c : X (WS × M.σ)} {c' : X (WS × Unit)}, ErR rm (n + 1) c c' → ErR rm n (thenX c (intPart M)) (thenX c' (intPart (leaving b'))) := fun h => h.then (fun y y' hp e => er_next hM _ _ y y' hp e) (fun a a' ha => hM.goes _ _ _ _ ha)
  have hf : ∀ {n : Nat} {c : X (WS × M.σ)} {c' : X (WS × Unit)}, ErR rm (n + 1) c c' → ErR rm n (thenX c (fieldsPart M)) (thenX c' (fieldsPart (leaving b'))) := fun h => h.then (fun y y' hp e => er_ask hM _ _ _ _ y y' hp e) (fun a a' ha => ask_goes hM.goes ha)
  have hd : ∀ {n : Nat} {c : X (WS × M.σ)} {c' : X (WS × Unit)}, ErR rm (n + 1) c c' → ErR rm n (thenX c (fieldPart M)) (thenX c' (fieldPart (leaving b'))) := fun h => h.then (fun y y' hp e => er_ask hM _ _ _ _ y y' hp e) (fun a a' ha => ask_goes hM.goes ha)
  have hg : ∀ {n : Nat} {c : X (WS × M.σ)} {c' : X (WS × Unit)}, ErR rm (n + 1) c c' → ErR rm n (thenX c (globalPart M)) (thenX c' (globalPart (leaving b'))) := fun h => h.then (fun y y' hp e => er_ask hM _ _ _ _ y y' hp e) (fun a a' ha => ask_goes hM.goes ha)
  have ht : ∀ {n : Nat} {c : X (WS × M.σ)} {c' : X (WS × Unit)}, ErR rm (n + 1) c c' → ErR rm n (thenX c (targetPart M)) (thenX c' (targetPart (leaving b'))) := fun h => h.then (fun y y' hp e => er_ask hM _ _ _ _ y y' hp e) (fun a a' ha => ask_goes hM.goes ha)
  match op with
  | 1 => exact (hn (hv 155 h)).1
  | 2 => exact (hv 156 (hv 155 h)).1
  | 3 => exact (hv 157 (hv 156 (hv 155 h))).1
  | 4 => exact (hv 157 (hv 156 (hv 155 h))).1
  | 5 => exact (hv 156 (hv 155 h)).1
  | 6 => exact (hf (hv 155 h)).1
  | 7 => exact (hd (hv 156 (hv 155 h))).1
  | 8 => exact (hd (hv 156 (hv 155 h))).1
  | 9 => exact (hg (hv 155 h)).1
  | 10 => exact (hg (hv 156 h)).1
  | 12 => exact (hv 156 h).1
  | 13 => exact (ht h).1
  | 14 => exact (ht (hv 156 h)).1
  | 16 => exact (hv 155 h).1
  | 17 => exact (hv 157 (hv 156 (hv 155 h))).1
  | 0 => exact h.1
  | 11 => exact h.1
  | 15 => exact h.1
  | m + 18 => exact h.1
theorem er_instr {b b' : Nat} {M : Mode b} {rm : M.σ → Nat} (hM : KM M rm) (heads : List (Nat × Nat)) (hPR : ∀ k : Nat, (heads.getD k (0, 0)).1 ≤ 8 ∧ (heads.getD k (0, 0)).2 ≤ 4) (fR i : Nat) (hfR : fR ≤ 4) (la lr : List Int) (x : WS × M.σ) (s' : WS) (hp : 20 ≤ rm x.2) (e : x.1 = s') :
    Er (instrK M heads fR i la lr x) (instrL (b := b') heads fR i la lr s') := by
  obtain ⟨s, st⟩ := x
  have e : s = s' := e
  subst e
  have hp : 20 ≤ rm st := hp
  obtain ⟨st', hn, hr⟩ := K_next hM 154 1 s st (by omega)
  have h1 : instrK M heads fR i la lr (s, st) = if 1 ≤ s.op ∧ s.op ≤ 17 then
      (if s.op = 15 then retK M fR la (frontOk M true false (nbK 15 s la.length lr.length) i s.at' ({ s with at' := adv s.at' 1 }, st'))
       else if s.op = 11 then callK M heads la lr (frontOk M false false (nbK 11 s la.length lr.length) i s.at' ({ s with at' := adv s.at' 1 }, st'))
       else partsX M s.op.toNat (frontOk M (s.op == 13) (s.op == 6) (nbK s.op.toNat s la.length lr.length) i s.at' ({ s with at' := adv s.at' 1 }, st')))
    else .error (12, s.at') := by unfold instrK; rw [hn]; rfl
  have room : ∀ ends makes nb y, frontOk M ends makes nb i s.at' ({ s with at' := adv s.at' 1 }, st') = .ok y → 19 ≤ rm y.2 := fun ends makes nb y hy => by
    rw [front_snd hy]; show 19 ≤ rm st'; omega
  refine Er.cast h1 (q' := if 1 ≤ s.op ∧ s.op ≤ 17 then
      (if s.op = 15 then retL (b := b') fR la (frontOk (leaving b') true false (nbK 15 s la.length lr.length) i s.at' ({ s with at' := adv s.at' 1 }, ()))
       else if s.op = 11 then callL (b := b') heads la lr (frontOk (leaving b') false false (nbK 11 s la.length lr.length) i s.at' ({ s with at' := adv s.at' 1 }, ()))
       else partsX (leaving b') s.op.toNat (frontOk (leaving b') (s.op == 13) (s.op == 6) (nbK s.op.toNat s la.length lr.length) i s.at' ({ s with at' := adv s.at' 1 }, ())))
    else .error (12, s.at')) rfl ?_
  refine Er.ite (fun _ => Er.ite (fun _ => ?_) (fun _ => Er.ite (fun _ => ?_) (fun _ => ?_))) (fun _ => rfl)
  · exact Er.then (er_front true false _ i _ _ _ rfl) (fun y y' hy e => er_list hM fR la y y' (by have := room _ _ _ y hy; omega) e)
  · have hc : Er (thenX (frontOk M false false (nbK 11 s la.length lr.length) i s.at' ({ s with at' := adv s.at' 1 }, st')) (calleePart M heads.length)) (thenX (frontOk (leaving b') false false (nbK 11 s la.length lr.length) i s.at' ({ s with at' := adv s.at' 1 }, ())) (calleePart (leaving b') heads.length)) :=
      Er.then (er_front false false _ i _ _ _ rfl) (fun y y' hy e => er_ask hM _ _ _ _ y y' (by have := room _ _ _ y hy; omega) e)
    refine Er.then hc (fun y y' hy e => ?_)
    have r1 : 18 ≤ rm y.2 := by
      obtain ⟨a, ha, hpa⟩ := then_ok hy
      have h1 := room _ _ _ a ha
      have h2 := ask_goes hM.goes hpa
      omega
    have en : y.1.n = y'.1.n := by rw [e]
    have b1 := hPR y.1.n.toNat
    rw [← en]
    exact Er.then (er_list hM _ la y y' (by omega) e) (fun z z' hz e2 => er_list hM _ lr z z' (by have := listK_goes hM.goes hz; omega) e2)
  · exact er_parts hM _ _ _ ⟨er_front _ _ _ i _ _ _ rfl, fun y hy => by have := room _ _ _ y hy; omega⟩
theorem er_head {b b' : Nat} {M : Mode b} {rm : M.σ → Nat} (hM : KM M rm) (x : WS × M.σ) (x' : WS × Unit) (hp : 4 ≤ rm x.2) (e : x.1 = x'.1) : Er (headX M x) (headX (leaving b') x') := by
  have ea : x.1.at' = x'.1.at' := by rw [e]
  refine Er.cast (headX_then M x) (headX_then (leaving b') x') ?_
  refine Er.then (er_next hM 149 1 x x' (by omega) e) (fun y1 y1' h1 e1 => ?_)
  have r1 := hM.goes _ _ _ _ h1
  refine Er.then (er_next hM 150 1 y1 y1' (by omega) e1) (fun y2 y2' h2 e2 => ?_)
  have r2 := hM.goes _ _ _ _ h2
  refine Er.then (er_next hM 151 1 y2 y2' (by omega) e2) (fun y3 y3' h3 e3 => ?_)
  have r3 := hM.goes _ _ _ _ h3
  refine Er.then (er_next hM 153 2 y3 y3' (by omega) e3) (fun y4 y4' h4 e4 => ?_)
  have ho : headOk y4.1 x.1.at' = headOk y4'.1 x'.1.at' := by rw [e4, ea]
  have ev : y4.1.fV = y4'.1.fV := by rw [e4]
  rw [ho, ev, ea]
  cases headOk y4'.1 x'.1.at' with
  | error z => exact rfl
  | ok u => exact er_loc _ _ _ _ e4
theorem er_heads {b b' : Nat} {M : Mode b} {rm : M.σ → Nat} (hM : KM M rm) : ∀ (fs : List PF) (x : WS × M.σ) (s' : WS), 4 * fs.length ≤ rm x.2 → x.1 = s' → Er (headsK M fs x) (headsP b' fs s')
  | [], _, _, _, e => e
  | f :: r, x, s', hp, e => by
    simp only [List.length_cons] at hp
    subst e
    refine Er.then (c := headX M (inF f x.1, x.2)) (c' := headX (leaving b') (inF f x.1, ())) (er_head hM _ _ (by show 4 ≤ rm x.2; omega) rfl) (fun y y' hy e' => er_heads hM r y y'.1 ?_ e')
    have h1 := headK_goes hM.goes hy
    have h1 : rm x.2 ≤ rm y.2 + 4 := h1
    omega
theorem er_code {b b' : Nat} {M : Mode b} {rm : M.σ → Nat} (hM : KM M rm) (heads : List (Nat × Nat)) (hPR : ∀ k : Nat, (heads.getD k (0, 0)).1 ≤ 8 ∧ (heads.getD k (0, 0)).2 ≤ 4) (hPR' : ∀ j (h : j < heads.length), heads[j].1 ≤ 8 ∧ heads[j].2 ≤ 4) (fR : Nat) (hfR : fR ≤ 4) : ∀ (l : List PI) (i : Nat) (x : WS × M.σ) (s' : WS), 20 * l.length ≤ rm x.2 → x.1 = s' →
    Er (codeK M heads fR i l x) (codeP b' heads fR i l s') ∧ ∀ y, codeK M heads fR i l x = .ok y → rm x.2 ≤ rm y.2 + 20 * l.length
  | [], _, _, _, _, e => ⟨e, fun y hy => by cases hy; simp⟩
  | c :: r, i, x, s', hp, e => by
    simp only [List.length_cons] at hp ⊢
    subst e
    have go1 : ∀ y, instrK M heads fR i c.args c.rets (inI c x.1, x.2) = .ok y → rm x.2 ≤ rm y.2 + 20 := fun y hy => instrK_goes hM.goes hPR' hfR (x := (inI c x.1, x.2)) hy
    refine ⟨Er.then (c := instrK M heads fR i c.args c.rets (inI c x.1, x.2)) (c' := instrL (b := b') heads fR i c.args c.rets (inI c x.1)) (er_instr hM heads hPR fR i hfR c.args c.rets _ _ (by show 20 ≤ rm x.2; omega) rfl) (fun y y' hy e' => (er_code hM heads hPR hPR' fR hfR r (i + 1) y y'.1 ?_ e').1), fun y hy => ?_⟩
    · have := go1 y hy; omega
    · obtain ⟨a, ha, hpa⟩ := then_ok hy
      have h1 := go1 a ha
      have h2 := (er_code (b' := b') hM heads hPR hPR' fR hfR r (i + 1) a a.1 (by omega) rfl).2 y hpa
      omega
theorem er_funcs {b b' : Nat} {M : Mode b} {rm : M.σ → Nat} (hM : KM M rm) (heads : List (Nat × Nat)) (hPR : ∀ k : Nat, (heads.getD k (0, 0)).1 ≤ 8 ∧ (heads.getD k (0, 0)).2 ≤ 4) (hPR' : ∀ j (h : j < heads.length), heads[j].1 ≤ 8 ∧ heads[j].2 ≤ 4) : ∀ (fs : List PF) (x : WS × M.σ) (s' : WS), (∀ f ∈ fs, HeadF f) → 81920 * fs.length ≤ rm x.2 → x.1 = s' →
    Er (funcsK M heads fs x) (funcsP b' heads fs s')
  | [], _, _, _, _, e => e
  | f :: r, x, s', hF, hp, e => by
    simp only [List.length_cons] at hp
    subst e
    obtain ⟨-, -, h3, h4, h5⟩ := hF f (by simp)
    have hc := er_code (b' := b') hM heads hPR hPR' f.R.toNat (by omega) f.code 0 (inF f x.1, x.2) (inF f x.1) (by show 20 * f.code.length ≤ rm x.2; omega) rfl
    refine Er.then (c := codeK M heads f.R.toNat 0 f.code (inF f x.1, x.2)) (c' := codeP b' heads f.R.toNat 0 f.code (inF f x.1)) hc.1 (fun y y' hy e' => er_funcs hM heads hPR hPR' r y y'.1 (fun f' h' => hF f' (by simp [h'])) ?_ e')
    have h6 := hc.2 y hy
    have h6 : rm x.2 ≤ rm y.2 + 20 * f.code.length := h6
    omega
theorem headsK_goes {b : Nat} {M : Mode b} {rm : M.σ → Nat} (hR : RoomGoes M rm) : ∀ {fs : List PF} {x y : WS × M.σ}, headsK M fs x = .ok y → rm x.2 ≤ rm y.2 + 4 * fs.length
  | [], _, _, h => by cases h; simp
  | f :: r, x, y, h => by
    obtain ⟨a, ha, hpa⟩ := then_ok h
    have h1 : rm x.2 ≤ rm a.2 + 4 := headK_goes hR (x := (inF f x.1, x.2)) ha
    have h2 := headsK_goes hR hpa
    simp only [List.length_cons]
    omega
theorem er_over {b wb g0 K b' R : Nat} (hR : RoomOk R) (G : Int) (fs : List PF) (v : Value) : Er (overK (writing b wb g0 K) G fs (WS.start v, ((R, magicL) : Nat × List UInt8))) (overP b' G fs (WS.start v)) := by
  have hM := writing_KM b wb g0 K
  obtain ⟨hR1, hR2⟩ := hR
  have p0 : Pos (({ WS.start v with globals := G, count := (fs.length : Nat) } : WS), ((R, magicL) : Nat × List UInt8)) := ⟨rfl, hR2⟩
  refine Er.then (er_ask hM 146 1 _ 18 ({ WS.start v with globals := G, count := (fs.length : Nat) }, ((R, magicL) : Nat × List UInt8)) ({ WS.start v with globals := G, count := (fs.length : Nat) }, ()) (by show 1 ≤ R; omega) rfl) (fun y1 y1' h1 e1 => ?_)
  have r1 := ask_goes hM.goes h1
  have r1 : R ≤ (y1.2 : Nat × List UInt8).1 + 1 := r1
  obtain ⟨n1, c1⟩ := ask_next h1
  have w1 := (wr_next (b := b) (o := 146) (by simp [places]) (by omega) p0 n1)
  refine Er.then (er_ask hM 161 2 _ 20 y1 y1' (by show 1 ≤ (y1.2 : Nat × List UInt8).1; omega) e1) (fun y2 y2' h2 e2 => ?_)
  have r2 := ask_goes hM.goes h2
  have r2 : (y1.2 : Nat × List UInt8).1 ≤ (y2.2 : Nat × List UInt8).1 + 1 := r2
  obtain ⟨n2, c2⟩ := ask_next h2
  have w2 := (wr_next (b := b) (o := 161) (by simp [places]) (by omega) w1.2.pos n2)
  have k1 : y1.1.count = (fs.length : Nat) := by rw [w1.1]
  have k2 : y2.1.count = (fs.length : Nat) := by rw [w2.1]; exact k1
  have c2 := of_decide_eq_true c2
  rw [k2] at c2
  refine Er.then (er_heads (b' := b') hM fs y2 y2'.1 (by show 4 * fs.length ≤ (y2.2 : Nat × List UInt8).1; omega) e2) (fun y3 y3' h3 e3 => ?_)
  obtain ⟨w3, hF, -⟩ := heads_sm (br := 0) (rv := nilS) (bs := []) w2.2.pos h3
  have r3 : (y2.2 : Nat × List UInt8).1 ≤ (y3.2 : Nat × List UInt8).1 + 4 * fs.length := headsK_goes hM.goes h3
  have hhd : ∀ k : Nat, ((headsOfP fs).getD k (0, 0)).1 ≤ 8 ∧ ((headsOfP fs).getD k (0, 0)).2 ≤ 4 := fun k => by
    by_cases hk : k < fs.length
    · have e : (headsOfP fs).getD k (0, 0) = (fs[k].P.toNat, fs[k].R.toNat) := by simp [headsOfP, List.getD, hk]
      rw [e]
      obtain ⟨-, q2, q3, -⟩ := hF fs[k] (List.getElem_mem hk)
      exact ⟨by show fs[k].P.toNat ≤ 8; omega, by show fs[k].R.toNat ≤ 4; omega⟩
    · have e : (headsOfP fs).getD k (0, 0) = (0, 0) := by simp [headsOfP, List.getD, Nat.le_of_not_lt hk]
      rw [e]
      exact ⟨Nat.zero_le _, Nat.zero_le _⟩
  have hhd' : ∀ j (h : j < (headsOfP fs).length), (headsOfP fs)[j].1 ≤ 8 ∧ (headsOfP fs)[j].2 ≤ 4 := fun j h => by
    have := hhd j
    have e : (headsOfP fs).getD j (0, 0) = (headsOfP fs)[j] := by simp [List.getD, h]
    rw [e] at this
    exact this
  exact er_funcs (b' := b') hM (headsOfP fs) hhd hhd' fs y3 y3'.1 hF (by show 81920 * fs.length ≤ (y3.2 : Nat × List UInt8).1; omega) e3
theorem enc_check {n R : Nat} (hR : RoomOk R) (G : Int) (fs : List PF) : match encK n R G fs with | .ok _ => checkP G fs = 0 | .error z => checkP G fs = z.1 ∧ z.1 ≠ 0 := by
  have h := er_over (b := n + 4) (wb := n + 2) (g0 := n + 1) (K := n + 8) (b' := 0) hR G fs (writerFn (n + 2))
  have hs := sim_answer 0 (writerFn (n + 2)) G fs
  have hk : encK n R G fs = overK (writing (n + 4) (n + 2) (n + 1) (n + 8)) G fs (WS.start (writerFn (n + 2)), ((R, magicL) : Nat × List UInt8)) := rfl
  rw [hk]
  unfold checkP
  cases h1 : overK (writing (n + 4) (n + 2) (n + 1) (n + 8)) G fs (WS.start (writerFn (n + 2)), ((R, magicL) : Nat × List UInt8)) with
  | ok y =>
    rw [h1] at h
    cases h2 : overP 0 G fs (WS.start (writerFn (n + 2))) with
    | error z => rw [h2] at h; exact h.elim
    | ok y' =>
      rw [h2] at hs
      obtain ⟨y2, hy2, -⟩ := hs.okk
      simp only [hy2]
  | error z =>
    rw [h1] at h
    cases h2 : overP 0 G fs (WS.start (writerFn (n + 2))) with
    | ok y' => rw [h2] at h; exact h.elim
    | error z' =>
      rw [h2] at h hs
      have e : z = z' := h
      subst e
      have e2 := hs.err
      simp only [e2]
      exact ⟨trivial, told_overP 0 G fs _ z h2⟩
theorem encK_told {n R : Nat} (hR : RoomOk R) {G : Int} {fs : List PF} {z : Int × Int} (h : encK n R G fs = .error z) : z.1 ≠ 0 := by
  have := enc_check (n := n) hR G fs
  rw [h] at this
  exact this.2
end Go.Proofs.YtingenonbkencaaDoor
