import Derived.Test.YtlmlmhinbkcpoaaDoorQN7J
namespace Go.Proofs.YtlmlmhinbkcpoaaDoor
open Go.RowKit (wrap32 wrap64)
set_option linter.unusedVariables false
set_option linter.unusedSimpArgs false

theorem unsaid_of {w : World} {n : Nat} (h : w.heap[n]? = some (.cells #[vI 0, vI 0] 94)) : Unsaid n w := by
  refine ⟨?_, ?_, ?_⟩
  · unfold World.cell?; simp [h]
  · unfold World.cell?; simp [h]
  · intro o; unfold World.frozen?; simp [h]

set_option maxRecDepth 100000 in
set_option maxHeartbeats 1000000 in
theorem check1_gen (wv pv b : Nat) (G : Int) (fv : Value) (w : World) (hw : w.cell? ⟨wv, 0, none⟩ = some (.pointer (some ⟨b, 0, none⟩))) (h0 : w.cell? ⟨pv, 0, none⟩ = some (vI G)) (a : Option Addr) (l c : Nat) (hfv : fv = .slice a l c) (h1 : w.cell? ⟨pv, 1, none⟩ = some fv) (J : World → Prop) (Pn : Int → Int → World → Prop)
    (ho : Calls Tryd.prog 61 #[.pointer (some ⟨b, 0, none⟩), .agg #[vI G, fv]] w fun e w' => (e = .returned (.tuple #[]) ∧ J w') ∨ ∃ er at', e = .panicked (viol er at') ∧ Pn er at' w') :
    Calls Tryd.prog 60 #[.pointer (some ⟨wv, 0, none⟩), .pointer (some ⟨pv, 0, none⟩)] w fun e w' => (e = .returned (.tuple #[]) ∧ J w') ∨ ∃ er at', e = .panicked (viol er at') ∧ Pn er at' w' := by
  subst hfv
  go_enter Tryd.func60, Tryd.ntmps60
  go_wp2_with fail
  refine ho.mono ?_
  rintro e w1 (⟨rfl, hQ⟩ | ⟨er, at', rfl, hQ⟩)
  · clear ho
    go_wp2_with fail
    go_end0
    exact Or.inl ⟨rfl, hQ⟩
  · clear ho
    go_wp2_with fail
    exact ⟨rfl, Or.inr ⟨er, at', rfl, hQ⟩⟩

/-- The world in which 'over' begins, in Check and Locations. -/
def startG (w : World) (G : Int) (fv : Value) : World :=
  ((((w.alloc (.cells #[vI G, fv] 24)).alloc (.cells rowsC 115)).alloc (.cells (WS.start (vF 58)).cells 118)).alloc (.cells #[.pointer (some ⟨w.heap.size + 2, 0, none⟩)] 90)).alloc (.cells #[vI 0, vI 0] 94)

theorem startG_at (w : World) (G : Int) (fv : Value) : (startG w G fv).heap[w.heap.size]? = some (.cells #[vI G, fv] 24) ∧ (startG w G fv).heap[w.heap.size + 2]? = some (.cells (WS.start (vF 58)).cells 118) ∧
    (startG w G fv).heap[w.heap.size + 3]? = some (.cells #[.pointer (some ⟨w.heap.size + 2, 0, none⟩)] 90) ∧ (startG w G fv).heap[w.heap.size + 4]? = some (.cells #[vI 0, vI 0] 94) ∧ (startG w G fv).heap.size = w.heap.size + 5 ∧ Fr (fun _ => False) w (startG w G fv) := by
  have last : ∀ (v : World) (o : Obj) (n : Nat), v.heap.size = n → (v.alloc o).heap[n]? = some o := fun v o n h => by rw [← h]; exact heap_alloc_last v o
  have past : ∀ (v : World) (o : Obj) (n : Nat), n < v.heap.size → (v.alloc o).heap[n]? = v.heap[n]? := fun v o n h => Go.RowKit.Below.heap_alloc v o n h
  unfold startG
  refine ⟨?_, ?_, ?_, ?_, by simp, Fr.alloc (Fr.alloc (Fr.alloc (Fr.alloc (Fr.alloc (Fr.refl _ w) _) _) _) _) _⟩
  · rw [past _ _ _ (by simp; try omega), past _ _ _ (by simp; try omega), past _ _ _ (by simp; try omega), past _ _ _ (by simp; try omega), last _ _ _ rfl]
  · rw [past _ _ _ (by simp; try omega), past _ _ _ (by simp; try omega), last _ _ _ (by simp; try omega)]
  · rw [past _ _ _ (by simp; try omega), last _ _ _ (by simp; try omega)]
  · rw [last _ _ _ (by simp; try omega)]

/-- How 'over' ends in Check and Locations: what it left, or the violation. -/
def OverJ (w : World) (G : Int) (fs : List PF) (fv : Value) (w' : World) : Prop :=
  Fr (fun k => k = w.heap.size + 2) (startG w G fv) w' ∧ ∃ y, answerP G fs = .ok y ∧ w'.cell? ⟨w.heap.size + 2, 148, none⟩ = some (vI y.1.locs)
def OverN (w : World) (G : Int) (fs : List PF) (fv : Value) (er at' : Int) (w' : World) : Prop :=
  Fr (fun k => k = w.heap.size + 2) (startG w G fv) w' ∧ answerP G fs = .error (er, at')

theorem over_checkG (w : World) (G : Int) (fs : List PF) (fv : Value) (hl : FL (w.heap.size + 2) w fv fs) (hT : Tab w) (h0 : 0 < w.heap.size) :
    Calls Tryd.prog 61 #[.pointer (some ⟨w.heap.size + 2, 0, none⟩), .agg #[vI G, fv]] (startG w G fv) fun e w' => (e = .returned (.tuple #[]) ∧ OverJ w G fs fv w') ∨ ∃ er at', e = .panicked (viol er at') ∧ OverN w G fs fv er at' w' := by
  obtain ⟨s0, s2, s3, s4, hsz, hsf⟩ := startG_at w G fv
  have hon : On (leaving (w.heap.size + 2)) (startG w G fv) (WS.start (vF 58), ()) := ⟨s2, rfl, by show _ ≠ 1; omega, hT.fr hsf (fun h => h)⟩
  refine (over_any (WS.start (vF 58)) (startG w G fv) hon G fv fs (hl.fr hsf (fun _ h => h.elim))).mono ?_
  rintro e w' ⟨hf, hres⟩
  have hsim := sim_answer (w.heap.size + 2) (vF 58) G fs
  cases hx : overP (w.heap.size + 2) G fs (WS.start (vF 58)) with
  | error z =>
    rw [hx] at hres hsim
    exact Or.inr ⟨z.1, z.2, hres, hf, hsim.err⟩
  | ok y =>
    rw [hx] at hres hsim
    obtain ⟨rfl, x, honx, hb⟩ := hres
    obtain ⟨y', hy', hby⟩ := hsim.okk
    refine Or.inl ⟨rfl, hf, y', hy', ?_⟩
    have e : x.locs = y'.1.locs := (congrArg WS.locs (hb.trans hby) : x.bare.locs = y'.1.bare.locs)
    rw [honx.1.facts.2.2.2.2.1, e]

theorem first_check1 (w : World) (G : Int) (fs : List PF) (fv : Value) (hl : FL (w.heap.size + 2) w fv fs) (hT : Tab w) (h0 : 0 < w.heap.size) :
    Calls Tryd.prog 59 #[.func (.func 60) #[] #[.pointer (some ⟨w.heap.size + 3, 0, none⟩), .pointer (some ⟨w.heap.size, 0, none⟩)]]
      ((((w.alloc (.cells #[vI G, fv] 24)).alloc (.cells rowsC 115)).alloc (.cells (WS.start (vF 58)).cells 118)).alloc (.cells #[.pointer (some ⟨w.heap.size + 2, 0, none⟩)] 90))
      (Said1 (w.heap.size + 4) (OverJ w G fs fv) (OverN w G fs fv)) := by
  obtain ⟨s0, s2, s3, s4, hsz, hsf⟩ := startG_at w G fv
  have := firstViolation_any 60 #[.pointer (some ⟨w.heap.size + 3, 0, none⟩), .pointer (some ⟨w.heap.size, 0, none⟩)]
    ((((w.alloc (.cells #[vI G, fv] 24)).alloc (.cells rowsC 115)).alloc (.cells (WS.start (vF 58)).cells 118)).alloc (.cells #[.pointer (some ⟨w.heap.size + 2, 0, none⟩)] 90))
    (OverJ w G fs fv) (OverN w G fs fv) (fun _ => by kernel_rfl) ?_
  · simpa using this
  · obtain ⟨-, a, c, ea, -⟩ := id hl
    have hun : ∀ w', Fr (fun k => k = w.heap.size + 2) (startG w G fv) w' → Unsaid (((((w.alloc (.cells #[vI G, fv] 24)).alloc (.cells rowsC 115)).alloc (.cells (WS.start (vF 58)).cells 118)).alloc (.cells #[.pointer (some ⟨w.heap.size + 2, 0, none⟩)] 90))).heap.size w' := fun w' hf => by
      have e4 : (((((w.alloc (.cells #[vI G, fv] 24)).alloc (.cells rowsC 115)).alloc (.cells (WS.start (vF 58)).cells 118)).alloc (.cells #[.pointer (some ⟨w.heap.size + 2, 0, none⟩)] 90))).heap.size = w.heap.size + 4 := by simp
      rw [e4]
      refine unsaid_of ?_
      rw [hf.block _ (by omega) (by omega)]
      exact s4
    refine (check1_gen (w.heap.size + 3) w.heap.size (w.heap.size + 2) G fv (startG w G fv) ?_ ?_ a fs.length c ea ?_ (OverJ w G fs fv) (OverN w G fs fv) (over_checkG w G fs fv hl hT h0)).mono ?_
    · unfold World.cell?; simp [s3]
    · unfold World.cell?; simp [s0]
    · unfold World.cell?; simp [s0]
    · rintro e w' (⟨rfl, hJ⟩ | ⟨er, at', rfl, hN⟩)
      · exact ⟨hun w' hJ.1, Or.inl ⟨rfl, hJ⟩⟩
      · exact ⟨hun w' hN.1, Or.inr ⟨er, at', rfl, hN⟩⟩

/-- What Check says, what Locations says. -/
def checkP (G : Int) (fs : List PF) : Int := match answerP G fs with | .ok _ => 0 | .error z => z.1
def locsP (G : Int) (fs : List PF) : Int := match answerP G fs with | .ok y => y.1.locs | .error _ => 0

set_option maxRecDepth 100000 in
set_option maxHeartbeats 1000000 in
theorem check_prog (w : World) (G : Int) (fs : List PF) (fv : Value) (hl : FL (w.heap.size + 2) w fv fs) (hT : Tab w) (h0 : 0 < w.heap.size) :
    Calls Tryd.prog 43 #[.agg #[vI G, fv]] w fun e w' => e = .returned (vI (checkP G fs)) ∧ Fr (fun _ => False) w w' := by
  have hmf : ∀ (fn : Fn) (first cap : Array Value) (w : World), (Instr.makeFunc fn first cap).run Tryd.prog w = .ok (.func fn first cap) w := fun _ _ _ _ => rfl
  obtain ⟨s0, s2, s3, s4, hsz, hsf⟩ := startG_at w G fv
  have hfv := first_check1 w G fs fv hl hT h0
  obtain ⟨-, a, c, ea, -⟩ := hl
  subst ea
  go_enter Tryd.func43, Tryd.ntmps43
  go_wp2_with fail
  refine (newWalk_any _ _ _ _).mono ?_
  rintro e w1 ⟨rfl, rfl⟩
  go_wp2_with fail
  refine hfv.mono ?_
  rintro e w2 ⟨er, at', w3, rfl, rfl, hcase⟩
  clear hfv
  have hck : Hd (checkP G fs = er ∧ Fr (fun k => k = w.heap.size + 2) (startG w G (.slice a fs.length c)) w3) := by
    unfold Hd checkP
    rcases hcase with ⟨rfl, rfl, hf, y, hy, -⟩ | ⟨hf, hy⟩
    · rw [hy]; exact ⟨rfl, hf⟩
    · rw [hy]; exact ⟨rfl, hf⟩
  clear hcase
  have hfd : ∀ (v : World), (Instr.field 94 (.agg #[vI er, vI at']) 0).run Tryd.prog v = .ok (vI er) v := fun _ => by kernel_rfl
  have hend : Hd (∀ w4, Fr (fun k => w.heap.size ≤ k) w3 w4 → Fr (fun _ => False) w w4) := fun w4 h4 => by
    have h1 : Fr (fun k => w.heap.size ≤ k) w w4 := ((hsf.mono (fun _ _ h => h.elim)).trans (hck.out.2.mono (fun k _ hk => by omega))).trans h4
    exact h1.mono (fun k hk hS => by omega)
  go_wp2_with fail
  go_ret
  refine ⟨by rw [hck.out.1]; rfl, hend.out _ ?_⟩
  repeat first
    | exact Fr.refl _ _
    | refine Fr.drew ?_
    | refine Fr.alloc ?_ _
    | refine Fr.setCell ?_ _ _ (Or.inl (by simp <;> omega))

end Go.Proofs.YtlmlmhinbkcpoaaDoor
