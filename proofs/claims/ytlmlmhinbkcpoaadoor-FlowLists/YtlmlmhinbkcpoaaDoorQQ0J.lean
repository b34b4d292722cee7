import Derived.Test.YtlmlmhinbkcpoaaDoorQA3J
import Derived.RangeFuncNested
import Derived.RangeFuncLeaves
import Derived.BigQuiet
import Derived.Deep.AppendLies
import Derived.Deep.Onto
import Derived.Deep.DeepCutAuto
import Derived.Deep.RegionHeld3
import Derived.RangeFuncBox
import Derived.RangeFuncBound
import Derived.RangeFuncCalls
import Derived.Shelf.Abstract
import Derived.Shelf.RegionOpen
import Derived.OwnWalkIn
import Derived.TacticsInMore
import Derived.LoopNIn
import Derived.LoopIn
namespace Go.Proofs.YtlmlmhinbkcpoaaDoor
open Go Go.RowKit
set_option linter.unusedVariables false
set_option linter.unusedSimpArgs false

variable {F : Fence} {n : Nat} {P : Program}

/-- An iterator that may itself range over iterators, to a caller none of whose rounds leaves: the caller's invariant minds no turn of a younger block that holds no cells; Kp l is what a round of loop l keeps. -/
def SeqGivesC {α : Type} (F : Fence) (n : Nat) (P : Program) (g : Nat) (fst lb : Array Value) (encs : α → Array Value) (Kp : Nat → World → World → Prop) (S : List α → Prop) (N : Nat) (w : World) : Prop :=
  ∀ (l : Nat) (J : List α → World → Prop) (W : World), Below w.heap.size w W → w.heap.size ≤ l → l < W.heap.size → OwnFrom W.heap.size J →
    (∀ pre x W1, J pre W1 → pre.length < N → YieldAt F (n - 1) P l (encs x) W1 fun e W' => e = .returned (.bool true) ∧ J (pre ++ [x]) W' ∧ Kp l W1 W') →
    J [] W →
    CallsIn F n P g (fst ++ #[.func (.yield l) #[] #[]] ++ lb) W fun e W' => (∃ v, e = .returned v) ∧ ∃ xs, S xs ∧ J xs W'

/-- The body of a round goes on. -/
def GoesOn {α : Type} (B : Nat) (Kp : World → World → Prop) (I : List α → World → Prop) (xs : List α) (W : World) : Exit → Act → World → Prop
  | .normal, _, W' => KeepsFrom B W W' ∧ Kp W W' ∧ I xs W'
  | _, _, _ => False

theorem later_block {A B : World} {row : Option Nat} (hg : A.grownBy B row) {k m : Nat} {o : Obj} (hk : A.heap[k]? = some o) (hkm : k < m) (hr : ∀ r, row = some r → m ≤ r ∧ ∃ o : Obj, A.heap[r]? = some o ∧ o.isCells = false) : B.heap[k]? = some o :=
  (hg.block k (Array.getElem?_eq_some_iff.1 hk).1 (fun e => by have := (hr k e.symm).1; omega)).trans hk

theorem wpIn_rangeC {α : Type} {g : Operand} {ps : Array Tmp} {assign body : Code} {Q : Exit → Act → World → Prop} {a : Act} {w : World}
    (hro : F.round = none) (h1 : 1 ≤ n) {gf : Nat} {fst lb : Array Value} (hg : a.eval g = .func (.func gf) fst lb) (hFg : F.fn gf) (eg : ∀ args w, (callFunc gf args).run P w = .ok (.enter gf args) w)
    {encs : α → Array Value} {Kp : Nat → World → World → Prop} {S : List α → Prop} {N : Nat} {w0 : World} (hseq : SeqGivesC F (n - 1) P gf fst lb encs Kp S N w0)
    (hKt : ∀ (l : Nat) (A B C : World), Kp l A B → Kp l B C → Kp l A C) (hKb : ∀ (l : Nat) (W : World) (r : Loop) (o' : Obj), w.heap.size ≤ l → W.heap[l]? = some (.loop r) → Kp l W (W.putObj l o')) (hb0 : Below w0.heap.size w0 w) (hps : ∀ x, (encs x).size = ps.size)
    (I : List α → World → Prop) (hI : OwnFrom w.heap.size I) (h0 : I [] w) (Ax : α → Act → World → Prop) (hAx : ∀ x a', OwnFrom w.heap.size (fun (_ : Unit) W => Ax x a' W))
    (hassign : ∀ (l : Nat) (pre : List α) (x : α) (W : World) (K : Act → World → Prop), w.heap.size ≤ l → I pre W → (∀ a' W', KeepsFrom w.heap.size W W' → Kp l W W' → I pre W' → Ax x a' W' → K a' W') →
      assign.wpIn (F.inRound l) (n - 1 - 1) P (Exit.then K (fun _ _ _ => False)) { tmps := (ps.zip (encs x)).foldl (fun t (p, v) => t.setIfInBounds p v) a.tmps, defers := [] } W)
    (hbody : ∀ (l : Nat) (pre : List α) (x : α) (a' : Act) (W : World), w.heap.size ≤ l → I pre W → Ax x a' W → pre.length < N → body.wpIn (F.inRound l) (n - 1 - 1) P (GoesOn w.heap.size (Kp l) I (pre ++ [x]) W) a' W)
    (hdone : ∀ (D : Nat) (xs : List α) (W : World), w.heap.size ≤ D → S xs → I xs W → W.heap[D]? = some (.deferred (some [])) → Q .normal { a with defers := { target := .collected D, args := #[] } :: a.defers } W) :
    (Code.rangeFunc g ps assign body).wpIn F n P Q a w := by
  refine wpIn_rangeFunc (fun fn hfn => ?_)
  rw [hro]
  let rec_ : LoopState → Loop := fun st => { state := st, pending := none, fn, tmps := a.tmps, params := ps, assign, body, defers := w.heap.size }
  have hrec : ∀ st, rec_ st = { state := st, pending := none, fn, tmps := a.tmps, params := ps, assign, body, defers := w.heap.size } := fun _ => rfl
  clear_value rec_
  obtain ⟨V, hV⟩ : ∃ V, V = (w.alloc (.deferred (some []))).alloc (.loop (rec_ .ready)) := ⟨_, rfl⟩
  have hVs : V.heap.size = w.heap.size + 2 := by rw [hV]; simp
  have hVd : V.heap[w.heap.size]? = some (.deferred (some [])) := by
    rw [hV, Below.heap_alloc _ _ _ (by simp)]; exact World.alloc_heap_new w _
  have hVl : V.heap[w.heap.size + 1]? = some (.loop (rec_ .ready)) := by
    have := World.alloc_heap_new (w.alloc (.deferred (some []))) (.loop (rec_ .ready))
    rw [World.size_alloc] at this
    rw [hV]; exact this
  have hVI : I [] V := by rw [hV]; exact hI.alloc _ (hI.alloc _ h0)
  have hVb : Below w0.heap.size w0 V := by
    rw [hV]; exact hb0.trans ((((Below.refl _ w).alloc (Nat.le_refl _) _).alloc (by simp) _).mono hb0.size)
  refine ⟨w.heap.size + 1, [{ target := .collected w.heap.size, args := #[] }], V, { target := .fn (.func gf) lb, args := fst ++ #[.func (.yield (w.heap.size + 1)) #[] #[]] }, V, gf, fst ++ #[.func (.yield (w.heap.size + 1)) #[] #[]] ++ lb, V, ?_, ?_, ?_, ?_, fun _ => h1, ?_⟩
  · rw [hV, hrec]; exact run_enterLoop_outer _ _ _ _ _
  · simp only [resolve, hg]
    simp [go_sem]
  · intro f' hf'; simp [Target.leads] at hf'; subst hf'; exact hFg
  · simp [invoke, go_sem, eg]
  · refine (hseq (w.heap.size + 1) (fun pre W => I pre W ∧ W.heap[w.heap.size + 1]? = some (.loop (rec_ .ready)) ∧ W.heap[w.heap.size]? = some (.deferred (some []))) V hVb (by have := hb0.size; omega) (by omega)
      (fun s A B row hs hgr hr => ⟨hI s A B row hs.1 hgr (fun r e => ⟨by have := (hr r e).1; omega, (hr r e).2⟩), later_block hgr hs.2.1 (by omega) hr, later_block hgr hs.2.2 (by omega) hr⟩) ?_ ⟨hVI, hVl, hVd⟩).mono ?_
    · rintro pre x W ⟨hi, hl, hk⟩ hlen
      have hy := run_yield (P := P) (args := encs x) hl (by rw [hrec]; exact hps x)
      rw [hrec] at hy
      refine ⟨fn, _, assign, body, hy, roundIn_of_wpIn hfn (hassign (w.heap.size + 1) pre x W _ (by omega) hi ?_)⟩
      intro a' Wa ka kpa ia axa
      have hla := ka.same _ _ (by omega) hl rfl
      have hka := ka.same _ _ (Nat.le_refl _) hk rfl
      have hlt := (Array.getElem?_eq_some_iff.1 hla).1
      refine ⟨_, run_beginRound hla (by rw [hrec]), ?_⟩
      have hl2 : (Wa.putObj (w.heap.size + 1) (.loop { rec_ .ready with state := .busy })).heap[w.heap.size + 1]? = some (.loop { rec_ .ready with state := .busy }) := World.putObj_heap_same hlt
      have hk2 : (Wa.putObj (w.heap.size + 1) (.loop { rec_ .ready with state := .busy })).heap[w.heap.size]? = some (.deferred (some [])) := (World.putObj_heap_other (by omega)).trans hka
      refine wpIn_mono (hbody (w.heap.size + 1) pre x a' _ (by omega) (hI.putObj _ ia (by omega) hla rfl) ((hAx x a').putObj (s := ()) _ axa (by omega) hla rfl) hlen) ?_
      rintro e a3 W3 hp
      cases e with
      | normal =>
        obtain ⟨k3, kp3, i3⟩ := hp
        have hl3 := k3.same _ _ (by omega) hl2 rfl
        have hd3 := k3.same _ _ (Nat.le_refl _) hk2 rfl
        have hend := run_endRound (P := P) none hl3
        rw [hrec] at hend
        refine ⟨_, _, hend, rfl, ⟨hI.putObj _ i3 (by omega) hl3 rfl, ?_, (World.putObj_heap_other (by omega)).trans hd3⟩, hKt _ _ _ _ kpa (hKt _ _ _ _ (hKt _ _ _ _ (hKb _ _ _ _ (by omega) hla) kp3) (hKb _ _ _ _ (by omega) hl3))⟩
        rw [World.putObj_heap_same (Array.getElem?_eq_some_iff.1 hl3).1, hrec]
        rfl
      | ret => exact hp.elim
      | exit id => exact hp.elim
      | goto t => exact hp.elim
      | panic ch => exact hp.elim
      | outgrown => exact hp.elim
    · rintro e W2 ⟨⟨v, rfl⟩, xs, hS, hi, hl, hk⟩
      have hend := run_endLoop (P := P) hl (by rw [hrec]; simp)
      rw [hrec] at hend
      exact ⟨none, _, hend, hdone _ xs _ (Nat.le_refl _) hS (hI.putObj _ hi (by omega) hl rfl) ((World.putObj_heap_other (by omega)).trans hk)⟩

end Go.Proofs.YtlmlmhinbkcpoaaDoor

namespace Go.Proofs.YtlmlmhinbkcpoaaDoor
open Go.RowKit (wrap32 wrap64)
set_option linter.unusedVariables false
set_option linter.unusedSimpArgs false

theorem heap_new0 (w : World) (o : Obj) : (w.alloc o).heap[w.heap.size]? = some o := (MapKept.heap_alloc w o).1
theorem cell_of0 {w : World} {k : Nat} {cs : Array Value} {t : TypeId} (h : w.heap[k]? = some (.cells cs t)) (o : Nat) : w.cell? ⟨k, o, none⟩ = cs[o]? := by
  unfold World.cell?; rw [h]; simp
theorem heap_lt0 {w : World} {k : Nat} {o : Obj} (h : w.heap[k]? = some o) : k < w.heap.size := (Array.getElem?_eq_some_iff.1 h).1

/-- The location of a variable. -/
def varX (R V v : Int) : Int := if 0 ≤ R ∧ 0 ≤ V ∧ 0 ≤ v ∧ v < V then wrap64 (wrap64 (1 + R) + v) else -1
def cellX (R V : Int) : Int := wrap64 (wrap64 (1 + R) + V)

set_option maxRecDepth 100000 in
set_option maxHeartbeats 1000000 in
theorem numbered_any (P R V : Int) (a : Option Addr) (n c : Nat) (w : World) :
    Calls Tryd.prog 33 #[.agg #[vI P, vI R, vI V, .slice a n c]] w fun e w' => e = .returned (.bool (decide (0 ≤ R ∧ 0 ≤ V))) ∧ w' = w.alloc (.cells #[vI P, vI R, vI V, .slice a n c] 30) := by
  by_cases h1 : 0 ≤ R
  · by_cases h2 : 0 ≤ V
    · have d1 : decide (R ≥ 0) = true := by simpa using h1
      have d2 : decide (V ≥ 0) = true := by simpa using h2
      go_enter Tryd.func33, Tryd.ntmps33
      go_wp2_with fail
      go_ret
      exact ⟨by simp [h1, h2], rfl⟩
    · have d1 : decide (R ≥ 0) = true := by simpa using h1
      have d2 : decide (V ≥ 0) = false := by simpa using h2
      go_enter Tryd.func33, Tryd.ntmps33
      go_wp2_with fail
      go_ret
      exact ⟨by simp [h1, h2], rfl⟩
  · have d1 : decide (R ≥ 0) = false := by simpa using h1
    go_enter Tryd.func33, Tryd.ntmps33
    go_wp2_with fail
    go_ret
    exact ⟨by simp [h1], rfl⟩

set_option maxRecDepth 100000 in
set_option maxHeartbeats 2000000 in
theorem variable_any (P R V v : Int) (a : Option Addr) (n c : Nat) (w : World) :
    Calls Tryd.prog 20 #[.agg #[vI P, vI R, vI V, .slice a n c], vI v] w fun e w' => e = .returned (vI (varX R V v)) ∧ Fr (fun _ => False) w w' := by
  obtain ⟨wa, hwa⟩ : ∃ wa, wa = w.alloc (.cells #[vI P, vI R, vI V, .slice a n c] 30) := ⟨_, rfl⟩
  have hb : wa.heap[w.heap.size]? = some (.cells #[vI P, vI R, vI V, .slice a n c] 30) := by rw [hwa]; exact heap_new0 w _
  have HWA : Hd (wa = w.alloc (.cells #[vI P, vI R, vI V, .slice a n c] 30)) := hwa
  obtain ⟨H, hH⟩ : ∃ H, H = w.heap.size := ⟨_, rfl⟩
  have HH : Hd (H = w.heap.size) := hH
  rw [← hH] at hb
  have c0 : wa.cell? ⟨H, 0, none⟩ = some (vI P) := by rw [cell_of0 hb]; rfl
  have c1 : wa.cell? ⟨H, 1, none⟩ = some (vI R) := by rw [cell_of0 hb]; rfl
  have c2 : wa.cell? ⟨H, 2, none⟩ = some (vI V) := by rw [cell_of0 hb]; rfl
  have c3 : wa.cell? ⟨H, 3, none⟩ = some (.slice a n c) := by rw [cell_of0 hb]; rfl
  obtain ⟨wb, hwb⟩ : ∃ wb, wb = wa.alloc (.cells #[vI P, vI R, vI V, .slice a n c] 30) := ⟨_, rfl⟩
  have HWB : Hd (wb = wa.alloc (.cells #[vI P, vI R, vI V, .slice a n c] 30)) := hwb
  have hFa : Fr (fun _ => False) wa wb := by rw [hwb]; exact Fr.alloc (Fr.refl _ wa) _
  have HF : Hd (Fr (fun _ => False) w wb) := by refine Fr.trans ?_ hFa; rw [hwa]; exact Fr.alloc (Fr.refl _ w) _
  have b1 : wb.cell? ⟨H, 1, none⟩ = some (vI R) := (hFa.cell (heap_lt0 hb) (fun e => e)).trans c1
  have b2 : wb.cell? ⟨H, 2, none⟩ = some (vI V) := (hFa.cell (heap_lt0 hb) (fun e => e)).trans c2
  clear hwa hH hb hwb hFa
  go_enter Tryd.func20, Tryd.ntmps20
  go_upto_region 1 with fail
  rw [← HWA.out, ← HH.out]
  clear HWA
  go_wp2_with fail
  refine (show Calls Tryd.prog 33 #[.agg #[vI P, vI R, vI V, .slice a n c]] wa _ from numbered_any P R V a n c wa).mono ?_
  rintro e w1 ⟨rfl, rfl⟩
  rw [← HWB.out]
  clear HWB c0 c1 c2 c3
  by_cases hn : 0 ≤ R ∧ 0 ≤ V
  · have d0 : decide (0 ≤ R ∧ 0 ≤ V) = true := by simpa using hn
    rw [d0]
    clear d0
    by_cases hv : 0 ≤ v
    · have d1 : decide (v < 0) = false := by simpa using hv
      by_cases hv2 : v < V
      · have d2 : decide (v ≥ V) = false := by simpa using hv2
        have HX : Hd (varX R V v = wrap64 (wrap64 (1 + R) + v)) := if_pos ⟨hn.1, hn.2, hv, hv2⟩
        clear hn hv hv2
        go_wp2_with fail
        go_ret
        exact ⟨by rw [HX.out]; rfl, HF.out⟩
      · have d2 : decide (v ≥ V) = true := by simpa using hv2
        have HX : Hd (varX R V v = -1) := if_neg (fun h => hv2 h.2.2.2)
        clear hn hv hv2
        go_wp2_with fail
        go_ret
        exact ⟨by rw [HX.out]; rfl, HF.out⟩
    · have d1 : decide (v < 0) = true := by simpa using hv
      have HX : Hd (varX R V v = -1) := if_neg (fun h => hv h.2.2.1)
      clear hn hv
      go_wp2_with fail
      go_ret
      exact ⟨by rw [HX.out]; rfl, HF.out⟩
  · have d0 : decide (0 ≤ R ∧ 0 ≤ V) = false := by simpa using hn
    rw [d0]
    clear d0
    have HX : Hd (varX R V v = -1) := if_neg (fun h => hn ⟨h.1, h.2.1⟩)
    clear hn
    go_wp2_with fail
    go_ret
    exact ⟨by rw [HX.out]; rfl, HF.out⟩

end Go.Proofs.YtlmlmhinbkcpoaaDoor

namespace Go.Proofs.YtlmlmhinbkcpoaaDoor
open Go.RowKit Go.Shelf
set_option linter.unusedVariables false
set_option linter.unusedSimpArgs false
attribute [local go_sem] Oper.semAt_some

/-! ### what a round of a loop over edges keeps -/
abbrev Ed := Int × Int × Int
abbrev encE (x : Ed) : Array Value := #[.agg #[vI x.1, vI x.2.1, vI x.2.2]]
/-- What lay ahead of n0, and cells that are neither edges nor a list of edges, stay. -/
structure KpA (n0 : Nat) (W W' : World) : Prop where
  below : Below n0 W W'
  typed : ∀ (k : Nat) cs t, W.heap[k]? = some (.cells cs t) → t ≠ 47 → t ≠ 36 → W'.heap[k]? = some (.cells cs t)
theorem KpA.refl (n0 : Nat) (W : World) : KpA n0 W W := ⟨Below.refl _ _, fun _ _ _ h _ _ => h⟩
theorem KpA.trans {n0 : Nat} {A B C : World} (h : KpA n0 A B) (k : KpA n0 B C) : KpA n0 A C := ⟨h.below.trans k.below, fun i cs t hi h1 h2 => k.typed i cs t (h.typed i cs t hi h1 h2) h1 h2⟩
/-- Blocks that hold no cells stay too, but for one. -/
structure KpB (n0 : Nat) (l : Nat) (W W' : World) : Prop where
  a : KpA n0 W W'
  other : ∀ (k : Nat) (o : Obj), W.heap[k]? = some o → o.isCells = false → k ≠ l → W'.heap[k]? = some o
theorem KpB.trans {n0 l : Nat} {A B C : World} (h : KpB n0 l A B) (k : KpB n0 l B C) : KpB n0 l A C := ⟨h.a.trans k.a, fun i o hi ho hl => k.other i o (h.other i o hi ho hl) ho hl⟩
theorem KpA.putObj {n0 l : Nat} {W : World} {r : Loop} (o' : Obj) (h : W.heap[l]? = some (.loop r)) (hl : n0 ≤ l) : KpA n0 W (W.putObj l o') :=
  ⟨(Below.refl n0 W).grown (grownBy_putObj' W l o') (by have := (Array.getElem?_eq_some_iff.1 h).1; omega) (fun k e => by cases e; omega), fun k cs t hk _ _ => by
    by_cases e : k = l
    · subst e; rw [h] at hk; cases hk
    · exact (World.putObj_heap_other e).trans hk⟩
theorem KpB.putObj {n0 l : Nat} {W : World} {r : Loop} (o' : Obj) (h : W.heap[l]? = some (.loop r)) (hl : n0 ≤ l) : KpB n0 l W (W.putObj l o') :=
  ⟨KpA.putObj o' h hl, fun k o hk _ hne => (World.putObj_heap_other hne).trans hk⟩

theorem KpA.ofFr {n0 : Nat} {W W' : World} (f : Fr (fun _ => False) W W') (h : n0 ≤ W.heap.size) : KpA n0 W W' :=
  ⟨⟨f.os, f.tape, f.output, f.size, fun k hk => f.block k (by omega) (fun e => e)⟩, fun k cs t hk _ _ => (f.block k (heap_lt0 hk) (fun e => e)).trans hk⟩
/-- The edges of a Return. -/
def retE (R V : Int) (zs : List Int) : List Ed := (List.range zs.length).map fun (j : Nat) => (1 + (j : Int), varX R V (zs[j]?.getD 0), 0)
theorem retE_take (R V : Int) (zs : List Int) (k : Nat) (h : k < zs.length) : (retE R V zs).take (k + 1) = (retE R V zs).take k ++ [(1 + (k : Int), varX R V (zs[k]?.getD 0), 0)] := by
  have hl : k < (retE R V zs).length := by simp [retE, h]
  rw [List.take_add_one, List.getElem?_eq_getElem hl]
  simp [retE]

set_option maxRecDepth 100000 in
set_option maxHeartbeats 2000000 in
theorem returned1_in (n : Nat) (l n0 Ba Bb : Nat) (P R V : Int) (ca : Option Addr) (cn cc : Nat) (sv : Value) (zs : List Int) (ad : Option Addr) (cap : Nat) (hlen : zs.length ≤ 1000000) (W : World) (hn0 : n0 ≤ W.heap.size) (J : List Ed → World → Prop)
    (hY : ∀ pre x W, J pre W → pre.length < zs.length → YieldAt Fence.wide (n - 1) Tryd.prog l (encE x) W fun e W' => e = .returned (.bool true) ∧ J (pre ++ [x]) W' ∧ KpA n0 W W')
    (hJ : ∀ pre (W W' : World), J pre W → Fr (fun _ => False) W W' → J pre W')
    (hBa : W.heap[Ba]? = some (.cells #[.slice ad zs.length cap] 31)) (hBb : W.heap[Bb]? = some (.cells #[vI P, vI R, vI V, .slice ca cn cc, sv] 63))
    (hc : zs ≠ [] → ∃ k0 o0, ad = some ⟨k0, o0, none⟩ ∧ k0 < n0 ∧ ∀ j (h : j < zs.length), W.cell? ⟨k0, o0 + j, none⟩ = some (vI zs[j])) (h0 : J [] W) :
    CallsIn Fence.wide n Tryd.prog 83 #[.func (.yield l) #[] #[], .pointer (some ⟨Ba, 0, none⟩), .pointer (some ⟨Bb, 0, none⟩)] W fun e W' => (∃ v, e = .returned v) ∧ J (retE R V zs) W' := by
  have hca : W.cell? ⟨Ba, 0, none⟩ = some (.slice ad zs.length cap) := by rw [cell_of0 hBa]; rfl
  refine callsIn_of_wp Tryd.func83 rfl trivial ?_ rfl
  simp only [Tryd.ntmps83, List.size_toArray, List.length_cons, List.length_nil, Nat.reduceAdd, Nat.reduceSub, Array.replicate_succ, Array.replicate_zero, List.push_toArray, List.append_toArray, List.nil_append, List.cons_append]
  gi_wp2
  gi_loopw [8] (fun i wr => ∃ k : Nat, k ≤ zs.length ∧ i = .int .i64 k ∧ J ((retE R V zs).take k) wr ∧ KpA n0 W wr) (fun i _ => zs.length - (RowKit.intOf i).toNat)
  case atStart => exact ⟨0, Nat.zero_le _, rfl, h0, KpA.refl _ _⟩
  case round =>
    obtain ⟨k, hk, rfl, hJs, hnx⟩ := hrel
    have hn0w : n0 ≤ wr.heap.size := Nat.le_trans hn0 hnx.below.size
    by_cases hlt : k < zs.length
    · obtain ⟨k0, o0, rfl, hk0, hc⟩ := hc (by intro e; simp [e] at hlt)
      have hcx : wr.cell? ⟨k0, o0 + k, none⟩ = some (vI zs[k]) := (hnx.below.cell (p := ⟨k0, o0 + k, none⟩) hk0).trans (hc k hlt)
      have bB := hnx.typed Bb _ _ hBb (by decide) (by decide)
      have q0 : wr.cell? ⟨Bb, 0, none⟩ = some (vI P) := by rw [cell_of0 bB]; rfl
      have q1 : wr.cell? ⟨Bb, 1, none⟩ = some (vI R) := by rw [cell_of0 bB]; rfl
      have q2 : wr.cell? ⟨Bb, 2, none⟩ = some (vI V) := by rw [cell_of0 bB]; rfl
      have q3 : wr.cell? ⟨Bb, 3, none⟩ = some (.slice ca cn cc) := by rw [cell_of0 bB]; rfl
      have htk := retE_take R V zs k hlt
      rw [List.getElem?_eq_getElem hlt] at htk
      simp only [Option.getD_some] at htk
      generalize zs[k] = x at hcx htk
      gi_wp2_with fail
      refine ⟨trivial, (fun h => by cases h), ?_⟩
      refine (callsIn_wide.2 (variable_any P R V x ca cn cc wr)).mono ?_
      rintro e w2 ⟨rfl, hF2⟩
      have hJ2 := hJ _ _ _ hJs hF2
      obtain ⟨fn, tmps, assign, body, hy, hR⟩ := hY _ (1 + (k : Int), varX R V x, 0) w2 hJ2 (by rw [List.length_take]; omega)
      gi_wp2
      refine ⟨(fun h => by cases h), hR.mono ?_⟩
      rintro e W3 ⟨rfl, hJ3, hk3⟩
      have hB2 : KpA n0 wr w2 := KpA.ofFr hF2 hn0w
      gi_wp2
      go_roundw
      case rel => exact ⟨k + 1, by omega, by simp, by rw [htk]; exact hJ3, hnx.trans (hB2.trans hk3)⟩
      case measure => simp [RowKit.intOf]; omega
    · obtain rfl : k = zs.length := by omega
      gi_wp2
      go_end0
      exact ⟨⟨_, rfl⟩, by rw [List.take_of_length_le (by simp [retE])] at hJs; exact hJs⟩

theorem own_fr {β : Type} {B : Nat} {J : β → World → Prop} (h : OwnFrom B J) {s : β} {A A' : World} (hs : J s A) (f : Fr (fun _ => False) A A') : J s A' :=
  h s A A' none hs ⟨f.os, f.tape, f.output, f.size, fun k hk _ => f.block k hk (fun e => e)⟩ (fun r e => by cases e)

/-- The function that 'returned' hands over. -/
theorem returned_gives (n n0 Ba Bb : Nat) (P R V : Int) (ca : Option Addr) (cn cc : Nat) (sv : Value) (zs : List Int) (ad : Option Addr) (cap : Nat) (w : World) (hlen : zs.length ≤ 1000000) (hn0 : n0 ≤ w.heap.size)
    (hBa : w.heap[Ba]? = some (.cells #[.slice ad zs.length cap] 31)) (hBb : w.heap[Bb]? = some (.cells #[vI P, vI R, vI V, .slice ca cn cc, sv] 63))
    (hc : zs ≠ [] → ∃ k0 o0, ad = some ⟨k0, o0, none⟩ ∧ k0 < n0 ∧ ∀ j (h : j < zs.length), w.cell? ⟨k0, o0 + j, none⟩ = some (vI zs[j])) :
    SeqGivesC Fence.wide n Tryd.prog 83 #[] #[.pointer (some ⟨Ba, 0, none⟩), .pointer (some ⟨Bb, 0, none⟩)] encE (fun _ => KpA n0) (fun xs => xs = retE R V zs) zs.length w := fun l J W hW _ hl hJ hY h0 => by
  have kb : ∀ (k : Nat) (o : Obj), w.heap[k]? = some o → W.heap[k]? = some o := fun k o h => (hW.block k (heap_lt0 h)).trans h
  refine (returned1_in n l n0 Ba Bb P R V ca cn cc sv zs ad cap hlen W (Nat.le_trans hn0 hW.size) J hY (fun pre A A' hs f => own_fr hJ hs f) (kb _ _ hBa) (kb _ _ hBb) (fun hne => ?_) h0).mono ?_
  · obtain ⟨k0, o0, e, hk, hc⟩ := hc hne
    exact ⟨k0, o0, e, hk, fun j hj => (hW.cell (p := ⟨k0, o0 + j, none⟩) (by show k0 < _; omega)).trans (hc j hj)⟩
  · rintro e W' ⟨he, hj⟩
    exact ⟨he, _, rfl, hj⟩

end Go.Proofs.YtlmlmhinbkcpoaaDoor

namespace Go.Proofs.YtlmlmhinbkcpoaaDoor
open Go.RowKit (wrap32 wrap64)
set_option linter.unusedVariables false
set_option linter.unusedSimpArgs false

theorem returned_any (P R V : Int) (ca : Option Addr) (cn cc : Nat) (sa : Option Addr) (sn sc : Nat) (ad : Option Addr) (m cap : Nat) (w : World) :
    Calls Tryd.prog 66 #[.agg #[vI P, vI R, vI V, .slice ca cn cc, .slice sa sn sc], .slice ad m cap] w fun e w' => e = .returned (.func (.func 83) #[] #[.pointer (some ⟨w.heap.size + 1, 0, none⟩), .pointer (some ⟨w.heap.size, 0, none⟩)]) ∧ w' = (w.alloc (.cells #[vI P, vI R, vI V, .slice ca cn cc, .slice sa sn sc] 63)).alloc (.cells #[.slice ad m cap] 31) := by
  go_enter Tryd.func66, Tryd.ntmps66
  go_wp2
  go_ret
  exact ⟨rfl, rfl⟩

theorem firstCell_any (P R V : Int) (a : Option Addr) (n c : Nat) (w : World) :
    Calls Tryd.prog 34 #[.agg #[vI P, vI R, vI V, .slice a n c]] w fun e w' => e = .returned (vI (cellX R V)) ∧ w' = w.alloc (.cells #[vI P, vI R, vI V, .slice a n c] 30) := by
  go_enter Tryd.func34, Tryd.ntmps34
  go_wp2
  go_ret
  exact ⟨rfl, rfl⟩

theorem returned_gives_new (n n0 X : Nat) (P R V : Int) (ca : Option Addr) (cn cc : Nat) (sa : Option Addr) (sn sc : Nat) (zs : List Int) (ad : Option Addr) (cap : Nat) (w : World) (hX : w.heap.size = X) (hlen : zs.length ≤ 1000000) (hn0 : n0 ≤ w.heap.size)
    (hc : zs ≠ [] → ∃ k0 o0, ad = some ⟨k0, o0, none⟩ ∧ k0 < n0 ∧ ∀ j (h : j < zs.length), w.cell? ⟨k0, o0 + j, none⟩ = some (vI zs[j])) :
    SeqGivesC Fence.wide n Tryd.prog 83 #[] #[.pointer (some ⟨X + 1, 0, none⟩), .pointer (some ⟨X, 0, none⟩)] encE (fun _ => KpA n0) (fun xs => xs = retE R V zs) (retE R V zs).length ((w.alloc (.cells #[vI P, vI R, vI V, .slice ca cn cc, .slice sa sn sc] 63)).alloc (.cells #[.slice ad zs.length cap] 31)) := by
  subst hX
  have hl : (retE R V zs).length = zs.length := by simp [retE]
  rw [hl]
  have f : Fr (fun _ => False) w ((w.alloc (.cells #[vI P, vI R, vI V, .slice ca cn cc, .slice sa sn sc] 63)).alloc (.cells #[.slice ad zs.length cap] 31)) := Fr.alloc (Fr.alloc (Fr.refl _ w) _) _
  refine returned_gives n n0 (w.heap.size + 1) w.heap.size P R V ca cn cc (.slice sa sn sc) zs ad cap _ hlen (Nat.le_trans hn0 f.size) ?_ ?_ (fun hne => ?_)
  · have := heap_new0 (w.alloc (.cells #[vI P, vI R, vI V, .slice ca cn cc, .slice sa sn sc] 63)) (.cells #[.slice ad zs.length cap] 31)
    rw [World.size_alloc] at this
    exact this
  · rw [Go.RowKit.Below.heap_alloc _ _ _ (by simp)]; exact heap_new0 w _
  · obtain ⟨k0, o0, e, hk, hcc⟩ := hc hne
    exact ⟨k0, o0, e, hk, fun j hj => (f.cell (by omega) (fun e => e)).trans (hcc j hj)⟩

/-- The package's table. -/
def RowsT (w : World) : Prop := w.cell? ⟨0, 60, none⟩ = some (vI 2) ∧ w.cell? ⟨0, 61, none⟩ = some (vI 0) ∧ w.cell? ⟨0, 62, none⟩ = some (vI 0) ∧ w.cell? ⟨0, 63, none⟩ = some (vI 0)

/-- What 'given' hands over, whatever has been kept since. -/
def Given (n0 : Nat) (bv iv : Value) (cell : Int) (E : List Ed) (w : World) : Prop :=
  ∀ W, KpA n0 w W → Calls Tryd.prog 46 #[bv, iv, vI cell] W fun e W' => ∃ g lb, e = .returned (.func (.func g) #[] lb) ∧ (∀ args w, (callFunc g args).run Tryd.prog w = .ok (.enter g args) w) ∧ Fr (fun _ => False) W W' ∧ ∀ n, SeqGivesC Fence.wide n Tryd.prog g #[] lb encE (fun _ => KpA n0) (fun xs => xs = E) E.length W'

set_option maxRecDepth 100000 in
set_option maxHeartbeats 2000000 in
theorem given_return (n0 : Nat) (P R V : Int) (ca : Option Addr) (cn cc : Nat) (sa : Option Addr) (sn sc : Nat) (r s t m cell : Int) (zs : List Int) (ad : Option Addr) (cap : Nat) (ra : Option Addr) (rn rc : Nat) (w : World) (hlen : zs.length ≤ 1000000) (h0 : 0 < n0) (hn0 : n0 ≤ w.heap.size) (hT : RowsT w)
    (hc : zs ≠ [] → ∃ k0 o0, ad = some ⟨k0, o0, none⟩ ∧ k0 < n0 ∧ ∀ j (h : j < zs.length), w.cell? ⟨k0, o0 + j, none⟩ = some (vI zs[j])) :
    Given n0 (.agg #[vI P, vI R, vI V, .slice ca cn cc, .slice sa sn sc]) (.agg #[vI 15, vI r, vI s, vI t, vI m, .slice ad zs.length cap, .slice ra rn rc]) cell (retE R V zs) w := by
  intro W hK
  have tb : ∀ o, W.cell? ⟨0, o, none⟩ = w.cell? ⟨0, o, none⟩ := fun o => hK.below.cell (p := ⟨0, o, none⟩) h0
  have t0 : W.cell? ⟨0, 60, none⟩ = some (vI 2) := (tb _).trans hT.1
  have t1 : W.cell? ⟨0, 61, none⟩ = some (vI 0) := (tb _).trans hT.2.1
  have t2 : W.cell? ⟨0, 62, none⟩ = some (vI 0) := (tb _).trans hT.2.2.1
  have t3 : W.cell? ⟨0, 63, none⟩ = some (vI 0) := (tb _).trans hT.2.2.2
  have HC : Hd (zs ≠ [] → ∃ k0 o0, ad = some ⟨k0, o0, none⟩ ∧ k0 < n0 ∧ ∀ j (h : j < zs.length), W.cell? ⟨k0, o0 + j, none⟩ = some (vI zs[j])) := fun hne => by
    obtain ⟨k0, o0, e, hk, hcc⟩ := hc hne
    exact ⟨k0, o0, e, hk, fun j hj => (hK.below.cell (p := ⟨k0, o0 + j, none⟩) hk).trans (hcc j hj)⟩
  have HN : Hd (n0 ≤ W.heap.size) := Nat.le_trans hn0 hK.below.size
  have hWp : 0 < W.heap.size := Nat.lt_of_lt_of_le h0 HN.out
  clear tb hT hc hK
  go_enter Tryd.func46, Tryd.ntmps46
  go_wp2_with fail
  refine (returned_any P R V ca cn cc sa sn sc ad zs.length cap _).mono ?_
  rintro e w1 ⟨rfl, rfl⟩
  go_wp2_with fail
  go_ret
  refine ⟨83, _, rfl, enters_of Tryd.func83 (by kernel_rfl) rfl, ?_, fun n => ?_⟩
  · exact Fr.alloc (Fr.alloc (Fr.alloc (Fr.alloc (Fr.alloc (Fr.refl _ W) _) _) _) _) _
  · refine returned_gives_new n n0 _ P R V ca cn cc sa sn sc zs ad cap _ (by simp) hlen ?_ (fun hne => ?_)
    · have := HN.out; simp; omega
    · obtain ⟨k0, o0, e, hk, hcc⟩ := HC.out hne
      refine ⟨k0, o0, e, hk, fun j hj => ?_⟩
      have f : Fr (fun _ => False) W (((W.alloc (.cells #[vI P, vI R, vI V, .slice ca cn cc, .slice sa sn sc] 63)).alloc (.cells #[vI 15, vI r, vI s, vI t, vI m, .slice ad zs.length cap, .slice ra rn rc] 57)).alloc (.cells #[vI 2, vI 0, vI 0, vI 0] 99)) := Fr.alloc (Fr.alloc (Fr.alloc (Fr.refl _ W) _) _) _
      exact (f.cell (by have := HN.out; omega) (fun e => e)).trans (hcc j hj)

end Go.Proofs.YtlmlmhinbkcpoaaDoor
