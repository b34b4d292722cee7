import Derived.Test.YtdkijecnnmncnaaGreatDoorQEkJ
import Derived.Test.YtdkijecnnmncnaaGreatDoorQD1J
import Derived.RangeFuncBox
import Derived.RangeFuncBound
import Derived.RangeFuncCalls
import Derived.Shelf.Abstract
import Derived.Shelf.RegionOpen
import Derived.OwnWalkIn
import Derived.TacticsInMore
import Derived.LoopNIn
import Derived.LoopIn
namespace Go.Proofs.YtdkijecnnmncnaaGreatDoor
open Go.RowKit Go.Shelf
set_option linter.unusedVariables false
set_option linter.unusedSimpArgs false
set_option maxRecDepth 100000
set_option maxHeartbeats 2000000
attribute [local go_sem] Oper.semAt_some
abbrev Ed := Int × Int × Int
abbrev encE (x : Ed) : Array Value := #[.agg #[vI x.1, vI x.2.1, vI x.2.2]]
structure KpA (n0 : Nat) (W W' : World) : Prop where
 below : Below n0 W W'
 typed : ∀ (k : Nat) cs t, W.heap[k]? = some (.cells cs t) → t ≠ 140 → t ≠ 85 → W'.heap[k]? = some (.cells cs t)
theorem KpA.refl (n0 : Nat) (W : World) : KpA n0 W W := ⟨Below.refl _ _, fun _ _ _ h _ _ => h⟩
theorem KpA.trans {n0 : Nat} {A B C : World} (h : KpA n0 A B) (k : KpA n0 B C) : KpA n0 A C := ⟨h.below.trans k.below, fun i cs t hi h1 h2 => k.typed i cs t (h.typed i cs t hi h1 h2) h1 h2⟩
structure KpB (n0 : Nat) (l : Nat) (W W' : World) : Prop where
 a : KpA n0 W W'
 other : ∀ (k : Nat) (o : Obj), W.heap[k]? = some o → o.isCells = false → k ≠ l → W'.heap[k]? = some o
theorem KpB.trans {n0 l : Nat} {A B C : World} (h : KpB n0 l A B) (k : KpB n0 l B C) : KpB n0 l A C := ⟨h.a.trans k.a, fun i o hi ho hl => k.other i o (h.other i o hi ho hl) ho hl⟩
theorem KpA.putObj {n0 l : Nat} {W : World} {r : Loop} (o' : Obj) (h : W.heap[l]? = some (.loop r)) (hl : n0 ≤ l) : KpA n0 W (W.putObj l o') :=
 ⟨(Below.refl n0 W).grown (grownBy_putObj' W l o') (by have := (Array.getElem?_eq_some_iff.1 h).1; omega) (fun k e => by cases e; omega), fun k cs t hk _ _ => by
  by_cases e : k = l
  ·subst e; rw [h] at hk; cases hk
  ·exact (World.putObj_heap_other e).trans hk⟩
theorem KpB.putObj {n0 l : Nat} {W : World} {r : Loop} (o' : Obj) (h : W.heap[l]? = some (.loop r)) (hl : n0 ≤ l) : KpB n0 l W (W.putObj l o') :=
 ⟨KpA.putObj o' h hl, fun k o hk _ hne => (World.putObj_heap_other hne).trans hk⟩
theorem KpA.ofFr {n0 : Nat} {W W' : World} (f : Fr (fun _ => False) W W') (h : n0 ≤ W.heap.size) : KpA n0 W W' :=
 ⟨⟨f.os, f.tape, f.output, f.size, fun k hk => f.block k (by omega) (fun e => e)⟩, fun k cs t hk _ _ => (f.block k (heap_lt0 hk) (fun e => e)).trans hk⟩
def retE (R V : Int) (zs : List Int) : List Ed := (List.range zs.length).map fun (j : Nat) => (1 + (j : Int), varX R V (zs[j]?.getD 0), 0)
theorem retE_take (R V : Int) (zs : List Int) (k : Nat) (h : k < zs.length) : (retE R V zs).take (k + 1) = (retE R V zs).take k ++ [(1 + (k : Int), varX R V (zs[k]?.getD 0), 0)] := by
 have hl : k < (retE R V zs).length := by simp [retE, h]
 rw [List.take_add_one, List.getElem?_eq_getElem hl]
 simp [retE]
theorem returned1_in (n : Nat) (l n0 Ba Bb : Nat) (P R V : Int) (ca : Option Addr) (cn cc : Nat) (sv : Value) (zs : List Int) (ad : Option Addr) (cap : Nat) (hlen : zs.length ≤ 1000000) (W : World) (hn0 : n0 ≤ W.heap.size) (J : List Ed → World → Prop)
 (hY : ∀ pre x W, J pre W → pre.length < zs.length → YieldAt Fence.wide (n - 1) Tryz.prog l (encE x) W fun e W' => e = .returned (.bool true) ∧ J (pre ++ [x]) W' ∧ KpA n0 W W')
 (hJ : ∀ pre (W W' : World), J pre W → Fr (fun _ => False) W W' → J pre W')
 (hBa : W.heap[Ba]? = some (.cells #[.slice ad zs.length cap] 30)) (hBb : W.heap[Bb]? = some (.cells #[vI P, vI R, vI V, .slice ca cn cc, sv] 138))
 (hc : zs ≠ [] → ∃ k0 o0, ad = some ⟨k0, o0, none⟩ ∧ k0 < n0 ∧ ∀ j (h : j < zs.length), W.cell? ⟨k0, o0 + j, none⟩ = some (vI zs[j])) (h0 : J [] W) :
 CallsIn Fence.wide n Tryz.prog 192 #[.func (.yield l) #[] #[], .pointer (some ⟨Ba, 0, none⟩), .pointer (some ⟨Bb, 0, none⟩)] W fun e W' => (∃ v, e = .returned v) ∧ J (retE R V zs) W' := by
 have hca : W.cell? ⟨Ba, 0, none⟩ = some (.slice ad zs.length cap) := by rw [cell_of0 hBa]; rfl
 refine callsIn_of_wp Tryz.func192 rfl trivial ?_ rfl
 simp only [Tryz.ntmps192, List.size_toArray, List.length_cons, List.length_nil, Nat.reduceAdd, Nat.reduceSub, Array.replicate_succ, Array.replicate_zero, List.push_toArray, List.append_toArray, List.nil_append, List.cons_append]
 gi_wp2
 gi_loopw [8] (fun i wr => ∃ k : Nat, k ≤ zs.length ∧ i = .int .i64 k ∧ J ((retE R V zs).take k) wr ∧ KpA n0 W wr) (fun i _ => zs.length - (RowKit.intOf i).toNat)
 case atStart => exact ⟨0, Nat.zero_le _, rfl, h0, KpA.refl _ _⟩
 case round =>
  obtain ⟨k, hk, rfl, hJs, hnx⟩ := hrel
  have hn0w : n0 ≤ wr.heap.size := Nat.le_trans hn0 hnx.below.size
  by_cases hlt : k < zs.length
  ·obtain ⟨k0, o0, rfl, hk0, hc⟩ := hc (by intro e; simp [e] at hlt)
   have hcx : wr.cell? ⟨k0, o0 + k, none⟩ = some (vI zs[k]) := (hnx.below.cell (p := ⟨k0, o0 + k, none⟩) hk0).trans (hc k hlt)
   have bB := hnx.typed Bb _ _ hBb (by decide) (by decide)
   have q0 : wr.cell? ⟨Bb, 0, none⟩ = some (vI P) := by rw [cell_of0 bB]; rfl
   have q1 : wr.cell? ⟨Bb, 1, none⟩ = some (vI R) := by rw [cell_of0 bB]; rfl
   have q2 : wr.cell? ⟨Bb, 2, none⟩ = some (vI V) := by rw [cell_of0 bB]; rfl
   have q3 : wr.cell? ⟨Bb, 3, none⟩ = some (.slice ca cn cc) := by rw [cell_of0 bB]; rfl
   have htk := retE_take R V zs k hlt
   rw [List.getElem?_eq_getElem hlt] at htk
   simp only [Option.getD_some] at htk
   generalize zs[k] = x at hcx htk
   gi_wp2_with fail
   refine ⟨trivial, (fun h => by cases h), ?_⟩
   refine (callsIn_wide.2 (variable_any P R V x ca cn cc wr)).mono ?_
   rintro e w2 ⟨rfl, hF2⟩
   have hJ2 := hJ _ _ _ hJs hF2
   obtain ⟨fn, tmps, assign, body, hy, hR⟩ := hY _ (1 + (k : Int), varX R V x, 0) w2 hJ2 (by rw [List.length_take]; omega)
   gi_wp2
   refine ⟨(fun h => by cases h), hR.mono ?_⟩
   rintro e W3 ⟨rfl, hJ3, hk3⟩
   have hB2 : KpA n0 wr w2 := KpA.ofFr hF2 hn0w
   gi_wp2
   go_roundw
   case rel => exact ⟨k + 1, by omega, by simp, by rw [htk]; exact hJ3, hnx.trans (hB2.trans hk3)⟩
   case measure => simp [RowKit.intOf]; omega
  ·obtain rfl : k = zs.length := by omega
   gi_wp2
   go_end0
   exact ⟨⟨_, rfl⟩, by rw [List.take_of_length_le (by simp [retE])] at hJs; exact hJs⟩
theorem own_fr {β : Type} {B : Nat} {J : β → World → Prop} (h : OwnFrom B J) {s : β} {A A' : World} (hs : J s A) (f : Fr (fun _ => False) A A') : J s A' :=
 h s A A' none hs ⟨f.os, f.tape, f.output, f.size, fun k hk _ => f.block k hk (fun e => e)⟩ (fun r e => by cases e)
theorem returned_gives (n n0 Ba Bb : Nat) (P R V : Int) (ca : Option Addr) (cn cc : Nat) (sv : Value) (zs : List Int) (ad : Option Addr) (cap : Nat) (w : World) (hlen : zs.length ≤ 1000000) (hn0 : n0 ≤ w.heap.size)
 (hBa : w.heap[Ba]? = some (.cells #[.slice ad zs.length cap] 30)) (hBb : w.heap[Bb]? = some (.cells #[vI P, vI R, vI V, .slice ca cn cc, sv] 138))
 (hc : zs ≠ [] → ∃ k0 o0, ad = some ⟨k0, o0, none⟩ ∧ k0 < n0 ∧ ∀ j (h : j < zs.length), w.cell? ⟨k0, o0 + j, none⟩ = some (vI zs[j])) :
 SeqGivesC Fence.wide n Tryz.prog 192 #[] #[.pointer (some ⟨Ba, 0, none⟩), .pointer (some ⟨Bb, 0, none⟩)] encE (fun _ => KpA n0) (fun xs => xs = retE R V zs) zs.length w := fun l J W hW _ hl hJ hY h0 => by
 have kb : ∀ (k : Nat) (o : Obj), w.heap[k]? = some o → W.heap[k]? = some o := fun k o h => (hW.block k (heap_lt0 h)).trans h
 refine (returned1_in n l n0 Ba Bb P R V ca cn cc sv zs ad cap hlen W (Nat.le_trans hn0 hW.size) J hY (fun pre A A' hs f => own_fr hJ hs f) (kb _ _ hBa) (kb _ _ hBb) (fun hne => ?_) h0).mono ?_
 ·obtain ⟨k0, o0, e, hk, hc⟩ := hc hne
  exact ⟨k0, o0, e, hk, fun j hj => (hW.cell (p := ⟨k0, o0 + j, none⟩) (by show k0 < _; omega)).trans (hc j hj)⟩
 ·rintro e W' ⟨he, hj⟩
  exact ⟨he, _, rfl, hj⟩
end Go.Proofs.YtdkijecnnmncnaaGreatDoor
namespace Go.Proofs.YtdkijecnnmncnaaGreatDoor
open Go.RowKit (wrap32 wrap64)
set_option linter.unusedVariables false
set_option linter.unusedSimpArgs false
set_option maxRecDepth 100000
set_option maxHeartbeats 2000000
theorem returned_any (P R V : Int) (ca : Option Addr) (cn cc : Nat) (sa : Option Addr) (sn sc : Nat) (ad : Option Addr) (m cap : Nat) (w : World) :
 Calls Tryz.prog 156 #[.agg #[vI P, vI R, vI V, .slice ca cn cc, .slice sa sn sc], .slice ad m cap] w fun e w' => e = .returned (.func (.func 192) #[] #[.pointer (some ⟨w.heap.size + 1, 0, none⟩), .pointer (some ⟨w.heap.size, 0, none⟩)]) ∧ w' = (w.alloc (.cells #[vI P, vI R, vI V, .slice ca cn cc, .slice sa sn sc] 138)).alloc (.cells #[.slice ad m cap] 30) := by
 go_enter Tryz.func156, Tryz.ntmps156
 go_wp2
 go_ret
 exact ⟨rfl, rfl⟩
theorem firstCell_any (P R V : Int) (a : Option Addr) (n c : Nat) (w : World) :
 Calls Tryz.prog 124 #[.agg #[vI P, vI R, vI V, .slice a n c]] w fun e w' => e = .returned (vI (cellX R V)) ∧ w' = w.alloc (.cells #[vI P, vI R, vI V, .slice a n c] 45) := by
 go_enter Tryz.func124, Tryz.ntmps124
 go_wp2
 go_ret
 exact ⟨rfl, rfl⟩
theorem returned_gives_new (n n0 X : Nat) (P R V : Int) (ca : Option Addr) (cn cc : Nat) (sa : Option Addr) (sn sc : Nat) (zs : List Int) (ad : Option Addr) (cap : Nat) (w : World) (hX : w.heap.size = X) (hlen : zs.length ≤ 1000000) (hn0 : n0 ≤ w.heap.size)
 (hc : zs ≠ [] → ∃ k0 o0, ad = some ⟨k0, o0, none⟩ ∧ k0 < n0 ∧ ∀ j (h : j < zs.length), w.cell? ⟨k0, o0 + j, none⟩ = some (vI zs[j])) :
 SeqGivesC Fence.wide n Tryz.prog 192 #[] #[.pointer (some ⟨X + 1, 0, none⟩), .pointer (some ⟨X, 0, none⟩)] encE (fun _ => KpA n0) (fun xs => xs = retE R V zs) (retE R V zs).length ((w.alloc (.cells #[vI P, vI R, vI V, .slice ca cn cc, .slice sa sn sc] 138)).alloc (.cells #[.slice ad zs.length cap] 30)) := by
 subst hX
 have hl : (retE R V zs).length = zs.length := by simp [retE]
 rw [hl]
 have f : Fr (fun _ => False) w ((w.alloc (.cells #[vI P, vI R, vI V, .slice ca cn cc, .slice sa sn sc] 138)).alloc (.cells #[.slice ad zs.length cap] 30)) := Fr.alloc (Fr.alloc (Fr.refl _ w) _) _
 refine returned_gives n n0 (w.heap.size + 1) w.heap.size P R V ca cn cc (.slice sa sn sc) zs ad cap _ hlen (Nat.le_trans hn0 f.size) ?_ ?_ (fun hne => ?_)
 ·have := heap_new0 (w.alloc (.cells #[vI P, vI R, vI V, .slice ca cn cc, .slice sa sn sc] 138)) (.cells #[.slice ad zs.length cap] 30)
  rw [World.size_alloc] at this
  exact this
 ·rw [Go.RowKit.Below.heap_alloc _ _ _ (by simp)]; exact heap_new0 w _
 ·obtain ⟨k0, o0, e, hk, hcc⟩ := hc hne
  exact ⟨k0, o0, e, hk, fun j hj => (f.cell (by omega) (fun e => e)).trans (hcc j hj)⟩
def RowsT (w : World) : Prop := w.cell? ⟨0, 60, none⟩ = some (vI 2) ∧ w.cell? ⟨0, 61, none⟩ = some (vI 0) ∧ w.cell? ⟨0, 62, none⟩ = some (vI 0) ∧ w.cell? ⟨0, 63, none⟩ = some (vI 0)
def Given (n0 : Nat) (bv iv : Value) (cell : Int) (E : List Ed) (w : World) : Prop :=
 ∀ W, KpA n0 w W → Calls Tryz.prog 125 #[bv, iv, vI cell] W fun e W' => ∃ g lb, e = .returned (.func (.func g) #[] lb) ∧ (∀ args w, (callFunc g args).run Tryz.prog w = .ok (.enter g args) w) ∧ Fr (fun _ => False) W W' ∧ ∀ n, SeqGivesC Fence.wide n Tryz.prog g #[] lb encE (fun _ => KpA n0) (fun xs => xs = E) E.length W'
theorem given_return (n0 : Nat) (P R V : Int) (ca : Option Addr) (cn cc : Nat) (sa : Option Addr) (sn sc : Nat) (r s t m cell : Int) (zs : List Int) (ad : Option Addr) (cap : Nat) (ra : Option Addr) (rn rc : Nat) (w : World) (hlen : zs.length ≤ 1000000) (h0 : 0 < n0) (hn0 : n0 ≤ w.heap.size) (hT : RowsT w)
 (hc : zs ≠ [] → ∃ k0 o0, ad = some ⟨k0, o0, none⟩ ∧ k0 < n0 ∧ ∀ j (h : j < zs.length), w.cell? ⟨k0, o0 + j, none⟩ = some (vI zs[j])) :
 Given n0 (.agg #[vI P, vI R, vI V, .slice ca cn cc, .slice sa sn sc]) (.agg #[vI 15, vI r, vI s, vI t, vI m, .slice ad zs.length cap, .slice ra rn rc]) cell (retE R V zs) w := by
 intro W hK
 have tb : ∀ o, W.cell? ⟨0, o, none⟩ = w.cell? ⟨0, o, none⟩ := fun o => hK.below.cell (p := ⟨0, o, none⟩) h0
 have t0 : W.cell? ⟨0, 60, none⟩ = some (vI 2) := (tb _).trans hT.1
 have t1 : W.cell? ⟨0, 61, none⟩ = some (vI 0) := (tb _).trans hT.2.1
 have t2 : W.cell? ⟨0, 62, none⟩ = some (vI 0) := (tb _).trans hT.2.2.1
 have t3 : W.cell? ⟨0, 63, none⟩ = some (vI 0) := (tb _).trans hT.2.2.2
 have HC : Hd (zs ≠ [] → ∃ k0 o0, ad = some ⟨k0, o0, none⟩ ∧ k0 < n0 ∧ ∀ j (h : j < zs.length), W.cell? ⟨k0, o0 + j, none⟩ = some (vI zs[j])) := fun hne => by
  obtain ⟨k0, o0, e, hk, hcc⟩ := hc hne
  exact ⟨k0, o0, e, hk, fun j hj => (hK.below.cell (p := ⟨k0, o0 + j, none⟩) hk).trans (hcc j hj)⟩
 have HN : Hd (n0 ≤ W.heap.size) := Nat.le_trans hn0 hK.below.size
 have hWp : 0 < W.heap.size := Nat.lt_of_lt_of_le h0 HN.out
 clear tb hT hc hK
 go_enter Tryz.func125, Tryz.ntmps125
 go_wp2_with fail
 refine (returned_any P R V ca cn cc sa sn sc ad zs.length cap _).mono ?_
 rintro e w1 ⟨rfl, rfl⟩
 go_wp2_with fail
 go_ret
 refine ⟨192, _, rfl, enters_of Tryz.func192 (by kernel_rfl) rfl, ?_, fun n => ?_⟩
 ·exact Fr.alloc (Fr.alloc (Fr.alloc (Fr.alloc (Fr.alloc (Fr.refl _ W) _) _) _) _) _
 ·refine returned_gives_new n n0 _ P R V ca cn cc sa sn sc zs ad cap _ (by simp) hlen ?_ (fun hne => ?_)
  ·have := HN.out; simp; omega
  ·obtain ⟨k0, o0, e, hk, hcc⟩ := HC.out hne
   refine ⟨k0, o0, e, hk, fun j hj => ?_⟩
   have f : Fr (fun _ => False) W (((W.alloc (.cells #[vI P, vI R, vI V, .slice ca cn cc, .slice sa sn sc] 138)).alloc (.cells #[vI 15, vI r, vI s, vI t, vI m, .slice ad zs.length cap, .slice ra rn rc] 79)).alloc (.cells #[vI 2, vI 0, vI 0, vI 0] 209)) := Fr.alloc (Fr.alloc (Fr.alloc (Fr.refl _ W) _) _) _
   exact (f.cell (by have := HN.out; omega) (fun e => e)).trans (hcc j hj)
end Go.Proofs.YtdkijecnnmncnaaGreatDoor
namespace Go.Proofs.YtdkijecnnmncnaaGreatDoor
open Go.RowKit Go.Shelf
set_option linter.unusedVariables false
set_option linter.unusedSimpArgs false
set_option maxRecDepth 100000
set_option maxHeartbeats 4000000
attribute [local go_sem] Oper.semAt_some
structure IV where
 op : Int
 r : Int
 s : Int
 t : Int
 n : Int
 aa : Option Addr
 an : Nat
 ac : Nat
 ra : Option Addr
 rn : Nat
 rc : Nat
abbrev IV.cells (x : IV) : Array Value := #[vI x.op, vI x.r, vI x.s, vI x.t, vI x.n, .slice x.aa x.an x.ac, .slice x.ra x.rn x.rc]
abbrev IV.val (x : IV) : Value := .agg x.cells
abbrev markD (D : Nat) : Deferred := { target := .collected D, args := #[] }
theorem leaves_marks {P : Program} {fn : Func} {tmps : Array Value} {R : Ending → World → Prop} {β : Type} {B n : Nat} {J : β → World → Prop} {s : β} (hJ : OwnFrom B J) (hr : fn.results = #[]) (hR : ∀ W, J s W → R (.returned (.tuple #[])) W) :
 ∀ (ds : List Nat) (W : World), ds.Nodup → (∀ D ∈ ds, B ≤ D ∧ W.heap[D]? = some (.deferred (some []))) → J s W → LeavesInM Fence.wide n P fn tmps R (ds.map markD) .returning W
 | [], W, _, _, h => ⟨.tuple #[], results_none hr _ _ _, hR W h⟩
 | D :: ds, W, hn, hd, h => by
   obtain ⟨hB, hD⟩ := hd D List.mem_cons_self
   refine ⟨by simp, Or.inl ⟨D, _, rfl, run_takeDeferred hD, ?_⟩⟩
   refine leaves_marks hJ hr hR ds _ (List.nodup_cons.1 hn).2 (fun D' hD' => ?_) (hJ.putObj _ h hB hD rfl)
   have h1 := hd D' (List.mem_cons_of_mem _ hD')
   have hne : D' ≠ D := fun e => (List.nodup_cons.1 hn).1 (e ▸ hD')
   exact ⟨h1.1, (World.putObj_heap_other hne).trans h1.2⟩
structure EI (J : List Ed → World → Prop) (n0 B : Nat) (pre0 : List Ed) (ds : List Nat) (w6 : World) (X : Nat) (bo yo io : Array Value) (pre : List Ed) (W' : World) : Prop where
 j : J (pre0 ++ pre) W'
 kp : KpA n0 w6 W'
 d : ∀ D ∈ ds, B ≤ D ∧ D < w6.heap.size ∧ W'.heap[D]? = some (.deferred (some []))
 b : W'.heap[B]? = some (.cells bo 138)
 y : W'.heap[B + 1]? = some (.cells yo 176)
 x : W'.heap[X]? = some (.cells io 79)
theorem EI.own {J : List Ed → World → Prop} {n0 B : Nat} {pre0 : List Ed} {ds : List Nat} {w6 : World} {X : Nat} {bo yo io : Array Value} (hJ : OwnFrom B J) (hn0 : n0 ≤ w6.heap.size) (hB : B ≤ w6.heap.size) : OwnFrom w6.heap.size (EI J n0 B pre0 ds w6 X bo yo io) := fun pre A A' row h hg hr => by
 have nc : ∀ (k : Nat) cs t, A.heap[k]? = some (.cells cs t) → A'.heap[k]? = some (.cells cs t) := fun k cs t hk => by
  refine (hg.block k (heap_lt0 hk) (fun e => ?_)).trans hk
  obtain ⟨-, o, ho, hc⟩ := hr k e.symm
  rw [hk] at ho
  cases ho
  cases hc
 refine ⟨hJ _ A A' row h.j hg (fun r e => ⟨by have := (hr r e).1; omega, (hr r e).2⟩), ⟨h.kp.below.trans ((Below.refl n0 A).grown hg (by have := h.kp.below.size; omega) (fun k e => by have := (hr k e).1; omega)), fun k cs t hk h1 h2 => nc k cs t (h.kp.typed k cs t hk h1 h2)⟩, fun D hD => ?_, nc _ _ _ h.b, nc _ _ _ h.y, nc _ _ _ h.x⟩
 obtain ⟨h1, h2, h3⟩ := h.d D hD
 exact ⟨h1, h2, (hg.block D (heap_lt0 h3) (fun e => by have := (hr D e.symm).1; omega)).trans h3⟩
theorem EI.fr {J : List Ed → World → Prop} {n0 B : Nat} {pre0 : List Ed} {ds : List Nat} {w6 : World} {X : Nat} {bo yo io : Array Value} {pre : List Ed} {A A' : World} (h : EI J n0 B pre0 ds w6 X bo yo io pre A) (hJ : OwnFrom B J) (hn0 : n0 ≤ w6.heap.size) (f : Fr (fun _ => False) A A') : EI J n0 B pre0 ds w6 X bo yo io pre A' := by
 have nc : ∀ (k : Nat) (o : Obj), A.heap[k]? = some o → A'.heap[k]? = some o := fun k o hk => (f.block k (heap_lt0 hk) (fun e => e)).trans hk
 exact ⟨own_fr hJ h.j f, h.kp.trans (KpA.ofFr f (by have := h.kp.below.size; omega)), fun D hD => ⟨(h.d D hD).1, (h.d D hD).2.1, nc _ _ (h.d D hD).2.2⟩, nc _ _ h.b, nc _ _ h.y, nc _ _ h.x⟩
theorem EI.yielded {J : List Ed → World → Prop} {n0 B l : Nat} {pre0 : List Ed} {ds : List Nat} {w6 : World} {X : Nat} {bo yo io : Array Value} {pre : List Ed} {z : Ed} {A A' : World} (h : EI J n0 B pre0 ds w6 X bo yo io pre A) (hl : l < B) (hj : J (pre0 ++ pre ++ [z]) A') (k : KpB n0 l A A') : EI J n0 B pre0 ds w6 X bo yo io (pre ++ [z]) A' := by
 refine ⟨by rw [← List.append_assoc]; exact hj, h.kp.trans k.a, fun D hD => ?_, k.a.typed _ _ _ h.b (by decide) (by decide), k.a.typed _ _ _ h.y (by decide) (by decide), k.a.typed _ _ _ h.x (by decide) (by decide)⟩
 obtain ⟨h1, h2, h3⟩ := h.d D hD
 exact ⟨h1, h2, k.other D _ h3 rfl (by omega)⟩
theorem roundIn_wide {m m' l' : Nat} {P : Program} {l : Nat} {f : FuncId} {tmps : Array Value} {assign body : Code} {w : World} {R : Ending → World → Prop} (h : RoundIn Fence.wide m P l f tmps assign body w R) : RoundIn (Fence.wide.inRound l') m' P l f tmps assign body w R :=
 ⟨h.1, fun c cs _ => h.2 c cs (room_wide _)⟩
theorem flat_step (EE : Nat → List Ed) (k : Nat) : (List.range (k + 1)).flatMap EE = (List.range k).flatMap EE ++ EE k := by simp [List.range_succ]
theorem flat_le (EE : Nat → List Ed) : ∀ {k m : Nat}, k ≤ m → ((List.range k).flatMap EE).length ≤ ((List.range m).flatMap EE).length
 | k, 0, h => by
   have e : k = 0 := by omega
   subst e
   exact Nat.le_refl _
 | k, m + 1, h => by
   rw [flat_step EE m, List.length_append]
   by_cases e : k = m + 1
   ·subst e; rw [flat_step EE m, List.length_append]; exact Nat.le_refl _
   ·have := flat_le EE (k := k) (m := m) (by omega); omega
theorem edges_in (n : Nat) (hn : 3 ≤ n) (l n0 N : Nat) (P R V : Int) (ca : Option Addr) (m cc : Nat) (sa : Option Addr) (sn sc : Nat) (I : Nat → IV) (EE : Nat → List Ed) (cl : Nat → Int) (hm : m ≤ 1000000) (W : World) (hn0 : n0 ≤ W.heap.size) (hl : n0 ≤ l) (hlW : l < W.heap.size)
 (hc0 : cl 0 = cellX R V) (hcl : ∀ i, i < m → cl (i + 1) = if (I i).op = 6 then wrap64 (cl i + 1) else cl i)
 (hco : 0 < m → ∃ ck co, ca = some ⟨ck, co, none⟩ ∧ ck < n0 ∧ ∀ i, i < m → ∀ o, o < 7 → W.cell? ⟨ck, co + i * 7 + o, none⟩ = (I i).cells[o]?)
 (hG : ∀ i, i < m → Given n0 (.agg #[vI P, vI R, vI V, .slice ca m cc, .slice sa sn sc]) (I i).val (cl i) (EE i) W)
 (J : List Ed → World → Prop) (hJ : OwnFrom W.heap.size J) (hN : ((List.range m).flatMap EE).length = N)
 (hY : ∀ pre x W1, J pre W1 → pre.length < N → YieldAt Fence.wide (n - 1) Tryz.prog l (encE x) W1 fun e W' => e = .returned (.bool true) ∧ J (pre ++ [x]) W' ∧ KpB n0 l W1 W')
 (h0 : J [] W) :
 CallsIn Fence.wide n Tryz.prog 87 #[.agg #[vI P, vI R, vI V, .slice ca m cc, .slice sa sn sc], .func (.yield l) #[] #[]] W fun e W' => (∃ v, e = .returned v) ∧ J ((List.range m).flatMap EE) W' := by
 refine callsIn_of_wp_marks Tryz.func87 rfl trivial ?_ rfl
 simp only [Tryz.ntmps87, List.size_toArray, List.length_cons, List.length_nil, Nat.reduceAdd, Nat.reduceSub, Array.replicate_succ, Array.replicate_zero, List.push_toArray, List.append_toArray, List.nil_append, List.cons_append]
 gi_wp2_with fail
 refine ⟨trivial, (fun h => by cases h), ?_⟩
 refine (callsIn_wide.2 (firstCell_any P R V ca m cc _)).mono ?_
 rintro e w2 ⟨rfl, rfl⟩
 gi_wp2_with fail
 have hFs : Fr (fun _ => False) W (((W.alloc (.cells #[vI P, vI R, vI V, .slice ca m cc, .slice sa sn sc] 138)).alloc (.cells #[.func (.yield l) #[] #[]] 176)).alloc (.cells #[vI P, vI R, vI V, .slice ca m cc] 45)) := Fr.alloc (Fr.alloc (Fr.alloc (Fr.refl _ W) _) _) _
 have hBs : (((W.alloc (.cells #[vI P, vI R, vI V, .slice ca m cc, .slice sa sn sc] 138)).alloc (.cells #[.func (.yield l) #[] #[]] 176)).alloc (.cells #[vI P, vI R, vI V, .slice ca m cc] 45)).heap[W.heap.size]? = some (.cells #[vI P, vI R, vI V, .slice ca m cc, .slice sa sn sc] 138) := by
  rw [Below.heap_alloc _ _ _ (by simp; omega), Below.heap_alloc _ _ _ (by simp)]; exact heap_new0 W _
 have hYs : (((W.alloc (.cells #[vI P, vI R, vI V, .slice ca m cc, .slice sa sn sc] 138)).alloc (.cells #[.func (.yield l) #[] #[]] 176)).alloc (.cells #[vI P, vI R, vI V, .slice ca m cc] 45)).heap[W.heap.size + 1]? = some (.cells #[.func (.yield l) #[] #[]] 176) := by
  have := heap_new0 (W.alloc (.cells #[vI P, vI R, vI V, .slice ca m cc, .slice sa sn sc] 138)) (.cells #[.func (.yield l) #[] #[]] 176)
  rw [World.size_alloc] at this
  rw [Below.heap_alloc _ _ _ (by simp)]; exact this
 generalize ((W.alloc (.cells #[vI P, vI R, vI V, .slice ca m cc, .slice sa sn sc] 138)).alloc (.cells #[.func (.yield l) #[] #[]] 176)).alloc (.cells #[vI P, vI R, vI V, .slice ca m cc] 45) = wS at *
 refine wpIn_loop (fun a' w' => ∃ (k : Nat) (ds : List Nat) (u6 u7 u16 u17 u18 u19 u20 u21 u22 u23 u24 u25 u26 u27 u28 u29 u30 u31 u32 u33 : Value), a' = { tmps := #[.agg #[vI P, vI R, vI V, .slice ca m cc, .slice sa sn sc], .func (.yield l) #[] #[], .pointer (some ⟨W.heap.size, 0, none⟩), .pointer (some ⟨W.heap.size + 1, 0, none⟩), vI (cl k), undef, u6, u7, .pointer (some ⟨W.heap.size, 0, none⟩), .agg #[vI P, vI R, vI V, .slice ca m cc], vI (cellX R V), .pointer (some ⟨W.heap.size, 0, none⟩), .pointer (some ⟨W.heap.size, 3, none⟩), .slice ca m cc, .int .i64 (m : Int), .int .i64 (k : Int), u16, u17, u18, u19, u20, u21, u22, u23, u24, u25, u26, u27, u28, u29, u30, u31, u32, u33], defers := ds.map markD } ∧ k ≤ m ∧ Hd (ds.Nodup) ∧ Hd (∀ D ∈ ds, W.heap.size ≤ D ∧ w'.heap[D]? = some (.deferred (some []))) ∧ Hd (J ((List.range k).flatMap EE) w') ∧ Hd (KpA n0 W w') ∧ Hd (w'.heap[W.heap.size]? = some (.cells #[vI P, vI R, vI V, .slice ca m cc, .slice sa sn sc] 138)) ∧ Hd (w'.heap[W.heap.size + 1]? = some (.cells #[.func (.yield l) #[] #[]] 176))) (fun a' _ => m - (RowKit.intOf (a'.tmps.getD 15 undef)).toNat) ?_ ?_
 ·rw [← hc0]
  refine ⟨0, [], undef, undef, undef, undef, undef, undef, undef, undef, undef, undef, undef, undef, undef, undef, undef, undef, undef, undef, undef, undef, ?_, Nat.zero_le _, List.nodup_nil, fun D hD => by simp at hD, own_fr hJ h0 hFs, KpA.ofFr hFs hn0, hBs, hYs⟩
  rw [hc0]
  rfl
 ·rintro a' w' ⟨k, ds, u6, u7, u16, u17, u18, u19, u20, u21, u22, u23, u24, u25, u26, u27, u28, u29, u30, u31, u32, u33, rfl, hk, HND, HD, HJ, HK, HB, HYB⟩
  clear hFs hBs hYs
  have hb0 : w'.cell? ⟨W.heap.size, 0, none⟩ = some (vI P) := by rw [cell_of0 HB.out]; rfl
  have hb1 : w'.cell? ⟨W.heap.size, 1, none⟩ = some (vI R) := by rw [cell_of0 HB.out]; rfl
  have hb2 : w'.cell? ⟨W.heap.size, 2, none⟩ = some (vI V) := by rw [cell_of0 HB.out]; rfl
  have hb3 : w'.cell? ⟨W.heap.size, 3, none⟩ = some (.slice ca m cc) := by rw [cell_of0 HB.out]; rfl
  have hb4 : w'.cell? ⟨W.heap.size, 4, none⟩ = some (.slice sa sn sc) := by rw [cell_of0 HB.out]; rfl
  by_cases hlt : k < m
  ·obtain ⟨ck, co, rfl, hck, hcs⟩ := hco (by omega)
   have cx : ∀ o, o < 7 → w'.cell? ⟨ck, co + k * 7 + o, none⟩ = (I k).cells[o]? := fun o ho => (HK.out.below.cell (p := ⟨ck, co + k * 7 + o, none⟩) hck).trans (hcs k hlt o ho)
   have x0 : w'.cell? ⟨ck, co + k * 7, none⟩ = some (vI (I k).op) := cx 0 (by omega)
   have x1 : w'.cell? ⟨ck, co + k * 7 + 1, none⟩ = some (vI (I k).r) := cx 1 (by omega)
   have x2 : w'.cell? ⟨ck, co + k * 7 + 2, none⟩ = some (vI (I k).s) := cx 2 (by omega)
   have x3 : w'.cell? ⟨ck, co + k * 7 + 3, none⟩ = some (vI (I k).t) := cx 3 (by omega)
   have x4 : w'.cell? ⟨ck, co + k * 7 + 4, none⟩ = some (vI (I k).n) := cx 4 (by omega)
   have x5 : w'.cell? ⟨ck, co + k * 7 + 5, none⟩ = some (.slice (I k).aa (I k).an (I k).ac) := cx 5 (by omega)
   have x6 : w'.cell? ⟨ck, co + k * 7 + 6, none⟩ = some (.slice (I k).ra (I k).rn (I k).rc) := cx 6 (by omega)
   have hk0 : (0 : Int) ≤ k := by omega
   have hk1 : (k : Int) < m := by omega
   have HGk : Hd (Given n0 (.agg #[vI P, vI R, vI V, .slice (some ⟨ck, co, none⟩) m cc, .slice sa sn sc]) (I k).val (cl k) (EE k) W) := hG k hlt
   have HCL : Hd (cl (k + 1) = if (I k).op = 6 then wrap64 (cl k + 1) else cl k) := hcl k hlt
   clear cx hcs hco
   generalize I k = ik at *
   have hFx : Fr (fun _ => False) w' (w'.alloc (.cells ik.cells 79)) := Fr.alloc (Fr.refl _ w') _
   have hBl := heap_lt0 HB.out
   have g0 : (w'.alloc (.cells ik.cells 79)).cell? ⟨W.heap.size, 0, none⟩ = some (vI P) := (hFx.cell hBl (fun e => e)).trans hb0
   have g1 : (w'.alloc (.cells ik.cells 79)).cell? ⟨W.heap.size, 1, none⟩ = some (vI R) := (hFx.cell hBl (fun e => e)).trans hb1
   have g2 : (w'.alloc (.cells ik.cells 79)).cell? ⟨W.heap.size, 2, none⟩ = some (vI V) := (hFx.cell hBl (fun e => e)).trans hb2
   have g3 : (w'.alloc (.cells ik.cells 79)).cell? ⟨W.heap.size, 3, none⟩ = some (.slice (some ⟨ck, co, none⟩) m cc) := (hFx.cell hBl (fun e => e)).trans hb3
   have g4 : (w'.alloc (.cells ik.cells 79)).cell? ⟨W.heap.size, 4, none⟩ = some (.slice sa sn sc) := (hFx.cell hBl (fun e => e)).trans hb4
   have HX : Hd ((w'.alloc (.cells ik.cells 79)).heap[w'.heap.size]? = some (.cells ik.cells 79)) := heap_new0 w' _
   have HKx : Hd (KpA n0 W (w'.alloc (.cells ik.cells 79))) := HK.out.trans (KpA.ofFr hFx (Nat.le_trans hn0 HK.out.below.size))
   gi_wp2_with fail
   refine ⟨trivial, (fun h => by cases h), ?_⟩
   refine (callsIn_wide.2 (HGk.out (w'.alloc (.cells ik.cells 79)) HKx.out)).mono ?_
   rintro e w6 ⟨g, lb, rfl, heg, hF6, hseq⟩
   have HFw : Hd (Fr (fun _ => False) w' w6) := hFx.trans hF6
   have HX6 : Hd (w6.heap[w'.heap.size]? = some (.cells ik.cells 79)) := (hF6.block _ (heap_lt0 HX.out) (fun e => e)).trans HX.out
   clear g0 g1 g2 g3 g4 hb0 hb1 hb2 hb3 hb4 x0 x1 x2 x3 x4 x5 x6 hFx hF6 HX HKx
   gi_wp2_with fail
   have hwl : W.heap.size ≤ w6.heap.size := Nat.le_trans HK.out.below.size HFw.out.size
   have hI0 : EI J n0 W.heap.size ((List.range k).flatMap EE) ds w6 w'.heap.size #[vI P, vI R, vI V, .slice (some ⟨ck, co, none⟩) m cc, .slice sa sn sc] #[.func (.yield l) #[] #[]] ik.cells [] w6 := by
    have nc : ∀ (k : Nat) (o : Obj), w'.heap[k]? = some o → w6.heap[k]? = some o := fun k o hk => (HFw.out.block k (heap_lt0 hk) (fun e => e)).trans hk
    exact ⟨by rw [List.append_nil]; exact own_fr hJ HJ.out HFw.out, KpA.refl _ _, fun D hD => ⟨(HD.out D hD).1, heap_lt0 (nc _ _ (HD.out D hD).2), nc _ _ (HD.out D hD).2⟩, nc _ _ HB.out, nc _ _ HYB.out, HX6.out⟩
   refine wpIn_rangeC rfl (by omega) (gf := g) (fst := #[]) (lb := lb) rfl trivial heg (hseq (n - 1)) (fun _ _ _ _ h1 h2 => h1.trans h2) (fun l' W' r o' hl' h => KpA.putObj o' h (by omega)) (Below.refl _ _) (fun _ => rfl)
    (EI J n0 W.heap.size ((List.range k).flatMap EE) ds w6 w'.heap.size #[vI P, vI R, vI V, .slice (some ⟨ck, co, none⟩) m cc, .slice sa sn sc] #[.func (.yield l) #[] #[]] ik.cells) (EI.own hJ (by omega) hwl) hI0
    (fun z a' W' => ∃ Y, a' = { tmps := #[.agg #[vI P, vI R, vI V, .slice (some ⟨ck, co, none⟩) m cc, .slice sa sn sc], .func (.yield l) #[] #[], .pointer (some ⟨W.heap.size, 0, none⟩), .pointer (some ⟨W.heap.size + 1, 0, none⟩), vI (cl k), undef, .pointer (some ⟨w'.heap.size, 0, none⟩), .pointer (some ⟨Y, 0, none⟩), .pointer (some ⟨W.heap.size, 0, none⟩), .agg #[vI P, vI R, vI V, .slice (some ⟨ck, co, none⟩) m cc], vI (cellX R V), .pointer (some ⟨W.heap.size, 0, none⟩), .pointer (some ⟨W.heap.size, 3, none⟩), .slice (some ⟨ck, co, none⟩) m cc, .int .i64 (m : Int), .int .i64 (k : Int), .bool true, .pointer (some ⟨ck, co + k * 7, none⟩), ik.val, .agg #[vI P, vI R, vI V, .slice (some ⟨ck, co, none⟩) m cc, .slice sa sn sc], ik.val, vI (cl k), .func (.func g) #[] lb, .agg #[vI z.1, vI z.2.1, vI z.2.2], u24, u25, u26, u27, u28, u29, u30, u31, u32, u33], defers := [] } ∧ W'.heap[Y]? = some (.cells #[vI z.1, vI z.2.1, vI z.2.2] 140))
    (fun z a' _ A A' row h hg hr => ?own) ?assign ?body ?done
   case own =>
    obtain ⟨Y, e, hY'⟩ := h
    refine ⟨Y, e, (hg.block Y (heap_lt0 hY') (fun e => ?_)).trans hY'⟩
    obtain ⟨-, o, ho, hc⟩ := hr Y e.symm
    rw [hY'] at ho
    cases ho
    cases hc
   case assign =>
    intro l' pre z W' K hl' hi hK
    have hFa : Fr (fun _ => False) W' (W'.alloc (.cells #[vI z.1, vI z.2.1, vI z.2.2] 140)) := Fr.alloc (Fr.refl _ W') _
    gi_wp2
    exact hK _ _ ((KeepsOthers.alloc W' _).from _) (KpA.ofFr hFa (by have := hi.kp.below.size; omega)) (hi.fr hJ (by omega) hFa) ⟨_, rfl, heap_new0 W' _⟩
   case body =>
    rintro l' pre z a' W' hl' hi ⟨Y, rfl, hYb⟩ hlen
    have y0 : W'.cell? ⟨W.heap.size + 1, 0, none⟩ = some (.func (.yield l) #[] #[]) := by rw [cell_of0 hi.y]; rfl
    have z0 : W'.cell? ⟨Y, 0, none⟩ = some (vI z.1) := by rw [cell_of0 hYb]; rfl
    have z1 : W'.cell? ⟨Y, 1, none⟩ = some (vI z.2.1) := by rw [cell_of0 hYb]; rfl
    have z2 : W'.cell? ⟨Y, 2, none⟩ = some (vI z.2.2) := by rw [cell_of0 hYb]; rfl
    obtain ⟨fn, tmps, assign, body, hy, hR⟩ := hY ((List.range k).flatMap EE ++ pre) z W' hi.j (by
     have h1 := flat_le EE (k := k + 1) (m := m) (by omega)
     rw [flat_step, List.length_append, hN] at h1
     rw [List.length_append]; omega)
    gi_wp2
    refine ⟨(fun h => by cases h), (roundIn_wide hR).mono ?_⟩
    rintro e W3 ⟨rfl, hj3, hk3⟩
    gi_wp2
    exact ⟨⟨hk3.a.below.size, fun j o hj hj2 ho => hk3.other j o hj2 ho (by omega)⟩, hk3.a, hi.yielded hlW hj3 hk3⟩
   case done =>
    rintro D xs W' hDl rfl hi hD
    have x0 : W'.cell? ⟨w'.heap.size, 0, none⟩ = some (vI ik.op) := by rw [cell_of0 hi.x]; rfl
    have HI : Hd (EI J n0 W.heap.size ((List.range k).flatMap EE) ds w6 w'.heap.size #[vI P, vI R, vI V, .slice (some ⟨ck, co, none⟩) m cc, .slice sa sn sc] #[.func (.yield l) #[] #[]] ik.cells (EE k) W') := hi
    have HKW : Hd (KpA n0 W W') := (HK.out.trans (KpA.ofFr HFw.out (Nat.le_trans hn0 HK.out.below.size))).trans hi.kp
    have HDn : Hd ((D :: ds).Nodup) := List.nodup_cons.2 ⟨fun h => by have := (hi.d D h).2.1; omega, HND.out⟩
    have HDs : Hd (∀ D' ∈ D :: ds, W.heap.size ≤ D' ∧ W'.heap[D']? = some (.deferred (some []))) := fun D' h => by
     rcases List.mem_cons.1 h with e | h
     ·subst e; exact ⟨by omega, hD⟩
     ·exact ⟨(hi.d D' h).1, (hi.d D' h).2.2⟩
    have HJk : Hd (J ((List.range (k + 1)).flatMap EE) W') := by unfold Hd; rw [flat_step]; exact hi.j
    clear hi hD
    by_cases h6 : ik.op = 6
    ·have d6 : (ik.op == 6) = true := by simpa using h6
     have HC6 : Hd (cl (k + 1) = wrap64 (cl k + 1)) := by unfold Hd; rw [HCL.out, if_pos h6]
     clear h6
     gi_wp2
     refine ⟨⟨k + 1, D :: ds, ?_⟩, ?_⟩
     ·(repeat apply Exists.intro)
      refine ⟨?e, by omega, HDn.out, HDs.out, HJk.out, HKW.out, HI.out.b, HI.out.y⟩
      rw [HC6.out]
      rfl
     ·simp [RowKit.intOf]; omega
    ·have d6 : (ik.op == 6) = false := by simpa using h6
     have HC6 : Hd (cl (k + 1) = cl k) := by unfold Hd; rw [HCL.out, if_neg h6]
     clear h6
     gi_wp2
     refine ⟨⟨k + 1, D :: ds, ?_⟩, ?_⟩
     ·rw [HC6.out]
      exact ⟨.pointer (some ⟨w'.heap.size, 0, none⟩), u7, .bool true, .pointer (some ⟨ck, co + k * 7, none⟩), ik.val, .agg #[vI P, vI R, vI V, .slice (some ⟨ck, co, none⟩) m cc, .slice sa sn sc], ik.val, vI (cl k), .func (.func g) #[] lb, u23, u24, u25, u26, u27, .pointer (some ⟨w'.heap.size, 0, none⟩), vI ik.op, .bool false, u31, u32, .int .i64 ((k : Int) + 1), rfl, by omega, HDn.out, HDs.out, HJk.out, HKW.out, HI.out.b, HI.out.y⟩
     ·simp [RowKit.intOf]; omega
  ·have hke : k = m := by omega
   subst hke
   gi_wp2
   exact leaves_marks hJ rfl (fun W hj => ⟨⟨_, rfl⟩, hj⟩) ds w' HND.out HD.out HJ.out
theorem edges_gives (n : Nat) (hn : 3 ≤ n) (n0 : Nat) (P R V : Int) (ca : Option Addr) (m cc : Nat) (sa : Option Addr) (sn sc : Nat) (I : Nat → IV) (EE : Nat → List Ed) (cl : Nat → Int) (hm : m ≤ 1000000) (w : World) (hn0 : n0 ≤ w.heap.size)
 (hc0 : cl 0 = cellX R V) (hcl : ∀ i, i < m → cl (i + 1) = if (I i).op = 6 then wrap64 (cl i + 1) else cl i)
 (hco : 0 < m → ∃ ck co, ca = some ⟨ck, co, none⟩ ∧ ck < n0 ∧ ∀ i, i < m → ∀ o, o < 7 → w.cell? ⟨ck, co + i * 7 + o, none⟩ = (I i).cells[o]?)
 (hG : ∀ i, i < m → Given n0 (.agg #[vI P, vI R, vI V, .slice ca m cc, .slice sa sn sc]) (I i).val (cl i) (EE i) w)
 (hB : ∀ W, Below w.heap.size w W → KpA n0 w W)
 (l : Nat) (J : List Ed → World → Prop) (W : World) (hW : Below w.heap.size w W) (hl : n0 ≤ l) (hlW : l < W.heap.size) (hJ : OwnFrom W.heap.size J)
 (hY : ∀ pre x W1, J pre W1 → pre.length < ((List.range m).flatMap EE).length → YieldAt Fence.wide (n - 1) Tryz.prog l (encE x) W1 fun e W' => e = .returned (.bool true) ∧ J (pre ++ [x]) W' ∧ KpB n0 l W1 W') (h0 : J [] W) :
 CallsIn Fence.wide n Tryz.prog 87 #[.agg #[vI P, vI R, vI V, .slice ca m cc, .slice sa sn sc], .func (.yield l) #[] #[]] W fun e W' => (∃ v, e = .returned v) ∧ ∃ xs, xs = (List.range m).flatMap EE ∧ J xs W' := by
 refine (edges_in n hn l n0 _ P R V ca m cc sa sn sc I EE cl hm W (Nat.le_trans hn0 hW.size) hl hlW hc0 hcl (fun h => ?_) (fun i hi W' hK => hG i hi W' ((hB W hW).trans hK)) J hJ rfl hY h0).mono ?_
 ·obtain ⟨ck, co, e, hk, hc⟩ := hco h
  exact ⟨ck, co, e, hk, fun i hi o ho => (hW.cell (p := ⟨ck, co + i * 7 + o, none⟩) (by show ck < _; omega)).trans (hc i hi o ho)⟩
 ·rintro e W' ⟨he, hj⟩
  exact ⟨he, _, rfl, hj⟩
theorem edges_seq (n : Nat) (hn : 3 ≤ n) (n0 : Nat) (P R V : Int) (ca : Option Addr) (m cc : Nat) (sa : Option Addr) (sn sc : Nat) (I : Nat → IV) (EE : Nat → List Ed) (cl : Nat → Int) (hm : m ≤ 1000000) (w : World) (hn0 : n0 ≤ w.heap.size)
 (hc0 : cl 0 = cellX R V) (hcl : ∀ i, i < m → cl (i + 1) = if (I i).op = 6 then wrap64 (cl i + 1) else cl i)
 (hco : 0 < m → ∃ ck co, ca = some ⟨ck, co, none⟩ ∧ ck < n0 ∧ ∀ i, i < m → ∀ o, o < 7 → w.cell? ⟨ck, co + i * 7 + o, none⟩ = (I i).cells[o]?)
 (hG : ∀ i, i < m → Given n0 (.agg #[vI P, vI R, vI V, .slice ca m cc, .slice sa sn sc]) (I i).val (cl i) (EE i) w) :
 SeqGivesC Fence.wide n Tryz.prog 87 #[.agg #[vI P, vI R, vI V, .slice ca m cc, .slice sa sn sc]] #[] encE (KpB n0) (fun xs => xs = (List.range m).flatMap EE) ((List.range m).flatMap EE).length w := fun l J W hW hl hlW hJ hY h0 =>
 edges_gives n hn n0 P R V ca m cc sa sn sc I EE cl hm w hn0 hc0 hcl hco hG (fun W' hB => ⟨hB.mono hn0, fun k cs t hk _ _ => (hB.block k (heap_lt0 hk)).trans hk⟩) l J W hW (by omega) hlW hJ hY h0
end Go.Proofs.YtdkijecnnmncnaaGreatDoor
