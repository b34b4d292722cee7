import Derived.Test.YtlmlmhinbkcpoaaGreatDoorQA3J
import Derived.BigQuiet
import Derived.Deep.AppendLies
import Derived.Deep.Onto
import Derived.Deep.DeepCutAuto
import Derived.Deep.RegionHeld3
import Derived.Test.YtlmlmhinbkcpoaaGreatDoorQN7J
import Derived.Test.YtlmlmhinbkcpoaaGreatDoorQLfJ
namespace Go.Proofs.YtlmlmhinbkcpoaaGreatDoor
open Go.RowKit (wrap32 wrap64)
set_option linter.unusedVariables false
set_option linter.unusedSimpArgs false
set_option maxRecDepth 100000
set_option maxHeartbeats 2000000
theorem heap_new0 (w : World) (o : Obj) : (w.alloc o).heap[w.heap.size]? = some o := (MapKept.heap_alloc w o).1
theorem cell_of0 {w : World} {k : Nat} {cs : Array Value} {t : TypeId} (h : w.heap[k]? = some (.cells cs t)) (o : Nat) : w.cell? ⟨k, o, none⟩ = cs[o]? := by
  unfold World.cell?; rw [h]; simp
theorem heap_lt0 {w : World} {k : Nat} {o : Obj} (h : w.heap[k]? = some o) : k < w.heap.size := (Array.getElem?_eq_some_iff.1 h).1
def varX (R V v : Int) : Int := if 0 ≤ R ∧ 0 ≤ V ∧ 0 ≤ v ∧ v < V then wrap64 (wrap64 (1 + R) + v) else -1
def cellX (R V : Int) : Int := wrap64 (wrap64 (1 + R) + V)
theorem numbered_any (P R V : Int) (a : Option Addr) (n c : Nat) (w : World) :
    Calls Tryz.prog 100 #[.agg #[vI P, vI R, vI V, .slice a n c]] w fun e w' => e = .returned (.bool (decide (0 ≤ R ∧ 0 ≤ V))) ∧ w' = w.alloc (.cells #[vI P, vI R, vI V, .slice a n c] 46) := by
  by_cases h1 : 0 ≤ R
  · by_cases h2 : 0 ≤ V
    · have d1 : decide (R ≥ 0) = true := by simpa using h1
      have d2 : decide (V ≥ 0) = true := by simpa using h2
      go_enter Tryz.func100, Tryz.ntmps100
      go_wp2_with fail
      go_ret
      exact ⟨by simp [h1, h2], rfl⟩
    · have d1 : decide (R ≥ 0) = true := by simpa using h1
      have d2 : decide (V ≥ 0) = false := by simpa using h2
      go_enter Tryz.func100, Tryz.ntmps100
      go_wp2_with fail
      go_ret
      exact ⟨by simp [h1, h2], rfl⟩
  · have d1 : decide (R ≥ 0) = false := by simpa using h1
    go_enter Tryz.func100, Tryz.ntmps100
    go_wp2_with fail
    go_ret
    exact ⟨by simp [h1], rfl⟩
theorem variable_any (P R V v : Int) (a : Option Addr) (n c : Nat) (w : World) :
    Calls Tryz.prog 78 #[.agg #[vI P, vI R, vI V, .slice a n c], vI v] w fun e w' => e = .returned (vI (varX R V v)) ∧ Fr (fun _ => False) w w' := by
  obtain ⟨wa, hwa⟩ : ∃ wa, wa = w.alloc (.cells #[vI P, vI R, vI V, .slice a n c] 46) := ⟨_, rfl⟩
  have hb : wa.heap[w.heap.size]? = some (.cells #[vI P, vI R, vI V, .slice a n c] 46) := by rw [hwa]; exact heap_new0 w _
  have HWA : Hd (wa = w.alloc (.cells #[vI P, vI R, vI V, .slice a n c] 46)) := hwa
  obtain ⟨H, hH⟩ : ∃ H, H = w.heap.size := ⟨_, rfl⟩
  have HH : Hd (H = w.heap.size) := hH
  rw [← hH] at hb
  have c0 : wa.cell? ⟨H, 0, none⟩ = some (vI P) := by rw [cell_of0 hb]; rfl
  have c1 : wa.cell? ⟨H, 1, none⟩ = some (vI R) := by rw [cell_of0 hb]; rfl
  have c2 : wa.cell? ⟨H, 2, none⟩ = some (vI V) := by rw [cell_of0 hb]; rfl
  have c3 : wa.cell? ⟨H, 3, none⟩ = some (.slice a n c) := by rw [cell_of0 hb]; rfl
  obtain ⟨wb, hwb⟩ : ∃ wb, wb = wa.alloc (.cells #[vI P, vI R, vI V, .slice a n c] 46) := ⟨_, rfl⟩
  have HWB : Hd (wb = wa.alloc (.cells #[vI P, vI R, vI V, .slice a n c] 46)) := hwb
  have hFa : Fr (fun _ => False) wa wb := by rw [hwb]; exact Fr.alloc (Fr.refl _ wa) _
  have HF : Hd (Fr (fun _ => False) w wb) := by refine Fr.trans ?_ hFa; rw [hwa]; exact Fr.alloc (Fr.refl _ w) _
  have b1 : wb.cell? ⟨H, 1, none⟩ = some (vI R) := (hFa.cell (heap_lt0 hb) (fun e => e)).trans c1
  have b2 : wb.cell? ⟨H, 2, none⟩ = some (vI V) := (hFa.cell (heap_lt0 hb) (fun e => e)).trans c2
  clear hwa hH hb hwb hFa
  go_enter Tryz.func78, Tryz.ntmps78
  go_upto_region 1 with fail
  rw [← HWA.out, ← HH.out]
  clear HWA
  go_wp2_with fail
  refine (show Calls Tryz.prog 100 #[.agg #[vI P, vI R, vI V, .slice a n c]] wa _ from numbered_any P R V a n c wa).mono ?_
  rintro e w1 ⟨rfl, rfl⟩
  rw [← HWB.out]
  clear HWB c0 c1 c2 c3
  by_cases hn : 0 ≤ R ∧ 0 ≤ V
  · have d0 : decide (0 ≤ R ∧ 0 ≤ V) = true := by simpa using hn
    rw [d0]
    clear d0
    by_cases hv : 0 ≤ v
    · have d1 : decide (v < 0) = false := by simpa using hv
      by_cases hv2 : v < V
      · have d2 : decide (v ≥ V) = false := by simpa using hv2
        have HX : Hd (varX R V v = wrap64 (wrap64 (1 + R) + v)) := if_pos ⟨hn.1, hn.2, hv, hv2⟩
        clear hn hv hv2
        go_wp2_with fail
        go_ret
        exact ⟨by rw [HX.out]; rfl, HF.out⟩
      · have d2 : decide (v ≥ V) = true := by simpa using hv2
        have HX : Hd (varX R V v = -1) := if_neg (fun h => hv2 h.2.2.2)
        clear hn hv hv2
        go_wp2_with fail
        go_ret
        exact ⟨by rw [HX.out]; rfl, HF.out⟩
    · have d1 : decide (v < 0) = true := by simpa using hv
      have HX : Hd (varX R V v = -1) := if_neg (fun h => hv h.2.2.1)
      clear hn hv
      go_wp2_with fail
      go_ret
      exact ⟨by rw [HX.out]; rfl, HF.out⟩
  · have d0 : decide (0 ≤ R ∧ 0 ≤ V) = false := by simpa using hn
    rw [d0]
    clear d0
    have HX : Hd (varX R V v = -1) := if_neg (fun h => hn ⟨h.1, h.2.1⟩)
    clear hn
    go_wp2_with fail
    go_ret
    exact ⟨by rw [HX.out]; rfl, HF.out⟩
theorem IA.il {w : World} {v : Value} {l : List Int} (h : IA w v l) {b : Nat} (hb : w.heap.size ≤ b) : IL b w v l := by
  obtain ⟨a, c, e, h⟩ := h
  refine ⟨a, c, e, fun hne => ?_⟩
  obtain ⟨k, o, e, hk, hc⟩ := h hne
  exact ⟨k, o, e, hk, by omega, hc⟩
theorem CA.cl {w : World} {v : Value} {cs : List PI} (h : CA w v cs) (hn : FineC cs) {b : Nat} (hb : w.heap.size ≤ b) : CL b w v cs := by
  obtain ⟨a, c, e, h⟩ := h
  refine ⟨by have := hn.1; omega, a, c, e, fun hne => ?_⟩
  obtain ⟨k, o, e, hk, hc⟩ := h hne
  refine ⟨k, o, e, hk, by omega, fun j hj => ?_⟩
  obtain ⟨av, rv, h1, h2, h3, h4, h5, h6, h7, h8, h9⟩ := hc j hj
  have hf := hn.2 _ (List.getElem_mem hj)
  exact ⟨av, rv, h1, h2, h3, h4, h5, h6, h7, h8.il hb, h9.il hb, by omega, by omega⟩
theorem FA.fl {w : World} {v : Value} {fs : List PF} (h : FA w v fs) (hn : FineP fs) {b : Nat} (hb : w.heap.size ≤ b) : FL b w v fs := by
  obtain ⟨a, c, e, h⟩ := h
  refine ⟨by have := hn.1; omega, a, c, e, fun hne => ?_⟩
  obtain ⟨k, o, e, hk, hc⟩ := h hne
  refine ⟨k, o, e, hk, by omega, fun j hj => ?_⟩
  obtain ⟨cv, h1, h2, h3, h4, h5⟩ := hc j hj
  exact ⟨cv, h1, h2, h3, h4, h5.cl (hn.2 _ (List.getElem_mem hj)) hb⟩
def cZ : PI := ⟨15, 0, 0, 0, 0, [0], []⟩
def fZ : PF := ⟨1, 1, 1, [cZ]⟩
theorem checkZ : checkP 0 [fZ] = 0 := by kernel_rfl
abbrev oZi (H : Nat) : Obj := .cells #[vI 15, vI 0, vI 0, vI 0, vI 0, .slice (some ⟨H, 0, none⟩) 1 1, .slice none 0 0] 48
abbrev oZf (H : Nat) : Obj := .cells #[vI 1, vI 1, vI 1, .slice (some ⟨H, 0, none⟩) 1 1] 46
structure P0 (w : World) (H : Nat) : Prop where
  a : w.heap[H]? = some (.cells #[vI 0] 3)
  i : w.heap[H + 1]? = some (oZi H)
  f : w.heap[H + 2]? = some (oZf (H + 1))
theorem P0.fr {w w' : World} {H : Nat} (h : P0 w H) (f : Fr (fun _ => False) w w') : P0 w' H :=
  ⟨(f.block _ (heap_lt0 h.a) (fun e => e)).trans h.a, (f.block _ (heap_lt0 h.i) (fun e => e)).trans h.i, (f.block _ (heap_lt0 h.f) (fun e => e)).trans h.f⟩
theorem fa_one {w : World} {H G g cap : Nat} (h : P0 w H) (hG : w.heap[G]? = some (.cells #[vI 1, vI 1, vI 1, .slice (some ⟨g, 0, none⟩) 1 cap] 46)) (hg : w.ownsRow 0 48 7 (.slice (some ⟨g, 0, none⟩) 1 cap) 1 [vI 15, vI 0, vI 0, vI 0, vI 0, .slice (some ⟨H, 0, none⟩) 1 1, .slice none 0 0]) : FA w (.slice (some ⟨G, 0, none⟩) 1 1) [fZ] := by
  have gc : ∀ o u, [vI 15, vI 0, vI 0, vI 0, vI 0, .slice (some ⟨H, 0, none⟩) 1 1, .slice none 0 0][o]? = some u → w.cell? ⟨g, o, none⟩ = some u := fun o u hu => by
    rcases hg.2 with ⟨e, -⟩ | ⟨g', cap', cur, e, -, h2, -, -, h5, h6⟩
    · cases e
    · simp only [Value.slice.injEq, Option.some.injEq, Addr.mk.injEq, and_true, true_and] at e
      obtain ⟨e1, -⟩ := e
      subst e1
      rw [cell_of0 h2, ← Array.getElem?_toList]
      have hl := (List.getElem?_eq_some_iff.1 hu).1
      rw [← h6, List.getElem?_take_of_lt (by simpa using hl)] at hu
      exact hu
  have gl : g < w.heap.size := by
    rcases hg.2 with ⟨e, -⟩ | ⟨g', cap', cur, e, -, h2, -⟩
    · cases e
    · simp only [Value.slice.injEq, Option.some.injEq, Addr.mk.injEq, and_true, true_and] at e
      rw [e.1]; exact heap_lt0 h2
  refine ⟨_, 1, rfl, fun _ => ⟨G, 0, rfl, heap_lt0 hG, fun j hj => ?_⟩⟩
  have hj : j < 1 := hj
  obtain rfl : j = 0 := by omega
  refine ⟨.slice (some ⟨g, 0, none⟩) 1 cap, by rw [cell_of0 hG]; rfl, by rw [cell_of0 hG]; rfl, by rw [cell_of0 hG]; rfl, by rw [cell_of0 hG]; rfl, ?_⟩
  refine ⟨_, cap, rfl, fun _ => ⟨g, 0, rfl, gl, fun j hj => ?_⟩⟩
  have hj : j < 1 := hj
  obtain rfl : j = 0 := by omega
  refine ⟨.slice (some ⟨H, 0, none⟩) 1 1, .slice none 0 0, gc 0 _ rfl, gc 1 _ rfl, gc 2 _ rfl, gc 3 _ rfl, gc 4 _ rfl, gc 5 _ rfl, gc 6 _ rfl, ?_, ⟨none, 0, rfl, fun h => absurd rfl h⟩⟩
  refine ⟨_, 1, rfl, fun _ => ⟨H, 0, rfl, heap_lt0 h.a, fun j hj => ?_⟩⟩
  have hj : j < 1 := hj
  obtain rfl : j = 0 := by omega
  rw [cell_of0 h.a]; rfl
theorem clone_one (H : Nat) (w : World) (h : P0 w H) : Calls Tryz.prog 56 #[.slice (some ⟨H + 1, 0, none⟩) 1 1] w fun e w' => ∃ g cap, e = .returned (.slice (some ⟨g, 0, none⟩) 1 cap) ∧ w.heap.size ≤ g ∧ w'.ownsRow w.heap.size 48 7 (.slice (some ⟨g, 0, none⟩) 1 cap) 1 [vI 15, vI 0, vI 0, vI 0, vI 0, .slice (some ⟨H, 0, none⟩) 1 1, .slice none 0 0] ∧ Fr (fun _ => False) w w' := by
  obtain ⟨i7, hi7, hz7, hs7, hb7⟩ := info_parts (P := Tryz.prog) (e := 48) (z := .agg #[vI 0, vI 0, vI 0, vI 0, vI 0, .slice none 0 0, .slice none 0 0]) (size := 7) (bytes := 88) (by kernel_rfl)
  have hq : (binOp .eql 44 (.slice (some ⟨H + 1, 0, none⟩) 1 1) (.slice none 0 0)).run Tryz.prog w = .ok (.bool false) w := by first | rfl | kernel_rfl
  have HP : Hd (P0 w H) := h
  clear h
  go_enter Tryz.func56, Tryz.ntmps56
  have hF1 : Fr (fun _ => False) w (w.alloc (.cells #[] 48)) := Fr.alloc (Fr.refl _ w) _
  have HF1 : Hd (Fr (fun _ => False) w (w.alloc (.cells #[] 48))) := hF1
  have HP1 : Hd (P0 (w.alloc (.cells #[] 48)) H) := HP.out.fr hF1
  have HRW : Hd ((w.alloc (.cells #[] 48)).ownsRow w.heap.size 48 7 (.slice (some ⟨w.heap.size, 0, none⟩) 0 0) 0 []) := ⟨rfl, Or.inr ⟨w.heap.size, 0, #[], rfl, Nat.le_refl _, heap_new0 w _, Nat.le_refl _, Nat.zero_le _, rfl, rfl⟩⟩
  have hnews : ∀ j u, [vI 15, vI 0, vI 0, vI 0, vI 0, .slice (some ⟨H, 0, none⟩) 1 1, .slice none 0 0][j]? = some u → (w.alloc (.cells #[] 48)).cell? ((⟨H + 1, 0, none⟩ : Addr).add j) = some u :=
    World.news_of_block (cs := #[vI 15, vI 0, vI 0, vI 0, vI 0, .slice (some ⟨H, 0, none⟩) 1 1, .slice none 0 0]) HP1.out.i
  have hbase : w.heap.size ≤ (w.alloc (.cells #[] 48)).heap.size := hF1.size
  clear hF1
  go_wp2_with ((at_builtin; refine Hd.out ?_))
  unfold Hd
  refine wpList_append_lies _ rfl (.tmp 5) (.tmp 6) 44 rfl w.heap.size 48 i7 (.agg #[vI 0, vI 0, vI 0, vI 0, vI 0, .slice none 0 0, .slice none 0 0]) 7 88 (by kernel_rfl) hi7 hz7 hs7 hb7 rfl (by omega) (.slice (some ⟨w.heap.size, 0, none⟩) 0 0) 0 _ rfl HRW.out ⟨H + 1, 0, none⟩ 1 1 [vI 15, vI 0, vI 0, vI 0, vI 0, .slice (some ⟨H, 0, none⟩) 1 1, .slice none 0 0] rfl rfl hnews (by intro u hu; simp at hu; rcases hu with rfl | rfl | rfl | rfl <;> rfl) (by omega) (by unfold maxLen; omega) (by omega) hbase (w.heap.size + 1) (by simp) ?_
  intro g6 cap6 w6 hown6 hgrow6 hat6 hlt6
  have HO6 : Hd (w6.ownsRow w.heap.size 48 7 (.slice (some ⟨g6, 0, none⟩) 1 cap6) 1 [vI 15, vI 0, vI 0, vI 0, vI 0, .slice (some ⟨H, 0, none⟩) 1 1, .slice none 0 0]) := hown6
  have HF6 : Hd (Fr (fun _ => False) w w6) := HF1.out.then (⟨hgrow6.os, hgrow6.tape, hgrow6.output, hgrow6.size, fun k hk hS => hgrow6.block k hk (fun e => hS e.symm)⟩ : Fr (fun k => (Value.slice (some ⟨w.heap.size, 0, none⟩) 0 0).ownBlock = some k) _ _) (fun j hj e => by cases e; exact absurd hj (Nat.lt_irrefl _))
  have HG6 : Hd (w.heap.size ≤ g6) := by
    rcases hat6 with e | e
    · cases e; exact Nat.le_refl _
    · unfold Hd; omega
  clear hown6 hgrow6 hat6 hlt6 hnews hbase HRW
  go_wp2_with fail
  go_ret
  exact ⟨g6, cap6, rfl, HG6.out, HO6.out, HF6.out⟩
theorem alone_one (H : Nat) (w : World) (h : P0 w H) : Calls Tryz.prog 34 #[.agg #[vI 0, .slice (some ⟨H + 2, 0, none⟩) 1 1], vI 0] w fun e w' => ∃ G, e = .returned (.agg #[vI 0, .slice (some ⟨G, 0, none⟩) 1 1]) ∧ FA w' (.slice (some ⟨G, 0, none⟩) 1 1) [fZ] ∧ Fr (fun _ => False) w w' := by
  obtain ⟨wa, hwa⟩ : ∃ wa, wa = ((w.alloc (.cells #[vI 0, .slice (some ⟨H + 2, 0, none⟩) 1 1] 24)).alloc (.cells #[vI 0, .slice none 0 0] 24)).alloc (.cells #[vI 1, vI 1, vI 1, .slice (some ⟨H + 1, 0, none⟩) 1 1] 46) := ⟨_, rfl⟩
  have HWA : Hd (wa = ((w.alloc (.cells #[vI 0, .slice (some ⟨H + 2, 0, none⟩) 1 1] 24)).alloc (.cells #[vI 0, .slice none 0 0] 24)).alloc (.cells #[vI 1, vI 1, vI 1, .slice (some ⟨H + 1, 0, none⟩) 1 1] 46)) := hwa
  have HP : Hd (P0 w H) := h
  have q0 : w.cell? ⟨H + 2, 0, none⟩ = some (vI 1) := by rw [cell_of0 h.f]; rfl
  have q1 : w.cell? ⟨H + 2, 1, none⟩ = some (vI 1) := by rw [cell_of0 h.f]; rfl
  have q2 : w.cell? ⟨H + 2, 2, none⟩ = some (vI 1) := by rw [cell_of0 h.f]; rfl
  have q3 : w.cell? ⟨H + 2, 3, none⟩ = some (.slice (some ⟨H + 1, 0, none⟩) 1 1) := by rw [cell_of0 h.f]; rfl
  have hl := heap_lt0 h.f
  have ne1 : H + 2 ≠ w.heap.size := by omega
  have ne2 : H + 2 ≠ w.heap.size + 1 := by omega
  have hFa : Fr (fun _ => False) w wa := by rw [hwa]; exact Fr.alloc (Fr.alloc (Fr.alloc (Fr.refl _ w) _) _) _
  have k1 : wa.heap[w.heap.size]? = some (.cells #[vI 0, .slice (some ⟨H + 2, 0, none⟩) 1 1] 24) := by
    rw [hwa, Go.RowKit.Below.heap_alloc _ _ _ (by simp; omega), Go.RowKit.Below.heap_alloc _ _ _ (by simp)]; exact heap_new0 w _
  have k2 : wa.heap[w.heap.size + 1]? = some (.cells #[vI 0, .slice none 0 0] 24) := by
    have := heap_new0 (w.alloc (.cells #[vI 0, .slice (some ⟨H + 2, 0, none⟩) 1 1] 24)) (.cells #[vI 0, .slice none 0 0] 24)
    rw [World.size_alloc] at this
    rw [hwa, Go.RowKit.Below.heap_alloc _ _ _ (by simp)]; exact this
  have k3 : wa.heap[w.heap.size + 2]? = some (.cells #[vI 1, vI 1, vI 1, .slice (some ⟨H + 1, 0, none⟩) 1 1] 46) := by
    have := heap_new0 ((w.alloc (.cells #[vI 0, .slice (some ⟨H + 2, 0, none⟩) 1 1] 24)).alloc (.cells #[vI 0, .slice none 0 0] 24)) (.cells #[vI 1, vI 1, vI 1, .slice (some ⟨H + 1, 0, none⟩) 1 1] 46)
    rw [World.size_alloc, World.size_alloc] at this
    rw [hwa]; exact this
  obtain ⟨X, hX⟩ : ∃ X, X = w.heap.size := ⟨_, rfl⟩
  have HX : Hd (X = w.heap.size) := hX
  rw [← hX] at k1 k2 k3
  have HSZ : Hd (wa.heap.size = X + 3) := by unfold Hd; rw [hwa, hX]; simp
  have HFa : Hd (Fr (fun _ => False) w wa) := hFa
  have HPa : Hd (P0 wa H) := h.fr hFa
  have K1 : Hd (wa.heap[X]? = some (.cells #[vI 0, .slice (some ⟨H + 2, 0, none⟩) 1 1] 24)) := k1
  have K2 : Hd (wa.heap[X + 1]? = some (.cells #[vI 0, .slice none 0 0] 24)) := k2
  have K3 : Hd (wa.heap[X + 2]? = some (.cells #[vI 1, vI 1, vI 1, .slice (some ⟨H + 1, 0, none⟩) 1 1] 46)) := k3
  have d3 : wa.cell? ⟨X + 2, 3, none⟩ = some (.slice (some ⟨H + 1, 0, none⟩) 1 1) := by rw [cell_of0 k3]; rfl
  clear h hwa hFa k1 k2 k3 hX
  go_enter Tryz.func34, Tryz.ntmps34
  go_upto_region 2 with fail
  rw [← HWA.out, ← HX.out]
  clear HWA q0 q1 q2 q3 hl ne1 ne2
  go_wp2_with fail
  refine (show Calls Tryz.prog 56 #[.slice (some ⟨H + 1, 0, none⟩) 1 1] wa _ from clone_one H wa HPa.out).mono ?_
  rintro e w1 ⟨g, cap, rfl, hg, hrow, hF1⟩
  have keep1 : ∀ (k : Nat) (o : Obj), wa.heap[k]? = some o → w1.heap[k]? = some o := fun k o hk => (hF1.block k (heap_lt0 hk) (fun e => e)).trans hk
  have k3 := keep1 _ _ K3.out
  have e3 : w1.cell? ⟨X + 2, 3, none⟩ = some (.slice (some ⟨H + 1, 0, none⟩) 1 1) := by rw [cell_of0 k3]; rfl
  have z3 := frozen_of k3 3
  have fs := setCell_fr w1 (X + 2) 3 (.slice (some ⟨g, 0, none⟩) 1 cap)
  have hgX : X + 3 ≤ g := by have := HSZ.out; omega
  have up : ∀ (k : Nat) (o : Obj), k ≠ X + 2 → w1.heap[k]? = some o → (w1.setCell ⟨X + 2, 3, none⟩ (.slice (some ⟨g, 0, none⟩) 1 cap)).heap[k]? = some o := fun k o hk ho => (fs.block k (heap_lt0 ho) hk).trans ho
  have L1 : Hd ((w1.setCell ⟨X + 2, 3, none⟩ (.slice (some ⟨g, 0, none⟩) 1 cap)).heap[X]? = some (.cells #[vI 0, .slice (some ⟨H + 2, 0, none⟩) 1 1] 24)) := up _ _ (by omega) (keep1 _ _ K1.out)
  have L2 : Hd ((w1.setCell ⟨X + 2, 3, none⟩ (.slice (some ⟨g, 0, none⟩) 1 cap)).heap[X + 1]? = some (.cells #[vI 0, .slice none 0 0] 24)) := up _ _ (by omega) (keep1 _ _ K2.out)
  have L3 : Hd ((w1.setCell ⟨X + 2, 3, none⟩ (.slice (some ⟨g, 0, none⟩) 1 cap)).heap[X + 2]? = some (.cells #[vI 1, vI 1, vI 1, .slice (some ⟨g, 0, none⟩) 1 cap] 46)) := set_of k3 3 _
  have HR2 : Hd ((w1.setCell ⟨X + 2, 3, none⟩ (.slice (some ⟨g, 0, none⟩) 1 cap)).ownsRow 0 48 7 (.slice (some ⟨g, 0, none⟩) 1 cap) 1 [vI 15, vI 0, vI 0, vI 0, vI 0, .slice (some ⟨H, 0, none⟩) 1 1, .slice none 0 0]) := World.ownsRow.mono (ownsRow_frL hrow fs (fun k e e2 => by cases e; have e2 : g = X + 2 := e2; omega)) (Nat.zero_le _)
  have HF2 : Hd (Fr (fun _ => False) w (w1.setCell ⟨X + 2, 3, none⟩ (.slice (some ⟨g, 0, none⟩) 1 cap))) := (HFa.out.trans hF1).then fs (fun j hj e => by have := HX.out; omega)
  have HP2 : Hd (P0 (w1.setCell ⟨X + 2, 3, none⟩ (.slice (some ⟨g, 0, none⟩) 1 cap)) H) := HP.out.fr HF2.out
  clear hrow hF1 keep1 k3 fs up K1 K2 K3 HFa HPa HSZ d3 hg
  go_upto_region 3 with fail
  clear e3 z3
  generalize w1.setCell ⟨X + 2, 3, none⟩ (.slice (some ⟨g, 0, none⟩) 1 cap) = w2 at *
  have e0 : w2.cell? ⟨X + 2, 0, none⟩ = some (vI 1) := by rw [cell_of0 L3.out]; rfl
  have e1 : w2.cell? ⟨X + 2, 1, none⟩ = some (vI 1) := by rw [cell_of0 L3.out]; rfl
  have e2 : w2.cell? ⟨X + 2, 2, none⟩ = some (vI 1) := by rw [cell_of0 L3.out]; rfl
  have e3 : w2.cell? ⟨X + 2, 3, none⟩ = some (.slice (some ⟨g, 0, none⟩) 1 cap) := by rw [cell_of0 L3.out]; rfl
  obtain ⟨w3, hw3⟩ : ∃ w3, w3 = (w2.alloc (.cells #[vI 1, vI 1, vI 1, .slice (some ⟨g, 0, none⟩) 1 cap] 46)).alloc (.cells #[vI 13, vI 0, vI 0, vI 0, vI 0, .slice none 0 0, .slice none 0 0] 48) := ⟨_, rfl⟩
  have HW3 : Hd (w3 = (w2.alloc (.cells #[vI 1, vI 1, vI 1, .slice (some ⟨g, 0, none⟩) 1 cap] 46)).alloc (.cells #[vI 13, vI 0, vI 0, vI 0, vI 0, .slice none 0 0, .slice none 0 0] 48)) := hw3
  have hF3 : Fr (fun _ => False) w2 w3 := by rw [hw3]; exact Fr.alloc (Fr.alloc (Fr.refl _ w2) _) _
  have hG : w3.heap[w2.heap.size]? = some (.cells #[vI 1, vI 1, vI 1, .slice (some ⟨g, 0, none⟩) 1 cap] 46) := by
    rw [hw3, Go.RowKit.Below.heap_alloc _ _ _ (by simp)]; exact heap_new0 w2 _
  obtain ⟨G, hGe⟩ : ∃ G, G = w2.heap.size := ⟨_, rfl⟩
  have HGe : Hd (G = w2.heap.size) := hGe
  rw [← hGe] at hG
  have keep3 : ∀ (k : Nat) (o : Obj), w2.heap[k]? = some o → w3.heap[k]? = some o := fun k o hk => (hF3.block k (heap_lt0 hk) (fun e => e)).trans hk
  have M1 : Hd (w3.heap[X]? = some (.cells #[vI 0, .slice (some ⟨H + 2, 0, none⟩) 1 1] 24)) := keep3 _ _ L1.out
  have M2 : Hd (w3.heap[X + 1]? = some (.cells #[vI 0, .slice none 0 0] 24)) := keep3 _ _ L2.out
  have M3 : Hd (w3.heap[X + 2]? = some (.cells #[vI 1, vI 1, vI 1, .slice (some ⟨g, 0, none⟩) 1 cap] 46)) := keep3 _ _ L3.out
  have MG : Hd (w3.heap[G]? = some (.cells #[vI 1, vI 1, vI 1, .slice (some ⟨g, 0, none⟩) 1 cap] 46)) := hG
  have MR : Hd (w3.ownsRow 0 48 7 (.slice (some ⟨g, 0, none⟩) 1 cap) 1 [vI 15, vI 0, vI 0, vI 0, vI 0, .slice (some ⟨H, 0, none⟩) 1 1, .slice none 0 0]) := ownsRow_frL HR2.out hF3 (fun _ _ e => e)
  have MF : Hd (Fr (fun _ => False) w w3) := HF2.out.trans hF3
  have f3 : w3.cell? ⟨X + 2, 3, none⟩ = some (.slice (some ⟨g, 0, none⟩) 1 cap) := by rw [cell_of0 M3.out]; rfl
  clear hw3 hF3 hG hGe keep3 L1 L2 L3 HR2 HF2 HP2
  go_upto_region 5 with fail
  rw [← HW3.out, ← HGe.out]
  clear HW3 HGe e0 e1 e2 e3
  go_wp2_with fail
  clear f3
  go_loopw [6, 27] (fun v6 v wr => ∃ (k : Nat), v6 = .slice (some ⟨G, 0, none⟩) 1 1 ∧ v = .int .i64 k ∧ k ≤ 1 ∧ Hd (Fr (fun _ => False) w3 wr)) (fun _ v _ => match v with | .int _ q => 1 - q.toNat | _ => 0)
  case atStart => exact ⟨0, rfl, rfl, by omega, Fr.refl _ _⟩
  case round =>
    obtain ⟨k, rfl, rfl, hk, HFr⟩ := hrel
    have keep : ∀ (k : Nat) (o : Obj), w3.heap[k]? = some o → wr.heap[k]? = some o := fun k o hk => (HFr.out.block k (heap_lt0 hk) (fun e => e)).trans hk
    by_cases hlt : k < 1
    · obtain rfl : k = 0 := by omega
      have hrow := ownsRow_frL MR.out HFr.out (fun _ _ e => e)
      have gc : ∀ o u, [vI 15, vI 0, vI 0, vI 0, vI 0, .slice (some ⟨H, 0, none⟩) 1 1, .slice none 0 0][o]? = some u → wr.cell? ⟨g, o, none⟩ = some u := fun o u hu => by
        rcases hrow.2 with ⟨e, -⟩ | ⟨g', cap', cur, e, -, h2, -, -, h5, h6⟩
        · cases e
        · simp only [Value.slice.injEq, Option.some.injEq, Addr.mk.injEq, and_true, true_and] at e
          obtain ⟨e1, -⟩ := e
          subst e1
          rw [cell_of0 h2, ← Array.getElem?_toList]
          have hl := (List.getElem?_eq_some_iff.1 hu).1
          rw [← h6, List.getElem?_take_of_lt (by simpa using hl)] at hu
          exact hu
      have c0 := gc 0 _ rfl
      have c1 := gc 1 _ rfl
      have c2 := gc 2 _ rfl
      have c3 := gc 3 _ rfl
      have c4 := gc 4 _ rfl
      have c5 := gc 5 _ rfl
      have c6 := gc 6 _ rfl
      clear gc hrow keep
      go_wp2_with fail
      exact ⟨⟨1, rfl, by simp, by omega, HFr.out.alloc _⟩, by simp⟩
    · have hke : k = 1 := by omega
      subst hke
      have N1 := keep _ _ M1.out
      have N2 := keep _ _ M2.out
      have x0 : wr.cell? ⟨X, 0, none⟩ = some (vI 0) := by rw [cell_of0 N1]; rfl
      have y0 : wr.cell? ⟨X + 1, 0, none⟩ = some (vI 0) := by rw [cell_of0 N2]; rfl
      have y1 : wr.cell? ⟨X + 1, 1, none⟩ = some (.slice none 0 0) := by rw [cell_of0 N2]; rfl
      have z0 := frozen_of N2 0
      have z1 := frozen_of N2 1
      have fz : Fr (fun j => j = X + 1) wr ((wr.setCell ⟨X + 1, 0, none⟩ (vI 0)).setCell ⟨X + 1, 1, none⟩ (.slice (some ⟨G, 0, none⟩) 1 1)) := (setCell_fr wr (X + 1) 0 _).trans (setCell_fr _ (X + 1) 1 _)
      have HZ : Hd (((wr.setCell ⟨X + 1, 0, none⟩ (vI 0)).setCell ⟨X + 1, 1, none⟩ (.slice (some ⟨G, 0, none⟩) 1 1)).heap[X + 1]? = some (.cells #[vI 0, .slice (some ⟨G, 0, none⟩) 1 1] 24)) := set_of (set_of N2 0 _) 1 _
      have HFz : Hd (Fr (fun _ => False) w ((wr.setCell ⟨X + 1, 0, none⟩ (vI 0)).setCell ⟨X + 1, 1, none⟩ (.slice (some ⟨G, 0, none⟩) 1 1))) := (MF.out.trans HFr.out).then fz (fun j hj e => by have := HX.out; omega)
      have nG : G ≠ X + 1 := fun e => by
        have h1 := MG.out
        rw [e, M2.out] at h1
        injection (Option.some.inj h1) with _ e; exact absurd e (by decide)
      have HFA : Hd (FA ((wr.setCell ⟨X + 1, 0, none⟩ (vI 0)).setCell ⟨X + 1, 1, none⟩ (.slice (some ⟨G, 0, none⟩) 1 1)) (.slice (some ⟨G, 0, none⟩) 1 1) [fZ]) := by
        refine fa_one (HP.out.fr HFz.out) ((fz.block G (heap_lt0 (keep _ _ MG.out)) nG).trans (keep _ _ MG.out)) (ownsRow_frL (ownsRow_frL MR.out HFr.out (fun _ _ e => e)) fz (fun k e e2 => ?_))
        cases e
        have e2 : g = X + 1 := e2
        omega
      clear fz N1 N2 keep
      go_wp2_with fail
      generalize (wr.setCell ⟨X + 1, 0, none⟩ (vI 0)).setCell ⟨X + 1, 1, none⟩ (.slice (some ⟨G, 0, none⟩) 1 1) = wz at *
      have r0 : wz.cell? ⟨X + 1, 0, none⟩ = some (vI 0) := by rw [cell_of0 HZ.out]; rfl
      have r1 : wz.cell? ⟨X + 1, 1, none⟩ = some (.slice (some ⟨G, 0, none⟩) 1 1) := by rw [cell_of0 HZ.out]; rfl
      refine bodyPost_ret (v := .agg #[vI 0, .slice (some ⟨G, 0, none⟩) 1 1]) ?_ rfl ⟨G, rfl, HFA.out, HFz.out⟩
      rw [results_cell (p := 4) (ty := 24) Tryz.results34]
      simp [go_sem, r0, r1]
theorem Tab.lt {w : World} (h : Tab w) : 1 < w.heap.size := by
  have := h 0 (by omega)
  unfold World.cell? at this
  rcases Nat.lt_or_ge 1 w.heap.size with hk | hk
  · exact hk
  · simp [Array.getElem?_eq_none hk] at this
theorem Tab.stay {w w' : World} (h : Tab w) (f : Fr (fun _ => False) w w') : Tab w' := h.fr f (fun e => e)
theorem right_one (H : Nat) (w : World) (h : P0 w H) (hT : Tab w) : Calls Tryz.prog 19 #[.agg #[vI 0, .slice (some ⟨H + 2, 0, none⟩) 1 1], vI 0] w fun e w' => e = .returned (.bool true) ∧ Fr (fun _ => False) w w' := by
  have hFa : Fr (fun _ => False) w (w.alloc (.cells #[vI 0, .slice (some ⟨H + 2, 0, none⟩) 1 1] 24)) := Fr.alloc (Fr.refl _ w) _
  have HFa : Hd (Fr (fun _ => False) w (w.alloc (.cells #[vI 0, .slice (some ⟨H + 2, 0, none⟩) 1 1] 24))) := hFa
  have HP : Hd (P0 (w.alloc (.cells #[vI 0, .slice (some ⟨H + 2, 0, none⟩) 1 1] 24)) H) := h.fr hFa
  have HT : Hd (Tab w) := hT
  clear h hFa hT
  go_enter Tryz.func19, Tryz.ntmps19
  go_wp2_with fail
  refine (show Calls Tryz.prog 34 #[.agg #[vI 0, .slice (some ⟨H + 2, 0, none⟩) 1 1], vI 0] (w.alloc (.cells #[vI 0, .slice (some ⟨H + 2, 0, none⟩) 1 1] 24)) _ from alone_one H _ HP.out).mono ?_
  rintro e w1 ⟨G, rfl, hfa, hF1⟩
  have HF1 : Hd (Fr (fun _ => False) w w1) := HFa.out.trans hF1
  have HA : Hd (FA w1 (.slice (some ⟨G, 0, none⟩) 1 1) [fZ]) := hfa
  have HT1 : Hd (Tab w1) := HT.out.stay HF1.out
  clear hfa hF1
  have hfine : FineP [fZ] := ⟨by simp, fun f hf => by
    simp at hf; subst hf
    exact ⟨by simp [fZ], fun c hc => by simp [fZ] at hc; subst hc; simp [cZ]⟩⟩
  go_wp2_with fail
  refine (show Calls Tryz.prog 33 #[.agg #[vI 0, .slice (some ⟨G, 0, none⟩) 1 1]] w1 _ from check_prog w1 0 [fZ] _ (HA.out.fl hfine (by omega)) HT1.out (by have := HT1.out.lt; omega)).mono ?_
  rintro e w2 ⟨rfl, hF2⟩
  rw [checkZ]
  have HF2 : Hd (Fr (fun _ => False) w w2) := HF1.out.trans hF2
  clear hF2
  go_wp2_with fail
  go_ret
  exact ⟨rfl, HF2.out⟩
theorem told_one (H : Nat) (sa : Option Addr) (sn sc : Nat) (w : World) (h : P0 w H) : Calls Tryz.prog 20 #[.agg #[vI 0, .slice (some ⟨H + 2, 0, none⟩) 1 1], vI 0, .slice sa sn sc] w fun e w' => e = .returned (.bool true) ∧ Fr (fun _ => False) w w' := by
  have hFa : Fr (fun _ => False) w (w.alloc (.cells #[vI 0, .slice (some ⟨H + 2, 0, none⟩) 1 1] 24)) := Fr.alloc (Fr.refl _ w) _
  have HFa : Hd (Fr (fun _ => False) w (w.alloc (.cells #[vI 0, .slice (some ⟨H + 2, 0, none⟩) 1 1] 24))) := hFa
  have HP : Hd (P0 (w.alloc (.cells #[vI 0, .slice (some ⟨H + 2, 0, none⟩) 1 1] 24)) H) := h.fr hFa
  have q3 : (w.alloc (.cells #[vI 0, .slice (some ⟨H + 2, 0, none⟩) 1 1] 24)).cell? ⟨H + 2, 3, none⟩ = some (.slice (some ⟨H + 1, 0, none⟩) 1 1) := by rw [cell_of0 HP.out.f]; rfl
  clear h hFa
  go_enter Tryz.func20, Tryz.ntmps20
  go_wp2_with fail
  clear q3
  generalize w.alloc (.cells #[vI 0, .slice (some ⟨H + 2, 0, none⟩) 1 1] 24) = wa at *
  go_loopw [16] (fun v wr => ∃ (k : Nat), v = .int .i64 k ∧ k ≤ 1 ∧ Hd (Fr (fun _ => False) wa wr)) (fun v _ => match v with | .int _ q => 1 - q.toNat | _ => 0)
  case atStart => exact ⟨0, rfl, by omega, Fr.refl _ _⟩
  case round =>
    obtain ⟨k, rfl, hk, HFr⟩ := hrel
    by_cases hlt : k < 1
    · obtain rfl : k = 0 := by omega
      have hi := (HP.out.fr HFr.out).i
      have c0 : wr.cell? ⟨H + 1, 0, none⟩ = some (vI 15) := by rw [cell_of0 hi]; rfl
      have c1 : wr.cell? ⟨H + 1, 1, none⟩ = some (vI 0) := by rw [cell_of0 hi]; rfl
      have c2 : wr.cell? ⟨H + 1, 2, none⟩ = some (vI 0) := by rw [cell_of0 hi]; rfl
      have c3 : wr.cell? ⟨H + 1, 3, none⟩ = some (vI 0) := by rw [cell_of0 hi]; rfl
      have c4 : wr.cell? ⟨H + 1, 4, none⟩ = some (vI 0) := by rw [cell_of0 hi]; rfl
      have c5 : wr.cell? ⟨H + 1, 5, none⟩ = some (.slice (some ⟨H, 0, none⟩) 1 1) := by rw [cell_of0 hi]; rfl
      have c6 : wr.cell? ⟨H + 1, 6, none⟩ = some (.slice none 0 0) := by rw [cell_of0 hi]; rfl
      clear hi
      go_wp2_with fail
      go_quiet (fail)
      go_wp2_with fail
      exact ⟨⟨1, by simp, by omega, ⟨HFr.out.os, HFr.out.tape, HFr.out.output, by simp; have := HFr.out.size; omega, fun k hk hS => (HFr.out.alloc _).block k hk hS⟩⟩, by simp⟩
    · have hke : k = 1 := by omega
      subst hke
      go_wp2_with fail
      go_ret
      exact ⟨rfl, HFa.out.trans HFr.out⟩
end Go.Proofs.YtlmlmhinbkcpoaaGreatDoor
