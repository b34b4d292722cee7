import Derived.Test.YtlmlmhinbkcpoaaDoorQN7J
import Derived.Test.YtlmlmhinbkcpoaaDoorQLaJ
import Derived.Test.YtlmlmhinbkcpoaaDoorQQ0J
import Derived.Test.YtlmlmhinbkcpoaaDoorQQ4
import Derived.Deep.RegionWith
namespace Go.Proofs.YtlmlmhinbkcpoaaDoor
open Go.RowKit (wrap32 wrap64)
set_option linter.unusedVariables false
set_option linter.unusedSimpArgs false

theorem IA.il {w : World} {v : Value} {l : List Int} (h : IA w v l) {b : Nat} (hb : w.heap.size ≤ b) : IL b w v l := by
  obtain ⟨a, c, e, h⟩ := h
  refine ⟨a, c, e, fun hne => ?_⟩
  obtain ⟨k, o, e, hk, hc⟩ := h hne
  exact ⟨k, o, e, hk, by omega, hc⟩
theorem CA.cl {w : World} {v : Value} {cs : List PI} (h : CA w v cs) (hn : FineC cs) {b : Nat} (hb : w.heap.size ≤ b) : CL b w v cs := by
  obtain ⟨a, c, e, h⟩ := h
  refine ⟨by have := hn.1; omega, a, c, e, fun hne => ?_⟩
  obtain ⟨k, o, e, hk, hc⟩ := h hne
  refine ⟨k, o, e, hk, by omega, fun j hj => ?_⟩
  obtain ⟨av, rv, h1, h2, h3, h4, h5, h6, h7, h8, h9⟩ := hc j hj
  have hf := hn.2 _ (List.getElem_mem hj)
  exact ⟨av, rv, h1, h2, h3, h4, h5, h6, h7, h8.il hb, h9.il hb, by omega, by omega⟩
theorem FA.fl {w : World} {v : Value} {fs : List PF} (h : FA w v fs) (hn : FineP fs) {b : Nat} (hb : w.heap.size ≤ b) : FL b w v fs := by
  obtain ⟨a, c, e, h⟩ := h
  refine ⟨by have := hn.1; omega, a, c, e, fun hne => ?_⟩
  obtain ⟨k, o, e, hk, hc⟩ := h hne
  refine ⟨k, o, e, hk, by omega, fun j hj => ?_⟩
  obtain ⟨cv, h1, h2, h3, h4, h5⟩ := hc j hj
  exact ⟨cv, h1, h2, h3, h4, h5.cl (hn.2 _ (List.getElem_mem hj)) hb⟩


/-- The program that 'works' asks of. -/
def cZ : PI := ⟨15, 0, 0, 0, 0, [0], []⟩
def fZ : PF := ⟨1, 1, 1, [cZ]⟩
theorem checkZ : checkP 0 [fZ] = 0 := by kernel_rfl
abbrev oZi (H : Nat) : Obj := .cells #[vI 15, vI 0, vI 0, vI 0, vI 0, .slice (some ⟨H, 0, none⟩) 1 1, .slice none 0 0] 57
abbrev oZf (H : Nat) : Obj := .cells #[vI 1, vI 1, vI 1, .slice (some ⟨H, 0, none⟩) 1 1] 30
structure P0 (w : World) (H : Nat) : Prop where
  a : w.heap[H]? = some (.cells #[vI 0] 3)
  i : w.heap[H + 1]? = some (oZi H)
  f : w.heap[H + 2]? = some (oZf (H + 1))
theorem P0.fr {w w' : World} {H : Nat} (h : P0 w H) (f : Fr (fun _ => False) w w') : P0 w' H :=
  ⟨(f.block _ (heap_lt0 h.a) (fun e => e)).trans h.a, (f.block _ (heap_lt0 h.i) (fun e => e)).trans h.i, (f.block _ (heap_lt0 h.f) (fun e => e)).trans h.f⟩
/-- It lies at G, its code at g. -/
theorem fa_one {w : World} {H G g cap : Nat} (h : P0 w H) (hG : w.heap[G]? = some (.cells #[vI 1, vI 1, vI 1, .slice (some ⟨g, 0, none⟩) 1 cap] 30)) (hg : w.ownsRow 0 57 7 (.slice (some ⟨g, 0, none⟩) 1 cap) 1 [vI 15, vI 0, vI 0, vI 0, vI 0, .slice (some ⟨H, 0, none⟩) 1 1, .slice none 0 0]) : FA w (.slice (some ⟨G, 0, none⟩) 1 1) [fZ] := by
  have gc : ∀ o u, [vI 15, vI 0, vI 0, vI 0, vI 0, .slice (some ⟨H, 0, none⟩) 1 1, .slice none 0 0][o]? = some u → w.cell? ⟨g, o, none⟩ = some u := fun o u hu => by
    rcases hg.2 with ⟨e, -⟩ | ⟨g', cap', cur, e, -, h2, -, -, h5, h6⟩
    · cases e
    · simp only [Value.slice.injEq, Option.some.injEq, Addr.mk.injEq, and_true, true_and] at e
      obtain ⟨e1, -⟩ := e
      subst e1
      rw [cell_of0 h2, ← Array.getElem?_toList]
      have hl := (List.getElem?_eq_some_iff.1 hu).1
      rw [← h6, List.getElem?_take_of_lt (by simpa using hl)] at hu
      exact hu
  have gl : g < w.heap.size := by
    rcases hg.2 with ⟨e, -⟩ | ⟨g', cap', cur, e, -, h2, -⟩
    · cases e
    · simp only [Value.slice.injEq, Option.some.injEq, Addr.mk.injEq, and_true, true_and] at e
      rw [e.1]; exact heap_lt0 h2
  refine ⟨_, 1, rfl, fun _ => ⟨G, 0, rfl, heap_lt0 hG, fun j hj => ?_⟩⟩
  have hj : j < 1 := hj
  obtain rfl : j = 0 := by omega
  refine ⟨.slice (some ⟨g, 0, none⟩) 1 cap, by rw [cell_of0 hG]; rfl, by rw [cell_of0 hG]; rfl, by rw [cell_of0 hG]; rfl, by rw [cell_of0 hG]; rfl, ?_⟩
  refine ⟨_, cap, rfl, fun _ => ⟨g, 0, rfl, gl, fun j hj => ?_⟩⟩
  have hj : j < 1 := hj
  obtain rfl : j = 0 := by omega
  refine ⟨.slice (some ⟨H, 0, none⟩) 1 1, .slice none 0 0, gc 0 _ rfl, gc 1 _ rfl, gc 2 _ rfl, gc 3 _ rfl, gc 4 _ rfl, gc 5 _ rfl, gc 6 _ rfl, ?_, ⟨none, 0, rfl, fun h => absurd rfl h⟩⟩
  refine ⟨_, 1, rfl, fun _ => ⟨H, 0, rfl, heap_lt0 h.a, fun j hj => ?_⟩⟩
  have hj : j < 1 := hj
  obtain rfl : j = 0 := by omega
  rw [cell_of0 h.a]; rfl

set_option maxRecDepth 100000 in
set_option maxHeartbeats 1000000 in
theorem clone_one (H : Nat) (w : World) (h : P0 w H) : Calls Tryd.prog 62 #[.slice (some ⟨H + 1, 0, none⟩) 1 1] w fun e w' => ∃ g cap, e = .returned (.slice (some ⟨g, 0, none⟩) 1 cap) ∧ w.heap.size ≤ g ∧ w'.ownsRow w.heap.size 57 7 (.slice (some ⟨g, 0, none⟩) 1 cap) 1 [vI 15, vI 0, vI 0, vI 0, vI 0, .slice (some ⟨H, 0, none⟩) 1 1, .slice none 0 0] ∧ Fr (fun _ => False) w w' := by
  obtain ⟨i7, hi7, hz7, hs7, hb7⟩ := info_parts (P := Tryd.prog) (e := 57) (z := .agg #[vI 0, vI 0, vI 0, vI 0, vI 0, .slice none 0 0, .slice none 0 0]) (size := 7) (bytes := 88) (by kernel_rfl)
  have hq : (binOp .eql 28 (.slice (some ⟨H + 1, 0, none⟩) 1 1) (.slice none 0 0)).run Tryd.prog w = .ok (.bool false) w := by first | rfl | kernel_rfl
  have HP : Hd (P0 w H) := h
  clear h
  go_enter Tryd.func62, Tryd.ntmps62
  have hF1 : Fr (fun _ => False) w (w.alloc (.cells #[] 57)) := Fr.alloc (Fr.refl _ w) _
  have HF1 : Hd (Fr (fun _ => False) w (w.alloc (.cells #[] 57))) := hF1
  have HP1 : Hd (P0 (w.alloc (.cells #[] 57)) H) := HP.out.fr hF1
  have HRW : Hd ((w.alloc (.cells #[] 57)).ownsRow w.heap.size 57 7 (.slice (some ⟨w.heap.size, 0, none⟩) 0 0) 0 []) := ⟨rfl, Or.inr ⟨w.heap.size, 0, #[], rfl, Nat.le_refl _, heap_new0 w _, Nat.le_refl _, Nat.zero_le _, rfl, rfl⟩⟩
  have hnews : ∀ j u, [vI 15, vI 0, vI 0, vI 0, vI 0, .slice (some ⟨H, 0, none⟩) 1 1, .slice none 0 0][j]? = some u → (w.alloc (.cells #[] 57)).cell? ((⟨H + 1, 0, none⟩ : Addr).add j) = some u :=
    World.news_of_block (cs := #[vI 15, vI 0, vI 0, vI 0, vI 0, .slice (some ⟨H, 0, none⟩) 1 1, .slice none 0 0]) HP1.out.i
  have hbase : w.heap.size ≤ (w.alloc (.cells #[] 57)).heap.size := hF1.size
  clear hF1
  go_wp2_with ((at_builtin; refine Hd.out ?_))
  unfold Hd
  refine wpList_append_lies _ rfl (.tmp 5) (.tmp 6) 28 rfl w.heap.size 57 i7 (.agg #[vI 0, vI 0, vI 0, vI 0, vI 0, .slice none 0 0, .slice none 0 0]) 7 88 (by kernel_rfl) hi7 hz7 hs7 hb7 rfl (by omega) (.slice (some ⟨w.heap.size, 0, none⟩) 0 0) 0 _ rfl HRW.out ⟨H + 1, 0, none⟩ 1 1 [vI 15, vI 0, vI 0, vI 0, vI 0, .slice (some ⟨H, 0, none⟩) 1 1, .slice none 0 0] rfl rfl hnews (by intro u hu; simp at hu; rcases hu with rfl | rfl | rfl | rfl <;> rfl) (by omega) (by unfold maxLen; omega) (by omega) hbase (w.heap.size + 1) (by simp) ?_
  intro g6 cap6 w6 hown6 hgrow6 hat6 hlt6
  have HO6 : Hd (w6.ownsRow w.heap.size 57 7 (.slice (some ⟨g6, 0, none⟩) 1 cap6) 1 [vI 15, vI 0, vI 0, vI 0, vI 0, .slice (some ⟨H, 0, none⟩) 1 1, .slice none 0 0]) := hown6
  have HF6 : Hd (Fr (fun _ => False) w w6) := HF1.out.then (⟨hgrow6.os, hgrow6.tape, hgrow6.output, hgrow6.size, fun k hk hS => hgrow6.block k hk (fun e => hS e.symm)⟩ : Fr (fun k => (Value.slice (some ⟨w.heap.size, 0, none⟩) 0 0).ownBlock = some k) _ _) (fun j hj e => by cases e; exact absurd hj (Nat.lt_irrefl _))
  have HG6 : Hd (w.heap.size ≤ g6) := by
    rcases hat6 with e | e
    · cases e; exact Nat.le_refl _
    · unfold Hd; omega
  clear hown6 hgrow6 hat6 hlt6 hnews hbase HRW
  go_wp2_with fail
  go_ret
  exact ⟨g6, cap6, rfl, HG6.out, HO6.out, HF6.out⟩

set_option maxRecDepth 100000 in
set_option maxHeartbeats 2000000 in
theorem alone_one (H : Nat) (w : World) (h : P0 w H) : Calls Tryd.prog 44 #[.agg #[vI 0, .slice (some ⟨H + 2, 0, none⟩) 1 1], vI 0] w fun e w' => ∃ G, e = .returned (.agg #[vI 0, .slice (some ⟨G, 0, none⟩) 1 1]) ∧ FA w' (.slice (some ⟨G, 0, none⟩) 1 1) [fZ] ∧ Fr (fun _ => False) w w' := by
  obtain ⟨wa, hwa⟩ : ∃ wa, wa = ((w.alloc (.cells #[vI 0, .slice (some ⟨H + 2, 0, none⟩) 1 1] 24)).alloc (.cells #[vI 0, .slice none 0 0] 24)).alloc (.cells #[vI 1, vI 1, vI 1, .slice (some ⟨H + 1, 0, none⟩) 1 1] 30) := ⟨_, rfl⟩
  have HWA : Hd (wa = ((w.alloc (.cells #[vI 0, .slice (some ⟨H + 2, 0, none⟩) 1 1] 24)).alloc (.cells #[vI 0, .slice none 0 0] 24)).alloc (.cells #[vI 1, vI 1, vI 1, .slice (some ⟨H + 1, 0, none⟩) 1 1] 30)) := hwa
  have HP : Hd (P0 w H) := h
  have q0 : w.cell? ⟨H + 2, 0, none⟩ = some (vI 1) := by rw [cell_of0 h.f]; rfl
  have q1 : w.cell? ⟨H + 2, 1, none⟩ = some (vI 1) := by rw [cell_of0 h.f]; rfl
  have q2 : w.cell? ⟨H + 2, 2, none⟩ = some (vI 1) := by rw [cell_of0 h.f]; rfl
  have q3 : w.cell? ⟨H + 2, 3, none⟩ = some (.slice (some ⟨H + 1, 0, none⟩) 1 1) := by rw [cell_of0 h.f]; rfl
  have hl := heap_lt0 h.f
  have ne1 : H + 2 ≠ w.heap.size := by omega
  have ne2 : H + 2 ≠ w.heap.size + 1 := by omega
  have hFa : Fr (fun _ => False) w wa := by rw [hwa]; exact Fr.alloc (Fr.alloc (Fr.alloc (Fr.refl _ w) _) _) _
  have k1 : wa.heap[w.heap.size]? = some (.cells #[vI 0, .slice (some ⟨H + 2, 0, none⟩) 1 1] 24) := by
    rw [hwa, Go.RowKit.Below.heap_alloc _ _ _ (by simp; omega), Go.RowKit.Below.heap_alloc _ _ _ (by simp)]; exact heap_new0 w _
  have k2 : wa.heap[w.heap.size + 1]? = some (.cells #[vI 0, .slice none 0 0] 24) := by
    have := heap_new0 (w.alloc (.cells #[vI 0, .slice (some ⟨H + 2, 0, none⟩) 1 1] 24)) (.cells #[vI 0, .slice none 0 0] 24)
    rw [World.size_alloc] at this
    rw [hwa, Go.RowKit.Below.heap_alloc _ _ _ (by simp)]; exact this
  have k3 : wa.heap[w.heap.size + 2]? = some (.cells #[vI 1, vI 1, vI 1, .slice (some ⟨H + 1, 0, none⟩) 1 1] 30) := by
    have := heap_new0 ((w.alloc (.cells #[vI 0, .slice (some ⟨H + 2, 0, none⟩) 1 1] 24)).alloc (.cells #[vI 0, .slice none 0 0] 24)) (.cells #[vI 1, vI 1, vI 1, .slice (some ⟨H + 1, 0, none⟩) 1 1] 30)
    rw [World.size_alloc, World.size_alloc] at this
    rw [hwa]; exact this
  obtain ⟨X, hX⟩ : ∃ X, X = w.heap.size := ⟨_, rfl⟩
  have HX : Hd (X = w.heap.size) := hX
  rw [← hX] at k1 k2 k3
  have HSZ : Hd (wa.heap.size = X + 3) := by unfold Hd; rw [hwa, hX]; simp
  have HFa : Hd (Fr (fun _ => False) w wa) := hFa
  have HPa : Hd (P0 wa H) := h.fr hFa
  have K1 : Hd (wa.heap[X]? = some (.cells #[vI 0, .slice (some ⟨H + 2, 0, none⟩) 1 1] 24)) := k1
  have K2 : Hd (wa.heap[X + 1]? = some (.cells #[vI 0, .slice none 0 0] 24)) := k2
  have K3 : Hd (wa.heap[X + 2]? = some (.cells #[vI 1, vI 1, vI 1, .slice (some ⟨H + 1, 0, none⟩) 1 1] 30)) := k3
  have d3 : wa.cell? ⟨X + 2, 3, none⟩ = some (.slice (some ⟨H + 1, 0, none⟩) 1 1) := by rw [cell_of0 k3]; rfl
  clear h hwa hFa k1 k2 k3 hX
  go_enter Tryd.func44, Tryd.ntmps44
  go_upto_region 2 with fail
  rw [← HWA.out, ← HX.out]
  clear HWA q0 q1 q2 q3 hl ne1 ne2
  go_wp2_with fail
  refine (show Calls Tryd.prog 62 #[.slice (some ⟨H + 1, 0, none⟩) 1 1] wa _ from clone_one H wa HPa.out).mono ?_
  rintro e w1 ⟨g, cap, rfl, hg, hrow, hF1⟩
  have keep1 : ∀ (k : Nat) (o : Obj), wa.heap[k]? = some o → w1.heap[k]? = some o := fun k o hk => (hF1.block k (heap_lt0 hk) (fun e => e)).trans hk
  have k3 := keep1 _ _ K3.out
  have e3 : w1.cell? ⟨X + 2, 3, none⟩ = some (.slice (some ⟨H + 1, 0, none⟩) 1 1) := by rw [cell_of0 k3]; rfl
  have z3 := frozen_of k3 3
  have fs := setCell_fr w1 (X + 2) 3 (.slice (some ⟨g, 0, none⟩) 1 cap)
  have hgX : X + 3 ≤ g := by have := HSZ.out; omega
  have up : ∀ (k : Nat) (o : Obj), k ≠ X + 2 → w1.heap[k]? = some o → (w1.setCell ⟨X + 2, 3, none⟩ (.slice (some ⟨g, 0, none⟩) 1 cap)).heap[k]? = some o := fun k o hk ho => (fs.block k (heap_lt0 ho) hk).trans ho
  have L1 : Hd ((w1.setCell ⟨X + 2, 3, none⟩ (.slice (some ⟨g, 0, none⟩) 1 cap)).heap[X]? = some (.cells #[vI 0, .slice (some ⟨H + 2, 0, none⟩) 1 1] 24)) := up _ _ (by omega) (keep1 _ _ K1.out)
  have L2 : Hd ((w1.setCell ⟨X + 2, 3, none⟩ (.slice (some ⟨g, 0, none⟩) 1 cap)).heap[X + 1]? = some (.cells #[vI 0, .slice none 0 0] 24)) := up _ _ (by omega) (keep1 _ _ K2.out)
  have L3 : Hd ((w1.setCell ⟨X + 2, 3, none⟩ (.slice (some ⟨g, 0, none⟩) 1 cap)).heap[X + 2]? = some (.cells #[vI 1, vI 1, vI 1, .slice (some ⟨g, 0, none⟩) 1 cap] 30)) := set_of k3 3 _
  have HR2 : Hd ((w1.setCell ⟨X + 2, 3, none⟩ (.slice (some ⟨g, 0, none⟩) 1 cap)).ownsRow 0 57 7 (.slice (some ⟨g, 0, none⟩) 1 cap) 1 [vI 15, vI 0, vI 0, vI 0, vI 0, .slice (some ⟨H, 0, none⟩) 1 1, .slice none 0 0]) := World.ownsRow.mono (ownsRow_frL hrow fs (fun k e e2 => by cases e; have e2 : g = X + 2 := e2; omega)) (Nat.zero_le _)
  have HF2 : Hd (Fr (fun _ => False) w (w1.setCell ⟨X + 2, 3, none⟩ (.slice (some ⟨g, 0, none⟩) 1 cap))) := (HFa.out.trans hF1).then fs (fun j hj e => by have := HX.out; omega)
  have HP2 : Hd (P0 (w1.setCell ⟨X + 2, 3, none⟩ (.slice (some ⟨g, 0, none⟩) 1 cap)) H) := HP.out.fr HF2.out
  clear hrow hF1 keep1 k3 fs up K1 K2 K3 HFa HPa HSZ d3 hg
  go_upto_region 3 with fail
  clear e3 z3
  generalize w1.setCell ⟨X + 2, 3, none⟩ (.slice (some ⟨g, 0, none⟩) 1 cap) = w2 at *
  have e0 : w2.cell? ⟨X + 2, 0, none⟩ = some (vI 1) := by rw [cell_of0 L3.out]; rfl
  have e1 : w2.cell? ⟨X + 2, 1, none⟩ = some (vI 1) := by rw [cell_of0 L3.out]; rfl
  have e2 : w2.cell? ⟨X + 2, 2, none⟩ = some (vI 1) := by rw [cell_of0 L3.out]; rfl
  have e3 : w2.cell? ⟨X + 2, 3, none⟩ = some (.slice (some ⟨g, 0, none⟩) 1 cap) := by rw [cell_of0 L3.out]; rfl
  obtain ⟨w3, hw3⟩ : ∃ w3, w3 = (w2.alloc (.cells #[vI 1, vI 1, vI 1, .slice (some ⟨g, 0, none⟩) 1 cap] 30)).alloc (.cells #[vI 13, vI 0, vI 0, vI 0, vI 0, .slice none 0 0, .slice none 0 0] 57) := ⟨_, rfl⟩
  have HW3 : Hd (w3 = (w2.alloc (.cells #[vI 1, vI 1, vI 1, .slice (some ⟨g, 0, none⟩) 1 cap] 30)).alloc (.cells #[vI 13, vI 0, vI 0, vI 0, vI 0, .slice none 0 0, .slice none 0 0] 57)) := hw3
  have hF3 : Fr (fun _ => False) w2 w3 := by rw [hw3]; exact Fr.alloc (Fr.alloc (Fr.refl _ w2) _) _
  have hG : w3.heap[w2.heap.size]? = some (.cells #[vI 1, vI 1, vI 1, .slice (some ⟨g, 0, none⟩) 1 cap] 30) := by
    rw [hw3, Go.RowKit.Below.heap_alloc _ _ _ (by simp)]; exact heap_new0 w2 _
  obtain ⟨G, hGe⟩ : ∃ G, G = w2.heap.size := ⟨_, rfl⟩
  have HGe : Hd (G = w2.heap.size) := hGe
  rw [← hGe] at hG
  have keep3 : ∀ (k : Nat) (o : Obj), w2.heap[k]? = some o → w3.heap[k]? = some o := fun k o hk => (hF3.block k (heap_lt0 hk) (fun e => e)).trans hk
  have M1 : Hd (w3.heap[X]? = some (.cells #[vI 0, .slice (some ⟨H + 2, 0, none⟩) 1 1] 24)) := keep3 _ _ L1.out
  have M2 : Hd (w3.heap[X + 1]? = some (.cells #[vI 0, .slice none 0 0] 24)) := keep3 _ _ L2.out
  have M3 : Hd (w3.heap[X + 2]? = some (.cells #[vI 1, vI 1, vI 1, .slice (some ⟨g, 0, none⟩) 1 cap] 30)) := keep3 _ _ L3.out
  have MG : Hd (w3.heap[G]? = some (.cells #[vI 1, vI 1, vI 1, .slice (some ⟨g, 0, none⟩) 1 cap] 30)) := hG
  have MR : Hd (w3.ownsRow 0 57 7 (.slice (some ⟨g, 0, none⟩) 1 cap) 1 [vI 15, vI 0, vI 0, vI 0, vI 0, .slice (some ⟨H, 0, none⟩) 1 1, .slice none 0 0]) := ownsRow_frL HR2.out hF3 (fun _ _ e => e)
  have MF : Hd (Fr (fun _ => False) w w3) := HF2.out.trans hF3
  have f3 : w3.cell? ⟨X + 2, 3, none⟩ = some (.slice (some ⟨g, 0, none⟩) 1 cap) := by rw [cell_of0 M3.out]; rfl
  clear hw3 hF3 hG hGe keep3 L1 L2 L3 HR2 HF2 HP2
  go_upto_region 5 with fail
  rw [← HW3.out, ← HGe.out]
  clear HW3 HGe e0 e1 e2 e3
  go_wp2_with fail
  clear f3
  go_loopw [6, 27] (fun v6 v wr => ∃ (k : Nat), v6 = .slice (some ⟨G, 0, none⟩) 1 1 ∧ v = .int .i64 k ∧ k ≤ 1 ∧ Hd (Fr (fun _ => False) w3 wr)) (fun _ v _ => match v with | .int _ q => 1 - q.toNat | _ => 0)
  case atStart => exact ⟨0, rfl, rfl, by omega, Fr.refl _ _⟩
  case round =>
    obtain ⟨k, rfl, rfl, hk, HFr⟩ := hrel
    have keep : ∀ (k : Nat) (o : Obj), w3.heap[k]? = some o → wr.heap[k]? = some o := fun k o hk => (HFr.out.block k (heap_lt0 hk) (fun e => e)).trans hk
    by_cases hlt : k < 1
    · obtain rfl : k = 0 := by omega
      have hrow := ownsRow_frL MR.out HFr.out (fun _ _ e => e)
      have gc : ∀ o u, [vI 15, vI 0, vI 0, vI 0, vI 0, .slice (some ⟨H, 0, none⟩) 1 1, .slice none 0 0][o]? = some u → wr.cell? ⟨g, o, none⟩ = some u := fun o u hu => by
        rcases hrow.2 with ⟨e, -⟩ | ⟨g', cap', cur, e, -, h2, -, -, h5, h6⟩
        · cases e
        · simp only [Value.slice.injEq, Option.some.injEq, Addr.mk.injEq, and_true, true_and] at e
          obtain ⟨e1, -⟩ := e
          subst e1
          rw [cell_of0 h2, ← Array.getElem?_toList]
          have hl := (List.getElem?_eq_some_iff.1 hu).1
          rw [← h6, List.getElem?_take_of_lt (by simpa using hl)] at hu
          exact hu
      have c0 := gc 0 _ rfl
      have c1 := gc 1 _ rfl
      have c2 := gc 2 _ rfl
      have c3 := gc 3 _ rfl
      have c4 := gc 4 _ rfl
      have c5 := gc 5 _ rfl
      have c6 := gc 6 _ rfl
      clear gc hrow keep
      go_wp2_with fail
      exact ⟨⟨1, rfl, by simp, by omega, HFr.out.alloc _⟩, by simp⟩
    · have hke : k = 1 := by omega
      subst hke
      have N1 := keep _ _ M1.out
      have N2 := keep _ _ M2.out
      have x0 : wr.cell? ⟨X, 0, none⟩ = some (vI 0) := by rw [cell_of0 N1]; rfl
      have y0 : wr.cell? ⟨X + 1, 0, none⟩ = some (vI 0) := by rw [cell_of0 N2]; rfl
      have y1 : wr.cell? ⟨X + 1, 1, none⟩ = some (.slice none 0 0) := by rw [cell_of0 N2]; rfl
      have z0 := frozen_of N2 0
      have z1 := frozen_of N2 1
      have fz : Fr (fun j => j = X + 1) wr ((wr.setCell ⟨X + 1, 0, none⟩ (vI 0)).setCell ⟨X + 1, 1, none⟩ (.slice (some ⟨G, 0, none⟩) 1 1)) := (setCell_fr wr (X + 1) 0 _).trans (setCell_fr _ (X + 1) 1 _)
      have HZ : Hd (((wr.setCell ⟨X + 1, 0, none⟩ (vI 0)).setCell ⟨X + 1, 1, none⟩ (.slice (some ⟨G, 0, none⟩) 1 1)).heap[X + 1]? = some (.cells #[vI 0, .slice (some ⟨G, 0, none⟩) 1 1] 24)) := set_of (set_of N2 0 _) 1 _
      have HFz : Hd (Fr (fun _ => False) w ((wr.setCell ⟨X + 1, 0, none⟩ (vI 0)).setCell ⟨X + 1, 1, none⟩ (.slice (some ⟨G, 0, none⟩) 1 1))) := (MF.out.trans HFr.out).then fz (fun j hj e => by have := HX.out; omega)
      have nG : G ≠ X + 1 := fun e => by
        have h1 := MG.out
        rw [e, M2.out] at h1
        injection (Option.some.inj h1) with _ e; exact absurd e (by decide)
      have HFA : Hd (FA ((wr.setCell ⟨X + 1, 0, none⟩ (vI 0)).setCell ⟨X + 1, 1, none⟩ (.slice (some ⟨G, 0, none⟩) 1 1)) (.slice (some ⟨G, 0, none⟩) 1 1) [fZ]) := by
        refine fa_one (HP.out.fr HFz.out) ((fz.block G (heap_lt0 (keep _ _ MG.out)) nG).trans (keep _ _ MG.out)) (ownsRow_frL (ownsRow_frL MR.out HFr.out (fun _ _ e => e)) fz (fun k e e2 => ?_))
        cases e
        have e2 : g = X + 1 := e2
        omega
      clear fz N1 N2 keep
      go_wp2_with fail
      generalize (wr.setCell ⟨X + 1, 0, none⟩ (vI 0)).setCell ⟨X + 1, 1, none⟩ (.slice (some ⟨G, 0, none⟩) 1 1) = wz at *
      have r0 : wz.cell? ⟨X + 1, 0, none⟩ = some (vI 0) := by rw [cell_of0 HZ.out]; rfl
      have r1 : wz.cell? ⟨X + 1, 1, none⟩ = some (.slice (some ⟨G, 0, none⟩) 1 1) := by rw [cell_of0 HZ.out]; rfl
      refine bodyPost_ret (v := .agg #[vI 0, .slice (some ⟨G, 0, none⟩) 1 1]) ?_ rfl ⟨G, rfl, HFA.out, HFz.out⟩
      rw [results_cell (p := 4) (ty := 24) Tryd.results44]
      simp [go_sem, r0, r1]

end Go.Proofs.YtlmlmhinbkcpoaaDoor

namespace Go.Proofs.YtlmlmhinbkcpoaaDoor
open Go.RowKit (wrap32 wrap64)
set_option linter.unusedVariables false
set_option linter.unusedSimpArgs false

theorem Tab.lt {w : World} (h : Tab w) : 1 < w.heap.size := by
  have := h 0 (by omega)
  unfold World.cell? at this
  rcases Nat.lt_or_ge 1 w.heap.size with hk | hk
  · exact hk
  · simp [Array.getElem?_eq_none hk] at this
theorem Tab.stay {w w' : World} (h : Tab w) (f : Fr (fun _ => False) w w') : Tab w' := h.fr f (fun e => e)

set_option maxRecDepth 100000 in
set_option maxHeartbeats 1000000 in
theorem right_one (H : Nat) (w : World) (h : P0 w H) (hT : Tab w) : Calls Tryd.prog 28 #[.agg #[vI 0, .slice (some ⟨H + 2, 0, none⟩) 1 1], vI 0] w fun e w' => e = .returned (.bool true) ∧ Fr (fun _ => False) w w' := by
  have hFa : Fr (fun _ => False) w (w.alloc (.cells #[vI 0, .slice (some ⟨H + 2, 0, none⟩) 1 1] 24)) := Fr.alloc (Fr.refl _ w) _
  have HFa : Hd (Fr (fun _ => False) w (w.alloc (.cells #[vI 0, .slice (some ⟨H + 2, 0, none⟩) 1 1] 24))) := hFa
  have HP : Hd (P0 (w.alloc (.cells #[vI 0, .slice (some ⟨H + 2, 0, none⟩) 1 1] 24)) H) := h.fr hFa
  have HT : Hd (Tab w) := hT
  clear h hFa hT
  go_enter Tryd.func28, Tryd.ntmps28
  go_wp2_with fail
  refine (show Calls Tryd.prog 44 #[.agg #[vI 0, .slice (some ⟨H + 2, 0, none⟩) 1 1], vI 0] (w.alloc (.cells #[vI 0, .slice (some ⟨H + 2, 0, none⟩) 1 1] 24)) _ from alone_one H _ HP.out).mono ?_
  rintro e w1 ⟨G, rfl, hfa, hF1⟩
  have HF1 : Hd (Fr (fun _ => False) w w1) := HFa.out.trans hF1
  have HA : Hd (FA w1 (.slice (some ⟨G, 0, none⟩) 1 1) [fZ]) := hfa
  have HT1 : Hd (Tab w1) := HT.out.stay HF1.out
  clear hfa hF1
  have hfine : FineP [fZ] := ⟨by simp, fun f hf => by
    simp at hf; subst hf
    exact ⟨by simp [fZ], fun c hc => by simp [fZ] at hc; subst hc; simp [cZ]⟩⟩
  go_wp2_with fail
  refine (show Calls Tryd.prog 43 #[.agg #[vI 0, .slice (some ⟨G, 0, none⟩) 1 1]] w1 _ from check_prog w1 0 [fZ] _ (HA.out.fl hfine (by omega)) HT1.out (by have := HT1.out.lt; omega)).mono ?_
  rintro e w2 ⟨rfl, hF2⟩
  rw [checkZ]
  have HF2 : Hd (Fr (fun _ => False) w w2) := HF1.out.trans hF2
  clear hF2
  go_wp2_with fail
  go_ret
  exact ⟨rfl, HF2.out⟩

set_option maxRecDepth 100000 in
set_option maxHeartbeats 1000000 in
theorem told_one (H : Nat) (sa : Option Addr) (sn sc : Nat) (w : World) (h : P0 w H) : Calls Tryd.prog 29 #[.agg #[vI 0, .slice (some ⟨H + 2, 0, none⟩) 1 1], vI 0, .slice sa sn sc] w fun e w' => e = .returned (.bool true) ∧ Fr (fun _ => False) w w' := by
  have hFa : Fr (fun _ => False) w (w.alloc (.cells #[vI 0, .slice (some ⟨H + 2, 0, none⟩) 1 1] 24)) := Fr.alloc (Fr.refl _ w) _
  have HFa : Hd (Fr (fun _ => False) w (w.alloc (.cells #[vI 0, .slice (some ⟨H + 2, 0, none⟩) 1 1] 24))) := hFa
  have HP : Hd (P0 (w.alloc (.cells #[vI 0, .slice (some ⟨H + 2, 0, none⟩) 1 1] 24)) H) := h.fr hFa
  have q3 : (w.alloc (.cells #[vI 0, .slice (some ⟨H + 2, 0, none⟩) 1 1] 24)).cell? ⟨H + 2, 3, none⟩ = some (.slice (some ⟨H + 1, 0, none⟩) 1 1) := by rw [cell_of0 HP.out.f]; rfl
  clear h hFa
  go_enter Tryd.func29, Tryd.ntmps29
  go_wp2_with fail
  clear q3
  generalize w.alloc (.cells #[vI 0, .slice (some ⟨H + 2, 0, none⟩) 1 1] 24) = wa at *
  go_loopw [16] (fun v wr => ∃ (k : Nat), v = .int .i64 k ∧ k ≤ 1 ∧ Hd (Fr (fun _ => False) wa wr)) (fun v _ => match v with | .int _ q => 1 - q.toNat | _ => 0)
  case atStart => exact ⟨0, rfl, by omega, Fr.refl _ _⟩
  case round =>
    obtain ⟨k, rfl, hk, HFr⟩ := hrel
    by_cases hlt : k < 1
    · obtain rfl : k = 0 := by omega
      have hi := (HP.out.fr HFr.out).i
      have c0 : wr.cell? ⟨H + 1, 0, none⟩ = some (vI 15) := by rw [cell_of0 hi]; rfl
      have c1 : wr.cell? ⟨H + 1, 1, none⟩ = some (vI 0) := by rw [cell_of0 hi]; rfl
      have c2 : wr.cell? ⟨H + 1, 2, none⟩ = some (vI 0) := by rw [cell_of0 hi]; rfl
      have c3 : wr.cell? ⟨H + 1, 3, none⟩ = some (vI 0) := by rw [cell_of0 hi]; rfl
      have c4 : wr.cell? ⟨H + 1, 4, none⟩ = some (vI 0) := by rw [cell_of0 hi]; rfl
      have c5 : wr.cell? ⟨H + 1, 5, none⟩ = some (.slice (some ⟨H, 0, none⟩) 1 1) := by rw [cell_of0 hi]; rfl
      have c6 : wr.cell? ⟨H + 1, 6, none⟩ = some (.slice none 0 0) := by rw [cell_of0 hi]; rfl
      clear hi
      go_wp2_with fail
      go_quiet (fail)
      go_wp2_with fail
      exact ⟨⟨1, by simp, by omega, ⟨HFr.out.os, HFr.out.tape, HFr.out.output, by simp; have := HFr.out.size; omega, fun k hk hS => (HFr.out.alloc _).block k hk hS⟩⟩, by simp⟩
    · have hke : k = 1 := by omega
      subst hke
      go_wp2_with fail
      go_ret
      exact ⟨rfl, HFa.out.trans HFr.out⟩

end Go.Proofs.YtlmlmhinbkcpoaaDoor

namespace Go.Proofs.YtlmlmhinbkcpoaaDoor
open Go.RowKit Go.Shelf
set_option linter.unusedVariables false
set_option linter.unusedSimpArgs false
attribute [local go_sem] Oper.semAt_some

abbrev edC (x : Ed) : List Value := [vI x.1, vI x.2.1, vI x.2.2]
theorem under36 : Tryd.prog.underlying 36 = some (.slice 47) := by kernel_rfl
theorem info47 : (Tryd.prog.info? 47).map (fun i => (i.zero, i.size, i.bytes)) = some (some (.agg #[vI 0, vI 0, vI 0]), 3, 24) := by kernel_rfl

/-- A round that appends to the list keeps what it must. -/
theorem appended_kpB {W w1 : World} {L l : Nat} {v v' : Value} {k : Nat} {xs : List Value} {tmp : Obj} (hv : Boxed W L 36 v) (hrow : W.ownsRow L 47 3 v k xs) (hgrow : (W.alloc tmp).grownBy w1 v.ownBlock) (hko : KeepsOthers W (w1.setCell ⟨L, 0, none⟩ v')) (hbl : Below L W (w1.setCell ⟨L, 0, none⟩ v')) : KpB L l W (w1.setCell ⟨L, 0, none⟩ v') := by
  refine ⟨⟨hbl, fun j cs t hj h1 h2 => ?_⟩, fun j o hj ho _ => hko.same j o hj ho⟩
  have e1 : (W.alloc tmp).heap[j]? = some (.cells cs t) := (Below.heap_alloc W tmp j (heap_lt0 hj)).trans hj
  have e2 : w1.heap[j]? = some (.cells cs t) := by
    refine (hgrow.block j (heap_lt0 e1) (fun e => ?_)).trans e1
    rcases hrow.2 with ⟨rfl, -⟩ | ⟨g, cap, cur, rfl, -, hg, -⟩
    · cases e
    · cases e
      rw [hj] at hg
      injection (Option.some.inj hg) with _ e _
      exact h1 e
  have hne : j ≠ L := fun e => by
    subst e
    rw [show W.heap[j]? = _ from hv] at hj
    injection (Option.some.inj hj) with _ e _
    exact h2 e.symm
  exact (Below.heap_setCell w1 ⟨L, 0, none⟩ v' j hne).trans e2

set_option maxRecDepth 100000 in
set_option maxHeartbeats 4000000 in
theorem edgesF_in (n : Nat) (hn : 6 ≤ n) (H : Nat) (sa : Option Addr) (sc : Nat) (w : World) (h : P0 w H) (hT : Tab w) (hR : RowsT w) :
    CallsIn Fence.wide n Tryd.prog 9 #[.agg #[vI 0, .slice (some ⟨H + 2, 0, none⟩) 1 1], vI 0, .slice sa 1 sc] w fun e w' => ∃ v, e = .returned (.tuple #[v, vI 0]) ∧ w'.ownsRow w.heap.size 47 3 v 1 [vI 1, vI 2, vI 0] ∧ Fr (fun _ => False) w w' := by
  obtain ⟨i0, hi, hz0, hz1, hz2⟩ := info_parts info47
  have hFa : Fr (fun _ => False) w (w.alloc (.cells #[vI 0, .slice (some ⟨H + 2, 0, none⟩) 1 1] 24)) := Fr.alloc (Fr.refl _ w) _
  have ba : (w.alloc (.cells #[vI 0, .slice (some ⟨H + 2, 0, none⟩) 1 1] 24)).heap[w.heap.size]? = some (.cells #[vI 0, .slice (some ⟨H + 2, 0, none⟩) 1 1] 24) := heap_new0 w _
  refine callsIn_of_wp_marks Tryd.func9 rfl trivial ?_ rfl
  simp only [Tryd.ntmps9, List.size_toArray, List.length_cons, List.length_nil, Nat.reduceAdd, Nat.reduceSub, Array.replicate_succ, Array.replicate_zero, List.push_toArray, List.append_toArray, List.nil_append, List.cons_append]
  gi_wp2_with fail
  refine ⟨trivial, (fun h => by cases h), ?_⟩
  refine (callsIn_wide.2 (right_one H (w.alloc (.cells #[vI 0, .slice (some ⟨H + 2, 0, none⟩) 1 1] 24)) (h.fr hFa) (hT.stay hFa))).mono ?_
  rintro e w1 ⟨rfl, hF1⟩
  have b1 : w1.heap[w.heap.size]? = some (.cells #[vI 0, .slice (some ⟨H + 2, 0, none⟩) 1 1] 24) := (hF1.block _ (heap_lt0 ba) (fun e => e)).trans ba
  have c0 : w1.cell? ⟨w.heap.size, 0, none⟩ = some (vI 0) := by rw [cell_of0 b1]; rfl
  have c1 : w1.cell? ⟨w.heap.size, 1, none⟩ = some (.slice (some ⟨H + 2, 0, none⟩) 1 1) := by rw [cell_of0 b1]; rfl
  gi_wp2_with fail
  refine ⟨trivial, (fun h => by cases h), ?_⟩
  refine (callsIn_wide.2 (told_one H sa 1 sc w1 (h.fr (hFa.trans hF1)))).mono ?_
  rintro e w2 ⟨rfl, hF2⟩
  have hFw : Fr (fun _ => False) w w2 := (hFa.trans hF1).trans hF2
  have b2 : w2.heap[w.heap.size]? = some (.cells #[vI 0, .slice (some ⟨H + 2, 0, none⟩) 1 1] 24) := (hF2.block _ (heap_lt0 b1) (fun e => e)).trans b1
  clear c0 c1 b1 ba hF1 hF2 hFa
  obtain ⟨w3, hw3⟩ : ∃ w3, w3 = w2.alloc (.cells #[.slice none 0 0] 36) := ⟨_, rfl⟩
  have hF3 : Fr (fun _ => False) w2 w3 := by rw [hw3]; exact Fr.alloc (Fr.refl _ w2) _
  have b3 : w3.heap[w.heap.size]? = some (.cells #[vI 0, .slice (some ⟨H + 2, 0, none⟩) 1 1] 24) := (hF3.block _ (heap_lt0 b2) (fun e => e)).trans b2
  have c1 : (w2.alloc (.cells #[.slice none 0 0] 36)).cell? ⟨w.heap.size, 1, none⟩ = some (.slice (some ⟨H + 2, 0, none⟩) 1 1) := by rw [← hw3, cell_of0 b3]; rfl
  have hP3 := h.fr (hFw.trans hF3)
  have f0 : (w2.alloc (.cells #[.slice none 0 0] 36)).cell? ⟨H + 2, 0, none⟩ = some (vI 1) := by rw [← hw3, cell_of0 hP3.f]; rfl
  have f1 : (w2.alloc (.cells #[.slice none 0 0] 36)).cell? ⟨H + 2, 1, none⟩ = some (vI 1) := by rw [← hw3, cell_of0 hP3.f]; rfl
  have f2 : (w2.alloc (.cells #[.slice none 0 0] 36)).cell? ⟨H + 2, 2, none⟩ = some (vI 1) := by rw [← hw3, cell_of0 hP3.f]; rfl
  have f3 : (w2.alloc (.cells #[.slice none 0 0] 36)).cell? ⟨H + 2, 3, none⟩ = some (.slice (some ⟨H + 1, 0, none⟩) 1 1) := by rw [← hw3, cell_of0 hP3.f]; rfl
  have hmf : ∀ (fn : Fn) (first cap : Array Value) (w : World), (Instr.makeFunc fn first cap).run Tryd.prog w = .ok (.func fn first cap) w := fun _ _ _ _ => rfl
  gi_wp2_with fail
  clear c1 f0 f1 f2 f3
  have hRT : RowsT w3 := by
    have h0 : 0 < w.heap.size := by have := hT.lt; omega
    have ff := hFw.trans hF3
    exact ⟨(ff.cell h0 (fun e => e)).trans hR.1, (ff.cell h0 (fun e => e)).trans hR.2.1, (ff.cell h0 (fun e => e)).trans hR.2.2.1, (ff.cell h0 (fun e => e)).trans hR.2.2.2⟩
  have hH2 : H + 2 < w.heap.size := heap_lt0 h.f
  have hw2 : w.heap.size ≤ w2.heap.size := hFw.size
  have hs3 : w3.heap.size = w2.heap.size + 1 := by rw [hw3]; simp
  have hT1 := hT.lt
  have hbox : Boxed w3 w2.heap.size 36 (.slice none 0 0) := by rw [hw3]; exact Boxed.new w2 36 _
  have hgiv : Given w2.heap.size (.agg #[vI 1, vI 1, vI 1, .slice (some ⟨H + 1, 0, none⟩) 1 1, .slice sa 1 sc]) (IV.val ⟨15, 0, 0, 0, 0, some ⟨H, 0, none⟩, 1, 1, none, 0, 0⟩) (cellX 1 1) (retE 1 1 [0]) w3 :=
    given_return w2.heap.size 1 1 1 _ 1 1 sa 1 sc 0 0 0 0 (cellX 1 1) [0] (some ⟨H, 0, none⟩) 1 none 0 0 w3 (by simp) (by omega) (by omega) hRT (fun _ => ⟨H, 0, rfl, by omega, fun j hj => by
      have hj : j < 1 := hj
      obtain rfl : j = 0 := by omega
      rw [cell_of0 hP3.a]; rfl⟩)
  have hseq := edges_seq (n - 1) (by omega) w2.heap.size 1 1 1 (some ⟨H + 1, 0, none⟩) 1 1 sa 1 sc (fun _ => ⟨15, 0, 0, 0, 0, some ⟨H, 0, none⟩, 1, 1, none, 0, 0⟩) (fun _ => retE 1 1 [0]) (fun _ => cellX 1 1) (by omega) w3 (by omega) rfl (fun i _ => by simp) (fun _ => ⟨H + 1, 0, rfl, by omega, fun i hi o ho => by
    obtain rfl : i = 0 := by omega
    simp only [Nat.zero_mul, Nat.zero_add]
    rw [cell_of0 hP3.i]⟩) (fun i _ => hgiv)
  rw [← hw3]
  have hlen1 : ((List.range 1).flatMap fun _ => retE 1 1 [0]).length = 1 := by kernel_rfl
  rw [hlen1] at hseq
  refine wpIn_rangeC rfl (by omega) (gf := 30) (fst := #[.agg #[vI 1, vI 1, vI 1, .slice (some ⟨H + 1, 0, none⟩) 1 1, .slice sa 1 sc]]) (lb := #[]) rfl trivial (enters_of Tryd.func30 (by kernel_rfl) rfl) hseq (fun _ _ _ _ h1 h2 => h1.trans h2) (fun l' W' r o' hl' h => KpB.putObj o' h (by omega)) (Below.refl _ _) (fun _ => rfl)
    (fun pre W' => (∃ v, Boxed W' w2.heap.size 36 v ∧ W'.ownsRow w2.heap.size 47 3 v pre.length (pre.flatMap edC) ∧ True) ∧ Below w2.heap.size w3 W')
    (OwnFrom.and (Own.from (holdsRow_own w2.heap.size w2.heap.size 36 47 3 (fun pre : List Ed => pre.length) (fun pre => pre.flatMap edC) (fun _ _ => True)) _) (ownFrom_below (by omega) (by omega)))
    ⟨⟨_, hbox, World.ownsRow_nil _ _ _ _, trivial⟩, Below.refl _ _⟩
    (fun z a' W' => ∃ Y, a' = { tmps := #[.agg #[vI 0, .slice (some ⟨H + 2, 0, none⟩) 1 1], vI 0, .slice sa 1 sc, .pointer (some ⟨w.heap.size, 0, none⟩), undef, undef, .slice none 0 0, .int .i64 0, .pointer (some ⟨w2.heap.size, 0, none⟩), .pointer (some ⟨Y, 0, none⟩), vI 0, .bool false, .bool false, vI 0, .pointer (some ⟨w.heap.size, 1, none⟩), .slice (some ⟨H + 2, 0, none⟩) 1 1, .int .i64 1, .bool false, .bool false, .bool false, .slice sa 1 sc, .int .i64 1, .pointer (some ⟨w.heap.size, 1, none⟩), .slice (some ⟨H + 2, 0, none⟩) 1 1, .int .i64 1, .bool false, .bool false, .bool false, .agg #[vI 0, .slice (some ⟨H + 2, 0, none⟩) 1 1], vI 0, .bool true, .bool false, .bool false, .bool false, .agg #[vI 0, .slice (some ⟨H + 2, 0, none⟩) 1 1], vI 0, .slice sa 1 sc, .bool true, .bool false, .bool false, .pointer (some ⟨w.heap.size, 1, none⟩), .slice (some ⟨H + 2, 0, none⟩) 1 1, vI 0, .pointer (some ⟨H + 2, 0, none⟩), .agg #[vI 1, vI 1, vI 1, .slice (some ⟨H + 1, 0, none⟩) 1 1], .slice sa 1 sc, .agg #[vI 1, vI 1, vI 1, .slice (some ⟨H + 1, 0, none⟩) 1 1, .slice sa 1 sc], .func (.func 30) #[.agg #[vI 1, vI 1, vI 1, .slice (some ⟨H + 1, 0, none⟩) 1 1, .slice sa 1 sc]] #[], .agg #[vI z.1, vI z.2.1, vI z.2.2], undef, undef, undef, undef, undef], defers := [] } ∧ W'.heap[Y]? = some (.cells #[vI z.1, vI z.2.1, vI z.2.2] 47) ∧ Y ≠ w2.heap.size)
    (fun z a' _ A A' row h hg hr => ?own) ?assign ?body ?done
  case own =>
    obtain ⟨Y, e, hY', hne⟩ := h
    refine ⟨Y, e, (hg.block Y (heap_lt0 hY') (fun e => ?_)).trans hY', hne⟩
    obtain ⟨-, o, ho, hc⟩ := hr Y e.symm
    rw [hY'] at ho
    cases ho
    cases hc
  case assign =>
    rintro l' pre z W' K hl' ⟨⟨v, hv, hrow, -⟩, hB⟩ hK
    have hFz : Fr (fun _ => False) W' (W'.alloc (.cells #[vI z.1, vI z.2.1, vI z.2.2] 47)) := Fr.alloc (Fr.refl _ W') _
    have hsz := hB.size
    gi_wp2
    exact hK _ _ ((KeepsOthers.alloc W' _).from _) ⟨KpA.ofFr hFz (by omega), fun k o hk _ _ => (hFz.block k (heap_lt0 hk) (fun e => e)).trans hk⟩ ⟨⟨v, hv.alloc _, hrow.alloc _, trivial⟩, hB.trans (KpA.ofFr hFz (by omega)).below⟩ ⟨_, rfl, heap_new0 W' _, by have := hv.lt; omega⟩
  case body =>
    rintro l' pre z a' W' hl' ⟨⟨v, hv, hrow, -⟩, hB⟩ ⟨Y, rfl, hYb, hne⟩ hlen
    have hcv := hv.cell
    have z0 : W'.cell? ⟨Y, 0, none⟩ = some (vI z.1) := by rw [cell_of0 hYb]; rfl
    have z1 : W'.cell? ⟨Y, 1, none⟩ = some (vI z.2.1) := by rw [cell_of0 hYb]; rfl
    have z2 : W'.cell? ⟨Y, 2, none⟩ = some (vI z.2.2) := by rw [cell_of0 hYb]; rfl
    have hsz := hB.size
    have hmx : pre.length + 1 ≤ maxLen := by unfold maxLen; omega
    have hnews : ∀ j u, [vI z.1, vI z.2.1, vI z.2.2][j]? = some u → (W'.alloc (.cells #[vI z.1, vI z.2.1, vI z.2.2] 47)).cell? ((⟨W'.heap.size, 0, none⟩ : Addr).add j) = some u :=
      World.news_of_block (cs := #[vI z.1, vI z.2.1, vI z.2.2]) (heap_new0 W' _)
    gi_wp2_with (gi_at_builtin; refine wpListIn_append_own _ rfl _ _ 36 rfl w2.heap.size 47 i0 (.agg #[vI 0, vI 0, vI 0]) 3 24 under36 hi hz0 hz1 hz2 rfl (by decide) _ _ _ rfl (hrow.alloc _) ⟨W'.heap.size, 0, none⟩ 1 1 [vI z.1, vI z.2.1, vI z.2.2] rfl rfl hnews (by simp [Value.oneCell']) hmx (by omega) (by simp; omega) ?_; intro v' w1 hown' hgrow _; obtain ⟨g', cap', rfl⟩ := ownsRow_succ hown'; obtain ⟨hv1, hv2, hr2, hk2, hb2⟩ := hv.appended (by decide) hrow (by omega) (Nat.le_refl _) hown' hgrow; have hc1 := hv1.cell; have hf1 := hv1.frozen)
    exact ⟨hk2.from _, appended_kpB hv hrow hgrow hk2 hb2, ⟨_, hv2, by simpa using hr2, trivial⟩, hB.trans hb2⟩
  case done =>
    rintro D xs W' hDl rfl ⟨⟨v, hv, hrow, -⟩, hB⟩ hD
    have hcv := hv.cell
    gi_wp2
    refine ⟨by simp, .inl ⟨_, _, rfl, run_takeDeferred hD, ?_⟩⟩
    have hE : ((List.range 1).flatMap fun _ => retE 1 1 [0]) = [((1 : Int), (2 : Int), (0 : Int))] := by kernel_rfl
    rw [hE] at hrow
    have hrow2 : (W'.putObj D (.deferred none)).ownsRow w.heap.size 47 3 v 1 [vI 1, vI 2, vI 0] := World.ownsRow.mono (ownsRow_putObj hrow _ hD rfl) hw2
    have hFD : Fr (fun _ => False) w (W'.putObj D (.deferred none)) := by
      have hb : Below w.heap.size w W' := ⟨hB.os.trans (hFw.trans hF3).os, hB.tape.trans (hFw.trans hF3).tape, hB.output.trans (hFw.trans hF3).output, Nat.le_trans (hFw.trans hF3).size hB.size, fun k hk => (hB.block k (by omega)).trans ((hFw.trans hF3).block k hk (fun e => e))⟩
      have hg := grownBy_putObj' W' D (.deferred none)
      exact ⟨hg.os.trans hb.os, hg.tape.trans hb.tape, hg.output.trans hb.output, Nat.le_trans hb.size hg.size, fun k hk _ => (hg.block k (Nat.lt_of_lt_of_le hk hb.size) (fun e => by cases e; omega)).trans (hb.block k hk)⟩
    exact ⟨_, results_tmp2 rfl _ _ _, v, rfl, hrow2, hFD⟩

end Go.Proofs.YtlmlmhinbkcpoaaDoor

namespace Go.Proofs.YtlmlmhinbkcpoaaDoor
open Go.RowKit (wrap32 wrap64)
set_option linter.unusedVariables false
set_option linter.unusedSimpArgs false

theorem edges_one (H : Nat) (sa : Option Addr) (sc : Nat) (w : World) (h : P0 w H) (hT : Tab w) (hR : RowsT w) :
    Calls Tryd.prog 9 #[.agg #[vI 0, .slice (some ⟨H + 2, 0, none⟩) 1 1], vI 0, .slice sa 1 sc] w fun e w' => ∃ v, e = .returned (.tuple #[v, vI 0]) ∧ w'.ownsRow w.heap.size 47 3 v 1 [vI 1, vI 2, vI 0] ∧ Fr (fun _ => False) w w' :=
  callsIn_wide.1 (edgesF_in 6 (by omega) H sa sc w h hT hR)

theorem RowsT.stay {w w' : World} (h : RowsT w) (f : Fr (fun _ => False) w w') (h0 : 0 < w.heap.size) : RowsT w' :=
  ⟨(f.cell h0 (fun e => e)).trans h.1, (f.cell h0 (fun e => e)).trans h.2.1, (f.cell h0 (fun e => e)).trans h.2.2.1, (f.cell h0 (fun e => e)).trans h.2.2.2⟩

theorem edges_cells {w2 : World} {B : Nat} {v2 : Value} {xs : List Value} (h : w2.ownsRow B 47 3 v2 1 xs) : ∃ g cap, v2 = .slice (some ⟨g, 0, none⟩) 1 cap ∧ ∀ o u, xs[o]? = some u → w2.cell? ⟨g, o, none⟩ = some u := by
  rcases h.2 with ⟨-, e⟩ | ⟨g, cap, cur, e, -, h2, -, -, h5, h6⟩
  · omega
  · refine ⟨g, cap, e, fun o u hu => ?_⟩
    rw [cell_of0 h2, ← Array.getElem?_toList]
    have hl := (List.getElem?_eq_some_iff.1 hu).1
    have h1 := h.1
    rw [← h6, List.getElem?_take_of_lt (by omega)] at hu
    exact hu
theorem make25 (w : World) : (Instr.makeSlice 25 (.int .i64 1) (.int .i64 1)).run Tryd.prog w = .ok (.slice (some ⟨w.heap.size, 0, none⟩) 1 1) (w.alloc (.cells (madeCells #[.slice none 0 0, .slice none 0 0] (1 * 2)) 34)) := by
  have := run_make_of 25 34 (.agg #[.slice none 0 0, .slice none 0 0]) 2 48 (by kernel_rfl) (by kernel_rfl) (by kernel_rfl) (by kernel_rfl) 1 (by omega) (by omega) w
  exact this

set_option maxRecDepth 100000 in
set_option maxHeartbeats 2000000 in
theorem works_any (w : World) (hT : Tab w) (hR : RowsT w) : Calls Tryd.prog 8 #[] w fun e w' => e = .returned (.bool true) ∧ Fr (fun _ => False) w w' := by
  have hmk := make25
  obtain ⟨wp, hwp⟩ : ∃ wp, wp = (((w.alloc (.cells #[vI 0] 3)).alloc (oZi w.heap.size)).alloc (oZf (w.heap.size + 1))).alloc (.cells #[vI 0, .slice (some ⟨w.heap.size + 2, 0, none⟩) 1 1] 24) := ⟨_, rfl⟩
  have HWP : Hd (wp = (((w.alloc (.cells #[vI 0] 3)).alloc (oZi w.heap.size)).alloc (oZf (w.heap.size + 1))).alloc (.cells #[vI 0, .slice (some ⟨w.heap.size + 2, 0, none⟩) 1 1] 24)) := hwp
  have hFp : Fr (fun _ => False) w wp := by rw [hwp]; exact Fr.alloc (Fr.alloc (Fr.alloc (Fr.alloc (Fr.refl _ w) _) _) _) _
  have hP : P0 wp w.heap.size := by
    rw [hwp]
    refine ⟨?_, ?_, ?_⟩
    · rw [Go.RowKit.Below.heap_alloc _ _ _ (by simp <;> omega), Go.RowKit.Below.heap_alloc _ _ _ (by simp <;> omega), Go.RowKit.Below.heap_alloc _ _ _ (by simp)]; exact heap_new0 w _
    · have := heap_new0 (w.alloc (.cells #[vI 0] 3)) (oZi w.heap.size)
      rw [World.size_alloc] at this
      rw [Go.RowKit.Below.heap_alloc _ _ _ (by simp <;> omega), Go.RowKit.Below.heap_alloc _ _ _ (by simp)]; exact this
    · have := heap_new0 ((w.alloc (.cells #[vI 0] 3)).alloc (oZi w.heap.size)) (oZf (w.heap.size + 1))
      rw [World.size_alloc, World.size_alloc] at this
      rw [Go.RowKit.Below.heap_alloc _ _ _ (by simp)]; exact this
  have hb : wp.heap[w.heap.size + 3]? = some (.cells #[vI 0, .slice (some ⟨w.heap.size + 2, 0, none⟩) 1 1] 24) := by
    have := heap_new0 (((w.alloc (.cells #[vI 0] 3)).alloc (oZi w.heap.size)).alloc (oZf (w.heap.size + 1))) (.cells #[vI 0, .slice (some ⟨w.heap.size + 2, 0, none⟩) 1 1] 24)
    rw [World.size_alloc, World.size_alloc, World.size_alloc] at this
    rw [hwp]; exact this
  obtain ⟨X, hX⟩ : ∃ X, X = w.heap.size := ⟨_, rfl⟩
  have HX : Hd (X = w.heap.size) := hX
  rw [← hX] at hb hP
  have HP : Hd (P0 wp X) := hP
  have HF : Hd (Fr (fun _ => False) w wp) := hFp
  have HT : Hd (Tab wp) := hT.stay hFp
  have HR : Hd (RowsT wp) := hR.stay hFp (by have := hT.lt; omega)
  have p0 : wp.cell? ⟨X + 3, 0, none⟩ = some (vI 0) := by rw [cell_of0 hb]; rfl
  have p1 : wp.cell? ⟨X + 3, 1, none⟩ = some (.slice (some ⟨X + 2, 0, none⟩) 1 1) := by rw [cell_of0 hb]; rfl
  have hbl := heap_lt0 hb
  have ne1 : X + 3 ≠ wp.heap.size := by omega
  have ne2 : wp.heap.size ≠ X + 3 := by omega
  clear hwp hFp hP hX hb
  go_enter Tryd.func8, Tryd.ntmps8
  go_upto_region 2 with fail
  rw [← HWP.out, ← HX.out]
  clear HWP
  go_cut [2, 3] (fun x2 x3 wx => ∃ g cap, x2 = .slice (some ⟨g, 0, none⟩) 1 cap ∧ x3 = vI 0 ∧ Hd (wx.cell? ⟨g, 0, none⟩ = some (vI 1) ∧ wx.cell? ⟨g, 1, none⟩ = some (vI 2) ∧ wx.cell? ⟨g, 2, none⟩ = some (vI 0)) ∧ Hd (Fr (fun _ => False) wp wx))
  case first =>
    go_region_with ((
      go_at_call 9
      refine (show Calls Tryd.prog 9 #[.agg #[vI 0, .slice (some ⟨X + 2, 0, none⟩) 1 1], vI 0, .slice (some ⟨wp.heap.size, 0, none⟩) 1 1] (wp.alloc (.cells (madeCells #[.slice none 0 0, .slice none 0 0] (1 * 2)) 34)).drew _ from edges_one X _ 1 _ (HP.out.fr (Fr.alloc (Fr.refl _ wp) _).drew) (HT.out.stay (Fr.alloc (Fr.refl _ wp) _).drew) (HR.out.stay (Fr.alloc (Fr.refl _ wp) _).drew (by have := HT.out.lt; omega))).mono ?_
      rintro e w2 ⟨v2, rfl, hrow, hF2⟩
      obtain ⟨g, cap, ev, q⟩ : ∃ g cap, v2 = .slice (some ⟨g, 0, none⟩) 1 cap ∧ ∀ o u, [vI 1, vI 2, vI 0][o]? = some u → w2.cell? ⟨g, o, none⟩ = some u := edges_cells hrow
      have HRW : Hd (w2.cell? ⟨g, 0, none⟩ = some (vI 1) ∧ w2.cell? ⟨g, 1, none⟩ = some (vI 2) ∧ w2.cell? ⟨g, 2, none⟩ = some (vI 0)) := ⟨q 0 _ rfl, q 1 _ rfl, q 2 _ rfl⟩
      subst ev
      clear q
      have HF2 : Hd (Fr (fun _ => False) wp w2) := (Fr.alloc (Fr.refl _ wp) _).drew.trans hF2
      clear hrow hF2))
    all_goals
      go_wp2_with fail
      go_meet
      exact ⟨_, _, rfl, rfl, HRW.out, HF2.out⟩
  case rest =>
    obtain ⟨g, cap, rfl, rfl, HRW, HF2⟩ := hcut
    have q0 := HRW.out.1
    have q1 := HRW.out.2.1
    have q2 := HRW.out.2.2
    clear HRW
    go_wp2_with fail
    go_ret
    exact ⟨rfl, HF.out.trans HF2.out⟩

end Go.Proofs.YtlmlmhinbkcpoaaDoor
