import Derived.Test.YtlmlmhinbkcpoaaGreatDoorQQ4
import Derived.Test.YtlmlmhinbkcpoaaGreatDoorQQ1J
import Derived.Deep.RegionWith
namespace Go.Proofs.YtlmlmhinbkcpoaaGreatDoor
open Go.RowKit Go.Shelf
set_option linter.unusedVariables false
set_option linter.unusedSimpArgs false
set_option maxRecDepth 100000
set_option maxHeartbeats 4000000
attribute [local go_sem] Oper.semAt_some
abbrev edC (x : Ed) : List Value := [vI x.1, vI x.2.1, vI x.2.2]
theorem under36 : Tryz.prog.underlying 31 = some (.slice 51) := by kernel_rfl
theorem info47 : (Tryz.prog.info? 51).map (fun i => (i.zero, i.size, i.bytes)) = some (some (.agg #[vI 0, vI 0, vI 0]), 3, 24) := by kernel_rfl
theorem appended_kpB {W w1 : World} {L l : Nat} {v v' : Value} {k : Nat} {xs : List Value} {tmp : Obj} (hv : Boxed W L 31 v) (hrow : W.ownsRow L 51 3 v k xs) (hgrow : (W.alloc tmp).grownBy w1 v.ownBlock) (hko : KeepsOthers W (w1.setCell ⟨L, 0, none⟩ v')) (hbl : Below L W (w1.setCell ⟨L, 0, none⟩ v')) : KpB L l W (w1.setCell ⟨L, 0, none⟩ v') := by
  refine ⟨⟨hbl, fun j cs t hj h1 h2 => ?_⟩, fun j o hj ho _ => hko.same j o hj ho⟩
  have e1 : (W.alloc tmp).heap[j]? = some (.cells cs t) := (Below.heap_alloc W tmp j (heap_lt0 hj)).trans hj
  have e2 : w1.heap[j]? = some (.cells cs t) := by
    refine (hgrow.block j (heap_lt0 e1) (fun e => ?_)).trans e1
    rcases hrow.2 with ⟨rfl, -⟩ | ⟨g, cap, cur, rfl, -, hg, -⟩
    · cases e
    · cases e
      rw [hj] at hg
      injection (Option.some.inj hg) with _ e _
      exact h1 e
  have hne : j ≠ L := fun e => by
    subst e
    rw [show W.heap[j]? = _ from hv] at hj
    injection (Option.some.inj hj) with _ e _
    exact h2 e.symm
  exact (Below.heap_setCell w1 ⟨L, 0, none⟩ v' j hne).trans e2
theorem edgesF_in (n : Nat) (hn : 6 ≤ n) (H : Nat) (sa : Option Addr) (sc : Nat) (w : World) (h : P0 w H) (hT : Tab w) (hR : RowsT w) :
    CallsIn Fence.wide n Tryz.prog 7 #[.agg #[vI 0, .slice (some ⟨H + 2, 0, none⟩) 1 1], vI 0, .slice sa 1 sc] w fun e w' => ∃ v, e = .returned (.tuple #[v, vI 0]) ∧ w'.ownsRow w.heap.size 51 3 v 1 [vI 1, vI 2, vI 0] ∧ Fr (fun _ => False) w w' := by
  obtain ⟨i0, hi, hz0, hz1, hz2⟩ := info_parts info47
  have hFa : Fr (fun _ => False) w (w.alloc (.cells #[vI 0, .slice (some ⟨H + 2, 0, none⟩) 1 1] 24)) := Fr.alloc (Fr.refl _ w) _
  have ba : (w.alloc (.cells #[vI 0, .slice (some ⟨H + 2, 0, none⟩) 1 1] 24)).heap[w.heap.size]? = some (.cells #[vI 0, .slice (some ⟨H + 2, 0, none⟩) 1 1] 24) := heap_new0 w _
  refine callsIn_of_wp_marks Tryz.func7 rfl trivial ?_ rfl
  simp only [Tryz.ntmps7, List.size_toArray, List.length_cons, List.length_nil, Nat.reduceAdd, Nat.reduceSub, Array.replicate_succ, Array.replicate_zero, List.push_toArray, List.append_toArray, List.nil_append, List.cons_append]
  gi_wp2_with fail
  refine ⟨trivial, (fun h => by cases h), ?_⟩
  refine (callsIn_wide.2 (right_one H (w.alloc (.cells #[vI 0, .slice (some ⟨H + 2, 0, none⟩) 1 1] 24)) (h.fr hFa) (hT.stay hFa))).mono ?_
  rintro e w1 ⟨rfl, hF1⟩
  have b1 : w1.heap[w.heap.size]? = some (.cells #[vI 0, .slice (some ⟨H + 2, 0, none⟩) 1 1] 24) := (hF1.block _ (heap_lt0 ba) (fun e => e)).trans ba
  have c0 : w1.cell? ⟨w.heap.size, 0, none⟩ = some (vI 0) := by rw [cell_of0 b1]; rfl
  have c1 : w1.cell? ⟨w.heap.size, 1, none⟩ = some (.slice (some ⟨H + 2, 0, none⟩) 1 1) := by rw [cell_of0 b1]; rfl
  gi_wp2_with fail
  refine ⟨trivial, (fun h => by cases h), ?_⟩
  refine (callsIn_wide.2 (told_one H sa 1 sc w1 (h.fr (hFa.trans hF1)))).mono ?_
  rintro e w2 ⟨rfl, hF2⟩
  have hFw : Fr (fun _ => False) w w2 := (hFa.trans hF1).trans hF2
  have b2 : w2.heap[w.heap.size]? = some (.cells #[vI 0, .slice (some ⟨H + 2, 0, none⟩) 1 1] 24) := (hF2.block _ (heap_lt0 b1) (fun e => e)).trans b1
  clear c0 c1 b1 ba hF1 hF2 hFa
  obtain ⟨w3, hw3⟩ : ∃ w3, w3 = w2.alloc (.cells #[.slice none 0 0] 31) := ⟨_, rfl⟩
  have hF3 : Fr (fun _ => False) w2 w3 := by rw [hw3]; exact Fr.alloc (Fr.refl _ w2) _
  have b3 : w3.heap[w.heap.size]? = some (.cells #[vI 0, .slice (some ⟨H + 2, 0, none⟩) 1 1] 24) := (hF3.block _ (heap_lt0 b2) (fun e => e)).trans b2
  have c1 : (w2.alloc (.cells #[.slice none 0 0] 31)).cell? ⟨w.heap.size, 1, none⟩ = some (.slice (some ⟨H + 2, 0, none⟩) 1 1) := by rw [← hw3, cell_of0 b3]; rfl
  have hP3 := h.fr (hFw.trans hF3)
  have f0 : (w2.alloc (.cells #[.slice none 0 0] 31)).cell? ⟨H + 2, 0, none⟩ = some (vI 1) := by rw [← hw3, cell_of0 hP3.f]; rfl
  have f1 : (w2.alloc (.cells #[.slice none 0 0] 31)).cell? ⟨H + 2, 1, none⟩ = some (vI 1) := by rw [← hw3, cell_of0 hP3.f]; rfl
  have f2 : (w2.alloc (.cells #[.slice none 0 0] 31)).cell? ⟨H + 2, 2, none⟩ = some (vI 1) := by rw [← hw3, cell_of0 hP3.f]; rfl
  have f3 : (w2.alloc (.cells #[.slice none 0 0] 31)).cell? ⟨H + 2, 3, none⟩ = some (.slice (some ⟨H + 1, 0, none⟩) 1 1) := by rw [← hw3, cell_of0 hP3.f]; rfl
  have hmf : ∀ (fn : Fn) (first cap : Array Value) (w : World), (Instr.makeFunc fn first cap).run Tryz.prog w = .ok (.func fn first cap) w := fun _ _ _ _ => rfl
  gi_wp2_with fail
  clear c1 f0 f1 f2 f3
  have hRT : RowsT w3 := by
    have h0 : 0 < w.heap.size := by have := hT.lt; omega
    have ff := hFw.trans hF3
    exact ⟨(ff.cell h0 (fun e => e)).trans hR.1, (ff.cell h0 (fun e => e)).trans hR.2.1, (ff.cell h0 (fun e => e)).trans hR.2.2.1, (ff.cell h0 (fun e => e)).trans hR.2.2.2⟩
  have hH2 : H + 2 < w.heap.size := heap_lt0 h.f
  have hw2 : w.heap.size ≤ w2.heap.size := hFw.size
  have hs3 : w3.heap.size = w2.heap.size + 1 := by rw [hw3]; simp
  have hT1 := hT.lt
  have hbox : Boxed w3 w2.heap.size 31 (.slice none 0 0) := by rw [hw3]; exact Boxed.new w2 31 _
  have hgiv : Given w2.heap.size (.agg #[vI 1, vI 1, vI 1, .slice (some ⟨H + 1, 0, none⟩) 1 1, .slice sa 1 sc]) (IV.val ⟨15, 0, 0, 0, 0, some ⟨H, 0, none⟩, 1, 1, none, 0, 0⟩) (cellX 1 1) (retE 1 1 [0]) w3 :=
    given_return w2.heap.size 1 1 1 _ 1 1 sa 1 sc 0 0 0 0 (cellX 1 1) [0] (some ⟨H, 0, none⟩) 1 none 0 0 w3 (by simp) (by omega) (by omega) hRT (fun _ => ⟨H, 0, rfl, by omega, fun j hj => by
      have hj : j < 1 := hj
      obtain rfl : j = 0 := by omega
      rw [cell_of0 hP3.a]; rfl⟩)
  have hseq := edges_seq (n - 1) (by omega) w2.heap.size 1 1 1 (some ⟨H + 1, 0, none⟩) 1 1 sa 1 sc (fun _ => ⟨15, 0, 0, 0, 0, some ⟨H, 0, none⟩, 1, 1, none, 0, 0⟩) (fun _ => retE 1 1 [0]) (fun _ => cellX 1 1) (by omega) w3 (by omega) rfl (fun i _ => by simp) (fun _ => ⟨H + 1, 0, rfl, by omega, fun i hi o ho => by
    obtain rfl : i = 0 := by omega
    simp only [Nat.zero_mul, Nat.zero_add]
    rw [cell_of0 hP3.i]⟩) (fun i _ => hgiv)
  rw [← hw3]
  have hlen1 : ((List.range 1).flatMap fun _ => retE 1 1 [0]).length = 1 := by kernel_rfl
  rw [hlen1] at hseq
  refine wpIn_rangeC rfl (by omega) (gf := 21) (fst := #[.agg #[vI 1, vI 1, vI 1, .slice (some ⟨H + 1, 0, none⟩) 1 1, .slice sa 1 sc]]) (lb := #[]) rfl trivial (enters_of Tryz.func21 (by kernel_rfl) rfl) hseq (fun _ _ _ _ h1 h2 => h1.trans h2) (fun l' W' r o' hl' h => KpB.putObj o' h (by omega)) (Below.refl _ _) (fun _ => rfl)
    (fun pre W' => (∃ v, Boxed W' w2.heap.size 31 v ∧ W'.ownsRow w2.heap.size 51 3 v pre.length (pre.flatMap edC) ∧ True) ∧ Below w2.heap.size w3 W')
    (OwnFrom.and (Own.from (holdsRow_own w2.heap.size w2.heap.size 31 51 3 (fun pre : List Ed => pre.length) (fun pre => pre.flatMap edC) (fun _ _ => True)) _) (ownFrom_below (by omega) (by omega)))
    ⟨⟨_, hbox, World.ownsRow_nil _ _ _ _, trivial⟩, Below.refl _ _⟩
    (fun z a' W' => ∃ Y, a' = { tmps := #[.agg #[vI 0, .slice (some ⟨H + 2, 0, none⟩) 1 1], vI 0, .slice sa 1 sc, .pointer (some ⟨w.heap.size, 0, none⟩), undef, undef, .slice none 0 0, .int .i64 0, .pointer (some ⟨w2.heap.size, 0, none⟩), .pointer (some ⟨Y, 0, none⟩), vI 0, .bool false, .bool false, vI 0, .pointer (some ⟨w.heap.size, 1, none⟩), .slice (some ⟨H + 2, 0, none⟩) 1 1, .int .i64 1, .bool false, .bool false, .bool false, .slice sa 1 sc, .int .i64 1, .pointer (some ⟨w.heap.size, 1, none⟩), .slice (some ⟨H + 2, 0, none⟩) 1 1, .int .i64 1, .bool false, .bool false, .bool false, .agg #[vI 0, .slice (some ⟨H + 2, 0, none⟩) 1 1], vI 0, .bool true, .bool false, .bool false, .bool false, .agg #[vI 0, .slice (some ⟨H + 2, 0, none⟩) 1 1], vI 0, .slice sa 1 sc, .bool true, .bool false, .bool false, .pointer (some ⟨w.heap.size, 1, none⟩), .slice (some ⟨H + 2, 0, none⟩) 1 1, vI 0, .pointer (some ⟨H + 2, 0, none⟩), .agg #[vI 1, vI 1, vI 1, .slice (some ⟨H + 1, 0, none⟩) 1 1], .slice sa 1 sc, .agg #[vI 1, vI 1, vI 1, .slice (some ⟨H + 1, 0, none⟩) 1 1, .slice sa 1 sc], .func (.func 21) #[.agg #[vI 1, vI 1, vI 1, .slice (some ⟨H + 1, 0, none⟩) 1 1, .slice sa 1 sc]] #[], .agg #[vI z.1, vI z.2.1, vI z.2.2], undef, undef, undef, undef, undef], defers := [] } ∧ W'.heap[Y]? = some (.cells #[vI z.1, vI z.2.1, vI z.2.2] 51) ∧ Y ≠ w2.heap.size)
    (fun z a' _ A A' row h hg hr => ?own) ?assign ?body ?done
  case own =>
    obtain ⟨Y, e, hY', hne⟩ := h
    refine ⟨Y, e, (hg.block Y (heap_lt0 hY') (fun e => ?_)).trans hY', hne⟩
    obtain ⟨-, o, ho, hc⟩ := hr Y e.symm
    rw [hY'] at ho
    cases ho
    cases hc
  case assign =>
    rintro l' pre z W' K hl' ⟨⟨v, hv, hrow, -⟩, hB⟩ hK
    have hFz : Fr (fun _ => False) W' (W'.alloc (.cells #[vI z.1, vI z.2.1, vI z.2.2] 51)) := Fr.alloc (Fr.refl _ W') _
    have hsz := hB.size
    gi_wp2
    exact hK _ _ ((KeepsOthers.alloc W' _).from _) ⟨KpA.ofFr hFz (by omega), fun k o hk _ _ => (hFz.block k (heap_lt0 hk) (fun e => e)).trans hk⟩ ⟨⟨v, hv.alloc _, hrow.alloc _, trivial⟩, hB.trans (KpA.ofFr hFz (by omega)).below⟩ ⟨_, rfl, heap_new0 W' _, by have := hv.lt; omega⟩
  case body =>
    rintro l' pre z a' W' hl' ⟨⟨v, hv, hrow, -⟩, hB⟩ ⟨Y, rfl, hYb, hne⟩ hlen
    have hcv := hv.cell
    have z0 : W'.cell? ⟨Y, 0, none⟩ = some (vI z.1) := by rw [cell_of0 hYb]; rfl
    have z1 : W'.cell? ⟨Y, 1, none⟩ = some (vI z.2.1) := by rw [cell_of0 hYb]; rfl
    have z2 : W'.cell? ⟨Y, 2, none⟩ = some (vI z.2.2) := by rw [cell_of0 hYb]; rfl
    have hsz := hB.size
    have hmx : pre.length + 1 ≤ maxLen := by unfold maxLen; omega
    have hnews : ∀ j u, [vI z.1, vI z.2.1, vI z.2.2][j]? = some u → (W'.alloc (.cells #[vI z.1, vI z.2.1, vI z.2.2] 51)).cell? ((⟨W'.heap.size, 0, none⟩ : Addr).add j) = some u :=
      World.news_of_block (cs := #[vI z.1, vI z.2.1, vI z.2.2]) (heap_new0 W' _)
    gi_wp2_with (gi_at_builtin; refine wpListIn_append_own _ rfl _ _ 31 rfl w2.heap.size 51 i0 (.agg #[vI 0, vI 0, vI 0]) 3 24 under36 hi hz0 hz1 hz2 rfl (by decide) _ _ _ rfl (hrow.alloc _) ⟨W'.heap.size, 0, none⟩ 1 1 [vI z.1, vI z.2.1, vI z.2.2] rfl rfl hnews (by simp [Value.oneCell']) hmx (by omega) (by simp; omega) ?_; intro v' w1 hown' hgrow _; obtain ⟨g', cap', rfl⟩ := ownsRow_succ hown'; obtain ⟨hv1, hv2, hr2, hk2, hb2⟩ := hv.appended (by decide) hrow (by omega) (Nat.le_refl _) hown' hgrow; have hc1 := hv1.cell; have hf1 := hv1.frozen)
    exact ⟨hk2.from _, appended_kpB hv hrow hgrow hk2 hb2, ⟨_, hv2, by simpa using hr2, trivial⟩, hB.trans hb2⟩
  case done =>
    rintro D xs W' hDl rfl ⟨⟨v, hv, hrow, -⟩, hB⟩ hD
    have hcv := hv.cell
    gi_wp2
    refine ⟨by simp, .inl ⟨_, _, rfl, run_takeDeferred hD, ?_⟩⟩
    have hE : ((List.range 1).flatMap fun _ => retE 1 1 [0]) = [((1 : Int), (2 : Int), (0 : Int))] := by kernel_rfl
    rw [hE] at hrow
    have hrow2 : (W'.putObj D (.deferred none)).ownsRow w.heap.size 51 3 v 1 [vI 1, vI 2, vI 0] := World.ownsRow.mono (ownsRow_putObj hrow _ hD rfl) hw2
    have hFD : Fr (fun _ => False) w (W'.putObj D (.deferred none)) := by
      have hb : Below w.heap.size w W' := ⟨hB.os.trans (hFw.trans hF3).os, hB.tape.trans (hFw.trans hF3).tape, hB.output.trans (hFw.trans hF3).output, Nat.le_trans (hFw.trans hF3).size hB.size, fun k hk => (hB.block k (by omega)).trans ((hFw.trans hF3).block k hk (fun e => e))⟩
      have hg := grownBy_putObj' W' D (.deferred none)
      exact ⟨hg.os.trans hb.os, hg.tape.trans hb.tape, hg.output.trans hb.output, Nat.le_trans hb.size hg.size, fun k hk _ => (hg.block k (Nat.lt_of_lt_of_le hk hb.size) (fun e => by cases e; omega)).trans (hb.block k hk)⟩
    exact ⟨_, results_tmp2 rfl _ _ _, v, rfl, hrow2, hFD⟩
end Go.Proofs.YtlmlmhinbkcpoaaGreatDoor
namespace Go.Proofs.YtlmlmhinbkcpoaaGreatDoor
open Go.RowKit (wrap32 wrap64)
set_option linter.unusedVariables false
set_option linter.unusedSimpArgs false
set_option maxRecDepth 100000
set_option maxHeartbeats 2000000
theorem edges_one (H : Nat) (sa : Option Addr) (sc : Nat) (w : World) (h : P0 w H) (hT : Tab w) (hR : RowsT w) :
    Calls Tryz.prog 7 #[.agg #[vI 0, .slice (some ⟨H + 2, 0, none⟩) 1 1], vI 0, .slice sa 1 sc] w fun e w' => ∃ v, e = .returned (.tuple #[v, vI 0]) ∧ w'.ownsRow w.heap.size 51 3 v 1 [vI 1, vI 2, vI 0] ∧ Fr (fun _ => False) w w' :=
  callsIn_wide.1 (edgesF_in 6 (by omega) H sa sc w h hT hR)
theorem RowsT.stay {w w' : World} (h : RowsT w) (f : Fr (fun _ => False) w w') (h0 : 0 < w.heap.size) : RowsT w' :=
  ⟨(f.cell h0 (fun e => e)).trans h.1, (f.cell h0 (fun e => e)).trans h.2.1, (f.cell h0 (fun e => e)).trans h.2.2.1, (f.cell h0 (fun e => e)).trans h.2.2.2⟩
theorem edges_cells {w2 : World} {B : Nat} {v2 : Value} {xs : List Value} (h : w2.ownsRow B 51 3 v2 1 xs) : ∃ g cap, v2 = .slice (some ⟨g, 0, none⟩) 1 cap ∧ ∀ o u, xs[o]? = some u → w2.cell? ⟨g, o, none⟩ = some u := by
  rcases h.2 with ⟨-, e⟩ | ⟨g, cap, cur, e, -, h2, -, -, h5, h6⟩
  · omega
  · refine ⟨g, cap, e, fun o u hu => ?_⟩
    rw [cell_of0 h2, ← Array.getElem?_toList]
    have hl := (List.getElem?_eq_some_iff.1 hu).1
    have h1 := h.1
    rw [← h6, List.getElem?_take_of_lt (by omega)] at hu
    exact hu
theorem make25 (w : World) : (Instr.makeSlice 25 (.int .i64 1) (.int .i64 1)).run Tryz.prog w = .ok (.slice (some ⟨w.heap.size, 0, none⟩) 1 1) (w.alloc (.cells (madeCells #[.slice none 0 0, .slice none 0 0] (1 * 2)) 43)) := by
  have := run_make_of 25 43 (.agg #[.slice none 0 0, .slice none 0 0]) 2 48 (by kernel_rfl) (by kernel_rfl) (by kernel_rfl) (by kernel_rfl) 1 (by omega) (by omega) w
  exact this
theorem works_any (w : World) (hT : Tab w) (hR : RowsT w) : Calls Tryz.prog 4 #[] w fun e w' => e = .returned (.bool true) ∧ Fr (fun _ => False) w w' := by
  have hmk := make25
  obtain ⟨wp, hwp⟩ : ∃ wp, wp = (((w.alloc (.cells #[vI 0] 3)).alloc (oZi w.heap.size)).alloc (oZf (w.heap.size + 1))).alloc (.cells #[vI 0, .slice (some ⟨w.heap.size + 2, 0, none⟩) 1 1] 24) := ⟨_, rfl⟩
  have HWP : Hd (wp = (((w.alloc (.cells #[vI 0] 3)).alloc (oZi w.heap.size)).alloc (oZf (w.heap.size + 1))).alloc (.cells #[vI 0, .slice (some ⟨w.heap.size + 2, 0, none⟩) 1 1] 24)) := hwp
  have hFp : Fr (fun _ => False) w wp := by rw [hwp]; exact Fr.alloc (Fr.alloc (Fr.alloc (Fr.alloc (Fr.refl _ w) _) _) _) _
  have hP : P0 wp w.heap.size := by
    rw [hwp]
    refine ⟨?_, ?_, ?_⟩
    · rw [Go.RowKit.Below.heap_alloc _ _ _ (by simp <;> omega), Go.RowKit.Below.heap_alloc _ _ _ (by simp <;> omega), Go.RowKit.Below.heap_alloc _ _ _ (by simp)]; exact heap_new0 w _
    · have := heap_new0 (w.alloc (.cells #[vI 0] 3)) (oZi w.heap.size)
      rw [World.size_alloc] at this
      rw [Go.RowKit.Below.heap_alloc _ _ _ (by simp <;> omega), Go.RowKit.Below.heap_alloc _ _ _ (by simp)]; exact this
    · have := heap_new0 ((w.alloc (.cells #[vI 0] 3)).alloc (oZi w.heap.size)) (oZf (w.heap.size + 1))
      rw [World.size_alloc, World.size_alloc] at this
      rw [Go.RowKit.Below.heap_alloc _ _ _ (by simp)]; exact this
  have hb : wp.heap[w.heap.size + 3]? = some (.cells #[vI 0, .slice (some ⟨w.heap.size + 2, 0, none⟩) 1 1] 24) := by
    have := heap_new0 (((w.alloc (.cells #[vI 0] 3)).alloc (oZi w.heap.size)).alloc (oZf (w.heap.size + 1))) (.cells #[vI 0, .slice (some ⟨w.heap.size + 2, 0, none⟩) 1 1] 24)
    rw [World.size_alloc, World.size_alloc, World.size_alloc] at this
    rw [hwp]; exact this
  obtain ⟨X, hX⟩ : ∃ X, X = w.heap.size := ⟨_, rfl⟩
  have HX : Hd (X = w.heap.size) := hX
  rw [← hX] at hb hP
  have HP : Hd (P0 wp X) := hP
  have HF : Hd (Fr (fun _ => False) w wp) := hFp
  have HT : Hd (Tab wp) := hT.stay hFp
  have HR : Hd (RowsT wp) := hR.stay hFp (by have := hT.lt; omega)
  have p0 : wp.cell? ⟨X + 3, 0, none⟩ = some (vI 0) := by rw [cell_of0 hb]; rfl
  have p1 : wp.cell? ⟨X + 3, 1, none⟩ = some (.slice (some ⟨X + 2, 0, none⟩) 1 1) := by rw [cell_of0 hb]; rfl
  have hbl := heap_lt0 hb
  have ne1 : X + 3 ≠ wp.heap.size := by omega
  have ne2 : wp.heap.size ≠ X + 3 := by omega
  clear hwp hFp hP hX hb
  go_enter Tryz.func4, Tryz.ntmps4
  go_upto_region 2 with fail
  rw [← HWP.out, ← HX.out]
  clear HWP
  go_cut [2, 3] (fun x2 x3 wx => ∃ g cap, x2 = .slice (some ⟨g, 0, none⟩) 1 cap ∧ x3 = vI 0 ∧ Hd (wx.cell? ⟨g, 0, none⟩ = some (vI 1) ∧ wx.cell? ⟨g, 1, none⟩ = some (vI 2) ∧ wx.cell? ⟨g, 2, none⟩ = some (vI 0)) ∧ Hd (Fr (fun _ => False) wp wx))
  case first =>
    go_region_with ((
      go_at_call 7
      refine (show Calls Tryz.prog 7 #[.agg #[vI 0, .slice (some ⟨X + 2, 0, none⟩) 1 1], vI 0, .slice (some ⟨wp.heap.size, 0, none⟩) 1 1] (wp.alloc (.cells (madeCells #[.slice none 0 0, .slice none 0 0] (1 * 2)) 43)).drew _ from edges_one X _ 1 _ (HP.out.fr (Fr.alloc (Fr.refl _ wp) _).drew) (HT.out.stay (Fr.alloc (Fr.refl _ wp) _).drew) (HR.out.stay (Fr.alloc (Fr.refl _ wp) _).drew (by have := HT.out.lt; omega))).mono ?_
      rintro e w2 ⟨v2, rfl, hrow, hF2⟩
      obtain ⟨g, cap, ev, q⟩ : ∃ g cap, v2 = .slice (some ⟨g, 0, none⟩) 1 cap ∧ ∀ o u, [vI 1, vI 2, vI 0][o]? = some u → w2.cell? ⟨g, o, none⟩ = some u := edges_cells hrow
      have HRW : Hd (w2.cell? ⟨g, 0, none⟩ = some (vI 1) ∧ w2.cell? ⟨g, 1, none⟩ = some (vI 2) ∧ w2.cell? ⟨g, 2, none⟩ = some (vI 0)) := ⟨q 0 _ rfl, q 1 _ rfl, q 2 _ rfl⟩
      subst ev
      clear q
      have HF2 : Hd (Fr (fun _ => False) wp w2) := (Fr.alloc (Fr.refl _ wp) _).drew.trans hF2
      clear hrow hF2))
    all_goals
      go_wp2_with fail
      go_meet
      exact ⟨_, _, rfl, rfl, HRW.out, HF2.out⟩
  case rest =>
    obtain ⟨g, cap, rfl, rfl, HRW, HF2⟩ := hcut
    have q0 := HRW.out.1
    have q1 := HRW.out.2.1
    have q2 := HRW.out.2.2
    clear HRW
    go_wp2_with fail
    go_ret
    exact ⟨rfl, HF.out.trans HF2.out⟩
end Go.Proofs.YtlmlmhinbkcpoaaGreatDoor
