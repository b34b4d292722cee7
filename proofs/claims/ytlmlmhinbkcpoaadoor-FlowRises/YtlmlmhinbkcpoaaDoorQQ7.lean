import Derived.Test.YtlmlmhinbkcpoaaDoorQQ4
import Derived.Test.YtlmlmhinbkcpoaaDoorQQ5J
namespace Go.Proofs.YtlmlmhinbkcpoaaDoor
open Go.RowKit Go.Shelf
set_option linter.unusedVariables false
set_option linter.unusedSimpArgs false
attribute [local go_sem] Oper.semAt_some

abbrev edC (x : Ed) : List Value := [vI x.1, vI x.2.1, vI x.2.2]
theorem under36 : Tryd.prog.underlying 36 = some (.slice 47) := by kernel_rfl
theorem info47 : (Tryd.prog.info? 47).map (fun i => (i.zero, i.size, i.bytes)) = some (some (.agg #[vI 0, vI 0, vI 0]), 3, 24) := by kernel_rfl

/-- A round that appends to the list keeps what it must. -/
theorem appended_kpB {W w1 : World} {L l : Nat} {v v' : Value} {k : Nat} {xs : List Value} {tmp : Obj} (hv : Boxed W L 36 v) (hrow : W.ownsRow L 47 3 v k xs) (hgrow : (W.alloc tmp).grownBy w1 v.ownBlock) (hko : KeepsOthers W (w1.setCell ⟨L, 0, none⟩ v')) (hbl : Below L W (w1.setCell ⟨L, 0, none⟩ v')) : KpB L l W (w1.setCell ⟨L, 0, none⟩ v') := by
  refine ⟨⟨hbl, fun j cs t hj h1 h2 => ?_⟩, fun j o hj ho _ => hko.same j o hj ho⟩
  have e1 : (W.alloc tmp).heap[j]? = some (.cells cs t) := (Below.heap_alloc W tmp j (heap_lt0 hj)).trans hj
  have e2 : w1.heap[j]? = some (.cells cs t) := by
    refine (hgrow.block j (heap_lt0 e1) (fun e => ?_)).trans e1
    rcases hrow.2 with ⟨rfl, -⟩ | ⟨g, cap, cur, rfl, -, hg, -⟩
    · cases e
    · cases e
      rw [hj] at hg
      injection (Option.some.inj hg) with _ e _
      exact h1 e
  have hne : j ≠ L := fun e => by
    subst e
    rw [show W.heap[j]? = _ from hv] at hj
    injection (Option.some.inj hj) with _ e _
    exact h2 e.symm
  exact (Below.heap_setCell w1 ⟨L, 0, none⟩ v' j hne).trans e2

set_option maxRecDepth 100000 in
set_option maxHeartbeats 4000000 in
theorem edgesF_in (n : Nat) (hn : 6 ≤ n) (H : Nat) (sa : Option Addr) (sc : Nat) (w : World) (h : P0 w H) (hT : Tab w) (hR : RowsT w) :
    CallsIn Fence.wide n Tryd.prog 9 #[.agg #[vI 0, .slice (some ⟨H + 2, 0, none⟩) 1 1], vI 0, .slice sa 1 sc] w fun e w' => ∃ v, e = .returned (.tuple #[v, vI 0]) ∧ w'.ownsRow w.heap.size 47 3 v 1 [vI 1, vI 2, vI 0] ∧ Fr (fun _ => False) w w' := by
  obtain ⟨i0, hi, hz0, hz1, hz2⟩ := info_parts info47
  have hFa : Fr (fun _ => False) w (w.alloc (.cells #[vI 0, .slice (some ⟨H + 2, 0, none⟩) 1 1] 24)) := Fr.alloc (Fr.refl _ w) _
  have ba : (w.alloc (.cells #[vI 0, .slice (some ⟨H + 2, 0, none⟩) 1 1] 24)).heap[w.heap.size]? = some (.cells #[vI 0, .slice (some ⟨H + 2, 0, none⟩) 1 1] 24) := heap_new0 w _
  refine callsIn_of_wp_marks Tryd.func9 rfl trivial ?_ rfl
  simp only [Tryd.ntmps9, List.size_toArray, List.length_cons, List.length_nil, Nat.reduceAdd, Nat.reduceSub, Array.replicate_succ, Array.replicate_zero, List.push_toArray, List.append_toArray, List.nil_append, List.cons_append]
  gi_wp2_with fail
  refine ⟨trivial, (fun h => by cases h), ?_⟩
  refine (callsIn_wide.2 (right_one H (w.alloc (.cells #[vI 0, .slice (some ⟨H + 2, 0, none⟩) 1 1] 24)) (h.fr hFa) (hT.stay hFa))).mono ?_
  rintro e w1 ⟨rfl, hF1⟩
  have b1 : w1.heap[w.heap.size]? = some (.cells #[vI 0, .slice (some ⟨H + 2, 0, none⟩) 1 1] 24) := (hF1.block _ (heap_lt0 ba) (fun e => e)).trans ba
  have c0 : w1.cell? ⟨w.heap.size, 0, none⟩ = some (vI 0) := by rw [cell_of0 b1]; rfl
  have c1 : w1.cell? ⟨w.heap.size, 1, none⟩ = some (.slice (some ⟨H + 2, 0, none⟩) 1 1) := by rw [cell_of0 b1]; rfl
  gi_wp2_with fail
  refine ⟨trivial, (fun h => by cases h), ?_⟩
  refine (callsIn_wide.2 (told_one H sa 1 sc w1 (h.fr (hFa.trans hF1)))).mono ?_
  rintro e w2 ⟨rfl, hF2⟩
  have hFw : Fr (fun _ => False) w w2 := (hFa.trans hF1).trans hF2
  have b2 : w2.heap[w.heap.size]? = some (.cells #[vI 0, .slice (some ⟨H + 2, 0, none⟩) 1 1] 24) := (hF2.block _ (heap_lt0 b1) (fun e => e)).trans b1
  clear c0 c1 b1 ba hF1 hF2 hFa
  obtain ⟨w3, hw3⟩ : ∃ w3, w3 = w2.alloc (.cells #[.slice none 0 0] 36) := ⟨_, rfl⟩
  have hF3 : Fr (fun _ => False) w2 w3 := by rw [hw3]; exact Fr.alloc (Fr.refl _ w2) _
  have b3 : w3.heap[w.heap.size]? = some (.cells #[vI 0, .slice (some ⟨H + 2, 0, none⟩) 1 1] 24) := (hF3.block _ (heap_lt0 b2) (fun e => e)).trans b2
  have c1 : (w2.alloc (.cells #[.slice none 0 0] 36)).cell? ⟨w.heap.size, 1, none⟩ = some (.slice (some ⟨H + 2, 0, none⟩) 1 1) := by rw [← hw3, cell_of0 b3]; rfl
  have hP3 := h.fr (hFw.trans hF3)
  have f0 : (w2.alloc (.cells #[.slice none 0 0] 36)).cell? ⟨H + 2, 0, none⟩ = some (vI 1) := by rw [← hw3, cell_of0 hP3.f]; rfl
  have f1 : (w2.alloc (.cells #[.slice none 0 0] 36)).cell? ⟨H + 2, 1, none⟩ = some (vI 1) := by rw [← hw3, cell_of0 hP3.f]; rfl
  have f2 : (w2.alloc (.cells #[.slice none 0 0] 36)).cell? ⟨H + 2, 2, none⟩ = some (vI 1) := by rw [← hw3, cell_of0 hP3.f]; rfl
  have f3 : (w2.alloc (.cells #[.slice none 0 0] 36)).cell? ⟨H + 2, 3, none⟩ = some (.slice (some ⟨H + 1, 0, none⟩) 1 1) := by rw [← hw3, cell_of0 hP3.f]; rfl
  have hmf : ∀ (fn : Fn) (first cap : Array Value) (w : World), (Instr.makeFunc fn first cap).run Tryd.prog w = .ok (.func fn first cap) w := fun _ _ _ _ => rfl
  gi_wp2_with fail
  clear c1 f0 f1 f2 f3
  have hRT : RowsT w3 := by
    have h0 : 0 < w.heap.size := by have := hT.lt; omega
    have ff := hFw.trans hF3
    exact ⟨(ff.cell h0 (fun e => e)).trans hR.1, (ff.cell h0 (fun e => e)).trans hR.2.1, (ff.cell h0 (fun e => e)).trans hR.2.2.1, (ff.cell h0 (fun e => e)).trans hR.2.2.2⟩
  have hH2 : H + 2 < w.heap.size := heap_lt0 h.f
  have hw2 : w.heap.size ≤ w2.heap.size := hFw.size
  have hs3 : w3.heap.size = w2.heap.size + 1 := by rw [hw3]; simp
  have hT1 := hT.lt
  have hbox : Boxed w3 w2.heap.size 36 (.slice none 0 0) := by rw [hw3]; exact Boxed.new w2 36 _
  have hgiv : Given w2.heap.size (.agg #[vI 1, vI 1, vI 1, .slice (some ⟨H + 1, 0, none⟩) 1 1, .slice sa 1 sc]) (IV.val ⟨15, 0, 0, 0, 0, some ⟨H, 0, none⟩, 1, 1, none, 0, 0⟩) (cellX 1 1) (retE 1 1 [0]) w3 :=
    given_return w2.heap.size 1 1 1 _ 1 1 sa 1 sc 0 0 0 0 (cellX 1 1) [0] (some ⟨H, 0, none⟩) 1 none 0 0 w3 (by simp) (by omega) (by omega) hRT (fun _ => ⟨H, 0, rfl, by omega, fun j hj => by
      have hj : j < 1 := hj
      obtain rfl : j = 0 := by omega
      rw [cell_of0 hP3.a]; rfl⟩)
  have hseq := edges_seq (n - 1) (by omega) w2.heap.size 1 1 1 (some ⟨H + 1, 0, none⟩) 1 1 sa 1 sc (fun _ => ⟨15, 0, 0, 0, 0, some ⟨H, 0, none⟩, 1, 1, none, 0, 0⟩) (fun _ => retE 1 1 [0]) (fun _ => cellX 1 1) (by omega) w3 (by omega) rfl (fun i _ => by simp) (fun _ => ⟨H + 1, 0, rfl, by omega, fun i hi o ho => by
    obtain rfl : i = 0 := by omega
    simp only [Nat.zero_mul, Nat.zero_add]
    rw [cell_of0 hP3.i]⟩) (fun i _ => hgiv)
  rw [← hw3]
  have hlen1 : ((List.range 1).flatMap fun _ => retE 1 1 [0]).length = 1 := by kernel_rfl
  rw [hlen1] at hseq
  refine wpIn_rangeC rfl (by omega) (gf := 30) (fst := #[.agg #[vI 1, vI 1, vI 1, .slice (some ⟨H + 1, 0, none⟩) 1 1, .slice sa 1 sc]]) (lb := #[]) rfl trivial (enters_of Tryd.func30 (by kernel_rfl) rfl) hseq (fun _ _ _ _ h1 h2 => h1.trans h2) (fun l' W' r o' hl' h => KpB.putObj o' h (by omega)) (Below.refl _ _) (fun _ => rfl)
    (fun pre W' => (∃ v, Boxed W' w2.heap.size 36 v ∧ W'.ownsRow w2.heap.size 47 3 v pre.length (pre.flatMap edC) ∧ True) ∧ Below w2.heap.size w3 W')
    (OwnFrom.and (Own.from (holdsRow_own w2.heap.size w2.heap.size 36 47 3 (fun pre : List Ed => pre.length) (fun pre => pre.flatMap edC) (fun _ _ => True)) _) (ownFrom_below (by omega) (by omega)))
    ⟨⟨_, hbox, World.ownsRow_nil _ _ _ _, trivial⟩, Below.refl _ _⟩
    (fun z a' W' => ∃ Y, a' = { tmps := #[.agg #[vI 0, .slice (some ⟨H + 2, 0, none⟩) 1 1], vI 0, .slice sa 1 sc, .pointer (some ⟨w.heap.size, 0, none⟩), undef, undef, .slice none 0 0, .int .i64 0, .pointer (some ⟨w2.heap.size, 0, none⟩), .pointer (some ⟨Y, 0, none⟩), vI 0, .bool false, .bool false, vI 0, .pointer (some ⟨w.heap.size, 1, none⟩), .slice (some ⟨H + 2, 0, none⟩) 1 1, .int .i64 1, .bool false, .bool false, .bool false, .slice sa 1 sc, .int .i64 1, .pointer (some ⟨w.heap.size, 1, none⟩), .slice (some ⟨H + 2, 0, none⟩) 1 1, .int .i64 1, .bool false, .bool false, .bool false, .agg #[vI 0, .slice (some ⟨H + 2, 0, none⟩) 1 1], vI 0, .bool true, .bool false, .bool false, .bool false, .agg #[vI 0, .slice (some ⟨H + 2, 0, none⟩) 1 1], vI 0, .slice sa 1 sc, .bool true, .bool false, .bool false, .pointer (some ⟨w.heap.size, 1, none⟩), .slice (some ⟨H + 2, 0, none⟩) 1 1, vI 0, .pointer (some ⟨H + 2, 0, none⟩), .agg #[vI 1, vI 1, vI 1, .slice (some ⟨H + 1, 0, none⟩) 1 1], .slice sa 1 sc, .agg #[vI 1, vI 1, vI 1, .slice (some ⟨H + 1, 0, none⟩) 1 1, .slice sa 1 sc], .func (.func 30) #[.agg #[vI 1, vI 1, vI 1, .slice (some ⟨H + 1, 0, none⟩) 1 1, .slice sa 1 sc]] #[], .agg #[vI z.1, vI z.2.1, vI z.2.2], undef, undef, undef, undef, undef], defers := [] } ∧ W'.heap[Y]? = some (.cells #[vI z.1, vI z.2.1, vI z.2.2] 47) ∧ Y ≠ w2.heap.size)
    (fun z a' _ A A' row h hg hr => ?own) ?assign ?body ?done
  case own =>
    obtain ⟨Y, e, hY', hne⟩ := h
    refine ⟨Y, e, (hg.block Y (heap_lt0 hY') (fun e => ?_)).trans hY', hne⟩
    obtain ⟨-, o, ho, hc⟩ := hr Y e.symm
    rw [hY'] at ho
    cases ho
    cases hc
  case assign =>
    rintro l' pre z W' K hl' ⟨⟨v, hv, hrow, -⟩, hB⟩ hK
    have hFz : Fr (fun _ => False) W' (W'.alloc (.cells #[vI z.1, vI z.2.1, vI z.2.2] 47)) := Fr.alloc (Fr.refl _ W') _
    have hsz := hB.size
    gi_wp2
    exact hK _ _ ((KeepsOthers.alloc W' _).from _) ⟨KpA.ofFr hFz (by omega), fun k o hk _ _ => (hFz.block k (heap_lt0 hk) (fun e => e)).trans hk⟩ ⟨⟨v, hv.alloc _, hrow.alloc _, trivial⟩, hB.trans (KpA.ofFr hFz (by omega)).below⟩ ⟨_, rfl, heap_new0 W' _, by have := hv.lt; omega⟩
  case body =>
    rintro l' pre z a' W' hl' ⟨⟨v, hv, hrow, -⟩, hB⟩ ⟨Y, rfl, hYb, hne⟩ hlen
    have hcv := hv.cell
    have z0 : W'.cell? ⟨Y, 0, none⟩ = some (vI z.1) := by rw [cell_of0 hYb]; rfl
    have z1 : W'.cell? ⟨Y, 1, none⟩ = some (vI z.2.1) := by rw [cell_of0 hYb]; rfl
    have z2 : W'.cell? ⟨Y, 2, none⟩ = some (vI z.2.2) := by rw [cell_of0 hYb]; rfl
    have hsz := hB.size
    have hmx : pre.length + 1 ≤ maxLen := by unfold maxLen; omega
    have hnews : ∀ j u, [vI z.1, vI z.2.1, vI z.2.2][j]? = some u → (W'.alloc (.cells #[vI z.1, vI z.2.1, vI z.2.2] 47)).cell? ((⟨W'.heap.size, 0, none⟩ : Addr).add j) = some u :=
      World.news_of_block (cs := #[vI z.1, vI z.2.1, vI z.2.2]) (heap_new0 W' _)
    gi_wp2_with (gi_at_builtin; refine wpListIn_append_own _ rfl _ _ 36 rfl w2.heap.size 47 i0 (.agg #[vI 0, vI 0, vI 0]) 3 24 under36 hi hz0 hz1 hz2 rfl (by decide) _ _ _ rfl (hrow.alloc _) ⟨W'.heap.size, 0, none⟩ 1 1 [vI z.1, vI z.2.1, vI z.2.2] rfl rfl hnews (by simp [Value.oneCell']) hmx (by omega) (by simp; omega) ?_; intro v' w1 hown' hgrow _; obtain ⟨g', cap', rfl⟩ := ownsRow_succ hown'; obtain ⟨hv1, hv2, hr2, hk2, hb2⟩ := hv.appended (by decide) hrow (by omega) (Nat.le_refl _) hown' hgrow; have hc1 := hv1.cell; have hf1 := hv1.frozen)
    exact ⟨hk2.from _, appended_kpB hv hrow hgrow hk2 hb2, ⟨_, hv2, by simpa using hr2, trivial⟩, hB.trans hb2⟩
  case done =>
    rintro D xs W' hDl rfl ⟨⟨v, hv, hrow, -⟩, hB⟩ hD
    have hcv := hv.cell
    gi_wp2
    refine ⟨by simp, .inl ⟨_, _, rfl, run_takeDeferred hD, ?_⟩⟩
    have hE : ((List.range 1).flatMap fun _ => retE 1 1 [0]) = [((1 : Int), (2 : Int), (0 : Int))] := by kernel_rfl
    rw [hE] at hrow
    have hrow2 : (W'.putObj D (.deferred none)).ownsRow w.heap.size 47 3 v 1 [vI 1, vI 2, vI 0] := World.ownsRow.mono (ownsRow_putObj hrow _ hD rfl) hw2
    have hFD : Fr (fun _ => False) w (W'.putObj D (.deferred none)) := by
      have hb : Below w.heap.size w W' := ⟨hB.os.trans (hFw.trans hF3).os, hB.tape.trans (hFw.trans hF3).tape, hB.output.trans (hFw.trans hF3).output, Nat.le_trans (hFw.trans hF3).size hB.size, fun k hk => (hB.block k (by omega)).trans ((hFw.trans hF3).block k hk (fun e => e))⟩
      have hg := grownBy_putObj' W' D (.deferred none)
      exact ⟨hg.os.trans hb.os, hg.tape.trans hb.tape, hg.output.trans hb.output, Nat.le_trans hb.size hg.size, fun k hk _ => (hg.block k (Nat.lt_of_lt_of_le hk hb.size) (fun e => by cases e; omega)).trans (hb.block k hk)⟩
    exact ⟨_, results_tmp2 rfl _ _ _, v, rfl, hrow2, hFD⟩

end Go.Proofs.YtlmlmhinbkcpoaaDoor
