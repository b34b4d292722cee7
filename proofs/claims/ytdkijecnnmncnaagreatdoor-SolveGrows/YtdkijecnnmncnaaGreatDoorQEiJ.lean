import Derived.Test.YtdkijecnnmncnaaGreatDoorQQlJ
namespace Go.Proofs.YtdkijecnnmncnaaGreatDoor
open Go.RowKit Go.Shelf
set_option linter.unusedVariables false
set_option linter.unusedSimpArgs false
set_option maxRecDepth 100000
set_option maxHeartbeats 8000000
attribute [local go_sem] Oper.semAt_some
theorem flat_max {α : Type} (F : Nat → List α) (B : Nat) : ∀ (k : Nat), (∀ i, i < k → (F i).length ≤ B) → ((List.range k).flatMap F).length ≤ k * B
 | 0, _ => by simp
 | k + 1, h => by
   rw [flat_succ, List.length_append, Nat.add_mul]
   have h1 := flat_max F B k (fun i hi => h i (by omega))
   have h2 := h k (by omega)
   omega
theorem edgI_len {fs : List PF} {ss : List PS} {f : PF} (hf : FunR fs f) (ht : toldX fs ss f.code = true) (hls : ss.length = fs.length) (cell : Int) (c : PI) (hc : c ∈ f.code) : (edgI ss f.R f.V cell c).length ≤ 40 := by
 unfold edgI
 split
 ·rename_i h15
  obtain ⟨k1, -⟩ := hf.ret _ hc h15
  have := hf.R
  unfold retE
  simp
  omega
 ·split
  ·rename_i h11
   obtain ⟨q, hq, hqf, p1, p2, a1, a2, -, -⟩ := hf.call _ hc h11
   have hqs : q < ss.length := by omega
   have hfit : fitsX ss[q] fs[q].P fs[q].R = true := by
    have := List.all_eq_true.1 ht _ hc
    unfold fitI at this
    rw [if_pos h11, hq] at this
    simpa [hqf, hqs] using this
   obtain ⟨l1, l2, l3, -, -⟩ := fits_len hfit
   have es : ss.getD c.n.toNat dPS = ss[q] := by rw [hq]; simp [hqs]
   rw [es]
   have h1 : (callT f.R f.V c.args c.rets ss[q].H ss[q].R c.args.length).length ≤ c.args.length * 5 := by
    unfold callT
    refine flat_max _ 5 _ (fun i hi => ?_)
    unfold oneE
    rw [List.length_append]
    have e1 : (hE f.R f.V (c.args[i]?.getD 0) (ss[q].H[i]?.getD 0)).length ≤ 1 := by unfold hE; split <;> simp
    have e2 : (gE f.R f.V (c.args[i]?.getD 0) c.rets (ss[q].R[i]?.getD []) (ss[q].R[i]?.getD []).length).length ≤ 4 := by
     unfold gE
     refine Nat.le_trans (flat_max _ 1 _ (fun j hj => ?_)) ?_
     ·unfold rE; split <;> simp
     ·have hi' : i < ss[q].R.length := by omega
      have := l3 _ (List.getElem_mem hi')
      simp [hi']
      omega
    omega
   omega
  ·split <;> simp
theorem edgX_len {fs : List PF} {ss : List PS} {f : PF} (hf : FunR fs f) (ht : toldX fs ss f.code = true) (hls : ss.length = fs.length) : (edgX ss f).length ≤ 163840 := by
 unfold edgX
 have h1 := hf.len
 refine Nat.le_trans (flat_max _ 40 _ (fun j hj => ?_)) (by omega)
 have e : f.code.getD j dPI = f.code[j] := by simp [hj]
 rw [e]
 exact edgI_len hf ht hls _ _ (List.getElem_mem hj)
theorem RowsA.stay {w w' : World} (h : RowsA w) (f : Fr (fun _ => False) w w') (h0 : 0 < w.heap.size) : RowsA w' := fun op ho => by
 obtain ⟨a, b, c, d⟩ := h op ho
 exact ⟨(f.cell h0 (fun e => e)).trans a, (f.cell h0 (fun e => e)).trans b, (f.cell h0 (fun e => e)).trans c, (f.cell h0 (fun e => e)).trans d⟩
theorem edges_ok_in (n : Nat) (hn : 6 ≤ n) (G : Int) (fv sv : Value) (fs : List PF) (ss : List PS) (i : Nat) (hi : i < fs.length) (w : World) (h1 : FA w fv fs) (h2 : SsA w sv ss) (hls : ss.length = fs.length) (b1 : FineP fs) (b2 : FineS ss) (hT : Tab w) (hR : RowsA w)
 (hck : checkP G (aloneP fs fs[i]) = 0) (htl : toldX fs ss fs[i].code = true) :
 CallsIn Fence.wide n Tryz.prog 44 #[.agg #[vI G, fv], vI (i : Int), sv] w fun e w' => ∃ v, e = .returned (.tuple #[v, vI 0]) ∧ w'.ownsRow w.heap.size 140 3 v (edgX ss fs[i]).length ((edgX ss fs[i]).flatMap edC) ∧ Fr (fun _ => False) w w' := by
 obtain ⟨i0, hi0, hz0, hz1, hz2⟩ := info_parts info47
 have hfr := right_ok hck
 have hlen := edgX_len hfr htl hls
 have hra := right_any G fv fs i hi (w.alloc (.cells #[vI G, fv] 24)) (h1.stay (Fr.alloc (Fr.refl _ w) _)) b1 (hT.stay (Fr.alloc (Fr.refl _ w) _))
 rw [hck] at hra
 have HTA : Hd (∀ w1, Fr (fun _ => False) w w1 → Calls Tryz.prog 86 #[.agg #[vI G, fv], vI (i : Int), sv] w1 fun e w' => e = .returned (.bool true) ∧ Fr (fun _ => False) w1 w') := fun w1 hF => by
  have := told_any G fv sv fs ss i hi w1 (h1.stay hF) (h2.stay hF) hls b1 b2 (fun c hc e => by
   obtain ⟨q, hq, hqf, -⟩ := hfr.call c hc e
   omega)
  rw [htl] at this
  exact this
 have H1 : Hd (FA w fv fs) := h1
 have H2 : Hd (SsA w sv ss) := h2
 obtain ⟨fa, fc, efv, hfs⟩ := h1
 obtain ⟨fk, fo, efa, hfk, hfc⟩ := hfs (by intro e; rw [e] at hi; simp at hi)
 obtain ⟨cv, f0, f1, f2, f3, hcv⟩ := hfc i hi
 obtain ⟨sa, sc, esv, -⟩ := h2
 subst efa efv esv
 have HCV : Hd (CA w cv fs[i].code) := hcv
 obtain ⟨ca, cc, ecv, -⟩ := hcv
 subst ecv
 have hi1 : (0 : Int) ≤ i := by omega
 have hi2 : (i : Int) < fs.length := by omega
 have hd1 : decide ((i : Int) < 0) = false := by simp
 have hd2 : decide ((i : Int) ≥ fs.length) = false := by simp; omega
 have hd3 : decide ((fs.length : Int) ≤ i) = false := by simp; omega
 have hd4 : ((ss.length : Int) != (fs.length : Int)) = false := by simp [hls]
 have hd5 : ((ss.length : Int) == (fs.length : Int)) = true := by simp [hls]
 have hd6 : decide (fs.length ≤ i) = false := by simp; omega
 have HLS : Hd (ss.length = fs.length) := hls
 have HFR : Hd (FunR fs fs[i]) := hfr
 have HTL : Hd (toldX fs ss fs[i].code = true) := htl
 clear hls hfs hfc hck htl hfr b1 b2
 generalize fs[i] = f at *
 have hFa : Fr (fun _ => False) w (w.alloc (.cells #[vI G, .slice (some ⟨fk, fo, none⟩) fs.length fc] 24)) := Fr.alloc (Fr.refl _ w) _
 have ba : (w.alloc (.cells #[vI G, .slice (some ⟨fk, fo, none⟩) fs.length fc] 24)).heap[w.heap.size]? = some (.cells #[vI G, .slice (some ⟨fk, fo, none⟩) fs.length fc] 24) := heap_new0 w _
 refine callsIn_of_wp_marks Tryz.func44 rfl trivial ?_ rfl
 simp only [Tryz.ntmps44, List.size_toArray, List.length_cons, List.length_nil, Nat.reduceAdd, Nat.reduceSub, Array.replicate_succ, Array.replicate_zero, List.push_toArray, List.append_toArray, List.nil_append, List.cons_append]
 gi_wp2_with fail
 refine ⟨trivial, (fun h => by cases h), ?_⟩
 refine (callsIn_wide.2 hra).mono ?_
 rintro e w1 ⟨rfl, hF1⟩
 have b1 : w1.heap[w.heap.size]? = some (.cells #[vI G, .slice (some ⟨fk, fo, none⟩) fs.length fc] 24) := (hF1.block _ (heap_lt0 ba) (fun e => e)).trans ba
 have c0 : w1.cell? ⟨w.heap.size, 0, none⟩ = some (vI G) := by rw [cell_of0 b1]; rfl
 have c1 : w1.cell? ⟨w.heap.size, 1, none⟩ = some (.slice (some ⟨fk, fo, none⟩) fs.length fc) := by rw [cell_of0 b1]; rfl
 gi_wp2_with fail
 refine ⟨trivial, (fun h => by cases h), ?_⟩
 refine (callsIn_wide.2 (HTA.out w1 (hFa.trans hF1))).mono ?_
 rintro e w2 ⟨rfl, hF2⟩
 have hFw : Fr (fun _ => False) w w2 := (hFa.trans hF1).trans hF2
 have b2 : w2.heap[w.heap.size]? = some (.cells #[vI G, .slice (some ⟨fk, fo, none⟩) fs.length fc] 24) := (hF2.block _ (heap_lt0 b1) (fun e => e)).trans b1
 clear c0 c1 b1 ba hF1 hF2 hFa hra
 obtain ⟨w3, hw3⟩ : ∃ w3, w3 = w2.alloc (.cells #[.slice none 0 0] 85) := ⟨_, rfl⟩
 have hF3 : Fr (fun _ => False) w2 w3 := by rw [hw3]; exact Fr.alloc (Fr.refl _ w2) _
 have b3 : w3.heap[w.heap.size]? = some (.cells #[vI G, .slice (some ⟨fk, fo, none⟩) fs.length fc] 24) := (hF3.block _ (heap_lt0 b2) (fun e => e)).trans b2
 have c1 : (w2.alloc (.cells #[.slice none 0 0] 85)).cell? ⟨w.heap.size, 1, none⟩ = some (.slice (some ⟨fk, fo, none⟩) fs.length fc) := by rw [← hw3, cell_of0 b3]; rfl
 have hFw3 := hFw.trans hF3
 have g0 : (w2.alloc (.cells #[.slice none 0 0] 85)).cell? ⟨fk, fo + i * 4, none⟩ = some (vI f.P) := by rw [← hw3]; exact (hFw3.cell hfk (fun h => h)).trans f0
 have g1 : (w2.alloc (.cells #[.slice none 0 0] 85)).cell? ⟨fk, fo + i * 4 + 1, none⟩ = some (vI f.R) := by rw [← hw3]; exact (hFw3.cell hfk (fun h => h)).trans f1
 have g2 : (w2.alloc (.cells #[.slice none 0 0] 85)).cell? ⟨fk, fo + i * 4 + 2, none⟩ = some (vI f.V) := by rw [← hw3]; exact (hFw3.cell hfk (fun h => h)).trans f2
 have g3 : (w2.alloc (.cells #[.slice none 0 0] 85)).cell? ⟨fk, fo + i * 4 + 3, none⟩ = some (.slice ca f.code.length cc) := by rw [← hw3]; exact (hFw3.cell hfk (fun h => h)).trans f3
 have hmf : ∀ (fn : Fn) (first cap : Array Value) (w : World), (Instr.makeFunc fn first cap).run Tryz.prog w = .ok (.func fn first cap) w := fun _ _ _ _ => rfl
 gi_wp2_with fail
 clear c1 g0 g1 g2 g3 f0 f1 f2 f3 hd1 hd2 hd3 hd4 hd5 hd6
 have hT1 := hT.lt
 have hRT : RowsA w3 := hR.stay hFw3 (by omega)
 have hw2 : w.heap.size ≤ w2.heap.size := hFw.size
 have hs3 : w3.heap.size = w2.heap.size + 1 := by rw [hw3]; simp
 have hbox : Boxed w3 w2.heap.size 85 (.slice none 0 0) := by rw [hw3]; exact Boxed.new w2 85 _
 obtain ⟨p, hp1, hp2⟩ := HCV.out.ivs
 have hlc := HFR.out.len
 have hseq := edges_seq (n - 1) (by omega) w2.heap.size f.P f.R f.V ca f.code.length cc sa ss.length sc (ivs f.code p) (fun j => edgI ss f.R f.V (clX f.R f.V f.code j) (f.code.getD j dPI)) (clX f.R f.V f.code) (by omega) w3 (by omega) rfl (fun j _ => rfl) (fun hm => by
  obtain ⟨ck, co, e1, e2, e3⟩ := hp1 hm
  exact ⟨ck, co, e1, by omega, fun j hj o ho => (hFw3.cell e2 (fun h => h)).trans (e3 j hj o ho)⟩) (fun j hj => given_any HFR.out HTL.out HLS.out hFw3 hw2 (by omega) (by omega) hRT H2.out hp2 f.P j hj _)
 rw [← hw3]
 have hE : ((List.range f.code.length).flatMap fun j => edgI ss f.R f.V (clX f.R f.V f.code j) (f.code.getD j dPI)) = edgX ss f := rfl
 rw [hE] at hseq
 refine wpIn_rangeC rfl (by omega) (gf := 87) (fst := #[.agg #[vI f.P, vI f.R, vI f.V, .slice ca f.code.length cc, .slice sa ss.length sc]]) (lb := #[]) rfl trivial (enters_of Tryz.func87 (by kernel_rfl) rfl) hseq (fun _ _ _ _ h1 h2 => h1.trans h2) (fun l' W' r o' hl' h => KpB.putObj o' h (by omega)) (Below.refl _ _) (fun _ => rfl)
  (fun pre W' => (∃ v, Boxed W' w2.heap.size 85 v ∧ W'.ownsRow w2.heap.size 140 3 v pre.length (pre.flatMap edC) ∧ True) ∧ Below w2.heap.size w3 W')
  (OwnFrom.and (Own.from (holdsRow_own w2.heap.size w2.heap.size 85 140 3 (fun pre : List Ed => pre.length) (fun pre => pre.flatMap edC) (fun _ _ => True)) _) (ownFrom_below (by omega) (by omega)))
  ⟨⟨_, hbox, World.ownsRow_nil _ _ _ _, trivial⟩, Below.refl _ _⟩
  (fun z a' W' => ∃ Y, a' = { tmps := #[.agg #[vI G, .slice (some ⟨fk, fo, none⟩) fs.length fc], vI (i : Int), .slice sa ss.length sc, .pointer (some ⟨w.heap.size, 0, none⟩), undef, undef, .slice none 0 0, .int .i64 0, .pointer (some ⟨w2.heap.size, 0, none⟩), .pointer (some ⟨Y, 0, none⟩), vI (i : Int), .bool false, .bool false, vI (i : Int), .pointer (some ⟨w.heap.size, 1, none⟩), .slice (some ⟨fk, fo, none⟩) fs.length fc, .int .i64 (fs.length : Int), .bool false, .bool false, .bool false, .slice sa ss.length sc, .int .i64 (ss.length : Int), .pointer (some ⟨w.heap.size, 1, none⟩), .slice (some ⟨fk, fo, none⟩) fs.length fc, .int .i64 (fs.length : Int), .bool false, .bool false, .bool false, .agg #[vI G, .slice (some ⟨fk, fo, none⟩) fs.length fc], vI (i : Int), .bool true, .bool false, .bool false, .bool false, .agg #[vI G, .slice (some ⟨fk, fo, none⟩) fs.length fc], vI (i : Int), .slice sa ss.length sc, .bool true, .bool false, .bool false, .pointer (some ⟨w.heap.size, 1, none⟩), .slice (some ⟨fk, fo, none⟩) fs.length fc, vI (i : Int), .pointer (some ⟨fk, fo + i * 4, none⟩), .agg #[vI f.P, vI f.R, vI f.V, .slice ca f.code.length cc], .slice sa ss.length sc, .agg #[vI f.P, vI f.R, vI f.V, .slice ca f.code.length cc, .slice sa ss.length sc], .func (.func 87) #[.agg #[vI f.P, vI f.R, vI f.V, .slice ca f.code.length cc, .slice sa ss.length sc]] #[], .agg #[vI z.1, vI z.2.1, vI z.2.2], undef, undef, undef, undef, undef], defers := [] } ∧ W'.heap[Y]? = some (.cells #[vI z.1, vI z.2.1, vI z.2.2] 140) ∧ Y ≠ w2.heap.size)
  (fun z a' _ A A' row h hg hr => ?own) ?assign ?body ?done
 case own =>
  obtain ⟨Y, e, hY', hne⟩ := h
  refine ⟨Y, e, (hg.block Y (heap_lt0 hY') (fun e => ?_)).trans hY', hne⟩
  obtain ⟨-, o, ho, hc⟩ := hr Y e.symm
  rw [hY'] at ho
  cases ho
  cases hc
 case assign =>
  rintro l' pre z W' K hl' ⟨⟨v, hv, hrow, -⟩, hB⟩ hK
  have hFz : Fr (fun _ => False) W' (W'.alloc (.cells #[vI z.1, vI z.2.1, vI z.2.2] 140)) := Fr.alloc (Fr.refl _ W') _
  have hsz := hB.size
  gi_wp2
  exact hK _ _ ((KeepsOthers.alloc W' _).from _) ⟨KpA.ofFr hFz (by omega), fun k o hk _ _ => (hFz.block k (heap_lt0 hk) (fun e => e)).trans hk⟩ ⟨⟨v, hv.alloc _, hrow.alloc _, trivial⟩, hB.trans (KpA.ofFr hFz (by omega)).below⟩ ⟨_, rfl, heap_new0 W' _, by have := hv.lt; omega⟩
 case body =>
  rintro l' pre z a' W' hl' ⟨⟨v, hv, hrow, -⟩, hB⟩ ⟨Y, rfl, hYb, hne⟩ hlen'
  have hcv := hv.cell
  have z0 : W'.cell? ⟨Y, 0, none⟩ = some (vI z.1) := by rw [cell_of0 hYb]; rfl
  have z1 : W'.cell? ⟨Y, 1, none⟩ = some (vI z.2.1) := by rw [cell_of0 hYb]; rfl
  have z2 : W'.cell? ⟨Y, 2, none⟩ = some (vI z.2.2) := by rw [cell_of0 hYb]; rfl
  have hsz := hB.size
  have hpl : pre.length ≤ 163840 := by omega
  have hmx : pre.length + 1 ≤ maxLen := by unfold maxLen; omega
  have hnews : ∀ j u, [vI z.1, vI z.2.1, vI z.2.2][j]? = some u → (W'.alloc (.cells #[vI z.1, vI z.2.1, vI z.2.2] 140)).cell? ((⟨W'.heap.size, 0, none⟩ : Addr).add j) = some u :=
   World.news_of_block (cs := #[vI z.1, vI z.2.1, vI z.2.2]) (heap_new0 W' _)
  gi_wp2_with (gi_at_builtin; refine wpListIn_append_own _ rfl _ _ 85 rfl w2.heap.size 140 i0 (.agg #[vI 0, vI 0, vI 0]) 3 24 under36 hi0 hz0 hz1 hz2 rfl (by decide) _ _ _ rfl (hrow.alloc _) ⟨W'.heap.size, 0, none⟩ 1 1 [vI z.1, vI z.2.1, vI z.2.2] rfl rfl hnews (by simp [Value.oneCell']) hmx (by omega) (by simp; omega) ?_; intro v' w1 hown' hgrow _; obtain ⟨g', cap', rfl⟩ := ownsRow_succ hown'; obtain ⟨hv1, hv2, hr2, hk2, hb2⟩ := hv.appended (by decide) hrow (by omega) (Nat.le_refl _) hown' hgrow; have hc1 := hv1.cell; have hf1 := hv1.frozen)
  exact ⟨hk2.from _, appended_kpB hv hrow hgrow hk2 hb2, ⟨_, hv2, by simpa using hr2, trivial⟩, hB.trans hb2⟩
 case done =>
  rintro D xs W' hDl rfl ⟨⟨v, hv, hrow, -⟩, hB⟩ hD
  have hcv := hv.cell
  gi_wp2
  refine ⟨by simp, .inl ⟨_, _, rfl, run_takeDeferred hD, ?_⟩⟩
  have hrow2 : (W'.putObj D (.deferred none)).ownsRow w.heap.size 140 3 v (edgX ss f).length ((edgX ss f).flatMap edC) := World.ownsRow.mono (ownsRow_putObj hrow _ hD rfl) hw2
  have hFD : Fr (fun _ => False) w (W'.putObj D (.deferred none)) := by
   have hb : Below w.heap.size w W' := ⟨hB.os.trans hFw3.os, hB.tape.trans hFw3.tape, hB.output.trans hFw3.output, Nat.le_trans hFw3.size hB.size, fun k hk => (hB.block k (by omega)).trans (hFw3.block k hk (fun e => e))⟩
   have hg := grownBy_putObj' W' D (.deferred none)
   exact ⟨hg.os.trans hb.os, hg.tape.trans hb.tape, hg.output.trans hb.output, Nat.le_trans hb.size hg.size, fun k hk _ => (hg.block k (Nat.lt_of_lt_of_le hk hb.size) (fun e => by cases e; omega)).trans (hb.block k hk)⟩
  exact ⟨_, results_tmp2 rfl _ _ _, v, rfl, hrow2, hFD⟩
end Go.Proofs.YtdkijecnnmncnaaGreatDoor
namespace Go.Proofs.YtdkijecnnmncnaaGreatDoor
open Go.RowKit Go.Shelf
set_option linter.unusedVariables false
set_option linter.unusedSimpArgs false
set_option maxRecDepth 100000
set_option maxHeartbeats 4000000
attribute [local go_sem] Oper.semAt_some
def EdgOk (G : Int) (fs : List PF) (F : Int) (ss : List PS) : Prop := ∃ i : Nat, F = i ∧ ∃ h : i < fs.length, ss.length = fs.length ∧ checkP G (aloneP fs fs[i]) = 0 ∧ toldX fs ss fs[i].code = true
theorem edges_bad_in (n : Nat) (hn : 6 ≤ n) (G : Int) (fv sv : Value) (fs : List PF) (ss : List PS) (F : Int) (w : World) (h1 : FA w fv fs) (h2 : SsA w sv ss) (b1 : FineP fs) (b2 : FineS ss) (hT : Tab w) (hbad : ¬ EdgOk G fs F ss) :
 CallsIn Fence.wide n Tryz.prog 44 #[.agg #[vI G, fv], vI F, sv] w fun e w' => e = .returned (.tuple #[.slice none 0 0, vI 1]) ∧ Fr (fun _ => False) w w' := by
 have HRA : Hd (∀ i (hi : i < fs.length), Calls Tryz.prog 85 #[.agg #[vI G, fv], vI (i : Int)] (w.alloc (.cells #[vI G, fv] 24)) fun e w' => e = .returned (.bool (decide (checkP G (aloneP fs fs[i]) = 0))) ∧ Fr (fun _ => False) (w.alloc (.cells #[vI G, fv] 24)) w') := fun i hi =>
  right_any G fv fs i hi (w.alloc (.cells #[vI G, fv] 24)) (h1.stay (Fr.alloc (Fr.refl _ w) _)) b1 (hT.stay (Fr.alloc (Fr.refl _ w) _))
 have HTA : Hd (∀ i (hi : i < fs.length), ss.length = fs.length → checkP G (aloneP fs fs[i]) = 0 → toldX fs ss fs[i].code = false → ∀ w1, Fr (fun _ => False) w w1 → Calls Tryz.prog 86 #[.agg #[vI G, fv], vI (i : Int), sv] w1 fun e w' => e = .returned (.bool false) ∧ Fr (fun _ => False) w1 w') := fun i hi hls hck htl w1 hF => by
  have := told_any G fv sv fs ss i hi w1 (h1.stay hF) (h2.stay hF) hls b1 b2 (fun c hc e => by
   obtain ⟨q, hq, hqf, -⟩ := (right_ok hck).call c hc e
   omega)
  rw [htl] at this
  exact this
 obtain ⟨fa, fc, efv, -⟩ := h1
 obtain ⟨sa, sc, esv, -⟩ := h2
 subst efv esv
 have hFa : Fr (fun _ => False) w (w.alloc (.cells #[vI G, .slice fa fs.length fc] 24)) := Fr.alloc (Fr.refl _ w) _
 have ba : (w.alloc (.cells #[vI G, .slice fa fs.length fc] 24)).heap[w.heap.size]? = some (.cells #[vI G, .slice fa fs.length fc] 24) := heap_new0 w _
 clear hT b1 b2
 refine callsIn_of_wp_marks Tryz.func44 rfl trivial ?_ rfl
 simp only [Tryz.ntmps44, List.size_toArray, List.length_cons, List.length_nil, Nat.reduceAdd, Nat.reduceSub, Array.replicate_succ, Array.replicate_zero, List.push_toArray, List.append_toArray, List.nil_append, List.cons_append]
 by_cases h0 : F < 0
 ·have d1 : decide (F < 0) = true := by simpa using h0
  gi_wp2_with fail
  refine ⟨trivial, ?_⟩
  gi_wp2_with fail
  refine ⟨trivial, ?_⟩
  gi_wp2_with fail
  exact ⟨_, results_tmp2 rfl _ _ _, rfl, hFa⟩
 ·have d1 : decide (F < 0) = false := by simpa using h0
  by_cases hF : F ≥ fs.length
  ·have d2 : decide (F ≥ (fs.length : Int)) = true := by simpa using hF
   have d3 : decide ((fs.length : Int) ≤ F) = true := by simpa using hF
   gi_wp2_with fail
   refine ⟨trivial, ?_⟩
   gi_wp2_with fail
   refine ⟨trivial, ?_⟩
   gi_wp2_with fail
   exact ⟨_, results_tmp2 rfl _ _ _, rfl, hFa⟩
  ·obtain ⟨i, rfl⟩ : ∃ i : Nat, F = i := ⟨F.toNat, by omega⟩
   have hi : i < fs.length := by omega
   have d2 : decide ((i : Int) ≥ (fs.length : Int)) = false := by simpa using hF
   have d3 : decide ((fs.length : Int) ≤ i) = false := by simpa using hF
   have d4 : decide (fs.length ≤ i) = false := by simp; omega
   by_cases hls : ss.length = fs.length
   ·have e1 : ((ss.length : Int) != (fs.length : Int)) = false := by simp [hls]
    have e2 : ((ss.length : Int) == (fs.length : Int)) = true := by simp [hls]
    have HLS : Hd (ss.length = fs.length) := hls
    have HBAD : Hd (¬ EdgOk G fs i ss) := hbad
    have hra := HRA.out i hi
    clear hls hbad HRA
    by_cases hck : checkP G (aloneP fs fs[i]) = 0
    ·have htl : toldX fs ss fs[i].code = false := by
      cases ht : toldX fs ss fs[i].code with
      | false => rfl
      | true => exact absurd ⟨i, rfl, hi, HLS.out, hck, ht⟩ HBAD.out
     have HT2 : Hd (∀ w1, Fr (fun _ => False) w w1 → Calls Tryz.prog 86 #[.agg #[vI G, .slice fa fs.length fc], vI (i : Int), .slice sa ss.length sc] w1 fun e w' => e = .returned (.bool false) ∧ Fr (fun _ => False) w1 w') := HTA.out i hi HLS.out hck htl
     rw [hck] at hra
     clear hck htl HTA
     gi_wp2_with fail
     refine ⟨trivial, (fun h => by cases h), ?_⟩
     refine (callsIn_wide.2 hra).mono ?_
     rintro e w1 ⟨rfl, hF1⟩
     have b1 : w1.heap[w.heap.size]? = some (.cells #[vI G, .slice fa fs.length fc] 24) := (hF1.block _ (heap_lt0 ba) (fun e => e)).trans ba
     have c0 : w1.cell? ⟨w.heap.size, 0, none⟩ = some (vI G) := by rw [cell_of0 b1]; rfl
     have c1 : w1.cell? ⟨w.heap.size, 1, none⟩ = some (.slice fa fs.length fc) := by rw [cell_of0 b1]; rfl
     gi_wp2_with fail
     refine ⟨trivial, (fun h => by cases h), ?_⟩
     refine (callsIn_wide.2 (HT2.out w1 (hFa.trans hF1))).mono ?_
     rintro e w2 ⟨rfl, hF2⟩
     gi_wp2_with fail
     exact ⟨_, results_tmp2 rfl _ _ _, rfl, (hFa.trans hF1).trans hF2⟩
    ·rw [decide_eq_false hck] at hra
     clear hck HTA
     gi_wp2_with fail
     refine ⟨trivial, (fun h => by cases h), ?_⟩
     refine (callsIn_wide.2 hra).mono ?_
     rintro e w1 ⟨rfl, hF1⟩
     gi_wp2_with fail
     refine ⟨trivial, ?_⟩
     gi_wp2_with fail
     exact ⟨_, results_tmp2 rfl _ _ _, rfl, hFa.trans hF1⟩
   ·have e1 : ((ss.length : Int) != (fs.length : Int)) = true := by simp; omega
    have e2 : ((ss.length : Int) == (fs.length : Int)) = false := by simp; omega
    gi_wp2_with fail
    refine ⟨trivial, ?_⟩
    gi_wp2_with fail
    refine ⟨trivial, ?_⟩
    gi_wp2_with fail
    exact ⟨_, results_tmp2 rfl _ _ _, rfl, hFa⟩
def EdgE (G : Int) (fs : List PF) (F : Int) (ss : List PS) (w : World) (e : Ending) (w' : World) : Prop :=
 Fr (fun _ => False) w w' ∧ ((¬ EdgOk G fs F ss ∧ e = .returned (.tuple #[.slice none 0 0, vI 1])) ∨
  ∃ (i : Nat) (h : i < fs.length), F = i ∧ ss.length = fs.length ∧ checkP G (aloneP fs fs[i]) = 0 ∧ toldX fs ss fs[i].code = true ∧ ∃ v, e = .returned (.tuple #[v, vI 0]) ∧ w'.ownsRow w.heap.size 140 3 v (edgX ss fs[i]).length ((edgX ss fs[i]).flatMap edC))
theorem edges_any (G : Int) (fv sv : Value) (fs : List PF) (ss : List PS) (F : Int) (w : World) (h1 : FA w fv fs) (h2 : SsA w sv ss) (b1 : FineP fs) (b2 : FineS ss) (hT : Tab w) (hR : RowsA w) :
 Calls Tryz.prog 44 #[.agg #[vI G, fv], vI F, sv] w (EdgE G fs F ss w) := by
 by_cases hok : EdgOk G fs F ss
 ·obtain ⟨i, rfl, hi, hls, hck, htl⟩ := hok
  refine (callsIn_wide.1 (edges_ok_in 6 (by omega) G fv sv fs ss i hi w h1 h2 hls b1 b2 hT hR hck htl)).mono ?_
  rintro e w' ⟨v, he, ho, hf⟩
  exact ⟨hf, Or.inr ⟨i, hi, rfl, hls, hck, htl, v, he, ho⟩⟩
 ·refine (callsIn_wide.1 (edges_bad_in 6 (by omega) G fv sv fs ss F w h1 h2 b1 b2 hT hok)).mono ?_
  rintro e w' ⟨he, hf⟩
  exact ⟨hf, Or.inl ⟨hok, he⟩⟩
end Go.Proofs.YtdkijecnnmncnaaGreatDoor
namespace Go.Proofs.YtdkijecnnmncnaaGreatDoor
open Go.RowKit Go.Shelf
set_option linter.unusedVariables false
set_option linter.unusedSimpArgs false
def mt (x y : Ed) : Prop := x.1 = y.1 ∧ x.2.1 = y.2.1 ∧ x.2.2 ≤ y.2.2
theorem mt.refl (x : Ed) : mt x x := ⟨rfl, rfl, Int.le_refl _⟩
structure Lwr (s' s : PS) : Prop where
 h : s'.H.length = s.H.length
 hn : ∀ i (h : i < s.H.length) (h' : i < s'.H.length), s'.H[i] ≤ s.H[i]
 r : s'.R.length = s.R.length
 rl : ∀ i (h : i < s.R.length) (h' : i < s'.R.length), s'.R[i].length = s.R[i].length
 rn : ∀ i (h : i < s.R.length) (h' : i < s'.R.length) j (k : j < s.R[i].length) (k' : j < s'.R[i].length), s'.R[i][j] ≤ s.R[i][j]
end Go.Proofs.YtdkijecnnmncnaaGreatDoor
namespace Go.Proofs.YtdkijecnnmncnaaGreatDoor
open Go.RowKit Go.Shelf
set_option linter.unusedVariables false
set_option linter.unusedSimpArgs false
theorem varX_is {R V v : Int} (hR : 0 ≤ R ∧ R ≤ 4) (hV : 0 ≤ V ∧ V ≤ 255) (hv : 0 ≤ v ∧ v < V) : varX R V v = 1 + R + v := by
 unfold varX
 rw [if_pos ⟨hR.1, hV.1, hv.1, hv.2⟩]
 unfold wrap64
 omega
theorem cellX_is {R V : Int} (hR : 0 ≤ R ∧ R ≤ 4) (hV : 0 ≤ V ∧ V ≤ 255) : cellX R V = 1 + R + V := by
 unfold cellX wrap64
 omega
theorem newsX_take (cs : List PI) (j : Nat) (hj : j < cs.length) : newsX (cs.take (j + 1)) = newsX (cs.take j) + (if cs[j].op = 6 then 1 else 0) := by
 rw [List.take_succ_eq_append_getElem hj, newsX_snoc]
theorem newsX_app : ∀ a b : List PI, newsX (a ++ b) = newsX a + newsX b
 | [], b => by simp [newsX]
 | x :: a, b => by
   have := newsX_app a b
   simp only [List.cons_append, newsX]
   omega
theorem newsX_take_le (cs : List PI) (j : Nat) : newsX (cs.take j) ≤ newsX cs := by
 have := newsX_app (cs.take j) (cs.drop j)
 rw [List.take_append_drop] at this
 omega
theorem clX_is {R V : Int} (hR : 0 ≤ R ∧ R ≤ 4) (hV : 0 ≤ V ∧ V ≤ 255) (cs : List PI) (hl : cs.length ≤ 4096) : ∀ j, j ≤ cs.length → clX R V cs j = 1 + R + V + (newsX (cs.take j) : Nat)
 | 0, _ => by
   show cellX R V = _
   rw [cellX_is hR hV]
   simp [newsX]
 | j + 1, h => by
   have ih := clX_is hR hV cs hl j (by omega)
   have e : cs.getD j dPI = cs[j] := by simp [show j < cs.length by omega]
   have h1 := newsX_take cs j (by omega)
   have h2 := newsX_le (cs.take (j + 1))
   have h3 : (cs.take (j + 1)).length ≤ cs.length := by rw [List.length_take]; omega
   show (if (cs.getD j dPI).op = 6 then wrap64 (clX R V cs j + 1) else clX R V cs j) = _
   rw [e, h1, ih]
   split
   ·unfold wrap64
    omega
   ·simp
structure Shp (R V : Int) (N : Nat) (x : Ed) : Prop where
 s1 : 1 + R ≤ x.2.1
 s2 : x.2.1 < 1 + R + V + N
 d1 : 0 ≤ x.1
 d2 : x.1 < 1 + R + V
 k1 : -1 ≤ x.2.2
 k2 : x.2.2 ≤ 3
 c1 : 1 + R + V ≤ x.2.1 → x.2.2 = -1
 c2 : x.2.2 = -1 → 1 + R ≤ x.1
theorem der_is {d : Int} (h : derOk d = true) (h9 : d ≠ 9) : 0 ≤ d ∧ d ≤ 3 := by
 unfold derOk at h
 simp [h9] at h
 exact h
theorem edgI_shp {fs : List PF} {ss : List PS} {f : PF} (hf : FunR fs f) (ht : toldX fs ss f.code = true) (hls : ss.length = fs.length) (N : Nat) (cell : Int) (c : PI) (hc : c ∈ f.code) (hcell : c.op = 6 → 1 + f.R + f.V ≤ cell ∧ cell < 1 + f.R + f.V + N) :
 ∀ x ∈ edgI ss f.R f.V cell c, Shp f.R f.V N x ∧ (1 + f.R + f.V ≤ x.2.1 → c.op = 6 ∧ x.2.1 = cell) := by
 have hR := hf.R
 have hV := hf.V
 have hN : (0 : Int) ≤ N := by omega
 intro x hx
 unfold edgI at hx
 split at hx
 ·rename_i h15
  obtain ⟨k1, k2⟩ := hf.ret _ hc h15
  unfold retE at hx
  obtain ⟨j, hj, rfl⟩ := List.mem_map.1 hx
  have hj := List.mem_range.1 hj
  have hv := k2 _ (List.getElem_mem hj)
  have e : c.args[j]?.getD 0 = c.args[j] := by simp [hj]
  simp only [e]
  rw [varX_is hR hV hv]
  exact ⟨⟨by simp only; omega, by simp only; omega, by simp only; omega, by simp only; omega, by simp, by simp, (fun h => by first | omega | (simp only at h; omega)), fun h => by simp at h⟩, fun h => by first | omega | (simp only at h; omega)⟩
 ·split at hx
  ·rename_i h15 h11
   obtain ⟨q, hq, hqf, p1, p2, a1, a2, va, vr⟩ := hf.call _ hc h11
   have hqs : q < ss.length := by omega
   have hfit : fitsX ss[q] fs[q].P fs[q].R = true := by
    have := List.all_eq_true.1 ht _ hc
    unfold fitI at this
    rw [if_pos h11, hq] at this
    simpa [hqf, hqs] using this
   obtain ⟨l1, l2, l3, l4, l5⟩ := fits_len hfit
   have es : ss.getD c.n.toNat dPS = ss[q] := by rw [hq]; simp [hqs]
   rw [es] at hx
   unfold callT at hx
   obtain ⟨i, hi, hx⟩ := List.mem_flatMap.1 hx
   have hi := List.mem_range.1 hi
   have ha := va _ (List.getElem_mem hi)
   have e1 : c.args[i]?.getD 0 = c.args[i] := by simp [hi]
   have hiH : i < ss[q].H.length := by omega
   have hiR : i < ss[q].R.length := by omega
   have e2 : ss[q].H[i]?.getD 0 = ss[q].H[i] := by simp [hiH]
   have e3 : ss[q].R[i]?.getD [] = ss[q].R[i] := by simp [hiR]
   unfold oneE at hx
   rw [e1, e2, e3] at hx
   rcases List.mem_append.1 hx with hx | hx
   ·unfold hE at hx
    split at hx
    ·cases hx
    ·rename_i h9
     obtain rfl := List.mem_singleton.1 hx
     have hd := der_is (l4 _ (List.getElem_mem hiH)) h9
     rw [varX_is hR hV ha]
     exact ⟨⟨by simp only; omega, by simp only; omega, by simp, by simp only; omega, by simp only; omega, by simp only; omega, fun h => by simp only at h; omega, fun h => by simp only at h; omega⟩, fun h => by first | omega | (simp only at h; omega)⟩
   ·unfold gE at hx
    obtain ⟨j, hj, hx⟩ := List.mem_flatMap.1 hx
    have hj := List.mem_range.1 hj
    have hl := l3 _ (List.getElem_mem hiR)
    have hjr : j < c.rets.length := by omega
    have e4 : ss[q].R[i][j]?.getD 0 = ss[q].R[i][j] := by simp [hj]
    have e5 : c.rets[j]?.getD 0 = c.rets[j] := by simp [hjr]
    rw [e4, e5] at hx
    unfold rE at hx
    split at hx
    ·cases hx
    ·rename_i h9
     obtain rfl := List.mem_singleton.1 hx
     have hd := der_is (l5 _ (List.getElem_mem hiR) _ (List.getElem_mem hj)) h9
     have hb := vr _ (List.getElem_mem hjr)
     rw [varX_is hR hV ha, varX_is hR hV hb]
     exact ⟨⟨by simp only; omega, by simp only; omega, by simp only; omega, by simp only; omega, by simp only; omega, by simp only; omega, fun h => by simp only at h; omega, fun h => by simp only at h; omega⟩, fun h => by first | omega | (simp only at h; omega)⟩
  ·split at hx
   ·rename_i h15 h11 hr
    obtain rfl := List.mem_singleton.1 hx
    have hop := hf.op _ hc
    have hcs : c.op = 1 ∨ c.op = 2 ∨ c.op = 3 ∨ c.op = 4 ∨ c.op = 5 ∨ c.op = 6 ∨ c.op = 7 ∨ c.op = 8 ∨ c.op = 9 ∨ c.op = 10 ∨ c.op = 12 ∨ c.op = 13 ∨ c.op = 14 ∨ c.op = 16 ∨ c.op = 17 := by omega
    have hrr := hf.r _ hc
    have hss := hf.s _ hc
    clear hx
    rcases hcs with e | e | e | e | e | e | e | e | e | e | e | e | e | e | e
    all_goals rw [e] at hr
    all_goals first
     | exact absurd hr (by decide)
     | skip
    all_goals rw [e]
    all_goals simp only [show rowX (Int.toNat 2) = (1, 1, 2, 0) from rfl, show rowX (Int.toNat 5) = (1, 1, 2, -1) from rfl, show rowX (Int.toNat 6) = (1, 1, 3, -1) from rfl, show rowX (Int.toNat 7) = (1, 1, 2, 1) from rfl, show rowX (Int.toNat 8) = (1, 0, 2, 0) from rfl, show rowX (Int.toNat 10) = (1, 0, 2, 0) from rfl, endX]
    ·have h1 := hrr (by omega)
     have h2 := hss (by omega)
     simp [varX_is hR hV h1, varX_is hR hV h2]
     exact ⟨⟨by simp only; omega, by simp only; omega, by simp only; omega, by simp only; omega, by simp, by simp, fun h => by simp only at h; omega, fun h => by simp at h⟩, h2.2⟩
    ·have h1 := hrr (by omega)
     have h2 := hss (by omega)
     simp [varX_is hR hV h1, varX_is hR hV h2]
     exact ⟨⟨by simp only; omega, by simp only; omega, by simp only; omega, by simp only; omega, by simp, by simp, fun h => by simp only at h; omega, fun h => by simp only; omega⟩, h2.2⟩
    ·have h1 := hrr (by omega)
     have h2 := hcell e
     simp [varX_is hR hV h1]
     exact ⟨by simp only; omega, by simp only; omega, by simp only; omega, by simp only; omega, by simp, by simp, fun h => rfl, fun h => by simp only; omega⟩
    ·have h1 := hrr (by omega)
     have h2 := hss (by omega)
     simp [varX_is hR hV h1, varX_is hR hV h2]
     exact ⟨⟨by simp only; omega, by simp only; omega, by simp only; omega, by simp only; omega, by simp, by simp, fun h => by simp only at h; omega, fun h => by simp at h⟩, h2.2⟩
    ·have h2 := hss (by omega)
     simp [varX_is hR hV h2]
     exact ⟨⟨by simp only; omega, by simp only; omega, by simp only; omega, by simp only; omega, by simp, by simp, fun h => by simp only at h; omega, fun h => by simp at h⟩, h2.2⟩
    ·have h2 := hss (by omega)
     simp [varX_is hR hV h2]
     exact ⟨⟨by simp only; omega, by simp only; omega, by simp only; omega, by simp only; omega, by simp, by simp, fun h => by simp only at h; omega, fun h => by simp at h⟩, h2.2⟩
   ·cases hx
end Go.Proofs.YtdkijecnnmncnaaGreatDoor
namespace Go.Proofs.YtdkijecnnmncnaaGreatDoor
open Go.RowKit Go.Shelf
set_option linter.unusedVariables false
set_option linter.unusedSimpArgs false
def cnt (l : List Ed) (c : Int) : Nat := (l.filter (fun x => x.2.1 == c)).length
theorem cnt_app (a b : List Ed) (c : Int) : cnt (a ++ b) c = cnt a c + cnt b c := by unfold cnt; rw [List.filter_append, List.length_append]
theorem cnt_snoc (a : List Ed) (x : Ed) (c : Int) : cnt (a ++ [x]) c = cnt a c + (if x.2.1 = c then 1 else 0) := by
 rw [cnt_app]
 congr 1
 unfold cnt
 rw [List.filter_cons]
 by_cases h : x.2.1 = c <;> simp [h]
theorem cnt_none {l : List Ed} {c : Int} (h : ∀ x ∈ l, x.2.1 ≠ c) : cnt l c = 0 := by
 unfold cnt
 rw [List.filter_eq_nil_iff.2 (fun x hx => by simpa using h x hx)]
 rfl
section
variable {fs : List PF} {ss : List PS} {f : PF}
theorem edgI_six (cell : Int) (c : PI) (h : c.op = 6) : edgI ss f.R f.V cell c = [(varX f.R f.V c.r, cell, -1)] := by
 unfold edgI
 rw [if_neg (by omega), if_neg (by omega), h]
 simp only [show rowX (Int.toNat 6) = (1, 1, 3, -1) from rfl, endX]
 simp
theorem edgI_cnt (hf : FunR fs f) (ht : toldX fs ss f.code = true) (hls : ss.length = fs.length) (N : Nat) (cell : Int) (c : PI) (hc : c ∈ f.code) (hcell : c.op = 6 → 1 + f.R + f.V ≤ cell ∧ cell < 1 + f.R + f.V + N) (c0 : Int) (h0 : 1 + f.R + f.V ≤ c0) :
 cnt (edgI ss f.R f.V cell c) c0 = if c.op = 6 ∧ cell = c0 then 1 else 0 := by
 by_cases h6 : c.op = 6
 ·rw [edgI_six cell c h6]
  have := cnt_snoc [] (varX f.R f.V c.r, cell, -1) c0
  rw [List.nil_append] at this
  rw [this]
  simp [h6, cnt]
 ·rw [if_neg (fun h => h6 h.1)]
  refine cnt_none (fun x hx e => ?_)
  have := (edgI_shp hf ht hls N cell c hc hcell x hx).2 (by omega)
  exact h6 this.1
theorem edg_pre (hf : FunR fs f) (ht : toldX fs ss f.code = true) (hls : ss.length = fs.length) : ∀ k, k ≤ f.code.length →
 (∀ x ∈ (List.range k).flatMap (fun j => edgI ss f.R f.V (clX f.R f.V f.code j) (f.code.getD j dPI)), Shp f.R f.V (newsX f.code) x) ∧
 ∀ c0, 1 + f.R + f.V ≤ c0 → cnt ((List.range k).flatMap (fun j => edgI ss f.R f.V (clX f.R f.V f.code j) (f.code.getD j dPI))) c0 = if c0 < 1 + f.R + f.V + (newsX (f.code.take k) : Nat) then 1 else 0
 | 0, _ => by
   refine ⟨fun x hx => by simp at hx, fun c0 h0 => ?_⟩
   rw [if_neg (by simp [newsX]; omega)]
   rfl
 | k + 1, hk => by
   obtain ⟨ih1, ih2⟩ := edg_pre hf ht hls k (by omega)
   have hR := hf.R
   have hV := hf.V
   have hl := hf.len
   have e : f.code.getD k dPI = f.code[k] := by simp [show k < f.code.length by omega]
   have hc : f.code[k] ∈ f.code := List.getElem_mem _
   have hcl := clX_is hR hV f.code (by omega) k (by omega)
   have hn := newsX_take f.code k (by omega)
   have hn2 := newsX_take_le f.code (k + 1)
   have hcell : f.code[k].op = 6 → 1 + f.R + f.V ≤ clX f.R f.V f.code k ∧ clX f.R f.V f.code k < 1 + f.R + f.V + newsX f.code := fun h => by
    rw [if_pos h] at hn
    omega
   rw [flat_succ, e]
   refine ⟨fun x hx => ?_, fun c0 h0 => ?_⟩
   ·rcases List.mem_append.1 hx with hx | hx
    ·exact ih1 x hx
    ·exact (edgI_shp hf ht hls (newsX f.code) _ _ hc hcell x hx).1
   ·rw [cnt_app, ih2 c0 h0, edgI_cnt hf ht hls (newsX f.code) _ _ hc hcell c0 h0, hn, hcl]
    by_cases h6 : f.code[k].op = 6
    ·simp only [h6, if_true, true_and]
     by_cases h1 : c0 < 1 + f.R + f.V + (newsX (f.code.take k) : Nat)
     ·rw [if_pos h1, if_neg (by omega), if_pos (by omega)]
     ·rw [if_neg h1]
      by_cases h2 : 1 + f.R + f.V + (newsX (f.code.take k) : Nat) = c0
      ·rw [if_pos h2, if_pos (by omega)]
      ·rw [if_neg h2, if_neg (by omega)]
    ·simp only [h6, if_false, false_and, Nat.add_zero]
theorem edg_all (hf : FunR fs f) (ht : toldX fs ss f.code = true) (hls : ss.length = fs.length) : (∀ x ∈ edgX ss f, Shp f.R f.V (newsX f.code) x) ∧ ∀ c0 : Int, 1 + f.R + f.V ≤ c0 → c0 < 1 + f.R + f.V + (newsX f.code : Nat) → cnt (edgX ss f) c0 = 1 := by
 obtain ⟨h1, h2⟩ := edg_pre hf ht hls f.code.length (Nat.le_refl _)
 refine ⟨h1, fun c0 k1 k2 => ?_⟩
 have := h2 c0 k1
 rw [List.take_length, if_pos k2] at this
 exact this
end
end Go.Proofs.YtdkijecnnmncnaaGreatDoor
