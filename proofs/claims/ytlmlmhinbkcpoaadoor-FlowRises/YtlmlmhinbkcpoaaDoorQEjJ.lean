import Derived.Test.YtlmlmhinbkcpoaaDoorQEi
import Derived.Test.YtlmlmhinbkcpoaaDoorQEbJ
import Derived.Test.YtlmlmhinbkcpoaaDoorQLhJ
import Derived.Deep.RegionHeld3
namespace Go.Proofs.YtlmlmhinbkcpoaaDoor
open Go.RowKit Go.Shelf
set_option linter.unusedVariables false
set_option linter.unusedSimpArgs false
attribute [local go_sem] Oper.semAt_some

/-- Does Edges answer edges? -/
def EdgOk (G : Int) (fs : List PF) (F : Int) (ss : List PS) : Prop := ∃ i : Nat, F = i ∧ ∃ h : i < fs.length, ss.length = fs.length ∧ checkP G (aloneP fs fs[i]) = 0 ∧ toldX fs ss fs[i].code = true

set_option maxRecDepth 100000 in
set_option maxHeartbeats 4000000 in
theorem edges_bad_in (n : Nat) (hn : 6 ≤ n) (G : Int) (fv sv : Value) (fs : List PF) (ss : List PS) (F : Int) (w : World) (h1 : FA w fv fs) (h2 : SsA w sv ss) (b1 : FineP fs) (b2 : FineS ss) (hT : Tab w) (hbad : ¬ EdgOk G fs F ss) :
    CallsIn Fence.wide n Tryd.prog 9 #[.agg #[vI G, fv], vI F, sv] w fun e w' => e = .returned (.tuple #[.slice none 0 0, vI 1]) ∧ Fr (fun _ => False) w w' := by
  have HRA : Hd (∀ i (hi : i < fs.length), Calls Tryd.prog 28 #[.agg #[vI G, fv], vI (i : Int)] (w.alloc (.cells #[vI G, fv] 24)) fun e w' => e = .returned (.bool (decide (checkP G (aloneP fs fs[i]) = 0))) ∧ Fr (fun _ => False) (w.alloc (.cells #[vI G, fv] 24)) w') := fun i hi =>
    right_any G fv fs i hi (w.alloc (.cells #[vI G, fv] 24)) (h1.stay (Fr.alloc (Fr.refl _ w) _)) b1 (hT.stay (Fr.alloc (Fr.refl _ w) _))
  have HTA : Hd (∀ i (hi : i < fs.length), ss.length = fs.length → checkP G (aloneP fs fs[i]) = 0 → toldX fs ss fs[i].code = false → ∀ w1, Fr (fun _ => False) w w1 → Calls Tryd.prog 29 #[.agg #[vI G, fv], vI (i : Int), sv] w1 fun e w' => e = .returned (.bool false) ∧ Fr (fun _ => False) w1 w') := fun i hi hls hck htl w1 hF => by
    have := told_any G fv sv fs ss i hi w1 (h1.stay hF) (h2.stay hF) hls b1 b2 (fun c hc e => by
      obtain ⟨q, hq, hqf, -⟩ := (right_ok hck).call c hc e
      omega)
    rw [htl] at this
    exact this
  obtain ⟨fa, fc, efv, -⟩ := h1
  obtain ⟨sa, sc, esv, -⟩ := h2
  subst efv esv
  have hFa : Fr (fun _ => False) w (w.alloc (.cells #[vI G, .slice fa fs.length fc] 24)) := Fr.alloc (Fr.refl _ w) _
  have ba : (w.alloc (.cells #[vI G, .slice fa fs.length fc] 24)).heap[w.heap.size]? = some (.cells #[vI G, .slice fa fs.length fc] 24) := heap_new0 w _
  clear hT b1 b2
  refine callsIn_of_wp_marks Tryd.func9 rfl trivial ?_ rfl
  simp only [Tryd.ntmps9, List.size_toArray, List.length_cons, List.length_nil, Nat.reduceAdd, Nat.reduceSub, Array.replicate_succ, Array.replicate_zero, List.push_toArray, List.append_toArray, List.nil_append, List.cons_append]
  by_cases h0 : F < 0
  · have d1 : decide (F < 0) = true := by simpa using h0
    gi_wp2_with fail
    refine ⟨trivial, ?_⟩
    gi_wp2_with fail
    refine ⟨trivial, ?_⟩
    gi_wp2_with fail
    exact ⟨_, results_tmp2 rfl _ _ _, rfl, hFa⟩
  · have d1 : decide (F < 0) = false := by simpa using h0
    by_cases hF : F ≥ fs.length
    · have d2 : decide (F ≥ (fs.length : Int)) = true := by simpa using hF
      have d3 : decide ((fs.length : Int) ≤ F) = true := by simpa using hF
      gi_wp2_with fail
      refine ⟨trivial, ?_⟩
      gi_wp2_with fail
      refine ⟨trivial, ?_⟩
      gi_wp2_with fail
      exact ⟨_, results_tmp2 rfl _ _ _, rfl, hFa⟩
    · obtain ⟨i, rfl⟩ : ∃ i : Nat, F = i := ⟨F.toNat, by omega⟩
      have hi : i < fs.length := by omega
      have d2 : decide ((i : Int) ≥ (fs.length : Int)) = false := by simpa using hF
      have d3 : decide ((fs.length : Int) ≤ i) = false := by simpa using hF
      have d4 : decide (fs.length ≤ i) = false := by simp; omega
      by_cases hls : ss.length = fs.length
      · have e1 : ((ss.length : Int) != (fs.length : Int)) = false := by simp [hls]
        have e2 : ((ss.length : Int) == (fs.length : Int)) = true := by simp [hls]
        have HLS : Hd (ss.length = fs.length) := hls
        have HBAD : Hd (¬ EdgOk G fs i ss) := hbad
        have hra := HRA.out i hi
        clear hls hbad HRA
        by_cases hck : checkP G (aloneP fs fs[i]) = 0
        · have htl : toldX fs ss fs[i].code = false := by
            cases ht : toldX fs ss fs[i].code with
            | false => rfl
            | true => exact absurd ⟨i, rfl, hi, HLS.out, hck, ht⟩ HBAD.out
          have HT2 : Hd (∀ w1, Fr (fun _ => False) w w1 → Calls Tryd.prog 29 #[.agg #[vI G, .slice fa fs.length fc], vI (i : Int), .slice sa ss.length sc] w1 fun e w' => e = .returned (.bool false) ∧ Fr (fun _ => False) w1 w') := HTA.out i hi HLS.out hck htl
          rw [hck] at hra
          clear hck htl HTA
          gi_wp2_with fail
          refine ⟨trivial, (fun h => by cases h), ?_⟩
          refine (callsIn_wide.2 hra).mono ?_
          rintro e w1 ⟨rfl, hF1⟩
          have b1 : w1.heap[w.heap.size]? = some (.cells #[vI G, .slice fa fs.length fc] 24) := (hF1.block _ (heap_lt0 ba) (fun e => e)).trans ba
          have c0 : w1.cell? ⟨w.heap.size, 0, none⟩ = some (vI G) := by rw [cell_of0 b1]; rfl
          have c1 : w1.cell? ⟨w.heap.size, 1, none⟩ = some (.slice fa fs.length fc) := by rw [cell_of0 b1]; rfl
          gi_wp2_with fail
          refine ⟨trivial, (fun h => by cases h), ?_⟩
          refine (callsIn_wide.2 (HT2.out w1 (hFa.trans hF1))).mono ?_
          rintro e w2 ⟨rfl, hF2⟩
          gi_wp2_with fail
          exact ⟨_, results_tmp2 rfl _ _ _, rfl, (hFa.trans hF1).trans hF2⟩
        · rw [decide_eq_false hck] at hra
          clear hck HTA
          gi_wp2_with fail
          refine ⟨trivial, (fun h => by cases h), ?_⟩
          refine (callsIn_wide.2 hra).mono ?_
          rintro e w1 ⟨rfl, hF1⟩
          gi_wp2_with fail
          refine ⟨trivial, ?_⟩
          gi_wp2_with fail
          exact ⟨_, results_tmp2 rfl _ _ _, rfl, hFa.trans hF1⟩
      · have e1 : ((ss.length : Int) != (fs.length : Int)) = true := by simp; omega
        have e2 : ((ss.length : Int) == (fs.length : Int)) = false := by simp; omega
        gi_wp2_with fail
        refine ⟨trivial, ?_⟩
        gi_wp2_with fail
        refine ⟨trivial, ?_⟩
        gi_wp2_with fail
        exact ⟨_, results_tmp2 rfl _ _ _, rfl, hFa⟩

/-- What Edges answers. -/
def EdgE (G : Int) (fs : List PF) (F : Int) (ss : List PS) (w : World) (e : Ending) (w' : World) : Prop :=
  Fr (fun _ => False) w w' ∧ ((¬ EdgOk G fs F ss ∧ e = .returned (.tuple #[.slice none 0 0, vI 1])) ∨
    ∃ (i : Nat) (h : i < fs.length), F = i ∧ ss.length = fs.length ∧ checkP G (aloneP fs fs[i]) = 0 ∧ toldX fs ss fs[i].code = true ∧ ∃ v, e = .returned (.tuple #[v, vI 0]) ∧ w'.ownsRow w.heap.size 47 3 v (edgX ss fs[i]).length ((edgX ss fs[i]).flatMap edC))
theorem edges_any (G : Int) (fv sv : Value) (fs : List PF) (ss : List PS) (F : Int) (w : World) (h1 : FA w fv fs) (h2 : SsA w sv ss) (b1 : FineP fs) (b2 : FineS ss) (hT : Tab w) (hR : RowsA w) :
    Calls Tryd.prog 9 #[.agg #[vI G, fv], vI F, sv] w (EdgE G fs F ss w) := by
  by_cases hok : EdgOk G fs F ss
  · obtain ⟨i, rfl, hi, hls, hck, htl⟩ := hok
    refine (callsIn_wide.1 (edges_ok_in 6 (by omega) G fv sv fs ss i hi w h1 h2 hls b1 b2 hT hR hck htl)).mono ?_
    rintro e w' ⟨v, he, ho, hf⟩
    exact ⟨hf, Or.inr ⟨i, hi, rfl, hls, hck, htl, v, he, ho⟩⟩
  · refine (callsIn_wide.1 (edges_bad_in 6 (by omega) G fv sv fs ss F w h1 h2 b1 b2 hT hok)).mono ?_
    rintro e w' ⟨he, hf⟩
    exact ⟨hf, Or.inl ⟨hok, he⟩⟩
end Go.Proofs.YtlmlmhinbkcpoaaDoor

namespace Go.Proofs.YtlmlmhinbkcpoaaDoor
open Go.RowKit Go.Shelf
set_option linter.unusedVariables false
set_option linter.unusedSimpArgs false

/-! ### the shape of the edges -/
theorem varX_is {R V v : Int} (hR : 0 ≤ R ∧ R ≤ 4) (hV : 0 ≤ V ∧ V ≤ 255) (hv : 0 ≤ v ∧ v < V) : varX R V v = 1 + R + v := by
  unfold varX
  rw [if_pos ⟨hR.1, hV.1, hv.1, hv.2⟩]
  unfold wrap64
  omega
theorem cellX_is {R V : Int} (hR : 0 ≤ R ∧ R ≤ 4) (hV : 0 ≤ V ∧ V ≤ 255) : cellX R V = 1 + R + V := by
  unfold cellX wrap64
  omega
theorem newsX_take (cs : List PI) (j : Nat) (hj : j < cs.length) : newsX (cs.take (j + 1)) = newsX (cs.take j) + (if cs[j].op = 6 then 1 else 0) := by
  rw [List.take_succ_eq_append_getElem hj, newsX_snoc]
theorem newsX_app : ∀ a b : List PI, newsX (a ++ b) = newsX a + newsX b
  | [], b => by simp [newsX]
  | x :: a, b => by
    have := newsX_app a b
    simp only [List.cons_append, newsX]
    omega
theorem newsX_take_le (cs : List PI) (j : Nat) : newsX (cs.take j) ≤ newsX cs := by
  have := newsX_app (cs.take j) (cs.drop j)
  rw [List.take_append_drop] at this
  omega
theorem clX_is {R V : Int} (hR : 0 ≤ R ∧ R ≤ 4) (hV : 0 ≤ V ∧ V ≤ 255) (cs : List PI) (hl : cs.length ≤ 4096) : ∀ j, j ≤ cs.length → clX R V cs j = 1 + R + V + (newsX (cs.take j) : Nat)
  | 0, _ => by
    show cellX R V = _
    rw [cellX_is hR hV]
    simp [newsX]
  | j + 1, h => by
    have ih := clX_is hR hV cs hl j (by omega)
    have e : cs.getD j dPI = cs[j] := by simp [show j < cs.length by omega]
    have h1 := newsX_take cs j (by omega)
    have h2 := newsX_le (cs.take (j + 1))
    have h3 : (cs.take (j + 1)).length ≤ cs.length := by rw [List.length_take]; omega
    show (if (cs.getD j dPI).op = 6 then wrap64 (clX R V cs j + 1) else clX R V cs j) = _
    rw [e, h1, ih]
    split
    · unfold wrap64
      omega
    · simp
/-- An edge as the document says it is. -/
structure Shp (R V : Int) (N : Nat) (x : Ed) : Prop where
  s1 : 1 + R ≤ x.2.1
  s2 : x.2.1 < 1 + R + V + N
  d1 : 0 ≤ x.1
  d2 : x.1 < 1 + R + V
  k1 : -1 ≤ x.2.2
  k2 : x.2.2 ≤ 3
  c1 : 1 + R + V ≤ x.2.1 → x.2.2 = -1
  c2 : x.2.2 = -1 → 1 + R ≤ x.1
theorem der_is {d : Int} (h : derOk d = true) (h9 : d ≠ 9) : 0 ≤ d ∧ d ≤ 3 := by
  unfold derOk at h
  simp [h9] at h
  exact h
theorem edgI_shp {fs : List PF} {ss : List PS} {f : PF} (hf : FunR fs f) (ht : toldX fs ss f.code = true) (hls : ss.length = fs.length) (N : Nat) (cell : Int) (c : PI) (hc : c ∈ f.code) (hcell : c.op = 6 → 1 + f.R + f.V ≤ cell ∧ cell < 1 + f.R + f.V + N) :
    ∀ x ∈ edgI ss f.R f.V cell c, Shp f.R f.V N x ∧ (1 + f.R + f.V ≤ x.2.1 → c.op = 6 ∧ x.2.1 = cell) := by
  have hR := hf.R
  have hV := hf.V
  have hN : (0 : Int) ≤ N := by omega
  intro x hx
  unfold edgI at hx
  split at hx
  · rename_i h15
    obtain ⟨k1, k2⟩ := hf.ret _ hc h15
    unfold retE at hx
    obtain ⟨j, hj, rfl⟩ := List.mem_map.1 hx
    have hj := List.mem_range.1 hj
    have hv := k2 _ (List.getElem_mem hj)
    have e : c.args[j]?.getD 0 = c.args[j] := by simp [hj]
    simp only [e]
    rw [varX_is hR hV hv]
    exact ⟨⟨by simp only; omega, by simp only; omega, by simp only; omega, by simp only; omega, by simp, by simp, (fun h => by first | omega | (simp only at h; omega)), fun h => by simp at h⟩, fun h => by first | omega | (simp only at h; omega)⟩
  · split at hx
    · rename_i h15 h11
      obtain ⟨q, hq, hqf, p1, p2, a1, a2, va, vr⟩ := hf.call _ hc h11
      have hqs : q < ss.length := by omega
      have hfit : fitsX ss[q] fs[q].P fs[q].R = true := by
        have := List.all_eq_true.1 ht _ hc
        unfold fitI at this
        rw [if_pos h11, hq] at this
        simpa [hqf, hqs] using this
      obtain ⟨l1, l2, l3, l4, l5⟩ := fits_len hfit
      have es : ss.getD c.n.toNat dPS = ss[q] := by rw [hq]; simp [hqs]
      rw [es] at hx
      unfold callT at hx
      obtain ⟨i, hi, hx⟩ := List.mem_flatMap.1 hx
      have hi := List.mem_range.1 hi
      have ha := va _ (List.getElem_mem hi)
      have e1 : c.args[i]?.getD 0 = c.args[i] := by simp [hi]
      have hiH : i < ss[q].H.length := by omega
      have hiR : i < ss[q].R.length := by omega
      have e2 : ss[q].H[i]?.getD 0 = ss[q].H[i] := by simp [hiH]
      have e3 : ss[q].R[i]?.getD [] = ss[q].R[i] := by simp [hiR]
      unfold oneE at hx
      rw [e1, e2, e3] at hx
      rcases List.mem_append.1 hx with hx | hx
      · unfold hE at hx
        split at hx
        · cases hx
        · rename_i h9
          obtain rfl := List.mem_singleton.1 hx
          have hd := der_is (l4 _ (List.getElem_mem hiH)) h9
          rw [varX_is hR hV ha]
          exact ⟨⟨by simp only; omega, by simp only; omega, by simp, by simp only; omega, by simp only; omega, by simp only; omega, fun h => by simp only at h; omega, fun h => by simp only at h; omega⟩, fun h => by first | omega | (simp only at h; omega)⟩
      · unfold gE at hx
        obtain ⟨j, hj, hx⟩ := List.mem_flatMap.1 hx
        have hj := List.mem_range.1 hj
        have hl := l3 _ (List.getElem_mem hiR)
        have hjr : j < c.rets.length := by omega
        have e4 : ss[q].R[i][j]?.getD 0 = ss[q].R[i][j] := by simp [hj]
        have e5 : c.rets[j]?.getD 0 = c.rets[j] := by simp [hjr]
        rw [e4, e5] at hx
        unfold rE at hx
        split at hx
        · cases hx
        · rename_i h9
          obtain rfl := List.mem_singleton.1 hx
          have hd := der_is (l5 _ (List.getElem_mem hiR) _ (List.getElem_mem hj)) h9
          have hb := vr _ (List.getElem_mem hjr)
          rw [varX_is hR hV ha, varX_is hR hV hb]
          exact ⟨⟨by simp only; omega, by simp only; omega, by simp only; omega, by simp only; omega, by simp only; omega, by simp only; omega, fun h => by simp only at h; omega, fun h => by simp only at h; omega⟩, fun h => by first | omega | (simp only at h; omega)⟩
    · split at hx
      · rename_i h15 h11 hr
        obtain rfl := List.mem_singleton.1 hx
        have hop := hf.op _ hc
        have hcs : c.op = 1 ∨ c.op = 2 ∨ c.op = 3 ∨ c.op = 4 ∨ c.op = 5 ∨ c.op = 6 ∨ c.op = 7 ∨ c.op = 8 ∨ c.op = 9 ∨ c.op = 10 ∨ c.op = 12 ∨ c.op = 13 ∨ c.op = 14 ∨ c.op = 16 ∨ c.op = 17 := by omega
        have hrr := hf.r _ hc
        have hss := hf.s _ hc
        clear hx
        rcases hcs with e | e | e | e | e | e | e | e | e | e | e | e | e | e | e
        all_goals rw [e] at hr
        all_goals first
          | exact absurd hr (by decide)
          | skip
        all_goals rw [e]
        all_goals simp only [show rowX (Int.toNat 2) = (1, 1, 2, 0) from rfl, show rowX (Int.toNat 5) = (1, 1, 2, -1) from rfl, show rowX (Int.toNat 6) = (1, 1, 3, -1) from rfl, show rowX (Int.toNat 7) = (1, 1, 2, 1) from rfl, show rowX (Int.toNat 8) = (1, 0, 2, 0) from rfl, show rowX (Int.toNat 10) = (1, 0, 2, 0) from rfl, endX]
        · have h1 := hrr (by omega)
          have h2 := hss (by omega)
          simp [varX_is hR hV h1, varX_is hR hV h2]
          exact ⟨⟨by simp only; omega, by simp only; omega, by simp only; omega, by simp only; omega, by simp, by simp, fun h => by simp only at h; omega, fun h => by simp at h⟩, h2.2⟩
        · have h1 := hrr (by omega)
          have h2 := hss (by omega)
          simp [varX_is hR hV h1, varX_is hR hV h2]
          exact ⟨⟨by simp only; omega, by simp only; omega, by simp only; omega, by simp only; omega, by simp, by simp, fun h => by simp only at h; omega, fun h => by simp only; omega⟩, h2.2⟩
        · have h1 := hrr (by omega)
          have h2 := hcell e
          simp [varX_is hR hV h1]
          exact ⟨by simp only; omega, by simp only; omega, by simp only; omega, by simp only; omega, by simp, by simp, fun h => rfl, fun h => by simp only; omega⟩
        · have h1 := hrr (by omega)
          have h2 := hss (by omega)
          simp [varX_is hR hV h1, varX_is hR hV h2]
          exact ⟨⟨by simp only; omega, by simp only; omega, by simp only; omega, by simp only; omega, by simp, by simp, fun h => by simp only at h; omega, fun h => by simp at h⟩, h2.2⟩
        · have h2 := hss (by omega)
          simp [varX_is hR hV h2]
          exact ⟨⟨by simp only; omega, by simp only; omega, by simp only; omega, by simp only; omega, by simp, by simp, fun h => by simp only at h; omega, fun h => by simp at h⟩, h2.2⟩
        · have h2 := hss (by omega)
          simp [varX_is hR hV h2]
          exact ⟨⟨by simp only; omega, by simp only; omega, by simp only; omega, by simp only; omega, by simp, by simp, fun h => by simp only at h; omega, fun h => by simp at h⟩, h2.2⟩
      · cases hx
end Go.Proofs.YtlmlmhinbkcpoaaDoor

namespace Go.Proofs.YtlmlmhinbkcpoaaDoor
open Go.RowKit Go.Shelf
set_option linter.unusedVariables false
set_option linter.unusedSimpArgs false

def cnt (l : List Ed) (c : Int) : Nat := (l.filter (fun x => x.2.1 == c)).length
theorem cnt_app (a b : List Ed) (c : Int) : cnt (a ++ b) c = cnt a c + cnt b c := by unfold cnt; rw [List.filter_append, List.length_append]
theorem cnt_snoc (a : List Ed) (x : Ed) (c : Int) : cnt (a ++ [x]) c = cnt a c + (if x.2.1 = c then 1 else 0) := by
  rw [cnt_app]
  congr 1
  unfold cnt
  rw [List.filter_cons]
  by_cases h : x.2.1 = c <;> simp [h]
theorem cnt_none {l : List Ed} {c : Int} (h : ∀ x ∈ l, x.2.1 ≠ c) : cnt l c = 0 := by
  unfold cnt
  rw [List.filter_eq_nil_iff.2 (fun x hx => by simpa using h x hx)]
  rfl
section
variable {fs : List PF} {ss : List PS} {f : PF}
theorem edgI_six (cell : Int) (c : PI) (h : c.op = 6) : edgI ss f.R f.V cell c = [(varX f.R f.V c.r, cell, -1)] := by
  unfold edgI
  rw [if_neg (by omega), if_neg (by omega), h]
  simp only [show rowX (Int.toNat 6) = (1, 1, 3, -1) from rfl, endX]
  simp
theorem edgI_cnt (hf : FunR fs f) (ht : toldX fs ss f.code = true) (hls : ss.length = fs.length) (N : Nat) (cell : Int) (c : PI) (hc : c ∈ f.code) (hcell : c.op = 6 → 1 + f.R + f.V ≤ cell ∧ cell < 1 + f.R + f.V + N) (c0 : Int) (h0 : 1 + f.R + f.V ≤ c0) :
    cnt (edgI ss f.R f.V cell c) c0 = if c.op = 6 ∧ cell = c0 then 1 else 0 := by
  by_cases h6 : c.op = 6
  · rw [edgI_six cell c h6]
    have := cnt_snoc [] (varX f.R f.V c.r, cell, -1) c0
    rw [List.nil_append] at this
    rw [this]
    simp [h6, cnt]
  · rw [if_neg (fun h => h6 h.1)]
    refine cnt_none (fun x hx e => ?_)
    have := (edgI_shp hf ht hls N cell c hc hcell x hx).2 (by omega)
    exact h6 this.1
theorem edg_pre (hf : FunR fs f) (ht : toldX fs ss f.code = true) (hls : ss.length = fs.length) : ∀ k, k ≤ f.code.length →
    (∀ x ∈ (List.range k).flatMap (fun j => edgI ss f.R f.V (clX f.R f.V f.code j) (f.code.getD j dPI)), Shp f.R f.V (newsX f.code) x) ∧
    ∀ c0, 1 + f.R + f.V ≤ c0 → cnt ((List.range k).flatMap (fun j => edgI ss f.R f.V (clX f.R f.V f.code j) (f.code.getD j dPI))) c0 = if c0 < 1 + f.R + f.V + (newsX (f.code.take k) : Nat) then 1 else 0
  | 0, _ => by
    refine ⟨fun x hx => by simp at hx, fun c0 h0 => ?_⟩
    rw [if_neg (by simp [newsX]; omega)]
    rfl
  | k + 1, hk => by
    obtain ⟨ih1, ih2⟩ := edg_pre hf ht hls k (by omega)
    have hR := hf.R
    have hV := hf.V
    have hl := hf.len
    have e : f.code.getD k dPI = f.code[k] := by simp [show k < f.code.length by omega]
    have hc : f.code[k] ∈ f.code := List.getElem_mem _
    have hcl := clX_is hR hV f.code (by omega) k (by omega)
    have hn := newsX_take f.code k (by omega)
    have hn2 := newsX_take_le f.code (k + 1)
    have hcell : f.code[k].op = 6 → 1 + f.R + f.V ≤ clX f.R f.V f.code k ∧ clX f.R f.V f.code k < 1 + f.R + f.V + newsX f.code := fun h => by
      rw [if_pos h] at hn
      omega
    rw [flat_succ, e]
    refine ⟨fun x hx => ?_, fun c0 h0 => ?_⟩
    · rcases List.mem_append.1 hx with hx | hx
      · exact ih1 x hx
      · exact (edgI_shp hf ht hls (newsX f.code) _ _ hc hcell x hx).1
    · rw [cnt_app, ih2 c0 h0, edgI_cnt hf ht hls (newsX f.code) _ _ hc hcell c0 h0, hn, hcl]
      by_cases h6 : f.code[k].op = 6
      · simp only [h6, if_true, true_and]
        by_cases h1 : c0 < 1 + f.R + f.V + (newsX (f.code.take k) : Nat)
        · rw [if_pos h1, if_neg (by omega), if_pos (by omega)]
        · rw [if_neg h1]
          by_cases h2 : 1 + f.R + f.V + (newsX (f.code.take k) : Nat) = c0
          · rw [if_pos h2, if_pos (by omega)]
          · rw [if_neg h2, if_neg (by omega)]
      · simp only [h6, if_false, false_and, Nat.add_zero]
theorem edg_all (hf : FunR fs f) (ht : toldX fs ss f.code = true) (hls : ss.length = fs.length) : (∀ x ∈ edgX ss f, Shp f.R f.V (newsX f.code) x) ∧ ∀ c0 : Int, 1 + f.R + f.V ≤ c0 → c0 < 1 + f.R + f.V + (newsX f.code : Nat) → cnt (edgX ss f) c0 = 1 := by
  obtain ⟨h1, h2⟩ := edg_pre hf ht hls f.code.length (Nat.le_refl _)
  refine ⟨h1, fun c0 k1 k2 => ?_⟩
  have := h2 c0 k1
  rw [List.take_length, if_pos k2] at this
  exact this
end
end Go.Proofs.YtlmlmhinbkcpoaaDoor

namespace Go.Proofs.YtlmlmhinbkcpoaaDoor
open Go.RowKit (wrap32 wrap64)
set_option linter.unusedVariables false
set_option linter.unusedSimpArgs false

abbrev nil2 : Obj := .cells #[.slice none 0 0, .slice none 0 0] 34
theorem underL32 : Tryd.prog.underlying 32 = some (.slice 31) := by kernel_rfl
theorem own_slice {w : World} {B e sz n : Nat} {v : Value} {xs : List Value} (h : w.ownsRow B e sz v n xs) : ∃ a c, v = .slice a n c := by
  rcases h.2 with ⟨e, e2⟩ | ⟨g, cap, cur, e, -⟩
  · exact ⟨none, 0, by rw [e, e2]⟩
  · exact ⟨_, _, e⟩
theorem keepA {W : World} {k : Nat} {o' : Obj} (h : W.heap[k]? = some o') (o : Obj) : (W.alloc o).heap[k]? = some o' := by rw [Go.RowKit.Below.heap_alloc _ _ _ (heap_lt h)]; exact h
theorem keepF {W W' : World} {k : Nat} {o' : Obj} (h : W.heap[k]? = some o') (f : Fr (fun _ => False) W W') : W'.heap[k]? = some o' := (f.block k (heap_lt h) (fun e => e)).trans h

/-- Lists of their own, in a row of its own, each apart from the others. -/
structure LO (w : World) (B : Nat) (rv : Value) (us : List Value) (ls : List (List Int)) : Prop where
  row : w.ownsRow B 31 1 rv us.length us
  ul : us.length = ls.length
  each : ∀ i (h : i < us.length) (h' : i < ls.length), IOwn w B us[i] ls[i]
  apart : ∀ i j (h : i < us.length) (h' : j < us.length), i ≠ j → ∀ k, us[i].ownBlock = some k → us[j].ownBlock ≠ some k
theorem LO.nil (w : World) (B : Nat) : LO w B (.slice none 0 0) [] [] := ⟨World.ownsRow_nil _ _ _ _, rfl, fun i h => by simp at h, fun i j h => by simp at h⟩
theorem LO.keep {w w' : World} {B : Nat} {rv : Value} {us : List Value} {ls : List (List Int)} (h : LO w B rv us ls) (f : Fr (fun _ => False) w w') : LO w' B rv us ls :=
  ⟨ownsRow_frL h.row f (fun _ _ e => e), h.ul, fun i hi hk => (h.each i hi hk).fr f (fun _ _ e => e), h.apart⟩
theorem LO.grow {w w6 : World} {B g cap : Nat} {rv x : Value} {us : List Value} {ls : List (List Int)} {l : List Int} (h : LO w B rv us ls) (hx : IOwn w B x l) (ha : ∀ i (hi : i < us.length), ∀ k, us[i].ownBlock = some k → x.ownBlock ≠ some k) (hg : w.grownBy w6 rv.ownBlock) (ho : w6.ownsRow B 31 1 (.slice (some ⟨g, 0, none⟩) (us.length + 1) cap) (us.length + 1) (us ++ [x])) :
    LO w6 B (.slice (some ⟨g, 0, none⟩) (us.length + 1) cap) (us ++ [x]) (ls ++ [l]) := by
  have f := grown_frL hg
  have ke : ∀ y s, IOwn w B y s → IOwn w6 B y s := fun y s hy => hy.fr f (fun j e e2 => own_apart h.row hy (by decide) j e e2)
  refine ⟨by rw [List.length_append]; exact ho, by rw [List.length_append, List.length_append, h.ul]; rfl, fun i hi hk => ?_, fun i j hi hj hne k e => ?_⟩
  · have hul := h.ul
    by_cases e : i < us.length
    · rw [List.getElem_append_left e, List.getElem_append_left (by omega)]
      exact ke _ _ (h.each i e (by omega))
    · have ei : i = us.length := by simp at hi; omega
      subst ei
      have e1 : (us ++ [x])[us.length] = x := by simp
      have e2 : (ls ++ [l])[us.length] = l := by simp [hul]
      rw [e1, e2]
      exact ke _ _ hx
  · have hi' : i < us.length + 1 := by simpa using hi
    have hj' : j < us.length + 1 := by simpa using hj
    by_cases ei : i < us.length
    · rw [List.getElem_append_left ei] at e
      by_cases ej : j < us.length
      · rw [List.getElem_append_left ej]; exact h.apart i j ei ej hne k e
      · have e3 : j = us.length := by omega
        subst e3
        have e1 : (us ++ [x])[us.length] = x := by simp
        rw [e1]; exact ha i ei k e
    · have e3 : i = us.length := by omega
      subst e3
      have e1 : (us ++ [x])[us.length] = x := by simp
      rw [e1] at e
      have ej : j < us.length := by omega
      rw [List.getElem_append_left ej]
      intro e2
      exact ha j ej k e2 e
theorem LO.la {w : World} {B : Nat} {rv : Value} {us : List Value} {ls : List (List Int)} (h : LO w B rv us ls) : LA w rv ls := by
  obtain ⟨ra, rc, erv⟩ := own_slice h.row
  refine ⟨ra, rc, by rw [erv, h.ul], fun hne => ?_⟩
  have hl0 : 0 < us.length := by rw [h.ul]; exact List.length_pos_iff.2 hne
  obtain ⟨g, cap, e, hgl, -⟩ := own_cell h.row (j := 0) (u := us[0]) (List.getElem?_eq_getElem hl0)
  rw [erv] at e
  cases e
  refine ⟨g, 0, rfl, hgl, fun j hj => ?_⟩
  have hj' : j < us.length := by rw [h.ul]; exact hj
  obtain ⟨g', cap', e', -, hc⟩ := own_cell h.row (j := j) (u := us[j]) (List.getElem?_eq_getElem hj')
  rw [erv] at e'
  cases e'
  exact ⟨us[j], by rw [Nat.zero_add]; exact hc, (h.each j hj' hj).ia⟩

set_option maxRecDepth 100000 in
set_option maxHeartbeats 1000000 in
theorem copyLists_any (v : Value) (ls : List (List Int)) (w : World) (hE : LA w v ls) (hel : ls.length ≤ 5864062014634) (hll : ∀ l ∈ ls, l.length ≤ 17592186043904) : Calls Tryd.prog 48 #[v] w fun e w' => ∃ v' us, e = .returned v' ∧ LO w' w.heap.size v' us ls ∧ Fr (fun _ => False) w w' := by
  obtain ⟨ea, ec, rfl, hein⟩ := hE
  have HE : Hd (ls ≠ [] → _) := hein
  have HLL : Hd (∀ l ∈ ls, l.length ≤ 17592186043904) := hll
  clear hein hll
  obtain ⟨i22, hi22, hz22, hs22, hb22⟩ := info_parts (P := Tryd.prog) (e := 31) (z := .slice none 0 0) (size := 1) (bytes := 24) (by kernel_rfl)
  go_enter Tryd.func48, Tryd.ntmps48
  go_wp2_with fail
  go_loopw [3, 4] (fun mv v wr => ∃ (k : Nat) (us : List Value), v = .int .i64 k ∧ k ≤ ls.length ∧ Hd (LO wr w.heap.size mv us (ls.take k)) ∧ Hd (Fr (fun _ => False) w wr)) (fun _ v _ => match v with | .int _ q => ls.length - q.toNat | _ => 0)
  case atStart => exact ⟨0, [], rfl, Nat.zero_le _, LO.nil _ _, Fr.refl _ _⟩
  case round =>
    obtain ⟨k, us, rfl, hk, HO, HF⟩ := hrel
    by_cases hlt : k < ls.length
    · obtain ⟨pk, po, rfl, hpk, hcs⟩ := HE.out (by intro e; simp [e] at hlt)
      obtain ⟨u, hu1, hu2⟩ := hcs k hlt
      have p0 := (HF.out.cell (o := po + k) hpk (fun h => h)).trans hu1
      have HI : Hd (IA wr u ls[k]) := hu2.stay HF.out
      have hzk : ls[k].length ≤ 17592186043904 := HLL.out _ (List.getElem_mem hlt)
      have HT : Hd (ls.take (k + 1) = ls.take k ++ [ls[k]]) := by unfold Hd; rw [List.take_add_one, List.getElem?_eq_getElem hlt]; rfl
      have HUL : Hd (us.length = k) := by have h9 := HO.out.ul; unfold Hd; rw [h9, List.length_take]; omega
      obtain ⟨va, vc, eu, -⟩ := hu2
      generalize ls[k] = z at *
      subst eu
      have hk0 : (0 : Int) ≤ k := by omega
      have hk1 : (k : Int) < ls.length := by omega
      clear hcs hu1
      go_wp2_with fail
      refine (show Calls Tryd.prog 47 #[.slice va z.length vc] wr _ from copyInts_any _ z wr HI.out hzk).mono ?_
      rintro e w2 ⟨x, rfl, hx, hF2⟩
      have HX : Hd (IOwn w2 w.heap.size x z) := hx.mono HF.out.size
      have HXA : Hd (∀ i (hi : i < us.length), ∀ k, us[i].ownBlock = some k → x.ownBlock ≠ some k) := fun i hi j e e2 => by
        have h1 := (hx.ge j e2).1
        have h2 := ((HO.out.each i hi (by have := HO.out.ul; omega)).ge j e).2
        omega
      obtain ⟨xa, xc, ex⟩ := own_slice hx
      have HO2 : Hd (LO w2 w.heap.size u3 us (ls.take k)) := HO.out.keep hF2
      have HF2 : Hd (Fr (fun _ => False) w w2) := HF.out.trans hF2
      have hsz := HF2.out.size
      have HO1 : Hd (LO (w2.alloc (.cells #[x] 31)) w.heap.size u3 us (ls.take k)) := HO2.out.keep (Fr.alloc (Fr.refl _ _) _)
      have HX1 : Hd (IOwn (w2.alloc (.cells #[x] 31)) w.heap.size x z) := HX.out.fr (Fr.alloc (Fr.refl (fun _ => False) _) _) (fun _ _ e => e)
      have hnews : ∀ j u, [x][j]? = some u → (w2.alloc (.cells #[x] 31)).cell? ((⟨w2.heap.size, 0, none⟩ : Addr).add j) = some u :=
        World.news_of_block (cs := #[x]) (heap_new w2 (.cells #[x] 31))
      have hbase : w.heap.size ≤ (w2.alloc (.cells #[x] 31)).heap.size := by simp; omega
      have hUl : us.length + 1 ≤ 5864062014634 := by have := HUL.out; omega
      subst ex
      clear hx hF2 HF HO HI p0
      go_wp2_with ((at_builtin; refine Hd.out ?_))
      unfold Hd
      refine wpList_append_lies _ rfl (.tmp 17) (.tmp 19) 32 rfl w.heap.size 31 i22 (.slice none 0 0) 1 24 underL32 hi22 hz22 hs22 hb22 rfl (by omega) u3 us.length _ rfl HO1.out.row ⟨w2.heap.size, 0, none⟩ 1 1 [.slice xa z.length xc] rfl rfl hnews (by intro u hu; simp at hu; subst hu; rfl) (by omega) (by unfold maxLen; omega) (by omega) hbase (w2.heap.size + 1) (by simp) ?_
      intro g6 cap6 w6 hown6 hgrow6 hat6 hlt6
      have HO6 : Hd (LO w6 w.heap.size (.slice (some ⟨g6, 0, none⟩) (us.length + 1) cap6) (us ++ [.slice xa z.length xc]) (ls.take (k + 1))) := by unfold Hd; rw [HT.out]; exact HO1.out.grow HX1.out HXA.out hgrow6 hown6
      have HF6 : Hd (Fr (fun _ => False) w w6) := grow_fr0 (HF2.out.alloc _) hgrow6 (fun k hk => (World.ownsRow.lt HO1.out.row k hk).1)
      clear hown6 hgrow6 hat6 hlt6 HO1 hnews hbase HO2 HF2 HX HX1 HXA
      go_wp2_with fail
      exact ⟨⟨k + 1, _, by simp, by omega, HO6.out, HF6.out⟩, by simp; omega⟩
    · have hdk : decide ((k : Int) < ls.length) = false := by simp; omega
      have HO2 : Hd (LO wr w.heap.size u3 us ls) := by have := HO.out; rw [List.take_of_length_le (by omega)] at this; exact this
      clear HO
      go_wp2_with fail
      go_ret
      exact ⟨u3, us, rfl, HO2.out, HF.out⟩

/-- A summary of its own, list by list. -/
structure SO (w : World) (B : Nat) (hv rv : Value) (us : List Value) (s : PS) : Prop where
  oh : IOwn w B hv s.H
  lo : LO w B rv us s.R
  ap : ∀ i (h : i < us.length), ∀ k, us[i].ownBlock = some k → hv.ownBlock ≠ some k
theorem SO.keep {w w' : World} {B : Nat} {hv rv : Value} {us : List Value} {s : PS} (h : SO w B hv rv us s) (f : Fr (fun _ => False) w w') : SO w' B hv rv us s := ⟨h.oh.fr f (fun _ _ e => e), h.lo.keep f, h.ap⟩
theorem SO.sa {w : World} {B : Nat} {hv rv : Value} {us : List Value} {s : PS} (h : SO w B hv rv us s) : (IA w hv s.H ∧ LA w rv s.R) := ⟨h.oh.ia, h.lo.la⟩
theorem LO.fr {S : Nat → Prop} {w w' : World} {B : Nat} {rv : Value} {us : List Value} {ls : List (List Int)} (h : LO w B rv us ls) (f : Fr S w w') (hS : ∀ k, B ≤ k → ¬ S k) : LO w' B rv us ls :=
  ⟨ownsRow_frL h.row f (fun k e => hS k (World.ownsRow.lt h.row k e).1), h.ul, fun i hi hk => (h.each i hi hk).fr f (fun k e => hS k ((h.each i hi hk).ge k e).1), h.apart⟩

theorem LO.mono {w : World} {B B' : Nat} {rv : Value} {us : List Value} {ls : List (List Int)} (h : LO w B rv us ls) (hB : B' ≤ B) : LO w B' rv us ls := ⟨World.ownsRow.mono h.row hB, h.ul, fun i hi hk => (h.each i hi hk).mono hB, h.apart⟩
set_option maxRecDepth 100000 in
set_option maxHeartbeats 4000000 in
theorem copySummary_any (x1 y1 : Value) (s : PS) (w : World) (h1 : IA w x1 s.H) (h2 : LA w y1 s.R) (fh : s.H.length ≤ 17592186043904) (hr : s.R.length ≤ 5864062014634) (fl : ∀ l ∈ s.R, l.length ≤ 17592186043904) : Calls Tryd.prog 32 #[.agg #[x1, y1]] w fun e w' => ∃ hv rv us, e = .returned (.agg #[hv, rv]) ∧ SO w' (w.heap.size + 2) hv rv us s ∧ Fr (fun _ => False) w w' := by
  obtain ⟨a1, b1, e1, -⟩ := id h1
  obtain ⟨a2, b2, e2, -⟩ := id h2
  obtain ⟨wa, hwa⟩ : ∃ wa, wa = (w.alloc (.cells #[x1, y1] 34)).alloc nil2 := ⟨_, rfl⟩
  have hF : Fr (fun _ => False) w wa := by rw [hwa]; exact Fr.alloc (Fr.alloc (Fr.refl _ w) _) _
  obtain ⟨H, hH⟩ : ∃ H, H = w.heap.size := ⟨_, rfl⟩
  have b1' : wa.heap[H]? = some (.cells #[x1, y1] 34) := by rw [hwa, hH]; exact keepA (heap_new w _) _
  have b2' : wa.heap[H + 1]? = some nil2 := by
    have := heap_new (w.alloc (.cells #[x1, y1] 34)) nil2
    rw [World.size_alloc] at this
    rw [hwa, hH]; exact this
  have hsz : wa.heap.size = H + 2 := by rw [hwa, hH]; simp
  have HWA : Hd (wa = (w.alloc (.cells #[x1, y1] 34)).alloc nil2) := hwa
  have HSZ : Hd (wa.heap.size = H + 2) := hsz
  have HF : Hd (Fr (fun _ => False) w wa) := hF
  have HH : Hd (H = w.heap.size) := hH
  have B2 : Hd (wa.heap[H + 1]? = some nil2) := b2'
  have HI1 : Hd (∀ W, Fr (fun _ => False) wa W → IA W x1 s.H) := fun W f => h1.stay (hF.trans f)
  have HI2 : Hd (∀ W, Fr (fun _ => False) wa W → LA W y1 s.R) := fun W f => h2.stay (hF.trans f)
  have FL : Hd (∀ l ∈ s.R, l.length ≤ 17592186043904) := fl
  have c0 : wa.cell? ⟨H, 0, none⟩ = some x1 := by rw [cell_of b1']; rfl
  have c1 : wa.cell? ⟨H, 1, none⟩ = some y1 := by rw [cell_of b1']; rfl
  have d0 : wa.cell? ⟨H + 1, 0, none⟩ = some (.slice none 0 0) := by rw [cell_of b2']; rfl
  have d1 : wa.cell? ⟨H + 1, 1, none⟩ = some (.slice none 0 0) := by rw [cell_of b2']; rfl
  have z0 := frozen_of b2' 0
  have z1 := frozen_of b2' 1
  have hHl : H < wa.heap.size := heap_lt b1'
  have hHl1 : H + 1 < wa.heap.size := heap_lt b2'
  subst e1; subst e2
  clear h1 h2 hF hwa hH b1' b2' fl hsz
  go_enter Tryd.func32, Tryd.ntmps32
  go_upto_region 1 with fail
  rw [← HWA.out, ← HH.out]
  clear HWA
  go_region_held3 (fun w' => w'.cell? ⟨H, 0, none⟩ = some (.slice a1 s.H.length b1) ∧ w'.cell? ⟨H, 1, none⟩ = some (.slice a2 s.R.length b2)) (go_keep) ((
    first
      | (go_at_call 47
         refine (show Calls Tryd.prog 47 #[.slice a1 s.H.length b1] _ _ from copyInts_any _ s.H _ (by first | exact HI1.out _ (Fr.drew (Fr.refl _ _)) | exact HI1.out _ HGb.out) fh).mono ?_
         rintro e wx ⟨hv, rfl, hxo, hfx⟩
         obtain ⟨xa, xc, ehv⟩ := own_slice hxo
         subst ehv
         have HGa : Hd (Fr (fun _ => False) wa wx) := by first | exact (Fr.drew (Fr.refl _ _)).trans hfx | exact HGb.out.trans hfx
         have HOa : Hd _ := hxo
         have s0 := (HGa.out.cell hHl (fun h => h)).trans c0
         have s1 := (HGa.out.cell hHl (fun h => h)).trans c1
         have s2 := (HGa.out.cell hHl1 (fun h => h)).trans d0
         have s3 := (HGa.out.cell hHl1 (fun h => h)).trans d1
         have s4 := frozen_of (keepF B2.out HGa.out) 0
         have s5 := frozen_of (keepF B2.out HGa.out) 1
         have HFXa : Hd _ := hfx
         clear hxo hfx)
      | (go_at_call 48
         refine (show Calls Tryd.prog 48 #[.slice a2 s.R.length b2] _ _ from copyLists_any _ s.R _ (by first | exact HI2.out _ (Fr.drew (Fr.refl _ _)) | exact HI2.out _ HGa.out) hr FL.out).mono ?_
         rintro e wy ⟨rv, us, rfl, hyo, hfy⟩
         obtain ⟨ya, yc, erv⟩ := own_slice hyo.row
         subst erv
         have HGb : Hd (Fr (fun _ => False) wa wy) := by first | exact (Fr.drew (Fr.refl _ _)).trans hfy | exact HGa.out.trans hfy
         have HOb : Hd _ := hyo
         have t0 := (HGb.out.cell hHl (fun h => h)).trans c0
         have t1 := (HGb.out.cell hHl (fun h => h)).trans c1
         have t2 := (HGb.out.cell hHl1 (fun h => h)).trans d0
         have t3 := (HGb.out.cell hHl1 (fun h => h)).trans d1
         have t4 := frozen_of (keepF B2.out HGb.out) 0
         have t5 := frozen_of (keepF B2.out HGb.out) 1
         have HFXb : Hd _ := hfy
         clear hyo hfy)))
  have f : Fr (fun j => j = H + 1) wy ((wy.setCell ⟨H + 1, 0, none⟩ (.slice xa s.H.length xc)).setCell ⟨H + 1, 1, none⟩ (.slice ya us.length yc)) := (setCell_fr wy (H + 1) 0 _).trans (setCell_fr _ (H + 1) 1 _)
  have HZ : Hd (((wy.setCell ⟨H + 1, 0, none⟩ (.slice xa s.H.length xc)).setCell ⟨H + 1, 1, none⟩ (.slice ya us.length yc)).heap[H + 1]? = some (.cells #[.slice xa s.H.length xc, .slice ya us.length yc] 34)) := set_of (set_of (keepF B2.out HGb.out) 0 _) 1 _
  have hO1 : IOwn wx wa.heap.size (.slice xa s.H.length xc) s.H := HOa.out
  have hL1 : LO wy wx.heap.size (.slice ya us.length yc) us s.R := HOb.out
  have hFxy : Fr (fun _ => False) wx wy := HFXb.out
  have hsx : wa.heap.size ≤ wx.heap.size := HGa.out.size
  have hsz := HSZ.out
  have HSO : Hd (SO ((wy.setCell ⟨H + 1, 0, none⟩ (.slice xa s.H.length xc)).setCell ⟨H + 1, 1, none⟩ (.slice ya us.length yc)) (w.heap.size + 2) (.slice xa s.H.length xc) (.slice ya us.length yc) us s) := by
    have hw := HH.out
    have h1 : IOwn wy (w.heap.size + 2) (.slice xa s.H.length xc) s.H := (hO1.fr hFxy (fun _ _ e => e)).mono (by omega)
    refine ⟨h1.fr f (fun j e e2 => by have := (h1.ge j e).1; omega), (hL1.mono (by omega)).fr f (fun j hj e => by omega), fun i hi j e e2 => ?_⟩
    have h2 := ((hL1.each i hi (by have := hL1.ul; omega)).ge j e).1
    have h3 := (hO1.ge j e2).2
    omega
  have HFz : Hd (Fr (fun _ => False) w ((wy.setCell ⟨H + 1, 0, none⟩ (.slice xa s.H.length xc)).setCell ⟨H + 1, 1, none⟩ (.slice ya us.length yc))) := (HF.out.trans HGb.out).then f (fun j hj e => by have := HH.out; omega)
  clear f hO1 hL1 hFxy hsx hsz s0 s1 s2 s3 s4 s5 t0 t1 t2 t3 t4 t5 c0 c1 d0 d1 z0 z1
  go_wp2_with fail
  generalize (wy.setCell ⟨H + 1, 0, none⟩ (.slice xa s.H.length xc)).setCell ⟨H + 1, 1, none⟩ (.slice ya us.length yc) = wz at *
  have e0 : wz.cell? ⟨H + 1, 0, none⟩ = some (.slice xa s.H.length xc) := by rw [cell_of HZ.out]; rfl
  have e1 : wz.cell? ⟨H + 1, 1, none⟩ = some (.slice ya us.length yc) := by rw [cell_of HZ.out]; rfl
  refine bodyPost_ret (v := .agg #[.slice xa s.H.length xc, .slice ya us.length yc]) ?_ rfl ⟨_, _, us, rfl, HSO.out, HFz.out⟩
  rw [results_cell (p := 2) (ty := 34) Tryd.results32]
  simp [go_sem, e0, e1]

end Go.Proofs.YtlmlmhinbkcpoaaDoor

namespace Go.Proofs.YtlmlmhinbkcpoaaDoor
open Go.RowKit (wrap32 wrap64)
set_option linter.unusedVariables false
set_option linter.unusedSimpArgs false

abbrev SI := PS × Value × Value × List Value
abbrev rowS (x : SI) : List Value := [x.2.1, x.2.2.1]
/-- Summaries of one's own. -/
structure SsO (w : World) (B : Nat) (v : Value) (L : List SI) : Prop where
  row : w.ownsRow B 34 2 v L.length (L.flatMap rowS)
  each : ∀ x ∈ L, SO w B x.2.1 x.2.2.1 x.2.2.2 x.1
theorem SsO.sa {w : World} {B : Nat} {v : Value} {L : List SI} (h : SsO w B v L) : SsA w v (L.map (·.1)) := by
  rcases h.row.2 with ⟨h2, h3⟩ | ⟨g, cap, cur, e, -⟩
  · refine ⟨none, 0, by rw [h2, List.length_map, h3], fun hne => ?_⟩
    exact absurd (by rw [List.eq_nil_of_length_eq_zero h3]; rfl) hne
  · refine ⟨some ⟨g, 0, none⟩, cap, by rw [e, List.length_map], fun _ => ⟨g, 0, rfl, (World.ownsRow.lt h.row g (by rw [e]; rfl)).2, fun j hj => ?_⟩⟩
    have hj' : j < L.length := by simpa using hj
    have pc : ∀ o u, o < 2 → (rowS L[j])[o]? = some u → w.cell? ⟨g, j * 2 + o, none⟩ = some u := fun o u ho hu => by
      obtain ⟨g', cap', e', -, hc⟩ := own_cell h.row (j := j * 2 + o) (u := u) (by rw [flat_get rowS 2 (fun _ => rfl) L j o hj' ho]; exact hu)
      rw [e] at e'
      cases e'
      exact hc
    have hi := (h.each L[j] (List.getElem_mem hj')).sa
    rw [Nat.zero_add]
    simp only [List.getElem_map]
    exact ⟨L[j].2.1, L[j].2.2.1, pc 0 _ (by omega) rfl, pc 1 _ (by omega) rfl, hi.1, hi.2⟩
theorem SsO.stay {w w' : World} {B : Nat} {v : Value} {L : List SI} (h : SsO w B v L) (f : Fr (fun _ => False) w w') : SsO w' B v L := ⟨ownsRow_frL h.row f (fun _ _ e => e), fun x hx => (h.each x hx).keep f⟩
theorem SO.mono {w : World} {B B' : Nat} {hv rv : Value} {us : List Value} {s : PS} (h : SO w B hv rv us s) (hB : B' ≤ B) : SO w B' hv rv us s := ⟨h.oh.mono hB, h.lo.mono hB, h.ap⟩
theorem SO.other {S : Nat → Prop} {w w' : World} {B : Nat} {hv rv : Value} {us : List Value} {s : PS} (h : SO w B hv rv us s) (f : Fr S w w') (h1 : ∀ k, hv.ownBlock = some k → ¬ S k) (h2 : ∀ k, rv.ownBlock = some k → ¬ S k) (h3 : ∀ i (h : i < us.length), ∀ k, us[i].ownBlock = some k → ¬ S k) : SO w' B hv rv us s :=
  ⟨h.oh.fr f h1, ⟨ownsRow_frL h.lo.row f h2, h.lo.ul, fun i hi hk => (h.lo.each i hi hk).fr f (h3 i hi), h.lo.apart⟩, h.ap⟩
theorem under25 : Tryd.prog.underlying 25 = some (.slice 34) := by kernel_rfl

set_option maxRecDepth 100000 in
set_option maxHeartbeats 2000000 in
theorem copySums_any (v : Value) (ss : List PS) (w : World) (hl : SsA w v ss) (hn : FineS ss) :
    Calls Tryd.prog 11 #[v] w fun e w' => ∃ v' L, e = .returned v' ∧ SsO w' w.heap.size v' L ∧ L.map (·.1) = ss ∧ Fr (fun _ => False) w w' := by
  obtain ⟨ea, ec, rfl, hein⟩ := hl
  have HE : Hd _ := hein
  have HFI : Hd (FineS ss) := hn
  have hz := hn.1
  clear hein hn
  obtain ⟨i7, hi7, hz7, hs7, hb7⟩ := info_parts (P := Tryd.prog) (e := 34) (z := .agg #[.slice none 0 0, .slice none 0 0]) (size := 2) (bytes := 48) (by kernel_rfl)
  go_enter Tryd.func11, Tryd.ntmps11
  go_wp2_with fail
  go_loopw [3, 4] (fun mv v wr => ∃ (k : Nat) (L : List SI), v = .int .i64 k ∧ k ≤ ss.length ∧ Hd (SsO wr w.heap.size mv L) ∧ Hd (L.map (·.1) = ss.take k) ∧ Hd (Fr (fun _ => False) w wr)) (fun _ v _ => match v with | .int _ q => ss.length - q.toNat | _ => 0)
  case atStart => exact ⟨0, [], rfl, Nat.zero_le _, ⟨World.ownsRow_nil _ _ _ _, fun x hx => by simp at hx⟩, rfl, Fr.refl _ _⟩
  case round =>
    obtain ⟨k, L, rfl, hk, HO, HM, HF⟩ := hrel
    by_cases hlt : k < ss.length
    · have hne : ss ≠ [] := by intro e; simp [e] at hlt
      obtain ⟨k1, o1, rfl, hk1, g1⟩ := HE.out hne
      obtain ⟨x1, y1, p0, p1, ix1, iy1⟩ := g1 k hlt
      have m1 := fun o => HF.out.cell (o := o) hk1 (fun h => h)
      have p0 := (m1 _).trans p0
      have p1 := (m1 _).trans p1
      have X1 : Hd (IA wr x1 ss[k].H) := ix1.stay HF.out
      have Y1 : Hd (LA wr y1 ss[k].R) := iy1.stay HF.out
      have HC := HFI.out.2 _ (List.getElem_mem hlt)
      have HT : Hd (ss.take (k + 1) = ss.take k ++ [ss[k]]) := by unfold Hd; rw [List.take_add_one, List.getElem?_eq_getElem hlt]; rfl
      have HLL : Hd (L.length = k) := by have := congrArg List.length HM.out; simp at this; unfold Hd; omega
      generalize ss[k] = f at *
      obtain ⟨a, b, e1, -⟩ := ix1
      obtain ⟨a', b', e2, -⟩ := iy1
      subst e1 e2
      obtain ⟨q1, q2, q3⟩ := HC
      have hct := copySummary_any _ _ f wr X1.out Y1.out q1 q2 q3
      have hk0 : (0 : Int) ≤ k := by omega
      have hk3 : (k : Int) < ss.length := by omega
      clear g1 m1 q3
      go_wp2_with fail
      refine hct.mono ?_
      rintro e w1 ⟨hv, rv, us, rfl, hx, hF1⟩
      obtain ⟨xa, xc, eh⟩ := own_slice hx.oh
      obtain ⟨ya, yc, er⟩ := own_slice hx.lo.row
      subst eh er
      obtain ⟨wb, hwb⟩ : ∃ wb, wb = w1.alloc (.cells #[.slice xa f.H.length xc, .slice ya us.length yc] 34) := ⟨_, rfl⟩
      have hFb : Fr (fun _ => False) w1 wb := by rw [hwb]; exact Fr.alloc (Fr.refl _ w1) _
      have hFc : Fr (fun _ => False) w1 (wb.alloc (.cells #[.slice xa f.H.length xc, .slice ya us.length yc] 34)) := Fr.alloc hFb _
      have b1 : wb.heap[w1.heap.size]? = some (.cells #[.slice xa f.H.length xc, .slice ya us.length yc] 34) := by rw [hwb]; exact heap_new w1 _
      have HO1 : Hd (SsO (wb.alloc (.cells #[.slice xa f.H.length xc, .slice ya us.length yc] 34)) w.heap.size u3 L) := HO.out.stay (hF1.trans hFc)
      have HX1 : Hd (SO (wb.alloc (.cells #[.slice xa f.H.length xc, .slice ya us.length yc] 34)) w.heap.size (.slice xa f.H.length xc) (.slice ya us.length yc) us f) := (hx.keep hFc).mono (by have := HF.out.size; omega)
      have HF1 : Hd (Fr (fun _ => False) w (wb.alloc (.cells #[.slice xa f.H.length xc, .slice ya us.length yc] 34))) := HF.out.trans (hF1.trans hFc)
      have HWB : Hd (wb = w1.alloc (.cells #[.slice xa f.H.length xc, .slice ya us.length yc] 34)) := hwb
      have HRW : Hd ((wb.alloc (.cells #[.slice xa f.H.length xc, .slice ya us.length yc] 34)).ownsRow w.heap.size 34 2 u3 L.length (L.flatMap rowS)) := HO1.out.row
      have hnews : ∀ j u, [Value.slice xa f.H.length xc, .slice ya us.length yc][j]? = some u → (wb.alloc (.cells #[.slice xa f.H.length xc, .slice ya us.length yc] 34)).cell? ((⟨wb.heap.size, 0, none⟩ : Addr).add j) = some u :=
        World.news_of_block (cs := #[.slice xa f.H.length xc, .slice ya us.length yc]) (heap_new wb _)
      have hbase : w.heap.size ≤ (wb.alloc (.cells #[.slice xa f.H.length xc, .slice ya us.length yc] 34)).heap.size := HF1.out.size
      have hEl : L.length + 1 ≤ 2932031007318 := by have := HLL.out; omega
      have u0 : wb.cell? ⟨w1.heap.size, 0, none⟩ = some (.slice xa f.H.length xc) := by rw [cell_of b1]; rfl
      have u1 : wb.cell? ⟨w1.heap.size, 1, none⟩ = some (.slice ya us.length yc) := by rw [cell_of b1]; rfl
      clear hx hF1 hFb hFc b1 HO HF hwb p0 p1 hct
      go_upto_region 6 with fail
      rw [← HWB.out]
      clear HWB
      go_wp2_with ((at_builtin; refine Hd.out ?_))
      unfold Hd
      refine wpList_append_lies _ rfl (.tmp 17) (.tmp 19) 25 rfl w.heap.size 34 i7 (.agg #[.slice none 0 0, .slice none 0 0]) 2 48 under25 hi7 hz7 hs7 hb7 rfl (by omega) u3 L.length _ rfl HRW.out ⟨wb.heap.size, 0, none⟩ 1 1 [.slice xa f.H.length xc, .slice ya us.length yc] rfl rfl hnews (by intro u hu; simp at hu; rcases hu with rfl | rfl <;> rfl) (by omega) (by unfold maxLen; omega) (by omega) hbase (wb.heap.size + 1) (by simp) ?_
      intro g6 cap6 w6 hown6 hgrow6 hat6 hlt6
      have hF6 := grown_frL hgrow6
      have HO6 : Hd (SsO w6 w.heap.size (.slice (some ⟨g6, 0, none⟩) (L.length + 1) cap6) (L ++ [(f, .slice xa f.H.length xc, .slice ya us.length yc, us)])) := by
        have keep : ∀ (hv rv : Value) (us : List Value) (s : PS), SO (wb.alloc (.cells #[.slice xa f.H.length xc, .slice ya us.length yc] 34)) w.heap.size hv rv us s → True := fun _ _ _ _ _ => trivial
        have keep : ∀ (hv rv : Value) (us' : List Value) (s : PS), SO (wb.alloc (.cells #[.slice xa f.H.length xc, .slice ya us.length yc] 34)) w.heap.size hv rv us' s → SO w6 w.heap.size hv rv us' s := fun hv rv us' s hM =>
          hM.other hF6 (fun j e e2 => own_apart HRW.out hM.oh (by decide) j e e2) (fun j e e2 => own_apart HRW.out hM.lo.row (by decide) j e e2) (fun i hi j e e2 => own_apart HRW.out (hM.lo.each i hi (by have := hM.lo.ul; omega)) (by decide) j e e2)
        refine ⟨?_, fun x hx => ?_⟩
        · rw [List.length_append, List.flatMap_append]
          simpa using hown6
        · rcases List.mem_append.1 hx with hx | hx
          · exact keep _ _ _ _ (HO1.out.each x hx)
          · simp at hx
            subst hx
            exact keep _ _ _ _ HX1.out
      have HF6 : Hd (Fr (fun _ => False) w w6) := grow_fr0 HF1.out hgrow6 (fun k hk => (World.ownsRow.lt HRW.out k hk).1)
      have HM6 : Hd ((L ++ [((f, .slice xa f.H.length xc, .slice ya us.length yc, us) : SI)]).map (·.1) = ss.take (k + 1)) := by unfold Hd; rw [HT.out, List.map_append, HM.out]; rfl
      clear hown6 hgrow6 hat6 hlt6 hnews hbase u0 u1 HRW HO1 HX1 HF1 HM hF6
      go_wp2_with fail
      exact ⟨⟨k + 1, _, by simp, by omega, HO6, HM6, HF6⟩, by simp; omega⟩
    · have hdk : decide ((k : Int) < ss.length) = false := by simp; omega
      have HM2 : Hd (L.map (·.1) = ss) := by have := HM.out; rw [List.take_of_length_le (by omega)] at this; exact this
      clear HM
      go_wp2_with fail
      go_ret
      exact ⟨u3, L, rfl, HO.out, HM2.out, HF.out⟩
end Go.Proofs.YtlmlmhinbkcpoaaDoor
