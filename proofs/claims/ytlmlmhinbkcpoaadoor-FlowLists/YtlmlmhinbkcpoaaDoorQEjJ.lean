import Derived.Test.YtlmlmhinbkcpoaaDoorQEi
import Derived.Test.YtlmlmhinbkcpoaaDoorQEbJ
import Derived.Test.YtlmlmhinbkcpoaaDoorQLhJ
import Derived.Deep.RegionHeld3
namespace Go.Proofs.YtlmlmhinbkcpoaaDoor
open Go.RowKit Go.Shelf
set_option linter.unusedVariables false
set_option linter.unusedSimpArgs false
attribute [local go_sem] Oper.semAt_some

/-- Does Edges answer edges? -/
def EdgOk (G : Int) (fs : List PF) (F : Int) (ss : List PS) : Prop := ∃ i : Nat, F = i ∧ ∃ h : i < fs.length, ss.length = fs.length ∧ checkP G (aloneP fs fs[i]) = 0 ∧ toldX fs ss fs[i].code = true

set_option maxRecDepth 100000 in
set_option maxHeartbeats 4000000 in
theorem edges_bad_in (n : Nat) (hn : 6 ≤ n) (G : Int) (fv sv : Value) (fs : List PF) (ss : List PS) (F : Int) (w : World) (h1 : FA w fv fs) (h2 : SsA w sv ss) (b1 : FineP fs) (b2 : FineS ss) (hT : Tab w) (hbad : ¬ EdgOk G fs F ss) :
    CallsIn Fence.wide n Tryd.prog 9 #[.agg #[vI G, fv], vI F, sv] w fun e w' => e = .returned (.tuple #[.slice none 0 0, vI 1]) ∧ Fr (fun _ => False) w w' := by
  have HRA : Hd (∀ i (hi : i < fs.length), Calls Tryd.prog 28 #[.agg #[vI G, fv], vI (i : Int)] (w.alloc (.cells #[vI G, fv] 24)) fun e w' => e = .returned (.bool (decide (checkP G (aloneP fs fs[i]) = 0))) ∧ Fr (fun _ => False) (w.alloc (.cells #[vI G, fv] 24)) w') := fun i hi =>
    right_any G fv fs i hi (w.alloc (.cells #[vI G, fv] 24)) (h1.stay (Fr.alloc (Fr.refl _ w) _)) b1 (hT.stay (Fr.alloc (Fr.refl _ w) _))
  have HTA : Hd (∀ i (hi : i < fs.length), ss.length = fs.length → checkP G (aloneP fs fs[i]) = 0 → toldX fs ss fs[i].code = false → ∀ w1, Fr (fun _ => False) w w1 → Calls Tryd.prog 29 #[.agg #[vI G, fv], vI (i : Int), sv] w1 fun e w' => e = .returned (.bool false) ∧ Fr (fun _ => False) w1 w') := fun i hi hls hck htl w1 hF => by
    have := told_any G fv sv fs ss i hi w1 (h1.stay hF) (h2.stay hF) hls b1 b2 (fun c hc e => by
      obtain ⟨q, hq, hqf, -⟩ := (right_ok hck).call c hc e
      omega)
    rw [htl] at this
    exact this
  obtain ⟨fa, fc, efv, -⟩ := h1
  obtain ⟨sa, sc, esv, -⟩ := h2
  subst efv esv
  have hFa : Fr (fun _ => False) w (w.alloc (.cells #[vI G, .slice fa fs.length fc] 24)) := Fr.alloc (Fr.refl _ w) _
  have ba : (w.alloc (.cells #[vI G, .slice fa fs.length fc] 24)).heap[w.heap.size]? = some (.cells #[vI G, .slice fa fs.length fc] 24) := heap_new0 w _
  clear hT b1 b2
  refine callsIn_of_wp_marks Tryd.func9 rfl trivial ?_ rfl
  simp only [Tryd.ntmps9, List.size_toArray, List.length_cons, List.length_nil, Nat.reduceAdd, Nat.reduceSub, Array.replicate_succ, Array.replicate_zero, List.push_toArray, List.append_toArray, List.nil_append, List.cons_append]
  by_cases h0 : F < 0
  · have d1 : decide (F < 0) = true := by simpa using h0
    gi_wp2_with fail
    refine ⟨trivial, ?_⟩
    gi_wp2_with fail
    refine ⟨trivial, ?_⟩
    gi_wp2_with fail
    exact ⟨_, results_tmp2 rfl _ _ _, rfl, hFa⟩
  · have d1 : decide (F < 0) = false := by simpa using h0
    by_cases hF : F ≥ fs.length
    · have d2 : decide (F ≥ (fs.length : Int)) = true := by simpa using hF
      have d3 : decide ((fs.length : Int) ≤ F) = true := by simpa using hF
      gi_wp2_with fail
      refine ⟨trivial, ?_⟩
      gi_wp2_with fail
      refine ⟨trivial, ?_⟩
      gi_wp2_with fail
      exact ⟨_, results_tmp2 rfl _ _ _, rfl, hFa⟩
    · obtain ⟨i, rfl⟩ : ∃ i : Nat, F = i := ⟨F.toNat, by omega⟩
      have hi : i < fs.length := by omega
      have d2 : decide ((i : Int) ≥ (fs.length : Int)) = false := by simpa using hF
      have d3 : decide ((fs.length : Int) ≤ i) = false := by simpa using hF
      have d4 : decide (fs.length ≤ i) = false := by simp; omega
      by_cases hls : ss.length = fs.length
      · have e1 : ((ss.length : Int) != (fs.length : Int)) = false := by simp [hls]
        have e2 : ((ss.length : Int) == (fs.length : Int)) = true := by simp [hls]
        have HLS : Hd (ss.length = fs.length) := hls
        have HBAD : Hd (¬ EdgOk G fs i ss) := hbad
        have hra := HRA.out i hi
        clear hls hbad HRA
        by_cases hck : checkP G (aloneP fs fs[i]) = 0
        · have htl : toldX fs ss fs[i].code = false := by
            cases ht : toldX fs ss fs[i].code with
            | false => rfl
            | true => exact absurd ⟨i, rfl, hi, HLS.out, hck, ht⟩ HBAD.out
          have HT2 : Hd (∀ w1, Fr (fun _ => False) w w1 → Calls Tryd.prog 29 #[.agg #[vI G, .slice fa fs.length fc], vI (i : Int), .slice sa ss.length sc] w1 fun e w' => e = .returned (.bool false) ∧ Fr (fun _ => False) w1 w') := HTA.out i hi HLS.out hck htl
          rw [hck] at hra
          clear hck htl HTA
          gi_wp2_with fail
          refine ⟨trivial, (fun h => by cases h), ?_⟩
          refine (callsIn_wide.2 hra).mono ?_
          rintro e w1 ⟨rfl, hF1⟩
          have b1 : w1.heap[w.heap.size]? = some (.cells #[vI G, .slice fa fs.length fc] 24) := (hF1.block _ (heap_lt0 ba) (fun e => e)).trans ba
          have c0 : w1.cell? ⟨w.heap.size, 0, none⟩ = some (vI G) := by rw [cell_of0 b1]; rfl
          have c1 : w1.cell? ⟨w.heap.size, 1, none⟩ = some (.slice fa fs.length fc) := by rw [cell_of0 b1]; rfl
          gi_wp2_with fail
          refine ⟨trivial, (fun h => by cases h), ?_⟩
          refine (callsIn_wide.2 (HT2.out w1 (hFa.trans hF1))).mono ?_
          rintro e w2 ⟨rfl, hF2⟩
          gi_wp2_with fail
          exact ⟨_, results_tmp2 rfl _ _ _, rfl, (hFa.trans hF1).trans hF2⟩
        · rw [decide_eq_false hck] at hra
          clear hck HTA
          gi_wp2_with fail
          refine ⟨trivial, (fun h => by cases h), ?_⟩
          refine (callsIn_wide.2 hra).mono ?_
          rintro e w1 ⟨rfl, hF1⟩
          gi_wp2_with fail
          refine ⟨trivial, ?_⟩
          gi_wp2_with fail
          exact ⟨_, results_tmp2 rfl _ _ _, rfl, hFa.trans hF1⟩
      · have e1 : ((ss.length : Int) != (fs.length : Int)) = true := by simp; omega
        have e2 : ((ss.length : Int) == (fs.length : Int)) = false := by simp; omega
        gi_wp2_with fail
        refine ⟨trivial, ?_⟩
        gi_wp2_with fail
        refine ⟨trivial, ?_⟩
        gi_wp2_with fail
        exact ⟨_, results_tmp2 rfl _ _ _, rfl, hFa⟩

/-- What Edges answers. -/
def EdgE (G : Int) (fs : List PF) (F : Int) (ss : List PS) (w : World) (e : Ending) (w' : World) : Prop :=
  Fr (fun _ => False) w w' ∧ ((¬ EdgOk G fs F ss ∧ e = .returned (.tuple #[.slice none 0 0, vI 1])) ∨
    ∃ (i : Nat) (h : i < fs.length), F = i ∧ ss.length = fs.length ∧ checkP G (aloneP fs fs[i]) = 0 ∧ toldX fs ss fs[i].code = true ∧ ∃ v, e = .returned (.tuple #[v, vI 0]) ∧ w'.ownsRow w.heap.size 47 3 v (edgX ss fs[i]).length ((edgX ss fs[i]).flatMap edC))
theorem edges_any (G : Int) (fv sv : Value) (fs : List PF) (ss : List PS) (F : Int) (w : World) (h1 : FA w fv fs) (h2 : SsA w sv ss) (b1 : FineP fs) (b2 : FineS ss) (hT : Tab w) (hR : RowsA w) :
    Calls Tryd.prog 9 #[.agg #[vI G, fv], vI F, sv] w (EdgE G fs F ss w) := by
  by_cases hok : EdgOk G fs F ss
  · obtain ⟨i, rfl, hi, hls, hck, htl⟩ := hok
    refine (callsIn_wide.1 (edges_ok_in 6 (by omega) G fv sv fs ss i hi w h1 h2 hls b1 b2 hT hR hck htl)).mono ?_
    rintro e w' ⟨v, he, ho, hf⟩
    exact ⟨hf, Or.inr ⟨i, hi, rfl, hls, hck, htl, v, he, ho⟩⟩
  · refine (callsIn_wide.1 (edges_bad_in 6 (by omega) G fv sv fs ss F w h1 h2 b1 b2 hT hok)).mono ?_
    rintro e w' ⟨he, hf⟩
    exact ⟨hf, Or.inl ⟨hok, he⟩⟩
end Go.Proofs.YtlmlmhinbkcpoaaDoor

namespace Go.Proofs.YtlmlmhinbkcpoaaDoor
open Go.RowKit Go.Shelf
set_option linter.unusedVariables false
set_option linter.unusedSimpArgs false

/-! ### the shape of the edges -/
theorem cellX_is {R V : Int} (hR : 0 ≤ R ∧ R ≤ 4) (hV : 0 ≤ V ∧ V ≤ 255) : cellX R V = 1 + R + V := by
  unfold cellX wrap64
  omega
theorem newsX_take (cs : List PI) (j : Nat) (hj : j < cs.length) : newsX (cs.take (j + 1)) = newsX (cs.take j) + (if cs[j].op = 6 then 1 else 0) := by
  rw [List.take_succ_eq_append_getElem hj, newsX_snoc]
theorem clX_is {R V : Int} (hR : 0 ≤ R ∧ R ≤ 4) (hV : 0 ≤ V ∧ V ≤ 255) (cs : List PI) (hl : cs.length ≤ 4096) : ∀ j, j ≤ cs.length → clX R V cs j = 1 + R + V + (newsX (cs.take j) : Nat)
  | 0, _ => by
    show cellX R V = _
    rw [cellX_is hR hV]
    simp [newsX]
  | j + 1, h => by
    have ih := clX_is hR hV cs hl j (by omega)
    have e : cs.getD j dPI = cs[j] := by simp [show j < cs.length by omega]
    have h1 := newsX_take cs j (by omega)
    have h2 := newsX_le (cs.take (j + 1))
    have h3 : (cs.take (j + 1)).length ≤ cs.length := by rw [List.length_take]; omega
    show (if (cs.getD j dPI).op = 6 then wrap64 (clX R V cs j + 1) else clX R V cs j) = _
    rw [e, h1, ih]
    split
    · unfold wrap64
      omega
    · simp
end Go.Proofs.YtlmlmhinbkcpoaaDoor

namespace Go.Proofs.YtlmlmhinbkcpoaaDoor
open Go.RowKit Go.Shelf
set_option linter.unusedVariables false
set_option linter.unusedSimpArgs false

section
variable {fs : List PF} {ss : List PS} {f : PF}
end
end Go.Proofs.YtlmlmhinbkcpoaaDoor

namespace Go.Proofs.YtlmlmhinbkcpoaaDoor
open Go.RowKit (wrap32 wrap64)
set_option linter.unusedVariables false
set_option linter.unusedSimpArgs false

theorem underL32 : Tryd.prog.underlying 32 = some (.slice 31) := by kernel_rfl
theorem own_slice {w : World} {B e sz n : Nat} {v : Value} {xs : List Value} (h : w.ownsRow B e sz v n xs) : ∃ a c, v = .slice a n c := by
  rcases h.2 with ⟨e, e2⟩ | ⟨g, cap, cur, e, -⟩
  · exact ⟨none, 0, by rw [e, e2]⟩
  · exact ⟨_, _, e⟩
/-- Lists of their own, in a row of its own, each apart from the others. -/
structure LO (w : World) (B : Nat) (rv : Value) (us : List Value) (ls : List (List Int)) : Prop where
  row : w.ownsRow B 31 1 rv us.length us
  ul : us.length = ls.length
  each : ∀ i (h : i < us.length) (h' : i < ls.length), IOwn w B us[i] ls[i]
  apart : ∀ i j (h : i < us.length) (h' : j < us.length), i ≠ j → ∀ k, us[i].ownBlock = some k → us[j].ownBlock ≠ some k
theorem LO.nil (w : World) (B : Nat) : LO w B (.slice none 0 0) [] [] := ⟨World.ownsRow_nil _ _ _ _, rfl, fun i h => by simp at h, fun i j h => by simp at h⟩
theorem LO.keep {w w' : World} {B : Nat} {rv : Value} {us : List Value} {ls : List (List Int)} (h : LO w B rv us ls) (f : Fr (fun _ => False) w w') : LO w' B rv us ls :=
  ⟨ownsRow_frL h.row f (fun _ _ e => e), h.ul, fun i hi hk => (h.each i hi hk).fr f (fun _ _ e => e), h.apart⟩
theorem LO.grow {w w6 : World} {B g cap : Nat} {rv x : Value} {us : List Value} {ls : List (List Int)} {l : List Int} (h : LO w B rv us ls) (hx : IOwn w B x l) (ha : ∀ i (hi : i < us.length), ∀ k, us[i].ownBlock = some k → x.ownBlock ≠ some k) (hg : w.grownBy w6 rv.ownBlock) (ho : w6.ownsRow B 31 1 (.slice (some ⟨g, 0, none⟩) (us.length + 1) cap) (us.length + 1) (us ++ [x])) :
    LO w6 B (.slice (some ⟨g, 0, none⟩) (us.length + 1) cap) (us ++ [x]) (ls ++ [l]) := by
  have f := grown_frL hg
  have ke : ∀ y s, IOwn w B y s → IOwn w6 B y s := fun y s hy => hy.fr f (fun j e e2 => own_apart h.row hy (by decide) j e e2)
  refine ⟨by rw [List.length_append]; exact ho, by rw [List.length_append, List.length_append, h.ul]; rfl, fun i hi hk => ?_, fun i j hi hj hne k e => ?_⟩
  · have hul := h.ul
    by_cases e : i < us.length
    · rw [List.getElem_append_left e, List.getElem_append_left (by omega)]
      exact ke _ _ (h.each i e (by omega))
    · have ei : i = us.length := by simp at hi; omega
      subst ei
      have e1 : (us ++ [x])[us.length] = x := by simp
      have e2 : (ls ++ [l])[us.length] = l := by simp [hul]
      rw [e1, e2]
      exact ke _ _ hx
  · have hi' : i < us.length + 1 := by simpa using hi
    have hj' : j < us.length + 1 := by simpa using hj
    by_cases ei : i < us.length
    · rw [List.getElem_append_left ei] at e
      by_cases ej : j < us.length
      · rw [List.getElem_append_left ej]; exact h.apart i j ei ej hne k e
      · have e3 : j = us.length := by omega
        subst e3
        have e1 : (us ++ [x])[us.length] = x := by simp
        rw [e1]; exact ha i ei k e
    · have e3 : i = us.length := by omega
      subst e3
      have e1 : (us ++ [x])[us.length] = x := by simp
      rw [e1] at e
      have ej : j < us.length := by omega
      rw [List.getElem_append_left ej]
      intro e2
      exact ha j ej k e2 e
theorem LO.la {w : World} {B : Nat} {rv : Value} {us : List Value} {ls : List (List Int)} (h : LO w B rv us ls) : LA w rv ls := by
  obtain ⟨ra, rc, erv⟩ := own_slice h.row
  refine ⟨ra, rc, by rw [erv, h.ul], fun hne => ?_⟩
  have hl0 : 0 < us.length := by rw [h.ul]; exact List.length_pos_iff.2 hne
  obtain ⟨g, cap, e, hgl, -⟩ := own_cell h.row (j := 0) (u := us[0]) (List.getElem?_eq_getElem hl0)
  rw [erv] at e
  cases e
  refine ⟨g, 0, rfl, hgl, fun j hj => ?_⟩
  have hj' : j < us.length := by rw [h.ul]; exact hj
  obtain ⟨g', cap', e', -, hc⟩ := own_cell h.row (j := j) (u := us[j]) (List.getElem?_eq_getElem hj')
  rw [erv] at e'
  cases e'
  exact ⟨us[j], by rw [Nat.zero_add]; exact hc, (h.each j hj' hj).ia⟩

/-- A summary of its own, list by list. -/
structure SO (w : World) (B : Nat) (hv rv : Value) (us : List Value) (s : PS) : Prop where
  oh : IOwn w B hv s.H
  lo : LO w B rv us s.R
  ap : ∀ i (h : i < us.length), ∀ k, us[i].ownBlock = some k → hv.ownBlock ≠ some k
theorem SO.keep {w w' : World} {B : Nat} {hv rv : Value} {us : List Value} {s : PS} (h : SO w B hv rv us s) (f : Fr (fun _ => False) w w') : SO w' B hv rv us s := ⟨h.oh.fr f (fun _ _ e => e), h.lo.keep f, h.ap⟩
theorem SO.sa {w : World} {B : Nat} {hv rv : Value} {us : List Value} {s : PS} (h : SO w B hv rv us s) : (IA w hv s.H ∧ LA w rv s.R) := ⟨h.oh.ia, h.lo.la⟩
theorem LO.fr {S : Nat → Prop} {w w' : World} {B : Nat} {rv : Value} {us : List Value} {ls : List (List Int)} (h : LO w B rv us ls) (f : Fr S w w') (hS : ∀ k, B ≤ k → ¬ S k) : LO w' B rv us ls :=
  ⟨ownsRow_frL h.row f (fun k e => hS k (World.ownsRow.lt h.row k e).1), h.ul, fun i hi hk => (h.each i hi hk).fr f (fun k e => hS k ((h.each i hi hk).ge k e).1), h.apart⟩

theorem LO.mono {w : World} {B B' : Nat} {rv : Value} {us : List Value} {ls : List (List Int)} (h : LO w B rv us ls) (hB : B' ≤ B) : LO w B' rv us ls := ⟨World.ownsRow.mono h.row hB, h.ul, fun i hi hk => (h.each i hi hk).mono hB, h.apart⟩
end Go.Proofs.YtlmlmhinbkcpoaaDoor

namespace Go.Proofs.YtlmlmhinbkcpoaaDoor
open Go.RowKit (wrap32 wrap64)
set_option linter.unusedVariables false
set_option linter.unusedSimpArgs false

abbrev SI := PS × Value × Value × List Value
abbrev rowS (x : SI) : List Value := [x.2.1, x.2.2.1]
/-- Summaries of one's own. -/
structure SsO (w : World) (B : Nat) (v : Value) (L : List SI) : Prop where
  row : w.ownsRow B 34 2 v L.length (L.flatMap rowS)
  each : ∀ x ∈ L, SO w B x.2.1 x.2.2.1 x.2.2.2 x.1
theorem SsO.sa {w : World} {B : Nat} {v : Value} {L : List SI} (h : SsO w B v L) : SsA w v (L.map (·.1)) := by
  rcases h.row.2 with ⟨h2, h3⟩ | ⟨g, cap, cur, e, -⟩
  · refine ⟨none, 0, by rw [h2, List.length_map, h3], fun hne => ?_⟩
    exact absurd (by rw [List.eq_nil_of_length_eq_zero h3]; rfl) hne
  · refine ⟨some ⟨g, 0, none⟩, cap, by rw [e, List.length_map], fun _ => ⟨g, 0, rfl, (World.ownsRow.lt h.row g (by rw [e]; rfl)).2, fun j hj => ?_⟩⟩
    have hj' : j < L.length := by simpa using hj
    have pc : ∀ o u, o < 2 → (rowS L[j])[o]? = some u → w.cell? ⟨g, j * 2 + o, none⟩ = some u := fun o u ho hu => by
      obtain ⟨g', cap', e', -, hc⟩ := own_cell h.row (j := j * 2 + o) (u := u) (by rw [flat_get rowS 2 (fun _ => rfl) L j o hj' ho]; exact hu)
      rw [e] at e'
      cases e'
      exact hc
    have hi := (h.each L[j] (List.getElem_mem hj')).sa
    rw [Nat.zero_add]
    simp only [List.getElem_map]
    exact ⟨L[j].2.1, L[j].2.2.1, pc 0 _ (by omega) rfl, pc 1 _ (by omega) rfl, hi.1, hi.2⟩
theorem SsO.stay {w w' : World} {B : Nat} {v : Value} {L : List SI} (h : SsO w B v L) (f : Fr (fun _ => False) w w') : SsO w' B v L := ⟨ownsRow_frL h.row f (fun _ _ e => e), fun x hx => (h.each x hx).keep f⟩
theorem SO.mono {w : World} {B B' : Nat} {hv rv : Value} {us : List Value} {s : PS} (h : SO w B hv rv us s) (hB : B' ≤ B) : SO w B' hv rv us s := ⟨h.oh.mono hB, h.lo.mono hB, h.ap⟩
theorem SO.other {S : Nat → Prop} {w w' : World} {B : Nat} {hv rv : Value} {us : List Value} {s : PS} (h : SO w B hv rv us s) (f : Fr S w w') (h1 : ∀ k, hv.ownBlock = some k → ¬ S k) (h2 : ∀ k, rv.ownBlock = some k → ¬ S k) (h3 : ∀ i (h : i < us.length), ∀ k, us[i].ownBlock = some k → ¬ S k) : SO w' B hv rv us s :=
  ⟨h.oh.fr f h1, ⟨ownsRow_frL h.lo.row f h2, h.lo.ul, fun i hi hk => (h.lo.each i hi hk).fr f (h3 i hi), h.lo.apart⟩, h.ap⟩
theorem under25 : Tryd.prog.underlying 25 = some (.slice 34) := by kernel_rfl

end Go.Proofs.YtlmlmhinbkcpoaaDoor
