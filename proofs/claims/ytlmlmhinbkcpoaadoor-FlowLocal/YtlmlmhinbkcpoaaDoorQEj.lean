import Derived.Test.YtlmlmhinbkcpoaaDoorQEi
namespace Go.Proofs.YtlmlmhinbkcpoaaDoor
open Go.RowKit Go.Shelf
set_option linter.unusedVariables false
set_option linter.unusedSimpArgs false
attribute [local go_sem] Oper.semAt_some

/-- Does Edges answer edges? -/
def EdgOk (G : Int) (fs : List PF) (F : Int) (ss : List PS) : Prop := ∃ i : Nat, F = i ∧ ∃ h : i < fs.length, ss.length = fs.length ∧ checkP G (aloneP fs fs[i]) = 0 ∧ toldX fs ss fs[i].code = true

set_option maxRecDepth 100000 in
set_option maxHeartbeats 4000000 in
theorem edges_bad_in (n : Nat) (hn : 6 ≤ n) (G : Int) (fv sv : Value) (fs : List PF) (ss : List PS) (F : Int) (w : World) (h1 : FA w fv fs) (h2 : SsA w sv ss) (b1 : FineP fs) (b2 : FineS ss) (hT : Tab w) (hbad : ¬ EdgOk G fs F ss) :
    CallsIn Fence.wide n Tryd.prog 9 #[.agg #[vI G, fv], vI F, sv] w fun e w' => e = .returned (.tuple #[.slice none 0 0, vI 1]) ∧ Fr (fun _ => False) w w' := by
  have HRA : Hd (∀ i (hi : i < fs.length), Calls Tryd.prog 28 #[.agg #[vI G, fv], vI (i : Int)] (w.alloc (.cells #[vI G, fv] 24)) fun e w' => e = .returned (.bool (decide (checkP G (aloneP fs fs[i]) = 0))) ∧ Fr (fun _ => False) (w.alloc (.cells #[vI G, fv] 24)) w') := fun i hi =>
    right_any G fv fs i hi (w.alloc (.cells #[vI G, fv] 24)) (h1.stay (Fr.alloc (Fr.refl _ w) _)) b1 (hT.stay (Fr.alloc (Fr.refl _ w) _))
  have HTA : Hd (∀ i (hi : i < fs.length), ss.length = fs.length → checkP G (aloneP fs fs[i]) = 0 → toldX fs ss fs[i].code = false → ∀ w1, Fr (fun _ => False) w w1 → Calls Tryd.prog 29 #[.agg #[vI G, fv], vI (i : Int), sv] w1 fun e w' => e = .returned (.bool false) ∧ Fr (fun _ => False) w1 w') := fun i hi hls hck htl w1 hF => by
    have := told_any G fv sv fs ss i hi w1 (h1.stay hF) (h2.stay hF) hls b1 b2 (fun c hc e => by
      obtain ⟨q, hq, hqf, -⟩ := (right_ok hck).call c hc e
      omega)
    rw [htl] at this
    exact this
  obtain ⟨fa, fc, efv, -⟩ := h1
  obtain ⟨sa, sc, esv, -⟩ := h2
  subst efv esv
  have hFa : Fr (fun _ => False) w (w.alloc (.cells #[vI G, .slice fa fs.length fc] 24)) := Fr.alloc (Fr.refl _ w) _
  have ba : (w.alloc (.cells #[vI G, .slice fa fs.length fc] 24)).heap[w.heap.size]? = some (.cells #[vI G, .slice fa fs.length fc] 24) := heap_new0 w _
  clear hT b1 b2
  refine callsIn_of_wp_marks Tryd.func9 rfl trivial ?_ rfl
  simp only [Tryd.ntmps9, List.size_toArray, List.length_cons, List.length_nil, Nat.reduceAdd, Nat.reduceSub, Array.replicate_succ, Array.replicate_zero, List.push_toArray, List.append_toArray, List.nil_append, List.cons_append]
  by_cases h0 : F < 0
  · have d1 : decide (F < 0) = true := by simpa using h0
    gi_wp2_with fail
    refine ⟨trivial, ?_⟩
    gi_wp2_with fail
    refine ⟨trivial, ?_⟩
    gi_wp2_with fail
    exact ⟨_, results_tmp2 rfl _ _ _, rfl, hFa⟩
  · have d1 : decide (F < 0) = false := by simpa using h0
    by_cases hF : F ≥ fs.length
    · have d2 : decide (F ≥ (fs.length : Int)) = true := by simpa using hF
      have d3 : decide ((fs.length : Int) ≤ F) = true := by simpa using hF
      gi_wp2_with fail
      refine ⟨trivial, ?_⟩
      gi_wp2_with fail
      refine ⟨trivial, ?_⟩
      gi_wp2_with fail
      exact ⟨_, results_tmp2 rfl _ _ _, rfl, hFa⟩
    · obtain ⟨i, rfl⟩ : ∃ i : Nat, F = i := ⟨F.toNat, by omega⟩
      have hi : i < fs.length := by omega
      have d2 : decide ((i : Int) ≥ (fs.length : Int)) = false := by simpa using hF
      have d3 : decide ((fs.length : Int) ≤ i) = false := by simpa using hF
      have d4 : decide (fs.length ≤ i) = false := by simp; omega
      by_cases hls : ss.length = fs.length
      · have e1 : ((ss.length : Int) != (fs.length : Int)) = false := by simp [hls]
        have e2 : ((ss.length : Int) == (fs.length : Int)) = true := by simp [hls]
        have HLS : Hd (ss.length = fs.length) := hls
        have HBAD : Hd (¬ EdgOk G fs i ss) := hbad
        have hra := HRA.out i hi
        clear hls hbad HRA
        by_cases hck : checkP G (aloneP fs fs[i]) = 0
        · have htl : toldX fs ss fs[i].code = false := by
            cases ht : toldX fs ss fs[i].code with
            | false => rfl
            | true => exact absurd ⟨i, rfl, hi, HLS.out, hck, ht⟩ HBAD.out
          have HT2 : Hd (∀ w1, Fr (fun _ => False) w w1 → Calls Tryd.prog 29 #[.agg #[vI G, .slice fa fs.length fc], vI (i : Int), .slice sa ss.length sc] w1 fun e w' => e = .returned (.bool false) ∧ Fr (fun _ => False) w1 w') := HTA.out i hi HLS.out hck htl
          rw [hck] at hra
          clear hck htl HTA
          gi_wp2_with fail
          refine ⟨trivial, (fun h => by cases h), ?_⟩
          refine (callsIn_wide.2 hra).mono ?_
          rintro e w1 ⟨rfl, hF1⟩
          have b1 : w1.heap[w.heap.size]? = some (.cells #[vI G, .slice fa fs.length fc] 24) := (hF1.block _ (heap_lt0 ba) (fun e => e)).trans ba
          have c0 : w1.cell? ⟨w.heap.size, 0, none⟩ = some (vI G) := by rw [cell_of0 b1]; rfl
          have c1 : w1.cell? ⟨w.heap.size, 1, none⟩ = some (.slice fa fs.length fc) := by rw [cell_of0 b1]; rfl
          gi_wp2_with fail
          refine ⟨trivial, (fun h => by cases h), ?_⟩
          refine (callsIn_wide.2 (HT2.out w1 (hFa.trans hF1))).mono ?_
          rintro e w2 ⟨rfl, hF2⟩
          gi_wp2_with fail
          exact ⟨_, results_tmp2 rfl _ _ _, rfl, (hFa.trans hF1).trans hF2⟩
        · rw [decide_eq_false hck] at hra
          clear hck HTA
          gi_wp2_with fail
          refine ⟨trivial, (fun h => by cases h), ?_⟩
          refine (callsIn_wide.2 hra).mono ?_
          rintro e w1 ⟨rfl, hF1⟩
          gi_wp2_with fail
          refine ⟨trivial, ?_⟩
          gi_wp2_with fail
          exact ⟨_, results_tmp2 rfl _ _ _, rfl, hFa.trans hF1⟩
      · have e1 : ((ss.length : Int) != (fs.length : Int)) = true := by simp; omega
        have e2 : ((ss.length : Int) == (fs.length : Int)) = false := by simp; omega
        gi_wp2_with fail
        refine ⟨trivial, ?_⟩
        gi_wp2_with fail
        refine ⟨trivial, ?_⟩
        gi_wp2_with fail
        exact ⟨_, results_tmp2 rfl _ _ _, rfl, hFa⟩

/-- What Edges answers. -/
def EdgE (G : Int) (fs : List PF) (F : Int) (ss : List PS) (w : World) (e : Ending) (w' : World) : Prop :=
  Fr (fun _ => False) w w' ∧ ((¬ EdgOk G fs F ss ∧ e = .returned (.tuple #[.slice none 0 0, vI 1])) ∨
    ∃ (i : Nat) (h : i < fs.length), F = i ∧ ss.length = fs.length ∧ checkP G (aloneP fs fs[i]) = 0 ∧ toldX fs ss fs[i].code = true ∧ ∃ v, e = .returned (.tuple #[v, vI 0]) ∧ w'.ownsRow w.heap.size 47 3 v (edgX ss fs[i]).length ((edgX ss fs[i]).flatMap edC))
theorem edges_any (G : Int) (fv sv : Value) (fs : List PF) (ss : List PS) (F : Int) (w : World) (h1 : FA w fv fs) (h2 : SsA w sv ss) (b1 : FineP fs) (b2 : FineS ss) (hT : Tab w) (hR : RowsA w) :
    Calls Tryd.prog 9 #[.agg #[vI G, fv], vI F, sv] w (EdgE G fs F ss w) := by
  by_cases hok : EdgOk G fs F ss
  · obtain ⟨i, rfl, hi, hls, hck, htl⟩ := hok
    refine (callsIn_wide.1 (edges_ok_in 6 (by omega) G fv sv fs ss i hi w h1 h2 hls b1 b2 hT hR hck htl)).mono ?_
    rintro e w' ⟨v, he, ho, hf⟩
    exact ⟨hf, Or.inr ⟨i, hi, rfl, hls, hck, htl, v, he, ho⟩⟩
  · refine (callsIn_wide.1 (edges_bad_in 6 (by omega) G fv sv fs ss F w h1 h2 b1 b2 hT hok)).mono ?_
    rintro e w' ⟨he, hf⟩
    exact ⟨hf, Or.inl ⟨hok, he⟩⟩
end Go.Proofs.YtlmlmhinbkcpoaaDoor
