import Derived.Test.YtlmlmhinbkcpoaaDoorQEj
namespace Go.Proofs.YtlmlmhinbkcpoaaDoor
open Go.RowKit Go.Shelf
set_option linter.unusedVariables false
set_option linter.unusedSimpArgs false

/-! ### the shape of the edges -/
theorem varX_is {R V v : Int} (hR : 0 ≤ R ∧ R ≤ 4) (hV : 0 ≤ V ∧ V ≤ 255) (hv : 0 ≤ v ∧ v < V) : varX R V v = 1 + R + v := by
  unfold varX
  rw [if_pos ⟨hR.1, hV.1, hv.1, hv.2⟩]
  unfold wrap64
  omega
theorem cellX_is {R V : Int} (hR : 0 ≤ R ∧ R ≤ 4) (hV : 0 ≤ V ∧ V ≤ 255) : cellX R V = 1 + R + V := by
  unfold cellX wrap64
  omega
theorem newsX_take (cs : List PI) (j : Nat) (hj : j < cs.length) : newsX (cs.take (j + 1)) = newsX (cs.take j) + (if cs[j].op = 6 then 1 else 0) := by
  rw [List.take_succ_eq_append_getElem hj, newsX_snoc]
theorem newsX_app : ∀ a b : List PI, newsX (a ++ b) = newsX a + newsX b
  | [], b => by simp [newsX]
  | x :: a, b => by
    have := newsX_app a b
    simp only [List.cons_append, newsX]
    omega
theorem newsX_take_le (cs : List PI) (j : Nat) : newsX (cs.take j) ≤ newsX cs := by
  have := newsX_app (cs.take j) (cs.drop j)
  rw [List.take_append_drop] at this
  omega
theorem clX_is {R V : Int} (hR : 0 ≤ R ∧ R ≤ 4) (hV : 0 ≤ V ∧ V ≤ 255) (cs : List PI) (hl : cs.length ≤ 4096) : ∀ j, j ≤ cs.length → clX R V cs j = 1 + R + V + (newsX (cs.take j) : Nat)
  | 0, _ => by
    show cellX R V = _
    rw [cellX_is hR hV]
    simp [newsX]
  | j + 1, h => by
    have ih := clX_is hR hV cs hl j (by omega)
    have e : cs.getD j dPI = cs[j] := by simp [show j < cs.length by omega]
    have h1 := newsX_take cs j (by omega)
    have h2 := newsX_le (cs.take (j + 1))
    have h3 : (cs.take (j + 1)).length ≤ cs.length := by rw [List.length_take]; omega
    show (if (cs.getD j dPI).op = 6 then wrap64 (clX R V cs j + 1) else clX R V cs j) = _
    rw [e, h1, ih]
    split
    · unfold wrap64
      omega
    · simp
/-- An edge as the document says it is. -/
structure Shp (R V : Int) (N : Nat) (x : Ed) : Prop where
  s1 : 1 + R ≤ x.2.1
  s2 : x.2.1 < 1 + R + V + N
  d1 : 0 ≤ x.1
  d2 : x.1 < 1 + R + V
  k1 : -1 ≤ x.2.2
  k2 : x.2.2 ≤ 3
  c1 : 1 + R + V ≤ x.2.1 → x.2.2 = -1
  c2 : x.2.2 = -1 → 1 + R ≤ x.1
theorem der_is {d : Int} (h : derOk d = true) (h9 : d ≠ 9) : 0 ≤ d ∧ d ≤ 3 := by
  unfold derOk at h
  simp [h9] at h
  exact h
theorem edgI_shp {fs : List PF} {ss : List PS} {f : PF} (hf : FunR fs f) (ht : toldX fs ss f.code = true) (hls : ss.length = fs.length) (N : Nat) (cell : Int) (c : PI) (hc : c ∈ f.code) (hcell : c.op = 6 → 1 + f.R + f.V ≤ cell ∧ cell < 1 + f.R + f.V + N) :
    ∀ x ∈ edgI ss f.R f.V cell c, Shp f.R f.V N x ∧ (1 + f.R + f.V ≤ x.2.1 → c.op = 6 ∧ x.2.1 = cell) := by
  have hR := hf.R
  have hV := hf.V
  have hN : (0 : Int) ≤ N := by omega
  intro x hx
  unfold edgI at hx
  split at hx
  · rename_i h15
    obtain ⟨k1, k2⟩ := hf.ret _ hc h15
    unfold retE at hx
    obtain ⟨j, hj, rfl⟩ := List.mem_map.1 hx
    have hj := List.mem_range.1 hj
    have hv := k2 _ (List.getElem_mem hj)
    have e : c.args[j]?.getD 0 = c.args[j] := by simp [hj]
    simp only [e]
    rw [varX_is hR hV hv]
    exact ⟨⟨by simp only; omega, by simp only; omega, by simp only; omega, by simp only; omega, by simp, by simp, (fun h => by first | omega | (simp only at h; omega)), fun h => by simp at h⟩, fun h => by first | omega | (simp only at h; omega)⟩
  · split at hx
    · rename_i h15 h11
      obtain ⟨q, hq, hqf, p1, p2, a1, a2, va, vr⟩ := hf.call _ hc h11
      have hqs : q < ss.length := by omega
      have hfit : fitsX ss[q] fs[q].P fs[q].R = true := by
        have := List.all_eq_true.1 ht _ hc
        unfold fitI at this
        rw [if_pos h11, hq] at this
        simpa [hqf, hqs] using this
      obtain ⟨l1, l2, l3, l4, l5⟩ := fits_len hfit
      have es : ss.getD c.n.toNat dPS = ss[q] := by rw [hq]; simp [hqs]
      rw [es] at hx
      unfold callT at hx
      obtain ⟨i, hi, hx⟩ := List.mem_flatMap.1 hx
      have hi := List.mem_range.1 hi
      have ha := va _ (List.getElem_mem hi)
      have e1 : c.args[i]?.getD 0 = c.args[i] := by simp [hi]
      have hiH : i < ss[q].H.length := by omega
      have hiR : i < ss[q].R.length := by omega
      have e2 : ss[q].H[i]?.getD 0 = ss[q].H[i] := by simp [hiH]
      have e3 : ss[q].R[i]?.getD [] = ss[q].R[i] := by simp [hiR]
      unfold oneE at hx
      rw [e1, e2, e3] at hx
      rcases List.mem_append.1 hx with hx | hx
      · unfold hE at hx
        split at hx
        · cases hx
        · rename_i h9
          obtain rfl := List.mem_singleton.1 hx
          have hd := der_is (l4 _ (List.getElem_mem hiH)) h9
          rw [varX_is hR hV ha]
          exact ⟨⟨by simp only; omega, by simp only; omega, by simp, by simp only; omega, by simp only; omega, by simp only; omega, fun h => by simp only at h; omega, fun h => by simp only at h; omega⟩, fun h => by first | omega | (simp only at h; omega)⟩
      · unfold gE at hx
        obtain ⟨j, hj, hx⟩ := List.mem_flatMap.1 hx
        have hj := List.mem_range.1 hj
        have hl := l3 _ (List.getElem_mem hiR)
        have hjr : j < c.rets.length := by omega
        have e4 : ss[q].R[i][j]?.getD 0 = ss[q].R[i][j] := by simp [hj]
        have e5 : c.rets[j]?.getD 0 = c.rets[j] := by simp [hjr]
        rw [e4, e5] at hx
        unfold rE at hx
        split at hx
        · cases hx
        · rename_i h9
          obtain rfl := List.mem_singleton.1 hx
          have hd := der_is (l5 _ (List.getElem_mem hiR) _ (List.getElem_mem hj)) h9
          have hb := vr _ (List.getElem_mem hjr)
          rw [varX_is hR hV ha, varX_is hR hV hb]
          exact ⟨⟨by simp only; omega, by simp only; omega, by simp only; omega, by simp only; omega, by simp only; omega, by simp only; omega, fun h => by simp only at h; omega, fun h => by simp only at h; omega⟩, fun h => by first | omega | (simp only at h; omega)⟩
    · split at hx
      · rename_i h15 h11 hr
        obtain rfl := List.mem_singleton.1 hx
        have hop := hf.op _ hc
        have hcs : c.op = 1 ∨ c.op = 2 ∨ c.op = 3 ∨ c.op = 4 ∨ c.op = 5 ∨ c.op = 6 ∨ c.op = 7 ∨ c.op = 8 ∨ c.op = 9 ∨ c.op = 10 ∨ c.op = 12 ∨ c.op = 13 ∨ c.op = 14 ∨ c.op = 16 ∨ c.op = 17 := by omega
        have hrr := hf.r _ hc
        have hss := hf.s _ hc
        clear hx
        rcases hcs with e | e | e | e | e | e | e | e | e | e | e | e | e | e | e
        all_goals rw [e] at hr
        all_goals first
          | exact absurd hr (by decide)
          | skip
        all_goals rw [e]
        all_goals simp only [show rowX (Int.toNat 2) = (1, 1, 2, 0) from rfl, show rowX (Int.toNat 5) = (1, 1, 2, -1) from rfl, show rowX (Int.toNat 6) = (1, 1, 3, -1) from rfl, show rowX (Int.toNat 7) = (1, 1, 2, 1) from rfl, show rowX (Int.toNat 8) = (1, 0, 2, 0) from rfl, show rowX (Int.toNat 10) = (1, 0, 2, 0) from rfl, endX]
        · have h1 := hrr (by omega)
          have h2 := hss (by omega)
          simp [varX_is hR hV h1, varX_is hR hV h2]
          exact ⟨⟨by simp only; omega, by simp only; omega, by simp only; omega, by simp only; omega, by simp, by simp, fun h => by simp only at h; omega, fun h => by simp at h⟩, h2.2⟩
        · have h1 := hrr (by omega)
          have h2 := hss (by omega)
          simp [varX_is hR hV h1, varX_is hR hV h2]
          exact ⟨⟨by simp only; omega, by simp only; omega, by simp only; omega, by simp only; omega, by simp, by simp, fun h => by simp only at h; omega, fun h => by simp only; omega⟩, h2.2⟩
        · have h1 := hrr (by omega)
          have h2 := hcell e
          simp [varX_is hR hV h1]
          exact ⟨by simp only; omega, by simp only; omega, by simp only; omega, by simp only; omega, by simp, by simp, fun h => rfl, fun h => by simp only; omega⟩
        · have h1 := hrr (by omega)
          have h2 := hss (by omega)
          simp [varX_is hR hV h1, varX_is hR hV h2]
          exact ⟨⟨by simp only; omega, by simp only; omega, by simp only; omega, by simp only; omega, by simp, by simp, fun h => by simp only at h; omega, fun h => by simp at h⟩, h2.2⟩
        · have h2 := hss (by omega)
          simp [varX_is hR hV h2]
          exact ⟨⟨by simp only; omega, by simp only; omega, by simp only; omega, by simp only; omega, by simp, by simp, fun h => by simp only at h; omega, fun h => by simp at h⟩, h2.2⟩
        · have h2 := hss (by omega)
          simp [varX_is hR hV h2]
          exact ⟨⟨by simp only; omega, by simp only; omega, by simp only; omega, by simp only; omega, by simp, by simp, fun h => by simp only at h; omega, fun h => by simp at h⟩, h2.2⟩
      · cases hx
end Go.Proofs.YtlmlmhinbkcpoaaDoor

namespace Go.Proofs.YtlmlmhinbkcpoaaDoor
open Go.RowKit Go.Shelf
set_option linter.unusedVariables false
set_option linter.unusedSimpArgs false

def cnt (l : List Ed) (c : Int) : Nat := (l.filter (fun x => x.2.1 == c)).length
theorem cnt_app (a b : List Ed) (c : Int) : cnt (a ++ b) c = cnt a c + cnt b c := by unfold cnt; rw [List.filter_append, List.length_append]
theorem cnt_snoc (a : List Ed) (x : Ed) (c : Int) : cnt (a ++ [x]) c = cnt a c + (if x.2.1 = c then 1 else 0) := by
  rw [cnt_app]
  congr 1
  unfold cnt
  rw [List.filter_cons]
  by_cases h : x.2.1 = c <;> simp [h]
theorem cnt_none {l : List Ed} {c : Int} (h : ∀ x ∈ l, x.2.1 ≠ c) : cnt l c = 0 := by
  unfold cnt
  rw [List.filter_eq_nil_iff.2 (fun x hx => by simpa using h x hx)]
  rfl
section
variable {fs : List PF} {ss : List PS} {f : PF}
theorem edgI_six (cell : Int) (c : PI) (h : c.op = 6) : edgI ss f.R f.V cell c = [(varX f.R f.V c.r, cell, -1)] := by
  unfold edgI
  rw [if_neg (by omega), if_neg (by omega), h]
  simp only [show rowX (Int.toNat 6) = (1, 1, 3, -1) from rfl, endX]
  simp
theorem edgI_cnt (hf : FunR fs f) (ht : toldX fs ss f.code = true) (hls : ss.length = fs.length) (N : Nat) (cell : Int) (c : PI) (hc : c ∈ f.code) (hcell : c.op = 6 → 1 + f.R + f.V ≤ cell ∧ cell < 1 + f.R + f.V + N) (c0 : Int) (h0 : 1 + f.R + f.V ≤ c0) :
    cnt (edgI ss f.R f.V cell c) c0 = if c.op = 6 ∧ cell = c0 then 1 else 0 := by
  by_cases h6 : c.op = 6
  · rw [edgI_six cell c h6]
    have := cnt_snoc [] (varX f.R f.V c.r, cell, -1) c0
    rw [List.nil_append] at this
    rw [this]
    simp [h6, cnt]
  · rw [if_neg (fun h => h6 h.1)]
    refine cnt_none (fun x hx e => ?_)
    have := (edgI_shp hf ht hls N cell c hc hcell x hx).2 (by omega)
    exact h6 this.1
theorem edg_pre (hf : FunR fs f) (ht : toldX fs ss f.code = true) (hls : ss.length = fs.length) : ∀ k, k ≤ f.code.length →
    (∀ x ∈ (List.range k).flatMap (fun j => edgI ss f.R f.V (clX f.R f.V f.code j) (f.code.getD j dPI)), Shp f.R f.V (newsX f.code) x) ∧
    ∀ c0, 1 + f.R + f.V ≤ c0 → cnt ((List.range k).flatMap (fun j => edgI ss f.R f.V (clX f.R f.V f.code j) (f.code.getD j dPI))) c0 = if c0 < 1 + f.R + f.V + (newsX (f.code.take k) : Nat) then 1 else 0
  | 0, _ => by
    refine ⟨fun x hx => by simp at hx, fun c0 h0 => ?_⟩
    rw [if_neg (by simp [newsX]; omega)]
    rfl
  | k + 1, hk => by
    obtain ⟨ih1, ih2⟩ := edg_pre hf ht hls k (by omega)
    have hR := hf.R
    have hV := hf.V
    have hl := hf.len
    have e : f.code.getD k dPI = f.code[k] := by simp [show k < f.code.length by omega]
    have hc : f.code[k] ∈ f.code := List.getElem_mem _
    have hcl := clX_is hR hV f.code (by omega) k (by omega)
    have hn := newsX_take f.code k (by omega)
    have hn2 := newsX_take_le f.code (k + 1)
    have hcell : f.code[k].op = 6 → 1 + f.R + f.V ≤ clX f.R f.V f.code k ∧ clX f.R f.V f.code k < 1 + f.R + f.V + newsX f.code := fun h => by
      rw [if_pos h] at hn
      omega
    rw [flat_succ, e]
    refine ⟨fun x hx => ?_, fun c0 h0 => ?_⟩
    · rcases List.mem_append.1 hx with hx | hx
      · exact ih1 x hx
      · exact (edgI_shp hf ht hls (newsX f.code) _ _ hc hcell x hx).1
    · rw [cnt_app, ih2 c0 h0, edgI_cnt hf ht hls (newsX f.code) _ _ hc hcell c0 h0, hn, hcl]
      by_cases h6 : f.code[k].op = 6
      · simp only [h6, if_true, true_and]
        by_cases h1 : c0 < 1 + f.R + f.V + (newsX (f.code.take k) : Nat)
        · rw [if_pos h1, if_neg (by omega), if_pos (by omega)]
        · rw [if_neg h1]
          by_cases h2 : 1 + f.R + f.V + (newsX (f.code.take k) : Nat) = c0
          · rw [if_pos h2, if_pos (by omega)]
          · rw [if_neg h2, if_neg (by omega)]
      · simp only [h6, if_false, false_and, Nat.add_zero]
theorem edg_all (hf : FunR fs f) (ht : toldX fs ss f.code = true) (hls : ss.length = fs.length) : (∀ x ∈ edgX ss f, Shp f.R f.V (newsX f.code) x) ∧ ∀ c0 : Int, 1 + f.R + f.V ≤ c0 → c0 < 1 + f.R + f.V + (newsX f.code : Nat) → cnt (edgX ss f) c0 = 1 := by
  obtain ⟨h1, h2⟩ := edg_pre hf ht hls f.code.length (Nat.le_refl _)
  refine ⟨h1, fun c0 k1 k2 => ?_⟩
  have := h2 c0 k1
  rw [List.take_length, if_pos k2] at this
  exact this
end
end Go.Proofs.YtlmlmhinbkcpoaaDoor
