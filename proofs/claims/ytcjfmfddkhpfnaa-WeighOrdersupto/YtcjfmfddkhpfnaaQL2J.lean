import Derived.Test.YtcjfmfddkhpfnaaQA1J
namespace Go.Proofs.Ytcjfmfddkhpfnaa
set_option linter.unusedVariables false
set_option linter.unusedSimpArgs false

/-! ### the plain law: edges by their Dst -/
def eg (es : List Ed) (j : Nat) : Ed := es.getD j (0, 0, 0)
def dn (es : List Ed) (j : Nat) : Nat := (eg es j).1.toNat
/-- How many of the first edges flow into a location. -/
def cnt (es : List Ed) : Nat → Nat → Nat
  | 0, _ => 0
  | i + 1, l => cnt es i l + if dn es i = l then 1 else 0
/-- Where a location's edges begin. -/
def beg (es : List Ed) : Nat → Nat
  | 0 => 0
  | l + 1 => beg es l + cnt es es.length l
/-- Where an edge comes to stand. -/
def pos (es : List Ed) (j : Nat) : Nat := beg es (dn es j + 1) - 1 - cnt es j (dn es j)

theorem cnt_mono (es : List Ed) (l : Nat) {i j : Nat} (h : i ≤ j) : cnt es i l ≤ cnt es j l := by
  induction j with
  | zero => rw [show i = 0 by omega]; exact Nat.le_refl _
  | succ j ih =>
    by_cases e : i = j + 1
    · rw [e]; exact Nat.le_refl _
    · have := ih (by omega)
      simp only [cnt]
      omega
theorem cnt_lt (es : List Ed) {i j : Nat} (h : i < j) : cnt es i (dn es i) < cnt es j (dn es i) := by
  have := cnt_mono es (dn es i) (show i + 1 ≤ j from h)
  simp only [cnt, if_true] at this
  omega
theorem beg_mono (es : List Ed) {i j : Nat} (h : i ≤ j) : beg es i ≤ beg es j := by
  induction j with
  | zero => rw [show i = 0 by omega]; exact Nat.le_refl _
  | succ j ih =>
    by_cases e : i = j + 1
    · rw [e]; exact Nat.le_refl _
    · have := ih (by omega)
      simp only [beg]
      omega
theorem cnt_hits (es : List Ed) (l : Nat) : ∀ (N k : Nat), k < cnt es N l → ∃ j, j < N ∧ dn es j = l ∧ cnt es j l = k
  | 0, k, h => by simp [cnt] at h
  | N + 1, k, h => by
    by_cases hk : k < cnt es N l
    · obtain ⟨j, h1, h2⟩ := cnt_hits es l N k hk
      exact ⟨j, by omega, h2⟩
    · simp only [cnt] at h
      split at h
      · rename_i e
        exact ⟨N, by omega, e, by omega⟩
      · omega

def sumTo (f : Nat → Nat) : Nat → Nat
  | 0 => 0
  | l + 1 => sumTo f l + f l
theorem sumTo_congr {f g : Nat → Nat} : ∀ {n : Nat}, (∀ l, l < n → f l = g l) → sumTo f n = sumTo g n
  | 0, _ => rfl
  | n + 1, h => by simp only [sumTo]; rw [sumTo_congr (fun l hl => h l (by omega)), h n (by omega)]
theorem sumTo_add (f g : Nat → Nat) : ∀ n, sumTo (fun l => f l + g l) n = sumTo f n + sumTo g n
  | 0 => rfl
  | n + 1 => by simp only [sumTo]; rw [sumTo_add f g n]; omega
theorem sumTo_zero : ∀ n, sumTo (fun _ => 0) n = 0
  | 0 => rfl
  | n + 1 => by simp only [sumTo]; rw [sumTo_zero n]
theorem sumTo_ite (d : Nat) : ∀ n, sumTo (fun l => if d = l then 1 else 0) n = if d < n then 1 else 0
  | 0 => by simp [sumTo]
  | n + 1 => by
    simp only [sumTo]
    rw [sumTo_ite d n]
    by_cases h1 : d < n
    · rw [if_pos h1, if_neg (by omega), if_pos (by omega)]
    · by_cases h2 : d = n
      · rw [if_neg h1, if_pos h2, if_pos (by omega)]
      · rw [if_neg h1, if_neg h2, if_neg (by omega)]
theorem beg_sum (es : List Ed) : ∀ n, beg es n = sumTo (cnt es es.length) n
  | 0 => rfl
  | n + 1 => by simp only [beg, sumTo]; rw [beg_sum es n]
theorem cnt_sum (es : List Ed) (n : Nat) : ∀ i, (∀ j, j < i → dn es j < n) → sumTo (cnt es i) n = i
  | 0, _ => sumTo_zero n
  | i + 1, h => by
    have e : sumTo (cnt es (i + 1)) n = sumTo (fun l => cnt es i l + if dn es i = l then 1 else 0) n := rfl
    rw [e, sumTo_add, cnt_sum es n i (fun j hj => h j (by omega)), sumTo_ite, if_pos (h i (by omega))]
theorem cnt_none (es : List Ed) (l : Nat) : ∀ i, (∀ j, j < i → dn es j ≠ l) → cnt es i l = 0
  | 0, _ => rfl
  | i + 1, h => by
    simp only [cnt]
    rw [cnt_none es l i (fun j hj => h j (by omega)), if_neg (h i (by omega))]

section
variable {n : Nat} {es : List Ed}
theorem eg_mem {j : Nat} (hj : j < es.length) : eg es j ∈ es := by
  unfold eg
  rw [List.getD_eq_getElem?_getD, List.getElem?_eq_getElem hj]
  exact List.getElem_mem hj
theorem dn_lt (hR : ∀ e ∈ es, RightE n e) {j : Nat} (hj : j < es.length) : dn es j < n ∧ ((dn es j : Nat) : Int) = (eg es j).1 := by
  have := (hR _ (eg_mem hj)).1
  unfold dn
  omega
theorem beg_all (hR : ∀ e ∈ es, RightE n e) : beg es n = es.length := by
  rw [beg_sum]
  exact cnt_sum es n es.length (fun j hj => (dn_lt hR hj).1)
theorem beg_more (hR : ∀ e ∈ es, RightE n e) : beg es (n + 1) = es.length := by
  simp only [beg]
  rw [beg_all hR, cnt_none es n es.length (fun j hj => by have := (dn_lt hR hj).1; omega)]
  rfl
theorem pos_in {j : Nat} (hj : j < es.length) : beg es (dn es j) ≤ pos es j ∧ pos es j < beg es (dn es j + 1) ∧ pos es j + 1 + cnt es j (dn es j) = beg es (dn es j + 1) := by
  have h1 := cnt_lt es hj
  have h2 : beg es (dn es j + 1) = beg es (dn es j) + cnt es es.length (dn es j) := rfl
  unfold pos
  omega
theorem pos_lt (hR : ∀ e ∈ es, RightE n e) {j : Nat} (hj : j < es.length) : pos es j < es.length := by
  have h1 := (pos_in hj).2.1
  have h2 := beg_mono es (show dn es j + 1 ≤ n from (dn_lt hR hj).1)
  rw [beg_all hR] at h2
  omega
theorem pos_ne {i j : Nat} (hj : j < i) (hi : i < es.length) : pos es j ≠ pos es i := by
  have h1 := pos_in (show j < es.length by omega)
  have h2 := pos_in hi
  rcases Nat.lt_trichotomy (dn es j) (dn es i) with h | h | h
  · have := beg_mono es (show dn es j + 1 ≤ dn es i from h)
    omega
  · have := cnt_lt es hj
    rw [h] at this h1
    omega
  · have := beg_mono es (show dn es i + 1 ≤ dn es j from h)
    omega
end

/-- Edges by their Dst: where each location's begin, and what stands there. -/
structure ByD (n : Nat) (es : List Ed) (A : Nat → Ed) (F : Nat → Nat) : Prop where
  le : ∀ l, l < n → F l ≤ F (l + 1)
  top : ∀ l, l ≤ n → F l ≤ es.length
  just : ∀ l p, l < n → F l ≤ p → p < F (l + 1) → A p ∈ es ∧ (A p).1 = l
  all : ∀ l e, l < n → e ∈ es → e.1 = (l : Nat) → ∃ p, F l ≤ p ∧ p < F (l + 1) ∧ A p = e

theorem ByD.mk' {n : Nat} {es : List Ed} {A : Nat → Ed} (hR : ∀ e ∈ es, RightE n e) (hA : ∀ j, j < es.length → A (pos es j) = eg es j) : ByD n es A (beg es) where
  le := fun l _ => beg_mono es (Nat.le_succ l)
  top := fun l hl => by have := beg_mono es hl; rw [beg_all hR] at this; exact this
  just := by
    intro l p hl h1 h2
    have h3 : beg es (l + 1) = beg es l + cnt es es.length l := rfl
    obtain ⟨j, hj, h4, h5⟩ := cnt_hits es l es.length (beg es (l + 1) - 1 - p) (by omega)
    have h6 : pos es j = p := by unfold pos; rw [h4, h5]; omega
    have h7 := hA j hj
    rw [h6] at h7
    rw [h7]
    exact ⟨eg_mem hj, by rw [← (dn_lt hR hj).2, h4]⟩
  all := by
    intro l e hl he hd
    obtain ⟨j, hj, rfl⟩ := List.getElem_of_mem he
    have e1 : eg es j = es[j] := by unfold eg; rw [List.getD_eq_getElem?_getD, List.getElem?_eq_getElem hj]; rfl
    have e2 : dn es j = l := by unfold dn; rw [e1, hd]; simp
    have h1 := pos_in hj
    rw [e2] at h1
    exact ⟨pos es j, h1.1, h1.2.1, by rw [hA j hj, e1]⟩

end Go.Proofs.Ytcjfmfddkhpfnaa

namespace Go.Proofs.Ytcjfmfddkhpfnaa
open Go.RowKit (wrap32 wrap64)
set_option linter.unusedVariables false
set_option linter.unusedSimpArgs false

set_option maxRecDepth 100000 in
set_option maxHeartbeats 1000000 in
theorem right_any (n : Int) (ev rv : Value) (es : List Ed) (rs : List Int) (w : World) (hE : EdgesAt w.heap.size w ev es) (hR : IntsAt w.heap.size w rv rs) (hel : es.length ≤ 100000000000000) (hrl : rs.length ≤ 100000000000000) :
    Calls Try.prog 22 #[.int .i64 n, ev, rv] w fun e w' => e = .returned (.bool (decide (RightG n es rs))) ∧ Fr (fun _ => False) w w' := by
  obtain ⟨ea, ec, rfl, -, hein⟩ := hE
  obtain ⟨ra, rc, rfl, -, hrin⟩ := hR
  have HE : Hd _ := hein
  have HR : Hd _ := hrin
  clear hein hrin
  by_cases hn0 : n < 0
  · go_enter Try.func22, Try.ntmps22
    go_wp2_with fail
    go_ret
    refine ⟨?_, Fr.refl _ _⟩
    rw [decide_eq_false (fun h => by have := h.1; omega)]
    rfl
  by_cases hn1 : 1048576 < n
  · go_enter Try.func22, Try.ntmps22
    go_wp2_with fail
    go_ret
    refine ⟨?_, Fr.refl _ _⟩
    rw [decide_eq_false (fun h => by have := h.1; omega)]
    rfl
  have hn0' : decide (n < 0) = false := by simpa using hn0
  have hn1' : decide (1048576 < n) = false := by simpa using hn1
  go_enter Try.func22, Try.ntmps22
  go_wp2_with fail
  go_loopw [19] (fun v wr => ∃ (k : Nat), v = .int .i64 k ∧ k ≤ es.length ∧ Hd (∀ e ∈ es.take k, RightE n e) ∧ Hd (Fr (fun _ => False) w wr)) (fun v _ => match v with | .int _ q => es.length - q.toNat | _ => 0)
  case atStart => exact ⟨0, rfl, Nat.zero_le _, fun e h => by simp at h, Fr.refl _ _⟩
  case round =>
    obtain ⟨k, rfl, hk, HA, HF⟩ := hrel
    by_cases hlt : k < es.length
    · obtain ⟨pk, po, rfl, hpk, hcs⟩ := HE.out (by intro e; simp [e] at hlt)
      obtain ⟨c0, c1, c2⟩ := hcs k hlt
      have p0 := (HF.out.cell (o := po + k * 3) hpk (fun h => h)).trans c0
      have p1 := (HF.out.cell (o := po + k * 3 + 1) hpk (fun h => h)).trans c1
      have p2 := (HF.out.cell (o := po + k * 3 + 2) hpk (fun h => h)).trans c2
      clear hcs c0 c1 c2
      have HT : Hd (es.take (k + 1) = es.take k ++ [es[k]]) := by
        unfold Hd; rw [List.take_add_one, List.getElem?_eq_getElem hlt]; rfl
      have HM : Hd (es[k] ∈ es) := List.getElem_mem hlt
      obtain ⟨e, he⟩ : ∃ e, es[k] = e := ⟨_, rfl⟩
      rw [he] at p0 p1 p2 HT HM
      clear he
      obtain ⟨d, s, q⟩ := e
      have hk0 : (0 : Int) ≤ k := by omega
      have hk1 : (k : Int) < es.length := by omega
      have hF1 : Hd (Fr (fun _ => False) w (wr.alloc (.cells #[vI d, vI s, vI q] 27))) := HF.out.alloc _
      by_cases hd : 0 ≤ d ∧ d < n
      · by_cases hs : 0 ≤ s ∧ s < n
        · cases hq : flowsX q
          · go_wp2_with fail
            refine (below_any d n _).mono ?_
            rintro e w2 ⟨rfl, rfl⟩
            rw [decide_eq_true hd]
            go_wp2_with fail
            refine (below_any s n _).mono ?_
            rintro e w2 ⟨rfl, rfl⟩
            rw [decide_eq_true hs]
            go_wp2_with fail
            refine (flows_any q _).mono ?_
            rintro e w2 ⟨rfl, rfl⟩
            rw [hq]
            go_wp2_with fail
            go_ret
            refine ⟨?_, hF1.out⟩
            rw [decide_eq_false (fun h => by have := (h.2.1 _ HM.out).2.2; rw [hq] at this; cases this)]
            rfl
          · go_wp2_with fail
            refine (below_any d n _).mono ?_
            rintro e w2 ⟨rfl, rfl⟩
            rw [decide_eq_true hd]
            go_wp2_with fail
            refine (below_any s n _).mono ?_
            rintro e w2 ⟨rfl, rfl⟩
            rw [decide_eq_true hs]
            go_wp2_with fail
            refine (flows_any q _).mono ?_
            rintro e w2 ⟨rfl, rfl⟩
            rw [hq]
            go_wp2_with fail
            refine ⟨⟨k + 1, by simp, by omega, ?_, hF1.out⟩, by simp; omega⟩
            unfold Hd
            rw [HT.out]
            intro e hme
            rcases List.mem_append.1 hme with h | h
            · exact HA.out e h
            · rw [List.mem_singleton.1 h]; exact ⟨hd, hs, hq⟩
        · go_wp2_with fail
          refine (below_any d n _).mono ?_
          rintro e w2 ⟨rfl, rfl⟩
          rw [decide_eq_true hd]
          go_wp2_with fail
          refine (below_any s n _).mono ?_
          rintro e w2 ⟨rfl, rfl⟩
          rw [decide_eq_false hs]
          go_wp2_with fail
          go_ret
          refine ⟨?_, hF1.out⟩
          rw [decide_eq_false (fun h => hs (h.2.1 _ HM.out).2.1)]
          rfl
      · go_wp2_with fail
        refine (below_any d n _).mono ?_
        rintro e w2 ⟨rfl, rfl⟩
        rw [decide_eq_false hd]
        go_wp2_with fail
        go_ret
        refine ⟨?_, hF1.out⟩
        rw [decide_eq_false (fun h => hd (h.2.1 _ HM.out).1)]
        rfl
    · have hke : k = es.length := by omega
      have HA2 : Hd (∀ e ∈ es, RightE n e) := by have := HA.out; rw [hke, List.take_length] at this; exact this
      clear HA
      subst hke
      go_wp2_with fail
      go_loopw [44] (fun v wr => ∃ (k : Nat), v = .int .i64 k ∧ k ≤ rs.length ∧ Hd (∀ r ∈ rs.take k, 0 ≤ r ∧ r < n) ∧ Hd (Fr (fun _ => False) w wr)) (fun v _ => match v with | .int _ q => rs.length - q.toNat | _ => 0)
      case atStart => exact ⟨0, rfl, Nat.zero_le _, fun e h => by simp at h, HF.out⟩
      case round =>
        obtain ⟨k, rfl, hk, HA, HF⟩ := hrel
        by_cases hlt : k < rs.length
        · obtain ⟨pk, po, rfl, hpk, hcs⟩ := HR.out (by intro e; simp [e] at hlt)
          have p0 := (HF.out.cell (o := po + k) hpk (fun h => h)).trans (hcs k hlt)
          clear hcs
          have HT : Hd (rs.take (k + 1) = rs.take k ++ [rs[k]]) := by
            unfold Hd; rw [List.take_add_one, List.getElem?_eq_getElem hlt]; rfl
          have HM : Hd (rs[k] ∈ rs) := List.getElem_mem hlt
          obtain ⟨r, he⟩ : ∃ e, rs[k] = e := ⟨_, rfl⟩
          rw [he] at p0 HT HM
          clear he
          have hk0 : (0 : Int) ≤ k := by omega
          have hk1 : (k : Int) < rs.length := by omega
          by_cases hd : 0 ≤ r ∧ r < n
          · go_wp2_with fail
            refine (below_any r n _).mono ?_
            rintro e w2 ⟨rfl, rfl⟩
            rw [decide_eq_true hd]
            go_wp2_with fail
            refine ⟨⟨k + 1, by simp, by omega, ?_, HF.out⟩, by simp; omega⟩
            unfold Hd
            rw [HT.out]
            intro e hme
            rcases List.mem_append.1 hme with h | h
            · exact HA.out e h
            · rw [List.mem_singleton.1 h]; exact hd
          · go_wp2_with fail
            refine (below_any r n _).mono ?_
            rintro e w2 ⟨rfl, rfl⟩
            rw [decide_eq_false hd]
            go_wp2_with fail
            go_ret
            refine ⟨?_, HF.out⟩
            rw [decide_eq_false (fun h => hd (h.2.2 _ HM.out))]
            rfl
        · have hke : k = rs.length := by omega
          have HA3 : Hd (∀ r ∈ rs, 0 ≤ r ∧ r < n) := by have := HA.out; rw [hke, List.take_length] at this; exact this
          clear HA
          subst hke
          go_wp2_with fail
          go_ret
          refine ⟨?_, HF.out⟩
          rw [decide_eq_true ⟨⟨by omega, by omega⟩, HA2.out, HA3.out⟩]
          rfl

end Go.Proofs.Ytcjfmfddkhpfnaa
