import Derived.Test.YtcjfmfddkhpfnaaQC1
import Derived.Test.YtcjfmfddkhpfnaaQG1
namespace Go.Proofs.Ytcjfmfddkhpfnaa
open Go.RowKit (wrap32 wrap64)
set_option linter.unusedVariables false
set_option linter.unusedSimpArgs false

/-! ### CopyEdges -/
def CpEnds (w : World) (es : List Ed) (e : Ending) (w' : World) : Prop := ∃ cv, e = .returned cv ∧ OwnE w' w.heap.size cv es ∧ Fr (fun _ => False) w w'

set_option maxRecDepth 100000 in
set_option maxHeartbeats 1000000 in
theorem copyEdges_any (v : Value) (es : List Ed) (w : World) (hE : EdgesAt w.heap.size w v es) (hel : es.length ≤ 5864062014634) :
    Calls Try.prog 17 #[v] w (CpEnds w es) := by
  obtain ⟨ea, ec, rfl, -, hein⟩ := hE
  have HE : Hd _ := hein
  clear hein
  obtain ⟨i27, hi27, hz27, hs27, hb27⟩ := info_parts (P := Try.prog) (e := 27) (z := .agg #[vI 0, vI 0, vI 0]) (size := 3) (bytes := 24) (by kernel_rfl)
  go_enter Try.func17, Try.ntmps17
  go_wp2_with fail
  go_loopw [3, 4] (fun mv v wr => ∃ (k : Nat), v = .int .i64 k ∧ k ≤ es.length ∧ Hd (OwnE wr w.heap.size mv (es.take k)) ∧ Hd (Fr (fun _ => False) w wr)) (fun _ v _ => match v with | .int _ q => es.length - q.toNat | _ => 0)
  case atStart => exact ⟨0, rfl, Nat.zero_le _, OwnE.nil _ _, Fr.refl _ _⟩
  case round =>
    obtain ⟨k, rfl, hk, HO, HF⟩ := hrel
    by_cases hlt : k < es.length
    · obtain ⟨pk, po, rfl, hpk, hcs⟩ := HE.out (by intro e; simp [e] at hlt)
      obtain ⟨d0, d1, d2⟩ := hcs k hlt
      have p0 := (HF.out.cell (o := po + k * 3) hpk (fun h => h)).trans d0
      have p1 := (HF.out.cell (o := po + k * 3 + 1) hpk (fun h => h)).trans d1
      have p2 := (HF.out.cell (o := po + k * 3 + 2) hpk (fun h => h)).trans d2
      clear hcs d0 d1 d2
      have HT : Hd (es.take (k + 1) = es.take k ++ [es[k]]) := by unfold Hd; rw [List.take_add_one, List.getElem?_eq_getElem hlt]; rfl
      have HTL : Hd ((es.take k).length = k) := by unfold Hd; rw [List.length_take]; omega
      obtain ⟨e, he⟩ : ∃ e, es[k] = e := ⟨_, rfl⟩
      rw [he] at p0 p1 p2 HT
      clear he
      obtain ⟨e0, e1, e2⟩ := e
      simp only at p0 p1 p2
      obtain ⟨E, hE⟩ : ∃ E, E = es.take k := ⟨_, rfl⟩
      rw [← hE] at HO HT HTL
      clear hE
      have hk0 : (0 : Int) ≤ k := by omega
      have hk1 : (k : Int) < es.length := by omega
      have hsz := HF.out.size
      have HO1 : Hd ((wr.alloc (.cells #[vI e0, vI e1, vI e2] 27)).ownsRow w.heap.size 27 3 u3 E.length (eCells E)) := World.ownsRow.alloc HO.out _
      have hnews : ∀ j u, [vI e0, vI e1, vI e2][j]? = some u → (wr.alloc (.cells #[vI e0, vI e1, vI e2] 27)).cell? ((⟨wr.heap.size, 0, none⟩ : Addr).add j) = some u :=
        World.news_of_block (cs := #[vI e0, vI e1, vI e2]) (heap_alloc_last wr (.cells #[vI e0, vI e1, vI e2] 27))
      have hbase : w.heap.size ≤ (wr.alloc (.cells #[vI e0, vI e1, vI e2] 27)).heap.size := by simp; omega
      have hEl : E.length + 1 ≤ 5864062014634 := by have := HTL.out; omega
      go_wp2_with ((at_builtin; refine Hd.out ?_))
      unfold Hd
      refine wpList_append_lies _ rfl (.tmp 11) (.tmp 16) 24 rfl w.heap.size 27 i27 (.agg #[vI 0, vI 0, vI 0]) 3 24 under24 hi27 hz27 hs27 hb27 rfl (by omega) u3 E.length _ rfl HO1.out ⟨wr.heap.size, 0, none⟩ 1 1 [vI e0, vI e1, vI e2] rfl rfl hnews (by intro u hu; simp at hu; rcases hu with rfl | rfl | rfl <;> rfl) (by omega) (by unfold maxLen; omega) (by omega) hbase (wr.heap.size + 1) (by simp) ?_
      intro g6 cap6 w6 hown6 hgrow6 hat6 hlt6
      have HO6 : Hd (OwnE w6 w.heap.size (.slice (some ⟨g6, 0, none⟩) (E.length + 1) cap6) (E ++ [(e0, e1, e2)])) := OwnE.of (e := (e0, e1, e2)) hown6
      have HF6 : Hd (Fr (fun _ => False) w w6) := grow_fr0 (HF.out.alloc _) hgrow6 (fun k hk => (HO.out.ge k hk).1)
      clear hown6 hgrow6 hat6 hlt6 HO HF HO1 hnews hbase p0 p1 p2
      go_wp2_with fail
      refine ⟨⟨k + 1, by simp, by omega, ?_, HF6.out⟩, by simp; omega⟩
      unfold Hd; rw [HT.out]; exact HO6.out
    · have hke : k = es.length := by omega
      subst hke
      have HO2 : Hd (OwnE wr w.heap.size u3 es) := by have := HO.out; rw [List.take_length] at this; exact this
      clear HO
      go_wp2_with fail
      go_ret
      exact ⟨u3, rfl, HO2.out, HF.out⟩

theorem eCells_set : ∀ (es : List Ed) (k : Nat) (h : k < es.length) (d : Int), (eCells es).set (k * 3 + 2) (vI d) = eCells (es.set k (es[k].1, es[k].2.1, d))
  | e :: r, 0, _, d => rfl
  | e :: r, k + 1, h, d => by
    have := eCells_set r k (by simpa using h) d
    rw [show (k + 1) * 3 + 2 = k * 3 + 2 + 1 + 1 + 1 by omega]
    simp only [eCells, List.set_cons_succ, List.getElem_cons_succ]
    rw [this]
/-- One edge's derefs written over. -/
theorem OwnE.setD {w : World} {B g cap : Nat} {es : List Ed} (h : OwnE w B (.slice (some ⟨g, 0, none⟩) es.length cap) es) (k : Nat) (hk : k < es.length) (d : Int) :
    OwnE (w.setCell ⟨g, k * 3 + 2, none⟩ (vI d)) B (.slice (some ⟨g, 0, none⟩) es.length cap) (es.set k (es[k].1, es[k].2.1, d)) := by
  rcases h.2 with ⟨h2, -⟩ | ⟨g', cap', cur, e, h3, h4, h5, h6, h7, h8⟩
  · cases h2
  · cases e
    refine ⟨by rw [eCells_length], Or.inr ⟨g, cap, cur.setIfInBounds (k * 3 + 2) (vI d), by rw [List.length_set], h3, set_of h4 _ _, by rw [List.length_set]; exact h5, h6, by simpa using h7, ?_⟩⟩
    rw [List.length_set, Array.toList_setIfInBounds, List.take_set, h8, eCells_set es k hk d]

/-! ### the plain law -/
/-- Of the first edges all but one. -/
def lessF (E : List Ed) (k : Nat) : Nat → List Ed
  | 0 => []
  | q + 1 => if q = k then lessF E k q else lessF E k q ++ [eg E q]
theorem lessF_mem {E : List Ed} {k : Nat} {e : Ed} : ∀ {q : Nat}, e ∈ lessF E k q → ∃ j, j < q ∧ j ≠ k ∧ e = eg E j
  | q + 1, h => by
    unfold lessF at h
    split at h
    · obtain ⟨j, h1, h2⟩ := lessF_mem h
      exact ⟨j, by omega, h2⟩
    · rename_i hq
      rcases List.mem_append.1 h with h | h
      · obtain ⟨j, h1, h2⟩ := lessF_mem h
        exact ⟨j, by omega, h2⟩
      · exact ⟨q, by omega, hq, List.mem_singleton.1 h⟩
theorem lessF_len (E : List Ed) (k : Nat) : ∀ q, (lessF E k q).length ≤ q
  | 0 => Nat.le_refl _
  | q + 1 => by
    have := lessF_len E k q
    unfold lessF
    split
    · omega
    · simp; omega
theorem eg_get {E : List Ed} {j : Nat} (h : j < E.length) : eg E j = E[j] := by
  unfold eg; rw [List.getD_eq_getElem?_getD, List.getElem?_eq_getElem h]; rfl

theorem plus_rises {a b c e : Int} (h : a ≤ b) (ha : flowsX a = true) (hb : flowsX b = true) (hc : flowsX c = true) (he : flowsX e = true) (hce : c ≤ e) : plusX a c ≤ plusX b e := by
  have h1 := plusX_mono c h ha
  refine Int.le_trans h1 ?_
  simp only [plusX, hb, hc, he]
  simp
  omega
theorem raised_right {n : Nat} {E : List Ed} {R : List Int} {k : Nat} (hk : k < E.length) (hG : RightG n E R) {d : Int} (hf : flowsX d = true) : RightG n (E.set k (E[k].1, E[k].2.1, d)) R := by
  refine ⟨hG.1, fun e he => ?_, hG.2.2⟩
  rcases List.mem_or_eq_of_mem_set he with h | h
  · exact hG.2.1 e h
  · have := hG.2.1 _ (List.getElem_mem hk)
    rw [h]
    exact ⟨this.1, this.2.1, hf⟩
theorem raised_of {E : List Ed} {k : Nat} (hk : k < E.length) {d : Int} (e : Ed) (he : e ∈ E.set k (E[k].1, E[k].2.1, d)) (hd : E[k].2.2 ≤ d) : ∃ c, (e.1, e.2.1, c) ∈ E ∧ c ≤ e.2.2 := by
  rcases List.mem_or_eq_of_mem_set he with h | h
  · exact ⟨e.2.2, h, Int.le_refl _⟩
  · rw [h]
    exact ⟨E[k].2.2, List.getElem_mem hk, hd⟩
theorem raised_reach {n : Nat} {E : List Ed} {R : List Int} {k : Nat} (hk : k < E.length) (hG : RightG n E R) {d : Int} (hf : flowsX d = true) (hd : E[k].2.2 ≤ d) {i w : Int} (r : Reach (E.set k (E[k].1, E[k].2.1, d)) R i w) : ∃ w', w' ≤ w ∧ Reach E R i w' := by
  have hG' := raised_right hk hG hf
  induction r with
  | root h => exact ⟨0, Int.le_refl _, .root h⟩
  | @step e w he hw ih =>
    obtain ⟨w', h1, h2⟩ := ih
    obtain ⟨c, h3, h4⟩ := raised_of hk e he hd
    refine ⟨plusX w' c, ?_, .step (e := (e.1, e.2.1, c)) h3 h2⟩
    exact plus_rises h1 (h2.right hG).2 (hw.right hG').2 (hG.2.1 _ h3).2.2 (hG'.2.1 _ he).2.2 h4
theorem raised_back {E : List Ed} {R : List Int} {k : Nat} (hk : k < E.length) {d : Int} {i w : Int} (r : Reach E R i w) : ∃ w', Reach (E.set k (E[k].1, E[k].2.1, d)) R i w' := by
  induction r with
  | root h => exact ⟨0, .root h⟩
  | @step e w he hw ih =>
    obtain ⟨w', h2⟩ := ih
    obtain ⟨j, hj, rfl⟩ := List.getElem_of_mem he
    by_cases e : j = k
    · subst e
      exact ⟨_, .step (e := (E[j].1, E[j].2.1, d)) (List.mem_iff_getElem.2 ⟨j, by simpa using hj, by simp⟩) h2⟩
    · exact ⟨_, .step (e := E[j]) (List.mem_iff_getElem.2 ⟨j, by simpa using hj, by rw [List.getElem_set_ne (fun h => e h.symm)]⟩) h2⟩
theorem less_mem {E : List Ed} {k : Nat} (hk : k < E.length) {d : Int} {e : Ed} (he : e ∈ lessF E k E.length) : e ∈ E.set k (E[k].1, E[k].2.1, d) ∧ e ∈ E := by
  obtain ⟨j, hj, hjk, rfl⟩ := lessF_mem he
  rw [eg_get hj]
  exact ⟨List.mem_iff_getElem.2 ⟨j, by simpa using hj, by rw [List.getElem_set_ne (fun h => hjk h.symm)]⟩, List.getElem_mem hj⟩
theorem less_right {n : Nat} {E : List Ed} {R : List Int} {k : Nat} (hk : k < E.length) (hG : RightG n E R) : RightG n (lessF E k E.length) R := ⟨hG.1, fun e he => hG.2.1 e (less_mem (d := 0) hk he).2, hG.2.2⟩
theorem less_reach {E : List Ed} {R : List Int} {k : Nat} (hk : k < E.length) {d : Int} {i w : Int} (r : Reach (lessF E k E.length) R i w) : Reach (E.set k (E[k].1, E[k].2.1, d)) R i w := by
  induction r with
  | root h => exact .root h
  | @step e w he hw ih => exact .step (less_mem hk he).1 ih
theorem Least.nine {n : Nat} {es : List Ed} {rs : List Int} {x : Nat → Int} (hr : RightG n es rs) (h : Least n es rs x) {i : Nat} (hi : i < n) : x i = 9 ↔ ∀ d, ¬ Reach es rs i d := by
  constructor
  · intro h9 d r
    have h1 := h.le hr r
    have h2 := (r.right hr).2
    simp [flowsX] at h1 h2
    omega
  · intro hn
    rcases h.way i hi with h1 | h1
    · exact h1
    · exact absurd h1 (hn _)

end Go.Proofs.Ytcjfmfddkhpfnaa
