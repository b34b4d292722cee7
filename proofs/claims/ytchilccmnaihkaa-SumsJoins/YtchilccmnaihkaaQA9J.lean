import Derived.Test.YtchilccmnaihkaaQA4J
namespace Go.Proofs.Ytchilccmnaihkaa
open Go.RowKit (wrap32 wrap64)
set_option linter.unusedVariables false
set_option linter.unusedSimpArgs false

theorem made_one (z : Value) (n : Nat) : madeCells #[z] n = (List.replicate n z).toArray := by
  unfold madeCells
  apply Array.ext
  · simp
  · intro i h1 h2
    simp [Nat.mod_one]

abbrev minsO (l : List Int) : Obj := .cells (l.map vI).toArray 3

theorem make22 (n : Nat) (hn : n ≤ 17592186043904) (w : World) : (Instr.makeSlice 22 (.int .i64 n) (.int .i64 n)).run Try.prog w = .ok (.slice (some ⟨w.heap.size, 0, none⟩) n n) (w.alloc (.cells (madeCells #[vI 0] n) 3)) := by
  rw [run_make_of 22 3 (.int .i64 0) 1 8 under22i (by kernel_rfl) (by kernel_rfl) (by kernel_rfl) n (by omega) (by omega) w, Nat.mul_one]
  rfl

/-- A row of numbers of its own, the first ones as told. -/
def Row0 (w : World) (g n : Nat) (l : List Int) : Prop := ∃ cs : Array Value, w.heap[g]? = some (.cells cs 3) ∧ cs.size = n ∧ (∀ j, j < n → ∃ z : Int, cs[j]? = some (vI z)) ∧ ∀ j (h : j < l.length), cs[j]? = some (vI l[j])
theorem Row0.full {w : World} {g n : Nat} {l : List Int} (h : Row0 w g n l) (hl : l.length = n) : w.heap[g]? = some (minsO l) := by
  obtain ⟨cs, h1, h2, -, h4⟩ := h
  rw [h1]
  congr 2
  apply Array.ext
  · simp [h2, hl]
  · intro i hi hj
    have hil : i < l.length := by omega
    have := h4 i hil
    rw [Array.getElem?_eq_getElem hi] at this
    rw [Option.some.inj this]
    simp
theorem Row0.set {w : World} {g n : Nat} {l : List Int} (h : Row0 w g n l) (x : Int) (hk : l.length < n) : Row0 (w.setCell ⟨g, l.length, none⟩ (vI x)) g n (l ++ [x]) := by
  obtain ⟨cs, h1, h2, h3, h4⟩ := h
  refine ⟨_, set_of h1 _ _, by simp [h2], fun j hj => ?_, fun j hj => ?_⟩
  · by_cases e : j = l.length
    · subst e; exact ⟨x, by simp [h2, hk]⟩
    · obtain ⟨z, hz⟩ := h3 j hj
      exact ⟨z, by rw [Array.getElem?_setIfInBounds_ne (Ne.symm e)]; exact hz⟩
  · by_cases e : j = l.length
    · subst e; simp [h2, hk]
    · have hj' : j < l.length := by simp at hj; omega
      rw [Array.getElem?_setIfInBounds_ne (Ne.symm e), List.getElem_append_left hj']
      exact h4 j hj'
theorem Row0.fr {w w' : World} {g n : Nat} {l : List Int} (h : Row0 w g n l) (f : Fr (fun _ => False) w w') : Row0 w' g n l := by
  obtain ⟨cs, h1, h2, h3, h4⟩ := h; exact ⟨cs, keepF h1 f, h2, h3, h4⟩
theorem Row0.new (w : World) (n : Nat) : Row0 (w.alloc (.cells (madeCells #[vI 0] n) 3)) w.heap.size n [] := by
  refine ⟨_, heap_new w _, by rw [made_one]; simp, fun j hj => ⟨0, by rw [made_one]; simp [hj]⟩, fun j hj => by simp at hj⟩

theorem minL_take {a b : List Int} {k : Nat} (ha : k < a.length) (hb : k < b.length) : minL (a.take (k + 1)) (b.take (k + 1)) = minL (a.take k) (b.take k) ++ [min a[k] b[k]] := by
  unfold minL
  rw [← List.take_zipWith, ← List.take_zipWith, List.take_add_one, List.getElem?_eq_getElem (by simp; omega), List.getElem_zipWith]
  rfl

set_option maxRecDepth 100000 in
set_option maxHeartbeats 1000000 in
theorem lesser_any (v1 v2 : Value) (a b : List Int) (w : World) (h1 : IA w v1 a) (h2 : IA w v2 b) (hz : a.length ≤ 17592186043904) (hl : a.length = b.length) :
    Calls Try.prog 28 #[v1, v2] w fun e w' => ∃ g, e = .returned (.slice (some ⟨g, 0, none⟩) a.length a.length) ∧ w.heap.size ≤ g ∧ w'.heap[g]? = some (minsO (minL a b)) ∧ Fr (fun _ => False) w w' := by
  obtain ⟨a1, c1, rfl, hc1⟩ := h1
  obtain ⟨a2, c2, rfl, hc2⟩ := h2
  have H1 : Hd _ := hc1
  have H2 : Hd _ := hc2
  clear hc1 hc2
  obtain ⟨n, hn⟩ : ∃ n, a.length = n := ⟨_, rfl⟩
  have hnb : b.length = n := by rw [← hl]; exact hn
  have HN : Hd (a.length = n) := hn
  have HNB : Hd (b.length = n) := hnb
  have hnz : n ≤ 17592186043904 := by rw [← hn]; exact hz
  rw [hn, hnb]
  clear hn hnb hl hz
  have hm := make22 n hnz w
  obtain ⟨wa, hwa⟩ : ∃ wa, wa = w.alloc (.cells (madeCells #[vI 0] n) 3) := ⟨_, rfl⟩
  rw [← hwa] at hm
  have HR0 : Hd (Row0 wa w.heap.size n []) := by unfold Hd; rw [hwa]; exact Row0.new w n
  have HF0 : Hd (Fr (fun _ => False) w wa) := by unfold Hd; rw [hwa]; exact Fr.alloc (Fr.refl _ w) _
  obtain ⟨G, hG⟩ : ∃ G, G = w.heap.size := ⟨_, rfl⟩
  have HG : Hd (G = w.heap.size) := hG
  rw [← hG] at hm HR0
  clear hwa hG
  go_enter Try.func28, Try.ntmps28
  go_wp2_with fail
  clear hm
  go_loopw [12] (fun v wr => ∃ (k : Nat), v = .int .i64 k ∧ k ≤ n ∧ Hd (Row0 wr G n (minL (a.take k) (b.take k))) ∧ Hd (Fr (fun _ => False) w wr)) (fun v _ => match v with | .int _ q => n - q.toNat | _ => 0)
  case atStart => exact ⟨0, rfl, Nat.zero_le _, HR0.out, HF0.out⟩
  case round =>
    obtain ⟨k, rfl, hk, HR, HF⟩ := hrel
    by_cases hltn : k < n
    · have hlt : k < a.length := by rw [HN.out]; exact hltn
      have hlb : k < b.length := by rw [HNB.out]; exact hltn
      obtain ⟨k1, o1, rfl, hk1, g1⟩ := H1.out (by intro e; simp [e] at hlt)
      obtain ⟨k2, o2, rfl, hk2, g2⟩ := H2.out (by intro e; simp [e] at hlb)
      have q1 := (HF.out.cell (o := o1 + k) hk1 (fun h => h)).trans (g1 k hlt)
      have q2 := (HF.out.cell (o := o2 + k) hk2 (fun h => h)).trans (g2 k hlb)
      have HT : Hd (minL (a.take (k + 1)) (b.take (k + 1)) = minL (a.take k) (b.take k) ++ [min a[k] b[k]]) := minL_take hlt hlb
      have hlk : (minL (a.take k) (b.take k)).length = k := by simp [minL]; omega
      obtain ⟨z, q3, q4⟩ : ∃ z : Int, wr.cell? ⟨G, k, none⟩ = some (vI z) ∧ wr.frozen? ⟨G, k, none⟩ = false := by
        obtain ⟨cs, c1, c2, c3, -⟩ := HR.out
        obtain ⟨z, hz⟩ := c3 k hltn
        exact ⟨z, by rw [cell_of c1]; exact hz, frozen_of c1 k⟩
      have HS : Hd (Row0 (wr.setCell ⟨G, k, none⟩ (vI (min a[k] b[k]))) G n (minL (a.take k) (b.take k) ++ [min a[k] b[k]])) := by
        have := HR.out.set (min a[k] b[k]) (by omega)
        rw [hlk] at this
        exact this
      have HFS : Hd (Fr (fun _ => False) w (wr.setCell ⟨G, k, none⟩ (vI (min a[k] b[k])))) := HF.out.then (setCell_fr wr G k _) (fun j hj e => by have := HG.out; omega)
      generalize a[k] = x at *
      generalize b[k] = y at *
      have hk0 : (0 : Int) ≤ k := by omega
      have hk3 : (k : Int) < n := by omega
      clear g1 g2 hlt hlb hlk
      go_wp2_with fail
      refine wp_region_still_tail 12 mixed (by kernel_rfl) ?_
      simp only [List.take_succ_cons, List.take_zero, List.drop_succ_cons, List.drop_zero]
      repeat still_step
      refine wpStill_nil ?_
      go_wp2_with fail
      have hmin : (if y < x then y else x) = min x y := by split <;> omega
      rw [hmin]
      refine ⟨⟨k + 1, by simp, by omega, ?_, HFS.out.drew⟩, by simp; omega⟩
      unfold Hd; rw [HT.out]; exact HS.out.fr (Fr.drew (Fr.refl _ _))
    · have hke : k = n := by omega
      subst hke
      have HR2 : Hd (wr.heap[G]? = some (minsO (minL a b))) := by
        have := HR.out
        rw [List.take_of_length_le (by rw [HN.out]; exact Nat.le_refl _), List.take_of_length_le (by rw [HNB.out]; exact Nat.le_refl _)] at this
        exact this.full (by simp [minL, HN.out, HNB.out])
      go_wp2_with fail
      go_ret
      exact ⟨_, rfl, by rw [HG.out]; exact Nat.le_refl _, HR2.out, HF.out⟩

end Go.Proofs.Ytchilccmnaihkaa

namespace Go.Proofs.Ytchilccmnaihkaa
open Go.RowKit (wrap32 wrap64)
set_option linter.unusedVariables false
set_option linter.unusedSimpArgs false

theorem under29 : Try.prog.underlying 29 = some (.slice 22) := by kernel_rfl
theorem make29 (n : Nat) (hn : n ≤ 1000000000000) (w : World) : (Instr.makeSlice 29 (.int .i64 n) (.int .i64 n)).run Try.prog w = .ok (.slice (some ⟨w.heap.size, 0, none⟩) n n) (w.alloc (.cells (Array.replicate n (.slice none 0 0)) 22)) := by
  rw [run_make_of 29 22 (.slice none 0 0) 1 24 under29 (by kernel_rfl) (by kernel_rfl) (by kernel_rfl) n (by omega) (by omega) w, Nat.mul_one]
  show Result.ok _ (w.alloc (.cells (madeCells #[.slice none 0 0] n) 22)) = _
  rw [made_one, List.toArray_replicate]
theorem mins_ia {w : World} {g : Nat} {l : List Int} (h : w.heap[g]? = some (minsO l)) : IA w (.slice (some ⟨g, 0, none⟩) l.length l.length) l := by
  refine ⟨_, _, rfl, fun _ => ⟨g, 0, rfl, heap_lt h, fun j hj => ?_⟩⟩
  rw [Nat.zero_add, cell_of h]
  simp [hj]

abbrev nil2 : Obj := .cells #[.slice none 0 0, .slice none 0 0] 31
abbrev nils (q : Nat) : Obj := .cells (Array.replicate q (.slice none 0 0)) 22
/-- Behind the summary's making. -/
def L3 (w1 wx : World) (l : List Int) (q : Nat) (x : Value) : Prop :=
  ∃ X g1 g2, x = .pointer (some ⟨X, 0, none⟩) ∧ w1.heap.size ≤ X ∧ w1.heap.size ≤ g1 ∧ w1.heap.size ≤ g2 ∧ wx.heap[X]? = some (.cells #[.slice (some ⟨g1, 0, none⟩) l.length l.length, .slice (some ⟨g2, 0, none⟩) q q] 31) ∧ wx.heap[g1]? = some (minsO l) ∧ wx.heap[g2]? = some (nils q) ∧ Fr (fun _ => False) w1 wx
theorem L3.last {w1 W : World} {l : List Int} {q g1 g2 : Nat} (hF : Fr (fun _ => False) w1 W) (h1 : W.heap[g1]? = some (minsO l)) (h2 : W.heap[g2]? = some (nils q)) (hg1 : w1.heap.size ≤ g1) (hg2 : w1.heap.size ≤ g2) :
    L3 w1 (W.alloc (.cells #[.slice (some ⟨g1, 0, none⟩) l.length l.length, .slice (some ⟨g2, 0, none⟩) q q] 31)) l q (.pointer (some ⟨W.heap.size, 0, none⟩)) :=
  ⟨_, g1, g2, rfl, hF.size, hg1, hg2, heap_new W _, keepA h1 _, keepA h2 _, hF.alloc _⟩
theorem L3.set {w1 W : World} {l : List Int} {q g1 g2 X : Nat} (hF : Fr (fun _ => False) w1 W) (hX : W.heap[X]? = some nil2) (h1 : W.heap[g1]? = some (minsO l)) (h2 : W.heap[g2]? = some (nils q)) (hXg : w1.heap.size ≤ X) (hg1 : w1.heap.size ≤ g1) (hg2 : w1.heap.size ≤ g2) :
    L3 w1 ((W.setCell ⟨X, 0, none⟩ (.slice (some ⟨g1, 0, none⟩) l.length l.length)).setCell ⟨X, 1, none⟩ (.slice (some ⟨g2, 0, none⟩) q q)) l q (.pointer (some ⟨X, 0, none⟩)) := by
  have n1 : X ≠ g1 := fun e => by subst e; injection (Option.some.inj (hX.symm.trans h1)) with _ e; exact absurd e (by decide)
  have n2 : X ≠ g2 := fun e => by subst e; injection (Option.some.inj (hX.symm.trans h2)) with _ e; exact absurd e (by decide)
  have f : Fr (fun k => k = X) W ((W.setCell ⟨X, 0, none⟩ (.slice (some ⟨g1, 0, none⟩) l.length l.length)).setCell ⟨X, 1, none⟩ (.slice (some ⟨g2, 0, none⟩) q q)) := (setCell_fr W X 0 _).trans (setCell_fr _ X 1 _)
  exact ⟨X, g1, g2, rfl, hXg, hg1, hg2, set_of (set_of hX 0 _) 1 _, (f.block g1 (heap_lt h1) (fun e => n1 e.symm)).trans h1, (f.block g2 (heap_lt h2) (fun e => n2 e.symm)).trans h2, hF.then f (fun j hj e => by omega)⟩

theorem L3.o1 {w1 w2 : World} {l : List Int} {q g : Nat} (hF : Fr (fun _ => False) w1 w2) (h1 : w2.heap[g]? = some (minsO l)) (hg : w1.heap.size ≤ g) :
    L3 w1 ((w2.alloc (nils q)).alloc (.cells #[.slice (some ⟨g, 0, none⟩) l.length l.length, .slice (some ⟨w2.heap.size, 0, none⟩) q q] 31)) l q (.pointer (some ⟨w2.heap.size + 1, 0, none⟩)) := by
  have := L3.last (W := w2.alloc (nils q)) (g1 := g) (g2 := w2.heap.size) (hF.alloc _) (keepA h1 _) (heap_new w2 _) hg hF.size
  rw [World.size_alloc] at this
  exact this
theorem L3.o2 {w1 w2 : World} {l : List Int} {q g : Nat} (hF : Fr (fun _ => False) w1 w2) (h1 : w2.heap[g]? = some (minsO l)) (hg : w1.heap.size ≤ g) :
    L3 w1 ((w2.alloc (.cells #[.slice (some ⟨g, 0, none⟩) l.length l.length, .slice (some ⟨w2.heap.size + 1, 0, none⟩) q q] 31)).alloc (nils q)) l q (.pointer (some ⟨w2.heap.size, 0, none⟩)) :=
  ⟨_, g, w2.heap.size + 1, rfl, hF.size, hg, by have := hF.size; omega, keepA (heap_new w2 _) _, keepA (keepA h1 _) _, by
    have := heap_new (w2.alloc (.cells #[.slice (some ⟨g, 0, none⟩) l.length l.length, .slice (some ⟨w2.heap.size + 1, 0, none⟩) q q] 31)) (nils q)
    rw [World.size_alloc] at this
    exact this, (hF.alloc _).alloc _⟩
theorem L3.o5 {w1 w2 : World} {l : List Int} {q g X : Nat} (hF : Fr (fun _ => False) w1 w2) (hX : w2.heap[X]? = some nil2) (h1 : w2.heap[g]? = some (minsO l)) (hXg : w1.heap.size ≤ X) (hg : w1.heap.size ≤ g) :
    L3 w1 (((w2.setCell ⟨X, 0, none⟩ (.slice (some ⟨g, 0, none⟩) l.length l.length)).setCell ⟨X, 1, none⟩ (.slice (some ⟨w2.heap.size, 0, none⟩) q q)).alloc (nils q)) l q (.pointer (some ⟨X, 0, none⟩)) := by
  have n1 : X ≠ g := fun e => by subst e; injection (Option.some.inj (hX.symm.trans h1)) with _ e; exact absurd e (by decide)
  have f : Fr (fun k => k = X) w2 ((w2.setCell ⟨X, 0, none⟩ (.slice (some ⟨g, 0, none⟩) l.length l.length)).setCell ⟨X, 1, none⟩ (.slice (some ⟨w2.heap.size, 0, none⟩) q q)) := (setCell_fr w2 X 0 _).trans (setCell_fr _ X 1 _)
  have hn := heap_new ((w2.setCell ⟨X, 0, none⟩ (.slice (some ⟨g, 0, none⟩) l.length l.length)).setCell ⟨X, 1, none⟩ (.slice (some ⟨w2.heap.size, 0, none⟩) q q)) (nils q)
  have hs : ((w2.setCell ⟨X, 0, none⟩ (.slice (some ⟨g, 0, none⟩) l.length l.length)).setCell ⟨X, 1, none⟩ (.slice (some ⟨w2.heap.size, 0, none⟩) q q)).heap.size = w2.heap.size := by simp
  rw [hs] at hn
  exact ⟨X, g, w2.heap.size, rfl, hXg, hg, hF.size, keepA (set_of (set_of hX 0 _) 1 _) _, keepA ((f.block g (heap_lt h1) (fun e => n1 e.symm)).trans h1) _, hn, (hF.then f (fun j hj e => by omega)).alloc _⟩


/-- The same, the blocks as told. -/
def IAq (Q : Nat → Prop) (w : World) (v : Value) (l : List Int) : Prop :=
  ∃ a c, v = .slice a l.length c ∧ (l ≠ [] → ∃ k o, a = some ⟨k, o, none⟩ ∧ Q k ∧ k < w.heap.size ∧ ∀ j (h : j < l.length), w.cell? ⟨k, o + j, none⟩ = some (vI l[j]))
def LAq (Q : Nat → Prop) (w : World) (v : Value) (zss : List (List Int)) : Prop :=
  ∃ a c, v = .slice a zss.length c ∧ (zss ≠ [] → ∃ k o, a = some ⟨k, o, none⟩ ∧ Q k ∧ k < w.heap.size ∧ ∀ j (h : j < zss.length), ∃ u, w.cell? ⟨k, o + j, none⟩ = some u ∧ IAq Q w u zss[j])
def SAq (Q : Nat → Prop) (w : World) (v : Value) (s : PS) : Prop := ∃ hv rv, v = .agg #[hv, rv] ∧ IAq Q w hv s.heap ∧ LAq Q w rv s.res
theorem IAq.ia {Q : Nat → Prop} {w : World} {v : Value} {l : List Int} (h : IAq Q w v l) : IA w v l := by
  obtain ⟨a, c, rfl, h⟩ := h
  refine ⟨a, c, rfl, fun hne => ?_⟩
  obtain ⟨k, o, rfl, -, hk, hc⟩ := h hne
  exact ⟨k, o, rfl, hk, hc⟩
theorem SAq.sa {Q : Nat → Prop} {w : World} {v : Value} {s : PS} (h : SAq Q w v s) : SA w v s := by
  obtain ⟨hv, rv, rfl, h1, a, c, rfl, h2⟩ := h
  refine ⟨hv, _, rfl, h1.ia, a, c, rfl, fun hne => ?_⟩
  obtain ⟨k, o, rfl, -, hk, hc⟩ := h2 hne
  refine ⟨k, o, rfl, hk, fun j hj => ?_⟩
  obtain ⟨u, q1, q2⟩ := hc j hj
  exact ⟨u, q1, q2.ia⟩
theorem IAq.fr {Q S : Nat → Prop} {w w' : World} {v : Value} {l : List Int} (h : IAq Q w v l) (f : Fr S w w') (hS : ∀ k, Q k → ¬ S k) : IAq Q w' v l := by
  obtain ⟨a, c, rfl, h⟩ := h
  refine ⟨a, c, rfl, fun hne => ?_⟩
  obtain ⟨k, o, rfl, hq, hk, hc⟩ := h hne
  exact ⟨k, o, rfl, hq, Nat.lt_of_lt_of_le hk f.size, fun j hj => (f.cell hk (hS k hq)).trans (hc j hj)⟩
theorem SAq.fr {Q S : Nat → Prop} {w w' : World} {v : Value} {s : PS} (h : SAq Q w v s) (f : Fr S w w') (hS : ∀ k, Q k → ¬ S k) : SAq Q w' v s := by
  obtain ⟨hv, rv, rfl, h1, a, c, rfl, h2⟩ := h
  refine ⟨hv, _, rfl, h1.fr f hS, a, c, rfl, fun hne => ?_⟩
  obtain ⟨k, o, rfl, hq, hk, hc⟩ := h2 hne
  refine ⟨k, o, rfl, hq, Nat.lt_of_lt_of_le hk f.size, fun j hj => ?_⟩
  obtain ⟨u, q1, q2⟩ := hc j hj
  exact ⟨u, (f.cell hk (hS k hq)).trans q1, q2.fr f hS⟩
theorem IA.q {w : World} {v : Value} {l : List Int} (h : IA w v l) {Q : Nat → Prop} (hQ : ∀ k, k < w.heap.size → Q k) : IAq Q w v l := by
  obtain ⟨a, c, rfl, h⟩ := h
  refine ⟨a, c, rfl, fun hne => ?_⟩
  obtain ⟨k, o, rfl, hk, hc⟩ := h hne
  exact ⟨k, o, rfl, hQ k hk, hk, hc⟩
theorem SA.q {w : World} {v : Value} {s : PS} (h : SA w v s) {Q : Nat → Prop} (hQ : ∀ k, k < w.heap.size → Q k) : SAq Q w v s := by
  obtain ⟨hv, rv, rfl, h1, a, c, rfl, h2⟩ := h
  refine ⟨hv, _, rfl, h1.q hQ, a, c, rfl, fun hne => ?_⟩
  obtain ⟨k, o, rfl, hk, hc⟩ := h2 hne
  refine ⟨k, o, rfl, hQ k hk, hk, fun j hj => ?_⟩
  obtain ⟨u, q1, q2⟩ := hc j hj
  exact ⟨u, q1, q2.q hQ⟩
theorem SAq.mono {Q Q' : Nat → Prop} {w : World} {v : Value} {s : PS} (h : SAq Q w v s) (hQ : ∀ k, Q k → Q' k) : SAq Q' w v s := by
  obtain ⟨hv, rv, rfl, ⟨a', c', rfl, h1⟩, a, c, rfl, h2⟩ := h
  refine ⟨_, _, rfl, ⟨a', c', rfl, fun hne => ?_⟩, a, c, rfl, fun hne => ?_⟩
  · obtain ⟨k, o, rfl, hq, hk, hc⟩ := h1 hne; exact ⟨k, o, rfl, hQ k hq, hk, hc⟩
  · obtain ⟨k, o, rfl, hq, hk, hc⟩ := h2 hne
    refine ⟨k, o, rfl, hQ k hq, hk, fun j hj => ?_⟩
    obtain ⟨u, q1, a3, c3, e3, h3⟩ := hc j hj
    exact ⟨u, q1, a3, c3, e3, fun hne => by obtain ⟨k, o, e, hq, hk, hc⟩ := h3 hne; exact ⟨k, o, e, hQ k hq, hk, hc⟩⟩
theorem mins_iaq {Q : Nat → Prop} {w : World} {g : Nat} {l : List Int} (h : w.heap[g]? = some (minsO l)) (hq : Q g) : IAq Q w (.slice (some ⟨g, 0, none⟩) l.length l.length) l := by
  refine ⟨_, _, rfl, fun _ => ⟨g, 0, rfl, hq, heap_lt h, fun j hj => ?_⟩⟩
  rw [Nat.zero_add, cell_of h]
  simp [hj]

end Go.Proofs.Ytchilccmnaihkaa

namespace Go.Proofs.Ytchilccmnaihkaa
open Go.RowKit (wrap32 wrap64)
set_option linter.unusedVariables false
set_option linter.unusedSimpArgs false

theorem w64 {n : Int} (h1 : -9223372036854775808 ≤ n) (h2 : n ≤ 9223372036854775807) : wrap64 n = n := by unfold wrap64; omega
def modX (k n : Int) : Int := if k.tmod n < 0 then k.tmod n + n else k.tmod n
theorem tmod_bound (k n : Int) (hn : 1 ≤ n) : -n < k.tmod n ∧ k.tmod n < n := by
  have h := Int.natAbs_tmod k n
  have h2 : k.natAbs % n.natAbs < n.natAbs := Nat.mod_lt _ (by omega)
  omega
theorem modX_bound (k n : Int) (hn : 1 ≤ n) : 0 ≤ modX k n ∧ modX k n < n := by
  have := tmod_bound k n hn
  unfold modX
  split <;> omega

set_option maxRecDepth 100000 in
set_option maxHeartbeats 1000000 in
theorem mod_any (k n : Int) (hn : 1 ≤ n) (hn2 : n ≤ 1000000) (w : World) : Calls Try.prog 14 #[vI k, vI n] w fun e w' => e = .returned (vI (modX k n)) ∧ w' = w := by
  have hb := tmod_bound k n hn
  have h0 : ¬ n = 0 := by omega
  have hw : wrap64 (k.tmod n) = k.tmod n := w64 (by omega) (by omega)
  unfold modX
  by_cases hlt : k.tmod n < 0
  · rw [if_pos hlt]
    have hw2 : wrap64 (k.tmod n + n) = k.tmod n + n := w64 (by omega) (by omega)
    go_enter Try.func14, Try.ntmps14
    go_wp2_with fail
    go_ret
    exact ⟨by first | rfl | (show Ending.returned (vI (wrap64 (k.tmod n + n))) = _; rw [hw2]), rfl⟩
  · rw [if_neg hlt]
    go_enter Try.func14, Try.ntmps14
    go_wp2_with fail
    go_ret
    exact ⟨rfl, rfl⟩

end Go.Proofs.Ytchilccmnaihkaa

namespace Go.Proofs.Ytchilccmnaihkaa
open Go.RowKit (wrap32 wrap64)
set_option linter.unusedVariables false
set_option linter.unusedSimpArgs false

theorem own_cell {w : World} {B e sz n : Nat} {v : Value} {xs : List Value} (h : w.ownsRow B e sz v n xs) {j : Nat} {u : Value} (hj : xs[j]? = some u) : ∃ g cap, v = .slice (some ⟨g, 0, none⟩) n cap ∧ g < w.heap.size ∧ w.cell? ⟨g, j, none⟩ = some u := by
  obtain ⟨h0, h1⟩ := h
  have hjl := (List.getElem?_eq_some_iff.1 hj).1
  rcases h1 with ⟨-, e2⟩ | ⟨g, cap, cur, rfl, k1, k2, k3, k4, k5, k6⟩
  · subst e2; simp at h0; subst h0; simp at hjl
  · refine ⟨g, cap, rfl, heap_lt k2, ?_⟩
    rw [cell_of k2, ← Array.getElem?_toList]
    rw [← k6] at hj
    rw [List.getElem?_take_of_lt (by omega)] at hj
    exact hj
theorem own_apart {w : World} {B B' e e' sz sz' n m : Nat} {v u : Value} {xs ys : List Value} (h : w.ownsRow B e sz v n xs) (k : w.ownsRow B' e' sz' u m ys) (he : e ≠ e') : ∀ j, u.ownBlock = some j → v.ownBlock ≠ some j := by
  intro j hu hv
  rcases h.2 with ⟨rfl, -⟩ | ⟨g, cap, cur, rfl, -, h2, -⟩
  · cases hv
  · rcases k.2 with ⟨rfl, -⟩ | ⟨g', cap', cur', rfl, -, k2, -⟩
    · cases hu
    · cases hv
      cases hu
      rw [h2] at k2
      cases k2
      exact he rfl

abbrev zeroF : Obj := .cells #[vI 0, vI 0, vI 0, .slice none 0 0] 28
/-- A list that lies apart from two others, from block B on. -/
structure Apt (w : World) (B : Nat) (hv rv u : Value) (l : List Int) : Prop where
  ia : IA w u l
  blk : ∀ j, u.ownBlock = some j → B ≤ j ∧ j < w.heap.size ∧ hv.ownBlock ≠ some j ∧ rv.ownBlock ≠ some j
/-- A summary under way. -/
structure SH (w wr : World) (H P R : Nat) (hv rv : Value) (us : List Value) (hs : List Int) (ls : List (List Int)) : Prop where
  b0 : wr.heap[H]? = some zeroF
  b1 : wr.heap[H + 1]? = some nil2
  b2 : wr.heap[H + 2]? = some (.cells #[vI P, vI R, vI 0, .slice none 0 0] 28)
  b3 : wr.heap[H + 3]? = some (.cells #[hv, rv] 31)
  oh : IOwn wr (H + 4) hv hs
  ol : wr.ownsRow (H + 4) 22 1 rv us.length us
  ul : us.length = ls.length
  each : ∀ i (h : i < us.length) (h' : i < ls.length), Apt wr (H + 4) hv rv us[i] ls[i]
  fr : Fr (fun _ => False) w wr
  okh : ∀ x ∈ hs, okN x = true
  okl : ∀ l ∈ ls, l.length = R ∧ ∀ x ∈ l, okN x = true
theorem SH.keep {w wr w' : World} {H P R : Nat} {hv rv : Value} {us : List Value} {hs : List Int} {ls : List (List Int)} (h : SH w wr H P R hv rv us hs ls) (f : Fr (fun _ => False) wr w') : SH w w' H P R hv rv us hs ls :=
  ⟨keepF h.b0 f, keepF h.b1 f, keepF h.b2 f, keepF h.b3 f, h.oh.fr f (fun _ _ e => e), ownsRow_fr h.ol f (fun _ _ e => e), h.ul, fun i hi hk => ⟨(h.each i hi hk).ia.stay f, fun j e => ⟨((h.each i hi hk).blk j e).1, Nat.lt_of_lt_of_le ((h.each i hi hk).blk j e).2.1 f.size, ((h.each i hi hk).blk j e).2.2⟩⟩, h.fr.trans f, h.okh, h.okl⟩
theorem SH.hvGrown {w wb w6 : World} {H P R g cap : Nat} {hv rv : Value} {us : List Value} {hs : List Int} {ls : List (List Int)} {x : Int} (h : SH w wb H P R hv rv us hs ls) (hH : H = w.heap.size) (hx : okN x = true) (hg : wb.grownBy w6 hv.ownBlock) (ho : w6.ownsRow (H + 4) 3 1 (.slice (some ⟨g, 0, none⟩) (hs.length + 1) cap) (hs.length + 1) (hs.map vI ++ [vI x])) (hat : hv.ownBlock = some g ∨ g = wb.heap.size) :
    SH w (w6.setCell ⟨H + 3, 0, none⟩ (.slice (some ⟨g, 0, none⟩) (hs.length + 1) cap)) H P R (.slice (some ⟨g, 0, none⟩) (hs.length + 1) cap) rv us (hs ++ [x]) ls := by
  have f := grown_fr hg
  have hb : ∀ j, hv.ownBlock = some j → H + 4 ≤ j := fun j e => (World.ownsRow.lt h.oh j e).1
  have lo : ∀ j (x : Obj), j < H + 4 → wb.heap[j]? = some x → w6.heap[j]? = some x := fun j x hj hx => (f.block j (heap_lt hx) (fun e => by have := hb j e; omega)).trans hx
  have f2 := setCell_fr w6 (H + 3) 0 (.slice (some ⟨g, 0, none⟩) (hs.length + 1) cap)
  have up : ∀ j (x : Obj), j ≠ H + 3 → w6.heap[j]? = some x → (w6.setCell ⟨H + 3, 0, none⟩ (.slice (some ⟨g, 0, none⟩) (hs.length + 1) cap)).heap[j]? = some x := fun j x hj hx => (f2.block j (heap_lt hx) hj).trans hx
  refine ⟨up H _ (by omega) (lo H _ (by omega) h.b0), up _ _ (by omega) (lo _ _ (by omega) h.b1), up _ _ (by omega) (lo _ _ (by omega) h.b2), set_of (lo _ _ (by omega) h.b3) 0 _, ?_, ?_, h.ul, fun i hi hk => ⟨?_, fun j e => ?_⟩, ?_, fun z hz => ?_, h.okl⟩
  · have h1 := ownsRow_fr ho f2 (fun j e e2 => by have := (World.ownsRow.lt ho j e).1; omega)
    unfold IOwn; rw [List.map_append, List.length_append]; exact h1
  · have h1 := ownsRow_fr h.ol f (fun j e e2 => own_apart h.oh h.ol (by decide) j e e2)
    exact ownsRow_fr h1 f2 (fun j e e2 => by have := (World.ownsRow.lt h1 j e).1; omega)
  · have h1 := (h.each i hi hk).ia.fr f (fun j e e2 => ((h.each i hi hk).blk j e).2.2.1 e2)
    exact h1.fr f2 (fun j e e2 => by have := ((h.each i hi hk).blk j e).1; omega)
  · obtain ⟨q1, q2, q3, q4⟩ := (h.each i hi hk).blk j e
    refine ⟨q1, by have := f.size; have := f2.size; omega, fun e2 => ?_, q4⟩
    have e4 : g = j := Option.some.inj e2
    subst e4
    rcases hat with e3 | e3
    · exact q3 e3
    · omega
  · exact (h.fr.then f (fun j hj e => by have := hb j e; omega)).then f2 (fun j hj e => by omega)
  · rcases List.mem_append.1 hz with hz | hz
    · exact h.okh z hz
    · simp at hz; subst hz; exact hx
theorem SH.rvGrown {w wb w6 : World} {H P R g cap : Nat} {hv rv u : Value} {us : List Value} {hs : List Int} {ls : List (List Int)} {z : List Int} (h : SH w wb H P R hv rv us hs ls) (hH : H = w.heap.size) (hu : Apt wb (H + 4) hv rv u z) (hz : z.length = R ∧ ∀ x ∈ z, okN x = true) (hg : wb.grownBy w6 rv.ownBlock) (ho : w6.ownsRow (H + 4) 22 1 (.slice (some ⟨g, 0, none⟩) (us.length + 1) cap) (us.length + 1) (us ++ [u])) (hat : rv.ownBlock = some g ∨ g = wb.heap.size) :
    SH w (w6.setCell ⟨H + 3, 1, none⟩ (.slice (some ⟨g, 0, none⟩) (us.length + 1) cap)) H P R hv (.slice (some ⟨g, 0, none⟩) (us.length + 1) cap) (us ++ [u]) hs (ls ++ [z]) := by
  have f := grown_fr hg
  have hb : ∀ j, rv.ownBlock = some j → H + 4 ≤ j := fun j e => (World.ownsRow.lt h.ol j e).1
  have lo : ∀ j (x : Obj), j < H + 4 → wb.heap[j]? = some x → w6.heap[j]? = some x := fun j x hj hx => (f.block j (heap_lt hx) (fun e => by have := hb j e; omega)).trans hx
  have f2 := setCell_fr w6 (H + 3) 1 (.slice (some ⟨g, 0, none⟩) (us.length + 1) cap)
  have up : ∀ j (x : Obj), j ≠ H + 3 → w6.heap[j]? = some x → (w6.setCell ⟨H + 3, 1, none⟩ (.slice (some ⟨g, 0, none⟩) (us.length + 1) cap)).heap[j]? = some x := fun j x hj hx => (f2.block j (heap_lt hx) hj).trans hx
  have ke : ∀ y s, Apt wb (H + 4) hv rv y s → Apt (w6.setCell ⟨H + 3, 1, none⟩ (.slice (some ⟨g, 0, none⟩) (us.length + 1) cap)) (H + 4) hv (.slice (some ⟨g, 0, none⟩) (us.length + 1) cap) y s := fun y s hy => by
    refine ⟨?_, fun j e => ?_⟩
    · have h1 := hy.ia.fr f (fun j e e2 => (hy.blk j e).2.2.2 e2)
      exact h1.fr f2 (fun j e e2 => by have := (hy.blk j e).1; omega)
    · obtain ⟨q1, q2, q3, q4⟩ := hy.blk j e
      refine ⟨q1, by have := f.size; have := f2.size; omega, q3, fun e2 => ?_⟩
      have e4 : g = j := Option.some.inj e2
      subst e4
      rcases hat with e3 | e3
      · exact q4 e3
      · omega
  refine ⟨up H _ (by omega) (lo H _ (by omega) h.b0), up _ _ (by omega) (lo _ _ (by omega) h.b1), up _ _ (by omega) (lo _ _ (by omega) h.b2), set_of (lo _ _ (by omega) h.b3) 1 _, ?_, ?_, by rw [List.length_append, List.length_append, h.ul]; rfl, fun i hi hk => ?_, ?_, h.okh, fun y hy => ?_⟩
  · have h1 := ownsRow_fr h.oh f (fun j e e2 => own_apart h.ol h.oh (by decide) j e e2)
    exact ownsRow_fr h1 f2 (fun j e e2 => by have := (World.ownsRow.lt h1 j e).1; omega)
  · rw [List.length_append]
    exact ownsRow_fr ho f2 (fun j e e2 => by have := (World.ownsRow.lt ho j e).1; omega)
  · have hul := h.ul
    by_cases e : i < us.length
    · rw [List.getElem_append_left e, List.getElem_append_left (by omega)]
      exact ke _ _ (h.each i e (by omega))
    · have ei : i = us.length := by simp at hi; omega
      subst ei
      have e1 : (us ++ [u])[us.length] = u := by simp
      have e2 : (ls ++ [z])[us.length] = z := by simp [hul]
      rw [e1, e2]
      exact ke _ _ hu
  · exact (h.fr.then f (fun j hj e => by have := hb j e; omega)).then f2 (fun j hj e => by omega)
  · rcases List.mem_append.1 hy with hy | hy
    · exact h.okl y hy
    · simp at hy; subst hy; exact hz
theorem own_slice {w : World} {B e sz n : Nat} {v : Value} {xs : List Value} (h : w.ownsRow B e sz v n xs) : ∃ a c, v = .slice a n c := by
  rcases h.2 with ⟨e, e2⟩ | ⟨g, cap, cur, e, -⟩
  · exact ⟨none, 0, by rw [e, e2]⟩
  · exact ⟨_, _, e⟩

/-- What lies ahead of both loops. -/
theorem SH.begin (w : World) (P R : Nat) : SH w ((((w.alloc zeroF).alloc nil2).alloc (.cells #[vI P, vI R, vI 0, .slice none 0 0] 28)).alloc nil2) w.heap.size P R (.slice none 0 0) (.slice none 0 0) [] [] [] := by
  refine ⟨keepA (keepA (keepA (heap_new w _) _) _) _, ?_, ?_, ?_, World.ownsRow_nil _ _ _ _, World.ownsRow_nil _ _ _ _, rfl, fun i hi => by simp at hi, Fr.alloc (Fr.alloc (Fr.alloc (Fr.alloc (Fr.refl _ w) _) _) _) _, fun x hx => by simp at hx, fun x hx => by simp at hx⟩
  · have := heap_new (w.alloc zeroF) nil2
    rw [World.size_alloc] at this
    exact keepA (keepA this _) _
  · have := heap_new ((w.alloc zeroF).alloc nil2) (.cells #[vI P, vI R, vI 0, .slice none 0 0] 28)
    rw [World.size_alloc, World.size_alloc] at this
    exact keepA this _
  · have := heap_new (((w.alloc zeroF).alloc nil2).alloc (.cells #[vI P, vI R, vI 0, .slice none 0 0] 28)) nil2
    rw [World.size_alloc, World.size_alloc, World.size_alloc] at this
    exact this


theorem ia_q {Q : Nat → Prop} {w : World} {v : Value} {l : List Int} (h : IA w v l) (hQ : ∀ k, v.ownBlock = some k → Q k) : IAq Q w v l := by
  obtain ⟨a, c, rfl, h⟩ := h
  refine ⟨a, c, rfl, fun hne => ?_⟩
  obtain ⟨k, o, rfl, hk, hc⟩ := h hne
  exact ⟨k, o, rfl, hQ k rfl, hk, hc⟩
theorem SH.fin {w wr : World} {H P R : Nat} {hv rv : Value} {us : List Value} {hs : List Int} {ls : List (List Int)} (h : SH w wr H P R hv rv us hs ls) (hH : H = w.heap.size) {wz : World}
    (hz : wz = ((((((wr.setCell ⟨H, 0, none⟩ (vI P)).setCell ⟨H, 1, none⟩ (vI R)).setCell ⟨H, 2, none⟩ (vI 0)).setCell ⟨H, 3, none⟩ (.slice none 0 0)).setCell ⟨H + 1, 0, none⟩ hv).setCell ⟨H + 1, 1, none⟩ rv).drew) :
    wz.heap[H]? = some (.cells #[vI P, vI R, vI 0, .slice none 0 0] 28) ∧ wz.heap[H + 1]? = some (.cells #[hv, rv] 31) ∧ SAq (fun j => w.heap.size ≤ j) wz (.agg #[hv, rv]) ⟨hs, ls⟩ ∧ Fr (fun _ => False) w wz := by
  have f1 : Fr (fun j => j = H) wr ((((wr.setCell ⟨H, 0, none⟩ (vI P)).setCell ⟨H, 1, none⟩ (vI R)).setCell ⟨H, 2, none⟩ (vI 0)).setCell ⟨H, 3, none⟩ (.slice none 0 0)) :=
    (((setCell_fr wr H 0 _).trans (setCell_fr _ H 1 _)).trans (setCell_fr _ H 2 _)).trans (setCell_fr _ H 3 _)
  have g1 := set_of (set_of (set_of (set_of h.b0 0 (vI P)) 1 (vI R)) 2 (vI 0)) 3 (.slice none 0 0)
  have g2 := (f1.block (H + 1) (heap_lt h.b1) (by omega)).trans h.b1
  generalize ((((wr.setCell ⟨H, 0, none⟩ (vI P)).setCell ⟨H, 1, none⟩ (vI R)).setCell ⟨H, 2, none⟩ (vI 0)).setCell ⟨H, 3, none⟩ (.slice none 0 0)) = w4 at *
  have f2 : Fr (fun j => j = H + 1) w4 wz := by rw [hz]; exact Fr.drew ((setCell_fr w4 (H + 1) 0 _).trans (setCell_fr _ (H + 1) 1 _))
  have f : Fr (fun j => j = H ∨ j = H + 1) wr wz := (f1.mono (fun _ _ e => Or.inl e)).trans (f2.mono (fun _ _ e => Or.inr e))
  have k2 : wz.heap[H + 1]? = some (.cells #[hv, rv] 31) := by rw [hz]; exact set_of (set_of g2 0 _) 1 _
  refine ⟨(f2.block H (heap_lt g1) (by omega)).trans g1, k2, ⟨hv, rv, rfl, ia_q (h.oh.fr f (fun j e e2 => by have := (h.oh.ge j e).1; omega)).ia (fun j e => by have := (h.oh.ge j e).1; omega), ?_⟩, h.fr.then f (fun j hj e => by omega)⟩
  have hol := ownsRow_fr h.ol f (fun j e e2 => by have := (World.ownsRow.lt h.ol j e).1; omega)
  obtain ⟨ra, rc, erv⟩ := own_slice hol
  refine ⟨ra, rc, by rw [erv]; simp only [h.ul], fun hne => ?_⟩
  have hl0 : 0 < us.length := by rw [h.ul]; exact List.length_pos_iff.2 hne
  obtain ⟨g, cap, e, hgl, -⟩ := own_cell hol (j := 0) (u := us[0]) (List.getElem?_eq_getElem hl0)
  rw [erv] at e
  cases e
  refine ⟨g, 0, rfl, by have := (World.ownsRow.lt hol g (by rw [erv]; rfl)).1; omega, hgl, fun j hj => ?_⟩
  have hj' : j < us.length := by rw [h.ul]; exact hj
  obtain ⟨g', cap', e', -, hc⟩ := own_cell hol (j := j) (u := us[j]) (List.getElem?_eq_getElem hj')
  rw [erv] at e'
  cases e'
  have hi := h.each j hj' hj
  exact ⟨us[j], by rw [Nat.zero_add]; exact hc, ia_q (hi.ia.fr f (fun b e e2 => by have := (hi.blk b e).1; omega)) (fun b e => by have := (hi.blk b e).1; omega)⟩

end Go.Proofs.Ytchilccmnaihkaa
