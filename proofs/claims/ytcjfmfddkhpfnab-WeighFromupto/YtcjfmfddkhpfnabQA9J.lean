import Derived.Test.YtcjfmfddkhpfnabQA6J
import Derived.Test.YtcjfmfddkhpfnabQA1J
namespace Go.Proofs.Ytcjfmfddkhpfnab
open Go.RowKit (wrap32 wrap64)
set_option linter.unusedVariables false
set_option linter.unusedSimpArgs false

set_option maxRecDepth 100000 in
set_option maxHeartbeats 1000000 in
/-- EqInts. -/
theorem eqInts_any (v1 v2 : Value) (zs ys : List Int) (w : World) (h1 : IntsAt w.heap.size w v1 zs) (h2 : IntsAt w.heap.size w v2 ys) (hz : zs.length ≤ 100000000000000) (hy : ys.length ≤ 100000000000000) :
    Calls Try.prog 9 #[v1, v2] w fun e w' => e = .returned (.bool (decide (zs = ys))) ∧ Fr (fun _ => False) w w' := by
  obtain ⟨a1, c1, rfl, -, hc1⟩ := h1
  obtain ⟨a2, c2, rfl, -, hc2⟩ := h2
  have H1 : Hd _ := hc1
  have H2 : Hd _ := hc2
  clear hc1 hc2
  by_cases hl : zs.length = ys.length
  · have hl' : ((zs.length : Int) != (ys.length : Int)) = false := by simp; omega
    have HL : Hd (zs.length = ys.length) := hl
    clear hl
    go_enter Try.func9, Try.ntmps9
    go_wp2_with fail
    go_loopw [5] (fun v wr => ∃ (k : Nat), v = .int .i64 k ∧ k ≤ zs.length ∧ Hd (zs.take k = ys.take k) ∧ Hd (Fr (fun _ => False) w wr)) (fun v _ => match v with | .int _ q => zs.length - q.toNat | _ => 0)
    case atStart => exact ⟨0, rfl, Nat.zero_le _, rfl, Fr.refl _ _⟩
    case round =>
      obtain ⟨k, rfl, hk, HT, HF⟩ := hrel
      by_cases hlt : k < zs.length
      · obtain ⟨k1, o1, rfl, hk1, g1⟩ := H1.out (by intro e; simp [e] at hlt)
        obtain ⟨k2, o2, rfl, hk2, g2⟩ := H2.out (by intro e; have hl := HL.out; rw [e] at hl; simp at hl; simp [hl] at hlt)
        have q1 := (HF.out.cell (o := o1 + k) hk1 (fun h => h)).trans (g1 k hlt)
        have q2 := (HF.out.cell (o := o2 + k) hk2 (fun h => h)).trans (g2 k (by have := HL.out; omega))
        have HZ : Hd (zs[k]? = some zs[k]) := List.getElem?_eq_getElem hlt
        have hky : k < ys.length := by have := HL.out; omega
        have HY : Hd (ys[k]? = some ys[k]) := List.getElem?_eq_getElem hky
        generalize zs[k] = z at *
        generalize ys[k] = y at *
        have hk0 : (0 : Int) ≤ k := by omega
        have hk3 : (k : Int) < zs.length := by omega
        have hk4 : (k : Int) < ys.length := by omega
        clear g1 g2
        by_cases hzy : z = y
        · subst hzy
          go_wp2_with fail
          refine wp_region_still_tail 8 mixed (by kernel_rfl) ?_
          simp only [List.take_succ_cons, List.take_zero, List.drop_succ_cons, List.drop_zero]
          repeat still_step
          refine wpStill_nil ?_
          go_wp2_with fail
          refine ⟨⟨k + 1, by simp; try omega, by omega, ?_, HF.out.drew⟩, by simp; try omega⟩
          unfold Hd
          rw [List.take_add_one, List.take_add_one, HZ.out, HY.out, HT.out]
        · have hzy' : (z != y) = true := by simpa using hzy
          go_wp2_with fail
          refine wp_region_still_tail 8 mixed (by kernel_rfl) ?_
          simp only [List.take_succ_cons, List.take_zero, List.drop_succ_cons, List.drop_zero]
          repeat still_step
          refine wpStill_nil ?_
          go_wp2_with fail
          go_ret
          refine ⟨?_, HF.out.drew⟩
          rw [decide_eq_false (fun e => hzy (by
            have h1 := HZ.out
            have h2 := HY.out
            rw [e, h2] at h1
            exact (Option.some.inj h1).symm))]
          rfl
      · have hke : k = zs.length := by omega
        have HE : Hd (zs = ys) := by have := HT.out; rw [hke, List.take_length, HL.out, List.take_length] at this; exact this
        clear HT
        go_wp2_with fail
        go_ret
        refine ⟨?_, HF.out⟩
        rw [decide_eq_true HE.out]
        rfl
  · have hl' : ((zs.length : Int) != (ys.length : Int)) = true := by simp; omega
    go_enter Try.func9, Try.ntmps9
    go_wp2_with fail
    go_ret
    refine ⟨?_, Fr.refl _ _⟩
    rw [decide_eq_false (fun e => hl (by rw [e]))]
    rfl

/-- A row of numbers, as a list. -/
theorem Row.intsAt {w : World} {b m : Nat} {f : Nat → Int} (h : Row w 3 b m (fun i => vI (f i))) {c : Nat} (hc : m ≤ c) : IntsAt w.heap.size w (.slice (some ⟨b, 0, none⟩) m c) ((List.range m).map f) := by
  refine ⟨some ⟨b, 0, none⟩, c, by simp, by simpa using hc, fun _ => ⟨b, 0, rfl, h.lt, fun i hi => ?_⟩⟩
  have hi' : i < m := by simpa using hi
  rw [Nat.zero_add, h.cell hi']
  simp
theorem IntsAt.wide {n n' : Nat} {w : World} {v : Value} {zs : List Int} (h : IntsAt n w v zs) (hn : n ≤ n') : IntsAt n' w v zs := by
  obtain ⟨a, c, e1, e2, e3⟩ := h
  exact ⟨a, c, e1, e2, fun hne => by obtain ⟨k, o, h1, h2, h3⟩ := e3 hne; exact ⟨k, o, h1, by omega, h3⟩⟩
theorem EdgesAt.wide {n n' : Nat} {w : World} {v : Value} {es : List Ed} (h : EdgesAt n w v es) (hn : n ≤ n') : EdgesAt n' w v es := by
  obtain ⟨a, c, e1, e2, e3⟩ := h
  exact ⟨a, c, e1, e2, fun hne => by obtain ⟨k, o, h1, h2, h3⟩ := e3 hne; exact ⟨k, o, h1, by omega, h3⟩⟩
/-- What a list of numbers lies in stays. -/
theorem IntsAt.stay {w w' : World} {v : Value} {zs : List Int} (h : IntsAt w.heap.size w v zs) (f : Fr (fun _ => False) w w') : IntsAt w'.heap.size w' v zs := (h.fr f (Nat.le_refl _) (fun _ _ h => h)).wide f.size
theorem EdgesAt.stay {w w' : World} {v : Value} {es : List Ed} (h : EdgesAt w.heap.size w v es) (f : Fr (fun _ => False) w w') : EdgesAt w'.heap.size w' v es := (h.fr f (Nat.le_refl _) (fun _ _ h => h)).wide f.size
theorem ints_lit (w : World) (b : Nat) (zs : List Int) (h : w.heap[b]? = some (.cells (zs.map vI).toArray 3)) : IntsAt w.heap.size w (.slice (some ⟨b, 0, none⟩) zs.length zs.length) zs := by
  refine ⟨_, _, rfl, Nat.le_refl _, fun _ => ⟨b, 0, rfl, heap_lt h, fun i hi => ?_⟩⟩
  rw [Nat.zero_add, cell_of h]
  simp [hi]
def eCells : List Ed → List Value
  | [] => []
  | e :: r => vI e.1 :: vI e.2.1 :: vI e.2.2 :: eCells r
theorem eCells_get : ∀ (es : List Ed) (i : Nat) (h : i < es.length), (eCells es)[i * 3]? = some (vI es[i].1) ∧ (eCells es)[i * 3 + 1]? = some (vI es[i].2.1) ∧ (eCells es)[i * 3 + 2]? = some (vI es[i].2.2)
  | e :: r, 0, _ => ⟨rfl, rfl, rfl⟩
  | e :: r, i + 1, h => by
    have := eCells_get r i (by simpa using h)
    rw [show (i + 1) * 3 = i * 3 + 1 + 1 + 1 by omega]
    simpa [eCells] using this
theorem edges_lit (w : World) (b : Nat) (es : List Ed) (h : w.heap[b]? = some (.cells (eCells es).toArray 39)) : EdgesAt w.heap.size w (.slice (some ⟨b, 0, none⟩) es.length es.length) es := by
  refine ⟨_, _, rfl, Nat.le_refl _, fun _ => ⟨b, 0, rfl, heap_lt h, fun i hi => ?_⟩⟩
  have := eCells_get es i hi
  simp only [Nat.zero_add, cell_of h, List.getElem?_toArray]
  exact this

def es0 : List Ed := [(0, 1, 0), (1, 2, 1), (2, 3, -1)]
theorem least0 : Least 4 es0 [0] (fun i => ([0, 0, 1, 0] : List Int).getD i 0) := by
  have r0 : Reach es0 [0] 0 0 := .root (by simp)
  have r1 : Reach es0 [0] 1 0 := .step (e := (0, 1, 0)) (by simp [es0]) r0
  have r2 : Reach es0 [0] 2 1 := .step (e := (1, 2, 1)) (by simp [es0]) r1
  have r3 : Reach es0 [0] 3 0 := by
    have := Reach.step (e := (2, 3, -1)) (es := es0) (rs := [0]) (by simp [es0]) r2
    rw [show plusX 1 (2, 3, -1).2.2 = 0 by decide] at this
    exact this
  refine ⟨fun r hr => ?_, fun d s k he => ?_, fun i hi => ?_⟩
  · simp at hr
    subst hr
    decide
  · simp only [es0, List.mem_cons, Prod.mk.injEq, List.not_mem_nil, or_false] at he
    rcases he with ⟨h1, h2, rfl⟩ | ⟨h1, h2, rfl⟩ | ⟨h1, h2, rfl⟩
    · obtain rfl : d = 0 := by omega
      obtain rfl : s = 1 := by omega
      decide
    · obtain rfl : d = 1 := by omega
      obtain rfl : s = 2 := by omega
      decide
    · obtain rfl : d = 2 := by omega
      obtain rfl : s = 3 := by omega
      decide
  · rcases (show i = 0 ∨ i = 1 ∨ i = 2 ∨ i = 3 by omega) with rfl | rfl | rfl | rfl
    · exact Or.inr r0
    · exact Or.inr r1
    · exact Or.inr r2
    · exact Or.inr r3
theorem right0 : RightG 4 es0 [0] := by decide
theorem map_least {n : Nat} {es : List Ed} {rs : List Int} {x y : Nat → Int} (hr : RightG n es rs) (hx : Least n es rs x) (hy : Least n es rs y) : (List.range n).map x = (List.range n).map y :=
  List.map_congr_left fun i hi => hx.unique hr hy (List.mem_range.1 hi)

/-- fixed. -/
theorem fixed_any (w : World) : Calls Try.prog 4 #[] w fun e w' => e = .returned (.bool true) ∧ Fr (fun _ => False) w w' := by
  have hE1 := heap_alloc_last w (.cells #[vI 0, vI 1, vI 0, vI 1, vI 2, vI 1, vI 2, vI 3, vI (-1)] 39)
  have hF1 : Fr (fun _ => False) w (w.alloc (.cells #[vI 0, vI 1, vI 0, vI 1, vI 2, vI 1, vI 2, vI 3, vI (-1)] 39)) := (Fr.refl _ w).alloc _
  have HE : Hd (EdgesAt ((w.alloc (.cells #[vI 0, vI 1, vI 0, vI 1, vI 2, vI 1, vI 2, vI 3, vI (-1)] 39)).alloc (.cells #[vI 0] 3)).heap.size ((w.alloc (.cells #[vI 0, vI 1, vI 0, vI 1, vI 2, vI 1, vI 2, vI 3, vI (-1)] 39)).alloc (.cells #[vI 0] 3)) (.slice (some ⟨w.heap.size, 0, none⟩) 3 3) es0) :=
    (edges_lit _ _ es0 hE1).stay ((Fr.refl _ _).alloc _)
  have HR : Hd (IntsAt ((w.alloc (.cells #[vI 0, vI 1, vI 0, vI 1, vI 2, vI 1, vI 2, vI 3, vI (-1)] 39)).alloc (.cells #[vI 0] 3)).heap.size ((w.alloc (.cells #[vI 0, vI 1, vI 0, vI 1, vI 2, vI 1, vI 2, vI 3, vI (-1)] 39)).alloc (.cells #[vI 0] 3)) (.slice (some ⟨w.heap.size + 1, 0, none⟩) 1 1) [0]) := by
    have h := heap_alloc_last (w.alloc (.cells #[vI 0, vI 1, vI 0, vI 1, vI 2, vI 1, vI 2, vI 3, vI (-1)] 39)) (.cells #[vI 0] 3)
    rw [show (w.alloc (.cells #[vI 0, vI 1, vI 0, vI 1, vI 2, vI 1, vI 2, vI 3, vI (-1)] 39)).heap.size = w.heap.size + 1 by simp] at h
    exact ints_lit _ _ [0] h
  have HF : Hd (Fr (fun _ => False) w ((w.alloc (.cells #[vI 0, vI 1, vI 0, vI 1, vI 2, vI 1, vI 2, vI 3, vI (-1)] 39)).alloc (.cells #[vI 0] 3))) := hF1.alloc _
  clear hE1 hF1
  go_enter Try.func4, Try.ntmps4
  go_wp2_with fail
  refine (show Calls Try.prog 8 #[.int .i64 4, .slice (some ⟨w.heap.size, 0, none⟩) 3 3, .slice (some ⟨w.heap.size + 1, 0, none⟩) 1 1] _ _ from from_any 4 _ _ es0 [0] _ HE.out HR.out (by simp [es0]) (by simp)).mono ?_
  rintro e w2 ⟨hF2, ⟨hno, -⟩ | ⟨-, b, x, rfl, hb, hrow, hleast⟩⟩
  · exact absurd right0 hno
  · have hx : (List.range 4).map x = [0, 0, 1, 0] := map_least (n := 4) right0 hleast least0
    have HF2 : Hd (Fr (fun _ => False) w w2) := HF.out.trans hF2
    have HX : Hd (IntsAt (w2.alloc (.cells #[vI 0, vI 0, vI 1, vI 0] 3)).heap.size (w2.alloc (.cells #[vI 0, vI 0, vI 1, vI 0] 3)) (.slice (some ⟨b, 0, none⟩) 4 4) [0, 0, 1, 0]) := by
      have := (hrow.intsAt (c := 4) (Nat.le_refl _)).stay ((Fr.refl _ w2).alloc (.cells #[vI 0, vI 0, vI 1, vI 0] 3))
      rw [← hx]
      exact this
    have HY : Hd (IntsAt (w2.alloc (.cells #[vI 0, vI 0, vI 1, vI 0] 3)).heap.size (w2.alloc (.cells #[vI 0, vI 0, vI 1, vI 0] 3)) (.slice (some ⟨w2.heap.size, 0, none⟩) 4 4) [0, 0, 1, 0]) :=
      ints_lit _ _ [0, 0, 1, 0] (heap_alloc_last w2 _)
    clear hrow hleast hx hF2 hb HE HR HF
    go_wp2_with fail
    refine (eqInts_any _ _ [0, 0, 1, 0] [0, 0, 1, 0] _ HX.out HY.out (by simp) (by simp)).mono ?_
    rintro e w3 ⟨rfl, hF3⟩
    have HF3 : Hd (Fr (fun _ => False) w w3) := (HF2.out.alloc _).trans hF3
    clear hF3
    go_wp2_with fail
    go_ret
    exact ⟨rfl, HF3.out⟩

end Go.Proofs.Ytcjfmfddkhpfnab

namespace Go.Proofs.Ytcjfmfddkhpfnab
open Go.RowKit (wrap32 wrap64)
set_option linter.unusedVariables false
set_option linter.unusedSimpArgs false

/-! ### lists of edges and numbers that a statement makes -/
def OwnE (w : World) (B : Nat) (v : Value) (es : List Ed) : Prop := w.ownsRow B 39 3 v es.length (eCells es)
def OwnI (w : World) (B : Nat) (v : Value) (zs : List Int) : Prop := w.ownsRow B 3 1 v zs.length (zs.map vI)

theorem eCells_length : ∀ es : List Ed, (eCells es).length = es.length * 3
  | [] => rfl
  | e :: r => by simp [eCells, eCells_length r]; omega
theorem eCells_append : ∀ (a b : List Ed), eCells (a ++ b) = eCells a ++ eCells b
  | [], _ => rfl
  | e :: r, b => by simp [eCells, eCells_append r b]
theorem OwnE.nil (w : World) (B : Nat) : OwnE w B (.slice none 0 0) [] := World.ownsRow_nil w B 39 3
theorem OwnI.nil (w : World) (B : Nat) : OwnI w B (.slice none 0 0) [] := World.ownsRow_nil w B 3 1
theorem OwnE.fr {S : Nat → Prop} {w w' : World} {B : Nat} {v : Value} {es : List Ed} (h : OwnE w B v es) (f : Fr S w w') (hS : ∀ g, v.ownBlock = some g → ¬ S g) : OwnE w' B v es := ownsRow_fr h f hS
theorem OwnI.fr {S : Nat → Prop} {w w' : World} {B : Nat} {v : Value} {zs : List Int} (h : OwnI w B v zs) (f : Fr S w w') (hS : ∀ g, v.ownBlock = some g → ¬ S g) : OwnI w' B v zs := ownsRow_fr h f hS
theorem OwnE.ge {w : World} {B : Nat} {v : Value} {es : List Ed} (h : OwnE w B v es) : ∀ k, v.ownBlock = some k → B ≤ k ∧ k < w.heap.size := World.ownsRow.lt h
theorem OwnI.ge {w : World} {B : Nat} {v : Value} {zs : List Int} (h : OwnI w B v zs) : ∀ k, v.ownBlock = some k → B ≤ k ∧ k < w.heap.size := World.ownsRow.lt h
theorem OwnE.at {w : World} {B : Nat} {v : Value} {es : List Ed} (h : OwnE w B v es) : EdgesAt w.heap.size w v es := by
  rcases h.2 with ⟨h2, h3⟩ | ⟨g, cap, cur, e, h3, h4, h5, h6, h7, h8⟩
  · exact ⟨none, 0, by rw [h2, h3], by omega, fun hne => absurd (List.eq_nil_of_length_eq_zero h3) hne⟩
  · refine ⟨_, cap, e, h5, fun _ => ⟨g, 0, rfl, heap_lt h4, fun i hi => ?_⟩⟩
    have key : ∀ j, j < es.length * 3 → cur[j]? = (eCells es)[j]? := fun j hj => by
      rw [← h8, List.getElem?_take, if_pos hj, Array.getElem?_toList]
    obtain ⟨k0, k1, k2⟩ := eCells_get es i hi
    simp only [Nat.zero_add, cell_of h4]
    rw [key _ (by omega), key _ (by omega), key _ (by omega)]
    exact ⟨k0, k1, k2⟩
theorem OwnI.at {w : World} {B : Nat} {v : Value} {zs : List Int} (h : OwnI w B v zs) : IntsAt w.heap.size w v zs := by
  rcases h.2 with ⟨h2, h3⟩ | ⟨g, cap, cur, e, h3, h4, h5, h6, h7, h8⟩
  · exact ⟨none, 0, by rw [h2, h3], by omega, fun hne => absurd (List.eq_nil_of_length_eq_zero h3) hne⟩
  · refine ⟨_, cap, e, h5, fun _ => ⟨g, 0, rfl, heap_lt h4, fun i hi => ?_⟩⟩
    rw [Nat.zero_add, cell_of h4]
    have : cur[i]? = (zs.map vI)[i]? := by rw [← h8, List.getElem?_take, if_pos (by omega), Array.getElem?_toList]
    rw [this]
    simp [hi]
theorem OwnE.shape {w : World} {B : Nat} {v : Value} {es : List Ed} (h : OwnE w B v es) : ∃ ad cap, v = .slice ad es.length cap := by
  obtain ⟨a, c, e, -⟩ := h.at
  exact ⟨a, c, e⟩
theorem OwnI.shape {w : World} {B : Nat} {v : Value} {zs : List Int} (h : OwnI w B v zs) : ∃ ad cap, v = .slice ad zs.length cap := by
  obtain ⟨a, c, e, -⟩ := h.at
  exact ⟨a, c, e⟩
/-- Two lists that lie apart. -/
def Apt (v u : Value) : Prop := ∀ j, v.ownBlock = some j → u.ownBlock = some j → False
theorem Apt.symm {v u : Value} (h : Apt v u) : Apt u v := fun j a b => h j b a
theorem Apt.nil (u : Value) : Apt (.slice none 0 0) u := fun j a _ => by cases a
/-- What lay there before a row grew stays. -/
theorem grow_keepE {w w6 : World} {B : Nat} {v u : Value} {es : List Ed} (h : OwnE w B u es) (hg : w.grownBy w6 v.ownBlock) (ha : Apt v u) : OwnE w6 B u es := h.fr (grown_fr hg) (fun g hg e => ha g e hg)
theorem grow_keepI {w w6 : World} {B : Nat} {v u : Value} {zs : List Int} (h : OwnI w B u zs) (hg : w.grownBy w6 v.ownBlock) (ha : Apt v u) : OwnI w6 B u zs := h.fr (grown_fr hg) (fun g hg e => ha g e hg)
theorem grow_apt {w : World} {v u : Value} {g6 n cap H : Nat} (ha : Apt v u) (hat : v.ownBlock = some g6 ∨ g6 = H) (hu : ∀ k, u.ownBlock = some k → k < w.heap.size) (hH : w.heap.size ≤ H) : Apt (.slice (some ⟨g6, 0, none⟩) n cap) u := fun j hj hu' => by
  cases hj
  rcases hat with e | e
  · exact ha _ e hu'
  · have := hu _ hu'; simp at this; omega
theorem grow_fr0 {w wr w6 : World} {v : Value} (h : Fr (fun _ => False) w wr) (hg : wr.grownBy w6 v.ownBlock) (hb : ∀ k, v.ownBlock = some k → w.heap.size ≤ k) : Fr (fun _ => False) w w6 :=
  h.anew (grown_fr hg) (fun j hj e => by have := hb j e; omega)
theorem OwnE.of {w6 : World} {B : Nat} {es : List Ed} {e : Ed} {g cap : Nat} (h : w6.ownsRow B 39 3 (.slice (some ⟨g, 0, none⟩) (es.length + 1) cap) (es.length + 1) (eCells es ++ [vI e.1, vI e.2.1, vI e.2.2])) : OwnE w6 B (.slice (some ⟨g, 0, none⟩) (es.length + 1) cap) (es ++ [e]) := by
  unfold OwnE
  rw [eCells_append, List.length_append]
  exact h
theorem OwnI.of {w6 : World} {B : Nat} {zs : List Int} {z : Int} {g cap : Nat} (h : w6.ownsRow B 3 1 (.slice (some ⟨g, 0, none⟩) (zs.length + 1) cap) (zs.length + 1) (zs.map vI ++ [vI z])) : OwnI w6 B (.slice (some ⟨g, 0, none⟩) (zs.length + 1) cap) (zs ++ [z]) := by
  unfold OwnI
  rw [List.map_append, List.length_append]
  exact h

end Go.Proofs.Ytcjfmfddkhpfnab

namespace Go.Proofs.Ytcjfmfddkhpfnab
open Go.RowKit (wrap32 wrap64)
set_option linter.unusedVariables false
set_option linter.unusedSimpArgs false

theorem flowsX_iff {q : Int} : flowsX q = true ↔ -1 ≤ q ∧ q ≤ 3 := by unfold flowsX; simp

set_option maxRecDepth 100000 in
set_option maxHeartbeats 1000000 in
/-- The document's Right. -/
theorem rright_any (n : Int) (ev rv : Value) (es : List Ed) (rs : List Int) (w : World) (hE : EdgesAt w.heap.size w ev es) (hR : IntsAt w.heap.size w rv rs) (hel : es.length ≤ 100000000000000) (hrl : rs.length ≤ 100000000000000) :
    Calls Try.prog 27 #[.int .i64 n, ev, rv] w fun e w' => e = .returned (.bool (decide (RightG n es rs))) ∧ Fr (fun _ => False) w w' := by
  obtain ⟨ea, ec, rfl, -, hein⟩ := hE
  obtain ⟨ra, rc, rfl, -, hrin⟩ := hR
  have HE : Hd _ := hein
  have HR : Hd _ := hrin
  clear hein hrin
  by_cases hn0 : n < 0
  · have hn0' : decide (n < 0) = true := by simpa using hn0
    go_enter Try.func27, Try.ntmps27
    go_wp2_with fail
    go_ret
    refine ⟨?_, Fr.refl _ _⟩
    rw [decide_eq_false (fun h => by have := h.1; omega)]
    rfl
  have hn0' : decide (n < 0) = false := by simpa using hn0
  by_cases hn1 : 1048576 < n
  · have hn1' : decide (1048576 < n) = true := by simpa using hn1
    go_enter Try.func27, Try.ntmps27
    go_wp2_with fail
    go_ret
    refine ⟨?_, Fr.refl _ _⟩
    rw [decide_eq_false (fun h => by have := h.1; omega)]
    rfl
  have hn1' : decide (1048576 < n) = false := by simpa using hn1
  go_enter Try.func27, Try.ntmps27
  go_wp2_with fail
  go_loopw [7] (fun v wr => ∃ (k : Nat), v = .int .i64 k ∧ k ≤ es.length ∧ Hd (∀ e ∈ es.take k, RightE n e) ∧ Hd (Fr (fun _ => False) w wr)) (fun v _ => match v with | .int _ q => es.length - q.toNat | _ => 0)
  case atStart => exact ⟨0, rfl, Nat.zero_le _, fun e h => by simp at h, Fr.refl _ _⟩
  case round =>
    obtain ⟨k, rfl, hk, HA, HF⟩ := hrel
    by_cases hlt : k < es.length
    · obtain ⟨pk, po, rfl, hpk, hcs⟩ := HE.out (by intro e; simp [e] at hlt)
      obtain ⟨c0, c1, c2⟩ := hcs k hlt
      have p0 := (HF.out.cell (o := po + k * 3) hpk (fun h => h)).trans c0
      have p1 := (HF.out.cell (o := po + k * 3 + 1) hpk (fun h => h)).trans c1
      have p2 := (HF.out.cell (o := po + k * 3 + 2) hpk (fun h => h)).trans c2
      clear hcs c0 c1 c2
      have HT : Hd (es.take (k + 1) = es.take k ++ [es[k]]) := by
        unfold Hd; rw [List.take_add_one, List.getElem?_eq_getElem hlt]; rfl
      have HM : Hd (es[k] ∈ es) := List.getElem_mem hlt
      obtain ⟨e, he⟩ : ∃ e, es[k] = e := ⟨_, rfl⟩
      rw [he] at p0 p1 p2 HT HM
      clear he
      obtain ⟨d, s, q⟩ := e
      have hk0 : (0 : Int) ≤ k := by omega
      have hk1 : (k : Int) < es.length := by omega
      have hF1 : Hd (Fr (fun _ => False) w (wr.alloc (.cells #[vI d, vI s, vI q] 39))) := HF.out.alloc _
      by_cases C0 : d < 0
      · have D0 : decide (d < 0) = true := decide_eq_true C0
        clear C0
        go_wp2_with fail
        go_ret
        refine ⟨?_, hF1.out⟩
        have C0 := of_decide_eq_true D0
        rw [decide_eq_false (fun h => by have := (h.2.1 _ HM.out).1; simp only at this; omega)]
        rfl
      have D0 : decide (d < 0) = false := decide_eq_false C0
      by_cases C1 : n ≤ d
      · have D1 : decide (n ≤ d) = true := decide_eq_true C1
        clear C1
        go_wp2_with fail
        go_ret
        refine ⟨?_, hF1.out⟩
        have C1 := of_decide_eq_true D1
        rw [decide_eq_false (fun h => by have := (h.2.1 _ HM.out).1; simp only at this; omega)]
        rfl
      have D1 : decide (n ≤ d) = false := decide_eq_false C1
      by_cases C2 : s < 0
      · have D2 : decide (s < 0) = true := decide_eq_true C2
        clear C2
        go_wp2_with fail
        go_ret
        refine ⟨?_, hF1.out⟩
        have C2 := of_decide_eq_true D2
        rw [decide_eq_false (fun h => by have := (h.2.1 _ HM.out).2.1; simp only at this; omega)]
        rfl
      have D2 : decide (s < 0) = false := decide_eq_false C2
      by_cases C3 : n ≤ s
      · have D3 : decide (n ≤ s) = true := decide_eq_true C3
        clear C3
        go_wp2_with fail
        go_ret
        refine ⟨?_, hF1.out⟩
        have C3 := of_decide_eq_true D3
        rw [decide_eq_false (fun h => by have := (h.2.1 _ HM.out).2.1; simp only at this; omega)]
        rfl
      have D3 : decide (n ≤ s) = false := decide_eq_false C3
      by_cases C4 : q < -1
      · have D4 : decide (q < -1) = true := decide_eq_true C4
        clear C4
        go_wp2_with fail
        go_ret
        refine ⟨?_, hF1.out⟩
        have C4 := of_decide_eq_true D4
        rw [decide_eq_false (fun h => by have := flowsX_iff.1 (h.2.1 _ HM.out).2.2; simp only at this; omega)]
        rfl
      have D4 : decide (q < -1) = false := decide_eq_false C4
      by_cases C5 : 3 < q
      · have D5 : decide (3 < q) = true := decide_eq_true C5
        clear C5
        go_wp2_with fail
        go_ret
        refine ⟨?_, hF1.out⟩
        have C5 := of_decide_eq_true D5
        rw [decide_eq_false (fun h => by have := flowsX_iff.1 (h.2.1 _ HM.out).2.2; simp only at this; omega)]
        rfl
      have D5 : decide (3 < q) = false := decide_eq_false C5
      have HRE : Hd (RightE n (d, s, q)) := ⟨⟨by simp only; omega, by simp only; omega⟩, ⟨by simp only; omega, by simp only; omega⟩, flowsX_iff.2 ⟨by simp only; omega, by simp only; omega⟩⟩
      clear C0 C1 C2 C3 C4 C5
      go_wp2_with fail
      refine ⟨⟨k + 1, by simp, by omega, ?_, hF1.out⟩, by simp; omega⟩
      unfold Hd
      rw [HT.out]
      intro e hme
      rcases List.mem_append.1 hme with h | h
      · exact HA.out e h
      · rw [List.mem_singleton.1 h]; exact HRE.out
    · have hke : k = es.length := by omega
      have HA2 : Hd (∀ e ∈ es, RightE n e) := by have := HA.out; rw [hke, List.take_length] at this; exact this
      clear HA
      subst hke
      go_wp2_with fail
      go_loopw [9] (fun v wr => ∃ (k : Nat), v = .int .i64 k ∧ k ≤ rs.length ∧ Hd (∀ r ∈ rs.take k, 0 ≤ r ∧ r < n) ∧ Hd (Fr (fun _ => False) w wr)) (fun v _ => match v with | .int _ q => rs.length - q.toNat | _ => 0)
      case atStart => exact ⟨0, rfl, Nat.zero_le _, fun e h => by simp at h, HF.out⟩
      case round =>
        obtain ⟨k, rfl, hk, HA, HF⟩ := hrel
        by_cases hlt : k < rs.length
        · obtain ⟨pk, po, rfl, hpk, hcs⟩ := HR.out (by intro e; simp [e] at hlt)
          have p0 := (HF.out.cell (o := po + k) hpk (fun h => h)).trans (hcs k hlt)
          clear hcs
          have HT : Hd (rs.take (k + 1) = rs.take k ++ [rs[k]]) := by
            unfold Hd; rw [List.take_add_one, List.getElem?_eq_getElem hlt]; rfl
          have HM : Hd (rs[k] ∈ rs) := List.getElem_mem hlt
          obtain ⟨r, he⟩ : ∃ e, rs[k] = e := ⟨_, rfl⟩
          rw [he] at p0 HT HM
          clear he
          have hk0 : (0 : Int) ≤ k := by omega
          have hk1 : (k : Int) < rs.length := by omega
          by_cases C0 : r < 0
          · have D0 : decide (r < 0) = true := decide_eq_true C0
            clear C0
            go_wp2_with fail
            go_ret
            refine ⟨?_, HF.out⟩
            have C0 := of_decide_eq_true D0
            rw [decide_eq_false (fun h => by have := h.2.2 _ HM.out; omega)]
            rfl
          have D0 : decide (r < 0) = false := decide_eq_false C0
          by_cases C1 : n ≤ r
          · have D1 : decide (n ≤ r) = true := decide_eq_true C1
            clear C1
            go_wp2_with fail
            go_ret
            refine ⟨?_, HF.out⟩
            have C1 := of_decide_eq_true D1
            rw [decide_eq_false (fun h => by have := h.2.2 _ HM.out; omega)]
            rfl
          have D1 : decide (n ≤ r) = false := decide_eq_false C1
          have HRE : Hd (0 ≤ r ∧ r < n) := ⟨by omega, by omega⟩
          clear C0 C1
          go_wp2_with fail
          refine ⟨⟨k + 1, by simp, by omega, ?_, HF.out⟩, by simp; omega⟩
          unfold Hd
          rw [HT.out]
          intro e hme
          rcases List.mem_append.1 hme with h | h
          · exact HA.out e h
          · rw [List.mem_singleton.1 h]; exact HRE.out
        · have hke : k = rs.length := by omega
          have HA3 : Hd (∀ r ∈ rs, 0 ≤ r ∧ r < n) := by have := HA.out; rw [hke, List.take_length] at this; exact this
          clear HA
          subst hke
          go_wp2_with fail
          go_ret
          refine ⟨?_, HF.out⟩
          rw [decide_eq_true ⟨⟨by omega, by omega⟩, HA2.out, HA3.out⟩]
          rfl

end Go.Proofs.Ytcjfmfddkhpfnab

namespace Go.Proofs.Ytcjfmfddkhpfnab
open Go.RowKit (wrap32 wrap64)
set_option linter.unusedVariables false
set_option linter.unusedSimpArgs false

/-- The document's weights, as they fall. -/
structure Xs (w wr : World) (g m : Nat) (L : Nat → Int) : Prop where
  blk : ∃ cs, wr.heap[g]? = some (.cells cs 3) ∧ ∀ i, i < m → cs[i]? = some (vI (L i))
  ge : w.heap.size ≤ g
  fr : Fr (fun _ => False) w wr
theorem Xs.cell {w wr : World} {g m : Nat} {L : Nat → Int} (h : Xs w wr g m L) {i : Nat} (hi : i < m) : wr.cell? ⟨g, i, none⟩ = some (vI (L i)) := by
  obtain ⟨cs, h1, h2⟩ := h.blk; rw [cell_of h1]; exact h2 i hi
theorem Xs.frozen {w wr : World} {g m : Nat} {L : Nat → Int} (h : Xs w wr g m L) (i : Nat) : wr.frozen? ⟨g, i, none⟩ = false := by
  obtain ⟨cs, h1, h2⟩ := h.blk; exact frozen_of h1 i
theorem Xs.stay {w wr w' : World} {g m : Nat} {L : Nat → Int} (h : Xs w wr g m L) (f : Fr (fun _ => False) wr w') : Xs w w' g m L := by
  obtain ⟨cs, h1, h2⟩ := h.blk
  exact ⟨⟨cs, (f.block _ (heap_lt h1) (fun h => h)).trans h1, h2⟩, h.ge, h.fr.trans f⟩
theorem Xs.set {w wr : World} {g m : Nat} {L : Nat → Int} (h : Xs w wr g m L) (s : Nat) (v : Int) : Xs w (wr.setCell ⟨g, s, none⟩ (vI v)) g m (upd L s v) := by
  obtain ⟨cs, h1, h2⟩ := h.blk
  refine ⟨⟨cs.setIfInBounds s (vI v), set_of h1 s (vI v), fun i hi => ?_⟩, h.ge, h.fr.setCell _ _ (Or.inr h.ge)⟩
  rw [Array.getElem?_setIfInBounds]
  by_cases e : s = i
  · subst e
    have := (Array.getElem?_eq_some_iff.1 (h2 s hi)).1
    rw [if_pos rfl, if_pos this, upd_same]
  · rw [if_neg e, upd_ne _ _ (fun h => e h.symm)]; exact h2 i hi
theorem Xs.at {w wr : World} {g m cap : Nat} {L : Nat → Int} (h : Xs w wr g m L) (hc : m ≤ cap) : IntsAt wr.heap.size wr (.slice (some ⟨g, 0, none⟩) m cap) ((List.range m).map L) := by
  obtain ⟨cs, h1, h2⟩ := h.blk
  refine ⟨_, cap, by simp, by simpa using hc, fun _ => ⟨g, 0, rfl, heap_lt h1, fun i hi => ?_⟩⟩
  have hi' : i < m := by simpa using hi
  rw [Nat.zero_add, cell_of h1]
  simpa using h2 i hi'

/-- What holds while the document's weights fall. -/
structure Wl (n : Nat) (es : List Ed) (rs : List Int) (L : Nat → Int) : Prop where
  way : ∀ i, i < n → L i = 9 ∨ Reach es rs i (L i)
  root : ∀ r : Nat, (r : Int) ∈ rs → L r ≤ 0
theorem Wl.fall {n : Nat} {es : List Ed} {rs : List Int} {L : Nat → Int} (h : Wl n es rs L) {d s : Nat} {k : Int} (hd : d < n) (he : ((d : Int), (s : Int), k) ∈ es) (hf : plusX (L d) k < L s) : Wl n es rs (upd L s (plusX (L d) k)) where
  way := fun i hi => by
    by_cases e : i = s
    · subst e
      rw [upd_same]
      rcases h.way d hd with h1 | h1
      · rw [h1, plusX_nine]; exact Or.inl rfl
      · exact Or.inr (.step (e := ((d : Int), (i : Int), k)) he h1)
    · rw [upd_ne _ _ e]; exact h.way i hi
  root := fun r hr => by
    have := h.root r hr
    by_cases e : r = s
    · subst e; rw [upd_same]; omega
    · rw [upd_ne _ _ e]; exact this
def fineE (L : Nat → Int) (e : Ed) : Prop := L e.2.1.toNat ≤ plusX (L e.1.toNat) e.2.2
theorem Wl.least {n : Nat} {es : List Ed} {rs : List Int} {L : Nat → Int} (h : Wl n es rs L) (hf : ∀ e ∈ es, fineE L e) : Least n es rs L :=
  ⟨h.root, fun d s k he => by have := hf _ he; simpa [fineE] using this, h.way⟩
theorem mu_fall0 {n : Nat} {L : Nat → Int} {s : Nat} {v : Int} (hs : s < n) (hv : v < L s) (h1 : -1 ≤ v) : mu n (upd L s v) [] + 1 < mu n L [] := by
  have := mu_fall (l := []) hs hv h1
  simp only [addTo, List.not_mem_nil, if_false, List.nil_append] at this
  unfold mu at *
  simp at *
  omega
theorem edge_nat {n : Nat} {e : Ed} (h : RightE n e) : ∃ d s : Nat, e = ((d : Int), (s : Int), e.2.2) ∧ d < n ∧ s < n := by
  obtain ⟨⟨h1, h2⟩, ⟨h3, h4⟩, -⟩ := h
  exact ⟨e.1.toNat, e.2.1.toNat, by rw [Int.toNat_of_nonneg h1, Int.toNat_of_nonneg h3], by omega, by omega⟩

end Go.Proofs.Ytcjfmfddkhpfnab
