import Derived.Test.YtdkijecnnmncnaaGreatDoorQUdJ
import Derived.Deep.DeepCutAuto
namespace Go.Proofs.YtdkijecnnmncnaaGreatDoor.Wg
set_option linter.unusedVariables false
set_option linter.unusedSimpArgs false
def eg (es : List Ed) (j : Nat) : Ed := es.getD j (0, 0, 0)
def dn (es : List Ed) (j : Nat) : Nat := (eg es j).1.toNat
def cnt (es : List Ed) : Nat → Nat → Nat
 | 0, _ => 0
 | i + 1, l => cnt es i l + if dn es i = l then 1 else 0
def beg (es : List Ed) : Nat → Nat
 | 0 => 0
 | l + 1 => beg es l + cnt es es.length l
def pos (es : List Ed) (j : Nat) : Nat := beg es (dn es j + 1) - 1 - cnt es j (dn es j)
theorem cnt_mono (es : List Ed) (l : Nat) {i j : Nat} (h : i ≤ j) : cnt es i l ≤ cnt es j l := by
 induction j with
 | zero => rw [show i = 0 by omega]; exact Nat.le_refl _
 | succ j ih =>
   by_cases e : i = j + 1
   ·rw [e]; exact Nat.le_refl _
   ·have := ih (by omega)
    simp only [cnt]
    omega
theorem cnt_lt (es : List Ed) {i j : Nat} (h : i < j) : cnt es i (dn es i) < cnt es j (dn es i) := by
 have := cnt_mono es (dn es i) (show i + 1 ≤ j from h)
 simp only [cnt, if_true] at this
 omega
theorem beg_mono (es : List Ed) {i j : Nat} (h : i ≤ j) : beg es i ≤ beg es j := by
 induction j with
 | zero => rw [show i = 0 by omega]; exact Nat.le_refl _
 | succ j ih =>
   by_cases e : i = j + 1
   ·rw [e]; exact Nat.le_refl _
   ·have := ih (by omega)
    simp only [beg]
    omega
theorem cnt_hits (es : List Ed) (l : Nat) : ∀ (N k : Nat), k < cnt es N l → ∃ j, j < N ∧ dn es j = l ∧ cnt es j l = k
 | 0, k, h => by simp [cnt] at h
 | N + 1, k, h => by
   by_cases hk : k < cnt es N l
   ·obtain ⟨j, h1, h2⟩ := cnt_hits es l N k hk
    exact ⟨j, by omega, h2⟩
   ·simp only [cnt] at h
    split at h
    ·rename_i e
     exact ⟨N, by omega, e, by omega⟩
    ·omega
def sumTo (f : Nat → Nat) : Nat → Nat
 | 0 => 0
 | l + 1 => sumTo f l + f l
theorem sumTo_congr {f g : Nat → Nat} : ∀ {n : Nat}, (∀ l, l < n → f l = g l) → sumTo f n = sumTo g n
 | 0, _ => rfl
 | n + 1, h => by simp only [sumTo]; rw [sumTo_congr (fun l hl => h l (by omega)), h n (by omega)]
theorem sumTo_add (f g : Nat → Nat) : ∀ n, sumTo (fun l => f l + g l) n = sumTo f n + sumTo g n
 | 0 => rfl
 | n + 1 => by simp only [sumTo]; rw [sumTo_add f g n]; omega
theorem sumTo_zero : ∀ n, sumTo (fun _ => 0) n = 0
 | 0 => rfl
 | n + 1 => by simp only [sumTo]; rw [sumTo_zero n]
theorem sumTo_ite (d : Nat) : ∀ n, sumTo (fun l => if d = l then 1 else 0) n = if d < n then 1 else 0
 | 0 => by simp [sumTo]
 | n + 1 => by
   simp only [sumTo]
   rw [sumTo_ite d n]
   by_cases h1 : d < n
   ·rw [if_pos h1, if_neg (by omega), if_pos (by omega)]
   ·by_cases h2 : d = n
    ·rw [if_neg h1, if_pos h2, if_pos (by omega)]
    ·rw [if_neg h1, if_neg h2, if_neg (by omega)]
theorem beg_sum (es : List Ed) : ∀ n, beg es n = sumTo (cnt es es.length) n
 | 0 => rfl
 | n + 1 => by simp only [beg, sumTo]; rw [beg_sum es n]
theorem cnt_sum (es : List Ed) (n : Nat) : ∀ i, (∀ j, j < i → dn es j < n) → sumTo (cnt es i) n = i
 | 0, _ => sumTo_zero n
 | i + 1, h => by
   have e : sumTo (cnt es (i + 1)) n = sumTo (fun l => cnt es i l + if dn es i = l then 1 else 0) n := rfl
   rw [e, sumTo_add, cnt_sum es n i (fun j hj => h j (by omega)), sumTo_ite, if_pos (h i (by omega))]
theorem cnt_none (es : List Ed) (l : Nat) : ∀ i, (∀ j, j < i → dn es j ≠ l) → cnt es i l = 0
 | 0, _ => rfl
 | i + 1, h => by
   simp only [cnt]
   rw [cnt_none es l i (fun j hj => h j (by omega)), if_neg (h i (by omega))]
section
variable {n : Nat} {es : List Ed}
theorem eg_mem {j : Nat} (hj : j < es.length) : eg es j ∈ es := by
 unfold eg
 rw [List.getD_eq_getElem?_getD, List.getElem?_eq_getElem hj]
 exact List.getElem_mem hj
theorem dn_lt (hR : ∀ e ∈ es, RightE n e) {j : Nat} (hj : j < es.length) : dn es j < n ∧ ((dn es j : Nat) : Int) = (eg es j).1 := by
 have := (hR _ (eg_mem hj)).1
 unfold dn
 omega
theorem beg_all (hR : ∀ e ∈ es, RightE n e) : beg es n = es.length := by
 rw [beg_sum]
 exact cnt_sum es n es.length (fun j hj => (dn_lt hR hj).1)
theorem beg_more (hR : ∀ e ∈ es, RightE n e) : beg es (n + 1) = es.length := by
 simp only [beg]
 rw [beg_all hR, cnt_none es n es.length (fun j hj => by have := (dn_lt hR hj).1; omega)]
 rfl
theorem pos_in {j : Nat} (hj : j < es.length) : beg es (dn es j) ≤ pos es j ∧ pos es j < beg es (dn es j + 1) ∧ pos es j + 1 + cnt es j (dn es j) = beg es (dn es j + 1) := by
 have h1 := cnt_lt es hj
 have h2 : beg es (dn es j + 1) = beg es (dn es j) + cnt es es.length (dn es j) := rfl
 unfold pos
 omega
theorem pos_lt (hR : ∀ e ∈ es, RightE n e) {j : Nat} (hj : j < es.length) : pos es j < es.length := by
 have h1 := (pos_in hj).2.1
 have h2 := beg_mono es (show dn es j + 1 ≤ n from (dn_lt hR hj).1)
 rw [beg_all hR] at h2
 omega
theorem pos_ne {i j : Nat} (hj : j < i) (hi : i < es.length) : pos es j ≠ pos es i := by
 have h1 := pos_in (show j < es.length by omega)
 have h2 := pos_in hi
 rcases Nat.lt_trichotomy (dn es j) (dn es i) with h | h | h
 ·have := beg_mono es (show dn es j + 1 ≤ dn es i from h)
  omega
 ·have := cnt_lt es hj
  rw [h] at this h1
  omega
 ·have := beg_mono es (show dn es i + 1 ≤ dn es j from h)
  omega
end
structure ByD (n : Nat) (es : List Ed) (A : Nat → Ed) (F : Nat → Nat) : Prop where
 le : ∀ l, l < n → F l ≤ F (l + 1)
 top : ∀ l, l ≤ n → F l ≤ es.length
 just : ∀ l p, l < n → F l ≤ p → p < F (l + 1) → A p ∈ es ∧ (A p).1 = l
 all : ∀ l e, l < n → e ∈ es → e.1 = (l : Nat) → ∃ p, F l ≤ p ∧ p < F (l + 1) ∧ A p = e
theorem ByD.mk' {n : Nat} {es : List Ed} {A : Nat → Ed} (hR : ∀ e ∈ es, RightE n e) (hA : ∀ j, j < es.length → A (pos es j) = eg es j) : ByD n es A (beg es) where
 le := fun l _ => beg_mono es (Nat.le_succ l)
 top := fun l hl => by have := beg_mono es hl; rw [beg_all hR] at this; exact this
 just := by
  intro l p hl h1 h2
  have h3 : beg es (l + 1) = beg es l + cnt es es.length l := rfl
  obtain ⟨j, hj, h4, h5⟩ := cnt_hits es l es.length (beg es (l + 1) - 1 - p) (by omega)
  have h6 : pos es j = p := by unfold pos; rw [h4, h5]; omega
  have h7 := hA j hj
  rw [h6] at h7
  rw [h7]
  exact ⟨eg_mem hj, by rw [← (dn_lt hR hj).2, h4]⟩
 all := by
  intro l e hl he hd
  obtain ⟨j, hj, rfl⟩ := List.getElem_of_mem he
  have e1 : eg es j = es[j] := by unfold eg; rw [List.getD_eq_getElem?_getD, List.getElem?_eq_getElem hj]; rfl
  have e2 : dn es j = l := by unfold dn; rw [e1, hd]; simp
  have h1 := pos_in hj
  rw [e2] at h1
  exact ⟨pos es j, h1.1, h1.2.1, by rw [hA j hj, e1]⟩
end Go.Proofs.YtdkijecnnmncnaaGreatDoor.Wg
namespace Go.Proofs.YtdkijecnnmncnaaGreatDoor.Wg
open Go.RowKit (wrap32 wrap64)
set_option linter.unusedVariables false
set_option linter.unusedSimpArgs false
set_option maxRecDepth 100000
set_option maxHeartbeats 2000000
theorem under24 : Tryz.prog.underlying 85 = some (.slice 140) := by kernel_rfl
def eCell (e : Ed) (k : Nat) : Value := if k = 0 then vI e.1 else if k = 1 then vI e.2.1 else vI e.2.2
def eRow (A : Nat → Ed) (p : Nat) : Value := eCell (A (p / 3)) (p % 3)
theorem eRow_0 (A : Nat → Ed) (i : Nat) : eRow A (i * 3) = vI (A i).1 := by
 unfold eRow; rw [show i * 3 / 3 = i by omega, show i * 3 % 3 = 0 by omega]; rfl
theorem eRow_1 (A : Nat → Ed) (i : Nat) : eRow A (i * 3 + 1) = vI (A i).2.1 := by
 unfold eRow; rw [show (i * 3 + 1) / 3 = i by omega, show (i * 3 + 1) % 3 = 1 by omega]; rfl
theorem eRow_2 (A : Nat → Ed) (i : Nat) : eRow A (i * 3 + 2) = vI (A i).2.2 := by
 unfold eRow; rw [show (i * 3 + 2) / 3 = i by omega, show (i * 3 + 2) % 3 = 2 by omega]; rfl
theorem Row.setE {w : World} {t : TypeId} {b m : Nat} {A : Nat → Ed} (h : Row w t b m (eRow A)) (i : Nat) (e : Ed) :
 Row (((w.setCell ⟨b, i * 3, none⟩ (vI e.1)).setCell ⟨b, i * 3 + 1, none⟩ (vI e.2.1)).setCell ⟨b, i * 3 + 2, none⟩ (vI e.2.2)) t b m (eRow (upd A i e)) := by
 refine (((h.set _ _).set _ _).set _ _).congr fun j _ => ?_
 have hj : j = j / 3 * 3 + j % 3 := by omega
 have h3 : j % 3 < 3 := Nat.mod_lt _ (by omega)
 by_cases hi : j / 3 = i
 ·rcases (show j % 3 = 0 ∨ j % 3 = 1 ∨ j % 3 = 2 by omega) with h0 | h0 | h0
  ·have : j = i * 3 := by omega
   subst this
   rw [upd_ne _ _ (by omega), upd_ne _ _ (by omega), upd_same, eRow_0, upd_same]
  ·have : j = i * 3 + 1 := by omega
   subst this
   rw [upd_ne _ _ (by omega), upd_same, eRow_1, upd_same]
  ·have : j = i * 3 + 2 := by omega
   subst this
   rw [upd_same, eRow_2, upd_same]
 ·rw [upd_ne _ _ (by omega), upd_ne _ _ (by omega), upd_ne _ _ (by omega)]
  unfold eRow
  rw [upd_ne _ _ hi]
def zE (N : Nat) : Array Value := madeCells #[vI 0, vI 0, vI 0] (N * 3)
theorem make_edges (N : Nat) (hN : N ≤ 11000000000000) (w : World) : (Instr.makeSlice 85 (.int .i64 N) (.int .i64 N)).run Tryz.prog w = .ok (.slice (some ⟨w.heap.size, 0, none⟩) N N) (w.alloc (.cells (zE N) 140)) := by
 rw [run_make_of 85 140 (.agg #[vI 0, vI 0, vI 0]) 3 24 under24 (by kernel_rfl) (by kernel_rfl) (by kernel_rfl) N (by omega) (by omega) w]
 rfl
theorem zE_row (w : World) (N b : Nat) (hb : w.heap[b]? = some (.cells (zE N) 140)) : Row w 140 b (N * 3) (eRow fun _ => (0, 0, 0)) := by
 refine ⟨zE N, hb, by simp [zE, madeCells], fun i hi => ?_⟩
 have h3 : i % 3 < 3 := Nat.mod_lt _ (by omega)
 have e : eRow (fun _ => ((0 : Int), (0 : Int), (0 : Int))) i = vI 0 := by
  unfold eRow eCell
  split
  ·rfl
  ·split <;> rfl
 rw [e]
 have hs : i < (zE N).size := by simpa [zE, madeCells] using hi
 rw [Array.getElem?_eq_getElem hs]
 congr 1
 simp only [zE, madeCells, Array.getElem_map, Array.getElem_range]
 show #[vI 0, vI 0, vI 0][i % 3]! = _
 rcases (show i % 3 = 0 ∨ i % 3 = 1 ∨ i % 3 = 2 by omega) with h0 | h0 | h0 <;> rw [h0] <;> rfl
theorem cnt_le (es : List Ed) : ∀ i l, cnt es i l ≤ i
 | 0, _ => Nat.le_refl _
 | i + 1, l => by have := cnt_le es i l; simp only [cnt]; split <;> omega
structure Bd (w wr : World) (rb ib eb fb n N : Nat) (F : Nat → Nat) (A : Nat → Ed) : Prop where
 res : wr.heap[rb]? = some (.cells #[.slice none 0 0, .slice none 0 0] 216)
 inn : wr.heap[ib]? = some (.cells #[.slice (some ⟨eb, 0, none⟩) N N, .slice (some ⟨fb, 0, none⟩) (n + 1) (n + 1)] 216)
 es : Row wr 140 eb (N * 3) (eRow A)
 fi : Row wr 3 fb (n + 1) (fun l => vI (F l : Nat))
 fr : Fr (fun _ => False) w wr
 ge : w.heap.size ≤ rb ∧ w.heap.size ≤ ib ∧ w.heap.size ≤ eb ∧ w.heap.size ≤ fb
 ne : (ib ≠ eb ∧ ib ≠ fb ∧ eb ≠ fb) ∧ (rb ≠ ib ∧ rb ≠ eb ∧ rb ≠ fb)
theorem Bd.keep {w wr w' : World} {rb ib eb fb n N : Nat} {F : Nat → Nat} {A : Nat → Ed} (h : Bd w wr rb ib eb fb n N F A) (f : Fr (fun _ => False) wr w') : Bd w w' rb ib eb fb n N F A where
 res := (f.block _ (heap_lt h.res) (fun h => h)).trans h.res
 inn := (f.block _ (heap_lt h.inn) (fun h => h)).trans h.inn
 es := h.es.fr f (fun h => h)
 fi := h.fi.fr f (fun h => h)
 fr := h.fr.trans f
 ge := h.ge
 ne := h.ne
theorem Bd.congr {w wr : World} {rb ib eb fb n N : Nat} {F F' : Nat → Nat} {A : Nat → Ed} (h : Bd w wr rb ib eb fb n N F A) (e : ∀ l, l < n + 1 → F l = F' l) : Bd w wr rb ib eb fb n N F' A :=
 { h with fi := h.fi.congr fun l hl => by rw [e l hl] }
theorem Bd.setF {w wr : World} {rb ib eb fb n N : Nat} {F : Nat → Nat} {A : Nat → Ed} (h : Bd w wr rb ib eb fb n N F A) (l x : Nat) : Bd w (wr.setCell ⟨fb, l, none⟩ (vI (x : Nat))) rb ib eb fb n N (upd F l x) A := by
 have f : Fr (fun k => k = fb) wr (wr.setCell ⟨fb, l, none⟩ (vI (x : Nat))) := Fr.setCell (Fr.refl _ wr) _ _ (Or.inl rfl)
 refine ⟨(f.block _ (heap_lt h.res) h.ne.2.2.2).trans h.res, (f.block _ (heap_lt h.inn) h.ne.1.2.1).trans h.inn, h.es.fr f h.ne.1.2.2, ?_, h.fr.setCell _ _ (Or.inr h.ge.2.2.2), h.ge, h.ne⟩
 refine (h.fi.set l (vI (x : Nat))).congr fun j _ => ?_
 unfold upd
 split <;> rfl
theorem Bd.setA {w wr : World} {rb ib eb fb n N : Nat} {F : Nat → Nat} {A : Nat → Ed} (h : Bd w wr rb ib eb fb n N F A) (p : Nat) (e : Ed) :
 Bd w (((wr.setCell ⟨eb, p * 3, none⟩ (vI e.1)).setCell ⟨eb, p * 3 + 1, none⟩ (vI e.2.1)).setCell ⟨eb, p * 3 + 2, none⟩ (vI e.2.2)) rb ib eb fb n N F (upd A p e) := by
 have f : Fr (fun k => k = eb) wr (((wr.setCell ⟨eb, p * 3, none⟩ (vI e.1)).setCell ⟨eb, p * 3 + 1, none⟩ (vI e.2.1)).setCell ⟨eb, p * 3 + 2, none⟩ (vI e.2.2)) :=
  Fr.setCell (S := fun k => k = eb) (Fr.setCell (S := fun k => k = eb) (Fr.setCell (S := fun k => k = eb) (Fr.refl _ wr) ⟨eb, p * 3, none⟩ _ (Or.inl rfl)) ⟨eb, p * 3 + 1, none⟩ _ (Or.inl rfl)) ⟨eb, p * 3 + 2, none⟩ _ (Or.inl rfl)
 refine ⟨(f.block _ (heap_lt h.res) h.ne.2.2.1).trans h.res, (f.block _ (heap_lt h.inn) h.ne.1.1).trans h.inn, h.es.setE p e, h.fi.fr f (fun e => h.ne.1.2.2 e.symm), ?_, h.ge, h.ne⟩
 exact Fr.setCell (Fr.setCell (Fr.setCell h.fr _ _ (Or.inr h.ge.2.2.1)) _ _ (Or.inr h.ge.2.2.1)) _ _ (Or.inr h.ge.2.2.1)
theorem Bd.heads {w wr : World} {rb ib eb fb n N : Nat} {F : Nat → Nat} {A : Nat → Ed} (h : Bd w wr rb ib eb fb n N F A) :
 wr.cell? ⟨ib, 0, none⟩ = some (.slice (some ⟨eb, 0, none⟩) N N) ∧ wr.cell? ⟨ib, 1, none⟩ = some (.slice (some ⟨fb, 0, none⟩) (n + 1) (n + 1)) := by
 simp only [cell_of h.inn]
 exact ⟨rfl, rfl⟩
theorem Bd.begin {w wx : World} {ib eb fb n N : Nat} (h0 : wx.heap[w.heap.size]? = some (.cells #[.slice none 0 0, .slice none 0 0] 216)) (h1 : wx.heap[ib]? = some (.cells #[.slice (some ⟨eb, 0, none⟩) N N, .slice (some ⟨fb, 0, none⟩) (n + 1) (n + 1)] 216))
 (h2 : wx.heap[eb]? = some (.cells (zE N) 140)) (h3 : wx.heap[fb]? = some (.cells (Array.replicate (n + 1) (vI 0)) 3)) (f : Fr (fun _ => False) w wx) (hge : w.heap.size < ib ∧ w.heap.size < eb ∧ w.heap.size < fb) (hne : ib ≠ eb ∧ ib ≠ fb ∧ eb ≠ fb) :
 Bd w wx w.heap.size ib eb fb n N (fun _ => 0) (fun _ => (0, 0, 0)) :=
 ⟨h0, h1, zE_row wx N eb h2, ⟨_, h3, by simp, fun i hi => by simp [Array.getElem?_replicate, hi]⟩, f, ⟨Nat.le_refl _, by omega, by omega, by omega⟩, hne, by omega, by omega, by omega⟩
section
variable (w : World) (o0 o1 o2 o3 : Obj)
theorem four_fr : Fr (fun _ => False) w ((((w.alloc o0).alloc o1).alloc o2).alloc o3).drew := (Fr.alloc (Fr.alloc (Fr.alloc (Fr.alloc (Fr.refl _ w) o0) o1) o2) o3).drew
theorem four_3 : ((((w.alloc o0).alloc o1).alloc o2).alloc o3).drew.heap[w.heap.size + 1 + 1 + 1]? = some o3 := by
 have := heap_alloc_last (((w.alloc o0).alloc o1).alloc o2) o3
 rw [show (((w.alloc o0).alloc o1).alloc o2).heap.size = w.heap.size + 1 + 1 + 1 by simp] at this
 exact this
theorem four_2 : ((((w.alloc o0).alloc o1).alloc o2).alloc o3).drew.heap[w.heap.size + 1 + 1]? = some o2 := by
 have := heap_alloc_last ((w.alloc o0).alloc o1) o2
 have h := Go.RowKit.Below.heap_alloc (((w.alloc o0).alloc o1).alloc o2) o3 (w.heap.size + 1 + 1) (by simp)
 refine h.trans ?_
 simpa using this
theorem four_1 : ((((w.alloc o0).alloc o1).alloc o2).alloc o3).drew.heap[w.heap.size + 1]? = some o1 := by
 have := heap_alloc_last (w.alloc o0) o1
 have h := Go.RowKit.Below.heap_alloc (((w.alloc o0).alloc o1).alloc o2) o3 (w.heap.size + 1) (by simp <;> omega)
 have h' := Go.RowKit.Below.heap_alloc ((w.alloc o0).alloc o1) o2 (w.heap.size + 1) (by simp)
 refine (h.trans h').trans ?_
 simpa using this
theorem four_0 : ((((w.alloc o0).alloc o1).alloc o2).alloc o3).drew.heap[w.heap.size]? = some o0 := by
 have := heap_alloc_last w o0
 have h := Go.RowKit.Below.heap_alloc (((w.alloc o0).alloc o1).alloc o2) o3 w.heap.size (by simp; omega)
 have h' := Go.RowKit.Below.heap_alloc ((w.alloc o0).alloc o1) o2 w.heap.size (by simp; omega)
 have h'' := Go.RowKit.Below.heap_alloc (w.alloc o0) o1 w.heap.size (by simp)
 exact ((h.trans h').trans h'').trans this
end
def BdEnds (w : World) (n : Nat) (es : List Ed) (e : Ending) (w' : World) : Prop :=
 ∃ eb fb A F, e = .returned (.agg #[.slice (some ⟨eb, 0, none⟩) es.length es.length, .slice (some ⟨fb, 0, none⟩) (n + 1) (n + 1)]) ∧ Row w' 140 eb (es.length * 3) (eRow A) ∧ Row w' 3 fb (n + 1) (fun l => vI (F l : Nat)) ∧ ByD n es A F ∧ w.heap.size ≤ eb ∧ w.heap.size ≤ fb ∧ Fr (fun _ => False) w w'
theorem results_cell {fn : Func} {p : Tmp} {ty : TypeId} (h : fn.results = #[.cell p ty]) (tmps : Array Value) (P : Program) (w : World) :
 (results fn tmps).run P w = ((asAddr (tmps.getD p undef)).run P w).andThen fun a w₁ => (loadVar ty a).run P w₁ := by
 simp only [results, h]
 simp [Sem.run_bind, Result.andThen]
theorem byDst_any (n : Nat) (ev : Value) (es : List Ed) (w : World) (hE : EdgesAt w.heap.size w ev es) (hR : ∀ e ∈ es, RightE n e) (hn : n ≤ 1048576) (hel : es.length ≤ 11000000000000) :
 Calls Tryz.prog 160 #[.int .i64 n, ev] w (BdEnds w n es) := by
 obtain ⟨ea, ec, rfl, -, hein⟩ := hE
 have HE : Hd _ := hein
 have HR : Hd _ := hR
 clear hein hR
 have hm1 := make_edges es.length (by omega)
 have hm2 : ∀ w : World, (Instr.makeSlice 30 (.int .i64 ((n : Int) + 1)) (.int .i64 ((n : Int) + 1))).run Tryz.prog w = .ok (.slice (some ⟨w.heap.size, 0, none⟩) (n + 1) (n + 1)) (w.alloc (.cells (Array.replicate (n + 1) (vI 0)) 3)) := make_ints (n + 1) (by omega)
 go_enter Tryz.func160, Tryz.ntmps160
 go_upto_region 1 with fail
 go_cut [5] (fun x5 wx => ∃ (ib eb fb : Nat), x5 = .pointer (some ⟨ib, 0, none⟩) ∧ Hd (Bd w wx w.heap.size ib eb fb n es.length (fun _ => 0) (fun _ => (0, 0, 0))))
 case first =>
  go_region
  all_goals
   go_wp2_with fail
   go_meet
   first
    | exact ⟨_, _, _, rfl, Bd.begin (four_0 ..) (four_3 ..) (four_1 ..) (four_2 ..) (four_fr ..) (by omega) (by omega)⟩
    | exact ⟨_, _, _, rfl, Bd.begin (four_0 ..) (four_3 ..) (four_2 ..) (four_1 ..) (four_fr ..) (by omega) (by omega)⟩
    | exact ⟨_, _, _, rfl, Bd.begin (four_0 ..) (four_2 ..) (four_1 ..) (four_3 ..) (four_fr ..) (by omega) (by omega)⟩
    | exact ⟨_, _, _, rfl, Bd.begin (four_0 ..) (four_2 ..) (four_3 ..) (four_1 ..) (four_fr ..) (by omega) (by omega)⟩
    | exact ⟨_, _, _, rfl, Bd.begin (four_0 ..) (four_1 ..) (four_2 ..) (four_3 ..) (four_fr ..) (by omega) (by omega)⟩
    | exact ⟨_, _, _, rfl, Bd.begin (four_0 ..) (four_1 ..) (four_3 ..) (four_2 ..) (four_fr ..) (by omega) (by omega)⟩
 case rest =>
  obtain ⟨ib, eb, fb, rfl, HB⟩ := hcut
  clear hm1 hm2
  go_wp2_with fail
  go_loopw [21] (fun v wr => ∃ (k : Nat), v = .int .i64 k ∧ k ≤ es.length ∧ Hd (Bd w wr w.heap.size ib eb fb n es.length (cnt es k) (fun _ => (0, 0, 0)))) (fun v _ => match v with | .int _ q => es.length - q.toNat | _ => 0)
  case atStart => exact ⟨0, rfl, Nat.zero_le _, HB.out⟩
  case round =>
   obtain ⟨k, rfl, hk, HB⟩ := hrel
   by_cases hlt : k < es.length
   ·obtain ⟨pk, po, rfl, hpk, hcs⟩ := HE.out (by intro e; simp [e] at hlt)
    obtain ⟨c0, c1, c2⟩ := hcs k hlt
    have p0 := (HB.out.fr.cell (o := po + k * 3) hpk (fun h => h)).trans c0
    have p1 := (HB.out.fr.cell (o := po + k * 3 + 1) hpk (fun h => h)).trans c1
    have p2 := (HB.out.fr.cell (o := po + k * 3 + 2) hpk (fun h => h)).trans c2
    clear hcs c0 c1 c2
    have e1 : eg es k = es[k] := by unfold eg; rw [List.getD_eq_getElem?_getD, List.getElem?_eq_getElem hlt]; rfl
    obtain ⟨hd, hd'⟩ := dn_lt HR.out hlt
    rw [← e1] at p0 p1 p2
    rw [← hd'] at p0
    have hcb : cnt es k (dn es k) ≤ k := cnt_le es k _
    have hBa := HB.out.keep (Fr.alloc (Fr.refl _ wr) (.cells #[vI (dn es k : Nat), vI (eg es k).2.1, vI (eg es k).2.2] 140))
    obtain ⟨q0, q1⟩ := hBa.heads
    have q2 := hBa.fi.cell (i := dn es k) (by omega)
    have q3 := hBa.fi.frozen (dn es k)
    have HB2 : Hd _ := (hBa.setF (dn es k) (cnt es k (dn es k) + 1)).congr (F' := cnt es (k + 1)) (fun l _ => by
     unfold upd
     simp only [cnt]
     by_cases e : l = dn es k
     ·rw [if_pos e, if_pos e.symm, e]
     ·rw [if_neg e, if_neg (fun h => e h.symm)]; rfl)
    clear hBa e1 hd' HB
    generalize dn es k = d at *
    generalize cnt es k d = c at *
    generalize (eg es k).2.1 = s at *
    generalize (eg es k).2.2 = q at *
    have hk0 : (0 : Int) ≤ k := by omega
    have hk1 : (k : Int) < es.length := by omega
    have hd0 : (0 : Int) ≤ d := by omega
    have hd1 : (d : Int) < (n : Int) + 1 := by omega
    go_wp2_with fail
    refine ⟨⟨k + 1, by simp, by omega, HB2.out⟩, by simp; omega⟩
   ·have hke : k = es.length := by omega
    subst hke
    have hbm : ∀ q, q ≤ n + 1 → beg es q ≤ es.length := fun q hq => by have := beg_mono es hq; rw [beg_more HR.out] at this; exact this
    have HBM : Hd _ := hbm
    clear hbm
    obtain ⟨q0, q1⟩ := HB.out.heads
    go_wp2_with fail
    clear q0 q1
    go_loopw [8, 37] (fun en v wr => ∃ (q : Nat), en = .int .i64 (beg es q : Nat) ∧ v = .int .i64 q ∧ q ≤ n + 1 ∧ Hd (Bd w wr w.heap.size ib eb fb n es.length (fun l => if l < q then beg es (l + 1) else cnt es es.length l) (fun _ => (0, 0, 0)))) (fun _ v _ => match v with | .int _ q => n + 1 - q.toNat | _ => 0)
    case atStart => exact ⟨0, rfl, rfl, Nat.zero_le _, HB.out⟩
    case round =>
     obtain ⟨q, rfl, rfl, hq, HB⟩ := hrel
     by_cases hqlt : q < n + 1
     ·have hb1 := HBM.out q (by omega)
      have hb2 := HBM.out (q + 1) (by omega)
      have hb3 : beg es (q + 1) = beg es q + cnt es es.length q := rfl
      obtain ⟨q0, q1⟩ := HB.out.heads
      have q2 := HB.out.fi.cell (i := q) (by omega)
      rw [if_neg (Nat.lt_irrefl q)] at q2
      have q3 := HB.out.fi.frozen q
      have HB2 : Hd _ := (HB.out.setF q (beg es q + cnt es es.length q)).congr (F' := fun l => if l < q + 1 then beg es (l + 1) else cnt es es.length l) (fun l _ => by
       unfold upd
       by_cases e : l = q
       ·rw [if_pos e, if_pos (by omega), e]; rfl
       ·rw [if_neg e]
        show (if l < q then beg es (l + 1) else cnt es es.length l) = _
        by_cases e2 : l < q
        ·rw [if_pos e2, if_pos (by omega)]
        ·rw [if_neg e2, if_neg (by omega)])
      have HB3 : Hd (beg es (q + 1) = beg es q + cnt es es.length q) := rfl
      rw [hb3] at hb2
      clear hb3
      generalize cnt es es.length q = c at *
      generalize beg es q = bq at *
      have hq0 : (0 : Int) ≤ q := by omega
      have hq1 : (q : Int) < (n : Int) + 1 := by omega
      clear HB
      go_wp2_with fail
      refine ⟨⟨q + 1, by rw [HB3.out]; simp, by simp, by omega, HB2.out⟩, by simp; omega⟩
     ·have hqe : q = n + 1 := by omega
      have HB2 : Hd _ := HB.out.congr (F' := fun l => beg es (l + 1) - cnt es 0 l) (fun l hl => by rw [if_pos (by omega)]; rfl)
      have hqf : ¬ ((q : Int) < (n : Int) + 1) := by omega
      clear HB hqe hq hqlt
      go_wp2_with fail
      go_loopw [55] (fun v wr => ∃ (k : Nat) (A : Nat → Ed), v = .int .i64 k ∧ k ≤ es.length ∧ Hd (Bd w wr w.heap.size ib eb fb n es.length (fun l => beg es (l + 1) - cnt es k l) A) ∧ Hd (∀ j, j < k → A (pos es j) = eg es j)) (fun v _ => match v with | .int _ q => es.length - q.toNat | _ => 0)
      case atStart => exact ⟨0, _, rfl, Nat.zero_le _, HB2.out, fun j hj => absurd hj (Nat.not_lt_zero j)⟩
      case round =>
       obtain ⟨k, A, rfl, hk, HB, HA⟩ := hrel
       clear HB2
       by_cases hlt : k < es.length
       ·obtain ⟨pk, po, rfl, hpk, hcs⟩ := HE.out (by intro e; simp [e] at hlt)
        obtain ⟨c0, c1, c2⟩ := hcs k hlt
        have p0 := (HB.out.fr.cell (o := po + k * 3) hpk (fun h => h)).trans c0
        have p1 := (HB.out.fr.cell (o := po + k * 3 + 1) hpk (fun h => h)).trans c1
        have p2 := (HB.out.fr.cell (o := po + k * 3 + 2) hpk (fun h => h)).trans c2
        clear hcs c0 c1 c2
        have e1 : eg es k = es[k] := by unfold eg; rw [List.getD_eq_getElem?_getD, List.getElem?_eq_getElem hlt]; rfl
        obtain ⟨hd, hd'⟩ := dn_lt HR.out hlt
        rw [← e1] at p0 p1 p2
        rw [← hd'] at p0
        have hpi := pos_in hlt
        have hpl := pos_lt HR.out hlt
        have hsub : beg es (dn es k + 1) - cnt es k (dn es k) = pos es k + 1 := by omega
        have hBa := HB.out.keep (Fr.alloc (Fr.refl _ wr) (.cells #[vI (dn es k : Nat), vI (eg es k).2.1, vI (eg es k).2.2] 140))
        obtain ⟨q0, q1⟩ := hBa.heads
        have q2 := hBa.fi.cell (i := dn es k) (by omega)
        rw [hsub] at q2
        have q3 := hBa.fi.frozen (dn es k)
        have hBb := (hBa.setF (dn es k) (pos es k)).congr (F' := fun l => beg es (l + 1) - cnt es (k + 1) l) (fun l _ => by
         unfold upd
         simp only [cnt]
         by_cases e : l = dn es k
         ·rw [if_pos e, if_pos e.symm, e]; omega
         ·rw [if_neg e, if_neg (fun h => e h.symm)]; rfl)
        obtain ⟨r0, r1⟩ := hBb.heads
        have r2 := hBb.fi.cell (i := dn es k) (by omega)
        have hsub2 : beg es (dn es k + 1) - cnt es (k + 1) (dn es k) = pos es k := by simp only [cnt, if_true]; omega
        rw [hsub2] at r2
        have hwlt : wr.heap.size ≠ fb := by have := HB.out.fi.lt; omega
        have hwle : wr.heap.size ≠ eb := by have := HB.out.es.lt; omega
        have hwli : wr.heap.size ≠ ib := by have := heap_lt HB.out.inn; omega
        have hne1 := HB.out.ne.1
        have r3 : ∀ j, ((wr.alloc (.cells #[vI (dn es k : Nat), vI (eg es k).2.1, vI (eg es k).2.2] 140)).setCell ⟨fb, dn es k, none⟩ (vI (pos es k : Nat))).frozen? ⟨eb, j, none⟩ = false := fun j => hBb.es.frozen j
        have r4 := hBb.es.cell (i := pos es k * 3) (by omega)
        have r5 := hBb.es.cell (i := pos es k * 3 + 1) (by omega)
        have r6 := hBb.es.cell (i := pos es k * 3 + 2) (by omega)
        have s1 := r3 (pos es k * 3)
        have s2 := r3 (pos es k * 3 + 1)
        have s3 := r3 (pos es k * 3 + 2)
        have HA2 : Hd (∀ j, j < k + 1 → upd A (pos es k) (eg es k) (pos es j) = eg es j) := fun j hj => by
         by_cases e : j = k
         ·rw [e, upd_same]
         ·rw [upd_ne _ _ (pos_ne (show j < k by omega) hlt)]; exact HA.out j (by omega)
        have HB2 : Hd _ := hBb.setA (pos es k) (eg es k)
        have heq : eg es k = (((dn es k : Nat) : Int), (eg es k).2.1, (eg es k).2.2) := by rw [hd']
        rw [heq] at HB2
        have HEG : Hd (eg es k = (((dn es k : Nat) : Int), (eg es k).2.1, (eg es k).2.2)) := heq
        rw [heq] at HA2
        clear hBa hBb e1 hd' HB HA hsub hsub2 hpi r3 heq
        generalize dn es k = d at *
        generalize pos es k = p at *
        generalize (eg es k).2.1 = s at *
        generalize (eg es k).2.2 = q at *
        generalize eRow A (p * 3) = x0 at *
        generalize eRow A (p * 3 + 1) = x1 at *
        generalize eRow A (p * 3 + 2) = x2 at *
        have hk0 : (0 : Int) ≤ k := by omega
        have hk1 : (k : Int) < es.length := by omega
        have hd0 : (0 : Int) ≤ d := by omega
        have hd1 : (d : Int) < (n : Int) + 1 := by omega
        have hp0 : (0 : Int) ≤ p := by omega
        have hp1 : (p : Int) < es.length := by omega
        go_wp2_with fail
        go_region
        all_goals
         go_wp2_with fail
         refine ⟨⟨k + 1, _, by simp, by omega, HB2.out.keep (Fr.drew (Fr.refl _ _)), HA2.out⟩, by simp; omega⟩
       ·have hke : k = es.length := by omega
        subst hke
        have hBe := HB.out.congr (F' := beg es) (fun l _ => by show beg es (l + 1) - cnt es es.length l = _; simp only [beg]; omega)
        have hbd := ByD.mk' HR.out HA.out
        obtain ⟨q0, q1⟩ := hBe.heads
        have z0 := frozen_of hBe.res 0
        have z1 := frozen_of hBe.res 1
        have y0 : wr.cell? ⟨w.heap.size, 0, none⟩ = some (.slice none 0 0) := by rw [cell_of hBe.res]; rfl
        have y1 : wr.cell? ⟨w.heap.size, 1, none⟩ = some (.slice none 0 0) := by rw [cell_of hBe.res]; rfl
        have HBe : Hd _ := hBe
        have HBD : Hd _ := hbd
        clear hBe hbd HB HA
        go_wp2_with fail
        have f0 : Fr (fun k => k = w.heap.size) wr ((wr.setCell ⟨w.heap.size, 0, none⟩ (.slice (some ⟨eb, 0, none⟩) es.length es.length)).setCell ⟨w.heap.size, 1, none⟩ (.slice (some ⟨fb, 0, none⟩) (n + 1) (n + 1))) :=
         Fr.setCell (S := fun k => k = w.heap.size) (Fr.setCell (S := fun k => k = w.heap.size) (Fr.refl _ wr) ⟨w.heap.size, 0, none⟩ _ (Or.inl rfl)) ⟨w.heap.size, 1, none⟩ _ (Or.inl rfl)
        have hres : ((wr.setCell ⟨w.heap.size, 0, none⟩ (.slice (some ⟨eb, 0, none⟩) es.length es.length)).setCell ⟨w.heap.size, 1, none⟩ (.slice (some ⟨fb, 0, none⟩) (n + 1) (n + 1))).heap[w.heap.size]? = some (.cells #[.slice (some ⟨eb, 0, none⟩) es.length es.length, .slice (some ⟨fb, 0, none⟩) (n + 1) (n + 1)] 216) := by
         rw [set_of (set_of HBe.out.res _ _)]; rfl
        have x0 := cell_of hres 0
        have x1 := cell_of hres 1
        have HEND : Hd (BdEnds w n es (.returned (.agg #[.slice (some ⟨eb, 0, none⟩) es.length es.length, .slice (some ⟨fb, 0, none⟩) (n + 1) (n + 1)])) ((wr.setCell ⟨w.heap.size, 0, none⟩ (.slice (some ⟨eb, 0, none⟩) es.length es.length)).setCell ⟨w.heap.size, 1, none⟩ (.slice (some ⟨fb, 0, none⟩) (n + 1) (n + 1)))) :=
         ⟨eb, fb, A, beg es, rfl, HBe.out.es.fr f0 (fun e => HBe.out.ne.2.2.1 e.symm), HBe.out.fi.fr f0 (fun e => HBe.out.ne.2.2.2 e.symm), HBD.out, HBe.out.ge.2.2.1, HBe.out.ge.2.2.2,
          HBe.out.fr.anew f0 (fun j hj e => absurd e (by omega))⟩
        generalize (wr.setCell ⟨w.heap.size, 0, none⟩ (.slice (some ⟨eb, 0, none⟩) es.length es.length)).setCell ⟨w.heap.size, 1, none⟩ (.slice (some ⟨fb, 0, none⟩) (n + 1) (n + 1)) = w9 at *
        simp only [List.getElem?_toArray, List.getElem?_cons_zero, List.getElem?_cons_succ] at x0 x1
        refine bodyPost_ret (v := .agg #[.slice (some ⟨eb, 0, none⟩) es.length es.length, .slice (some ⟨fb, 0, none⟩) (n + 1) (n + 1)]) ?_ rfl HEND.out
        rw [results_cell (p := 4) (ty := 216) Tryz.results160]
        simp [go_sem, x0, x1]
end Go.Proofs.YtdkijecnnmncnaaGreatDoor.Wg
