import Derived.Test.YtcjfmfddkhpfnaaQC1
import Derived.Test.YtcjfmfddkhpfnaaQG1
namespace Go.Proofs.Ytcjfmfddkhpfnaa
open Go.RowKit (wrap32 wrap64)
set_option linter.unusedVariables false
set_option linter.unusedSimpArgs false

/-! ### which weights are reached -/
/-- At a location and a weight (one more than it). -/
def at6 (i j : Nat) : Nat := i * 6 + j
/-- An edge leads nowhere new from the weights below. -/
def Cl (g : Nat → Bool) (e : Ed) (m : Nat) : Prop := ∀ j, j < m → g (at6 e.1.toNat j) = true → g (at6 e.2.1.toNat (plusX ((j : Int) - 1) e.2.2 + 1).toNat) = true
def Rooted (g : Nat → Bool) (R : List Int) : Prop := ∀ r ∈ R, g (at6 r.toNat 1) = true
/-- How many are not. -/
def cntF (g : Nat → Bool) (m : Nat) : Nat := sumTo (fun p => if g p then 0 else 1) m
theorem cntF_set {g : Nat → Bool} {m p : Nat} (hp : p < m) (hg : g p = false) : cntF (upd g p true) m < cntF g m := by
  unfold cntF
  have e : (fun q => if upd g p true q = true then 0 else 1) = upd (fun q => if g q = true then 0 else 1) p 0 := by
    funext q
    unfold upd
    split
    · rfl
    · rfl
  have h := sumTo_upd (fun q => if g q = true then 0 else 1) p 0 m
  rw [if_pos hp, if_pos hp] at h
  rw [e]
  simp [hg] at h
  omega
theorem Rooted.set {g : Nat → Bool} {R : List Int} (h : Rooted g R) (p : Nat) : Rooted (upd g p true) R := fun r hr => by
  unfold upd
  split
  · rfl
  · exact h r hr
theorem plus_at {k : Int} (hk : flowsX k = true) {j : Nat} (hj : j < 5) : ∃ q : Nat, q < 5 ∧ plusX ((j : Int) - 1) k = (q : Int) - 1 := by
  have h1 : flowsX ((j : Int) - 1) = true := by simp [flowsX]; omega
  have h2 := plusX_flows h1 hk
  simp [flowsX] at h2
  exact ⟨(plusX ((j : Int) - 1) k + 1).toNat, by omega, by omega⟩
/-- What is closed holds all ways. -/
theorem closed_reach {n : Nat} {E : List Ed} {R : List Int} (hG : RightG n E R) {g : Nat → Bool} (hr : Rooted g R) (hc : ∀ e ∈ E, Cl g e 5) {i d : Int} (r : Reach E R i d) : g (at6 i.toNat (d + 1).toNat) = true := by
  induction r with
  | root h => exact hr _ h
  | @step e d he hd ih =>
    have hf := (hd.right hG).2
    simp [flowsX] at hf
    have := hc e he (d + 1).toNat (by omega) ih
    rw [show (((d + 1).toNat : Nat) : Int) - 1 = d by omega] at this
    exact this

/-! ### bools that were appended -/
def OwnB (w : World) (B : Nat) (v : Value) (bs : List Bool) : Prop := w.ownsRow B 4 1 v bs.length (bs.map fun b => .bool b)
theorem OwnB.nil (w : World) (B : Nat) : OwnB w B (.slice none 0 0) [] := World.ownsRow_nil w B 4 1
theorem OwnB.fr {S : Nat → Prop} {w w' : World} {B : Nat} {v : Value} {bs : List Bool} (h : OwnB w B v bs) (f : Fr S w w') (hS : ∀ g, v.ownBlock = some g → ¬ S g) : OwnB w' B v bs := ownsRow_fr h f hS
theorem OwnB.ge {w : World} {B : Nat} {v : Value} {bs : List Bool} (h : OwnB w B v bs) : ∀ k, v.ownBlock = some k → B ≤ k ∧ k < w.heap.size := World.ownsRow.lt h
theorem OwnB.of {w6 : World} {B : Nat} {bs : List Bool} {b : Bool} {g cap : Nat} (h : w6.ownsRow B 4 1 (.slice (some ⟨g, 0, none⟩) (bs.length + 1) cap) (bs.length + 1) ((bs.map fun b => .bool b) ++ [.bool b])) : OwnB w6 B (.slice (some ⟨g, 0, none⟩) (bs.length + 1) cap) (bs ++ [b]) := by
  unfold OwnB
  rw [List.map_append, List.length_append]
  exact h
theorem OwnB.at {w : World} {B : Nat} {v : Value} {bs : List Bool} (h : OwnB w B v bs) : ∃ a c, v = .slice a bs.length c ∧ (bs ≠ [] → ∃ g, a = some ⟨g, 0, none⟩ ∧ B ≤ g ∧ g < w.heap.size ∧ ∀ i (h : i < bs.length), w.cell? ⟨g, i, none⟩ = some (.bool bs[i])) := by
  rcases h.2 with ⟨h2, h3⟩ | ⟨g, cap, cur, e, h3, h4, h5, h6, h7, h8⟩
  · exact ⟨none, 0, by rw [h2, h3], fun hne => absurd (List.eq_nil_of_length_eq_zero h3) hne⟩
  · refine ⟨_, cap, e, fun _ => ⟨g, rfl, h3, heap_lt h4, fun i hi => ?_⟩⟩
    rw [cell_of h4]
    have : cur[i]? = (bs.map fun b => Value.bool b)[i]? := by rw [← h8, List.getElem?_take, if_pos (by omega), Array.getElem?_toList]
    rw [this]
    simp [hi]

theorem under56 : Try.prog.underlying 56 = some (.slice 57) := by kernel_rfl
def z6 (n : Nat) : Array Value := madeCells #[.bool false, .bool false, .bool false, .bool false, .bool false, .bool false] (n * 6)
theorem make_six (n : Nat) (hn : n ≤ 1000000) (w : World) : (Instr.makeSlice 56 (.int .i64 n) (.int .i64 n)).run Try.prog w = .ok (.slice (some ⟨w.heap.size, 0, none⟩) n n) (w.alloc (.cells (z6 n) 57)) := by
  rw [run_make_of 56 57 (.agg #[.bool false, .bool false, .bool false, .bool false, .bool false, .bool false]) 6 6 under56 (by kernel_rfl) (by kernel_rfl) (by kernel_rfl) n (by omega) (by omega) w]
  rfl
theorem z6_row (w : World) (n b : Nat) (hb : w.heap[b]? = some (.cells (z6 n) 57)) : Row w 57 b (n * 6) (fun _ => .bool false) := by
  refine ⟨z6 n, hb, by simp [z6, madeCells], fun i hi => ?_⟩
  have hs : i < (z6 n).size := by simpa [z6, madeCells] using hi
  rw [Array.getElem?_eq_getElem hs]
  congr 1
  simp only [z6, madeCells, Array.getElem_map, Array.getElem_range]
  show #[Value.bool false, .bool false, .bool false, .bool false, .bool false, .bool false][i % 6]! = _
  have h6 : i % 6 < 6 := Nat.mod_lt _ (by omega)
  rcases (show i % 6 = 0 ∨ i % 6 = 1 ∨ i % 6 = 2 ∨ i % 6 = 3 ∨ i % 6 = 4 ∨ i % 6 = 5 by omega) with h0 | h0 | h0 | h0 | h0 | h0 <;> rw [h0] <;> rfl

end Go.Proofs.Ytcjfmfddkhpfnaa
