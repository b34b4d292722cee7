import Derived.Test.YtjmbfjaahadbhaaDoorQIi
set_option linter.unusedVariables false
set_option linter.unusedSimpArgs false
namespace Go.Proofs.YtjmbfjaahadbhaaDoor
open Go.RowKit (wrap32 wrap64)

/-! ### a program that grows, function by function -/
/-- Instructions without lists, in a block of their own. -/
def Lit (w : World) (cv : Value) (cs : List PI) : Prop :=
  ∃ k arr, cv = .slice (some ⟨k, 0, none⟩) cs.length cs.length ∧ w.heap[k]? = some (.cells arr 27) ∧ ∀ j (h : j < cs.length), arr[j * 7]? = some (vI cs[j].op) ∧ arr[j * 7 + 1]? = some (vI cs[j].r) ∧ arr[j * 7 + 2]? = some (vI cs[j].s) ∧ arr[j * 7 + 3]? = some (vI cs[j].t) ∧ arr[j * 7 + 4]? = some (vI cs[j].n) ∧ arr[j * 7 + 5]? = some (.slice none 0 0) ∧ arr[j * 7 + 6]? = some (.slice none 0 0) ∧ cs[j].args = [] ∧ cs[j].rets = []
theorem Lit.ca {w : World} {cv : Value} {cs : List PI} (h : Lit w cv cs) : CA w cv cs := by
  obtain ⟨k, arr, rfl, h1, h2⟩ := h
  exact ca_lit h1 h2
theorem Lit.fr {S : Nat → Prop} {w w' : World} {cv : Value} {cs : List PI} (h : Lit w cv cs) (f : Fr S w w') (hS : ∀ k arr, w.heap[k]? = some (.cells arr 27) → ¬ S k) : Lit w' cv cs := by
  obtain ⟨k, arr, e, h1, h2⟩ := h
  exact ⟨k, arr, e, (f.block k (heap_lt0 h1) (hS k arr h1)).trans h1, h2⟩
theorem lit_one {w : World} {k : Nat} (h : w.heap[k]? = some (.cells #[vI 15, vI 0, vI 0, vI 0, vI 0, .slice none 0 0, .slice none 0 0] 27)) : Lit w (.slice (some ⟨k, 0, none⟩) 1 1) [bI] := ⟨k, _, rfl, h, fun j hj => by
    have : j = 0 := by simp at hj; omega
    subst this
    exact ⟨rfl, rfl, rfl, rfl, rfl, rfl, rfl, rfl, rfl⟩⟩
theorem lit_two {w : World} {k : Nat} {m : Int} (h : w.heap[k]? = some (.cells #[vI 11, vI 0, vI 0, vI 0, vI m, .slice none 0 0, .slice none 0 0, vI 15, vI 0, vI 0, vI 0, vI 0, .slice none 0 0, .slice none 0 0] 27)) : Lit w (.slice (some ⟨k, 0, none⟩) 2 2) [cI m, bI] := ⟨k, _, rfl, h, fun j hj => by
    have : j = 0 ∨ j = 1 := by simp at hj; omega
    rcases this with rfl | rfl <;> exact ⟨rfl, rfl, rfl, rfl, rfl, rfl, rfl, rfl, rfl⟩⟩
abbrev rowZ (cv : Value) : List Value := [vI 0, vI 0, vI 0, cv]
/-- The program as it grows: its box, its functions' row, their code. -/
structure Ch (w : World) (B bx : Nat) (v : Value) (N : Nat) (ring : Bool) (k : Nat) (us : List Value) : Prop where
  blk : w.heap[bx]? = some (.cells #[vI 0, v] 24)
  row : w.ownsRow B 32 4 v k (us.flatMap rowZ)
  ul : us.length = k
  lit : ∀ i (h : i < us.length), Lit w us[i] (codeC N ring i)
theorem Ch.stay {w w' : World} {B bx : Nat} {v : Value} {N : Nat} {ring : Bool} {k : Nat} {us : List Value} (h : Ch w B bx v N ring k us) (f : Fr (fun _ => False) w w') : Ch w' B bx v N ring k us :=
  ⟨keepF h.blk f, ownsRow_frL h.row f (fun _ _ e => e), h.ul, fun i hi => (h.lit i hi).fr f (fun _ _ _ e => e)⟩
theorem Ch.fa {w : World} {B bx : Nat} {v : Value} {N : Nat} {ring : Bool} {k : Nat} {us : List Value} (h : Ch w B bx v N ring k us) : FA w v (chF N ring k) := by
  obtain ⟨a, c, e⟩ := own_slice h.row
  refine ⟨a, c, by rw [e, chF_len], fun hne => ?_⟩
  have hk : 0 < k := by
    have := List.length_pos_iff.2 hne
    rwa [chF_len] at this
  have pc : ∀ i o, i < us.length → o < 4 → ∃ g, a = some ⟨g, 0, none⟩ ∧ g < w.heap.size ∧ ∀ u, (rowZ (us.getD i undef))[o]? = some u → w.cell? ⟨g, i * 4 + o, none⟩ = some u := fun i o hi ho => by
    have hu : (us.flatMap rowZ)[i * 4 + o]? = (rowZ us[i])[o]? := flat_get rowZ 4 (fun _ => rfl) us i o hi ho
    have hex : ∃ u, (rowZ us[i])[o]? = some u := ⟨_, List.getElem?_eq_getElem (by simpa using ho)⟩
    obtain ⟨u, hu2⟩ := hex
    obtain ⟨g, cap, e2, hg, hc⟩ := own_cell h.row (j := i * 4 + o) (u := u) (by rw [hu, hu2])
    rw [e] at e2
    injection e2 with e3
    refine ⟨g, e3, hg, fun u' hu' => ?_⟩
    have : us.getD i undef = us[i] := by simp [List.getD_eq_getElem?_getD, hi]
    rw [this, hu2] at hu'
    injection hu' with hu'
    rw [← hu']
    exact hc
  obtain ⟨g, ea, hg, -⟩ := pc 0 0 (by rw [h.ul]; exact hk) (by omega)
  refine ⟨g, 0, ea, hg, fun j hj => ?_⟩
  rw [chF_len] at hj
  have hju : j < us.length := by rw [h.ul]; exact hj
  have eD : us.getD j undef = us[j] := by simp [List.getD_eq_getElem?_getD, hju]
  have at' : ∀ o u, o < 4 → (rowZ us[j])[o]? = some u → w.cell? ⟨g, 0 + (j * 4 + o), none⟩ = some u := fun o u ho hu => by
    obtain ⟨g', e', -, hc⟩ := pc j o hju ho
    rw [ea] at e'
    injection e' with e'
    injection e' with e'
    subst e'
    rw [Nat.zero_add]
    exact hc u (by rw [eD]; exact hu)
  rw [chF_at (by rw [chF_len]; exact hj)]
  exact ⟨us[j], at' 0 _ (by omega) rfl, at' 1 _ (by omega) rfl, at' 2 _ (by omega) rfl, at' 3 _ (by omega) rfl, (h.lit j hju).ca⟩
end Go.Proofs.YtjmbfjaahadbhaaDoor
