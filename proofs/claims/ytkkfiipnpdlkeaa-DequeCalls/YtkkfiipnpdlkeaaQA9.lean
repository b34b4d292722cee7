import Derived.Test.YtkkfiipnpdlkeaaQA8
namespace Go.Proofs.Ytkkfiipnpdlkeaa
open Go.RowKit (wrap32 wrap64)
open Go.MuLone
set_option linter.unusedVariables false
set_option linter.unusedSimpArgs false

theorem fr_new {S : Nat → Prop} {w w1 w2 : World} (f : Fr (fun _ => False) w w1) (hf : Fr S w1 w2) (hS : ∀ j, S j → w.heap.size ≤ j) : Fr (fun _ => False) w w2 :=
  ⟨hf.os.trans f.os, hf.tape.trans f.tape, hf.output.trans f.output, Nat.le_trans f.size hf.size, fun k hk _ => (hf.block k (Nat.lt_of_lt_of_le hk f.size) (fun h => by have := hS k h; omega)).trans (f.block k hk (fun h => h))⟩

theorem new_dn (w w1 : World) (f : Fr (fun _ => False) w w1) (N : Nat) : Calls Try.prog 8 #[] w1 fun e w' => e = .returned (.pointer (some ⟨w1.heap.size, 0, none⟩)) ∧ DN w w' w1.heap.size [] N w1.heap.size ∧ Fr (fun _ => False) w1 w' ∧ Fr (fun _ => False) w w' := by
  refine (new_any w1).mono ?_
  rintro _ w' ⟨rfl, h, hf⟩
  exact ⟨rfl, ⟨h.mono (by omega), f.size, f.size⟩, hf, f.trans hf⟩
theorem push_dn (w w1 : World) (b g : Nat) (xs : List Int) (x : Int) (N : Nat) (hx : 2 * xs.length ≤ N) (hN0 : 1 ≤ N) (hN : N ≤ 35184372088832) (h : DN w w1 b xs N g) (f : Fr (fun _ => False) w w1) :
    Calls Try.prog 9 #[.pointer (some ⟨b, 0, none⟩), vI x] w1 fun e w' => e = .returned (.tuple #[]) ∧ (∃ g', DN w w' b (xs ++ [x]) N g' ∧ (g' = g ∨ w1.heap.size ≤ g')) ∧ Fr (fun j => j = b ∨ j = g) w1 w' ∧ Fr (fun _ => False) w w' := by
  refine (push_any b g xs x N hx hN0 hN w1 h.dq).mono ?_
  rintro _ w' ⟨rfl, ⟨g', hd, hg⟩, hf⟩
  have hs := f.size
  exact ⟨rfl, ⟨g', ⟨hd, h.nb, by have := h.ng; omega⟩, hg⟩, hf, fr_new f hf (by rintro j (rfl | rfl); exact h.nb; exact h.ng)⟩
theorem pop_dn (w w1 : World) (b g : Nat) (xs : List Int) (N : Nat) (hN : N ≤ 100000000000000) (h : DN w w1 b xs N g) (f : Fr (fun _ => False) w w1) :
    Calls Try.prog 12 #[.pointer (some ⟨b, 0, none⟩)] w1 fun e w' => e = .returned (.tuple #[vI (popX xs).1, .bool (popX xs).2]) ∧ DN w w' b xs.dropLast N g ∧ Fr (fun j => j = b ∨ j = g) w1 w' ∧ Fr (fun _ => False) w w' := by
  refine (pop_any b g xs N hN w1 h.dq).mono ?_
  rintro _ w' ⟨rfl, hd, hf⟩
  exact ⟨rfl, ⟨hd, h.nb, h.ng⟩, hf, fr_new f hf (by rintro j (rfl | rfl); exact h.nb; exact h.ng)⟩
theorem steal_dn (w w1 : World) (b g : Nat) (xs : List Int) (N : Nat) (hN : N ≤ 100000000000000) (h : DN w w1 b xs N g) (f : Fr (fun _ => False) w w1) :
    Calls Try.prog 10 #[.pointer (some ⟨b, 0, none⟩)] w1 fun e w' => e = .returned (.tuple #[vI (stealX xs).1, .bool (stealX xs).2]) ∧ DN w w' b xs.tail N g ∧ Fr (fun j => j = b ∨ j = g) w1 w' ∧ Fr (fun _ => False) w w' := by
  refine (steal_any b g xs N hN w1 h.dq).mono ?_
  rintro _ w' ⟨rfl, hd, hf⟩
  exact ⟨rfl, ⟨hd, h.nb, h.ng⟩, hf, fr_new f hf (by rintro j (rfl | rfl); exact h.nb; exact h.ng)⟩
theorem len_dn (w w1 : World) (b g : Nat) (xs : List Int) (N : Nat) (h : DN w w1 b xs N g) (f : Fr (fun _ => False) w w1) :
    Calls Try.prog 11 #[.pointer (some ⟨b, 0, none⟩)] w1 fun e w' => e = .returned (vI xs.length) ∧ DN w w' b xs N g ∧ Fr (fun j => j = b) w1 w' ∧ Fr (fun _ => False) w w' := by
  refine (len_any b g xs N w1 h.dq).mono ?_
  rintro _ w' ⟨rfl, hd, hf⟩
  exact ⟨rfl, ⟨hd, h.nb, h.ng⟩, hf, fr_new f hf (by rintro j rfl; exact h.nb)⟩
/-- What others do. -/
theorem DN.fr {S : Nat → Prop} {w w1 w2 : World} {b : Nat} {xs : List Int} {N g : Nat} (h : DN w w1 b xs N g) (f : Fr S w1 w2) (hb : ¬ S b) (hg : ¬ S g) : DN w w2 b xs N g := ⟨h.dq.fr f hb hg, h.nb, h.ng⟩

/-- a, a + 1, .. -/
def sq (a n : Nat) : List Int := (List.range n).map fun j => ((a + j : Nat) : Int)
theorem sq_length (a n : Nat) : (sq a n).length = n := by simp [sq]
theorem sq_near (a n : Nat) : sq a (n + 1) = sq a n ++ [((a + n : Nat) : Int)] := by simp [sq, List.range_succ]
theorem sq_far (a n : Nat) : sq a (n + 1) = ((a : Nat) : Int) :: sq (a + 1) n := by
  unfold sq
  rw [List.range_succ_eq_map, List.map_cons, List.map_map]
  refine List.cons_eq_cons.2 ⟨by simp, List.map_congr_left fun j _ => ?_⟩
  show ((a + (j + 1) : Nat) : Int) = ((a + 1 + j : Nat) : Int)
  omega
theorem popX_sq (a n : Nat) : popX (sq a (n + 1)) = (((a + n : Nat) : Int), true) := by rw [sq_near]; simp [popX]
theorem drop_sq (a n : Nat) : (sq a (n + 1)).dropLast = sq a n := by rw [sq_near, List.dropLast_concat]
theorem stealX_sq (a n : Nat) : stealX (sq a (n + 1)) = (((a : Nat) : Int), true) := by rw [sq_far]; rfl
theorem tail_sq (a n : Nat) : (sq a (n + 1)).tail = sq (a + 1) n := by rw [sq_far]; rfl
end Go.Proofs.Ytkkfiipnpdlkeaa
