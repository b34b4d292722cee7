import Derived.Test.YtocaepjdjhideaaQB5
import Derived.Test.YtocaepjdjhideaaQS1
namespace Go.Proofs.Ytocaepjdjhideaa
open Go.Shelf Go.RowKit Go.Lib Go.Sort
set_option linter.unusedVariables false
set_option linter.unusedSimpArgs false

def encP (x : Kv) : List Value := [vI x.1, .string x.2]
theorem ltP (x y : Kv) : ltOf (fun x y : Kv => cmpI x.1 y.1) x y = decide (x.1 < y.1) := by
  unfold ltOf cmpI
  by_cases h1 : x.1 < y.1
  · simp [h1]
  · by_cases h2 : y.1 < x.1 <;> simp [h1, h2]
theorem swoP : SWO (ltOf fun x y : Kv => cmpI x.1 y.1) where
  irrefl x := by rw [ltP]; simp
  trans x y z h1 h2 := by rw [ltP] at *; simp at *; omega
  ntrans x y z h1 h2 := by rw [ltP] at *; simp at *; omega

theorem cmpLays28 (blk off size : Nat) (w : World) : CmpLays Try.prog 28 #[] encP 2 (fun x y => cmpI x.1 y.1) blk off size w := fun m os dk hs x y => by
  refine (closure28 x y _).mono ?_
  rintro e w' ⟨he, hw⟩
  exact ⟨he, 0, _, by rw [hw, alloc_eq_grow, alloc_eq_grow, grow_grow]; rfl⟩

theorem fr_sortWorld (w : World) (blk off n : Nat) (d : Array Kv) (os : Array Obj) (hb : blk < w.heap.size) : Fr (fun j => j = blk) w (sortWorldK encP 2 w blk off n d os) := by
  refine ⟨rfl, rfl, rfl, ?_, ?_⟩
  · exact size_sortWorldK_c encP 2 w blk off n d os
  · intro j hj hne
    unfold sortWorldK grow putRowK putRow mapBlock Sort.ahead
    simp only
    rw [Array.getElem?_append_left (by simpa using hj), Array.getElem?_modify, if_neg (fun e => hne e.symm)]

theorem flat_at (d : Array Kv) (i : Nat) (h : i < d.size) : (flatK encP 2 d)[i * 2]! = vI d[i].1 ∧ (flatK encP 2 d)[i * 2 + 1]! = .string d[i].2 := by
  rw [get_flatK encP 2 d (i * 2) (by omega), get_flatK encP 2 d (i * 2 + 1) (by omega), show i * 2 / 2 = i by omega, show (i * 2 + 1) / 2 = i by omega, show i * 2 % 2 = 0 by omega, show (i * 2 + 1) % 2 = 1 by omega, getElem!_pos d i h]
  exact ⟨rfl, rfl⟩
theorem holds_of {w : World} {B g cap : Nat} {L : List Kv} (h : OwnP w B (.slice (some ⟨g, 0, none⟩) L.length cap) L) : HoldsK encP 2 w g 0 L.toArray ∧ g < w.heap.size := by
  rcases h.2 with ⟨h2, -⟩ | ⟨g', cap', cur, e, h3, h4, h5, h6, h7, h8⟩
  · cases h2
  · cases e
    refine ⟨fun j hj => ?_, heap_lt h4⟩
    rw [size_flatK] at hj
    have hj' : j < L.length * 2 := by simpa using hj
    have hfz : w.frozen? ⟨g, 0 + j, none⟩ = false := frozen_of h4 _
    refine ⟨?_, hfz⟩
    have key : cur[j]? = (pCells L)[j]? := by rw [← h8, List.getElem?_take, if_pos hj', Array.getElem?_toList]
    rw [Nat.zero_add, cell_of h4, key]
    obtain ⟨k0, k1⟩ := pCells_get L (j / 2) (by omega)
    obtain ⟨f0, f1⟩ := flat_at L.toArray (j / 2) (by simp; omega)
    by_cases e : j % 2 = 0
    · have ej : j / 2 * 2 = j := by omega
      rw [ej] at k0 f0
      rw [k0, id, f0]; simp
    · have ej : j / 2 * 2 + 1 = j := by omega
      rw [ej] at k1 f1
      rw [k1, id, f1]; simp
theorem pa_of {w : World} {g cap : Nat} {d : Array Kv} (h : HoldsK encP 2 w g 0 d) (hg : g < w.heap.size) : PA w (.slice (some ⟨g, 0, none⟩) d.size cap) d.toList := by
  refine ⟨_, cap, by simp, fun _ => ⟨g, rfl, hg, fun i hi => ?_⟩⟩
  have hi' : i < d.size := by simpa using hi
  obtain ⟨f0, f1⟩ := flat_at d i hi'
  have a0 := (h (i * 2) (by rw [size_flatK]; omega)).1
  have a1 := (h (i * 2 + 1) (by rw [size_flatK]; omega)).1
  rw [Nat.zero_add, f0] at a0
  rw [Nat.zero_add, f1] at a1
  exact ⟨by rw [a0]; simp, by rw [a1]; simp⟩

theorem sort_row (w : World) (B g cap : Nat) (L : List Kv) (h : OwnP w B (.slice (some ⟨g, 0, none⟩) L.length cap) L) (hL : L.length ≤ 1000000000000) :
    Calls Try.prog 27 #[.slice (some ⟨g, 0, none⟩) L.length cap, .func (.func 28) #[] #[]] w fun e w' => e = .returned (.tuple #[]) ∧ ∃ L', L'.Perm L ∧ L'.Pairwise (fun x y => ¬ y.1 < x.1) ∧ PA w' (.slice (some ⟨g, 0, none⟩) L.length cap) L' ∧ Fr (fun j => (Value.slice (some ⟨g, 0, none⟩) L.length cap).ownBlock = some j) w w' := by
  obtain ⟨hH, hg⟩ := holds_of h
  have eg : ∀ args w, (callFunc 28 args).run Try.prog w = .ok (.enter 28 args) w := enters_of Try.func28 (by kernel_rfl) rfl
  have hcon := AnyQ.slices_SortFunc sortL 2 Try.isAgg90 Try.sizeOf90 encP (fun _ => rfl) (fun x v hv => by simp [encP] at hv; rcases hv with rfl | rfl <;> rfl) (fun x y => cmpI x.1 y.1) swoP 28 #[] g 0 cap L.toArray w eg (cmpLays28 g 0 _ w) hH hg (by simp; omega)
  change Calls Try.prog 27 #[.slice (some ⟨g, 0, none⟩) L.toArray.size cap, _] _ _ at hcon
  rw [List.size_toArray] at hcon
  refine hcon.mono ?_
  rintro e w' ⟨rfl, d', n, os, hp, hs, rfl⟩
  have hsz : d'.size = L.length := by simpa using hp.1
  have hperm : d'.toList.Perm L := by
    have := hp.2.2
    rw [show (d'.extract 0 L.length) = d' by rw [← hsz]; simp] at this
    simpa using this
  refine ⟨rfl, d'.toList, hperm, ?_, ?_, (fr_sortWorld w g 0 n d' os hg).mono (fun j _ e => by rw [e]; rfl)⟩
  · rw [List.pairwise_iff_getElem]
    intro i j hi hj hij
    have hi' : i < d'.size := by simpa using hi
    have hj' : j < d'.size := by simpa using hj
    have h1 := hs i j (Nat.zero_le _) hij (by omega)
    rw [ltP, getElem!_pos d' i hi', getElem!_pos d' j hj'] at h1
    simpa using h1
  · have := pa_of (cap := cap) (holdsK_sortWorldK_c encP 2 w g 0 L.toArray d' n os hH hg (by simp; omega)) (lt_sortWorldK encP 2 w g 0 n d' os hg)
    rw [hsz] at this
    exact this
end Go.Proofs.Ytocaepjdjhideaa
