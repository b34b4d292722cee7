import Derived.Test.YtgcekpmkniipfaaQB5
import Derived.Test.YtgcekpmkniipfaaQS1
namespace Go.Proofs.Ytgcekpmkniipfaa
open Go.Shelf Go.RowKit Go.Lib Go.Sort
set_option linter.unusedVariables false
set_option linter.unusedSimpArgs false

def encP (x : Kv) : List Value := [vI x.1, .string x.2]
theorem ltP (x y : Kv) : ltOf (fun x y : Kv => cmpI x.1 y.1) x y = decide (x.1 < y.1) := by
  unfold ltOf cmpI
  by_cases h1 : x.1 < y.1
  · simp [h1]
  · by_cases h2 : y.1 < x.1 <;> simp [h1, h2]
theorem swoP : SWO (ltOf fun x y : Kv => cmpI x.1 y.1) where
  irrefl x := by rw [ltP]; simp
  trans x y z h1 h2 := by rw [ltP] at *; simp at *; omega
  ntrans x y z h1 h2 := by rw [ltP] at *; simp at *; omega

theorem cmpLays28 (blk off size : Nat) (w : World) : CmpLays Try.prog 28 #[] encP 2 (fun x y => cmpI x.1 y.1) blk off size w := fun m os dk hs x y => by
  refine (closure28 x y _).mono ?_
  rintro e w' ⟨he, hw⟩
  exact ⟨he, 0, _, by rw [hw, alloc_eq_grow, alloc_eq_grow, grow_grow]; rfl⟩

theorem fr_sortWorld (w : World) (blk off n : Nat) (d : Array Kv) (os : Array Obj) (hb : blk < w.heap.size) : Fr (fun j => j = blk) w (sortWorldK encP 2 w blk off n d os) := by
  refine ⟨rfl, rfl, rfl, ?_, ?_⟩
  · exact size_sortWorldK_c encP 2 w blk off n d os
  · intro j hj hne
    unfold sortWorldK grow putRowK putRow mapBlock Sort.ahead
    simp only
    rw [Array.getElem?_append_left (by simpa using hj), Array.getElem?_modify, if_neg (fun e => hne e.symm)]

theorem flat_at (d : Array Kv) (i : Nat) (h : i < d.size) : (flatK encP 2 d)[i * 2]! = vI d[i].1 ∧ (flatK encP 2 d)[i * 2 + 1]! = .string d[i].2 := by
  rw [get_flatK encP 2 d (i * 2) (by omega), get_flatK encP 2 d (i * 2 + 1) (by omega), show i * 2 / 2 = i by omega, show (i * 2 + 1) / 2 = i by omega, show i * 2 % 2 = 0 by omega, show (i * 2 + 1) % 2 = 1 by omega, getElem!_pos d i h]
  exact ⟨rfl, rfl⟩
theorem holds_of {w : World} {B g cap : Nat} {L : List Kv} (h : OwnP w B (.slice (some ⟨g, 0, none⟩) L.length cap) L) : HoldsK encP 2 w g 0 L.toArray ∧ g < w.heap.size := by
  rcases h.2 with ⟨h2, -⟩ | ⟨g', cap', cur, e, h3, h4, h5, h6, h7, h8⟩
  · cases h2
  · cases e
    refine ⟨fun j hj => ?_, heap_lt h4⟩
    rw [size_flatK] at hj
    have hj' : j < L.length * 2 := by simpa using hj
    have hfz : w.frozen? ⟨g, 0 + j, none⟩ = false := frozen_of h4 _
    refine ⟨?_, hfz⟩
    have key : cur[j]? = (pCells L)[j]? := by rw [← h8, List.getElem?_take, if_pos hj', Array.getElem?_toList]
    rw [Nat.zero_add, cell_of h4, key]
    obtain ⟨k0, k1⟩ := pCells_get L (j / 2) (by omega)
    obtain ⟨f0, f1⟩ := flat_at L.toArray (j / 2) (by simp; omega)
    by_cases e : j % 2 = 0
    · have ej : j / 2 * 2 = j := by omega
      rw [ej] at k0 f0
      rw [k0, id, f0]; simp
    · have ej : j / 2 * 2 + 1 = j := by omega
      rw [ej] at k1 f1
      rw [k1, id, f1]; simp
theorem pa_of {w : World} {g cap : Nat} {d : Array Kv} (h : HoldsK encP 2 w g 0 d) (hg : g < w.heap.size) : PA w (.slice (some ⟨g, 0, none⟩) d.size cap) d.toList := by
  refine ⟨_, cap, by simp, fun _ => ⟨g, rfl, hg, fun i hi => ?_⟩⟩
  have hi' : i < d.size := by simpa using hi
  obtain ⟨f0, f1⟩ := flat_at d i hi'
  have a0 := (h (i * 2) (by rw [size_flatK]; omega)).1
  have a1 := (h (i * 2 + 1) (by rw [size_flatK]; omega)).1
  rw [Nat.zero_add, f0] at a0
  rw [Nat.zero_add, f1] at a1
  exact ⟨by rw [a0]; simp, by rw [a1]; simp⟩

theorem sort_row (w : World) (B g cap : Nat) (L : List Kv) (h : OwnP w B (.slice (some ⟨g, 0, none⟩) L.length cap) L) (hL : L.length ≤ 1000000000000) :
    Calls Try.prog 27 #[.slice (some ⟨g, 0, none⟩) L.length cap, .func (.func 28) #[] #[]] w fun e w' => e = .returned (.tuple #[]) ∧ ∃ L', L'.Perm L ∧ L'.Pairwise (fun x y => ¬ y.1 < x.1) ∧ PA w' (.slice (some ⟨g, 0, none⟩) L.length cap) L' ∧ Fr (fun j => (Value.slice (some ⟨g, 0, none⟩) L.length cap).ownBlock = some j) w w' := by
  obtain ⟨hH, hg⟩ := holds_of h
  have eg : ∀ args w, (callFunc 28 args).run Try.prog w = .ok (.enter 28 args) w := enters_of Try.func28 (by kernel_rfl) rfl
  have hcon := AnyQ.slices_SortFunc sortL 2 Try.isAgg90 Try.sizeOf90 encP (fun _ => rfl) (fun x v hv => by simp [encP] at hv; rcases hv with rfl | rfl <;> rfl) (fun x y => cmpI x.1 y.1) swoP 28 #[] g 0 cap L.toArray w eg (cmpLays28 g 0 _ w) hH hg (by simp; omega)
  change Calls Try.prog 27 #[.slice (some ⟨g, 0, none⟩) L.toArray.size cap, _] _ _ at hcon
  rw [List.size_toArray] at hcon
  refine hcon.mono ?_
  rintro e w' ⟨rfl, d', n, os, hp, hs, rfl⟩
  have hsz : d'.size = L.length := by simpa using hp.1
  have hperm : d'.toList.Perm L := by
    have := hp.2.2
    rw [show (d'.extract 0 L.length) = d' by rw [← hsz]; simp] at this
    simpa using this
  refine ⟨rfl, d'.toList, hperm, ?_, ?_, (fr_sortWorld w g 0 n d' os hg).mono (fun j _ e => by rw [e]; rfl)⟩
  · rw [List.pairwise_iff_getElem]
    intro i j hi hj hij
    have hi' : i < d'.size := by simpa using hi
    have hj' : j < d'.size := by simpa using hj
    have h1 := hs i j (Nat.zero_le _) hij (by omega)
    rw [ltP, getElem!_pos d' i hi', getElem!_pos d' j hj'] at h1
    simpa using h1
  · have := pa_of (cap := cap) (holdsK_sortWorldK_c encP 2 w g 0 L.toArray d' n os hH hg (by simp; omega)) (lt_sortWorldK encP 2 w g 0 n d' os hg)
    rw [hsz] at this
    exact this
end Go.Proofs.Ytgcekpmkniipfaa

namespace Go.Proofs.Ytgcekpmkniipfaa
open Go.RowKit (wrap32 wrap64)
set_option linter.unusedVariables false
set_option linter.unusedSimpArgs false

set_option maxRecDepth 100000 in
set_option maxHeartbeats 2000000 in
theorem ins_nil (fv : Value) (w : World) : Calls Try.prog 65 #[.slice none 0 0, vI 0, vI 0, fv] w fun e w' => e = .returned (.tuple #[]) ∧ w' = w := by
  go_enter Try.func65, Try.ntmps65
  go_wp2_with fail
  refine wp_loop_rounds 1 ?_
  rw [rounds_succ]
  go_wp2_with fail
  go_end0
  exact ⟨rfl, rfl⟩

set_option maxRecDepth 100000 in
set_option maxHeartbeats 2000000 in
theorem pdq_nil (fv : Value) (l : Int) (w : World) : Calls Try.prog 49 #[.slice none 0 0, vI 0, vI 0, vI l, fv] w fun e w' => e = .returned (.tuple #[]) ∧ w' = w := by
  go_enter Try.func49, Try.ntmps49
  go_wp2_with fail
  refine wp_loop_rounds 1 ?_
  rw [rounds_succ]
  go_wp2_with (go_at_call 65; refine (ins_nil fv _).mono ?_; rintro _ _ ⟨rfl, rfl⟩)
  first | go_end0 | (refine bodyPost_ret (results_none rfl _ _ _) rfl ?_)
  exact ⟨rfl, rfl⟩

set_option maxRecDepth 100000 in
set_option maxHeartbeats 2000000 in
theorem sort_nil (fv : Value) (w : World) : Calls Try.prog 27 #[.slice none 0 0, fv] w fun e w' => e = .returned (.tuple #[]) ∧ w' = w := by
  have hl := Any.bits_Len (SlLaysF0.n15.bits (P := Try.prog) (ρ := sortL_ren) { sortL with }) 0 w (by omega) (by omega)
  change Calls Try.prog 50 _ _ _ at hl
  go_enter Try.func27, Try.ntmps27
  go_wp2_with (first
    | (go_at_call 50; refine hl.mono ?_; rintro _ _ ⟨rfl, rfl⟩)
    | (go_at_call 49; refine (pdq_nil fv _ _).mono ?_; rintro _ _ ⟨rfl, rfl⟩))
  go_end0
  exact ⟨rfl, rfl⟩

theorem sort_any : SortSaid := fun w B v L h hL => by
  rcases h.2 with ⟨rfl, h3⟩ | ⟨g, cap, cur, rfl, h3⟩
  · obtain rfl := List.eq_nil_of_length_eq_zero h3
    refine (sort_nil _ w).mono ?_
    rintro e w' ⟨rfl, rfl⟩
    exact ⟨rfl, [], List.Perm.refl _, List.Pairwise.nil, ⟨none, 0, rfl, fun h => absurd rfl h⟩, Fr.refl _ _⟩
  · exact sort_row w B g cap L h hL

theorem snapshot_any (b : Nat) (g : Gh) (N : Nat) (a : Ab) (w : World) (h : Tb w b g N a) (hN : N ≤ 100000000000) :
    Calls Try.prog 8 #[.pointer (some ⟨b, 0, none⟩)] w fun e w' => ∃ kb vb L, e = .returned (.tuple #[.slice (some ⟨kb, 0, none⟩) L.length L.length, .slice (some ⟨vb, 0, none⟩) L.length L.length]) ∧ w.heap.size ≤ kb ∧ w.heap.size ≤ vb ∧ SnapAt w' kb vb L ∧ Snap a L ∧ L.length ≤ N * 8 ∧ Tb w' b g N a ∧ Fr (fun j => j = b) w w' :=
  snapshot_of sort_any b g N a w h hN
end Go.Proofs.Ytgcekpmkniipfaa
