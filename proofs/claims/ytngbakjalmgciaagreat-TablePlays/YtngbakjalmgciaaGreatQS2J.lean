import Derived.Test.YtngbakjalmgciaaGreatQB5
import Derived.Test.YtngbakjalmgciaaGreatQQfJ
import Derived.Test.YtngbakjalmgciaaGreatQC2
namespace Go.Proofs.YtngbakjalmgciaaGreat
open Go.Shelf Go.RowKit Go.Lib Go.Sort
set_option linter.unusedVariables false
set_option linter.unusedSimpArgs false

def encP (x : Kv) : List Value := [vI x.1, .string x.2]
theorem ltP (x y : Kv) : ltOf (fun x y : Kv => cmpI x.1 y.1) x y = decide (x.1 < y.1) := by
  unfold ltOf cmpI
  by_cases h1 : x.1 < y.1
  · simp [h1]
  · by_cases h2 : y.1 < x.1 <;> simp [h1, h2]
theorem swoP : SWO (ltOf fun x y : Kv => cmpI x.1 y.1) where
  irrefl x := by rw [ltP]; simp
  trans x y z h1 h2 := by rw [ltP] at *; simp at *; omega
  ntrans x y z h1 h2 := by rw [ltP] at *; simp at *; omega

theorem cmpLays28 (blk off size : Nat) (w : World) : CmpLays Tryz.prog 79 #[] encP 2 (fun x y => cmpI x.1 y.1) blk off size w := fun m os dk hs x y => by
  refine (closure28 x y _).mono ?_
  rintro e w' ⟨he, hw⟩
  exact ⟨he, 0, _, by rw [hw, alloc_eq_grow, alloc_eq_grow, grow_grow]; rfl⟩

theorem fr_sortWorld (w : World) (blk off n : Nat) (d : Array Kv) (os : Array Obj) (hb : blk < w.heap.size) : Fr (fun j => j = blk) w (sortWorldK encP 2 w blk off n d os) := by
  refine ⟨rfl, rfl, rfl, ?_, ?_⟩
  · exact size_sortWorldK_c encP 2 w blk off n d os
  · intro j hj hne
    unfold sortWorldK grow putRowK putRow mapBlock Sort.ahead
    simp only
    rw [Array.getElem?_append_left (by simpa using hj), Array.getElem?_modify, if_neg (fun e => hne e.symm)]

theorem flat_at (d : Array Kv) (i : Nat) (h : i < d.size) : (flatK encP 2 d)[i * 2]! = vI d[i].1 ∧ (flatK encP 2 d)[i * 2 + 1]! = .string d[i].2 := by
  rw [get_flatK encP 2 d (i * 2) (by omega), get_flatK encP 2 d (i * 2 + 1) (by omega), show i * 2 / 2 = i by omega, show (i * 2 + 1) / 2 = i by omega, show i * 2 % 2 = 0 by omega, show (i * 2 + 1) % 2 = 1 by omega, getElem!_pos d i h]
  exact ⟨rfl, rfl⟩
theorem holds_of {w : World} {B g cap : Nat} {L : List Kv} (h : OwnP w B (.slice (some ⟨g, 0, none⟩) L.length cap) L) : HoldsK encP 2 w g 0 L.toArray ∧ g < w.heap.size := by
  rcases h.2 with ⟨h2, -⟩ | ⟨g', cap', cur, e, h3, h4, h5, h6, h7, h8⟩
  · cases h2
  · cases e
    refine ⟨fun j hj => ?_, heap_lt h4⟩
    rw [size_flatK] at hj
    have hj' : j < L.length * 2 := by simpa using hj
    have hfz : w.frozen? ⟨g, 0 + j, none⟩ = false := frozen_of h4 _
    refine ⟨?_, hfz⟩
    have key : cur[j]? = (pCells L)[j]? := by rw [← h8, List.getElem?_take, if_pos hj', Array.getElem?_toList]
    rw [Nat.zero_add, cell_of h4, key]
    obtain ⟨k0, k1⟩ := pCells_get L (j / 2) (by omega)
    obtain ⟨f0, f1⟩ := flat_at L.toArray (j / 2) (by simp; omega)
    by_cases e : j % 2 = 0
    · have ej : j / 2 * 2 = j := by omega
      rw [ej] at k0 f0
      rw [k0, id, f0]; simp
    · have ej : j / 2 * 2 + 1 = j := by omega
      rw [ej] at k1 f1
      rw [k1, id, f1]; simp
theorem pa_of {w : World} {g cap : Nat} {d : Array Kv} (h : HoldsK encP 2 w g 0 d) (hg : g < w.heap.size) : PA w (.slice (some ⟨g, 0, none⟩) d.size cap) d.toList := by
  refine ⟨_, cap, by simp, fun _ => ⟨g, rfl, hg, fun i hi => ?_⟩⟩
  have hi' : i < d.size := by simpa using hi
  obtain ⟨f0, f1⟩ := flat_at d i hi'
  have a0 := (h (i * 2) (by rw [size_flatK]; omega)).1
  have a1 := (h (i * 2 + 1) (by rw [size_flatK]; omega)).1
  rw [Nat.zero_add, f0] at a0
  rw [Nat.zero_add, f1] at a1
  exact ⟨by rw [a0]; simp, by rw [a1]; simp⟩

theorem sort_row (w : World) (B g cap : Nat) (L : List Kv) (h : OwnP w B (.slice (some ⟨g, 0, none⟩) L.length cap) L) (hL : L.length ≤ 1000000000000) :
    Calls Tryz.prog 78 #[.slice (some ⟨g, 0, none⟩) L.length cap, .func (.func 79) #[] #[]] w fun e w' => e = .returned (.tuple #[]) ∧ ∃ L', L'.Perm L ∧ L'.Pairwise (fun x y => ¬ y.1 < x.1) ∧ PA w' (.slice (some ⟨g, 0, none⟩) L.length cap) L' ∧ Fr (fun j => (Value.slice (some ⟨g, 0, none⟩) L.length cap).ownBlock = some j) w w' := by
  obtain ⟨hH, hg⟩ := holds_of h
  have eg : ∀ args w, (callFunc 79 args).run Tryz.prog w = .ok (.enter 79 args) w := enters_of Tryz.func79 (by kernel_rfl) rfl
  have hcon := AnyQ.slices_SortFunc sortL 2 Tryz.isAgg140 Tryz.sizeOf140 encP (fun _ => rfl) (fun x v hv => by simp [encP] at hv; rcases hv with rfl | rfl <;> rfl) (fun x y => cmpI x.1 y.1) swoP 79 #[] g 0 cap L.toArray w eg (cmpLays28 g 0 _ w) hH hg (by simp; omega)
  change Calls Tryz.prog 78 #[.slice (some ⟨g, 0, none⟩) L.toArray.size cap, _] _ _ at hcon
  rw [List.size_toArray] at hcon
  refine hcon.mono ?_
  rintro e w' ⟨rfl, d', n, os, hp, hs, rfl⟩
  have hsz : d'.size = L.length := by simpa using hp.1
  have hperm : d'.toList.Perm L := by
    have := hp.2.2
    rw [show (d'.extract 0 L.length) = d' by rw [← hsz]; simp] at this
    simpa using this
  refine ⟨rfl, d'.toList, hperm, ?_, ?_, (fr_sortWorld w g 0 n d' os hg).mono (fun j _ e => by rw [e]; rfl)⟩
  · rw [List.pairwise_iff_getElem]
    intro i j hi hj hij
    have hi' : i < d'.size := by simpa using hi
    have hj' : j < d'.size := by simpa using hj
    have h1 := hs i j (Nat.zero_le _) hij (by omega)
    rw [ltP, getElem!_pos d' i hi', getElem!_pos d' j hj'] at h1
    simpa using h1
  · have := pa_of (cap := cap) (holdsK_sortWorldK_c encP 2 w g 0 L.toArray d' n os hH hg (by simp; omega)) (lt_sortWorldK encP 2 w g 0 n d' os hg)
    rw [hsz] at this
    exact this
end Go.Proofs.YtngbakjalmgciaaGreat

namespace Go.Proofs.YtngbakjalmgciaaGreat
open Go.RowKit (wrap32 wrap64)
set_option linter.unusedVariables false
set_option linter.unusedSimpArgs false

set_option maxRecDepth 100000 in
set_option maxHeartbeats 2000000 in
theorem ins_nil (fv : Value) (w : World) : Calls Tryz.prog 93 #[.slice none 0 0, vI 0, vI 0, fv] w fun e w' => e = .returned (.tuple #[]) ∧ w' = w := by
  go_enter Tryz.func93, Tryz.ntmps93
  go_wp2_with fail
  refine wp_loop_rounds 1 ?_
  rw [rounds_succ]
  go_wp2_with fail
  go_end0
  exact ⟨rfl, rfl⟩

set_option maxRecDepth 100000 in
set_option maxHeartbeats 2000000 in
theorem pdq_nil (fv : Value) (l : Int) (w : World) : Calls Tryz.prog 90 #[.slice none 0 0, vI 0, vI 0, vI l, fv] w fun e w' => e = .returned (.tuple #[]) ∧ w' = w := by
  go_enter Tryz.func90, Tryz.ntmps90
  go_wp2_with fail
  refine wp_loop_rounds 1 ?_
  rw [rounds_succ]
  go_wp2_with (go_at_call 93; refine (ins_nil fv _).mono ?_; rintro _ _ ⟨rfl, rfl⟩)
  first | go_end0 | (refine bodyPost_ret (results_none rfl _ _ _) rfl ?_)
  exact ⟨rfl, rfl⟩

set_option maxRecDepth 100000 in
set_option maxHeartbeats 2000000 in
theorem sort_nil (fv : Value) (w : World) : Calls Tryz.prog 78 #[.slice none 0 0, fv] w fun e w' => e = .returned (.tuple #[]) ∧ w' = w := by
  have hl := Any.bits_Len (SlLaysF0.n15.bits (P := Tryz.prog) (ρ := sortL_ren) { sortL with }) 0 w (by omega) (by omega)
  change Calls Tryz.prog 91 _ _ _ at hl
  go_enter Tryz.func78, Tryz.ntmps78
  go_wp2_with (first
    | (go_at_call 91; refine hl.mono ?_; rintro _ _ ⟨rfl, rfl⟩)
    | (go_at_call 90; refine (pdq_nil fv _ _).mono ?_; rintro _ _ ⟨rfl, rfl⟩))
  go_end0
  exact ⟨rfl, rfl⟩

theorem sort_any : SortSaid := fun w B v L h hL => by
  rcases h.2 with ⟨rfl, h3⟩ | ⟨g, cap, cur, rfl, h3⟩
  · obtain rfl := List.eq_nil_of_length_eq_zero h3
    refine (sort_nil _ w).mono ?_
    rintro e w' ⟨rfl, rfl⟩
    exact ⟨rfl, [], List.Perm.refl _, List.Pairwise.nil, ⟨none, 0, rfl, fun h => absurd rfl h⟩, Fr.refl _ _⟩
  · exact sort_row w B g cap L h hL

theorem snapshot_any (b : Nat) (g : Gh) (N : Nat) (a : Ab) (w : World) (h : Tb w b g N a) (hN : N ≤ 100000000000) :
    Calls Tryz.prog 64 #[.pointer (some ⟨b, 0, none⟩)] w fun e w' => ∃ kb vb L, e = .returned (.tuple #[.slice (some ⟨kb, 0, none⟩) L.length L.length, .slice (some ⟨vb, 0, none⟩) L.length L.length]) ∧ w.heap.size ≤ kb ∧ w.heap.size ≤ vb ∧ SnapAt w' kb vb L ∧ Snap a L ∧ L.length ≤ N * 8 ∧ Tb w' b g N a ∧ Fr (fun j => j = b) w w' :=
  snapshot_of sort_any b g N a w h hN
end Go.Proofs.YtngbakjalmgciaaGreat

namespace Go.Proofs.YtngbakjalmgciaaGreat
set_option linter.unusedVariables false
set_option linter.unusedSimpArgs false

/-! ### whose lists they are: each answer's lists are its own -/
def bks (kv vv : Value) : List Nat := kv.ownBlock.toList ++ vv.ownBlock.toList
def cbk (x : CV) : List Nat := if x.c.st = 2 then bks x.kv x.vv else []
def mbk (x : MV) : List Nat := bks x.kv x.vv
def abk (cvs : List CV) (mvs : List MV) : List Nat := (mvs.map mbk).flatten ++ (cvs.map cbk).flatten
structure Apx (w : World) (cvs : List CV) (mvs : List MV) : Prop where
  nd : (abk cvs mvs).Nodup
  lt : ∀ j ∈ abk cvs mvs, j < w.heap.size
theorem Apx.mono {w w' : World} {cvs : List CV} {mvs : List MV} (h : Apx w cvs mvs) (hs : w.heap.size ≤ w'.heap.size) : Apx w' cvs mvs := ⟨h.nd, fun j hj => Nat.lt_of_lt_of_le (h.lt j hj) hs⟩
theorem flat_split {α : Type} (f : α → List Nat) : ∀ {l : List α} {i : Nat} (hi : i < l.length) (x : α), ∃ p q, (l.map f).flatten = p ++ f l[i] ++ q ∧ ((l.set i x).map f).flatten = p ++ f x ++ q
  | a :: r, 0, _, x => ⟨[], (r.map f).flatten, by simp, by simp⟩
  | a :: r, i + 1, hi, x => by
    obtain ⟨p, q, h1, h2⟩ := flat_split f (l := r) (i := i) (by simpa using hi) x
    exact ⟨f a ++ p, q, by simp only [List.map_cons, List.flatten_cons, h1, List.getElem_cons_succ, List.append_assoc], by simp only [List.set_cons_succ, List.map_cons, List.flatten_cons, h2, List.append_assoc]⟩
/-- A client's lists become fewer, or stay. -/
theorem Apx.less {w w' : World} {cvs : List CV} {mvs : List MV} (h : Apx w cvs mvs) (hs : w.heap.size ≤ w'.heap.size) {i : Nat} (hi : i < cvs.length) (x : CV) (hx : cbk x = [] ∨ cbk x = cbk cvs[i]) : Apx w' (cvs.set i x) mvs := by
  obtain ⟨p, q, h1, h2⟩ := flat_split cbk hi x
  have sub : (abk (cvs.set i x) mvs).Sublist (abk cvs mvs) := by
    unfold abk
    rw [h1, h2]
    refine List.Sublist.append (List.Sublist.refl _) (List.Sublist.append (List.Sublist.append (List.Sublist.refl _) ?_) (List.Sublist.refl _))
    rcases hx with e | e
    · rw [e]; exact List.nil_sublist _
    · rw [e]; exact List.Sublist.refl _
  exact ⟨h.nd.sublist sub, fun j hj => Nat.lt_of_lt_of_le (h.lt j (sub.mem hj)) hs⟩
/-- A client's lists are new ones. -/
theorem Apx.new {w w' : World} {cvs : List CV} {mvs : List MV} (h : Apx w cvs mvs) {i : Nat} (hi : i < cvs.length) (x : CV) (hs : w.heap.size ≤ w'.heap.size) (hn : (cbk x).Nodup) (hx : ∀ j ∈ cbk x, w.heap.size ≤ j ∧ j < w'.heap.size) : Apx w' (cvs.set i x) mvs := by
  obtain ⟨p, q, h1, h2⟩ := flat_split cbk hi x
  have hnd := h.nd
  have hlt := h.lt
  unfold abk at hnd hlt
  rw [h1] at hnd hlt
  have sub : ((mvs.map mbk).flatten ++ (p ++ q)).Sublist ((mvs.map mbk).flatten ++ (p ++ cbk cvs[i] ++ q)) :=
    List.Sublist.append (List.Sublist.refl _) (List.Sublist.append (List.sublist_append_left _ _) (List.Sublist.refl _))
  have nd0 := hnd.sublist sub
  have lt0 : ∀ j ∈ (mvs.map mbk).flatten ++ (p ++ q), j < w.heap.size := fun j hj => hlt j (sub.mem hj)
  have perm : (abk (cvs.set i x) mvs).Perm (cbk x ++ ((mvs.map mbk).flatten ++ (p ++ q))) := by
    unfold abk
    rw [h2]
    have e1 : (p ++ cbk x ++ q).Perm (cbk x ++ (p ++ q)) := by
      rw [List.append_assoc]
      exact List.perm_append_comm_assoc p (cbk x) q
    exact (e1.append_left _).trans (List.perm_append_comm_assoc _ _ _)
  refine ⟨perm.nodup_iff.2 (List.nodup_append.2 ⟨hn, nd0, fun a ha b hb e => ?_⟩), fun j hj => ?_⟩
  · have := (hx a ha).1
    have := lt0 b hb
    omega
  · rcases List.mem_append.1 (perm.mem_iff.1 hj) with e | e
    · exact (hx j e).2
    · have := lt0 j e; omega
/-- A moment more: without lists, or with those of the client, who then has none. -/
theorem Apx.end {w w' : World} {cvs : List CV} {mvs : List MV} (h : Apx w cvs mvs) (hs : w.heap.size ≤ w'.heap.size) {i : Nat} (hi : i < cvs.length) (x : CV) (m : MV) (hx : cbk x = []) (hm : mbk m = [] ∨ mbk m = cbk cvs[i]) : Apx w' (cvs.set i x) (mvs ++ [m]) := by
  obtain ⟨p, q, h1, h2⟩ := flat_split cbk hi x
  have e : abk (cvs.set i x) (mvs ++ [m]) = (mvs.map mbk).flatten ++ (mbk m ++ (p ++ q)) := by
    unfold abk
    rw [h2, hx]
    simp
  have hnd := h.nd
  have hlt := h.lt
  unfold abk at hnd hlt
  rw [h1] at hnd hlt
  have perm : ((mvs.map mbk).flatten ++ (p ++ cbk cvs[i] ++ q)).Perm ((mvs.map mbk).flatten ++ (cbk cvs[i] ++ (p ++ q))) := by
    refine List.Perm.append_left _ ?_
    rw [List.append_assoc]
    exact List.perm_append_comm_assoc p _ q
  have nd1 := perm.nodup_iff.1 hnd
  have lt1 : ∀ j ∈ (mvs.map mbk).flatten ++ (cbk cvs[i] ++ (p ++ q)), j < w.heap.size := fun j hj => hlt j (perm.mem_iff.2 hj)
  have sub : (abk (cvs.set i x) (mvs ++ [m])).Sublist ((mvs.map mbk).flatten ++ (cbk cvs[i] ++ (p ++ q))) := by
    rw [e]
    refine List.Sublist.append (List.Sublist.refl _) (List.Sublist.append ?_ (List.Sublist.refl _))
    rcases hm with e | e
    · rw [e]; exact List.nil_sublist _
    · rw [e]; exact List.Sublist.refl _
  exact ⟨nd1.sublist sub, fun j hj => Nat.lt_of_lt_of_le (lt1 j (sub.mem hj)) hs⟩
theorem Apx.start (w : World) {cvs : List CV} (h : ∀ x ∈ cvs, x.c.st = 0) : Apx w cvs [] := by
  have e : abk cvs [] = [] := by
    unfold abk
    simp only [List.map_nil, List.flatten_nil, List.nil_append, List.flatten_eq_nil_iff, List.mem_map]
    rintro l ⟨x, hx, rfl⟩
    unfold cbk
    rw [if_neg (by rw [h x hx]; decide)]
  exact ⟨by rw [e]; exact List.nodup_nil, fun j hj => by rw [e] at hj; cases hj⟩
theorem bks_none : bks (.slice none 0 0) (.slice none 0 0) = [] := rfl
theorem bks_new {kb vb n m c d A Z : Nat} (h1 : A ≤ kb) (h2 : A ≤ vb) (h3 : kb < Z) (h4 : vb < Z) (hne : kb ≠ vb) : (bks (.slice (some ⟨kb, 0, none⟩) n c) (.slice (some ⟨vb, 0, none⟩) m d)).Nodup ∧ ∀ j ∈ bks (.slice (some ⟨kb, 0, none⟩) n c) (.slice (some ⟨vb, 0, none⟩) m d), A ≤ j ∧ j < Z := by
  have e : bks (.slice (some ⟨kb, 0, none⟩) n c) (.slice (some ⟨vb, 0, none⟩) m d) = [kb, vb] := rfl
  rw [e]
  refine ⟨by simp [hne], fun j hj => ?_⟩
  simp at hj
  rcases hj with rfl | rfl
  · exact ⟨h1, h3⟩
  · exact ⟨h2, h4⟩
theorem cbk_none (x : CV) (h1 : x.kv = .slice none 0 0) (h2 : x.vv = .slice none 0 0) : cbk x = [] := by unfold cbk; rw [h1, h2, bks_none]; simp
end Go.Proofs.YtngbakjalmgciaaGreat
