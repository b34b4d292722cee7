import Derived.Test.YtihicdbplmdjiaaGreatQPlC2
import Derived.Test.YtihicdbplmdjiaaGreatQPlA6
set_option linter.unusedVariables false
set_option linter.unusedSimpArgs false
namespace Go.Proofs.YtihicdbplmdjiaaGreat.Pl

/-! ### whose lists they are: each answer's lists are its own -/
def bks (kv vv : Value) : List Nat := kv.ownBlock.toList ++ vv.ownBlock.toList
def cbk (x : CV) : List Nat := if x.c.st = 2 then bks x.kv x.vv else []
def mbk (x : MV) : List Nat := bks x.kv x.vv
def abk (cvs : List CV) (mvs : List MV) : List Nat := (mvs.map mbk).flatten ++ (cvs.map cbk).flatten
structure Apx (w : World) (cvs : List CV) (mvs : List MV) : Prop where
  nd : (abk cvs mvs).Nodup
  lt : ∀ j ∈ abk cvs mvs, j < w.heap.size
theorem Apx.mono {w w' : World} {cvs : List CV} {mvs : List MV} (h : Apx w cvs mvs) (hs : w.heap.size ≤ w'.heap.size) : Apx w' cvs mvs := ⟨h.nd, fun j hj => Nat.lt_of_lt_of_le (h.lt j hj) hs⟩
theorem flat_split {α : Type} (f : α → List Nat) : ∀ {l : List α} {i : Nat} (hi : i < l.length) (x : α), ∃ p q, (l.map f).flatten = p ++ f l[i] ++ q ∧ ((l.set i x).map f).flatten = p ++ f x ++ q
  | a :: r, 0, _, x => ⟨[], (r.map f).flatten, by simp, by simp⟩
  | a :: r, i + 1, hi, x => by
    obtain ⟨p, q, h1, h2⟩ := flat_split f (l := r) (i := i) (by simpa using hi) x
    exact ⟨f a ++ p, q, by simp only [List.map_cons, List.flatten_cons, h1, List.getElem_cons_succ, List.append_assoc], by simp only [List.set_cons_succ, List.map_cons, List.flatten_cons, h2, List.append_assoc]⟩
/-- A client's lists become fewer, or stay. -/
theorem Apx.less {w w' : World} {cvs : List CV} {mvs : List MV} (h : Apx w cvs mvs) (hs : w.heap.size ≤ w'.heap.size) {i : Nat} (hi : i < cvs.length) (x : CV) (hx : cbk x = [] ∨ cbk x = cbk cvs[i]) : Apx w' (cvs.set i x) mvs := by
  obtain ⟨p, q, h1, h2⟩ := flat_split cbk hi x
  have sub : (abk (cvs.set i x) mvs).Sublist (abk cvs mvs) := by
    unfold abk
    rw [h1, h2]
    refine List.Sublist.append (List.Sublist.refl _) (List.Sublist.append (List.Sublist.append (List.Sublist.refl _) ?_) (List.Sublist.refl _))
    rcases hx with e | e
    · rw [e]; exact List.nil_sublist _
    · rw [e]; exact List.Sublist.refl _
  exact ⟨h.nd.sublist sub, fun j hj => Nat.lt_of_lt_of_le (h.lt j (sub.mem hj)) hs⟩
/-- A client's lists are new ones. -/
theorem Apx.new {w w' : World} {cvs : List CV} {mvs : List MV} (h : Apx w cvs mvs) {i : Nat} (hi : i < cvs.length) (x : CV) (hs : w.heap.size ≤ w'.heap.size) (hn : (cbk x).Nodup) (hx : ∀ j ∈ cbk x, w.heap.size ≤ j ∧ j < w'.heap.size) : Apx w' (cvs.set i x) mvs := by
  obtain ⟨p, q, h1, h2⟩ := flat_split cbk hi x
  have hnd := h.nd
  have hlt := h.lt
  unfold abk at hnd hlt
  rw [h1] at hnd hlt
  have sub : ((mvs.map mbk).flatten ++ (p ++ q)).Sublist ((mvs.map mbk).flatten ++ (p ++ cbk cvs[i] ++ q)) :=
    List.Sublist.append (List.Sublist.refl _) (List.Sublist.append (List.sublist_append_left _ _) (List.Sublist.refl _))
  have nd0 := hnd.sublist sub
  have lt0 : ∀ j ∈ (mvs.map mbk).flatten ++ (p ++ q), j < w.heap.size := fun j hj => hlt j (sub.mem hj)
  have perm : (abk (cvs.set i x) mvs).Perm (cbk x ++ ((mvs.map mbk).flatten ++ (p ++ q))) := by
    unfold abk
    rw [h2]
    have e1 : (p ++ cbk x ++ q).Perm (cbk x ++ (p ++ q)) := by
      rw [List.append_assoc]
      exact List.perm_append_comm_assoc p (cbk x) q
    exact (e1.append_left _).trans (List.perm_append_comm_assoc _ _ _)
  refine ⟨perm.nodup_iff.2 (List.nodup_append.2 ⟨hn, nd0, fun a ha b hb e => ?_⟩), fun j hj => ?_⟩
  · have := (hx a ha).1
    have := lt0 b hb
    omega
  · rcases List.mem_append.1 (perm.mem_iff.1 hj) with e | e
    · exact (hx j e).2
    · have := lt0 j e; omega
/-- A moment more: without lists, or with those of the client, who then has none. -/
theorem Apx.end {w w' : World} {cvs : List CV} {mvs : List MV} (h : Apx w cvs mvs) (hs : w.heap.size ≤ w'.heap.size) {i : Nat} (hi : i < cvs.length) (x : CV) (m : MV) (hx : cbk x = []) (hm : mbk m = [] ∨ mbk m = cbk cvs[i]) : Apx w' (cvs.set i x) (mvs ++ [m]) := by
  obtain ⟨p, q, h1, h2⟩ := flat_split cbk hi x
  have e : abk (cvs.set i x) (mvs ++ [m]) = (mvs.map mbk).flatten ++ (mbk m ++ (p ++ q)) := by
    unfold abk
    rw [h2, hx]
    simp
  have hnd := h.nd
  have hlt := h.lt
  unfold abk at hnd hlt
  rw [h1] at hnd hlt
  have perm : ((mvs.map mbk).flatten ++ (p ++ cbk cvs[i] ++ q)).Perm ((mvs.map mbk).flatten ++ (cbk cvs[i] ++ (p ++ q))) := by
    refine List.Perm.append_left _ ?_
    rw [List.append_assoc]
    exact List.perm_append_comm_assoc p _ q
  have nd1 := perm.nodup_iff.1 hnd
  have lt1 : ∀ j ∈ (mvs.map mbk).flatten ++ (cbk cvs[i] ++ (p ++ q)), j < w.heap.size := fun j hj => hlt j (perm.mem_iff.2 hj)
  have sub : (abk (cvs.set i x) (mvs ++ [m])).Sublist ((mvs.map mbk).flatten ++ (cbk cvs[i] ++ (p ++ q))) := by
    rw [e]
    refine List.Sublist.append (List.Sublist.refl _) (List.Sublist.append ?_ (List.Sublist.refl _))
    rcases hm with e | e
    · rw [e]; exact List.nil_sublist _
    · rw [e]; exact List.Sublist.refl _
  exact ⟨nd1.sublist sub, fun j hj => Nat.lt_of_lt_of_le (lt1 j (sub.mem hj)) hs⟩
theorem Apx.start (w : World) {cvs : List CV} (h : ∀ x ∈ cvs, x.c.st = 0) : Apx w cvs [] := by
  have e : abk cvs [] = [] := by
    unfold abk
    simp only [List.map_nil, List.flatten_nil, List.nil_append, List.flatten_eq_nil_iff, List.mem_map]
    rintro l ⟨x, hx, rfl⟩
    unfold cbk
    rw [if_neg (by rw [h x hx]; decide)]
  exact ⟨by rw [e]; exact List.nodup_nil, fun j hj => by rw [e] at hj; cases hj⟩
theorem bks_none : bks (.slice none 0 0) (.slice none 0 0) = [] := rfl
theorem bks_new {kb vb n m c d A Z : Nat} (h1 : A ≤ kb) (h2 : A ≤ vb) (h3 : kb < Z) (h4 : vb < Z) (hne : kb ≠ vb) : (bks (.slice (some ⟨kb, 0, none⟩) n c) (.slice (some ⟨vb, 0, none⟩) m d)).Nodup ∧ ∀ j ∈ bks (.slice (some ⟨kb, 0, none⟩) n c) (.slice (some ⟨vb, 0, none⟩) m d), A ≤ j ∧ j < Z := by
  have e : bks (.slice (some ⟨kb, 0, none⟩) n c) (.slice (some ⟨vb, 0, none⟩) m d) = [kb, vb] := rfl
  rw [e]
  refine ⟨by simp [hne], fun j hj => ?_⟩
  simp at hj
  rcases hj with rfl | rfl
  · exact ⟨h1, h3⟩
  · exact ⟨h2, h4⟩
theorem cbk_none (x : CV) (h1 : x.kv = .slice none 0 0) (h2 : x.vv = .slice none 0 0) : cbk x = [] := by unfold cbk; rw [h1, h2, bks_none]; simp
end Go.Proofs.YtihicdbplmdjiaaGreat.Pl
namespace Go.Proofs.YtihicdbplmdjiaaGreat.Pl
open Go.RowKit (wrap32 wrap64)
open Go.MuLone
open Go.Maps (Keyed)

/-- A table's cells when k of its maps are made. -/
def tabC (b k : Nat) : Array Value := ((List.range 24).map fun j => if j % 3 = 0 then Value.int .i32 0 else if j % 3 = 1 then .int .u32 0 else if j / 3 < k then .map (some (b + 1 + j / 3)) else .map none).toArray
theorem tabC_zero (b : Nat) : tabC b 0 = #[.int .i32 0, .int .u32 0, .map none, .int .i32 0, .int .u32 0, .map none, .int .i32 0, .int .u32 0, .map none, .int .i32 0, .int .u32 0, .map none, .int .i32 0, .int .u32 0, .map none, .int .i32 0, .int .u32 0, .map none, .int .i32 0, .int .u32 0, .map none, .int .i32 0, .int .u32 0, .map none] := rfl
theorem tabC_at (b k j : Nat) (hj : j < 24) : (tabC b k)[j]? = some (if j % 3 = 0 then Value.int .i32 0 else if j % 3 = 1 then .int .u32 0 else if j / 3 < k then .map (some (b + 1 + j / 3)) else .map none) := by
  unfold tabC
  rw [List.getElem?_toArray, List.getElem?_map, List.getElem?_range hj]
  rfl
theorem tabC_size (b k : Nat) : (tabC b k).size = 24 := by simp [tabC]
theorem tabC_step (b k : Nat) (hk : k < 8) : (tabC b k).setIfInBounds (k * 3 + 2) (.map (some (b + 1 + k))) = tabC b (k + 1) := by
  apply Array.ext_getElem?
  intro j
  rw [Array.getElem?_setIfInBounds]
  by_cases hj : j < 24
  · rw [tabC_at b (k + 1) j hj, tabC_at b k j hj, tabC_size]
    by_cases e : k * 3 + 2 = j
    · rw [if_pos e, if_pos (by omega), if_neg (by omega), if_neg (by omega), if_pos (by omega)]
      congr 4
      omega
    · rw [if_neg e]
      by_cases h0 : j % 3 = 0
      · rw [if_pos h0, if_pos h0]
      · rw [if_neg h0, if_neg h0]
        by_cases h1 : j % 3 = 1
        · rw [if_pos h1, if_pos h1]
        · rw [if_neg h1, if_neg h1]
          by_cases h2 : j / 3 < k
          · rw [if_pos h2, if_pos (by omega)]
          · rw [if_neg h2, if_neg (by omega)]
  · have n1 : (tabC b (k + 1))[j]? = none := Array.getElem?_eq_none (by rw [tabC_size]; omega)
    have n2 : (tabC b k)[j]? = none := Array.getElem?_eq_none (by rw [tabC_size]; omega)
    rw [n1, n2, tabC_size, if_neg (by omega)]

def gh0 (b : Nat) : Gh where
  own := fun j => if j = b then 1 else if b + 1 ≤ j ∧ j < b + 9 then 2 + (j - b - 1) else 0
  mb := fun i => b + 1 + i
  D := fun _ => .map []
  eb := fun _ => 0

/-- A table in the making: k of its maps are there. -/
structure Mk (w : World) (k : Nat) (wr : World) : Prop where
  fr : Fr (fun _ => False) w wr
  size : wr.heap.size = w.heap.size + 1 + k
  tab : wr.heap[w.heap.size]? = some (.cells (tabC w.heap.size k) 115)
  maps : ∀ i, i < k → wr.heap[w.heap.size + 1 + i]? = some (.map #[] 0)

theorem Mk.cell {w wr : World} {k : Nat} (h : Mk w k wr) (hk : k < 8) : (wr.alloc (.map #[] 0)).cell? ⟨w.heap.size, k * 3 + 2, none⟩ = some (.map none) ∧ (wr.alloc (.map #[] 0)).frozen? ⟨w.heap.size, k * 3 + 2, none⟩ = false := by
  have h1 : (wr.alloc (.map #[] 0)).heap[w.heap.size]? = some (.cells (tabC w.heap.size k) 115) := by
    rw [Go.RowKit.Below.heap_alloc wr _ _ (by have := h.size; omega)]; exact h.tab
  refine ⟨?_, frozen_of h1 _⟩
  rw [cell_of h1, tabC_at _ _ _ (by omega), if_neg (by omega), if_neg (by omega), if_neg (by omega)]

theorem Mk.step {w wr : World} {k : Nat} (h : Mk w k wr) (hk : k < 8) : Mk w (k + 1) ((wr.alloc (.map #[] 0)).setCell ⟨w.heap.size, k * 3 + 2, none⟩ (.map (some wr.heap.size))) where
  fr := (h.fr.alloc _).setCell _ _ (Or.inr (Nat.le_refl _))
  size := by simp; have := h.size; omega
  tab := by
    have h1 : (wr.alloc (.map #[] 0)).heap[w.heap.size]? = some (.cells (tabC w.heap.size k) 115) := by
      rw [Go.RowKit.Below.heap_alloc wr _ _ (by have := h.size; omega)]; exact h.tab
    rw [set_of h1, h.size, tabC_step _ _ hk]
  maps := fun i hi => by
    rw [Go.RowKit.Below.heap_setCell _ _ _ _ (by show w.heap.size + 1 + i ≠ w.heap.size; omega)]
    by_cases e : i < k
    · rw [Go.RowKit.Below.heap_alloc wr _ _ (by have := h.size; omega)]; exact h.maps i e
    · have : w.heap.size + 1 + i = wr.heap.size := by have := h.size; omega
      rw [this]; exact heap_alloc_last wr _

theorem Mk.done {w wr : World} (h : Mk w 8 wr) : Tb wr w.heap.size (gh0 w.heap.size) 0 (fun _ => none) where
  lock := fun i hi => by rw [cell_of h.tab, tabC_at _ _ _ (by omega), if_pos (by omega)]
  map := fun i hi => by
    rw [cell_of h.tab, tabC_at _ _ _ (by omega), if_neg (by omega), if_neg (by omega), if_pos (by omega)]
    show some (Value.map (some (w.heap.size + 1 + (3 * i + 2) / 3))) = some (.map (some (w.heap.size + 1 + i)))
    congr 4
    omega
  frz := fun o => frozen_of h.tab o
  own1 := by simp [gh0]
  own2 := fun i hi => by
    show (if w.heap.size + 1 + i = w.heap.size then 1 else if w.heap.size + 1 ≤ w.heap.size + 1 + i ∧ w.heap.size + 1 + i < w.heap.size + 9 then 2 + (w.heap.size + 1 + i - w.heap.size - 1) else 0) = 2 + i
    rw [if_neg (by omega), if_pos (by omega)]
    omega
  ownE := fun k v hk => by cases hk
  inj := fun k k' v v' hk => by cases hk
  lt := fun j hj => by
    have hs := h.size
    have hj' : (if j = w.heap.size then 1 else if w.heap.size + 1 ≤ j ∧ j < w.heap.size + 9 then 2 + (j - w.heap.size - 1) else 0) ≠ 0 := hj
    by_cases e : j = w.heap.size
    · omega
    · rw [if_neg e] at hj'
      by_cases e2 : w.heap.size + 1 ≤ j ∧ j < w.heap.size + 9
      · omega
      · rw [if_neg e2] at hj'; exact absurd rfl hj'
  maps := fun i hi => by
    have h1 := h.maps i hi
    have h2 := World.ownsMap_made (H := Unit) (w := w) Tryz.prog 3 Rp
    obtain ⟨es, clock, hb, F, hs, hD⟩ := h2
    rw [heap_alloc_last] at hb
    cases hb
    exact ⟨_, _, h1, F, hs, hD⟩
  wf := fun k v hk => by cases hk
  has := fun i k _ _ => by show Maps.has (.map []) _ = _; simp [Maps.has]
  atk := fun k v hk => by cases hk
  ent := fun k v hk => by cases hk

theorem gh0_old (b j : Nat) (hj : j < b) : (gh0 b).own j = 0 := by
  show (if j = b then 1 else if b + 1 ≤ j ∧ j < b + 9 then 2 + (j - b - 1) else 0) = 0
  rw [if_neg (by omega), if_neg (by omega)]

set_option maxRecDepth 100000 in
set_option maxHeartbeats 4000000 in
theorem new_any (w : World) : Calls Tryz.prog 22 #[] w fun e w' => e = .returned (.pointer (some ⟨w.heap.size, 0, none⟩)) ∧ Tb w' w.heap.size (gh0 w.heap.size) 0 (fun _ => none) ∧ Fr (fun _ => False) w w' := by
  have hmm := @Go.RowKit.run_makeMap Tryz.prog
  have h0 : Hd (Mk w 0 (w.alloc (.cells (tabC w.heap.size 0) 115))) := ⟨(Fr.refl _ w).alloc _, by simp, heap_alloc_last w _, fun i hi => by omega⟩
  rw [tabC_zero] at h0
  go_enter Tryz.func22, Tryz.ntmps22
  go_wp2_with fail
  go_loopw [5] (fun v wr => ∃ k : Nat, v = .int .i64 k ∧ k ≤ 8 ∧ Hd (Mk w k wr)) (fun v _ => match v with | .int _ q => 8 - q.toNat | _ => 0)
  case atStart => exact ⟨0, rfl, by omega, h0⟩
  case round =>
    obtain ⟨k, rfl, hk, HM⟩ := hrel
    by_cases hlt : k < 8
    · obtain ⟨c0, z0⟩ := HM.out.cell hlt
      have hst : Hd (Mk w (k + 1) ((wr.alloc (.map #[] 0)).setCell ⟨w.heap.size, k * 3 + 2, none⟩ (.map (some wr.heap.size)))) := HM.out.step hlt
      have hk3 : (k : Int) < 8 := by omega
      have hk0 : (0 : Int) ≤ k := by omega
      clear HM hk
      go_wp2_with fail
      refine ⟨⟨k + 1, by simp, by omega, hst⟩, by simp; omega⟩
    · have hdk : decide ((k : Int) < 8) = false := by simp; omega
      have e8 : Hd (k = 8) := by show k = 8; omega
      clear hlt hk
      go_wp2_with fail
      go_ret
      obtain rfl := e8.out
      exact ⟨rfl, HM.out.done, HM.out.fr⟩
end Go.Proofs.YtihicdbplmdjiaaGreat.Pl
