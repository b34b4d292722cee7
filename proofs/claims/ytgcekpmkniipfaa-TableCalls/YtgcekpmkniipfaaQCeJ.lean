import Derived.Test.YtgcekpmkniipfaaQCd
import Derived.Test.YtgcekpmkniipfaaQA6J
namespace Go.Proofs.Ytgcekpmkniipfaa
open Go.RowKit (wrap32 wrap64)
set_option linter.unusedVariables false
set_option linter.unusedSimpArgs false

theorem costs_ge (l : List OpT) : l.length ≤ costs l := by
  induction l with
  | nil => simp [costs]
  | cons o r ih => rw [costs_cons, List.length_cons]; have := cost_ge o; omega
theorem len_mu1 {c : Cl} (h : ClOk c) : c.ops.length ≤ mu1 c + 10 := by
  have h8 := h.lk
  unfold mu1
  split
  · have := costs_ge c.ops; omega
  · split
    · have := costs_ge c.ops; omega
    · have := costs_ge c.ops.tail
      cases hc : c.ops with
      | nil => simp
      | cons o r => rw [hc] at this; simp at this; simp; omega
theorem mu1_le (s : St) {c : Cl} (h : c ∈ s.cls) : mu1 c ≤ mu s := by
  unfold mu
  have : mu1 c ∈ s.cls.map mu1 := List.mem_map.2 ⟨c, h, rfl⟩
  generalize s.cls.map mu1 = l at this
  generalize mu1 c = x at this
  induction l with
  | nil => cases this
  | cons y r ih =>
    rcases List.mem_cons.1 this with rfl | h
    · simp
    · have := ih h; simp; omega
theorem stepX_eq {s : St} {i : Nat} (hl : i < s.cls.length) {o : OpT} {r : List OpT} (hop : s.cls[i].ops = o :: r) : stepX s i =
    if s.cls[i].st = 0 then { s with ms := s.ms ++ [⟨i, true, o, rep0⟩], cls := s.cls.set i { s.cls[i] with st := 1 } }
    else if s.cls[i].st = 1 then actX s i s.cls[i] o
    else { s with ms := s.ms ++ [⟨i, false, o, s.cls[i].rp⟩], cls := s.cls.set i { s.cls[i] with st := 0, ops := fromK r } } := by
  have hg : s.cls.getD i cl0 = s.cls[i] := by rw [List.getD_eq_getElem?_getD]; simp [hl]
  unfold stepX
  simp only [hg, hop]

section
variable {w : World} {B pb cb tb : Nat} {g : Gh} {N : Nat} {a : Ab} {mv : Value} {cvs : List CV} {mvs : List MV} {s : St} {E : Nat → Prop}
theorem step_any (h : Pl w B pb cb tb g N a mv cvs mvs s E) (hs : StOk s) (i : Nat) (hi : i ∈ able s) (hn : s.cls.length ≤ 64) (hms : s.ms.length ≤ 100000000000) (hN : N < 100000000000) (hmu : mu s ≤ 100000000000) :
    Calls Try.prog 33 #[.pointer (some ⟨pb, 0, none⟩), vI i] w fun e w' => e = .returned (.tuple #[]) ∧ Left w B pb cb tb g N E (stepX s i) w' := by
  obtain ⟨hl, hc⟩ := able_mem hi
  have hok := hs s.cls[i] (List.getElem_mem hl)
  have hlen := len_mu1 hok
  have hmu1 := mu1_le s (List.getElem_mem hl)
  obtain ⟨o, r, hop⟩ : ∃ o r, s.cls[i].ops = o :: r := by
    cases hop : s.cls[i].ops with
    | nil => simp [canGo, hop] at hc
    | cons o r => exact ⟨o, r, rfl⟩
  rw [stepX_eq hl hop]
  have hk := hok.first o r hop
  rw [hop] at hlen
  have hr : r.length ≤ 900000000000 := by simp at hlen; omega
  by_cases h0 : s.cls[i].st = 0
  · rw [if_pos h0]
    exact step_begin h i hl hn o r hop h0 hms
  · rw [if_neg h0]
    by_cases h1 : s.cls[i].st = 1
    · rw [if_pos h1]
      exact step_act h i hl hn o r hop h1 hk (hok.keys o (by rw [hop]; simp)) hok.lk hN
    · rw [if_neg h1]
      have h2 : s.cls[i].st = 2 := by have := hok.st; omega
      exact step_end h i hl hn o r hop h2 hr hms
end
end Go.Proofs.Ytgcekpmkniipfaa

namespace Go.Proofs.Ytgcekpmkniipfaa
open Go.RowKit (wrap32 wrap64)
set_option linter.unusedVariables false
set_option linter.unusedSimpArgs false

/-- Clients' calls as they lie. -/
def ClsAt (w : World) (B : Nat) (v : Value) (cl : List (List OpT)) : Prop :=
  ∃ ad cap, v = .slice ad cl.length cap ∧ (cl ≠ [] → ∃ g o, ad = some ⟨g, o, none⟩ ∧ g < B ∧ ∀ i (h : i < cl.length), ∃ u, w.cell? ⟨g, o + i, none⟩ = some u ∧ OpsAt w B u cl[i])
theorem ClsAt.fr {w w' : World} {B : Nat} {v : Value} {cl : List (List OpT)} (h : ClsAt w B v cl) {S : Nat → Prop} (f : Fr S w w') (hB : B ≤ w.heap.size) (hS : ∀ j, j < B → ¬ S j) : ClsAt w' B v cl := by
  obtain ⟨ad, cap, e, hx⟩ := h
  refine ⟨ad, cap, e, fun hne => ?_⟩
  obtain ⟨g, o, ea, hg, hcs⟩ := hx hne
  refine ⟨g, o, ea, hg, fun i hi => ?_⟩
  obtain ⟨u, hu, ho⟩ := hcs i hi
  exact ⟨u, (f.cell (by omega) (hS g hg)).trans hu, ho.fr f hB hS⟩

def zrow : List Value := [.slice none 0 0, vI 0, vI 0, .bool false, .string ⟨#[]⟩, .slice none 0 0, .slice none 0 0]
theorem made_rows (n : Nat) : madeCells #[.slice none 0 0, vI 0, vI 0, .bool false, .string ⟨#[]⟩, .slice none 0 0, .slice none 0 0] (n * 7) = (List.replicate n zrow).flatten.toArray := by
  have hlen : ∀ r ∈ List.replicate n zrow, r.length = 7 := fun r hr => by rw [List.eq_of_mem_replicate hr]; rfl
  apply Array.ext_getElem?
  intro j
  by_cases hj : j < n * 7
  · have hj7 : j / 7 < n := by omega
    have e := flat_get hlen (j / 7) (j % 7) (by simpa using hj7) (by omega)
    rw [show j / 7 * 7 + j % 7 = j by omega, List.getElem_replicate] at e
    have e1 : (madeCells #[.slice none 0 0, vI 0, vI 0, .bool false, .string ⟨#[]⟩, .slice none 0 0, .slice none 0 0] (n * 7))[j]? = some ((#[.slice none 0 0, vI 0, vI 0, .bool false, .string ⟨#[]⟩, .slice none 0 0, .slice none 0 0] : Array Value)[j % 7]!) := by
      unfold madeCells
      rw [Array.getElem?_map, Array.getElem?_range, if_pos hj]
      rfl
    rw [e1, List.getElem?_toArray, e]
    have h7 : j % 7 < 7 := by omega
    generalize j % 7 = q at *
    match q, h7 with
    | 0, _ => rfl
    | 1, _ => rfl
    | 2, _ => rfl
    | 3, _ => rfl
    | 4, _ => rfl
    | 5, _ => rfl
    | 6, _ => rfl
  · rw [Array.getElem?_eq_none (by rw [size_madeCells]; omega), Array.getElem?_eq_none (by rw [List.size_toArray, flat_len hlen]; simp; omega)]
theorem under99 : Try.prog.underlying 99 = some (.slice 118) := by kernel_rfl
theorem make_clients (n : Nat) (hn : n ≤ 64) (w : World) : (Instr.makeSlice 99 (.int .i64 n) (.int .i64 n)).run Try.prog w = .ok (.slice (some ⟨w.heap.size, 0, none⟩) n n) (w.alloc (.cells (List.replicate n zrow).flatten.toArray 118)) := by
  rw [run_make_of 99 118 (.agg #[.slice none 0 0, vI 0, vI 0, .bool false, .string ⟨#[]⟩, .slice none 0 0, .slice none 0 0]) 7 112 under99 (by kernel_rfl) (by kernel_rfl) (by kernel_rfl) n (by omega) (by omega) w]
  show Result.ok _ (w.alloc (.cells (madeCells #[.slice none 0 0, vI 0, vI 0, .bool false, .string ⟨#[]⟩, .slice none 0 0, .slice none 0 0] (n * 7)) 118)) = _
  rw [made_rows]

/-- Clients, some of whose calls are laid. -/
def clsK (cl : List (List OpT)) (k : Nat) : List Cl := (cl.take k).map (fun l => ⟨fromK l, 0, 0, rep0⟩) ++ List.replicate (cl.length - k) cl0
theorem clsK_len (cl : List (List OpT)) (k : Nat) (h : k ≤ cl.length) : (clsK cl k).length = cl.length := by simp [clsK]; omega
theorem clsK_all (cl : List (List OpT)) : clsK cl cl.length = cl.map (fun l => ⟨fromK l, 0, 0, rep0⟩) := by simp [clsK]
theorem clsK_set (cl : List (List OpT)) (k : Nat) (h : k < cl.length) : (clsK cl k).set k ⟨fromK cl[k], 0, 0, rep0⟩ = clsK cl (k + 1) := by
  have hl : ((cl.take k).map (fun l => (⟨fromK l, 0, 0, rep0⟩ : Cl))).length = k := by simp; omega
  unfold clsK
  rw [List.set_append, if_neg (by omega), hl, Nat.sub_self]
  obtain ⟨m, hm⟩ : ∃ m, cl.length - k = m + 1 := ⟨cl.length - k - 1, by omega⟩
  rw [hm, List.replicate_succ, List.set_cons_zero, show cl.length - (k + 1) = m by omega, List.take_add_one, List.getElem?_eq_getElem h, List.map_append, List.append_assoc]
  rfl
def stK (cl : List (List OpT)) (k : Nat) : St := ⟨[], fun _ => false, clsK cl k, -1, []⟩
theorem stK_all (cl : List (List OpT)) : stK cl cl.length = begin0 cl := by unfold stK begin0; rw [clsK_all]

/-- Clients without calls. -/
def cv0 : CV := ⟨.slice none 0 0, .slice none 0 0, .slice none 0 0, cl0⟩

/-- A play that was made. -/
theorem Pl.made {w w' : World} {B pb cb tb : Nat} {g : Gh} (cl : List (List OpT)) (hB : B = w.heap.size) (hp : w'.heap[pb]? = some (.cells (playC tb (fun _ => false) cb cl.length (-1) (.slice none 0 0)) 101)) (hc : w'.heap[cb]? = some (.cells (List.replicate cl.length zrow).flatten.toArray 118)) (ht : Tb w' tb g 0 (fun _ => none)) (hne : pb ≠ cb) (hgp : g.own pb = 0) (hgc : g.own cb = 0) (hbp : B ≤ pb) (hbc : B ≤ cb) (hbg : ∀ j, g.own j ≠ 0 → B ≤ j) :
    Pl w' B pb cb tb g 0 (fun _ => none) (.slice none 0 0) (List.replicate cl.length cv0) [] (stK cl 0) (fun _ => False) where
  play := by
    have e : (stK cl 0).cls.length = cl.length := clsK_len cl 0 (Nat.zero_le _)
    rw [e]; exact hp
  rows := ⟨by rw [List.map_replicate]; exact hc, fun r hr => by rw [List.map_replicate] at hr; rw [List.eq_of_mem_replicate hr]; rfl⟩
  cls := by rw [List.map_replicate]; simp [stK, clsK]; exact Or.inr rfl
  ops := fun x hx => by rw [List.eq_of_mem_replicate hx]; exact ⟨none, 0, rfl, by simp [cv0, cl0], fun h => absurd rfl h⟩
  reps := fun x hx => by rw [List.eq_of_mem_replicate hx]; exact RepAt.none _ _ _
  tab := ht
  snap := ⟨List.Pairwise.nil, fun k v => by simp [stK]⟩
  mom := World.ownsRow_nil _ _ _ _
  moms := rfl
  mreps := fun x hx => by cases hx
  ne := hne
  gp := hgp
  gc := hgc
  bp := hbp
  bc := hbc
  bg := hbg
  mp := fun h => by cases h
  mc := fun h => by cases h
  mg := fun j h => by cases h
  ep := fun h => h
  ec := fun h => h
  eg := fun j h => h.elim
  em := fun j h => h.elim
  eb := fun j h => h.elim
  el := fun j h => h.elim
end Go.Proofs.Ytgcekpmkniipfaa

namespace Go.Proofs.Ytgcekpmkniipfaa
open Go.RowKit (wrap32 wrap64)
open Go.MuLone
open Go.Maps (Keyed)
set_option linter.unusedVariables false
set_option linter.unusedSimpArgs false

/-- A table's cells when k of its maps are made. -/
def tabC (b k : Nat) : Array Value := ((List.range 24).map fun j => if j % 3 = 0 then Value.int .i32 0 else if j % 3 = 1 then .int .u32 0 else if j / 3 < k then .map (some (b + 1 + j / 3)) else .map none).toArray
theorem tabC_zero (b : Nat) : tabC b 0 = #[.int .i32 0, .int .u32 0, .map none, .int .i32 0, .int .u32 0, .map none, .int .i32 0, .int .u32 0, .map none, .int .i32 0, .int .u32 0, .map none, .int .i32 0, .int .u32 0, .map none, .int .i32 0, .int .u32 0, .map none, .int .i32 0, .int .u32 0, .map none, .int .i32 0, .int .u32 0, .map none] := rfl
theorem tabC_at (b k j : Nat) (hj : j < 24) : (tabC b k)[j]? = some (if j % 3 = 0 then Value.int .i32 0 else if j % 3 = 1 then .int .u32 0 else if j / 3 < k then .map (some (b + 1 + j / 3)) else .map none) := by
  unfold tabC
  rw [List.getElem?_toArray, List.getElem?_map, List.getElem?_range hj]
  rfl
theorem tabC_size (b k : Nat) : (tabC b k).size = 24 := by simp [tabC]
theorem tabC_step (b k : Nat) (hk : k < 8) : (tabC b k).setIfInBounds (k * 3 + 2) (.map (some (b + 1 + k))) = tabC b (k + 1) := by
  apply Array.ext_getElem?
  intro j
  rw [Array.getElem?_setIfInBounds]
  by_cases hj : j < 24
  · rw [tabC_at b (k + 1) j hj, tabC_at b k j hj, tabC_size]
    by_cases e : k * 3 + 2 = j
    · rw [if_pos e, if_pos (by omega), if_neg (by omega), if_neg (by omega), if_pos (by omega)]
      congr 4
      omega
    · rw [if_neg e]
      by_cases h0 : j % 3 = 0
      · rw [if_pos h0, if_pos h0]
      · rw [if_neg h0, if_neg h0]
        by_cases h1 : j % 3 = 1
        · rw [if_pos h1, if_pos h1]
        · rw [if_neg h1, if_neg h1]
          by_cases h2 : j / 3 < k
          · rw [if_pos h2, if_pos (by omega)]
          · rw [if_neg h2, if_neg (by omega)]
  · have n1 : (tabC b (k + 1))[j]? = none := Array.getElem?_eq_none (by rw [tabC_size]; omega)
    have n2 : (tabC b k)[j]? = none := Array.getElem?_eq_none (by rw [tabC_size]; omega)
    rw [n1, n2, tabC_size, if_neg (by omega)]

def gh0 (b : Nat) : Gh where
  own := fun j => if j = b then 1 else if b + 1 ≤ j ∧ j < b + 9 then 2 + (j - b - 1) else 0
  mb := fun i => b + 1 + i
  D := fun _ => .map []
  eb := fun _ => 0

/-- A table in the making: k of its maps are there. -/
structure Mk (w : World) (k : Nat) (wr : World) : Prop where
  fr : Fr (fun _ => False) w wr
  size : wr.heap.size = w.heap.size + 1 + k
  tab : wr.heap[w.heap.size]? = some (.cells (tabC w.heap.size k) 82)
  maps : ∀ i, i < k → wr.heap[w.heap.size + 1 + i]? = some (.map #[] 0)

theorem Mk.cell {w wr : World} {k : Nat} (h : Mk w k wr) (hk : k < 8) : (wr.alloc (.map #[] 0)).cell? ⟨w.heap.size, k * 3 + 2, none⟩ = some (.map none) ∧ (wr.alloc (.map #[] 0)).frozen? ⟨w.heap.size, k * 3 + 2, none⟩ = false := by
  have h1 : (wr.alloc (.map #[] 0)).heap[w.heap.size]? = some (.cells (tabC w.heap.size k) 82) := by
    rw [Go.RowKit.Below.heap_alloc wr _ _ (by have := h.size; omega)]; exact h.tab
  refine ⟨?_, frozen_of h1 _⟩
  rw [cell_of h1, tabC_at _ _ _ (by omega), if_neg (by omega), if_neg (by omega), if_neg (by omega)]

theorem Mk.step {w wr : World} {k : Nat} (h : Mk w k wr) (hk : k < 8) : Mk w (k + 1) ((wr.alloc (.map #[] 0)).setCell ⟨w.heap.size, k * 3 + 2, none⟩ (.map (some wr.heap.size))) where
  fr := (h.fr.alloc _).setCell _ _ (Or.inr (Nat.le_refl _))
  size := by simp; have := h.size; omega
  tab := by
    have h1 : (wr.alloc (.map #[] 0)).heap[w.heap.size]? = some (.cells (tabC w.heap.size k) 82) := by
      rw [Go.RowKit.Below.heap_alloc wr _ _ (by have := h.size; omega)]; exact h.tab
    rw [set_of h1, h.size, tabC_step _ _ hk]
  maps := fun i hi => by
    rw [Go.RowKit.Below.heap_setCell _ _ _ _ (by show w.heap.size + 1 + i ≠ w.heap.size; omega)]
    by_cases e : i < k
    · rw [Go.RowKit.Below.heap_alloc wr _ _ (by have := h.size; omega)]; exact h.maps i e
    · have : w.heap.size + 1 + i = wr.heap.size := by have := h.size; omega
      rw [this]; exact heap_alloc_last wr _

theorem Mk.done {w wr : World} (h : Mk w 8 wr) : Tb wr w.heap.size (gh0 w.heap.size) 0 (fun _ => none) where
  lock := fun i hi => by rw [cell_of h.tab, tabC_at _ _ _ (by omega), if_pos (by omega)]
  map := fun i hi => by
    rw [cell_of h.tab, tabC_at _ _ _ (by omega), if_neg (by omega), if_neg (by omega), if_pos (by omega)]
    show some (Value.map (some (w.heap.size + 1 + (3 * i + 2) / 3))) = some (.map (some (w.heap.size + 1 + i)))
    congr 4
    omega
  frz := fun o => frozen_of h.tab o
  own1 := by simp [gh0]
  own2 := fun i hi => by
    show (if w.heap.size + 1 + i = w.heap.size then 1 else if w.heap.size + 1 ≤ w.heap.size + 1 + i ∧ w.heap.size + 1 + i < w.heap.size + 9 then 2 + (w.heap.size + 1 + i - w.heap.size - 1) else 0) = 2 + i
    rw [if_neg (by omega), if_pos (by omega)]
    omega
  ownE := fun k v hk => by cases hk
  inj := fun k k' v v' hk => by cases hk
  lt := fun j hj => by
    have hs := h.size
    have hj' : (if j = w.heap.size then 1 else if w.heap.size + 1 ≤ j ∧ j < w.heap.size + 9 then 2 + (j - w.heap.size - 1) else 0) ≠ 0 := hj
    by_cases e : j = w.heap.size
    · omega
    · rw [if_neg e] at hj'
      by_cases e2 : w.heap.size + 1 ≤ j ∧ j < w.heap.size + 9
      · omega
      · rw [if_neg e2] at hj'; exact absurd rfl hj'
  maps := fun i hi => by
    have h1 := h.maps i hi
    have h2 := World.ownsMap_made (H := Unit) (w := w) Try.prog 3 Rp
    obtain ⟨es, clock, hb, F, hs, hD⟩ := h2
    rw [heap_alloc_last] at hb
    cases hb
    exact ⟨_, _, h1, F, hs, hD⟩
  wf := fun k v hk => by cases hk
  has := fun i k _ _ => by show Maps.has (.map []) _ = _; simp [Maps.has]
  atk := fun k v hk => by cases hk
  ent := fun k v hk => by cases hk

theorem gh0_old (b j : Nat) (hj : j < b) : (gh0 b).own j = 0 := by
  show (if j = b then 1 else if b + 1 ≤ j ∧ j < b + 9 then 2 + (j - b - 1) else 0) = 0
  rw [if_neg (by omega), if_neg (by omega)]

set_option maxRecDepth 100000 in
set_option maxHeartbeats 4000000 in
theorem new_any (w : World) : Calls Try.prog 10 #[] w fun e w' => e = .returned (.pointer (some ⟨w.heap.size, 0, none⟩)) ∧ Tb w' w.heap.size (gh0 w.heap.size) 0 (fun _ => none) ∧ Fr (fun _ => False) w w' := by
  have hmm := @Go.RowKit.run_makeMap Try.prog
  have h0 : Hd (Mk w 0 (w.alloc (.cells (tabC w.heap.size 0) 82))) := ⟨(Fr.refl _ w).alloc _, by simp, heap_alloc_last w _, fun i hi => by omega⟩
  rw [tabC_zero] at h0
  go_enter Try.func10, Try.ntmps10
  go_wp2_with fail
  go_loopw [5] (fun v wr => ∃ k : Nat, v = .int .i64 k ∧ k ≤ 8 ∧ Hd (Mk w k wr)) (fun v _ => match v with | .int _ q => 8 - q.toNat | _ => 0)
  case atStart => exact ⟨0, rfl, by omega, h0⟩
  case round =>
    obtain ⟨k, rfl, hk, HM⟩ := hrel
    by_cases hlt : k < 8
    · obtain ⟨c0, z0⟩ := HM.out.cell hlt
      have hst : Hd (Mk w (k + 1) ((wr.alloc (.map #[] 0)).setCell ⟨w.heap.size, k * 3 + 2, none⟩ (.map (some wr.heap.size)))) := HM.out.step hlt
      have hk3 : (k : Int) < 8 := by omega
      have hk0 : (0 : Int) ≤ k := by omega
      clear HM hk
      go_wp2_with fail
      refine ⟨⟨k + 1, by simp, by omega, hst⟩, by simp; omega⟩
    · have hdk : decide ((k : Int) < 8) = false := by simp; omega
      have e8 : Hd (k = 8) := by show k = 8; omega
      clear hlt hk
      go_wp2_with fail
      go_ret
      obtain rfl := e8.out
      exact ⟨rfl, HM.out.done, HM.out.fr⟩
end Go.Proofs.Ytgcekpmkniipfaa
