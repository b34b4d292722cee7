import Derived.Test.YtngbakjalmgciaaGreatQC5J
import Derived.Test.YtngbakjalmgciaaGreatQA6J
namespace Go.Proofs.YtngbakjalmgciaaGreat
open Go.RowKit (wrap32 wrap64)
set_option linter.unusedVariables false
set_option linter.unusedSimpArgs false

section
variable {w : World} {B pb cb tb : Nat} {g : Gh} {N : Nat} {a : Ab} {mv : Value} {cvs : List CV} {mvs : List MV} {s : St}
theorem Pl.last {E : Nat → Prop} (h : Pl w B pb cb tb g N a mv cvs mvs s E) (p : Int) : Pl (w.setCell ⟨pb, 10, none⟩ (vI p)) B pb cb tb g N a mv cvs mvs { s with last := p } E :=
  h.setPlay ((Fr.refl (fun j => j = pb) w).setCell _ _ (Or.inl rfl)) { s with last := p } (by rw [set_of h.play]; rfl) rfl rfl rfl

set_option maxRecDepth 100000 in
set_option maxHeartbeats 4000000 in
theorem pick_any (av sv : Value) (L : List Nat) (zs : List Int) (turn : Nat) (h : Pl w B pb cb tb g N a mv cvs mvs s (fun j => av.ownBlock = some j)) (hO : OwnI w B av L) (hne : L ≠ []) (hL : L.length ≤ 64) (hz : IntsAt w B sv zs) (hzl : zs.length ≤ 4000000000) (ht : turn ≤ 100000000000) :
    Calls Tryz.prog 25 #[.pointer (some ⟨pb, 0, none⟩), av, sv, vI turn] w fun e w' => e = .returned (vI (pickX s.last L zs turn : Nat)) ∧ Pl w' B pb cb tb g N a mv cvs mvs { s with last := (pickX s.last L zs turn : Nat) } (fun j => av.ownBlock = some j) ∧ Fr (fun j => j = pb) w w' := by
  have HP : Hd (∀ p : Int, Pl (w.setCell ⟨pb, 10, none⟩ (vI p)) B pb cb tb g N a mv cvs mvs { s with last := p } (fun j => av.ownBlock = some j)) := fun p => h.last p
  have HF : Hd (∀ p : Int, Fr (fun j => j = pb) w (w.setCell ⟨pb, 10, none⟩ (vI p))) := fun p => (Fr.refl (fun j => j = pb) w).setCell _ _ (Or.inl rfl)
  obtain ⟨-, -, p10, -, hfz⟩ := h.heads
  have z10 := hfz 10
  obtain ⟨sa, scap, rfl, hsx⟩ := hz
  have HOw := hO
  obtain ⟨ad, cap, eav, hx⟩ := hO.at
  obtain ⟨gb, rfl, -, hcs⟩ := hx hne
  have hbeh := behind_any B s.last av L w HOw hne hL
  unfold pickX
  subst eav
  have hpos : 0 < L.length := List.length_pos_iff.2 hne
  by_cases hlt : turn < zs.length
  · rw [if_pos hlt]
    obtain ⟨sg, so, rfl, hsg, hsc⟩ := hsx (by intro e; rw [e] at hlt; simp at hlt)
    have k0 := hsc turn hlt
    have e0 : zs.getD turn 0 = zs[turn] := by rw [List.getD_eq_getElem?_getD, List.getElem?_eq_getElem hlt]; rfl
    rw [e0]
    obtain ⟨z, ez⟩ : ∃ z, z = zs[turn] := ⟨_, rfl⟩
    rw [← ez] at k0 ⊢
    have hm0 : 0 ≤ z % (L.length : Int) := Int.emod_nonneg _ (by omega)
    have hm1 : z % (L.length : Int) < L.length := Int.emod_lt_of_pos _ (by omega)
    obtain ⟨q, eq⟩ := Int.eq_ofNat_of_zero_le hm0
    have hq : q < L.length := by omega
    have cq := hcs q hq
    have e1 : L.getD (z % (L.length : Int)).toNat 0 = L[q] := by rw [eq, List.getD_eq_getElem?_getD]; simp [hq]
    rw [e1]
    obtain ⟨y, ey⟩ : ∃ y, y = L[q] := ⟨_, rfl⟩
    rw [← ey] at cq ⊢
    obtain ⟨n, en⟩ : ∃ n, n = L.length := ⟨_, rfl⟩
    obtain ⟨m, em⟩ : ∃ m, m = zs.length := ⟨_, rfl⟩
    have hmod := mod_any z n (by omega) (by omega)
    rw [← en] at eq hq hL ⊢
    rw [eq] at hmod
    rw [← em] at hlt hzl ⊢
    have ht0 : (0 : Int) ≤ turn := by omega
    have ht1 : (turn : Int) < m := by omega
    have hq0 : (0 : Int) ≤ q := by omega
    have hq1 : (q : Int) < n := by omega
    clear hsx hsc hx hcs e0 ez e1 ey en em hm0 hm1 eq HOw hO h hbeh hne hpos hfz
    go_enter Tryz.func25, Tryz.ntmps25
    go_wp2_with (go_at_call 42; refine (hmod _).mono ?_; rintro _ _ ⟨rfl, rfl⟩)
    go_ret
    exact ⟨rfl, HP.out _, HF.out _⟩
  · rw [if_neg hlt]
    obtain ⟨y, ey⟩ : ∃ y, y = behindX s.last L := ⟨_, rfl⟩
    rw [← ey] at hbeh ⊢
    obtain ⟨n, en⟩ : ∃ n, n = L.length := ⟨_, rfl⟩
    obtain ⟨m, em⟩ : ∃ m, m = zs.length := ⟨_, rfl⟩
    rw [← en] at hbeh hL ⊢
    rw [← em] at hlt hzl ⊢
    have ht1 : decide ((turn : Int) < m) = false := by simp; omega
    clear hsx hx hcs ey en em HOw hO h hne hpos hfz
    go_enter Tryz.func25, Tryz.ntmps25
    go_wp2_with (go_at_call 43; refine hbeh.mono ?_; rintro _ _ ⟨rfl, rfl⟩)
    go_ret
    exact ⟨rfl, HP.out _, HF.out _⟩
end
end Go.Proofs.YtngbakjalmgciaaGreat

namespace Go.Proofs.YtngbakjalmgciaaGreat
set_option linter.unusedVariables false
set_option linter.unusedSimpArgs false

theorem Fr.drewN {S : Nat → Prop} {a w : World} (h : Fr S a w) (n : Nat) : Fr S a (w.drewN n) := ⟨h.os, h.tape, h.output, h.size, h.block⟩
/-! ### the plain map -/
def doT (tab : List Kv) (o : OpT) : List Kv := if o.1 = 1 then (match look tab o.2.1 with | some _ => tab | none => insK tab o.2.1 o.2.2) else tab
def doR (tab : List Kv) (o : OpT) : RepT :=
  if o.1 = 1 then ⟨(look tab o.2.1).isNone, ⟨#[]⟩, []⟩
  else if o.1 = 2 then ⟨(look tab o.2.1).isSome, (look tab o.2.1).getD ⟨#[]⟩, []⟩
  else ⟨true, ⟨#[]⟩, tab⟩
def tabOf (os : List OpT) : List Kv := os.foldl doT []
def pubs (os : List OpT) (k : Int) : Option ByteArray := (os.find? (fun o => o.1 == 1 && o.2.1 == k)).map (fun o => o.2.2)
def Rise (t : List Kv) : Prop := t.Pairwise (fun a b => a.1 < b.1)

theorem look_cons (e : Kv) (r : List Kv) (k : Int) : look (e :: r) k = if e.1 = k then some e.2 else look r k := by
  unfold look
  rw [List.find?_cons]
  by_cases h : e.1 = k
  · simp [h]
  · have : (e.1 == k) = false := by simp [h]
    rw [this, if_neg h]
theorem look_ins (t : List Kv) (k : Int) (v : ByteArray) (k' : Int) : look (insK t k v) k' = if k = k' then some v else look t k' := by
  induction t with
  | nil => unfold insK; rw [look_cons]
  | cons e r ih =>
    unfold insK
    by_cases h : e.1 < k
    · rw [if_pos h, look_cons, ih, look_cons]
      by_cases h2 : e.1 = k'
      · rw [if_pos h2, if_pos h2, if_neg (by omega)]
      · rw [if_neg h2, if_neg h2]
    · rw [if_neg h, look_cons]
theorem mem_ins {t : List Kv} {k : Int} {v : ByteArray} {x : Kv} (h : x ∈ insK t k v) : x = (k, v) ∨ x ∈ t := by
  induction t with
  | nil => unfold insK at h; simpa using h
  | cons e r ih =>
    unfold insK at h
    split at h
    · rcases List.mem_cons.1 h with h | h
      · exact Or.inr (by rw [h]; exact List.mem_cons_self)
      · rcases ih h with h | h
        · exact Or.inl h
        · exact Or.inr (List.mem_cons_of_mem _ h)
    · rcases List.mem_cons.1 h with h | h
      · exact Or.inl h
      · exact Or.inr h
theorem look_none_mem {t : List Kv} {k : Int} (h : look t k = none) : ∀ e ∈ t, e.1 ≠ k := by
  induction t with
  | nil => intro e he; cases he
  | cons x r ih =>
    rw [look_cons] at h
    intro e he
    split at h
    · cases h
    · rcases List.mem_cons.1 he with rfl | he
      · assumption
      · exact ih h e he
theorem rise_ins {t : List Kv} (h : Rise t) {k : Int} (hn : look t k = none) (v : ByteArray) : Rise (insK t k v) := by
  induction t with
  | nil => unfold insK; exact List.pairwise_singleton _ _
  | cons e r ih =>
    have hne := look_none_mem hn e List.mem_cons_self
    rw [look_cons, if_neg hne] at hn
    have hp := List.pairwise_cons.1 h
    unfold insK
    split
    · refine List.pairwise_cons.2 ⟨fun x hx => ?_, ih hp.2 hn⟩
      rcases mem_ins hx with rfl | hx
      · assumption
      · exact hp.1 x hx
    · rename_i hlt
      refine List.pairwise_cons.2 ⟨fun x hx => ?_, h⟩
      rcases List.mem_cons.1 hx with rfl | hx
      · show k < x.1; omega
      · have := hp.1 x hx; show k < x.1; omega
theorem look_mem {t : List Kv} {k : Int} {v : ByteArray} (h : look t k = some v) : (k, v) ∈ t := by
  induction t with
  | nil => cases h
  | cons e r ih =>
    rw [look_cons] at h
    split at h
    · rename_i e1; cases h; rw [← e1]; exact List.mem_cons_self
    · exact List.mem_cons_of_mem _ (ih h)
theorem look_of_lt {e : Kv} {r : List Kv} (h : Rise (e :: r)) : look r e.1 = none := by
  cases hl : look r e.1 with
  | none => rfl
  | some v =>
    have := (List.pairwise_cons.1 h).1 _ (look_mem hl)
    exact absurd this (Int.lt_irrefl _)
theorem rise_ext : ∀ {t t' : List Kv}, Rise t → Rise t' → (∀ k, look t k = look t' k) → t = t'
  | [], [], _, _, _ => rfl
  | [], e :: r, _, _, h => by have := h e.1; rw [look_cons, if_pos rfl] at this; cases this
  | e :: r, [], _, _, h => by have := h e.1; rw [look_cons, if_pos rfl] at this; cases this
  | e :: r, e' :: r', h1, h2, h => by
    have p1 := List.pairwise_cons.1 h1
    have p2 := List.pairwise_cons.1 h2
    have hk : e.1 = e'.1 := by
      rcases Int.lt_trichotomy e.1 e'.1 with hlt | heq | hgt
      · have := h e.1
        rw [look_cons, if_pos rfl] at this
        have hm := look_mem this.symm
        rcases List.mem_cons.1 hm with hm | hm
        · have : e.1 = e'.1 := by rw [← hm]
          exact this
        · have := p2.1 _ hm
          simp only at this
          omega
      · exact heq
      · have := h e'.1
        rw [look_cons (e := e'), if_pos rfl] at this
        have hm := look_mem this
        rcases List.mem_cons.1 hm with hm | hm
        · have : e'.1 = e.1 := by rw [← hm]
          exact this.symm
        · have := p1.1 _ hm
          simp only at this
          omega
    have hv : e.2 = e'.2 := by
      have := h e.1
      rw [look_cons, if_pos rfl, look_cons, if_pos hk.symm] at this
      exact Option.some.inj this
    have he : e = e' := Prod.ext hk hv
    subst he
    congr 1
    refine rise_ext p1.2 p2.2 (fun k => ?_)
    by_cases hke : e.1 = k
    · subst hke; rw [look_of_lt h1, look_of_lt h2]
    · have := h k
      rw [look_cons, if_neg hke, look_cons, if_neg hke] at this
      exact this

theorem pubs_cons (o : OpT) (os : List OpT) (k : Int) : pubs (o :: os) k = if o.1 = 1 ∧ o.2.1 = k then some o.2.2 else pubs os k := by
  unfold pubs
  rw [List.find?_cons]
  by_cases h : o.1 = 1 ∧ o.2.1 = k
  · have : (o.1 == 1 && o.2.1 == k) = true := by simp [h.1, h.2]
    rw [this, if_pos h]; rfl
  · have : (o.1 == 1 && o.2.1 == k) = false := by
      cases hb : (o.1 == 1 && o.2.1 == k) with
      | false => rfl
      | true => simp at hb; exact absurd hb h
    rw [this, if_neg h]
theorem look_doT (t : List Kv) (o : OpT) (k : Int) : look (doT t o) k = if o.1 = 1 ∧ o.2.1 = k then (match look t k with | some x => some x | none => some o.2.2) else look t k := by
  unfold doT
  by_cases h1 : o.1 = 1
  · rw [if_pos h1]
    cases hl : look t o.2.1 with
    | some x =>
      simp only
      by_cases h2 : o.2.1 = k
      · rw [if_pos ⟨h1, h2⟩, ← h2, hl]
      · rw [if_neg (fun h => h2 h.2)]
    | none =>
      simp only
      rw [look_ins]
      by_cases h2 : o.2.1 = k
      · rw [if_pos h2, if_pos ⟨h1, h2⟩, ← h2, hl]
      · rw [if_neg h2, if_neg (fun h => h2 h.2)]
  · rw [if_neg h1, if_neg (fun h => h1 h.1)]
theorem look_fold : ∀ (os : List OpT) (t : List Kv) (k : Int), look (os.foldl doT t) k = match look t k with | some x => some x | none => pubs os k
  | [], t, k => by cases h : look t k <;> simp [pubs, h]
  | o :: os, t, k => by
    rw [List.foldl_cons, look_fold os, look_doT, pubs_cons]
    by_cases h : o.1 = 1 ∧ o.2.1 = k
    · rw [if_pos h, if_pos h]
      cases look t k <;> rfl
    · rw [if_neg h, if_neg h]
theorem look_tabOf (os : List OpT) (k : Int) : look (tabOf os) k = pubs os k := look_fold os [] k
theorem rise_doT {t : List Kv} (h : Rise t) (o : OpT) : Rise (doT t o) := by
  unfold doT
  split
  · split
    · exact h
    · rename_i hn; exact rise_ins h hn _
  · exact h
theorem rise_fold : ∀ (os : List OpT) {t : List Kv}, Rise t → Rise (os.foldl doT t)
  | [], _, h => h
  | o :: os, _, h => rise_fold os (rise_doT h o)
theorem rise_tabOf (os : List OpT) : Rise (tabOf os) := rise_fold os List.Pairwise.nil
theorem tabOf_snoc (os : List OpT) (o : OpT) : tabOf (os ++ [o]) = doT (tabOf os) o := by unfold tabOf; rw [List.foldl_append]; rfl

end Go.Proofs.YtngbakjalmgciaaGreat

namespace Go.Proofs.YtngbakjalmgciaaGreat
open Go.RowKit (wrap32 wrap64)
open Go.MuLone
open Go.Maps (Keyed)
set_option linter.unusedVariables false
set_option linter.unusedSimpArgs false

/-- A table's cells when k of its maps are made. -/
def tabC (b k : Nat) : Array Value := ((List.range 24).map fun j => if j % 3 = 0 then Value.int .i32 0 else if j % 3 = 1 then .int .u32 0 else if j / 3 < k then .map (some (b + 1 + j / 3)) else .map none).toArray
theorem tabC_zero (b : Nat) : tabC b 0 = #[.int .i32 0, .int .u32 0, .map none, .int .i32 0, .int .u32 0, .map none, .int .i32 0, .int .u32 0, .map none, .int .i32 0, .int .u32 0, .map none, .int .i32 0, .int .u32 0, .map none, .int .i32 0, .int .u32 0, .map none, .int .i32 0, .int .u32 0, .map none, .int .i32 0, .int .u32 0, .map none] := rfl
theorem tabC_at (b k j : Nat) (hj : j < 24) : (tabC b k)[j]? = some (if j % 3 = 0 then Value.int .i32 0 else if j % 3 = 1 then .int .u32 0 else if j / 3 < k then .map (some (b + 1 + j / 3)) else .map none) := by
  unfold tabC
  rw [List.getElem?_toArray, List.getElem?_map, List.getElem?_range hj]
  rfl
theorem tabC_size (b k : Nat) : (tabC b k).size = 24 := by simp [tabC]
theorem tabC_step (b k : Nat) (hk : k < 8) : (tabC b k).setIfInBounds (k * 3 + 2) (.map (some (b + 1 + k))) = tabC b (k + 1) := by
  apply Array.ext_getElem?
  intro j
  rw [Array.getElem?_setIfInBounds]
  by_cases hj : j < 24
  · rw [tabC_at b (k + 1) j hj, tabC_at b k j hj, tabC_size]
    by_cases e : k * 3 + 2 = j
    · rw [if_pos e, if_pos (by omega), if_neg (by omega), if_neg (by omega), if_pos (by omega)]
      congr 4
      omega
    · rw [if_neg e]
      by_cases h0 : j % 3 = 0
      · rw [if_pos h0, if_pos h0]
      · rw [if_neg h0, if_neg h0]
        by_cases h1 : j % 3 = 1
        · rw [if_pos h1, if_pos h1]
        · rw [if_neg h1, if_neg h1]
          by_cases h2 : j / 3 < k
          · rw [if_pos h2, if_pos (by omega)]
          · rw [if_neg h2, if_neg (by omega)]
  · have n1 : (tabC b (k + 1))[j]? = none := Array.getElem?_eq_none (by rw [tabC_size]; omega)
    have n2 : (tabC b k)[j]? = none := Array.getElem?_eq_none (by rw [tabC_size]; omega)
    rw [n1, n2, tabC_size, if_neg (by omega)]

def gh0 (b : Nat) : Gh where
  own := fun j => if j = b then 1 else if b + 1 ≤ j ∧ j < b + 9 then 2 + (j - b - 1) else 0
  mb := fun i => b + 1 + i
  D := fun _ => .map []
  eb := fun _ => 0

/-- A table in the making: k of its maps are there. -/
structure Mk (w : World) (k : Nat) (wr : World) : Prop where
  fr : Fr (fun _ => False) w wr
  size : wr.heap.size = w.heap.size + 1 + k
  tab : wr.heap[w.heap.size]? = some (.cells (tabC w.heap.size k) 90)
  maps : ∀ i, i < k → wr.heap[w.heap.size + 1 + i]? = some (.map #[] 0)

theorem Mk.cell {w wr : World} {k : Nat} (h : Mk w k wr) (hk : k < 8) : (wr.alloc (.map #[] 0)).cell? ⟨w.heap.size, k * 3 + 2, none⟩ = some (.map none) ∧ (wr.alloc (.map #[] 0)).frozen? ⟨w.heap.size, k * 3 + 2, none⟩ = false := by
  have h1 : (wr.alloc (.map #[] 0)).heap[w.heap.size]? = some (.cells (tabC w.heap.size k) 90) := by
    rw [Go.RowKit.Below.heap_alloc wr _ _ (by have := h.size; omega)]; exact h.tab
  refine ⟨?_, frozen_of h1 _⟩
  rw [cell_of h1, tabC_at _ _ _ (by omega), if_neg (by omega), if_neg (by omega), if_neg (by omega)]

theorem Mk.step {w wr : World} {k : Nat} (h : Mk w k wr) (hk : k < 8) : Mk w (k + 1) ((wr.alloc (.map #[] 0)).setCell ⟨w.heap.size, k * 3 + 2, none⟩ (.map (some wr.heap.size))) where
  fr := (h.fr.alloc _).setCell _ _ (Or.inr (Nat.le_refl _))
  size := by simp; have := h.size; omega
  tab := by
    have h1 : (wr.alloc (.map #[] 0)).heap[w.heap.size]? = some (.cells (tabC w.heap.size k) 90) := by
      rw [Go.RowKit.Below.heap_alloc wr _ _ (by have := h.size; omega)]; exact h.tab
    rw [set_of h1, h.size, tabC_step _ _ hk]
  maps := fun i hi => by
    rw [Go.RowKit.Below.heap_setCell _ _ _ _ (by show w.heap.size + 1 + i ≠ w.heap.size; omega)]
    by_cases e : i < k
    · rw [Go.RowKit.Below.heap_alloc wr _ _ (by have := h.size; omega)]; exact h.maps i e
    · have : w.heap.size + 1 + i = wr.heap.size := by have := h.size; omega
      rw [this]; exact heap_alloc_last wr _

theorem Mk.done {w wr : World} (h : Mk w 8 wr) : Tb wr w.heap.size (gh0 w.heap.size) 0 (fun _ => none) where
  lock := fun i hi => by rw [cell_of h.tab, tabC_at _ _ _ (by omega), if_pos (by omega)]
  map := fun i hi => by
    rw [cell_of h.tab, tabC_at _ _ _ (by omega), if_neg (by omega), if_neg (by omega), if_pos (by omega)]
    show some (Value.map (some (w.heap.size + 1 + (3 * i + 2) / 3))) = some (.map (some (w.heap.size + 1 + i)))
    congr 4
    omega
  frz := fun o => frozen_of h.tab o
  own1 := by simp [gh0]
  own2 := fun i hi => by
    show (if w.heap.size + 1 + i = w.heap.size then 1 else if w.heap.size + 1 ≤ w.heap.size + 1 + i ∧ w.heap.size + 1 + i < w.heap.size + 9 then 2 + (w.heap.size + 1 + i - w.heap.size - 1) else 0) = 2 + i
    rw [if_neg (by omega), if_pos (by omega)]
    omega
  ownE := fun k v hk => by cases hk
  inj := fun k k' v v' hk => by cases hk
  lt := fun j hj => by
    have hs := h.size
    have hj' : (if j = w.heap.size then 1 else if w.heap.size + 1 ≤ j ∧ j < w.heap.size + 9 then 2 + (j - w.heap.size - 1) else 0) ≠ 0 := hj
    by_cases e : j = w.heap.size
    · omega
    · rw [if_neg e] at hj'
      by_cases e2 : w.heap.size + 1 ≤ j ∧ j < w.heap.size + 9
      · omega
      · rw [if_neg e2] at hj'; exact absurd rfl hj'
  maps := fun i hi => by
    have h1 := h.maps i hi
    have h2 := World.ownsMap_made (H := Unit) (w := w) Tryz.prog 3 Rp
    obtain ⟨es, clock, hb, F, hs, hD⟩ := h2
    rw [heap_alloc_last] at hb
    cases hb
    exact ⟨_, _, h1, F, hs, hD⟩
  wf := fun k v hk => by cases hk
  has := fun i k _ _ => by show Maps.has (.map []) _ = _; simp [Maps.has]
  atk := fun k v hk => by cases hk
  ent := fun k v hk => by cases hk

theorem gh0_old (b j : Nat) (hj : j < b) : (gh0 b).own j = 0 := by
  show (if j = b then 1 else if b + 1 ≤ j ∧ j < b + 9 then 2 + (j - b - 1) else 0) = 0
  rw [if_neg (by omega), if_neg (by omega)]

set_option maxRecDepth 100000 in
set_option maxHeartbeats 4000000 in
theorem new_any (w : World) : Calls Tryz.prog 18 #[] w fun e w' => e = .returned (.pointer (some ⟨w.heap.size, 0, none⟩)) ∧ Tb w' w.heap.size (gh0 w.heap.size) 0 (fun _ => none) ∧ Fr (fun _ => False) w w' := by
  have hmm := @Go.RowKit.run_makeMap Tryz.prog
  have h0 : Hd (Mk w 0 (w.alloc (.cells (tabC w.heap.size 0) 90))) := ⟨(Fr.refl _ w).alloc _, by simp, heap_alloc_last w _, fun i hi => by omega⟩
  rw [tabC_zero] at h0
  go_enter Tryz.func18, Tryz.ntmps18
  go_wp2_with fail
  go_loopw [5] (fun v wr => ∃ k : Nat, v = .int .i64 k ∧ k ≤ 8 ∧ Hd (Mk w k wr)) (fun v _ => match v with | .int _ q => 8 - q.toNat | _ => 0)
  case atStart => exact ⟨0, rfl, by omega, h0⟩
  case round =>
    obtain ⟨k, rfl, hk, HM⟩ := hrel
    by_cases hlt : k < 8
    · obtain ⟨c0, z0⟩ := HM.out.cell hlt
      have hst : Hd (Mk w (k + 1) ((wr.alloc (.map #[] 0)).setCell ⟨w.heap.size, k * 3 + 2, none⟩ (.map (some wr.heap.size)))) := HM.out.step hlt
      have hk3 : (k : Int) < 8 := by omega
      have hk0 : (0 : Int) ≤ k := by omega
      clear HM hk
      go_wp2_with fail
      refine ⟨⟨k + 1, by simp, by omega, hst⟩, by simp; omega⟩
    · have hdk : decide ((k : Int) < 8) = false := by simp; omega
      have e8 : Hd (k = 8) := by show k = 8; omega
      clear hlt hk
      go_wp2_with fail
      go_ret
      obtain rfl := e8.out
      exact ⟨rfl, HM.out.done, HM.out.fr⟩
end Go.Proofs.YtngbakjalmgciaaGreat
