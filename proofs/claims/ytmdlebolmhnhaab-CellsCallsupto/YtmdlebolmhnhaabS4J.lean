import Derived.Shelf.SlicesE.DeleteFunc
import Derived.Test.YtmdlebolmhnhaabProg
import Derived.Test.YtmdlebolmhnhaabV3J
import Derived.Test.YtmdlebolmhnhaabB5J
namespace Go.Proofs.Ytmdlebolmhnhaab
open Go.Shelf
set_option linter.unusedVariables false
set_option linter.unusedSimpArgs false
def delRen : Go.Shelf.Ren := ⟨fun | 10 => 54 | 6 => 60 | n => n, fun | 22 => 29 | 23 => 3 | 25 => 65 | 3 => 3 | 4 => 4 | 0 => 0 | n => n, fun | n => n⟩
theorem delL : Go.Proofs.SlLaysH.n10 Try.prog delRen := {
  mixed := by kernel_rfl
  f6 := ⟨Try.f60.name, by decide, Try.func60.trans (congrArg some (by kernel_rfl))⟩
  f10 := ⟨Try.f54.name, by decide, Try.func54.trans (congrArg some (by kernel_rfl))⟩
  t0 := Try.underlying0
  a0 := Try.isAgg0
  z0 := Try.sizeOf0
  v0 := Try.zeroValue0
  t3 := Try.underlying3
  a3 := Try.isAgg3
  z3 := Try.sizeOf3
  v3 := Try.zeroValue3
  t4 := Try.underlying4
  a4 := Try.isAgg4
  z4 := Try.sizeOf4
  v4 := Try.zeroValue4
  t22 := Try.underlying29
  a22 := Try.isAgg29
  z22 := Try.sizeOf29
  v22 := Try.zeroValue29
  a23 := Try.isAgg3
  z23 := Try.sizeOf3
  t25 := Try.underlying65
  a25 := Try.isAgg65
  z25 := Try.sizeOf65
  v25 := Try.zeroValue65 }
open Go.RowKit Go.Lib Go.Sort in
theorem deleteFunc_any {α : Type} [Inhabited α] (enc : α → Value) (hO : OneCell enc) (p : α → Bool) (g : Nat) (lb : Array Value) (eg : ∀ args w, (callFunc g args).run Try.prog w = .ok (.enter g args) w) (zr : α) (v23 : ∀ w, (zeroValue 3).run Try.prog w = .ok (enc zr) w) (blk off cap : Nat) (d : Array α) (w : World) (hp : PredAt Try.prog g lb enc p w) (hpo : PredOver Try.prog g lb enc p blk off d.size w) (hH : Holds enc w blk off d) (hsz : d.size ≤ 9223372036854775807) (hcap : d.size ≤ cap) :
    Calls Try.prog 54 #[.slice (some ⟨blk, off, none⟩) d.size cap, .func (.func g) #[] lb] w fun e w' => e = .returned (.slice (some ⟨blk, off, none⟩) (d.toList.filter fun x => !p x).length cap) ∧ ∃ q, w' = putRow enc (Sort.ahead w q) blk off ((d.toList.filter fun x => !p x) ++ List.replicate (d.size - (d.toList.filter fun x => !p x).length) zr).toArray := AnyE.slices_DeleteFunc delL enc hO p g lb eg zr v23 blk off cap d w hp hpo hH hsz hcap
end Go.Proofs.Ytmdlebolmhnhaab

namespace Go.Proofs.Ytmdlebolmhnhaab
open Go.RowKit Go.Shelf Go.Sort
open Go.Maps (Keyed)
set_option linter.unusedVariables false
set_option linter.unusedSimpArgs false

/-- Numbers that can be keys. -/
abbrev Num := { n : Nat // n ≤ 9000000000000000000 }
instance : Inhabited Num := ⟨⟨0, by omega⟩⟩
def encN (x : Num) : Value := vI x.1
theorem encN_one : OneCell encN := fun _ => rfl

set_option maxRecDepth 100000 in
set_option maxHeartbeats 1000000 in
theorem isThere_min (b tb nn : Nat) (D : DataW Unit) (i : Nat) (hi : i ≤ 9000000000000000000) (w : World) (hc : w.cell? ⟨b, 2, none⟩ = some (.map (some tb))) (hown : w.ownsMap Try.prog 3 Rc tb nn D) :
    Calls Try.prog 53 #[ptr b, vI i] w fun e w' => e = .returned (.bool (Maps.has D (.int .i64 i))) ∧ w' = w := by
  obtain ⟨v, ps, hrun, -⟩ := hown.look_ok keyed3 under61 (zero22 w) (zd := .nil) (zp := []) rfl (Maps.keyOf_int_mk under3 (wf_nat i hi))
  clear hown
  go_enter Try.func53, Try.ntmps53
  go_wp2_with fail
  go_ret
  exact ⟨rfl, rfl⟩

set_option maxRecDepth 100000 in
set_option maxHeartbeats 1000000 in
/-- The function that is handed to DeleteFunc. -/
theorem gone48 (b bx tb nn : Nat) (D : DataW Unit) (i : Nat) (hi : i ≤ 9000000000000000000) (w : World) (hx : w.cell? ⟨bx, 0, none⟩ = some (ptr b)) (hc : w.cell? ⟨b, 2, none⟩ = some (.map (some tb))) (hown : w.ownsMap Try.prog 3 Rc tb nn D) :
    Calls Try.prog 55 #[vI i, .pointer (some ⟨bx, 0, none⟩)] w fun e w' => e = .returned (.bool (!Maps.has D (.int .i64 i))) ∧ w' = w := by
  have HO : Hd _ := hown
  clear hown
  go_enter Try.func55, Try.ntmps55
  go_wp2_with fail
  refine (isThere_min b tb nn D i hi w hc HO.out).mono ?_
  rintro e w' ⟨rfl, rfl⟩
  go_wp2_with fail
  go_ret
  exact ⟨rfl, rfl⟩

/-- Only the row has turned. -/
theorem sortWorld_fr {α : Type} [Inhabited α] (enc : α → Value) (w : World) (blk off m : Nat) (dk : Array α) (os : Array Obj) : Fr (fun k => k = blk) w (sortWorld enc w blk off m dk os) := by
  refine ⟨rfl, rfl, rfl, by simp [sortWorld, grow, putRow, mapBlock, Sort.ahead], fun k hk hne => ?_⟩
  unfold sortWorld
  rw [heap_grow_old _ _ (by simpa [putRow, mapBlock, Sort.ahead] using hk)]
  simp [putRow, mapBlock, Sort.ahead, Array.getElem?_modify, Ne.symm hne]

end Go.Proofs.Ytmdlebolmhnhaab

namespace Go.Proofs.Ytmdlebolmhnhaab
open Go.RowKit Go.Shelf Go.Sort
open Go.Maps (Keyed)
set_option linter.unusedVariables false
set_option linter.unusedSimpArgs false

theorem take_put (cur : Array Value) (ts : List Num) (k : Nat) (hk : k ≤ ts.length) (h : ts.length ≤ cur.size) : (putCells encN 0 ts.toArray cur).toList.take k = (ts.take k).map encN := by
  apply List.ext_getElem?
  intro j
  by_cases hj : j < k
  · rw [List.getElem?_take_of_lt hj, Array.getElem?_toList, List.getElem?_map, List.getElem?_take_of_lt hj]
    simp [putCells, show j < ts.length by omega, show j < cur.size by omega]
  · rw [List.getElem?_take_eq_none (by omega), List.getElem?_map, List.getElem?_take_eq_none (by omega)]; rfl

def forgetX (a : Abs) : Abs := if 2 * (liveN a).length < a.pss.length then { a with pss := a.pss.filter fun p => (a.cells p).isSome } else a

/-- The list of what passes is thinned out where it lies. -/
theorem Mem.thin {w w2 : World} {b : Nat} {g : Gh} {a : Abs} (h : Mem w b g a) {g7 n cap : Nat} (hv : g.ps = .slice (some ⟨g7, 0, none⟩) n cap) (l : List Nat) (ts : List Num) (hts : ts.length = a.pss.length) (hl : l.length ≤ a.pss.length) (hlt : (ts.take l.length).map encN = l.map fun p : Nat => vI p) {q : Nat}
    (hw : w2 = putRow encN (Sort.ahead w q) g7 0 ts.toArray) :
    Mem (w2.setCell ⟨b, 4, none⟩ (.slice (some ⟨g7, 0, none⟩) l.length cap)) b { g with ps := .slice (some ⟨g7, 0, none⟩) l.length cap } { a with pss := l } ∧ Fr (fun j => g.own j ≠ 0) w (w2.setCell ⟨b, 4, none⟩ (.slice (some ⟨g7, 0, none⟩) l.length cap)) ∧ w2.heap[b]? = w.heap[b]? := by
  have ho : g.own g7 = 5 := h.ops g7 (by rw [hv]; rfl)
  have hF1 : Fr (fun k => k = g7) w w2 := by
    have := sortWorld_fr encN w g7 0 q ts.toArray #[]
    rw [hw]
    simpa [sortWorld] using this
  have hF2 : Fr (fun j => j = b) w2 (w2.setCell ⟨b, 4, none⟩ (.slice (some ⟨g7, 0, none⟩) l.length cap)) := Fr.setCell (S := fun j => j = b) (Fr.refl _ w2) _ _ (Or.inl rfl)
  have nb : b ≠ g7 := ne_own h.ob ho (by omega)
  have hb2 : w2.heap[b]? = some (.cells (memC g a) 60) := by rw [hF1.block b h.lt nb]; exact h.blk0
  have keep : ∀ k p, k < w.heap.size → g.own k = p → p ≠ 1 → p ≠ 5 → (w2.setCell ⟨b, 4, none⟩ (.slice (some ⟨g7, 0, none⟩) l.length cap)).heap[k]? = w.heap[k]? := by
    intro k p hk hp p1 p5
    rw [hF2.block k (Nat.lt_of_lt_of_le hk hF1.size) (ne_own hp h.ob p1), hF1.block k hk (ne_own hp ho p5)]
  have HP : (w2.setCell ⟨b, 4, none⟩ (.slice (some ⟨g7, 0, none⟩) l.length cap)).ownsRow 0 3 1 (.slice (some ⟨g7, 0, none⟩) l.length cap) l.length (l.map fun n : Nat => vI n) := by
    refine ⟨by simp, ?_⟩
    rcases h.pss.2 with ⟨h2, -⟩ | ⟨g8, cap', cur, e, h3, h4, h5, h6, h7, h8⟩
    · rw [hv] at h2; cases h2
    · rw [hv] at e
      cases e
      refine Or.inr ⟨g7, cap, putCells encN 0 ts.toArray cur, rfl, Nat.zero_le _, ?_, by omega, h6, by simp [putCells, h7], ?_⟩
      · rw [hF2.block g7 (Nat.lt_of_lt_of_le (heap_lt h4) hF1.size) (fun e => nb e.symm), hw]
        simp [putRow, mapBlock, Sort.ahead, Array.getElem?_modify, h4, onCells]
      · rw [Nat.mul_one, take_put cur ts l.length (by omega) (by rw [h7]; omega), hlt]
  refine ⟨{ blk0 := ?_, glob := (keep g.gb 2 (heap_lt h.glob) h.og (by omega) (by omega)).trans h.glob, map := ?_, has := h.has, atk := h.atk, cell := ?_, frs := ?_, pss := HP, ob := h.ob, og := h.og, ot := h.ot, ofr := h.ofr, ops := ?_, olt := ?_, glen := h.glen, pos := h.pos }, ?_, hb2.trans h.blk0.symm⟩
  · rw [set_of hb2]; rfl
  · obtain ⟨es, clock, hb, Ft, hs, hD⟩ := h.map
    exact ⟨es, clock, (keep g.tb 3 (heap_lt hb) h.ot (by omega) (by omega)).trans hb, Ft, hs, hD⟩
  · intro j m hc
    obtain ⟨d1, d2, d3⟩ := h.cell j m hc
    exact ⟨(keep _ _ (heap_lt d1) d2 (by omega) (by omega)).trans d1, d2, d3⟩
  · refine ⟨h.frs.1, ?_⟩
    rcases h.frs.2 with h2 | ⟨k, cap', cur, e, h3, h4, h5⟩
    · exact Or.inl h2
    · exact Or.inr ⟨k, cap', cur, e, h3, (keep k 4 (heap_lt h4) (h.ofr k (by rw [e]; rfl)) (by omega) (by omega)).trans h4, h5⟩
  · intro j e
    cases e
    exact ho
  · intro k hk
    have := h.olt k hk
    have := hF1.size
    simp
    omega
  · exact (hF1.mono (fun k _ e => by subst e; rw [ho]; omega)).then hF2 (fun j _ e => by subst e; rw [h.ob]; omega)

end Go.Proofs.Ytmdlebolmhnhaab

namespace Go.Proofs.Ytmdlebolmhnhaab
open Go.RowKit (wrap32 wrap64)
open Go.Maps (Keyed)
set_option linter.unusedVariables false
set_option linter.unusedSimpArgs false

/-! ### Pop as a function -/
def cutGo (num : Nat) (l : List Nat) : Nat → Nat
  | 0 => 0
  | k + 1 => if num < l.getD k 0 then cutGo num l k else k + 1
def cutLen (num : Nat) (l : List Nat) : Nat := cutGo num l l.length

theorem cutGo_is (num : Nat) (l : List Nat) : ∀ k, k ≤ l.length → (∀ j p, k ≤ j → l[j]? = some p → num < p) → IsCut num l (cutGo num l k)
  | 0, h, hj => ⟨Nat.zero_le _, hj, fun p h => by simp [cutGo] at h⟩
  | k + 1, h, hj => by
    unfold cutGo
    have e : l[k]? = some (l.getD k 0) := by rw [List.getElem?_eq_getElem (by omega), List.getD_eq_getElem?_getD, List.getElem?_eq_getElem (by omega)]; rfl
    split
    · rename_i hlt
      refine cutGo_is num l k (by omega) (fun j p hkj hp => ?_)
      by_cases hjk : j = k
      · subst hjk
        rw [e] at hp
        cases hp
        exact hlt
      · exact hj j p (by omega) hp
    · rename_i hlt
      refine ⟨h, hj, fun p _ hp => ?_⟩
      rw [Nat.add_sub_cancel, e] at hp
      cases hp
      omega
theorem cutLen_is (num : Nat) (l : List Nat) : IsCut num l (cutLen num l) := cutGo_is num l l.length (Nat.le_refl _) (fun j p hj hp => by rw [List.getElem?_eq_none hj] at hp; cases hp)

def popX (a : Abs) : Abs × Int :=
  match a.frs.getLast? with
  | none => (a, 30)
  | some num => ({ a with cells := gone a.cells (a.pss.drop (cutLen num a.pss)), pss := a.pss.take (cutLen num a.pss), frs := a.frs.dropLast }, 0)

theorem PopX.eq {a a' : Abs} (h : PopX a a') : popX a = (a', 0) := by
  obtain ⟨num, k, e, hc, rfl⟩ := h
  have hl : a.frs.getLast? = some num := by rw [e]; simp
  unfold popX
  rw [hl, IsCut.unique hc (cutLen_is num a.pss)]

/-- So many of each at most. -/
structure Fine (N : Nat) (a : Abs) : Prop where
  made : a.made ≤ N
  frs : a.frs.length ≤ N
  pss : a.pss.length ≤ N
  pbd : ∀ p ∈ a.pss, p ≤ N

theorem pop_x (b : Nat) (g : Gh) (a : Abs) (w : World) (h : Mem w b g a) {N : Nat} (hf : Fine N a) (hN : N ≤ 10000000000000) :
    Calls Try.prog 13 #[ptr b] w fun e w' => ∃ g', e = .returned (vI (popX a).2) ∧ Mem w' b g' (popX a).1 ∧ Fr (fun j => g.own j ≠ 0) w w' ∧ Ext w.heap.size g g' := by
  by_cases h0 : a.frs = []
  · refine (pop_none b g a w h h0).mono ?_
    rintro e w' ⟨rfl, rfl⟩
    have : popX a = (a, 30) := by simp [popX, h0]
    rw [this]
    exact ⟨g, rfl, h, Fr.refl _ _, Ext.refl _ _⟩
  · refine (pop_any b g a w h h0 (by have := hf.frs; omega) (by have := hf.pss; omega) (fun p hp => by have := hf.pbd p hp; omega)).mono ?_
    rintro e w' ⟨rfl, g', a', hP, hM, hF, hE⟩
    rw [hP.eq]
    exact ⟨g', rfl, hM, hF, fun k _ => by rw [hE]⟩

theorem make_x (b : Nat) (g : Gh) (a : Abs) (n : Int) (heap : Bool) (w : World) (h : Mem w b g a) {N : Nat} (hf : Fine N a) (hN : N ≤ 10000000000000) :
    Calls Try.prog 10 #[ptr b, vI n, .bool heap] w fun e w' => ∃ g', e = .returned (.tuple #[vI (makeX a n heap).2.1, vI (makeX a n heap).2.2]) ∧ Mem w' b g' (makeX a n heap).1 ∧ Fr (fun j => g.own j ≠ 0) w w' ∧ Ext w.heap.size g g' := by
  by_cases hbad : (n < 1 ∨ 8 < n) ∨ a.frs = []
  · refine (make_bad b g a n heap w h hbad).mono ?_
    rintro e w' ⟨rfl, h1, h2, rfl⟩
    exact ⟨g, by rw [h2], by rw [h1]; exact h, Fr.refl _ _, Ext.refl _ _⟩
  · obtain ⟨m, rfl⟩ := Int.eq_ofNat_of_zero_le (show 0 ≤ n by omega)
    have h1 : 1 ≤ m := by omega
    have h8 : m ≤ 8 := by omega
    have hfr : a.frs ≠ [] := fun e => hbad (Or.inr e)
    have hX : makeX a (m : Int) heap = (if heap then mkA a m else { mkA a m with pss := a.pss ++ [a.made + 1] }, ((a.made + 1 : Nat) : Int), 0) := by
      unfold makeX
      rw [if_neg (by omega), if_neg hfr, Int.toNat_natCast]
    rw [hX]
    have e1 := hf.made
    have e2 := hf.frs
    have e3 := hf.pss
    cases heap with
    | true => exact make_heap b g a m w h h1 h8 hfr (by omega) (by omega)
    | false => exact make_frame b g a m w h h1 h8 hfr (by omega) (by omega) (by omega)

/-! ### one call -/
structure OpR where
  kind : Int
  on : Int
  n : Int
  heap : Bool
  v : Val
  w : Val
  ca : Option Addr
  cl : Nat
  cc : Nat

abbrev OpR.cells (o : OpR) : Value := .slice o.ca o.cl o.cc

abbrev opC (o : OpR) : Array Value := #[vI o.kind, vI o.on, vI o.n, .bool o.heap, vI o.v.1, vI o.v.2, vI o.w.1, vI o.w.2, o.cells]
abbrev opV (o : OpR) : Value := .agg (opC o)

/-- What one call does, and what it answers: a number, a value, an error (Live and Drop aside). -/
def oneX (a : Abs) (o : OpR) : Abs × Int × Val × Int :=
  if o.kind = 2 then (pushX a, 0, (0, 0), 0)
  else if o.kind = 3 then ((popX a).1, 0, (0, 0), (popX a).2)
  else if o.kind = 4 then ((makeX a o.n o.heap).1, (makeX a o.n o.heap).2.1, (0, 0), (makeX a o.n o.heap).2.2)
  else if o.kind = 5 then (a, 0, (loadX a o.v o.n).1, (loadX a o.v o.n).2)
  else if o.kind = 6 then ((storeX a o.v o.n o.w).1, 0, (0, 0), (storeX a o.v o.n o.w).2)
  else if o.kind = 7 then (a, 0, (globalX a o.n).1, (globalX a o.n).2)
  else if o.kind = 8 then ((setGlobalX a o.n o.v).1, 0, (0, 0), (setGlobalX a o.n o.v).2)
  else (a, 0, (0, 0), 0)

def OneEnds (b : Nat) (g : Gh) (r : Abs × Int × Val × Int) (w : World) (e : Ending) (w' : World) : Prop :=
  ∃ g', e = .returned (.tuple #[vI r.2.1, vv r.2.2.1, .slice none 0 0, vI r.2.2.2]) ∧ Mem w' b g' r.1 ∧ Fr (fun j => g.own j ≠ 0) w w' ∧ Ext w.heap.size g g'

/-- The result's two cells are written: the memory stays. -/
theorem Mem.result {w : World} {b : Nat} {g : Gh} {a : Abs} (h : Mem w b g a) {rb : Nat} (h0 : g.own rb = 0) (y : Val) : Mem (set2 w rb 0 y) b g a ∧ Fr (fun j => j = rb) w (set2 w rb 0 y) :=
  ⟨h.fr (set2_fr w rb 0 y) (fun k hk e => hk (by rw [e]; exact h0)), set2_fr w rb 0 y⟩

end Go.Proofs.Ytmdlebolmhnhaab
