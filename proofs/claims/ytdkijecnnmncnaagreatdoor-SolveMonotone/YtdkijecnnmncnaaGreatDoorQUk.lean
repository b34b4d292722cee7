import Derived.Test.YtdkijecnnmncnaaGreatDoorQUj
namespace Go.Proofs.YtdkijecnnmncnaaGreatDoor
open Go.RowKit (wrap32 wrap64)
set_option linter.unusedVariables false
set_option linter.unusedSimpArgs false
def mtS (a b : List PS) (k : Nat) : List PS := (List.range k).map fun i => meetS (a.getD i ⟨[], []⟩) (b.getD i ⟨[], []⟩)
theorem mtS_len (a b : List PS) (k : Nat) : (mtS a b k).length = k := by simp [mtS]
theorem mtS_succ (a b : List PS) (k : Nat) : mtS a b (k + 1) = mtS a b k ++ [meetS (a.getD k ⟨[], []⟩) (b.getD k ⟨[], []⟩)] := by simp [mtS, List.range_succ]
theorem mtS_get {a b : List PS} {n i : Nat} (hi : i < (mtS a b n).length) : (mtS a b n)[i] = meetS (a.getD i ⟨[], []⟩) (b.getD i ⟨[], []⟩) := by simp [mtS]
theorem mtS_right {fs : List PF} {a b : List PS} (ha : RgtP fs a) (hb : RgtP fs b) : RgtP fs (mtS a b a.length) := by
 refine ⟨by rw [mtS_len]; exact ha.len, fun i hi hi' => ?_⟩
 have h1 : i < a.length := by rw [mtS_len] at hi; exact hi
 have h2 : i < b.length := by have := ha.len; have := hb.len; omega
 rw [mtS_get]
 have e1 : a.getD i ⟨[], []⟩ = a[i] := by simp [h1]
 have e2 : b.getD i ⟨[], []⟩ = b[i] := by simp [h2]
 rw [e1, e2]
 exact meetS_fits (ha.fit i h1 hi') (hb.fit i h2 hi')
theorem mtS_lwr {fs : List PF} {a b : List PS} (ha : RgtP fs a) (hb : RgtP fs b) : ∀ q (h : q < a.length) (h' : q < (mtS a b a.length).length), Lwr (mtS a b a.length)[q] a[q] := fun q h h' => by
 have h2 : q < b.length := by have := ha.len; have := hb.len; omega
 have h3 : q < fs.length := by have := ha.len; omega
 rw [mtS_get]
 have e1 : a.getD q ⟨[], []⟩ = a[q] := by simp [h]
 have e2 : b.getD q ⟨[], []⟩ = b[q] := by simp [h2]
 rw [e1, e2]
 exact meetS_lwr (ha.fit q h h3) (hb.fit q h2 h3)
theorem mtS_fine {fs : List PF} {a b : List PS} (hc : ∀ f ∈ fs, f.P ≤ 8 ∧ f.R ≤ 4) (ha : RgtP fs a) (hb : RgtP fs b) (hn : a.length ≤ 65535) : FineS (mtS a b a.length) := by
 refine ⟨by rw [mtS_len]; omega, fun s hs => ?_⟩
 obtain ⟨i, hi, rfl⟩ := List.getElem_of_mem hs
 have hr := mtS_right ha hb
 have hi' : i < fs.length := by have := hr.len; omega
 obtain ⟨l1, l2, l3, -, -⟩ := fits_len (hr.fit i hi hi')
 have := hc _ (List.getElem_mem hi')
 refine ⟨by omega, by omega, fun l hl => ?_⟩
 have := l3 l hl
 omega
def MtC (B : Nat) (m : PS) (wr wx : World) (x : Value) : Prop :=
 ∃ (M : Nat) (ha : Option Addr) (hc : Nat) (ra : Option Addr) (rc : Nat) (us : List Value), x = .pointer (some ⟨M, 0, none⟩) ∧ wx.heap[M]? = some (.cells #[.slice ha m.H.length hc, .slice ra us.length rc] 33) ∧ SO wx B (.slice ha m.H.length hc) (.slice ra us.length rc) us m ∧ Fr (fun _ => False) wr wx
theorem MtC.new {B : Nat} {m : PS} {wr w2 : World} {ha ra : Option Addr} {hc rc : Nat} {us : List Value} (h : SO w2 B (.slice ha m.H.length hc) (.slice ra us.length rc) us m) (f : Fr (fun _ => False) wr w2) : MtC B m wr (w2.alloc (.cells #[.slice ha m.H.length hc, .slice ra us.length rc] 33)) (.pointer (some ⟨w2.heap.size, 0, none⟩)) :=
 ⟨_, _, _, _, _, _, rfl, heap_new0 w2 _, h.keep (Fr.alloc (Fr.refl _ w2) _), f.alloc _⟩
theorem MtC.set {B B' M : Nat} {m : PS} {wr w2 : World} {ha ra : Option Addr} {hc rc : Nat} {us : List Value} (h : SO w2 B' (.slice ha m.H.length hc) (.slice ra us.length rc) us m) (hB : B ≤ B') (hM : M < B') (hw : wr.heap.size ≤ M) (hn : w2.heap[M]? = some nil2) (f : Fr (fun _ => False) wr w2) : MtC B m wr ((w2.setCell ⟨M, 0, none⟩ (.slice ha m.H.length hc)).setCell ⟨M, 1, none⟩ (.slice ra us.length rc)) (.pointer (some ⟨M, 0, none⟩)) := by
 have ff : Fr (fun j => j = M) w2 ((w2.setCell ⟨M, 0, none⟩ (.slice ha m.H.length hc)).setCell ⟨M, 1, none⟩ (.slice ra us.length rc)) := (setCell_fr w2 M 0 _).trans (setCell_fr _ M 1 _)
 refine ⟨_, _, _, _, _, _, rfl, set_of (set_of hn 0 _) 1 _, (h.other ff (fun k e e2 => ?_) (fun k e e2 => ?_) (fun i hi k e e2 => ?_)).mono hB, f.then ff (fun j hj e => by omega)⟩
 ·have := (h.oh.ge k e).1; omega
 ·have := (World.ownsRow.lt h.lo.row k e).1; omega
 ·have := ((h.lo.each i hi (by rw [← h.lo.ul]; exact hi)).ge k e).1; omega
theorem SsO.app {W w6 : World} {B g6 cap6 : Nat} {v hv rv : Value} {us : List Value} {m : PS} {L : List SI} (h : SsO W B v L) (hx : SO W B hv rv us m) (hg : W.grownBy w6 v.ownBlock) (ho : w6.ownsRow B 33 2 (.slice (some ⟨g6, 0, none⟩) (L.length + 1) cap6) (L.length + 1) (L.flatMap rowS ++ [hv, rv])) : SsO w6 B (.slice (some ⟨g6, 0, none⟩) (L.length + 1) cap6) (L ++ [(m, hv, rv, us)]) := by
 have hF6 := grown_frL hg
 have keep : ∀ (hv rv : Value) (us' : List Value) (s : PS), SO W B hv rv us' s → SO w6 B hv rv us' s := fun hv rv us' s hM =>
  hM.other hF6 (fun j e e2 => own_apart h.row hM.oh (by decide) j e e2) (fun j e e2 => own_apart h.row hM.lo.row (by decide) j e e2) (fun i hi j e e2 => own_apart h.row (hM.lo.each i hi (by have := hM.lo.ul; omega)) (by decide) j e e2)
 refine ⟨?_, fun x hx' => ?_⟩
 ·rw [List.length_append, List.flatMap_append]
  simpa using ho
 ·rcases List.mem_append.1 hx' with hx' | hx'
  ·exact keep _ _ _ _ (h.each x hx')
  ·simp at hx'
   subst hx'
   exact keep _ _ _ _ hx
end Go.Proofs.YtdkijecnnmncnaaGreatDoor
