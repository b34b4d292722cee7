import Derived.Test.YtmdlebolmhnhaabA7J
import Derived.Deep.RegionLaw
import Derived.Deep.AppendLies
namespace Go.Proofs.Ytmdlebolmhnhaab
open Go.RowKit (wrap32 wrap64)
open Go.Maps (Keyed)
set_option linter.unusedVariables false
set_option linter.unusedSimpArgs false

theorem under39 : Try.prog.underlying 29 = some (.slice 3) := by kernel_rfl

def pushX (a : Abs) : Abs := { a with frs := a.frs ++ [a.made] }

/-- Nothing of what was there is owned anew. -/
def Ext (s : Nat) (g g' : Gh) : Prop := ∀ k, k < s → g'.own k = g.own k

/-- A row of its own has grown, and stands in the memory's field now. -/
theorem Mem.grow_fr {w w6 : World} {b : Nat} {g : Gh} {a : Abs} (h : Mem w b g a) (x : Nat) {g6 cap : Nat} (hown : w6.ownsRow 0 3 1 (.slice (some ⟨g6, 0, none⟩) (a.frs.length + 1) cap) (a.frs.length + 1) ((a.frs.map fun n : Nat => vI n) ++ [vI x]))
    (hgrow : w.grownBy w6 g.fr.ownBlock) (hat : g.fr.ownBlock = some g6 ∨ g6 = w.heap.size) :
    ∃ g', Mem (w6.setCell ⟨b, 3, none⟩ (.slice (some ⟨g6, 0, none⟩) (a.frs.length + 1) cap)) b g' { a with frs := a.frs ++ [x] } ∧ Fr (fun j => g.own j ≠ 0) w (w6.setCell ⟨b, 3, none⟩ (.slice (some ⟨g6, 0, none⟩) (a.frs.length + 1) cap)) ∧ Ext w.heap.size g g' := by
  have hown' : ∀ k, k < w.heap.size → (if k = g6 then 4 else g.own k) = g.own k := by
    intro k hk
    split
    · rename_i e
      subst e
      rcases hat with e | e
      · exact (h.ofr _ e).symm
      · omega
    · rfl
  have hlt6 : g6 < w6.heap.size := by
    rcases hown.2 with ⟨e, -⟩ | ⟨g7, cap', cur, e, -, k, -⟩
    · cases e
    · cases e; exact heap_lt k
  have f1 : Fr (fun k => g.fr.ownBlock = some k) w w6 := grown_fr hgrow
  have hnb : ∀ k, g.fr.ownBlock = some k → g.own k = 4 := fun k e => h.ofr k e
  have nb : b ≠ g6 := by
    intro e
    rcases hat with e' | e'
    · have := h.ofr _ e'; rw [← e, h.ob] at this; omega
    · have := h.lt; omega
  have f2 : ∀ v, Fr (fun k => k = b) w6 (w6.setCell ⟨b, 3, none⟩ v) := fun v => Fr.setCell (S := fun k => k = b) (Fr.refl _ w6) _ _ (Or.inl rfl)
  have keep : ∀ k p, k < w.heap.size → g.own k = p → p ≠ 1 → p ≠ 4 → ∀ v, (w6.setCell ⟨b, 3, none⟩ v).heap[k]? = w.heap[k]? := by
    intro k p hk hp p1 p4 v
    rw [(f2 v).block k (Nat.lt_of_lt_of_le hk f1.size) (ne_own hp h.ob p1), f1.block k hk (fun e => p4 (by rw [← hp, hnb k e]))]
  have hb6 : w6.heap[b]? = some (.cells (memC g a) 60) := by
    rw [f1.block b h.lt (fun e => by have := hnb b e; rw [h.ob] at this; omega)]; exact h.blk0
  have hsz : ∀ v, w.heap.size ≤ (w6.setCell ⟨b, 3, none⟩ v).heap.size := fun v => by simpa using f1.size
  have HA : (w6.setCell ⟨b, 3, none⟩ (.slice (some ⟨g6, 0, none⟩) (a.frs.length + 1) cap)).ownsRow 0 3 1 (.slice (some ⟨g6, 0, none⟩) (a.frs.length + 1) cap) (a.frs ++ [x]).length ((a.frs ++ [x]).map fun n : Nat => vI n) := by
    have := ownsRow_fr hown (f2 (.slice (some ⟨g6, 0, none⟩) (a.frs.length + 1) cap)) (fun k e => by cases e; exact fun e => nb e.symm)
    simpa using this
  have HB : (w6.setCell ⟨b, 3, none⟩ (.slice (some ⟨g6, 0, none⟩) (a.frs.length + 1) cap)).ownsRow 0 3 1 g.ps a.pss.length (a.pss.map fun n : Nat => vI n) := by
    have hr := h.pss
    refine ⟨hr.1, ?_⟩
    rcases hr.2 with h2 | ⟨k, cap', cur, e, h3, h4, h5⟩
    · exact Or.inl h2
    · exact Or.inr ⟨k, cap', cur, e, h3, (keep k 5 (heap_lt h4) (h.ops k (by rw [e]; rfl)) (by omega) (by omega) _).trans h4, h5⟩
  refine ⟨{ g with fr := .slice (some ⟨g6, 0, none⟩) (a.frs.length + 1) cap, own := fun k => if k = g6 then 4 else g.own k }, ?_, ?_, hown'⟩
  · refine { blk0 := ?_, glob := ?_, map := ?_, has := h.has, atk := h.atk, cell := ?_, frs := HA, pss := HB, ob := ?_, og := ?_, ot := ?_, ofr := (fun j e => by cases e; exact if_pos rfl), ops := (fun j e => (hown' j (h.olt j (by rw [h.ops j e]; omega))).trans (h.ops j e)), olt := ?_, glen := h.glen, pos := h.pos }
    · rw [set_of hb6]; rfl
    · exact (keep g.gb 2 (heap_lt h.glob) h.og (by omega) (by omega) _).trans h.glob
    · obtain ⟨es, clock, hb, F, hs, hD⟩ := h.map
      exact ⟨es, clock, (keep g.tb 3 (heap_lt hb) h.ot (by omega) (by omega) _).trans hb, F, hs, hD⟩
    · intro i l hc
      obtain ⟨d1, d2, d3⟩ := h.cell i l hc
      exact ⟨(keep _ _ (heap_lt d1) d2 (by omega) (by omega) _).trans d1, (hown' _ (heap_lt d1)).trans d2, d3⟩
    · exact (hown' _ h.lt).trans h.ob
    · exact (hown' _ (heap_lt h.glob)).trans h.og
    · exact (hown' _ h.map.lt).trans h.ot
    · intro k hk
      simp only at hk
      split at hk
      · rename_i e; subst e; simpa using hlt6
      · exact Nat.lt_of_lt_of_le (h.olt k hk) (hsz _)
  · exact Fr.setCell (f1.mono (fun k _ e => by rw [hnb k e]; omega)) _ _ (Or.inl (by rw [h.ob]; omega))

/-- A row of its own has grown, and stands in the memory's field now. -/
theorem Mem.grow_ps {w w6 : World} {b : Nat} {g : Gh} {a : Abs} (h : Mem w b g a) (x : Nat) {g6 cap : Nat} (hown : w6.ownsRow 0 3 1 (.slice (some ⟨g6, 0, none⟩) (a.pss.length + 1) cap) (a.pss.length + 1) ((a.pss.map fun n : Nat => vI n) ++ [vI x]))
    (hgrow : w.grownBy w6 g.ps.ownBlock) (hat : g.ps.ownBlock = some g6 ∨ g6 = w.heap.size) :
    ∃ g', Mem (w6.setCell ⟨b, 4, none⟩ (.slice (some ⟨g6, 0, none⟩) (a.pss.length + 1) cap)) b g' { a with pss := a.pss ++ [x] } ∧ Fr (fun j => g.own j ≠ 0) w (w6.setCell ⟨b, 4, none⟩ (.slice (some ⟨g6, 0, none⟩) (a.pss.length + 1) cap)) ∧ Ext w.heap.size g g' := by
  have hown' : ∀ k, k < w.heap.size → (if k = g6 then 5 else g.own k) = g.own k := by
    intro k hk
    split
    · rename_i e
      subst e
      rcases hat with e | e
      · exact (h.ops _ e).symm
      · omega
    · rfl
  have hlt6 : g6 < w6.heap.size := by
    rcases hown.2 with ⟨e, -⟩ | ⟨g7, cap', cur, e, -, k, -⟩
    · cases e
    · cases e; exact heap_lt k
  have f1 : Fr (fun k => g.ps.ownBlock = some k) w w6 := grown_fr hgrow
  have hnb : ∀ k, g.ps.ownBlock = some k → g.own k = 5 := fun k e => h.ops k e
  have nb : b ≠ g6 := by
    intro e
    rcases hat with e' | e'
    · have := h.ops _ e'; rw [← e, h.ob] at this; omega
    · have := h.lt; omega
  have f2 : ∀ v, Fr (fun k => k = b) w6 (w6.setCell ⟨b, 4, none⟩ v) := fun v => Fr.setCell (S := fun k => k = b) (Fr.refl _ w6) _ _ (Or.inl rfl)
  have keep : ∀ k p, k < w.heap.size → g.own k = p → p ≠ 1 → p ≠ 5 → ∀ v, (w6.setCell ⟨b, 4, none⟩ v).heap[k]? = w.heap[k]? := by
    intro k p hk hp p1 p4 v
    rw [(f2 v).block k (Nat.lt_of_lt_of_le hk f1.size) (ne_own hp h.ob p1), f1.block k hk (fun e => p4 (by rw [← hp, hnb k e]))]
  have hb6 : w6.heap[b]? = some (.cells (memC g a) 60) := by
    rw [f1.block b h.lt (fun e => by have := hnb b e; rw [h.ob] at this; omega)]; exact h.blk0
  have hsz : ∀ v, w.heap.size ≤ (w6.setCell ⟨b, 4, none⟩ v).heap.size := fun v => by simpa using f1.size
  have HA : (w6.setCell ⟨b, 4, none⟩ (.slice (some ⟨g6, 0, none⟩) (a.pss.length + 1) cap)).ownsRow 0 3 1 (.slice (some ⟨g6, 0, none⟩) (a.pss.length + 1) cap) (a.pss ++ [x]).length ((a.pss ++ [x]).map fun n : Nat => vI n) := by
    have := ownsRow_fr hown (f2 (.slice (some ⟨g6, 0, none⟩) (a.pss.length + 1) cap)) (fun k e => by cases e; exact fun e => nb e.symm)
    simpa using this
  have HB : (w6.setCell ⟨b, 4, none⟩ (.slice (some ⟨g6, 0, none⟩) (a.pss.length + 1) cap)).ownsRow 0 3 1 g.fr a.frs.length (a.frs.map fun n : Nat => vI n) := by
    have hr := h.frs
    refine ⟨hr.1, ?_⟩
    rcases hr.2 with h2 | ⟨k, cap', cur, e, h3, h4, h5⟩
    · exact Or.inl h2
    · exact Or.inr ⟨k, cap', cur, e, h3, (keep k 4 (heap_lt h4) (h.ofr k (by rw [e]; rfl)) (by omega) (by omega) _).trans h4, h5⟩
  refine ⟨{ g with ps := .slice (some ⟨g6, 0, none⟩) (a.pss.length + 1) cap, own := fun k => if k = g6 then 5 else g.own k }, ?_, ?_, hown'⟩
  · refine { blk0 := ?_, glob := ?_, map := ?_, has := h.has, atk := h.atk, cell := ?_, pss := HA, frs := HB, ob := ?_, og := ?_, ot := ?_, ops := (fun j e => by cases e; exact if_pos rfl), ofr := (fun j e => (hown' j (h.olt j (by rw [h.ofr j e]; omega))).trans (h.ofr j e)), olt := ?_, glen := h.glen, pos := h.pos }
    · rw [set_of hb6]; rfl
    · exact (keep g.gb 2 (heap_lt h.glob) h.og (by omega) (by omega) _).trans h.glob
    · obtain ⟨es, clock, hb, F, hs, hD⟩ := h.map
      exact ⟨es, clock, (keep g.tb 3 (heap_lt hb) h.ot (by omega) (by omega) _).trans hb, F, hs, hD⟩
    · intro i l hc
      obtain ⟨d1, d2, d3⟩ := h.cell i l hc
      exact ⟨(keep _ _ (heap_lt d1) d2 (by omega) (by omega) _).trans d1, (hown' _ (heap_lt d1)).trans d2, d3⟩
    · exact (hown' _ h.lt).trans h.ob
    · exact (hown' _ (heap_lt h.glob)).trans h.og
    · exact (hown' _ h.map.lt).trans h.ot
    · intro k hk
      simp only at hk
      split at hk
      · rename_i e; subst e; simpa using hlt6
      · exact Nat.lt_of_lt_of_le (h.olt k hk) (hsz _)
  · exact Fr.setCell (f1.mono (fun k _ e => by rw [hnb k e]; omega)) _ _ (Or.inl (by rw [h.ob]; omega))

set_option maxRecDepth 100000 in
set_option maxHeartbeats 1000000 in
theorem push_any (b : Nat) (g : Gh) (a : Abs) (w : World) (h : Mem w b g a) (hl : a.frs.length ≤ 10000000000000) :
    Calls Try.prog 9 #[.pointer (some ⟨b, 0, none⟩)] w fun e w' => ∃ g', e = .returned (vI 0) ∧ Mem w' b g' (pushX a) ∧ Fr (fun j => g.own j ≠ 0) w w' ∧ Ext w.heap.size g g' := by
  obtain ⟨i3, hi, hz, hs, hb⟩ := info_parts (P := Try.prog) (e := 3) (z := .int .i64 0) (size := 1) (bytes := 8) (by kernel_rfl)
  obtain ⟨f0, f1, f2, f3, f4⟩ := h.facts
  have hlt := h.lt
  have z3 : w.frozen? ⟨b, 3, none⟩ = false := frozen_of h.blk0 3
  have hM1 := (h.drew).alloc (.cells #[vI a.made] 3)
  have hw1 : (w.drew.alloc (.cells #[vI a.made] 3)).heap.size = w.heap.size + 1 := by simp
  have hnews : ∀ j u, [vI a.made][j]? = some u → (w.drew.alloc (.cells #[vI a.made] 3)).cell? ((⟨w.heap.size, 0, none⟩ : Addr).add j) = some u :=
    World.news_of_block (cs := #[vI a.made]) (heap_alloc_last w.drew (.cells #[vI a.made] 3))
  have HM1 : Hd _ := hM1
  have H : Hd (Mem w b g a) := h
  clear h hM1
  go_enter Try.func9, Try.ntmps9
  go_wp2
  go_region_law (
    refine step_append_lies _ rfl (.tmp 9) (.tmp 14) 29 rfl 0 3 i3 (.int .i64 0) 1 8 under39 hi hz hs hb rfl (by omega) g.fr a.frs.length _ (by simp [Act.eval, Act.put]) HM1.out.frs ⟨w.heap.size, 0, none⟩ 1 1 [vI a.made] (by simp [Act.eval, Act.put]) rfl hnews (by intro u hu; simp at hu; subst hu; rfl) (by omega) (by unfold maxLen; omega) (by omega) (Nat.zero_le _) (w.heap.size + 1) hw1 ?_
    intro g6 cap w6 hown6 hgrow6 hat6 hlt6
    have hb6 : w6.heap[b]? = some (.cells (memC g a) 60) := by
      rw [hgrow6.block b HM1.out.lt (fun e => by have := H.out.ofr b e.symm; rw [H.out.ob] at this; omega)]; exact HM1.out.blk0
    have e3 : w6.cell? ⟨b, 3, none⟩ = some g.fr := by rw [cell_of hb6]; rfl
    have y3 : w6.frozen? ⟨b, 3, none⟩ = false := frozen_of hb6 3)
  all_goals
    go_wp2
    go_ret
    obtain ⟨g', m1, m2, m3⟩ := HM1.out.grow_fr a.made hown6 hgrow6 (by rw [hw1]; exact hat6)
    exact ⟨g', rfl, m1, (Fr.alloc (Fr.drew (Fr.refl _ w)) _).trans m2, fun k hk => m3 k (by rw [hw1]; omega)⟩
end Go.Proofs.Ytmdlebolmhnhaab
