import Derived.Test.YtmdlebolmhnhaabX2
import Derived.Deep.RegionHeld3
namespace Go.Proofs.Ytmdlebolmhnhaab
open Go.RowKit (wrap32 wrap64)
open Go.Maps (Keyed)
set_option linter.unusedVariables false
set_option linter.unusedSimpArgs false

section
variable {w0 w w' : World} {wb : Nat} {pb rb : Nat → Nat} {pg : Nat → Gh} {rg : Nat → RG} {pa : Nat → Abs} {ra : Nat → RA} {lv mv : Value} {us us' : List (Value × List Int)}

/-- A new memory of the program's in the place of memory i. -/
theorem Wd.pnew (h : Wd w0 w wb pb rb pg rg pa ra lv mv us us') {i : Nat} (hi : i < 2) {b : Nat} {g2 : Gh} {a2 : Abs} (hM : Mem w' b g2 a2) (f : Fr (fun _ => False) w w') (x : ∀ k, g2.own k ≠ 0 → w.heap.size ≤ k) :
    Wd w0 (w'.setCell ⟨wb, i, none⟩ (ptr b)) wb (at1 pb i b) rb (at1 pg i g2) rg (at1 pa i a2) ra lv mv us us' := by
  have h' := h.keep f
  have z := h.zero
  have fS : Fr (fun j => j = wb) w' (w'.setCell ⟨wb, i, none⟩ (ptr b)) := Fr.setCell (Fr.refl _ w') _ _ (Or.inl rfl)
  have hwb := heap_lt h.blk
  have lo : ∀ k, k < w.heap.size → g2.own k = 0 := fun k hk => by
    by_cases e : g2.own k = 0
    · exact e
    · have := x k e; omega
  have hb0 := set_of h'.blk (i) (ptr b)
  refine ⟨?_, h.base, fun j hj => ?_, fun j hj => (h'.rm j hj).fr' fS (fun k hk e => hk (e ▸ h.freeR j hj wb (Or.inl rfl))), fun j hj => ?_, h.rn, fun j l hj hl hne k hk => ?_, h.rr, fun j l hj hl k hk => ?_, fun j hj k hk => ?_, h.freeR, h'.ll.fr fS (fun k hk => h.wl k (Or.inl hk)), h'.lm.fr fS (fun k hk => h.wl k (Or.inr hk)), h.same, h.part, h.wl, h'.fr.then fS (fun j hj e => by have := h.base; omega)⟩
  · rcases (show i = 0 ∨ i = 1 by omega) with rfl | rfl
    · exact hb0
    · exact hb0
  · by_cases e : j = i
    · subst e; rw [at1_self, at1_self, at1_self]; exact hM.fr fS (fun k hk e => hk (e ▸ lo wb hwb))
    · rw [at1_ne _ _ e, at1_ne _ _ e, at1_ne _ _ e]
      exact (h'.pm j hj).fr fS (fun k hk e => hk (e ▸ h.freeP j hj wb (Or.inl rfl)))
  · by_cases e : j = i
    · subst e; rw [at1_self]; exact fun k hk => by have := x k hk; have := h.fr.size; omega
    · rw [at1_ne _ _ e]; exact h.pn j hj
  · by_cases e : j = i
    · subst e
      rw [at1_self] at hk
      rw [at1_ne _ _ (Ne.symm hne)]
      exact z.1 l hl k (x k hk)
    · rw [at1_ne _ _ e] at hk
      by_cases e2 : l = i
      · subst e2
        rw [at1_self]
        exact lo k ((h.pm j hj).olt k hk)
      · rw [at1_ne _ _ e2]; exact h.pp j l hj hl hne k hk
  · by_cases e : j = i
    · subst e
      rw [at1_self] at hk
      exact z.2 l hl k (x k hk)
    · rw [at1_ne _ _ e] at hk; exact h.pr j l hj hl k hk
  · by_cases e : j = i
    · subst e
      rw [at1_self]
      exact lo k (h.ltW hk)
    · rw [at1_ne _ _ e]; exact h.freeP j hj k hk

/-- A new memory of the document's in the place of memory i. -/
theorem Wd.rnew (h : Wd w0 w wb pb rb pg rg pa ra lv mv us us') {i : Nat} (hi : i < 2) {b : Nat} {g2 : RG} {a2 : RA} (hM : RMem w' b g2 a2) (f : Fr (fun _ => False) w w') (x : ∀ k, g2.own k ≠ 0 → w.heap.size ≤ k) :
    Wd w0 (w'.setCell ⟨wb, 2 + i, none⟩ (rptr b)) wb pb (at1 rb i b) pg (at1 rg i g2) pa (at1 ra i a2) lv mv us us' := by
  have h' := h.keep f
  have z := h.zero
  have fS : Fr (fun j => j = wb) w' (w'.setCell ⟨wb, 2 + i, none⟩ (rptr b)) := Fr.setCell (Fr.refl _ w') _ _ (Or.inl rfl)
  have hwb := heap_lt h.blk
  have lo : ∀ k, k < w.heap.size → g2.own k = 0 := fun k hk => by
    by_cases e : g2.own k = 0
    · exact e
    · have := x k e; omega
  have hb0 := set_of h'.blk (2 + i) (rptr b)
  refine ⟨?_, h.base, fun j hj => (h'.pm j hj).fr fS (fun k hk e => hk (e ▸ h.freeP j hj wb (Or.inl rfl))), fun j hj => ?_, h.pn, fun j hj k hk => ?_, h.pp, fun j l hj hl hne k hk => ?_, fun j l hj hl k hk => ?_, h.freeP, fun j hj k hk => ?_, h'.ll.fr fS (fun k hk => h.wl k (Or.inl hk)), h'.lm.fr fS (fun k hk => h.wl k (Or.inr hk)), h.same, h.part, h.wl, h'.fr.then fS (fun j hj e => by have := h.base; omega)⟩
  · rcases (show i = 0 ∨ i = 1 by omega) with rfl | rfl
    · exact hb0
    · exact hb0
  · by_cases e : j = i
    · subst e; rw [at1_self, at1_self, at1_self]; exact hM.fr' fS (fun k hk e => hk (e ▸ lo wb hwb))
    · rw [at1_ne _ _ e, at1_ne _ _ e, at1_ne _ _ e]
      exact (h'.rm j hj).fr' fS (fun k hk e => hk (e ▸ h.freeR j hj wb (Or.inl rfl)))
  · by_cases e : j = i
    · subst e; rw [at1_self] at hk; have := x k hk; have := h.fr.size; omega
    · rw [at1_ne _ _ e] at hk; exact h.rn j hj k hk
  · by_cases e : j = i
    · subst e
      rw [at1_self] at hk
      rw [at1_ne _ _ (Ne.symm hne)]
      exact z.2 l hl k (x k hk)
    · rw [at1_ne _ _ e] at hk
      by_cases e2 : l = i
      · subst e2
        rw [at1_self]
        exact lo k ((h.rm j hj).olt k hk)
      · rw [at1_ne _ _ e2]; exact h.rr j l hj hl hne k hk
  · by_cases e : l = i
    · subst e
      rw [at1_self]
      exact lo k ((h.pm j hj).olt k hk)
    · rw [at1_ne _ _ e]; exact h.pr j l hj hl k hk
  · by_cases e : j = i
    · subst e
      rw [at1_self]
      exact lo k (h.ltW hk)
    · rw [at1_ne _ _ e]; exact h.freeR j hj k hk
end

end Go.Proofs.Ytmdlebolmhnhaab

namespace Go.Proofs.Ytmdlebolmhnhaab
open Go.RowKit (wrap32 wrap64)
open Go.Maps (Keyed)
set_option linter.unusedVariables false
set_option linter.unusedSimpArgs false

set_option maxRecDepth 100000 in
set_option maxHeartbeats 1000000 in
theorem values_new0 (w0 w : World) (wb : Nat) (pb rb : Nat → Nat) (pg : Nat → Gh) (rg : Nat → RG) (pa : Nat → Abs) (ra : Nat → RA) (lv mv : Value) (us us' : List (Value × List Int)) (h : Wd w0 w wb pb rb pg rg pa ra lv mv us us') (o : OpR) (hk : o.kind = 1) :
    Calls Try.prog 17 #[ptr wb, opV o, vI 0] w fun e w' => e = .returned (.bool true) ∧ (∃ pb' rb' pg' rg', Wd w0 w' wb pb' rb' pg' rg' (at1 pa 0 (newX (min o.n.toNat 16))) (at1 ra 0 (rnewX (min o.n.toNat 16))) lv mv us us') := by
  have hF : Fr (fun _ => False) w (w.alloc (.cells (opC o) 31)) := Fr.alloc (Fr.refl _ w) _
  have HW : Hd _ := h.keep hF
  have HB : Hd _ := heap_alloc_last w (.cells (opC o) 31)
  have hlt := heap_lt h.blk
  clear h hF
  obtain ⟨c0, c1, c2, c3, -, -⟩ := HW.out.heads
  obtain ⟨p0, -, p2, p3, p4, p5, p6, p7, p8⟩ := op_cells HB.out
  rw [hk] at p0
  go_enter Try.func17, Try.ntmps17
  go_wp2_with fail
  clear p0 p3 p4 p5 p6 p7 p8 c0 c1 c2 c3
  obtain ⟨ob, hoe⟩ : ∃ ob, ob = w.heap.size := ⟨_, rfl⟩
  have hne : ob ≠ wb := by omega
  rw [← hoe] at HB p2 ⊢
  generalize w.alloc (.cells (opC o) 31) = w1 at *
  have hobl : ob < w1.heap.size := heap_lt HB.out
  have HWd : Hd _ := HW.out.keep (Fr.drew (Fr.refl _ w1))
  clear hoe HW hlt
  go_region_held3 (fun w' => w'.cell? ⟨ob, 2, none⟩ = some (vI o.n)) (go_keep) ((
    first
      | (go_at_call 8
         refine (show Calls Try.prog 8 #[vI o.n] w1.drew _ from new_int o.n w1.drew).mono ?_
         rintro e w2 ⟨b, g, rfl, hM2, hF2, hN2⟩
         have HW2 : Hd _ := HWd.out.pnew (i := 0) (by omega) hM2 hF2 hN2
         have hW2 := HWd.out.keep hF2
         obtain ⟨d0, d1, -, -, -, -⟩ := hW2.heads
         have f0 := frozen_of hW2.blk 0
         have s2 := (hF2.cell hobl (fun h => h)).trans p2
         have HB2 : Hd _ := (hF2.block _ hobl (fun h => h)).trans HB.out
         have fS : Fr (fun j => j = wb) w2 (w2.setCell ⟨wb, 0, none⟩ (.pointer (some ⟨b, 0, none⟩))) := Fr.setCell (Fr.refl _ w2) _ _ (Or.inl rfl)
         have s3 := (fS.cell (heap_lt HB2.out) (fun h => hne h)).trans s2
         have HB3 : Hd _ := (fS.block _ (heap_lt HB2.out) (fun h => hne h)).trans HB2.out
         clear hM2 hF2 hN2 hW2 fS)))
  clear hobl HWd p2 HB d0 d1 f0 s2 HB2
  have p2 := s3
  have HB : Hd _ := HB3.out
  have HW : Hd _ := HW2.out
  clear s3 HB3 HW2
  change Hd (Wd _ (w2.setCell ⟨wb, 0, none⟩ (.pointer (some ⟨b, 0, none⟩))) _ _ _ _ _ _ _ _ _ _ _) at HW
  generalize w2.setCell ⟨wb, 0, none⟩ (.pointer (some ⟨b, 0, none⟩)) = w3 at *
  have hobl : ob < w3.heap.size := heap_lt HB.out
  have HWd : Hd _ := HW.out.keep (Fr.drew (Fr.refl _ w3))
  clear HW
  go_wp2_with fail
  go_region_held3 (fun w' => w'.cell? ⟨ob, 2, none⟩ = some (vI o.n)) (go_keep) ((
    first
      | (go_at_call 14
         refine (show Calls Try.prog 14 #[vI o.n] w3.drew _ from rnew_any o.n w3.drew).mono ?_
         rintro e w4 ⟨rb1, rg1, rfl, hM4, hF4, hN4⟩
         have HW4 : Hd _ := HWd.out.rnew (i := 0) (by omega) hM4 hF4 hN4
         have hW4 := HWd.out.keep hF4
         obtain ⟨-, -, d2, d3, -, -⟩ := hW4.heads
         have f2 := frozen_of hW4.blk 2
         have s2 := (hF4.cell hobl (fun h => h)).trans p2
         have fS : Fr (fun j => j = wb) w4 (w4.setCell ⟨wb, 2, none⟩ (.pointer (some ⟨rb1, 0, none⟩))) := Fr.setCell (Fr.refl _ w4) _ _ (Or.inl rfl)
         have s3 := (fS.cell (Nat.lt_of_lt_of_le hobl hF4.size) (fun h => hne h)).trans s2
         clear hM4 hF4 hN4 hW4 fS)))
  have HW : Hd _ := HW4.out
  clear HW4 HWd p2 d2 d3 f2 s2 s3 HB hobl
  change Hd (Wd _ (w4.setCell ⟨wb, 2, none⟩ (.pointer (some ⟨rb1, 0, none⟩))) _ _ _ _ _ _ _ _ _ _ _) at HW
  generalize w4.setCell ⟨wb, 2, none⟩ (.pointer (some ⟨rb1, 0, none⟩)) = w5 at *
  obtain ⟨c0, c1, -, -, -, -⟩ := HW.out.heads
  change _ = some (Value.pointer (some ⟨at1 pb 0 b 0, 0, none⟩)) at c0
  change _ = some (Value.pointer (some ⟨at1 pb 0 b 1, 0, none⟩)) at c1
  go_wp2_with fail
  go_ret
  exact ⟨by simp, _, _, _, _, HW.out⟩

set_option maxRecDepth 100000 in
set_option maxHeartbeats 1000000 in
theorem values_new1 (w0 w : World) (wb : Nat) (pb rb : Nat → Nat) (pg : Nat → Gh) (rg : Nat → RG) (pa : Nat → Abs) (ra : Nat → RA) (lv mv : Value) (us us' : List (Value × List Int)) (h : Wd w0 w wb pb rb pg rg pa ra lv mv us us') (o : OpR) (hk : o.kind = 1) :
    Calls Try.prog 17 #[ptr wb, opV o, vI 1] w fun e w' => e = .returned (.bool true) ∧ (∃ pb' rb' pg' rg', Wd w0 w' wb pb' rb' pg' rg' (at1 pa 1 (newX (min o.n.toNat 16))) (at1 ra 1 (rnewX (min o.n.toNat 16))) lv mv us us') := by
  have hF : Fr (fun _ => False) w (w.alloc (.cells (opC o) 31)) := Fr.alloc (Fr.refl _ w) _
  have HW : Hd _ := h.keep hF
  have HB : Hd _ := heap_alloc_last w (.cells (opC o) 31)
  have hlt := heap_lt h.blk
  clear h hF
  obtain ⟨c0, c1, c2, c3, -, -⟩ := HW.out.heads
  obtain ⟨p0, -, p2, p3, p4, p5, p6, p7, p8⟩ := op_cells HB.out
  rw [hk] at p0
  go_enter Try.func17, Try.ntmps17
  go_wp2_with fail
  clear p0 p3 p4 p5 p6 p7 p8 c0 c1 c2 c3
  obtain ⟨ob, hoe⟩ : ∃ ob, ob = w.heap.size := ⟨_, rfl⟩
  have hne : ob ≠ wb := by omega
  rw [← hoe] at HB p2 ⊢
  generalize w.alloc (.cells (opC o) 31) = w1 at *
  have hobl : ob < w1.heap.size := heap_lt HB.out
  have HWd : Hd _ := HW.out.keep (Fr.drew (Fr.refl _ w1))
  clear hoe HW hlt
  go_region_held3 (fun w' => w'.cell? ⟨ob, 2, none⟩ = some (vI o.n)) (go_keep) ((
    first
      | (go_at_call 8
         refine (show Calls Try.prog 8 #[vI o.n] w1.drew _ from new_int o.n w1.drew).mono ?_
         rintro e w2 ⟨b, g, rfl, hM2, hF2, hN2⟩
         have HW2 : Hd _ := HWd.out.pnew (i := 1) (by omega) hM2 hF2 hN2
         have hW2 := HWd.out.keep hF2
         obtain ⟨d0, d1, -, -, -, -⟩ := hW2.heads
         have f0 := frozen_of hW2.blk 1
         have s2 := (hF2.cell hobl (fun h => h)).trans p2
         have HB2 : Hd _ := (hF2.block _ hobl (fun h => h)).trans HB.out
         have fS : Fr (fun j => j = wb) w2 (w2.setCell ⟨wb, 1, none⟩ (.pointer (some ⟨b, 0, none⟩))) := Fr.setCell (Fr.refl _ w2) _ _ (Or.inl rfl)
         have s3 := (fS.cell (heap_lt HB2.out) (fun h => hne h)).trans s2
         have HB3 : Hd _ := (fS.block _ (heap_lt HB2.out) (fun h => hne h)).trans HB2.out
         clear hM2 hF2 hN2 hW2 fS)))
  clear hobl HWd p2 HB d0 d1 f0 s2 HB2
  have p2 := s3
  have HB : Hd _ := HB3.out
  have HW : Hd _ := HW2.out
  clear s3 HB3 HW2
  change Hd (Wd _ (w2.setCell ⟨wb, 1, none⟩ (.pointer (some ⟨b, 0, none⟩))) _ _ _ _ _ _ _ _ _ _ _) at HW
  generalize w2.setCell ⟨wb, 1, none⟩ (.pointer (some ⟨b, 0, none⟩)) = w3 at *
  have hobl : ob < w3.heap.size := heap_lt HB.out
  have HWd : Hd _ := HW.out.keep (Fr.drew (Fr.refl _ w3))
  clear HW
  go_wp2_with fail
  go_region_held3 (fun w' => w'.cell? ⟨ob, 2, none⟩ = some (vI o.n)) (go_keep) ((
    first
      | (go_at_call 14
         refine (show Calls Try.prog 14 #[vI o.n] w3.drew _ from rnew_any o.n w3.drew).mono ?_
         rintro e w4 ⟨rb1, rg1, rfl, hM4, hF4, hN4⟩
         have HW4 : Hd _ := HWd.out.rnew (i := 1) (by omega) hM4 hF4 hN4
         have hW4 := HWd.out.keep hF4
         obtain ⟨-, -, d2, d3, -, -⟩ := hW4.heads
         have f2 := frozen_of hW4.blk 3
         have s2 := (hF4.cell hobl (fun h => h)).trans p2
         have fS : Fr (fun j => j = wb) w4 (w4.setCell ⟨wb, 3, none⟩ (.pointer (some ⟨rb1, 0, none⟩))) := Fr.setCell (Fr.refl _ w4) _ _ (Or.inl rfl)
         have s3 := (fS.cell (Nat.lt_of_lt_of_le hobl hF4.size) (fun h => hne h)).trans s2
         clear hM4 hF4 hN4 hW4 fS)))
  have HW : Hd _ := HW4.out
  clear HW4 HWd p2 d2 d3 f2 s2 s3 HB hobl
  change Hd (Wd _ (w4.setCell ⟨wb, 3, none⟩ (.pointer (some ⟨rb1, 0, none⟩))) _ _ _ _ _ _ _ _ _ _ _) at HW
  generalize w4.setCell ⟨wb, 3, none⟩ (.pointer (some ⟨rb1, 0, none⟩)) = w5 at *
  obtain ⟨c0, c1, -, -, -, -⟩ := HW.out.heads
  change _ = some (Value.pointer (some ⟨at1 pb 1 b 0, 0, none⟩)) at c0
  change _ = some (Value.pointer (some ⟨at1 pb 1 b 1, 0, none⟩)) at c1
  go_wp2_with fail
  go_ret
  exact ⟨by simp, _, _, _, _, HW.out⟩

end Go.Proofs.Ytmdlebolmhnhaab
