import Derived.Test.YtmdlebolmhnhaabP2J
import Derived.BigQuiet
namespace Go.Proofs.Ytmdlebolmhnhaab
open Go.RowKit (wrap32 wrap64)
open Go.Maps (Keyed)
set_option linter.unusedVariables false
set_option linter.unusedSimpArgs false

theorem under45 : Try.prog.underlying 45 = some (.slice 29) := by kernel_rfl
theorem under54 : Try.prog.underlying 54 = some (.slice 77) := by kernel_rfl

theorem Fr.drewN {S : Nat → Prop} {a w : World} (h : Fr S a w) (n : Nat) : Fr S a (w.drewN n) := ⟨h.os, h.tape, h.output, h.size, h.block⟩

abbrev rptr (b : Nat) : Value := .pointer (some ⟨b, 0, none⟩)

set_option maxRecDepth 100000 in
set_option maxHeartbeats 1000000 in
/-- Right of the document's memory. -/
theorem rright_any (b : Nat) (g : RG) (a : RA) (v : Val) (w : World) (h : RMem w b g a) :
    Calls Try.prog 48 #[rptr b, vv v] w fun e w' => e = .returned (.bool (rightB a.cells.length v)) ∧ Fr (fun _ => False) w w' := by
  obtain ⟨k, n⟩ := v
  have hF : Fr (fun _ => False) w (w.alloc (.cells #[vI k, vI n] 28)) := Fr.alloc (Fr.refl _ w) _
  obtain ⟨ad, cap, hcv, -, -⟩ := row_shape h.cls
  have c2 : (w.alloc (.cells #[vI k, vI n] 28)).cell? ⟨b, 2, none⟩ = some (.slice ad a.cells.length cap) := by rw [hF.cell (heap_lt h.blk) (fun h => h), h.heads.2.2, hcv]
  have v0 : (w.alloc (.cells #[vI k, vI n] 28)).cell? ⟨w.heap.size, 0, none⟩ = some (vI k) := by rw [cell_of (heap_alloc_last w _)]; rfl
  have v1 : (w.alloc (.cells #[vI k, vI n] 28)).cell? ⟨w.heap.size, 1, none⟩ = some (vI n) := by rw [cell_of (heap_alloc_last w _)]; rfl
  have HF : Hd _ := hF
  clear hF h hcv
  by_cases h0 : k = 0
  · subst h0
    go_enter Try.func48, Try.ntmps48
    go_wp2_with fail
    go_ret
    exact ⟨by simp only [rightB, if_true]; exact congrArg (fun x => Ending.returned (.bool x)) (Bool.eq_iff_iff.2 (by simp)), HF.out⟩
  by_cases h1 : k = 1
  · subst h1
    go_enter Try.func48, Try.ntmps48
    go_wp2_with fail
    go_ret
    exact ⟨by simp [rightB], HF.out⟩
  by_cases h2 : k = 2
  · subst h2
    by_cases hn : 1 ≤ n
    · have d1 : decide (1 ≤ n) = true := by simpa using hn
      go_enter Try.func48, Try.ntmps48
      go_wp2_with fail
      generalize w.alloc (.cells #[vI 2, vI n] 28) = w1 at *
      refine wp_region_still_tail 13 mixed (by kernel_rfl) ?_
      simp only [List.take_succ_cons, List.take_zero, List.drop_succ_cons, List.drop_zero]
      repeat still_step
      refine wpStill_nil ?_
      go_wp2_with fail
      go_ret
      exact ⟨by simp [rightB, hn], HF.out.drew⟩
    · have d1 : decide (1 ≤ n) = false := by simpa using hn
      go_enter Try.func48, Try.ntmps48
      go_wp2_with fail
      generalize w.alloc (.cells #[vI 2, vI n] 28) = w1 at *
      go_quiet (fail)
      go_wp2_with fail
      go_ret
      exact ⟨by simp [rightB]; omega, HF.out.drewN _⟩
  have e0 := eqb_false h0
  have e1 := eqb_false h1
  have e2 := eqb_false h2
  go_enter Try.func48, Try.ntmps48
  go_wp2_with fail
  go_ret
  exact ⟨by simp [rightB, h0, h1, h2], HF.out⟩

set_option maxRecDepth 100000 in
set_option maxHeartbeats 1000000 in
/-- Push of the document's memory. -/
theorem rpush_any (b : Nat) (g : RG) (a : RA) (w : World) (h : RMem w b g a) (hl : a.frs.length ≤ 100000000) :
    Calls Try.prog 15 #[rptr b] w fun e w' => e = .returned (vI 0) ∧ ∃ g', RMem w' b g' { a with frs := a.frs ++ [[]] } ∧ Fr (fun j => g.own j ≠ 0) w w' ∧ RExt w.heap.size g g' := by
  obtain ⟨i29, hi, hz, hs, hb⟩ := info_parts (P := Try.prog) (e := 29) (z := .slice none 0 0) (size := 1) (bytes := 24) (by kernel_rfl)
  obtain ⟨c0, c1, c2⟩ := h.heads
  have hFa : Fr (fun _ => False) w (w.alloc (.cells #[.slice none 0 0] 29)) := Fr.alloc (Fr.refl _ w) _
  have HM : Hd _ := h.keep hFa
  have hnews : ∀ j u, [Value.slice none 0 0][j]? = some u → (w.alloc (.cells #[.slice none 0 0] 29)).cell? ((⟨w.heap.size, 0, none⟩ : Addr).add j) = some u :=
    World.news_of_block (w := (w.alloc (.cells #[.slice none 0 0] 29))) (cs := #[.slice none 0 0]) (heap_alloc_last w (.cells #[.slice none 0 0] 29))
  have hw1 : (w.alloc (.cells #[.slice none 0 0] 29)).heap.size = w.heap.size + 1 := by simp
  have hmx : a.frs.length + 1 ≤ maxLen := by unfold maxLen; omega
  have t2 : ∀ u ∈ [Value.slice none 0 0], u.oneCell' = true := by intro u hu; simp at hu; subst hu; rfl
  have HAFT : Hd (∀ w6 : World, (w.alloc (.cells #[.slice none 0 0] 29)).grownBy w6 g.fv.ownBlock → w6.cell? ⟨b, 1, none⟩ = some g.fv ∧ w6.frozen? ⟨b, 1, none⟩ = false) := fun w6 hg => by
    have hc6 : w6.heap[b]? = some (.cells #[g.gv, g.fv, g.cv] 56) := by
      rw [hg.block b (heap_lt HM.out.blk) (fun e => rne HM.out.ob (HM.out.of b e.symm) (by omega) rfl)]
      exact HM.out.blk
    exact ⟨by rw [cell_of hc6]; rfl, frozen_of hc6 1⟩
  have HFA : Hd _ := hFa
  clear h hFa
  go_enter Try.func15, Try.ntmps15
  go_wp2_with ((at_builtin; refine wpList_append_lies _ rfl (.tmp 9) (.tmp 10) 45 rfl 0 29 i29 (.slice none 0 0) 1 24 under45 hi hz hs hb rfl (by omega) g.fv a.frs.length _ rfl HM.out.frs ⟨w.heap.size, 0, none⟩ 1 1 [.slice none 0 0] rfl rfl hnews t2 (by omega) hmx (by omega) (Nat.zero_le _) (w.heap.size + 1) hw1 ?_; intro g6 cap6 w6 hown6 hgrow6 hat6 hlt6; obtain ⟨y1, z1⟩ := HAFT.out w6 hgrow6))
  go_ret
  obtain ⟨g', m1, m2, m3⟩ := HM.out.pushed hown6 hgrow6 (by rw [hw1]; exact hat6)
  exact ⟨rfl, g', m1, (HFA.out.mono (fun _ _ h => h.elim)).trans m2, fun k hk => m3 k (by rw [hw1]; omega)⟩

end Go.Proofs.Ytmdlebolmhnhaab

namespace Go.Proofs.Ytmdlebolmhnhaab
open Go.RowKit (wrap32 wrap64)
open Go.Maps (Keyed)
set_option linter.unusedVariables false
set_option linter.unusedSimpArgs false

/-- One of its cells, where it lies. -/
theorem RMem.cellAt {w : World} {b : Nat} {g : RG} {a : RA} (h : RMem w b g a) {i : Nat} {c : CellR} (hc : a.cells[i]? = some c) :
    ∃ cb cap u, g.cv = .slice (some ⟨cb, 0, none⟩) a.cells.length cap ∧ g.fl[i]? = some u ∧ w.cell? ⟨cb, i * 3, none⟩ = some u ∧ w.cell? ⟨cb, i * 3 + 1, none⟩ = some (.bool c.heap) ∧ w.cell? ⟨cb, i * 3 + 2, none⟩ = some (.bool c.there) ∧ w.ownsRow 0 28 2 u c.fields.length (flat c.fields) := by
  have hl := (List.getElem?_eq_some_iff.1 hc).1
  obtain ⟨ad, cap, hcv, -, had⟩ := row_shape h.cls
  obtain ⟨cb, rfl⟩ := had (by omega)
  obtain ⟨u, hu⟩ : ∃ u, g.fl[i]? = some u := ⟨_, List.getElem?_eq_getElem (by rw [h.lfl]; exact hl)⟩
  have hrow := h.cls
  rw [hcv] at hrow
  have key : ∀ j x, j < 3 → (cellC u c)[j]? = some x → w.cell? ⟨cb, i * 3 + j, none⟩ = some x := fun j x hj hx => row_cell hrow ((flatC_get g.fl a.cells i u c j hu hc hj).trans hx)
  exact ⟨cb, cap, u, hcv, hu, key 0 _ (by omega) rfl, key 1 _ (by omega) rfl, key 2 _ (by omega) rfl, h.flo i u c hu hc⟩

def atX (a : RA) (v : Val) (f : Int) : Int :=
  if rightB a.cells.length v = false then 1 else
  if v.1 ≠ 2 then 31 else
  match a.cells[v.2.toNat - 1]? with
  | none => 32
  | some c => if c.there = false then 32 else if 0 ≤ f ∧ f < c.fields.length then 0 else 33

set_option maxRecDepth 100000 in
set_option maxHeartbeats 2000000 in
/-- at: the errors of a value and a field. -/
theorem rat_any (b : Nat) (g : RG) (a : RA) (v : Val) (f : Int) (w : World) (h : RMem w b g a) (hlen : a.cells.length ≤ 100000000) :
    Calls Try.prog 42 #[rptr b, vv v, vI f] w fun e w' => e = .returned (vI (atX a v f)) ∧ Fr (fun _ => False) w w' := by
  obtain ⟨k, n⟩ := v
  have hF : Fr (fun _ => False) w (w.alloc (.cells #[vI k, vI n] 28)) := Fr.alloc (Fr.refl _ w) _
  have HM : Hd _ := h.keep hF
  have B := heap_alloc_last w (.cells #[vI k, vI n] 28)
  have HF : Hd _ := hF
  have HB : Hd _ := B
  clear hF h
  have v0 : (w.alloc (.cells #[vI k, vI n] 28)).cell? ⟨w.heap.size, 0, none⟩ = some (vI k) := by rw [cell_of B]; rfl
  have v1 : (w.alloc (.cells #[vI k, vI n] 28)).cell? ⟨w.heap.size, 1, none⟩ = some (vI n) := by rw [cell_of B]; rfl
  clear B
  go_enter Try.func42, Try.ntmps42
  go_wp2_with fail
  generalize w.alloc (.cells #[vI k, vI n] 28) = w1 at *
  obtain ⟨vb, hvb⟩ : ∃ vb, vb = w.heap.size := ⟨_, rfl⟩
  rw [← hvb] at HB v0 v1 ⊢
  clear hvb
  refine (show Calls Try.prog 48 #[rptr b, vv (k, n)] w1 _ from rright_any b g a (k, n) w1 HM.out).mono ?_
  rintro e w2 ⟨rfl, hF2⟩
  have HM2 : Hd _ := HM.out.keep hF2
  have HF2 : Hd _ := HF.out.trans hF2
  have B2 := (hF2.block vb (heap_lt HB.out) (fun h => h)).trans HB.out
  clear v0 v1 hF2 HM HF HB
  have v0 : w2.cell? ⟨vb, 0, none⟩ = some (vI k) := by rw [cell_of B2]; rfl
  have v1 : w2.cell? ⟨vb, 1, none⟩ = some (vI n) := by rw [cell_of B2]; rfl
  clear B2
  cases hr : rightB a.cells.length (k, n)
  · have HX : Hd (atX a (k, n) f = 1) := by unfold Hd atX; rw [hr]; simp
    clear hr
    go_wp2_with fail
    go_ret
    rw [HX.out]
    exact ⟨rfl, HF2.out⟩
  by_cases h2 : k = 2
  · subst h2
    have hn : 1 ≤ n ∧ n ≤ a.cells.length := by simpa [rightB] using hr
    obtain ⟨i, hi⟩ : ∃ i : Nat, n = (i : Int) + 1 := ⟨(n - 1).toNat, by omega⟩
    subst hi
    have hil : i < a.cells.length := by omega
    obtain ⟨c, hc⟩ : ∃ c, a.cells[i]? = some c := ⟨_, List.getElem?_eq_getElem hil⟩
    obtain ⟨cb, cap, u, hcv, hu, q0, q1, q2, hrow⟩ := HM2.out.cellAt hc
    obtain ⟨fa, fc, rfl, -, -⟩ := row_shape hrow
    obtain ⟨c0, c1, c2⟩ := HM2.out.heads
    rw [hcv] at c2
    have HX : Hd (atX a (2, (i : Int) + 1) f = if c.there = false then 32 else if 0 ≤ f ∧ f < c.fields.length then 0 else 33) := by
      unfold Hd atX
      rw [hr, if_neg (by simp), if_neg (by simp)]
      simp only [show ((i : Int) + 1).toNat - 1 = i by omega, hc]
    have hi0 : (0 : Int) ≤ i := by omega
    have hi1 : (i : Int) < a.cells.length := by omega
    clear hr hrow hu hc hcv hn c0 c1 q1
    cases ht : c.there
    · rw [ht] at q2 HX
      clear ht
      go_wp2_with fail
      go_quiet (fail)
      go_wp2_with fail
      go_ret
      rw [HX.out]
      exact ⟨rfl, HF2.out.drewN _⟩
    · rw [ht] at q2 HX
      clear ht
      by_cases hf0 : f < 0
      · have d0 : decide (f < 0) = true := by simpa using hf0
        go_wp2_with fail
        go_quiet (fail)
        go_wp2_with fail
        go_quiet (fail)
        go_wp2_with fail
        go_ret
        rw [HX.out, if_neg (by simp), if_neg (by omega)]
        exact ⟨rfl, (HF2.out.drewN _).drewN _⟩
      · have d0 : decide (f < 0) = false := by simpa using hf0
        by_cases hf1 : f < c.fields.length
        · have d1 : decide ((c.fields.length : Int) ≤ f) = false := by simpa using hf1
          go_wp2_with fail
          go_quiet (fail)
          go_wp2_with fail
          go_quiet (fail)
          go_wp2_with fail
          go_ret
          rw [HX.out, if_neg (by simp), if_pos (by omega)]
          exact ⟨rfl, (HF2.out.drewN _).drewN _⟩
        · have d1 : decide ((c.fields.length : Int) ≤ f) = true := by simp; omega
          go_wp2_with fail
          go_quiet (fail)
          go_wp2_with fail
          go_quiet (fail)
          go_wp2_with fail
          go_ret
          rw [HX.out, if_neg (by simp), if_neg (by omega)]
          exact ⟨rfl, (HF2.out.drewN _).drewN _⟩
  · have HX : Hd (atX a (k, n) f = 31) := by unfold Hd atX; rw [hr, if_neg (by simp), if_pos h2]
    have b2 := eqb_false h2
    clear hr
    go_wp2_with fail
    go_ret
    rw [HX.out]
    exact ⟨rfl, HF2.out⟩

end Go.Proofs.Ytmdlebolmhnhaab
