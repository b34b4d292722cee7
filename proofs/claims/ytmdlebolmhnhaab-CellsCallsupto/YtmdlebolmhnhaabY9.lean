import Derived.Test.YtmdlebolmhnhaabY8
import Derived.BigQuiet
namespace Go.Proofs.Ytmdlebolmhnhaab
open Go.RowKit (wrap32 wrap64)
open Go.Maps (Keyed)
set_option linter.unusedVariables false
set_option linter.unusedSimpArgs false

theorem and_one (x : Int) : bits .and .i64 x 1 = 0 ∨ bits .and .i64 x 1 = 1 := by
  have h : (BitVec.ofInt 64 x &&& BitVec.ofInt 64 1).toNat = 0 ∨ (BitVec.ofInt 64 x &&& BitVec.ofInt 64 1).toNat = 1 := by
    rw [BitVec.toNat_and]
    have : (BitVec.ofInt 64 1).toNat = 1 := by decide
    rw [this, Nat.and_one_is_mod]
    omega
  have e : bits .and .i64 x 1 = IntKind.i64.wrap ((BitVec.ofInt 64 x &&& BitVec.ofInt 64 1).toNat : Int) := rfl
  rw [e]
  rcases h with h | h
  · rw [h]; exact Or.inl (by decide)
  · rw [h]; exact Or.inr (by decide)

theorem Ls.lists {w : World} {B : Nat} {v : Value} {us : List (Value × List Int)} (h : Ls w B v us) : ListsAt w v (us.map (·.2)) := by
  refine RowsL.lists (B := B) (P := fun _ => True) ⟨us.map (·.1), by rw [List.length_map]; exact h.row, fun _ _ => trivial, fun i u hu => ?_⟩
  rw [List.getElem?_map] at hu
  cases e : us[i]? with
  | none => rw [e] at hu; cases hu
  | some p =>
    rw [e] at hu
    cases hu
    exact ⟨p.2, by rw [List.getElem?_map, e]; rfl, h.inn p (List.mem_of_getElem? e), fun _ _ => trivial⟩

set_option maxRecDepth 100000 in
set_option maxHeartbeats 2000000 in
theorem frames_other0 (w0 w : World) (wb : Nat) (N : Nat) (ob : Nat) (x : Obj) (hst : StP w0 wb N ob x w) (o : OpR) (h2 : o.kind ≠ 2) (h3 : o.kind ≠ 3) (h4 : o.kind ≠ 4) (h9 : o.kind ≠ 9) (h10 : o.kind ≠ 10) :
    Calls Try.prog 16 #[ptr wb, opV o, vI 0] w fun e w' => e = .returned (.bool true) ∧ StP w0 wb (N + 1) ob x w' := by
  have HST : Hd (StP w0 wb N ob x (w.alloc (.cells (opC o) 31))) := hst.keep (Fr.alloc (Fr.refl _ w) _)
  have HB : Hd _ := heap_alloc_last w (.cells (opC o) 31)
  obtain ⟨pb, rb, pg, rg, pa, ra, lv, mv, us, us', h, -⟩ := HST.out
  obtain ⟨c0, c1, c2, c3, -, -⟩ := h.heads
  obtain ⟨p0, -, p2, p3, p4, p5, p6, p7, p8⟩ := op_cells HB.out
  have e2 := eqb_false h2
  have e3 := eqb_false h3
  have e4 := eqb_false h4
  have e9 := eqb_false h9
  have e10 := eqb_false h10
  clear h hst
  go_enter Try.func16, Try.ntmps16
  go_wp2_with fail
  go_ret
  exact ⟨by simp, HST.out.mono (by omega)⟩

theorem frames_any0 (w0 w : World) (wb : Nat) (N : Nat) (hN : N ≤ 2000000) (ob : Nat) (x : Obj) (hst : StP w0 wb N ob x w) (o : OpR) (zs : List Int) (hI : IntsAt w0.heap.size w0 o.cells zs) (hz : zs.length ≤ 2000000) :
    Calls Try.prog 16 #[ptr wb, opV o, vI 0] w fun e w' => e = .returned (.bool true) ∧ StP w0 wb (N + 1) ob x w' := by
  by_cases h2 : o.kind = 2
  · exact frames_push0 w0 w wb N hN ob x hst o h2
  by_cases h3 : o.kind = 3
  · exact frames_pop0 w0 w wb N hN ob x hst o h3
  by_cases h4 : o.kind = 4
  · exact frames_make0 w0 w wb N hN ob x hst o h4
  by_cases h9 : o.kind = 9
  · exact frames_live0 w0 w wb N hN ob x hst o h9
  by_cases h10 : o.kind = 10
  · exact frames_drop0 w0 w wb N hN ob x hst o h10 zs hI hz
  exact frames_other0 w0 w wb N ob x hst o h2 h3 h4 h9 h10

theorem values_any0 (w0 w : World) (wb : Nat) (N : Nat) (hN : N ≤ 2000001) (hst : St w0 wb N w) (o : OpR) :
    Calls Try.prog 17 #[ptr wb, opV o, vI 0] w fun e w' => e = .returned (.bool true) ∧ St w0 wb N w' := by
  have hst0 := hst
  obtain ⟨pb, rb, pg, rg, pa, ra, lv, mv, us, us', h, hR, hU, hP⟩ := hst
  have hrel := (hR 0 (by omega)).1
  have hrb := (hR 0 (by omega)).2
  have hlen : (ra 0).cells.length ≤ 16000000 := by have := hrb.cells; omega
  by_cases h1 : o.kind = 1
  · refine (values_new0 w0 w wb pb rb pg rg pa ra lv mv us us' h o h1).mono ?_
    rintro e w' ⟨rfl, pb', rb', pg', rg', hW⟩
    exact ⟨rfl, St.step0 (by omega) hW hR (rel_new _) (RB.new N _ (by omega)) hU hP⟩
  by_cases h6 : o.kind = 6
  · refine (values_store0 w0 w wb pb rb pg rg pa ra lv mv us us' h hrel hlen hrb.gl o h6).mono ?_
    rintro e w' ⟨rfl, ⟨pg', rg', hW⟩, hr⟩
    exact ⟨rfl, St.step0 (by omega) hW hR hr (hrb.store _ _ _) hU hP⟩
  by_cases h8 : o.kind = 8
  · refine (values_set0 w0 w wb pb rb pg rg pa ra lv mv us us' h hrel hlen hrb.gl o h8).mono ?_
    rintro e w' ⟨rfl, ⟨pg', rg', hW⟩, hr⟩
    exact ⟨rfl, St.step0 (by omega) hW hR hr (hrb.setGlobal _ _) hU hP⟩
  refine (values_read0 w0 w wb pb rb pg rg pa ra lv mv us us' h hrel hlen hrb.gl o h1 h6 h8).mono ?_
  rintro e w' ⟨rfl, hF⟩
  exact ⟨rfl, hst0.keep hF⟩

set_option maxRecDepth 100000 in
set_option maxHeartbeats 2000000 in
theorem does0 (w0 w : World) (wb : Nat) (N : Nat) (hN : N ≤ 2000000) (hst : St w0 wb N w) (o : OpR) (zs : List Int) (hI : IntsAt w0.heap.size w0 o.cells zs) (hz : zs.length ≤ 2000000) (hon : bits .and .i64 o.on 1 = 0) :
    Calls Try.prog 6 #[ptr wb, opV o] w fun e w' => e = .returned (.bool true) ∧ St w0 wb (N + 1) w' := by
  have HST : Hd (StP w0 wb N w.heap.size (.cells (opC o) 31) (w.alloc (.cells (opC o) 31))) := hst.box _
  have HI : Hd _ := hI
  obtain ⟨p0, p1, p2, p3, p4, p5, p6, p7, p8⟩ := op_cells HST.out.blk
  clear hst hI
  go_enter Try.func6, Try.ntmps6
  go_wp2_with fail
  clear p0 p1 p2 p3 p4 p5 p6 p7 p8
  obtain ⟨ob, hoe⟩ : ∃ ob, ob = w.heap.size := ⟨_, rfl⟩
  rw [← hoe] at HST ⊢
  generalize w.alloc (.cells (opC o) 31) = w1 at *
  clear hoe
  refine (show Calls Try.prog 16 #[ptr wb, opV o, vI 0] w1 _ from frames_any0 w0 w1 wb N hN ob _ HST.out o zs HI.out hz).mono ?_
  rintro e w2 ⟨rfl, hs⟩
  have HS2 : Hd (StP w0 wb (N + 1) ob (.cells (opC o) 31) w2) := hs
  clear hs HST
  obtain ⟨p0, p1, p2, p3, p4, p5, p6, p7, p8⟩ := op_cells (StP.blk HS2.out)
  go_wp2_with fail
  clear p0 p1 p2 p3 p4 p5 p6 p7 p8
  refine (show Calls Try.prog 17 #[ptr wb, opV o, vI 0] w2 _ from values_any0 w0 w2 wb (N + 1) (by omega) (StP.st HS2.out) o).mono ?_
  rintro e w3 ⟨rfl, hs⟩
  have HS3 : Hd (St w0 wb (N + 1) w3) := hs
  have HS3d : Hd (St w0 wb (N + 1) w3.drew) := St.keep hs (Fr.drew (Fr.refl _ w3))
  clear hs HS2
  obtain ⟨pb, rb, pg, rg, pa, ra, lv, mv, us, us', h, hR, hU, hP⟩ := HS3.out
  obtain ⟨zss, hzss⟩ : ∃ zss : List (List Int), zss = us.map (fun p => p.2) := ⟨_, rfl⟩
  have HL : Hd (ListsAt w3.drew lv zss) := by rw [hzss]; exact h.ll.lists
  have HM : Hd (ListsAt w3.drew mv zss) := by rw [hzss, h.same]; exact h.lm.lists
  have HPL : Hd (∀ l ∈ zss, l.length ≤ 10000000000000) := fun l hl => by
    rw [hzss] at hl
    obtain ⟨p, hp, rfl⟩ := List.mem_map.1 hl
    have := hP p hp
    omega
  have hul : zss.length ≤ 10000000000000 := by rw [hzss, List.length_map]; omega
  clear hzss
  obtain ⟨-, -, -, -, c4, c5⟩ := h.heads
  clear h hR hU hP
  go_wp2_with fail
  refine wp_region_still_tail 8 mixed (by kernel_rfl) ?_
  simp only [List.take_succ_cons, List.take_zero, List.drop_succ_cons, List.drop_zero]
  repeat still_step
  refine wpStill_nil ?_
  go_wp2_with fail
  refine (show Calls Try.prog 18 #[lv, mv] w3.drew _ from eqLists_same lv mv zss w3.drew HL.out HM.out hul HPL.out).mono ?_
  rintro e w4 ⟨rfl, hF4⟩
  have HS4 : Hd (St w0 wb (N + 1) w4) := St.keep HS3d.out hF4
  clear hF4
  go_wp2_with fail
  go_ret
  exact ⟨by simp, HS4.out⟩

set_option maxRecDepth 100000 in
set_option maxHeartbeats 2000000 in
theorem frames_other1 (w0 w : World) (wb : Nat) (N : Nat) (ob : Nat) (x : Obj) (hst : StP w0 wb N ob x w) (o : OpR) (h2 : o.kind ≠ 2) (h3 : o.kind ≠ 3) (h4 : o.kind ≠ 4) (h9 : o.kind ≠ 9) (h10 : o.kind ≠ 10) :
    Calls Try.prog 16 #[ptr wb, opV o, vI 1] w fun e w' => e = .returned (.bool true) ∧ StP w0 wb (N + 1) ob x w' := by
  have HST : Hd (StP w0 wb N ob x (w.alloc (.cells (opC o) 31))) := hst.keep (Fr.alloc (Fr.refl _ w) _)
  have HB : Hd _ := heap_alloc_last w (.cells (opC o) 31)
  obtain ⟨pb, rb, pg, rg, pa, ra, lv, mv, us, us', h, -⟩ := HST.out
  obtain ⟨c0, c1, c2, c3, -, -⟩ := h.heads
  obtain ⟨p0, -, p2, p3, p4, p5, p6, p7, p8⟩ := op_cells HB.out
  have e2 := eqb_false h2
  have e3 := eqb_false h3
  have e4 := eqb_false h4
  have e9 := eqb_false h9
  have e10 := eqb_false h10
  clear h hst
  go_enter Try.func16, Try.ntmps16
  go_wp2_with fail
  go_ret
  exact ⟨by simp, HST.out.mono (by omega)⟩

theorem frames_any1 (w0 w : World) (wb : Nat) (N : Nat) (hN : N ≤ 2000000) (ob : Nat) (x : Obj) (hst : StP w0 wb N ob x w) (o : OpR) (zs : List Int) (hI : IntsAt w0.heap.size w0 o.cells zs) (hz : zs.length ≤ 2000000) :
    Calls Try.prog 16 #[ptr wb, opV o, vI 1] w fun e w' => e = .returned (.bool true) ∧ StP w0 wb (N + 1) ob x w' := by
  by_cases h2 : o.kind = 2
  · exact frames_push1 w0 w wb N hN ob x hst o h2
  by_cases h3 : o.kind = 3
  · exact frames_pop1 w0 w wb N hN ob x hst o h3
  by_cases h4 : o.kind = 4
  · exact frames_make1 w0 w wb N hN ob x hst o h4
  by_cases h9 : o.kind = 9
  · exact frames_live1 w0 w wb N hN ob x hst o h9
  by_cases h10 : o.kind = 10
  · exact frames_drop1 w0 w wb N hN ob x hst o h10 zs hI hz
  exact frames_other1 w0 w wb N ob x hst o h2 h3 h4 h9 h10

theorem values_any1 (w0 w : World) (wb : Nat) (N : Nat) (hN : N ≤ 2000001) (hst : St w0 wb N w) (o : OpR) :
    Calls Try.prog 17 #[ptr wb, opV o, vI 1] w fun e w' => e = .returned (.bool true) ∧ St w0 wb N w' := by
  have hst0 := hst
  obtain ⟨pb, rb, pg, rg, pa, ra, lv, mv, us, us', h, hR, hU, hP⟩ := hst
  have hrel := (hR 1 (by omega)).1
  have hrb := (hR 1 (by omega)).2
  have hlen : (ra 1).cells.length ≤ 16000000 := by have := hrb.cells; omega
  by_cases h1 : o.kind = 1
  · refine (values_new1 w0 w wb pb rb pg rg pa ra lv mv us us' h o h1).mono ?_
    rintro e w' ⟨rfl, pb', rb', pg', rg', hW⟩
    exact ⟨rfl, St.step0 (by omega) hW hR (rel_new _) (RB.new N _ (by omega)) hU hP⟩
  by_cases h6 : o.kind = 6
  · refine (values_store1 w0 w wb pb rb pg rg pa ra lv mv us us' h hrel hlen hrb.gl o h6).mono ?_
    rintro e w' ⟨rfl, ⟨pg', rg', hW⟩, hr⟩
    exact ⟨rfl, St.step0 (by omega) hW hR hr (hrb.store _ _ _) hU hP⟩
  by_cases h8 : o.kind = 8
  · refine (values_set1 w0 w wb pb rb pg rg pa ra lv mv us us' h hrel hlen hrb.gl o h8).mono ?_
    rintro e w' ⟨rfl, ⟨pg', rg', hW⟩, hr⟩
    exact ⟨rfl, St.step0 (by omega) hW hR hr (hrb.setGlobal _ _) hU hP⟩
  refine (values_read1 w0 w wb pb rb pg rg pa ra lv mv us us' h hrel hlen hrb.gl o h1 h6 h8).mono ?_
  rintro e w' ⟨rfl, hF⟩
  exact ⟨rfl, hst0.keep hF⟩

set_option maxRecDepth 100000 in
set_option maxHeartbeats 2000000 in
theorem does1 (w0 w : World) (wb : Nat) (N : Nat) (hN : N ≤ 2000000) (hst : St w0 wb N w) (o : OpR) (zs : List Int) (hI : IntsAt w0.heap.size w0 o.cells zs) (hz : zs.length ≤ 2000000) (hon : bits .and .i64 o.on 1 = 1) :
    Calls Try.prog 6 #[ptr wb, opV o] w fun e w' => e = .returned (.bool true) ∧ St w0 wb (N + 1) w' := by
  have HST : Hd (StP w0 wb N w.heap.size (.cells (opC o) 31) (w.alloc (.cells (opC o) 31))) := hst.box _
  have HI : Hd _ := hI
  obtain ⟨p0, p1, p2, p3, p4, p5, p6, p7, p8⟩ := op_cells HST.out.blk
  clear hst hI
  go_enter Try.func6, Try.ntmps6
  go_wp2_with fail
  clear p0 p1 p2 p3 p4 p5 p6 p7 p8
  obtain ⟨ob, hoe⟩ : ∃ ob, ob = w.heap.size := ⟨_, rfl⟩
  rw [← hoe] at HST ⊢
  generalize w.alloc (.cells (opC o) 31) = w1 at *
  clear hoe
  refine (show Calls Try.prog 16 #[ptr wb, opV o, vI 1] w1 _ from frames_any1 w0 w1 wb N hN ob _ HST.out o zs HI.out hz).mono ?_
  rintro e w2 ⟨rfl, hs⟩
  have HS2 : Hd (StP w0 wb (N + 1) ob (.cells (opC o) 31) w2) := hs
  clear hs HST
  obtain ⟨p0, p1, p2, p3, p4, p5, p6, p7, p8⟩ := op_cells (StP.blk HS2.out)
  go_wp2_with fail
  clear p0 p1 p2 p3 p4 p5 p6 p7 p8
  refine (show Calls Try.prog 17 #[ptr wb, opV o, vI 1] w2 _ from values_any1 w0 w2 wb (N + 1) (by omega) (StP.st HS2.out) o).mono ?_
  rintro e w3 ⟨rfl, hs⟩
  have HS3 : Hd (St w0 wb (N + 1) w3) := hs
  have HS3d : Hd (St w0 wb (N + 1) w3.drew) := St.keep hs (Fr.drew (Fr.refl _ w3))
  clear hs HS2
  obtain ⟨pb, rb, pg, rg, pa, ra, lv, mv, us, us', h, hR, hU, hP⟩ := HS3.out
  obtain ⟨zss, hzss⟩ : ∃ zss : List (List Int), zss = us.map (fun p => p.2) := ⟨_, rfl⟩
  have HL : Hd (ListsAt w3.drew lv zss) := by rw [hzss]; exact h.ll.lists
  have HM : Hd (ListsAt w3.drew mv zss) := by rw [hzss, h.same]; exact h.lm.lists
  have HPL : Hd (∀ l ∈ zss, l.length ≤ 10000000000000) := fun l hl => by
    rw [hzss] at hl
    obtain ⟨p, hp, rfl⟩ := List.mem_map.1 hl
    have := hP p hp
    omega
  have hul : zss.length ≤ 10000000000000 := by rw [hzss, List.length_map]; omega
  clear hzss
  obtain ⟨-, -, -, -, c4, c5⟩ := h.heads
  clear h hR hU hP
  go_wp2_with fail
  refine wp_region_still_tail 8 mixed (by kernel_rfl) ?_
  simp only [List.take_succ_cons, List.take_zero, List.drop_succ_cons, List.drop_zero]
  repeat still_step
  refine wpStill_nil ?_
  go_wp2_with fail
  refine (show Calls Try.prog 18 #[lv, mv] w3.drew _ from eqLists_same lv mv zss w3.drew HL.out HM.out hul HPL.out).mono ?_
  rintro e w4 ⟨rfl, hF4⟩
  have HS4 : Hd (St w0 wb (N + 1) w4) := St.keep HS3d.out hF4
  clear hF4
  go_wp2_with fail
  go_ret
  exact ⟨by simp, HS4.out⟩

end Go.Proofs.Ytmdlebolmhnhaab
