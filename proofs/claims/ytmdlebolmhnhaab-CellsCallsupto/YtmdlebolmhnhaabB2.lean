import Derived.Test.YtmdlebolmhnhaabB1
namespace Go.Proofs.Ytmdlebolmhnhaab
open Go.RowKit (wrap32 wrap64)
open Go.Maps (Keyed)
set_option linter.unusedVariables false
set_option linter.unusedSimpArgs false

def makeX (a : Abs) (n : Int) (heap : Bool) : Abs × Int × Int :=
  if n < 1 ∨ 8 < n then (a, 0, 1) else
  if a.frs = [] then (a, 0, 30) else
  (if heap then mkA a n.toNat else { mkA a n.toNat with pss := a.pss ++ [a.made + 1] }, ((a.made + 1 : Nat) : Int), 0)

/-- The frames' slice: how long it is. -/
theorem row_slice {w : World} {v : Value} {n : Nat} {xs : List Value} (h : w.ownsRow 0 3 1 v n xs) : ∃ ad cap, v = .slice ad n cap := by
  rcases h.2 with ⟨e, rfl⟩ | ⟨g, cap, cur, e, -⟩
  · exact ⟨_, _, e⟩
  · exact ⟨_, _, e⟩

set_option maxRecDepth 100000 in
set_option maxHeartbeats 1000000 in
theorem make_bad (b : Nat) (g : Gh) (a : Abs) (n : Int) (heap : Bool) (w : World) (h : Mem w b g a) (hbad : (n < 1 ∨ 8 < n) ∨ a.frs = []) :
    Calls Try.prog 10 #[.pointer (some ⟨b, 0, none⟩), vI n, .bool heap] w fun e w' => e = .returned (.tuple #[vI 0, vI (makeX a n heap).2.2]) ∧ (makeX a n heap).1 = a ∧ (makeX a n heap).2.1 = 0 ∧ w' = w := by
  obtain ⟨f0, f1, f2, f3, f4⟩ := h.facts
  by_cases h1 : n < 1
  · have d1 : decide (n < 1) = true := by simpa using h1
    have HX : Hd (makeX a n heap = (a, 0, 1)) := by unfold Hd; simp [makeX, h1]
    go_enter Try.func10, Try.ntmps10
    go_wp2
    go_ret2
    rw [HX.out]
    exact ⟨rfl, rfl, rfl, rfl⟩
  have d1 : decide (n < 1) = false := by simpa using h1
  by_cases h8 : 8 < n
  · have d8 : decide (8 < n) = true := by simpa using h8
    have HX : Hd (makeX a n heap = (a, 0, 1)) := by unfold Hd; simp [makeX, h8]
    go_enter Try.func10, Try.ntmps10
    go_wp2
    go_ret2
    rw [HX.out]
    exact ⟨rfl, rfl, rfl, rfl⟩
  have d8 : decide (8 < n) = false := by simpa using h8
  have hfr : a.frs = [] := by
    rcases hbad with (h | h) | h
    · exact absurd h h1
    · exact absurd h h8
    · exact h
  have HX : Hd (makeX a n heap = (a, 0, 30)) := by unfold Hd; simp [makeX, h1, h8, hfr]
  obtain ⟨ad, cap, hv⟩ := row_slice h.frs
  rw [hfr] at hv
  rw [hv] at f3
  simp only [List.length_nil] at f3
  go_enter Try.func10, Try.ntmps10
  go_wp2
  go_ret2
  rw [HX.out]
  exact ⟨rfl, rfl, rfl, rfl⟩

set_option maxRecDepth 100000 in
set_option maxHeartbeats 1000000 in
theorem make_heap (b : Nat) (g : Gh) (a : Abs) (n : Nat) (w : World) (h : Mem w b g a) (h1 : 1 ≤ n) (h8 : n ≤ 8) (hfr : a.frs ≠ []) (hm : a.made ≤ 10000000000000) (hl : a.frs.length ≤ 10000000000000) :
    Calls Try.prog 10 #[.pointer (some ⟨b, 0, none⟩), vI n, .bool true] w fun e w' => ∃ g', e = .returned (.tuple #[vI ((a.made + 1 : Nat) : Int), vI 0]) ∧ Mem w' b g' (mkA a n) ∧ Fr (fun j => g.own j ≠ 0) w w' ∧ Ext w.heap.size g g' := by
  obtain ⟨f0, f1, f2, f3, f4⟩ := h.facts
  have hlt := h.lt
  have d1 : decide ((n : Int) < 1) = false := by simp; omega
  have d8 : decide (8 < (n : Int)) = false := by simp; omega
  obtain ⟨ad, cap, hv⟩ := row_slice h.frs
  have hlen : 0 < a.frs.length := List.length_pos_iff.2 hfr
  have dl : ((a.frs.length : Int) == 0) = false := by simp; omega
  have f3' : w.cell? ⟨b, 3, none⟩ = some (.slice ad a.frs.length cap) := by rw [f3, hv]
  have z1 : w.frozen? ⟨b, 1, none⟩ = false := frozen_of h.blk0 1
  have hms := makeVals n (by omega)
  have hbt : b ≠ g.tb := ne_own h.ob h.ot (by omega)
  go_enter Try.func10, Try.ntmps10
  go_wp2_with fail
  obtain ⟨m1, hm1⟩ : ∃ m1 : Nat, m1 = a.made + 1 := ⟨_, rfl⟩
  have e1 : (a.made : Int) + 1 = m1 := by omega
  have HM : Hd (∀ w2, w2.ownsMap Try.prog 3 Rc g.tb (a.made + 1) (g.D.put (.int .i64 (m1 : Int)) (cellD w.heap.size n)) → ((w.setCell ⟨b, 1, none⟩ (vI m1)).drew.alloc (.cells (flat (List.replicate n (0, 0))).toArray 28)).mapTurned w2 g.tb → ∃ g', Mem w2 b g' (mkA a n) ∧ Fr (fun j => g.own j ≠ 0) w w2 ∧ Ext w.heap.size g g' ∧ g'.tb = g.tb) := by
    subst hm1
    exact fun w2 k1 k2 => h.made h8 k1 k2
  have hmap1 : ((w.setCell ⟨b, 1, none⟩ (vI m1)).drew.alloc (.cells (flat (List.replicate n (0, 0))).toArray 28)).ownsMap Try.prog 3 Rc g.tb a.made g.D :=
    ((h.map.setCell (a := ⟨b, 1, none⟩) (fun e => hbt e.symm) _).drew).alloc _
  have hb1 := set_of h.blk0 1 (vI m1)
  have c1 : (w.setCell ⟨b, 1, none⟩ (vI m1)).cell? ⟨b, 1, none⟩ = some (vI m1) := by rw [cell_of hb1]; rfl
  have c2 : (w.setCell ⟨b, 1, none⟩ (vI m1)).cell? ⟨b, 2, none⟩ = some (.map (some g.tb)) := by rw [cell_of hb1]; rfl
  have hs1 : (w.setCell ⟨b, 1, none⟩ (vI m1)).heap.size = w.heap.size := by simp
  rw [e1]
  have HE : Hd (m1 = a.made + 1) := hm1
  generalize w.setCell ⟨b, 1, none⟩ (vI m1) = w1 at *
  have hlt1 : b < w1.heap.size := by omega
  obtain ⟨w2, hrun, hown2, hturn2⟩ := hmap1.store (val := .slice (some ⟨w1.heap.size, 0, none⟩) n n) (d := cellD w.heap.size n) (ps := []) keyed3 under61 (by unfold maxLen; omega) (Maps.keyOf_int_mk under3 (wf_nat m1 (by omega))) (by simp [Rc, cellD, hs1])
  have hrun' : (Instr.mapUpdate 58 (.map (some g.tb)) (vI m1) (.slice (some ⟨w.heap.size, 0, none⟩) n n)).run Try.prog ((w1.alloc (.cells (flat (List.replicate n (0, 0))).toArray 28)).drew) = .ok () w2 := by rw [← hs1]; exact hrun
  clear hrun
  obtain ⟨g', M1, M2, M3, M4⟩ := HM.out w2 hown2 hturn2
  have N1 : Hd _ := M1
  have N2 : Hd _ := M2
  have N3 : Hd _ := M3
  have c3 : w2.cell? ⟨b, 1, none⟩ = some (vI m1) := by rw [hm1]; exact M1.facts.2.1
  have c4 : w2.cell? ⟨b, 2, none⟩ = some (.map (some g.tb)) := by rw [M1.facts.2.2.1, M4]
  clear hturn2 hown2 hmap1 M1 M2 M3 M4 HM hm1 e1 hb1
  go_region_held3 (fun w' => w'.cell? ⟨b, 2, none⟩ = some (.map (some g.tb)) ∧ w'.cell? ⟨b, 1, none⟩ = some (vI m1)) (go_keep) (fail)
  clear hms hrun' c1 c2 c4 hs1 hlt1
  go_wp2_with fail
  go_ret2
  exact ⟨g', by rw [← HE.out]; rfl, N1.out, N2.out, N3.out⟩

set_option maxRecDepth 100000 in
set_option maxHeartbeats 1000000 in
theorem make_frame (b : Nat) (g : Gh) (a : Abs) (n : Nat) (w : World) (h : Mem w b g a) (h1 : 1 ≤ n) (h8 : n ≤ 8) (hfr : a.frs ≠ []) (hm : a.made ≤ 10000000000000) (hl : a.frs.length ≤ 10000000000000) (hp : a.pss.length ≤ 10000000000000) :
    Calls Try.prog 10 #[.pointer (some ⟨b, 0, none⟩), vI n, .bool false] w fun e w' => ∃ g', e = .returned (.tuple #[vI ((a.made + 1 : Nat) : Int), vI 0]) ∧ Mem w' b g' { mkA a n with pss := a.pss ++ [a.made + 1] } ∧ Fr (fun j => g.own j ≠ 0) w w' ∧ Ext w.heap.size g g' := by
  obtain ⟨f0, f1, f2, f3, f4⟩ := h.facts
  have hlt := h.lt
  have d1 : decide ((n : Int) < 1) = false := by simp; omega
  have d8 : decide (8 < (n : Int)) = false := by simp; omega
  obtain ⟨ad, cap, hv⟩ := row_slice h.frs
  have hlen : 0 < a.frs.length := List.length_pos_iff.2 hfr
  have dl : ((a.frs.length : Int) == 0) = false := by simp; omega
  have f3' : w.cell? ⟨b, 3, none⟩ = some (.slice ad a.frs.length cap) := by rw [f3, hv]
  have z1 : w.frozen? ⟨b, 1, none⟩ = false := frozen_of h.blk0 1
  have hms := makeVals n (by omega)
  have hbt : b ≠ g.tb := ne_own h.ob h.ot (by omega)
  go_enter Try.func10, Try.ntmps10
  go_wp2_with fail
  obtain ⟨m1, hm1⟩ : ∃ m1 : Nat, m1 = a.made + 1 := ⟨_, rfl⟩
  have e1 : (a.made : Int) + 1 = m1 := by omega
  have HM : Hd (∀ w2, w2.ownsMap Try.prog 3 Rc g.tb (a.made + 1) (g.D.put (.int .i64 (m1 : Int)) (cellD w.heap.size n)) → ((w.setCell ⟨b, 1, none⟩ (vI m1)).drew.alloc (.cells (flat (List.replicate n (0, 0))).toArray 28)).mapTurned w2 g.tb → ∃ g', Mem w2 b g' (mkA a n) ∧ Fr (fun j => g.own j ≠ 0) w w2 ∧ Ext w.heap.size g g' ∧ g'.tb = g.tb) := by
    subst hm1
    exact fun w2 k1 k2 => h.made h8 k1 k2
  have hmap1 : ((w.setCell ⟨b, 1, none⟩ (vI m1)).drew.alloc (.cells (flat (List.replicate n (0, 0))).toArray 28)).ownsMap Try.prog 3 Rc g.tb a.made g.D :=
    ((h.map.setCell (a := ⟨b, 1, none⟩) (fun e => hbt e.symm) _).drew).alloc _
  have hb1 := set_of h.blk0 1 (vI m1)
  have c1 : (w.setCell ⟨b, 1, none⟩ (vI m1)).cell? ⟨b, 1, none⟩ = some (vI m1) := by rw [cell_of hb1]; rfl
  have c2 : (w.setCell ⟨b, 1, none⟩ (vI m1)).cell? ⟨b, 2, none⟩ = some (.map (some g.tb)) := by rw [cell_of hb1]; rfl
  have hs1 : (w.setCell ⟨b, 1, none⟩ (vI m1)).heap.size = w.heap.size := by simp
  rw [e1]
  have HE : Hd (m1 = a.made + 1) := hm1
  generalize w.setCell ⟨b, 1, none⟩ (vI m1) = w1 at *
  have hlt1 : b < w1.heap.size := by omega
  obtain ⟨w2, hrun, hown2, hturn2⟩ := hmap1.store (val := .slice (some ⟨w1.heap.size, 0, none⟩) n n) (d := cellD w.heap.size n) (ps := []) keyed3 under61 (by unfold maxLen; omega) (Maps.keyOf_int_mk under3 (wf_nat m1 (by omega))) (by simp [Rc, cellD, hs1])
  have hrun' : (Instr.mapUpdate 58 (.map (some g.tb)) (vI m1) (.slice (some ⟨w.heap.size, 0, none⟩) n n)).run Try.prog ((w1.alloc (.cells (flat (List.replicate n (0, 0))).toArray 28)).drew) = .ok () w2 := by rw [← hs1]; exact hrun
  clear hrun
  obtain ⟨g', M1, M2, M3, M4⟩ := HM.out w2 hown2 hturn2
  have N1 : Hd _ := M1
  have N2 : Hd _ := M2
  have N3 : Hd _ := M3
  have c3 : w2.cell? ⟨b, 1, none⟩ = some (vI m1) := by rw [hm1]; exact M1.facts.2.1
  have c4 : w2.cell? ⟨b, 2, none⟩ = some (.map (some g.tb)) := by rw [M1.facts.2.2.1, M4]
  clear hturn2 hown2 hmap1 M1 M2 M3 M4 HM hm1 e1 hb1
  go_region_held3 (fun w' => w'.cell? ⟨b, 2, none⟩ = some (.map (some g.tb)) ∧ w'.cell? ⟨b, 1, none⟩ = some (vI m1)) (go_keep) (fail)
  clear hms hrun' c1 c2 c4 hs1 hlt1
  go_wp2_with fail
  obtain ⟨i3, hi, hz, hs, hb⟩ := info_parts (P := Try.prog) (e := 3) (z := .int .i64 0) (size := 1) (bytes := 8) (by kernel_rfl)
  have c5 : w2.cell? ⟨b, 4, none⟩ = some g'.ps := N1.out.facts.2.2.2.2
  have hlt2 : b < w2.heap.size := N1.out.lt
  have z4 : w2.frozen? ⟨b, 4, none⟩ = false := frozen_of N1.out.blk0 4
  have HM1 : Hd _ := (N1.out.drew).alloc (.cells #[vI m1] 3)
  have hw1 : (w2.drew.alloc (.cells #[vI m1] 3)).heap.size = w2.heap.size + 1 := by simp
  have hnews : ∀ j u, [vI m1][j]? = some u → (w2.drew.alloc (.cells #[vI m1] 3)).cell? ((⟨w2.heap.size, 0, none⟩ : Addr).add j) = some u :=
    World.news_of_block (cs := #[vI m1]) (heap_alloc_last w2.drew (.cells #[vI m1] 3))
  go_region_law (
    refine step_append_lies _ rfl (.tmp 47) (.tmp 52) 29 rfl 0 3 i3 (.int .i64 0) 1 8 under39 hi hz hs hb rfl (by omega) g'.ps a.pss.length _ (by simp [Act.eval, Act.put]) HM1.out.pss ⟨w2.heap.size, 0, none⟩ 1 1 [vI m1] (by simp [Act.eval, Act.put]) rfl hnews (by intro u hu; simp at hu; subst hu; rfl) (by omega) (by unfold maxLen; omega) (by omega) (Nat.zero_le _) (w2.heap.size + 1) hw1 ?_
    intro g6 cap6 w6 hown6 hgrow6 hat6 hlt6
    have hb6 : w6.heap[b]? = some (.cells (memC g' (mkA a n)) 60) := by
      rw [hgrow6.block b HM1.out.lt (fun e => by have := HM1.out.ops b e.symm; rw [HM1.out.ob] at this; omega)]; exact HM1.out.blk0
    have x3 : w6.cell? ⟨b, 4, none⟩ = some g'.ps := by rw [cell_of hb6]; rfl
    have x1 : w6.cell? ⟨b, 1, none⟩ = some (vI m1) := by rw [cell_of hb6, HE.out]; rfl
    have y3 : w6.frozen? ⟨b, 4, none⟩ = false := frozen_of hb6 4)
  all_goals
    go_wp2_with fail
    go_ret2
    obtain ⟨g7, m2, m3, m4⟩ := HM1.out.grow_ps m1 hown6 hgrow6 (by rw [hw1]; exact hat6)
    have hsz := N2.out.size
    exact ⟨g7, by rw [← HE.out]; rfl, by rw [← HE.out]; exact m2, N2.out.ext N3.out ((Fr.alloc (Fr.drew (Fr.refl _ w2)) _).trans m3), fun k hk => (m4 k (by rw [hw1]; omega)).trans (N3.out k hk)⟩

end Go.Proofs.Ytmdlebolmhnhaab
