import Derived.Test.YtmdlebolmhnhaabV7
namespace Go.Proofs.Ytmdlebolmhnhaab
open Go.RowKit Go.Shelf Go.Sort
open Go.Maps (Keyed)
set_option linter.unusedVariables false
set_option linter.unusedSimpArgs false

def dropA (a : Abs) (zs : List Int) : Abs := { a with cells := gone a.cells (zs.map Int.toNat) }
def dropX (a : Abs) (zs : List Int) : Abs × Int := if mayDropX a zs = 0 then (forgetX (dropA a zs), 0) else (a, mayDropX a zs)

theorem gone_snoc (c : Nat → Option (List Val)) (l : List Nat) (p : Nat) : upd (gone c l) p none = gone c (l ++ [p]) := by
  funext i
  simp only [upd, gone, List.mem_append, List.mem_singleton]
  by_cases h : i = p
  · simp [h]
  · simp [h]

theorem mayDrop_all {a : Abs} {zs : List Int} (h : mayDropX a zs = 0) : zs.all (wasM a) = true := by
  unfold mayDropX at h
  split at h
  · cases h
  · rename_i hn
    cases e : zs.all (wasM a)
    · exact absurd e hn
    · rfl

set_option maxRecDepth 100000 in
set_option maxHeartbeats 2000000 in
theorem drop_any (b : Nat) (g : Gh) (a : Abs) (ad : Option Addr) (cap : Nat) (zs : List Int) (w : World) (h : Mem w b g a) (hI : IntsAt w.heap.size w (.slice ad zs.length cap) zs) (hso : zs ≠ [] → ∀ j, (Value.slice ad zs.length cap).ownBlock = some j → g.own j = 0) (hz : zs.length ≤ 17592186043904) {N : Nat} (hf : Fine N a) (hN : N ≤ 10000000000000) :
    Calls Try.prog 32 #[ptr b, .slice ad zs.length cap] w fun e w' => ∃ g', e = .returned (vI (dropX a zs).2) ∧ Mem w' b g' (dropX a zs).1 ∧ Fr (fun j => g.own j ≠ 0) w w' ∧ Ext w.heap.size g g' := by
  have H : Hd (Mem w b g a) := h
  have HI : Hd (IntsAt w.heap.size w (.slice ad zs.length cap) zs) := hI
  have HSO : Hd _ := hso
  have e1 := hf.made
  clear h hI hso
  go_enter Try.func32, Try.ntmps32
  go_wp2_with fail
  refine (mayDrop_any b g a _ ad cap zs w H.out rfl HI.out hz (by omega)).mono ?_
  rintro e w1 ⟨rfl, hF1⟩
  have HM1 : Hd _ := H.out.keep hF1
  have HF1 : Hd (Fr (fun _ => False) w w1) := hF1
  clear hF1
  by_cases hd : mayDropX a zs = 0
  · have HX : Hd (dropX a zs = (forgetX (dropA a zs), 0)) := by unfold Hd dropX; rw [if_pos hd]
    have HALL : Hd _ := mayDrop_all hd
    rw [hd]
    go_wp2_with fail
    go_loopw [18] (fun v wr => ∃ (k : Nat) (D' : DataW Unit), v = .int .i64 k ∧ k ≤ zs.length ∧ Hd (Mem wr b { g with D := D' } { a with cells := gone a.cells ((zs.take k).map Int.toNat) }) ∧ Hd (Fr (fun j => g.own j ≠ 0) w wr)) (fun v _ => match v with | .int _ q => zs.length - q.toNat | _ => 0)
    case atStart =>
      refine ⟨0, g.D, rfl, Nat.zero_le _, ?_, HF1.out.mono (fun _ _ h => h.elim)⟩
      unfold Hd
      rw [List.take_zero, List.map_nil, gone_nil]
      exact HM1.out
    case round =>
      obtain ⟨k, D', rfl, hk, HM2, HF2⟩ := hrel
      by_cases hlt : k < zs.length
      · obtain ⟨pb, po, pc, hsv, hpb, hcs⟩ : ∃ pb po pc, Value.slice ad zs.length cap = .slice (some ⟨pb, po, none⟩) zs.length pc ∧ pb < w.heap.size ∧ ∀ j, j < zs.length → w.cell? ⟨pb, po + j, none⟩ = some (.int .i64 (zs[j]?.getD 0)) := by
          rcases HI.out with ⟨_, _, -, e⟩ | hh
          · rw [e] at hlt; simp at hlt
          · exact hh
        cases hsv
        have hcx : wr.cell? ⟨pb, po + k, none⟩ = some (.int .i64 (zs[k]?.getD 0)) := (HF2.out.cell hpb (fun e => e (HSO.out (by intro e; simp [e] at hlt) pb rfl))).trans (hcs k hlt)
        have htk := take_more zs k hlt
        have hmem : zs[k]?.getD 0 ∈ zs := by rw [List.getElem?_eq_getElem hlt]; exact List.getElem_mem hlt
        have hw := List.all_eq_true.1 HALL.out _ hmem
        generalize zs[k]?.getD 0 = x at *
        obtain ⟨hx1, hx2⟩ : 1 ≤ x ∧ x ≤ a.made := by simpa [wasM] using hw
        obtain ⟨i, rfl⟩ := Int.eq_ofNat_of_zero_le (show 0 ≤ x by omega)
        have HTK : Hd _ := htk
        have f2 : wr.cell? ⟨b, 2, none⟩ = some (.map (some g.tb)) := HM2.out.facts.2.2.1
        have HMap : Hd (wr.ownsMap Try.prog 3 Rc g.tb a.made D') := HM2.out.map
        have hkey : keyOf Try.prog 3 (vI i) = some (.int .i64 (i : Int)) := Maps.keyOf_int_mk under3 (wf_nat i (by omega))
        have hk0 : (0 : Int) ≤ k := by omega
        have hk1 : (k : Int) < zs.length := by omega
        clear hcs hmem hw htk hx1 hx2
        go_wp2_with ((at_delete; refine wpList_delete_own _ rfl _ _ 58 3 rfl 53 keyed3 under61 Rc g.tb a.made D' rfl HMap.out _ _ rfl hkey ?_; intro w3 hown3 hturn3; go_frame))
        obtain ⟨k1, k2⟩ := HM2.out.del i hown3 hturn3
        refine ⟨⟨k + 1, D'.del (.int .i64 (i : Int)), by simp, by omega, ?_, HF2.out.trans k2⟩, by simp; omega⟩
        unfold Hd
        rw [show zs.take (k + 1) = _ from HTK.out, List.map_append]
        simp only [List.map_cons, List.map_nil, Int.toNat_natCast]
        rw [← gone_snoc]
        exact k1
      · have hke : k = zs.length := by omega
        subst hke
        have hM2 : Mem wr b { g with D := D' } (dropA a zs) := by have := HM2.out; rw [List.take_length] at this; exact this
        have HM3 : Hd _ := hM2
        have hfine : Fine N (dropA a zs) := ⟨hf.made, hf.frs, hf.pss, hf.pbd⟩
        clear HM2 hM2
        go_wp2_with fail
        refine (forget_any b { g with D := D' } (dropA a zs) wr HM3.out hfine hN).mono ?_
        rintro e w4 ⟨rfl, ps', hM4, hF4⟩
        go_wp2_with fail
        go_ret
        rw [HX.out]
        exact ⟨{ g with D := D', ps := ps' }, rfl, hM4, HF2.out.trans hF4, fun _ _ => rfl⟩
  · have HX : Hd (dropX a zs = (a, mayDropX a zs)) := by unfold Hd dropX; rw [if_neg hd]
    have b0 := eqb_false hd
    go_wp2_with fail
    go_ret
    rw [HX.out]
    exact ⟨g, rfl, HM1.out, HF1.out.mono (fun _ _ h => h.elim), Ext.refl _ _⟩

end Go.Proofs.Ytmdlebolmhnhaab

namespace Go.Proofs.Ytmdlebolmhnhaab
open Go.RowKit (wrap32 wrap64)
open Go.Maps (Keyed)
set_option linter.unusedVariables false
set_option linter.unusedSimpArgs false

/-- A list of ints stays where nothing that it lies in is written. -/
theorem IntsAt.fr {w w' : World} {M : Nat → Prop} {sv : Value} {zs : List Int} (h : IntsAt w.heap.size w sv zs) (hF : Fr M w w') (hno : ∀ j, sv.ownBlock = some j → ¬ M j) : IntsAt w'.heap.size w' sv zs := by
  rcases h with hh | ⟨pb, po, pc, e, hlt, hc⟩
  · exact Or.inl hh
  · refine Or.inr ⟨pb, po, pc, e, Nat.lt_of_lt_of_le hlt hF.size, fun j hj => (hF.cell hlt (hno pb (by rw [e]; rfl))).trans (hc j hj)⟩

end Go.Proofs.Ytmdlebolmhnhaab

namespace Go.Proofs.Ytmdlebolmhnhaab
open Go.RowKit (wrap32 wrap64)
open Go.Maps (Keyed)
set_option linter.unusedVariables false
set_option linter.unusedSimpArgs false

theorem IntsAt.shape {n0 : Nat} {w : World} {sv : Value} {zs : List Int} (h : IntsAt n0 w sv zs) : ∃ a c, sv = .slice a zs.length c ∧ (zs ≠ [] → ∃ k o, a = some ⟨k, o, none⟩ ∧ ∀ j, j < zs.length → w.cell? ⟨k, o + j, none⟩ = some (vI (zs[j]?.getD 0))) := by
  rcases h with ⟨a, c, rfl, rfl⟩ | ⟨k, o, c, rfl, -, hc⟩
  · exact ⟨a, c, rfl, fun h => absurd rfl h⟩
  · exact ⟨_, _, rfl, fun _ => ⟨k, o, rfl, hc⟩⟩

set_option maxRecDepth 100000 in
set_option maxHeartbeats 1000000 in
/-- EqInts of two lists of the same numbers. -/
theorem eqInts_same (v1 v2 : Value) (zs : List Int) (w : World) (h1 : IntsAt w.heap.size w v1 zs) (h2 : IntsAt w.heap.size w v2 zs) (hz : zs.length ≤ 10000000000000) :
    Calls Try.prog 19 #[v1, v2] w fun e w' => e = .returned (.bool true) ∧ Fr (fun _ => False) w w' := by
  obtain ⟨a1, c1, rfl, hc1⟩ := h1.shape
  obtain ⟨a2, c2, rfl, hc2⟩ := h2.shape
  have H1 : Hd _ := hc1
  have H2 : Hd _ := hc2
  clear h1 h2 hc1 hc2
  go_enter Try.func19, Try.ntmps19
  go_wp2_with fail
  go_loopw [5] (fun v wr => ∃ (k : Nat), v = .int .i64 k ∧ k ≤ zs.length ∧ Hd (Fr (fun _ => False) w wr) ∧ Hd (∀ p : Addr, wr.cell? p = w.cell? p)) (fun v _ => match v with | .int _ q => zs.length - q.toNat | _ => 0)
  case atStart => exact ⟨0, rfl, Nat.zero_le _, Fr.refl _ _, fun _ => rfl⟩
  case round =>
    obtain ⟨k, rfl, hk, HF, HC⟩ := hrel
    by_cases hlt : k < zs.length
    · have hne : zs ≠ [] := by intro e; simp [e] at hlt
      obtain ⟨k1, o1, rfl, g1⟩ := H1.out hne
      obtain ⟨k2, o2, rfl, g2⟩ := H2.out hne
      have q1 := (HC.out ⟨k1, o1 + k, none⟩).trans (g1 k hlt)
      have q2 := (HC.out ⟨k2, o2 + k, none⟩).trans (g2 k hlt)
      generalize zs[k]?.getD 0 = z at *
      have hk0 : (0 : Int) ≤ k := by omega
      have hk1 : (k : Int) < zs.length := by omega
      clear g1 g2
      go_wp2_with fail
      refine wp_region_still_tail 8 mixed (by kernel_rfl) ?_
      simp only [List.take_succ_cons, List.take_zero, List.drop_succ_cons, List.drop_zero]
      repeat still_step
      refine wpStill_nil ?_
      go_wp2_with fail
      refine ⟨⟨k + 1, by simp; try omega, by omega, HF.out.drew, HC.out⟩, by simp; try omega⟩
    · have hke : k = zs.length := by omega
      subst hke
      go_wp2_with fail
      go_ret
      exact ⟨rfl, HF.out⟩

end Go.Proofs.Ytmdlebolmhnhaab

namespace Go.Proofs.Ytmdlebolmhnhaab
open Go.RowKit (wrap32 wrap64)
open Go.Maps (Keyed)
set_option linter.unusedVariables false
set_option linter.unusedSimpArgs false

theorem cell_lt0 {w : World} {k o : Nat} {u : Value} (h : w.cell? ⟨k, o, none⟩ = some u) : k < w.heap.size := by
  unfold World.cell? at h
  rcases Nat.lt_or_ge k w.heap.size with hk | hk
  · exact hk
  · simp [Array.getElem?_eq_none hk] at h

/-- Lists of numbers. -/
def ListsAt (w : World) (sv : Value) (zss : List (List Int)) : Prop :=
  ∃ a c, sv = .slice a zss.length c ∧ (zss ≠ [] → ∃ k o, a = some ⟨k, o, none⟩ ∧ ∀ j, j < zss.length → ∃ u, w.cell? ⟨k, o + j, none⟩ = some u ∧ IntsAt w.heap.size w u (zss[j]?.getD []))

set_option maxRecDepth 100000 in
set_option maxHeartbeats 1000000 in
/-- EqLists of two lists of the same lists. -/
theorem eqLists_same (v1 v2 : Value) (zss : List (List Int)) (w : World) (h1 : ListsAt w v1 zss) (h2 : ListsAt w v2 zss) (hz : zss.length ≤ 10000000000000) (hzz : ∀ zs ∈ zss, zs.length ≤ 10000000000000) :
    Calls Try.prog 18 #[v1, v2] w fun e w' => e = .returned (.bool true) ∧ Fr (fun _ => False) w w' := by
  obtain ⟨a1, c1, rfl, hc1⟩ := h1
  obtain ⟨a2, c2, rfl, hc2⟩ := h2
  have H1 : Hd _ := hc1
  have H2 : Hd _ := hc2
  have HZ : Hd _ := hzz
  clear hc1 hc2 hzz
  go_enter Try.func18, Try.ntmps18
  go_wp2_with fail
  go_loopw [5] (fun v wr => ∃ (k : Nat), v = .int .i64 k ∧ k ≤ zss.length ∧ Hd (Fr (fun _ => False) w wr)) (fun v _ => match v with | .int _ q => zss.length - q.toNat | _ => 0)
  case atStart => exact ⟨0, rfl, Nat.zero_le _, Fr.refl _ _⟩
  case round =>
    obtain ⟨k, rfl, hk, HF⟩ := hrel
    by_cases hlt : k < zss.length
    · have hne : zss ≠ [] := by intro e; simp [e] at hlt
      obtain ⟨k1, o1, rfl, g1⟩ := H1.out hne
      obtain ⟨k2, o2, rfl, g2⟩ := H2.out hne
      obtain ⟨u1, p1, i1⟩ := g1 k hlt
      obtain ⟨u2, p2, i2⟩ := g2 k hlt
      have q1 := (HF.out.cell (cell_lt0 p1) (fun h => h)).trans p1
      have q2 := (HF.out.cell (cell_lt0 p2) (fun h => h)).trans p2
      have hzl : (zss[k]?.getD []).length ≤ 10000000000000 := by
        rw [List.getElem?_eq_getElem hlt]
        exact HZ.out _ (List.getElem_mem hlt)
      have I1 : Hd (IntsAt wr.heap.size wr u1 (zss[k]?.getD [])) := IntsAt.fr i1 HF.out (fun _ _ h => h)
      have I2 : Hd (IntsAt wr.heap.size wr u2 (zss[k]?.getD [])) := IntsAt.fr i2 HF.out (fun _ _ h => h)
      generalize zss[k]?.getD [] = zs at *
      obtain ⟨x1, y1, rfl, -⟩ := IntsAt.shape I1.out
      obtain ⟨x2, y2, rfl, -⟩ := IntsAt.shape I2.out
      have hk0 : (0 : Int) ≤ k := by omega
      have hk1 : (k : Int) < zss.length := by omega
      clear g1 g2 i1 i2 p1 p2
      go_wp2_with fail
      refine wp_region_still_tail 8 mixed (by kernel_rfl) ?_
      simp only [List.take_succ_cons, List.take_zero, List.drop_succ_cons, List.drop_zero]
      repeat still_step
      refine wpStill_nil ?_
      go_wp2_with fail
      refine (eqInts_same _ _ zs wr.drew I1.out I2.out hzl).mono ?_
      rintro e w1 ⟨rfl, hF1⟩
      have HF1 : Hd _ := HF.out.drew.trans hF1
      go_wp2_with fail
      refine ⟨⟨k + 1, by simp, by omega, HF1.out⟩, by simp; omega⟩
    · have hke : k = zss.length := by omega
      subst hke
      go_wp2_with fail
      go_ret
      exact ⟨rfl, HF.out⟩

end Go.Proofs.Ytmdlebolmhnhaab
