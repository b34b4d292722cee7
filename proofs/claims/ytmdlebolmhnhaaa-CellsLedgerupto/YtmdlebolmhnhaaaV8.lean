import Derived.Test.YtmdlebolmhnhaaaV7
namespace Go.Proofs.Ytmdlebolmhnhaaa
open Go.RowKit Go.Shelf Go.Sort
open Go.Maps (Keyed)
set_option linter.unusedVariables false
set_option linter.unusedSimpArgs false

def dropA (a : Abs) (zs : List Int) : Abs := { a with cells := gone a.cells (zs.map Int.toNat) }
def dropX (a : Abs) (zs : List Int) : Abs × Int := if mayDropX a zs = 0 then (forgetX (dropA a zs), 0) else (a, mayDropX a zs)

theorem gone_snoc (c : Nat → Option (List Val)) (l : List Nat) (p : Nat) : upd (gone c l) p none = gone c (l ++ [p]) := by
  funext i
  simp only [upd, gone, List.mem_append, List.mem_singleton]
  by_cases h : i = p
  · simp [h]
  · simp [h]

theorem mayDrop_all {a : Abs} {zs : List Int} (h : mayDropX a zs = 0) : zs.all (wasM a) = true := by
  unfold mayDropX at h
  split at h
  · cases h
  · rename_i hn
    cases e : zs.all (wasM a)
    · exact absurd e hn
    · rfl

set_option maxRecDepth 100000 in
set_option maxHeartbeats 2000000 in
theorem drop_any (b : Nat) (g : Gh) (a : Abs) (ad : Option Addr) (cap : Nat) (zs : List Int) (w : World) (h : Mem w b g a) (hI : IntsAt w.heap.size w (.slice ad zs.length cap) zs) (hso : zs ≠ [] → ∀ j, (Value.slice ad zs.length cap).ownBlock = some j → g.own j = 0) (hz : zs.length ≤ 17592186043904) {N : Nat} (hf : Fine N a) (hN : N ≤ 10000000000000) :
    Calls Try.prog 32 #[ptr b, .slice ad zs.length cap] w fun e w' => ∃ g', e = .returned (vI (dropX a zs).2) ∧ Mem w' b g' (dropX a zs).1 ∧ Fr (fun j => g.own j ≠ 0) w w' ∧ Ext w.heap.size g g' := by
  have H : Hd (Mem w b g a) := h
  have HI : Hd (IntsAt w.heap.size w (.slice ad zs.length cap) zs) := hI
  have HSO : Hd _ := hso
  have e1 := hf.made
  clear h hI hso
  go_enter Try.func32, Try.ntmps32
  go_wp2_with fail
  refine (mayDrop_any b g a _ ad cap zs w H.out rfl HI.out hz (by omega)).mono ?_
  rintro e w1 ⟨rfl, hF1⟩
  have HM1 : Hd _ := H.out.keep hF1
  have HF1 : Hd (Fr (fun _ => False) w w1) := hF1
  clear hF1
  by_cases hd : mayDropX a zs = 0
  · have HX : Hd (dropX a zs = (forgetX (dropA a zs), 0)) := by unfold Hd dropX; rw [if_pos hd]
    have HALL : Hd _ := mayDrop_all hd
    rw [hd]
    go_wp2_with fail
    go_loopw [18] (fun v wr => ∃ (k : Nat) (D' : DataW Unit), v = .int .i64 k ∧ k ≤ zs.length ∧ Hd (Mem wr b { g with D := D' } { a with cells := gone a.cells ((zs.take k).map Int.toNat) }) ∧ Hd (Fr (fun j => g.own j ≠ 0) w wr)) (fun v _ => match v with | .int _ q => zs.length - q.toNat | _ => 0)
    case atStart =>
      refine ⟨0, g.D, rfl, Nat.zero_le _, ?_, HF1.out.mono (fun _ _ h => h.elim)⟩
      unfold Hd
      rw [List.take_zero, List.map_nil, gone_nil]
      exact HM1.out
    case round =>
      obtain ⟨k, D', rfl, hk, HM2, HF2⟩ := hrel
      by_cases hlt : k < zs.length
      · obtain ⟨pb, po, pc, hsv, hpb, hcs⟩ : ∃ pb po pc, Value.slice ad zs.length cap = .slice (some ⟨pb, po, none⟩) zs.length pc ∧ pb < w.heap.size ∧ ∀ j, j < zs.length → w.cell? ⟨pb, po + j, none⟩ = some (.int .i64 (zs[j]?.getD 0)) := by
          rcases HI.out with ⟨_, _, -, e⟩ | hh
          · rw [e] at hlt; simp at hlt
          · exact hh
        cases hsv
        have hcx : wr.cell? ⟨pb, po + k, none⟩ = some (.int .i64 (zs[k]?.getD 0)) := (HF2.out.cell hpb (fun e => e (HSO.out (by intro e; simp [e] at hlt) pb rfl))).trans (hcs k hlt)
        have htk := take_more zs k hlt
        have hmem : zs[k]?.getD 0 ∈ zs := by rw [List.getElem?_eq_getElem hlt]; exact List.getElem_mem hlt
        have hw := List.all_eq_true.1 HALL.out _ hmem
        generalize zs[k]?.getD 0 = x at *
        obtain ⟨hx1, hx2⟩ : 1 ≤ x ∧ x ≤ a.made := by simpa [wasM] using hw
        obtain ⟨i, rfl⟩ := Int.eq_ofNat_of_zero_le (show 0 ≤ x by omega)
        have HTK : Hd _ := htk
        have f2 : wr.cell? ⟨b, 2, none⟩ = some (.map (some g.tb)) := HM2.out.facts.2.2.1
        have HMap : Hd (wr.ownsMap Try.prog 3 Rc g.tb a.made D') := HM2.out.map
        have hkey : keyOf Try.prog 3 (vI i) = some (.int .i64 (i : Int)) := Maps.keyOf_int_mk under3 (wf_nat i (by omega))
        have hk0 : (0 : Int) ≤ k := by omega
        have hk1 : (k : Int) < zs.length := by omega
        clear hcs hmem hw htk hx1 hx2
        go_wp2_with ((at_delete; refine wpList_delete_own _ rfl _ _ 61 3 rfl 22 keyed3 under61 Rc g.tb a.made D' rfl HMap.out _ _ rfl hkey ?_; intro w3 hown3 hturn3; go_frame))
        obtain ⟨k1, k2⟩ := HM2.out.del i hown3 hturn3
        refine ⟨⟨k + 1, D'.del (.int .i64 (i : Int)), by simp, by omega, ?_, HF2.out.trans k2⟩, by simp; omega⟩
        unfold Hd
        rw [show zs.take (k + 1) = _ from HTK.out, List.map_append]
        simp only [List.map_cons, List.map_nil, Int.toNat_natCast]
        rw [← gone_snoc]
        exact k1
      · have hke : k = zs.length := by omega
        subst hke
        have hM2 : Mem wr b { g with D := D' } (dropA a zs) := by have := HM2.out; rw [List.take_length] at this; exact this
        have HM3 : Hd _ := hM2
        have hfine : Fine N (dropA a zs) := ⟨hf.made, hf.frs, hf.pss, hf.pbd⟩
        clear HM2 hM2
        go_wp2_with fail
        refine (forget_any b { g with D := D' } (dropA a zs) wr HM3.out hfine hN).mono ?_
        rintro e w4 ⟨rfl, ps', hM4, hF4⟩
        go_wp2_with fail
        go_ret
        rw [HX.out]
        exact ⟨{ g with D := D', ps := ps' }, rfl, hM4, HF2.out.trans hF4, fun _ _ => rfl⟩
  · have HX : Hd (dropX a zs = (a, mayDropX a zs)) := by unfold Hd dropX; rw [if_neg hd]
    have b0 := eqb_false hd
    go_wp2_with fail
    go_ret
    rw [HX.out]
    exact ⟨g, rfl, HM1.out, HF1.out.mono (fun _ _ h => h.elim), Ext.refl _ _⟩

end Go.Proofs.Ytmdlebolmhnhaaa
