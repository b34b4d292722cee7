import Derived.Test.YtingenonbkencaaDoorQMn
import Derived.JoinedCond
import Derived.Test.YtingenonbkencaaDoorCards
import Derived.Test.YtingenonbkencaaDoorTie
import Derived.Deep.DeepHandedRow
import Derived.Lib.LaidTab
set_option linter.unusedVariables false
set_option linter.unusedSimpArgs false
namespace Go.Proofs.YtingenonbkencaaDoor
open Go.ChangeShapes Go.WideShapes Go.ChangeAt Go.RowKit
theorem knob : ownKnob Tryd.prog.godebug = none := by kernel_rfl
theorem laysOut : laidOutB Tryd.prog = true := by kernel_rfl
theorem gTab : Tryd.prog.globalNamed "fugue/code.numberSizes" = some 0 := by kernel_rfl
theorem gTabType : (Tryd.prog.globals[0]?).map (·.type) = some 130 := by kernel_rfl
theorem under130 : Tryd.prog.underlying 130 = some (.array 18 3) := by kernel_rfl
theorem under4 : Tryd.prog.underlying 4 = some .bool := by kernel_rfl
theorem under5 : Tryd.prog.underlying 5 = some (.int .u8) := by kernel_rfl
theorem cells130 : Tryd.prog.cellsOf 130 = 18 := by kernel_rfl
theorem tab_is {W : World} (ht : Lib.TabIs Tryd.prog W "fugue/code.numberSizes" .i64 [0, 8, 0, 0, 0, 0, 1, 1, 1, 1, 1, 2, 0, 2, 2, 0, 0, 0]) : Tab W := by
  intro op hop
  have hc := ht.cell gTab op (by simpa using hop)
  rw [hc]
  simp only [Option.some.injEq, Value.int.injEq, true_and]
  match op, hop with
  | 0, _ | 1, _ | 2, _ | 3, _ | 4, _ | 5, _ | 6, _ | 7, _ | 8, _ | 9, _ | 10, _ | 11, _ | 12, _ | 13, _ | 14, _ | 15, _ | 16, _ | 17, _ => rfl
  | n + 18, h => exact absurd h (by omega)
def asBytes (zs : List Int) : List UInt8 := zs.map (fun z => UInt8.ofNat z.toNat)
theorem byt5 : Tryd.prog.bytesOf 5 = 1 := by kernel_rfl
theorem bytes_of {H : Type} {enc : TypeId × Value → H} {W : World} {a : Option Addr} {len cap : Nat} {d : DataW H} {ps : List MemPlace} (h : DataW.Trod enc Tryd.prog W 0 (fun _ => true) true 22 (.slice a len cap) d ps) (hs : ∀ q ∈ d.weights Tryd.prog 22, q ≤ reachBytes) :
    ∃ bs : List UInt8, BytesIn W (.slice a len cap) bs ∧ bs.length ≤ 140737488351232 := by
  obtain ⟨fuel, hf⟩ := h
  rcases open_ints Tryd.underlying22 under5 (by kernel_rfl) hf with ⟨hcs, _⟩ | ⟨x, l, c, zs, hcs, _, hl, hm, hz, hx, hcell, hwz⟩
  · simp [Value.cells] at hcs
    obtain ⟨rfl, rfl, rfl⟩ := hcs
    exact ⟨[], ⟨by simp, none, 0, rfl, Nat.le_refl _, fun h => absurd rfl h⟩, by simp⟩
  · simp [Value.cells] at hcs
    obtain ⟨rfl, rfl, rfl⟩ := hcs
    have hzc : zs.length = cap := by simpa using hz
    have hd : d = .slice (lits .u8 (zs.take len)) (lits .u8 (zs.drop len)) := (Prod.mk.inj hx).1
    have hlen : (asBytes (zs.take len)).length = len := by simp [asBytes]; omega
    have hbl : len ≤ 140737488351232 := by
      have h1 : ((lits (H := H) .u8 (zs.take len)).length + (lits (H := H) .u8 (zs.drop len)).length) * 1 ≤ reachBytes := by
        apply hs
        rw [hd]
        simp only [DataW.weights, Tryd.underlying22, byt5]
        exact List.mem_cons_self
      rw [reach_is] at h1
      have h2 : (lits (H := H) .u8 (zs.take len)).length = len := by simp [lits]; omega
      omega
    refine ⟨asBytes (zs.take len), ?_⟩
    refine ⟨⟨by omega, some x, cap, by rw [hlen], by omega, fun hne => ?_⟩, by omega⟩
    obtain ⟨b, off, spot⟩ := x
    have hpos : 0 < len := by
      rcases Nat.eq_zero_or_pos len with h0 | h0
      · exfalso; apply hne; rw [h0]; rfl
      · exact h0
    have hspot : spot = none := by simpa [Addr.add] using World.cell?_spot (hcell 0 (by omega))
    subst hspot
    have hc : ∀ i, i < len → W.cell? ⟨b, off + i, none⟩ = some (.int .u8 (zs.getD i 0)) := fun i hi => by
      have := hcell i (by omega)
      rw [addr_off] at this
      exact this
    refine ⟨b, off, rfl, cell_lt (hc 0 hpos), fun i hi => ?_⟩
    rw [hc i (by omega)]
    have hi' : i < zs.length := by omega
    have hw := hwz zs[i] (List.getElem_mem hi')
    have hz0 : 0 ≤ zs[i] ∧ zs[i] ≤ 255 := bounds_u8 hw
    have hv : ((asBytes (zs.take len))[i]).toNat = zs[i].toNat := by
      simp only [asBytes, List.getElem_map, List.getElem_take]
      simp
      omega
    rw [hv]
    simp [hi']
    omega
end Go.Proofs.YtingenonbkencaaDoor
