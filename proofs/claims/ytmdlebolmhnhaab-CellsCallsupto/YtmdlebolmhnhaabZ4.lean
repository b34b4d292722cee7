import Derived.Test.YtmdlebolmhnhaabY9
import Derived.Test.YtmdlebolmhnhaabZ2
import Derived.Test.YtmdlebolmhnhaabZ3
namespace Go.Proofs.Ytmdlebolmhnhaab
open Go.RowKit (wrap32 wrap64)
open Go.Maps (Keyed)
set_option linter.unusedVariables false
set_option linter.unusedSimpArgs false

/-- Calls that came in. -/
def OpsIn (w : World) (v : Value) (os : List OpR) : Prop :=
  ∃ a c, v = .slice a os.length c ∧ os.length ≤ c ∧ (os ≠ [] → ∃ k o, a = some ⟨k, o, none⟩ ∧ k < w.heap.size ∧ ∀ i (h : i < os.length) (j : Nat), j < 9 → w.cell? ⟨k, o + i * 9 + j, none⟩ = (opC os[i])[j]?)

theorem St.fr {w0 w : World} {wb N : Nat} (h : St w0 wb N w) : Fr (fun _ => False) w0 w := by
  obtain ⟨pb, rb, pg, rg, pa, ra, lv, mv, us, us', h, -⟩ := h
  exact h.fr

theorem does_any (w0 w : World) (wb : Nat) (N : Nat) (hN : N ≤ 2000000) (hst : St w0 wb N w) (o : OpR) (zs : List Int) (hI : IntsAt w0.heap.size w0 o.cells zs) (hz : zs.length ≤ 2000000) :
    Calls Try.prog 6 #[ptr wb, opV o] w fun e w' => e = .returned (.bool true) ∧ St w0 wb (N + 1) w' := by
  rcases and_one o.on with e | e
  · exact does0 w0 w wb N hN hst o zs hI hz e
  · exact does1 w0 w wb N hN hst o zs hI hz e

set_option maxRecDepth 100000 in
set_option maxHeartbeats 4000000 in
theorem calls_walk (pv : Value) (os : List OpR) (zss : Nat → List Int) (w : World) (h : OpsIn w pv os) (hL : ∀ i (hi : i < os.length), IntsAt w.heap.size w os[i].cells (zss i) ∧ (zss i).length ≤ 1048576) (hx : os.length ≤ 1048576) :
    Calls Try.prog 3 #[pv] w fun e w' => e = .returned (.bool true) ∧ Fr (fun _ => False) w w' := by
  obtain ⟨a0, c0, rfl, hc0, hin⟩ := h
  have HIN : Hd _ := hin
  have HL : Hd _ := hL
  clear hin hL
  go_enter Try.func3, Try.ntmps3
  go_wp2_with fail
  refine (fixed_any w).mono ?_
  rintro e w1 ⟨rfl, hF1⟩
  have HF1 : Hd _ := hF1
  clear hF1
  go_wp2_with fail
  refine (begun_any w1).mono ?_
  rintro e w2 ⟨wb, rfl, hs⟩
  have HS2 : Hd (St w1 wb 1 w2) := hs
  clear hs
  go_wp2_with fail
  go_loopw [3, 5] (fun ok v wr => ∃ (k : Nat), ok = .bool true ∧ v = .int .i64 k ∧ k ≤ os.length ∧ Hd (St w1 wb (k + 1) wr)) (fun _ v _ => match v with | .int _ q => os.length - q.toNat | _ => 0)
  case atStart => exact ⟨0, rfl, rfl, Nat.zero_le _, HS2.out⟩
  case round =>
    obtain ⟨k, rfl, rfl, hk, HS⟩ := hrel
    clear HS2
    by_cases hlt : k < os.length
    · obtain ⟨pk, po, rfl, hpk, hcs⟩ := HIN.out (by intro e; simp [e] at hlt)
      have hgr : Fr (fun _ => False) w wr := HF1.out.trans (St.fr HS.out)
      have hcell : ∀ j, j < 9 → wr.cell? ⟨pk, po + k * 9 + j, none⟩ = (opC os[k])[j]? := fun j hj => (hgr.cell hpk (fun h => h)).trans (hcs k hlt j hj)
      have HI : Hd (IntsAt w1.heap.size w1 os[k].cells (zss k)) := (HL.out k hlt).1.fr HF1.out (fun _ _ e => e)
      have hzl : (zss k).length ≤ 1048576 := (HL.out k hlt).2
      obtain ⟨o, ho⟩ : ∃ o, os[k] = o := ⟨_, rfl⟩
      rw [ho] at hcell HI
      have p0 : wr.cell? ⟨pk, po + k * 9, none⟩ = some (vI o.kind) := hcell 0 (by omega)
      have p1 : wr.cell? ⟨pk, po + k * 9 + 1, none⟩ = some (vI o.on) := hcell 1 (by omega)
      have p2 : wr.cell? ⟨pk, po + k * 9 + 2, none⟩ = some (vI o.n) := hcell 2 (by omega)
      have p3 : wr.cell? ⟨pk, po + k * 9 + 3, none⟩ = some (.bool o.heap) := hcell 3 (by omega)
      have p4 : wr.cell? ⟨pk, po + k * 9 + 4, none⟩ = some (vI o.v.1) := hcell 4 (by omega)
      have p5 : wr.cell? ⟨pk, po + k * 9 + 5, none⟩ = some (vI o.v.2) := hcell 5 (by omega)
      have p6 : wr.cell? ⟨pk, po + k * 9 + 6, none⟩ = some (vI o.w.1) := hcell 6 (by omega)
      have p7 : wr.cell? ⟨pk, po + k * 9 + 7, none⟩ = some (vI o.w.2) := hcell 7 (by omega)
      have p8 : wr.cell? ⟨pk, po + k * 9 + 8, none⟩ = some o.cells := hcell 8 (by omega)
      clear hcell hcs hgr ho
      have hk0 : (0 : Int) ≤ k := by omega
      have hk1 : (k : Int) < os.length := by omega
      go_wp2_with fail
      refine (show Calls Try.prog 6 #[ptr wb, opV o] wr _ from does_any w1 wr wb (k + 1) (by omega) HS.out o (zss k) HI.out (by omega)).mono ?_
      rintro e w3 ⟨rfl, hs⟩
      have HS3 : Hd (St w1 wb (k + 1 + 1) w3) := hs
      clear hs p0 p1 p2 p3 p4 p5 p6 p7 p8
      go_wp2_with fail
      refine ⟨⟨k + 1, by simp, by simp, by omega, HS3.out⟩, by simp; omega⟩
    · have hke : k = os.length := by omega
      subst hke
      go_wp2_with fail
      refine (show Calls Try.prog 7 #[ptr wb] wr _ from alike_any w1 wr wb (os.length + 1) (by omega) HS.out).mono ?_
      rintro e w3 ⟨rfl, hF3⟩
      have HF3 : Hd (Fr (fun _ => False) w w3) := (HF1.out.trans (St.fr HS.out)).trans hF3
      clear hF3
      go_wp2_with fail
      go_ret
      exact ⟨by simp, HF3.out⟩

end Go.Proofs.Ytmdlebolmhnhaab
