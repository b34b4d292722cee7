import Derived.Test.YtlmlmhinbkcpoaaDoorQQ7
import Derived.Deep.RegionWith
namespace Go.Proofs.YtlmlmhinbkcpoaaDoor
open Go.RowKit (wrap32 wrap64)
set_option linter.unusedVariables false
set_option linter.unusedSimpArgs false

theorem edges_one (H : Nat) (sa : Option Addr) (sc : Nat) (w : World) (h : P0 w H) (hT : Tab w) (hR : RowsT w) :
    Calls Tryd.prog 9 #[.agg #[vI 0, .slice (some ⟨H + 2, 0, none⟩) 1 1], vI 0, .slice sa 1 sc] w fun e w' => ∃ v, e = .returned (.tuple #[v, vI 0]) ∧ w'.ownsRow w.heap.size 47 3 v 1 [vI 1, vI 2, vI 0] ∧ Fr (fun _ => False) w w' :=
  callsIn_wide.1 (edgesF_in 6 (by omega) H sa sc w h hT hR)

theorem RowsT.stay {w w' : World} (h : RowsT w) (f : Fr (fun _ => False) w w') (h0 : 0 < w.heap.size) : RowsT w' :=
  ⟨(f.cell h0 (fun e => e)).trans h.1, (f.cell h0 (fun e => e)).trans h.2.1, (f.cell h0 (fun e => e)).trans h.2.2.1, (f.cell h0 (fun e => e)).trans h.2.2.2⟩

theorem edges_cells {w2 : World} {B : Nat} {v2 : Value} {xs : List Value} (h : w2.ownsRow B 47 3 v2 1 xs) : ∃ g cap, v2 = .slice (some ⟨g, 0, none⟩) 1 cap ∧ ∀ o u, xs[o]? = some u → w2.cell? ⟨g, o, none⟩ = some u := by
  rcases h.2 with ⟨-, e⟩ | ⟨g, cap, cur, e, -, h2, -, -, h5, h6⟩
  · omega
  · refine ⟨g, cap, e, fun o u hu => ?_⟩
    rw [cell_of0 h2, ← Array.getElem?_toList]
    have hl := (List.getElem?_eq_some_iff.1 hu).1
    have h1 := h.1
    rw [← h6, List.getElem?_take_of_lt (by omega)] at hu
    exact hu
theorem make25 (w : World) : (Instr.makeSlice 25 (.int .i64 1) (.int .i64 1)).run Tryd.prog w = .ok (.slice (some ⟨w.heap.size, 0, none⟩) 1 1) (w.alloc (.cells (madeCells #[.slice none 0 0, .slice none 0 0] (1 * 2)) 34)) := by
  have := run_make_of 25 34 (.agg #[.slice none 0 0, .slice none 0 0]) 2 48 (by kernel_rfl) (by kernel_rfl) (by kernel_rfl) (by kernel_rfl) 1 (by omega) (by omega) w
  exact this

set_option maxRecDepth 100000 in
set_option maxHeartbeats 2000000 in
theorem works_any (w : World) (hT : Tab w) (hR : RowsT w) : Calls Tryd.prog 8 #[] w fun e w' => e = .returned (.bool true) ∧ Fr (fun _ => False) w w' := by
  have hmk := make25
  obtain ⟨wp, hwp⟩ : ∃ wp, wp = (((w.alloc (.cells #[vI 0] 3)).alloc (oZi w.heap.size)).alloc (oZf (w.heap.size + 1))).alloc (.cells #[vI 0, .slice (some ⟨w.heap.size + 2, 0, none⟩) 1 1] 24) := ⟨_, rfl⟩
  have HWP : Hd (wp = (((w.alloc (.cells #[vI 0] 3)).alloc (oZi w.heap.size)).alloc (oZf (w.heap.size + 1))).alloc (.cells #[vI 0, .slice (some ⟨w.heap.size + 2, 0, none⟩) 1 1] 24)) := hwp
  have hFp : Fr (fun _ => False) w wp := by rw [hwp]; exact Fr.alloc (Fr.alloc (Fr.alloc (Fr.alloc (Fr.refl _ w) _) _) _) _
  have hP : P0 wp w.heap.size := by
    rw [hwp]
    refine ⟨?_, ?_, ?_⟩
    · rw [Go.RowKit.Below.heap_alloc _ _ _ (by simp <;> omega), Go.RowKit.Below.heap_alloc _ _ _ (by simp <;> omega), Go.RowKit.Below.heap_alloc _ _ _ (by simp)]; exact heap_new0 w _
    · have := heap_new0 (w.alloc (.cells #[vI 0] 3)) (oZi w.heap.size)
      rw [World.size_alloc] at this
      rw [Go.RowKit.Below.heap_alloc _ _ _ (by simp <;> omega), Go.RowKit.Below.heap_alloc _ _ _ (by simp)]; exact this
    · have := heap_new0 ((w.alloc (.cells #[vI 0] 3)).alloc (oZi w.heap.size)) (oZf (w.heap.size + 1))
      rw [World.size_alloc, World.size_alloc] at this
      rw [Go.RowKit.Below.heap_alloc _ _ _ (by simp)]; exact this
  have hb : wp.heap[w.heap.size + 3]? = some (.cells #[vI 0, .slice (some ⟨w.heap.size + 2, 0, none⟩) 1 1] 24) := by
    have := heap_new0 (((w.alloc (.cells #[vI 0] 3)).alloc (oZi w.heap.size)).alloc (oZf (w.heap.size + 1))) (.cells #[vI 0, .slice (some ⟨w.heap.size + 2, 0, none⟩) 1 1] 24)
    rw [World.size_alloc, World.size_alloc, World.size_alloc] at this
    rw [hwp]; exact this
  obtain ⟨X, hX⟩ : ∃ X, X = w.heap.size := ⟨_, rfl⟩
  have HX : Hd (X = w.heap.size) := hX
  rw [← hX] at hb hP
  have HP : Hd (P0 wp X) := hP
  have HF : Hd (Fr (fun _ => False) w wp) := hFp
  have HT : Hd (Tab wp) := hT.stay hFp
  have HR : Hd (RowsT wp) := hR.stay hFp (by have := hT.lt; omega)
  have p0 : wp.cell? ⟨X + 3, 0, none⟩ = some (vI 0) := by rw [cell_of0 hb]; rfl
  have p1 : wp.cell? ⟨X + 3, 1, none⟩ = some (.slice (some ⟨X + 2, 0, none⟩) 1 1) := by rw [cell_of0 hb]; rfl
  have hbl := heap_lt0 hb
  have ne1 : X + 3 ≠ wp.heap.size := by omega
  have ne2 : wp.heap.size ≠ X + 3 := by omega
  clear hwp hFp hP hX hb
  go_enter Tryd.func8, Tryd.ntmps8
  go_upto_region 2 with fail
  rw [← HWP.out, ← HX.out]
  clear HWP
  go_cut [2, 3] (fun x2 x3 wx => ∃ g cap, x2 = .slice (some ⟨g, 0, none⟩) 1 cap ∧ x3 = vI 0 ∧ Hd (wx.cell? ⟨g, 0, none⟩ = some (vI 1) ∧ wx.cell? ⟨g, 1, none⟩ = some (vI 2) ∧ wx.cell? ⟨g, 2, none⟩ = some (vI 0)) ∧ Hd (Fr (fun _ => False) wp wx))
  case first =>
    go_region_with ((
      go_at_call 9
      refine (show Calls Tryd.prog 9 #[.agg #[vI 0, .slice (some ⟨X + 2, 0, none⟩) 1 1], vI 0, .slice (some ⟨wp.heap.size, 0, none⟩) 1 1] (wp.alloc (.cells (madeCells #[.slice none 0 0, .slice none 0 0] (1 * 2)) 34)).drew _ from edges_one X _ 1 _ (HP.out.fr (Fr.alloc (Fr.refl _ wp) _).drew) (HT.out.stay (Fr.alloc (Fr.refl _ wp) _).drew) (HR.out.stay (Fr.alloc (Fr.refl _ wp) _).drew (by have := HT.out.lt; omega))).mono ?_
      rintro e w2 ⟨v2, rfl, hrow, hF2⟩
      obtain ⟨g, cap, ev, q⟩ : ∃ g cap, v2 = .slice (some ⟨g, 0, none⟩) 1 cap ∧ ∀ o u, [vI 1, vI 2, vI 0][o]? = some u → w2.cell? ⟨g, o, none⟩ = some u := edges_cells hrow
      have HRW : Hd (w2.cell? ⟨g, 0, none⟩ = some (vI 1) ∧ w2.cell? ⟨g, 1, none⟩ = some (vI 2) ∧ w2.cell? ⟨g, 2, none⟩ = some (vI 0)) := ⟨q 0 _ rfl, q 1 _ rfl, q 2 _ rfl⟩
      subst ev
      clear q
      have HF2 : Hd (Fr (fun _ => False) wp w2) := (Fr.alloc (Fr.refl _ wp) _).drew.trans hF2
      clear hrow hF2))
    all_goals
      go_wp2_with fail
      go_meet
      exact ⟨_, _, rfl, rfl, HRW.out, HF2.out⟩
  case rest =>
    obtain ⟨g, cap, rfl, rfl, HRW, HF2⟩ := hcut
    have q0 := HRW.out.1
    have q1 := HRW.out.2.1
    have q2 := HRW.out.2.2
    clear HRW
    go_wp2_with fail
    go_ret
    exact ⟨rfl, HF.out.trans HF2.out⟩

end Go.Proofs.YtlmlmhinbkcpoaaDoor
