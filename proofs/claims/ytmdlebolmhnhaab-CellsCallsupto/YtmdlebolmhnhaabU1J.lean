import Derived.Test.YtmdlebolmhnhaabQ6
namespace Go.Proofs.Ytmdlebolmhnhaab
open Go.RowKit (wrap32 wrap64)
open Go.Maps (Keyed)
set_option linter.unusedVariables false
set_option linter.unusedSimpArgs false

theorem take_snocI (zs : List Int) (k : Nat) (h : k < zs.length) : (zs.take (k + 1)).map vI = (zs.take k).map vI ++ [vI zs[k]] := by
  rw [List.take_add_one, List.getElem?_eq_getElem h, List.map_append]
  rfl

set_option maxRecDepth 100000 in
set_option maxHeartbeats 1000000 in
/-- CopyInts. -/
theorem copyInts_any (sv : Value) (zs : List Int) (w : World) (hI : IntsAt w.heap.size w sv zs) (hzl : zs.length ≤ 100000000) :
    Calls Try.prog 45 #[sv] w fun e w' => ∃ v, e = .returned v ∧ w'.ownsRow w.heap.size 3 1 v zs.length (zs.map vI) ∧ Fr (fun _ => False) w w' := by
  obtain ⟨sa, sc, rfl, hsv⟩ := IntsAt.shapeR hI
  have HSV : Hd _ := hsv
  clear hsv hI
  go_enter Try.func45, Try.ntmps45
  go_wp2_with fail
  go_loopw [3, 4] (fun u v wr => ∃ (k : Nat), v = .int .i64 k ∧ k ≤ zs.length ∧ Hd (wr.ownsRow w.heap.size 3 1 u k ((zs.take k).map vI)) ∧ Hd (Fr (fun _ => False) w wr)) (fun _ v _ => match v with | .int _ q => zs.length - q.toNat | _ => 0)
  case atStart => exact ⟨0, rfl, Nat.zero_le _, World.ownsRow_nil _ _ _ _, Fr.refl _ _⟩
  case round =>
    obtain ⟨k, rfl, hk, HRow, HF⟩ := hrel
    by_cases hlt : k < zs.length
    · obtain ⟨pb, po, rfl, hpb, hcs⟩ := HSV.out (by intro e; simp [e] at hlt)
      have p0 := (HF.out.cell hpb (fun h => h)).trans (hcs k hlt)
      have HTS : Hd _ := take_snocI zs k hlt
      generalize zs[k] = z at *
      have hk0 : (0 : Int) ≤ k := by omega
      have hk1 : (k : Int) < zs.length := by omega
      obtain ⟨i3, hi, hz3, hs3, hb3⟩ := info_parts (P := Try.prog) (e := 3) (z := .int .i64 0) (size := 1) (bytes := 8) (by kernel_rfl)
      have HRowA : Hd ((wr.alloc (.cells #[vI z] 3)).ownsRow w.heap.size 3 1 u3 k ((zs.take k).map vI)) := World.ownsRow.alloc HRow.out (.cells #[vI z] 3)
      have hnews : ∀ j u, [vI z][j]? = some u → (wr.alloc (.cells #[vI z] 3)).cell? ((⟨wr.heap.size, 0, none⟩ : Addr).add j) = some u :=
        World.news_of_block (w := (wr.alloc (.cells #[vI z] 3))) (cs := #[vI z]) (heap_alloc_last wr (.cells #[vI z] 3))
      have hsw := HF.out.size
      have hw1 : (wr.alloc (.cells #[vI z] 3)).heap.size = wr.heap.size + 1 := by simp
      have hbase : w.heap.size ≤ (wr.alloc (.cells #[vI z] 3)).heap.size := by rw [hw1]; omega
      have hmx : k + 1 ≤ maxLen := by unfold maxLen; omega
      clear hcs
      go_wp2_with ((at_builtin; refine wpList_append_lies _ rfl (.tmp 11) (.tmp 16) 29 rfl w.heap.size 3 i3 (.int .i64 0) 1 8 under39 hi hz3 hs3 hb3 rfl (by omega) u3 k _ rfl HRowA.out ⟨wr.heap.size, 0, none⟩ 1 1 [vI z] rfl rfl hnews (by intro u hu; simp at hu; subst hu; rfl) (by omega) hmx (by omega) hbase (wr.heap.size + 1) hw1 ?_; intro g6 cap6 w6 hown6 hgrow6 hat6 hlt6))
      have hF6 : Fr (fun j => u3.ownBlock = some j) (wr.alloc (.cells #[vI z] 3)) w6 := grown_fr hgrow6
      have hFa : Fr (fun _ => False) wr (wr.alloc (.cells #[vI z] 3)) := Fr.alloc (Fr.refl _ wr) _
      have hG6 : Fr (fun _ => False) w w6 := (HF.out.trans hFa).then hF6 (fun j hj e => by have := (World.ownsRow.lt HRow.out j e).1; omega)
      refine ⟨⟨k + 1, by simp, by omega, ?_, hG6⟩, by simp; omega⟩
      unfold Hd
      rw [HTS.out]
      exact hown6
    · have hke : k = zs.length := by omega
      subst hke
      go_wp2_with fail
      go_ret
      have hrow := HRow.out
      rw [List.take_length] at hrow
      exact ⟨u3, rfl, hrow, HF.out⟩

/-- The marks behind a list. -/
def marks (k : Nat) : List Int := (List.range k).map fun i : Nat => -1 - (i : Int)
theorem marks_snoc (k : Nat) : marks (k + 1) = marks k ++ [-1 - (k : Int)] := by unfold marks; rw [List.range_succ, List.map_append]; rfl
theorem marks_len (k : Nat) : (marks k).length = k := by simp [marks]

set_option maxRecDepth 100000 in
set_option maxHeartbeats 1000000 in
/-- ints: a list with marks behind it. -/
theorem ints_any (sv : Value) (zs : List Int) (w : World) (hI : IntsAt w.heap.size w sv zs) (hzl : zs.length ≤ 10000000) :
    Calls Try.prog 31 #[sv] w fun e w' => ∃ v, e = .returned v ∧ w'.ownsRow w.heap.size 3 1 v (zs.length + 64) ((zs ++ marks 64).map vI) ∧ Fr (fun _ => False) w w' := by
  have HI : Hd _ := hI
  clear hI
  go_enter Try.func31, Try.ntmps31
  go_wp2_with fail
  refine (show Calls Try.prog 45 #[sv] w _ from copyInts_any sv zs w HI.out (by omega)).mono ?_
  rintro e w1 ⟨v1, rfl, hr1, hF1⟩
  have HR1 : Hd (w1.ownsRow w.heap.size 3 1 v1 (zs.length + 0) ((zs ++ marks 0).map vI)) := by unfold Hd; simpa [marks] using hr1
  have HF1 : Hd _ := hF1
  clear hr1 hF1
  go_wp2_with fail
  go_loopw [3, 4] (fun u v wr => ∃ (k : Nat), v = .int .i64 k ∧ k ≤ 64 ∧ Hd (wr.ownsRow w.heap.size 3 1 u (zs.length + k) ((zs ++ marks k).map vI)) ∧ Hd (Fr (fun _ => False) w wr)) (fun _ v _ => match v with | .int _ q => 64 - q.toNat | _ => 0)
  case atStart => exact ⟨0, rfl, Nat.zero_le _, HR1.out, HF1.out⟩
  case round =>
    obtain ⟨k, rfl, hk, HRow, HF⟩ := hrel
    clear HR1 HF1
    by_cases hlt : k < 64
    · have dk : decide ((k : Int) < 64) = true := by simp; omega
      obtain ⟨i3, hi, hz3, hs3, hb3⟩ := info_parts (P := Try.prog) (e := 3) (z := .int .i64 0) (size := 1) (bytes := 8) (by kernel_rfl)
      have HRowA : Hd ((wr.alloc (.cells #[vI (-1 - (k : Int))] 3)).ownsRow w.heap.size 3 1 u3 (zs.length + k) ((zs ++ marks k).map vI)) := World.ownsRow.alloc HRow.out (.cells #[vI (-1 - (k : Int))] 3)
      have hnews : ∀ j u, [vI (-1 - (k : Int))][j]? = some u → (wr.alloc (.cells #[vI (-1 - (k : Int))] 3)).cell? ((⟨wr.heap.size, 0, none⟩ : Addr).add j) = some u :=
        World.news_of_block (w := (wr.alloc (.cells #[vI (-1 - (k : Int))] 3))) (cs := #[vI (-1 - (k : Int))]) (heap_alloc_last wr (.cells #[vI (-1 - (k : Int))] 3))
      have hsw := HF.out.size
      have hw1 : (wr.alloc (.cells #[vI (-1 - (k : Int))] 3)).heap.size = wr.heap.size + 1 := by simp
      have hbase : w.heap.size ≤ (wr.alloc (.cells #[vI (-1 - (k : Int))] 3)).heap.size := by rw [hw1]; omega
      have hmx : zs.length + k + 1 ≤ maxLen := by unfold maxLen; omega
      go_wp2_with ((at_builtin; refine wpList_append_lies _ rfl (.tmp 11) (.tmp 14) 29 rfl w.heap.size 3 i3 (.int .i64 0) 1 8 under39 hi hz3 hs3 hb3 rfl (by omega) u3 (zs.length + k) _ rfl HRowA.out ⟨wr.heap.size, 0, none⟩ 1 1 [vI (-1 - (k : Int))] rfl rfl hnews (by intro u hu; simp at hu; subst hu; rfl) (by omega) hmx (by omega) hbase (wr.heap.size + 1) hw1 ?_; intro g6 cap6 w6 hown6 hgrow6 hat6 hlt6))
      have hF6 : Fr (fun j => u3.ownBlock = some j) (wr.alloc (.cells #[vI (-1 - (k : Int))] 3)) w6 := grown_fr hgrow6
      have hFa : Fr (fun _ => False) wr (wr.alloc (.cells #[vI (-1 - (k : Int))] 3)) := Fr.alloc (Fr.refl _ wr) _
      have hG6 : Fr (fun _ => False) w w6 := (HF.out.trans hFa).then hF6 (fun j hj e => by have := (World.ownsRow.lt HRow.out j e).1; omega)
      refine ⟨⟨k + 1, by simp, by omega, ?_, hG6⟩, by simp; omega⟩
      unfold Hd
      rw [marks_snoc, ← List.append_assoc, List.map_append]
      exact hown6
    · have hke : k = 64 := by omega
      subst hke
      go_wp2_with fail
      go_ret
      exact ⟨u3, rfl, HRow.out, HF.out⟩

end Go.Proofs.Ytmdlebolmhnhaab

namespace Go.Proofs.Ytmdlebolmhnhaab
open Go.RowKit (wrap32 wrap64)
open Go.Maps (Keyed)
set_option linter.unusedVariables false
set_option linter.unusedSimpArgs false

/-! ### the calls of a nil memory -/
abbrev nilM : Value := .pointer none

theorem push_nil (w : World) : Calls Try.prog 9 #[nilM] w fun e w' => e = .returned (vI 1) ∧ w' = w := by
  go_enter Try.func9, Try.ntmps9
  go_wp2_with fail
  go_ret
  exact ⟨rfl, rfl⟩
theorem pop_nil (w : World) : Calls Try.prog 13 #[nilM] w fun e w' => e = .returned (vI 1) ∧ w' = w := by
  go_enter Try.func13, Try.ntmps13
  go_wp2_with fail
  go_ret
  exact ⟨rfl, rfl⟩
theorem make_nil (n : Int) (heap : Bool) (w : World) : Calls Try.prog 10 #[nilM, vI n, .bool heap] w fun e w' => e = .returned (.tuple #[vI 0, vI 1]) ∧ w' = w := by
  go_enter Try.func10, Try.ntmps10
  go_wp2_with fail
  go_ret2
  exact ⟨rfl, rfl⟩
theorem right_nil (v : Val) (w : World) : Calls Try.prog 25 #[nilM, vv v] w fun e w' => e = .returned (.bool false) ∧ Fr (fun _ => False) w w' := by
  go_enter Try.func25, Try.ntmps25
  go_wp2_with fail
  go_ret
  exact ⟨rfl, Fr.alloc (Fr.refl _ w) _⟩
theorem hasGlobal_nil (n : Int) (w : World) : Calls Try.prog 43 #[nilM, vI n] w fun e w' => e = .returned (.bool false) ∧ w' = w := by
  go_enter Try.func43, Try.ntmps43
  go_wp2_with fail
  go_ret
  exact ⟨rfl, rfl⟩
theorem live_nil (w : World) : Calls Try.prog 20 #[nilM] w fun e w' => e = .returned (.slice none 0 0) ∧ w' = w := by
  go_enter Try.func20, Try.ntmps20
  go_wp2_with fail
  go_ret
  exact ⟨rfl, rfl⟩
theorem drop_nil (sv : Value) (w : World) : Calls Try.prog 32 #[nilM, sv] w fun e w' => e = .returned (vI 1) ∧ w' = w := by
  go_enter Try.func32, Try.ntmps32
  go_wp2_with fail
  go_ret
  exact ⟨rfl, rfl⟩

set_option maxRecDepth 100000 in
theorem load_nil (v : Val) (f : Int) (w : World) : Calls Try.prog 12 #[nilM, vv v, vI f] w fun e w' => e = .returned (.tuple #[vv (0, 0), vI 1]) ∧ Fr (fun _ => False) w w' := by
  obtain ⟨A1, A2, A3, hF⟩ := alloc2 w (.cells #[vI v.1, vI v.2] 28) (.cells #[vI 0, vI 0] 28)
  go_enter Try.func12, Try.ntmps12
  go_wp2_with fail
  generalize (w.alloc (.cells #[vI v.1, vI v.2] 28)).alloc (.cells #[vI 0, vI 0] 28) = w1 at *
  refine (show Calls Try.prog 25 #[nilM, vv v] w1 _ from right_nil v w1).mono ?_
  rintro e w2 ⟨rfl, hF12⟩
  have B2 := (hF12.block _ (heap_lt A2) (fun h => h)).trans A2
  have hF2 := hF.trans hF12
  have d3 : w2.cell? ⟨w.heap.size + 1, 0, none⟩ = some (vI 0) := by rw [cell_of B2]; rfl
  have d4 : w2.cell? ⟨w.heap.size + 1, 1, none⟩ = some (vI 0) := by rw [cell_of B2]; rfl
  have z3 : w2.frozen? ⟨w.heap.size + 1, 0, none⟩ = false := frozen_of B2 0
  have z4 : w2.frozen? ⟨w.heap.size + 1, 1, none⟩ = false := frozen_of B2 1
  have hlt : w.heap.size + 1 < w2.heap.size := heap_lt B2
  clear A1 A2 A3 hF hF12
  go_wp2_with fail
  obtain ⟨q0, q1⟩ := res_cells B2 (vI 0) (vI 0)
  refine bodyPost_ret (by simp [results, Try.results12, go_sem, q0, q1]; try rfl) rfl ?_
  exact ⟨rfl, Fr.setCell (Fr.setCell hF2 _ _ (Or.inr (by simp))) _ _ (Or.inr (by simp))⟩

set_option maxRecDepth 100000 in
theorem store_nil (v : Val) (f : Int) (x : Val) (w : World) : Calls Try.prog 11 #[nilM, vv v, vI f, vv x] w fun e w' => e = .returned (vI 1) ∧ Fr (fun _ => False) w w' := by
  obtain ⟨A1, A2, A3, hF⟩ := alloc2 w (.cells #[vI v.1, vI v.2] 28) (.cells #[vI x.1, vI x.2] 28)
  have d1 : ((w.alloc (.cells #[vI v.1, vI v.2] 28)).alloc (.cells #[vI x.1, vI x.2] 28)).cell? ⟨w.heap.size, 0, none⟩ = some (vI v.1) := by rw [cell_of A1]; rfl
  have d2 : ((w.alloc (.cells #[vI v.1, vI v.2] 28)).alloc (.cells #[vI x.1, vI x.2] 28)).cell? ⟨w.heap.size, 1, none⟩ = some (vI v.2) := by rw [cell_of A1]; rfl
  go_enter Try.func11, Try.ntmps11
  go_wp2_with fail
  generalize (w.alloc (.cells #[vI v.1, vI v.2] 28)).alloc (.cells #[vI x.1, vI x.2] 28) = w1 at *
  refine (show Calls Try.prog 25 #[nilM, vv v] w1 _ from right_nil v w1).mono ?_
  rintro e w2 ⟨rfl, hF12⟩
  have HF2 : Hd _ := hF.trans hF12
  clear A1 A2 A3 hF hF12 d1 d2
  go_wp2_with fail
  go_ret
  exact ⟨rfl, HF2.out⟩

set_option maxRecDepth 100000 in
theorem global_nil (n : Int) (w : World) : Calls Try.prog 23 #[nilM, vI n] w fun e w' => e = .returned (.tuple #[vv (0, 0), vI 1]) ∧ Fr (fun _ => False) w w' := by
  have B := heap_alloc_last w (.cells #[vI 0, vI 0] 28)
  have hF : Fr (fun _ => False) w (w.alloc (.cells #[vI 0, vI 0] 28)) := Fr.alloc (Fr.refl _ w) _
  go_enter Try.func23, Try.ntmps23
  go_wp2_with fail
  generalize w.alloc (.cells #[vI 0, vI 0] 28) = w1 at *
  refine (show Calls Try.prog 43 #[nilM, vI n] w1 _ from hasGlobal_nil n w1).mono ?_
  rintro e w2 ⟨rfl, rfl⟩
  have d3 : w2.cell? ⟨w.heap.size, 0, none⟩ = some (vI 0) := by rw [cell_of B]; rfl
  have d4 : w2.cell? ⟨w.heap.size, 1, none⟩ = some (vI 0) := by rw [cell_of B]; rfl
  have z3 : w2.frozen? ⟨w.heap.size, 0, none⟩ = false := frozen_of B 0
  have z4 : w2.frozen? ⟨w.heap.size, 1, none⟩ = false := frozen_of B 1
  have hlt : w.heap.size < w2.heap.size := heap_lt B
  go_wp2_with fail
  obtain ⟨q0, q1⟩ := res_cells B (vI 0) (vI 0)
  refine bodyPost_ret (by simp [results, Try.results23, go_sem, q0, q1]; try rfl) rfl ?_
  exact ⟨rfl, Fr.setCell (Fr.setCell hF _ _ (Or.inr (by simp))) _ _ (Or.inr (by simp))⟩

set_option maxRecDepth 100000 in
theorem setGlobal_nil (n : Int) (x : Val) (w : World) : Calls Try.prog 37 #[nilM, vI n, vv x] w fun e w' => e = .returned (vI 1) ∧ Fr (fun _ => False) w w' := by
  have hF : Fr (fun _ => False) w (w.alloc (.cells #[vI x.1, vI x.2] 28)) := Fr.alloc (Fr.refl _ w) _
  go_enter Try.func37, Try.ntmps37
  go_wp2_with fail
  generalize w.alloc (.cells #[vI x.1, vI x.2] 28) = w1 at *
  refine (show Calls Try.prog 43 #[nilM, vI n] w1 _ from hasGlobal_nil n w1).mono ?_
  rintro e w2 ⟨rfl, rfl⟩
  have HF : Hd _ := hF
  clear hF
  go_wp2_with fail
  go_ret
  exact ⟨rfl, HF.out⟩

end Go.Proofs.Ytmdlebolmhnhaab
