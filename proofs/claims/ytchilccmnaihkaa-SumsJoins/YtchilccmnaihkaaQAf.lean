import Derived.Test.YtchilccmnaihkaaQAbJ
namespace Go.Proofs.Ytchilccmnaihkaa
open Go.RowKit (wrap32 wrap64)
set_option linter.unusedVariables false
set_option linter.unusedSimpArgs false

def sOne : PS := ⟨[0, 9], [[2], [9]]⟩
theorem sOne_right : PS.Right 2 1 sOne := ⟨rfl, rfl, by decide, by decide⟩

theorem alloc_at (w : World) (o : Obj) (n : Nat) : (w.alloc o).heap[n]? = if n = w.heap.size then some o else w.heap[n]? := by
  rcases Nat.lt_trichotomy n w.heap.size with h | h | h
  · rw [if_neg (by omega)]; exact Go.RowKit.Below.heap_alloc w o n h
  · rw [if_pos h, h]; exact heap_new w o
  · rw [if_neg (by omega), Array.getElem?_eq_none (by rw [World.size_alloc]; omega), Array.getElem?_eq_none (by omega)]
theorem some_sa (w : World) (H : Nat) (hH : H = w.heap.size) (W : World) (hW : W = (((((w.alloc (.cells #[vI 2, vI 1, vI 2, .slice none 0 0] 28)).alloc (.cells #[.slice (some ⟨H + 1 + 1, 0, none⟩) 2 2, .slice (some ⟨H + 1 + 1 + 1 + 1 + 1, 0, none⟩) 2 2] 31)).alloc (.cells #[vI 0, vI 9] 3)).alloc (.cells #[vI 2] 3)).alloc (.cells #[vI 9] 3)).alloc (.cells #[.slice (some ⟨H + 1 + 1 + 1, 0, none⟩) 1 1, .slice (some ⟨H + 1 + 1 + 1 + 1, 0, none⟩) 1 1] 22)) :
    W.heap[H]? = some (.cells #[vI 2, vI 1, vI 2, .slice none 0 0] 28) ∧ W.heap[H + 1]? = some (.cells #[.slice (some ⟨H + 1 + 1, 0, none⟩) 2 2, .slice (some ⟨H + 1 + 1 + 1 + 1 + 1, 0, none⟩) 2 2] 31) ∧ SA W (.agg #[.slice (some ⟨H + 1 + 1, 0, none⟩) 2 2, .slice (some ⟨H + 1 + 1 + 1 + 1 + 1, 0, none⟩) 2 2]) sOne ∧ Fr (fun _ => False) w W := by
  have e0 : W.heap[H]? = some (.cells #[vI 2, vI 1, vI 2, .slice none 0 0] 28) := by rw [hW, hH]; simp only [alloc_at, World.size_alloc]; repeat (first | rw [if_pos trivial] | rw [if_pos rfl] | rw [if_neg (by omega)])
  have e1 : W.heap[H + 1]? = some (.cells #[.slice (some ⟨H + 1 + 1, 0, none⟩) 2 2, .slice (some ⟨H + 1 + 1 + 1 + 1 + 1, 0, none⟩) 2 2] 31) := by rw [hW, hH]; simp only [alloc_at, World.size_alloc]; repeat (first | rw [if_pos trivial] | rw [if_pos rfl] | rw [if_neg (by omega)])
  have e2 : W.heap[H + 2]? = some (.cells #[vI 0, vI 9] 3) := by rw [hW, hH]; simp only [alloc_at, World.size_alloc]; repeat (first | rw [if_pos trivial] | rw [if_pos rfl] | rw [if_neg (by omega)])
  have e3 : W.heap[H + 3]? = some (.cells #[vI 2] 3) := by rw [hW, hH]; simp only [alloc_at, World.size_alloc]; repeat (first | rw [if_pos trivial] | rw [if_pos rfl] | rw [if_neg (by omega)])
  have e4 : W.heap[H + 4]? = some (.cells #[vI 9] 3) := by rw [hW, hH]; simp only [alloc_at, World.size_alloc]; repeat (first | rw [if_pos trivial] | rw [if_pos rfl] | rw [if_neg (by omega)])
  have e5 : W.heap[H + 5]? = some (.cells #[.slice (some ⟨H + 1 + 1 + 1, 0, none⟩) 1 1, .slice (some ⟨H + 1 + 1 + 1 + 1, 0, none⟩) 1 1] 22) := by rw [hW, hH]; simp only [alloc_at, World.size_alloc]; repeat (first | rw [if_pos trivial] | rw [if_pos rfl] | rw [if_neg (by omega)])
  refine ⟨e0, e1, ⟨_, _, rfl, mins_ia (l := [0, 9]) e2, ⟨_, 2, rfl, fun _ => ⟨H + 5, 0, rfl, heap_lt e5, fun j hj => ?_⟩⟩⟩, ?_⟩
  · have hj2 : j < 2 := hj
    rcases j with _ | _ | j
    · exact ⟨.slice (some ⟨H + 3, 0, none⟩) 1 1, by rw [cell_of e5]; rfl, mins_ia (l := [2]) e3⟩
    · exact ⟨.slice (some ⟨H + 4, 0, none⟩) 1 1, by rw [cell_of e5]; rfl, mins_ia (l := [9]) e4⟩
    · omega
  · rw [hW]; exact Fr.alloc (Fr.alloc (Fr.alloc (Fr.alloc (Fr.alloc (Fr.alloc (Fr.refl _ w) _) _) _) _) _) _

set_option maxRecDepth 100000 in
set_option maxHeartbeats 1000000 in
theorem some_any (w : World) : Calls Try.prog 20 #[] w fun e w' => ∃ v, e = .returned (.tuple #[.agg #[vI 2, vI 1, vI 2, .slice none 0 0], v]) ∧ SA w' v sOne ∧ Fr (fun _ => False) w w' := by
  obtain ⟨H, hH⟩ : ∃ H, H = w.heap.size := ⟨_, rfl⟩
  have HH : Hd (H = w.heap.size) := hH
  go_enter Try.func20, Try.ntmps20
  go_wp2_with fail
  rw [← hH]
  obtain ⟨W, hW⟩ : ∃ W, W = (((((w.alloc (.cells #[vI 2, vI 1, vI 2, .slice none 0 0] 28)).alloc (.cells #[.slice (some ⟨H + 1 + 1, 0, none⟩) 2 2, .slice (some ⟨H + 1 + 1 + 1 + 1 + 1, 0, none⟩) 2 2] 31)).alloc (.cells #[vI 0, vI 9] 3)).alloc (.cells #[vI 2] 3)).alloc (.cells #[vI 9] 3)).alloc (.cells #[.slice (some ⟨H + 1 + 1 + 1, 0, none⟩) 1 1, .slice (some ⟨H + 1 + 1 + 1 + 1, 0, none⟩) 1 1] 22) := ⟨_, rfl⟩
  obtain ⟨b0, b1, hsa, hf⟩ := some_sa w H hH W hW
  rw [← hW]
  have c0 : W.cell? ⟨H, 0, none⟩ = some (vI 2) := by rw [cell_of b0]; rfl
  have c1 : W.cell? ⟨H, 1, none⟩ = some (vI 1) := by rw [cell_of b0]; rfl
  have c2 : W.cell? ⟨H, 2, none⟩ = some (vI 2) := by rw [cell_of b0]; rfl
  have c3 : W.cell? ⟨H, 3, none⟩ = some (.slice none 0 0) := by rw [cell_of b0]; rfl
  have d0 : W.cell? ⟨H + 1, 0, none⟩ = some (.slice (some ⟨H + 1 + 1, 0, none⟩) 2 2) := by rw [cell_of b1]; rfl
  have d1 : W.cell? ⟨H + 1, 1, none⟩ = some (.slice (some ⟨H + 1 + 1 + 1 + 1 + 1, 0, none⟩) 2 2) := by rw [cell_of b1]; rfl
  refine bodyPost_ret (v := .tuple #[.agg #[vI 2, vI 1, vI 2, .slice none 0 0], .agg #[.slice (some ⟨H + 1 + 1, 0, none⟩) 2 2, .slice (some ⟨H + 1 + 1 + 1 + 1 + 1, 0, none⟩) 2 2]]) ?_ rfl ⟨_, rfl, hsa, hf⟩
  simp [results, Try.results20, go_sem, c0, c1, c2, c3, d0, d1]

abbrev hOne : PH := ⟨2, 1, 2, none, 0, 0⟩
set_option maxRecDepth 100000 in
set_option maxHeartbeats 1000000 in
theorem fixed_any (w : World) : Calls Try.prog 7 #[] w fun e w' => e = .returned (.bool true) ∧ Fr (fun _ => False) w w' := by
  go_enter Try.func7, Try.ntmps7
  go_wp2_with fail
  refine (show Calls Try.prog 20 #[] w _ from some_any w).mono ?_
  rintro e w1 ⟨v, rfl, hsa, hF1⟩
  have HS : Hd (SA w1 v sOne) := hsa
  have HF1 : Hd (Fr (fun _ => False) w w1) := hF1
  obtain ⟨hv, rv, rfl, ⟨ha, hc, rfl, -⟩, ra, rc, rfl, -⟩ := hsa
  clear hF1
  go_wp2_with fail
  obtain ⟨W, hW⟩ : ∃ W, W = (((w1.alloc (.cells #[vI 2, vI 1, vI 2, .slice none 0 0] 28)).alloc (.cells #[.slice ha sOne.heap.length hc, .slice ra sOne.res.length rc] 31)).alloc (.cells #[vI 2, vI 1, vI 2, .slice none 0 0] 28)).alloc (.cells #[.slice ha sOne.heap.length hc, .slice ra sOne.res.length rc] 31) := ⟨_, rfl⟩
  obtain ⟨H, hH⟩ : ∃ H, H = w1.heap.size := ⟨_, rfl⟩
  have e0 : W.heap[H]? = some (.cells #[vI 2, vI 1, vI 2, .slice none 0 0] 28) := by rw [hW, hH]; simp only [alloc_at, World.size_alloc]; repeat (first | rw [if_pos trivial] | rw [if_pos rfl] | rw [if_neg (by omega)])
  have e1 : W.heap[H + 1]? = some (.cells #[.slice ha sOne.heap.length hc, .slice ra sOne.res.length rc] 31) := by rw [hW, hH]; simp only [alloc_at, World.size_alloc]; repeat (first | rw [if_pos trivial] | rw [if_pos rfl] | rw [if_neg (by omega)])
  have e2 : W.heap[H + 1 + 1]? = some (.cells #[vI 2, vI 1, vI 2, .slice none 0 0] 28) := by rw [hW, hH]; simp only [alloc_at, World.size_alloc]; repeat (first | rw [if_pos trivial] | rw [if_pos rfl] | rw [if_neg (by omega)])
  have e3 : W.heap[H + 1 + 1 + 1]? = some (.cells #[.slice ha sOne.heap.length hc, .slice ra sOne.res.length rc] 31) := by rw [hW, hH]; simp only [alloc_at, World.size_alloc]; repeat (first | rw [if_pos trivial] | rw [if_pos rfl] | rw [if_neg (by omega)])
  have hFW : Fr (fun _ => False) w1 W := by rw [hW]; exact Fr.alloc (Fr.alloc (Fr.alloc (Fr.alloc (Fr.refl _ w1) _) _) _) _
  have hsW := HS.out.stay hFW
  have hfs : FsA W (.slice (some ⟨H + 1 + 1, 0, none⟩) 1 1) [hOne] := ⟨_, 1, rfl, fun _ => ⟨_, rfl, heap_lt e2, fun j hj => by
    obtain rfl : j = 0 := by simpa using hj
    exact ⟨by rw [cell_of e2]; rfl, by rw [cell_of e2]; rfl, by rw [cell_of e2]; rfl, by rw [cell_of e2]; rfl⟩⟩⟩
  have hss : SsA W (.slice (some ⟨H + 1 + 1 + 1, 0, none⟩) 1 1) [sOne] := ⟨_, 1, rfl, fun _ => ⟨_, rfl, heap_lt e3, fun j hj => by
    obtain rfl : j = 0 := by simpa using hj
    obtain ⟨hv, rv, e, h1, h2⟩ := hsW
    injection e with e
    have ea : hv = .slice ha sOne.heap.length hc := by have := congrArg (fun a => a[0]?) e; simpa using this.symm
    have eb : rv = .slice ra sOne.res.length rc := by have := congrArg (fun a => a[1]?) e; simpa using this.symm
    exact ⟨hv, rv, by rw [cell_of e3, ea]; rfl, by rw [cell_of e3, eb]; rfl, h1, h2⟩⟩⟩
  rw [← hW, ← hH]
  have B0 : Hd (W.heap[H]? = _) := e0
  have B1 : Hd (W.heap[H + 1]? = _) := e1
  have HS2 : Hd (SA W (.agg #[.slice ha sOne.heap.length hc, .slice ra sOne.res.length rc]) sOne) := hsW
  have HFW : Hd (Fr (fun _ => False) w W) := HF1.out.trans hFW
  have HFS : Hd _ := hfs
  have HSS : Hd _ := hss
  clear e0 e1 e2 e3 hfs hss hsW hFW hW hH
  refine (show Calls Try.prog 15 #[.slice (some ⟨H + 1 + 1, 0, none⟩) 1 1, .slice (some ⟨H + 1 + 1 + 1, 0, none⟩) 1 1] W _ from encode_any _ _ [hOne] [sOne] W HFS.out HSS.out (by simp) (by simp) (by intro s hs; simp at hs; subst hs; exact sOne_right.fits (by omega) (by omega))).mono ?_
  rintro e w2 ⟨bv, rfl, hO, hF2⟩
  have hE0 : encE [hOne] [sOne] = 0 := by decide
  have HO2 : Hd (BOwn w2 W.heap.size bv [0, 2, 9, 9]) := hO hE0
  have HF2 : Hd (Fr (fun _ => False) W w2) := hF2
  rw [hE0]
  obtain ⟨ba, bc, ebv⟩ := own_slice HO2.out
  subst ebv
  clear hO hF2 hE0 HFS HSS
  go_wp2_with fail
  have HN4 : Hd ((w2.alloc (.cells #[.int .u8 0, .int .u8 2, .int .u8 9, .int .u8 9] 5)).heap[w2.heap.size]? = some (.cells #[.int .u8 0, .int .u8 2, .int .u8 9, .int .u8 9] 5)) := heap_new w2 _
  have HF3 : Hd (Fr (fun _ => False) w2 (w2.alloc (.cells #[.int .u8 0, .int .u8 2, .int .u8 9, .int .u8 9] 5))) := Fr.alloc (Fr.refl _ w2) _
  have HB4 : Hd (BA (w2.alloc (.cells #[.int .u8 0, .int .u8 2, .int .u8 9, .int .u8 9] 5)) (.slice (some ⟨w2.heap.size, 0, none⟩) 4 4) [0, 2, 9, 9]) := ⟨_, 4, rfl, fun _ => ⟨_, 0, rfl, heap_lt HN4.out, fun j hj => by
    have hj4 : j < 4 := hj
    rw [Nat.zero_add, cell_of HN4.out]
    rcases j with _ | _ | _ | _ | j
    · rfl
    · rfl
    · rfl
    · rfl
    · omega⟩⟩
  have HB5 : Hd (BA (w2.alloc (.cells #[.int .u8 0, .int .u8 2, .int .u8 9, .int .u8 9] 5)) (.slice ba 4 bc) [0, 2, 9, 9]) := HO2.out.ba.stay HF3.out
  refine (show Calls Try.prog 19 #[.slice ba 4 bc, .slice (some ⟨w2.heap.size, 0, none⟩) 4 4] (w2.alloc (.cells #[.int .u8 0, .int .u8 2, .int .u8 9, .int .u8 9] 5)) _ from eqBytes_any _ _ [0, 2, 9, 9] [0, 2, 9, 9] _ HB5.out HB4.out (by simp) (by simp)).mono ?_
  rintro e w4 ⟨rfl, hF4⟩
  rw [show all2 eqB [0, 2, 9, 9] [0, 2, 9, 9] = true by decide]
  have HFa : Hd (Fr (fun _ => False) W w4) := (HF2.out.trans HF3.out).trans hF4
  have b0 := keepF B0.out HFa.out
  have b1 := keepF B1.out HFa.out
  have c0 : w4.cell? ⟨H, 0, none⟩ = some (vI 2) := by rw [cell_of b0]; rfl
  have c1 : w4.cell? ⟨H, 1, none⟩ = some (vI 1) := by rw [cell_of b0]; rfl
  have c2 : w4.cell? ⟨H, 2, none⟩ = some (vI 2) := by rw [cell_of b0]; rfl
  have c3 : w4.cell? ⟨H, 3, none⟩ = some (.slice none 0 0) := by rw [cell_of b0]; rfl
  have d0 : w4.cell? ⟨H + 1, 0, none⟩ = some (.slice ha sOne.heap.length hc) := by rw [cell_of b1]; rfl
  have d1 : w4.cell? ⟨H + 1, 1, none⟩ = some (.slice ra sOne.res.length rc) := by rw [cell_of b1]; rfl
  clear hF4 b0 b1 HN4 HF3 HB4 HB5 HO2
  go_wp2_with fail
  refine (show Calls Try.prog 11 #[.agg #[vI 2, vI 1, vI 2, .slice none 0 0], .agg #[.slice ha sOne.heap.length hc, .slice ra sOne.res.length rc]] w4 _ from check_any 2 1 2 none 0 0 _ sOne w4 (HS2.out.stay HFa.out) (sOne_right.fits (by omega) (by omega))).mono ?_
  rintro e w5 ⟨rfl, hF5⟩
  rw [show checkE 2 1 sOne = 0 by decide]
  have HF5 : Hd (Fr (fun _ => False) w w5) := (HFW.out.trans HFa.out).trans hF5
  clear hF5 c0 c1 c2 c3 d0 d1
  go_wp2_with fail
  go_ret
  exact ⟨rfl, HF5.out⟩

end Go.Proofs.Ytchilccmnaihkaa
