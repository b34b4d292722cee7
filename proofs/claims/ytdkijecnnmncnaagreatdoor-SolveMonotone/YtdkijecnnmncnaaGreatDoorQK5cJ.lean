import Derived.Test.YtdkijecnnmncnaaGreatDoorQK2J
namespace Go.Proofs.YtdkijecnnmncnaaGreatDoor
open Go.RowKit (wrap32 wrap64)
set_option linter.unusedVariables false
set_option linter.unusedSimpArgs false
set_option maxRecDepth 100000
set_option maxHeartbeats 1000000
theorem plain_7 (w : World) (op zr zs zt zn : Int) (aa ra : Option Addr) (la ca lr cr : Nat) (hn : ∀ c, namesB op c = namesB 7 c) :
 Calls Tryz.prog 129 #[.agg #[vI op, vI zr, vI zs, vI zt, vI zn, .slice aa la ca, .slice ra lr cr]] w fun e w' => e = .returned (.bool ((tested (namesB 7)).all fun p => (zzOf (zeros6 zr zs zt zn la lr) p.1 == 0) || p.2)) ∧ Fr (fun _ => False) w w' := by
 obtain ⟨w0, HW⟩ : ∃ w0, w0 = w.alloc (.cells #[vI op, vI zr, vI zs, vI zt, vI zn, .slice aa la ca, .slice ra lr cr] 79) := ⟨_, rfl⟩
 have hf0 : Hd (Fr (fun _ => False) w w0) := by unfold Hd; rw [HW]; exact Fr.alloc (Fr.refl _ _) _
 have hb : w.heap.size < w0.heap.size := by rw [HW]; simp
 have hm : ∀ p ∈ ([(0, vI op), (1, vI zr), (2, vI zs), (3, vI zt), (4, vI zn), (5, .slice aa la ca), (6, .slice ra lr cr)] : List (Nat × Value)), w0.cell? ⟨w.heap.size, p.1, none⟩ = some p.2 := fun p hp => by
  simp only [List.mem_cons, List.not_mem_nil, or_false] at hp
  rw [HW]
  rcases hp with rfl | rfl | rfl | rfl | rfl | rfl | rfl <;> (rw [World.cell?_alloc_at _ _ _ _ rfl]; rfl)
 have HM : Hd (∀ q v, memOf ([(0, vI op), (1, vI zr), (2, vI zs), (3, vI zt), (4, vI zn), (5, .slice aa la ca), (6, .slice ra lr cr)] : List (Nat × Value)) q = some v → w0.cell? ⟨w.heap.size, q, none⟩ = some v) := memOf_sound hm
 have HN : Hd (∀ c, namesB op c = namesB 7 c) := hn
 clear hm hn
 go_enter Tryz.func129, Tryz.ntmps129
 iterate 14 go_step
 rw [← HW]
 clear HW
 refine wpList_ev3 (b := w.heap.size) (op := op) (nmf := namesB 7) (w0 := w0) (zz := zzOf []) (tb := tbOf []) HN.out hb HM.out (zzOf_sound (fun _ h => by cases h)) (by kernel_rfl) (by kernel_rfl) (Fr.refl _ _) (fun w1 hf1 => ?_)
 iterate 4 go_step
 refine wpList_ev3 (b := w.heap.size) (op := op) (nmf := namesB 7) (w0 := w0) (zz := zzOf []) (tb := tbOf []) HN.out hb HM.out (zzOf_sound (fun _ h => by cases h)) (by kernel_rfl) (by kernel_rfl) hf1 (fun w2 hf2 => ?_)
 iterate 4 go_step
 refine wpList_ev4 (b := w.heap.size) (op := op) (nmf := namesB 7) (w0 := w0) (zz := zzOf (zeros6 zr zs zt zn la lr)) 2 (conjT (tested (namesB 7))) HN.out hb HM.out (by kernel_rfl) (by kernel_rfl) hf2 (fun a' w3 hf3 hx hd => ?_)
 simp only [Exit.then]
 go_wp2_with fail
 refine bodyPost_ret (v := .bool ((conjT (tested (namesB 7))).ev fun d => zzOf (zeros6 zr zs zt zn la lr) d == 0)) (fn := Tryz.f129) ?_ hd ⟨?_, hf0.out.trans hf3⟩
 ·rw [results_tmp Tryz.results129, hx]
 ·rw [conjT_ev]
theorem plain_8 (w : World) (op zr zs zt zn : Int) (aa ra : Option Addr) (la ca lr cr : Nat) (hn : ∀ c, namesB op c = namesB 8 c) :
 Calls Tryz.prog 129 #[.agg #[vI op, vI zr, vI zs, vI zt, vI zn, .slice aa la ca, .slice ra lr cr]] w fun e w' => e = .returned (.bool ((tested (namesB 8)).all fun p => (zzOf (zeros6 zr zs zt zn la lr) p.1 == 0) || p.2)) ∧ Fr (fun _ => False) w w' := by
 obtain ⟨w0, HW⟩ : ∃ w0, w0 = w.alloc (.cells #[vI op, vI zr, vI zs, vI zt, vI zn, .slice aa la ca, .slice ra lr cr] 79) := ⟨_, rfl⟩
 have hf0 : Hd (Fr (fun _ => False) w w0) := by unfold Hd; rw [HW]; exact Fr.alloc (Fr.refl _ _) _
 have hb : w.heap.size < w0.heap.size := by rw [HW]; simp
 have hm : ∀ p ∈ ([(0, vI op), (1, vI zr), (2, vI zs), (3, vI zt), (4, vI zn), (5, .slice aa la ca), (6, .slice ra lr cr)] : List (Nat × Value)), w0.cell? ⟨w.heap.size, p.1, none⟩ = some p.2 := fun p hp => by
  simp only [List.mem_cons, List.not_mem_nil, or_false] at hp
  rw [HW]
  rcases hp with rfl | rfl | rfl | rfl | rfl | rfl | rfl <;> (rw [World.cell?_alloc_at _ _ _ _ rfl]; rfl)
 have HM : Hd (∀ q v, memOf ([(0, vI op), (1, vI zr), (2, vI zs), (3, vI zt), (4, vI zn), (5, .slice aa la ca), (6, .slice ra lr cr)] : List (Nat × Value)) q = some v → w0.cell? ⟨w.heap.size, q, none⟩ = some v) := memOf_sound hm
 have HN : Hd (∀ c, namesB op c = namesB 8 c) := hn
 clear hm hn
 go_enter Tryz.func129, Tryz.ntmps129
 iterate 14 go_step
 rw [← HW]
 clear HW
 refine wpList_ev3 (b := w.heap.size) (op := op) (nmf := namesB 8) (w0 := w0) (zz := zzOf []) (tb := tbOf []) HN.out hb HM.out (zzOf_sound (fun _ h => by cases h)) (by kernel_rfl) (by kernel_rfl) (Fr.refl _ _) (fun w1 hf1 => ?_)
 iterate 4 go_step
 refine wpList_ev3 (b := w.heap.size) (op := op) (nmf := namesB 8) (w0 := w0) (zz := zzOf []) (tb := tbOf []) HN.out hb HM.out (zzOf_sound (fun _ h => by cases h)) (by kernel_rfl) (by kernel_rfl) hf1 (fun w2 hf2 => ?_)
 iterate 4 go_step
 refine wpList_ev4 (b := w.heap.size) (op := op) (nmf := namesB 8) (w0 := w0) (zz := zzOf (zeros6 zr zs zt zn la lr)) 2 (conjT (tested (namesB 8))) HN.out hb HM.out (by kernel_rfl) (by kernel_rfl) hf2 (fun a' w3 hf3 hx hd => ?_)
 simp only [Exit.then]
 go_wp2_with fail
 refine bodyPost_ret (v := .bool ((conjT (tested (namesB 8))).ev fun d => zzOf (zeros6 zr zs zt zn la lr) d == 0)) (fn := Tryz.f129) ?_ hd ⟨?_, hf0.out.trans hf3⟩
 ·rw [results_tmp Tryz.results129, hx]
 ·rw [conjT_ev]
theorem plain_9 (w : World) (op zr zs zt zn : Int) (aa ra : Option Addr) (la ca lr cr : Nat) (hn : ∀ c, namesB op c = namesB 9 c) :
 Calls Tryz.prog 129 #[.agg #[vI op, vI zr, vI zs, vI zt, vI zn, .slice aa la ca, .slice ra lr cr]] w fun e w' => e = .returned (.bool ((tested (namesB 9)).all fun p => (zzOf (zeros6 zr zs zt zn la lr) p.1 == 0) || p.2)) ∧ Fr (fun _ => False) w w' := by
 obtain ⟨w0, HW⟩ : ∃ w0, w0 = w.alloc (.cells #[vI op, vI zr, vI zs, vI zt, vI zn, .slice aa la ca, .slice ra lr cr] 79) := ⟨_, rfl⟩
 have hf0 : Hd (Fr (fun _ => False) w w0) := by unfold Hd; rw [HW]; exact Fr.alloc (Fr.refl _ _) _
 have hb : w.heap.size < w0.heap.size := by rw [HW]; simp
 have hm : ∀ p ∈ ([(0, vI op), (1, vI zr), (2, vI zs), (3, vI zt), (4, vI zn), (5, .slice aa la ca), (6, .slice ra lr cr)] : List (Nat × Value)), w0.cell? ⟨w.heap.size, p.1, none⟩ = some p.2 := fun p hp => by
  simp only [List.mem_cons, List.not_mem_nil, or_false] at hp
  rw [HW]
  rcases hp with rfl | rfl | rfl | rfl | rfl | rfl | rfl <;> (rw [World.cell?_alloc_at _ _ _ _ rfl]; rfl)
 have HM : Hd (∀ q v, memOf ([(0, vI op), (1, vI zr), (2, vI zs), (3, vI zt), (4, vI zn), (5, .slice aa la ca), (6, .slice ra lr cr)] : List (Nat × Value)) q = some v → w0.cell? ⟨w.heap.size, q, none⟩ = some v) := memOf_sound hm
 have HN : Hd (∀ c, namesB op c = namesB 9 c) := hn
 clear hm hn
 go_enter Tryz.func129, Tryz.ntmps129
 iterate 14 go_step
 rw [← HW]
 clear HW
 refine wpList_ev3 (b := w.heap.size) (op := op) (nmf := namesB 9) (w0 := w0) (zz := zzOf []) (tb := tbOf []) HN.out hb HM.out (zzOf_sound (fun _ h => by cases h)) (by kernel_rfl) (by kernel_rfl) (Fr.refl _ _) (fun w1 hf1 => ?_)
 iterate 4 go_step
 refine wpList_ev3 (b := w.heap.size) (op := op) (nmf := namesB 9) (w0 := w0) (zz := zzOf []) (tb := tbOf []) HN.out hb HM.out (zzOf_sound (fun _ h => by cases h)) (by kernel_rfl) (by kernel_rfl) hf1 (fun w2 hf2 => ?_)
 iterate 4 go_step
 refine wpList_ev4 (b := w.heap.size) (op := op) (nmf := namesB 9) (w0 := w0) (zz := zzOf (zeros6 zr zs zt zn la lr)) 2 (conjT (tested (namesB 9))) HN.out hb HM.out (by kernel_rfl) (by kernel_rfl) hf2 (fun a' w3 hf3 hx hd => ?_)
 simp only [Exit.then]
 go_wp2_with fail
 refine bodyPost_ret (v := .bool ((conjT (tested (namesB 9))).ev fun d => zzOf (zeros6 zr zs zt zn la lr) d == 0)) (fn := Tryz.f129) ?_ hd ⟨?_, hf0.out.trans hf3⟩
 ·rw [results_tmp Tryz.results129, hx]
 ·rw [conjT_ev]
end Go.Proofs.YtdkijecnnmncnaaGreatDoor
namespace Go.Proofs.YtdkijecnnmncnaaGreatDoor
open Go.RowKit (wrap32 wrap64)
set_option linter.unusedVariables false
set_option linter.unusedSimpArgs false
set_option maxRecDepth 100000
set_option maxHeartbeats 1000000
theorem plain_10 (w : World) (op zr zs zt zn : Int) (aa ra : Option Addr) (la ca lr cr : Nat) (hn : ∀ c, namesB op c = namesB 10 c) :
 Calls Tryz.prog 129 #[.agg #[vI op, vI zr, vI zs, vI zt, vI zn, .slice aa la ca, .slice ra lr cr]] w fun e w' => e = .returned (.bool ((tested (namesB 10)).all fun p => (zzOf (zeros6 zr zs zt zn la lr) p.1 == 0) || p.2)) ∧ Fr (fun _ => False) w w' := by
 obtain ⟨w0, HW⟩ : ∃ w0, w0 = w.alloc (.cells #[vI op, vI zr, vI zs, vI zt, vI zn, .slice aa la ca, .slice ra lr cr] 79) := ⟨_, rfl⟩
 have hf0 : Hd (Fr (fun _ => False) w w0) := by unfold Hd; rw [HW]; exact Fr.alloc (Fr.refl _ _) _
 have hb : w.heap.size < w0.heap.size := by rw [HW]; simp
 have hm : ∀ p ∈ ([(0, vI op), (1, vI zr), (2, vI zs), (3, vI zt), (4, vI zn), (5, .slice aa la ca), (6, .slice ra lr cr)] : List (Nat × Value)), w0.cell? ⟨w.heap.size, p.1, none⟩ = some p.2 := fun p hp => by
  simp only [List.mem_cons, List.not_mem_nil, or_false] at hp
  rw [HW]
  rcases hp with rfl | rfl | rfl | rfl | rfl | rfl | rfl <;> (rw [World.cell?_alloc_at _ _ _ _ rfl]; rfl)
 have HM : Hd (∀ q v, memOf ([(0, vI op), (1, vI zr), (2, vI zs), (3, vI zt), (4, vI zn), (5, .slice aa la ca), (6, .slice ra lr cr)] : List (Nat × Value)) q = some v → w0.cell? ⟨w.heap.size, q, none⟩ = some v) := memOf_sound hm
 have HN : Hd (∀ c, namesB op c = namesB 10 c) := hn
 clear hm hn
 go_enter Tryz.func129, Tryz.ntmps129
 iterate 14 go_step
 rw [← HW]
 clear HW
 refine wpList_ev3 (b := w.heap.size) (op := op) (nmf := namesB 10) (w0 := w0) (zz := zzOf []) (tb := tbOf []) HN.out hb HM.out (zzOf_sound (fun _ h => by cases h)) (by kernel_rfl) (by kernel_rfl) (Fr.refl _ _) (fun w1 hf1 => ?_)
 iterate 4 go_step
 refine wpList_ev3 (b := w.heap.size) (op := op) (nmf := namesB 10) (w0 := w0) (zz := zzOf []) (tb := tbOf []) HN.out hb HM.out (zzOf_sound (fun _ h => by cases h)) (by kernel_rfl) (by kernel_rfl) hf1 (fun w2 hf2 => ?_)
 iterate 4 go_step
 refine wpList_ev4 (b := w.heap.size) (op := op) (nmf := namesB 10) (w0 := w0) (zz := zzOf (zeros6 zr zs zt zn la lr)) 2 (conjT (tested (namesB 10))) HN.out hb HM.out (by kernel_rfl) (by kernel_rfl) hf2 (fun a' w3 hf3 hx hd => ?_)
 simp only [Exit.then]
 go_wp2_with fail
 refine bodyPost_ret (v := .bool ((conjT (tested (namesB 10))).ev fun d => zzOf (zeros6 zr zs zt zn la lr) d == 0)) (fn := Tryz.f129) ?_ hd ⟨?_, hf0.out.trans hf3⟩
 ·rw [results_tmp Tryz.results129, hx]
 ·rw [conjT_ev]
theorem plain_11 (w : World) (op zr zs zt zn : Int) (aa ra : Option Addr) (la ca lr cr : Nat) (hn : ∀ c, namesB op c = namesB 11 c) :
 Calls Tryz.prog 129 #[.agg #[vI op, vI zr, vI zs, vI zt, vI zn, .slice aa la ca, .slice ra lr cr]] w fun e w' => e = .returned (.bool ((tested (namesB 11)).all fun p => (zzOf (zeros6 zr zs zt zn la lr) p.1 == 0) || p.2)) ∧ Fr (fun _ => False) w w' := by
 obtain ⟨w0, HW⟩ : ∃ w0, w0 = w.alloc (.cells #[vI op, vI zr, vI zs, vI zt, vI zn, .slice aa la ca, .slice ra lr cr] 79) := ⟨_, rfl⟩
 have hf0 : Hd (Fr (fun _ => False) w w0) := by unfold Hd; rw [HW]; exact Fr.alloc (Fr.refl _ _) _
 have hb : w.heap.size < w0.heap.size := by rw [HW]; simp
 have hm : ∀ p ∈ ([(0, vI op), (1, vI zr), (2, vI zs), (3, vI zt), (4, vI zn), (5, .slice aa la ca), (6, .slice ra lr cr)] : List (Nat × Value)), w0.cell? ⟨w.heap.size, p.1, none⟩ = some p.2 := fun p hp => by
  simp only [List.mem_cons, List.not_mem_nil, or_false] at hp
  rw [HW]
  rcases hp with rfl | rfl | rfl | rfl | rfl | rfl | rfl <;> (rw [World.cell?_alloc_at _ _ _ _ rfl]; rfl)
 have HM : Hd (∀ q v, memOf ([(0, vI op), (1, vI zr), (2, vI zs), (3, vI zt), (4, vI zn), (5, .slice aa la ca), (6, .slice ra lr cr)] : List (Nat × Value)) q = some v → w0.cell? ⟨w.heap.size, q, none⟩ = some v) := memOf_sound hm
 have HN : Hd (∀ c, namesB op c = namesB 11 c) := hn
 clear hm hn
 go_enter Tryz.func129, Tryz.ntmps129
 iterate 14 go_step
 rw [← HW]
 clear HW
 refine wpList_ev3 (b := w.heap.size) (op := op) (nmf := namesB 11) (w0 := w0) (zz := zzOf []) (tb := tbOf []) HN.out hb HM.out (zzOf_sound (fun _ h => by cases h)) (by kernel_rfl) (by kernel_rfl) (Fr.refl _ _) (fun w1 hf1 => ?_)
 iterate 4 go_step
 refine wpList_ev3 (b := w.heap.size) (op := op) (nmf := namesB 11) (w0 := w0) (zz := zzOf []) (tb := tbOf []) HN.out hb HM.out (zzOf_sound (fun _ h => by cases h)) (by kernel_rfl) (by kernel_rfl) hf1 (fun w2 hf2 => ?_)
 iterate 4 go_step
 refine wpList_ev4 (b := w.heap.size) (op := op) (nmf := namesB 11) (w0 := w0) (zz := zzOf (zeros6 zr zs zt zn la lr)) 2 (conjT (tested (namesB 11))) HN.out hb HM.out (by kernel_rfl) (by kernel_rfl) hf2 (fun a' w3 hf3 hx hd => ?_)
 simp only [Exit.then]
 go_wp2_with fail
 refine bodyPost_ret (v := .bool ((conjT (tested (namesB 11))).ev fun d => zzOf (zeros6 zr zs zt zn la lr) d == 0)) (fn := Tryz.f129) ?_ hd ⟨?_, hf0.out.trans hf3⟩
 ·rw [results_tmp Tryz.results129, hx]
 ·rw [conjT_ev]
theorem plain_12 (w : World) (op zr zs zt zn : Int) (aa ra : Option Addr) (la ca lr cr : Nat) (hn : ∀ c, namesB op c = namesB 12 c) :
 Calls Tryz.prog 129 #[.agg #[vI op, vI zr, vI zs, vI zt, vI zn, .slice aa la ca, .slice ra lr cr]] w fun e w' => e = .returned (.bool ((tested (namesB 12)).all fun p => (zzOf (zeros6 zr zs zt zn la lr) p.1 == 0) || p.2)) ∧ Fr (fun _ => False) w w' := by
 obtain ⟨w0, HW⟩ : ∃ w0, w0 = w.alloc (.cells #[vI op, vI zr, vI zs, vI zt, vI zn, .slice aa la ca, .slice ra lr cr] 79) := ⟨_, rfl⟩
 have hf0 : Hd (Fr (fun _ => False) w w0) := by unfold Hd; rw [HW]; exact Fr.alloc (Fr.refl _ _) _
 have hb : w.heap.size < w0.heap.size := by rw [HW]; simp
 have hm : ∀ p ∈ ([(0, vI op), (1, vI zr), (2, vI zs), (3, vI zt), (4, vI zn), (5, .slice aa la ca), (6, .slice ra lr cr)] : List (Nat × Value)), w0.cell? ⟨w.heap.size, p.1, none⟩ = some p.2 := fun p hp => by
  simp only [List.mem_cons, List.not_mem_nil, or_false] at hp
  rw [HW]
  rcases hp with rfl | rfl | rfl | rfl | rfl | rfl | rfl <;> (rw [World.cell?_alloc_at _ _ _ _ rfl]; rfl)
 have HM : Hd (∀ q v, memOf ([(0, vI op), (1, vI zr), (2, vI zs), (3, vI zt), (4, vI zn), (5, .slice aa la ca), (6, .slice ra lr cr)] : List (Nat × Value)) q = some v → w0.cell? ⟨w.heap.size, q, none⟩ = some v) := memOf_sound hm
 have HN : Hd (∀ c, namesB op c = namesB 12 c) := hn
 clear hm hn
 go_enter Tryz.func129, Tryz.ntmps129
 iterate 14 go_step
 rw [← HW]
 clear HW
 refine wpList_ev3 (b := w.heap.size) (op := op) (nmf := namesB 12) (w0 := w0) (zz := zzOf []) (tb := tbOf []) HN.out hb HM.out (zzOf_sound (fun _ h => by cases h)) (by kernel_rfl) (by kernel_rfl) (Fr.refl _ _) (fun w1 hf1 => ?_)
 iterate 4 go_step
 refine wpList_ev3 (b := w.heap.size) (op := op) (nmf := namesB 12) (w0 := w0) (zz := zzOf []) (tb := tbOf []) HN.out hb HM.out (zzOf_sound (fun _ h => by cases h)) (by kernel_rfl) (by kernel_rfl) hf1 (fun w2 hf2 => ?_)
 iterate 4 go_step
 refine wpList_ev4 (b := w.heap.size) (op := op) (nmf := namesB 12) (w0 := w0) (zz := zzOf (zeros6 zr zs zt zn la lr)) 2 (conjT (tested (namesB 12))) HN.out hb HM.out (by kernel_rfl) (by kernel_rfl) hf2 (fun a' w3 hf3 hx hd => ?_)
 simp only [Exit.then]
 go_wp2_with fail
 refine bodyPost_ret (v := .bool ((conjT (tested (namesB 12))).ev fun d => zzOf (zeros6 zr zs zt zn la lr) d == 0)) (fn := Tryz.f129) ?_ hd ⟨?_, hf0.out.trans hf3⟩
 ·rw [results_tmp Tryz.results129, hx]
 ·rw [conjT_ev]
end Go.Proofs.YtdkijecnnmncnaaGreatDoor
namespace Go.Proofs.YtdkijecnnmncnaaGreatDoor
open Go.RowKit (wrap32 wrap64)
set_option linter.unusedVariables false
set_option linter.unusedSimpArgs false
set_option maxRecDepth 100000
set_option maxHeartbeats 1000000
theorem plain_13 (w : World) (op zr zs zt zn : Int) (aa ra : Option Addr) (la ca lr cr : Nat) (hn : ∀ c, namesB op c = namesB 13 c) :
 Calls Tryz.prog 129 #[.agg #[vI op, vI zr, vI zs, vI zt, vI zn, .slice aa la ca, .slice ra lr cr]] w fun e w' => e = .returned (.bool ((tested (namesB 13)).all fun p => (zzOf (zeros6 zr zs zt zn la lr) p.1 == 0) || p.2)) ∧ Fr (fun _ => False) w w' := by
 obtain ⟨w0, HW⟩ : ∃ w0, w0 = w.alloc (.cells #[vI op, vI zr, vI zs, vI zt, vI zn, .slice aa la ca, .slice ra lr cr] 79) := ⟨_, rfl⟩
 have hf0 : Hd (Fr (fun _ => False) w w0) := by unfold Hd; rw [HW]; exact Fr.alloc (Fr.refl _ _) _
 have hb : w.heap.size < w0.heap.size := by rw [HW]; simp
 have hm : ∀ p ∈ ([(0, vI op), (1, vI zr), (2, vI zs), (3, vI zt), (4, vI zn), (5, .slice aa la ca), (6, .slice ra lr cr)] : List (Nat × Value)), w0.cell? ⟨w.heap.size, p.1, none⟩ = some p.2 := fun p hp => by
  simp only [List.mem_cons, List.not_mem_nil, or_false] at hp
  rw [HW]
  rcases hp with rfl | rfl | rfl | rfl | rfl | rfl | rfl <;> (rw [World.cell?_alloc_at _ _ _ _ rfl]; rfl)
 have HM : Hd (∀ q v, memOf ([(0, vI op), (1, vI zr), (2, vI zs), (3, vI zt), (4, vI zn), (5, .slice aa la ca), (6, .slice ra lr cr)] : List (Nat × Value)) q = some v → w0.cell? ⟨w.heap.size, q, none⟩ = some v) := memOf_sound hm
 have HN : Hd (∀ c, namesB op c = namesB 13 c) := hn
 clear hm hn
 go_enter Tryz.func129, Tryz.ntmps129
 iterate 14 go_step
 rw [← HW]
 clear HW
 refine wpList_ev3 (b := w.heap.size) (op := op) (nmf := namesB 13) (w0 := w0) (zz := zzOf []) (tb := tbOf []) HN.out hb HM.out (zzOf_sound (fun _ h => by cases h)) (by kernel_rfl) (by kernel_rfl) (Fr.refl _ _) (fun w1 hf1 => ?_)
 iterate 4 go_step
 refine wpList_ev3 (b := w.heap.size) (op := op) (nmf := namesB 13) (w0 := w0) (zz := zzOf []) (tb := tbOf []) HN.out hb HM.out (zzOf_sound (fun _ h => by cases h)) (by kernel_rfl) (by kernel_rfl) hf1 (fun w2 hf2 => ?_)
 iterate 4 go_step
 refine wpList_ev4 (b := w.heap.size) (op := op) (nmf := namesB 13) (w0 := w0) (zz := zzOf (zeros6 zr zs zt zn la lr)) 2 (conjT (tested (namesB 13))) HN.out hb HM.out (by kernel_rfl) (by kernel_rfl) hf2 (fun a' w3 hf3 hx hd => ?_)
 simp only [Exit.then]
 go_wp2_with fail
 refine bodyPost_ret (v := .bool ((conjT (tested (namesB 13))).ev fun d => zzOf (zeros6 zr zs zt zn la lr) d == 0)) (fn := Tryz.f129) ?_ hd ⟨?_, hf0.out.trans hf3⟩
 ·rw [results_tmp Tryz.results129, hx]
 ·rw [conjT_ev]
theorem plain_14 (w : World) (op zr zs zt zn : Int) (aa ra : Option Addr) (la ca lr cr : Nat) (hn : ∀ c, namesB op c = namesB 14 c) :
 Calls Tryz.prog 129 #[.agg #[vI op, vI zr, vI zs, vI zt, vI zn, .slice aa la ca, .slice ra lr cr]] w fun e w' => e = .returned (.bool ((tested (namesB 14)).all fun p => (zzOf (zeros6 zr zs zt zn la lr) p.1 == 0) || p.2)) ∧ Fr (fun _ => False) w w' := by
 obtain ⟨w0, HW⟩ : ∃ w0, w0 = w.alloc (.cells #[vI op, vI zr, vI zs, vI zt, vI zn, .slice aa la ca, .slice ra lr cr] 79) := ⟨_, rfl⟩
 have hf0 : Hd (Fr (fun _ => False) w w0) := by unfold Hd; rw [HW]; exact Fr.alloc (Fr.refl _ _) _
 have hb : w.heap.size < w0.heap.size := by rw [HW]; simp
 have hm : ∀ p ∈ ([(0, vI op), (1, vI zr), (2, vI zs), (3, vI zt), (4, vI zn), (5, .slice aa la ca), (6, .slice ra lr cr)] : List (Nat × Value)), w0.cell? ⟨w.heap.size, p.1, none⟩ = some p.2 := fun p hp => by
  simp only [List.mem_cons, List.not_mem_nil, or_false] at hp
  rw [HW]
  rcases hp with rfl | rfl | rfl | rfl | rfl | rfl | rfl <;> (rw [World.cell?_alloc_at _ _ _ _ rfl]; rfl)
 have HM : Hd (∀ q v, memOf ([(0, vI op), (1, vI zr), (2, vI zs), (3, vI zt), (4, vI zn), (5, .slice aa la ca), (6, .slice ra lr cr)] : List (Nat × Value)) q = some v → w0.cell? ⟨w.heap.size, q, none⟩ = some v) := memOf_sound hm
 have HN : Hd (∀ c, namesB op c = namesB 14 c) := hn
 clear hm hn
 go_enter Tryz.func129, Tryz.ntmps129
 iterate 14 go_step
 rw [← HW]
 clear HW
 refine wpList_ev3 (b := w.heap.size) (op := op) (nmf := namesB 14) (w0 := w0) (zz := zzOf []) (tb := tbOf []) HN.out hb HM.out (zzOf_sound (fun _ h => by cases h)) (by kernel_rfl) (by kernel_rfl) (Fr.refl _ _) (fun w1 hf1 => ?_)
 iterate 4 go_step
 refine wpList_ev3 (b := w.heap.size) (op := op) (nmf := namesB 14) (w0 := w0) (zz := zzOf []) (tb := tbOf []) HN.out hb HM.out (zzOf_sound (fun _ h => by cases h)) (by kernel_rfl) (by kernel_rfl) hf1 (fun w2 hf2 => ?_)
 iterate 4 go_step
 refine wpList_ev4 (b := w.heap.size) (op := op) (nmf := namesB 14) (w0 := w0) (zz := zzOf (zeros6 zr zs zt zn la lr)) 2 (conjT (tested (namesB 14))) HN.out hb HM.out (by kernel_rfl) (by kernel_rfl) hf2 (fun a' w3 hf3 hx hd => ?_)
 simp only [Exit.then]
 go_wp2_with fail
 refine bodyPost_ret (v := .bool ((conjT (tested (namesB 14))).ev fun d => zzOf (zeros6 zr zs zt zn la lr) d == 0)) (fn := Tryz.f129) ?_ hd ⟨?_, hf0.out.trans hf3⟩
 ·rw [results_tmp Tryz.results129, hx]
 ·rw [conjT_ev]
theorem plain_15 (w : World) (op zr zs zt zn : Int) (aa ra : Option Addr) (la ca lr cr : Nat) (hn : ∀ c, namesB op c = namesB 15 c) :
 Calls Tryz.prog 129 #[.agg #[vI op, vI zr, vI zs, vI zt, vI zn, .slice aa la ca, .slice ra lr cr]] w fun e w' => e = .returned (.bool ((tested (namesB 15)).all fun p => (zzOf (zeros6 zr zs zt zn la lr) p.1 == 0) || p.2)) ∧ Fr (fun _ => False) w w' := by
 obtain ⟨w0, HW⟩ : ∃ w0, w0 = w.alloc (.cells #[vI op, vI zr, vI zs, vI zt, vI zn, .slice aa la ca, .slice ra lr cr] 79) := ⟨_, rfl⟩
 have hf0 : Hd (Fr (fun _ => False) w w0) := by unfold Hd; rw [HW]; exact Fr.alloc (Fr.refl _ _) _
 have hb : w.heap.size < w0.heap.size := by rw [HW]; simp
 have hm : ∀ p ∈ ([(0, vI op), (1, vI zr), (2, vI zs), (3, vI zt), (4, vI zn), (5, .slice aa la ca), (6, .slice ra lr cr)] : List (Nat × Value)), w0.cell? ⟨w.heap.size, p.1, none⟩ = some p.2 := fun p hp => by
  simp only [List.mem_cons, List.not_mem_nil, or_false] at hp
  rw [HW]
  rcases hp with rfl | rfl | rfl | rfl | rfl | rfl | rfl <;> (rw [World.cell?_alloc_at _ _ _ _ rfl]; rfl)
 have HM : Hd (∀ q v, memOf ([(0, vI op), (1, vI zr), (2, vI zs), (3, vI zt), (4, vI zn), (5, .slice aa la ca), (6, .slice ra lr cr)] : List (Nat × Value)) q = some v → w0.cell? ⟨w.heap.size, q, none⟩ = some v) := memOf_sound hm
 have HN : Hd (∀ c, namesB op c = namesB 15 c) := hn
 clear hm hn
 go_enter Tryz.func129, Tryz.ntmps129
 iterate 14 go_step
 rw [← HW]
 clear HW
 refine wpList_ev3 (b := w.heap.size) (op := op) (nmf := namesB 15) (w0 := w0) (zz := zzOf []) (tb := tbOf []) HN.out hb HM.out (zzOf_sound (fun _ h => by cases h)) (by kernel_rfl) (by kernel_rfl) (Fr.refl _ _) (fun w1 hf1 => ?_)
 iterate 4 go_step
 refine wpList_ev3 (b := w.heap.size) (op := op) (nmf := namesB 15) (w0 := w0) (zz := zzOf []) (tb := tbOf []) HN.out hb HM.out (zzOf_sound (fun _ h => by cases h)) (by kernel_rfl) (by kernel_rfl) hf1 (fun w2 hf2 => ?_)
 iterate 4 go_step
 refine wpList_ev4 (b := w.heap.size) (op := op) (nmf := namesB 15) (w0 := w0) (zz := zzOf (zeros6 zr zs zt zn la lr)) 2 (conjT (tested (namesB 15))) HN.out hb HM.out (by kernel_rfl) (by kernel_rfl) hf2 (fun a' w3 hf3 hx hd => ?_)
 simp only [Exit.then]
 go_wp2_with fail
 refine bodyPost_ret (v := .bool ((conjT (tested (namesB 15))).ev fun d => zzOf (zeros6 zr zs zt zn la lr) d == 0)) (fn := Tryz.f129) ?_ hd ⟨?_, hf0.out.trans hf3⟩
 ·rw [results_tmp Tryz.results129, hx]
 ·rw [conjT_ev]
end Go.Proofs.YtdkijecnnmncnaaGreatDoor
namespace Go.Proofs.YtdkijecnnmncnaaGreatDoor
open Go.RowKit (wrap32 wrap64)
set_option linter.unusedVariables false
set_option linter.unusedSimpArgs false
set_option maxRecDepth 100000
set_option maxHeartbeats 1000000
theorem plain_16 (w : World) (op zr zs zt zn : Int) (aa ra : Option Addr) (la ca lr cr : Nat) (hn : ∀ c, namesB op c = namesB 16 c) :
 Calls Tryz.prog 129 #[.agg #[vI op, vI zr, vI zs, vI zt, vI zn, .slice aa la ca, .slice ra lr cr]] w fun e w' => e = .returned (.bool ((tested (namesB 16)).all fun p => (zzOf (zeros6 zr zs zt zn la lr) p.1 == 0) || p.2)) ∧ Fr (fun _ => False) w w' := by
 obtain ⟨w0, HW⟩ : ∃ w0, w0 = w.alloc (.cells #[vI op, vI zr, vI zs, vI zt, vI zn, .slice aa la ca, .slice ra lr cr] 79) := ⟨_, rfl⟩
 have hf0 : Hd (Fr (fun _ => False) w w0) := by unfold Hd; rw [HW]; exact Fr.alloc (Fr.refl _ _) _
 have hb : w.heap.size < w0.heap.size := by rw [HW]; simp
 have hm : ∀ p ∈ ([(0, vI op), (1, vI zr), (2, vI zs), (3, vI zt), (4, vI zn), (5, .slice aa la ca), (6, .slice ra lr cr)] : List (Nat × Value)), w0.cell? ⟨w.heap.size, p.1, none⟩ = some p.2 := fun p hp => by
  simp only [List.mem_cons, List.not_mem_nil, or_false] at hp
  rw [HW]
  rcases hp with rfl | rfl | rfl | rfl | rfl | rfl | rfl <;> (rw [World.cell?_alloc_at _ _ _ _ rfl]; rfl)
 have HM : Hd (∀ q v, memOf ([(0, vI op), (1, vI zr), (2, vI zs), (3, vI zt), (4, vI zn), (5, .slice aa la ca), (6, .slice ra lr cr)] : List (Nat × Value)) q = some v → w0.cell? ⟨w.heap.size, q, none⟩ = some v) := memOf_sound hm
 have HN : Hd (∀ c, namesB op c = namesB 16 c) := hn
 clear hm hn
 go_enter Tryz.func129, Tryz.ntmps129
 iterate 14 go_step
 rw [← HW]
 clear HW
 refine wpList_ev3 (b := w.heap.size) (op := op) (nmf := namesB 16) (w0 := w0) (zz := zzOf []) (tb := tbOf []) HN.out hb HM.out (zzOf_sound (fun _ h => by cases h)) (by kernel_rfl) (by kernel_rfl) (Fr.refl _ _) (fun w1 hf1 => ?_)
 iterate 4 go_step
 refine wpList_ev3 (b := w.heap.size) (op := op) (nmf := namesB 16) (w0 := w0) (zz := zzOf []) (tb := tbOf []) HN.out hb HM.out (zzOf_sound (fun _ h => by cases h)) (by kernel_rfl) (by kernel_rfl) hf1 (fun w2 hf2 => ?_)
 iterate 4 go_step
 refine wpList_ev4 (b := w.heap.size) (op := op) (nmf := namesB 16) (w0 := w0) (zz := zzOf (zeros6 zr zs zt zn la lr)) 2 (conjT (tested (namesB 16))) HN.out hb HM.out (by kernel_rfl) (by kernel_rfl) hf2 (fun a' w3 hf3 hx hd => ?_)
 simp only [Exit.then]
 go_wp2_with fail
 refine bodyPost_ret (v := .bool ((conjT (tested (namesB 16))).ev fun d => zzOf (zeros6 zr zs zt zn la lr) d == 0)) (fn := Tryz.f129) ?_ hd ⟨?_, hf0.out.trans hf3⟩
 ·rw [results_tmp Tryz.results129, hx]
 ·rw [conjT_ev]
theorem plain_17 (w : World) (op zr zs zt zn : Int) (aa ra : Option Addr) (la ca lr cr : Nat) (hn : ∀ c, namesB op c = namesB 17 c) :
 Calls Tryz.prog 129 #[.agg #[vI op, vI zr, vI zs, vI zt, vI zn, .slice aa la ca, .slice ra lr cr]] w fun e w' => e = .returned (.bool ((tested (namesB 17)).all fun p => (zzOf (zeros6 zr zs zt zn la lr) p.1 == 0) || p.2)) ∧ Fr (fun _ => False) w w' := by
 obtain ⟨w0, HW⟩ : ∃ w0, w0 = w.alloc (.cells #[vI op, vI zr, vI zs, vI zt, vI zn, .slice aa la ca, .slice ra lr cr] 79) := ⟨_, rfl⟩
 have hf0 : Hd (Fr (fun _ => False) w w0) := by unfold Hd; rw [HW]; exact Fr.alloc (Fr.refl _ _) _
 have hb : w.heap.size < w0.heap.size := by rw [HW]; simp
 have hm : ∀ p ∈ ([(0, vI op), (1, vI zr), (2, vI zs), (3, vI zt), (4, vI zn), (5, .slice aa la ca), (6, .slice ra lr cr)] : List (Nat × Value)), w0.cell? ⟨w.heap.size, p.1, none⟩ = some p.2 := fun p hp => by
  simp only [List.mem_cons, List.not_mem_nil, or_false] at hp
  rw [HW]
  rcases hp with rfl | rfl | rfl | rfl | rfl | rfl | rfl <;> (rw [World.cell?_alloc_at _ _ _ _ rfl]; rfl)
 have HM : Hd (∀ q v, memOf ([(0, vI op), (1, vI zr), (2, vI zs), (3, vI zt), (4, vI zn), (5, .slice aa la ca), (6, .slice ra lr cr)] : List (Nat × Value)) q = some v → w0.cell? ⟨w.heap.size, q, none⟩ = some v) := memOf_sound hm
 have HN : Hd (∀ c, namesB op c = namesB 17 c) := hn
 clear hm hn
 go_enter Tryz.func129, Tryz.ntmps129
 iterate 14 go_step
 rw [← HW]
 clear HW
 refine wpList_ev3 (b := w.heap.size) (op := op) (nmf := namesB 17) (w0 := w0) (zz := zzOf []) (tb := tbOf []) HN.out hb HM.out (zzOf_sound (fun _ h => by cases h)) (by kernel_rfl) (by kernel_rfl) (Fr.refl _ _) (fun w1 hf1 => ?_)
 iterate 4 go_step
 refine wpList_ev3 (b := w.heap.size) (op := op) (nmf := namesB 17) (w0 := w0) (zz := zzOf []) (tb := tbOf []) HN.out hb HM.out (zzOf_sound (fun _ h => by cases h)) (by kernel_rfl) (by kernel_rfl) hf1 (fun w2 hf2 => ?_)
 iterate 4 go_step
 refine wpList_ev4 (b := w.heap.size) (op := op) (nmf := namesB 17) (w0 := w0) (zz := zzOf (zeros6 zr zs zt zn la lr)) 2 (conjT (tested (namesB 17))) HN.out hb HM.out (by kernel_rfl) (by kernel_rfl) hf2 (fun a' w3 hf3 hx hd => ?_)
 simp only [Exit.then]
 go_wp2_with fail
 refine bodyPost_ret (v := .bool ((conjT (tested (namesB 17))).ev fun d => zzOf (zeros6 zr zs zt zn la lr) d == 0)) (fn := Tryz.f129) ?_ hd ⟨?_, hf0.out.trans hf3⟩
 ·rw [results_tmp Tryz.results129, hx]
 ·rw [conjT_ev]
theorem plain_no (w : World) (op zr zs zt zn : Int) (aa ra : Option Addr) (la ca lr cr : Nat) (hn : ∀ c, namesB op c = false) :
 Calls Tryz.prog 129 #[.agg #[vI op, vI zr, vI zs, vI zt, vI zn, .slice aa la ca, .slice ra lr cr]] w fun e w' => e = .returned (.bool ((tested (fun _ => false)).all fun p => (zzOf (zeros6 zr zs zt zn la lr) p.1 == 0) || p.2)) ∧ Fr (fun _ => False) w w' := by
 obtain ⟨w0, HW⟩ : ∃ w0, w0 = w.alloc (.cells #[vI op, vI zr, vI zs, vI zt, vI zn, .slice aa la ca, .slice ra lr cr] 79) := ⟨_, rfl⟩
 have hf0 : Hd (Fr (fun _ => False) w w0) := by unfold Hd; rw [HW]; exact Fr.alloc (Fr.refl _ _) _
 have hb : w.heap.size < w0.heap.size := by rw [HW]; simp
 have hm : ∀ p ∈ ([(0, vI op), (1, vI zr), (2, vI zs), (3, vI zt), (4, vI zn), (5, .slice aa la ca), (6, .slice ra lr cr)] : List (Nat × Value)), w0.cell? ⟨w.heap.size, p.1, none⟩ = some p.2 := fun p hp => by
  simp only [List.mem_cons, List.not_mem_nil, or_false] at hp
  rw [HW]
  rcases hp with rfl | rfl | rfl | rfl | rfl | rfl | rfl <;> (rw [World.cell?_alloc_at _ _ _ _ rfl]; rfl)
 have HM : Hd (∀ q v, memOf ([(0, vI op), (1, vI zr), (2, vI zs), (3, vI zt), (4, vI zn), (5, .slice aa la ca), (6, .slice ra lr cr)] : List (Nat × Value)) q = some v → w0.cell? ⟨w.heap.size, q, none⟩ = some v) := memOf_sound hm
 have HN : Hd (∀ c, namesB op c = false) := hn
 clear hm hn
 go_enter Tryz.func129, Tryz.ntmps129
 iterate 14 go_step
 rw [← HW]
 clear HW
 refine wpList_ev3 (b := w.heap.size) (op := op) (nmf := fun _ => false) (w0 := w0) (zz := zzOf []) (tb := tbOf []) HN.out hb HM.out (zzOf_sound (fun _ h => by cases h)) (by kernel_rfl) (by kernel_rfl) (Fr.refl _ _) (fun w1 hf1 => ?_)
 iterate 4 go_step
 refine wpList_ev3 (b := w.heap.size) (op := op) (nmf := fun _ => false) (w0 := w0) (zz := zzOf []) (tb := tbOf []) HN.out hb HM.out (zzOf_sound (fun _ h => by cases h)) (by kernel_rfl) (by kernel_rfl) hf1 (fun w2 hf2 => ?_)
 iterate 4 go_step
 refine wpList_ev4 (b := w.heap.size) (op := op) (nmf := fun _ => false) (w0 := w0) (zz := zzOf (zeros6 zr zs zt zn la lr)) 2 (conjT (tested (fun _ => false))) HN.out hb HM.out (by kernel_rfl) (by kernel_rfl) hf2 (fun a' w3 hf3 hx hd => ?_)
 simp only [Exit.then]
 go_wp2_with fail
 refine bodyPost_ret (v := .bool ((conjT (tested (fun _ => false))).ev fun d => zzOf (zeros6 zr zs zt zn la lr) d == 0)) (fn := Tryz.f129) ?_ hd ⟨?_, hf0.out.trans hf3⟩
 ·rw [results_tmp Tryz.results129, hx]
 ·rw [conjT_ev]
end Go.Proofs.YtdkijecnnmncnaaGreatDoor
namespace Go.Proofs.YtdkijecnnmncnaaGreatDoor
open Go.RowKit (wrap32 wrap64)
set_option linter.unusedVariables false
set_option linter.unusedSimpArgs false
set_option maxRecDepth 100000
set_option maxHeartbeats 1000000
def varB (V v : Int) : Bool := decide (0 ≤ v) && decide (v < V)
theorem rvariable (rb : Nat) (G : Int) (fv : Value) (w : World) (L E : Int) (h : RW rb G fv w L E) (P R V : Int) (a : Option Addr) (l c : Nat) (v : Int) :
 Calls Tryz.prog 93 #[.pointer (some ⟨rb, 0, none⟩), .agg #[vI P, vI R, vI V, .slice a l c], vI v] w fun r w' => r = .returned (.tuple #[]) ∧ RW rb G fv w' L (mustE (varB V v) 13 E) ∧ Fr (fun k => k = rb) w w' := by
 have hf0 : Fr (fun k => k = rb) w (w.alloc (.cells #[vI P, vI R, vI V, .slice a l c] 45)) := Fr.alloc (Fr.refl _ _) _
 have h0 : RW rb G fv (w.alloc (.cells #[vI P, vI R, vI V, .slice a l c] 45)) L E := h.fr (Fr.alloc (Fr.refl (fun _ => False) w) _) (fun h => h)
 have hm := rmust rb G fv _ L E h0 (varB V v) 13
 by_cases h1 : 0 ≤ v
 ·by_cases h2 : v < V
  ·have hv : varB V v = true := by unfold varB; simp [h1, h2]
   have HV : Hd (varB V v = true) := hv
   rw [hv] at hm
   clear hv h h0
   go_enter Tryz.func93, Tryz.ntmps93
   go_wp2_with fail
   refine hm.mono ?_
   rintro e w1 ⟨rfl, hr, hf⟩
   clear hm
   go_wp2_with fail
   go_end0
   exact ⟨rfl, by rw [HV.out]; exact hr, hf0.trans hf⟩
  ·have hv : varB V v = false := by unfold varB; simp [h2]
   have HV : Hd (varB V v = false) := hv
   rw [hv] at hm
   clear hv h h0
   go_enter Tryz.func93, Tryz.ntmps93
   go_wp2_with fail
   refine hm.mono ?_
   rintro e w1 ⟨rfl, hr, hf⟩
   clear hm
   go_wp2_with fail
   go_end0
   exact ⟨rfl, by rw [HV.out]; exact hr, hf0.trans hf⟩
 ·have hv : varB V v = false := by unfold varB; simp [h1]
  have HV : Hd (varB V v = false) := hv
  rw [hv] at hm
  clear hv h h0
  go_enter Tryz.func93, Tryz.ntmps93
  go_wp2_with fail
  refine hm.mono ?_
  rintro e w1 ⟨rfl, hr, hf⟩
  clear hm
  go_wp2_with fail
  go_end0
  exact ⟨rfl, by rw [HV.out]; exact hr, hf0.trans hf⟩
end Go.Proofs.YtdkijecnnmncnaaGreatDoor
