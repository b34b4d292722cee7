import Derived.Test.YtingenonbkencaaDoorQB1
import Derived.Test.YtingenonbkencaaDoorQB2J
import Derived.Laws.BytesString
set_option linter.unusedVariables false
set_option linter.unusedSimpArgs false
namespace Go.Proofs.YtingenonbkencaaDoor
open Go.RowKit (wrap32 wrap64)
set_option maxRecDepth 100000
set_option maxHeartbeats 1000000
def magicL : List UInt8 := [102, 117, 103, 117, 101, 1]
theorem foldl_push (l : List UInt8) (s : ByteArray) : (l.map (fun u => (u.toNat : Int))).foldl (fun r n => r.push (UInt8.ofNat n.toNat)) s = ⟨s.data ++ l.toArray⟩ := by
 induction l generalizing s with
 | nil => simp
 | cons u r ih =>
   simp only [List.map_cons, List.foldl_cons]
   rw [ih]
   have : (s.push (UInt8.ofNat (u.toNat : Int).toNat)) = ⟨s.data.push u⟩ := by
    simp [ByteArray.push]
   rw [this]
   simp
theorem run_bytes_string (w : World) (k o c : Nat) (l : List UInt8) (h : ∀ i, (hi : i < l.length) → w.cell? ⟨k, o + i, none⟩ = some (.int .u8 l[i].toNat)) :
 (convert 22 9 (.slice (some ⟨k, o, none⟩) l.length c)).run Tryd.prog w = .ok (.string ⟨l.toArray⟩) w := by
 rw [run_convert_bytes_string w 22 9 5 _ _ _ Tryd.underlying22 (by kernel_rfl) (by kernel_rfl)]
 have hl := run_loadCells_list (P := Tryd.prog) w ⟨k, o, none⟩ ((l.map (fun u => (u.toNat : Int))).map (Value.int .u8)) (fun j v hv => by
  have hadd : (⟨k, o, none⟩ : Addr).add j = ⟨k, o + j, none⟩ := by unfold Addr.add; split <;> simp_all
  rw [hadd]
  simp only [List.getElem?_map, Option.map_eq_some_iff] at hv
  obtain ⟨n, ⟨u, hu, rfl⟩, rfl⟩ := hv
  obtain ⟨hj, rfl⟩ := List.getElem?_eq_some_iff.1 hu
  exact h j hj)
 simp only [List.length_map] at hl
 rw [run_bytesToString w ⟨k, o, none⟩ l.length c (l.map (fun u => (u.toNat : Int))) hl, foldl_push]
 simp
theorem begins_any (k o c : Nat) (bs : List UInt8) (hc : bs.length ≤ c) (hn' : bs.length ≤ 1000000000000000) (h0 : 1 ≤ bs.length) (w : World) (hk : k < w.heap.size) (hcell : ∀ i, (h : i < bs.length) → w.cell? ⟨k, o + i, none⟩ = some (.int .u8 bs[i].toNat)) :
 Calls Tryd.prog 60 #[.agg #[.slice (some ⟨k, o, none⟩) bs.length c]] w fun e w' =>
  (if bs.take 6 = magicL.take bs.length then e = .returned (.tuple #[]) else e = .panicked (viol 10 0)) ∧ w' = (w.alloc (.cells #[.slice (some ⟨k, o, none⟩) bs.length c] 45)).drew := by
 by_cases h6 : 6 < bs.length
 ·have hm : (6 : Int) < bs.length := by omega
  have e6 : magicL.take bs.length = ((⟨#[102, 117, 103, 117, 101, 1]⟩ : ByteArray).extract 0 6).toList := by
   rw [List.take_of_length_le (by simp [magicL]; omega)]; kernel_rfl
  have hcv := run_bytes_string ((w.alloc (.cells #[.slice (some ⟨k, o, none⟩) bs.length c] 45)).drew) k o c (bs.take 6) (fun i hi => by
   rw [World.cell?_drew, World.cell?_alloc_past _ _ _ hk]; simp only [List.getElem_take]; exact hcell i (by simp at hi; omega))
  rw [show (bs.take 6).length = 6 by simp; omega] at hcv
  have hs1 : ¬ ((c : Int) < 6) := by omega
  have hs2 : ¬ c = 0 := by omega
  have hs3 : (6 : Int) ≤ c := by omega
  have hcr : (w.alloc (.cells #[.slice (some ⟨k, o, none⟩) bs.length c] 45)).cell? ⟨w.heap.size, 0, none⟩ = some (.slice (some ⟨k, o, none⟩) bs.length c) := by simp
  by_cases hmg : bs.take 6 = magicL.take bs.length
  ·have hbb : (List.take 6 bs == ((⟨#[102, 117, 103, 117, 101, 1]⟩ : ByteArray).extract 0 6).toList) = true := by rw [hmg, e6]; simp
   simp only [if_pos hmg]
   clear hmg
   go_enter Tryd.func60, Tryd.ntmps60
   go_wp2_with fail
   generalize hwa : (w.alloc (.cells #[.slice (some ⟨k, o, none⟩) bs.length c] 45)) = wa at hcv hcr ⊢
   have Hwa : Hd (w.alloc (.cells #[.slice (some ⟨k, o, none⟩) bs.length c] 45) = wa) := hwa
   clear hwa
   refine wp_region_still_tail 8 mixed (by kernel_rfl) ?_
   simp only [List.take_succ_cons, List.take_zero, List.drop_succ_cons, List.drop_zero]
   repeat still_step
   refine wpStill_nil ?_
   go_wp2_with fail
   refine (must_true 10 0 _).mono ?_
   rintro e w' ⟨rfl, rfl⟩
   go_wp2_with fail
   go_end0
   exact ⟨rfl, by rw [Hwa.out]⟩
  ·have hbb : (List.take 6 bs == ((⟨#[102, 117, 103, 117, 101, 1]⟩ : ByteArray).extract 0 6).toList) = false := by
    rw [← e6]; simpa using hmg
   simp only [if_neg hmg]
   clear hmg
   go_enter Tryd.func60, Tryd.ntmps60
   go_wp2_with fail
   generalize hwa : (w.alloc (.cells #[.slice (some ⟨k, o, none⟩) bs.length c] 45)) = wa at hcv hcr ⊢
   have Hwa : Hd (w.alloc (.cells #[.slice (some ⟨k, o, none⟩) bs.length c] 45) = wa) := hwa
   clear hwa
   refine wp_region_still_tail 8 mixed (by kernel_rfl) ?_
   simp only [List.take_succ_cons, List.take_zero, List.drop_succ_cons, List.drop_zero]
   repeat still_step
   refine wpStill_nil ?_
   go_wp2_with fail
   refine (must_false 10 0 _).mono ?_
   rintro e w' ⟨rfl, rfl⟩
   go_wp2_with fail
   exact ⟨rfl, rfl, by rw [Hwa.out]⟩
 ·have hm : ((bs.length : Nat) : Int) ≤ 6 := by omega
  have h6' : bs.length ≤ 6 := by omega
  have e6 : magicL.take bs.length = ((⟨#[102, 117, 103, 117, 101, 1]⟩ : ByteArray).extract 0 bs.length).toList := by
   have : ∀ n, n ≤ 6 → magicL.take n = ((⟨#[102, 117, 103, 117, 101, 1]⟩ : ByteArray).extract 0 n).toList := by
    intro n hn
    have : n = 0 ∨ n = 1 ∨ n = 2 ∨ n = 3 ∨ n = 4 ∨ n = 5 ∨ n = 6 := by omega
    have t0 : magicL.take 0 = ((⟨#[102, 117, 103, 117, 101, 1]⟩ : ByteArray).extract 0 0).toList := by kernel_rfl
    have t1 : magicL.take 1 = ((⟨#[102, 117, 103, 117, 101, 1]⟩ : ByteArray).extract 0 1).toList := by kernel_rfl
    have t2 : magicL.take 2 = ((⟨#[102, 117, 103, 117, 101, 1]⟩ : ByteArray).extract 0 2).toList := by kernel_rfl
    have t3 : magicL.take 3 = ((⟨#[102, 117, 103, 117, 101, 1]⟩ : ByteArray).extract 0 3).toList := by kernel_rfl
    have t4 : magicL.take 4 = ((⟨#[102, 117, 103, 117, 101, 1]⟩ : ByteArray).extract 0 4).toList := by kernel_rfl
    have t5 : magicL.take 5 = ((⟨#[102, 117, 103, 117, 101, 1]⟩ : ByteArray).extract 0 5).toList := by kernel_rfl
    have t6 : magicL.take 6 = ((⟨#[102, 117, 103, 117, 101, 1]⟩ : ByteArray).extract 0 6).toList := by kernel_rfl
    rcases this with rfl | rfl | rfl | rfl | rfl | rfl | rfl
    ·exact t0
    ·exact t1
    ·exact t2
    ·exact t3
    ·exact t4
    ·exact t5
    ·exact t6
   exact this _ h6'
  have hcv := run_bytes_string ((w.alloc (.cells #[.slice (some ⟨k, o, none⟩) bs.length c] 45)).drew) k o c (bs.take 6) (fun i hi => by
   rw [World.cell?_drew, World.cell?_alloc_past _ _ _ hk]; simp only [List.getElem_take]; exact hcell i (by simp at hi; omega))
  rw [show (bs.take 6).length = bs.length by simp; omega] at hcv
  have hs1 : ¬ ((c : Int) < bs.length) := by omega
  have hs2 : ¬ c = 0 := by omega
  have hs3 : (bs.length : Int) ≤ c := by omega
  have hcr : (w.alloc (.cells #[.slice (some ⟨k, o, none⟩) bs.length c] 45)).cell? ⟨w.heap.size, 0, none⟩ = some (.slice (some ⟨k, o, none⟩) bs.length c) := by simp
  by_cases hmg : bs.take 6 = magicL.take bs.length
  ·have hbb : (List.take 6 bs == ((⟨#[102, 117, 103, 117, 101, 1]⟩ : ByteArray).extract 0 bs.length).toList) = true := by rw [hmg, e6]; simp
   simp only [if_pos hmg]
   clear hmg
   go_enter Tryd.func60, Tryd.ntmps60
   go_wp2_with fail
   generalize hwa : (w.alloc (.cells #[.slice (some ⟨k, o, none⟩) bs.length c] 45)) = wa at hcv hcr ⊢
   have Hwa : Hd (w.alloc (.cells #[.slice (some ⟨k, o, none⟩) bs.length c] 45) = wa) := hwa
   clear hwa
   refine wp_region_still_tail 8 mixed (by kernel_rfl) ?_
   simp only [List.take_succ_cons, List.take_zero, List.drop_succ_cons, List.drop_zero]
   repeat still_step
   refine wpStill_nil ?_
   go_wp2_with fail
   refine (must_true 10 0 _).mono ?_
   rintro e w' ⟨rfl, rfl⟩
   go_wp2_with fail
   go_end0
   exact ⟨rfl, by rw [Hwa.out]⟩
  ·have hbb : (List.take 6 bs == ((⟨#[102, 117, 103, 117, 101, 1]⟩ : ByteArray).extract 0 bs.length).toList) = false := by
    rw [← e6]; simpa using hmg
   simp only [if_neg hmg]
   clear hmg
   go_enter Tryd.func60, Tryd.ntmps60
   go_wp2_with fail
   generalize hwa : (w.alloc (.cells #[.slice (some ⟨k, o, none⟩) bs.length c] 45)) = wa at hcv hcr ⊢
   have Hwa : Hd (w.alloc (.cells #[.slice (some ⟨k, o, none⟩) bs.length c] 45) = wa) := hwa
   clear hwa
   refine wp_region_still_tail 8 mixed (by kernel_rfl) ?_
   simp only [List.take_succ_cons, List.take_zero, List.drop_succ_cons, List.drop_zero]
   repeat still_step
   refine wpStill_nil ?_
   go_wp2_with fail
   refine (must_false 10 0 _).mono ?_
   rintro e w' ⟨rfl, rfl⟩
   go_wp2_with fail
   exact ⟨rfl, rfl, by rw [Hwa.out]⟩
end Go.Proofs.YtingenonbkencaaDoor
