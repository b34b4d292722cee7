import Derived.Test.YtngbakjalmgciaaGreatQCh
import Derived.Test.YtngbakjalmgciaaGreatQC7J
namespace Go.Proofs.YtngbakjalmgciaaGreat
open Go.RowKit (wrap32 wrap64)
set_option linter.unusedVariables false
set_option linter.unusedSimpArgs false

theorem iter_stop {zs : List Int} {s0 : St} {k : Nat} (h : able (iter zs s0 k) = []) : ∀ m, iter zs s0 (k + m) = iter zs s0 k
  | 0 => rfl
  | m + 1 => by
    have ih := iter_stop h m
    show (if able (iter zs s0 (k + m)) = [] then _ else _) = _
    rw [if_pos (by rw [ih]; exact h)]
    exact ih
theorem iter_end {zs : List Int} {s0 : St} {k m : Nat} (h : able (iter zs s0 k) = []) (h' : able (iter zs s0 m) = []) : iter zs s0 k = iter zs s0 m := by
  rcases Nat.le_total k m with e | e
  · obtain ⟨d, rfl⟩ := Nat.exists_eq_add_of_le e
    exact (iter_stop h d).symm
  · obtain ⟨d, rfl⟩ := Nat.exists_eq_add_of_le e
    exact iter_stop h' d

/-- The cells of a history. -/
structure MomC (w : World) (g : Nat) (i : Nat) (m : MomT) : Prop where
  c0 : w.cell? ⟨g, i * 9, none⟩ = some (vI m.c)
  c1 : w.cell? ⟨g, i * 9 + 1, none⟩ = some (.bool m.beg)
  c2 : w.cell? ⟨g, i * 9 + 2, none⟩ = some (vI m.op.1)
  c3 : w.cell? ⟨g, i * 9 + 3, none⟩ = some (vI m.op.2.1)
  c4 : w.cell? ⟨g, i * 9 + 4, none⟩ = some (.string m.op.2.2)
  c5 : w.cell? ⟨g, i * 9 + 5, none⟩ = some (.bool m.rp.ok)
  c6 : w.cell? ⟨g, i * 9 + 6, none⟩ = some (.string m.rp.val)
  c78 : ∃ ka kn kc va vn vc, w.cell? ⟨g, i * 9 + 7, none⟩ = some (.slice ka kn kc) ∧ w.cell? ⟨g, i * 9 + 8, none⟩ = some (.slice va vn vc)
theorem MomsAt.cells {w : World} {B : Nat} {mv : Value} {ms : List MomT} (h : MomsAt w B mv ms) : ∃ ad cap, mv = .slice ad ms.length cap ∧ (ms ≠ [] → ∃ g, ad = some ⟨g, 0, none⟩ ∧ B ≤ g ∧ g < w.heap.size ∧ ∀ i (h : i < ms.length), MomC w g i ms[i]) := by
  obtain ⟨mvs, O, hr, hm, hrep, -⟩ := h
  have hlen : mvs.length = ms.length := by rw [← hm]; simp
  rcases hr.2 with ⟨h2, h3⟩ | ⟨g, cap, cur, e, h3, h4, h5, h6, h7, h8⟩
  · exact ⟨none, 0, by rw [h2, h3], fun hne => absurd (List.eq_nil_of_length_eq_zero h3) hne⟩
  · refine ⟨_, cap, e, fun _ => ⟨g, rfl, h3, heap_lt h4, fun i hi => ?_⟩⟩
    have hi' : i < mvs.length := by omega
    have h9 : ∀ r ∈ mvs.map m9, r.length = 9 := fun r hr => by obtain ⟨x, -, rfl⟩ := List.mem_map.1 hr; rfl
    have hc : ∀ j, j < 9 → w.cell? ⟨g, i * 9 + j, none⟩ = (m9 mvs[i])[j]? := fun j hj => by
      rw [cell_of h4]
      have : cur[i * 9 + j]? = ((mvs.map m9).flatten)[i * 9 + j]? := by rw [← h8, List.getElem?_take, if_pos (by omega), Array.getElem?_toList]
      rw [this, flat_get h9 i j (by simpa using hi') hj]
      simp
    have em : ms[i] = mvs[i].m := by
      have : (mvs.map MV.m)[i]'(by simpa using hi') = ms[i] := by simp only [hm]
      rw [← this]; simp
    obtain ⟨ka, kn, kc, va, vn, vc, ek, ev⟩ := (hrep mvs[i] (List.getElem_mem hi')).shape
    rw [em]
    exact ⟨hc 0 (by omega), hc 1 (by omega), hc 2 (by omega), hc 3 (by omega), hc 4 (by omega), hc 5 (by omega), hc 6 (by omega), ka, kn, kc, va, vn, vc, by rw [hc 7 (by omega), ← ek]; rfl, by rw [hc 8 (by omega), ← ev]; rfl⟩

def liveCl : List (List OpT) := [[(1, 1, ⟨#[120]⟩)]]
theorem live_ms : (iter [] (begin0 liveCl) 3).ms = [⟨0, true, (1, 1, ⟨#[120]⟩), rep0⟩, ⟨0, false, (1, 1, ⟨#[120]⟩), ⟨true, ⟨#[]⟩, []⟩⟩] := by rfl
theorem live_able : able (iter [] (begin0 liveCl) 3) = [] := by rfl

set_option maxRecDepth 100000 in
set_option maxHeartbeats 4000000 in
theorem lives_any (w : World) : Calls Tryz.prog 5 #[] w fun e w' => e = .returned (.bool true) ∧ Fr (fun _ => False) w w' := by
  go_enter Tryz.func5, Tryz.ntmps5
  go_wp2_with fail
  refine (new_any _).mono ?_
  rintro _ w1 ⟨rfl, hA, hF1⟩
  have F1 : Hd (Fr (fun _ => False) w w1) := hF1
  obtain ⟨b, eb⟩ : ∃ b, b = w.heap.size := ⟨_, rfl⟩
  rw [← eb] at hA ⊢
  have EB : Hd (b = w.heap.size) := eb
  have HA : Hd _ := hA
  clear hA hF1 eb
  go_wp2_with fail
  refine (Publish_yes b (gh0 b) 0 (fun _ => none) 5 (by unfold In64; omega) ⟨#[97]⟩ rfl (by decide) w1 HA.out).mono ?_
  rintro _ w2 ⟨rfl, hA2, hF2⟩
  have F2 : Hd (Fr (fun _ => False) w w2) := F1.out.under hF2 (fun j hj => by have := gh0_from b j hj; have := EB.out; omega)
  obtain ⟨g2, eg2⟩ : ∃ g2, g2 = (gh0 b).more 5 w1.heap.size := ⟨_, rfl⟩
  rw [← eg2] at hA2
  have HA2 : Hd _ := hA2
  clear hA2 hF2 HA F1 eg2
  go_wp2_with fail
  refine (Publish_no b g2 (0 + 1) (upd (fun _ => none) 5 ⟨#[97]⟩) 5 ⟨#[98]⟩ ⟨#[97]⟩ (by simp [upd]) w2 HA2.out).mono ?_
  rintro _ w3 ⟨rfl, hA3, hF3⟩
  have F3 : Hd (Fr (fun _ => False) w w3) := F2.out.under hF3 (fun j hj => by have := EB.out; omega)
  have HA3 : Hd _ := hA3
  clear hA3 hF3 F2 HA2
  go_wp2_with fail
  refine (lookup_any b g2 (0 + 1) (upd (fun _ => none) 5 ⟨#[97]⟩) 5 (by unfold In64; omega) w3 HA3.out).mono ?_
  rintro _ w4 ⟨rfl, -, hF4⟩
  have F4 : Hd (Fr (fun _ => False) w w4) := F3.out.under hF4 (fun j hj => by have := EB.out; omega)
  have l6 : lookB (upd (fun _ => none) 5 ⟨#[97]⟩) 5 = true := by simp [lookB, upd]
  have l7 : lookS (upd (fun _ => none) 5 ⟨#[97]⟩) 5 = ⟨#[97]⟩ := by simp [lookS, upd]
  clear hF4 F3 HA3
  go_wp2_with fail
  have hb1 : ((w4.alloc (.cells #[vI 1, vI 1, .string ⟨#[120]⟩] 31)).alloc (.cells #[.slice (some ⟨w4.heap.size, 0, none⟩) 1 1] 32)).heap[w4.heap.size]? = some (.cells #[vI 1, vI 1, .string ⟨#[120]⟩] 31) := by
    rw [Go.RowKit.Below.heap_alloc _ _ _ (by simp)]; exact heap_alloc_last w4 _
  have hb2 : ((w4.alloc (.cells #[vI 1, vI 1, .string ⟨#[120]⟩] 31)).alloc (.cells #[.slice (some ⟨w4.heap.size, 0, none⟩) 1 1] 32)).heap[w4.heap.size + 1]? = some (.cells #[.slice (some ⟨w4.heap.size, 0, none⟩) 1 1] 32) := by
    have := heap_alloc_last (w4.alloc (.cells #[vI 1, vI 1, .string ⟨#[120]⟩] 31)) (.cells #[.slice (some ⟨w4.heap.size, 0, none⟩) 1 1] 32)
    rw [show (w4.alloc (.cells #[vI 1, vI 1, .string ⟨#[120]⟩] 31)).heap.size = w4.heap.size + 1 by simp] at this
    exact this
  have F5 : Hd (Fr (fun _ => False) w ((w4.alloc (.cells #[vI 1, vI 1, .string ⟨#[120]⟩] 31)).alloc (.cells #[.slice (some ⟨w4.heap.size, 0, none⟩) 1 1] 32))) := (F4.out.alloc _).alloc _
  obtain ⟨w5, e5⟩ : ∃ w5, w5 = ((w4.alloc (.cells #[vI 1, vI 1, .string ⟨#[120]⟩] 31)).alloc (.cells #[.slice (some ⟨w4.heap.size, 0, none⟩) 1 1] 32)) := ⟨_, rfl⟩
  rw [← e5] at hb1 hb2 F5 ⊢
  have hl1 := heap_lt hb1
  have hl2 := heap_lt hb2
  have hops : OpsAt w5 w5.heap.size (.slice (some ⟨w4.heap.size, 0, none⟩) 1 1) [(1, 1, ⟨#[120]⟩)] := ⟨_, 1, rfl, Nat.le_refl _, fun _ => ⟨_, 0, rfl, hl1, fun i hi => by
    have : i = 0 := by simpa using hi
    subst this
    exact ⟨by rw [cell_of hb1]; rfl, by rw [cell_of hb1]; rfl, by rw [cell_of hb1]; rfl⟩⟩⟩
  have hcls : ClsAt w5 w5.heap.size (.slice (some ⟨w4.heap.size + 1, 0, none⟩) 1 1) liveCl := ⟨_, 1, rfl, fun _ => ⟨_, 0, rfl, hl2, fun i hi => by
    have : i = 0 := by simpa [liveCl] using hi
    subst this
    exact ⟨_, by rw [cell_of hb2]; rfl, hops⟩⟩⟩
  have hzs : IntsAt w5 w5.heap.size (.slice none 0 0) [] := ⟨none, 0, rfl, fun h => absurd rfl h⟩
  have hpl := play_any w5 _ _ liveCl [] hcls hzs (by simp [liveCl]) (by intro l hl; simp [liveCl] at hl; subst hl; simp) (by intro l hl o ho; simp [liveCl] at hl; subst hl; simp at ho; subst ho; exact ⟨by decide, by decide⟩) (by decide) (by simp)
  clear hb1 hb2 e5 hl1 hl2 hops hcls hzs
  refine hpl.mono ?_
  rintro _ w6 ⟨mv, k, rfl, hab, hM, hF6⟩
  have e := iter_end hab live_able
  rw [e, live_ms] at hM
  have F6 : Hd (Fr (fun _ => False) w w6) := F5.out.trans hF6
  obtain ⟨ad, cap, rfl, hx⟩ := hM.cells
  obtain ⟨g, rfl, -, -, hcs⟩ := hx (by simp)
  have q1 := (hcs 0 (by simp)).c1
  have q2 := (hcs 1 (by simp)).c5
  simp only [List.getElem_cons_zero, List.getElem_cons_succ, List.length_cons, List.length_nil] at q1 q2 ⊢
  clear hpl hx hcs hM hab hF6 F5 F4 e l6 l7
  go_wp2_with fail
  go_ret
  exact ⟨rfl, F6.out⟩
end Go.Proofs.YtngbakjalmgciaaGreat

namespace Go.Proofs.YtngbakjalmgciaaGreat
open Go.RowKit (wrap32 wrap64)
set_option linter.unusedVariables false
set_option linter.unusedSimpArgs false

set_option maxRecDepth 100000 in
set_option maxHeartbeats 1000000 in
theorem Long_any (n : Int) (w : World) : Calls Tryz.prog 17 #[vI n] w fun e w' => e = .returned (.bool (decide (n > 2147483647))) ∧ w' = w := by
  go_enter Tryz.func17, Tryz.ntmps17
  go_wp2_with fail
  go_ret
  exact ⟨rfl, rfl⟩

def total (cl : List (List OpT)) : Nat := cl.length + (cl.map List.length).sum
/-- How many, up to the first beyond the bound. -/
def sumTo (cl : List (List OpT)) (k : Nat) : Nat := cl.length + ((cl.take k).map List.length).sum
theorem sumTo_succ (cl : List (List OpT)) (k : Nat) (h : k < cl.length) : sumTo cl (k + 1) = sumTo cl k + cl[k].length := by
  unfold sumTo
  rw [List.take_add_one, List.getElem?_eq_getElem h, List.map_append, List.sum_append]
  simp only [Option.toList_some, List.map_cons, List.map_nil, List.sum_cons, List.sum_nil]
  omega
theorem sumTo_le (cl : List (List OpT)) (k : Nat) : sumTo cl k ≤ total cl := by
  unfold sumTo total
  have : (cl.take k).map List.length = (cl.map List.length).take k := by rw [List.map_take]
  rw [this]
  have : ∀ (l : List Nat) (k : Nat), (l.take k).sum ≤ l.sum := fun l k => by
    have h := List.take_append_drop k l
    have : (l.take k).sum + (l.drop k).sum = l.sum := by rw [← List.sum_append, h]
    omega
  have := this (cl.map List.length) k
  omega

set_option maxRecDepth 100000 in
set_option maxHeartbeats 4000000 in
theorem long_any (w : World) (v sv : Value) (cl : List (List OpT)) (zs : List Int) (h : ClsAt w w.heap.size v cl) (hz : IntsAt w w.heap.size sv zs) (hn : cl.length ≤ 20000000000000) (hl : ∀ l ∈ cl, l.length ≤ 20000000000000) (hzl : zs.length ≤ 20000000000000) :
    Calls Tryz.prog 4 #[v, sv] w fun e w' => (∃ bl : Bool, e = .returned (.bool bl) ∧ (bl = false → total cl ≤ 2147483647 ∧ zs.length ≤ 2147483647)) ∧ w' = w := by
  obtain ⟨ad, cap, rfl, hx⟩ := h
  obtain ⟨sa, scap, rfl, -⟩ := hz
  have HX : Hd (cl ≠ [] → ∃ g o, ad = some ⟨g, o, none⟩ ∧ g < w.heap.size ∧ ∀ i (h : i < cl.length), ∃ u, w.cell? ⟨g, o + i, none⟩ = some u ∧ OpsAt w w.heap.size u cl[i]) := hx
  have HL : Hd (∀ l ∈ cl, l.length ≤ 20000000000000) := hl
  obtain ⟨n, en⟩ : ∃ n, n = cl.length := ⟨_, rfl⟩
  obtain ⟨m, em⟩ : ∃ m, m = zs.length := ⟨_, rfl⟩
  have EN : Hd (n = cl.length ∧ sumTo cl 0 = n) := ⟨en, by rw [en]; simp [sumTo]⟩
  have EM : Hd (m = zs.length) := em
  rw [← en] at hn ⊢
  rw [← em] at hzl ⊢
  clear hx hl en em
  go_enter Tryz.func4, Tryz.ntmps4
  go_wp2_with fail
  go_loopw [5, 6] (fun v5 v6 wr => wr = w ∧ ∃ k q : Nat, v5 = .int .i64 q ∧ v6 = .int .i64 k ∧ k ≤ n ∧ q ≤ 50000000000000 ∧ Hd (q = sumTo cl k ∧ (k < n → q ≤ 40000000000000))) (fun _ v _ => match v with | .int _ q => n - q.toNat | _ => 0)
  case atStart => exact ⟨rfl, 0, n, rfl, rfl, by omega, by omega, EN.out.2.symm, fun _ => by omega⟩
  case round =>
    obtain ⟨rfl, k, q, rfl, rfl, hk, hq, HM⟩ := hrel
    by_cases hlt : k < n
    · have hkl : k < cl.length := by rw [← EN.out.1]; exact hlt
      by_cases hb : q ≤ 2147483647
      · obtain ⟨g, o, rfl, hg, hcs⟩ := HX.out (by intro e; rw [e] at hkl; simp at hkl)
        obtain ⟨u, hu, ho⟩ := hcs k hkl
        obtain ⟨ua, uc, rfl, -⟩ := ho
        have hll := HL.out cl[k] (List.getElem_mem hkl)
        have HS : Hd (sumTo cl (k + 1) = q + cl[k].length) := by show _ = _; rw [sumTo_succ cl k hkl, HM.out.1]
        generalize cl[k].length = ln at *
        have hd1 : decide ((q : Int) > 2147483647) = false := by simp; omega
        have hk3 : (k : Int) < n := by omega
        have hk0 : (0 : Int) ≤ k := by omega
        clear hcs HM
        go_wp2_with (go_at_call 17; refine (Long_any _ _).mono ?_; rintro _ wz ⟨rfl, rfl⟩; rw [hd1])
        refine ⟨⟨trivial, k + 1, q + ln, by simp, by simp, by omega, by omega, HS.out.symm, fun _ => by omega⟩, by simp; omega⟩
      · have hd1 : decide ((q : Int) > 2147483647) = true := by simp; omega
        clear HM
        go_wp2_with (go_at_call 17; refine (Long_any _ _).mono ?_; rintro _ wz ⟨rfl, rfl⟩; rw [hd1])
        go_ret
        exact ⟨⟨true, rfl, fun h => by cases h⟩, rfl⟩
    · have ek : Hd (sumTo cl k = total cl) := by
        show _ = _
        have : k = cl.length := by have := EN.out.1; omega
        rw [this]; unfold sumTo total; rw [List.take_length]
      have hdk : decide ((k : Int) < n) = false := by simp; omega
      by_cases hb : q ≤ 2147483647
      · have hd1 : decide ((q : Int) > 2147483647) = false := by simp; omega
        obtain ⟨bl, ebl⟩ : ∃ bl, bl = decide ((m : Int) > 2147483647) := ⟨_, rfl⟩
        have HB : Hd (bl = false → m ≤ 2147483647) := fun h => by rw [ebl] at h; simp at h; omega
        have HC := Long_any (m : Int)
        rw [← ebl] at HC
        have HM' : Hd (q = sumTo cl k) := HM.out.1
        clear HM ebl
        go_wp2_with (go_at_call 17; (first | (refine (HC _).mono ?_; rintro _ wz ⟨rfl, rfl⟩) | (refine (Long_any _ _).mono ?_; rintro _ wz ⟨rfl, rfl⟩; rw [hd1])))
        go_ret
        exact ⟨⟨bl, rfl, fun h => ⟨by rw [← ek.out, ← HM'.out]; exact hb, HB.out h⟩⟩, rfl⟩
      · have hd1 : decide ((q : Int) > 2147483647) = true := by simp; omega
        clear HM
        go_wp2_with (go_at_call 17; refine (Long_any _ _).mono ?_; rintro _ wz ⟨rfl, rfl⟩; rw [hd1])
        go_ret
        exact ⟨⟨true, rfl, fun h => by cases h⟩, rfl⟩
end Go.Proofs.YtngbakjalmgciaaGreat

namespace Go.Proofs.YtngbakjalmgciaaGreat
open Go.RowKit (wrap32 wrap64)
set_option linter.unusedVariables false
set_option linter.unusedSimpArgs false

set_option maxRecDepth 100000 in
/-- More than 64 clients: nothing happens. -/
theorem play_many (w : World) (v sv : Value) (cl : List (List OpT)) (h : ClsAt w w.heap.size v cl) (hn : 64 < cl.length) :
    Calls Tryz.prog 8 #[v, sv] w fun e w' => e = .returned (.slice none 0 0) ∧ w' = w := by
  obtain ⟨ad, cap, rfl, -⟩ := h
  obtain ⟨n, en⟩ : ∃ n, n = cl.length := ⟨_, rfl⟩
  rw [← en] at hn ⊢
  clear en
  have h1 : (64 : Int) < n := by omega
  have h2 : decide ((n : Int) > 64) = true := by simp; omega
  go_enter Tryz.func8, Tryz.ntmps8
  go_wp2_with fail
  go_ret
  exact ⟨rfl, rfl⟩

theorem fromK_len (l : List OpT) : (fromK l).length ≤ l.length := (List.dropWhile_sublist _).length_le
theorem costs_le (l : List OpT) : costs l ≤ 11 * l.length := by
  induction l with
  | nil => simp [costs]
  | cons a r ih =>
    have : cost a ≤ 11 := by unfold cost; split <;> omega
    unfold costs at *
    rw [List.map_cons, List.sum_cons, List.length_cons]
    omega
theorem mu_le (cl : List (List OpT)) : mu (begin0 cl) ≤ 11 * total cl := by
  have : ∀ cl : List (List OpT), (((cl.map (fun l => (⟨fromK l, 0, 0, rep0⟩ : Cl))).map mu1).sum) ≤ 11 * (cl.map List.length).sum := fun cl => by
    induction cl with
    | nil => simp
    | cons a r ih =>
      rw [List.map_cons, List.map_cons, List.sum_cons, List.map_cons, List.sum_cons]
      have h1 : mu1 (⟨fromK a, 0, 0, rep0⟩ : Cl) ≤ 11 * a.length := by
        have := costs_le (fromK a)
        have := fromK_len a
        simp [mu1]
        omega
      omega
  have h := this cl
  unfold mu total
  show (((cl.map (fun l => (⟨fromK l, 0, 0, rep0⟩ : Cl))).map mu1).sum) ≤ _
  omega

/-! ### the order of each client -/
theorem iter_ms {zs : List Int} {s0 : St} (h : StOk s0) : ∀ k, StOk (iter zs s0 k) ∧ (iter zs s0 k).ms.length + mu (iter zs s0 k) ≤ s0.ms.length + mu s0
  | 0 => ⟨h, Nat.le_refl _⟩
  | k + 1 => by
    obtain ⟨h1, h2⟩ := iter_ms h k
    by_cases e : able (iter zs s0 k) = []
    · have : iter zs s0 (k + 1) = iter zs s0 k := by
        show (if able (iter zs s0 k) = [] then _ else _) = _
        rw [if_pos e]
      rw [this]; exact ⟨h1, h2⟩
    · rw [iter_step e]
      have hok := step_ok h1 (pick_mem (last := (iter zs s0 k).last) (zs := zs) (k := k) e) (pickX (iter zs s0 k).last (able (iter zs s0 k)) zs k : Nat)
      have hms := step_ms { iter zs s0 k with last := ((pickX (iter zs s0 k).last (able (iter zs s0 k)) zs k : Nat) : Int) } (pickX (iter zs s0 k).last (able (iter zs s0 k)) zs k)
      refine ⟨hok.1, ?_⟩
      have h5 := hok.2.1
      have h6 : (stepX { iter zs s0 k with last := ((pickX (iter zs s0 k).last (able (iter zs s0 k)) zs k : Nat) : Int) } (pickX (iter zs s0 k).last (able (iter zs s0 k)) zs k)).ms.length ≤ (iter zs s0 k).ms.length + 1 := hms
      clear hms hok
      generalize (stepX { iter zs s0 k with last := ((pickX (iter zs s0 k).last (able (iter zs s0 k)) zs k : Nat) : Int) } (pickX (iter zs s0 k).last (able (iter zs s0 k)) zs k)) = x at *
      omega
theorem ClsAt.mono {w : World} {B B' : Nat} {v : Value} {cl : List (List OpT)} (h : ClsAt w B v cl) (hB : B ≤ B') : ClsAt w B' v cl := by
  obtain ⟨ad, cap, e, hx⟩ := h
  refine ⟨ad, cap, e, fun hne => ?_⟩
  obtain ⟨g, o, ea, hg, hcs⟩ := hx hne
  refine ⟨g, o, ea, by omega, fun i hi => ?_⟩
  obtain ⟨u, hu, ho⟩ := hcs i hi
  exact ⟨u, hu, ho.mono hB⟩
theorem IntsAt.mono {w : World} {B B' : Nat} {v : Value} {zs : List Int} (h : IntsAt w B v zs) (hB : B ≤ B') : IntsAt w B' v zs := by
  obtain ⟨ad, cap, e, hx⟩ := h
  refine ⟨ad, cap, e, fun hne => ?_⟩
  obtain ⟨g, o, ea, hg, hcs⟩ := hx hne
  exact ⟨g, o, ea, by omega, hcs⟩
theorem total_len {cl : List (List OpT)} {l : List OpT} (h : l ∈ cl) : l.length ≤ total cl := by
  have : ∀ cl : List (List OpT), l ∈ cl → l.length ≤ (cl.map List.length).sum := fun cl => by
    induction cl with
    | nil => intro h; cases h
    | cons a r ih =>
      intro h
      rw [List.map_cons, List.sum_cons]
      rcases List.mem_cons.1 h with rfl | h
      · omega
      · have := ih h; omega
  have := this cl h
  unfold total; omega

end Go.Proofs.YtngbakjalmgciaaGreat
