import Derived.Test.YtgcekpmkniipfaaQD1
namespace Go.Proofs.Ytgcekpmkniipfaa
open Go.RowKit (wrap32 wrap64)
set_option linter.unusedVariables false
set_option linter.unusedSimpArgs false

set_option maxRecDepth 100000 in
set_option maxHeartbeats 1000000 in
theorem Long_any (n : Int) (w : World) : Calls Try.prog 15 #[vI n] w fun e w' => e = .returned (.bool (decide (n > 2147483647))) ∧ w' = w := by
  go_enter Try.func15, Try.ntmps15
  go_wp2_with fail
  go_ret
  exact ⟨rfl, rfl⟩

def total (cl : List (List OpT)) : Nat := cl.length + (cl.map List.length).sum
/-- How many, up to the first beyond the bound. -/
def sumTo (cl : List (List OpT)) (k : Nat) : Nat := cl.length + ((cl.take k).map List.length).sum
theorem sumTo_succ (cl : List (List OpT)) (k : Nat) (h : k < cl.length) : sumTo cl (k + 1) = sumTo cl k + cl[k].length := by
  unfold sumTo
  rw [List.take_add_one, List.getElem?_eq_getElem h, List.map_append, List.sum_append]
  simp only [Option.toList_some, List.map_cons, List.map_nil, List.sum_cons, List.sum_nil]
  omega
theorem sumTo_le (cl : List (List OpT)) (k : Nat) : sumTo cl k ≤ total cl := by
  unfold sumTo total
  have : (cl.take k).map List.length = (cl.map List.length).take k := by rw [List.map_take]
  rw [this]
  have : ∀ (l : List Nat) (k : Nat), (l.take k).sum ≤ l.sum := fun l k => by
    have h := List.take_append_drop k l
    have : (l.take k).sum + (l.drop k).sum = l.sum := by rw [← List.sum_append, h]
    omega
  have := this (cl.map List.length) k
  omega

set_option maxRecDepth 100000 in
set_option maxHeartbeats 4000000 in
theorem long_any (w : World) (v sv : Value) (cl : List (List OpT)) (zs : List Int) (h : ClsAt w w.heap.size v cl) (hz : IntsAt w w.heap.size sv zs) (hn : cl.length ≤ 20000000000000) (hl : ∀ l ∈ cl, l.length ≤ 20000000000000) (hzl : zs.length ≤ 20000000000000) :
    Calls Try.prog 11 #[v, sv] w fun e w' => (∃ bl : Bool, e = .returned (.bool bl) ∧ (bl = false → total cl ≤ 2147483647 ∧ zs.length ≤ 2147483647)) ∧ w' = w := by
  obtain ⟨ad, cap, rfl, hx⟩ := h
  obtain ⟨sa, scap, rfl, -⟩ := hz
  have HX : Hd (cl ≠ [] → ∃ g o, ad = some ⟨g, o, none⟩ ∧ g < w.heap.size ∧ ∀ i (h : i < cl.length), ∃ u, w.cell? ⟨g, o + i, none⟩ = some u ∧ OpsAt w w.heap.size u cl[i]) := hx
  have HL : Hd (∀ l ∈ cl, l.length ≤ 20000000000000) := hl
  obtain ⟨n, en⟩ : ∃ n, n = cl.length := ⟨_, rfl⟩
  obtain ⟨m, em⟩ : ∃ m, m = zs.length := ⟨_, rfl⟩
  have EN : Hd (n = cl.length ∧ sumTo cl 0 = n) := ⟨en, by rw [en]; simp [sumTo]⟩
  have EM : Hd (m = zs.length) := em
  rw [← en] at hn ⊢
  rw [← em] at hzl ⊢
  clear hx hl en em
  go_enter Try.func11, Try.ntmps11
  go_wp2_with fail
  go_loopw [5, 6] (fun v5 v6 wr => wr = w ∧ ∃ k q : Nat, v5 = .int .i64 q ∧ v6 = .int .i64 k ∧ k ≤ n ∧ q ≤ 50000000000000 ∧ Hd (q = sumTo cl k ∧ (k < n → q ≤ 40000000000000))) (fun _ v _ => match v with | .int _ q => n - q.toNat | _ => 0)
  case atStart => exact ⟨rfl, 0, n, rfl, rfl, by omega, by omega, EN.out.2.symm, fun _ => by omega⟩
  case round =>
    obtain ⟨rfl, k, q, rfl, rfl, hk, hq, HM⟩ := hrel
    by_cases hlt : k < n
    · have hkl : k < cl.length := by rw [← EN.out.1]; exact hlt
      by_cases hb : q ≤ 2147483647
      · obtain ⟨g, o, rfl, hg, hcs⟩ := HX.out (by intro e; rw [e] at hkl; simp at hkl)
        obtain ⟨u, hu, ho⟩ := hcs k hkl
        obtain ⟨ua, uc, rfl, -⟩ := ho
        have hll := HL.out cl[k] (List.getElem_mem hkl)
        have HS : Hd (sumTo cl (k + 1) = q + cl[k].length) := by show _ = _; rw [sumTo_succ cl k hkl, HM.out.1]
        generalize cl[k].length = ln at *
        have hd1 : decide ((q : Int) > 2147483647) = false := by simp; omega
        have hk3 : (k : Int) < n := by omega
        have hk0 : (0 : Int) ≤ k := by omega
        clear hcs HM
        go_wp2_with (go_at_call 15; refine (Long_any _ _).mono ?_; rintro _ wz ⟨rfl, rfl⟩; rw [hd1])
        refine ⟨⟨trivial, k + 1, q + ln, by simp, by simp, by omega, by omega, HS.out.symm, fun _ => by omega⟩, by simp; omega⟩
      · have hd1 : decide ((q : Int) > 2147483647) = true := by simp; omega
        clear HM
        go_wp2_with (go_at_call 15; refine (Long_any _ _).mono ?_; rintro _ wz ⟨rfl, rfl⟩; rw [hd1])
        go_ret
        exact ⟨⟨true, rfl, fun h => by cases h⟩, rfl⟩
    · have ek : Hd (sumTo cl k = total cl) := by
        show _ = _
        have : k = cl.length := by have := EN.out.1; omega
        rw [this]; unfold sumTo total; rw [List.take_length]
      have hdk : decide ((k : Int) < n) = false := by simp; omega
      by_cases hb : q ≤ 2147483647
      · have hd1 : decide ((q : Int) > 2147483647) = false := by simp; omega
        obtain ⟨bl, ebl⟩ : ∃ bl, bl = decide ((m : Int) > 2147483647) := ⟨_, rfl⟩
        have HB : Hd (bl = false → m ≤ 2147483647) := fun h => by rw [ebl] at h; simp at h; omega
        have HC := Long_any (m : Int)
        rw [← ebl] at HC
        have HM' : Hd (q = sumTo cl k) := HM.out.1
        clear HM ebl
        go_wp2_with (go_at_call 15; (first | (refine (HC _).mono ?_; rintro _ wz ⟨rfl, rfl⟩) | (refine (Long_any _ _).mono ?_; rintro _ wz ⟨rfl, rfl⟩; rw [hd1])))
        go_ret
        exact ⟨⟨bl, rfl, fun h => ⟨by rw [← ek.out, ← HM'.out]; exact hb, HB.out h⟩⟩, rfl⟩
      · have hd1 : decide ((q : Int) > 2147483647) = true := by simp; omega
        clear HM
        go_wp2_with (go_at_call 15; refine (Long_any _ _).mono ?_; rintro _ wz ⟨rfl, rfl⟩; rw [hd1])
        go_ret
        exact ⟨⟨true, rfl, fun h => by cases h⟩, rfl⟩
end Go.Proofs.Ytgcekpmkniipfaa
