import Derived.Test.YtlmlmhinbkcpoaaDoorQLaJ
import Derived.Test.YtlmlmhinbkcpoaaDoorQQ0J
namespace Go.Proofs.YtlmlmhinbkcpoaaDoor
open Go.RowKit (wrap32 wrap64)
set_option linter.unusedVariables false
set_option linter.unusedSimpArgs false

theorem wrap_add (a b : Int) : wrap64 (wrap64 a + b) = wrap64 (a + b) := by
  unfold wrap64
  omega
/-- How many News. -/
def newsX : List PI → Nat
  | [] => 0
  | c :: r => (if c.op = 6 then 1 else 0) + newsX r
theorem newsX_le : ∀ cs : List PI, newsX cs ≤ cs.length
  | [] => Nat.le_refl _
  | c :: r => by have := newsX_le r; simp only [newsX, List.length_cons]; split <;> omega
theorem newsX_snoc : ∀ (cs : List PI) (c : PI), newsX (cs ++ [c]) = newsX cs + (if c.op = 6 then 1 else 0)
  | [], c => by simp [newsX]
  | d :: r, c => by simp only [List.cons_append, newsX, newsX_snoc r c]; omega
def fcelX (R V at' : Int) (cs : List PI) : Int := if 0 ≤ R ∧ 0 ≤ V ∧ 0 ≤ at' ∧ at' < cs.length ∧ (cs[at'.toNat]?.map (·.op)) = some 6 then wrap64 (cellX R V + (newsX (cs.take at'.toNat) : Nat)) else -1

end Go.Proofs.YtlmlmhinbkcpoaaDoor

namespace Go.Proofs.YtlmlmhinbkcpoaaDoor
open Go.RowKit (wrap32 wrap64)
set_option linter.unusedVariables false
set_option linter.unusedSimpArgs false

theorem CA.taken {w : World} {a : Option Addr} {c : Nat} {cs : List PI} (h : CA w (.slice a cs.length c) cs) (k : Nat) (hk : k ≤ cs.length) : CA w (.slice a k c) (cs.take k) := by
  obtain ⟨a', c', e, h⟩ := h
  cases e
  have hl : (cs.take k).length = k := by rw [List.length_take]; omega
  refine ⟨a, c, by rw [hl], fun hne => ?_⟩
  have hcs : cs ≠ [] := fun e => hne (by rw [e]; simp)
  obtain ⟨ck, co, e, hck, hc⟩ := h hcs
  refine ⟨ck, co, e, hck, fun j hj => ?_⟩
  have hj' : j < cs.length := by omega
  obtain ⟨av, rv, h1⟩ := hc j hj'
  refine ⟨av, rv, ?_⟩
  rw [List.getElem_take]
  exact h1

theorem start_news (R V : Int) (cs : List PI) : cellX R V = wrap64 (cellX R V + (newsX (cs.take 0) : Nat)) := by
  unfold cellX
  have : (newsX (cs.take 0) : Nat) = 0 := by simp [newsX]
  rw [this]
  unfold wrap64
  omega

set_option maxRecDepth 100000 in
set_option maxHeartbeats 2000000 in
theorem rvariable_any (f : PF) (cv : Value) (v : Int) (w : World) (h : CA w cv f.code) :
    Calls Tryd.prog 24 #[.agg #[vI f.P, vI f.R, vI f.V, cv], vI v] w fun e w' => e = .returned (vI (varX f.R f.V v)) ∧ Fr (fun _ => False) w w' := by
  obtain ⟨a, c, rfl, H0'⟩ := id h
  obtain ⟨wa, hwa⟩ : ∃ wa, wa = w.alloc (.cells #[vI f.P, vI f.R, vI f.V, .slice a f.code.length c] 30) := ⟨_, rfl⟩
  have hb : wa.heap[w.heap.size]? = some (.cells #[vI f.P, vI f.R, vI f.V, .slice a f.code.length c] 30) := by rw [hwa]; exact heap_new0 w _
  have HWA : Hd (wa = w.alloc (.cells #[vI f.P, vI f.R, vI f.V, .slice a f.code.length c] 30)) := hwa
  obtain ⟨H, hH⟩ : ∃ H, H = w.heap.size := ⟨_, rfl⟩
  have HH : Hd (H = w.heap.size) := hH
  rw [← hH] at hb
  have hFa : Fr (fun _ => False) w wa := by rw [hwa]; exact Fr.alloc (Fr.refl _ w) _
  have HFa : Hd (Fr (fun _ => False) w wa) := hFa
  have HB : Hd (wa.heap[H]? = some (.cells #[vI f.P, vI f.R, vI f.V, .slice a f.code.length c] 30)) := hb
  have H0 : Hd (f.code ≠ [] → _) := H0'
  have c0 : wa.cell? ⟨H, 0, none⟩ = some (vI f.P) := by rw [cell_of0 hb]; rfl
  have c1 : wa.cell? ⟨H, 1, none⟩ = some (vI f.R) := by rw [cell_of0 hb]; rfl
  have c2 : wa.cell? ⟨H, 2, none⟩ = some (vI f.V) := by rw [cell_of0 hb]; rfl
  have c3 : wa.cell? ⟨H, 3, none⟩ = some (.slice a f.code.length c) := by rw [cell_of0 hb]; rfl
  clear hwa hH hb hFa H0' h
  by_cases hq0 : 0 ≤ f.R
  · have d0 : decide (f.R < 0) = false := by simp; omega
    by_cases hq1 : 0 ≤ v
    · have d1 : decide (v < 0) = false := by simp; omega
      by_cases hq2 : v < f.V
      · have d2 : decide (v ≥ f.V) = false := by simp; omega
        have HX : Hd (varX f.R f.V v = wrap64 (wrap64 (1 + f.R) + v)) := if_pos ⟨hq0, by omega, hq1, hq2⟩
        clear hq0 hq1 hq2
        go_enter Tryd.func24, Tryd.ntmps24
        go_upto_region 1 with fail
        rw [← HWA.out, ← HH.out]
        clear HWA
        go_wp2_with fail
        go_ret
        exact ⟨by rw [HX.out]; rfl, HFa.out⟩
      · have d2 : decide (v ≥ f.V) = true := by simp; omega
        have HX : Hd (varX f.R f.V v = -1) := if_neg (fun h => hq2 h.2.2.2)
        clear hq0 hq1 hq2
        go_enter Tryd.func24, Tryd.ntmps24
        go_upto_region 1 with fail
        rw [← HWA.out, ← HH.out]
        clear HWA
        go_wp2_with fail
        go_ret
        exact ⟨by rw [HX.out]; rfl, HFa.out⟩
    · have d1 : decide (v < 0) = true := by simp; omega
      have HX : Hd (varX f.R f.V v = -1) := if_neg (fun h => hq1 h.2.2.1)
      clear hq0 hq1
      go_enter Tryd.func24, Tryd.ntmps24
      go_upto_region 1 with fail
      rw [← HWA.out, ← HH.out]
      clear HWA
      go_wp2_with fail
      go_ret
      exact ⟨by rw [HX.out]; rfl, HFa.out⟩
  · have d0 : decide (f.R < 0) = true := by simp; omega
    have HX : Hd (varX f.R f.V v = -1) := if_neg (fun h => hq0 h.1)
    clear hq0
    go_enter Tryd.func24, Tryd.ntmps24
    go_upto_region 1 with fail
    rw [← HWA.out, ← HH.out]
    clear HWA
    go_wp2_with fail
    go_ret
    exact ⟨by rw [HX.out]; rfl, HFa.out⟩

end Go.Proofs.YtlmlmhinbkcpoaaDoor

namespace Go.Proofs.YtlmlmhinbkcpoaaDoor
open Go.RowKit (wrap32 wrap64)
set_option linter.unusedVariables false
set_option linter.unusedSimpArgs false

set_option maxRecDepth 100000 in
set_option maxHeartbeats 4000000 in
theorem rcell_any (f : PF) (cv : Value) (at' : Int) (w : World) (h : CA w cv f.code) (hn : f.code.length ≤ 1599289640354) :
    Calls Tryd.prog 25 #[.agg #[vI f.P, vI f.R, vI f.V, cv], vI at'] w fun e w' => e = .returned (vI (fcelX f.R f.V at' f.code)) ∧ Fr (fun _ => False) w w' := by
  obtain ⟨a, c, rfl, H0'⟩ := id h
  obtain ⟨wa, hwa⟩ : ∃ wa, wa = w.alloc (.cells #[vI f.P, vI f.R, vI f.V, .slice a f.code.length c] 30) := ⟨_, rfl⟩
  have hb : wa.heap[w.heap.size]? = some (.cells #[vI f.P, vI f.R, vI f.V, .slice a f.code.length c] 30) := by rw [hwa]; exact heap_new0 w _
  have HWA : Hd (wa = w.alloc (.cells #[vI f.P, vI f.R, vI f.V, .slice a f.code.length c] 30)) := hwa
  obtain ⟨H, hH⟩ : ∃ H, H = w.heap.size := ⟨_, rfl⟩
  have HH : Hd (H = w.heap.size) := hH
  rw [← hH] at hb
  have hFa : Fr (fun _ => False) w wa := by rw [hwa]; exact Fr.alloc (Fr.refl _ w) _
  have HFa : Hd (Fr (fun _ => False) w wa) := hFa
  have HB : Hd (wa.heap[H]? = some (.cells #[vI f.P, vI f.R, vI f.V, .slice a f.code.length c] 30)) := hb
  have H0 : Hd (f.code ≠ [] → _) := H0'
  have c0 : wa.cell? ⟨H, 0, none⟩ = some (vI f.P) := by rw [cell_of0 hb]; rfl
  have c1 : wa.cell? ⟨H, 1, none⟩ = some (vI f.R) := by rw [cell_of0 hb]; rfl
  have c2 : wa.cell? ⟨H, 2, none⟩ = some (vI f.V) := by rw [cell_of0 hb]; rfl
  have c3 : wa.cell? ⟨H, 3, none⟩ = some (.slice a f.code.length c) := by rw [cell_of0 hb]; rfl
  clear hwa hH hb hFa H0' h
  by_cases hq0 : 0 ≤ f.R
  · have d0 : decide (f.R < 0) = false := by simp; omega
    by_cases hq1 : 0 ≤ f.V
    · have d1 : decide (f.V < 0) = false := by simp; omega
      by_cases hq2 : 0 ≤ at'
      · have d2 : decide (at' < 0) = false := by simp; omega
        by_cases hq3 : at' < f.code.length
        · have d3 : decide (at' ≥ f.code.length) = false := by simp; omega
          obtain ⟨m, rfl⟩ := Int.eq_ofNat_of_zero_le hq2
          have hml : m < f.code.length := by omega
          obtain ⟨ck, co, ea, hck, hcs⟩ := H0.out (by intro e; simp [e] at hml)
          obtain ⟨av, rv, x0, -⟩ := hcs m hml
          have x0 := (HFa.out.cell (o := co + m * 7) hck (fun h => h)).trans x0
          have hop : (f.code[((m : Int)).toNat]?.map (·.op)) = some f.code[m].op := by simp [hml]
          have hm0 : (0 : Int) ≤ m := by omega
          have hm1 : (m : Int) < f.code.length := by omega
          have HOP : Hd ((f.code[((m : Int)).toNat]?.map (·.op)) = some f.code[m].op) := hop
          generalize f.code[m].op = op at *
          subst ea
          clear hcs hop
          by_cases h6 : op = 6
          · have d6 : (op != 6) = false := by simp [h6]
            have d7 : decide (op ≠ 6) = false := by simp [h6]
            have HX : Hd (fcelX f.R f.V m f.code = wrap64 (cellX f.R f.V + (newsX (f.code.take m) : Nat))) := by
              unfold Hd fcelX; rw [if_pos ⟨hq0, hq1, hq2, hq3, by rw [HOP.out, h6]⟩]; simp
            clear h6 hq0 hq1 hq2 hq3
            go_enter Tryd.func25, Tryd.ntmps25
            go_upto_region 1 with fail
            rw [← HWA.out, ← HH.out]
            clear HWA
            go_wp2_with fail
            clear c0 c1 c2 c3 x0
            go_loopw [5, 6] (fun nv v wr => ∃ (q : Int) (k : Nat), nv = .int .i64 q ∧ v = .int .i64 k ∧ k ≤ m ∧ Hd (q = wrap64 (cellX f.R f.V + (newsX (f.code.take k) : Nat))) ∧ Hd (Fr (fun _ => False) wa wr)) (fun _ v _ => match v with | .int _ q => m - q.toNat | _ => 0)
            case atStart => exact ⟨_, 0, rfl, rfl, Nat.zero_le _, start_news _ _ _, Fr.refl _ _⟩
            case round =>
              obtain ⟨q, k, rfl, rfl, hk, HQ, HF⟩ := hrel
              have c3 : wr.cell? ⟨H, 3, none⟩ = some (.slice (some ⟨ck, co, none⟩) f.code.length c) := by rw [HF.out.cell (heap_lt0 HB.out) (fun e => e), cell_of0 HB.out]; rfl
              by_cases hlt : k < m
              · have hkl : k < f.code.length := by omega
                obtain ⟨ck', co', ea, hck', hcs⟩ := H0.out (by intro e; simp [e] at hkl)
                cases ea
                obtain ⟨av, rv, x0, -⟩ := hcs k hkl
                have x0 := ((HFa.out.trans HF.out).cell (o := co + k * 7) hck (fun h => h)).trans x0
                have HT : Hd (f.code.take (k + 1) = f.code.take k ++ [f.code[k]]) := by unfold Hd; rw [List.take_add_one, List.getElem?_eq_getElem hkl]; rfl
                generalize f.code[k] = ci at *
                have hk0 : (0 : Int) ≤ k := by omega
                have hk1 : (k : Int) < f.code.length := by omega
                have hk2 : (k : Int) < m := by omega
                clear hcs
                by_cases h6 : ci.op = 6
                · have d6 : (ci.op == 6) = true := by simpa using h6
                  have HQ2 : Hd (wrap64 (q + 1) = wrap64 (cellX f.R f.V + (newsX (f.code.take (k + 1)) : Nat))) := by
                    unfold Hd; rw [HT.out, newsX_snoc, if_pos h6, HQ.out, wrap_add]; congr 1; omega
                  clear h6
                  go_wp2_with fail
                  exact ⟨⟨_, k + 1, rfl, by simp, by omega, HQ2.out, HF.out⟩, by simp; omega⟩
                · have d6 : (ci.op == 6) = false := by simpa using h6
                  have HQ2 : Hd (q = wrap64 (cellX f.R f.V + (newsX (f.code.take (k + 1)) : Nat))) := by unfold Hd; rw [HT.out, newsX_snoc, if_neg h6]; exact HQ.out
                  clear h6
                  go_wp2_with fail
                  exact ⟨⟨_, k + 1, rfl, by simp, by omega, HQ2.out, HF.out⟩, by simp; omega⟩
              · have hke : k = m := by omega
                have HE : Hd (q = fcelX f.R f.V m f.code) := by unfold Hd; rw [HX.out, HQ.out, hke]
                have hdk : decide ((k : Int) < m) = false := by simp; omega
                have hdk2 : decide (k < m) = false := by simp; omega
                clear hke hlt
                go_wp2_with fail
                go_ret
                exact ⟨by rw [← HE.out]; rfl, HFa.out.trans HF.out⟩
          · have d6 : (op != 6) = true := by simp [h6]
            have d7 : decide (op ≠ 6) = true := by simp [h6]
            have HX : Hd (fcelX f.R f.V m f.code = -1) := if_neg (fun h => h6 (by have := h.2.2.2.2; rw [HOP.out] at this; exact Option.some.inj this))
            clear h6 hq0 hq1 hq2 hq3
            go_enter Tryd.func25, Tryd.ntmps25
            go_upto_region 1 with fail
            rw [← HWA.out, ← HH.out]
            clear HWA
            go_wp2_with fail
            go_ret
            exact ⟨by rw [HX.out]; rfl, HFa.out⟩
        · have d3 : decide (at' ≥ f.code.length) = true := by simp; omega
          have HX : Hd (fcelX f.R f.V at' f.code = -1) := if_neg (fun h => hq3 h.2.2.2.1)
          clear hq0 hq1 hq2 hq3
          go_enter Tryd.func25, Tryd.ntmps25
          go_upto_region 1 with fail
          rw [← HWA.out, ← HH.out]
          clear HWA
          go_wp2_with fail
          go_ret
          exact ⟨by rw [HX.out]; rfl, HFa.out⟩
      · have d2 : decide (at' < 0) = true := by simp; omega
        have HX : Hd (fcelX f.R f.V at' f.code = -1) := if_neg (fun h => hq2 h.2.2.1)
        clear hq0 hq1 hq2
        go_enter Tryd.func25, Tryd.ntmps25
        go_upto_region 1 with fail
        rw [← HWA.out, ← HH.out]
        clear HWA
        go_wp2_with fail
        go_ret
        exact ⟨by rw [HX.out]; rfl, HFa.out⟩
    · have d1 : decide (f.V < 0) = true := by simp; omega
      have HX : Hd (fcelX f.R f.V at' f.code = -1) := if_neg (fun h => hq1 h.2.1)
      clear hq0 hq1
      go_enter Tryd.func25, Tryd.ntmps25
      go_upto_region 1 with fail
      rw [← HWA.out, ← HH.out]
      clear HWA
      go_wp2_with fail
      go_ret
      exact ⟨by rw [HX.out]; rfl, HFa.out⟩
  · have d0 : decide (f.R < 0) = true := by simp; omega
    have HX : Hd (fcelX f.R f.V at' f.code = -1) := if_neg (fun h => hq0 h.1)
    clear hq0
    go_enter Tryd.func25, Tryd.ntmps25
    go_upto_region 1 with fail
    rw [← HWA.out, ← HH.out]
    clear HWA
    go_wp2_with fail
    go_ret
    exact ⟨by rw [HX.out]; rfl, HFa.out⟩

end Go.Proofs.YtlmlmhinbkcpoaaDoor
