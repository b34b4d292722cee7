import Derived.Test.YtlmlmhinbkcpoaaDoorQLaJ
import Derived.Test.YtlmlmhinbkcpoaaDoorQQ3
namespace Go.Proofs.YtlmlmhinbkcpoaaDoor
open Go.RowKit (wrap32 wrap64)
set_option linter.unusedVariables false
set_option linter.unusedSimpArgs false

theorem i64w (n : Int) : Value.int IntKind.i64 (IntKind.i64.wrap n) = vI (wrap64 n) := by rw [IntKind.wrap_i64 n]; first | done | rfl | (unfold wrap64; rfl)
theorem wrap_add (a b : Int) : wrap64 (wrap64 a + b) = wrap64 (a + b) := by
  unfold wrap64
  omega
/-- How many News. -/
def newsX : List PI → Nat
  | [] => 0
  | c :: r => (if c.op = 6 then 1 else 0) + newsX r
theorem newsX_le : ∀ cs : List PI, newsX cs ≤ cs.length
  | [] => Nat.le_refl _
  | c :: r => by have := newsX_le r; simp only [newsX, List.length_cons]; split <;> omega
theorem newsX_snoc : ∀ (cs : List PI) (c : PI), newsX (cs ++ [c]) = newsX cs + (if c.op = 6 then 1 else 0)
  | [], c => by simp [newsX]
  | d :: r, c => by simp only [List.cons_append, newsX, newsX_snoc r c]; omega
def flocX (R V : Int) (cs : List PI) : Int := if 0 ≤ R ∧ 0 ≤ V then wrap64 (cellX R V + (newsX cs : Nat)) else 0
def fcelX (R V at' : Int) (cs : List PI) : Int := if 0 ≤ R ∧ 0 ≤ V ∧ 0 ≤ at' ∧ at' < cs.length ∧ (cs[at'.toNat]?.map (·.op)) = some 6 then wrap64 (cellX R V + (newsX (cs.take at'.toNat) : Nat)) else -1

set_option maxRecDepth 100000 in
set_option maxHeartbeats 1000000 in
theorem news_any (v : Value) (cs : List PI) (w : World) (h : CA w v cs) (hn : cs.length ≤ 1599289640354) :
    Calls Tryd.prog 35 #[v] w fun e w' => e = .returned (vI (newsX cs : Nat)) ∧ Fr (fun _ => False) w w' := by
  obtain ⟨a, c, rfl, h0⟩ := h
  have H0 : Hd (cs ≠ [] → _) := h0
  clear h0
  go_enter Tryd.func35, Tryd.ntmps35
  go_wp2_with fail
  go_loopw [3, 8] (fun nv v wr => ∃ (n k : Nat), nv = .int .i64 n ∧ v = .int .i64 k ∧ k ≤ cs.length ∧ n ≤ k ∧ Hd (n = newsX (cs.take k)) ∧ Hd (Fr (fun _ => False) w wr)) (fun _ v _ => match v with | .int _ q => cs.length - q.toNat | _ => 0)
  case atStart => exact ⟨0, 0, rfl, rfl, Nat.zero_le _, Nat.le_refl _, rfl, Fr.refl _ _⟩
  case round =>
    obtain ⟨n, k, rfl, rfl, hk, hnk, HN, HF⟩ := hrel
    by_cases hlt : k < cs.length
    · obtain ⟨ck, co, rfl, hck, hcs⟩ := H0.out (by intro e; simp [e] at hlt)
      obtain ⟨av, rv, c0, c1, c2, c3, c4, c5, c6, ia, ir⟩ := hcs k hlt
      have m1 := fun o => HF.out.cell (o := o) hck (fun h => h)
      have c0 := (m1 _).trans c0
      have c1 := (m1 _).trans c1
      have c2 := (m1 _).trans c2
      have c3 := (m1 _).trans c3
      have c4 := (m1 _).trans c4
      have c5 := (m1 _).trans c5
      have c6 := (m1 _).trans c6
      have HT : Hd (cs.take (k + 1) = cs.take k ++ [cs[k]]) := by unfold Hd; rw [List.take_add_one, List.getElem?_eq_getElem hlt]; rfl
      generalize cs[k] = ci at *
      obtain ⟨aa, ac, rfl, -⟩ := ia
      obtain ⟨ra, rc, rfl, -⟩ := ir
      have hk0 : (0 : Int) ≤ k := by omega
      have hk1 : (k : Int) < cs.length := by omega
      clear hcs m1
      by_cases h6 : ci.op = 6
      · have d6 : (ci.op == 6) = true := by simpa using h6
        have HN2 : Hd (n + 1 = newsX (cs.take (k + 1))) := by unfold Hd; rw [HT.out, newsX_snoc, if_pos h6, HN.out]
        clear h6
        go_wp2_with fail
        exact ⟨⟨n + 1, k + 1, by simp, by simp, by omega, by omega, HN2.out, HF.out.alloc _⟩, by simp; omega⟩
      · have d6 : (ci.op == 6) = false := by simpa using h6
        have HN2 : Hd (n = newsX (cs.take (k + 1))) := by unfold Hd; rw [HT.out, newsX_snoc, if_neg h6, ← HN.out]; rfl
        clear h6
        go_wp2_with fail
        exact ⟨⟨n, k + 1, rfl, by simp, by omega, by omega, HN2.out, HF.out.alloc _⟩, by simp; omega⟩
    · have hke : k = cs.length := by omega
      have HE : Hd (n = newsX cs) := by have := HN.out; rw [hke, List.take_length] at this; exact this
      have hdk : decide ((k : Int) < cs.length) = false := by simp; omega
      clear hke
      go_wp2_with fail
      go_ret
      exact ⟨by rw [← HE.out]; rfl, HF.out⟩

set_option maxRecDepth 100000 in
set_option maxHeartbeats 2000000 in
theorem locations_any (f : PF) (cv : Value) (w : World) (h : CA w cv f.code) (hn : f.code.length ≤ 1599289640354) :
    Calls Tryd.prog 14 #[.agg #[vI f.P, vI f.R, vI f.V, cv]] w fun e w' => e = .returned (vI (flocX f.R f.V f.code)) ∧ Fr (fun _ => False) w w' := by
  obtain ⟨a, c, rfl, -⟩ := id h
  obtain ⟨wa, hwa⟩ : ∃ wa, wa = w.alloc (.cells #[vI f.P, vI f.R, vI f.V, .slice a f.code.length c] 30) := ⟨_, rfl⟩
  have hb : wa.heap[w.heap.size]? = some (.cells #[vI f.P, vI f.R, vI f.V, .slice a f.code.length c] 30) := by rw [hwa]; exact heap_new0 w _
  have HWA : Hd (wa = w.alloc (.cells #[vI f.P, vI f.R, vI f.V, .slice a f.code.length c] 30)) := hwa
  obtain ⟨H, hH⟩ : ∃ H, H = w.heap.size := ⟨_, rfl⟩
  have HH : Hd (H = w.heap.size) := hH
  rw [← hH] at hb
  have hFa : Fr (fun _ => False) w wa := by rw [hwa]; exact Fr.alloc (Fr.refl _ w) _
  have c0 : wa.cell? ⟨H, 0, none⟩ = some (vI f.P) := by rw [cell_of0 hb]; rfl
  have c1 : wa.cell? ⟨H, 1, none⟩ = some (vI f.R) := by rw [cell_of0 hb]; rfl
  have c2 : wa.cell? ⟨H, 2, none⟩ = some (vI f.V) := by rw [cell_of0 hb]; rfl
  have c3 : wa.cell? ⟨H, 3, none⟩ = some (.slice a f.code.length c) := by rw [cell_of0 hb]; rfl
  obtain ⟨wb, hwb⟩ : ∃ wb, wb = wa.alloc (.cells #[vI f.P, vI f.R, vI f.V, .slice a f.code.length c] 30) := ⟨_, rfl⟩
  have HWB : Hd (wb = wa.alloc (.cells #[vI f.P, vI f.R, vI f.V, .slice a f.code.length c] 30)) := hwb
  have hFb : Fr (fun _ => False) wa wb := by rw [hwb]; exact Fr.alloc (Fr.refl _ wa) _
  have HF : Hd (Fr (fun _ => False) w wb) := hFa.trans hFb
  have HB : Hd (wb.heap[H]? = some (.cells #[vI f.P, vI f.R, vI f.V, .slice a f.code.length c] 30)) := (hFb.block H (heap_lt0 hb) (fun e => e)).trans hb
  have HC : Hd (CA wb (.slice a f.code.length c) f.code) := h.stay (hFa.trans hFb)
  clear hwa hH hb hwb hFb hFa h
  go_enter Tryd.func14, Tryd.ntmps14
  go_upto_region 1 with fail
  rw [← HWA.out, ← HH.out]
  clear HWA
  go_wp2_with fail
  refine (show Calls Tryd.prog 33 #[.agg #[vI f.P, vI f.R, vI f.V, .slice a f.code.length c]] wa _ from numbered_any f.P f.R f.V a _ c wa).mono ?_
  rintro e w1 ⟨rfl, rfl⟩
  rw [← HWB.out]
  clear HWB c0 c1 c2 c3
  by_cases hnm : 0 ≤ f.R ∧ 0 ≤ f.V
  · have d0 : decide (0 ≤ f.R ∧ 0 ≤ f.V) = true := by simpa using hnm
    rw [d0]
    have HX : Hd (flocX f.R f.V f.code = wrap64 (cellX f.R f.V + (newsX f.code : Nat))) := if_pos hnm
    clear d0 hnm
    have HS : Hd (∀ wx, Fr (fun _ => False) wb wx → wx.cell? ⟨H, 0, none⟩ = some (vI f.P) ∧ wx.cell? ⟨H, 1, none⟩ = some (vI f.R) ∧ wx.cell? ⟨H, 2, none⟩ = some (vI f.V) ∧ wx.cell? ⟨H, 3, none⟩ = some (.slice a f.code.length c)) := fun wx hx => by
      have hb := (hx.block H (heap_lt0 HB.out) (fun e => e)).trans HB.out
      exact ⟨by rw [cell_of0 hb]; rfl, by rw [cell_of0 hb]; rfl, by rw [cell_of0 hb]; rfl, by rw [cell_of0 hb]; rfl⟩
    obtain ⟨s0, s1, s2, s3⟩ := HS.out wb (Fr.refl _ wb)
    go_upto_region 3 with fail
    go_cut [2] (fun x2 wx => x2 = vI (wrap64 (cellX f.R f.V + (newsX f.code : Nat))) ∧ Hd (Fr (fun _ => False) wb wx))
    case first =>
      go_region_with ((
        first
          | (go_at_call 34
             first
               | (refine (show Calls Tryd.prog 34 #[.agg #[vI f.P, vI f.R, vI f.V, .slice a f.code.length c]] wb.drew _ from firstCell_any f.P f.R f.V a _ c wb.drew).mono ?_
                  rintro e w3 ⟨rfl, hw3⟩
                  have HF3 : Hd (Fr (fun _ => False) wb w3) := by unfold Hd; rw [hw3]; exact Fr.alloc (Fr.drew (Fr.refl _ wb)) _
                  obtain ⟨s0, s1, s2, s3⟩ := HS.out w3 HF3.out
                  clear hw3)
               | (refine (show Calls Tryd.prog 34 #[.agg #[vI f.P, vI f.R, vI f.V, .slice a f.code.length c]] w4 _ from firstCell_any f.P f.R f.V a _ c w4).mono ?_
                  rintro e w3 ⟨rfl, hw3⟩
                  have HF3 : Hd (Fr (fun _ => False) wb w3) := by unfold Hd; rw [hw3]; exact HF4.out.alloc _
                  obtain ⟨s0, s1, s2, s3⟩ := HS.out w3 HF3.out
                  clear hw3))
          | (go_at_call 35
             first
               | (refine (show Calls Tryd.prog 35 #[.slice a f.code.length c] wb.drew _ from news_any _ f.code wb.drew (HC.out.stay (Fr.drew (Fr.refl _ wb))) hn).mono ?_
                  rintro e w4 ⟨rfl, hF4⟩
                  have HF4 : Hd (Fr (fun _ => False) wb w4) := (Fr.drew (Fr.refl _ wb)).trans hF4
                  obtain ⟨s0, s1, s2, s3⟩ := HS.out w4 HF4.out
                  clear hF4)
               | (refine (show Calls Tryd.prog 35 #[.slice a f.code.length c] w3 _ from news_any _ f.code w3 (HC.out.stay HF3.out) hn).mono ?_
                  rintro e w4 ⟨rfl, hF4⟩
                  have HF4 : Hd (Fr (fun _ => False) wb w4) := HF3.out.trans hF4
                  obtain ⟨s0, s1, s2, s3⟩ := HS.out w4 HF4.out
                  clear hF4))))
      all_goals
        go_wp2_with fail
        go_meet
        first
          | exact ⟨i64w _, HF4.out⟩
          | exact ⟨i64w _, HF3.out⟩
          | exact ⟨rfl, HF4.out⟩
          | exact ⟨rfl, HF3.out⟩
    case rest =>
      obtain ⟨rfl, HFx⟩ := hcut
      go_wp2_with fail
      go_ret
      exact ⟨by rw [HX.out]; rfl, HF.out.trans HFx.out⟩
  · have d0 : decide (0 ≤ f.R ∧ 0 ≤ f.V) = false := by simpa using hnm
    rw [d0]
    have HX : Hd (flocX f.R f.V f.code = 0) := if_neg hnm
    clear d0 hnm
    go_wp2_with fail
    go_ret
    exact ⟨by rw [HX.out]; rfl, HF.out⟩

end Go.Proofs.YtlmlmhinbkcpoaaDoor

namespace Go.Proofs.YtlmlmhinbkcpoaaDoor
open Go.RowKit (wrap32 wrap64)
set_option linter.unusedVariables false
set_option linter.unusedSimpArgs false

theorem CA.taken {w : World} {a : Option Addr} {c : Nat} {cs : List PI} (h : CA w (.slice a cs.length c) cs) (k : Nat) (hk : k ≤ cs.length) : CA w (.slice a k c) (cs.take k) := by
  obtain ⟨a', c', e, h⟩ := h
  cases e
  have hl : (cs.take k).length = k := by rw [List.length_take]; omega
  refine ⟨a, c, by rw [hl], fun hne => ?_⟩
  have hcs : cs ≠ [] := fun e => hne (by rw [e]; simp)
  obtain ⟨ck, co, e, hck, hc⟩ := h hcs
  refine ⟨ck, co, e, hck, fun j hj => ?_⟩
  have hj' : j < cs.length := by omega
  obtain ⟨av, rv, h1⟩ := hc j hj'
  refine ⟨av, rv, ?_⟩
  rw [List.getElem_take]
  exact h1

theorem start_news (R V : Int) (cs : List PI) : cellX R V = wrap64 (cellX R V + (newsX (cs.take 0) : Nat)) := by
  unfold cellX
  have : (newsX (cs.take 0) : Nat) = 0 := by simp [newsX]
  rw [this]
  unfold wrap64
  omega

set_option maxRecDepth 100000 in
set_option maxHeartbeats 2000000 in
theorem rvariable_any (f : PF) (cv : Value) (v : Int) (w : World) (h : CA w cv f.code) :
    Calls Tryd.prog 24 #[.agg #[vI f.P, vI f.R, vI f.V, cv], vI v] w fun e w' => e = .returned (vI (varX f.R f.V v)) ∧ Fr (fun _ => False) w w' := by
  obtain ⟨a, c, rfl, H0'⟩ := id h
  obtain ⟨wa, hwa⟩ : ∃ wa, wa = w.alloc (.cells #[vI f.P, vI f.R, vI f.V, .slice a f.code.length c] 30) := ⟨_, rfl⟩
  have hb : wa.heap[w.heap.size]? = some (.cells #[vI f.P, vI f.R, vI f.V, .slice a f.code.length c] 30) := by rw [hwa]; exact heap_new0 w _
  have HWA : Hd (wa = w.alloc (.cells #[vI f.P, vI f.R, vI f.V, .slice a f.code.length c] 30)) := hwa
  obtain ⟨H, hH⟩ : ∃ H, H = w.heap.size := ⟨_, rfl⟩
  have HH : Hd (H = w.heap.size) := hH
  rw [← hH] at hb
  have hFa : Fr (fun _ => False) w wa := by rw [hwa]; exact Fr.alloc (Fr.refl _ w) _
  have HFa : Hd (Fr (fun _ => False) w wa) := hFa
  have HB : Hd (wa.heap[H]? = some (.cells #[vI f.P, vI f.R, vI f.V, .slice a f.code.length c] 30)) := hb
  have H0 : Hd (f.code ≠ [] → _) := H0'
  have c0 : wa.cell? ⟨H, 0, none⟩ = some (vI f.P) := by rw [cell_of0 hb]; rfl
  have c1 : wa.cell? ⟨H, 1, none⟩ = some (vI f.R) := by rw [cell_of0 hb]; rfl
  have c2 : wa.cell? ⟨H, 2, none⟩ = some (vI f.V) := by rw [cell_of0 hb]; rfl
  have c3 : wa.cell? ⟨H, 3, none⟩ = some (.slice a f.code.length c) := by rw [cell_of0 hb]; rfl
  clear hwa hH hb hFa H0' h
  by_cases hq0 : 0 ≤ f.R
  · have d0 : decide (f.R < 0) = false := by simp; omega
    by_cases hq1 : 0 ≤ v
    · have d1 : decide (v < 0) = false := by simp; omega
      by_cases hq2 : v < f.V
      · have d2 : decide (v ≥ f.V) = false := by simp; omega
        have HX : Hd (varX f.R f.V v = wrap64 (wrap64 (1 + f.R) + v)) := if_pos ⟨hq0, by omega, hq1, hq2⟩
        clear hq0 hq1 hq2
        go_enter Tryd.func24, Tryd.ntmps24
        go_upto_region 1 with fail
        rw [← HWA.out, ← HH.out]
        clear HWA
        go_wp2_with fail
        go_ret
        exact ⟨by rw [HX.out]; rfl, HFa.out⟩
      · have d2 : decide (v ≥ f.V) = true := by simp; omega
        have HX : Hd (varX f.R f.V v = -1) := if_neg (fun h => hq2 h.2.2.2)
        clear hq0 hq1 hq2
        go_enter Tryd.func24, Tryd.ntmps24
        go_upto_region 1 with fail
        rw [← HWA.out, ← HH.out]
        clear HWA
        go_wp2_with fail
        go_ret
        exact ⟨by rw [HX.out]; rfl, HFa.out⟩
    · have d1 : decide (v < 0) = true := by simp; omega
      have HX : Hd (varX f.R f.V v = -1) := if_neg (fun h => hq1 h.2.2.1)
      clear hq0 hq1
      go_enter Tryd.func24, Tryd.ntmps24
      go_upto_region 1 with fail
      rw [← HWA.out, ← HH.out]
      clear HWA
      go_wp2_with fail
      go_ret
      exact ⟨by rw [HX.out]; rfl, HFa.out⟩
  · have d0 : decide (f.R < 0) = true := by simp; omega
    have HX : Hd (varX f.R f.V v = -1) := if_neg (fun h => hq0 h.1)
    clear hq0
    go_enter Tryd.func24, Tryd.ntmps24
    go_upto_region 1 with fail
    rw [← HWA.out, ← HH.out]
    clear HWA
    go_wp2_with fail
    go_ret
    exact ⟨by rw [HX.out]; rfl, HFa.out⟩

set_option maxRecDepth 100000 in
set_option maxHeartbeats 2000000 in
theorem rlocations_any (f : PF) (cv : Value) (w : World) (h : CA w cv f.code) (hn : f.code.length ≤ 1599289640354) :
    Calls Tryd.prog 15 #[.agg #[vI f.P, vI f.R, vI f.V, cv]] w fun e w' => e = .returned (vI (flocX f.R f.V f.code)) ∧ Fr (fun _ => False) w w' := by
  obtain ⟨a, c, rfl, H0'⟩ := id h
  obtain ⟨wa, hwa⟩ : ∃ wa, wa = w.alloc (.cells #[vI f.P, vI f.R, vI f.V, .slice a f.code.length c] 30) := ⟨_, rfl⟩
  have hb : wa.heap[w.heap.size]? = some (.cells #[vI f.P, vI f.R, vI f.V, .slice a f.code.length c] 30) := by rw [hwa]; exact heap_new0 w _
  have HWA : Hd (wa = w.alloc (.cells #[vI f.P, vI f.R, vI f.V, .slice a f.code.length c] 30)) := hwa
  obtain ⟨H, hH⟩ : ∃ H, H = w.heap.size := ⟨_, rfl⟩
  have HH : Hd (H = w.heap.size) := hH
  rw [← hH] at hb
  have hFa : Fr (fun _ => False) w wa := by rw [hwa]; exact Fr.alloc (Fr.refl _ w) _
  have HFa : Hd (Fr (fun _ => False) w wa) := hFa
  have HB : Hd (wa.heap[H]? = some (.cells #[vI f.P, vI f.R, vI f.V, .slice a f.code.length c] 30)) := hb
  have H0 : Hd (f.code ≠ [] → _) := H0'
  have c0 : wa.cell? ⟨H, 0, none⟩ = some (vI f.P) := by rw [cell_of0 hb]; rfl
  have c1 : wa.cell? ⟨H, 1, none⟩ = some (vI f.R) := by rw [cell_of0 hb]; rfl
  have c2 : wa.cell? ⟨H, 2, none⟩ = some (vI f.V) := by rw [cell_of0 hb]; rfl
  have c3 : wa.cell? ⟨H, 3, none⟩ = some (.slice a f.code.length c) := by rw [cell_of0 hb]; rfl
  clear hwa hH hb hFa H0' h
  by_cases hq0 : 0 ≤ f.R
  · have d0 : decide (f.R < 0) = false := by simp; omega
    by_cases hq1 : 0 ≤ f.V
    · have d1 : decide (f.V < 0) = false := by simp; omega
      have HX : Hd (flocX f.R f.V f.code = wrap64 (cellX f.R f.V + (newsX f.code : Nat))) := if_pos ⟨hq0, hq1⟩
      clear hq0 hq1
      go_enter Tryd.func15, Tryd.ntmps15
      go_upto_region 1 with fail
      rw [← HWA.out, ← HH.out]
      clear HWA
      go_wp2_with fail
      clear c0 c1 c2 c3
      go_loopw [3, 4] (fun nv v wr => ∃ (q : Int) (k : Nat), nv = .int .i64 q ∧ v = .int .i64 k ∧ k ≤ f.code.length ∧ Hd (q = wrap64 (cellX f.R f.V + (newsX (f.code.take k) : Nat))) ∧ Hd (Fr (fun _ => False) wa wr)) (fun _ v _ => match v with | .int _ q => f.code.length - q.toNat | _ => 0)
      case atStart => exact ⟨_, 0, rfl, rfl, Nat.zero_le _, start_news _ _ _, Fr.refl _ _⟩
      case round =>
        obtain ⟨q, k, rfl, rfl, hk, HQ, HF⟩ := hrel
        have c3 : wr.cell? ⟨H, 3, none⟩ = some (.slice a f.code.length c) := by rw [HF.out.cell (heap_lt0 HB.out) (fun e => e), cell_of0 HB.out]; rfl
        by_cases hlt : k < f.code.length
        · have hkl : k < f.code.length := by omega
          obtain ⟨ck, co, rfl, hck, hcs⟩ := H0.out (by intro e; simp [e] at hkl)
          obtain ⟨av, rv, x0, -⟩ := hcs k hkl
          have x0 := ((HFa.out.trans HF.out).cell (o := co + k * 7) hck (fun h => h)).trans x0
          have HT : Hd (f.code.take (k + 1) = f.code.take k ++ [f.code[k]]) := by unfold Hd; rw [List.take_add_one, List.getElem?_eq_getElem hkl]; rfl
          generalize f.code[k] = ci at *
          have hk0 : (0 : Int) ≤ k := by omega
          have hk1 : (k : Int) < f.code.length := by omega
          have hk2 : (k : Int) < f.code.length := by omega
          clear hcs
          by_cases h6 : ci.op = 6
          · have d6 : (ci.op == 6) = true := by simpa using h6
            have HQ2 : Hd (wrap64 (q + 1) = wrap64 (cellX f.R f.V + (newsX (f.code.take (k + 1)) : Nat))) := by
              unfold Hd; rw [HT.out, newsX_snoc, if_pos h6, HQ.out, wrap_add]; congr 1; omega
            clear h6
            go_wp2_with fail
            exact ⟨⟨_, k + 1, rfl, by simp, by omega, HQ2.out, HF.out⟩, by simp; omega⟩
          · have d6 : (ci.op == 6) = false := by simpa using h6
            have HQ2 : Hd (q = wrap64 (cellX f.R f.V + (newsX (f.code.take (k + 1)) : Nat))) := by unfold Hd; rw [HT.out, newsX_snoc, if_neg h6]; exact HQ.out
            clear h6
            go_wp2_with fail
            exact ⟨⟨_, k + 1, rfl, by simp, by omega, HQ2.out, HF.out⟩, by simp; omega⟩
        · have hke : k = f.code.length := by omega
          have HE : Hd (q = flocX f.R f.V f.code) := by unfold Hd; rw [HX.out, HQ.out, hke, List.take_length]
          have hdk : decide ((k : Int) < f.code.length) = false := by simp; omega
          have hdk2 : decide (k < f.code.length) = false := by simp; omega
          clear hke hlt
          go_wp2_with fail
          go_ret
          exact ⟨by rw [← HE.out]; rfl, HFa.out.trans HF.out⟩
    · have d1 : decide (f.V < 0) = true := by simp; omega
      have HX : Hd (flocX f.R f.V f.code = 0) := if_neg (fun h => hq1 h.2)
      clear hq0 hq1
      go_enter Tryd.func15, Tryd.ntmps15
      go_upto_region 1 with fail
      rw [← HWA.out, ← HH.out]
      clear HWA
      go_wp2_with fail
      go_ret
      exact ⟨by rw [HX.out]; rfl, HFa.out⟩
  · have d0 : decide (f.R < 0) = true := by simp; omega
    have HX : Hd (flocX f.R f.V f.code = 0) := if_neg (fun h => hq0 h.1)
    clear hq0
    go_enter Tryd.func15, Tryd.ntmps15
    go_upto_region 1 with fail
    rw [← HWA.out, ← HH.out]
    clear HWA
    go_wp2_with fail
    go_ret
    exact ⟨by rw [HX.out]; rfl, HFa.out⟩

end Go.Proofs.YtlmlmhinbkcpoaaDoor
