import Derived.Test.YtngbakjalmgciaaGreatQQp
import Derived.BigQuiet
import Derived.Test.YtngbakjalmgciaaGreatQC7J
namespace Go.Proofs.YtngbakjalmgciaaGreat
open Go.RowKit (wrap32 wrap64)
set_option linter.unusedVariables false
set_option linter.unusedSimpArgs false

theorem RmO.fr0 {w w' : World} {B : Nat} {v : Value} {cl : List (List OpT)} (h : RmO w B v cl) (f : Fr (fun _ => False) w w') : RmO w' B v cl := by
  obtain ⟨G, cap, us, e1, e2, hL⟩ := h
  exact ⟨G, cap, us, e1, e2, hL.fr0 (qr_stays B cl) f⟩
theorem RmO.look {w : World} {B : Nat} {v : Value} {cl : List (List OpT)} (h : RmO w B v cl) : ∃ G cap, v = .slice (some ⟨G, 0, none⟩) cl.length cap ∧ cl.length + 64 ≤ cap ∧
    (∀ i (hi : i < cl.length), ∃ g c, cl[i].length + 64 ≤ c ∧ ∀ W, Fr (fun _ => False) w W → W.cell? ⟨G, i, none⟩ = some (.slice (some ⟨g, 0, none⟩) cl[i].length c) ∧ (∀ q (hq : q < cl[i].length), W.cell? ⟨g, q * 3, none⟩ = some (vI (cl[i])[q].1) ∧ W.cell? ⟨g, q * 3 + 1, none⟩ = some (vI (cl[i])[q].2.1) ∧ W.cell? ⟨g, q * 3 + 2, none⟩ = some (.string (cl[i])[q].2.2)) ∧ ∀ k, k < 64 → W.cell? ⟨g, (cl[i].length + k) * 3, none⟩ = some (vI (77 + (k : Int)))) ∧
    ∀ k, k < 64 → ∃ m, ∀ W, Fr (fun _ => False) w W → W.cell? ⟨G, cl.length + k, none⟩ = some (.slice (some ⟨m, 0, none⟩) 1 1) ∧ W.cell? ⟨m, 0, none⟩ = some (vI (-77 - (k : Int))) := by
  obtain ⟨G, cap, us, e1, e2, hL⟩ := h
  obtain ⟨ad, cap', e3, hx⟩ := RowAt.own hL.row
  obtain ⟨g', o, e4, hgl, hcs⟩ := hx (fun e => by rw [e] at e2; simp at e2)
  injection e3 with e5 _ e7
  rw [e4] at e5
  injection e5 with e5
  injection e5 with e5 e6 _
  subst e5 e6
  have hcap : cl.length + 64 ≤ cap := by
    rcases hL.row.2 with ⟨q1, -⟩ | ⟨g3, cap3, cur, q1, b1, b2, b3, -⟩
    · cases q1
    · injection q1 with _ _ q2
      rw [e2] at b3
      omega
  refine ⟨G, cap, e1, hcap, fun i hi => ?_, fun k hk => ?_⟩
  · have hu := hL.it i (by omega)
    rcases hu with ⟨-, hu⟩ | ⟨hge, -⟩
    · rw [getD_at hi] at hu
      obtain ⟨g, c, eg, hc, -, -, -⟩ := hu.cells
      refine ⟨g, c, hc, fun W f => ?_⟩
      obtain ⟨g2, c2, eg2, -, -, p1, p2⟩ := (hu.st f (fun _ _ e => e)).cells
      rw [eg] at eg2
      injection eg2 with q1 _ q3
      injection q1 with q1
      injection q1 with q1 _ _
      subst q1 q3
      refine ⟨?_, p1, p2⟩
      rw [f.cell hgl (fun e => e)]
      have := hcs i (by omega)
      rw [Nat.zero_add] at this
      rw [this, eg]
    · omega
  · have hu := hL.it (cl.length + k) (by omega)
    rcases hu with ⟨hlt, -⟩ | ⟨-, m, em, hm, hc⟩
    · omega
    · refine ⟨m, fun W f => ⟨?_, ?_⟩⟩
      · rw [f.cell hgl (fun e => e)]
        have := hcs (cl.length + k) (by omega)
        rw [Nat.zero_add] at this
        rw [this, em]
      · rw [f.cell hm (fun e => e), hc]
        have : cl.length + k - cl.length = k := by omega
        rw [this]
theorem RmO.cls {w : World} {B : Nat} {v : Value} {cl : List (List OpT)} (h : RmO w B v cl) : ClsAt w w.heap.size v cl := by
  have h' := h
  obtain ⟨G, cap, us, e1, e2, hL⟩ := h'
  obtain ⟨ad, cap', e3, hx⟩ := RowAt.own hL.row
  obtain ⟨g', o, e4, hgl, hcs⟩ := hx (fun e => by rw [e] at e2; simp at e2)
  injection e3 with e5 _ e7
  rw [e4] at e5
  injection e5 with e5
  injection e5 with e5 e6 _
  subst e5 e6
  refine ⟨_, cap, e1, fun _ => ⟨G, 0, rfl, hgl, fun i hi => ⟨us[i]'(by omega), hcs i (by omega), ?_⟩⟩⟩
  rcases hL.it i (by omega) with ⟨-, hu⟩ | ⟨hge, -⟩
  · rw [getD_at hi] at hu; exact hu.ops
  · omega
set_option maxRecDepth 100000 in
set_option maxHeartbeats 4000000 in
theorem keptOps_any (w : World) (B : Nat) (v v2 : Value) (cl : List (List OpT)) (h : RmO w B v cl) (h2 : ClsAt w w.heap.size v2 cl) (hn : cl.length ≤ 2147483647) (hl : ∀ l ∈ cl, l.length ≤ 2147483647) :
    Calls Tryz.prog 11 #[v, v2] w fun e w' => e = .returned (.bool true) ∧ Fr (fun _ => False) w w' := by
  obtain ⟨G, cap, rfl, hcap, hA, hB⟩ := h.look
  obtain ⟨ad, cap2, rfl, hC⟩ := h2.look
  have HL : Hd (∀ l ∈ cl, l.length ≤ 2147483647) := hl
  have HA : Hd (∀ i (hi : i < cl.length), ∃ g c, cl[i].length + 64 ≤ c ∧ ∀ W, Fr (fun _ => False) w W → W.cell? ⟨G, i, none⟩ = some (.slice (some ⟨g, 0, none⟩) cl[i].length c) ∧ (∀ q (hq : q < cl[i].length), W.cell? ⟨g, q * 3, none⟩ = some (vI (cl[i])[q].1) ∧ W.cell? ⟨g, q * 3 + 1, none⟩ = some (vI (cl[i])[q].2.1) ∧ W.cell? ⟨g, q * 3 + 2, none⟩ = some (.string (cl[i])[q].2.2)) ∧ ∀ k, k < 64 → W.cell? ⟨g, (cl[i].length + k) * 3, none⟩ = some (vI (77 + (k : Int)))) := hA
  have HC : Hd (∀ k (hk : k < cl.length), ∃ g o ua uc, ad = some ⟨g, o, none⟩ ∧ ∀ W, Fr (fun _ => False) w W → W.cell? ⟨g, o + k, none⟩ = some (.slice ua cl[k].length uc) ∧ OpsAt W W.heap.size (.slice ua cl[k].length uc) cl[k]) := hC
  obtain ⟨n, en⟩ : ∃ n, n = cl.length := ⟨_, rfl⟩
  have EN : Hd (n = cl.length) := en
  rw [← en] at hn hcap hB ⊢
  have HB : Hd (∀ k, k < 64 → ∃ m, ∀ W, Fr (fun _ => False) w W → W.cell? ⟨G, n + k, none⟩ = some (.slice (some ⟨m, 0, none⟩) 1 1) ∧ W.cell? ⟨m, 0, none⟩ = some (vI (-77 - (k : Int)))) := hB
  clear en hA hB hC h h2 hl
  go_enter Tryz.func11, Tryz.ntmps11
  go_wp2_with fail
  go_loopw [6, 7] (fun v6 _ wx => ∃ k : Nat, v6 = .int .i64 k ∧ k ≤ 64 ∧ Hd (Fr (fun _ => False) w wx)) (fun v _ _ => match v with | .int _ q => 64 - q.toNat | _ => 0)
  case atStart => exact ⟨0, rfl, by omega, Fr.refl _ _⟩
  case round =>
    obtain ⟨k, rfl, hk, HF⟩ := hrel
    by_cases hlt : k < 64
    · have d1 : decide ((k : Int) < 64) = true := by simp; omega
      have k0 : (0 : Int) ≤ k := by omega
      have k1 : (k : Int) < 64 := by omega
      obtain ⟨m, hm⟩ := HB.out k hlt
      obtain ⟨c, cm⟩ := hm wr HF.out
      have x0 : (0 : Int) ≤ (n : Int) + (k : Int) := by omega
      have x1 : (n : Int) + (k : Int) < ((n + 64 : Nat) : Int) := by omega
      clear hm
      go_wp2_with fail
      exact ⟨⟨k + 1, by simp, by omega, HF.out⟩, by simp; omega⟩
    · have d1 : decide ((k : Int) < 64) = false := by simp; omega
      have HF1 := HF
      clear HF HB
      go_wp2_with fail
      go_loopw [8, 9, 10, 11, 12] (fun v8 _ _ _ _ wx => ∃ i : Nat, v8 = .int .i64 i ∧ i ≤ n ∧ Hd (Fr (fun _ => False) w wx)) (fun v _ _ _ _ _ => match v with | .int _ q => n - q.toNat | _ => 0)
      case atStart => exact ⟨0, rfl, by omega, HF1.out⟩
      case round =>
        clear HF1
        obtain ⟨i, rfl, hi, HF⟩ := hrel
        by_cases hin : i < n
        · have d2 : decide ((i : Int) < (n : Int)) = true := by simp; omega
          have i0 : (0 : Int) ≤ i := by omega
          have i1 : (i : Int) < n := by omega
          have hic : i < cl.length := by rw [← EN.out]; exact hin
          obtain ⟨g, c, hgc, hA⟩ := HA.out i hic
          obtain ⟨g2, o2, ua, uc, rfl, hC⟩ := HC.out i hic
          obtain ⟨cA, -, -⟩ := hA wr HF.out
          obtain ⟨cC, -⟩ := hC wr HF.out
          have hll := HL.out _ (List.getElem_mem hic)
          obtain ⟨l, el⟩ : ∃ l, l = cl[i] := ⟨_, rfl⟩
          rw [← el] at hgc hA hC cA cC hll
          have HA2 : Hd (∀ W, Fr (fun _ => False) w W → W.cell? ⟨G, i, none⟩ = some (.slice (some ⟨g, 0, none⟩) l.length c) ∧ (∀ q (hq : q < l.length), W.cell? ⟨g, q * 3, none⟩ = some (vI l[q].1) ∧ W.cell? ⟨g, q * 3 + 1, none⟩ = some (vI l[q].2.1) ∧ W.cell? ⟨g, q * 3 + 2, none⟩ = some (.string l[q].2.2)) ∧ ∀ k, k < 64 → W.cell? ⟨g, (l.length + k) * 3, none⟩ = some (vI (77 + (k : Int)))) := hA
          have HC2 : Hd (∀ W, Fr (fun _ => False) w W → W.cell? ⟨g2, o2 + i, none⟩ = some (.slice ua l.length uc) ∧ OpsAt W W.heap.size (.slice ua l.length uc) l) := hC
          obtain ⟨m, em⟩ : ∃ m, m = l.length := ⟨_, rfl⟩
          have EM : Hd (m = l.length) := em
          rw [← em] at hgc cA cC hll
          clear hA hC hic el em
          go_wp2_with fail
          go_loopw [11] (fun v11 wx => ∃ q : Nat, v11 = .int .i64 q ∧ q ≤ m ∧ Hd (Fr (fun _ => False) w wx)) (fun v _ => match v with | .int _ q => m - q.toNat | _ => 0)
          case atStart => exact ⟨0, rfl, by omega, HF.out⟩
          case round =>
            clear HF cA cC
            obtain ⟨q, rfl, hq, HF⟩ := hrel
            by_cases hqm : q < m
            · have d3 : decide ((q : Int) < (m : Int)) = true := by simp; omega
              have q0 : (0 : Int) ≤ q := by omega
              have q1 : (q : Int) < m := by omega
              have q2 : (q : Int) < ((m + 64 : Nat) : Int) := by omega
              have hql : q < l.length := by rw [← EM.out]; exact hqm
              obtain ⟨-, hcell, -⟩ := HA2.out wr HF.out
              obtain ⟨c0, c1, c2⟩ := hcell q hql
              obtain ⟨cC, hops⟩ := HC2.out wr HF.out
              obtain ⟨oa, oc, eo, -, hox⟩ := hops
              obtain ⟨og, oo, eoa, -, hoc⟩ := hox (fun e => by rw [e] at hql; simp at hql)
              obtain ⟨s0, s1, s2⟩ := hoc q hql
              have eu : ua = some ⟨og, oo, none⟩ := by injection eo with e _ _; rw [e, eoa]
              generalize l[q] = op at *
              obtain ⟨kd, ky, x⟩ := op
              simp only at c0 c1 c2 s0 s1 s2
              rw [← EM.out] at cC
              rw [eu] at cC
              have HFn : Hd (∀ nq, Fr (fun _ => False) w (wr.drewN nq)) := fun nq => HF.out.drewN nq
              clear hcell hoc hox eo eoa eu hql
              go_wp2_with fail
              go_quiet (fail)
              have HFd : Hd (Fr (fun _ => False) w (wr.drewN nq)) := HFn.out nq
              generalize wr.drewN nq = wd at *
              clear HFn
              go_wp2_with fail
              exact ⟨⟨q + 1, by simp, by omega, HFd.out⟩, by simp; omega⟩
            · have d3 : decide ((q : Int) < (m : Int)) = false := by simp; omega
              have d3n : ¬ q < m := hqm
              have HF1 := HF
              clear HF
              go_wp2_with fail
              go_loopw [12] (fun v12 wx => ∃ p : Nat, v12 = .int .i64 p ∧ p ≤ 64 ∧ Hd (Fr (fun _ => False) w wx)) (fun v _ => match v with | .int _ q => 64 - q.toNat | _ => 0)
              case atStart => exact ⟨0, rfl, by omega, HF1.out⟩
              case round =>
                clear HF1
                obtain ⟨p, rfl, hp, HF⟩ := hrel
                by_cases hp64 : p < 64
                · have d4 : decide ((p : Int) < 64) = true := by simp; omega
                  have p0 : (0 : Int) ≤ p := by omega
                  have p1 : (p : Int) < 64 := by omega
                  obtain ⟨-, -, hmk⟩ := HA2.out wr HF.out
                  have cm := hmk p hp64
                  rw [← EM.out] at cm
                  have x0 : (0 : Int) ≤ (m : Int) + (p : Int) := by omega
                  have x1 : (m : Int) + (p : Int) < ((m + 64 : Nat) : Int) := by omega
                  clear hmk
                  go_wp2_with fail
                  exact ⟨⟨p + 1, by simp, by omega, HF.out⟩, by simp; omega⟩
                · have d4 : decide ((p : Int) < 64) = false := by simp; omega
                  go_wp2_with fail
                  exact ⟨⟨i + 1, by simp, by omega, HF.out⟩, by simp; omega⟩
        · have d2 : decide ((i : Int) < (n : Int)) = false := by simp; omega
          have d2n : ¬ i < n := hin
          go_wp2_with fail
          go_ret
          exact ⟨rfl, HF.out⟩
end Go.Proofs.YtngbakjalmgciaaGreat

namespace Go.Proofs.YtngbakjalmgciaaGreat
open Go.RowKit (wrap32 wrap64)
set_option linter.unusedVariables false
set_option linter.unusedSimpArgs false

set_option maxRecDepth 100000 in
set_option maxHeartbeats 2000000 in
theorem rnext_any (B : Nat) (last : Int) (av : Value) (L : List Nat) (w : World) (h : OwnI w B av L) (hne : L ≠ []) (hL : L.length ≤ 64) :
    Calls Tryz.prog 28 #[av, vI last] w fun e w' => e = .returned (vI (behindX last L : Nat)) ∧ w' = w := by
  obtain ⟨ad, cap, rfl, hx⟩ := h.at
  obtain ⟨g, rfl, -, hcs⟩ := hx hne
  have hpos : 0 < L.length := List.length_pos_iff.2 hne
  have HCS : Hd (∀ i (h : i < L.length), w.cell? ⟨g, i, none⟩ = some (vI (L[i] : Nat))) := hcs
  have c0 := hcs 0 hpos
  obtain ⟨n, en⟩ : ∃ n, n = L.length := ⟨_, rfl⟩
  have EN : Hd (n = L.length) := en
  have hn64 : n ≤ 64 := by omega
  have hn0 : 0 < n := by omega
  obtain ⟨l0, el0⟩ : ∃ l0 : Nat, l0 = L[0] := ⟨_, rfl⟩
  rw [← el0] at c0
  have EL0 : Hd (L.headD 0 = l0) := by
    show _ = _
    rw [el0]
    cases L with
    | nil => exact absurd rfl hne
    | cons a r => rfl
  rw [← en]
  clear h hx hcs en el0 hpos hL
  go_enter Tryz.func28, Tryz.ntmps28
  go_wp2_with fail
  go_loopw [5] (fun v wr => wr = w ∧ ∃ k : Nat, v = .int .i64 k ∧ k ≤ n ∧ Hd (∀ i (h : i < L.length), i < k → ¬ ((L[i] : Nat) : Int) > last)) (fun v _ => match v with | .int _ q => n - q.toNat | _ => 0)
  case atStart => exact ⟨rfl, 0, rfl, by omega, fun i _ h => by omega⟩
  case round =>
    obtain ⟨rfl, k, rfl, hk, HM⟩ := hrel
    by_cases hlt : k < n
    · have hkl : k < L.length := by rw [← EN.out]; exact hlt
      have ck := HCS.out k hkl
      have HF : Hd (((L[k] : Nat) : Int) > last → behindX last L = L[k]) := fun hgt => by
        unfold behindX
        have : L.find? (fun (i : Nat) => decide ((i : Int) > last)) = some L[k] := by
          rw [List.find?_eq_some_iff_getElem]
          exact ⟨by simpa using hgt, k, hkl, rfl, fun j hj => by simpa using HM.out j (by omega) hj⟩
        rw [this]; rfl
      have HN : Hd (¬ ((L[k] : Nat) : Int) > last → ∀ i (h : i < L.length), i < k + 1 → ¬ ((L[i] : Nat) : Int) > last) := fun hng i hi hik => by
        by_cases e : i = k
        · subst e; exact hng
        · exact HM.out i hi (by omega)
      obtain ⟨y, ey⟩ : ∃ y, y = L[k] := ⟨_, rfl⟩
      rw [← ey] at ck HF HN
      clear ey HM
      have hk3 : (k : Int) < n := by omega
      have hk0 : (0 : Int) ≤ k := by omega
      by_cases hgt : (y : Int) > last
      · have hg' : last < (y : Int) := hgt
        go_wp2_with fail
        go_ret
        exact ⟨by rw [HF.out hgt]; rfl, rfl⟩
      · have hd : decide (last < (y : Int)) = false := by simp; omega
        have hd2 : decide ((y : Int) > last) = false := by simp; omega
        go_wp2_with fail
        refine ⟨⟨trivial, k + 1, by simp, by omega, HN.out hgt⟩, by simp; omega⟩
    · have hdk : decide ((k : Int) < n) = false := by simp; omega
      have HE : Hd (behindX last L = l0) := by
        show _ = _
        unfold behindX
        have : L.find? (fun (i : Nat) => decide ((i : Int) > last)) = none := by
          rw [List.find?_eq_none]
          intro x hx
          obtain ⟨i, hi, rfl⟩ := List.getElem_of_mem hx
          simpa using HM.out i hi (by have := EN.out; omega)
        rw [this]
        exact EL0.out
      have hn0' : (0 : Int) < n := by omega
      clear hk HM
      go_wp2_with fail
      go_ret
      exact ⟨by rw [HE.out]; rfl, rfl⟩
end Go.Proofs.YtngbakjalmgciaaGreat
