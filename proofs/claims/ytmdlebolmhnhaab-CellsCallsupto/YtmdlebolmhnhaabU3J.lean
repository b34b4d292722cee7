import Derived.Test.YtmdlebolmhnhaabU1J
import Derived.Test.YtmdlebolmhnhaabG3J
namespace Go.Proofs.Ytmdlebolmhnhaab
open Go.RowKit (wrap32 wrap64)
open Go.Maps (Keyed)
set_option linter.unusedVariables false
set_option linter.unusedSimpArgs false

/-- An op's cells, where they were laid. -/
theorem op_cells {w : World} {ob : Nat} {o : OpR} (h : w.heap[ob]? = some (.cells (opC o) 31)) :
    w.cell? ⟨ob, 0, none⟩ = some (vI o.kind) ∧ w.cell? ⟨ob, 1, none⟩ = some (vI o.on) ∧ w.cell? ⟨ob, 2, none⟩ = some (vI o.n) ∧ w.cell? ⟨ob, 3, none⟩ = some (.bool o.heap) ∧ w.cell? ⟨ob, 4, none⟩ = some (vI o.v.1) ∧ w.cell? ⟨ob, 5, none⟩ = some (vI o.v.2) ∧ w.cell? ⟨ob, 6, none⟩ = some (vI o.w.1) ∧ w.cell? ⟨ob, 7, none⟩ = some (vI o.w.2) ∧ w.cell? ⟨ob, 8, none⟩ = some o.cells := by
  simp only [cell_of h]
  exact ⟨rfl, rfl, rfl, rfl, rfl, rfl, rfl, rfl, rfl⟩

set_option maxRecDepth 100000 in
set_option maxHeartbeats 4000000 in
/-- nothing: the calls of a nil memory. -/
theorem nothing_any (o : OpR) (w : World) : Calls Try.prog 39 #[opV o] w fun e w' => e = .returned (.bool true) ∧ Fr (fun _ => False) w w' := by
  have B := heap_alloc_last w (.cells (opC o) 31)
  have hF : Fr (fun _ => False) w (w.alloc (.cells (opC o) 31)) := Fr.alloc (Fr.refl _ w) _
  obtain ⟨p0, p1, p2, p3, p4, p5, p6, p7, p8⟩ := op_cells B
  have HB : Hd _ := B
  have HF : Hd _ := hF
  clear B hF p0 p1
  go_enter Try.func39, Try.ntmps39
  go_wp2_with fail
  generalize w.alloc (.cells (opC o) 31) = w1 at *
  obtain ⟨ob, hob⟩ : ∃ ob, ob = w.heap.size := ⟨_, rfl⟩
  rw [← hob] at HB ⊢
  clear hob p2 p3 p4 p5 p6 p7 p8
  refine (show Calls Try.prog 10 #[nilM, vI o.n, .bool o.heap] w1 _ from make_nil o.n o.heap w1).mono ?_
  rintro e w2 ⟨rfl, rfl⟩
  obtain ⟨-, -, p2, p3, p4, p5, p6, p7, p8⟩ := op_cells HB.out
  go_wp2_with fail
  clear p2 p3 p4 p5 p6 p7 p8
  refine (show Calls Try.prog 12 #[nilM, vv o.v, vI o.n] w2 _ from load_nil o.v o.n w2).mono ?_
  rintro e w3 ⟨rfl, hF3⟩
  have HB3 : Hd _ := (hF3.block _ (heap_lt HB.out) (fun h => h)).trans HB.out
  have HF3 : Hd _ := HF.out.trans hF3
  clear hF3 HB HF
  have hFa : Fr (fun _ => False) w3 (w3.alloc (.cells #[vI 0, vI 0] 28)) := Fr.alloc (Fr.refl _ w3) _
  have HB4 : Hd _ := (hFa.block _ (heap_lt HB3.out) (fun h => h)).trans HB3.out
  have HV4 : Hd _ := heap_alloc_last w3 (.cells #[vI 0, vI 0] 28)
  have HF4 : Hd _ := HF3.out.trans hFa
  clear hFa
  obtain ⟨-, -, p2, p3, p4, p5, p6, p7, p8⟩ := op_cells HB4.out
  go_wp2_with fail
  clear p2 p3 p4 p5 p6 p7 p8
  generalize w3.alloc (.cells #[vI 0, vI 0] 28) = w4 at *
  obtain ⟨va, hva⟩ : ∃ va, va = w3.heap.size := ⟨_, rfl⟩
  rw [← hva] at HV4 ⊢
  clear hva HB3 HF3
  refine (show Calls Try.prog 23 #[nilM, vI o.n] w4 _ from global_nil o.n w4).mono ?_
  rintro e w5 ⟨rfl, hF5⟩
  have hFb : Fr (fun _ => False) w4 (w5.alloc (.cells #[vI 0, vI 0] 28)) := Fr.alloc hF5 _
  have HB6 : Hd _ := (hFb.block _ (heap_lt HB4.out) (fun h => h)).trans HB4.out
  have HV6 : Hd _ := (hFb.block _ (heap_lt HV4.out) (fun h => h)).trans HV4.out
  have HU6 : Hd _ := heap_alloc_last w5 (.cells #[vI 0, vI 0] 28)
  have HF6 : Hd _ := HF4.out.trans hFb
  clear hF5 hFb HB4 HV4 HF4
  go_wp2_with fail
  generalize w5.alloc (.cells #[vI 0, vI 0] 28) = w6 at *
  obtain ⟨vu, hvu⟩ : ∃ vu, vu = w5.heap.size := ⟨_, rfl⟩
  rw [← hvu] at HU6 ⊢
  clear hvu
  refine (show Calls Try.prog 9 #[nilM] w6 _ from push_nil w6).mono ?_
  rintro e w7 ⟨rfl, rfl⟩
  go_wp2_with fail
  refine (show Calls Try.prog 13 #[nilM] w7 _ from pop_nil w7).mono ?_
  rintro e w8 ⟨rfl, rfl⟩
  obtain ⟨-, -, p2, p3, p4, p5, p6, p7, p8⟩ := op_cells HB6.out
  go_wp2_with fail
  clear p2 p3 p4 p5 p6 p7 p8
  refine (show Calls Try.prog 11 #[nilM, vv o.v, vI o.n, vv o.w] w8 _ from store_nil o.v o.n o.w w8).mono ?_
  rintro e w9 ⟨rfl, hF9⟩
  have HB9 : Hd _ := (hF9.block _ (heap_lt HB6.out) (fun h => h)).trans HB6.out
  have HV9 : Hd _ := (hF9.block _ (heap_lt HV6.out) (fun h => h)).trans HV6.out
  have HU9 : Hd _ := (hF9.block _ (heap_lt HU6.out) (fun h => h)).trans HU6.out
  have HF9 : Hd _ := HF6.out.trans hF9
  clear hF9 HB6 HV6 HU6 HF6
  obtain ⟨-, -, p2, p3, p4, p5, p6, p7, p8⟩ := op_cells HB9.out
  go_wp2_with fail
  clear p2 p3 p4 p5 p6 p7 p8
  refine (show Calls Try.prog 37 #[nilM, vI o.n, vv o.v] w9 _ from setGlobal_nil o.n o.v w9).mono ?_
  rintro e wa ⟨rfl, hFa⟩
  have HBa : Hd _ := (hFa.block _ (heap_lt HB9.out) (fun h => h)).trans HB9.out
  have HVa : Hd _ := (hFa.block _ (heap_lt HV9.out) (fun h => h)).trans HV9.out
  have HUa : Hd _ := (hFa.block _ (heap_lt HU9.out) (fun h => h)).trans HU9.out
  have HFa : Hd _ := HF9.out.trans hFa
  clear hFa HB9 HV9 HU9 HF9
  obtain ⟨-, -, p2, p3, p4, p5, p6, p7, p8⟩ := op_cells HBa.out
  go_wp2_with fail
  clear p2 p3 p4 p5 p6 p7 p8
  refine (show Calls Try.prog 32 #[nilM, o.cells] wa _ from drop_nil o.cells wa).mono ?_
  rintro e wb ⟨rfl, rfl⟩
  have a0 : wb.cell? ⟨va, 0, none⟩ = some (vI 0) := by rw [cell_of HVa.out]; rfl
  have a1 : wb.cell? ⟨va, 1, none⟩ = some (vI 0) := by rw [cell_of HVa.out]; rfl
  have b0 : wb.cell? ⟨vu, 0, none⟩ = some (vI 0) := by rw [cell_of HUa.out]; rfl
  have b1 : wb.cell? ⟨vu, 1, none⟩ = some (vI 0) := by rw [cell_of HUa.out]; rfl
  go_wp2_with fail
  refine (show Calls Try.prog 20 #[nilM] wb _ from live_nil wb).mono ?_
  rintro e wd ⟨rfl, rfl⟩
  go_wp2_with fail
  go_ret
  exact ⟨rfl, HFa.out⟩

end Go.Proofs.Ytmdlebolmhnhaab

namespace Go.Proofs.Ytmdlebolmhnhaab
open Go.RowKit (wrap32 wrap64)
open Go.Maps (Keyed)
set_option linter.unusedVariables false
set_option linter.unusedSimpArgs false

/-- append to a row of one's own; what else lies in its block ahead of its end stays. -/
theorem run_append_keeps {P : Program} (w : World) (t ty : TypeId) (base : Nat) (e : TypeId) (i : TypeInfo) (z : Value) (size bytes : Nat) (ht : P.underlying t = some (.slice e)) (hi : P.info? e = some i) (hz : i.zero = some z)
    (hsize : i.size = size) (hby : i.bytes = bytes) (hzs : z.cells.size = size) (hsz : 0 < size)
    (v : Value) (n : Nat) (xs : List Value) (hown : w.ownsRow base e size v n xs)
    (ad : Addr) (m c : Nat) (news : List Value) (hl : news.length = m * size) (hnews : ∀ j u, news[j]? = some u → w.cell? (ad.add j) = some u) (h1 : ∀ u ∈ news, u.oneCell' = true)
    (hm : 0 < m) (h63 : n + m ≤ maxLen) (hbytes : (n + m) * bytes ≤ 140737488355328) (hbase : base ≤ w.heap.size) (H : Nat) (hH : w.heap.size = H) :
    ∃ g cap w', (Builtin.append_ #[t, t] ty #[v, .slice (some ad) m c]).run P w = .ok (.slice (some ⟨g, 0, none⟩) (n + m) cap) w' ∧
      w'.ownsRow base e size (.slice (some ⟨g, 0, none⟩) (n + m) cap) (n + m) (xs ++ news) ∧ w.grownBy w' v.ownBlock ∧ (v.ownBlock = some g ∨ g = H) ∧ g < w'.heap.size ∧
      ∀ (B k cap0 g0 : Nat) (ys : List Value), w.ownsRow B e size (.slice (some ⟨g0, 0, none⟩) k cap0) k ys → (v.ownBlock = some g0 → k ≤ n) → w'.ownsRow B e size (.slice (some ⟨g0, 0, none⟩) k cap0) k ys := by
  obtain ⟨g, cap, w', hr, h2, h3, h4, h5⟩ := run_append_lies (P := P) w t ty base e i z size bytes ht hi hz hsize hby hzs hsz v n xs hown ad m c news hl hnews h1 hm h63 hbytes hbase H hH
  refine ⟨g, cap, w', hr, h2, h3, h4, h5, fun B k cap0 g0 ys hrow hk => ?_⟩
  by_cases hv : v.ownBlock = some g0
  · have hkn := hk hv
    rcases hown.2 with ⟨rfl, rfl⟩ | ⟨g1, cap1, cur, rfl, hbg, hg, hnc, hcm, hcs, htake⟩
    · cases hv
    · cases hv
      subst hsize
      rcases hrow.2 with ⟨e1, -⟩ | ⟨g2, cap2, cur2, e1, k1, k2, k3, k4, k5, k6⟩
      · cases e1
      · cases e1
        rw [hg] at k2
        cases k2
        by_cases hroom : n + m ≤ cap1
        · have hfit : n * i.size + news.length ≤ cur.size := by rw [hl, hcs, ← Nat.add_mul]; exact Nat.mul_le_mul_right _ hroom
          have hr2 := run_append_room (P := P) w t ty e i ht hi g1 n cap1 cur hg ad m c news hl hnews h1 hroom hfit
          have hw := hr.symm.trans hr2
          injection hw with hw1 hw2
          subst hw2
          refine ⟨hrow.1, Or.inr ⟨g1, cap0, _, rfl, k1, setRow_heap w g1 cur _ e _ hg, k3, k4, ?_, ?_⟩⟩
          · simp only [List.size_toArray, List.length_append, List.length_take, List.length_drop, Array.length_toList]
            omega
          · rw [← k6, List.append_assoc]
            have hle : k * i.size ≤ n * i.size := Nat.mul_le_mul_right _ hkn
            rw [List.take_append_of_le_length (by rw [List.length_take, Array.length_toList]; omega), List.take_take]
            congr 1
            omega
        · have holds : ∀ j u, xs[j]? = some u → w.cell? ((⟨g1, 0, none⟩ : Addr).add j) = some u := hown.cells (g := g1) rfl
          have hr2 := run_append_grow (P := P) w t ty e i z ht hi hz ⟨g1, 0, none⟩ n cap1 xs hown.1 holds ad m c news hl hnews (by omega) (by simp only [maxLen] at h63; omega) (growslice_fits (by omega) (by rw [hby]; exact hbytes))
          have hw := hr.symm.trans hr2
          injection hw with hw1 hw2
          subst hw2
          refine ⟨hrow.1, Or.inr ⟨g1, cap0, cur, rfl, k1, ?_, k3, k4, k5, k6⟩⟩
          exact (Go.RowKit.Below.heap_alloc w.drew _ g1 (heap_lt hg)).trans hg
  · exact ownsRow_fr hrow (grown_fr h3) (fun j ej e => by cases ej; exact hv e)

theorem wpList_append_keeps {P : Program} {w : World} {ops : Array Oper} {rest : List Oper} {o : Oper} {a : Act} {Q : Exit → Act → World → Prop} (hgd : o.guard = none) (s x : Operand) (t : TypeId)
    (ho : o.op = .call { callee := .builtin .append, args := #[s, x], argTypes := #[t, t] })
    (base : Nat) (e : TypeId) (i : TypeInfo) (z : Value) (size bytes : Nat) (ht : P.underlying t = some (.slice e)) (hi : P.info? e = some i) (hz : i.zero = some z)
    (hsize : i.size = size) (hby : i.bytes = bytes) (hzs : z.cells.size = size) (hsz : 0 < size)
    (v : Value) (n : Nat) (xs : List Value) (hs : a.eval s = v) (hown : w.ownsRow base e size v n xs)
    (ad : Addr) (m c : Nat) (news : List Value) (hx : a.eval x = .slice (some ad) m c) (hl : news.length = m * size) (hnews : ∀ j u, news[j]? = some u → w.cell? (ad.add j) = some u) (h1 : ∀ u ∈ news, u.oneCell' = true)
    (hm : 0 < m) (h63 : n + m ≤ maxLen) (hbytes : (n + m) * bytes ≤ 140737488355328) (hbase : base ≤ w.heap.size) (H : Nat) (hH : w.heap.size = H)
    (h : ∀ g cap w', w'.ownsRow base e size (.slice (some ⟨g, 0, none⟩) (n + m) cap) (n + m) (xs ++ news) → w.grownBy w' v.ownBlock → (v.ownBlock = some g ∨ g = H) → g < w'.heap.size →
      (∀ (B k cap0 g0 : Nat) (ys : List Value), w.ownsRow B e size (.slice (some ⟨g0, 0, none⟩) k cap0) k ys → (v.ownBlock = some g0 → k ≤ n) → w'.ownsRow B e size (.slice (some ⟨g0, 0, none⟩) k cap0) k ys) →
      wpList P ops Q rest (a.put o.dst (.slice (some ⟨g, 0, none⟩) (n + m) cap)) w') : wpList P ops Q (o :: rest) a w :=
  wpList_plain hgd fun _ hK => by
    obtain ⟨g, cap, w', hr, h2, h3, h4, h5, h6⟩ := run_append_keeps (P := P) w t o.type base e i z size bytes ht hi hz hsize hby hzs hsz v n xs hown ad m c news hl hnews h1 hm h63 hbytes hbase H hH
    unfold Oper.wp execOp
    simp only [ho, resolve, invoke, builtin, Sem.run_bind, Sem.run_pure, Result.andThen_ok, List.map_toArray, List.map_cons, List.map_nil, hs, hx, hr]
    exact hK _ _ (h g cap w' h2 h3 h4 h5 h6)

end Go.Proofs.Ytmdlebolmhnhaab

namespace Go.Proofs.Ytmdlebolmhnhaab
open Go.RowKit (wrap32 wrap64)
open Go.Maps (Keyed)
set_option linter.unusedVariables false
set_option linter.unusedSimpArgs false

set_option maxRecDepth 100000 in
set_option maxHeartbeats 1000000 in
/-- New, of any number. -/
theorem new_int (n : Int) (w : World) :
    Calls Try.prog 8 #[vI n] w fun e w' => ∃ b g, e = .returned (.pointer (some ⟨b, 0, none⟩)) ∧ Mem w' b g (newX (min n.toNat 16)) ∧ Fr (fun _ => False) w w' ∧ (∀ k, g.own k ≠ 0 → w.heap.size ≤ k) := by
  obtain ⟨k, hke⟩ : ∃ k, k = min n.toNat 16 := ⟨_, rfl⟩
  have hk : k ≤ 16 := by omega
  have hmk : min (max n 0) 16 = (k : Int) := by omega
  rw [← hke]
  clear hke
  have hmm := @Go.RowKit.run_makeMap Try.prog
  have hms := makeVals k hk
  have HM : Hd _ := new_mem w k hk
  go_enter Try.func8, Try.ntmps8
  go_wp2
  go_ret
  refine ⟨w.heap.size + 2, newG w.heap.size, rfl, ?_, Fr.alloc (Fr.alloc (Fr.alloc (Fr.refl _ w) _) _) _, ?_⟩
  · have := HM.out
    simpa [memC, newG, newX] using this
  · intro k hk
    simp only [newG] at hk
    split at hk
    · omega
    · split at hk
      · omega
      · split at hk
        · omega
        · exact absurd rfl hk

end Go.Proofs.Ytmdlebolmhnhaab
