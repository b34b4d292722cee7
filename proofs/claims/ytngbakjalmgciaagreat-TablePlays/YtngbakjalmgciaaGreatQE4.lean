import Derived.Test.YtngbakjalmgciaaGreatQE2J
namespace Go.Proofs.YtngbakjalmgciaaGreat
open Go.RowKit (wrap32 wrap64)
set_option linter.unusedVariables false
set_option linter.unusedSimpArgs false

set_option maxRecDepth 100000 in
set_option maxHeartbeats 4000000 in
theorem rpub_yes (w : World) (B c : Nat) (kv vv : Value) (L : List Kv) (key : Int) (x : ByteArray) (h : Rt w B c kv vv L) (hB : B ≤ w.heap.size) (hl : L.length ≤ 4000000000) (hs : look L key = none) :
    Calls Tryz.prog 57 #[.pointer (some ⟨c, 0, none⟩), vI key, .string x] w fun e w' => e = .returned (.bool true) ∧ ∃ kv' vv', Rt w' B c kv' vv' (insK L key x) ∧ Fr (fun j => j = c ∨ kv.ownBlock = some j ∨ vv.ownBlock = some j) w w' ∧ (∀ j, kv'.ownBlock = some j → kv.ownBlock = some j ∨ w.heap.size ≤ j) ∧ (∀ j, vv'.ownBlock = some j → vv.ownBlock = some j ∨ w.heap.size ≤ j) := by
  have hat := at_any w B c kv vv L key h hl
  rw [show (look L key).isSome = false by rw [hs]; rfl] at hat
  have H : Hd (Rt w B c kv vv L) := h
  have HB : Hd (B ≤ w.heap.size) := hB
  have HS : Hd (look L key = none) := hs
  have HRS : Hd (Rise L) := h.rise
  clear h hB hs
  go_enter Tryz.func57, Tryz.ntmps57
  go_wp2_with fail
  refine hat.mono ?_
  rintro _ w1 ⟨p, rfl, hp, hF⟩
  clear hat
  have h1 : Rt w1 B c kv vv L := H.out.fr hF (fun h => h) (fun _ _ h => h) (fun _ _ h => h)
  have hsz := hF.size
  obtain ⟨g1, c1, w2, g2, c2, w4, hr1, e2, e3, hr2, e4, hS, hF4, hb1, hb2⟩ := h1.grow (by have := HB.out; omega) hl
  have c0 := cell_of h1.obj 0
  simp only [List.getElem?_toArray, List.getElem?_cons_zero] at c0
  have d0 : w2.cell? ⟨c, 0, none⟩ = some kv := cell_of e2 0
  have z0 : w2.frozen? ⟨c, 0, none⟩ = false := frozen_of e2 0
  have d1 : (w2.setCell ⟨c, 0, none⟩ (.slice (some ⟨g1, 0, none⟩) (L.length + 1) c1)).cell? ⟨c, 1, none⟩ = some vv := cell_of e3 1
  have d2 : w4.cell? ⟨c, 1, none⟩ = some vv := cell_of e4 1
  have z2 : w4.frozen? ⟨c, 1, none⟩ = false := frozen_of e4 1
  have HFW : Hd (Fr (fun j => j = c ∨ kv.ownBlock = some j ∨ vv.ownBlock = some j) w (w4.setCell ⟨c, 1, none⟩ (.slice (some ⟨g2, 0, none⟩) (L.length + 1) c2))) := (hF.mono (fun _ _ h => h.elim)).trans hF4
  have HSF : Hd (Sf (w4.setCell ⟨c, 1, none⟩ (.slice (some ⟨g2, 0, none⟩) (L.length + 1) c2)) B c g1 c1 g2 c2 L.length (sh (kCells L) L.length (vI 0)) (sh (vCells L) L.length (.string ⟨#[]⟩))) := hS
  have HB1 : Hd (∀ j, g1 = j → kv.ownBlock = some j ∨ w.heap.size ≤ j) := fun j e => (hb1 j e).imp id (fun h => by omega)
  have HB2 : Hd (∀ j, g2 = j → vv.ownBlock = some j ∨ w.heap.size ≤ j) := fun j e => (hb2 j e).imp id (fun h => by omega)
  have HP : Hd (Plc L key p) := hp
  have hpl := hp.le
  have q0 : (w4.setCell ⟨c, 1, none⟩ (.slice (some ⟨g2, 0, none⟩) (L.length + 1) c2)).cell? ⟨c, 0, none⟩ = some (.slice (some ⟨g1, 0, none⟩) (L.length + 1) c1) := cell_of hS.obj 0
  have HR1 : Hd ((Builtin.append_ #[23, 23] 23 #[kv, .slice (some ⟨w1.heap.size, 0, none⟩) 1 1]).run Tryz.prog (w1.alloc (.cells #[vI 0] 3)) = .ok (.slice (some ⟨g1, 0, none⟩) (L.length + 1) c1) w2) := hr1
  have HR2 : Hd ((Builtin.append_ #[40, 40] 40 #[vv, .slice (some ⟨(w2.setCell ⟨c, 0, none⟩ (.slice (some ⟨g1, 0, none⟩) (L.length + 1) c1)).heap.size, 0, none⟩) 1 1]).run Tryz.prog ((w2.setCell ⟨c, 0, none⟩ (.slice (some ⟨g1, 0, none⟩) (L.length + 1) c1)).alloc (.cells #[.string ⟨#[]⟩] 9)) = .ok (.slice (some ⟨g2, 0, none⟩) (L.length + 1) c2) w4) := hr2
  obtain ⟨n, en⟩ : ∃ n, n = L.length := ⟨_, rfl⟩
  rw [← en] at HR1 HR2 d1 hl HFW HSF q0 hpl
  have EN : Hd (n = L.length) := en
  clear hr1 hr2 e2 e3 e4 hS hF4 hb1 hb2 hp hF h1 H hsz en
  go_upto_region 5 with (at_builtin; refine wpList_append_run rfl (.tmp 21) (.tmp 22) 23 rfl _ _ _ rfl rfl HR1.out ?_)
  obtain ⟨w3, e3⟩ : ∃ w3, w3 = w2.setCell ⟨c, 0, none⟩ (.slice (some ⟨g1, 0, none⟩) (n + 1) c1) := ⟨_, rfl⟩
  rw [← e3] at d1 HR2 ⊢
  clear e3 HR1 d0 z0 c0
  go_upto_region 6 with (at_builtin; refine wpList_append_run rfl (.tmp 30) (.tmp 31) 40 rfl _ _ _ rfl rfl HR2.out ?_)
  obtain ⟨w5, e5⟩ : ∃ w5, w5 = w4.setCell ⟨c, 1, none⟩ (.slice (some ⟨g2, 0, none⟩) (n + 1) c2) := ⟨_, rfl⟩
  rw [← e5] at HFW HSF q0 ⊢
  clear e5 HR2 d1 d2 z2
  clear q0
  have HM0 : Hd (∃ y z, Sf w5 B c g1 c1 g2 c2 n (sh (kCells L) n y) (sh (vCells L) n z)) := ⟨_, _, HSF.out⟩
  have q0 : w5.cell? ⟨c, 0, none⟩ = some (.slice (some ⟨g1, 0, none⟩) (n + 1) c1) := cell_of HSF.out.obj 0
  clear HSF
  go_wp2_with fail
  go_loopw [9] (fun v wr => ∃ k : Nat, v = .int .i64 k ∧ p ≤ k ∧ k ≤ n ∧ Hd (Fr (fun j => j = c ∨ kv.ownBlock = some j ∨ vv.ownBlock = some j) w wr ∧ ∃ y z, Sf wr B c g1 c1 g2 c2 n (sh (kCells L) k y) (sh (vCells L) k z))) (fun v _ => match v with | .int _ q => q.toNat | _ => 0)
  case atStart => exact ⟨n, rfl, hpl, by omega, HFW.out, HM0.out⟩
  case round =>
    clear q0 HM0 HFW
    obtain ⟨k, rfl, hpk, hkn, HM⟩ := hrel
    by_cases hlt : p < k
    · obtain ⟨q, rfl⟩ : ∃ q, k = q + 1 := ⟨k - 1, by omega⟩
      obtain ⟨hF, y, z, hS⟩ := HM.out
      have hqL : q < L.length := by have := EN.out; omega
      have hqk : q < (kCells L).length := by rw [kLen]; exact hqL
      have hqv : q < (vCells L).length := by rw [vLen]; exact hqL
      have a0 : wr.cell? ⟨c, 0, none⟩ = some (.slice (some ⟨g1, 0, none⟩) (n + 1) c1) := cell_of hS.obj 0
      have a1 : wr.cell? ⟨c, 1, none⟩ = some (.slice (some ⟨g2, 0, none⟩) (n + 1) c2) := cell_of hS.obj 1
      have a2 : wr.cell? ⟨g1, q, none⟩ = some (vI L[q].1) := by rw [World.ownsRow.cellAt hS.ks q (by omega), sh_get _ _ _ hqk, List.getElem?_eq_getElem hqk]; simp [kCells]
      have a3 : wr.cell? ⟨g2, q, none⟩ = some (.string L[q].2) := by rw [World.ownsRow.cellAt hS.vs q (by omega), sh_get _ _ _ hqv, List.getElem?_eq_getElem hqv]; simp [vCells]
      have a4 : ∃ u, wr.cell? ⟨g1, q + 1, none⟩ = some u := by
        rw [World.ownsRow.cellAt hS.ks (q + 1) (by omega), List.getElem?_eq_getElem (by rw [sh_len _ _ _ (by omega), kLen]; omega)]; exact ⟨_, rfl⟩
      have a5 : ∃ u, wr.cell? ⟨g2, q + 1, none⟩ = some u := by
        rw [World.ownsRow.cellAt hS.vs (q + 1) (by omega), List.getElem?_eq_getElem (by rw [sh_len _ _ _ (by omega), vLen]; omega)]; exact ⟨_, rfl⟩
      obtain ⟨u4, a4⟩ := a4
      obtain ⟨u5, a5⟩ := a5
      have z1 : wr.frozen? ⟨g1, q + 1, none⟩ = false := World.ownsRow.frozenAt hS.ks _
      have z2 : wr.frozen? ⟨g2, q + 1, none⟩ = false := World.ownsRow.frozenAt hS.vs _
      have n1 := hS.n1
      have n2 := hS.n2
      have n3 := hS.ne
      have n4 : g2 ≠ g1 := fun e => n3 e.symm
      have n5 : c ≠ g1 := fun e => n1 e.symm
      have n6 : c ≠ g2 := fun e => n2 e.symm
      have HN : Hd (Fr (fun j => j = c ∨ kv.ownBlock = some j ∨ vv.ownBlock = some j) w ((wr.drew.setCell ⟨g1, q + 1, none⟩ (vI L[q].1)).drew.setCell ⟨g2, q + 1, none⟩ (.string L[q].2)) ∧ ∃ y z, Sf ((wr.drew.setCell ⟨g1, q + 1, none⟩ (vI L[q].1)).drew.setCell ⟨g2, q + 1, none⟩ (.string L[q].2)) B c g1 c1 g2 c2 n (sh (kCells L) q y) (sh (vCells L) q z)) := by
        refine ⟨((hF.drew.setCell _ _ ?_).drew).setCell _ _ ?_, vI L[q].1, .string L[q].2, ?_⟩
        · rcases HB1.out g1 rfl with e | e
          · exact Or.inl (Or.inr (Or.inl e))
          · exact Or.inr e
        · rcases HB2.out g2 rfl with e | e
          · exact Or.inl (Or.inr (Or.inr e))
          · exact Or.inr e
        · have := ((hS.drew.setK (q + 1) (vI L[q].1)).drew).setV (q + 1) (.string L[q].2)
          have e1 := sh_down (kCells L) q y hqk
          have e2 := sh_down (vCells L) q z hqv
          rw [show (kCells L)[q] = vI L[q].1 by simp [kCells]] at e1
          rw [show (vCells L)[q] = .string L[q].2 by simp [vCells]] at e2
          rw [e1, e2] at this
          exact this
      obtain ⟨kx, ekx⟩ : ∃ kx, kx = L[q].1 := ⟨_, rfl⟩
      obtain ⟨vx, evx⟩ : ∃ vx, vx = L[q].2 := ⟨_, rfl⟩
      rw [← ekx] at a2 HN
      rw [← evx] at a3 HN
      have hq0 : (0 : Int) ≤ q := by omega
      have hq1 : (q : Int) < (n : Int) + 1 := by omega
      have hq2 : (q : Int) + 1 < (n : Int) + 1 := by omega
      have hq3 : (p : Int) < (q : Int) + 1 := by omega
      have hq4 : (0 : Int) ≤ (q : Int) + 1 := by omega
      clear hS hF HM hqk hqv ekx evx
      go_wp2_with fail
      go_region
      all_goals go_wp2_with fail
      all_goals go_region
      all_goals go_wp2_with fail
      all_goals exact ⟨⟨q, by simp, by omega, by omega, HN.out⟩, by first | (simp; done) | (simp; omega)⟩
    · have hd : decide (p < k) = false := by simp; omega
      have ek : k = p := by omega
      subst ek
      obtain ⟨hF, y, z, hS⟩ := HM.out
      have a0 : wr.cell? ⟨c, 0, none⟩ = some (.slice (some ⟨g1, 0, none⟩) (n + 1) c1) := cell_of hS.obj 0
      have a1 : wr.cell? ⟨c, 1, none⟩ = some (.slice (some ⟨g2, 0, none⟩) (n + 1) c2) := cell_of hS.obj 1
      have a4 : ∃ u, wr.cell? ⟨g1, k, none⟩ = some u := by
        rw [World.ownsRow.cellAt hS.ks k (by omega), List.getElem?_eq_getElem (by rw [sh_len _ _ _ (by rw [kLen, ← EN.out]; omega), kLen, ← EN.out]; omega)]; exact ⟨_, rfl⟩
      have a5 : ∃ u, wr.cell? ⟨g2, k, none⟩ = some u := by
        rw [World.ownsRow.cellAt hS.vs k (by omega), List.getElem?_eq_getElem (by rw [sh_len _ _ _ (by rw [vLen, ← EN.out]; omega), vLen, ← EN.out]; omega)]; exact ⟨_, rfl⟩
      obtain ⟨u4, a4⟩ := a4
      obtain ⟨u5, a5⟩ := a5
      have z1 : wr.frozen? ⟨g1, k, none⟩ = false := World.ownsRow.frozenAt hS.ks _
      have z2 : wr.frozen? ⟨g2, k, none⟩ = false := World.ownsRow.frozenAt hS.vs _
      have n1 := hS.n1
      have n2 := hS.n2
      have n3 := hS.ne
      have n4 : g2 ≠ g1 := fun e => n3 e.symm
      have n5 : c ≠ g1 := fun e => n1 e.symm
      have n6 : c ≠ g2 := fun e => n2 e.symm
      have HN : Hd (Fr (fun j => j = c ∨ kv.ownBlock = some j ∨ vv.ownBlock = some j) w ((wr.setCell ⟨g1, k, none⟩ (vI key)).setCell ⟨g2, k, none⟩ (.string x)) ∧ Rt ((wr.setCell ⟨g1, k, none⟩ (vI key)).setCell ⟨g2, k, none⟩ (.string x)) B c (.slice (some ⟨g1, 0, none⟩) (n + 1) c1) (.slice (some ⟨g2, 0, none⟩) (n + 1) c2) (insK L key x)) := by
        refine ⟨(hF.setCell _ _ ?_).setCell _ _ ?_, ?_⟩
        · rcases HB1.out g1 rfl with e | e
          · exact Or.inl (Or.inr (Or.inl e))
          · exact Or.inr e
        · rcases HB2.out g2 rfl with e | e
          · exact Or.inl (Or.inr (Or.inr e))
          · exact Or.inr e
        · have h2 := (hS.setK k (vI key)).setV k (.string x)
          rw [sh_set _ _ _ _ (by rw [kLen, ← EN.out]; omega), sh_set _ _ _ _ (by rw [vLen, ← EN.out]; omega)] at h2
          have ei := ins_eq HP.out (fun hp e => look_none_mem HS.out _ (List.getElem_mem hp) e) x
          have e1 : sh (kCells L) k (vI key) = kCells (insK L key x) := by rw [ei]; simp [sh, kCells]
          have e2 : sh (vCells L) k (.string x) = vCells (insK L key x) := by rw [ei]; simp [sh, vCells]
          have e3 : n + 1 = (insK L key x).length := by rw [ei, EN.out]; simp; have := HP.out.le; omega
          rw [e1, e2] at h2
          refine ⟨h2.obj, ?_, ?_, fun e => n1 (Option.some.inj e), fun e => n2 (Option.some.inj e), fun g e e' => n3 ((Option.some.inj e).trans (Option.some.inj e').symm), rise_ins ?_ HS.out x⟩
          · have := h2.ks; rw [← e3]; exact this
          · have := h2.vs; rw [← e3]; exact this
          · exact HRS.out
      have hk0 : (0 : Int) ≤ k := by omega
      have hk1 : (k : Int) < (n : Int) + 1 := by omega
      clear hS hF HM
      go_wp2_with fail
      go_ret
      exact ⟨rfl, _, _, HN.out.2, HN.out.1, fun j e => HB1.out j (Option.some.inj e), fun j e => HB2.out j (Option.some.inj e)⟩
end Go.Proofs.YtngbakjalmgciaaGreat
