import Derived.Test.YtihicdbplmdjiaaQE2J
namespace Go.Proofs.Ytihicdbplmdjiaa
open Go.RowKit (wrap32 wrap64)
set_option linter.unusedVariables false
set_option linter.unusedSimpArgs false

set_option maxRecDepth 100000 in
set_option maxHeartbeats 4000000 in
theorem rpub_yes (w : World) (B c : Nat) (kv vv : Value) (L : List Kv) (key : Int) (x : ByteArray) (h : Rt w B c kv vv L) (hB : B ≤ w.heap.size) (hl : L.length ≤ 4000000000) (hs : look L key = none) :
    Calls Try.prog 46 #[.pointer (some ⟨c, 0, none⟩), vI key, .string x] w fun e w' => e = .returned (.bool true) ∧ ∃ kv' vv', Rt w' B c kv' vv' (insK L key x) ∧ Fr (fun j => j = c ∨ kv.ownBlock = some j ∨ vv.ownBlock = some j) w w' ∧ (∀ j, kv'.ownBlock = some j → kv.ownBlock = some j ∨ w.heap.size ≤ j) ∧ (∀ j, vv'.ownBlock = some j → vv.ownBlock = some j ∨ w.heap.size ≤ j) := by
  have hat := at_any w B c kv vv L key h hl
  rw [show (look L key).isSome = false by rw [hs]; rfl] at hat
  have H : Hd (Rt w B c kv vv L) := h
  have HB : Hd (B ≤ w.heap.size) := hB
  have HS : Hd (look L key = none) := hs
  have HRS : Hd (Rise L) := h.rise
  clear h hB hs
  go_enter Try.func46, Try.ntmps46
  go_wp2_with fail
  refine hat.mono ?_
  rintro _ w1 ⟨p, rfl, hp, hF⟩
  clear hat
  have h1 : Rt w1 B c kv vv L := H.out.fr hF (fun h => h) (fun _ _ h => h) (fun _ _ h => h)
  have hsz := hF.size
  obtain ⟨g1, c1, w2, g2, c2, w4, hr1, e2, e3, hr2, e4, hS, hF4, hb1, hb2⟩ := h1.grow (by have := HB.out; omega) hl
  have c0 := cell_of h1.obj 0
  simp only [List.getElem?_toArray, List.getElem?_cons_zero] at c0
  have d0 : w2.cell? ⟨c, 0, none⟩ = some kv := cell_of e2 0
  have z0 : w2.frozen? ⟨c, 0, none⟩ = false := frozen_of e2 0
  have d1 : (w2.setCell ⟨c, 0, none⟩ (.slice (some ⟨g1, 0, none⟩) (L.length + 1) c1)).cell? ⟨c, 1, none⟩ = some vv := cell_of e3 1
  have d2 : w4.cell? ⟨c, 1, none⟩ = some vv := cell_of e4 1
  have z2 : w4.frozen? ⟨c, 1, none⟩ = false := frozen_of e4 1
  have HFW : Hd (Fr (fun j => j = c ∨ kv.ownBlock = some j ∨ vv.ownBlock = some j) w (w4.setCell ⟨c, 1, none⟩ (.slice (some ⟨g2, 0, none⟩) (L.length + 1) c2))) := (hF.mono (fun _ _ h => h.elim)).trans hF4
  have HSF : Hd (Sf (w4.setCell ⟨c, 1, none⟩ (.slice (some ⟨g2, 0, none⟩) (L.length + 1) c2)) B c g1 c1 g2 c2 L.length (sh (kCells L) L.length (vI 0)) (sh (vCells L) L.length (.string ⟨#[]⟩))) := hS
  have HB1 : Hd (∀ j, g1 = j → kv.ownBlock = some j ∨ w.heap.size ≤ j) := fun j e => (hb1 j e).imp id (fun h => by omega)
  have HB2 : Hd (∀ j, g2 = j → vv.ownBlock = some j ∨ w.heap.size ≤ j) := fun j e => (hb2 j e).imp id (fun h => by omega)
  have HP : Hd (Plc L key p) := hp
  have hpl := hp.le
  have q0 : (w4.setCell ⟨c, 1, none⟩ (.slice (some ⟨g2, 0, none⟩) (L.length + 1) c2)).cell? ⟨c, 0, none⟩ = some (.slice (some ⟨g1, 0, none⟩) (L.length + 1) c1) := cell_of hS.obj 0
  have HR1 : Hd ((Builtin.append_ #[25, 25] 25 #[kv, .slice (some ⟨w1.heap.size, 0, none⟩) 1 1]).run Try.prog (w1.alloc (.cells #[vI 0] 3)) = .ok (.slice (some ⟨g1, 0, none⟩) (L.length + 1) c1) w2) := hr1
  have HR2 : Hd ((Builtin.append_ #[26, 26] 26 #[vv, .slice (some ⟨(w2.setCell ⟨c, 0, none⟩ (.slice (some ⟨g1, 0, none⟩) (L.length + 1) c1)).heap.size, 0, none⟩) 1 1]).run Try.prog ((w2.setCell ⟨c, 0, none⟩ (.slice (some ⟨g1, 0, none⟩) (L.length + 1) c1)).alloc (.cells #[.string ⟨#[]⟩] 9)) = .ok (.slice (some ⟨g2, 0, none⟩) (L.length + 1) c2) w4) := hr2
  obtain ⟨n, en⟩ : ∃ n, n = L.length := ⟨_, rfl⟩
  rw [← en] at HR1 HR2 d1 hl HFW HSF q0 hpl
  have EN : Hd (n = L.length) := en
  clear hr1 hr2 e2 e3 e4 hS hF4 hb1 hb2 hp hF h1 H hsz en
  go_upto_region 5 with (at_builtin; refine wpList_append_run rfl (.tmp 21) (.tmp 22) 25 rfl _ _ _ rfl rfl HR1.out ?_)
  obtain ⟨w3, e3⟩ : ∃ w3, w3 = w2.setCell ⟨c, 0, none⟩ (.slice (some ⟨g1, 0, none⟩) (n + 1) c1) := ⟨_, rfl⟩
  rw [← e3] at d1 HR2 ⊢
  clear e3 HR1 d0 z0 c0
  go_upto_region 6 with (at_builtin; refine wpList_append_run rfl (.tmp 30) (.tmp 31) 26 rfl _ _ _ rfl rfl HR2.out ?_)
  obtain ⟨w5, e5⟩ : ∃ w5, w5 = w4.setCell ⟨c, 1, none⟩ (.slice (some ⟨g2, 0, none⟩) (n + 1) c2) := ⟨_, rfl⟩
  rw [← e5] at HFW HSF q0 ⊢
  clear e5 HR2 d1 d2 z2
  clear q0
  have HM0 : Hd (∃ y z, Sf w5 B c g1 c1 g2 c2 n (sh (kCells L) n y) (sh (vCells L) n z)) := ⟨_, _, HSF.out⟩
  have q0 : w5.cell? ⟨c, 0, none⟩ = some (.slice (some ⟨g1, 0, none⟩) (n + 1) c1) := cell_of HSF.out.obj 0
  clear HSF
  go_wp2_with fail
  go_loopw [9] (fun v wr => ∃ k : Nat, v = .int .i64 k ∧ p ≤ k ∧ k ≤ n ∧ Hd (Fr (fun j => j = c ∨ kv.ownBlock = some j ∨ vv.ownBlock = some j) w wr ∧ ∃ y z, Sf wr B c g1 c1 g2 c2 n (sh (kCells L) k y) (sh (vCells L) k z))) (fun v _ => match v with | .int _ q => q.toNat | _ => 0)
  case atStart => exact ⟨n, rfl, hpl, by omega, HFW.out, HM0.out⟩
  case round =>
    clear q0 HM0 HFW
    obtain ⟨k, rfl, hpk, hkn, HM⟩ := hrel
    by_cases hlt : p < k
    · obtain ⟨q, rfl⟩ : ∃ q, k = q + 1 := ⟨k - 1, by omega⟩
      obtain ⟨hF, y, z, hS⟩ := HM.out
      have hqL : q < L.length := by have := EN.out; omega
      have hqk : q < (kCells L).length := by rw [kLen]; exact hqL
      have hqv : q < (vCells L).length := by rw [vLen]; exact hqL
      have a0 : wr.cell? ⟨c, 0, none⟩ = some (.slice (some ⟨g1, 0, none⟩) (n + 1) c1) := cell_of hS.obj 0
      have a1 : wr.cell? ⟨c, 1, none⟩ = some (.slice (some ⟨g2, 0, none⟩) (n + 1) c2) := cell_of hS.obj 1
      have a2 : wr.cell? ⟨g1, q, none⟩ = some (vI L[q].1) := by rw [World.ownsRow.cellAt hS.ks q (by omega), sh_get _ _ _ hqk, List.getElem?_eq_getElem hqk]; simp [kCells]
      have a3 : wr.cell? ⟨g2, q, none⟩ = some (.string L[q].2) := by rw [World.ownsRow.cellAt hS.vs q (by omega), sh_get _ _ _ hqv, List.getElem?_eq_getElem hqv]; simp [vCells]
      have a4 : ∃ u, wr.cell? ⟨g1, q + 1, none⟩ = some u := by
        rw [World.ownsRow.cellAt hS.ks (q + 1) (by omega), List.getElem?_eq_getElem (by rw [sh_len _ _ _ (by omega), kLen]; omega)]; exact ⟨_, rfl⟩
      have a5 : ∃ u, wr.cell? ⟨g2, q + 1, none⟩ = some u := by
        rw [World.ownsRow.cellAt hS.vs (q + 1) (by omega), List.getElem?_eq_getElem (by rw [sh_len _ _ _ (by omega), vLen]; omega)]; exact ⟨_, rfl⟩
      obtain ⟨u4, a4⟩ := a4
      obtain ⟨u5, a5⟩ := a5
      have z1 : wr.frozen? ⟨g1, q + 1, none⟩ = false := World.ownsRow.frozenAt hS.ks _
      have z2 : wr.frozen? ⟨g2, q + 1, none⟩ = false := World.ownsRow.frozenAt hS.vs _
      have n1 := hS.n1
      have n2 := hS.n2
      have n3 := hS.ne
      have n4 : g2 ≠ g1 := fun e => n3 e.symm
      have n5 : c ≠ g1 := fun e => n1 e.symm
      have n6 : c ≠ g2 := fun e => n2 e.symm
      have HN : Hd (Fr (fun j => j = c ∨ kv.ownBlock = some j ∨ vv.ownBlock = some j) w ((wr.drew.setCell ⟨g1, q + 1, none⟩ (vI L[q].1)).drew.setCell ⟨g2, q + 1, none⟩ (.string L[q].2)) ∧ ∃ y z, Sf ((wr.drew.setCell ⟨g1, q + 1, none⟩ (vI L[q].1)).drew.setCell ⟨g2, q + 1, none⟩ (.string L[q].2)) B c g1 c1 g2 c2 n (sh (kCells L) q y) (sh (vCells L) q z)) := by
        refine ⟨((hF.drew.setCell _ _ ?_).drew).setCell _ _ ?_, vI L[q].1, .string L[q].2, ?_⟩
        · rcases HB1.out g1 rfl with e | e
          · exact Or.inl (Or.inr (Or.inl e))
          · exact Or.inr e
        · rcases HB2.out g2 rfl with e | e
          · exact Or.inl (Or.inr (Or.inr e))
          · exact Or.inr e
        · have := ((hS.drew.setK (q + 1) (vI L[q].1)).drew).setV (q + 1) (.string L[q].2)
          have e1 := sh_down (kCells L) q y hqk
          have e2 := sh_down (vCells L) q z hqv
          rw [show (kCells L)[q] = vI L[q].1 by simp [kCells]] at e1
          rw [show (vCells L)[q] = .string L[q].2 by simp [vCells]] at e2
          rw [e1, e2] at this
          exact this
      obtain ⟨kx, ekx⟩ : ∃ kx, kx = L[q].1 := ⟨_, rfl⟩
      obtain ⟨vx, evx⟩ : ∃ vx, vx = L[q].2 := ⟨_, rfl⟩
      rw [← ekx] at a2 HN
      rw [← evx] at a3 HN
      have hq0 : (0 : Int) ≤ q := by omega
      have hq1 : (q : Int) < (n : Int) + 1 := by omega
      have hq2 : (q : Int) + 1 < (n : Int) + 1 := by omega
      have hq3 : (p : Int) < (q : Int) + 1 := by omega
      have hq4 : (0 : Int) ≤ (q : Int) + 1 := by omega
      clear hS hF HM hqk hqv ekx evx
      go_wp2_with fail
      go_region
      all_goals go_wp2_with fail
      all_goals go_region
      all_goals go_wp2_with fail
      all_goals exact ⟨⟨q, by simp, by omega, by omega, HN.out⟩, by first | (simp; done) | (simp; omega)⟩
    · have hd : decide (p < k) = false := by simp; omega
      have ek : k = p := by omega
      subst ek
      obtain ⟨hF, y, z, hS⟩ := HM.out
      have a0 : wr.cell? ⟨c, 0, none⟩ = some (.slice (some ⟨g1, 0, none⟩) (n + 1) c1) := cell_of hS.obj 0
      have a1 : wr.cell? ⟨c, 1, none⟩ = some (.slice (some ⟨g2, 0, none⟩) (n + 1) c2) := cell_of hS.obj 1
      have a4 : ∃ u, wr.cell? ⟨g1, k, none⟩ = some u := by
        rw [World.ownsRow.cellAt hS.ks k (by omega), List.getElem?_eq_getElem (by rw [sh_len _ _ _ (by rw [kLen, ← EN.out]; omega), kLen, ← EN.out]; omega)]; exact ⟨_, rfl⟩
      have a5 : ∃ u, wr.cell? ⟨g2, k, none⟩ = some u := by
        rw [World.ownsRow.cellAt hS.vs k (by omega), List.getElem?_eq_getElem (by rw [sh_len _ _ _ (by rw [vLen, ← EN.out]; omega), vLen, ← EN.out]; omega)]; exact ⟨_, rfl⟩
      obtain ⟨u4, a4⟩ := a4
      obtain ⟨u5, a5⟩ := a5
      have z1 : wr.frozen? ⟨g1, k, none⟩ = false := World.ownsRow.frozenAt hS.ks _
      have z2 : wr.frozen? ⟨g2, k, none⟩ = false := World.ownsRow.frozenAt hS.vs _
      have n1 := hS.n1
      have n2 := hS.n2
      have n3 := hS.ne
      have n4 : g2 ≠ g1 := fun e => n3 e.symm
      have n5 : c ≠ g1 := fun e => n1 e.symm
      have n6 : c ≠ g2 := fun e => n2 e.symm
      have HN : Hd (Fr (fun j => j = c ∨ kv.ownBlock = some j ∨ vv.ownBlock = some j) w ((wr.setCell ⟨g1, k, none⟩ (vI key)).setCell ⟨g2, k, none⟩ (.string x)) ∧ Rt ((wr.setCell ⟨g1, k, none⟩ (vI key)).setCell ⟨g2, k, none⟩ (.string x)) B c (.slice (some ⟨g1, 0, none⟩) (n + 1) c1) (.slice (some ⟨g2, 0, none⟩) (n + 1) c2) (insK L key x)) := by
        refine ⟨(hF.setCell _ _ ?_).setCell _ _ ?_, ?_⟩
        · rcases HB1.out g1 rfl with e | e
          · exact Or.inl (Or.inr (Or.inl e))
          · exact Or.inr e
        · rcases HB2.out g2 rfl with e | e
          · exact Or.inl (Or.inr (Or.inr e))
          · exact Or.inr e
        · have h2 := (hS.setK k (vI key)).setV k (.string x)
          rw [sh_set _ _ _ _ (by rw [kLen, ← EN.out]; omega), sh_set _ _ _ _ (by rw [vLen, ← EN.out]; omega)] at h2
          have ei := ins_eq HP.out (fun hp e => look_none_mem HS.out _ (List.getElem_mem hp) e) x
          have e1 : sh (kCells L) k (vI key) = kCells (insK L key x) := by rw [ei]; simp [sh, kCells]
          have e2 : sh (vCells L) k (.string x) = vCells (insK L key x) := by rw [ei]; simp [sh, vCells]
          have e3 : n + 1 = (insK L key x).length := by rw [ei, EN.out]; simp; have := HP.out.le; omega
          rw [e1, e2] at h2
          refine ⟨h2.obj, ?_, ?_, fun e => n1 (Option.some.inj e), fun e => n2 (Option.some.inj e), fun g e e' => n3 ((Option.some.inj e).trans (Option.some.inj e').symm), rise_ins ?_ HS.out x⟩
          · have := h2.ks; rw [← e3]; exact this
          · have := h2.vs; rw [← e3]; exact this
          · exact HRS.out
      have hk0 : (0 : Int) ≤ k := by omega
      have hk1 : (k : Int) < (n : Int) + 1 := by omega
      clear hS hF HM
      go_wp2_with fail
      go_ret
      exact ⟨rfl, _, _, HN.out.2, HN.out.1, fun j e => HB1.out j (Option.some.inj e), fun j e => HB2.out j (Option.some.inj e)⟩
end Go.Proofs.Ytihicdbplmdjiaa

namespace Go.Proofs.Ytihicdbplmdjiaa
open Go.RowKit (wrap32 wrap64)
set_option linter.unusedVariables false
set_option linter.unusedSimpArgs false

theorem kCells_eq (L : List Kv) : kCells L = (L.map Prod.fst).map vI := by simp [kCells]
theorem vCells_eq (L : List Kv) : vCells L = (L.map Prod.snd).map Value.string := by simp [vCells]

set_option maxRecDepth 100000 in
set_option maxHeartbeats 1000000 in
theorem rlook_any (w : World) (B c : Nat) (kv vv : Value) (L : List Kv) (key : Int) (h : Rt w B c kv vv L) (hl : L.length ≤ 4000000000) :
    Calls Try.prog 47 #[.pointer (some ⟨c, 0, none⟩), vI key] w fun e w' => e = .returned (.tuple #[.string ((look L key).getD ⟨#[]⟩), .bool (look L key).isSome]) ∧ Fr (fun _ => False) w w' := by
  have hat := at_any w B c kv vv L key h hl
  have H : Hd (Rt w B c kv vv L) := h
  cases hlk : look L key with
  | none =>
    rw [hlk] at hat
    have HLK : Hd (look L key = none) := hlk
    clear h hlk
    go_enter Try.func47, Try.ntmps47
    go_wp2_with fail
    refine hat.mono ?_
    rintro _ w1 ⟨p, rfl, hp, hF⟩
    have HF : Hd (Fr (fun _ => False) w w1) := hF
    clear hat hp hF
    go_wp2_with fail
    go_ret2
    exact ⟨rfl, HF.out⟩
  | some v =>
    rw [hlk] at hat
    have HLK : Hd (look L key = some v) := hlk
    clear h hlk
    go_enter Try.func47, Try.ntmps47
    go_wp2_with fail
    refine hat.mono ?_
    rintro _ w1 ⟨p, rfl, hp, hF⟩
    have HF : Hd (Fr (fun _ => False) w w1) := hF
    have h1 : Rt w1 B c kv vv L := H.out.fr hF (fun h => h) (fun _ _ h => h) (fun _ _ h => h)
    have hl2 := hp.lk h1.rise
    rw [HLK.out] at hl2
    have hpl : p < L.length := by
      rcases Nat.lt_or_ge p L.length with e | e
      · exact e
      · rw [dif_neg (by omega)] at hl2; cases hl2
    rw [dif_pos hpl] at hl2
    have hv : L[p].2 = v := by
      split at hl2
      · exact (Option.some.inj hl2).symm
      · cases hl2
    obtain ⟨a, cap, e, hx⟩ := RowB.own h1.vs
    rw [vLen] at e
    obtain ⟨g, o, rfl, -, hcs⟩ := hx (by intro e; have := vLen L; rw [e] at this; simp at this; omega)
    have d1 : w1.cell? ⟨c, 1, none⟩ = some vv := cell_of h1.obj 1
    rw [e] at d1
    have d2 : w1.cell? ⟨g, o + p, none⟩ = some (.string v) := by rw [hcs p (by rw [vLen]; exact hpl)]; simp [vCells, hv]
    obtain ⟨n, en⟩ : ∃ n, n = L.length := ⟨_, rfl⟩
    rw [← en] at d1 hpl hl
    have hp0 : (0 : Int) ≤ p := by omega
    have hp1 : (p : Int) < n := by omega
    clear hat hp hF hx hcs h1 hl2 hv e en
    go_wp2_with fail
    go_ret2
    exact ⟨rfl, HF.out⟩

set_option maxRecDepth 100000 in
set_option maxHeartbeats 2000000 in
theorem rsnap_any (w : World) (B c : Nat) (kv vv : Value) (L : List Kv) (h : Rt w B c kv vv L) (hl : L.length ≤ 4000000000) :
    Calls Try.prog 48 #[.pointer (some ⟨c, 0, none⟩)] w fun e w' => ∃ k' v', e = .returned (.tuple #[k', v']) ∧ w'.ownsRow w.heap.size 3 1 k' L.length (kCells L) ∧ w'.ownsRow w.heap.size 9 1 v' L.length (vCells L) ∧ Fr (fun _ => False) w w' := by
  have d0 : w.cell? ⟨c, 0, none⟩ = some kv := cell_of h.obj 0
  have d1 : w.cell? ⟨c, 1, none⟩ = some vv := cell_of h.obj 1
  have HC : Hd (c < w.heap.size) := heap_lt h.obj
  have HK : Hd (RowB w w.heap.size kv ((L.map Prod.fst).map vI)) := by rw [← kCells_eq]; exact RowB.own h.ks
  have HV : Hd (RowB w w.heap.size vv ((L.map Prod.snd).map Value.string)) := by rw [← vCells_eq]; exact RowB.own h.vs
  have k1 : ∀ W, Fr (fun _ => False) w W → Calls Try.prog 31 #[kv] W fun e w' => ∃ v', e = .returned v' ∧ w'.ownsRow W.heap.size 3 1 v' L.length (kCells L) ∧ Fr (fun _ => False) W w' := fun W hW => by
    have := copyInts_any kv (L.map Prod.fst) w.heap.size W (HK.out.fr hW (Nat.le_refl _) (fun _ _ h => h)) hW.size (by simp; omega)
    rw [kCells_eq]
    simpa using this
  have k2 : ∀ W, Fr (fun _ => False) w W → Calls Try.prog 34 #[vv] W fun e w' => ∃ v', e = .returned v' ∧ w'.ownsRow W.heap.size 9 1 v' L.length (vCells L) ∧ Fr (fun _ => False) W w' := fun W hW => by
    have := copyStrings_any vv (L.map Prod.snd) w.heap.size W (HV.out.fr hW (Nat.le_refl _) (fun _ _ h => h)) hW.size (by simp; omega)
    rw [vCells_eq]
    simpa using this
  obtain ⟨n, en⟩ : ∃ n, n = L.length := ⟨_, rfl⟩
  clear h hl
  have P1 : ∀ (W1 : World) (f1 : Fr (fun _ => False) w W1), W1.cell? ⟨c, 0, none⟩ = some kv ∧ W1.cell? ⟨c, 1, none⟩ = some vv := fun W1 f1 => ⟨(f1.cell HC.out (fun h => h)).trans d0, (f1.cell HC.out (fun h => h)).trans d1⟩
  have F0 : Hd (Fr (fun _ => False) w w.drew) := (Fr.refl _ w).drew
  clear HK HV
  go_enter Try.func48, Try.ntmps48
  go_wp2_with fail
  go_region_with ((first
    | (go_at_call 31; refine (k1 w.drew F0.out).mono ?_; rintro _ wa ⟨ka, rfl, hka, hfa⟩; have fa : Fr (fun _ => False) w wa := F0.out.trans hfa; obtain ⟨pa, pb⟩ := P1 _ fa)
    | (go_at_call 34; refine (k2 w.drew F0.out).mono ?_; rintro _ wb ⟨vb, rfl, hvb, hfb⟩; have fb : Fr (fun _ => False) w wb := F0.out.trans hfb; obtain ⟨pc, pd⟩ := P1 _ fb)
    | (go_at_call 34; refine (k2 wa fa).mono ?_; rintro _ wb ⟨vb, rfl, hvb, hfb⟩)
    | (go_at_call 31; refine (k1 wb fb).mono ?_; rintro _ wa ⟨ka, rfl, hka, hfa⟩)))
  all_goals clear k1 k2 P1
  all_goals go_wp2_with fail
  all_goals go_ret2
  all_goals first
    | exact ⟨_, _, rfl, ownsRow_fr hka hfb (fun _ _ h => h), World.ownsRow.mono hvb fa.size, fa.trans hfb⟩
    | exact ⟨_, _, rfl, World.ownsRow.mono hka fb.size, ownsRow_fr hvb hfa (fun _ _ h => h), fb.trans hfa⟩

/-! ### Do and EqReply -/
/-- An answer as it is told, its lists below B. -/
def RpV (w : World) (B : Nat) (R : RepT) (v : Value) : Prop := ∃ kv vv, v = .agg #[.bool R.ok, .string R.val, kv, vv] ∧ RowB w B kv (kCells R.L) ∧ RowB w B vv (vCells R.L)
theorem RpV.fr {w w' : World} {B : Nat} {R : RepT} {v : Value} (h : RpV w B R v) {S : Nat → Prop} (f : Fr S w w') (hB : B ≤ w.heap.size) (hS : ∀ j, j < B → ¬ S j) : RpV w' B R v := by
  obtain ⟨kv, vv, e, h1, h2⟩ := h
  have key : ∀ {v : Value} {xs : List Value}, RowB w B v xs → RowB w' B v xs := fun {v xs} h => by
    obtain ⟨ad, cap, e, hx⟩ := h
    refine ⟨ad, cap, e, fun hne => ?_⟩
    obtain ⟨g, o, ea, hg, hcs⟩ := hx hne
    exact ⟨g, o, ea, hg, fun i hi => (f.cell (by omega) (hS g hg)).trans (hcs i hi)⟩
  exact ⟨kv, vv, e, key h1, key h2⟩

set_option maxRecDepth 100000 in
set_option maxHeartbeats 4000000 in
theorem eqReply_same (w : World) (B1 B2 : Nat) (R : RepT) (v1 v2 : Value) (h1 : RpV w B1 R v1) (h2 : RpV w B2 R v2) (hB1 : B1 ≤ w.heap.size) (hB2 : B2 ≤ w.heap.size) (hl : R.L.length ≤ 4000000000) :
    Calls Try.prog 33 #[v1, v2] w fun e w' => e = .returned (.bool true) ∧ Fr (fun _ => False) w w' := by
  obtain ⟨k1, u1, rfl, hk1, hu1⟩ := h1
  obtain ⟨k2, u2, rfl, hk2, hu2⟩ := h2
  obtain ⟨ok, val, L⟩ := R
  simp only at hk1 hu1 hk2 hu2 hl ⊢
  have C1 : ∀ W, Fr (fun _ => False) w W → Calls Try.prog 14 #[k1, k2] W fun e w' => e = .returned (.bool true) ∧ Fr (fun _ => False) W w' := fun W hW => by
    rw [kCells_eq] at hk1 hk2
    exact eqInts_same k1 k2 (L.map Prod.fst) B1 B2 W (hk1.fr hW hB1 (fun _ _ h => h)) (hk2.fr hW hB2 (fun _ _ h => h)) (Nat.le_trans hB1 hW.size) (Nat.le_trans hB2 hW.size) (by simp; omega)
  have C2 : ∀ W, Fr (fun _ => False) w W → Calls Try.prog 49 #[u1, u2] W fun e w' => e = .returned (.bool true) ∧ Fr (fun _ => False) W w' := fun W hW => by
    rw [vCells_eq] at hu1 hu2
    exact eqStrings_same u1 u2 (L.map Prod.snd) B1 B2 W (hu1.fr hW hB1 (fun _ _ h => h)) (hu2.fr hW hB2 (fun _ _ h => h)) (Nat.le_trans hB1 hW.size) (Nat.le_trans hB2 hW.size) (by simp; omega)
  obtain ⟨ka, kn, kc, ek⟩ : ∃ a n c, k1 = .slice a n c := by obtain ⟨a, c, e, -⟩ := hk1; exact ⟨_, _, _, e⟩
  obtain ⟨ka2, kn2, kc2, ek2⟩ : ∃ a n c, k2 = .slice a n c := by obtain ⟨a, c, e, -⟩ := hk2; exact ⟨_, _, _, e⟩
  obtain ⟨va, vn, vc, ev⟩ : ∃ a n c, u1 = .slice a n c := by obtain ⟨a, c, e, -⟩ := hu1; exact ⟨_, _, _, e⟩
  obtain ⟨va2, vn2, vc2, ev2⟩ : ∃ a n c, u2 = .slice a n c := by obtain ⟨a, c, e, -⟩ := hu2; exact ⟨_, _, _, e⟩
  subst ek ek2 ev ev2
  have f1 : Fr (fun _ => False) w ((w.alloc (.cells #[.bool ok, .string val, .slice ka kn kc, .slice va vn vc] 28)).alloc (.cells #[.bool ok, .string val, .slice ka2 kn2 kc2, .slice va2 vn2 vc2] 28)) := ((Fr.refl _ w).alloc _).alloc _
  have b1 : ((w.alloc (.cells #[.bool ok, .string val, .slice ka kn kc, .slice va vn vc] 28)).alloc (.cells #[.bool ok, .string val, .slice ka2 kn2 kc2, .slice va2 vn2 vc2] 28)).heap[w.heap.size]? = some (.cells #[.bool ok, .string val, .slice ka kn kc, .slice va vn vc] 28) := by
    rw [Go.RowKit.Below.heap_alloc _ _ _ (by simp)]; exact heap_alloc_last w _
  have b2 : ((w.alloc (.cells #[.bool ok, .string val, .slice ka kn kc, .slice va vn vc] 28)).alloc (.cells #[.bool ok, .string val, .slice ka2 kn2 kc2, .slice va2 vn2 vc2] 28)).heap[w.heap.size + 1]? = some (.cells #[.bool ok, .string val, .slice ka2 kn2 kc2, .slice va2 vn2 vc2] 28) := by
    have := heap_alloc_last (w.alloc (.cells #[.bool ok, .string val, .slice ka kn kc, .slice va vn vc] 28)) (.cells #[.bool ok, .string val, .slice ka2 kn2 kc2, .slice va2 vn2 vc2] 28)
    rw [show (w.alloc (.cells #[.bool ok, .string val, .slice ka kn kc, .slice va vn vc] 28)).heap.size = w.heap.size + 1 by simp] at this
    exact this
  obtain ⟨W, eW⟩ : ∃ W, W = ((w.alloc (.cells #[.bool ok, .string val, .slice ka kn kc, .slice va vn vc] 28)).alloc (.cells #[.bool ok, .string val, .slice ka2 kn2 kc2, .slice va2 vn2 vc2] 28)) := ⟨_, rfl⟩
  rw [← eW] at f1 b1 b2
  have F1 : Hd (Fr (fun _ => False) w W) := f1
  have B2' : Hd (W.heap[w.heap.size + 1]? = some (.cells #[.bool ok, .string val, .slice ka2 kn2 kc2, .slice va2 vn2 vc2] 28)) := b2
  have B1' : Hd (W.heap[w.heap.size]? = some (.cells #[.bool ok, .string val, .slice ka kn kc, .slice va vn vc] 28)) := b1
  clear hk1 hk2 hu1 hu2 hl hB1 hB2 f1 b1 b2
  go_enter Try.func33, Try.ntmps33
  go_upto_region 1 with fail
  rw [← eW]
  clear eW
  obtain ⟨bb, ebb⟩ : ∃ bb, bb = w.heap.size := ⟨_, rfl⟩
  rw [← ebb] at B1' B2' ⊢
  have d0 : W.cell? ⟨bb, 0, none⟩ = some (.bool ok) := cell_of B1'.out 0
  have d1 : W.cell? ⟨bb, 1, none⟩ = some (.string val) := cell_of B1'.out 1
  have d2 : W.cell? ⟨bb, 2, none⟩ = some (.slice ka kn kc) := cell_of B1'.out 2
  have e0 : W.cell? ⟨bb + 1, 0, none⟩ = some (.bool ok) := cell_of B2'.out 0
  have e1 : W.cell? ⟨bb + 1, 1, none⟩ = some (.string val) := cell_of B2'.out 1
  have e2 : W.cell? ⟨bb + 1, 2, none⟩ = some (.slice ka2 kn2 kc2) := cell_of B2'.out 2
  have HS : Hd (∀ W2, Fr (fun _ => False) W W2 → W2.cell? ⟨bb, 3, none⟩ = some (.slice va vn vc) ∧ W2.cell? ⟨bb + 1, 3, none⟩ = some (.slice va2 vn2 vc2)) := fun W2 h => ⟨(h.cell (heap_lt B1'.out) (fun h => h)).trans (cell_of B1'.out 3), (h.cell (heap_lt B2'.out) (fun h => h)).trans (cell_of B2'.out 3)⟩
  clear ebb B1' B2'
  go_wp2_with fail
  refine (C1 W F1.out).mono ?_
  rintro _ w1 ⟨rfl, hf1⟩
  obtain ⟨d3, e3⟩ := HS.out w1 hf1
  have F2 : Hd (Fr (fun _ => False) w w1) := F1.out.trans hf1
  clear C1 HS hf1 d0 d1 d2 e0 e1 e2
  go_wp2_with fail
  refine (C2 w1 F2.out).mono ?_
  rintro _ w2 ⟨rfl, hf2⟩
  have F3 : Hd (Fr (fun _ => False) w w2) := F2.out.trans hf2
  clear C2 hf2 d3 e3 F2 F1
  go_wp2_with fail
  go_ret
  exact ⟨rfl, F3.out⟩
end Go.Proofs.Ytihicdbplmdjiaa
