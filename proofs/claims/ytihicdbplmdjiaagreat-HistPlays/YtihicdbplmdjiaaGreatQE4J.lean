import Derived.Test.YtihicdbplmdjiaaGreatQE1J
import Derived.Laws.Rows
set_option linter.unusedVariables false
set_option linter.unusedSimpArgs false
namespace Go.Proofs.YtihicdbplmdjiaaGreat
open Go.RowKit (wrap32 wrap64)

set_option maxRecDepth 100000 in
set_option maxHeartbeats 4000000 in
theorem rpub_yes (w : World) (B c : Nat) (kv vv : Value) (L : List Kv) (key : Int) (x : ByteArray) (h : Rt w B c kv vv L) (hB : B ≤ w.heap.size) (hl : L.length ≤ 4000000000) (hs : look L key = none) :
    Calls Tryz.prog 43 #[.pointer (some ⟨c, 0, none⟩), vI key, .string x] w fun e w' => e = .returned (.bool true) ∧ ∃ kv' vv', Rt w' B c kv' vv' (insK L key x) ∧ Fr (fun j => j = c ∨ kv.ownBlock = some j ∨ vv.ownBlock = some j) w w' ∧ (∀ j, kv'.ownBlock = some j → kv.ownBlock = some j ∨ w.heap.size ≤ j) ∧ (∀ j, vv'.ownBlock = some j → vv.ownBlock = some j ∨ w.heap.size ≤ j) := by
  have hat := at_any w B c kv vv L key h hl
  rw [show (look L key).isSome = false by rw [hs]; rfl] at hat
  have H : Hd (Rt w B c kv vv L) := h
  have HB : Hd (B ≤ w.heap.size) := hB
  have HS : Hd (look L key = none) := hs
  have HRS : Hd (Rise L) := h.rise
  clear h hB hs
  go_enter Tryz.func43, Tryz.ntmps43
  go_wp2_with fail
  refine hat.mono ?_
  rintro _ w1 ⟨p, rfl, hp, hF⟩
  clear hat
  have h1 : Rt w1 B c kv vv L := H.out.fr hF (fun h => h) (fun _ _ h => h) (fun _ _ h => h)
  have hsz := hF.size
  obtain ⟨g1, c1, w2, g2, c2, w4, hr1, e2, e3, hr2, e4, hS, hF4, hb1, hb2⟩ := h1.grow (by have := HB.out; omega) hl
  have c0 := cell_of h1.obj 0
  simp only [List.getElem?_toArray, List.getElem?_cons_zero] at c0
  have d0 : w2.cell? ⟨c, 0, none⟩ = some kv := cell_of e2 0
  have z0 : w2.frozen? ⟨c, 0, none⟩ = false := frozen_of e2 0
  have d1 : (w2.setCell ⟨c, 0, none⟩ (.slice (some ⟨g1, 0, none⟩) (L.length + 1) c1)).cell? ⟨c, 1, none⟩ = some vv := cell_of e3 1
  have d2 : w4.cell? ⟨c, 1, none⟩ = some vv := cell_of e4 1
  have z2 : w4.frozen? ⟨c, 1, none⟩ = false := frozen_of e4 1
  have HFW : Hd (Fr (fun j => j = c ∨ kv.ownBlock = some j ∨ vv.ownBlock = some j) w (w4.setCell ⟨c, 1, none⟩ (.slice (some ⟨g2, 0, none⟩) (L.length + 1) c2))) := (hF.mono (fun _ _ h => h.elim)).trans hF4
  have HSF : Hd (Sf (w4.setCell ⟨c, 1, none⟩ (.slice (some ⟨g2, 0, none⟩) (L.length + 1) c2)) B c g1 c1 g2 c2 L.length (sh (kCells L) L.length (vI 0)) (sh (vCells L) L.length (.string ⟨#[]⟩))) := hS
  have HB1 : Hd (∀ j, g1 = j → kv.ownBlock = some j ∨ w.heap.size ≤ j) := fun j e => (hb1 j e).imp id (fun h => by omega)
  have HB2 : Hd (∀ j, g2 = j → vv.ownBlock = some j ∨ w.heap.size ≤ j) := fun j e => (hb2 j e).imp id (fun h => by omega)
  have HP : Hd (Plc L key p) := hp
  have hpl := hp.le
  have q0 : (w4.setCell ⟨c, 1, none⟩ (.slice (some ⟨g2, 0, none⟩) (L.length + 1) c2)).cell? ⟨c, 0, none⟩ = some (.slice (some ⟨g1, 0, none⟩) (L.length + 1) c1) := cell_of hS.obj 0
  have HR1 : Hd ((Builtin.append_ #[23, 23] 23 #[kv, .slice (some ⟨w1.heap.size, 0, none⟩) 1 1]).run Tryz.prog (w1.alloc (.cells #[vI 0] 3)) = .ok (.slice (some ⟨g1, 0, none⟩) (L.length + 1) c1) w2) := hr1
  have HR2 : Hd ((Builtin.append_ #[37, 37] 37 #[vv, .slice (some ⟨(w2.setCell ⟨c, 0, none⟩ (.slice (some ⟨g1, 0, none⟩) (L.length + 1) c1)).heap.size, 0, none⟩) 1 1]).run Tryz.prog ((w2.setCell ⟨c, 0, none⟩ (.slice (some ⟨g1, 0, none⟩) (L.length + 1) c1)).alloc (.cells #[.string ⟨#[]⟩] 9)) = .ok (.slice (some ⟨g2, 0, none⟩) (L.length + 1) c2) w4) := hr2
  obtain ⟨n, en⟩ : ∃ n, n = L.length := ⟨_, rfl⟩
  rw [← en] at HR1 HR2 d1 hl HFW HSF q0 hpl
  have EN : Hd (n = L.length) := en
  clear hr1 hr2 e2 e3 e4 hS hF4 hb1 hb2 hp hF h1 H hsz en
  go_upto_region 5 with (at_builtin; refine wpList_append_run rfl (.tmp 21) (.tmp 22) 23 rfl _ _ _ rfl rfl HR1.out ?_)
  obtain ⟨w3, e3⟩ : ∃ w3, w3 = w2.setCell ⟨c, 0, none⟩ (.slice (some ⟨g1, 0, none⟩) (n + 1) c1) := ⟨_, rfl⟩
  rw [← e3] at d1 HR2 ⊢
  clear e3 HR1 d0 z0 c0
  go_upto_region 6 with (at_builtin; refine wpList_append_run rfl (.tmp 30) (.tmp 31) 37 rfl _ _ _ rfl rfl HR2.out ?_)
  obtain ⟨w5, e5⟩ : ∃ w5, w5 = w4.setCell ⟨c, 1, none⟩ (.slice (some ⟨g2, 0, none⟩) (n + 1) c2) := ⟨_, rfl⟩
  rw [← e5] at HFW HSF q0 ⊢
  clear e5 HR2 d1 d2 z2
  clear q0
  have HM0 : Hd (∃ y z, Sf w5 B c g1 c1 g2 c2 n (sh (kCells L) n y) (sh (vCells L) n z)) := ⟨_, _, HSF.out⟩
  have q0 : w5.cell? ⟨c, 0, none⟩ = some (.slice (some ⟨g1, 0, none⟩) (n + 1) c1) := cell_of HSF.out.obj 0
  clear HSF
  go_wp2_with fail
  go_loopw [9] (fun v wr => ∃ k : Nat, v = .int .i64 k ∧ p ≤ k ∧ k ≤ n ∧ Hd (Fr (fun j => j = c ∨ kv.ownBlock = some j ∨ vv.ownBlock = some j) w wr ∧ ∃ y z, Sf wr B c g1 c1 g2 c2 n (sh (kCells L) k y) (sh (vCells L) k z))) (fun v _ => match v with | .int _ q => q.toNat | _ => 0)
  case atStart => exact ⟨n, rfl, hpl, by omega, HFW.out, HM0.out⟩
  case round =>
    clear q0 HM0 HFW
    obtain ⟨k, rfl, hpk, hkn, HM⟩ := hrel
    by_cases hlt : p < k
    · obtain ⟨q, rfl⟩ : ∃ q, k = q + 1 := ⟨k - 1, by omega⟩
      obtain ⟨hF, y, z, hS⟩ := HM.out
      have hqL : q < L.length := by have := EN.out; omega
      have hqk : q < (kCells L).length := by rw [kLen]; exact hqL
      have hqv : q < (vCells L).length := by rw [vLen]; exact hqL
      have a0 : wr.cell? ⟨c, 0, none⟩ = some (.slice (some ⟨g1, 0, none⟩) (n + 1) c1) := cell_of hS.obj 0
      have a1 : wr.cell? ⟨c, 1, none⟩ = some (.slice (some ⟨g2, 0, none⟩) (n + 1) c2) := cell_of hS.obj 1
      have a2 : wr.cell? ⟨g1, q, none⟩ = some (vI L[q].1) := by rw [World.ownsRow.cellAt hS.ks q (by omega), sh_get _ _ _ hqk, List.getElem?_eq_getElem hqk]; simp [kCells]
      have a3 : wr.cell? ⟨g2, q, none⟩ = some (.string L[q].2) := by rw [World.ownsRow.cellAt hS.vs q (by omega), sh_get _ _ _ hqv, List.getElem?_eq_getElem hqv]; simp [vCells]
      have a4 : ∃ u, wr.cell? ⟨g1, q + 1, none⟩ = some u := by
        rw [World.ownsRow.cellAt hS.ks (q + 1) (by omega), List.getElem?_eq_getElem (by rw [sh_len _ _ _ (by omega), kLen]; omega)]; exact ⟨_, rfl⟩
      have a5 : ∃ u, wr.cell? ⟨g2, q + 1, none⟩ = some u := by
        rw [World.ownsRow.cellAt hS.vs (q + 1) (by omega), List.getElem?_eq_getElem (by rw [sh_len _ _ _ (by omega), vLen]; omega)]; exact ⟨_, rfl⟩
      obtain ⟨u4, a4⟩ := a4
      obtain ⟨u5, a5⟩ := a5
      have z1 : wr.frozen? ⟨g1, q + 1, none⟩ = false := World.ownsRow.frozenAt hS.ks _
      have z2 : wr.frozen? ⟨g2, q + 1, none⟩ = false := World.ownsRow.frozenAt hS.vs _
      have n1 := hS.n1
      have n2 := hS.n2
      have n3 := hS.ne
      have n4 : g2 ≠ g1 := fun e => n3 e.symm
      have n5 : c ≠ g1 := fun e => n1 e.symm
      have n6 : c ≠ g2 := fun e => n2 e.symm
      have HN : Hd (Fr (fun j => j = c ∨ kv.ownBlock = some j ∨ vv.ownBlock = some j) w ((wr.drew.setCell ⟨g1, q + 1, none⟩ (vI L[q].1)).drew.setCell ⟨g2, q + 1, none⟩ (.string L[q].2)) ∧ ∃ y z, Sf ((wr.drew.setCell ⟨g1, q + 1, none⟩ (vI L[q].1)).drew.setCell ⟨g2, q + 1, none⟩ (.string L[q].2)) B c g1 c1 g2 c2 n (sh (kCells L) q y) (sh (vCells L) q z)) := by
        refine ⟨((hF.drew.setCell _ _ ?_).drew).setCell _ _ ?_, vI L[q].1, .string L[q].2, ?_⟩
        · rcases HB1.out g1 rfl with e | e
          · exact Or.inl (Or.inr (Or.inl e))
          · exact Or.inr e
        · rcases HB2.out g2 rfl with e | e
          · exact Or.inl (Or.inr (Or.inr e))
          · exact Or.inr e
        · have := ((hS.drew.setK (q + 1) (vI L[q].1)).drew).setV (q + 1) (.string L[q].2)
          have e1 := sh_down (kCells L) q y hqk
          have e2 := sh_down (vCells L) q z hqv
          rw [show (kCells L)[q] = vI L[q].1 by simp [kCells]] at e1
          rw [show (vCells L)[q] = .string L[q].2 by simp [vCells]] at e2
          rw [e1, e2] at this
          exact this
      obtain ⟨kx, ekx⟩ : ∃ kx, kx = L[q].1 := ⟨_, rfl⟩
      obtain ⟨vx, evx⟩ : ∃ vx, vx = L[q].2 := ⟨_, rfl⟩
      rw [← ekx] at a2 HN
      rw [← evx] at a3 HN
      have hq0 : (0 : Int) ≤ q := by omega
      have hq1 : (q : Int) < (n : Int) + 1 := by omega
      have hq2 : (q : Int) + 1 < (n : Int) + 1 := by omega
      have hq3 : (p : Int) < (q : Int) + 1 := by omega
      have hq4 : (0 : Int) ≤ (q : Int) + 1 := by omega
      clear hS hF HM hqk hqv ekx evx
      go_wp2_with fail
      go_region
      all_goals go_wp2_with fail
      all_goals go_region
      all_goals go_wp2_with fail
      all_goals exact ⟨⟨q, by simp, by omega, by omega, HN.out⟩, by first | (simp; done) | (simp; omega)⟩
    · have hd : decide (p < k) = false := by simp; omega
      have ek : k = p := by omega
      subst ek
      obtain ⟨hF, y, z, hS⟩ := HM.out
      have a0 : wr.cell? ⟨c, 0, none⟩ = some (.slice (some ⟨g1, 0, none⟩) (n + 1) c1) := cell_of hS.obj 0
      have a1 : wr.cell? ⟨c, 1, none⟩ = some (.slice (some ⟨g2, 0, none⟩) (n + 1) c2) := cell_of hS.obj 1
      have a4 : ∃ u, wr.cell? ⟨g1, k, none⟩ = some u := by
        rw [World.ownsRow.cellAt hS.ks k (by omega), List.getElem?_eq_getElem (by rw [sh_len _ _ _ (by rw [kLen, ← EN.out]; omega), kLen, ← EN.out]; omega)]; exact ⟨_, rfl⟩
      have a5 : ∃ u, wr.cell? ⟨g2, k, none⟩ = some u := by
        rw [World.ownsRow.cellAt hS.vs k (by omega), List.getElem?_eq_getElem (by rw [sh_len _ _ _ (by rw [vLen, ← EN.out]; omega), vLen, ← EN.out]; omega)]; exact ⟨_, rfl⟩
      obtain ⟨u4, a4⟩ := a4
      obtain ⟨u5, a5⟩ := a5
      have z1 : wr.frozen? ⟨g1, k, none⟩ = false := World.ownsRow.frozenAt hS.ks _
      have z2 : wr.frozen? ⟨g2, k, none⟩ = false := World.ownsRow.frozenAt hS.vs _
      have n1 := hS.n1
      have n2 := hS.n2
      have n3 := hS.ne
      have n4 : g2 ≠ g1 := fun e => n3 e.symm
      have n5 : c ≠ g1 := fun e => n1 e.symm
      have n6 : c ≠ g2 := fun e => n2 e.symm
      have HN : Hd (Fr (fun j => j = c ∨ kv.ownBlock = some j ∨ vv.ownBlock = some j) w ((wr.setCell ⟨g1, k, none⟩ (vI key)).setCell ⟨g2, k, none⟩ (.string x)) ∧ Rt ((wr.setCell ⟨g1, k, none⟩ (vI key)).setCell ⟨g2, k, none⟩ (.string x)) B c (.slice (some ⟨g1, 0, none⟩) (n + 1) c1) (.slice (some ⟨g2, 0, none⟩) (n + 1) c2) (insK L key x)) := by
        refine ⟨(hF.setCell _ _ ?_).setCell _ _ ?_, ?_⟩
        · rcases HB1.out g1 rfl with e | e
          · exact Or.inl (Or.inr (Or.inl e))
          · exact Or.inr e
        · rcases HB2.out g2 rfl with e | e
          · exact Or.inl (Or.inr (Or.inr e))
          · exact Or.inr e
        · have h2 := (hS.setK k (vI key)).setV k (.string x)
          rw [sh_set _ _ _ _ (by rw [kLen, ← EN.out]; omega), sh_set _ _ _ _ (by rw [vLen, ← EN.out]; omega)] at h2
          have ei := ins_eq HP.out (fun hp e => look_none_mem HS.out _ (List.getElem_mem hp) e) x
          have e1 : sh (kCells L) k (vI key) = kCells (insK L key x) := by rw [ei]; simp [sh, kCells]
          have e2 : sh (vCells L) k (.string x) = vCells (insK L key x) := by rw [ei]; simp [sh, vCells]
          have e3 : n + 1 = (insK L key x).length := by rw [ei, EN.out]; simp; have := HP.out.le; omega
          rw [e1, e2] at h2
          refine ⟨h2.obj, ?_, ?_, fun e => n1 (Option.some.inj e), fun e => n2 (Option.some.inj e), fun g e e' => n3 ((Option.some.inj e).trans (Option.some.inj e').symm), rise_ins ?_ HS.out x⟩
          · have := h2.ks; rw [← e3]; exact this
          · have := h2.vs; rw [← e3]; exact this
          · exact HRS.out
      have hk0 : (0 : Int) ≤ k := by omega
      have hk1 : (k : Int) < (n : Int) + 1 := by omega
      clear hS hF HM
      go_wp2_with fail
      go_ret
      exact ⟨rfl, _, _, HN.out.2, HN.out.1, fun j e => HB1.out j (Option.some.inj e), fun j e => HB2.out j (Option.some.inj e)⟩

theorem kCells_eq (L : List Kv) : kCells L = (L.map Prod.fst).map vI := by simp [kCells]
theorem vCells_eq (L : List Kv) : vCells L = (L.map Prod.snd).map Value.string := by simp [vCells]

set_option maxRecDepth 100000 in
set_option maxHeartbeats 1000000 in
theorem rlook_any (w : World) (B c : Nat) (kv vv : Value) (L : List Kv) (key : Int) (h : Rt w B c kv vv L) (hl : L.length ≤ 4000000000) :
    Calls Tryz.prog 44 #[.pointer (some ⟨c, 0, none⟩), vI key] w fun e w' => e = .returned (.tuple #[.string ((look L key).getD ⟨#[]⟩), .bool (look L key).isSome]) ∧ Fr (fun _ => False) w w' := by
  have hat := at_any w B c kv vv L key h hl
  have H : Hd (Rt w B c kv vv L) := h
  cases hlk : look L key with
  | none =>
    rw [hlk] at hat
    have HLK : Hd (look L key = none) := hlk
    clear h hlk
    go_enter Tryz.func44, Tryz.ntmps44
    go_wp2_with fail
    refine hat.mono ?_
    rintro _ w1 ⟨p, rfl, hp, hF⟩
    have HF : Hd (Fr (fun _ => False) w w1) := hF
    clear hat hp hF
    go_wp2_with fail
    go_ret2
    exact ⟨rfl, HF.out⟩
  | some v =>
    rw [hlk] at hat
    have HLK : Hd (look L key = some v) := hlk
    clear h hlk
    go_enter Tryz.func44, Tryz.ntmps44
    go_wp2_with fail
    refine hat.mono ?_
    rintro _ w1 ⟨p, rfl, hp, hF⟩
    have HF : Hd (Fr (fun _ => False) w w1) := hF
    have h1 : Rt w1 B c kv vv L := H.out.fr hF (fun h => h) (fun _ _ h => h) (fun _ _ h => h)
    have hl2 := hp.lk h1.rise
    rw [HLK.out] at hl2
    have hpl : p < L.length := by
      rcases Nat.lt_or_ge p L.length with e | e
      · exact e
      · rw [dif_neg (by omega)] at hl2; cases hl2
    rw [dif_pos hpl] at hl2
    have hv : L[p].2 = v := by
      split at hl2
      · exact (Option.some.inj hl2).symm
      · cases hl2
    obtain ⟨a, cap, e, hx⟩ := RowB.own h1.vs
    rw [vLen] at e
    obtain ⟨g, o, rfl, -, hcs⟩ := hx (by intro e; have := vLen L; rw [e] at this; simp at this; omega)
    have d1 : w1.cell? ⟨c, 1, none⟩ = some vv := cell_of h1.obj 1
    rw [e] at d1
    have d2 : w1.cell? ⟨g, o + p, none⟩ = some (.string v) := by rw [hcs p (by rw [vLen]; exact hpl)]; simp [vCells, hv]
    obtain ⟨n, en⟩ : ∃ n, n = L.length := ⟨_, rfl⟩
    rw [← en] at d1 hpl hl
    have hp0 : (0 : Int) ≤ p := by omega
    have hp1 : (p : Int) < n := by omega
    clear hat hp hF hx hcs h1 hl2 hv e en
    go_wp2_with fail
    go_ret2
    exact ⟨rfl, HF.out⟩

set_option maxRecDepth 100000 in
set_option maxHeartbeats 2000000 in
theorem rsnap_any (w : World) (B c : Nat) (kv vv : Value) (L : List Kv) (h : Rt w B c kv vv L) (hl : L.length ≤ 4000000000) :
    Calls Tryz.prog 45 #[.pointer (some ⟨c, 0, none⟩)] w fun e w' => ∃ k' v', e = .returned (.tuple #[k', v']) ∧ w'.ownsRow w.heap.size 3 1 k' L.length (kCells L) ∧ w'.ownsRow w.heap.size 9 1 v' L.length (vCells L) ∧ Fr (fun _ => False) w w' := by
  have d0 : w.cell? ⟨c, 0, none⟩ = some kv := cell_of h.obj 0
  have d1 : w.cell? ⟨c, 1, none⟩ = some vv := cell_of h.obj 1
  have HC : Hd (c < w.heap.size) := heap_lt h.obj
  have HK : Hd (RowB w w.heap.size kv ((L.map Prod.fst).map vI)) := by rw [← kCells_eq]; exact RowB.own h.ks
  have HV : Hd (RowB w w.heap.size vv ((L.map Prod.snd).map Value.string)) := by rw [← vCells_eq]; exact RowB.own h.vs
  have k1 : ∀ W, Fr (fun _ => False) w W → Calls Tryz.prog 38 #[kv] W fun e w' => ∃ v', e = .returned v' ∧ w'.ownsRow W.heap.size 3 1 v' L.length (kCells L) ∧ Fr (fun _ => False) W w' := fun W hW => by
    have := copyInts_any kv (L.map Prod.fst) w.heap.size W (HK.out.fr hW (Nat.le_refl _) (fun _ _ h => h)) hW.size (by simp; omega)
    rw [kCells_eq]
    simpa using this
  have k2 : ∀ W, Fr (fun _ => False) w W → Calls Tryz.prog 39 #[vv] W fun e w' => ∃ v', e = .returned v' ∧ w'.ownsRow W.heap.size 9 1 v' L.length (vCells L) ∧ Fr (fun _ => False) W w' := fun W hW => by
    have := copyStrings_any vv (L.map Prod.snd) w.heap.size W (HV.out.fr hW (Nat.le_refl _) (fun _ _ h => h)) hW.size (by simp; omega)
    rw [vCells_eq]
    simpa using this
  obtain ⟨n, en⟩ : ∃ n, n = L.length := ⟨_, rfl⟩
  clear h hl
  have P1 : ∀ (W1 : World) (f1 : Fr (fun _ => False) w W1), W1.cell? ⟨c, 0, none⟩ = some kv ∧ W1.cell? ⟨c, 1, none⟩ = some vv := fun W1 f1 => ⟨(f1.cell HC.out (fun h => h)).trans d0, (f1.cell HC.out (fun h => h)).trans d1⟩
  have F0 : Hd (Fr (fun _ => False) w w.drew) := (Fr.refl _ w).drew
  clear HK HV
  go_enter Tryz.func45, Tryz.ntmps45
  go_wp2_with fail
  go_region_with ((first
    | (go_at_call 38; refine (k1 w.drew F0.out).mono ?_; rintro _ wa ⟨ka, rfl, hka, hfa⟩; have fa : Fr (fun _ => False) w wa := F0.out.trans hfa; obtain ⟨pa, pb⟩ := P1 _ fa)
    | (go_at_call 39; refine (k2 w.drew F0.out).mono ?_; rintro _ wb ⟨vb, rfl, hvb, hfb⟩; have fb : Fr (fun _ => False) w wb := F0.out.trans hfb; obtain ⟨pc, pd⟩ := P1 _ fb)
    | (go_at_call 39; refine (k2 wa fa).mono ?_; rintro _ wb ⟨vb, rfl, hvb, hfb⟩)
    | (go_at_call 38; refine (k1 wb fb).mono ?_; rintro _ wa ⟨ka, rfl, hka, hfa⟩)))
  all_goals clear k1 k2 P1
  all_goals go_wp2_with fail
  all_goals go_ret2
  all_goals first
    | exact ⟨_, _, rfl, ownsRow_fr hka hfb (fun _ _ h => h), World.ownsRow.mono hvb fa.size, fa.trans hfb⟩
    | exact ⟨_, _, rfl, World.ownsRow.mono hka fb.size, ownsRow_fr hvb hfa (fun _ _ h => h), fb.trans hfa⟩

/-! ### Do and EqReply -/
/-- An answer as it is told, its lists below B. -/
def RpV (w : World) (B : Nat) (R : RepT) (v : Value) : Prop := ∃ kv vv, v = .agg #[.bool R.ok, .string R.val, kv, vv] ∧ RowB w B kv (kCells R.L) ∧ RowB w B vv (vCells R.L)
theorem RpV.fr {w w' : World} {B : Nat} {R : RepT} {v : Value} (h : RpV w B R v) {S : Nat → Prop} (f : Fr S w w') (hB : B ≤ w.heap.size) (hS : ∀ j, j < B → ¬ S j) : RpV w' B R v := by
  obtain ⟨kv, vv, e, h1, h2⟩ := h
  have key : ∀ {v : Value} {xs : List Value}, RowB w B v xs → RowB w' B v xs := fun {v xs} h => by
    obtain ⟨ad, cap, e, hx⟩ := h
    refine ⟨ad, cap, e, fun hne => ?_⟩
    obtain ⟨g, o, ea, hg, hcs⟩ := hx hne
    exact ⟨g, o, ea, hg, fun i hi => (f.cell (by omega) (hS g hg)).trans (hcs i hi)⟩
  exact ⟨kv, vv, e, key h1, key h2⟩

set_option maxRecDepth 100000 in
set_option maxHeartbeats 4000000 in
theorem eqReply_same (w : World) (B1 B2 : Nat) (R : RepT) (v1 v2 : Value) (h1 : RpV w B1 R v1) (h2 : RpV w B2 R v2) (hB1 : B1 ≤ w.heap.size) (hB2 : B2 ≤ w.heap.size) (hl : R.L.length ≤ 4000000000) :
    Calls Tryz.prog 21 #[v1, v2] w fun e w' => e = .returned (.bool true) ∧ Fr (fun _ => False) w w' := by
  obtain ⟨k1, u1, rfl, hk1, hu1⟩ := h1
  obtain ⟨k2, u2, rfl, hk2, hu2⟩ := h2
  obtain ⟨ok, val, L⟩ := R
  simp only at hk1 hu1 hk2 hu2 hl ⊢
  have C1 : ∀ W, Fr (fun _ => False) w W → Calls Tryz.prog 10 #[k1, k2] W fun e w' => e = .returned (.bool true) ∧ Fr (fun _ => False) W w' := fun W hW => by
    rw [kCells_eq] at hk1 hk2
    exact eqInts_same k1 k2 (L.map Prod.fst) B1 B2 W (hk1.fr hW hB1 (fun _ _ h => h)) (hk2.fr hW hB2 (fun _ _ h => h)) (Nat.le_trans hB1 hW.size) (Nat.le_trans hB2 hW.size) (by simp; omega)
  have C2 : ∀ W, Fr (fun _ => False) w W → Calls Tryz.prog 46 #[u1, u2] W fun e w' => e = .returned (.bool true) ∧ Fr (fun _ => False) W w' := fun W hW => by
    rw [vCells_eq] at hu1 hu2
    exact eqStrings_same u1 u2 (L.map Prod.snd) B1 B2 W (hu1.fr hW hB1 (fun _ _ h => h)) (hu2.fr hW hB2 (fun _ _ h => h)) (Nat.le_trans hB1 hW.size) (Nat.le_trans hB2 hW.size) (by simp; omega)
  obtain ⟨ka, kn, kc, ek⟩ : ∃ a n c, k1 = .slice a n c := by obtain ⟨a, c, e, -⟩ := hk1; exact ⟨_, _, _, e⟩
  obtain ⟨ka2, kn2, kc2, ek2⟩ : ∃ a n c, k2 = .slice a n c := by obtain ⟨a, c, e, -⟩ := hk2; exact ⟨_, _, _, e⟩
  obtain ⟨va, vn, vc, ev⟩ : ∃ a n c, u1 = .slice a n c := by obtain ⟨a, c, e, -⟩ := hu1; exact ⟨_, _, _, e⟩
  obtain ⟨va2, vn2, vc2, ev2⟩ : ∃ a n c, u2 = .slice a n c := by obtain ⟨a, c, e, -⟩ := hu2; exact ⟨_, _, _, e⟩
  subst ek ek2 ev ev2
  have f1 : Fr (fun _ => False) w ((w.alloc (.cells #[.bool ok, .string val, .slice ka kn kc, .slice va vn vc] 39)).alloc (.cells #[.bool ok, .string val, .slice ka2 kn2 kc2, .slice va2 vn2 vc2] 39)) := ((Fr.refl _ w).alloc _).alloc _
  have b1 : ((w.alloc (.cells #[.bool ok, .string val, .slice ka kn kc, .slice va vn vc] 39)).alloc (.cells #[.bool ok, .string val, .slice ka2 kn2 kc2, .slice va2 vn2 vc2] 39)).heap[w.heap.size]? = some (.cells #[.bool ok, .string val, .slice ka kn kc, .slice va vn vc] 39) := by
    rw [Go.RowKit.Below.heap_alloc _ _ _ (by simp)]; exact heap_alloc_last w _
  have b2 : ((w.alloc (.cells #[.bool ok, .string val, .slice ka kn kc, .slice va vn vc] 39)).alloc (.cells #[.bool ok, .string val, .slice ka2 kn2 kc2, .slice va2 vn2 vc2] 39)).heap[w.heap.size + 1]? = some (.cells #[.bool ok, .string val, .slice ka2 kn2 kc2, .slice va2 vn2 vc2] 39) := by
    have := heap_alloc_last (w.alloc (.cells #[.bool ok, .string val, .slice ka kn kc, .slice va vn vc] 39)) (.cells #[.bool ok, .string val, .slice ka2 kn2 kc2, .slice va2 vn2 vc2] 39)
    rw [show (w.alloc (.cells #[.bool ok, .string val, .slice ka kn kc, .slice va vn vc] 39)).heap.size = w.heap.size + 1 by simp] at this
    exact this
  obtain ⟨W, eW⟩ : ∃ W, W = ((w.alloc (.cells #[.bool ok, .string val, .slice ka kn kc, .slice va vn vc] 39)).alloc (.cells #[.bool ok, .string val, .slice ka2 kn2 kc2, .slice va2 vn2 vc2] 39)) := ⟨_, rfl⟩
  rw [← eW] at f1 b1 b2
  have F1 : Hd (Fr (fun _ => False) w W) := f1
  have B2' : Hd (W.heap[w.heap.size + 1]? = some (.cells #[.bool ok, .string val, .slice ka2 kn2 kc2, .slice va2 vn2 vc2] 39)) := b2
  have B1' : Hd (W.heap[w.heap.size]? = some (.cells #[.bool ok, .string val, .slice ka kn kc, .slice va vn vc] 39)) := b1
  clear hk1 hk2 hu1 hu2 hl hB1 hB2 f1 b1 b2
  go_enter Tryz.func21, Tryz.ntmps21
  go_upto_region 1 with fail
  rw [← eW]
  clear eW
  obtain ⟨bb, ebb⟩ : ∃ bb, bb = w.heap.size := ⟨_, rfl⟩
  rw [← ebb] at B1' B2' ⊢
  have d0 : W.cell? ⟨bb, 0, none⟩ = some (.bool ok) := cell_of B1'.out 0
  have d1 : W.cell? ⟨bb, 1, none⟩ = some (.string val) := cell_of B1'.out 1
  have d2 : W.cell? ⟨bb, 2, none⟩ = some (.slice ka kn kc) := cell_of B1'.out 2
  have e0 : W.cell? ⟨bb + 1, 0, none⟩ = some (.bool ok) := cell_of B2'.out 0
  have e1 : W.cell? ⟨bb + 1, 1, none⟩ = some (.string val) := cell_of B2'.out 1
  have e2 : W.cell? ⟨bb + 1, 2, none⟩ = some (.slice ka2 kn2 kc2) := cell_of B2'.out 2
  have HS : Hd (∀ W2, Fr (fun _ => False) W W2 → W2.cell? ⟨bb, 3, none⟩ = some (.slice va vn vc) ∧ W2.cell? ⟨bb + 1, 3, none⟩ = some (.slice va2 vn2 vc2)) := fun W2 h => ⟨(h.cell (heap_lt B1'.out) (fun h => h)).trans (cell_of B1'.out 3), (h.cell (heap_lt B2'.out) (fun h => h)).trans (cell_of B2'.out 3)⟩
  clear ebb B1' B2'
  go_wp2_with fail
  refine (C1 W F1.out).mono ?_
  rintro _ w1 ⟨rfl, hf1⟩
  obtain ⟨d3, e3⟩ := HS.out w1 hf1
  have F2 : Hd (Fr (fun _ => False) w w1) := F1.out.trans hf1
  clear C1 HS hf1 d0 d1 d2 e0 e1 e2
  go_wp2_with fail
  refine (C2 w1 F2.out).mono ?_
  rintro _ w2 ⟨rfl, hf2⟩
  have F3 : Hd (Fr (fun _ => False) w w2) := F2.out.trans hf2
  clear C2 hf2 d3 e3 F2 F1
  go_wp2_with fail
  go_ret
  exact ⟨rfl, F3.out⟩

theorem four {w : World} {b t : Nat} {a0 a1 a2 a3 : Value} (h : w.heap[b]? = some (.cells #[a0, a1, a2, a3] t)) (x0 x1 x2 x3 : Value) : ((((w.setCell ⟨b, 0, none⟩ x0).setCell ⟨b, 1, none⟩ x1).setCell ⟨b, 2, none⟩ x2).setCell ⟨b, 3, none⟩ x3).heap[b]? = some (.cells #[x0, x1, x2, x3] t) := set_of (set_of (set_of (set_of h 0 x0) 1 x1) 2 x2) 3 x3
theorem four_fr (w : World) (b : Nat) (x0 x1 x2 x3 : Value) : Fr (fun k => k = b) w ((((w.setCell ⟨b, 0, none⟩ x0).setCell ⟨b, 1, none⟩ x1).setCell ⟨b, 2, none⟩ x2).setCell ⟨b, 3, none⟩ x3) :=
  ((((Fr.refl (fun k => k = b) w).setCell ⟨b, 0, none⟩ x0 (Or.inl rfl)).setCell ⟨b, 1, none⟩ x1 (Or.inl rfl)).setCell ⟨b, 2, none⟩ x2 (Or.inl rfl)).setCell ⟨b, 3, none⟩ x3 (Or.inl rfl)
theorem reply_res {w : World} {tmps : Array Value} {fn : Func} {p : Tmp} (h : fn.results = #[.cell p 39]) {g : Nat} {x0 x1 x2 x3 : Value} (hp : tmps.getD p undef = .pointer (some ⟨g, 0, none⟩)) (hg : w.heap[g]? = some (.cells #[x0, x1, x2, x3] 39)) : (results fn tmps).run Tryz.prog w = .ok (.agg #[x0, x1, x2, x3]) w := by
  exact results_cell_row h tmps w g 39 _ (0, 0) _ hp hg Tryz.underlying39 rfl (by kernel_rfl)

/-- What Do leaves. -/
def DoE (w w' : World) (B c : Nat) (kv vv : Value) (L : List Kv) (o : OpT) (rv : Value) : Prop :=
  ∃ rk ru kv' vv', rv = .agg #[.bool (doR L o).ok, .string (doR L o).val, rk, ru] ∧ w'.ownsRow w.heap.size 3 1 rk (doR L o).L.length (kCells (doR L o).L) ∧ w'.ownsRow w.heap.size 9 1 ru (doR L o).L.length (vCells (doR L o).L) ∧
    Rt w' B c kv' vv' (doT L o) ∧ Fr (fun j => j = c ∨ kv.ownBlock = some j ∨ vv.ownBlock = some j) w w' ∧ (∀ j, kv'.ownBlock = some j → kv.ownBlock = some j ∨ w.heap.size ≤ j) ∧ (∀ j, vv'.ownBlock = some j → vv.ownBlock = some j ∨ w.heap.size ≤ j) ∧ ((doR L o).L ≠ [] → ∀ j, (rk.ownBlock = some j ∨ ru.ownBlock = some j) → kv'.ownBlock ≠ some j ∧ vv'.ownBlock ≠ some j)

def W43 (w : World) (kd ky : Int) (x : ByteArray) : World := (w.alloc (.cells #[vI kd, vI ky, .string x] 28)).alloc (.cells #[.bool false, .string ⟨#[]⟩, .slice none 0 0, .slice none 0 0] 39)
theorem W43_fr (w : World) (kd ky : Int) (x : ByteArray) : Fr (fun _ => False) w (W43 w kd ky x) := ((Fr.refl _ w).alloc _).alloc _
theorem W43_op (w : World) (kd ky : Int) (x : ByteArray) : (W43 w kd ky x).heap[w.heap.size]? = some (.cells #[vI kd, vI ky, .string x] 28) := by
  unfold W43
  rw [Go.RowKit.Below.heap_alloc _ _ _ (by simp)]; exact heap_alloc_last w _
theorem W43_rp (w : World) (kd ky : Int) (x : ByteArray) : (W43 w kd ky x).heap[w.heap.size + 1]? = some (.cells #[.bool false, .string ⟨#[]⟩, .slice none 0 0, .slice none 0 0] 39) := by
  unfold W43
  have := heap_alloc_last (w.alloc (.cells #[vI kd, vI ky, .string x] 28)) (.cells #[.bool false, .string ⟨#[]⟩, .slice none 0 0, .slice none 0 0] 39)
  rw [show (w.alloc (.cells #[vI kd, vI ky, .string x] 28)).heap.size = w.heap.size + 1 by simp] at this
  exact this

set_option maxRecDepth 100000 in
set_option maxHeartbeats 4000000 in
theorem do_pub (w : World) (B c : Nat) (kv vv : Value) (L : List Kv) (ky : Int) (x : ByteArray) (h : Rt w B c kv vv L) (hB : B ≤ w.heap.size) (hl : L.length ≤ 3999999999) :
    Calls Tryz.prog 20 #[.pointer (some ⟨c, 0, none⟩), opV 1 ky x] w fun e w' => ∃ rv, e = .returned rv ∧ DoE w w' B c kv vv L (1, ky, x) rv := by
  have H : Hd (Rt w B c kv vv L) := h
  have HB : Hd (B ≤ w.heap.size) := hB
  have hh := W43_op w 1 ky x
  have hr := W43_rp w 1 ky x
  have hf := W43_fr w 1 ky x
  have h1 : Rt (W43 w 1 ky x) B c kv vv L := h.fr hf (fun h => h) (fun _ _ h => h) (fun _ _ h => h)
  have hsz : (W43 w 1 ky x).heap.size = w.heap.size + 2 := by unfold W43; simp
  obtain ⟨W, eW⟩ : ∃ W, W = W43 w 1 ky x := ⟨_, rfl⟩
  rw [← eW] at hh hr hf h1 hsz
  have EW : Hd (W = W43 w 1 ky x) := eW
  obtain ⟨b, eb⟩ : ∃ b, b = w.heap.size := ⟨_, rfl⟩
  rw [← eb] at hh hr hsz
  have EB : Hd (b = w.heap.size) := eb
  have HC : Hd (c < b) := by show _ < _; rw [eb]; exact heap_lt h.obj
  have HKB : Hd (∀ j, kv.ownBlock = some j ∨ vv.ownBlock = some j → j < b) := fun j hj => by
    rw [eb]
    rcases hj with hj | hj
    · exact (World.ownsRow.lt h.ks j hj).2
    · exact (World.ownsRow.lt h.vs j hj).2
  have c0 : W.cell? ⟨b, 0, none⟩ = some (vI 1) := cell_of hh 0
  have c1 : W.cell? ⟨b, 1, none⟩ = some (vI ky) := cell_of hh 1
  have c2 : W.cell? ⟨b, 2, none⟩ = some (.string x) := cell_of hh 2
  have HR : Hd (W.heap[b + 1]? = some (.cells #[.bool false, .string ⟨#[]⟩, .slice none 0 0, .slice none 0 0] 39)) := hr
  have HF : Hd (Fr (fun _ => False) w W) := hf
  have H1 : Hd (Rt W B c kv vv L) := h1
  -- behind the store
  have fin : ∀ (bl : Bool) (w2 : World) (kv' vv' : Value), bl = (doR L (1, ky, x)).ok → Rt w2 B c kv' vv' (doT L (1, ky, x)) → Fr (fun j => j = c ∨ kv.ownBlock = some j ∨ vv.ownBlock = some j) W w2 → (∀ j, kv'.ownBlock = some j → kv.ownBlock = some j ∨ W.heap.size ≤ j) → (∀ j, vv'.ownBlock = some j → vv.ownBlock = some j ∨ W.heap.size ≤ j) →
      w2.heap[b + 1]? = some (.cells #[.bool false, .string ⟨#[]⟩, .slice none 0 0, .slice none 0 0] 39) ∧ DoE w ((((w2.setCell ⟨b + 1, 0, none⟩ (.bool bl)).setCell ⟨b + 1, 1, none⟩ (.string ⟨#[]⟩)).setCell ⟨b + 1, 2, none⟩ (.slice none 0 0)).setCell ⟨b + 1, 3, none⟩ (.slice none 0 0)) B c kv vv L (1, ky, x) (.agg #[.bool bl, .string ⟨#[]⟩, .slice none 0 0, .slice none 0 0]) := by
    intro bl w2 kv' vv' ebl hR2 hF2 hk' hv'
    have f4 := four_fr w2 (b + 1) (.bool bl) (.string ⟨#[]⟩) (.slice none 0 0) (.slice none 0 0)
    have hcb := HC.out
    refine ⟨(hF2.block (b + 1) (heap_lt HR.out) (fun e => ?_)).trans HR.out, ⟨_, _, kv', vv', by rw [ebl]; rfl, World.ownsRow_nil _ _ _ _, World.ownsRow_nil _ _ _ _, hR2.fr f4 (by omega) (fun g e e2 => ?_) (fun g e e2 => ?_), ?_, fun j e => ?_, fun j e => ?_, fun hne => absurd (by unfold doR; rw [if_pos rfl]) hne⟩⟩
    · rcases e with e | e
      · omega
      · have := HKB.out _ e; omega
    · rcases hk' g e with e3 | e3
      · have := HKB.out g (Or.inl e3); omega
      · omega
    · rcases hv' g e with e3 | e3
      · have := HKB.out g (Or.inr e3); omega
      · omega
    · have hA : Fr (fun j => j = c ∨ kv.ownBlock = some j ∨ vv.ownBlock = some j) w w2 := (HF.out.mono (fun _ _ h => h.elim)).trans hF2
      have hb := EB.out
      exact (((hA.setCell _ _ (Or.inr (by show _ ≤ b + 1; omega))).setCell _ _ (Or.inr (by show _ ≤ b + 1; omega))).setCell _ _ (Or.inr (by show _ ≤ b + 1; omega))).setCell _ _ (Or.inr (by show _ ≤ b + 1; omega))
    · rcases hk' j e with e3 | e3
      · exact Or.inl e3
      · right; have := EB.out; omega
    · rcases hv' j e with e3 | e3
      · exact Or.inl e3
      · right; have := EB.out; omega
  have FIN : Hd (∀ (bl : Bool) (w2 : World) (kv' vv' : Value), bl = (doR L (1, ky, x)).ok → Rt w2 B c kv' vv' (doT L (1, ky, x)) → Fr (fun j => j = c ∨ kv.ownBlock = some j ∨ vv.ownBlock = some j) W w2 → (∀ j, kv'.ownBlock = some j → kv.ownBlock = some j ∨ W.heap.size ≤ j) → (∀ j, vv'.ownBlock = some j → vv.ownBlock = some j ∨ W.heap.size ≤ j) →
      w2.heap[b + 1]? = some (.cells #[.bool false, .string ⟨#[]⟩, .slice none 0 0, .slice none 0 0] 39) ∧ DoE w ((((w2.setCell ⟨b + 1, 0, none⟩ (.bool bl)).setCell ⟨b + 1, 1, none⟩ (.string ⟨#[]⟩)).setCell ⟨b + 1, 2, none⟩ (.slice none 0 0)).setCell ⟨b + 1, 3, none⟩ (.slice none 0 0)) B c kv vv L (1, ky, x) (.agg #[.bool bl, .string ⟨#[]⟩, .slice none 0 0, .slice none 0 0])) := fin
  clear fin
  have hsz2 : B ≤ W.heap.size := Nat.le_trans hB hf.size
  have CALL : ∃ bl, Calls Tryz.prog 43 #[.pointer (some ⟨c, 0, none⟩), vI ky, .string x] W fun e w2 => e = .returned (.bool bl) ∧ w2.heap[b + 1]? = some (.cells #[.bool false, .string ⟨#[]⟩, .slice none 0 0, .slice none 0 0] 39) ∧ DoE w ((((w2.setCell ⟨b + 1, 0, none⟩ (.bool bl)).setCell ⟨b + 1, 1, none⟩ (.string ⟨#[]⟩)).setCell ⟨b + 1, 2, none⟩ (.slice none 0 0)).setCell ⟨b + 1, 3, none⟩ (.slice none 0 0)) B c kv vv L (1, ky, x) (.agg #[.bool bl, .string ⟨#[]⟩, .slice none 0 0, .slice none 0 0]) := by
    cases hlk : look L ky with
    | none =>
      refine ⟨true, (rpub_yes W B c kv vv L ky x h1 hsz2 (by omega) hlk).mono ?_⟩
      rintro _ w2 ⟨rfl, kv', vv', q1, q2, q3, q4⟩
      exact ⟨rfl, FIN.out true w2 kv' vv' (by unfold doR; rw [if_pos rfl, hlk]; rfl) (by unfold doT; rw [if_pos rfl, hlk]; exact q1) q2 q3 q4⟩
    | some y =>
      refine ⟨false, (rpub_no W B c kv vv L ky x h1 (by omega) (by rw [hlk]; rfl)).mono ?_⟩
      rintro _ w2 ⟨rfl, q1⟩
      refine ⟨rfl, FIN.out false w2 kv vv (by unfold doR; rw [if_pos rfl, hlk]; rfl) ?_ (q1.mono (fun _ _ h => h.elim)) (fun j e => Or.inl e) (fun j e => Or.inl e)⟩
      unfold doT
      rw [if_pos rfl, hlk]
      exact h1.fr q1 (fun h => h) (fun _ _ h => h) (fun _ _ h => h)
  obtain ⟨bl, CALL⟩ := CALL
  clear FIN h hB hh hr hf h1 hsz hsz2 eW H HC HKB HF H1
  unfold opV
  go_enter Tryz.func20, Tryz.ntmps20
  go_upto_region 1 with fail
  rw [show ((w.alloc (.cells #[vI 1, vI ky, .string x] 28)).alloc (.cells #[.bool false, .string ⟨#[]⟩, .slice none 0 0, .slice none 0 0] 39)) = W from EW.out.symm, ← EB.out]
  clear EW eb
  go_wp2_with fail
  refine CALL.mono ?_
  rintro _ w2 ⟨rfl, hb2, hD⟩
  have HD : Hd (DoE w ((((w2.setCell ⟨b + 1, 0, none⟩ (.bool bl)).setCell ⟨b + 1, 1, none⟩ (.string ⟨#[]⟩)).setCell ⟨b + 1, 2, none⟩ (.slice none 0 0)).setCell ⟨b + 1, 3, none⟩ (.slice none 0 0)) B c kv vv L (1, ky, x) (.agg #[.bool bl, .string ⟨#[]⟩, .slice none 0 0, .slice none 0 0])) := hD
  have z0 : w2.frozen? ⟨b + 1, 0, none⟩ = false := frozen_of hb2 0
  have z1 : w2.frozen? ⟨b + 1, 1, none⟩ = false := frozen_of hb2 1
  have z2 : w2.frozen? ⟨b + 1, 2, none⟩ = false := frozen_of hb2 2
  have z3 : w2.frozen? ⟨b + 1, 3, none⟩ = false := frozen_of hb2 3
  have y0 : w2.cell? ⟨b + 1, 0, none⟩ = some (.bool false) := cell_of hb2 0
  have y1 : w2.cell? ⟨b + 1, 1, none⟩ = some (.string ⟨#[]⟩) := cell_of hb2 1
  have y2 : w2.cell? ⟨b + 1, 2, none⟩ = some (.slice none 0 0) := cell_of hb2 2
  have y3 : w2.cell? ⟨b + 1, 3, none⟩ = some (.slice none 0 0) := cell_of hb2 3
  have HB2 : Hd (w2.heap[b + 1]? = some (.cells #[.bool false, .string ⟨#[]⟩, .slice none 0 0, .slice none 0 0] 39)) := hb2
  clear CALL hD hb2 c0 c1 c2
  go_wp2_with fail
  refine bodyPost_ret (reply_res Tryz.results20 rfl (four HB2.out (.bool bl) (.string ⟨#[]⟩) (.slice none 0 0) (.slice none 0 0))) rfl ⟨_, rfl, HD.out⟩

theorem row_val {w : World} {B e size n : Nat} {v : Value} {xs : List Value} (h : w.ownsRow B e size v n xs) : ∃ a c, v = .slice a n c := by
  rcases h.2 with ⟨rfl, rfl⟩ | ⟨g, cap, cur, rfl, h3, h4, h5⟩
  · exact ⟨_, _, rfl⟩
  · exact ⟨_, _, rfl⟩
theorem do_fin {w W w2 : World} {B c b : Nat} {kv vv rk ru : Value} {L : List Kv} {o : OpT} (hb : b = w.heap.size) (h : Rt w B c kv vv L) (hF : Fr (fun _ => False) w W) (hS : W.heap.size = b + 2) (hR : W.heap[b + 1]? = some (.cells #[.bool false, .string ⟨#[]⟩, .slice none 0 0, .slice none 0 0] 39)) (h2 : Fr (fun _ => False) W w2) (ho : doT L o = L)
    (hk : w2.ownsRow W.heap.size 3 1 rk (doR L o).L.length (kCells (doR L o).L)) (hv : w2.ownsRow W.heap.size 9 1 ru (doR L o).L.length (vCells (doR L o).L)) :
    w2.heap[b + 1]? = some (.cells #[.bool false, .string ⟨#[]⟩, .slice none 0 0, .slice none 0 0] 39) ∧ DoE w ((((w2.setCell ⟨b + 1, 0, none⟩ (.bool (doR L o).ok)).setCell ⟨b + 1, 1, none⟩ (.string (doR L o).val)).setCell ⟨b + 1, 2, none⟩ rk).setCell ⟨b + 1, 3, none⟩ ru) B c kv vv L o (.agg #[.bool (doR L o).ok, .string (doR L o).val, rk, ru]) := by
  have f4 := four_fr w2 (b + 1) (.bool (doR L o).ok) (.string (doR L o).val) rk ru
  have fA := hF.trans h2
  have hcl := heap_lt h.obj
  have ap : ∀ j, (rk.ownBlock = some j ∨ ru.ownBlock = some j) → kv.ownBlock ≠ some j ∧ vv.ownBlock ≠ some j := fun j e => by
    have hj : W.heap.size ≤ j := by
      rcases e with e | e
      · exact (World.ownsRow.lt hk j e).1
      · exact (World.ownsRow.lt hv j e).1
    exact ⟨fun e2 => by have := (World.ownsRow.lt h.ks j e2).2; omega, fun e2 => by have := (World.ownsRow.lt h.vs j e2).2; omega⟩
  refine ⟨(h2.block (b + 1) (heap_lt hR) (fun h => h)).trans hR, rk, ru, kv, vv, rfl, ?_, ?_, ?_, ?_, fun j e => Or.inl e, fun j e => Or.inl e, fun _ => ap⟩
  · refine World.ownsRow.mono (ownsRow_fr hk f4 (fun g e e2 => ?_)) (by omega)
    have := (World.ownsRow.lt hk g e).1; omega
  · refine World.ownsRow.mono (ownsRow_fr hv f4 (fun g e e2 => ?_)) (by omega)
    have := (World.ownsRow.lt hv g e).1; omega
  · rw [ho]
    refine (h.fr fA (fun h => h) (fun _ _ h => h) (fun _ _ h => h)).fr f4 (by omega) (fun g e e2 => ?_) (fun g e e2 => ?_)
    · have := (World.ownsRow.lt h.ks g e).2; omega
    · have := (World.ownsRow.lt h.vs g e).2; omega
  · have hA : Fr (fun j => j = c ∨ kv.ownBlock = some j ∨ vv.ownBlock = some j) w w2 := fA.mono (fun _ _ h => h.elim)
    exact (((hA.setCell ⟨b + 1, 0, none⟩ _ (Or.inr (by show _ ≤ b + 1; omega))).setCell ⟨b + 1, 1, none⟩ _ (Or.inr (by show _ ≤ b + 1; omega))).setCell ⟨b + 1, 2, none⟩ _ (Or.inr (by show _ ≤ b + 1; omega))).setCell ⟨b + 1, 3, none⟩ _ (Or.inr (by show _ ≤ b + 1; omega))

set_option maxRecDepth 100000 in
set_option maxHeartbeats 4000000 in
theorem do_look (w : World) (B c : Nat) (kv vv : Value) (L : List Kv) (ky : Int) (x : ByteArray) (h : Rt w B c kv vv L) (hl : L.length ≤ 3999999999) :
    Calls Tryz.prog 20 #[.pointer (some ⟨c, 0, none⟩), opV 2 ky x] w fun e w' => ∃ rv, e = .returned rv ∧ DoE w w' B c kv vv L (2, ky, x) rv := by
  have hh := W43_op w 2 ky x
  have hr := W43_rp w 2 ky x
  have hf := W43_fr w 2 ky x
  have h1 : Rt (W43 w 2 ky x) B c kv vv L := h.fr hf (fun h => h) (fun _ _ h => h) (fun _ _ h => h)
  have hsz : (W43 w 2 ky x).heap.size = w.heap.size + 2 := by unfold W43; simp
  obtain ⟨W, eW⟩ : ∃ W, W = W43 w 2 ky x := ⟨_, rfl⟩
  rw [← eW] at hh hr hf h1 hsz
  have EW : Hd (W = W43 w 2 ky x) := eW
  obtain ⟨b, eb⟩ : ∃ b, b = w.heap.size := ⟨_, rfl⟩
  rw [← eb] at hh hr hsz
  have EB : Hd (b = w.heap.size) := eb
  have c0 : W.cell? ⟨b, 0, none⟩ = some (vI 2) := cell_of hh 0
  have c1 : W.cell? ⟨b, 1, none⟩ = some (vI ky) := cell_of hh 1
  have hdr : doR L (2, ky, x) = ⟨(look L ky).isSome, (look L ky).getD ⟨#[]⟩, []⟩ := rfl
  obtain ⟨vl, evl⟩ : ∃ vl, vl = (look L ky).getD ⟨#[]⟩ := ⟨_, rfl⟩
  obtain ⟨bl, ebl⟩ : ∃ bl, bl = (look L ky).isSome := ⟨_, rfl⟩
  have CALL : Calls Tryz.prog 44 #[.pointer (some ⟨c, 0, none⟩), vI ky] W fun e w2 => e = .returned (.tuple #[.string vl, .bool bl]) ∧ w2.heap[b + 1]? = some (.cells #[.bool false, .string ⟨#[]⟩, .slice none 0 0, .slice none 0 0] 39) ∧ DoE w ((((w2.setCell ⟨b + 1, 0, none⟩ (.bool bl)).setCell ⟨b + 1, 1, none⟩ (.string vl)).setCell ⟨b + 1, 2, none⟩ (.slice none 0 0)).setCell ⟨b + 1, 3, none⟩ (.slice none 0 0)) B c kv vv L (2, ky, x) (.agg #[.bool bl, .string vl, .slice none 0 0, .slice none 0 0]) := by
    refine (rlook_any W B c kv vv L ky h1 (by omega)).mono ?_
    rintro _ w2 ⟨rfl, q1⟩
    have := do_fin (o := (2, ky, x)) eb h hf hsz hr q1 rfl (World.ownsRow_nil _ _ _ _) (World.ownsRow_nil _ _ _ _)
    rw [hdr] at this
    simp only [← evl, ← ebl] at this
    exact ⟨by rw [evl, ebl], this⟩
  clear h hl hh hr hf h1 hsz eW hdr evl ebl
  unfold opV
  go_enter Tryz.func20, Tryz.ntmps20
  go_upto_region 1 with fail
  rw [show ((w.alloc (.cells #[vI 2, vI ky, .string x] 28)).alloc (.cells #[.bool false, .string ⟨#[]⟩, .slice none 0 0, .slice none 0 0] 39)) = W from EW.out.symm, ← EB.out]
  clear EW eb
  go_wp2_with fail
  refine CALL.mono ?_
  rintro _ w2 ⟨rfl, hb2, hD⟩
  have HD : Hd (DoE w ((((w2.setCell ⟨b + 1, 0, none⟩ (.bool bl)).setCell ⟨b + 1, 1, none⟩ (.string vl)).setCell ⟨b + 1, 2, none⟩ (.slice none 0 0)).setCell ⟨b + 1, 3, none⟩ (.slice none 0 0)) B c kv vv L (2, ky, x) (.agg #[.bool bl, .string vl, .slice none 0 0, .slice none 0 0])) := hD
  have z0 : w2.frozen? ⟨b + 1, 0, none⟩ = false := frozen_of hb2 0
  have z1 : w2.frozen? ⟨b + 1, 1, none⟩ = false := frozen_of hb2 1
  have z2 : w2.frozen? ⟨b + 1, 2, none⟩ = false := frozen_of hb2 2
  have z3 : w2.frozen? ⟨b + 1, 3, none⟩ = false := frozen_of hb2 3
  have y0 : w2.cell? ⟨b + 1, 0, none⟩ = some (.bool false) := cell_of hb2 0
  have y1 : w2.cell? ⟨b + 1, 1, none⟩ = some (.string ⟨#[]⟩) := cell_of hb2 1
  have y2 : w2.cell? ⟨b + 1, 2, none⟩ = some (.slice none 0 0) := cell_of hb2 2
  have y3 : w2.cell? ⟨b + 1, 3, none⟩ = some (.slice none 0 0) := cell_of hb2 3
  have HB2 : Hd (w2.heap[b + 1]? = some (.cells #[.bool false, .string ⟨#[]⟩, .slice none 0 0, .slice none 0 0] 39)) := hb2
  clear CALL hD hb2 c0 c1
  go_wp2_with fail
  refine bodyPost_ret (reply_res Tryz.results20 rfl (four HB2.out (.bool bl) (.string vl) (.slice none 0 0) (.slice none 0 0))) rfl ⟨_, rfl, HD.out⟩

set_option maxRecDepth 100000 in
set_option maxHeartbeats 4000000 in
theorem do_snap (w : World) (B c : Nat) (kv vv : Value) (L : List Kv) (ky : Int) (x : ByteArray) (h : Rt w B c kv vv L) (hl : L.length ≤ 3999999999) :
    Calls Tryz.prog 20 #[.pointer (some ⟨c, 0, none⟩), opV 3 ky x] w fun e w' => ∃ rv, e = .returned rv ∧ DoE w w' B c kv vv L (3, ky, x) rv := by
  have hh := W43_op w 3 ky x
  have hr := W43_rp w 3 ky x
  have hf := W43_fr w 3 ky x
  have h1 : Rt (W43 w 3 ky x) B c kv vv L := h.fr hf (fun h => h) (fun _ _ h => h) (fun _ _ h => h)
  have hsz : (W43 w 3 ky x).heap.size = w.heap.size + 2 := by unfold W43; simp
  obtain ⟨W, eW⟩ : ∃ W, W = W43 w 3 ky x := ⟨_, rfl⟩
  rw [← eW] at hh hr hf h1 hsz
  have EW : Hd (W = W43 w 3 ky x) := eW
  obtain ⟨b, eb⟩ : ∃ b, b = w.heap.size := ⟨_, rfl⟩
  rw [← eb] at hh hr hsz
  have EB : Hd (b = w.heap.size) := eb
  have c0 : W.cell? ⟨b, 0, none⟩ = some (vI 3) := cell_of hh 0
  have CALL : Calls Tryz.prog 45 #[.pointer (some ⟨c, 0, none⟩)] W fun e w2 => ∃ k' v', e = .returned (.tuple #[k', v']) ∧ w2.heap[b + 1]? = some (.cells #[.bool false, .string ⟨#[]⟩, .slice none 0 0, .slice none 0 0] 39) ∧ (∃ ka kn kc, k' = .slice ka kn kc) ∧ (∃ ka kn kc, v' = .slice ka kn kc) ∧ DoE w ((((w2.setCell ⟨b + 1, 0, none⟩ (.bool true)).setCell ⟨b + 1, 1, none⟩ (.string ⟨#[]⟩)).setCell ⟨b + 1, 2, none⟩ k').setCell ⟨b + 1, 3, none⟩ v') B c kv vv L (3, ky, x) (.agg #[.bool true, .string ⟨#[]⟩, k', v']) := by
    refine (rsnap_any W B c kv vv L h1 (by omega)).mono ?_
    rintro _ w2 ⟨k', v', rfl, q1, q2, q3⟩
    have := do_fin (o := (3, ky, x)) eb h hf hsz hr q3 rfl q1 q2
    obtain ⟨a, n, e1⟩ := row_val q1
    obtain ⟨a2, n2, e2⟩ := row_val q2
    exact ⟨k', v', rfl, this.1, ⟨_, _, _, e1⟩, ⟨_, _, _, e2⟩, this.2⟩
  clear h hl hh hr hf h1 hsz eW
  unfold opV
  go_enter Tryz.func20, Tryz.ntmps20
  go_upto_region 1 with fail
  rw [show ((w.alloc (.cells #[vI 3, vI ky, .string x] 28)).alloc (.cells #[.bool false, .string ⟨#[]⟩, .slice none 0 0, .slice none 0 0] 39)) = W from EW.out.symm, ← EB.out]
  clear EW eb
  go_wp2_with fail
  refine CALL.mono ?_
  rintro _ w2 ⟨k', v', rfl, hb2, ⟨ka, kn, kc, rfl⟩, ⟨va, vn, vc, rfl⟩, hD⟩
  have HD : Hd (DoE w ((((w2.setCell ⟨b + 1, 0, none⟩ (.bool true)).setCell ⟨b + 1, 1, none⟩ (.string ⟨#[]⟩)).setCell ⟨b + 1, 2, none⟩ (.slice ka kn kc)).setCell ⟨b + 1, 3, none⟩ (.slice va vn vc)) B c kv vv L (3, ky, x) (.agg #[.bool true, .string ⟨#[]⟩, .slice ka kn kc, .slice va vn vc])) := hD
  have z0 : w2.frozen? ⟨b + 1, 0, none⟩ = false := frozen_of hb2 0
  have z1 : w2.frozen? ⟨b + 1, 1, none⟩ = false := frozen_of hb2 1
  have z2 : w2.frozen? ⟨b + 1, 2, none⟩ = false := frozen_of hb2 2
  have z3 : w2.frozen? ⟨b + 1, 3, none⟩ = false := frozen_of hb2 3
  have y0 : w2.cell? ⟨b + 1, 0, none⟩ = some (.bool false) := cell_of hb2 0
  have y1 : w2.cell? ⟨b + 1, 1, none⟩ = some (.string ⟨#[]⟩) := cell_of hb2 1
  have y2 : w2.cell? ⟨b + 1, 2, none⟩ = some (.slice none 0 0) := cell_of hb2 2
  have y3 : w2.cell? ⟨b + 1, 3, none⟩ = some (.slice none 0 0) := cell_of hb2 3
  have HB2 : Hd (w2.heap[b + 1]? = some (.cells #[.bool false, .string ⟨#[]⟩, .slice none 0 0, .slice none 0 0] 39)) := hb2
  clear CALL hD hb2 c0
  go_wp2_with fail
  refine bodyPost_ret (reply_res Tryz.results20 rfl (four HB2.out (.bool true) (.string ⟨#[]⟩) (.slice ka kn kc) (.slice va vn vc))) rfl ⟨_, rfl, HD.out⟩

theorem do_any (w : World) (B c : Nat) (kv vv : Value) (L : List Kv) (kd ky : Int) (x : ByteArray) (hk : kd = 1 ∨ kd = 2 ∨ kd = 3) (h : Rt w B c kv vv L) (hB : B ≤ w.heap.size) (hl : L.length ≤ 3999999999) :
    Calls Tryz.prog 20 #[.pointer (some ⟨c, 0, none⟩), opV kd ky x] w fun e w' => ∃ rv, e = .returned rv ∧ DoE w w' B c kv vv L (kd, ky, x) rv := by
  rcases hk with rfl | rfl | rfl
  · exact do_pub w B c kv vv L ky x h hB hl
  · exact do_look w B c kv vv L ky x h hl
  · exact do_snap w B c kv vv L ky x h hl
end Go.Proofs.YtihicdbplmdjiaaGreat
