import Derived.Test.YtngbakjalmgciaaGreatQPcJ
namespace Go.Proofs.YtngbakjalmgciaaGreat
open Go.RowKit (wrap32 wrap64)
set_option linter.unusedVariables false
set_option linter.unusedSimpArgs false

/-! ### the document's ready -/
set_option maxRecDepth 100000 in
set_option maxHeartbeats 2000000 in
theorem ready_any {sb lg lc N : Nat} {la : Option Addr} {cb : Nat → Nat} {can : Nat → Bool} (w : World) (hN : N ≤ 64) (hla : 0 < N → la = some ⟨lg, 0, none⟩)
    (hc : ∀ W, Fr (fun _ => False) w W → W.cell? ⟨sb, 9, none⟩ = some (.slice la N lc) ∧ ∀ i, i < N → W.cell? ⟨lg, i, none⟩ = some (.pointer (some ⟨cb i, 0, none⟩)))
    (hcan : ∀ i, i < N → ∀ W, Fr (fun _ => False) w W → Calls Tryz.prog 44 #[.pointer (some ⟨sb, 0, none⟩), .pointer (some ⟨cb i, 0, none⟩)] W fun e w' => e = .returned (.bool (can i)) ∧ Fr (fun _ => False) W w') :
    Calls Tryz.prog 27 #[.pointer (some ⟨sb, 0, none⟩)] w fun e w' => ∃ v', e = .returned v' ∧ OwnI w' w.heap.size v' ((List.range N).filter can) ∧ Fr (fun _ => False) w w' := by
  have HC : Hd (∀ W, Fr (fun _ => False) w W → W.cell? ⟨sb, 9, none⟩ = some (.slice la N lc) ∧ ∀ i, i < N → W.cell? ⟨lg, i, none⟩ = some (.pointer (some ⟨cb i, 0, none⟩))) := hc
  have HK : Hd (∀ i, i < N → ∀ W, Fr (fun _ => False) w W → Calls Tryz.prog 44 #[.pointer (some ⟨sb, 0, none⟩), .pointer (some ⟨cb i, 0, none⟩)] W fun e w' => e = .returned (.bool (can i)) ∧ Fr (fun _ => False) W w') := hcan
  have HO0 : Hd (OwnI w w.heap.size (.slice none 0 0) ((List.range 0).filter can)) := World.ownsRow_nil _ _ _ _
  have HF0 : Hd (Fr (fun _ => False) w w) := Fr.refl _ _
  have HLA : Hd (0 < N → la = some ⟨lg, 0, none⟩) := hla
  clear hc hcan hla
  go_enter Tryz.func27, Tryz.ntmps27
  go_wp2_with fail
  go_loopw [3, 4] (fun v3 v wx => ∃ k : Nat, v = .int .i64 k ∧ k ≤ N ∧ Hd (OwnI wx w.heap.size v3 ((List.range k).filter can)) ∧ Hd (Fr (fun _ => False) w wx)) (fun _ v _ => match v with | .int _ q => N - q.toNat | _ => 0)
  case atStart => exact ⟨0, by simp, Nat.zero_le _, HO0.out, HF0.out⟩
  case round =>
    clear HO0 HF0
    obtain ⟨k, rfl, hk, HO, HF⟩ := hrel
    obtain ⟨c9, hl⟩ := HC.out wr HF.out
    by_cases hlt : k < N
    · have d1 : decide ((k : Int) < (N : Int)) = true := by simp; omega
      have k0 : (0 : Int) ≤ k := by omega
      have k1 : (k : Int) < N := by omega
      have p0 := hl k hlt
      obtain rfl := HLA.out (by omega)
      have HCk := HK.out k hlt wr HF.out
      have HNX : Hd ((List.range (k + 1)).filter can = (List.range k).filter can ++ if can k = true then [k] else []) := by
        unfold Hd
        rw [List.range_succ, List.filter_append]
        congr 1
        by_cases e : can k = true
        · rw [if_pos e]; simp [e]
        · rw [if_neg e]; simp [e]
      have hll : ((List.range k).filter can).length ≤ 64 := by
        have h1 := List.length_filter_le can (List.range k)
        rw [List.length_range] at h1
        omega
      have hk2 : k + 1 ≤ N := hlt
      generalize can k = ck at *
      generalize cb k = cbk at *
      clear hl
      go_wp2_with fail
      refine Calls.mono HCk ?_
      rintro _ w1 ⟨rfl, hF1⟩
      have HF1 : Hd (Fr (fun _ => False) w w1) := HF.out.trans hF1
      have HO1 : Hd (OwnI w1 w.heap.size u3 ((List.range k).filter can)) := ownsRow_fr HO.out hF1 (fun _ _ e => e)
      clear HCk hF1 HF HO p0 c9 hlt
      cases ck with
      | false =>
        have HO2 : Hd (OwnI w1 w.heap.size u3 ((List.range (k + 1)).filter can)) := by
          unfold Hd
          rw [HNX.out, if_neg (by simp), List.append_nil]
          exact HO1.out
        clear HO1 HNX
        go_wp2_with fail
        exact ⟨⟨k + 1, by simp, by omega, HO2.out, HF1.out⟩, by simp; omega⟩
      | true =>
        have HNX2 : Hd ((List.range (k + 1)).filter can = (List.range k).filter can ++ [k]) := by unfold Hd; rw [HNX.out, if_pos rfl]
        obtain ⟨L, eL⟩ : ∃ L, L = (List.range k).filter can := ⟨_, rfl⟩
        rw [← eL] at HO1 HNX2 hll
        obtain ⟨wz, hwz⟩ : ∃ wz, wz = w1.alloc (.cells #[vI (k : Int)] 3) := ⟨_, rfl⟩
        have HWZ : Hd (wz = w1.alloc (.cells #[vI (k : Int)] 3)) := hwz
        have hFz : Fr (fun _ => False) w1 wz := by rw [hwz]; exact Fr.alloc (Fr.refl _ _) _
        have HOz : Hd (wz.ownsRow w.heap.size 3 1 u3 L.length (L.map (fun (z : Nat) => vI z))) := ownsRow_fr HO1.out hFz (fun _ _ e => e)
        have hnews : Hd (∀ j u, [vI (k : Int)][j]? = some u → wz.cell? ((⟨w1.heap.size, 0, none⟩ : Addr).add j) = some u) := by
          unfold Hd
          rw [hwz]
          exact World.news_of_block (cs := #[vI (k : Int)]) (heap_alloc_last w1 _)
        have HFz : Hd (Fr (fun _ => False) w wz) := HF1.out.trans hFz
        obtain ⟨ua, uc, eu, -⟩ := HO1.out.at
        subst eu
        clear HNX hwz hFz eL HO1 HF1
        obtain ⟨i3, hi3, hz3, hs3, hb3⟩ := info_parts info3
        go_wp2_with ((at_builtin; refine Hd.out ?_))
        unfold Hd
        rw [← HWZ.out]
        refine wpList_append_lies _ rfl (.tmp 25) (.tmp 27) 23 rfl w.heap.size 3 i3 (vI 0) 1 8 under27 hi3 hz3 hs3 hb3 rfl (by omega) (.slice ua L.length uc) L.length _ rfl HOz.out ⟨w1.heap.size, 0, none⟩ 1 1 [vI (k : Int)] rfl rfl hnews.out (by intro u hu; simp at hu; subst hu; rfl) (by omega) (by unfold maxLen; omega) (by omega) HFz.out.size wz.heap.size rfl ?_
        intro g6 cap6 w6 hown6 hgrow6 hat6 hlt6
        have HO6 : Hd (OwnI w6 w.heap.size (.slice (some ⟨g6, 0, none⟩) (L.length + 1) cap6) ((List.range (k + 1)).filter can)) := by
          unfold Hd OwnI
          rw [HNX2.out, List.length_append, List.map_append]
          exact hown6
        have HF6 : Hd (Fr (fun _ => False) w w6) := HFz.out.thn (grown_fr hgrow6) (fun q hq e => by have := (World.ownsRow.lt HOz.out q e).1; omega)
        clear hown6 hgrow6 hat6 hlt6 hi3 hz3 hs3 hb3 HOz HWZ hnews HFz HNX2
        go_wp2_with fail
        exact ⟨⟨k + 1, by simp, by omega, HO6.out, HF6.out⟩, by simp; omega⟩
    · have d1 : decide ((k : Int) < (N : Int)) = false := by simp; omega
      have d1n : ¬ k < N := hlt
      have HE : Hd (OwnI wr w.heap.size u3 ((List.range N).filter can)) := by
        have e : k = N := by omega
        rw [e] at HO
        exact HO
      clear hlt HO hl
      go_wp2_with fail
      go_ret
      exact ⟨_, rfl, HE.out, HF.out⟩
end Go.Proofs.YtngbakjalmgciaaGreat
