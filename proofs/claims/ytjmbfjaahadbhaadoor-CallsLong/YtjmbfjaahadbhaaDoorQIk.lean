import Derived.Test.YtjmbfjaahadbhaaDoorQIj
import Derived.Test.YtjmbfjaahadbhaaDoorQIw
set_option linter.unusedVariables false
set_option linter.unusedSimpArgs false
namespace Go.Proofs.YtjmbfjaahadbhaaDoor
open Go.RowKit (wrap32 wrap64)

theorem fine_chain (N : Nat) (ring : Bool) (k : Nat) (hk : k ≤ 65535) : FineP (chF N ring k) := by
  refine ⟨by rw [chF_len]; omega, fun f hf => ?_⟩
  unfold chF at hf
  rw [List.mem_map] at hf
  obtain ⟨j, -, rfl⟩ := hf
  show FineC (codeC N ring j)
  unfold codeC
  split
  · exact ⟨by simp, fun c hc => by simp at hc; rcases hc with rfl | rfl <;> simp⟩
  · split
    · exact ⟨by simp, fun c hc => by simp at hc; rcases hc with rfl | rfl <;> simp⟩
    · exact ⟨by simp, fun c hc => by simp at hc; subst hc; simp⟩
theorem under22' : Tryd.prog.underlying 22 = some (.slice 32) := by kernel_rfl
set_option maxRecDepth 100000 in
set_option maxHeartbeats 16000000 in
theorem long_walk (n0 : Int) (ring : Bool) (w : World) (hb1 : -9223372036854775808 ≤ n0) (hb2 : n0 ≤ 9223372036854775807) (hT : Tab w) (h0 : 0 < w.heap.size) :
    Calls Tryd.prog 3 #[vI n0, .bool ring] w fun e w' => e = .returned (.bool true) ∧ Fr (fun _ => False) w w' := by
  obtain ⟨m1, hm1⟩ : ∃ m1, m1 = n0.tmod 65535 := ⟨_, rfl⟩
  have b1 : -65535 < m1 ∧ m1 < 65535 := by
    rw [hm1]
    have k1 := Int.tmod_lt_of_pos n0 (b := 65535) (by omega)
    have k2 := Int.lt_tmod_of_pos n0 (b := 65535) (by omega)
    omega
  obtain ⟨m2, hm2⟩ : ∃ m2, m2 = (m1 + 65535).tmod 65535 := ⟨_, rfl⟩
  have b2 : 0 ≤ m2 ∧ m2 < 65535 := by
    rw [hm2]
    exact ⟨Int.tmod_nonneg _ (by omega), Int.tmod_lt_of_pos _ (by omega)⟩
  obtain ⟨N, hN⟩ : ∃ N : Nat, 1 + m2 = (N : Int) := ⟨(1 + m2).toNat, by omega⟩
  have hN1 : 1 ≤ N := by omega
  have hN2 : N ≤ 65535 := by omega
  have q1 : n0.tmod 65535 = m1 := hm1.symm
  have q2 : (m1 + 65535).tmod 65535 = m2 := hm2.symm
  have HT : Hd (Tab w ∧ 0 < w.heap.size) := ⟨hT, h0⟩
  obtain ⟨X, hX⟩ : ∃ X, X = w.heap.size := ⟨_, rfl⟩
  obtain ⟨wa, hwa⟩ : ∃ wa, wa = w.alloc (.cells #[vI 0, .slice none 0 0] 24) := ⟨_, rfl⟩
  have HCH : Hd (Ch wa (X + 1) X (.slice none 0 0) N ring 0 []) := by
    refine ⟨by rw [hwa, hX]; exact heap_new0 w _, World.ownsRow_nil _ _ _ _, rfl, fun i hi => by simp at hi⟩
  have HFA : Hd (Fr (fun _ => False) w wa) := by unfold Hd; rw [hwa]; exact Fr.alloc (Fr.refl _ w) _
  have HSA : Hd (X + 1 ≤ wa.heap.size) := by unfold Hd; rw [hwa, World.size_alloc, hX]; exact Nat.le_refl _
  have HWA : Hd (wa = w.alloc (.cells #[vI 0, .slice none 0 0] 24)) := hwa
  have HX : Hd (X = w.heap.size) := hX
  clear hm1 hm2 hT h0 hX hwa
  go_enter Tryd.func3, Tryd.ntmps3
  go_upto_region 3 with fail
  rw [← HWA.out, ← HX.out]
  clear HWA q1 q2
  go_wp2_with fail
  go_loopw [6] (fun v wx => ∃ (k : Nat) (pv : Value) (us : List Value), v = .int .i64 k ∧ k ≤ N ∧ Hd (Ch wx (X + 1) X pv N ring k us) ∧ Hd (Fr (fun _ => False) w wx) ∧ Hd (X + 1 ≤ wx.heap.size)) (fun v _ => match v with | .int _ q => N - q.toNat | _ => 0)
  case atStart => exact ⟨0, _, _, by simp, Nat.zero_le _, HCH.out, HFA.out, HSA.out⟩
  case round =>
    clear HCH HFA HSA
    obtain ⟨k, pv, us, rfl, hk, HC, HF, HS⟩ := hrel
    by_cases hlt : k < N
    · have d1 : decide ((k : Int) < (N : Int)) = true := by simp; omega
      go_wp2_with fail
      refine (back_any wr).mono ?_
      rintro e w1 ⟨rfl, hF1⟩
      have HA1 : Hd (Ch w1 (X + 1) X pv N ring k us ∧ Fr (fun _ => False) w w1 ∧ X + 1 ≤ w1.heap.size) := ⟨HC.out.stay hF1, HF.out.trans hF1, Nat.le_trans HS.out hF1.size⟩
      clear hF1 HC HF HS
      by_cases hk1 : k + 1 < N
      · have d2 : decide ((k : Int) + 1 < (N : Int)) = true := by simp; omega
        have d2n : k + 1 < N := hk1
        have HCO : Hd (codeC N ring k = [cI ((k + 1 : Nat) : Int), bI]) := by unfold Hd codeC; rw [if_pos hk1]
        obtain ⟨K, hK⟩ : ∃ K : Int, K = (k : Int) + 1 := ⟨_, rfl⟩
        have HKE : Hd (((k + 1 : Nat) : Int) = K) := by unfold Hd; omega
        have HA2 : Hd (∀ W, Fr (fun _ => False) w1 W → Ch W (X + 1) X pv N ring k us ∧ Fr (fun _ => False) w W ∧ X + 1 ≤ W.heap.size) := fun W f => ⟨HA1.out.1.stay f, HA1.out.2.1.trans f, Nat.le_trans HA1.out.2.2 f.size⟩
        have hKs : (k : Int) + 1 = K := hK.symm
        clear hK
        go_wp2_with fail
        refine (lcall_any K _).mono ?_
        rintro e w2 ⟨rfl, hF2⟩
        have HF2 : Hd (Fr (fun _ => False) w1 w2) := ((Fr.refl (fun _ => False) w1).alloc _).trans hF2
        clear hF2
        go_wp2_with fail
        refine (back_any w2).mono ?_
        rintro e w3 ⟨rfl, hF3⟩
        have HA3 : Hd (Ch w3 (X + 1) X pv N ring k us ∧ Fr (fun _ => False) w w3 ∧ X + 1 ≤ w3.heap.size) := HA2.out w3 (HF2.out.trans hF3)
        clear hF3 HF2 HA2 HA1
        go_upto_region 11 with fail
        obtain ⟨kk, hkk⟩ : ∃ kk, kk = w3.heap.size := ⟨_, rfl⟩
        have hb9 := heap_new0 w3 (.cells #[vI 11, vI 0, vI 0, vI 0, vI K, .slice none 0 0, .slice none 0 0, vI 15, vI 0, vI 0, vI 0, vI 0, .slice none 0 0, .slice none 0 0] 27)
        have hG9 : Fr (fun _ => False) w3 (w3.alloc (.cells #[vI 11, vI 0, vI 0, vI 0, vI K, .slice none 0 0, .slice none 0 0, vI 15, vI 0, vI 0, vI 0, vI 0, .slice none 0 0, .slice none 0 0] 27)) := (Fr.refl _ _).alloc _
        rw [← hkk] at hb9 ⊢
        generalize w3.alloc (.cells #[vI 11, vI 0, vI 0, vI 0, vI K, .slice none 0 0, .slice none 0 0, vI 15, vI 0, vI 0, vI 0, vI 0, .slice none 0 0, .slice none 0 0] 27) = w9 at *
        have HC9 : Hd (Ch w9 (X + 1) X pv N ring k us) := HA3.out.1.stay hG9
        have HF9 : Hd (Fr (fun _ => False) w w9) := HA3.out.2.1.trans hG9
        have HS9 : Hd (X + 1 ≤ w9.heap.size) := Nat.le_trans HA3.out.2.2 hG9.size
        have HL9 : Hd (Lit w9 (.slice (some ⟨kk, 0, none⟩) 2 2) (codeC N ring k)) := by unfold Hd; rw [HCO.out, HKE.out]; exact lit_two hb9
        clear hb9 hG9 hkk
        obtain ⟨va, vc, ev⟩ := own_slice HC9.out.row
        subst ev
        have cb : w9.cell? ⟨X, 1, none⟩ = some (.slice va k vc) := by rw [cell_of0 HC9.out.blk]; rfl
        have zb : w9.frozen? ⟨X, 1, none⟩ = false := frozen_of HC9.out.blk 1
        have hCz : Fr (fun _ => False) w9 (w9.alloc (.cells #[vI 0, vI 0, vI 0, .slice (some ⟨kk, 0, none⟩) 2 2] 32)) := Fr.alloc (Fr.refl _ w9) _
        have HFz : Hd (Fr (fun _ => False) w9 (w9.alloc (.cells #[vI 0, vI 0, vI 0, .slice (some ⟨kk, 0, none⟩) 2 2] 32))) := hCz
        have HCz : Hd (Ch (w9.alloc (.cells #[vI 0, vI 0, vI 0, .slice (some ⟨kk, 0, none⟩) 2 2] 32)) (X + 1) X (.slice va k vc) N ring k us) := HC9.out.stay hCz
        have HLz : Hd (Lit (w9.alloc (.cells #[vI 0, vI 0, vI 0, .slice (some ⟨kk, 0, none⟩) 2 2] 32)) (.slice (some ⟨kk, 0, none⟩) 2 2) (codeC N ring k)) := HL9.out.fr hCz (fun _ _ _ e => e)
        have HNW : Hd (∀ j' u, [vI 0, vI 0, vI 0, Value.slice (some ⟨kk, 0, none⟩) 2 2][j']? = some u → (w9.alloc (.cells #[vI 0, vI 0, vI 0, .slice (some ⟨kk, 0, none⟩) 2 2] 32)).cell? ((⟨w9.heap.size, 0, none⟩ : Addr).add j') = some u) := World.news_of_block (w := w9.alloc (.cells #[vI 0, vI 0, vI 0, .slice (some ⟨kk, 0, none⟩) 2 2] 32)) (cs := #[vI 0, vI 0, vI 0, .slice (some ⟨kk, 0, none⟩) 2 2]) (heap_new0 w9 _)
        have HSZ : Hd ((w9.alloc (.cells #[vI 0, vI 0, vI 0, .slice (some ⟨kk, 0, none⟩) 2 2] 32)).heap.size = w9.heap.size + 1) := World.size_alloc _ _
        have HBS : Hd (X + 1 ≤ (w9.alloc (.cells #[vI 0, vI 0, vI 0, .slice (some ⟨kk, 0, none⟩) 2 2] 32)).heap.size) := by have := HSZ.out; have := HS9.out; unfold Hd; omega
        have HGE : Hd (∀ q, (Value.slice va k vc).ownBlock = some q → X + 1 ≤ q) := fun q e => (World.ownsRow.lt HC9.out.row q e).1
        clear hCz
        go_wp2_with ((at_builtin; refine Hd.out ?_))
        unfold Hd
        obtain ⟨i3, hi3, hz3, hs3, hb3⟩ := info_parts (P := Tryd.prog) (e := 32) (z := .agg #[vI 0, vI 0, vI 0, .slice none 0 0]) (size := 4) (bytes := 48) (by kernel_rfl)
        refine wpList_append_lies _ rfl (.tmp 39) (.tmp 42) 22 rfl (X + 1) 32 i3 (.agg #[vI 0, vI 0, vI 0, .slice none 0 0]) 4 48 under22' hi3 hz3 hs3 hb3 rfl (by omega) (.slice va k vc) k _ rfl HCz.out.row ⟨w9.heap.size, 0, none⟩ 1 1 [vI 0, vI 0, vI 0, .slice (some ⟨kk, 0, none⟩) 2 2] rfl rfl HNW.out (by intro u hu; simp at hu; rcases hu with rfl | rfl <;> rfl) (by omega) (by unfold maxLen; omega) (by omega) HBS.out (w9.heap.size + 1) (by simp) ?_
        intro g6 cap6 w6 hown6 hgrow6 hat6 hlt6
        clear hi3 hz3 hs3 hb3
        have hfr : Fr (fun q => (Value.slice va k vc).ownBlock = some q) w9 w6 := (HFz.out.mono (fun _ _ e => e.elim)).trans (grown_frL hgrow6)
        have hb6 : w6.heap[X]? = some (.cells #[vI 0, .slice va k vc] 24) := (hfr.block X (heap_lt0 HC9.out.blk) (fun e => by have := HGE.out X e; omega)).trans HC9.out.blk
        have c6 : w6.cell? ⟨X, 1, none⟩ = some (.slice va k vc) := by rw [cell_of0 hb6]; rfl
        have z6 : w6.frozen? ⟨X, 1, none⟩ = false := frozen_of hb6 1
        have fset := setCell_fr w6 X 1 (.slice (some ⟨g6, 0, none⟩) (k + 1) cap6)
        have ty : ∀ (W : World) (q : Nat) (arr : Array Value), W.heap[q]? = some (.cells arr 27) → W.ownsRow (X + 1) 32 4 (.slice va k vc) k (us.flatMap rowZ) → (Value.slice va k vc).ownBlock ≠ some q := fun W q arr h1 h2 e => by
          rcases h2.2 with ⟨e2, -⟩ | ⟨g, cap, cur, e2, -, k2, -⟩
          · rw [e2] at e; cases e
          · rw [e2] at e
            cases e
            rw [h1] at k2
            injection k2 with k2
            injection k2 with _ k2
            cases k2
        have HC7 : Hd (Ch (w6.setCell ⟨X, 1, none⟩ (.slice (some ⟨g6, 0, none⟩) (k + 1) cap6)) (X + 1) X (.slice (some ⟨g6, 0, none⟩) (k + 1) cap6) N ring (k + 1) (us ++ [.slice (some ⟨kk, 0, none⟩) 2 2])) := by
          have up : ∀ cv cs, Lit (w9.alloc (.cells #[vI 0, vI 0, vI 0, .slice (some ⟨kk, 0, none⟩) 2 2] 32)) cv cs → Lit (w6.setCell ⟨X, 1, none⟩ (.slice (some ⟨g6, 0, none⟩) (k + 1) cap6)) cv cs := fun cv cs hl => by
            have l6 := hl.fr (grown_frL hgrow6) (fun q arr hq e => ty _ q arr hq HCz.out.row e)
            exact l6.fr fset (fun q arr hq e => by
              subst e
              rw [hb6] at hq
              injection hq with hq
              injection hq with _ hq
              cases hq)
          refine ⟨set_of hb6 1 _, ?_, by rw [List.length_append, HC9.out.ul]; rfl, fun i hi => ?_⟩
          · rw [List.flatMap_append]
            exact ownsRow_frL hown6 fset (fun q e e2 => by
              have k1 := (World.ownsRow.lt hown6 q e).1
              omega)
          · rw [List.length_append, List.length_singleton] at hi
            by_cases e : i < us.length
            · rw [List.getElem_append_left e]
              exact up _ _ (HCz.out.lit i e)
            · have ei : i = k := by have := HC9.out.ul; omega
              subst ei
              rw [List.getElem_append_right (by rw [HC9.out.ul]; exact Nat.le_refl _)]
              simp only [HC9.out.ul, Nat.sub_self, List.getElem_cons_zero]
              exact up _ _ HLz.out
        have HF7 : Hd (Fr (fun _ => False) w (w6.setCell ⟨X, 1, none⟩ (.slice (some ⟨g6, 0, none⟩) (k + 1) cap6))) := (HF9.out.then hfr (fun q hq e => by have := HGE.out q e; have := HX.out; omega)).then fset (fun q hq e => by have := HX.out; omega)
        have HS7 : Hd (X + 1 ≤ (w6.setCell ⟨X, 1, none⟩ (.slice (some ⟨g6, 0, none⟩) (k + 1) cap6)).heap.size) := by have := fset.size; have := hfr.size; have := HS9.out; unfold Hd; omega
        clear hown6 hgrow6 hat6 hlt6 HNW HSZ HBS HFz HCz HLz hfr hb6 fset ty cb zb
        go_wp2_with fail
        go_roundw
        case measure => simp; omega
        case rel => exact ⟨k + 1, _, _, by simp <;> omega, by omega, HC7.out, HF7.out, HS7.out⟩
      · have d2 : decide ((k : Int) + 1 < (N : Int)) = false := by simp; omega
        have d2n : ¬ k + 1 < N := hk1
        cases ring with
        | true =>
          have HCO : Hd (codeC N true k = [cI 0, bI]) := by unfold Hd codeC; rw [if_neg hk1]; rfl
          have HA2 : Hd (∀ W, Fr (fun _ => False) w1 W → Ch W (X + 1) X pv N true k us ∧ Fr (fun _ => False) w W ∧ X + 1 ≤ W.heap.size) := fun W f => ⟨HA1.out.1.stay f, HA1.out.2.1.trans f, Nat.le_trans HA1.out.2.2 f.size⟩
          go_wp2_with fail
          refine (lcall_any 0 _).mono ?_
          rintro e w2 ⟨rfl, hF2⟩
          have HF2 : Hd (Fr (fun _ => False) w1 w2) := ((Fr.refl (fun _ => False) w1).alloc _).trans hF2
          clear hF2
          go_wp2_with fail
          refine (back_any w2).mono ?_
          rintro e w3 ⟨rfl, hF3⟩
          have HA3 : Hd (Ch w3 (X + 1) X pv N true k us ∧ Fr (fun _ => False) w w3 ∧ X + 1 ≤ w3.heap.size) := HA2.out w3 (HF2.out.trans hF3)
          clear hF3 HF2 HA2 HA1
          go_upto_region 11 with fail
          obtain ⟨kk, hkk⟩ : ∃ kk, kk = w3.heap.size := ⟨_, rfl⟩
          have hb9 := heap_new0 w3 (.cells #[vI 11, vI 0, vI 0, vI 0, vI 0, .slice none 0 0, .slice none 0 0, vI 15, vI 0, vI 0, vI 0, vI 0, .slice none 0 0, .slice none 0 0] 27)
          have hG9 : Fr (fun _ => False) w3 (w3.alloc (.cells #[vI 11, vI 0, vI 0, vI 0, vI 0, .slice none 0 0, .slice none 0 0, vI 15, vI 0, vI 0, vI 0, vI 0, .slice none 0 0, .slice none 0 0] 27)) := (Fr.refl _ _).alloc _
          rw [← hkk] at hb9 ⊢
          generalize w3.alloc (.cells #[vI 11, vI 0, vI 0, vI 0, vI 0, .slice none 0 0, .slice none 0 0, vI 15, vI 0, vI 0, vI 0, vI 0, .slice none 0 0, .slice none 0 0] 27) = w9 at *
          have HC9 : Hd (Ch w9 (X + 1) X pv N true k us) := HA3.out.1.stay hG9
          have HF9 : Hd (Fr (fun _ => False) w w9) := HA3.out.2.1.trans hG9
          have HS9 : Hd (X + 1 ≤ w9.heap.size) := Nat.le_trans HA3.out.2.2 hG9.size
          have HL9 : Hd (Lit w9 (.slice (some ⟨kk, 0, none⟩) 2 2) (codeC N true k)) := by unfold Hd; rw [HCO.out]; exact lit_two hb9
          clear hb9 hG9 hkk
          obtain ⟨va, vc, ev⟩ := own_slice HC9.out.row
          subst ev
          have cb : w9.cell? ⟨X, 1, none⟩ = some (.slice va k vc) := by rw [cell_of0 HC9.out.blk]; rfl
          have zb : w9.frozen? ⟨X, 1, none⟩ = false := frozen_of HC9.out.blk 1
          have hCz : Fr (fun _ => False) w9 (w9.alloc (.cells #[vI 0, vI 0, vI 0, .slice (some ⟨kk, 0, none⟩) 2 2] 32)) := Fr.alloc (Fr.refl _ w9) _
          have HFz : Hd (Fr (fun _ => False) w9 (w9.alloc (.cells #[vI 0, vI 0, vI 0, .slice (some ⟨kk, 0, none⟩) 2 2] 32))) := hCz
          have HCz : Hd (Ch (w9.alloc (.cells #[vI 0, vI 0, vI 0, .slice (some ⟨kk, 0, none⟩) 2 2] 32)) (X + 1) X (.slice va k vc) N true k us) := HC9.out.stay hCz
          have HLz : Hd (Lit (w9.alloc (.cells #[vI 0, vI 0, vI 0, .slice (some ⟨kk, 0, none⟩) 2 2] 32)) (.slice (some ⟨kk, 0, none⟩) 2 2) (codeC N true k)) := HL9.out.fr hCz (fun _ _ _ e => e)
          have HNW : Hd (∀ j' u, [vI 0, vI 0, vI 0, Value.slice (some ⟨kk, 0, none⟩) 2 2][j']? = some u → (w9.alloc (.cells #[vI 0, vI 0, vI 0, .slice (some ⟨kk, 0, none⟩) 2 2] 32)).cell? ((⟨w9.heap.size, 0, none⟩ : Addr).add j') = some u) := World.news_of_block (w := w9.alloc (.cells #[vI 0, vI 0, vI 0, .slice (some ⟨kk, 0, none⟩) 2 2] 32)) (cs := #[vI 0, vI 0, vI 0, .slice (some ⟨kk, 0, none⟩) 2 2]) (heap_new0 w9 _)
          have HSZ : Hd ((w9.alloc (.cells #[vI 0, vI 0, vI 0, .slice (some ⟨kk, 0, none⟩) 2 2] 32)).heap.size = w9.heap.size + 1) := World.size_alloc _ _
          have HBS : Hd (X + 1 ≤ (w9.alloc (.cells #[vI 0, vI 0, vI 0, .slice (some ⟨kk, 0, none⟩) 2 2] 32)).heap.size) := by have := HSZ.out; have := HS9.out; unfold Hd; omega
          have HGE : Hd (∀ q, (Value.slice va k vc).ownBlock = some q → X + 1 ≤ q) := fun q e => (World.ownsRow.lt HC9.out.row q e).1
          clear hCz
          go_wp2_with ((at_builtin; refine Hd.out ?_))
          unfold Hd
          obtain ⟨i3, hi3, hz3, hs3, hb3⟩ := info_parts (P := Tryd.prog) (e := 32) (z := .agg #[vI 0, vI 0, vI 0, .slice none 0 0]) (size := 4) (bytes := 48) (by kernel_rfl)
          refine wpList_append_lies _ rfl (.tmp 39) (.tmp 42) 22 rfl (X + 1) 32 i3 (.agg #[vI 0, vI 0, vI 0, .slice none 0 0]) 4 48 under22' hi3 hz3 hs3 hb3 rfl (by omega) (.slice va k vc) k _ rfl HCz.out.row ⟨w9.heap.size, 0, none⟩ 1 1 [vI 0, vI 0, vI 0, .slice (some ⟨kk, 0, none⟩) 2 2] rfl rfl HNW.out (by intro u hu; simp at hu; rcases hu with rfl | rfl <;> rfl) (by omega) (by unfold maxLen; omega) (by omega) HBS.out (w9.heap.size + 1) (by simp) ?_
          intro g6 cap6 w6 hown6 hgrow6 hat6 hlt6
          clear hi3 hz3 hs3 hb3
          have hfr : Fr (fun q => (Value.slice va k vc).ownBlock = some q) w9 w6 := (HFz.out.mono (fun _ _ e => e.elim)).trans (grown_frL hgrow6)
          have hb6 : w6.heap[X]? = some (.cells #[vI 0, .slice va k vc] 24) := (hfr.block X (heap_lt0 HC9.out.blk) (fun e => by have := HGE.out X e; omega)).trans HC9.out.blk
          have c6 : w6.cell? ⟨X, 1, none⟩ = some (.slice va k vc) := by rw [cell_of0 hb6]; rfl
          have z6 : w6.frozen? ⟨X, 1, none⟩ = false := frozen_of hb6 1
          have fset := setCell_fr w6 X 1 (.slice (some ⟨g6, 0, none⟩) (k + 1) cap6)
          have ty : ∀ (W : World) (q : Nat) (arr : Array Value), W.heap[q]? = some (.cells arr 27) → W.ownsRow (X + 1) 32 4 (.slice va k vc) k (us.flatMap rowZ) → (Value.slice va k vc).ownBlock ≠ some q := fun W q arr h1 h2 e => by
            rcases h2.2 with ⟨e2, -⟩ | ⟨g, cap, cur, e2, -, k2, -⟩
            · rw [e2] at e; cases e
            · rw [e2] at e
              cases e
              rw [h1] at k2
              injection k2 with k2
              injection k2 with _ k2
              cases k2
          have HC7 : Hd (Ch (w6.setCell ⟨X, 1, none⟩ (.slice (some ⟨g6, 0, none⟩) (k + 1) cap6)) (X + 1) X (.slice (some ⟨g6, 0, none⟩) (k + 1) cap6) N true (k + 1) (us ++ [.slice (some ⟨kk, 0, none⟩) 2 2])) := by
            have up : ∀ cv cs, Lit (w9.alloc (.cells #[vI 0, vI 0, vI 0, .slice (some ⟨kk, 0, none⟩) 2 2] 32)) cv cs → Lit (w6.setCell ⟨X, 1, none⟩ (.slice (some ⟨g6, 0, none⟩) (k + 1) cap6)) cv cs := fun cv cs hl => by
              have l6 := hl.fr (grown_frL hgrow6) (fun q arr hq e => ty _ q arr hq HCz.out.row e)
              exact l6.fr fset (fun q arr hq e => by
                subst e
                rw [hb6] at hq
                injection hq with hq
                injection hq with _ hq
                cases hq)
            refine ⟨set_of hb6 1 _, ?_, by rw [List.length_append, HC9.out.ul]; rfl, fun i hi => ?_⟩
            · rw [List.flatMap_append]
              exact ownsRow_frL hown6 fset (fun q e e2 => by
                have k1 := (World.ownsRow.lt hown6 q e).1
                omega)
            · rw [List.length_append, List.length_singleton] at hi
              by_cases e : i < us.length
              · rw [List.getElem_append_left e]
                exact up _ _ (HCz.out.lit i e)
              · have ei : i = k := by have := HC9.out.ul; omega
                subst ei
                rw [List.getElem_append_right (by rw [HC9.out.ul]; exact Nat.le_refl _)]
                simp only [HC9.out.ul, Nat.sub_self, List.getElem_cons_zero]
                exact up _ _ HLz.out
          have HF7 : Hd (Fr (fun _ => False) w (w6.setCell ⟨X, 1, none⟩ (.slice (some ⟨g6, 0, none⟩) (k + 1) cap6))) := (HF9.out.then hfr (fun q hq e => by have := HGE.out q e; have := HX.out; omega)).then fset (fun q hq e => by have := HX.out; omega)
          have HS7 : Hd (X + 1 ≤ (w6.setCell ⟨X, 1, none⟩ (.slice (some ⟨g6, 0, none⟩) (k + 1) cap6)).heap.size) := by have := fset.size; have := hfr.size; have := HS9.out; unfold Hd; omega
          clear hown6 hgrow6 hat6 hlt6 HNW HSZ HBS HFz HCz HLz hfr hb6 fset ty cb zb
          go_wp2_with fail
          go_roundw
          case measure => simp; omega
          case rel => exact ⟨k + 1, _, _, by simp <;> omega, by omega, HC7.out, HF7.out, HS7.out⟩
        | false =>
          have HCO : Hd (codeC N false k = [bI]) := by unfold Hd codeC; rw [if_neg hk1]; rfl
          go_upto_region 11 with fail
          obtain ⟨kk, hkk⟩ : ∃ kk, kk = w1.heap.size := ⟨_, rfl⟩
          have hb9 := heap_new0 w1 (.cells #[vI 15, vI 0, vI 0, vI 0, vI 0, .slice none 0 0, .slice none 0 0] 27)
          have hG9 : Fr (fun _ => False) w1 (w1.alloc (.cells #[vI 15, vI 0, vI 0, vI 0, vI 0, .slice none 0 0, .slice none 0 0] 27)) := (Fr.refl _ _).alloc _
          rw [← hkk] at hb9 ⊢
          generalize w1.alloc (.cells #[vI 15, vI 0, vI 0, vI 0, vI 0, .slice none 0 0, .slice none 0 0] 27) = w9 at *
          have HC9 : Hd (Ch w9 (X + 1) X pv N false k us) := HA1.out.1.stay hG9
          have HF9 : Hd (Fr (fun _ => False) w w9) := HA1.out.2.1.trans hG9
          have HS9 : Hd (X + 1 ≤ w9.heap.size) := Nat.le_trans HA1.out.2.2 hG9.size
          have HL9 : Hd (Lit w9 (.slice (some ⟨kk, 0, none⟩) 1 1) (codeC N false k)) := by unfold Hd; rw [HCO.out]; exact lit_one hb9
          clear hb9 hG9 hkk
          obtain ⟨va, vc, ev⟩ := own_slice HC9.out.row
          subst ev
          have cb : w9.cell? ⟨X, 1, none⟩ = some (.slice va k vc) := by rw [cell_of0 HC9.out.blk]; rfl
          have zb : w9.frozen? ⟨X, 1, none⟩ = false := frozen_of HC9.out.blk 1
          have hCz : Fr (fun _ => False) w9 (w9.alloc (.cells #[vI 0, vI 0, vI 0, .slice (some ⟨kk, 0, none⟩) 1 1] 32)) := Fr.alloc (Fr.refl _ w9) _
          have HFz : Hd (Fr (fun _ => False) w9 (w9.alloc (.cells #[vI 0, vI 0, vI 0, .slice (some ⟨kk, 0, none⟩) 1 1] 32))) := hCz
          have HCz : Hd (Ch (w9.alloc (.cells #[vI 0, vI 0, vI 0, .slice (some ⟨kk, 0, none⟩) 1 1] 32)) (X + 1) X (.slice va k vc) N false k us) := HC9.out.stay hCz
          have HLz : Hd (Lit (w9.alloc (.cells #[vI 0, vI 0, vI 0, .slice (some ⟨kk, 0, none⟩) 1 1] 32)) (.slice (some ⟨kk, 0, none⟩) 1 1) (codeC N false k)) := HL9.out.fr hCz (fun _ _ _ e => e)
          have HNW : Hd (∀ j' u, [vI 0, vI 0, vI 0, Value.slice (some ⟨kk, 0, none⟩) 1 1][j']? = some u → (w9.alloc (.cells #[vI 0, vI 0, vI 0, .slice (some ⟨kk, 0, none⟩) 1 1] 32)).cell? ((⟨w9.heap.size, 0, none⟩ : Addr).add j') = some u) := World.news_of_block (w := w9.alloc (.cells #[vI 0, vI 0, vI 0, .slice (some ⟨kk, 0, none⟩) 1 1] 32)) (cs := #[vI 0, vI 0, vI 0, .slice (some ⟨kk, 0, none⟩) 1 1]) (heap_new0 w9 _)
          have HSZ : Hd ((w9.alloc (.cells #[vI 0, vI 0, vI 0, .slice (some ⟨kk, 0, none⟩) 1 1] 32)).heap.size = w9.heap.size + 1) := World.size_alloc _ _
          have HBS : Hd (X + 1 ≤ (w9.alloc (.cells #[vI 0, vI 0, vI 0, .slice (some ⟨kk, 0, none⟩) 1 1] 32)).heap.size) := by have := HSZ.out; have := HS9.out; unfold Hd; omega
          have HGE : Hd (∀ q, (Value.slice va k vc).ownBlock = some q → X + 1 ≤ q) := fun q e => (World.ownsRow.lt HC9.out.row q e).1
          clear hCz
          go_wp2_with ((at_builtin; refine Hd.out ?_))
          unfold Hd
          obtain ⟨i3, hi3, hz3, hs3, hb3⟩ := info_parts (P := Tryd.prog) (e := 32) (z := .agg #[vI 0, vI 0, vI 0, .slice none 0 0]) (size := 4) (bytes := 48) (by kernel_rfl)
          refine wpList_append_lies _ rfl (.tmp 39) (.tmp 42) 22 rfl (X + 1) 32 i3 (.agg #[vI 0, vI 0, vI 0, .slice none 0 0]) 4 48 under22' hi3 hz3 hs3 hb3 rfl (by omega) (.slice va k vc) k _ rfl HCz.out.row ⟨w9.heap.size, 0, none⟩ 1 1 [vI 0, vI 0, vI 0, .slice (some ⟨kk, 0, none⟩) 1 1] rfl rfl HNW.out (by intro u hu; simp at hu; rcases hu with rfl | rfl <;> rfl) (by omega) (by unfold maxLen; omega) (by omega) HBS.out (w9.heap.size + 1) (by simp) ?_
          intro g6 cap6 w6 hown6 hgrow6 hat6 hlt6
          clear hi3 hz3 hs3 hb3
          have hfr : Fr (fun q => (Value.slice va k vc).ownBlock = some q) w9 w6 := (HFz.out.mono (fun _ _ e => e.elim)).trans (grown_frL hgrow6)
          have hb6 : w6.heap[X]? = some (.cells #[vI 0, .slice va k vc] 24) := (hfr.block X (heap_lt0 HC9.out.blk) (fun e => by have := HGE.out X e; omega)).trans HC9.out.blk
          have c6 : w6.cell? ⟨X, 1, none⟩ = some (.slice va k vc) := by rw [cell_of0 hb6]; rfl
          have z6 : w6.frozen? ⟨X, 1, none⟩ = false := frozen_of hb6 1
          have fset := setCell_fr w6 X 1 (.slice (some ⟨g6, 0, none⟩) (k + 1) cap6)
          have ty : ∀ (W : World) (q : Nat) (arr : Array Value), W.heap[q]? = some (.cells arr 27) → W.ownsRow (X + 1) 32 4 (.slice va k vc) k (us.flatMap rowZ) → (Value.slice va k vc).ownBlock ≠ some q := fun W q arr h1 h2 e => by
            rcases h2.2 with ⟨e2, -⟩ | ⟨g, cap, cur, e2, -, k2, -⟩
            · rw [e2] at e; cases e
            · rw [e2] at e
              cases e
              rw [h1] at k2
              injection k2 with k2
              injection k2 with _ k2
              cases k2
          have HC7 : Hd (Ch (w6.setCell ⟨X, 1, none⟩ (.slice (some ⟨g6, 0, none⟩) (k + 1) cap6)) (X + 1) X (.slice (some ⟨g6, 0, none⟩) (k + 1) cap6) N false (k + 1) (us ++ [.slice (some ⟨kk, 0, none⟩) 1 1])) := by
            have up : ∀ cv cs, Lit (w9.alloc (.cells #[vI 0, vI 0, vI 0, .slice (some ⟨kk, 0, none⟩) 1 1] 32)) cv cs → Lit (w6.setCell ⟨X, 1, none⟩ (.slice (some ⟨g6, 0, none⟩) (k + 1) cap6)) cv cs := fun cv cs hl => by
              have l6 := hl.fr (grown_frL hgrow6) (fun q arr hq e => ty _ q arr hq HCz.out.row e)
              exact l6.fr fset (fun q arr hq e => by
                subst e
                rw [hb6] at hq
                injection hq with hq
                injection hq with _ hq
                cases hq)
            refine ⟨set_of hb6 1 _, ?_, by rw [List.length_append, HC9.out.ul]; rfl, fun i hi => ?_⟩
            · rw [List.flatMap_append]
              exact ownsRow_frL hown6 fset (fun q e e2 => by
                have k1 := (World.ownsRow.lt hown6 q e).1
                omega)
            · rw [List.length_append, List.length_singleton] at hi
              by_cases e : i < us.length
              · rw [List.getElem_append_left e]
                exact up _ _ (HCz.out.lit i e)
              · have ei : i = k := by have := HC9.out.ul; omega
                subst ei
                rw [List.getElem_append_right (by rw [HC9.out.ul]; exact Nat.le_refl _)]
                simp only [HC9.out.ul, Nat.sub_self, List.getElem_cons_zero]
                exact up _ _ HLz.out
          have HF7 : Hd (Fr (fun _ => False) w (w6.setCell ⟨X, 1, none⟩ (.slice (some ⟨g6, 0, none⟩) (k + 1) cap6))) := (HF9.out.then hfr (fun q hq e => by have := HGE.out q e; have := HX.out; omega)).then fset (fun q hq e => by have := HX.out; omega)
          have HS7 : Hd (X + 1 ≤ (w6.setCell ⟨X, 1, none⟩ (.slice (some ⟨g6, 0, none⟩) (k + 1) cap6)).heap.size) := by have := fset.size; have := hfr.size; have := HS9.out; unfold Hd; omega
          clear hown6 hgrow6 hat6 hlt6 HNW HSZ HBS HFz HCz HLz hfr hb6 fset ty cb zb
          go_wp2_with fail
          go_roundw
          case measure => simp; omega
          case rel => exact ⟨k + 1, _, _, by simp <;> omega, by omega, HC7.out, HF7.out, HS7.out⟩
    · have hkN : k = N := by omega
      have d1 : decide ((k : Int) < (N : Int)) = false := by simp; omega
      have d1n : ¬ k < N := hlt
      have hfa : FA wr pv (chF N ring N) := by have := HC.out.fa; rw [hkN] at this; exact this
      have HNW : Hd (Calls Tryd.prog 10 #[.agg #[vI 0, pv]] wr (NwE 0 (chF N ring N) wr)) := new_any 0 (chF N ring N) pv wr hfa (fine_chain N ring N hN2) (HT.out.1.fr HF.out (fun e => e)) (Nat.lt_of_lt_of_le HT.out.2 HF.out.size)
      obtain ⟨pa, pc, epv⟩ := own_slice HC.out.row
      subst epv
      have c0 : wr.cell? ⟨X, 0, none⟩ = some (vI 0) := by rw [cell_of0 HC.out.blk]; rfl
      have c1 : wr.cell? ⟨X, 1, none⟩ = some (.slice pa k pc) := by rw [cell_of0 HC.out.blk]; rfl
      obtain ⟨M, hM⟩ : ∃ M, N = M + 1 := ⟨N - 1, by omega⟩
      have qM : (N : Int) - 1 = (M : Int) := by omega
      have qMw : wrap64 (M : Int) = (M : Int) := w64s (M : Int) (by omega) (by omega)
      have qMv : IntKind.i64.wrap (M : Int) = (M : Int) := wrap_small _ (by omega) (by omega)
      have HKM : Hd (N = M + 1) := hM
      have HHN : Hd (1 ≤ N ∧ N ≤ 65535) := ⟨hN1, hN2⟩
      clear hfa hlt hM hkN hN b1 b2 hb1 hb2 HT
      go_wp2_with fail
      refine Calls.mono HNW.out ?_
      rintro e w2 ⟨hF2, hcase⟩
      rcases hcase with ⟨hne, -⟩ | ⟨-, b, n, of, rfl, hgr, hgp, hnN⟩
      · exact absurd (chain_check N ring hN1 hN2) hne
      obtain ⟨go, gm, ge, gr, mv, ev, rv, -, -, -, -, -, hga⟩ := hgr
      rw [chF_len] at hga hgp hnN
      have hclr : ∀ f, f < N → clX (chF N ring N) f = chC N ring f := fun f hf => chF_cl hf
      have HF2 : Hd (Fr (fun _ => False) w w2) := HF.out.trans hF2
      have e1 : (binOp .eql 33 (.pointer (some ⟨b, 0, none⟩)) (.pointer none)).run Tryd.prog w2 = .ok (.bool false) w2 := by first | rfl | kernel_rfl
      generalize clX (chF N ring N) = cl at *
      have HGA : Hd (∀ W, Fr (fun _ => False) w2 W → GA W wr.heap.size b go gm ge gr N n mv ev rv of cl) := fun W f => hga.stay f
      have HG : Hd (Gp N cl n of ∧ n ≤ N ∧ ∀ f, f < N → cl f = chC N ring f) := ⟨hgp, hnN, hclr⟩
      clear hga hF2 HNW c0 c1 HC HF HS hgp hnN hclr d1 d1n hk hN1 hN2
      cases ring with
      | true =>
        obtain ⟨n1, ho, hm, hce, hcr⟩ := ring_graph HG.out.1 (by have := HHN.out; omega) HG.out.2.2
        have HMB : Hd (Calls Tryd.prog 11 #[.pointer (some ⟨b, 0, none⟩), vI 0] w2 fun e w' => ∃ v', e = .returned v' ∧ IOwn w' w2.heap.size v' (zL (List.range N)) ∧ Fr (fun _ => False) w2 w') := by
          have := members_any 0 (HGA.out w2 (Fr.refl _ _)) (by omega) (by omega) (by have := HHN.out; omega)
          rw [hm] at this
          exact this
        have HLN : Hd (∀ W, Fr (fun _ => False) w2 W → Calls Tryd.prog 12 #[.pointer (some ⟨b, 0, none⟩)] W fun e w' => e = .returned (vI 1) ∧ w' = W) := fun W f => by
          have := glen_any W (HGA.out W f) (by omega)
          rw [n1] at this
          exact this
        have HOF : Hd (∀ W, Fr (fun _ => False) w2 W → Calls Tryd.prog 13 #[.pointer (some ⟨b, 0, none⟩), vI ((N / 2 : Nat) : Int)] W fun e w' => e = .returned (vI 0) ∧ w' = W) := fun W f => by
          have := of_any (N / 2) (HGA.out W f) (by have := HHN.out; omega) (by have := HHN.out; omega)
          rw [ho (N / 2) (by have := HHN.out; omega)] at this
          exact this
        have HCE : Hd (∀ W, Fr (fun _ => False) w2 W → Calls Tryd.prog 14 #[.pointer (some ⟨b, 0, none⟩), vI 0] W fun e w' => ∃ v', e = .returned v' ∧ IOwn w' W.heap.size v' (zL []) ∧ Fr (fun _ => False) W w') := fun W f => by
          have := callees_any 0 (HGA.out W f) (by omega) (by omega) (by have := HHN.out; omega)
          rw [hce] at this
          exact this
        have HCR : Hd (∀ W, Fr (fun _ => False) w2 W → Calls Tryd.prog 15 #[.pointer (some ⟨b, 0, none⟩), vI 0] W fun e w' => ∃ v', e = .returned v' ∧ IOwn w' W.heap.size v' (zL []) ∧ Fr (fun _ => False) W w') := fun W f => by
          have := callers_any 0 (HGA.out W f) (by omega) (by omega) (by have := HHN.out; omega)
          rw [hcr] at this
          exact this
        obtain ⟨K2, hK2⟩ : ∃ K2, K2 = N / 2 := ⟨_, rfl⟩
        rw [← hK2] at HOF
        have q2 : (N : Int).tdiv 2 = (K2 : Int) := by rw [hK2]; rfl
        have q2' : (N : Int) / 2 = (K2 : Int) := by rw [hK2]; rfl
        have q2w : wrap64 (K2 : Int) = (K2 : Int) := w64s (K2 : Int) (by omega) (by have := HHN.out; omega)
        have q2v : IntKind.i64.wrap (K2 : Int) = (K2 : Int) := wrap_small _ (by omega) (by have := HHN.out; omega)
        clear HG n1 ho hm hce hcr hK2 HGA
        go_wp2_with fail
        refine Calls.mono HMB.out ?_
        rintro e w3 ⟨v3, rfl, ho3, hF3⟩
        have hl3 : (zL (List.range N)).length = N := by simp
        obtain ⟨g3, c3, ev3, -, hc3⟩ := iown_some ho3 (by rw [hl3]; have := HHN.out; omega)
        rw [hl3] at ev3
        subst ev3
        have p3 : w3.cell? ⟨g3, M, none⟩ = some (vI (M : Int)) := by
          rw [hc3 M (by rw [hl3]; have := HKM.out; omega)]
          simp
        have M0 : (0 : Int) ≤ M := by omega
        have M1 : (M : Int) < (N : Int) := by have := HKM.out; omega
        have HF3 : Hd (Fr (fun _ => False) w2 w3) := hF3
        clear ho3 hF3 hl3 hc3 HMB
        go_wp2_with fail
        refine Calls.mono (HLN.out w3 HF3.out) ?_
        rintro e w4 ⟨rfl, rfl⟩
        clear HLN
        go_wp2_with fail
        refine Calls.mono (HOF.out w4 HF3.out) ?_
        rintro e w5 ⟨rfl, rfl⟩
        clear HOF
        go_wp2_with fail
        refine Calls.mono (HCE.out w5 HF3.out) ?_
        rintro e w6 ⟨v6, rfl, ho6, hF6⟩
        obtain ⟨a6, c6, ev6⟩ := iown_cap ho6
        have ev6' : v6 = .slice a6 0 c6 := ev6
        subst ev6'
        have HF6 : Hd (Fr (fun _ => False) w2 w6) := HF3.out.trans hF6
        clear ho6 hF6 ev6 HCE
        go_wp2_with fail
        refine Calls.mono (HCR.out w6 HF6.out) ?_
        rintro e w7 ⟨v7, rfl, ho7, hF7⟩
        obtain ⟨a7, c7, ev7⟩ := iown_cap ho7
        have ev7' : v7 = .slice a7 0 c7 := ev7
        subst ev7'
        have HF7 : Hd (Fr (fun _ => False) w w7) := HF2.out.trans (HF6.out.trans hF7)
        clear ho7 hF7 ev7 HCR
        go_wp2_with fail
        go_ret
        exact ⟨rfl, HF7.out⟩
      | false =>
        obtain ⟨n1, ho, hl⟩ := chain_graph HG.out.1 (by have := HHN.out; omega) HG.out.2.1 HG.out.2.2
        have ho0 : of 0 = M := by have := ho 0 (by have := HHN.out; omega); have := HKM.out; omega
        have hoM : of M = 0 := by have := ho M (by have := HKM.out; omega); have := HKM.out; omega
        have hnN : n = N := n1
        have HCE : Hd (Calls Tryd.prog 14 #[.pointer (some ⟨b, 0, none⟩), vI (M : Int)] w2 fun e w' => ∃ v', e = .returned v' ∧ IOwn w' w2.heap.size v' (zL (cleX N n of cl M)) ∧ Fr (fun _ => False) w2 w') :=
          callees_any M (HGA.out w2 (Fr.refl _ _)) (by have := HKM.out; omega) (by have := HHN.out; omega) (by have := HHN.out; omega)
        have HCR : Hd (∀ W, Fr (fun _ => False) w2 W → Calls Tryd.prog 15 #[.pointer (some ⟨b, 0, none⟩), vI 0] W fun e w' => ∃ v', e = .returned v' ∧ IOwn w' W.heap.size v' (zL (clrX N n of cl 0)) ∧ Fr (fun _ => False) W w') := fun W f =>
          callers_any 0 (HGA.out W f) (by have := HHN.out; omega) (by have := HHN.out; omega) (by have := HHN.out; omega)
        have HLN : Hd (∀ W, Fr (fun _ => False) w2 W → Calls Tryd.prog 12 #[.pointer (some ⟨b, 0, none⟩)] W fun e w' => e = .returned (vI (N : Int)) ∧ w' = W) := fun W f => by
          have := glen_any W (HGA.out W f) (by have := HHN.out; omega)
          rw [n1] at this
          exact this
        have HOA : Hd (∀ W, Fr (fun _ => False) w2 W → Calls Tryd.prog 13 #[.pointer (some ⟨b, 0, none⟩), vI 0] W fun e w' => e = .returned (vI (M : Int)) ∧ w' = W) := fun W f => by
          have := of_any 0 (HGA.out W f) (by have := HHN.out; omega) (by have := HHN.out; omega)
          rw [ho0] at this
          exact this
        have HOB : Hd (∀ W, Fr (fun _ => False) w2 W → Calls Tryd.prog 13 #[.pointer (some ⟨b, 0, none⟩), vI (M : Int)] W fun e w' => e = .returned (vI 0) ∧ w' = W) := fun W f => by
          have := of_any M (HGA.out W f) (by have := HKM.out; omega) (by have := HHN.out; omega)
          rw [hoM] at this
          exact this
        have HL : Hd (1 < N → zL (cleX N n of cl M) = [((N - 2 : Nat) : Int)] ∧ zL (clrX N n of cl 0) = [1]) := fun h1 => by
          obtain ⟨k1, k2⟩ := hl h1
          have eM : M = N - 1 := by have := HKM.out; omega
          rw [hnN, eM, k1, k2]
          exact ⟨rfl, rfl⟩
        clear HG n1 ho hl ho0 hoM hnN HGA
        go_wp2_with fail
        refine Calls.mono HCE.out ?_
        rintro e w3 ⟨v3, rfl, ho3, hF3⟩
        have HF3 : Hd (Fr (fun _ => False) w2 w3) := hF3
        obtain ⟨a3, c3, ev3⟩ := iown_cap ho3
        subst ev3
        have HO3 : Hd (IOwn w3 w2.heap.size (.slice a3 (zL (cleX N n of cl M)).length c3) (zL (cleX N n of cl M))) := ho3
        clear ho3 hF3 HCE
        generalize zL (cleX N n of cl M) = l3 at *
        go_wp2_with fail
        refine Calls.mono (HCR.out w3 HF3.out) ?_
        rintro e w4 ⟨v4, rfl, ho4, hF4⟩
        obtain ⟨a4, c4, ev4⟩ := iown_cap ho4
        subst ev4
        have HO4 : Hd (IOwn w4 w3.heap.size (.slice a4 (zL (clrX N n of cl 0)).length c4) (zL (clrX N n of cl 0))) := ho4
        have HF4 : Hd (Fr (fun _ => False) w3 w4) := hF4
        clear ho4 hF4 HCR
        generalize zL (clrX N n of cl 0) = l4 at *
        go_wp2_with fail
        refine Calls.mono (HLN.out w4 (HF3.out.trans HF4.out)) ?_
        rintro e w5 ⟨rfl, rfl⟩
        clear HLN
        go_wp2_with fail
        refine Calls.mono (HOA.out w5 (HF3.out.trans HF4.out)) ?_
        rintro e w6 ⟨rfl, rfl⟩
        clear HOA
        go_wp2_with fail
        refine Calls.mono (HOB.out w6 (HF3.out.trans HF4.out)) ?_
        rintro e w7 ⟨rfl, rfl⟩
        clear HOB
        have HFZ : Hd (Fr (fun _ => False) w w7) := HF2.out.trans (HF3.out.trans HF4.out)
        by_cases hN1c : N = 1
        · have e1 : ((N : Int) == 1) = true := by simp [hN1c]
          have e1n : N = 1 := hN1c
          clear hN1c HO3 HO4 HL HF3 HF4 HKM HHN
          have e1p : decide (N = 1) = true := by simp [e1n]
          clear e1n
          go_wp2_with fail
          go_ret
          exact ⟨rfl, HFZ.out⟩
        · have e1 : ((N : Int) == 1) = false := by simp; omega
          have e1n : ¬ N = 1 := hN1c
          obtain ⟨k3, k4⟩ := HL.out (by have := HHN.out; omega)
          subst k3 k4
          obtain ⟨g3, c3', ev3, -, hc3⟩ := iown_some HO3.out (by simp)
          obtain ⟨g4, c4', ev4, -, hc4⟩ := iown_some HO4.out (by simp)
          cases ev3
          cases ev4
          obtain ⟨L, hL⟩ : ∃ L : Nat, L = N - 2 := ⟨_, rfl⟩
          have p3 : w7.cell? ⟨g3, 0, none⟩ = some (vI (L : Int)) := by
            rw [HF4.out.cell (HO3.out.ge g3 rfl).2 (fun e => e), hc3 0 (by simp), hL]
            rfl
          have p4 : w7.cell? ⟨g4, 0, none⟩ = some (vI 1) := by
            rw [hc4 0 (by simp)]
            rfl
          have qL : (N : Int) - 2 = (L : Int) := by have := HHN.out; omega
          have qLw : wrap64 (L : Int) = (L : Int) := w64s (L : Int) (by omega) (by have := HHN.out; omega)
          have qLv : IntKind.i64.wrap (L : Int) = (L : Int) := wrap_small _ (by omega) (by have := HHN.out; omega)
          clear hN1c HO3 HO4 HL HF3 HF4 hc3 hc4 hL HKM HHN
          go_wp2_with fail
          go_ret
          exact ⟨rfl, HFZ.out⟩
end Go.Proofs.YtjmbfjaahadbhaaDoor
