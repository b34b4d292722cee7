import Derived.Test.YtcjfmfddkhpfnaaQA8J
namespace Go.Proofs.Ytcjfmfddkhpfnaa
open Go.RowKit (wrap32 wrap64)
set_option linter.unusedVariables false
set_option linter.unusedSimpArgs false

/-- The derefs of a chain. -/
def dz (D : List Int) (i : Nat) : Int := D.getD i 0 % 5 - 1
def chW (D : List Int) : Nat → Int
  | 0 => 0
  | i + 1 => plusX (chW D i) (dz D i)
def chE (D : List Int) (k : Nat) : List Ed := (List.range k).map fun i : Nat => ((i : Int), ((i + 1 : Nat) : Int), dz D i)
def chL (D : List Int) (k : Nat) : List Int := (List.range (k + 1)).map (chW D)
theorem chE_len (D : List Int) (k : Nat) : (chE D k).length = k := by simp [chE]
theorem chL_len (D : List Int) (k : Nat) : (chL D k).length = k + 1 := by simp [chL]
theorem chE_succ (D : List Int) (k : Nat) : chE D (k + 1) = chE D k ++ [((k : Int), ((k + 1 : Nat) : Int), dz D k)] := by simp [chE, List.range_succ]
theorem chL_succ (D : List Int) (k : Nat) : chL D (k + 1) = chL D k ++ [plusX (chW D k) (dz D k)] := by
  simp only [chL]
  rw [List.range_succ (n := k + 1), List.map_append]
  rfl
theorem dz_flows (D : List Int) (i : Nat) : flowsX (dz D i) = true := by
  unfold dz flowsX
  simp
  omega
theorem ch_right (D : List Int) (k : Nat) (hk : k ≤ 1048575) : RightG ((k + 1 : Nat) : Int) (chE D k) [0] := by
  refine ⟨by omega, fun e he => ?_, fun r hr => ?_⟩
  · simp only [chE, List.mem_map, List.mem_range] at he
    obtain ⟨i, hi, rfl⟩ := he
    refine ⟨?_, ?_, dz_flows D i⟩
    · simp only; omega
    · simp only; omega
  · simp at hr
    omega
theorem ch_least (D : List Int) (k : Nat) : Least (k + 1) (chE D k) [0] (chW D) := by
  refine ⟨fun r hr => ?_, fun d s q he => ?_, fun i hi => ?_⟩
  · simp at hr
    subst hr
    exact Int.le_refl _
  · simp only [chE, List.mem_map, List.mem_range, Prod.mk.injEq] at he
    obtain ⟨i, hi, h1, h2, h3⟩ := he
    obtain rfl : d = i := by omega
    obtain rfl : s = d + 1 := by omega
    subst h3
    exact Int.le_refl _
  · refine Or.inr ?_
    induction i with
    | zero => exact .root (by simp)
    | succ i ih =>
      have := ih (by omega)
      exact .step (e := ((i : Int), ((i + 1 : Nat) : Int), dz D i)) (by simp only [chE, List.mem_map, List.mem_range]; exact ⟨i, by omega, rfl⟩) this

theorem under24' : Try.prog.underlying 24 = some (.slice 27) := under24

set_option maxRecDepth 100000 in
set_option maxHeartbeats 4000000 in
/-- The rest of WeighChain, of a list that is not too long. -/
theorem chain_walk (v : Value) (zs : List Int) (w : World) (hv : IntsAt w.heap.size w v zs) (hzl : zs.length ≤ 100000000000000) :
    Calls Try.prog 3 #[v] w fun e w' => e = .returned (.bool true) ∧ Fr (fun _ => False) w w' := by
  obtain ⟨a0, c0, rfl, hcap, hin⟩ := hv
  have HIN : Hd _ := hin
  clear hin
  obtain ⟨i27, hi27, hz27, hs27, hb27⟩ := info_parts (P := Try.prog) (e := 27) (z := .agg #[vI 0, vI 0, vI 0]) (size := 3) (bytes := 24) (by kernel_rfl)
  obtain ⟨i3, hi3, hz3, hs3, hb3⟩ := info_parts (P := Try.prog) (e := 3) (z := .int .i64 0) (size := 1) (bytes := 8) (by kernel_rfl)
  go_enter Try.func3, Try.ntmps3
  go_wp2_with fail
  refine (fixed_any w).mono ?_
  rintro e w1 ⟨rfl, hF1⟩
  have HF1 : Hd (Fr (fun _ => False) w w1) := hF1
  clear hF1
  by_cases hbig : 1048575 < zs.length
  · have hdec : decide (1048575 < (zs.length : Int)) = true := by simp; omega
    obtain ⟨D, hD⟩ : ∃ D, D = zs.take 1048575 := ⟨_, rfl⟩
    have hN : (1048575 : Nat) ≤ 1048575 := Nat.le_refl _
    have HIN2 : Hd (0 < 1048575 → ∃ k o, a0 = some ⟨k, o, none⟩ ∧ k < w.heap.size ∧ ∀ i, i < 1048575 → w.cell? ⟨k, o + i, none⟩ = some (vI (D.getD i 0))) := fun _ => by
      obtain ⟨k, o, h1, h2, h3⟩ := HIN.out (by intro e; simp [e] at hbig)
      refine ⟨k, o, h1, h2, fun i hi => ?_⟩
      rw [h3 i (by omega), hD, List.getD_eq_getElem?_getD, List.getElem?_take, if_pos hi, List.getElem?_eq_getElem (by omega)]
      rfl
    have hsl : (1048575 : Int) ≤ c0 := by omega
    clear HIN hD
    go_wp2_with fail
    have HW0 : Hd (OwnI (w1.alloc (.cells #[vI 0] 3)) w.heap.size (.slice (some ⟨w1.heap.size, 0, none⟩) 1 1) (chL D 0)) := World.ownsRow_lit w1 #[vI 0] 1 HF1.out.size (by decide) rfl
    have HFa : Hd (Fr (fun _ => False) w (w1.alloc (.cells #[vI 0] 3))) := HF1.out.alloc _
    clear HF1
    go_loopw [4, 5, 6] (fun ev wv iv wr => ∃ (k : Nat), iv = .int .i64 k ∧ k ≤ 1048575 ∧ Hd (OwnE wr w.heap.size ev (chE D k)) ∧ Hd (OwnI wr w.heap.size wv (chL D k)) ∧ Hd (Apt ev wv) ∧ Hd (Fr (fun _ => False) w wr)) (fun _ _ v _ => match v with | .int _ q => 1048575 - q.toNat | _ => 0)
    case atStart => exact ⟨0, rfl, Nat.zero_le _, OwnE.nil _ _, HW0.out, Apt.nil _, HFa.out⟩
    case round =>
      obtain ⟨k, rfl, hk, HE, HW, HA, HF⟩ := hrel
      clear HW0 HFa
      by_cases hlt : k < 1048575
      · obtain ⟨pk, po, rfl, hpk, hcs⟩ := HIN2.out (by omega)
        have p0 := (HF.out.cell (o := po + k) hpk (fun h => h)).trans (hcs k hlt)
        clear hcs
        have HD : Hd (D.getD k 0 % 5 = dz D k + 1) := by unfold Hd dz; omega
        have m5 : ∀ v : World, Calls Try.prog 10 #[vI (D.getD k 0), .int .i64 5] v fun e w' => e = .returned (vI (dz D k + 1)) ∧ w' = v := fun v => by
          have := mod_any (D.getD k 0) 5 (by omega) (by omega) v
          rw [show D.getD k 0 % ((5 : Nat) : Int) = dz D k + 1 from HD.out] at this
          exact this
        generalize D.getD k 0 = z at *
        have hfl := dz_flows D k
        simp only [flowsX, decide_eq_true_eq] at hfl
        have hk0 : (0 : Int) ≤ k := by omega
        have hk1 : (k : Int) < 1048575 := by omega
        have HES : Hd (chE D (k + 1) = chE D k ++ [((k : Int), ((k + 1 : Nat) : Int), dz D k)]) := chE_succ D k
        have HLS : Hd (chL D (k + 1) = chL D k ++ [plusX (chW D k) (dz D k)]) := chL_succ D k
        have hle := chE_len D k
        have hll := chL_len D k
        have HLE : Hd ((chE D k).length = k) := hle
        have HLL : Hd ((chL D k).length = k + 1) := hll
        have HCW : Hd ((chL D k)[k]? = some (chW D k)) := by unfold Hd chL; simp
        clear hle hll HD
        generalize dz D k = d at *
        generalize chW D k = cw at *
        generalize chE D k = E at *
        generalize chL D k = Lk at *
        go_wp2_with fail
        refine (m5 _).mono ?_
        rintro e w2 ⟨rfl, rfl⟩
        have hsz := HF.out.size
        have hdw : wrap64 (d + 1 - 1) = d := by unfold wrap64; omega
        have hdw' : d + 1 - 1 = d := by omega
        have HE1 : Hd ((w2.alloc (.cells #[vI k, vI (k + 1), vI d] 27)).ownsRow w.heap.size 27 3 u4 E.length (eCells E)) := World.ownsRow.alloc HE.out _
        have hnews : ∀ j u, [vI k, vI (k + 1), vI d][j]? = some u → (w2.alloc (.cells #[vI k, vI (k + 1), vI d] 27)).cell? ((⟨w2.heap.size, 0, none⟩ : Addr).add j) = some u :=
          World.news_of_block (cs := #[vI k, vI (k + 1), vI d]) (heap_alloc_last w2 (.cells #[vI k, vI (k + 1), vI d] 27))
        have hbase : w.heap.size ≤ (w2.alloc (.cells #[vI k, vI (k + 1), vI d] 27)).heap.size := by simp; omega
        have hNE : E.length + 1 ≤ 1048577 := by have := HLE.out; omega
        go_wp2_with ((at_builtin; refine Hd.out ?_))
        unfold Hd
        refine wpList_append_lies _ rfl (.tmp 30) (.tmp 36) 24 rfl w.heap.size 27 i27 (.agg #[vI 0, vI 0, vI 0]) 3 24 under24 hi27 hz27 hs27 hb27 rfl (by omega) u4 E.length _ rfl HE1.out ⟨w2.heap.size, 0, none⟩ 1 1 [vI k, vI (k + 1), vI d] rfl rfl hnews (by intro u hu; simp at hu; rcases hu with rfl | rfl | rfl <;> rfl) (by omega) (by unfold maxLen; omega) (by omega) hbase (w2.heap.size + 1) (by simp) ?_
        intro g6 cap6 w6 hown6 hgrow6 hat6 hlt6
        have HE6 : Hd (OwnE w6 w.heap.size (.slice (some ⟨g6, 0, none⟩) (E.length + 1) cap6) (E ++ [((k : Int), ((k + 1 : Nat) : Int), d)])) := OwnE.of (e := ((k : Int), ((k + 1 : Nat) : Int), d)) hown6
        have hfa : Fr (fun _ => False) w2 (w2.alloc (.cells #[vI k, vI (k + 1), vI d] 27)) := (Fr.refl _ w2).alloc _
        have HW6 : Hd (OwnI w6 w.heap.size u5 Lk) := grow_keepI (HW.out.fr hfa (fun _ _ h => h)) hgrow6 HA.out
        have HA6 : Hd (Apt (.slice (some ⟨g6, 0, none⟩) (E.length + 1) cap6) u5) := grow_apt (w := w2) HA.out hat6 (fun k hk => (HW.out.ge k hk).2) (by omega)
        have HF6 : Hd (Fr (fun _ => False) w w6) := grow_fr0 (HF.out.alloc _) hgrow6 (fun k hk => (HE.out.ge k hk).1)
        clear hown6 hgrow6 hat6 hlt6 HE HW HA HF HE1 hnews hbase hfa
        obtain ⟨wa, wc, rfl⟩ := HW6.out.shape
        have hWA := HW6.out.at
        obtain ⟨a5, c5, e5, -, h5⟩ := hWA
        obtain ⟨g5, o5, e5', -, hc5⟩ := h5 (by intro e; have := HLL.out; rw [e] at this; simp at this)
        have hkl : k < Lk.length := by have := HLL.out; omega
        cases e5
        subst e5'
        have q5 := hc5 k hkl
        rw [show Lk[k] = cw by have := HCW.out; rw [List.getElem?_eq_getElem hkl] at this; exact Option.some.inj this] at q5
        have hkl1 : (k : Int) < Lk.length := by omega
        have hb5 : o5 = 0 ∨ True := Or.inr trivial
        clear h5 hc5 hb5
        go_wp2_with fail
        refine (plus_any cw d w6).mono ?_
        rintro e w7 ⟨rfl, rfl⟩
        obtain ⟨pw, hpw⟩ : ∃ pw, pw = plusX cw d := ⟨_, rfl⟩
        rw [← hpw] at HLS ⊢
        clear hpw
        have hsz7 := HF6.out.size
        have HW7 : Hd ((w7.alloc (.cells #[vI pw] 3)).ownsRow w.heap.size 3 1 (.slice (some ⟨g5, o5, none⟩) Lk.length wc) Lk.length (Lk.map vI)) := World.ownsRow.alloc HW6.out _
        have hnews7 : ∀ j u, [vI pw][j]? = some u → (w7.alloc (.cells #[vI pw] 3)).cell? ((⟨w7.heap.size, 0, none⟩ : Addr).add j) = some u :=
          World.news_of_block (cs := #[vI pw]) (heap_alloc_last w7 (.cells #[vI pw] 3))
        have hbase7 : w.heap.size ≤ (w7.alloc (.cells #[vI pw] 3)).heap.size := by simp; omega
        have hNL : Lk.length + 1 ≤ 1048578 := by have := HLL.out; omega
        go_wp2_with ((at_builtin; refine Hd.out ?_))
        unfold Hd
        refine wpList_append_lies _ rfl (.tmp 38) (.tmp 45) 22 rfl w.heap.size 3 i3 (.int .i64 0) 1 8 under22 hi3 hz3 hs3 hb3 rfl (by omega) (.slice (some ⟨g5, o5, none⟩) Lk.length wc) Lk.length _ rfl HW7.out ⟨w7.heap.size, 0, none⟩ 1 1 [vI pw] rfl rfl hnews7 (by intro u hu; simp at hu; subst hu; rfl) (by omega) (by unfold maxLen; omega) (by omega) hbase7 (w7.heap.size + 1) (by simp) ?_
        intro g8 cap8 w8 hown8 hgrow8 hat8 hlt8
        have HW8 : Hd (OwnI w8 w.heap.size (.slice (some ⟨g8, 0, none⟩) (Lk.length + 1) cap8) (Lk ++ [pw])) := OwnI.of hown8
        have hfa : Fr (fun _ => False) w7 (w7.alloc (.cells #[vI pw] 3)) := (Fr.refl _ w7).alloc _
        have HE8 : Hd (OwnE w8 w.heap.size (.slice (some ⟨g6, 0, none⟩) (E.length + 1) cap6) (E ++ [((k : Int), ((k + 1 : Nat) : Int), d)])) := grow_keepE (HE6.out.fr hfa (fun _ _ h => h)) hgrow8 HA6.out.symm
        have HA8 : Hd (Apt (.slice (some ⟨g6, 0, none⟩) (E.length + 1) cap6) (.slice (some ⟨g8, 0, none⟩) (Lk.length + 1) cap8)) := (grow_apt (w := w7) HA6.out.symm hat8 (fun k hk => (HE6.out.ge k hk).2) (by omega)).symm
        have HF8 : Hd (Fr (fun _ => False) w w8) := grow_fr0 (HF6.out.alloc _) hgrow8 (fun k hk => (HW6.out.ge k hk).1)
        clear hown8 hgrow8 hat8 hlt8 HE6 HW6 HA6 HF6 HW7 hnews7 hbase7 hfa
        go_wp2_with fail
        refine ⟨⟨k + 1, by simp, by omega, ?_, ?_, HA8.out, HF8.out⟩, by simp; omega⟩
        · unfold Hd; rw [HES.out]; exact HE8.out
        · unfold Hd; rw [HLS.out]; exact HW8.out
      · have hke : k = 1048575 := by omega
        have HLE : Hd ((chE D k).length = k) := chE_len D k
        obtain ⟨ea, ecap, rfl⟩ := HE.out.shape
        have HR : Hd (IntsAt (wr.alloc (.cells #[vI 0] 3)).heap.size (wr.alloc (.cells #[vI 0] 3)) (.slice (some ⟨wr.heap.size, 0, none⟩) 1 1) [0]) := ints_lit _ _ [0] (heap_alloc_last wr _)
        have HE1 : Hd (EdgesAt (wr.alloc (.cells #[vI 0] 3)).heap.size (wr.alloc (.cells #[vI 0] 3)) (.slice ea (chE D k).length ecap) (chE D k)) := HE.out.at.stay ((Fr.refl _ wr).alloc _)
        have hargs : (#[Value.int .i64 (1048576 : Int), .slice ea (chE D k).length ecap, .slice (some ⟨wr.heap.size, 0, none⟩) 1 1] : Array Value) = #[.int .i64 ((k + 1 : Nat) : Int), .slice ea (chE D k).length ecap, .slice (some ⟨wr.heap.size, 0, none⟩) 1 1] := by
          rw [show (1048576 : Int) = ((k + 1 : Nat) : Int) by omega]
        have HFROM : Hd (Calls Try.prog 12 #[Value.int .i64 (1048576 : Int), .slice ea (chE D k).length ecap, .slice (some ⟨wr.heap.size, 0, none⟩) 1 1] (wr.alloc (.cells #[vI 0] 3)) (FromEnds (wr.alloc (.cells #[vI 0] 3)) ((k + 1 : Nat) : Int) (chE D k) [0])) := by
          unfold Hd
          rw [hargs]
          exact from_any ((k + 1 : Nat) : Int) _ _ (chE D k) [0] _ HE1.out HR.out (by have := HLE.out; omega) (by simp)
        have HK : Hd (k ≤ 1048575) := by unfold Hd; omega
        have hkd : decide ((k : Int) < (1048575 : Int)) = false := by simp only [decide_eq_false_iff_not]; omega
        clear hke hargs HE1 HR hk hlt
        go_wp2_with fail
        refine HFROM.out.mono ?_
        rintro e w9 ⟨hF9, ⟨hno, -⟩ | ⟨-, b9, x9, rfl, hb9, hrow9, hleast9⟩⟩
        · exact absurd (ch_right D k HK.out) hno
        · rw [Int.toNat_natCast] at hrow9 hleast9 ⊢
          have hx9 := map_least (ch_right D k HK.out) hleast9 (ch_least D k)
          have hFa : Fr (fun _ => False) wr w9 := ((Fr.refl _ wr).alloc _).trans hF9
          have HX : Hd (IntsAt w9.heap.size w9 (.slice (some ⟨b9, 0, none⟩) (k + 1) (k + 1)) (chL D k)) := by
            have := hrow9.intsAt (c := k + 1) (Nat.le_refl _)
            rw [hx9] at this
            exact this
          have HY : Hd (IntsAt w9.heap.size w9 u5 (chL D k)) := HW.out.at.stay hFa
          have HLL : Hd ((chL D k).length = k + 1) := chL_len D k
          have HF9 : Hd (Fr (fun _ => False) w w9) := HF.out.trans hFa
          clear hF9 hb9 hrow9 hleast9 hx9 hFa HFROM HE HW HA HF
          go_wp2_with fail
          refine (eqInts_any _ _ (chL D k) (chL D k) w9 HX.out HY.out (by have := HLL.out; have := HK.out; omega) (by have := HLL.out; have := HK.out; omega)).mono ?_
          rintro e w10 ⟨rfl, hF10⟩
          rw [decide_eq_true rfl]
          have HF10 : Hd (Fr (fun _ => False) w w10) := HF9.out.trans hF10
          clear hF10
          go_wp2_with fail
          go_ret
          exact ⟨rfl, HF10.out⟩
  · have hdec : decide (1048575 < (zs.length : Int)) = false := by simp; omega
    obtain ⟨D, hD⟩ : ∃ D, D = zs := ⟨_, rfl⟩
    have hN : zs.length ≤ 1048575 := by omega
    have HIN2 : Hd (0 < zs.length → ∃ k o, a0 = some ⟨k, o, none⟩ ∧ k < w.heap.size ∧ ∀ i, i < zs.length → w.cell? ⟨k, o + i, none⟩ = some (vI (D.getD i 0))) := fun hp => by
      obtain ⟨k, o, h1, h2, h3⟩ := HIN.out (by intro e; simp [e] at hp)
      refine ⟨k, o, h1, h2, fun i hi => ?_⟩
      rw [h3 i hi, hD, List.getD_eq_getElem?_getD, List.getElem?_eq_getElem hi]
      rfl
    clear HIN hD
    go_wp2_with fail
    have HW0 : Hd (OwnI (w1.alloc (.cells #[vI 0] 3)) w.heap.size (.slice (some ⟨w1.heap.size, 0, none⟩) 1 1) (chL D 0)) := World.ownsRow_lit w1 #[vI 0] 1 HF1.out.size (by decide) rfl
    have HFa : Hd (Fr (fun _ => False) w (w1.alloc (.cells #[vI 0] 3))) := HF1.out.alloc _
    clear HF1
    go_loopw [4, 5, 6] (fun ev wv iv wr => ∃ (k : Nat), iv = .int .i64 k ∧ k ≤ zs.length ∧ Hd (OwnE wr w.heap.size ev (chE D k)) ∧ Hd (OwnI wr w.heap.size wv (chL D k)) ∧ Hd (Apt ev wv) ∧ Hd (Fr (fun _ => False) w wr)) (fun _ _ v _ => match v with | .int _ q => zs.length - q.toNat | _ => 0)
    case atStart => exact ⟨0, rfl, Nat.zero_le _, OwnE.nil _ _, HW0.out, Apt.nil _, HFa.out⟩
    case round =>
      obtain ⟨k, rfl, hk, HE, HW, HA, HF⟩ := hrel
      clear HW0 HFa
      by_cases hlt : k < zs.length
      · obtain ⟨pk, po, rfl, hpk, hcs⟩ := HIN2.out (by omega)
        have p0 := (HF.out.cell (o := po + k) hpk (fun h => h)).trans (hcs k hlt)
        clear hcs
        have HD : Hd (D.getD k 0 % 5 = dz D k + 1) := by unfold Hd dz; omega
        have m5 : ∀ v : World, Calls Try.prog 10 #[vI (D.getD k 0), .int .i64 5] v fun e w' => e = .returned (vI (dz D k + 1)) ∧ w' = v := fun v => by
          have := mod_any (D.getD k 0) 5 (by omega) (by omega) v
          rw [show D.getD k 0 % ((5 : Nat) : Int) = dz D k + 1 from HD.out] at this
          exact this
        generalize D.getD k 0 = z at *
        have hfl := dz_flows D k
        simp only [flowsX, decide_eq_true_eq] at hfl
        have hk0 : (0 : Int) ≤ k := by omega
        have hk1 : (k : Int) < zs.length := by omega
        have HES : Hd (chE D (k + 1) = chE D k ++ [((k : Int), ((k + 1 : Nat) : Int), dz D k)]) := chE_succ D k
        have HLS : Hd (chL D (k + 1) = chL D k ++ [plusX (chW D k) (dz D k)]) := chL_succ D k
        have hle := chE_len D k
        have hll := chL_len D k
        have HLE : Hd ((chE D k).length = k) := hle
        have HLL : Hd ((chL D k).length = k + 1) := hll
        have HCW : Hd ((chL D k)[k]? = some (chW D k)) := by unfold Hd chL; simp
        clear hle hll HD
        generalize dz D k = d at *
        generalize chW D k = cw at *
        generalize chE D k = E at *
        generalize chL D k = Lk at *
        go_wp2_with fail
        refine (m5 _).mono ?_
        rintro e w2 ⟨rfl, rfl⟩
        have hsz := HF.out.size
        have hdw : wrap64 (d + 1 - 1) = d := by unfold wrap64; omega
        have hdw' : d + 1 - 1 = d := by omega
        have HE1 : Hd ((w2.alloc (.cells #[vI k, vI (k + 1), vI d] 27)).ownsRow w.heap.size 27 3 u4 E.length (eCells E)) := World.ownsRow.alloc HE.out _
        have hnews : ∀ j u, [vI k, vI (k + 1), vI d][j]? = some u → (w2.alloc (.cells #[vI k, vI (k + 1), vI d] 27)).cell? ((⟨w2.heap.size, 0, none⟩ : Addr).add j) = some u :=
          World.news_of_block (cs := #[vI k, vI (k + 1), vI d]) (heap_alloc_last w2 (.cells #[vI k, vI (k + 1), vI d] 27))
        have hbase : w.heap.size ≤ (w2.alloc (.cells #[vI k, vI (k + 1), vI d] 27)).heap.size := by simp; omega
        have hNE : E.length + 1 ≤ 1048577 := by have := HLE.out; omega
        go_wp2_with ((at_builtin; refine Hd.out ?_))
        unfold Hd
        refine wpList_append_lies _ rfl (.tmp 30) (.tmp 36) 24 rfl w.heap.size 27 i27 (.agg #[vI 0, vI 0, vI 0]) 3 24 under24 hi27 hz27 hs27 hb27 rfl (by omega) u4 E.length _ rfl HE1.out ⟨w2.heap.size, 0, none⟩ 1 1 [vI k, vI (k + 1), vI d] rfl rfl hnews (by intro u hu; simp at hu; rcases hu with rfl | rfl | rfl <;> rfl) (by omega) (by unfold maxLen; omega) (by omega) hbase (w2.heap.size + 1) (by simp) ?_
        intro g6 cap6 w6 hown6 hgrow6 hat6 hlt6
        have HE6 : Hd (OwnE w6 w.heap.size (.slice (some ⟨g6, 0, none⟩) (E.length + 1) cap6) (E ++ [((k : Int), ((k + 1 : Nat) : Int), d)])) := OwnE.of (e := ((k : Int), ((k + 1 : Nat) : Int), d)) hown6
        have hfa : Fr (fun _ => False) w2 (w2.alloc (.cells #[vI k, vI (k + 1), vI d] 27)) := (Fr.refl _ w2).alloc _
        have HW6 : Hd (OwnI w6 w.heap.size u5 Lk) := grow_keepI (HW.out.fr hfa (fun _ _ h => h)) hgrow6 HA.out
        have HA6 : Hd (Apt (.slice (some ⟨g6, 0, none⟩) (E.length + 1) cap6) u5) := grow_apt (w := w2) HA.out hat6 (fun k hk => (HW.out.ge k hk).2) (by omega)
        have HF6 : Hd (Fr (fun _ => False) w w6) := grow_fr0 (HF.out.alloc _) hgrow6 (fun k hk => (HE.out.ge k hk).1)
        clear hown6 hgrow6 hat6 hlt6 HE HW HA HF HE1 hnews hbase hfa
        obtain ⟨wa, wc, rfl⟩ := HW6.out.shape
        have hWA := HW6.out.at
        obtain ⟨a5, c5, e5, -, h5⟩ := hWA
        obtain ⟨g5, o5, e5', -, hc5⟩ := h5 (by intro e; have := HLL.out; rw [e] at this; simp at this)
        have hkl : k < Lk.length := by have := HLL.out; omega
        cases e5
        subst e5'
        have q5 := hc5 k hkl
        rw [show Lk[k] = cw by have := HCW.out; rw [List.getElem?_eq_getElem hkl] at this; exact Option.some.inj this] at q5
        have hkl1 : (k : Int) < Lk.length := by omega
        have hb5 : o5 = 0 ∨ True := Or.inr trivial
        clear h5 hc5 hb5
        go_wp2_with fail
        refine (plus_any cw d w6).mono ?_
        rintro e w7 ⟨rfl, rfl⟩
        obtain ⟨pw, hpw⟩ : ∃ pw, pw = plusX cw d := ⟨_, rfl⟩
        rw [← hpw] at HLS ⊢
        clear hpw
        have hsz7 := HF6.out.size
        have HW7 : Hd ((w7.alloc (.cells #[vI pw] 3)).ownsRow w.heap.size 3 1 (.slice (some ⟨g5, o5, none⟩) Lk.length wc) Lk.length (Lk.map vI)) := World.ownsRow.alloc HW6.out _
        have hnews7 : ∀ j u, [vI pw][j]? = some u → (w7.alloc (.cells #[vI pw] 3)).cell? ((⟨w7.heap.size, 0, none⟩ : Addr).add j) = some u :=
          World.news_of_block (cs := #[vI pw]) (heap_alloc_last w7 (.cells #[vI pw] 3))
        have hbase7 : w.heap.size ≤ (w7.alloc (.cells #[vI pw] 3)).heap.size := by simp; omega
        have hNL : Lk.length + 1 ≤ 1048578 := by have := HLL.out; omega
        go_wp2_with ((at_builtin; refine Hd.out ?_))
        unfold Hd
        refine wpList_append_lies _ rfl (.tmp 38) (.tmp 45) 22 rfl w.heap.size 3 i3 (.int .i64 0) 1 8 under22 hi3 hz3 hs3 hb3 rfl (by omega) (.slice (some ⟨g5, o5, none⟩) Lk.length wc) Lk.length _ rfl HW7.out ⟨w7.heap.size, 0, none⟩ 1 1 [vI pw] rfl rfl hnews7 (by intro u hu; simp at hu; subst hu; rfl) (by omega) (by unfold maxLen; omega) (by omega) hbase7 (w7.heap.size + 1) (by simp) ?_
        intro g8 cap8 w8 hown8 hgrow8 hat8 hlt8
        have HW8 : Hd (OwnI w8 w.heap.size (.slice (some ⟨g8, 0, none⟩) (Lk.length + 1) cap8) (Lk ++ [pw])) := OwnI.of hown8
        have hfa : Fr (fun _ => False) w7 (w7.alloc (.cells #[vI pw] 3)) := (Fr.refl _ w7).alloc _
        have HE8 : Hd (OwnE w8 w.heap.size (.slice (some ⟨g6, 0, none⟩) (E.length + 1) cap6) (E ++ [((k : Int), ((k + 1 : Nat) : Int), d)])) := grow_keepE (HE6.out.fr hfa (fun _ _ h => h)) hgrow8 HA6.out.symm
        have HA8 : Hd (Apt (.slice (some ⟨g6, 0, none⟩) (E.length + 1) cap6) (.slice (some ⟨g8, 0, none⟩) (Lk.length + 1) cap8)) := (grow_apt (w := w7) HA6.out.symm hat8 (fun k hk => (HE6.out.ge k hk).2) (by omega)).symm
        have HF8 : Hd (Fr (fun _ => False) w w8) := grow_fr0 (HF6.out.alloc _) hgrow8 (fun k hk => (HW6.out.ge k hk).1)
        clear hown8 hgrow8 hat8 hlt8 HE6 HW6 HA6 HF6 HW7 hnews7 hbase7 hfa
        go_wp2_with fail
        refine ⟨⟨k + 1, by simp, by omega, ?_, ?_, HA8.out, HF8.out⟩, by simp; omega⟩
        · unfold Hd; rw [HES.out]; exact HE8.out
        · unfold Hd; rw [HLS.out]; exact HW8.out
      · have hke : k = zs.length := by omega
        have HLE : Hd ((chE D k).length = k) := chE_len D k
        obtain ⟨ea, ecap, rfl⟩ := HE.out.shape
        have HR : Hd (IntsAt (wr.alloc (.cells #[vI 0] 3)).heap.size (wr.alloc (.cells #[vI 0] 3)) (.slice (some ⟨wr.heap.size, 0, none⟩) 1 1) [0]) := ints_lit _ _ [0] (heap_alloc_last wr _)
        have HE1 : Hd (EdgesAt (wr.alloc (.cells #[vI 0] 3)).heap.size (wr.alloc (.cells #[vI 0] 3)) (.slice ea (chE D k).length ecap) (chE D k)) := HE.out.at.stay ((Fr.refl _ wr).alloc _)
        have hargs : (#[Value.int .i64 ((zs.length : Int) + 1), .slice ea (chE D k).length ecap, .slice (some ⟨wr.heap.size, 0, none⟩) 1 1] : Array Value) = #[.int .i64 ((k + 1 : Nat) : Int), .slice ea (chE D k).length ecap, .slice (some ⟨wr.heap.size, 0, none⟩) 1 1] := by
          rw [show ((zs.length : Int) + 1) = ((k + 1 : Nat) : Int) by omega]
        have HFROM : Hd (Calls Try.prog 12 #[Value.int .i64 ((zs.length : Int) + 1), .slice ea (chE D k).length ecap, .slice (some ⟨wr.heap.size, 0, none⟩) 1 1] (wr.alloc (.cells #[vI 0] 3)) (FromEnds (wr.alloc (.cells #[vI 0] 3)) ((k + 1 : Nat) : Int) (chE D k) [0])) := by
          unfold Hd
          rw [hargs]
          exact from_any ((k + 1 : Nat) : Int) _ _ (chE D k) [0] _ HE1.out HR.out (by have := HLE.out; omega) (by simp)
        have HK : Hd (k ≤ 1048575) := by unfold Hd; omega
        have hkd : decide ((k : Int) < (zs.length : Int)) = false := by simp only [decide_eq_false_iff_not]; omega
        clear hke hargs HE1 HR hk
        go_wp2_with fail
        refine HFROM.out.mono ?_
        rintro e w9 ⟨hF9, ⟨hno, -⟩ | ⟨-, b9, x9, rfl, hb9, hrow9, hleast9⟩⟩
        · exact absurd (ch_right D k HK.out) hno
        · rw [Int.toNat_natCast] at hrow9 hleast9 ⊢
          have hx9 := map_least (ch_right D k HK.out) hleast9 (ch_least D k)
          have hFa : Fr (fun _ => False) wr w9 := ((Fr.refl _ wr).alloc _).trans hF9
          have HX : Hd (IntsAt w9.heap.size w9 (.slice (some ⟨b9, 0, none⟩) (k + 1) (k + 1)) (chL D k)) := by
            have := hrow9.intsAt (c := k + 1) (Nat.le_refl _)
            rw [hx9] at this
            exact this
          have HY : Hd (IntsAt w9.heap.size w9 u5 (chL D k)) := HW.out.at.stay hFa
          have HLL : Hd ((chL D k).length = k + 1) := chL_len D k
          have HF9 : Hd (Fr (fun _ => False) w w9) := HF.out.trans hFa
          clear hF9 hb9 hrow9 hleast9 hx9 hFa HFROM HE HW HA HF
          go_wp2_with fail
          refine (eqInts_any _ _ (chL D k) (chL D k) w9 HX.out HY.out (by have := HLL.out; have := HK.out; omega) (by have := HLL.out; have := HK.out; omega)).mono ?_
          rintro e w10 ⟨rfl, hF10⟩
          rw [decide_eq_true rfl]
          have HF10 : Hd (Fr (fun _ => False) w w10) := HF9.out.trans hF10
          clear hF10
          go_wp2_with fail
          go_ret
          exact ⟨rfl, HF10.out⟩

end Go.Proofs.Ytcjfmfddkhpfnaa
