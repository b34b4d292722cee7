import Derived.Test.YtmdlebolmhnhaaaG6
namespace Go.Proofs.Ytmdlebolmhnhaaa
open Go.RowKit (wrap32 wrap64)
open Go.Maps (Keyed)
set_option linter.unusedVariables false
set_option linter.unusedSimpArgs false

set_option maxRecDepth 100000 in
set_option maxHeartbeats 4000000 in
theorem apart_walk (pv1 pv2 : Value) (os1 os2 : List OpR) (z1 z2 : Nat → List Int) (w : World) (h1 : OpsIn w pv1 os1) (hL1 : OpsL w os1 z1) (hx1 : os1.length ≤ 1600000000000) (h2 : OpsIn w pv2 os2) (hL2 : OpsL w os2 z2) (hx2 : os2.length ≤ 1600000000000) :
    Calls Try.prog 8 #[pv1, pv2] w fun e w' => e = .returned (.bool true) ∧ Fr (fun _ => False) w w' := by
  obtain ⟨a1, c1, rfl, hc1, hin1⟩ := h1
  obtain ⟨a2, c2, rfl, hc2, hin2⟩ := h2
  have HIN1 : Hd _ := hin1
  have HIN2 : Hd _ := hin2
  have HL1 : Hd _ := hL1
  have HL2 : Hd _ := hL2
  clear hin1 hin2 hL1 hL2
  go_enter Try.func8, Try.ntmps8
  go_wp2_with fail
  refine (fixed_any w).mono ?_
  rintro e w0 ⟨rfl, hF0⟩
  have M0 := Mems.none (fun _ => 0) (fun _ => (⟨fun _ => 0, 0, 0, default, default, default, default⟩ : Gh)) (fun _ => newX 2) hF0
  clear hF0
  go_wp2_with fail
  refine (show Calls Try.prog 10 #[.int .i64 2] w0 _ from new_any 2 (by omega) w0).mono ?_
  rintro e w1 ⟨b0, g0, rfl, hM1, hF1, hO1⟩
  have M1 := M0.more hM1 hF1 hO1
  clear M0 hM1 hO1
  clear hF1
  go_wp2_with fail
  refine (show Calls Try.prog 10 #[.int .i64 2] w1 _ from new_any 2 (by omega) w1).mono ?_
  rintro e w2 ⟨b1, g1, rfl, hM2, hF2, hO2⟩
  have M2 := M1.more hM2 hF2 hO2
  clear M1 hM2 hO2
  clear hF2
  go_wp2_with fail
  refine (show Calls Try.prog 10 #[.int .i64 2] w2 _ from new_any 2 (by omega) w2).mono ?_
  rintro e w3 ⟨b2, g2, rfl, hM3, hF3, hO3⟩
  have M3 := M2.more hM3 hF3 hO3
  clear M2 hM3 hO3
  clear hF3
  go_wp2_with fail
  refine (show Calls Try.prog 10 #[.int .i64 2] w3 _ from new_any 2 (by omega) w3).mono ?_
  rintro e w4 ⟨b3, g3, rfl, hM4, hF4, hO4⟩
  have M4 := M3.more hM4 hF4 hO4
  clear M3 hM4 hO4
  clear hF4
  have HM4 : Hd _ := M4
  clear M4
  go_wp2_with fail
  refine (show Calls Try.prog 11 #[ptr b0] w4 _ from push_any b0 g0 (newX 2) w4 (HM4.out.mem 0 (by omega)) (by simp [newX])).mono ?_
  rintro e w5 ⟨gg0, rfl, hP0, hFp0, hE0⟩
  have M5 := HM4.out.call (i := 0) (by omega) hP0 hFp0 hE0
  clear HM4 hP0 hFp0 hE0
  have HM5 : Hd _ := M5
  clear M5
  go_wp2_with fail
  refine (show Calls Try.prog 11 #[ptr b1] w5 _ from push_any b1 g1 (newX 2) w5 (HM5.out.mem 1 (by omega)) (by simp [newX])).mono ?_
  rintro e w6 ⟨gg1, rfl, hP1, hFp1, hE1⟩
  have M6 := HM5.out.call (i := 1) (by omega) hP1 hFp1 hE1
  clear HM5 hP1 hFp1 hE1
  have HM6 : Hd _ := M6
  clear M6
  go_wp2_with fail
  refine (show Calls Try.prog 11 #[ptr b2] w6 _ from push_any b2 g2 (newX 2) w6 (HM6.out.mem 2 (by omega)) (by simp [newX])).mono ?_
  rintro e w7 ⟨gg2, rfl, hP2, hFp2, hE2⟩
  have M7 := HM6.out.call (i := 2) (by omega) hP2 hFp2 hE2
  clear HM6 hP2 hFp2 hE2
  have HM7 : Hd _ := M7
  clear M7
  go_wp2_with fail
  refine (show Calls Try.prog 11 #[ptr b3] w7 _ from push_any b3 g3 (newX 2) w7 (HM7.out.mem 3 (by omega)) (by simp [newX])).mono ?_
  rintro e w8 ⟨gg3, rfl, hP3, hFp3, hE3⟩
  have M8 := HM7.out.call (i := 3) (by omega) hP3 hFp3 hE3
  clear HM7 hP3 hFp3 hE3
  obtain ⟨gs, HMS⟩ : ∃ gs, Hd (Mems w w8 4 (four b0 b1 b2 b3) gs (fourA (runA os1 z1 0) (runA os2 z2 0) (runA os1 z1 0) (runA os2 z2 0))) :=
    ⟨_, M8.congr (fun i hi => by
      rcases i with _ | _ | _ | _ | i
      · rfl
      · rfl
      · rfl
      · rfl
      · omega) (fun i hi => by
      rcases i with _ | _ | _ | _ | i
      · rfl
      · rfl
      · rfl
      · rfl
      · omega)⟩
  clear M8
  have HR0 : Hd (RowsL w8 w.heap.size (.slice none 0 0) (mixL os1.length os2.length (tellA os1 z1) (tellA os2 z2) 0) (Free 4 gs)) := RowsL.nil _ _ _
  go_wp2_with fail
  go_loopw [10, 11] (fun u v wr => ∃ (k : Nat) (gs : Nat → Gh), v = .int .i64 k ∧ k ≤ max os1.length os2.length ∧ Hd (Mems w wr 4 (four b0 b1 b2 b3) gs (fourA (runA os1 z1 k) (runA os2 z2 k) (runA os1 z1 0) (runA os2 z2 0))) ∧ Hd (RowsL wr w.heap.size u (mixL os1.length os2.length (tellA os1 z1) (tellA os2 z2) k) (Free 4 gs))) (fun _ v _ => match v with | .int _ q => max os1.length os2.length - q.toNat | _ => 0)
  case atStart => exact ⟨0, gs, rfl, Nat.zero_le _, HMS.out, HR0.out⟩
  case round =>
    obtain ⟨k, gs, rfl, hk, HMr, HRr⟩ := hrel
    clear HMS HR0
    have hlen := mixL_len os1.length os2.length (tellA os1 z1) (tellA os2 z2) k
    by_cases h1 : k < os1.length
    · obtain ⟨pk1, po1, rfl, hpk1, hcs1⟩ := HIN1.out (by intro e; simp [e] at h1)
      obtain ⟨hcl1, hI1, hzl1⟩ := HL1.out k h1
      obtain ⟨o1, ho1⟩ : ∃ o, os1[k] = o := ⟨_, rfl⟩
      have HCS1 : Hd (∀ v, Fr (fun _ => False) w v → ∀ j, j < 9 → v.cell? ⟨pk1, po1 + k * 9 + j, none⟩ = (opC o1)[j]?) := fun v hv j hj => by rw [← ho1]; exact (hv.cell hpk1 (fun h => h)).trans (hcs1 k h1 j hj)
      rw [ho1] at hcl1 hI1
      have ho1' : os1[k]? = some o1 := by rw [List.getElem?_eq_getElem h1, ho1]
      have HRA : Hd (runA os1 z1 (k + 1) = (ansX (runA os1 z1 k) o1 (z1 k)).abs) := by unfold Hd; simp only [runA, ho1']
      have HTA : Hd (tellA os1 z1 k = tellX (ansX (runA os1 z1 k) o1 (z1 k))) := by unfold Hd; simp only [tellA, ho1']
      have p0 : wr.cell? ⟨pk1, po1 + k * 9, none⟩ = some (vI o1.kind) := HCS1.out wr HMr.out.fr 0 (by omega)
      have p1 : wr.cell? ⟨pk1, po1 + k * 9 + 1, none⟩ = some (vI o1.on) := HCS1.out wr HMr.out.fr 1 (by omega)
      have p2 : wr.cell? ⟨pk1, po1 + k * 9 + 2, none⟩ = some (vI o1.n) := HCS1.out wr HMr.out.fr 2 (by omega)
      have p3 : wr.cell? ⟨pk1, po1 + k * 9 + 3, none⟩ = some (.bool o1.heap) := HCS1.out wr HMr.out.fr 3 (by omega)
      have p4 : wr.cell? ⟨pk1, po1 + k * 9 + 4, none⟩ = some (vI o1.v.1) := HCS1.out wr HMr.out.fr 4 (by omega)
      have p5 : wr.cell? ⟨pk1, po1 + k * 9 + 5, none⟩ = some (vI o1.v.2) := HCS1.out wr HMr.out.fr 5 (by omega)
      have p6 : wr.cell? ⟨pk1, po1 + k * 9 + 6, none⟩ = some (vI o1.w.1) := HCS1.out wr HMr.out.fr 6 (by omega)
      have p7 : wr.cell? ⟨pk1, po1 + k * 9 + 7, none⟩ = some (vI o1.w.2) := HCS1.out wr HMr.out.fr 7 (by omega)
      have p8 : wr.cell? ⟨pk1, po1 + k * 9 + 8, none⟩ = some o1.cells := HCS1.out wr HMr.out.fr 8 (by omega)
      have hk0 : (0 : Int) ≤ k := by omega
      have hk1 : (k : Int) < os1.length := by omega
      clear hcs1 ho1 ho1'
      have HI1 : Hd _ := hI1
      clear hI1
      go_wp2_with fail
      clear p0 p1 p2 p3 p4 p5 p6 p7 p8
      refine (show Calls Try.prog 24 #[ptr b0, opV o1] wr _ from told_mems HMr.out (i := 0) (by omega) o1 (z1 k) HI1.out hcl1 hzl1 (runA_fine os1 z1 k) (by omega)).mono ?_
      rintro e w2 ⟨gs2, t1, rfl, hM2, hR2, hrow2, hfr2⟩
      have hM2' : Mems w w2 4 (four b0 b1 b2 b3) gs2 (fourA (runA os1 z1 (k + 1)) (runA os2 z2 k) (runA os1 z1 0) (runA os2 z2 0)) := hM2.congr (fun _ _ => rfl) (fun i hi => by
        rw [HRA.out]
        rcases i with _ | _ | _ | _ | i
        · rfl
        · rfl
        · rfl
        · rfl
        · omega)
      have HM2 : Hd _ := hM2'
      obtain ⟨ta, tc, rfl⟩ := row3_slice hrow2
      have hrow2' : w2.ownsRow w.heap.size 3 1 (.slice ta (tellX (ansX (runA os1 z1 k) o1 (z1 k))).length tc) (tellX (ansX (runA os1 z1 k) o1 (z1 k))).length ((tellX (ansX (runA os1 z1 k) o1 (z1 k))).map vI) := hrow2
      have hfr2' : ∀ j, (Value.slice ta (tellX (ansX (runA os1 z1 k) o1 (z1 k))).length tc).ownBlock = some j → Free 4 gs2 j := hfr2
      have HRt := hR2 _ _ HRr.out
      rw [show (tellX (ansX ((fourA (runA os1 z1 k) (runA os2 z2 k) (runA os1 z1 0) (runA os2 z2 0)) 0) o1 (z1 k))) = tellA os1 z1 k from HTA.out.symm]
      rw [← HTA.out] at hrow2' hfr2'
      clear hrow2 hfr2 hM2 hM2' hR2
      obtain ⟨vs, r1, r2, r3⟩ := HRt.fr (Fr.alloc (Fr.refl (fun _ => False) w2) (.cells #[.slice ta (tellA os1 z1 k).length tc] 39)) (fun _ _ h => h)
      obtain ⟨tl, htl⟩ : ∃ tl, tellA os1 z1 k = tl := ⟨_, rfl⟩
      have HTE : Hd (tellA os1 z1 k = tl) := htl
      rw [htl] at r1 r3 hrow2' hfr2' ⊢
      clear htl
      have HR1 : Hd _ := r1
      have HR2 : Hd _ := r2
      have HR3 : Hd _ := r3
      have HT2 : Hd _ := hrow2'
      have HTF : Hd _ := hfr2'
      obtain ⟨i39, hi, hz3, hs3, hb3⟩ := info_parts (P := Try.prog) (e := 39) (z := .slice none 0 0) (size := 1) (bytes := 24) (by kernel_rfl)
      have hnews : ∀ j u, [Value.slice ta tl.length tc][j]? = some u → (w2.alloc (.cells #[.slice ta tl.length tc] 39)).cell? ((⟨w2.heap.size, 0, none⟩ : Addr).add j) = some u :=
        World.news_of_block (w := (w2.alloc (.cells #[.slice ta tl.length tc] 39))) (cs := #[.slice ta tl.length tc]) (heap_alloc_last w2 (.cells #[.slice ta tl.length tc] 39))
      have hw1 : (w2.alloc (.cells #[.slice ta tl.length tc] 39)).heap.size = w2.heap.size + 1 := by simp
      have hbase : w.heap.size ≤ (w2.alloc (.cells #[.slice ta tl.length tc] 39)).heap.size := by rw [hw1]; have := HM2.out.fr.size; omega
      have hmx : (mixL os1.length os2.length (tellA os1 z1) (tellA os2 z2) k).length + 1 ≤ maxLen := by unfold maxLen; omega
      clear r1 r2 r3 hrow2' hfr2' HRt
      by_cases h2 : k < os2.length
      · obtain ⟨pk2, po2, rfl, hpk2, hcs2⟩ := HIN2.out (by intro e; simp [e] at h2)
        obtain ⟨hcl2, hI2, hzl2⟩ := HL2.out k h2
        obtain ⟨o2, ho2⟩ : ∃ o, os2[k] = o := ⟨_, rfl⟩
        have HCS2 : Hd (∀ v, Fr (fun _ => False) w v → ∀ j, j < 9 → v.cell? ⟨pk2, po2 + k * 9 + j, none⟩ = (opC o2)[j]?) := fun v hv j hj => by rw [← ho2]; exact (hv.cell hpk2 (fun h => h)).trans (hcs2 k h2 j hj)
        rw [ho2] at hcl2 hI2
        have ho2' : os2[k]? = some o2 := by rw [List.getElem?_eq_getElem h2, ho2]
        have HRA2 : Hd (runA os2 z2 (k + 1) = (ansX (runA os2 z2 k) o2 (z2 k)).abs) := by unfold Hd; simp only [runA, ho2']
        have HTA2 : Hd (tellA os2 z2 k = tellX (ansX (runA os2 z2 k) o2 (z2 k))) := by unfold Hd; simp only [tellA, ho2']
        have hk2 : (k : Int) < os2.length := by omega
        clear hcs2 ho2 ho2'
        have HI2 : Hd _ := hI2
        clear hI2
        go_wp2_with ((at_builtin; refine wpList_append_lies _ rfl (.tmp 58) (.tmp 60) 57 rfl w.heap.size 39 i39 (.slice none 0 0) 1 24 under57 hi hz3 hs3 hb3 rfl (by omega) u10 _ _ rfl HR1.out ⟨w2.heap.size, 0, none⟩ 1 1 [.slice ta tl.length tc] rfl rfl hnews (by intro u hu; simp at hu; subst hu; rfl) (by omega) hmx (by omega) hbase (w2.heap.size + 1) hw1 ?_; intro g6 cap6 w6 hown6 hgrow6 hat6 hlt6; obtain ⟨m6, r6⟩ := rows_grown HM2.out HR1.out HR2.out HR3.out HT2.out HTF.out hown6 hgrow6 hat6; have HM6 : Hd _ := m6; have HR6 : Hd _ := r6; have p0 : w6.cell? ⟨pk2, po2 + k * 9, none⟩ = some (vI o2.kind) := HCS2.out w6 m6.fr 0 (by omega); have p1 : w6.cell? ⟨pk2, po2 + k * 9 + 1, none⟩ = some (vI o2.on) := HCS2.out w6 m6.fr 1 (by omega); have p2 : w6.cell? ⟨pk2, po2 + k * 9 + 2, none⟩ = some (vI o2.n) := HCS2.out w6 m6.fr 2 (by omega); have p3 : w6.cell? ⟨pk2, po2 + k * 9 + 3, none⟩ = some (.bool o2.heap) := HCS2.out w6 m6.fr 3 (by omega); have p4 : w6.cell? ⟨pk2, po2 + k * 9 + 4, none⟩ = some (vI o2.v.1) := HCS2.out w6 m6.fr 4 (by omega); have p5 : w6.cell? ⟨pk2, po2 + k * 9 + 5, none⟩ = some (vI o2.v.2) := HCS2.out w6 m6.fr 5 (by omega); have p6 : w6.cell? ⟨pk2, po2 + k * 9 + 6, none⟩ = some (vI o2.w.1) := HCS2.out w6 m6.fr 6 (by omega); have p7 : w6.cell? ⟨pk2, po2 + k * 9 + 7, none⟩ = some (vI o2.w.2) := HCS2.out w6 m6.fr 7 (by omega); have p8 : w6.cell? ⟨pk2, po2 + k * 9 + 8, none⟩ = some o2.cells := HCS2.out w6 m6.fr 8 (by omega)))
        clear p0 p1 p2 p3 p4 p5 p6 p7 p8 hown6 hgrow6 hat6 m6 r6
        refine (show Calls Try.prog 24 #[ptr b1, opV o2] w6 _ from told_mems HM6.out (i := 1) (by omega) o2 (z2 k) HI2.out hcl2 hzl2 (runA_fine os2 z2 k) (by omega)).mono ?_
        rintro e w7 ⟨gs7, t2, rfl, hM7, hR7, hrow7, hfr7⟩
        have HM7 : Hd (Mems w w7 4 (four b0 b1 b2 b3) gs7 (fourA (runA os1 z1 (k + 1)) (runA os2 z2 (k + 1)) (runA os1 z1 0) (runA os2 z2 0))) := hM7.congr (fun _ _ => rfl) (fun i hi => by
          rw [HRA2.out]
          rcases i with _ | _ | _ | _ | i
          · rfl
          · rfl
          · rfl
          · rfl
          · omega)
        obtain ⟨ta2, tc2, rfl⟩ := row3_slice hrow7
        have hrow7' : w7.ownsRow w.heap.size 3 1 (.slice ta2 (tellX (ansX (runA os2 z2 k) o2 (z2 k))).length tc2) (tellX (ansX (runA os2 z2 k) o2 (z2 k))).length ((tellX (ansX (runA os2 z2 k) o2 (z2 k))).map vI) := hrow7
        have hfr7' : ∀ j, (Value.slice ta2 (tellX (ansX (runA os2 z2 k) o2 (z2 k))).length tc2).ownBlock = some j → Free 4 gs7 j := hfr7
        have HRt7 := hR7 _ _ HR6.out
        rw [show (tellX (ansX ((fourA (runA os1 z1 (k + 1)) (runA os2 z2 k) (runA os1 z1 0) (runA os2 z2 0)) 1) o2 (z2 k))) = tellA os2 z2 k from HTA2.out.symm]
        rw [← HTA2.out] at hrow7' hfr7'
        clear hrow7 hfr7 hM7 hR7
        obtain ⟨vs7, r1, r2, r3⟩ := HRt7.fr (Fr.alloc (Fr.refl (fun _ => False) w7) (.cells #[.slice ta2 (tellA os2 z2 k).length tc2] 39)) (fun _ _ h => h)
        obtain ⟨tl2, htl⟩ : ∃ tl, tellA os2 z2 k = tl := ⟨_, rfl⟩
        have HTE2 : Hd (tellA os2 z2 k = tl2) := htl
        rw [htl] at r1 r3 hrow7' hfr7' ⊢
        clear htl
        have hl7 : (mixL os1.length os2.length (tellA os1 z1) (tellA os2 z2) k ++ [tl]).length = (mixL os1.length os2.length (tellA os1 z1) (tellA os2 z2) k).length + 1 := by simp
        rw [hl7] at r1
        have HS1 : Hd _ := r1
        have HS2 : Hd _ := r2
        have HS3 : Hd _ := r3
        have HT7 : Hd _ := hrow7'
        have HTF7 : Hd _ := hfr7'
        have hnews7 : ∀ j u, [Value.slice ta2 tl2.length tc2][j]? = some u → (w7.alloc (.cells #[.slice ta2 tl2.length tc2] 39)).cell? ((⟨w7.heap.size, 0, none⟩ : Addr).add j) = some u :=
          World.news_of_block (w := (w7.alloc (.cells #[.slice ta2 tl2.length tc2] 39))) (cs := #[.slice ta2 tl2.length tc2]) (heap_alloc_last w7 (.cells #[.slice ta2 tl2.length tc2] 39))
        have hw7 : (w7.alloc (.cells #[.slice ta2 tl2.length tc2] 39)).heap.size = w7.heap.size + 1 := by simp
        have hbase7 : w.heap.size ≤ (w7.alloc (.cells #[.slice ta2 tl2.length tc2] 39)).heap.size := by rw [hw7]; have := HM7.out.fr.size; omega
        have hmx7 : (mixL os1.length os2.length (tellA os1 z1) (tellA os2 z2) k).length + 1 + 1 ≤ maxLen := by unfold maxLen; omega
        clear r1 r2 r3 hrow7' hfr7' HRt7
        go_wp2_with ((at_builtin; refine wpList_append_lies _ rfl (.tmp 72) (.tmp 74) 57 rfl w.heap.size 39 i39 (.slice none 0 0) 1 24 under57 hi hz3 hs3 hb3 rfl (by omega) _ _ _ rfl HS1.out ⟨w7.heap.size, 0, none⟩ 1 1 [.slice ta2 tl2.length tc2] rfl rfl hnews7 (by intro u hu; simp at hu; subst hu; rfl) (by omega) hmx7 (by omega) hbase7 (w7.heap.size + 1) hw7 ?_; intro g8 cap8 w8' hown8 hgrow8 hat8 hlt8))
        obtain ⟨m8, r8⟩ := rows_grown HM7.out (zss := (mixL os1.length os2.length (tellA os1 z1) (tellA os2 z2) k ++ [tl])) (by rw [hl7]; exact HS1.out) HS2.out HS3.out HT7.out HTF7.out (by rw [hl7]; exact hown8) hgrow8 hat8
        have e2 : mixL os1.length os2.length (tellA os1 z1) (tellA os2 z2) (k + 1) = (mixL os1.length os2.length (tellA os1 z1) (tellA os2 z2) k ++ [tl]) ++ [tl2] := by
          simp only [mixL, if_pos h1, if_pos h2]
          rw [show tellA os1 z1 k = tl from HTE.out, show tellA os2 z2 k = tl2 from HTE2.out]
        refine ⟨⟨k + 1, gs7, by simp, by omega, m8, by rw [e2]; rw [hl7] at r8; exact r8⟩, by simp; omega⟩
      · have d2 : decide ((k : Int) < (os2.length : Int)) = false := by simp; omega
        go_wp2_with ((at_builtin; refine wpList_append_lies _ rfl (.tmp 58) (.tmp 60) 57 rfl w.heap.size 39 i39 (.slice none 0 0) 1 24 under57 hi hz3 hs3 hb3 rfl (by omega) u10 _ _ rfl HR1.out ⟨w2.heap.size, 0, none⟩ 1 1 [.slice ta tl.length tc] rfl rfl hnews (by intro u hu; simp at hu; subst hu; rfl) (by omega) hmx (by omega) hbase (w2.heap.size + 1) hw1 ?_; intro g6 cap6 w6 hown6 hgrow6 hat6 hlt6))
        obtain ⟨m6, r6⟩ := rows_grown HM2.out HR1.out HR2.out HR3.out HT2.out HTF.out hown6 hgrow6 hat6
        have e1 : runA os2 z2 (k + 1) = runA os2 z2 k := by simp only [runA, List.getElem?_eq_none (Nat.le_of_not_lt h2)]
        have e2 : mixL os1.length os2.length (tellA os1 z1) (tellA os2 z2) (k + 1) = mixL os1.length os2.length (tellA os1 z1) (tellA os2 z2) k ++ [tl] := by
          simp only [mixL, if_pos h1, if_neg h2, List.append_nil]
          rw [show tellA os1 z1 k = tl from HTE.out]
        refine ⟨⟨k + 1, gs2, by simp, by omega, by rw [e1]; exact m6, by rw [e2]; exact r6⟩, by simp; omega⟩
    · have d1 : decide ((k : Int) < (os1.length : Int)) = false := by simp; omega
      have e1 : runA os1 z1 (k + 1) = runA os1 z1 k := by simp only [runA, List.getElem?_eq_none (Nat.le_of_not_lt h1)]
      by_cases h2 : k < os2.length
      · obtain ⟨pk2, po2, rfl, hpk2, hcs2⟩ := HIN2.out (by intro e; simp [e] at h2)
        obtain ⟨hcl2, hI2, hzl2⟩ := HL2.out k h2
        obtain ⟨o2, ho2⟩ : ∃ o, os2[k] = o := ⟨_, rfl⟩
        have HCS2 : Hd (∀ v, Fr (fun _ => False) w v → ∀ j, j < 9 → v.cell? ⟨pk2, po2 + k * 9 + j, none⟩ = (opC o2)[j]?) := fun v hv j hj => by rw [← ho2]; exact (hv.cell hpk2 (fun h => h)).trans (hcs2 k h2 j hj)
        rw [ho2] at hcl2 hI2
        have ho2' : os2[k]? = some o2 := by rw [List.getElem?_eq_getElem h2, ho2]
        have HRA2 : Hd (runA os2 z2 (k + 1) = (ansX (runA os2 z2 k) o2 (z2 k)).abs) := by unfold Hd; simp only [runA, ho2']
        have HTA2 : Hd (tellA os2 z2 k = tellX (ansX (runA os2 z2 k) o2 (z2 k))) := by unfold Hd; simp only [tellA, ho2']
        have hk0 : (0 : Int) ≤ k := by omega
        have hk2 : (k : Int) < os2.length := by omega
        clear hcs2 ho2 ho2'
        have HI2 : Hd _ := hI2
        clear hI2
        have p0 : wr.cell? ⟨pk2, po2 + k * 9, none⟩ = some (vI o2.kind) := HCS2.out wr HMr.out.fr 0 (by omega)
        have p1 : wr.cell? ⟨pk2, po2 + k * 9 + 1, none⟩ = some (vI o2.on) := HCS2.out wr HMr.out.fr 1 (by omega)
        have p2 : wr.cell? ⟨pk2, po2 + k * 9 + 2, none⟩ = some (vI o2.n) := HCS2.out wr HMr.out.fr 2 (by omega)
        have p3 : wr.cell? ⟨pk2, po2 + k * 9 + 3, none⟩ = some (.bool o2.heap) := HCS2.out wr HMr.out.fr 3 (by omega)
        have p4 : wr.cell? ⟨pk2, po2 + k * 9 + 4, none⟩ = some (vI o2.v.1) := HCS2.out wr HMr.out.fr 4 (by omega)
        have p5 : wr.cell? ⟨pk2, po2 + k * 9 + 5, none⟩ = some (vI o2.v.2) := HCS2.out wr HMr.out.fr 5 (by omega)
        have p6 : wr.cell? ⟨pk2, po2 + k * 9 + 6, none⟩ = some (vI o2.w.1) := HCS2.out wr HMr.out.fr 6 (by omega)
        have p7 : wr.cell? ⟨pk2, po2 + k * 9 + 7, none⟩ = some (vI o2.w.2) := HCS2.out wr HMr.out.fr 7 (by omega)
        have p8 : wr.cell? ⟨pk2, po2 + k * 9 + 8, none⟩ = some o2.cells := HCS2.out wr HMr.out.fr 8 (by omega)
        obtain ⟨i39, hi, hz3, hs3, hb3⟩ := info_parts (P := Try.prog) (e := 39) (z := .slice none 0 0) (size := 1) (bytes := 24) (by kernel_rfl)
        go_wp2_with fail
        clear p0 p1 p2 p3 p4 p5 p6 p7 p8
        refine (show Calls Try.prog 24 #[ptr b1, opV o2] wr _ from told_mems HMr.out (i := 1) (by omega) o2 (z2 k) HI2.out hcl2 hzl2 (runA_fine os2 z2 k) (by omega)).mono ?_
        rintro e w7 ⟨gs7, t2, rfl, hM7, hR7, hrow7, hfr7⟩
        have HM7 : Hd (Mems w w7 4 (four b0 b1 b2 b3) gs7 (fourA (runA os1 z1 (k + 1)) (runA os2 z2 (k + 1)) (runA os1 z1 0) (runA os2 z2 0))) := hM7.congr (fun _ _ => rfl) (fun i hi => by
          rw [HRA2.out, e1]
          rcases i with _ | _ | _ | _ | i
          · rfl
          · rfl
          · rfl
          · rfl
          · omega)
        obtain ⟨ta2, tc2, rfl⟩ := row3_slice hrow7
        have hrow7' : w7.ownsRow w.heap.size 3 1 (.slice ta2 (tellX (ansX (runA os2 z2 k) o2 (z2 k))).length tc2) (tellX (ansX (runA os2 z2 k) o2 (z2 k))).length ((tellX (ansX (runA os2 z2 k) o2 (z2 k))).map vI) := hrow7
        have hfr7' : ∀ j, (Value.slice ta2 (tellX (ansX (runA os2 z2 k) o2 (z2 k))).length tc2).ownBlock = some j → Free 4 gs7 j := hfr7
        have HRt7 := hR7 _ _ HRr.out
        rw [show (tellX (ansX ((fourA (runA os1 z1 k) (runA os2 z2 k) (runA os1 z1 0) (runA os2 z2 0)) 1) o2 (z2 k))) = tellA os2 z2 k from HTA2.out.symm]
        rw [← HTA2.out] at hrow7' hfr7'
        clear hrow7 hfr7 hM7 hR7
        obtain ⟨vs7, r1, r2, r3⟩ := HRt7.fr (Fr.alloc (Fr.refl (fun _ => False) w7) (.cells #[.slice ta2 (tellA os2 z2 k).length tc2] 39)) (fun _ _ h => h)
        obtain ⟨tl2, htl⟩ : ∃ tl, tellA os2 z2 k = tl := ⟨_, rfl⟩
        have HTE2 : Hd (tellA os2 z2 k = tl2) := htl
        rw [htl] at r1 r3 hrow7' hfr7' ⊢
        clear htl
        have HS1 : Hd _ := r1
        have HS2 : Hd _ := r2
        have HS3 : Hd _ := r3
        have HT7 : Hd _ := hrow7'
        have HTF7 : Hd _ := hfr7'
        have hnews7 : ∀ j u, [Value.slice ta2 tl2.length tc2][j]? = some u → (w7.alloc (.cells #[.slice ta2 tl2.length tc2] 39)).cell? ((⟨w7.heap.size, 0, none⟩ : Addr).add j) = some u :=
          World.news_of_block (w := (w7.alloc (.cells #[.slice ta2 tl2.length tc2] 39))) (cs := #[.slice ta2 tl2.length tc2]) (heap_alloc_last w7 (.cells #[.slice ta2 tl2.length tc2] 39))
        have hw7 : (w7.alloc (.cells #[.slice ta2 tl2.length tc2] 39)).heap.size = w7.heap.size + 1 := by simp
        have hbase7 : w.heap.size ≤ (w7.alloc (.cells #[.slice ta2 tl2.length tc2] 39)).heap.size := by rw [hw7]; have := HM7.out.fr.size; omega
        have hmx7 : (mixL os1.length os2.length (tellA os1 z1) (tellA os2 z2) k).length + 1 ≤ maxLen := by unfold maxLen; omega
        clear r1 r2 r3 hrow7' hfr7' HRt7
        go_wp2_with ((at_builtin; refine wpList_append_lies _ rfl (.tmp 72) (.tmp 74) 57 rfl w.heap.size 39 i39 (.slice none 0 0) 1 24 under57 hi hz3 hs3 hb3 rfl (by omega) u10 _ _ rfl HS1.out ⟨w7.heap.size, 0, none⟩ 1 1 [.slice ta2 tl2.length tc2] rfl rfl hnews7 (by intro u hu; simp at hu; subst hu; rfl) (by omega) hmx7 (by omega) hbase7 (w7.heap.size + 1) hw7 ?_; intro g8 cap8 w8' hown8 hgrow8 hat8 hlt8))
        obtain ⟨m8, r8⟩ := rows_grown HM7.out HS1.out HS2.out HS3.out HT7.out HTF7.out hown8 hgrow8 hat8
        have e2 : mixL os1.length os2.length (tellA os1 z1) (tellA os2 z2) (k + 1) = (mixL os1.length os2.length (tellA os1 z1) (tellA os2 z2) k) ++ [tl2] := by
          simp only [mixL, if_neg h1, if_pos h2, List.append_nil]
          rw [show tellA os2 z2 k = tl2 from HTE2.out]
        refine ⟨⟨k + 1, gs7, by simp, by omega, m8, by rw [e2]; exact r8⟩, by simp; omega⟩
      · have d2 : decide ((k : Int) < (os2.length : Int)) = false := by simp; omega
        have HKM : Hd (k = max os1.length os2.length) := by unfold Hd; omega
        obtain ⟨s2, hs2⟩ : ∃ s, s = wr.heap.size := ⟨_, rfl⟩
        obtain ⟨mx, hmx0⟩ : ∃ mx, mixL os1.length os2.length (tellA os1 z1) (tellA os2 z2) k = mx := ⟨_, rfl⟩
        have HMX : Hd (mixL os1.length os2.length (tellA os1 z1) (tellA os2 z2) k = mx) := hmx0
        rw [hmx0] at HRr hlen
        clear hmx0
        have HG2 : Hd (RowsL wr w.heap.size u10 mx (fun j => Free 4 gs j ∧ j < s2)) := HRr.out.mono (fun j hj h => ⟨h, by rw [hs2]; exact hj⟩)
        have HN2 : Hd (RowsL wr w.heap.size (.slice none 0 0) ((List.range 0).map (tellA os1 z1)) (fun j => Free 4 gs j ∧ s2 ≤ j)) := RowsL.nil _ _ _
        have HS2 : Hd (s2 ≤ wr.heap.size) := Nat.le_of_eq hs2
        clear hs2 HRr e1
        go_wp2_with fail
        go_loopw [14, 16] (fun u v wr2 => ∃ (q : Nat) (gs2 : Nat → Gh), v = .int .i64 q ∧ q ≤ os1.length ∧ Hd (s2 ≤ wr2.heap.size) ∧ Hd (Mems w wr2 4 (four b0 b1 b2 b3) gs2 (fourA (runA os1 z1 k) (runA os2 z2 k) (runA os1 z1 q) (runA os2 z2 0))) ∧ Hd (RowsL wr2 w.heap.size u10 mx (fun j => Free 4 gs2 j ∧ j < s2)) ∧ Hd (RowsL wr2 w.heap.size u ((List.range q).map (tellA os1 z1)) (fun j => Free 4 gs2 j ∧ s2 ≤ j))) (fun _ v _ => match v with | .int _ q => os1.length - q.toNat | _ => 0)
        case atStart => exact ⟨0, gs, rfl, Nat.zero_le _, HS2.out, HMr.out, HG2.out, HN2.out⟩
        case round =>
          obtain ⟨q, gs, rfl, hq, HSq, HMq, HGq, HRq⟩ := hrel
          clear HMr HG2 HN2 HS2
          by_cases h3 : q < os1.length
          · obtain ⟨pk, po, rfl, hpk, hcs⟩ := HIN1.out (by intro e; simp [e] at h3)
            obtain ⟨hcl, hI, hzl⟩ := HL1.out q h3
            obtain ⟨o, ho⟩ : ∃ o, os1[q] = o := ⟨_, rfl⟩
            have HCS : Hd (∀ v, Fr (fun _ => False) w v → ∀ j, j < 9 → v.cell? ⟨pk, po + q * 9 + j, none⟩ = (opC o)[j]?) := fun v hv j hj => by rw [← ho]; exact (hv.cell hpk (fun h => h)).trans (hcs q h3 j hj)
            rw [ho] at hcl hI
            have ho' : os1[q]? = some o := by rw [List.getElem?_eq_getElem h3, ho]
            have HRA : Hd (runA os1 z1 (q + 1) = (ansX (runA os1 z1 q) o (z1 q)).abs) := by unfold Hd; simp only [runA, ho']
            have HTA : Hd (tellA os1 z1 q = tellX (ansX (runA os1 z1 q) o (z1 q))) := by unfold Hd; simp only [tellA, ho']
            have p0 : wr.cell? ⟨pk, po + q * 9, none⟩ = some (vI o.kind) := HCS.out wr HMq.out.fr 0 (by omega)
            have p1 : wr.cell? ⟨pk, po + q * 9 + 1, none⟩ = some (vI o.on) := HCS.out wr HMq.out.fr 1 (by omega)
            have p2 : wr.cell? ⟨pk, po + q * 9 + 2, none⟩ = some (vI o.n) := HCS.out wr HMq.out.fr 2 (by omega)
            have p3 : wr.cell? ⟨pk, po + q * 9 + 3, none⟩ = some (.bool o.heap) := HCS.out wr HMq.out.fr 3 (by omega)
            have p4 : wr.cell? ⟨pk, po + q * 9 + 4, none⟩ = some (vI o.v.1) := HCS.out wr HMq.out.fr 4 (by omega)
            have p5 : wr.cell? ⟨pk, po + q * 9 + 5, none⟩ = some (vI o.v.2) := HCS.out wr HMq.out.fr 5 (by omega)
            have p6 : wr.cell? ⟨pk, po + q * 9 + 6, none⟩ = some (vI o.w.1) := HCS.out wr HMq.out.fr 6 (by omega)
            have p7 : wr.cell? ⟨pk, po + q * 9 + 7, none⟩ = some (vI o.w.2) := HCS.out wr HMq.out.fr 7 (by omega)
            have p8 : wr.cell? ⟨pk, po + q * 9 + 8, none⟩ = some o.cells := HCS.out wr HMq.out.fr 8 (by omega)
            have hk0 : (0 : Int) ≤ q := by omega
            have hk1 : (q : Int) < os1.length := by omega
            clear hcs ho ho'
            have HI : Hd _ := hI
            clear hI
            go_wp2_with fail
            clear p0 p1 p2 p3 p4 p5 p6 p7 p8
            refine (show Calls Try.prog 24 #[ptr b2, opV o] wr _ from told_mems2 HMq.out (i := 2) (by omega) o (z1 q) HI.out hcl hzl (runA_fine os1 z1 q) (by omega)).mono ?_
            rintro e w2 ⟨gs2, t1, rfl, hM2, hR2, hrow2, hfr2, hsz2⟩
            have HM2 : Hd (Mems w w2 4 (four b0 b1 b2 b3) gs2 (fourA (runA os1 z1 k) (runA os2 z2 k) (runA os1 z1 (q + 1)) (runA os2 z2 0))) := hM2.congr (fun _ _ => rfl) (fun i hi => by
              rw [HRA.out]
              rcases i with _ | _ | _ | _ | i
              · rfl
              · rfl
              · rfl
              · rfl
              · omega)
            obtain ⟨ta, tc, rfl⟩ := row3_slice hrow2
            have hrow2' : w2.ownsRow w.heap.size 3 1 (.slice ta (tellX (ansX (runA os1 z1 q) o (z1 q))).length tc) (tellX (ansX (runA os1 z1 q) o (z1 q))).length ((tellX (ansX (runA os1 z1 q) o (z1 q))).map vI) := hrow2
            have hfr2' : ∀ j, (Value.slice ta (tellX (ansX (runA os1 z1 q) o (z1 q))).length tc).ownBlock = some j → Free 4 gs2 j ∧ s2 ≤ j := fun j hj => ⟨(hfr2 j hj).1, Nat.le_trans HSq.out (hfr2 j hj).2⟩
            have HG2 : Hd _ := hR2 (fun j => j < s2) _ _ HGq.out
            have HRt := hR2 (fun j => s2 ≤ j) _ _ HRq.out
            rw [show (tellX (ansX ((fourA (runA os1 z1 k) (runA os2 z2 k) (runA os1 z1 q) (runA os2 z2 0)) 2) o (z1 q))) = tellA os1 z1 q from HTA.out.symm]
            rw [← HTA.out] at hrow2' hfr2'
            clear hrow2 hfr2 hM2 hR2
            obtain ⟨vs, r1, r2, r3⟩ := HRt.fr (Fr.alloc (Fr.refl (fun _ => False) w2) (.cells #[.slice ta (tellA os1 z1 q).length tc] 39)) (fun _ _ h => h)
            obtain ⟨tl, htl⟩ : ∃ tl, tellA os1 z1 q = tl := ⟨_, rfl⟩
            have HTE : Hd (tellA os1 z1 q = tl) := htl
            rw [htl] at r1 r3 hrow2' hfr2' ⊢
            clear htl
            obtain ⟨zl, hzl2⟩ : ∃ zl, (List.range q).map (tellA os1 z1) = zl := ⟨_, rfl⟩
            have HZL : Hd ((List.range q).map (tellA os1 z1) = zl) := hzl2
            have hzq : zl.length = q := by rw [← hzl2]; simp
            rw [hzl2] at r1 r3
            clear hzl2
            have HR1 : Hd _ := r1
            have HR2 : Hd _ := r2
            have HR3 : Hd _ := r3
            have HT2 : Hd _ := hrow2'
            have HTF : Hd _ := hfr2'
            obtain ⟨i39, hi, hz3, hs3, hb3⟩ := info_parts (P := Try.prog) (e := 39) (z := .slice none 0 0) (size := 1) (bytes := 24) (by kernel_rfl)
            have hnews : ∀ j u, [Value.slice ta tl.length tc][j]? = some u → (w2.alloc (.cells #[.slice ta tl.length tc] 39)).cell? ((⟨w2.heap.size, 0, none⟩ : Addr).add j) = some u :=
              World.news_of_block (w := (w2.alloc (.cells #[.slice ta tl.length tc] 39))) (cs := #[.slice ta tl.length tc]) (heap_alloc_last w2 (.cells #[.slice ta tl.length tc] 39))
            have hw1 : (w2.alloc (.cells #[.slice ta tl.length tc] 39)).heap.size = w2.heap.size + 1 := by simp
            have hbase : w.heap.size ≤ (w2.alloc (.cells #[.slice ta tl.length tc] 39)).heap.size := by rw [hw1]; have := HM2.out.fr.size; omega
            have hmx : zl.length + 1 ≤ maxLen := by unfold maxLen; omega
            have HSZ : Hd (s2 ≤ w2.heap.size) := Nat.le_trans HSq.out hsz2
            clear r1 r2 r3 hrow2' hfr2' HRt hsz2
            go_wp2_with ((at_builtin; refine wpList_append_lies _ rfl (.tmp 88) (.tmp 90) 57 rfl w.heap.size 39 i39 (.slice none 0 0) 1 24 under57 hi hz3 hs3 hb3 rfl (by omega) u14 _ _ rfl HR1.out ⟨w2.heap.size, 0, none⟩ 1 1 [.slice ta tl.length tc] rfl rfl hnews (by intro u hu; simp at hu; subst hu; rfl) (by omega) hmx (by omega) hbase (w2.heap.size + 1) hw1 ?_; intro g6 cap6 w6 hown6 hgrow6 hat6 hlt6))
            obtain ⟨m6, r6, k6, s6⟩ := rows_grown2 HM2.out HSZ.out HR1.out HR2.out HR3.out HT2.out HTF.out hown6 hgrow6 hat6
            refine ⟨⟨q + 1, gs2, by simp, by omega, Nat.le_trans HSZ.out s6, m6, k6 _ _ _ HG2.out (fun j h => h), by rw [range_map_snoc, HZL.out, show tellA os1 z1 q = tl from HTE.out]; first | exact r6 | (rw [hzq] at r6; exact r6)⟩, by simp; omega⟩
          · have d3 : decide ((q : Int) < (os1.length : Int)) = false := by simp; omega
            obtain rfl : q = os1.length := by omega
            obtain ⟨s3, hs3⟩ : ∃ s, s = wr.heap.size := ⟨_, rfl⟩
            obtain ⟨f1, hf1⟩ : ∃ f1, (List.range os1.length).map (tellA os1 z1) = f1 := ⟨_, rfl⟩
            have HF1 : Hd ((List.range os1.length).map (tellA os1 z1) = f1) := hf1
            rw [hf1] at HRq
            clear hf1
            have HG3 : Hd (RowsL wr w.heap.size u10 mx (fun j => Free 4 gs j ∧ j < s3)) := HGq.out.mono (fun j hj h => ⟨h.1, by rw [hs3]; exact hj⟩)
            have HH3 : Hd (RowsL wr w.heap.size u14 f1 (fun j => Free 4 gs j ∧ j < s3)) := HRq.out.mono (fun j hj h => ⟨h.1, by rw [hs3]; exact hj⟩)
            have HN3 : Hd (RowsL wr w.heap.size (.slice none 0 0) ((List.range 0).map (tellA os2 z2)) (fun j => Free 4 gs j ∧ s3 ≤ j)) := RowsL.nil _ _ _
            have HS3 : Hd (s3 ≤ wr.heap.size) := Nat.le_of_eq hs3
            clear hs3 HRq HGq HSq hq h3
            go_wp2_with fail
            go_loopw [15, 18] (fun u v wr2 => ∃ (q : Nat) (gs2 : Nat → Gh), v = .int .i64 q ∧ q ≤ os2.length ∧ Hd (s3 ≤ wr2.heap.size) ∧ Hd (Mems w wr2 4 (four b0 b1 b2 b3) gs2 (fourA (runA os1 z1 k) (runA os2 z2 k) (runA os1 z1 os1.length) (runA os2 z2 q))) ∧ Hd (RowsL wr2 w.heap.size u10 mx (fun j => Free 4 gs2 j ∧ j < s3)) ∧ Hd (RowsL wr2 w.heap.size u14 f1 (fun j => Free 4 gs2 j ∧ j < s3)) ∧ Hd (RowsL wr2 w.heap.size u ((List.range q).map (tellA os2 z2)) (fun j => Free 4 gs2 j ∧ s3 ≤ j))) (fun _ v _ => match v with | .int _ q => os2.length - q.toNat | _ => 0)
            case atStart => exact ⟨0, gs, rfl, Nat.zero_le _, HS3.out, HMq.out, HG3.out, HH3.out, HN3.out⟩
            case round =>
              obtain ⟨q, gs, rfl, hq, HSq, HMq', HGq, HHq, HRq⟩ := hrel
              clear HMq HG3 HH3 HN3 HS3
              have HMq := HMq'
              clear HMq'
              by_cases h4 : q < os2.length
              · obtain ⟨pk, po, rfl, hpk, hcs⟩ := HIN2.out (by intro e; simp [e] at h4)
                obtain ⟨hcl, hI, hzl⟩ := HL2.out q h4
                obtain ⟨o, ho⟩ : ∃ o, os2[q] = o := ⟨_, rfl⟩
                have HCS : Hd (∀ v, Fr (fun _ => False) w v → ∀ j, j < 9 → v.cell? ⟨pk, po + q * 9 + j, none⟩ = (opC o)[j]?) := fun v hv j hj => by rw [← ho]; exact (hv.cell hpk (fun h => h)).trans (hcs q h4 j hj)
                rw [ho] at hcl hI
                have ho' : os2[q]? = some o := by rw [List.getElem?_eq_getElem h4, ho]
                have HRA : Hd (runA os2 z2 (q + 1) = (ansX (runA os2 z2 q) o (z2 q)).abs) := by unfold Hd; simp only [runA, ho']
                have HTA : Hd (tellA os2 z2 q = tellX (ansX (runA os2 z2 q) o (z2 q))) := by unfold Hd; simp only [tellA, ho']
                have p0 : wr.cell? ⟨pk, po + q * 9, none⟩ = some (vI o.kind) := HCS.out wr HMq.out.fr 0 (by omega)
                have p1 : wr.cell? ⟨pk, po + q * 9 + 1, none⟩ = some (vI o.on) := HCS.out wr HMq.out.fr 1 (by omega)
                have p2 : wr.cell? ⟨pk, po + q * 9 + 2, none⟩ = some (vI o.n) := HCS.out wr HMq.out.fr 2 (by omega)
                have p3 : wr.cell? ⟨pk, po + q * 9 + 3, none⟩ = some (.bool o.heap) := HCS.out wr HMq.out.fr 3 (by omega)
                have p4 : wr.cell? ⟨pk, po + q * 9 + 4, none⟩ = some (vI o.v.1) := HCS.out wr HMq.out.fr 4 (by omega)
                have p5 : wr.cell? ⟨pk, po + q * 9 + 5, none⟩ = some (vI o.v.2) := HCS.out wr HMq.out.fr 5 (by omega)
                have p6 : wr.cell? ⟨pk, po + q * 9 + 6, none⟩ = some (vI o.w.1) := HCS.out wr HMq.out.fr 6 (by omega)
                have p7 : wr.cell? ⟨pk, po + q * 9 + 7, none⟩ = some (vI o.w.2) := HCS.out wr HMq.out.fr 7 (by omega)
                have p8 : wr.cell? ⟨pk, po + q * 9 + 8, none⟩ = some o.cells := HCS.out wr HMq.out.fr 8 (by omega)
                have hk0 : (0 : Int) ≤ q := by omega
                have hk1 : (q : Int) < os2.length := by omega
                clear hcs ho ho'
                have HI : Hd _ := hI
                clear hI
                go_wp2_with fail
                clear p0 p1 p2 p3 p4 p5 p6 p7 p8
                refine (show Calls Try.prog 24 #[ptr b3, opV o] wr _ from told_mems2 HMq.out (i := 3) (by omega) o (z2 q) HI.out hcl hzl (runA_fine os2 z2 q) (by omega)).mono ?_
                rintro e w2 ⟨gs2, t1, rfl, hM2, hR2, hrow2, hfr2, hsz2⟩
                have HM2 : Hd (Mems w w2 4 (four b0 b1 b2 b3) gs2 (fourA (runA os1 z1 k) (runA os2 z2 k) (runA os1 z1 os1.length) (runA os2 z2 (q + 1)))) := hM2.congr (fun _ _ => rfl) (fun i hi => by
                  rw [HRA.out]
                  rcases i with _ | _ | _ | _ | i
                  · rfl
                  · rfl
                  · rfl
                  · rfl
                  · omega)
                obtain ⟨ta, tc, rfl⟩ := row3_slice hrow2
                have hrow2' : w2.ownsRow w.heap.size 3 1 (.slice ta (tellX (ansX (runA os2 z2 q) o (z2 q))).length tc) (tellX (ansX (runA os2 z2 q) o (z2 q))).length ((tellX (ansX (runA os2 z2 q) o (z2 q))).map vI) := hrow2
                have hfr2' : ∀ j, (Value.slice ta (tellX (ansX (runA os2 z2 q) o (z2 q))).length tc).ownBlock = some j → Free 4 gs2 j ∧ s3 ≤ j := fun j hj => ⟨(hfr2 j hj).1, Nat.le_trans HSq.out (hfr2 j hj).2⟩
                have HG2 : Hd _ := hR2 (fun j => j < s3) _ _ HGq.out
                have HH2 : Hd _ := hR2 (fun j => j < s3) _ _ HHq.out
                have HRt := hR2 (fun j => s3 ≤ j) _ _ HRq.out
                rw [show (tellX (ansX ((fourA (runA os1 z1 k) (runA os2 z2 k) (runA os1 z1 os1.length) (runA os2 z2 q)) 3) o (z2 q))) = tellA os2 z2 q from HTA.out.symm]
                rw [← HTA.out] at hrow2' hfr2'
                clear hrow2 hfr2 hM2 hR2
                obtain ⟨vs, r1, r2, r3⟩ := HRt.fr (Fr.alloc (Fr.refl (fun _ => False) w2) (.cells #[.slice ta (tellA os2 z2 q).length tc] 39)) (fun _ _ h => h)
                obtain ⟨tl, htl⟩ : ∃ tl, tellA os2 z2 q = tl := ⟨_, rfl⟩
                have HTE : Hd (tellA os2 z2 q = tl) := htl
                rw [htl] at r1 r3 hrow2' hfr2' ⊢
                clear htl
                obtain ⟨zl, hzl2⟩ : ∃ zl, (List.range q).map (tellA os2 z2) = zl := ⟨_, rfl⟩
                have HZL : Hd ((List.range q).map (tellA os2 z2) = zl) := hzl2
                have hzq : zl.length = q := by rw [← hzl2]; simp
                rw [hzl2] at r1 r3
                clear hzl2
                have HR1 : Hd _ := r1
                have HR2 : Hd _ := r2
                have HR3 : Hd _ := r3
                have HT2 : Hd _ := hrow2'
                have HTF : Hd _ := hfr2'
                obtain ⟨i39, hi, hz3, hs3, hb3⟩ := info_parts (P := Try.prog) (e := 39) (z := .slice none 0 0) (size := 1) (bytes := 24) (by kernel_rfl)
                have hnews : ∀ j u, [Value.slice ta tl.length tc][j]? = some u → (w2.alloc (.cells #[.slice ta tl.length tc] 39)).cell? ((⟨w2.heap.size, 0, none⟩ : Addr).add j) = some u :=
                  World.news_of_block (w := (w2.alloc (.cells #[.slice ta tl.length tc] 39))) (cs := #[.slice ta tl.length tc]) (heap_alloc_last w2 (.cells #[.slice ta tl.length tc] 39))
                have hw1 : (w2.alloc (.cells #[.slice ta tl.length tc] 39)).heap.size = w2.heap.size + 1 := by simp
                have hbase : w.heap.size ≤ (w2.alloc (.cells #[.slice ta tl.length tc] 39)).heap.size := by rw [hw1]; have := HM2.out.fr.size; omega
                have hmx : zl.length + 1 ≤ maxLen := by unfold maxLen; omega
                have HSZ : Hd (s3 ≤ w2.heap.size) := Nat.le_trans HSq.out hsz2
                clear r1 r2 r3 hrow2' hfr2' HRt hsz2
                go_wp2_with ((at_builtin; refine wpList_append_lies _ rfl (.tmp 104) (.tmp 106) 57 rfl w.heap.size 39 i39 (.slice none 0 0) 1 24 under57 hi hz3 hs3 hb3 rfl (by omega) u15 _ _ rfl HR1.out ⟨w2.heap.size, 0, none⟩ 1 1 [.slice ta tl.length tc] rfl rfl hnews (by intro u hu; simp at hu; subst hu; rfl) (by omega) hmx (by omega) hbase (w2.heap.size + 1) hw1 ?_; intro g6 cap6 w6 hown6 hgrow6 hat6 hlt6))
                obtain ⟨m6, r6, k6, s6⟩ := rows_grown2 HM2.out HSZ.out HR1.out HR2.out HR3.out HT2.out HTF.out hown6 hgrow6 hat6
                refine ⟨⟨q + 1, gs2, by simp, by omega, Nat.le_trans HSZ.out s6, m6, k6 _ _ _ HG2.out (fun j h => h), k6 _ _ _ HH2.out (fun j h => h), by rw [range_map_snoc, HZL.out, show tellA os2 z2 q = tl from HTE.out]; first | exact r6 | (rw [hzq] at r6; exact r6)⟩, by simp; omega⟩
              · have d4 : decide ((q : Int) < (os2.length : Int)) = false := by simp; omega
                obtain rfl : q = os2.length := by omega
                obtain ⟨s4, hs4⟩ : ∃ s, s = wr.heap.size := ⟨_, rfl⟩
                obtain ⟨f2, hf2⟩ : ∃ f2, (List.range os2.length).map (tellA os2 z2) = f2 := ⟨_, rfl⟩
                have HF2 : Hd ((List.range os2.length).map (tellA os2 z2) = f2) := hf2
                rw [hf2] at HRq
                clear hf2
                have HG4 : Hd (RowsL wr w.heap.size u10 mx (fun j => j < s4)) := HGq.out.mono (fun j hj h => by rw [hs4]; exact hj)
                have HH4 : Hd (RowsL wr w.heap.size u14 f1 (fun j => j < s4)) := HHq.out.mono (fun j hj h => by rw [hs4]; exact hj)
                have HK4 : Hd (RowsL wr w.heap.size u15 f2 (fun j => j < s4)) := HRq.out.mono (fun j hj h => by rw [hs4]; exact hj)
                have HN4 : Hd (RowsL wr w.heap.size (.slice none 0 0) (mixL os1.length os2.length (tellA os1 z1) (tellA os2 z2) 0) (fun _ => True)) := RowsL.nil _ _ _
                have HO4 : Hd (∀ j, (Value.slice none 0 0).ownBlock = some j → s4 ≤ j) := fun j e => by cases e
                have HS4 : Hd (s4 ≤ wr.heap.size) := Nat.le_of_eq hs4
                have HFF : Hd (Fr (fun _ => False) w wr) := HMq.out.fr
                have l1 : f1.length = os1.length := by rw [← HF1.out]; simp
                have l2 : f2.length = os2.length := by rw [← HF2.out]; simp
                have HL1x : Hd (∀ i, i < os1.length → f1[i]? = some (tellA os1 z1 i)) := fun i hi => by rw [← HF1.out, List.getElem?_map, List.getElem?_range hi]; rfl
                have HL2x : Hd (∀ i, i < os2.length → f2[i]? = some (tellA os2 z2 i)) := fun i hi => by rw [← HF2.out, List.getElem?_map, List.getElem?_range hi]; rfl
                clear hs4 HRq HGq HHq HMq HSq hq h4 HF1 HF2 HIN1 HIN2
                go_wp2_with fail
                go_loopw [20, 21] (fun u v wr2 => ∃ (q : Nat), v = .int .i64 q ∧ q ≤ max os1.length os2.length ∧ Hd (s4 ≤ wr2.heap.size) ∧ Hd (Fr (fun _ => False) w wr2) ∧ Hd (RowsL wr2 w.heap.size u10 mx (fun j => j < s4)) ∧ Hd (RowsL wr2 w.heap.size u14 f1 (fun j => j < s4)) ∧ Hd (RowsL wr2 w.heap.size u15 f2 (fun j => j < s4)) ∧ Hd (RowsL wr2 w.heap.size u (mixL os1.length os2.length (tellA os1 z1) (tellA os2 z2) q) (fun _ => True)) ∧ Hd (∀ j, u.ownBlock = some j → s4 ≤ j)) (fun _ v _ => match v with | .int _ q => max os1.length os2.length - q.toNat | _ => 0)
                case atStart => exact ⟨0, rfl, Nat.zero_le _, HS4.out, HFF.out, HG4.out, HH4.out, HK4.out, HN4.out, HO4.out⟩
                case round =>
                  obtain ⟨q, rfl, hq, HSq, HFq, HGq, HHq, HKq, HWq, HOq⟩ := hrel
                  clear HG4 HH4 HK4 HN4 HO4 HS4 HFF
                  have hlen := mixL_len os1.length os2.length (tellA os1 z1) (tellA os2 z2) q
                  obtain ⟨i39, hi, hz3, hs3, hb3⟩ := info_parts (P := Try.prog) (e := 39) (z := .slice none 0 0) (size := 1) (bytes := 24) (by kernel_rfl)
                  have hk0 : (0 : Int) ≤ q := by omega
                  by_cases h5 : q < os1.length
                  · obtain ⟨kb1, cp1, tv1, hv1, hc1, hrow1, hP1⟩ := HHq.out.at (HL1x.out q h5)
                    rw [l1] at hv1
                    subst hv1
                    have hob1 : kb1 < s4 := by obtain ⟨_, _, hob, _⟩ := HHq.out; exact hob kb1 rfl
                    obtain ⟨ta1, tc1, rfl⟩ := row3_slice hrow1
                    obtain ⟨tl1, htl⟩ : ∃ tl, tellA os1 z1 q = tl := ⟨_, rfl⟩
                    have HTE1 : Hd (tellA os1 z1 q = tl1) := htl
                    rw [htl] at hc1 hrow1 hP1
                    clear htl
                    have hj1 : (q : Int) < os1.length := by omega
                    have HROW1 : Hd _ := hrow1
                    have HP1 : Hd _ := hP1
                    clear hrow1 hP1
                    obtain ⟨vs, r1, -, r3⟩ := HWq.out.fr (Fr.alloc (Fr.refl (fun _ => False) wr) (.cells #[.slice ta1 tl1.length tc1] 39)) (fun _ _ h => h)
                    have HR1 : Hd _ := r1
                    have HR3 : Hd _ := r3
                    have hnews : ∀ j u, [Value.slice ta1 tl1.length tc1][j]? = some u → (wr.alloc (.cells #[.slice ta1 tl1.length tc1] 39)).cell? ((⟨wr.heap.size, 0, none⟩ : Addr).add j) = some u :=
                      World.news_of_block (w := (wr.alloc (.cells #[.slice ta1 tl1.length tc1] 39))) (cs := #[.slice ta1 tl1.length tc1]) (heap_alloc_last wr (.cells #[.slice ta1 tl1.length tc1] 39))
                    have hw1 : (wr.alloc (.cells #[.slice ta1 tl1.length tc1] 39)).heap.size = wr.heap.size + 1 := by simp
                    have hbase : w.heap.size ≤ (wr.alloc (.cells #[.slice ta1 tl1.length tc1] 39)).heap.size := by rw [hw1]; have := HFq.out.size; omega
                    have hmx : (mixL os1.length os2.length (tellA os1 z1) (tellA os2 z2) q).length + 1 ≤ maxLen := by unfold maxLen; omega
                    clear r1 r3
                    by_cases h6 : q < os2.length
                    · obtain ⟨kb2, cp2, tv2, hv2, hc2, hrow2, hP2⟩ := HKq.out.at (HL2x.out q h6)
                      rw [l2] at hv2
                      subst hv2
                      have hob2 : kb2 < s4 := by obtain ⟨_, _, hob, _⟩ := HKq.out; exact hob kb2 rfl
                      obtain ⟨ta2, tc2, rfl⟩ := row3_slice hrow2
                      obtain ⟨tl2, htl⟩ : ∃ tl, tellA os2 z2 q = tl := ⟨_, rfl⟩
                      have HTE2 : Hd (tellA os2 z2 q = tl2) := htl
                      rw [htl] at hc2 hrow2 hP2
                      clear htl
                      have hj2 : (q : Int) < os2.length := by omega
                      have HROW2 : Hd _ := hrow2
                      have HP2 : Hd _ := hP2
                      clear hrow2 hP2
                      have HKC : Hd (wr.cell? ⟨kb2, q, none⟩ = some (.slice ta2 tl2.length tc2)) := hc2
                      have hkl := cell_lt0 hc2
                      clear hc2
                      go_wp2_with (first
                        | (at_builtin
                           refine wpList_append_lies _ rfl (.tmp 124) (.tmp 129) 57 rfl w.heap.size 39 i39 (.slice none 0 0) 1 24 under57 hi hz3 hs3 hb3 rfl (by omega) u20 _ _ rfl HR1.out ⟨wr.heap.size, 0, none⟩ 1 1 [.slice ta1 tl1.length tc1] rfl rfl hnews (by intro u hu; simp at hu; subst hu; rfl) (by omega) hmx (by omega) hbase (wr.heap.size + 1) hw1 ?_
                           intro g6 cap6 w6 hown6 hgrow6 hat6 hlt6
                           obtain ⟨f6, r6, o6, k6, fr6⟩ := rows_grown4 HFq.out HSq.out HR1.out HOq.out HR3.out HROW1.out hown6 hgrow6 hat6
                           have HF6 : Hd _ := f6
                           have HR6 : Hd (RowsL w6 w.heap.size (.slice (some ⟨g6, 0, none⟩) ((mixL os1.length os2.length (tellA os1 z1) (tellA os2 z2) q).length + 1) cap6) (mixL os1.length os2.length (tellA os1 z1) (tellA os2 z2) q ++ [tl1]) (fun _ => True)) := r6
                           have HO6 : Hd _ := o6
                           have HK6 : Hd _ := k6
                           have HFR6 : Hd _ := fr6
                           have hc2 : w6.cell? ⟨kb2, q, none⟩ = some (.slice ta2 tl2.length tc2) := (fr6.cell hkl (by omega)).trans HKC.out
                           clear f6 r6 o6 k6 fr6)
                        | (at_builtin
                           obtain ⟨vs6, r1, -, r3⟩ := HR6.out.fr (Fr.alloc (Fr.refl (fun _ => False) w6) (.cells #[.slice ta2 tl2.length tc2] 39)) (fun _ _ h => h)
                           have hl7 : (mixL os1.length os2.length (tellA os1 z1) (tellA os2 z2) q ++ [tl1]).length = (mixL os1.length os2.length (tellA os1 z1) (tellA os2 z2) q).length + 1 := by simp
                           rw [hl7] at r1
                           have HS1 : Hd _ := r1
                           have HS3 : Hd _ := r3
                           have hnews7 : ∀ j u, [Value.slice ta2 tl2.length tc2][j]? = some u → (w6.alloc (.cells #[.slice ta2 tl2.length tc2] 39)).cell? ((⟨w6.heap.size, 0, none⟩ : Addr).add j) = some u :=
                             World.news_of_block (w := (w6.alloc (.cells #[.slice ta2 tl2.length tc2] 39))) (cs := #[.slice ta2 tl2.length tc2]) (heap_alloc_last w6 (.cells #[.slice ta2 tl2.length tc2] 39))
                           have hw7 : (w6.alloc (.cells #[.slice ta2 tl2.length tc2] 39)).heap.size = w6.heap.size + 1 := by simp
                           have hbase7 : w.heap.size ≤ (w6.alloc (.cells #[.slice ta2 tl2.length tc2] 39)).heap.size := by rw [hw7]; have := HF6.out.size; omega
                           have hmx7 : (mixL os1.length os2.length (tellA os1 z1) (tellA os2 z2) q).length + 1 + 1 ≤ maxLen := by unfold maxLen; omega
                           clear r1 r3
                           refine wpList_append_lies _ rfl (.tmp 135) (.tmp 140) 57 rfl w.heap.size 39 i39 (.slice none 0 0) 1 24 under57 hi hz3 hs3 hb3 rfl (by omega) _ _ _ rfl HS1.out ⟨w6.heap.size, 0, none⟩ 1 1 [.slice ta2 tl2.length tc2] rfl rfl hnews7 (by intro u hu; simp at hu; subst hu; rfl) (by omega) hmx7 (by omega) hbase7 (w6.heap.size + 1) hw7 ?_
                           intro g8 cap8 w8' hown8 hgrow8 hat8 hlt8))
                      obtain ⟨f8, r8, o8, k8, fr8⟩ := rows_grown4 (zss := mixL os1.length os2.length (tellA os1 z1) (tellA os2 z2) q ++ [tl1]) HF6.out (Nat.le_trans HSq.out HFR6.out.size) (by rw [hl7]; exact HS1.out) HO6.out HS3.out (ownsRow_fr HROW2.out HFR6.out (fun j hj e => by have := HP2.out j hj; omega)) (by rw [hl7]; exact hown8) hgrow8 hat8
                      have e2 : mixL os1.length os2.length (tellA os1 z1) (tellA os2 z2) (q + 1) = (mixL os1.length os2.length (tellA os1 z1) (tellA os2 z2) q ++ [tl1]) ++ [tl2] := by
                        simp only [mixL, if_pos h5, if_pos h6]
                        rw [show tellA os1 z1 q = tl1 from HTE1.out, show tellA os2 z2 q = tl2 from HTE2.out]
                      refine ⟨⟨q + 1, by simp, by omega, Nat.le_trans HSq.out (Nat.le_trans HFR6.out.size fr8.size), f8, k8 _ _ (HK6.out _ _ HGq.out), k8 _ _ (HK6.out _ _ HHq.out), k8 _ _ (HK6.out _ _ HKq.out), by rw [e2]; rw [hl7] at r8; exact r8, by rw [hl7] at o8; exact o8⟩, by simp; omega⟩
                    · have d6 : decide ((q : Int) < (os2.length : Int)) = false := by simp; omega
                      go_wp2_with ((at_builtin; refine wpList_append_lies _ rfl (.tmp 124) (.tmp 129) 57 rfl w.heap.size 39 i39 (.slice none 0 0) 1 24 under57 hi hz3 hs3 hb3 rfl (by omega) u20 _ _ rfl HR1.out ⟨wr.heap.size, 0, none⟩ 1 1 [.slice ta1 tl1.length tc1] rfl rfl hnews (by intro u hu; simp at hu; subst hu; rfl) (by omega) hmx (by omega) hbase (wr.heap.size + 1) hw1 ?_; intro g6 cap6 w6 hown6 hgrow6 hat6 hlt6))
                      obtain ⟨f6, r6, o6, k6, fr6⟩ := rows_grown4 HFq.out HSq.out HR1.out HOq.out HR3.out HROW1.out hown6 hgrow6 hat6
                      have e2 : mixL os1.length os2.length (tellA os1 z1) (tellA os2 z2) (q + 1) = mixL os1.length os2.length (tellA os1 z1) (tellA os2 z2) q ++ [tl1] := by
                        simp only [mixL, if_pos h5, if_neg h6, List.append_nil]
                        rw [show tellA os1 z1 q = tl1 from HTE1.out]
                      refine ⟨⟨q + 1, by simp, by omega, Nat.le_trans HSq.out fr6.size, f6, k6 _ _ HGq.out, k6 _ _ HHq.out, k6 _ _ HKq.out, by rw [e2]; exact r6, o6⟩, by simp; omega⟩
                  · have d5 : decide ((q : Int) < (os1.length : Int)) = false := by simp; omega
                    by_cases h6 : q < os2.length
                    · obtain ⟨kb2, cp2, tv2, hv2, hc2, hrow2, hP2⟩ := HKq.out.at (HL2x.out q h6)
                      rw [l2] at hv2
                      subst hv2
                      have hob2 : kb2 < s4 := by obtain ⟨_, _, hob, _⟩ := HKq.out; exact hob kb2 rfl
                      obtain ⟨ta2, tc2, rfl⟩ := row3_slice hrow2
                      obtain ⟨tl2, htl⟩ : ∃ tl, tellA os2 z2 q = tl := ⟨_, rfl⟩
                      have HTE2 : Hd (tellA os2 z2 q = tl2) := htl
                      rw [htl] at hc2 hrow2 hP2
                      clear htl
                      have hj2 : (q : Int) < os2.length := by omega
                      have HROW2 : Hd _ := hrow2
                      have HP2 : Hd _ := hP2
                      clear hrow2 hP2
                      obtain ⟨vs, r1, -, r3⟩ := HWq.out.fr (Fr.alloc (Fr.refl (fun _ => False) wr) (.cells #[.slice ta2 tl2.length tc2] 39)) (fun _ _ h => h)
                      have HR1 : Hd _ := r1
                      have HR3 : Hd _ := r3
                      have hnews : ∀ j u, [Value.slice ta2 tl2.length tc2][j]? = some u → (wr.alloc (.cells #[.slice ta2 tl2.length tc2] 39)).cell? ((⟨wr.heap.size, 0, none⟩ : Addr).add j) = some u :=
                        World.news_of_block (w := (wr.alloc (.cells #[.slice ta2 tl2.length tc2] 39))) (cs := #[.slice ta2 tl2.length tc2]) (heap_alloc_last wr (.cells #[.slice ta2 tl2.length tc2] 39))
                      have hw1 : (wr.alloc (.cells #[.slice ta2 tl2.length tc2] 39)).heap.size = wr.heap.size + 1 := by simp
                      have hbase : w.heap.size ≤ (wr.alloc (.cells #[.slice ta2 tl2.length tc2] 39)).heap.size := by rw [hw1]; have := HFq.out.size; omega
                      have hmx : (mixL os1.length os2.length (tellA os1 z1) (tellA os2 z2) q).length + 1 ≤ maxLen := by unfold maxLen; omega
                      clear r1 r3
                      go_wp2_with ((at_builtin; refine wpList_append_lies _ rfl (.tmp 135) (.tmp 140) 57 rfl w.heap.size 39 i39 (.slice none 0 0) 1 24 under57 hi hz3 hs3 hb3 rfl (by omega) u20 _ _ rfl HR1.out ⟨wr.heap.size, 0, none⟩ 1 1 [.slice ta2 tl2.length tc2] rfl rfl hnews (by intro u hu; simp at hu; subst hu; rfl) (by omega) hmx (by omega) hbase (wr.heap.size + 1) hw1 ?_; intro g6 cap6 w6 hown6 hgrow6 hat6 hlt6))
                      obtain ⟨f6, r6, o6, k6, fr6⟩ := rows_grown4 HFq.out HSq.out HR1.out HOq.out HR3.out HROW2.out hown6 hgrow6 hat6
                      have e2 : mixL os1.length os2.length (tellA os1 z1) (tellA os2 z2) (q + 1) = mixL os1.length os2.length (tellA os1 z1) (tellA os2 z2) q ++ [tl2] := by
                        simp only [mixL, if_neg h5, if_pos h6, List.append_nil]
                        rw [show tellA os2 z2 q = tl2 from HTE2.out]
                      refine ⟨⟨q + 1, by simp, by omega, Nat.le_trans HSq.out fr6.size, f6, k6 _ _ HGq.out, k6 _ _ HHq.out, k6 _ _ HKq.out, by rw [e2]; exact r6, o6⟩, by simp; omega⟩
                    · have d6 : decide ((q : Int) < (os2.length : Int)) = false := by simp; omega
                      obtain rfl : q = k := by have : k = max os1.length os2.length := HKM.out; omega
                      have HW2 := HWq.out
                      rw [show mixL os1.length os2.length (tellA os1 z1) (tellA os2 z2) q = mx from HMX.out] at HW2
                      have HWL : Hd (ListsAt wr u20 mx) := HW2.lists
                      have HGL : Hd (ListsAt wr u10 mx) := HGq.out.lists
                      have HML : Hd (∀ zs ∈ mx, zs.length ≤ 10000000000000) := by
                        have := mixL_all os1.length os2.length (tellA os1 z1) (tellA os2 z2) (fun zs => zs.length ≤ 10000000000000) (fun i hi => tellA_len os1 z1 i hi hx1) (fun i hi => tellA_len os2 z2 i hi hx2) q
                        rw [show mixL os1.length os2.length (tellA os1 z1) (tellA os2 z2) q = mx from HMX.out] at this
                        exact this
                      try rw [show mixL os1.length os2.length (tellA os1 z1) (tellA os2 z2) q = mx from HMX.out] at hlen
                      clear HW2 HWq HGq HHq HKq HOq
                      go_wp2_with fail
                      refine (eqLists_same u10 u20 mx wr HGL.out HWL.out (by omega) HML.out).mono ?_
                      rintro e w9 ⟨rfl, hF9⟩
                      go_wp2_with fail
                      go_ret
                      exact ⟨rfl, HFq.out.trans hF9⟩

end Go.Proofs.Ytmdlebolmhnhaaa
