import Derived.Test.YtihicdbplmdjiaaGreatQX8
import Derived.Test.YtihicdbplmdjiaaGreatQH8
import Derived.Test.YtihicdbplmdjiaaGreatQEaJ
set_option linter.unusedVariables false
set_option linter.unusedSimpArgs false
namespace Go.Proofs.YtihicdbplmdjiaaGreat
open Go.RowKit (wrap32 wrap64)

set_option maxRecDepth 100000 in
set_option maxHeartbeats 8000000 in
theorem hplays_any (w : World) (v sv : Value) (cl : List (List OpT)) (zs : List Int) (h : Pl.ClsAt w w.heap.size v cl) (hz : Pl.IntsAt w w.heap.size sv zs) (hn : cl.length ≤ 20000000000000) (hl : ∀ l ∈ cl, l.length ≤ 20000000000000) (hzl : zs.length ≤ 20000000000000)
    (hk : ∀ l ∈ cl, ∀ o ∈ l, Pl.In64 o.2.1) :
    Calls Tryz.prog 3 #[v, sv] w fun e w' => e = .returned (.bool true) ∧ Fr (fun _ => False) w w' := by
  have HZ : Hd (∀ W, Fr (fun _ => False) w W → Pl.IntsAt W W.heap.size sv zs) := fun W f => (hz.fr (fr_to f) (Nat.le_refl _) (fun _ _ e => e)).mono f.size
  obtain ⟨ad, cap, rfl, hx⟩ := cls_look h
  obtain ⟨sa, scap, rfl, -⟩ := hz
  have HX : Hd (∀ k (hk : k < cl.length), ∃ g o ua uc, ad = some ⟨g, o, none⟩ ∧ ∀ W, Fr (fun _ => False) w W → W.cell? ⟨g, o + k, none⟩ = some (.slice ua cl[k].length uc) ∧ Pl.OpsAt W W.heap.size (.slice ua cl[k].length uc) cl[k]) := hx
  have HL : Hd (∀ l ∈ cl, l.length ≤ 20000000000000) := hl
  have HK : Hd (∀ l ∈ cl, ∀ o ∈ l, Pl.In64 o.2.1) := hk
  obtain ⟨n, en⟩ : ∃ n, n = cl.length := ⟨_, rfl⟩
  obtain ⟨m, em⟩ : ∃ m, m = zs.length := ⟨_, rfl⟩
  have EN : Hd (n = cl.length ∧ sumTo cl 0 = n) := ⟨en, by rw [en]; simp [sumTo]⟩
  have EM : Hd (m = zs.length) := em
  rw [← en] at hn ⊢
  rw [← em] at hzl ⊢
  clear hx hl en em h hk
  go_enter Tryz.func3, Tryz.ntmps3
  go_wp2_with fail
  go_loopw [5, 6] (fun v5 v6 wr => wr = w ∧ ∃ k q : Nat, v5 = .int .i64 q ∧ v6 = .int .i64 k ∧ k ≤ n ∧ q ≤ 50000000000000 ∧ Hd (q = sumTo cl k ∧ (k < n → q ≤ 40000000000000))) (fun _ v _ => match v with | .int _ q => n - q.toNat | _ => 0)
  case atStart => exact ⟨rfl, 0, n, rfl, rfl, by omega, by omega, EN.out.2.symm, fun _ => by omega⟩
  case round =>
    obtain ⟨rfl, k, q, rfl, rfl, hk, hq, HM⟩ := hrel
    by_cases hlt : k < n
    · have hkl : k < cl.length := by rw [← EN.out.1]; exact hlt
      by_cases hb : q ≤ 2147483647
      · obtain ⟨g, o, ua, uc, rfl, hc⟩ := HX.out k hkl
        obtain ⟨cu, -⟩ := hc _ (Fr.refl _ _)
        have hll := HL.out cl[k] (List.getElem_mem hkl)
        have HS : Hd (sumTo cl (k + 1) = q + cl[k].length) := by show _ = _; rw [sumTo_succ cl k hkl, HM.out.1]
        generalize cl[k].length = ln at *
        have hd1 : decide ((q : Int) > 2147483647) = false := by simp; omega
        have hk3 : (k : Int) < n := by omega
        have hk0 : (0 : Int) ≤ k := by omega
        clear hc HM
        go_wp2_with (go_at_call 4; refine (Long_any _ _).mono ?_; rintro _ wz ⟨rfl, rfl⟩; rw [hd1])
        refine ⟨⟨trivial, k + 1, q + ln, by simp, by simp, by omega, by omega, HS.out.symm, fun _ => by omega⟩, by simp; omega⟩
      · have hd1 : decide ((q : Int) > 2147483647) = true := by simp; omega
        clear HM
        go_wp2_with (go_at_call 4; refine (Long_any _ _).mono ?_; rintro _ wz ⟨rfl, rfl⟩; rw [hd1])
        go_ret
        exact ⟨rfl, Fr.refl _ _⟩
    · have ek : Hd (q = cl.length + (cl.map List.length).sum) := by
        show _ = _
        have : k = cl.length := by have := EN.out.1; omega
        rw [HM.out.1, this]; unfold sumTo; rw [List.take_length]
      have hdk : decide ((k : Int) < n) = false := by simp; omega
      by_cases hb : q ≤ 2147483647
      · have hd1 : decide ((q : Int) > 2147483647) = false := by simp; omega
        by_cases hm : m ≤ 2147483647
        · have hd2 : decide ((m : Int) > 2147483647) = false := by simp; omega
          have hlt2 : ¬ (k : Int) < n := by omega
          clear HM
          go_wp2_with (go_at_call 4; (first | (refine (Long_any (q : Int) _).mono ?_; rintro _ wz ⟨rfl, e⟩; subst wz; rw [hd1]) | (refine (Long_any (m : Int) _).mono ?_; rintro _ wz ⟨rfl, e⟩; subst wz; rw [hd2]) | skip))
          refine (lives_any _).mono ?_
          rintro _ w1 ⟨rfl, hf1⟩
          obtain ⟨w, ew⟩ : ∃ w, w = wr := ⟨_, rfl⟩
          rw [← ew] at hf1 HX HZ
          have EW : Hd (w = wr) := ew
          have HF1 : Hd (Fr (fun _ => False) w w1) := hf1
          clear ew
          clear hf1
          go_wp2_with fail
          go_loopw [8, 9, 10, 11, 12, 13] (fun v8 v9 v10 _ _ _ wx => ∃ k c : Nat, v8 = .int .i64 c ∧ v10 = .int .i64 k ∧ k ≤ n ∧ c ≤ 2147483647 ∧ Hd (c = nKnown (cl.take k) ∧ Fr (fun _ => False) w wx ∧ ∃ lvs, RtAt wx w.heap.size v9 (turnL (cl.take k)) lvs)) (fun _ _ v _ _ _ _ => match v with | .int _ q => n - q.toNat | _ => 0)
          case atStart => exact ⟨0, 0, rfl, rfl, by omega, by omega, rfl, HF1.out, [], RtAt.nil _ _⟩
          case round =>
            obtain ⟨k, c, rfl, rfl, hk, hc, HR⟩ := hrel
            by_cases hlt : k < n
            · have k0 : (0 : Int) ≤ k := by omega
              have k1 : (k : Int) < n := by omega
              have hkl : k < cl.length := by rw [← EN.out.1]; exact hlt
              obtain ⟨g, o, ua, uc, rfl, hcW⟩ := HX.out k hkl
              obtain ⟨l, el⟩ : ∃ l, l = cl[k] := ⟨_, rfl⟩
              rw [← el] at hcW
              have hml : l ∈ cl := by rw [el]; exact List.getElem_mem hkl
              have HB : Hd (c + (l.filter Pl.knw).length ≤ 2147483647 ∧ l.length ≤ 2147483647 ∧ nKnown (cl.take (k + 1)) = c + (l.filter Pl.knw).length ∧ turnL (cl.take (k + 1)) = turnL (cl.take k) ++ [l.map turnO]) := by
                have h1 := known_succ cl k hkl
                have h2 := known_take cl (k + 1)
                have h3 := known_le cl
                have h4 := Pl.total_len hml
                have h5 := turn_take cl k hkl
                have h6 := ek.out
                rw [← el] at h1 h5
                unfold Pl.total at h4
                have h7 := HR.out.1
                exact ⟨by omega, by omega, by omega, h5⟩
              obtain ⟨ln, eln⟩ : ∃ ln, ln = l.length := ⟨_, rfl⟩
              have hln : ln ≤ 2147483647 := by rw [eln]; exact HB.out.2.1
              have ELN : Hd (ln = l.length ∧ l ∈ cl) := ⟨eln, hml⟩
              rw [← eln] at hcW
              have HQ : Hd (∀ W, Fr (fun _ => False) w W → W.cell? ⟨g, o + k, none⟩ = some (.slice ua ln uc) ∧ Pl.OpsAt W W.heap.size (.slice ua ln uc) l) := hcW
              obtain ⟨lvs, hrt⟩ := HR.out.2.2
              have HT : Hd (c = nKnown (cl.take k) ∧ Fr (fun _ => False) w wr ∧ RtAt wr w.heap.size u9 (turnL (cl.take k)) lvs) := ⟨HR.out.1, HR.out.2.1, hrt⟩
              clear hcW el hml eln HR hrt hkl
              go_wp2_with fail
              go_loopw [8, 11, 12, 13] (fun v8 v11 v12 _ wx => ∃ j c2 : Nat, v8 = .int .i64 c2 ∧ v12 = .int .i64 j ∧ j ≤ ln ∧ c2 ≤ 2147483647 ∧ Hd (c2 = c + kn l j ∧ Mk2 w wx v11 u9 (turnL (cl.take k)) ((l.take j).map turnO) lvs)) (fun _ _ v _ _ => match v with | .int _ q => ln - q.toNat | _ => 0)
              case atStart => exact ⟨0, c, rfl, rfl, by omega, by omega, by simp [kn], HT.out.2.1, HT.out.2.2, World.ownsRow_nil _ _ _ _, fun g e => by cases e⟩
              case round =>
                obtain ⟨j, c2, rfl, rfl, hj, hc2, HI⟩ := hrel
                by_cases hjl : j < ln
                · have j0 : (0 : Int) ≤ j := by omega
                  have j1 : (j : Int) < ln := by omega
                  have hjl2 : j < l.length := by have := ELN.out.1; omega
                  obtain ⟨cu, ho⟩ := HQ.out wr HI.out.2.fr
                  obtain ⟨g2, o2, rfl, x0, x1, x2⟩ := ops_look ho j hjl2
                  have HOP : Hd ((l.take (j + 1)).map turnO = (l.take j).map turnO ++ [turnO l[j]] ∧ kn l (j + 1) = kn l j + if Pl.knw l[j] = true then 1 else 0) := ⟨turn_takeO l j hjl2, kn_succ l j hjl2⟩
                  have HKN : Hd (c2 + (if Pl.knw l[j] = true then 1 else 0) ≤ 2147483647 ∧ ((l.take j).map turnO).length = j) := by
                    have h1 := kn_succ l j hjl2
                    have h2 := HB.out.1
                    have h3 := HI.out.1
                    have h4 := kn_le2 l (j + 1)
                    exact ⟨by omega, by rw [List.length_map, List.length_take]; omega⟩
                  obtain ⟨op, eop⟩ : ∃ op, op = l[j] := ⟨_, rfl⟩
                  rw [← eop] at x0 x1 x2 HOP HKN
                  clear eop ho hjl2
                  obtain ⟨kd, ky, v⟩ := op
                  simp only at x0 x1 x2
                  by_cases h1 : kd = 1
                  · subst h1
                    go_upto_region 25 with fail
                    obtain ⟨W2, eW2⟩ : ∃ W2, W2 = wr.alloc (.cells #[vI (1), vI ky, .string v] 28) := ⟨_, rfl⟩
                    have hb : W2.heap[wr.heap.size]? = some (.cells #[vI (1), vI (ky), .string v] 28) := by rw [eW2]; exact heap_alloc_last wr _
                    have hf : Fr (fun _ => False) wr W2 := by rw [eW2]; exact (Fr.refl _ wr).alloc _
                    have eT : turnO (1, ky, v) = (1, ky, v) := by simp [turnO]
                    have eK : Pl.knw (1, ky, v) = true := by simp [Pl.knw, Pl.known]
                    rw [← eW2]
                    obtain ⟨g3, cap3, w4, hr, hM⟩ := (HI.out.2.far hf).app (1, ky, v) (by rw [HKN.out.2]; omega)
                    rw [HKN.out.2] at hr hM
                    have HA : Hd ((Builtin.append_ #[25, 25] 25 #[u11, .slice (some ⟨W2.heap.size, 0, none⟩) 1 1]).run Tryz.prog (W2.alloc (.cells #[vI (1), vI (ky), .string v] 28)) = .ok (.slice (some ⟨g3, 0, none⟩) (j + 1) cap3) w4) := hr
                    have HE : Hd (c2 + 1 = c + kn l (j + 1) ∧ c2 + 1 ≤ 2147483647 ∧ Mk2 w w4 (.slice (some ⟨g3, 0, none⟩) (j + 1) cap3) u9 (turnL (cl.take k)) ((l.take (j + 1)).map turnO) lvs) := by
                      have q1 := HOP.out.2
                      have q2 := HKN.out.1
                      rw [eK] at q1 q2
                      simp only [if_true, Bool.false_eq_true, if_false] at q1 q2
                      have q3 := HI.out.1
                      refine ⟨by omega, by omega, ?_⟩
                      rw [HOP.out.1, eT]; exact hM
                    have y0 : W2.cell? ⟨wr.heap.size, 0, none⟩ = some (vI (1)) := cell_of hb 0
                    have y1 : W2.cell? ⟨wr.heap.size, 1, none⟩ = some (vI (ky)) := cell_of hb 1
                    have y2 : W2.cell? ⟨wr.heap.size, 2, none⟩ = some (.string v) := cell_of hb 2
                    obtain ⟨pb, epb⟩ : ∃ pb, pb = wr.heap.size := ⟨_, rfl⟩
                    rw [← epb] at y0 y1 y2 ⊢
                    clear hb hf eW2 epb hr hM eT eK HOP HKN HI x0 x1 x2 cu
                    go_wp2_with (at_builtin; refine wpList_append_run rfl (.tmp 86) (.tmp 88) 25 rfl _ _ _ rfl rfl HA.out ?_)
                    exact ⟨⟨j + 1, c2 + 1, by simp, by simp, by omega, HE.out.2.1, HE.out.1, HE.out.2.2⟩, by simp; omega⟩
                  · by_cases h2 : kd = 2
                    · subst h2
                      go_upto_region 25 with fail
                      obtain ⟨W2, eW2⟩ : ∃ W2, W2 = wr.alloc (.cells #[vI (2), vI ky, .string ⟨#[]⟩] 28) := ⟨_, rfl⟩
                      have hb : W2.heap[wr.heap.size]? = some (.cells #[vI (2), vI (ky), .string ⟨#[]⟩] 28) := by rw [eW2]; exact heap_alloc_last wr _
                      have hf : Fr (fun _ => False) wr W2 := by rw [eW2]; exact (Fr.refl _ wr).alloc _
                      have eT : turnO (2, ky, v) = (2, ky, ⟨#[]⟩) := by simp [turnO]
                      have eK : Pl.knw (2, ky, v) = true := by simp [Pl.knw, Pl.known]
                      rw [← eW2]
                      obtain ⟨g3, cap3, w4, hr, hM⟩ := (HI.out.2.far hf).app (2, ky, ⟨#[]⟩) (by rw [HKN.out.2]; omega)
                      rw [HKN.out.2] at hr hM
                      have HA : Hd ((Builtin.append_ #[25, 25] 25 #[u11, .slice (some ⟨W2.heap.size, 0, none⟩) 1 1]).run Tryz.prog (W2.alloc (.cells #[vI (2), vI (ky), .string ⟨#[]⟩] 28)) = .ok (.slice (some ⟨g3, 0, none⟩) (j + 1) cap3) w4) := hr
                      have HE : Hd (c2 + 1 = c + kn l (j + 1) ∧ c2 + 1 ≤ 2147483647 ∧ Mk2 w w4 (.slice (some ⟨g3, 0, none⟩) (j + 1) cap3) u9 (turnL (cl.take k)) ((l.take (j + 1)).map turnO) lvs) := by
                        have q1 := HOP.out.2
                        have q2 := HKN.out.1
                        rw [eK] at q1 q2
                        simp only [if_true, Bool.false_eq_true, if_false] at q1 q2
                        have q3 := HI.out.1
                        refine ⟨by omega, by omega, ?_⟩
                        rw [HOP.out.1, eT]; exact hM
                      have y0 : W2.cell? ⟨wr.heap.size, 0, none⟩ = some (vI (2)) := cell_of hb 0
                      have y1 : W2.cell? ⟨wr.heap.size, 1, none⟩ = some (vI (ky)) := cell_of hb 1
                      have y2 : W2.cell? ⟨wr.heap.size, 2, none⟩ = some (.string ⟨#[]⟩) := cell_of hb 2
                      obtain ⟨pb, epb⟩ : ∃ pb, pb = wr.heap.size := ⟨_, rfl⟩
                      rw [← epb] at y0 y1 y2 ⊢
                      clear hb hf eW2 epb hr hM eT eK HOP HKN HI x0 x1 x2 cu
                      go_wp2_with (at_builtin; refine wpList_append_run rfl (.tmp 86) (.tmp 88) 25 rfl _ _ _ rfl rfl HA.out ?_)
                      exact ⟨⟨j + 1, c2 + 1, by simp, by simp, by omega, HE.out.2.1, HE.out.1, HE.out.2.2⟩, by simp; omega⟩
                    · by_cases h3 : kd = 3
                      · subst h3
                        go_upto_region 25 with fail
                        obtain ⟨W2, eW2⟩ : ∃ W2, W2 = wr.alloc (.cells #[vI (3), vI 0, .string ⟨#[]⟩] 28) := ⟨_, rfl⟩
                        have hb : W2.heap[wr.heap.size]? = some (.cells #[vI (3), vI (0), .string ⟨#[]⟩] 28) := by rw [eW2]; exact heap_alloc_last wr _
                        have hf : Fr (fun _ => False) wr W2 := by rw [eW2]; exact (Fr.refl _ wr).alloc _
                        have eT : turnO (3, ky, v) = (3, 0, ⟨#[]⟩) := by simp [turnO]
                        have eK : Pl.knw (3, ky, v) = true := by simp [Pl.knw, Pl.known]
                        rw [← eW2]
                        obtain ⟨g3, cap3, w4, hr, hM⟩ := (HI.out.2.far hf).app (3, 0, ⟨#[]⟩) (by rw [HKN.out.2]; omega)
                        rw [HKN.out.2] at hr hM
                        have HA : Hd ((Builtin.append_ #[25, 25] 25 #[u11, .slice (some ⟨W2.heap.size, 0, none⟩) 1 1]).run Tryz.prog (W2.alloc (.cells #[vI (3), vI (0), .string ⟨#[]⟩] 28)) = .ok (.slice (some ⟨g3, 0, none⟩) (j + 1) cap3) w4) := hr
                        have HE : Hd (c2 + 1 = c + kn l (j + 1) ∧ c2 + 1 ≤ 2147483647 ∧ Mk2 w w4 (.slice (some ⟨g3, 0, none⟩) (j + 1) cap3) u9 (turnL (cl.take k)) ((l.take (j + 1)).map turnO) lvs) := by
                          have q1 := HOP.out.2
                          have q2 := HKN.out.1
                          rw [eK] at q1 q2
                          simp only [if_true, Bool.false_eq_true, if_false] at q1 q2
                          have q3 := HI.out.1
                          refine ⟨by omega, by omega, ?_⟩
                          rw [HOP.out.1, eT]; exact hM
                        have y0 : W2.cell? ⟨wr.heap.size, 0, none⟩ = some (vI (3)) := cell_of hb 0
                        have y1 : W2.cell? ⟨wr.heap.size, 1, none⟩ = some (vI (0)) := cell_of hb 1
                        have y2 : W2.cell? ⟨wr.heap.size, 2, none⟩ = some (.string ⟨#[]⟩) := cell_of hb 2
                        obtain ⟨pb, epb⟩ : ∃ pb, pb = wr.heap.size := ⟨_, rfl⟩
                        rw [← epb] at y0 y1 y2 ⊢
                        clear hb hf eW2 epb hr hM eT eK HOP HKN HI x0 x1 x2 cu
                        go_wp2_with (at_builtin; refine wpList_append_run rfl (.tmp 86) (.tmp 88) 25 rfl _ _ _ rfl rfl HA.out ?_)
                        exact ⟨⟨j + 1, c2 + 1, by simp, by simp, by omega, HE.out.2.1, HE.out.1, HE.out.2.2⟩, by simp; omega⟩
                      · by_cases h4 : kd < 1
                        · have h5 : ¬ kd ≥ 1 := by omega
                          go_upto_region 25 with fail
                          obtain ⟨W2, eW2⟩ : ∃ W2, W2 = wr.alloc (.cells #[vI (kd), vI ky, .string ⟨#[]⟩] 28) := ⟨_, rfl⟩
                          have hb : W2.heap[wr.heap.size]? = some (.cells #[vI (kd), vI (ky), .string ⟨#[]⟩] 28) := by rw [eW2]; exact heap_alloc_last wr _
                          have hf : Fr (fun _ => False) wr W2 := by rw [eW2]; exact (Fr.refl _ wr).alloc _
                          have eT : turnO (kd, ky, v) = (kd, ky, ⟨#[]⟩) := by simp [turnO, h1, h3]
                          have eK : Pl.knw (kd, ky, v) = false := by simp [Pl.knw, Pl.known, h1, h2, h3]
                          rw [← eW2]
                          obtain ⟨g3, cap3, w4, hr, hM⟩ := (HI.out.2.far hf).app (kd, ky, ⟨#[]⟩) (by rw [HKN.out.2]; omega)
                          rw [HKN.out.2] at hr hM
                          have HA : Hd ((Builtin.append_ #[25, 25] 25 #[u11, .slice (some ⟨W2.heap.size, 0, none⟩) 1 1]).run Tryz.prog (W2.alloc (.cells #[vI (kd), vI (ky), .string ⟨#[]⟩] 28)) = .ok (.slice (some ⟨g3, 0, none⟩) (j + 1) cap3) w4) := hr
                          have HE : Hd (c2 + 0 = c + kn l (j + 1) ∧ c2 + 0 ≤ 2147483647 ∧ Mk2 w w4 (.slice (some ⟨g3, 0, none⟩) (j + 1) cap3) u9 (turnL (cl.take k)) ((l.take (j + 1)).map turnO) lvs) := by
                            have q1 := HOP.out.2
                            have q2 := HKN.out.1
                            rw [eK] at q1 q2
                            simp only [if_true, Bool.false_eq_true, if_false] at q1 q2
                            have q3 := HI.out.1
                            refine ⟨by omega, by omega, ?_⟩
                            rw [HOP.out.1, eT]; exact hM
                          have y0 : W2.cell? ⟨wr.heap.size, 0, none⟩ = some (vI (kd)) := cell_of hb 0
                          have y1 : W2.cell? ⟨wr.heap.size, 1, none⟩ = some (vI (ky)) := cell_of hb 1
                          have y2 : W2.cell? ⟨wr.heap.size, 2, none⟩ = some (.string ⟨#[]⟩) := cell_of hb 2
                          obtain ⟨pb, epb⟩ : ∃ pb, pb = wr.heap.size := ⟨_, rfl⟩
                          rw [← epb] at y0 y1 y2 ⊢
                          clear hb hf eW2 epb hr hM eT eK HOP HKN HI x0 x1 x2 cu
                          go_wp2_with (at_builtin; refine wpList_append_run rfl (.tmp 86) (.tmp 88) 25 rfl _ _ _ rfl rfl HA.out ?_)
                          exact ⟨⟨j + 1, c2 + 0, by simp, by simp, by omega, HE.out.2.1, HE.out.1, HE.out.2.2⟩, by simp; omega⟩
                        · have h5 : kd ≥ 1 := by omega
                          have h6 : ¬ kd ≤ 3 := by omega
                          go_upto_region 25 with fail
                          obtain ⟨W2, eW2⟩ : ∃ W2, W2 = wr.alloc (.cells #[vI (kd), vI ky, .string ⟨#[]⟩] 28) := ⟨_, rfl⟩
                          have hb : W2.heap[wr.heap.size]? = some (.cells #[vI (kd), vI (ky), .string ⟨#[]⟩] 28) := by rw [eW2]; exact heap_alloc_last wr _
                          have hf : Fr (fun _ => False) wr W2 := by rw [eW2]; exact (Fr.refl _ wr).alloc _
                          have eT : turnO (kd, ky, v) = (kd, ky, ⟨#[]⟩) := by simp [turnO, h1, h3]
                          have eK : Pl.knw (kd, ky, v) = false := by simp [Pl.knw, Pl.known, h1, h2, h3]
                          rw [← eW2]
                          obtain ⟨g3, cap3, w4, hr, hM⟩ := (HI.out.2.far hf).app (kd, ky, ⟨#[]⟩) (by rw [HKN.out.2]; omega)
                          rw [HKN.out.2] at hr hM
                          have HA : Hd ((Builtin.append_ #[25, 25] 25 #[u11, .slice (some ⟨W2.heap.size, 0, none⟩) 1 1]).run Tryz.prog (W2.alloc (.cells #[vI (kd), vI (ky), .string ⟨#[]⟩] 28)) = .ok (.slice (some ⟨g3, 0, none⟩) (j + 1) cap3) w4) := hr
                          have HE : Hd (c2 + 0 = c + kn l (j + 1) ∧ c2 + 0 ≤ 2147483647 ∧ Mk2 w w4 (.slice (some ⟨g3, 0, none⟩) (j + 1) cap3) u9 (turnL (cl.take k)) ((l.take (j + 1)).map turnO) lvs) := by
                            have q1 := HOP.out.2
                            have q2 := HKN.out.1
                            rw [eK] at q1 q2
                            simp only [if_true, Bool.false_eq_true, if_false] at q1 q2
                            have q3 := HI.out.1
                            refine ⟨by omega, by omega, ?_⟩
                            rw [HOP.out.1, eT]; exact hM
                          have y0 : W2.cell? ⟨wr.heap.size, 0, none⟩ = some (vI (kd)) := cell_of hb 0
                          have y1 : W2.cell? ⟨wr.heap.size, 1, none⟩ = some (vI (ky)) := cell_of hb 1
                          have y2 : W2.cell? ⟨wr.heap.size, 2, none⟩ = some (.string ⟨#[]⟩) := cell_of hb 2
                          obtain ⟨pb, epb⟩ : ∃ pb, pb = wr.heap.size := ⟨_, rfl⟩
                          rw [← epb] at y0 y1 y2 ⊢
                          clear hb hf eW2 epb hr hM eT eK HOP HKN HI x0 x1 x2 cu
                          go_wp2_with (at_builtin; refine wpList_append_run rfl (.tmp 86) (.tmp 88) 25 rfl _ _ _ rfl rfl HA.out ?_)
                          exact ⟨⟨j + 1, c2 + 0, by simp, by simp, by omega, HE.out.2.1, HE.out.1, HE.out.2.2⟩, by simp; omega⟩
                · have ejl : j = ln := by omega
                  have HD : Hd (c2 = c + (l.filter Pl.knw).length ∧ Mk2 w wr u11 u9 (turnL (cl.take k)) (l.map turnO) lvs) := by
                    have q1 := HI.out.1
                    have q2 := HI.out.2
                    rw [ejl, ELN.out.1, kn_all] at q1
                    rw [ejl, ELN.out.1, List.take_length] at q2
                    exact ⟨q1, q2⟩
                  have hlen : (turnL (cl.take k)).length = k := by rw [turn_len, List.length_take]; have := EN.out.1; omega
                  have hnq : n ≤ 2147483647 := by have := ek.out; have := EN.out.1; omega
                  obtain ⟨cu, -⟩ := HQ.out wr HI.out.2.fr
                  obtain ⟨la, lc, eu⟩ := row_val HD.out.2.own
                  rw [List.length_map, ← ELN.out.1] at eu
                  subst eu
                  obtain ⟨g3, cap3, w4, hr, hF, hR⟩ := HD.out.2.done (by rw [hlen]; omega)
                  rw [hlen] at hr hR
                  have HA : Hd (_ = _) := hr
                  have HE : Hd (c2 = nKnown (cl.take (k + 1)) ∧ c2 ≤ 2147483647 ∧ Fr (fun _ => False) w w4 ∧ RtAt w4 w.heap.size (.slice (some ⟨g3, 0, none⟩) (k + 1) cap3) (turnL (cl.take (k + 1))) (lvs ++ [.slice la ln lc])) := by
                    refine ⟨?_, hc2, hF, ?_⟩
                    · rw [HB.out.2.2.1]; exact HD.out.1
                    · rw [HB.out.2.2.2]; exact hR
                  have hjl' : ¬ (j : Int) < ln := by omega
                  clear hr hF hR HD HI hlen hjl
                  go_wp2_with (at_builtin; refine wpList_append_run rfl (.tmp 90) (.tmp 92) 22 rfl _ _ _ rfl rfl HA.out ?_)
                  exact ⟨⟨k + 1, c2, by simp, by simp, by omega, HE.out.2.1, HE.out.1, HE.out.2.2.1, _, HE.out.2.2.2⟩, by simp; omega⟩
            · have ekn : k = n := by omega
              have hT : cl.length + (cl.map List.length).sum ≤ 2147483647 := by have := ek.out; omega
              have HD : Hd (c = nKnown cl ∧ Fr (fun _ => False) w wr ∧ ∃ lvs, RtAt wr w.heap.size u9 (turnL cl) lvs) := by
                have e1 : cl.take k = cl := by rw [ekn, EN.out.1, List.take_length]
                have := HR.out
                rw [e1] at this
                exact this
              obtain ⟨lvs, hrt⟩ := HD.out.2.2
              obtain ⟨ra, rc, er⟩ := row_val hrt.row
              have HP : Hd (Calls Tryz.prog 6 #[u9, .slice sa m scap] wr fun e w' => PlayT (turnL cl) wr e w') := by
                show Calls Tryz.prog 6 #[u9, .slice sa m scap] wr fun e w' => PlayT (turnL cl) wr e w'
                rw [EM.out]
                exact play_told wr u9 _ (turnL cl) zs hrt.cls (HZ.out wr HD.out.2.1) (turn_keys HK.out) (turn_right cl) (by rw [turn_len, turn_sum]; exact hT) (by rw [← EM.out]; omega)
              have HG : Hd (c = nKnown cl ∧ c ≤ 2147483647 ∧ Fr (fun _ => False) w wr) := ⟨HD.out.1, hc, HD.out.2.1⟩
              clear hrt HD HR hT
              subst er
              have hlt' : ¬ (k : Int) < n := by omega
              go_upto_region 28 with (go_at_call 6; refine HP.out.mono ?_; rintro _ w2 ⟨mv, hs, rfl, hf2, hA, hlen, hkv, hcase⟩; have HA : Hd (Fr (fun _ => False) w w2 ∧ HAt2 w2 mv hs ∧ hs.length ≤ 4294967294 ∧ ∀ m ∈ hs, m.R.r.keys.length ≤ 2147483647 ∧ m.R.r.vals.length ≤ 2147483647) := ⟨HG.out.2.2.trans hf2, hA, by rw [turn_n] at hlen; have := HG.out.1; have := HG.out.2.1; omega, fun m hm => by have := hkv m hm; rw [turn_n] at this; have := HG.out.1; have := HG.out.2.1; omega⟩; rw [turn_n, turn_len, ← HG.out.1, ← EN.out.1] at hcase; have HC : Hd _ := hcase; clear hf2 hA hlen hkv hcase)
              clear HP
              have CP : Hd (Calls Tryz.prog 8 #[mv] w2 fun e w' => CpH hs w2 w' e) := copyHistory_any mv hs w2 HA.out.2.1.1 (by have := HA.out.2.2.1; omega) (fun m hm => by have := HA.out.2.2.2 m hm; omega)
              go_upto_region 29 with (first | (go_at_call 8; refine CP.out.mono ?_; rintro _ w3 ⟨c1, ms, rfl, hf3, hlen, hcp⟩; have HF3 : Hd (Fr (fun _ => False) w2 w3) := hf3; have HC1 : Hd (Cps w3 _ c1 hs ms ∧ ms.length = hs.length) := ⟨hcp, hlen⟩; clear hf3 hlen hcp) | (go_at_call 7; refine (order8_any c1 ms w3 (HC1.out.1.hat HA.out.2.1)).mono ?_; rintro _ w4 ⟨lv, ok, er, rfl, hf4, hE⟩; have HF4 : Hd (Fr (fun _ => False) w2 w4) := HF3.out.trans hf4; have HE : Hd (OrderE ms w3 w4 lv ok er) := hE; clear hf4 hE))
              rcases HC.out with ⟨hn64, hc64, hnone⟩ | ⟨hcond, cs, L, q1, q2, q3⟩
              · rcases copy_order (HC1.out.1.pl HC1.out.2) HE.out with ⟨-, rfl, rfl, rfl⟩ | ⟨cs, h1, -⟩
                · have c1' : (c : Int) > 64 := by omega
                  have c2' : (n : Int) ≤ 64 := by omega
                  clear HC HE
                  go_wp2_with fail
                  go_ret
                  exact ⟨by simp, by rw [← EW.out]; exact HA.out.1.trans HF4.out⟩
                · rw [hnone] at h1; cases h1
              · obtain ⟨rfl, rfl, os, t1, t2, t3, t4⟩ := told_order q1 q2 q3 (HC1.out.1.pl HC1.out.2) HE.out
                have hl128 : hs.length ≤ 128 := by
                  have b1 := both_len hs hs.length
                  have b2 := q1.le
                  have b3 := q1.ends
                  have b4 := congrArg List.length q1.bs
                  simp only [List.length_map] at b4
                  omega
                have PL : Hd (Calls Tryz.prog 9 #[mv, lv] w4 fun e w' => e = .returned (.bool (playedX cs os)) ∧ Fr (fun _ => False) w4 w') := played_any mv lv hs os w4 (HA.out.2.1.fr HF4.out).1 (by omega) (fun m hm => by have := HA.out.2.2.2 m hm; omega) (ownsRow_ra t4 (by simp)) (by omega) t1
                have HPX : Hd (playedX cs os = true) := t2
                clear HC HE q1 q2 q3 t1 t2 t3 t4 hl128 CP HC1
                by_cases hc64 : c ≤ 64
                · have c1' : ¬ (c : Int) > 64 := by omega
                  clear hcond
                  go_wp2_with (go_at_call 9; refine PL.out.mono ?_; rintro _ w5 ⟨rfl, hf5⟩; have HF5 : Hd (Fr (fun _ => False) w4 w5) := hf5; clear hf5; rw [HPX.out])
                  go_ret
                  exact ⟨by simp, by rw [← EW.out]; exact (HA.out.1.trans HF4.out).trans HF5.out⟩
                · have c1' : (c : Int) > 64 := by omega
                  have c2' : ¬ (n : Int) ≤ 64 := by omega
                  clear hcond
                  go_wp2_with (go_at_call 9; refine PL.out.mono ?_; rintro _ w5 ⟨rfl, hf5⟩; have HF5 : Hd (Fr (fun _ => False) w4 w5) := hf5; clear hf5; rw [HPX.out])
                  go_ret
                  exact ⟨by simp, by rw [← EW.out]; exact (HA.out.1.trans HF4.out).trans HF5.out⟩
        · have hd2 : decide ((m : Int) > 2147483647) = true := by simp; omega
          clear HM
          go_wp2_with (go_at_call 4; (first | (refine (Long_any (q : Int) _).mono ?_; rintro _ wz ⟨rfl, rfl⟩; rw [hd1]) | (refine (Long_any (m : Int) _).mono ?_; rintro _ wz ⟨rfl, rfl⟩; rw [hd2])))
          go_ret
          exact ⟨rfl, Fr.refl _ _⟩
      · have hd1 : decide ((q : Int) > 2147483647) = true := by simp; omega
        clear HM
        go_wp2_with (go_at_call 4; refine (Long_any _ _).mono ?_; rintro _ wz ⟨rfl, rfl⟩; rw [hd1])
        go_ret
        exact ⟨rfl, Fr.refl _ _⟩
end Go.Proofs.YtihicdbplmdjiaaGreat
