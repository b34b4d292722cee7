import Derived.Test.YtocaepjdjhideaaQD5
namespace Go.Proofs.Ytocaepjdjhideaa
open Go.RowKit (wrap32 wrap64)
set_option linter.unusedVariables false
set_option linter.unusedSimpArgs false

set_option maxRecDepth 100000 in
set_option maxHeartbeats 4000000 in
theorem ends_any (w : World) (v sv : Value) (cl : List (List OpT)) (zs : List Int) (h : ClsAt w w.heap.size v cl) (hz : IntsAt w w.heap.size sv zs) (hn : cl.length ≤ 20000000000000) (hl : ∀ l ∈ cl, l.length ≤ 20000000000000) (hzl : zs.length ≤ 20000000000000) (hk : ∀ l ∈ cl, ∀ o ∈ l, In64 o.2.1) :
    Calls Try.prog 4 #[v, sv] w fun e w' => e = .returned (.bool true) ∧ Fr (fun _ => False) w w' := by
  have hlong := long_any w v sv cl zs h hz hn hl hzl
  have H : Hd (ClsAt w w.heap.size v cl ∧ IntsAt w w.heap.size sv zs) := ⟨h, hz⟩
  have HK : Hd (∀ l ∈ cl, ∀ o ∈ l, In64 o.2.1) := hk
  obtain ⟨ad, cap, rfl, -⟩ := h
  obtain ⟨n, en⟩ : ∃ n, n = cl.length := ⟨_, rfl⟩
  have EN : Hd (n = cl.length) := en
  rw [← en] at hn hlong ⊢
  rw [← en] at H
  clear hz hl hzl hk en
  go_enter Try.func4, Try.ntmps4
  go_wp2_with fail
  refine hlong.mono ?_
  rintro _ w0 ⟨⟨bl, rfl, hb⟩, rfl⟩
  clear hlong
  cases hbl : bl with
  | true =>
    clear hb
    go_wp2_with fail
    go_ret
    exact ⟨rfl, Fr.refl _ _⟩
  | false =>
    have HT : Hd (total cl ≤ 2147483647 ∧ zs.length ≤ 2147483647) := hb hbl
    clear hb
    go_wp2_with fail
    refine (lives_any w0).mono ?_
    rintro _ w1 ⟨rfl, hF1⟩
    have F1 : Hd (Fr (fun _ => False) w0 w1) := hF1
    have hsz1 := hF1.size
    have H1 : Hd (ClsAt w1 w1.heap.size (.slice ad n cap) cl ∧ IntsAt w1 w1.heap.size sv zs) := ⟨(H.out.1.fr hF1 (Nat.le_refl _) (fun _ _ h => h)).mono hsz1, (H.out.2.fr hF1 (Nat.le_refl _) (fun _ _ h => h)).mono hsz1⟩
    clear hF1 hbl
    by_cases h64 : 64 < n
    · have hpm := play_many w1 (.slice ad n cap) sv cl H1.out.1 (by rw [← EN.out]; exact h64)
      have hd1 : (64 : Int) < n := by omega
      have hd2 : decide ((n : Int) > 64) = true := by simp; omega
      go_wp2_with fail
      refine hpm.mono ?_
      rintro _ w2 ⟨rfl, rfl⟩
      clear hpm H1 H
      go_wp2_with fail
      go_ret
      exact ⟨rfl, F1.out⟩
    · have hpa := play_any w1 (.slice ad n cap) sv cl zs H1.out.1 H1.out.2 (by rw [← EN.out]; omega) (fun l hl => by have := total_len hl; have := HT.out.1; omega) HK.out (by have := mu_le cl; have := HT.out.1; omega) (by have := HT.out.2; omega)
      have hd1 : decide ((64 : Int) < n) = false := by simp; omega
      have hd2 : decide ((n : Int) > 64) = false := by simp; omega
      go_wp2_with fail
      refine hpa.mono ?_
      rintro _ w2 ⟨mv, k, rfl, hab, hM, hF2⟩
      clear hpa
      obtain ⟨hHist, hml⟩ := play_hist zs HK.out HT.out.1 k hab
      obtain ⟨ms, ems⟩ : ∃ ms, ms = (iter zs (begin0 cl) k).ms := ⟨_, rfl⟩
      rw [← ems] at hHist hml hM
      have hco := callsOf_any w2 w1.heap.size mv ms hM hHist.ends hHist.cnt hml
      obtain ⟨ma, mcap, rfl, hx⟩ := hM.cells
      have HX : Hd (ms ≠ [] → ∃ g, ma = some ⟨g, 0, none⟩ ∧ w1.heap.size ≤ g ∧ g < w2.heap.size ∧ ∀ i (h : i < ms.length), MomC w2 g i ms[i]) := hx
      have HH : Hd (Hist cl ms) := hHist
      have HML : Hd (ms.length ≤ 100000000000) := hml
      have F2 : Hd (Fr (fun _ => False) w1 w2) := hF2
      obtain ⟨nm, enm⟩ : ∃ nm, nm = ms.length := ⟨_, rfl⟩
      have ENM : Hd (nm = ms.length) := enm
      rw [← enm] at hco ⊢
      clear hab hM hF2 hHist hml hx ems enm
      go_wp2_with fail
      refine hco.mono ?_
      rintro _ w3 ⟨lv, rows, rfl, hrow, hall, hF3⟩
      clear hco
      have hsz2 := F2.out.size
      have hsz3 := hF3.size
      obtain ⟨la, lcap, rfl, hrc⟩ := rows_cells hrow hall
      have hRn : rows.length = (begsTo ms nm).length := hall.len.symm
      have hRle : (begsTo ms nm).length ≤ nm := begsTo_le _ _
      obtain ⟨R, eR⟩ : ∃ R, R = rows.length := ⟨_, rfl⟩
      have HRB : Hd (R = (begsTo ms nm).length) := eR.trans hRn
      have hRm : R ≤ nm := by omega
      rw [← eR] at hrc ⊢
      have HRC : Hd (0 < R → ∃ g, la = some ⟨g, 0, none⟩ ∧ g < w3.heap.size ∧ ∀ j (h1 : j < (begsTo ms nm).length), ∃ m, ms[(begsTo ms nm)[j]]? = some m ∧ w3.cell? ⟨g, j * 9, none⟩ = some (vI ((begsTo ms nm)[j] : Nat)) ∧ w3.cell? ⟨g, j * 9 + 2, none⟩ = some (vI m.op.1) ∧ w3.cell? ⟨g, j * 9 + 3, none⟩ = some (vI m.op.2.1) ∧ w3.cell? ⟨g, j * 9 + 4, none⟩ = some (.string m.op.2.2)) := hrc
      have HX3 : Hd (ms ≠ [] → ∃ g, ma = some ⟨g, 0, none⟩ ∧ g < w3.heap.size ∧ ∀ i (h : i < ms.length), w3.cell? ⟨g, i * 9, none⟩ = some (vI (ms[i].c : Nat))) := fun hne => by
        obtain ⟨g, e, -, hg, hcs⟩ := HX.out hne
        exact ⟨g, e, by omega, fun i hi => (hF3.cell hg (fun h => h)).trans (hcs i hi).c0⟩
      have HC3 : Hd (cl ≠ [] → ∃ g o, ad = some ⟨g, o, none⟩ ∧ g < w3.heap.size ∧ ∀ i (h : i < cl.length), ∃ u, w3.cell? ⟨g, o + i, none⟩ = some u ∧ OpsAt w3 w3.heap.size u cl[i]) := fun hne => by
        have hC : ClsAt w3 w3.heap.size (.slice ad n cap) cl := ((H1.out.1.fr F2.out (Nat.le_refl _) (fun _ _ h => h)).fr hF3 hsz2 (fun _ _ h => h)).mono (by omega)
        obtain ⟨ad', cap', e, hx⟩ := hC
        injection e with e1 e2 e3
        subst e1
        exact hx hne
      have F3 : Hd (Fr (fun _ => False) w0 w3) := (F1.out.trans F2.out).trans hF3
      have HF0 : Hd (Far cl ms (begsTo ms nm) (List.replicate n 0)) := by
        have := Far.start HH.out
        rw [← ENM.out, ← EN.out] at this
        exact this
      have hnm : nm ≤ 100000000000 := by rw [ENM.out]; exact HML.out
      have mk := make_ints n (by omega)
      have hn64 : n ≤ 64 := by omega
      obtain ⟨ab, eab⟩ : ∃ ab, ab = w3.heap.size := ⟨_, rfl⟩
      have EAB : Hd (ab = w3.heap.size) := eab
      have HA0 : Hd (AtW (w3.alloc (.cells (Array.replicate n (vI 0)) 3)) ab (List.replicate n 0) ∧ Fr (fun _ => False) w3 (w3.alloc (.cells (Array.replicate n (vI 0)) 3))) := by
        refine ⟨?_, (Fr.refl _ _).alloc _⟩
        unfold AtW
        rw [eab, heap_alloc_last]
        simp
      clear hrow hall hF3 hrc hRn hRle eR F1 F2 HX H1 H hsz1 hsz2 hsz3 hd1 hd2 h64 hn
      go_wp2_with fail
      rw [← eab]
      clear eab
      go_loopw [10] (fun v10 wr => ∃ j : Nat, v10 = .int .i64 j ∧ j ≤ R ∧ Hd (∃ A, Far cl ms ((begsTo ms nm).drop j) A ∧ AtW wr ab A ∧ Fr (fun _ => False) w3 wr)) (fun v _ => match v with | .int _ q => R - q.toNat | _ => 0)
      case atStart => exact ⟨0, rfl, by omega, _, HF0.out, HA0.out.1, HA0.out.2⟩
      case round =>
        obtain ⟨j, rfl, hj, HM⟩ := hrel
        by_cases hlt : j < R
        · obtain ⟨A, hFar, hAt, hF⟩ := HM.out
          obtain ⟨rg, rfl, hrg, hrcs⟩ := HRC.out (by omega)
          have hjB : j < (begsTo ms nm).length := by rw [← HRB.out]; exact hlt
          obtain ⟨m, hm, c0, c2, c3, c4⟩ := hrcs j hjB
          obtain ⟨i, ei⟩ : ∃ i, i = (begsTo ms nm)[j] := ⟨_, rfl⟩
          rw [← ei] at hm c0
          have hil : i < ms.length := (List.getElem?_eq_some_iff.1 hm).1
          obtain ⟨mg, rfl, hmg, hmcs⟩ := HX3.out (by intro e; rw [e] at hil; simp at hil)
          have hmi := hmcs i hil
          rw [(List.getElem?_eq_some_iff.1 hm).2] at hmi
          have hdrop : (begsTo ms nm).drop j = i :: (begsTo ms nm).drop (j + 1) := by rw [List.drop_eq_getElem_cons hjB, ← ei]
          rw [hdrop] at hFar
          have hmc : m.c < cl.length := HH.out.who i m hm
          obtain ⟨cb, co, rfl, hcb, hccs⟩ := HC3.out (by intro e; rw [e] at hmc; simp at hmc)
          obtain ⟨u, hu, ua, uc, rfl, huc, hux⟩ := hccs m.c hmc
          have hl : cl[m.c]? = some cl[m.c] := List.getElem?_eq_getElem hmc
          have hll : cl[m.c].length ≤ 2147483647 := Nat.le_trans (total_len (List.getElem_mem hmc)) HT.out.1
          obtain ⟨l, el⟩ : ∃ l, l = cl[m.c] := ⟨_, rfl⟩
          rw [← el] at hu hux hl hll huc
          have hcn : m.c < n := by rw [EN.out]; exact hmc
          have hcA : m.c < A.length := by rw [hFar.1]; exact hmc
          obtain ⟨o0, r0, hd0, -⟩ := hFar.next hm hl (List.getElem?_eq_getElem hcA)
          obtain ⟨ug, uo, rfl, hug, hucs⟩ := hux (by intro e; rw [e] at hd0; simp at hd0)
          have HUC : Hd (∀ t (h : t < l.length), w3.cell? ⟨ug, uo + t * 3, none⟩ = some (vI l[t].1) ∧ w3.cell? ⟨ug, uo + t * 3 + 1, none⟩ = some (vI l[t].2.1) ∧ w3.cell? ⟨ug, uo + t * 3 + 2, none⟩ = some (.string l[t].2.2)) := hucs
          obtain ⟨nl, enl⟩ : ∃ nl, nl = l.length := ⟨_, rfl⟩
          have ENL : Hd (nl = l.length) := enl
          rw [← enl] at hu hll huc
          obtain ⟨c, mb, ⟨kd, ky, vs⟩, mr⟩ := m
          simp only at hmi c2 c3 c4 hu hcn hl hcA
          have HMI : Hd (ms[i]? = some ⟨c, mb, (kd, ky, vs), mr⟩ ∧ cl[c]? = some l) := ⟨hm, hl⟩
          have HDR : Hd ((begsTo ms nm).drop j = i :: (begsTo ms nm).drop (j + 1)) := hdrop
          have HCC : Hd (w3.cell? ⟨rg, j * 9, none⟩ = some (vI i) ∧ w3.cell? ⟨rg, j * 9 + 2, none⟩ = some (vI kd) ∧ w3.cell? ⟨rg, j * 9 + 3, none⟩ = some (vI ky) ∧ w3.cell? ⟨rg, j * 9 + 4, none⟩ = some (.string vs) ∧ w3.cell? ⟨cb, co + c, none⟩ = some (.slice (some ⟨ug, uo, none⟩) nl uc)) := ⟨c0, c2, c3, c4, hu⟩
          have e0 := (hF.cell hrg (fun h => h)).trans c0
          have e1 := (hF.cell hmg (fun h => h)).trans hmi
          have HAF : Hd (Far cl ms (i :: (begsTo ms nm).drop (j + 1)) A ∧ AtW wr ab A ∧ Fr (fun _ => False) w3 wr) := ⟨hFar, hAt, hF⟩
          have hjl : (j : Int) < R := by omega
          have hj0 : (0 : Int) ≤ j := by omega
          have hinm : (i : Int) < nm := by have := ENM.out; omega
          have hi0 : (0 : Int) ≤ i := by omega
          have hc3 : (c : Int) < n := by omega
          have hc0 : (0 : Int) ≤ c := by omega
          have hcd : decide ((c : Int) < 0) = false := by simp
          have hcd2 : decide ((c : Int) ≥ n) = false := by simp; omega
          have hcd3 : decide ((n : Int) ≤ c) = false := by simp; omega
          clear HM hFar hAt hF hrcs hm c0 c2 c3 c4 hmcs hmi hdrop hccs hu hux hucs hd0 hl el enl ei hmc hcA
          go_wp2_with fail
          go_loopw [66] (fun _ w2 => Hd (∃ A, Far cl ms (i :: (begsTo ms nm).drop (j + 1)) A ∧ AtW w2 ab A ∧ Fr (fun _ => False) w3 w2)) (fun _ w2 => leftOf w2 ab c nl)
          case atStart => exact ⟨A, HAF.out⟩
          case round =>
            have HI := hrel
            obtain ⟨A2, hFar, hAt, hF⟩ := HI.out
            have hcA : c < A2.length := by rw [hFar.1, ← EN.out]; exact hcn
            obtain ⟨a, ea⟩ : ∃ a, a = A2[c] := ⟨_, rfl⟩
            have hac : A2[c]? = some a := by rw [ea]; exact List.getElem?_eq_getElem hcA
            obtain ⟨o, r, hdo, hno, hyes⟩ := hFar.next HMI.out.1 HMI.out.2 hac
            obtain ⟨hal, hla⟩ := drop_cons hdo
            obtain ⟨g0, g1, g2⟩ := HUC.out a hal
            rw [hla] at g0 g1 g2
            have hanl : a < nl := by rw [ENL.out]; exact hal
            have hug' : ug < w3.heap.size := hug
            have t0 := (hF.cell hug' (fun h => h)).trans g0
            have t1 := (hF.cell hug' (fun h => h)).trans g1
            have t2 := (hF.cell hug' (fun h => h)).trans g2
            have t3 := (hF.cell hrg (fun h => h)).trans HCC.out.2.1
            have t4 := (hF.cell hrg (fun h => h)).trans HCC.out.2.2.1
            have t5 := (hF.cell hrg (fun h => h)).trans HCC.out.2.2.2.1
            have t6 := (hF.cell hcb (fun h => h)).trans HCC.out.2.2.2.2
            have t7 := hAt.cell hac
            have t8 : wr.frozen? ⟨ab, c, none⟩ = false := frozen_of hAt c
            have ha3 : (a : Int) < nl := by omega
            have ha0 : (0 : Int) ≤ a := by omega
            have ha4 : decide ((a : Int) ≥ nl) = false := by simp; omega
            have ha5 : decide ((nl : Int) ≤ a) = false := by simp; omega
            have hab3 : w3.heap.size ≤ ab := by rw [EAB.out]; omega
            have HS : Hd (∀ N, AtW ((wr.drewN N).setCell ⟨ab, c, none⟩ (.int .i64 ((a : Int) + 1))) ab (A2.set c (a + 1)) ∧ Fr (fun _ => False) w3 ((wr.drewN N).setCell ⟨ab, c, none⟩ (.int .i64 ((a : Int) + 1))) ∧ leftOf ((wr.drewN N).setCell ⟨ab, c, none⟩ (.int .i64 ((a : Int) + 1))) ab c nl < leftOf wr ab c nl) :=
              fun N => ⟨hAt.step hac N, (hF.drewN N).setCell _ _ (Or.inr hab3), hAt.less hac hanl N⟩
            obtain ⟨okd, oky, ovs⟩ := o
            simp only at t0 t1 t2
            cases hk : knw (okd, oky, ovs) with
            | false =>
              have HNO : Hd (Far cl ms (i :: (begsTo ms nm).drop (j + 1)) (A2.set c (a + 1))) := hno hk
              have hkd := knw_false.1 hk
              simp only at hkd
              clear hno hyes hFar hAt hF HI hdo hla g0 g1 g2 hk ea hac hal HAF hrel
              rcases hkd with hkd | hkd
              · have hk1 : decide (okd < 1) = true := by simp; omega
                go_wp2_with fail
                go_quiet (fail)
                go_wp2_with fail
                exact ⟨⟨_, HNO.out, (HS.out _).1, (HS.out _).2.1⟩, (HS.out _).2.2⟩
              · have hk1 : decide (okd < 1) = false := by simp; omega
                have hk2 : decide (okd > 3) = true := by simp; omega
                have hk3 : decide (3 < okd) = true := by simp; omega
                go_wp2_with fail
                go_quiet (fail)
                go_wp2_with fail
                exact ⟨⟨_, HNO.out, (HS.out _).1, (HS.out _).2.1⟩, (HS.out _).2.2⟩
            | true =>
              obtain ⟨eo, hfar⟩ := hyes hk
              have HYES : Hd (Far cl ms ((begsTo ms nm).drop (j + 1)) (A2.set c (a + 1))) := hfar
              have hkd := knw_true.1 hk
              simp only at hkd
              simp only [Prod.mk.injEq] at eo
              obtain ⟨rfl, rfl, rfl⟩ := eo
              have hk1 : decide (okd < 1) = false := by simp; omega
              have hk2 : decide (okd > 3) = false := by simp; omega
              have hk3 : decide (3 < okd) = false := by simp; omega
              clear hno hyes hFar hAt hF HI hdo hla g0 g1 g2 hk ea hac hal HAF hrel hfar
              go_wp2_with fail
              go_quiet (fail)
              go_wp2_with fail
              go_quiet (fail)
              go_wp2_with fail
              exact ⟨⟨j + 1, by simp, by omega, _, HYES.out, (HS.out _).1, (HS.out _).2.1⟩, by simp; omega⟩
        · have hdj : decide ((j : Int) < R) = false := by simp; omega
          have HV : Hd (∃ A : List Nat, Und cl A ∧ AtW wr ab A ∧ Fr (fun _ => False) w3 wr) := by
            obtain ⟨A, hFar, hAt, hF⟩ := HM.out
            rw [List.drop_eq_nil_of_le (by rw [← HRB.out]; omega)] at hFar
            exact ⟨A, ⟨hFar.1, fun c l a hl ha => ⟨(hFar.2 c l a hl ha).1, hFar.over hl ha⟩⟩, hAt, hF⟩
          clear HM HRC HX3 HF0 HA0 HH
          go_wp2_with fail
          go_loopw [12] (fun v12 wr => ∃ k : Nat, v12 = .int .i64 k ∧ k ≤ n ∧ Hd (∃ A : List Nat, Und cl A ∧ AtW wr ab A ∧ Fr (fun _ => False) w3 wr)) (fun v _ => match v with | .int _ q => n - q.toNat | _ => 0)
          case atStart => exact ⟨0, rfl, by omega, HV.out⟩
          case round =>
            obtain ⟨c, rfl, hcn', HM⟩ := hrel
            by_cases hcn : c < n
            · have hmc : c < cl.length := by rw [← EN.out]; exact hcn
              obtain ⟨cb, co, rfl, hcb, hccs⟩ := HC3.out (by intro e; rw [e] at hmc; simp at hmc)
              obtain ⟨u, hu, ua, uc, rfl, huc, hux⟩ := hccs c hmc
              have hl : cl[c]? = some cl[c] := List.getElem?_eq_getElem hmc
              have hll : cl[c].length ≤ 2147483647 := Nat.le_trans (total_len (List.getElem_mem hmc)) HT.out.1
              obtain ⟨l, el⟩ : ∃ l, l = cl[c] := ⟨_, rfl⟩
              rw [← el] at hu hux hl hll huc
              have HUX : Hd (l ≠ [] → ∃ g o, ua = some ⟨g, o, none⟩ ∧ g < w3.heap.size ∧ ∀ i (h : i < l.length), w3.cell? ⟨g, o + i * 3, none⟩ = some (vI l[i].1) ∧ w3.cell? ⟨g, o + i * 3 + 1, none⟩ = some (vI l[i].2.1) ∧ w3.cell? ⟨g, o + i * 3 + 2, none⟩ = some (.string l[i].2.2)) := hux
              obtain ⟨nl, enl⟩ : ∃ nl, nl = l.length := ⟨_, rfl⟩
              have ENL : Hd (nl = l.length) := enl
              rw [← enl] at hu hll huc
              have HL : Hd (cl[c]? = some l ∧ w3.cell? ⟨cb, co + c, none⟩ = some (.slice ua nl uc)) := ⟨hl, hu⟩
              have hc3 : (c : Int) < n := by omega
              have hc0 : (0 : Int) ≤ c := by omega
              clear hccs hu hux hl el enl hmc
              go_wp2_with fail
              go_loopw [150] (fun _ wr => Hd (∃ A : List Nat, Und cl A ∧ AtW wr ab A ∧ Fr (fun _ => False) w3 wr)) (fun _ w2 => leftOf w2 ab c nl)
              case atStart => exact HM
              case round =>
                have HI := hrel
                obtain ⟨A2, ⟨hAl, hAA⟩, hAt, hF⟩ := HI.out
                have hcA : c < A2.length := by rw [hAl, ← EN.out]; exact hcn
                obtain ⟨a, ea⟩ : ∃ a, a = A2[c] := ⟨_, rfl⟩
                have hac : A2[c]? = some a := by rw [ea]; exact List.getElem?_eq_getElem hcA
                obtain ⟨hal, hun⟩ := hAA c l a HL.out.1 hac
                have t6 := (hF.cell hcb (fun h => h)).trans HL.out.2
                have t7 := hAt.cell hac
                have t8 : wr.frozen? ⟨ab, c, none⟩ = false := frozen_of hAt c
                have hab3 : w3.heap.size ≤ ab := by rw [EAB.out]; omega
                have ha0 : (0 : Int) ≤ a := by omega
                by_cases hlta : a < nl
                · have hlt' : a < l.length := by rw [← ENL.out]; exact hlta
                  obtain ⟨ug, uo, rfl, hug, hucs⟩ := HUX.out (by intro e; rw [e] at hlt'; simp at hlt')
                  obtain ⟨g0, g1, g2⟩ := hucs a hlt'
                  have hdo : l.drop a = l[a] :: l.drop (a + 1) := List.drop_eq_getElem_cons hlt'
                  have hkn := hun l[a] (hdo ▸ List.mem_cons_self)
                  obtain ⟨o, eo⟩ : ∃ o, o = l[a] := ⟨_, rfl⟩
                  rw [← eo] at g0 g1 g2 hkn hdo
                  obtain ⟨okd, oky, ovs⟩ := o
                  have t0 := (hF.cell hug (fun h => h)).trans g0
                  simp only at t0
                  have hkd := knw_false.1 hkn
                  simp only at hkd
                  have HS : Hd (∀ N, (∃ A : List Nat, Und cl A ∧ AtW ((wr.drewN N).setCell ⟨ab, c, none⟩ (.int .i64 ((a : Int) + 1))) ab A ∧ Fr (fun _ => False) w3 ((wr.drewN N).setCell ⟨ab, c, none⟩ (.int .i64 ((a : Int) + 1)))) ∧ leftOf ((wr.drewN N).setCell ⟨ab, c, none⟩ (.int .i64 ((a : Int) + 1))) ab c nl < leftOf wr ab c nl) :=
                    fun N => ⟨⟨A2.set c (a + 1), ⟨by rw [List.length_set]; exact hAl, fun c' l' a' hl' ha' => by
                      by_cases e : c' = c
                      · subst e
                        rw [List.getElem?_set_self hcA] at ha'
                        rw [HL.out.1] at hl'
                        obtain rfl := Option.some.inj ha'
                        obtain rfl := Option.some.inj hl'
                        exact ⟨hlt', fun x hx => hun x (by rw [hdo]; exact List.mem_cons_of_mem _ hx)⟩
                      · rw [List.getElem?_set_ne (Ne.symm e)] at ha'
                        exact hAA c' l' a' hl' ha'⟩, hAt.step hac N, (hF.drewN N).setCell _ _ (Or.inr hab3)⟩, hAt.less hac hlta N⟩
                  have ha3 : (a : Int) < nl := by omega
                  clear hrel HI hAA hAt hF hun hucs g0 g1 g2 hdo hkn eo ea hac hal hAl
                  rcases hkd with hkd | hkd
                  · have hk1 : decide (okd ≥ 1) = false := by simp; omega
                    have hk1' : decide (1 ≤ okd) = false := by simp; omega
                    go_wp2_with fail
                    go_quiet (fail)
                    go_wp2_with fail
                    go_quiet (fail)
                    go_wp2_with fail
                    exact HS.out _
                  · have hk1 : decide (okd ≥ 1) = true := by simp; omega
                    have hk1' : decide (1 ≤ okd) = true := by simp; omega
                    have hk2 : decide (okd ≤ 3) = false := by simp; omega
                    go_wp2_with fail
                    go_quiet (fail)
                    go_wp2_with fail
                    go_quiet (fail)
                    go_wp2_with fail
                    exact HS.out _
                · have hda : decide ((a : Int) < nl) = false := by simp; omega
                  clear hAA hAt hun hac hal ea
                  have HI2 : Hd (∀ N, ∃ A : List Nat, Und cl A ∧ AtW (wr.drewN N) ab A ∧ Fr (fun _ => False) w3 (wr.drewN N)) := fun N => by
                    obtain ⟨A, h1, h2, h3⟩ := HI.out
                    exact ⟨A, h1, h2.drewN N, h3.drewN N⟩
                  clear hrel HI hF
                  go_wp2_with fail
                  go_quiet (fail)
                  go_wp2_with fail
                  exact ⟨⟨c + 1, by simp, by omega, HI2.out _⟩, by simp; omega⟩
            · have hdc : decide ((c : Int) < n) = false := by simp; omega
              have HE : Hd (Fr (fun _ => False) w0 wr) := by
                obtain ⟨A, -, -, hF⟩ := HM.out
                exact F3.out.trans hF
              clear HM
              go_wp2_with fail
              go_ret
              exact ⟨rfl, HE.out⟩
end Go.Proofs.Ytocaepjdjhideaa
