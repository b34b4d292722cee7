import Derived.Test.YtngbakjalmgciaaGreatQNbJ
import Derived.Test.YtngbakjalmgciaaGreatQQqJ
namespace Go.Proofs.YtngbakjalmgciaaGreat
open Go.RowKit (wrap32 wrap64)
set_option linter.unusedVariables false
set_option linter.unusedSimpArgs false

set_option maxRecDepth 100000 in
set_option maxHeartbeats 4000000 in
theorem rplay_any (w : World) (v sv : Value) (cl : List (List OpT)) (zs : List Int) (h : ClsAt w w.heap.size v cl) (hz : IntsAt w w.heap.size sv zs) (hn : cl.length ≤ 64) (hl : ∀ l ∈ cl, l.length ≤ 2147483647) (ht : tot cl ≤ 2147483647) (hk : ∀ l ∈ cl, ∀ o ∈ l, In64 o.2.1) (hmu : mu (begin0 cl) ≤ 50000000000) (hzl : zs.length ≤ 4000000000) :
    Calls Tryz.prog 9 #[v, sv] w fun e w' => ∃ mv k, e = .returned mv ∧ dReady (dIter zs (dBegin cl) k).1 = [] ∧ HsAt w' w.heap.size mv (dIter zs (dBegin cl) k).1.ms ∧ Fr (fun _ => False) w w' := by
  have HZ : Hd (IntsAt w w.heap.size sv zs) := hz
  have HL : Hd (∀ l ∈ cl, l.length ≤ 2147483647) := hl
  have HT : Hd (tot cl ≤ 2147483647) := ht
  have HK : Hd (∀ l ∈ cl, ∀ o ∈ l, In64 o.2.1) := hk
  have HMU : Hd (mu (begin0 cl) ≤ 50000000000) := hmu
  have HS0 := Sn.start w
  obtain ⟨ad, cap, rfl, hx⟩ := h
  have HCL : Hd (∀ k (hk : k < cl.length), ∃ g o u, ad = some ⟨g, o, none⟩ ∧ ∀ W, Fr (fun _ => False) w W → W.cell? ⟨g, o + k, none⟩ = some u ∧ OpsAt W W.heap.size u cl[k]) := fun k hk => by
    obtain ⟨g, o, ea, hg, hcs⟩ := hx (fun e => by rw [e] at hk; simp at hk)
    obtain ⟨u, hu, ho⟩ := hcs k hk
    exact ⟨g, o, u, ea, fun W f => ⟨(f.cell hg (fun e => e)).trans hu, (ho.fr f (Nat.le_refl _) (fun _ _ e => e)).mono f.size⟩⟩
  obtain ⟨sa, sc, rfl, -⟩ := hz
  clear hx
  obtain ⟨n, en⟩ : ∃ n, n = cl.length := ⟨_, rfl⟩
  have EN : Hd (n = cl.length) := en
  obtain ⟨zn, ez⟩ : ∃ zn, zn = zs.length := ⟨_, rfl⟩
  have EZ : Hd (zn = zs.length) := ez
  rw [← en] at hn ⊢
  rw [← ez] at hzl HZ ⊢
  have d64 : decide ((64 : Int) < n) = false := by simp; omega
  have d64' : decide ((n : Int) > 64) = false := by simp; omega
  obtain ⟨B, eB⟩ : ∃ B, B = w.heap.size := ⟨_, rfl⟩
  obtain ⟨sb, esb⟩ : ∃ sb, sb = w.heap.size + 1 := ⟨_, rfl⟩
  have EB : Hd (B = w.heap.size) := eB
  obtain ⟨w2, hw2⟩ : ∃ w2, w2 = (w.alloc (.cells #[.slice none 0 0, .slice none 0 0] 63)).alloc (.cells #[.pointer (some ⟨w.heap.size, 0, none⟩), vI 0, vI 0, vI 0, vI 0, vI 0, vI 0, vI 0, vI 0, .slice none 0 0, .slice none 0 0] 67) := ⟨_, rfl⟩
  have HW2 : Hd (w2 = (w.alloc (.cells #[.slice none 0 0, .slice none 0 0] 63)).alloc (.cells #[.pointer (some ⟨w.heap.size, 0, none⟩), vI 0, vI 0, vI 0, vI 0, vI 0, vI 0, vI 0, vI 0, .slice none 0 0, .slice none 0 0] 67)) := hw2
  have HF2 : Hd (Fr (fun _ => False) w w2) := by unfold Hd; rw [hw2]; exact ((Fr.refl _ w).alloc _).alloc _
  have HS : Hd (∃ ro, Sn w2 B sb B (.slice none 0 0) (.slice none 0 0) (.slice none 0 0) (.slice none 0 0) ro [] [] ⟨[], fun _ => 0, [], []⟩) := by
    unfold Hd
    rw [hw2, eB, esb]
    exact ⟨_, HS0⟩
  have ESB : Hd (w.heap.size + 1 = sb) := esb.symm
  clear en ez hl ht hk hmu HS0 eB esb hw2
  go_enter Tryz.func9, Tryz.ntmps9
  go_wp2_with fail
  rw [← HW2.out, ESB.out]
  go_loopw [6] (fun v6 wr => ∃ k : Nat, v6 = .int .i64 k ∧ k ≤ 8 ∧ Hd ((∃ ro, Sn wr B sb B (.slice none 0 0) (.slice none 0 0) (.slice none 0 0) (.slice none 0 0) ro [] [] ⟨[], fun j => if j < k then -1 else 0, [], []⟩) ∧ Fr (fun _ => False) w wr)) (fun v _ => match v with | .int _ q => 8 - q.toNat | _ => 0)
  case atStart =>
    refine ⟨0, rfl, by omega, ?_, HF2.out⟩
    obtain ⟨ro, hs⟩ := HS.out
    exact ⟨ro, hs.held' _ (fun j _ => by simp)⟩
  case round =>
    obtain ⟨k, rfl, hk, HM⟩ := hrel
    by_cases hlt : k < 8
    · have d1 : decide ((k : Int) < 8) = true := by simp; omega
      have k0 : (0 : Int) ≤ k := by omega
      have k8 : (k : Int) < 8 := by omega
      have HM2 : Hd ((∃ ro, Sn (wr.setCell ⟨sb, 1 + k, none⟩ (vI (-1))) B sb B (.slice none 0 0) (.slice none 0 0) (.slice none 0 0) (.slice none 0 0) ro [] [] ⟨[], fun j => if j < k + 1 then -1 else 0, [], []⟩) ∧ Fr (fun _ => False) w (wr.setCell ⟨sb, 1 + k, none⟩ (vI (-1)))) := by
        obtain ⟨⟨ro, hs⟩, hf⟩ := HM.out
        refine ⟨⟨ro, hs.putHeld k hlt (-1) _ (fun j hj => ?_)⟩, hf.setCell _ _ (Or.inr (by have := EB.out; have := hs.ge sb (by rw [hs.rs]; decide); show w.heap.size ≤ sb; omega))⟩
        by_cases e : j = k
        · rw [if_pos (by omega), if_pos e]
        · rw [if_neg e]
          by_cases e2 : j < k
          · rw [if_pos (by omega)]; simp only; rw [if_pos e2]
          · rw [if_neg (by omega)]; simp only; rw [if_neg e2]
      obtain ⟨⟨ro, hs⟩, -⟩ := HM.out
      have sl : wr.cell? ⟨sb, 1 + k, none⟩ = some (vI (if k < k then -1 else 0)) := by rw [cell_of hs.scn, scn_held _ _ _ _ _ hlt]
      have zl : wr.frozen? ⟨sb, 1 + k, none⟩ = false := frozen_of hs.scn _
      generalize (if k < k then (-1 : Int) else 0) = q at sl
      clear hs HM
      go_wp2_with fail
      exact ⟨⟨k + 1, by simp, by omega, HM2.out⟩, by simp; omega⟩
    · have d1 : decide ((k : Int) < 8) = false := by simp; omega
      have HS3 : Hd ((∃ ro, Sn wr B sb B (.slice none 0 0) (.slice none 0 0) (.slice none 0 0) (.slice none 0 0) ro [] [] (dBegin (cl.take 0))) ∧ Fr (fun _ => False) w wr) := by
        obtain ⟨⟨ro, hs⟩, hf⟩ := HM.out
        exact ⟨⟨ro, hs.held' (fun _ => -1) (fun j hj => by show (-1 : Int) = if j < k then -1 else 0; rw [if_pos (by omega)])⟩, hf⟩
      obtain ⟨w3, ew3⟩ : ∃ w3, w3 = wr := ⟨_, rfl⟩
      clear HM HS HF2 HW2 ESB
      go_wp2_with fail
      go_loopw [7] (fun v7 wx => ∃ k : Nat, v7 = .int .i64 k ∧ k ≤ n ∧ Hd ((∃ lv ro dvs, dvs.length = k ∧ Sn wx B sb B lv (.slice none 0 0) (.slice none 0 0) (.slice none 0 0) ro dvs [] (dBegin (cl.take k))) ∧ Fr (fun _ => False) w wx)) (fun v _ => match v with | .int _ q => n - q.toNat | _ => 0)
      case atStart =>
        obtain ⟨⟨ro, hs⟩, hf⟩ := HS3.out
        exact ⟨0, rfl, by omega, ⟨_, ro, [], rfl, hs⟩, hf⟩
      case round =>
        clear HS3
        obtain ⟨i, rfl, hi, HM⟩ := hrel
        by_cases hin : i < n
        · have d1 : decide ((i : Int) < (n : Int)) = true := by simp; omega
          have i0 : (0 : Int) ≤ i := by omega
          have i1 : (i : Int) < n := by omega
          have hic : i < cl.length := by rw [← EN.out]; exact hin
          obtain ⟨⟨lv, ro, dvs, hdl, hs⟩, hf⟩ := HM.out
          obtain ⟨cg, co, u, rfl, hcu⟩ := HCL.out i hic
          obtain ⟨la, lc, elv⟩ := row_val hs.row
          rw [hdl] at elv
          have cu0 := (hcu wr hf).1
          have cu1 := (hcu wr.drew hf.drew).1
          have hs9 : wr.cell? ⟨sb, 9, none⟩ = some lv := by rw [cell_of hs.scn]; rfl
          have hs9d : wr.drew.cell? ⟨sb, 9, none⟩ = some lv := hs9
          have HRT : Hd (Calls Tryz.prog 26 #[u] wr.drew fun e w' => ∃ v', e = .returned v' ∧ OpsOwn w' wr.heap.size v' (rightX cl[i]) ∧ Fr (fun _ => False) wr.drew w') := right_any u cl[i] wr.drew (hcu wr.drew hf.drew).2 (HL.out _ (List.getElem_mem hic))
          have hcu9 : Hd (∀ w1, Fr (fun _ => False) wr.drew w1 → w1.cell? ⟨cg, co + i, none⟩ = some u) := fun w1 f1 => (hcu w1 (hf.drew.trans f1)).1
          have HAD : Hd (∀ (w1 : World) (ov : Value), Fr (fun _ => False) wr.drew w1 → OpsOwn w1 wr.heap.size ov (rightX cl[i]) → _) := fun w1 ov f1 ho => hs.adds (Fr.trans (Fr.drew (Fr.refl _ wr)) f1) ho
          have HEND : Hd (∀ (w1 w6 : World) (ov : Value) (g6 cap6 : Nat), Fr (fun _ => False) wr.drew w1 → OpsOwn w1 wr.heap.size ov (rightX cl[i]) → w6.ownsRow B 68 1 (.slice (some ⟨g6, 0, none⟩) (i + 1) cap6) (i + 1) (ptrs dvs ++ [.pointer (some ⟨w1.heap.size, 0, none⟩)]) → ((w1.alloc (.cells (cl0C ov) 70)).alloc (.cells #[.pointer (some ⟨w1.heap.size, 0, none⟩)] 68)).grownBy w6 lv.ownBlock → (lv.ownBlock = some g6 ∨ g6 = w1.heap.size + 2) → w6.cell? ⟨sb, 9, none⟩ = some lv ∧ w6.frozen? ⟨sb, 9, none⟩ = false ∧ ((∃ lv ro dvs, dvs.length = i + 1 ∧ Sn (w6.setCell ⟨sb, 9, none⟩ (.slice (some ⟨g6, 0, none⟩) (i + 1) cap6)) B sb B lv (.slice none 0 0) (.slice none 0 0) (.slice none 0 0) ro dvs [] (dBegin (cl.take (i + 1)))) ∧ Fr (fun _ => False) w (w6.setCell ⟨sb, 9, none⟩ (.slice (some ⟨g6, 0, none⟩) (i + 1) cap6)))) := by
            intro w1 w6 ov g6 cap6 f1 ho hrow hgr hat
            rw [← hdl] at hrow ⊢
            obtain ⟨q1, q2, q3⟩ := hs.addCl (Fr.trans (Fr.drew (Fr.refl _ wr)) f1) ho hrow hgr hat
            have e : dBegin (cl.take (dvs.length + 1)) = { dBegin (cl.take i) with cls := (dBegin (cl.take i)).cls ++ [⟨rightX cl[i], 0, false, 0, false, rep0⟩] } := by rw [hdl]; exact dBegin_succ cl i hic
            rw [e]
            exact ⟨by rw [cell_of q1]; rfl, frozen_of q1 9, ⟨_, _, _, by simp, q2⟩, Fr.low hf q3 (by have := EB.out; omega)⟩
          obtain ⟨iP, hiP, hzP, hsP, hbP⟩ := info_parts infoP
          have hi64 : i < 64 := by omega
          have HPL : Hd (dvs.length = i) := hdl
          subst elv
          clear HM hs hf hcu hdl
          go_upto_region 11 with fail
          go_region_law (first
            | (go_simp; go_at_call 26; refine HRT.out.mono ?_; rintro _ w1 ⟨ov, rfl, ho1, hf1⟩; obtain ⟨oa, oc, eov⟩ := row_val ho1; obtain ⟨q9, q9a, q9b, hrow1, hnews1, hsz1, hB1⟩ := HAD.out w1 ov hf1 ho1; rw [HPL.out] at hrow1; generalize (rightX cl[i]).length = on at eov; subst eov; unfold cl0C at q9a q9b hrow1 hnews1 hsz1; have HO1 : Hd _ := ho1; have HF1 : Hd (Fr (fun _ => False) wr.drew w1) := hf1; have HR1 : Hd _ := hrow1; have cu2 := hcu9.out w1 hf1; clear ho1 hf1 hrow1)
            | (refine step_append_lies _ rfl (.tmp 38) (.tmp 46) 65 rfl B 68 iP (.pointer none) 1 8 underP hiP hzP hsP hbP rfl (by omega) (.slice la i lc) i _ (by simp [Act.eval, Act.put]) HR1.out ⟨w1.heap.size + 1, 0, none⟩ 1 1 [.pointer (some ⟨w1.heap.size, 0, none⟩)] (by simp [Act.eval, Act.put]) rfl hnews1 (by intro u hu; simp at hu; subst hu; rfl) (by omega) (by unfold maxLen; omega) (by omega) (by rw [hsz1]; omega) (w1.heap.size + 2) hsz1 ?_
               intro g6 cap6 w6 hown6 hgrow6 hat6 hlt6
               obtain ⟨e9, y9, hE⟩ := HEND.out w1 w6 _ g6 cap6 HF1.out HO1.out hown6 hgrow6 hat6
               have HE : Hd _ := hE
               clear hE hown6 hgrow6 hat6 hlt6))
          all_goals
            clear HEND HAD HRT hcu9
            go_wp2_with fail
            exact ⟨⟨i + 1, by simp, by omega, HE.out⟩, by simp; omega⟩
        · have d1 : decide ((i : Int) < (n : Int)) = false := by simp; omega
          have d1n : ¬ i < n := hin
          have HS4 : Hd (Snd wr B sb B n (dBegin cl) ∧ Fr (fun _ => False) w wr) := by
            obtain ⟨⟨lv, ro, dvs, hdl, hs⟩, hf⟩ := HM.out
            have e : i = n := by omega
            rw [e, List.take_of_length_le (by have := EN.out; omega)] at hs
            exact ⟨⟨lv, _, _, _, ro, dvs, [], by omega, hs⟩, hf⟩
          clear HM hin
          go_wp2_with fail
          go_loopw [8, 9] (fun v8 v9 wy => ∃ k : Nat, v9 = .int .i64 k ∧ Hd (v8 = vI (dIter zs (dBegin cl) k).2 ∧ Snd wy B sb B n (dIter zs (dBegin cl) k).1 ∧ Fr (fun _ => False) w wy ∧ k + mu (iter zs (begin0 cl) k) ≤ 50000000000)) (fun _ v _ => match v with | .int _ q => 50000000001 - q.toNat | _ => 0)
          case atStart => exact ⟨0, rfl, rfl, HS4.out.1, HS4.out.2, by have := HMU.out; simp [iter]; exact this⟩
          case round =>
            clear HS4
            obtain ⟨k, rfl, HM⟩ := hrel
            obtain ⟨ev8, ⟨lv, kv, vv, hv, ro, dvs, mvs, hdl, hs⟩, hf, hmk⟩ := HM.out
            have hok := dok_all cl zs k
            have hfa := dok_facts hok HL.out
            have hrd := rready_any hs (by omega) (fun d hd => ⟨(hfa d hd).1, (hfa d hd).2.1, (hfa d hd).2.2.2⟩)
            have hless := fun e => play_less HK.out zs k e
            have hstep := fun (p : Nat) (hp : p ∈ dReady (dIter zs (dBegin cl) k).1) (W : World) (f : Fr (fun _ => False) wr W) => rstep_any (hs.fr0 f) p hp (by omega) (fun d hd => ⟨(hfa d hd).1, (hfa d hd).2.1, (hfa d hd).2.2.1⟩) (by have := hok.mss; have := HT.out; omega) (by have := hok.tabs; have := HT.out; omega)
            have hnx := fun e => dIter_step (zs := zs) (s0 := dBegin cl) (k := k) e
            have hsH : wr.cell? ⟨sb, 10, none⟩ = some hv := by rw [cell_of hs.scn]; rfl
            have HH : Hd (∀ W, Fr (fun _ => False) wr W → W.cell? ⟨sb, 10, none⟩ = some hv ∧ HsAt W w.heap.size hv (dIter zs (dBegin cl) k).1.ms ∧ Fr (fun _ => False) w W) := fun W f => ⟨by rw [cell_of (hs.fr0 f).scn]; rfl, by rw [← EB.out]; exact (hs.fr0 f).hist, hf.trans f⟩
            have HF : Hd (Fr (fun _ => False) w wr) := hf
            have hlen : (dReady (dIter zs (dBegin cl) k).1).length ≤ 64 := by
              have h1 := List.length_filter_le (fun i => dCan (dIter zs (dBegin cl) k).1 ((dIter zs (dBegin cl) k).1.cls.getD i dc0)) (List.range (dIter zs (dBegin cl) k).1.cls.length)
              rw [List.length_range] at h1
              have h2 := hs.len
              unfold dReady
              omega
            have HPL : Hd (dvs.length = n) := hdl
            obtain ⟨t, et⟩ : ∃ t, t = (dIter zs (dBegin cl) k).1 := ⟨_, rfl⟩
            have ET : Hd (t = (dIter zs (dBegin cl) k).1) := et
            obtain ⟨last, el⟩ : ∃ last, last = (dIter zs (dBegin cl) k).2 := ⟨_, rfl⟩
            have EL : Hd (last = (dIter zs (dBegin cl) k).2) := el
            rw [← et] at hrd hstep hless hnx HH hlen
            rw [← el] at ev8 hnx
            have HSTEP : Hd (∀ (p : Nat), p ∈ dReady t → ∀ (W : World), Fr (fun _ => False) wr W → Calls Tryz.prog 29 #[.pointer (some ⟨sb, 0, none⟩), vI (p : Nat)] W fun e w' => e = .returned (.tuple #[]) ∧ Snd w' B sb B n (dStep t p) ∧ Fr (fun j => B ≤ j) W w') := fun p hp W f => by have := hstep p hp W f; rw [HPL.out] at this; exact this
            have HNX : Hd (dReady t ≠ [] → dIter zs (dBegin cl) (k + 1) = (dStep t (pickX last (dReady t) zs k), ((pickX last (dReady t) zs k : Nat) : Int))) := hnx
            have HLS : Hd (dReady t ≠ [] → mu (iter zs (begin0 cl) (k + 1)) + 1 ≤ mu (iter zs (begin0 cl) k)) := hless
            have hkb : k ≤ 50000000000 := by omega
            have HKM : Hd (k + mu (iter zs (begin0 cl) k) ≤ 50000000000) := hmk
            subst ev8
            clear HM hs hf hmk hok hfa hless hstep hnx hsH et el hdl
            go_wp2_with fail
            refine hrd.mono ?_
            rintro _ w1 ⟨rv, rfl, hO, hF1⟩
            have HF1 : Hd (Fr (fun _ => False) wr w1) := hF1
            have HO : Hd (OwnI w1 wr.heap.size rv (dReady t)) := hO
            obtain ⟨ra, rc, erv, hrx⟩ := hO.at
            obtain ⟨sh, hh⟩ : ∃ sh, sh = w1.cell? ⟨sb, 10, none⟩ := ⟨_, rfl⟩
            obtain ⟨hc10, -, -⟩ := HH.out w1 hF1
            clear hh sh hrd hF1 hO
            by_cases hR : dReady t = []
            · have HEND : Hd (dReady (dIter zs (dBegin cl) k).1 = [] ∧ HsAt w1 w.heap.size hv (dIter zs (dBegin cl) k).1.ms ∧ Fr (fun _ => False) w w1) := by
                obtain ⟨-, q1, q2⟩ := HH.out w1 HF1.out
                rw [← ET.out]
                exact ⟨hR, q1, q2⟩
              rw [hR] at erv
              simp only [List.length_nil] at erv
              subst erv
              clear hrx hlen HO HH HSTEP HNX HLS hR
              go_wp2_with fail
              go_ret
              exact ⟨hv, k, rfl, HEND.out⟩
            · obtain ⟨rg, rfl, -, hcs⟩ := hrx hR
              obtain ⟨p, ep⟩ : ∃ p, p = pickX last (dReady t) zs k := ⟨_, rfl⟩
              have hmem : p ∈ dReady t := by rw [ep]; exact pick_mem hR
              have hst := HSTEP.out p hmem w1 HF1.out
              have HFIN : Hd (∀ w2, Snd w2 B sb B n (dStep t p) → Fr (fun j => B ≤ j) w1 w2 → (vI (p : Nat) = vI (dIter zs (dBegin cl) (k + 1)).2 ∧ Snd w2 B sb B n (dIter zs (dBegin cl) (k + 1)).1 ∧ Fr (fun _ => False) w w2 ∧ k + 1 + mu (iter zs (begin0 cl) (k + 1)) ≤ 50000000000)) := fun w2 hsn hf2 => by
                rw [HNX.out hR, ← ep]
                exact ⟨rfl, hsn, Fr.low (HF.out.trans HF1.out) hf2 (by have := EB.out; omega), by have := HLS.out hR; have := HKM.out; omega⟩
              have HNXT := rnext_any wr.heap.size last rv (dReady t) w1 HO.out hR hlen
              have hpos : 0 < (dReady t).length := List.length_pos_iff.2 hR
              obtain ⟨q, hq⟩ : ∃ q, q = (dReady t).length := ⟨_, rfl⟩
              have HQ : Hd (q = (dReady t).length) := hq
              by_cases hkz : k < zs.length
              · obtain ⟨sa', sc', e1, hsx⟩ := (HZ.out.fr (HF.out.trans HF1.out) (Nat.le_refl _) (fun _ _ e => e) : IntsAt w1 w.heap.size _ zs)
                obtain ⟨sg, so, e2, -, hsc⟩ := hsx (by intro e; rw [e] at hkz; simp at hkz)
                have k0 := hsc k hkz
                have e3 : sa = some ⟨sg, so, none⟩ := by
                  injection e1 with e4 _ _
                  rw [e4, e2]
                obtain ⟨z, ez⟩ : ∃ z, z = zs[k] := ⟨_, rfl⟩
                rw [← ez] at k0
                have hb := tmod_bound z q (by omega)
                have hw : wrap64 (z.tmod q) = z.tmod q := w64 (by omega) (by omega)
                have hw2 : wrap64 (z.tmod q + q) = z.tmod q + q := w64 (by omega) (by omega)
                have hm := mod_eq z q (by omega)
                have hm0 : 0 ≤ z % (q : Int) := Int.emod_nonneg _ (by omega)
                have hm1 : z % (q : Int) < q := Int.emod_lt_of_pos _ (by omega)
                have hw3 : wrap64 ((z.tmod q + q).tmod q) = z % (q : Int) := by rw [hm]; exact w64 (by omega) (by omega)
                obtain ⟨r, er⟩ := Int.eq_ofNat_of_zero_le hm0
                have hr : r < (dReady t).length := by omega
                have cq := hcs r hr
                have ep2 : p = (dReady t)[r] := by
                  rw [ep]
                  unfold pickX
                  rw [if_pos hkz]
                  have e0 : zs.getD k 0 = z := by rw [List.getD_eq_getElem?_getD, List.getElem?_eq_getElem hkz, ez]; rfl
                  rw [e0, ← hq, er, List.getD_eq_getElem?_getD]
                  simp [hr]
                rw [← ep2] at cq
                rw [er] at hw3
                rw [er] at hm
                have hmq : (z.tmod (q : Int) + (q : Int)).tmod (q : Int) = (r : Int) := hm
                have hr0 : (0 : Int) ≤ r := by omega
                have hr1 : (r : Int) < q := by omega
                have hq0 : ¬ q = 0 := by omega
                have hq0' : ((q : Int) == 0) = false := by simp; omega
                have dq : ((q : Int) == 0) = false := hq0'
                have kz0 : (0 : Int) ≤ k := by omega
                have kz1 : (k : Int) < zn := by rw [EZ.out]; omega
                have dkz : decide ((k : Int) < (zn : Int)) = true := by simp; rw [EZ.out]; exact hkz
                rw [← hq] at erv
                subst erv
                subst e3
                clear hcs hsx hsc e1 e2 ez ep ep2 hmem hm hm0 hm1 er hR hlen hpos hq HNXT hr hkz HH HSTEP HNX HLS HO
                go_wp2_with fail
                refine hst.mono ?_
                rintro _ w2 ⟨rfl, hsn2, hf2⟩
                have HE := HFIN.out w2 hsn2 hf2
                have HE2 : Hd _ := HE
                clear hsn2 hf2 HE hst
                go_wp2_with fail
                exact ⟨⟨k + 1, by simp, HE2.out⟩, by simp; omega⟩
              · have ep2 : p = behindX last (dReady t) := by rw [ep]; unfold pickX; rw [if_neg hkz]
                rw [← ep2] at HNXT
                have hq0' : ((q : Int) == 0) = false := by simp; omega
                have hq0 : ¬ q = 0 := by omega
                have dkz : decide ((k : Int) < (zn : Int)) = false := by simp; rw [EZ.out]; omega
                have dkn : ¬ k < zn := by rw [EZ.out]; exact hkz
                rw [← hq] at erv
                subst erv
                clear hcs ep ep2 hmem hR hlen hpos hq hkz HH HSTEP HNX HLS HO
                go_wp2_with fail
                refine HNXT.mono ?_
                rintro _ w1' ⟨rfl, rfl⟩
                go_wp2_with fail
                refine hst.mono ?_
                rintro _ w2 ⟨rfl, hsn2, hf2⟩
                have HE := HFIN.out w2 hsn2 hf2
                have HE2 : Hd _ := HE
                clear hsn2 hf2 HE hst HNXT
                go_wp2_with fail
                exact ⟨⟨k + 1, by simp, HE2.out⟩, by simp; omega⟩
end Go.Proofs.YtngbakjalmgciaaGreat
