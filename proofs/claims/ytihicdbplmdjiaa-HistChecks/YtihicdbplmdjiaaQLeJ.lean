import Derived.Test.YtihicdbplmdjiaaQLdJ
import Derived.Carry
import Derived.Test.YtihicdbplmdjiaaQD1J
namespace Go.Proofs.Ytihicdbplmdjiaa
open Go.RowKit (wrap32 wrap64)
set_option linter.unusedVariables false
set_option linter.unusedSimpArgs false

set_option maxRecDepth 100000 in
set_option maxHeartbeats 4000000 in
/-- tried. -/
theorem tried_any (hv lv : Value) (h : List Mo) (cs : List Cl) (B : Nat) (hl : h.length ≤ 4000000000) (hm : ∀ m ∈ h, m.R.r.keys.length ≤ 4000000000 ∧ m.R.r.vals.length ≤ 4000000000) (hc : callsX h = some cs) :
    ∀ (k : Nat) (head : List Int) (hd : Value) (w : World), k + head.length = cs.length → HAt w hv h → ROwn w B lv cs → RowAt w hd (head.map vI) →
    Calls Try.prog 13 #[hv, lv, hd] w fun e w' => ∃ v, e = .returned v ∧ RowAt w' v ((triedX cs k head).map vI) ∧ Fr (fun _ => False) w w' := by
  have h64 : cs.length ≤ 64 := by
    have h1 := (calls_ref hc).le
    have h2 := congrArg List.length (calls_ref hc).bs
    simp only [List.length_map] at h2
    omega
  intro k
  induction k with
  | zero =>
    intro head hd w hk hh hr hhd
    have hpl := played_any hv hd h head w hh hl hm hhd (by omega) hc
    obtain ⟨da, dc, rfl⟩ := row_slice hhd
    obtain ⟨la, lc, rfl⟩ := hr.val
    simp only [List.length_map] at hpl hhd ⊢
    obtain ⟨n, en⟩ : ∃ n, n = cs.length := ⟨_, rfl⟩
    have hn : head.length = n := by omega
    rw [← en]
    rw [hn] at hpl hhd ⊢
    have HD : Hd (RowAt w (.slice da n dc) (head.map vI)) := hhd
    have HX : Hd (triedX cs 0 head = if playedX cs head then head else []) := by show triedX cs 0 head = _; unfold triedX; rfl
    obtain ⟨pl, epl⟩ : ∃ pl, pl = playedX cs head := ⟨_, rfl⟩
    rw [← epl] at hpl HX
    clear hk hh hr hhd hm hc en hn epl
    have hnn : ((n : Int) == (n : Int)) = true := by simp
    cases pl
    · go_enter Try.func13, Try.ntmps13
      go_wp2_with (go_at_call 16; refine hpl.mono ?_; rintro _ w1 ⟨rfl, hf1⟩; have HF1 : Hd (Fr _ _ _) := hf1; clear hf1)
      go_ret
      exact ⟨_, rfl, by rw [show triedX cs 0 head = _ from HX.out]; exact RowAt.nil _, HF1.out⟩
    · go_enter Try.func13, Try.ntmps13
      go_wp2_with (go_at_call 16; refine hpl.mono ?_; rintro _ w1 ⟨rfl, hf1⟩; have HF1 : Hd (Fr _ _ _) := hf1; clear hf1)
      go_ret
      exact ⟨_, rfl, by rw [show triedX cs 0 head = _ from HX.out]; exact HD.out.fr HF1.out (fun _ _ _ e => e), HF1.out⟩
  | succ k ih =>
    intro head hd w hk hh hr hhd
    have IH : Hd (∀ (c : Cl) (v : Value) (W : World), Fr (fun _ => False) w W → RowAt W v ((head ++ [(c.b : Int)]).map vI) → Calls Try.prog 13 #[hv, lv, v] W fun e w' => ∃ v, e = .returned v ∧ RowAt w' v ((triedX cs k (head ++ [(c.b : Int)])).map vI) ∧ Fr (fun _ => False) W w') := fun c v W f hv2 =>
      ih (head ++ [(c.b : Int)]) v W (by simp; omega) (hh.fr f) (hr.fr f (fun _ _ e => e)) hv2
    have HCI : Hd (∀ W, Fr (fun _ => False) w W → Calls Try.prog 31 #[hd] W fun e w' => ∃ v', e = .returned v' ∧ w'.ownsRow W.heap.size 3 1 v' head.length (head.map vI) ∧ Fr (fun _ => False) W w') := fun W f =>
      copyInts_any hd head W.heap.size W (ra_rowB (hhd.fr f (fun _ _ _ e => e))) (Nat.le_refl _) (by omega)
    have HTX : Hd (triedX cs (k + 1) head = tryL (triedX cs k) head cs) := by show triedX cs (k + 1) head = _; rw [triedX]
    obtain ⟨da, dc, rfl, hd1⟩ := hhd
    obtain ⟨la, lc, rfl⟩ := hr.val
    rw [List.length_map] at *
    have HDX : Hd (∀ i (hi : i < head.length), ∃ g o, da = some ⟨g, o, none⟩ ∧ ∀ W, Fr (fun _ => False) w W → W.cell? ⟨g, o + i, none⟩ = some (vI head[i])) := fun i hi => by
      obtain ⟨g, o, e1, e3⟩ := hd1 (by intro e; rw [List.map_eq_nil_iff] at e; subst e; simp at hi)
      have h1 := e3 i (by simpa using hi)
      refine ⟨g, o, e1, fun W f => (f.cell (cell_lt h1) (fun e => e)).trans (by rw [h1]; simp)⟩
    have HCS : Hd (∀ i (hi : i < cs.length), ∃ g, la = some ⟨g, 0, none⟩ ∧ ∀ W, Fr (fun _ => False) w W → W.cell? ⟨g, i * 9, none⟩ = some (vI cs[i].b)) := fun i hi => by
      obtain ⟨g, cap, e, -, hgl, hx⟩ := hr.cells (fun e => by rw [e] at hi; simp at hi)
      cases e
      refine ⟨g, rfl, fun W f => (f.cell hgl (fun e => e)).trans ?_⟩
      have := hx i hi 0 (by omega)
      simpa [c9] using this
    obtain ⟨n, en⟩ : ∃ n, n = cs.length := ⟨_, rfl⟩
    obtain ⟨nh, enh⟩ : ∃ nh, nh = head.length := ⟨_, rfl⟩
    have EN : Hd (n = cs.length ∧ nh = head.length) := ⟨en, enh⟩
    rw [← en] at h64 hk IH ⊢
    rw [← enh] at hk HCI ⊢
    have hne : ((nh : Int) == (n : Int)) = false := by simp; omega
    have hnh : nh ≤ 64 := by omega
    clear hk hh hr hd1 en enh ih hm hc hl
    go_enter Try.func13, Try.ntmps13
    go_upto_region 7 with fail
    go_loopw [8] (fun v8 wr => ∃ i : Nat, v8 = vI i ∧ i ≤ n ∧ Hd (Fr (fun _ => False) w wr ∧ tryL (triedX cs k) head cs = tryL (triedX cs k) head (cs.drop i))) (fun v _ => match v with | .int _ q => n - q.toNat | _ => 0)
    case atStart => exact ⟨0, rfl, by omega, Fr.refl _ _, by rw [List.drop_zero]⟩
    case round =>
      obtain ⟨i, rfl, hi, HR⟩ := hrel
      by_cases hlt : i < n
      · have i0 : (0 : Int) ≤ i := by omega
        have i1 : (i : Int) < n := by omega
        have hic : i < cs.length := by rw [← EN.out.1]; exact hlt
        obtain ⟨Wi, rfl⟩ : ∃ Wi, Wi = wr := ⟨_, rfl⟩
        obtain ⟨gc, rfl, hcx⟩ := HCS.out i hic
        obtain ⟨c, ec⟩ : ∃ c, c = cs[i] := ⟨_, rfl⟩
        rw [← ec] at hcx
        have HCX : Hd (∀ W, Fr (fun _ => False) w W → W.cell? ⟨gc, i * 9, none⟩ = some (vI c.b)) := hcx
        have HDR : Hd (cs.drop i = c :: cs.drop (i + 1)) := by rw [ec]; exact List.drop_eq_getElem_cons hic
        clear ec hcx hic
        go_upto_region 11 with fail
        go_loopw [9, 10] (fun v9 v10 w2 => ∃ p : Nat, ∃ t : Bool, v10 = vI p ∧ v9 = .bool t ∧ p ≤ nh ∧ Hd (Fr (fun _ => False) w w2 ∧ t = decide ((c.b : Int) ∈ head.take p))) (fun _ v _ => match v with | .int _ q => nh - q.toNat | _ => 0)
        case atStart => exact ⟨0, false, rfl, rfl, by omega, HR.out.1, by simp⟩
        case round =>
          obtain ⟨p, t, rfl, rfl, hp, HG⟩ := hrel
          by_cases hpn : p < nh
          · have p0 : (0 : Int) ≤ p := by omega
            have p1 : (p : Int) < nh := by omega
            have hph : p < head.length := by rw [← EN.out.2]; exact hpn
            obtain ⟨gd, od, rfl, hdx⟩ := HDX.out p hph
            have xd := hdx wr HG.out.1
            have xc := HCX.out wr HG.out.1
            obtain ⟨z, ez⟩ : ∃ z, z = head[p] := ⟨_, rfl⟩
            rw [← ez] at xd
            obtain ⟨b, eb⟩ : ∃ b : Int, b = c.b := ⟨_, rfl⟩
            have HZ : Hd (head.take (p + 1) = head.take p ++ [z] ∧ b = c.b) := ⟨by rw [List.take_add_one, List.getElem?_eq_getElem hph, ez]; rfl, eb⟩
            rw [← eb] at xc
            clear ez eb hdx
            cases t
            · by_cases hzb : z = b
              · subst hzb
                have hzz : ((z : Int) == z) = true := by simp
                go_upto_region 13 with fail
                go_quiet (fail)
                go_wp2_with fail
                refine ⟨⟨p + 1, true, by simp, rfl, by omega, HG.out.1.trans (fr_drewN _ _), ?_⟩, by simp; omega⟩
                rw [HZ.out.1, ← HZ.out.2]; simp
              · have hzz : ((z : Int) == b) = false := by simpa using hzb
                go_upto_region 13 with fail
                go_quiet (fail)
                go_wp2_with fail
                refine ⟨⟨p + 1, false, by simp, rfl, by omega, HG.out.1.trans (fr_drewN _ _), ?_⟩, by simp; omega⟩
                have h1 := HG.out.2
                have h2 : ¬ b = z := fun e => hzb e.symm
                rw [HZ.out.1, ← HZ.out.2]
                rw [← HZ.out.2] at h1
                simp [h2] at h1 ⊢
                exact h1
            · go_upto_region 13 with fail
              go_quiet (fail)
              go_wp2_with fail
              refine ⟨⟨p + 1, true, by simp, rfl, by omega, HG.out.1.trans (fr_drewN _ _), ?_⟩, by simp; omega⟩
              have h1 := of_decide_eq_true HG.out.2.symm
              rw [HZ.out.1]
              exact (decide_eq_true (List.mem_append_left _ h1)).symm
          · have p2 : ¬ (p : Int) < nh := by omega
            have HIN : Hd (t = decide ((c.b : Int) ∈ head)) := by
              have := HG.out.2
              rw [List.take_of_length_le (by have := EN.out.2; omega)] at this
              exact this
            have HFW : Hd (Fr (fun _ => False) w wr) := HG.out.1
            have HTR : Hd (tryL (triedX cs k) head cs = if (c.b : Int) ∈ head then tryL (triedX cs k) head (cs.drop (i + 1)) else if triedX cs k (head ++ [(c.b : Int)]) = [] then tryL (triedX cs k) head (cs.drop (i + 1)) else triedX cs k (head ++ [(c.b : Int)])) := by
              show _ = _
              rw [HR.out.2, HDR.out, tryL_drop]
            clear HG HDX
            cases t
            · have hni := of_decide_eq_false HIN.out.symm
              have HTR : Hd (tryL (triedX cs k) head cs = if triedX cs k (head ++ [(c.b : Int)]) = [] then tryL (triedX cs k) head (cs.drop (i + 1)) else triedX cs k (head ++ [(c.b : Int)])) := by
                have := HTR.out
                rw [if_neg hni] at this
                exact this
              clear hni HIN
              go_upto_region 15 with fail
              have HCX2 : Hd (∀ W, Fr (fun _ => False) wr W → W.cell? ⟨gc, i * 9, none⟩ = some (vI c.b)) := fun W f => HCX.out W (HFW.out.trans f)
              refine wp_region_held_drew (S := fun W2 => Fr (fun _ => False) wr W2) (by kernel_rfl) ((Fr.refl _ wr).drew) (fun hHeld => ?_)
              refine heldTake (i := 0) 49 (v := ?_) rfl rfl (by kernel_rfl) (by kernel_rfl) (by kernel_rfl) (fun _ _ _ h => h) (by kernel_rfl) (fun w hSw => (by have xc := HCX2.out w hSw; go_simp; try with_reducible rfl)) hHeld ?_
              simp only [Act.put, List.setIfInBounds_toArray, List.set_cons_zero, List.set_cons_succ]
              refine heldTake (i := 2) 51 (v := ?_) rfl rfl (by kernel_rfl) (by kernel_rfl) (by kernel_rfl) (fun _ _ _ h => h) (by kernel_rfl) (fun w hSw => (by have xc := HCX2.out w hSw; go_simp; try with_reducible rfl)) hHeld ?_
              simp only [Act.put, List.setIfInBounds_toArray, List.set_cons_zero, List.set_cons_succ]
              refine heldTake (i := 3) 52 (v := ?_) rfl rfl (by kernel_rfl) (by kernel_rfl) (by kernel_rfl) (fun _ _ _ h => h) (by kernel_rfl) (fun w hSw => (by have xc := HCX2.out w hSw; go_simp; try with_reducible rfl)) hHeld ?_
              simp only [Act.put, List.setIfInBounds_toArray, List.set_cons_zero, List.set_cons_succ]
              refine heldTake (i := 4) 53 (v := ?_) rfl rfl (by kernel_rfl) (by kernel_rfl) (by kernel_rfl) (fun _ _ _ h => h) (by kernel_rfl) (fun w hSw => (by have xc := HCX2.out w hSw; go_simp; try with_reducible rfl)) hHeld ?_
              simp only [Act.put, List.setIfInBounds_toArray, List.set_cons_zero, List.set_cons_succ]
              refine heldTake (i := 5) 54 (v := ?_) rfl rfl (by kernel_rfl) (by kernel_rfl) (by kernel_rfl) (fun _ _ _ h => h) (by kernel_rfl) (fun w hSw => (by have xc := HCX2.out w hSw; go_simp; try with_reducible rfl)) hHeld ?_
              simp only [Act.put, List.setIfInBounds_toArray, List.set_cons_zero, List.set_cons_succ]
              refine heldTake (i := 6) 55 (v := ?_) rfl rfl (by kernel_rfl) (by kernel_rfl) (by kernel_rfl) (fun _ _ _ h => h) (by kernel_rfl) (fun w hSw => (by have xc := HCX2.out w hSw; go_simp; try with_reducible rfl)) hHeld ?_
              simp only [Act.put, List.setIfInBounds_toArray, List.set_cons_zero, List.set_cons_succ]
              refine heldTwo (i := 1) (j := 7) rfl rfl (by kernel_rfl) (fun K hK => ?_) (fun K hK => ?_)
              · -- the call first
                go_simp
                go_wp2_with ((go_at_call 31; refine Calls.mono (HCI.out _ (HFW.out.trans hHeld)) ?_; rintro e w8 ⟨v8, rfl, hown, hF8⟩; have hHeld2 : Fr (fun _ => False) wr w8 := hHeld.trans hF8))
                have HO8 : Hd (w8.ownsRow wr.drew.heap.size 3 1 v8 nh (head.map vI) ∧ Fr (fun _ => False) wr.drew w8) := ⟨hown, hF8⟩
                clear hown hF8 hHeld
                refine hK.out _ _ hHeld2 ?_
                clear hK K
                have hHeld := hHeld2
                clear hHeld2
                obtain ⟨pb, epb⟩ : ∃ pb, pb = w8.heap.size := ⟨_, rfl⟩
                have hbp : (w8.alloc (.cells #[vI c.b] 3)).heap[pb]? = some (.cells #[vI c.b] 3) := by rw [epb]; exact heap_alloc_last w8 _
                have hHeld2 : Fr (fun _ => False) wr (w8.alloc (.cells #[vI c.b] 3)) := hHeld.trans ((Fr.refl _ w8).alloc _)
                have HOX : Hd ((w8.alloc (.cells #[vI c.b] 3)).ownsRow wr.drew.heap.size 3 1 v8 nh (head.map vI) ∧ wr.drew.heap.size ≤ (w8.alloc (.cells #[vI c.b] 3)).heap.size) := ⟨ownsRow_fr HO8.out.1 ((Fr.refl (fun _ => False) w8).alloc _) (fun _ _ e => e), by have := hHeld2.size; exact this⟩
                refine heldOne (i := 7) rfl (by kernel_rfl) (fun K hK => ?_)
                go_simp
                rw [← epb]
                obtain ⟨W8, eW8⟩ : ∃ W8, W8 = w8.alloc (.cells #[vI c.b] 3) := ⟨_, rfl⟩
                rw [← eW8] at hbp hHeld2 HOX ⊢
                refine hK.out _ _ hHeld2 ?_
                clear hK K hHeld eW8 epb HO8
                have hHeld := hHeld2
                clear hHeld2
                obtain ⟨g9, cap9, w9, hr9, hown9, hf9⟩ := app_int HOX.out.1 hbp HOX.out.2 (by omega)
                have hHeld9 : Fr (fun _ => False) wr w9 := hHeld.under hf9 (fun j hj => by have h1 := (World.ownsRow.lt HOX.out.1 j hj).1; first | exact h1 | (have := HW7.out; omega))
                have HN9 : Hd (RowAt w9 (.slice (some ⟨g9, 0, none⟩) (nh + 1) cap9) ((head ++ [(c.b : Int)]).map vI) ∧ Fr (fun _ => False) w w9) := ⟨by have h1 := ownsRow_ra hown9 (by have := EN.out.2; simp; omega); simpa using h1, HFW.out.trans hHeld9⟩
                refine heldOne (i := 8) rfl (by kernel_rfl) (fun K hK => ?_)
                rw [if_pos (by kernel_rfl)]
                refine oper_append_run (.tmp 50) (.tmp 56) 25 rfl _ _ _ rfl rfl hr9 ?_
                simp only [Act.put, List.setIfInBounds_toArray, List.set_cons_zero, List.set_cons_succ]
                refine hK.out _ _ hHeld9 ?_
                clear hK K hr9 hown9 hf9 HOX hbp
                refine heldOne (i := 9) rfl (by kernel_rfl) (fun K hK => ?_)
                go_simp
                refine hK.out _ _ hHeld9 ?_
                clear hK K
                refine wpAnyH_done (by kernel_rfl) ?_ _
                have HRW : Hd (RowAt w9 (.slice (some ⟨g9, 0, none⟩) (nh + 1) cap9) ((head ++ [(c.b : Int)]).map vI) ∧ Fr (fun _ => False) w w9) := HN9
                have hrec := IH.out c _ w9 HRW.out.2 HRW.out.1
                clear HN9 HCI hHeld
                go_wp2_with fail
                refine hrec.mono ?_
                rintro _ wz ⟨v, rfl, hrv, hfz⟩
                have HFZ : Hd (Fr (fun _ => False) w wz) := HRW.out.2.trans hfz
                obtain ⟨va, vc, rfl⟩ := row_slice hrv
                have HRV : Hd (RowAt wz (.slice va ((triedX cs k (head ++ [(c.b : Int)])).map vI).length vc) ((triedX cs k (head ++ [(c.b : Int)])).map vI)) := hrv
                obtain ⟨T, eT⟩ : ∃ T, T = triedX cs k (head ++ [(c.b : Int)]) := ⟨_, rfl⟩
                rw [← eT] at HRV HTR ⊢
                obtain ⟨nt, ent⟩ : ∃ nt, nt = (T.map vI).length := ⟨_, rfl⟩
                rw [← ent] at HRV ⊢
                have HNT : Hd (nt = T.length) := by rw [ent]; simp [Hd]
                clear hrv hfz hrec HRW ent eT IH
                by_cases hnt : (0 : Int) < nt
                · have HTN : Hd (triedX cs (k + 1) head = T) := by
                    show _ = _
                    rw [HTX.out, HTR.out, if_neg (fun e => by have := HNT.out; rw [e] at this; simp at this; omega)]
                  go_wp2_with fail
                  go_ret
                  exact ⟨_, rfl, by rw [HTN.out]; exact HRV.out, HFZ.out⟩
                · have hT0 : T = [] := List.eq_nil_of_length_eq_zero (by have := HNT.out; omega)
                  go_wp2_with fail
                  refine ⟨⟨i + 1, by simp, by omega, HFZ.out, ?_⟩, by simp; omega⟩
                  have := HTR.out
                  rw [if_pos hT0] at this
                  exact this
              · -- the row first
                go_simp
                have hbp : ((wr.alloc (.cells #[vI c.b] 3)).drew).heap[wr.heap.size]? = some (.cells #[vI c.b] 3) := heap_alloc_last wr _
                have hHeld2 : Fr (fun _ => False) wr ((wr.alloc (.cells #[vI c.b] 3)).drew) := ((Fr.refl _ wr).alloc _).drew
                obtain ⟨pb, epb⟩ : ∃ pb, pb = wr.heap.size := ⟨_, rfl⟩
                rw [← epb] at hbp ⊢
                obtain ⟨W7, eW7⟩ : ∃ W7, W7 = ((wr.alloc (.cells #[vI c.b] 3)).drew) := ⟨_, rfl⟩
                rw [← eW7] at hbp hHeld2 ⊢
                have HW7 : Hd (wr.heap.size ≤ W7.heap.size) := hHeld2.size
                refine hK.out _ _ hHeld2 ?_
                clear hK K eW7 epb hHeld
                refine heldOne (i := 1) rfl (by kernel_rfl) (fun K hK => ?_)
                go_simp
                go_wp2_with ((go_at_call 31; refine Calls.mono (HCI.out _ (HFW.out.trans hHeld2)) ?_; rintro e W8 ⟨v8, rfl, hown, hF8⟩; have hHeld3 : Fr (fun _ => False) wr W8 := hHeld2.trans hF8))
                replace hbp := (hF8.block pb (heap_lt hbp) (fun e => e)).trans hbp
                have HOX : Hd (W8.ownsRow W7.heap.size 3 1 v8 nh (head.map vI) ∧ W7.heap.size ≤ W8.heap.size) := ⟨hown, hF8.size⟩
                clear hown hF8 hHeld2
                refine hK.out _ _ hHeld3 ?_
                clear hK K
                have hHeld := hHeld3
                clear hHeld3
                obtain ⟨g9, cap9, w9, hr9, hown9, hf9⟩ := app_int HOX.out.1 hbp HOX.out.2 (by omega)
                have hHeld9 : Fr (fun _ => False) wr w9 := hHeld.under hf9 (fun j hj => by have h1 := (World.ownsRow.lt HOX.out.1 j hj).1; first | exact h1 | (have := HW7.out; omega))
                have HN9 : Hd (RowAt w9 (.slice (some ⟨g9, 0, none⟩) (nh + 1) cap9) ((head ++ [(c.b : Int)]).map vI) ∧ Fr (fun _ => False) w w9) := ⟨by have h1 := ownsRow_ra hown9 (by have := EN.out.2; simp; omega); simpa using h1, HFW.out.trans hHeld9⟩
                refine heldOne (i := 8) rfl (by kernel_rfl) (fun K hK => ?_)
                rw [if_pos (by kernel_rfl)]
                refine oper_append_run (.tmp 50) (.tmp 56) 25 rfl _ _ _ rfl rfl hr9 ?_
                simp only [Act.put, List.setIfInBounds_toArray, List.set_cons_zero, List.set_cons_succ]
                refine hK.out _ _ hHeld9 ?_
                clear hK K hr9 hown9 hf9 HOX hbp
                refine heldOne (i := 9) rfl (by kernel_rfl) (fun K hK => ?_)
                go_simp
                refine hK.out _ _ hHeld9 ?_
                clear hK K
                refine wpAnyH_done (by kernel_rfl) ?_ _
                have HRW : Hd (RowAt w9 (.slice (some ⟨g9, 0, none⟩) (nh + 1) cap9) ((head ++ [(c.b : Int)]).map vI) ∧ Fr (fun _ => False) w w9) := HN9
                have hrec := IH.out c _ w9 HRW.out.2 HRW.out.1
                clear HN9 HCI hHeld
                go_wp2_with fail
                refine hrec.mono ?_
                rintro _ wz ⟨v, rfl, hrv, hfz⟩
                have HFZ : Hd (Fr (fun _ => False) w wz) := HRW.out.2.trans hfz
                obtain ⟨va, vc, rfl⟩ := row_slice hrv
                have HRV : Hd (RowAt wz (.slice va ((triedX cs k (head ++ [(c.b : Int)])).map vI).length vc) ((triedX cs k (head ++ [(c.b : Int)])).map vI)) := hrv
                obtain ⟨T, eT⟩ : ∃ T, T = triedX cs k (head ++ [(c.b : Int)]) := ⟨_, rfl⟩
                rw [← eT] at HRV HTR ⊢
                obtain ⟨nt, ent⟩ : ∃ nt, nt = (T.map vI).length := ⟨_, rfl⟩
                rw [← ent] at HRV ⊢
                have HNT : Hd (nt = T.length) := by rw [ent]; simp [Hd]
                clear hrv hfz hrec HRW ent eT IH
                by_cases hnt : (0 : Int) < nt
                · have HTN : Hd (triedX cs (k + 1) head = T) := by
                    show _ = _
                    rw [HTX.out, HTR.out, if_neg (fun e => by have := HNT.out; rw [e] at this; simp at this; omega)]
                  go_wp2_with fail
                  go_ret
                  exact ⟨_, rfl, by rw [HTN.out]; exact HRV.out, HFZ.out⟩
                · have hT0 : T = [] := List.eq_nil_of_length_eq_zero (by have := HNT.out; omega)
                  go_wp2_with fail
                  refine ⟨⟨i + 1, by simp, by omega, HFZ.out, ?_⟩, by simp; omega⟩
                  have := HTR.out
                  rw [if_pos hT0] at this
                  exact this
            · have hni := of_decide_eq_true HIN.out.symm
              go_wp2_with fail
              refine ⟨⟨i + 1, by simp, by omega, HFW.out, ?_⟩, by simp; omega⟩
              have := HTR.out
              rw [if_pos hni] at this
              exact this
      · have i2 : ¬ (i : Int) < n := by omega
        have HTN : Hd (triedX cs (k + 1) head = []) := by
          have h1 := HR.out.2
          rw [List.drop_eq_nil_of_le (by have := EN.out.1; omega)] at h1
          show _ = _
          rw [HTX.out, h1]; rfl
        go_wp2_with fail
        go_ret
        exact ⟨_, rfl, by rw [HTN.out]; exact RowAt.nil _, HR.out.1⟩
end Go.Proofs.Ytihicdbplmdjiaa

namespace Go.Proofs.Ytihicdbplmdjiaa
open Go.RowKit (wrap32 wrap64)
set_option linter.unusedVariables false
set_option linter.unusedSimpArgs false

theorem bI_eq (cs : List Cl) (i : Nat) : (((cs[i]?.map Cl.b).getD 0 : Nat) : Int) = bI cs i := by
  unfold bI
  rw [List.getD_eq_getElem?_getD]
  cases cs[i]? <;> rfl
set_option maxRecDepth 100000 in
set_option maxHeartbeats 4000000 in
/-- HISTLEAST. -/
theorem histLeast_any (hv : Value) (h : List Mo) (w : World) (hh : HAt2 w hv h) (hl : h.length ≤ 1000000000000000000) (hvl : ∀ m ∈ h, m.R.r.vals.length ≤ 1000000000000000000) :
    Calls Try.prog 4 #[hv] w fun e w' => e = .returned (.bool true) ∧ Fr (fun _ => False) w w' := by
  have hlo := long_any hv h w hh.1 hl hvl
  have HH : Hd (HAt2 w hv h) := hh
  have LV : Hd (∀ W, Calls Try.prog 10 #[] W fun e w' => e = .returned (.bool true) ∧ Fr (fun _ => False) W w') := lives_any
  clear hh hl hvl
  go_enter Try.func4, Try.ntmps4
  go_wp2_with fail
  refine hlo.mono ?_
  rintro _ w1 ⟨LG, rfl, hf1, hb⟩
  have HF1 : Hd (Fr (fun _ => False) w w1) := hf1
  have HB : Hd (LG = false → h.length ≤ 2147483647 ∧ ∀ m ∈ h, m.R.r.keys.length ≤ 2147483647 ∧ m.R.r.vals.length ≤ 2147483647) := hb
  clear hlo hf1 hb
  cases LG
  · obtain ⟨hl, hL⟩ := HB.out rfl
    have CP : Hd (∀ W, Fr (fun _ => False) w W → Calls Try.prog 11 #[hv] W fun e w' => CpH h W w' e) := fun W f => copyHistory_any hv h W (HH.out.fr f).1 (by omega) (fun m hm => by have := hL m hm; omega)
    have RC : Hd (∀ W, Fr (fun _ => False) w W → Calls Try.prog 12 #[hv] W fun e w' => RcR h W e w') := fun W f => rcalls_any hv h W (HH.out.fr f).1 (by omega)
    have TR : Hd (∀ W lv cs B, Fr (fun _ => False) w W → ROwn W B lv cs → callsX h = some cs → Calls Try.prog 13 #[hv, lv, .slice none 0 0] W fun e w' => ∃ v, e = .returned v ∧ RowAt w' v ((triedX cs cs.length []).map vI) ∧ Fr (fun _ => False) W w') := fun W lv cs B f ho hc =>
      tried_any hv lv h cs B (by omega) (fun m hm => by have := hL m hm; omega) hc cs.length [] (.slice none 0 0) W rfl (HH.out.fr f).1 ho (RowAt.nil W)
    clear HB hl hL
    go_upto_region 4 with (go_at_call 10; refine (LV.out _).mono ?_; rintro _ w2 ⟨rfl, hf2⟩; replace HF1 : Hd (Fr _ _ _) := HF1.out.trans hf2; clear hf2)
    clear LV
    go_upto_region 5 with (first | (go_at_call 11; refine (CP.out _ HF1.out).mono ?_; rintro _ w3 ⟨c1, ms, rfl, hf3, hlen, hcp⟩; replace HF1 : Hd (Fr _ _ _) := HF1.out.trans hf3; have HC1 : Hd (Cps w3 _ c1 h ms ∧ ms.length = h.length) := ⟨hcp, hlen⟩; clear hf3 hlen hcp) | (go_at_call 8; refine (order8_any c1 ms w3 (HC1.out.1.hat HH.out)).mono ?_; rintro _ w4 ⟨lv, ok, er, rfl, hf4, hE⟩; replace HF1 : Hd (Fr _ _ _) := HF1.out.trans hf4; have HE : Hd _ := copy_order (HC1.out.1.pl HC1.out.2) hE; clear hf4 hE))
    rcases HE.out with ⟨hn, rfl, rfl, rfl⟩ | ⟨cs, hs, rfl, hres⟩
    · clear HE TR
      go_upto_region 6 with (go_at_call 12; refine (RC.out _ HF1.out).mono ?_; rintro _ w5 ⟨lc, okc, rfl, hf5, hR⟩; replace HF1 : Hd (Fr _ _ _) := HF1.out.trans hf5; have HRc : Hd (RcE _ _ _ _ _) := hR; clear hf5 hR)
      obtain rfl : okc = false := by
        rcases HRc.out with ⟨-, e⟩ | ⟨cs, e, -⟩
        · exact e
        · rw [hn] at e; cases e
      clear HRc
      go_wp2_with fail
      go_ret
      exact ⟨by simp, HF1.out⟩
    · have h64 : cs.length ≤ 64 := (calls_fine HH.out.2 hs).2
      have HLT : Hd (((possibleB (madeX cs) cs = false ∨ Ord (waitsX cs) (2 ^ cs.length - 1) [] none) → triedX cs cs.length [] = [] ∧ cs ≠ []) ∧ (∀ acc, possibleB (madeX cs) cs = true → Ord (waitsX cs) (2 ^ cs.length - 1) [] (some acc) → triedX cs cs.length [] = acc.map (bI cs) ∧ acc.length = cs.length)) := least_tried hs h64
      have HG : Hd (Fr (fun _ => False) w4 w4) := Fr.refl _ _
      have HOS : Hd (∃ os : List Int, RowAt w4 lv (os.map vI) ∧ os = triedX cs cs.length [] ∧ (ok = true → os.length = cs.length) ∧ (ok = false → os = [] ∧ cs ≠ [])) := by
        rcases hres with ⟨hno, rfl, rfl⟩ | ⟨acc, hp, ho, rfl, hown⟩
        · obtain ⟨q1, q2⟩ := HLT.out.1 hno
          exact ⟨[], RowAt.nil _, q1.symm, fun e => (by cases e), fun _ => ⟨rfl, q2⟩⟩
        · obtain ⟨q1, q2⟩ := HLT.out.2 acc hp ho
          refine ⟨acc.map (bI cs), ?_, q1.symm, fun _ => by rw [List.length_map]; exact q2, fun e => (by cases e)⟩
          have := ownsRow_ra hown (by simp)
          simpa [List.map_map, Function.comp_def, bI_eq] using this
      clear HE hres HLT
      obtain ⟨os, hrow, hos, hok1, hok2⟩ := HOS.out
      have HOK : Hd ((ok = true → os.length = cs.length) ∧ (ok = false → os = [] ∧ cs ≠ [])) := ⟨hok1, hok2⟩
      have HROW : Hd (RowAt w4 lv (os.map vI)) := hrow
      have HEQ : Hd (os = triedX cs cs.length []) := hos
      have HCX : Hd (callsX h = some cs) := hs
      clear HOS hok1 hok2 hrow hos hs
      go_upto_region 6 with (go_at_call 12; refine (RC.out _ HF1.out).mono ?_; rintro _ w5 ⟨lc, okc, rfl, hf5, hR⟩; replace HF1 : Hd (Fr _ _ _) := HF1.out.trans hf5; replace HG : Hd (Fr _ _ _) := HG.out.trans hf5; have HRc : Hd (RcE _ _ _ _ _) := hR; clear hf5 hR)
      obtain ⟨rfl, hrown⟩ : okc = true ∧ ROwn w5 w4.heap.size lc cs := by
        rcases HRc.out with ⟨e, -⟩ | ⟨cs', e, e2, q, -⟩
        · rw [HCX.out] at e; cases e
        · rw [HCX.out] at e; cases e; exact ⟨e2, q⟩
      have htr := TR.out w5 lc cs _ HF1.out hrown HCX.out
      obtain ⟨la, lcap, rfl⟩ := hrown.val
      obtain ⟨n, en⟩ : ∃ n, n = cs.length := ⟨_, rfl⟩
      have EN : Hd (n = cs.length) := en
      rw [← HEQ.out] at htr
      rw [← en] at htr h64 ⊢
      clear HRc hrown en TR RC
      by_cases h6 : (6 : Int) < n
      · go_wp2_with fail
        go_ret
        exact ⟨by simp, HF1.out⟩
      · go_upto_region 11 with (go_at_call 13; refine htr.mono ?_; rintro _ w6 ⟨v, rfl, hrv, hf6⟩; replace HF1 : Hd (Fr _ _ _) := HF1.out.trans hf6; replace HG : Hd (Fr _ _ _) := HG.out.trans hf6; have HRV : Hd (RowAt _ _ _) := hrv; clear hf6 hrv)
        have hol : os.length ≤ 64 := by
          cases ok
          · rw [(HOK.out.2 rfl).1]; simp
          · have := HOK.out.1 rfl; have := EN.out; omega
        have heq := eqInts_any lv v os os w6 (HROW.out.fr HG.out (fun _ _ _ e => e)) HRV.out (by omega) (by omega)
        rw [show decide (os = os) = true by simp] at heq
        obtain ⟨va, vc, rfl⟩ := row_slice HRV.out
        obtain ⟨nt, ent⟩ : ∃ nt, nt = (os.map vI).length := ⟨_, rfl⟩
        rw [← ent] at heq ⊢
        have HNT : Hd (nt = os.length) := by rw [ent]; simp [Hd]
        clear htr HRV HROW ent HCX HEQ CP HC1
        cases ok
        · have hn0 : n ≠ 0 := by
            have := (HOK.out.2 rfl).2
            have := EN.out
            intro e
            rw [e] at this
            exact (HOK.out.2 rfl).2 (List.eq_nil_of_length_eq_zero this.symm)
          have hnn : ((n : Int) == 0) = false := by simp; omega
          have hnt0 : nt = 0 := by rw [HNT.out, (HOK.out.2 rfl).1]; rfl
          subst hnt0
          go_wp2_with (go_at_call 14; refine heq.mono ?_; rintro _ w7 ⟨rfl, hf7⟩; replace HF1 : Hd (Fr _ _ _) := HF1.out.trans hf7; clear hf7)
          go_ret
          exact ⟨by simp, HF1.out⟩
        · have hnt0 : nt = n := by rw [HNT.out, HOK.out.1 rfl, EN.out]
          subst hnt0
          by_cases h0 : nt = 0
          · subst h0
            go_wp2_with (go_at_call 14; refine heq.mono ?_; rintro _ w7 ⟨rfl, hf7⟩; replace HF1 : Hd (Fr _ _ _) := HF1.out.trans hf7; clear hf7)
            go_ret
            exact ⟨by simp, HF1.out⟩
          · have h1 : ((nt : Int) == 0) = false := by simp; omega
            have h2 : (0 : Int) < nt := by omega
            go_wp2_with (go_at_call 14; refine heq.mono ?_; rintro _ w7 ⟨rfl, hf7⟩; replace HF1 : Hd (Fr _ _ _) := HF1.out.trans hf7; clear hf7)
            go_ret
            exact ⟨by simp; omega, HF1.out⟩
  · go_wp2_with fail
    go_ret
    exact ⟨rfl, HF1.out⟩
end Go.Proofs.Ytihicdbplmdjiaa
