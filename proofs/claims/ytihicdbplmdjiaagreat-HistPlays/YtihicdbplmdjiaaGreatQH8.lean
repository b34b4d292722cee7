import Derived.Test.YtihicdbplmdjiaaGreatQH6J
import Derived.Carry
set_option linter.unusedVariables false
set_option linter.unusedSimpArgs false
namespace Go.Proofs.YtihicdbplmdjiaaGreat
open Go.RowKit (wrap32 wrap64)

theorem doR_len (t : List Kv) (o : OpT) : (doR t o).L.length ≤ t.length := by
  unfold doR
  split
  · simp
  · split
    · simp
    · exact Nat.le_refl _
set_option maxRecDepth 100000 in
set_option maxHeartbeats 4000000 in
/-- What played tells. -/
theorem played_any (hv ov : Value) (h : List Mo) (os : List Int) (w : World) (hh : HAt w hv h) (hl : h.length ≤ 4000000000) (hm : ∀ m ∈ h, m.R.r.keys.length ≤ 4000000000 ∧ m.R.r.vals.length ≤ 4000000000) (ho : RowAt w ov (os.map vI)) (hol : os.length ≤ 4000000000) {cs : List Cl} (hc : callsX h = some cs) :
    Calls Tryz.prog 9 #[hv, ov] w fun e w' => e = .returned (.bool (playedX cs os)) ∧ Fr (fun _ => False) w w' := by
  have hrc := rcalls_any hv h w hh hl
  obtain ⟨ha, hcap, rfl, -⟩ := hh
  have HK : Hd ((∀ c ∈ cs, c.kd = 1 ∨ c.kd = 2 ∨ c.kd = 3) ∧ (cs.map Cl.b).Pairwise (· < ·) ∧ (∀ c ∈ cs, rightReplyB c.kd c.R.r = true) ∧ ∀ c ∈ cs, c.R.r.keys.length ≤ 4000000000 ∧ c.R.r.vals.length ≤ 4000000000) := by
    refine ⟨(calls_begun hc).1, (calls_begun hc).2, calls_right hc, fun c hcc => ?_⟩
    obtain ⟨m, m', q⟩ := (calls_ref hc).each c hcc
    rw [q.R]
    exact hm m' (List.mem_of_getElem? q.e)
  have h64 : cs.length ≤ 64 := by
    have h1 := (calls_ref hc).le
    have h2 := congrArg List.length (calls_ref hc).bs
    simp only [List.length_map] at h2
    omega
  obtain ⟨oa, oc, rfl, ho1⟩ := ho
  have HO : Hd (∀ i (hi : i < os.length), ∃ g o, oa = some ⟨g, o, none⟩ ∧ ∀ W, Fr (fun _ => False) w W → W.cell? ⟨g, o + i, none⟩ = some (vI os[i])) := fun i hi => by
    obtain ⟨g, o, e1, e3⟩ := ho1 (by intro e; rw [List.map_eq_nil_iff] at e; subst e; simp at hi)
    have h1 := e3 i (by simpa using hi)
    refine ⟨g, o, e1, fun W f => (f.cell (cell_lt h1) (fun e => e)).trans (by rw [h1]; simp)⟩
  rw [List.length_map]
  obtain ⟨T, hT⟩ : ∃ T, T = playX cs [] os := ⟨_, rfl⟩
  have HT : Hd (T = playX cs [] os) := hT
  have hpl : playedX cs os = (decide (os.length = cs.length) && T) := by rw [hT]; rfl
  rw [hpl]
  obtain ⟨n, en⟩ : ∃ n, n = cs.length := ⟨_, rfl⟩
  obtain ⟨no, eno⟩ : ∃ no, no = os.length := ⟨_, rfl⟩
  have EN : Hd (n = cs.length ∧ no = os.length ∧ callsX h = some cs) := ⟨en, eno, hc⟩
  rw [← en] at h64 ⊢
  rw [← eno] at hol ⊢
  clear hT hpl en eno ho1 hm hc
  go_enter Tryz.func9, Tryz.ntmps9
  go_upto_region 2 with (go_at_call 19; refine hrc.mono ?_; rintro _ w1 ⟨lv, ok, rfl, hf1, hE⟩; have HF1 : Hd (Fr _ _ _) := hf1; have HE : Hd (RcE _ _ _ _ _) := hE; clear hf1 hE)
  have HR1 : Hd (ROwn w1 w.heap.size lv cs ∧ ∀ c ∈ cs, c.R.At w) := by
    rcases HE.out with ⟨e, -⟩ | ⟨cs', e, -, q1, q2⟩
    · rw [EN.out.2.2] at e; cases e
    · rw [EN.out.2.2] at e; cases e; exact ⟨q1, q2⟩
  clear HE hrc
  obtain ⟨la, lc, elv⟩ := HR1.out.1.val
  subst elv
  have HCS : Hd (∀ i (hi : i < cs.length), ∃ g, la = some ⟨g, 0, none⟩ ∧ ∀ W, Fr (fun _ => False) w1 W → ∀ j, j < 9 → W.cell? ⟨g, i * 9 + j, none⟩ = (c9 cs[i])[j]?) := fun i hi => by
    obtain ⟨g, cap, e, -, hgl, hx⟩ := HR1.out.1.cells (fun e => by rw [e] at hi; simp at hi)
    cases e
    exact ⟨g, rfl, fun W f j hj => (f.cell hgl (fun e => e)).trans (hx i hi j hj)⟩
  have hnc : cs.length = n := EN.out.1.symm
  rw [hnc]
  clear hnc
  by_cases hln : no = n
  · subst hln
    have hln2 : ((no : Int) == (no : Int)) = true := by simp
    go_upto_region 5 with fail
    obtain ⟨W2, eW2⟩ : ∃ W2, W2 = (w1.alloc (Obj.cells #[.slice none 0 0, .slice none 0 0] 68)) := ⟨_, rfl⟩
    have hb2 := heap_alloc_last w1 (Obj.cells #[.slice none 0 0, .slice none 0 0] 68)
    obtain ⟨pt, ept⟩ : ∃ pt, pt = w1.heap.size := ⟨_, rfl⟩
    have HPT : Hd (w1.heap.size = pt) := ept.symm
    have HS0 : Hd (PlS w1 W2 pt (.slice none 0 0) [] (.slice none 0 0) (.slice none 0 0) []) := by
      rw [← eW2, ← ept] at hb2
      refine ⟨by rw [eW2]; exact (Fr.refl _ w1).alloc _, ⟨hb2, World.ownsRow_nil _ _ _ _, World.ownsRow_nil _ _ _ _, by simp [Value.ownBlock], by simp [Value.ownBlock], by simp [Value.ownBlock], List.Pairwise.nil⟩, World.ownsRow_nil _ _ _ _, by simp [Value.ownBlock]⟩
    rw [← eW2, ← ept]
    clear eW2 hb2 ept
    go_upto_region 7 with fail
    go_loopw [8, 9] (fun v8 v9 wr => ∃ i : Nat, ∃ us : List Cl, ∃ kv vv : Value, v9 = vI i ∧ i ≤ no ∧ us.length = i ∧ Hd (PlS w1 wr pt v8 us kv vv (tabOf (us.map opT)) ∧ playX cs us (os.drop i) = T)) (fun _ v _ => match v with | .int _ q => no - q.toNat | _ => 0)
    case atStart => exact ⟨0, [], _, _, rfl, by omega, rfl, HS0.out, by rw [List.drop_zero]; exact HT.out.symm⟩
    case round =>
      clear HS0
      obtain ⟨i, us, kv, vv, rfl, hi, hus, HS⟩ := hrel
      by_cases hlt : i < no
      · have i0 : (0 : Int) ≤ i := by omega
        have i1 : (i : Int) < no := by omega
        have hio : i < os.length := by rw [← EN.out.2.1]; exact hlt
        obtain ⟨Wi, rfl⟩ : ∃ Wi, Wi = wr := ⟨_, rfl⟩
        obtain ⟨go_, oo, rfl, hco⟩ := HO.out i hio
        obtain ⟨o, eo⟩ : ∃ o, o = os[i] := ⟨_, rfl⟩
        have HCO : Hd (∀ W, Fr (fun _ => False) Wi W → W.cell? ⟨go_, oo + i, none⟩ = some (vI o)) := fun W f => by rw [eo]; exact hco W (HF1.out.trans (HS.out.1.fr.trans f))
        have HDR : Hd (os.drop i = o :: os.drop (i + 1)) := by rw [eo]; exact List.drop_eq_getElem_cons hio
        clear hco eo hio
        go_upto_region 11 with fail
        go_loopw [10, 11] (fun v10 v11 w2 => ∃ k : Nat, ∃ x : Int, v11 = vI k ∧ v10 = vI x ∧ k ≤ no ∧ Hd (Fr (fun _ => False) Wi w2 ∧ ((x = -1 ∧ ∀ j (hj : j < cs.length), j < k → (cs[j].b : Int) ≠ o) ∨ ∃ j : Nat, ∃ hj : j < cs.length, x = j ∧ (cs[j].b : Int) = o))) (fun _ v _ => match v with | .int _ q => no - q.toNat | _ => 0)
        case atStart => exact ⟨0, -1, rfl, rfl, by omega, Fr.refl _ _, Or.inl ⟨rfl, fun j hj h0 => absurd h0 (by omega)⟩⟩
        case round =>
          obtain ⟨k, x, rfl, rfl, hk, HG⟩ := hrel
          by_cases hkn : k < no
          · have k0 : (0 : Int) ≤ k := by omega
            have k1 : (k : Int) < no := by omega
            have hkc : k < cs.length := by rw [← EN.out.1]; exact hkn
            obtain ⟨gc, rfl, hcx⟩ := HCS.out k hkc
            have x0 := hcx wr (HS.out.1.fr.trans HG.out.1) 0 (by omega)
            unfold c9 at x0
            simp only [List.getElem?_cons_zero, Nat.add_zero] at x0
            have xo := HCO.out wr HG.out.1
            obtain ⟨b, eb⟩ : ∃ b, b = cs[k].b := ⟨_, rfl⟩
            rw [← eb] at x0
            have HBK : Hd (b = cs[k].b) := eb
            clear hcx eb
            by_cases hbo : (b : Int) = o
            · have hbo2 : ((b : Int) == o) = true := by simpa using hbo
              go_upto_region 13 with fail
              go_quiet (fail)
              go_wp2_with fail
              exact ⟨⟨k + 1, k, by simp, rfl, by omega, HG.out.1.trans (fr_drewN _ _), Or.inr ⟨k, hkc, rfl, by rw [← HBK.out]; exact hbo⟩⟩, by simp; omega⟩
            · have hbo2 : ((b : Int) == o) = false := by simpa using hbo
              go_upto_region 13 with fail
              go_quiet (fail)
              go_wp2_with fail
              refine ⟨⟨k + 1, x, by simp, rfl, by omega, HG.out.1.trans (fr_drewN _ _), ?_⟩, by simp; omega⟩
              rcases HG.out.2 with ⟨rfl, q⟩ | q
              · refine Or.inl ⟨rfl, fun j hj hjk => ?_⟩
                rcases Nat.lt_or_ge j k with h1 | h1
                · exact q j hj h1
                · have : j = k := by omega
                  subst this
                  rw [← HBK.out]; exact hbo
              · exact Or.inr q
          · have k2 : ¬ (k : Int) < no := by omega
            rcases HG.out.2 with ⟨rfl, q⟩ | ⟨j, hj, rfl, hjb⟩
            · have HTF : Hd (T = false) := by
                have := HS.out.2
                rw [HDR.out, playX_none (atX_none fun c hc => ?_)] at this
                · exact this.symm
                · obtain ⟨j, hj, rfl⟩ := List.getElem_of_mem hc
                  exact q j hj (by have := EN.out.1; omega)
              clear q
              go_wp2_with fail
              go_ret
              exact ⟨by rw [HTF.out]; simp, HF1.out.trans (HS.out.1.fr.trans HG.out.1)⟩
            · have j0 : (0 : Int) ≤ j := by omega
              have j1 : (j : Int) < no := by have := EN.out.1; omega
              have j2 : ¬ ((j : Int) < 0) := by omega
              obtain ⟨gc, rfl, hcx⟩ := HCS.out j hj
              obtain ⟨c, ec⟩ : ∃ c, c = cs[j] := ⟨_, rfl⟩
              have HC : Hd (c ∈ cs ∧ (c.b : Int) = o ∧ atX cs o = some c ∧ c.R.At w) := by
                have hcm : c ∈ cs := by rw [ec]; exact List.getElem_mem hj
                have hcb : (c.b : Int) = o := by rw [ec]; exact hjb
                exact ⟨hcm, hcb, by rw [← hcb]; exact atX_of HK.out.2.1 hcm, HR1.out.2 c hcm⟩
              have HCX : Hd (∀ W, Fr (fun _ => False) Wi W → ∀ j', j' < 9 → W.cell? ⟨gc, j * 9 + j', none⟩ = (c9 c)[j']?) := fun W f j' hj' => by rw [ec]; exact hcx W (HS.out.1.fr.trans f) j' hj'
              have HCX1 : Hd (∀ W, Fr (fun _ => False) w1 W → ∀ j', j' < 9 → W.cell? ⟨gc, j * 9 + j', none⟩ = (c9 c)[j']?) := fun W f j' hj' => by rw [ec]; exact hcx W f j' hj'
              have HPX : Hd (playX cs us (os.drop i) = (fitsB us c && playX cs (us ++ [c]) (os.drop (i + 1)))) := by show _ = _; rw [HDR.out, playX_some HC.out.2.2.1]
              clear hcx ec hjb
              obtain ⟨ua, uc, eu⟩ := HS.out.1.own.val
              rw [hus] at eu
              subst eu
              have HUS : Hd (∀ k (hk : k < us.length), ∃ g, ua = some ⟨g, 0, none⟩ ∧ ∀ W, Fr (fun _ => False) Wi W → W.cell? ⟨g, k * 9, none⟩ = some (vI us[k].b)) := fun k hk => by
                obtain ⟨g, cap, e, -, hgl, hx⟩ := HS.out.1.own.cells (fun e => by rw [e] at hk; simp at hk)
                cases e
                refine ⟨g, rfl, fun W f => (f.cell hgl (fun e => e)).trans ?_⟩
                have := hx k hk 0 (by omega)
                simpa [c9] using this
              go_upto_region 18 with fail
              go_loopw [12] (fun v12 w2 => ∃ k : Nat, v12 = vI k ∧ k ≤ i ∧ Hd (Fr (fun _ => False) Wi w2 ∧ ∀ d ∈ us.take k, d.b ≠ c.b ∧ ¬ c.e < d.b)) (fun v _ => match v with | .int _ q => i - q.toNat | _ => 0)
              case atStart => exact ⟨0, rfl, by omega, HG.out.1, by simp⟩
              case round =>
                clear HG
                obtain ⟨p, rfl, hp, HG⟩ := hrel
                by_cases hpi : p < i
                · have p0 : (0 : Int) ≤ p := by omega
                  have p1 : (p : Int) < i := by omega
                  have hpu : p < us.length := by omega
                  obtain ⟨gu, rfl, hux⟩ := HUS.out p hpu
                  have xu := hux wr HG.out.1
                  have xo := HCO.out wr HG.out.1
                  have xe := HCX.out wr HG.out.1 1 (by omega)
                  unfold c9 at xe
                  simp only [List.getElem?_cons_zero, List.getElem?_cons_succ] at xe
                  obtain ⟨db, edb⟩ : ∃ db, db = us[p].b := ⟨_, rfl⟩
                  rw [← edb] at xu
                  obtain ⟨ce, ece⟩ : ∃ ce, ce = c.e := ⟨_, rfl⟩
                  rw [← ece] at xe
                  have HDB : Hd (us[p] ∈ us ∧ db = us[p].b ∧ ce = c.e ∧ us.take (p + 1) = us.take p ++ [us[p]]) := ⟨List.getElem_mem hpu, edb, ece, by rw [List.take_add_one, List.getElem?_eq_getElem hpu]; rfl⟩
                  clear hux edb ece
                  by_cases h1 : (db : Int) = o
                  · have HTF : Hd (T = false) := by
                      have := HS.out.2
                      rw [HPX.out, fits_bad HDB.out.1 (Or.inl (by have := HC.out.2.1; have := HDB.out.2.1; omega))] at this
                      show T = false; simpa using this.symm
                    have h1b : ((db : Int) == o) = true := by simpa using h1
                    go_upto_region 20 with fail
                    go_quiet (fail)
                    go_wp2_with fail
                    go_ret
                    exact ⟨by rw [HTF.out]; simp, HF1.out.trans (HS.out.1.fr.trans (HG.out.1.trans (fr_drewN _ _)))⟩
                  · have h1b : ((db : Int) == o) = false := by simpa using h1
                    by_cases h2 : (ce : Int) < db
                    · have HTF : Hd (T = false) := by
                        have := HS.out.2
                        rw [HPX.out, fits_bad HDB.out.1 (Or.inr (by have := HDB.out.2.1; have := HDB.out.2.2.1; omega))] at this
                        show T = false; simpa using this.symm
                      go_upto_region 20 with fail
                      go_quiet (fail)
                      go_wp2_with fail
                      go_ret
                      exact ⟨by rw [HTF.out]; simp, HF1.out.trans (HS.out.1.fr.trans (HG.out.1.trans (fr_drewN _ _)))⟩
                    · go_upto_region 20 with fail
                      go_quiet (fail)
                      go_wp2_with fail
                      refine ⟨⟨p + 1, by simp, by omega, HG.out.1.trans (fr_drewN _ _), fun d hd => ?_⟩, by simp; omega⟩
                      rw [HDB.out.2.2.2] at hd
                      rcases List.mem_append.1 hd with hd | hd
                      · exact HG.out.2 d hd
                      · rw [List.mem_singleton.1 hd]
                        have a1 := HC.out.2.1
                        have a2 := HDB.out.2.1
                        have a3 := HDB.out.2.2.1
                        exact ⟨by omega, by omega⟩
                · have p2 : ¬ (p : Int) < i := by omega
                  have HFT : Hd (fitsB us c = repB (doR (tabOf (us.map opT)) (opT c)) (repT c)) := fits_rep fun d hd => HG.out.2 d (by rw [List.take_of_length_le (by omega)]; exact hd)
                  have HSw : Hd (PlS w1 wr pt (.slice ua i uc) us kv vv (tabOf (us.map opT))) := HS.out.1.go HG.out.1
                  have hus4 : us.length ≤ 64 := by omega
                  have HX1 : Hd (∀ W, Fr (fun _ => False) w1 W → ∀ j', j' < 9 → W.cell? ⟨gc, j * 9 + j', none⟩ = (c9 c)[j']?) := HCX1.out
                  have CALL := do_any wr pt pt kv vv (tabOf (us.map opT)) c.kd c.ky c.v (HK.out.1 c HC.out.1) HSw.out.tab (by have := heap_lt HSw.out.tab.obj; omega) (by have := tab_len us; omega)
                  obtain ⟨cka, ckc, eck⟩ := row_slice HC.out.2.2.2.1
                  obtain ⟨cva, cvc, ecv⟩ := row_slice HC.out.2.2.2.2
                  have HLN : Hd (c.R.r.keys.length = c.R.r.vals.length ∧ c.R.r.keys.length ≤ 4000000000 ∧ c.R.r.vals.length ≤ 4000000000) := ⟨right_len (HK.out.2.2.1 c HC.out.1), HK.out.2.2.2 c HC.out.1⟩
                  simp only [List.length_map] at eck ecv
                  clear HK HUS HCO HO HCX
                  obtain ⟨cb, ce, ckd, cky, cv, ⟨⟨cok, cval, cks, cvs⟩, ckv, cvv⟩⟩ := c
                  simp only at eck ecv
                  subst eck ecv
                  have hx := HX1.out wr HSw.out.fr
                  unfold c9 at hx
                  have x0 := hx 0 (by omega)
                  have x1 := hx 1 (by omega)
                  have x2 := hx 2 (by omega)
                  have x3 := hx 3 (by omega)
                  have x4 := hx 4 (by omega)
                  have x5 := hx 5 (by omega)
                  have x6 := hx 6 (by omega)
                  have x7 := hx 7 (by omega)
                  have x8 := hx 8 (by omega)
                  simp only [List.getElem?_cons_zero, List.getElem?_cons_succ, Nat.add_zero] at x0 x1 x2 x3 x4 x5 x6 x7 x8
                  unfold opV at CALL
                  simp only at CALL
                  clear hx
                  go_upto_region 23 with (go_at_call 20; refine CALL.mono ?_; rintro _ w5 ⟨rv, rfl, hD⟩; obtain ⟨rk, ru, kv', vv', erv, hrat, hS5⟩ := HSw.out.did HPT.out hD; obtain ⟨RR, ep⟩ : ∃ R : Rpl, R = rpOf (doR (tabOf (us.map opT)) (ckd, cky, cv)) := ⟨_, rfl⟩; rw [← ep] at hrat erv; have HRR : Hd (RR = rpOf (doR (tabOf (us.map opT)) (ckd, cky, cv))) := ep; clear ep; obtain ⟨pok, pval, pks, pvs⟩ := RR; obtain ⟨pka, pkc, epk⟩ := row_slice hrat.1; obtain ⟨pva, pvc, epv⟩ := row_slice hrat.2; simp only [List.length_map] at epk epv; subst epk epv; unfold RV.V at erv; simp only at erv; subst erv; have HD5 : Hd (RV.At w5 ⟨⟨pok, pval, pks, pvs⟩, .slice pka pks.length pkc, .slice pva pvs.length pvc⟩ ∧ PlS w1 w5 pt (.slice ua i uc) us kv' vv' (doT (tabOf (us.map opT)) (ckd, cky, cv))) := ⟨hrat, hS5⟩; clear hrat hS5 hD)
                  clear x0 x1 x2 x3 x4 x5 x6 x7 x8 CALL
                  obtain ⟨W6, eW6⟩ : ∃ W6, W6 = (w5.alloc (Obj.cells #[.bool pok, .string pval, .slice pka pks.length pkc, .slice pva pvs.length pvc] 39)) := ⟨_, rfl⟩
                  have hb6 := heap_alloc_last w5 (Obj.cells #[.bool pok, .string pval, .slice pka pks.length pkc, .slice pva pvs.length pvc] 39)
                  have hf6 : Fr (fun _ => False) w5 W6 := by rw [eW6]; exact (Fr.refl _ w5).alloc _
                  rw [← eW6] at hb6 ⊢
                  obtain ⟨pr, epr⟩ : ∃ pr, pr = w5.heap.size := ⟨_, rfl⟩
                  rw [← epr] at hb6 ⊢
                  have HS6 : Hd (PlS w1 W6 pt (.slice ua i uc) us kv' vv' (doT (tabOf (us.map opT)) (ckd, cky, cv))) := HD5.out.2.go hf6
                  have HCW : Hd (∀ w, Fr (fun _ => False) W6 w → (w.cell? ⟨pr, 0, none⟩ = some (.bool pok) ∧ w.cell? ⟨pr, 1, none⟩ = some (.string pval) ∧ w.cell? ⟨pr, 2, none⟩ = some (.slice pka pks.length pkc) ∧ w.cell? ⟨pr, 3, none⟩ = some (.slice pva pvs.length pvc)) ∧ w.cell? ⟨gc, j * 9 + 5, none⟩ = some (.bool cok) ∧ w.cell? ⟨gc, j * 9 + 6, none⟩ = some (.string cval) ∧ w.cell? ⟨gc, j * 9 + 7, none⟩ = some (.slice cka cks.length ckc) ∧ w.cell? ⟨gc, j * 9 + 8, none⟩ = some (.slice cva cvs.length cvc)) := fun w f => by
                    have hp := heap_lt hb6
                    have hx := HX1.out w (HS6.out.fr.trans f)
                    exact ⟨⟨(f.cell hp (fun e => e)).trans (cell_of hb6 0), (f.cell hp (fun e => e)).trans (cell_of hb6 1), (f.cell hp (fun e => e)).trans (cell_of hb6 2), (f.cell hp (fun e => e)).trans (cell_of hb6 3)⟩, hx 5 (by omega), hx 6 (by omega), hx 7 (by omega), hx 8 (by omega)⟩
                  have HPL : Hd (pks.length ≤ 4000000000 ∧ pvs.length ≤ 4000000000) := by
                    have h1 := doR_len (tabOf (us.map opT)) (ckd, cky, cv)
                    have h2 := tab_len us
                    have h3 := HRR.out
                    unfold rpOf at h3
                    simp only [Rpl.mk.injEq] at h3
                    exact ⟨by rw [h3.2.2.1, List.length_map]; omega, by rw [h3.2.2.2, List.length_map]; omega⟩
                  obtain ⟨F, eF⟩ : ∃ F, F = rplB ⟨pok, pval, pks, pvs⟩ ⟨cok, cval, cks, cvs⟩ := ⟨_, rfl⟩
                  have HY : Hd (∀ W, Fr (fun _ => False) W6 W → Calls Tryz.prog 21 #[.agg #[.bool pok, .string pval, .slice pka pks.length pkc, .slice pva pvs.length pvc], .agg #[.bool cok, .string cval, .slice cka cks.length ckc, .slice cva cvs.length cvc]] W fun e w' => e = .returned (.bool F) ∧ Fr (fun _ => False) W w') := fun W f => by
                    rw [eF]
                    exact eqReply_any ⟨⟨pok, pval, pks, pvs⟩, .slice pka pks.length pkc, .slice pva pvs.length pvc⟩ ⟨⟨cok, cval, cks, cvs⟩, .slice cka cks.length ckc, .slice cva cvs.length cvc⟩ W ((HD5.out.1.fr hf6).fr f) (HC.out.2.2.2.fr (HF1.out.trans (HS6.out.fr.trans f))) HPL.out.1 HLN.out.2.1 HPL.out.2 HLN.out.2.2
                  have HFF : Hd (fitsB us ⟨cb, ce, ckd, cky, cv, ⟨⟨cok, cval, cks, cvs⟩, .slice cka cks.length ckc, .slice cva cvs.length cvc⟩⟩ = F) := by
                    have h1 := HFT.out
                    rw [← rp_iff (c := ⟨cb, ce, ckd, cky, cv, ⟨⟨cok, cval, cks, cvs⟩, .slice cka cks.length ckc, .slice cva cvs.length cvc⟩⟩) HLN.out.1] at h1
                    rw [show rpOf (doR (tabOf (us.map opT)) (opT ⟨cb, ce, ckd, cky, cv, ⟨⟨cok, cval, cks, cvs⟩, .slice cka cks.length ckc, .slice cva cvs.length cvc⟩⟩)) = ⟨pok, pval, pks, pvs⟩ from HRR.out.symm] at h1
                    rw [eF]; exact h1
                  clear hb6 hf6 epr eW6 eF HFT HRR HPL HLN HD5 HSw
                  refine wp_region_held_drew (S := fun W2 => Fr (fun _ => False) W6 W2) (by kernel_rfl) ((Fr.refl _ W6).drew) (fun hHeld => ?_)
                  refine heldTake (i := 0) 87 (v := ?_) rfl rfl (by kernel_rfl) (by kernel_rfl) (by kernel_rfl) (fun _ _ _ h => h) (by kernel_rfl) (fun w hSw => (by obtain ⟨⟨r0, r1, r2, r3⟩, z5, z6, z7, z8⟩ := HCW.out w hSw; go_simp; try with_reducible rfl)) hHeld ?_
                  simp only [Act.put, List.setIfInBounds_toArray, List.set_cons_zero, List.set_cons_succ]
                  refine heldTake (i := 1) 88 (v := ?_) rfl rfl (by kernel_rfl) (by kernel_rfl) (by kernel_rfl) (fun _ _ _ h => h) (by kernel_rfl) (fun w hSw => (by obtain ⟨⟨r0, r1, r2, r3⟩, z5, z6, z7, z8⟩ := HCW.out w hSw; go_simp; try with_reducible rfl)) hHeld ?_
                  simp only [Act.put, List.setIfInBounds_toArray, List.set_cons_zero, List.set_cons_succ]
                  refine heldTake (i := 2) 89 (v := ?_) rfl rfl (by kernel_rfl) (by kernel_rfl) (by kernel_rfl) (fun _ _ _ h => h) (by kernel_rfl) (fun w hSw => (by obtain ⟨⟨r0, r1, r2, r3⟩, z5, z6, z7, z8⟩ := HCW.out w hSw; go_simp; try with_reducible rfl)) hHeld ?_
                  simp only [Act.put, List.setIfInBounds_toArray, List.set_cons_zero, List.set_cons_succ]
                  refine heldTake (i := 3) 90 (v := ?_) rfl rfl (by kernel_rfl) (by kernel_rfl) (by kernel_rfl) (fun _ _ _ h => h) (by kernel_rfl) (fun w hSw => (by obtain ⟨⟨r0, r1, r2, r3⟩, z5, z6, z7, z8⟩ := HCW.out w hSw; go_simp; try with_reducible rfl)) hHeld ?_
                  simp only [Act.put, List.setIfInBounds_toArray, List.set_cons_zero, List.set_cons_succ]
                  refine heldTake (i := 4) 91 (v := ?_) rfl rfl (by kernel_rfl) (by kernel_rfl) (by kernel_rfl) (fun _ _ _ h => h) (by kernel_rfl) (fun w hSw => (by obtain ⟨⟨r0, r1, r2, r3⟩, z5, z6, z7, z8⟩ := HCW.out w hSw; go_simp; try with_reducible rfl)) hHeld ?_
                  simp only [Act.put, List.setIfInBounds_toArray, List.set_cons_zero, List.set_cons_succ]
                  refine heldTake (i := 5) 92 (v := ?_) rfl rfl (by kernel_rfl) (by kernel_rfl) (by kernel_rfl) (fun _ _ _ h => h) (by kernel_rfl) (fun w hSw => (by obtain ⟨⟨r0, r1, r2, r3⟩, z5, z6, z7, z8⟩ := HCW.out w hSw; go_simp; try with_reducible rfl)) hHeld ?_
                  simp only [Act.put, List.setIfInBounds_toArray, List.set_cons_zero, List.set_cons_succ]
                  refine heldOne (i := 6) rfl (by kernel_rfl) (fun K hK => ?_)
                  go_simp
                  go_wp2_with ((go_at_call 21; refine Calls.mono (HY.out _ hHeld) ?_; rintro e w8 ⟨rfl, hF8⟩; have hHeld2 : Fr (fun _ => False) W6 w8 := hHeld.trans hF8; clear hF8 hHeld))
                  refine hK.out _ _ hHeld2 ?_
                  clear hK K
                  have hHeld := hHeld2
                  clear hHeld2
                  refine heldTake (i := 7) 94 (v := ?_) rfl rfl (by kernel_rfl) (by kernel_rfl) (by kernel_rfl) (fun _ _ _ h => h) (by kernel_rfl) (fun w hSw => (by obtain ⟨⟨r0, r1, r2, r3⟩, z5, z6, z7, z8⟩ := HCW.out w hSw; go_simp; try with_reducible rfl)) hHeld ?_
                  simp only [Act.put, List.setIfInBounds_toArray, List.set_cons_zero, List.set_cons_succ]
                  refine wpAnyH_done (by kernel_rfl) ?_ _
                  have HS8 : Hd (PlS w1 w8 pt (.slice ua i uc) us kv' vv' (doT (tabOf (us.map opT)) (ckd, cky, cv))) := HS6.out.go hHeld
                  clear hHeld HY HCW
                  cases F
                  · have HTF : Hd (T = false) := by
                      have := HS.out.2
                      rw [HPX.out, HFF.out] at this
                      show T = false
                      simpa using this.symm
                    go_wp2_with fail
                    go_ret
                    exact ⟨by rw [HTF.out]; simp, HF1.out.trans HS8.out.fr⟩
                  · have HTN : Hd (playX cs (us ++ [⟨cb, ce, ckd, cky, cv, ⟨⟨cok, cval, cks, cvs⟩, .slice cka cks.length ckc, .slice cva cvs.length cvc⟩⟩]) (os.drop (i + 1)) = T) := by
                      have := HS.out.2
                      rw [HPX.out, HFF.out] at this
                      show _ = T
                      simpa using this
                    have hx := HX1.out w8 HS8.out.fr
                    unfold c9 at hx
                    have x0 := hx 0 (by omega)
                    have x1 := hx 1 (by omega)
                    have x2 := hx 2 (by omega)
                    have x3 := hx 3 (by omega)
                    have x4 := hx 4 (by omega)
                    have x5 := hx 5 (by omega)
                    have x6 := hx 6 (by omega)
                    have x7 := hx 7 (by omega)
                    have x8 := hx 8 (by omega)
                    simp only [List.getElem?_cons_zero, List.getElem?_cons_succ, Nat.add_zero] at x0 x1 x2 x3 x4 x5 x6 x7 x8
                    obtain ⟨g9, cap9, w9, hr9, hS9⟩ := HS8.out.app HPT.out ⟨cb, ce, ckd, cky, cv, ⟨⟨cok, cval, cks, cvs⟩, .slice cka cks.length ckc, .slice cva cvs.length cvc⟩⟩ ⟨_, _, _, rfl⟩ ⟨_, _, _, rfl⟩ (by omega)
                    rw [hus] at hr9 hS9
                    have HA : Hd ((Builtin.append_ #[63, 63] 63 #[.slice ua i uc, .slice (some ⟨w8.heap.size, 0, none⟩) 1 1]).run Tryz.prog (w8.alloc (.cells #[vI cb, vI ce, vI ckd, vI cky, .string cv, .bool cok, .string cval, .slice cka cks.length ckc, .slice cva cvs.length cvc] 70)) = .ok (.slice (some ⟨g9, 0, none⟩) (i + 1) cap9) w9) := hr9
                    have HS9 : Hd _ := hS9
                    clear hr9 hS9 hx
                    go_wp2_with (at_builtin; refine wpList_append_run rfl (.tmp 95) (.tmp 100) 63 rfl _ _ _ rfl rfl HA.out ?_)
                    exact ⟨⟨i + 1, us ++ [⟨cb, ce, ckd, cky, cv, ⟨⟨cok, cval, cks, cvs⟩, .slice cka cks.length ckc, .slice cva cvs.length cvc⟩⟩], kv', vv', by simp, by omega, by simp; omega, by rw [tab_snoc]; exact HS9.out, HTN.out⟩, by simp; omega⟩
      · have hin : i = os.length := by have := EN.out.2.1; omega
        have i2 : ¬ (i : Int) < no := by omega
        have HTT : Hd (T = true) := by
          have := HS.out.2
          rw [hin, List.drop_length] at this
          exact this.symm
        have HFR : Hd (Fr (fun _ => False) w wr) := HF1.out.trans HS.out.1.fr
        clear hin
        go_wp2_with fail
        go_ret
        exact ⟨by rw [HTT.out]; simp, HFR.out⟩
  · have hln2 : ((no : Int) == (n : Int)) = false := by simp; omega
    go_wp2_with fail
    go_ret
    exact ⟨by simp [hln], HF1.out⟩
end Go.Proofs.YtihicdbplmdjiaaGreat
