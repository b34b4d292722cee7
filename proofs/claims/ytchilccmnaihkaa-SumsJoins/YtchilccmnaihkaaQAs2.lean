import Derived.Test.YtchilccmnaihkaaQA9J
namespace Go.Proofs.Ytchilccmnaihkaa
open Go.RowKit (wrap32 wrap64)
set_option linter.unusedVariables false
set_option linter.unusedSimpArgs false

set_option maxRecDepth 100000 in
set_option maxHeartbeats 2000000 in
theorem shaped_cons (p r : Int) (P R : Nat) (v : Value) (l : List Int) (w : World) (hl : IA w v l) (hz : l.length ≤ 17592186043904) (hP : modX p 9 = P) (hR : modX r 5 = R) (hln : ¬ l.length = 0) :
    Calls Try.prog 8 #[vI p, vI r, v] w fun e w' => ∃ s v', e = .returned (.tuple #[.agg #[vI P, vI R, vI 0, .slice none 0 0], v']) ∧ SAq (fun j => w.heap.size ≤ j) w' v' s ∧ PS.Right P R s ∧ Fr (fun _ => False) w w' := by
  obtain ⟨la, lc, rfl, hlc⟩ := hl
  have HL : Hd (l ≠ [] → _) := hlc
  have hP8 : P ≤ 8 := by have := modX_bound p 9 (by omega); omega
  have hR4 : R ≤ 4 := by have := modX_bound r 5 (by omega); omega
  have HP : Hd (modX p 9 = P) := hP
  have HR : Hd (modX r 5 = R) := hR
  clear hlc hP hR
  obtain ⟨n, hn⟩ : ∃ n, l.length = n := ⟨_, rfl⟩
  have HN : Hd (l.length = n) := hn
  rw [hn] at hz hln
  rw [hn]
  clear hn
  obtain ⟨i3, hi3, hz3, hs3, hb3⟩ := info_parts (P := Try.prog) (e := 3) (z := .int .i64 0) (size := 1) (bytes := 8) (by kernel_rfl)
  obtain ⟨i22, hi22, hz22, hs22, hb22⟩ := info_parts (P := Try.prog) (e := 22) (z := .slice none 0 0) (size := 1) (bytes := 24) (by kernel_rfl)
  have HSH : Hd _ := SH.begin w P R
  obtain ⟨wa, hwa⟩ : ∃ wa, wa = (((w.alloc zeroF).alloc nil2).alloc (.cells #[vI P, vI R, vI 0, .slice none 0 0] 28)).alloc nil2 := ⟨_, rfl⟩
  rw [← hwa] at HSH
  have HWA : Hd (wa = _) := hwa
  obtain ⟨H, hH⟩ : ∃ H, H = w.heap.size := ⟨_, rfl⟩
  rw [← hH] at HSH
  have HH : Hd (H = w.heap.size) := hH
  clear hwa hH
  go_enter Try.func8, Try.ntmps8
  go_wp2_with fail
  refine (show Calls Try.prog 14 #[vI p, vI 9] _ _ from mod_any p 9 (by omega) (by omega) _).mono ?_
  rintro e w1 ⟨rfl, rfl⟩
  rw [HP.out]
  go_wp2_with fail
  refine (show Calls Try.prog 14 #[vI r, vI 5] _ _ from mod_any r 5 (by omega) (by omega) _).mono ?_
  rintro e w1 ⟨rfl, rfl⟩
  rw [HR.out]
  go_wp2_with fail
  rw [← HWA.out, ← HH.out]
  clear HWA HP HR
  go_loopw [10, 11] (fun av v wr => ∃ (k T0 : Nat) (hv rv : Value) (us : List Value) (hs : List Int) (ls : List (List Int)), av = .int .i64 (T0 : Int) ∧ v = .int .i64 k ∧ k ≤ P ∧ T0 ≤ 5 * k ∧ Hd (hs.length = k ∧ ls.length = k) ∧ Hd (SH w wr H P R hv rv us hs ls)) (fun _ v _ => match v with | .int _ q => P - q.toNat | _ => 0)
  case atStart => exact ⟨0, 0, _, _, [], [], [], by simp, rfl, Nat.zero_le _, Nat.zero_le _, ⟨rfl, rfl⟩, HSH.out⟩
  case round =>
    clear HSH
    obtain ⟨k, T0, hv, rv, us, hs, ls, rfl, rfl, hk, hT0, HU, HS⟩ := hrel
    have c0 : wr.cell? ⟨H + 2, 0, none⟩ = some (vI (P : Int)) := by rw [cell_of HS.out.b2]; rfl
    by_cases hlt : k < P
    · have hk0 : (0 : Int) ≤ k := by omega
      have hk1 : (k : Int) < P := by omega
      obtain ⟨B, hB⟩ : ∃ B, B = wr.heap.size := ⟨_, rfl⟩
      have HBB : Hd (B = wr.heap.size) := hB
      clear hB
      obtain ⟨w7, hw7⟩ : ∃ w7, w7 = wr := ⟨_, rfl⟩
      rw [← hw7] at HS HBB c0
      rw [← hw7]
      clear hw7
      go_wp2_with fail
      clear c0
      go_loopw [10, 12, 13] (fun av mv v wr => ∃ (j T : Nat) (ts : List Int), av = .int .i64 (T : Int) ∧ v = .int .i64 j ∧ j ≤ R + 1 ∧ T ≤ 5 * k + j ∧ Hd (ts.length = j) ∧ Hd (∀ x ∈ ts, okN x = true) ∧ Hd (IOwn wr B mv ts) ∧ Hd (Fr (fun _ => False) w7 wr)) (fun _ _ v _ => match v with | .int _ q => R + 1 - q.toNat | _ => 0)
      case atStart => exact ⟨0, T0, [], rfl, rfl, Nat.zero_le _, by omega, rfl, fun x hx => by simp at hx, World.ownsRow_nil _ _ _ _, Fr.refl _ _⟩
      case round =>
        obtain ⟨j, T, ts, rfl, rfl, hj, hT, HTL, HTO, HO, HF⟩ := hrel
        have c1 : wr.cell? ⟨H + 2, 1, none⟩ = some (vI (R : Int)) := by rw [cell_of (keepF HS.out.b2 HF.out)]; rfl
        by_cases hltj : j ≤ R
        · have hj0 : (0 : Int) ≤ j := by omega
          have hj1 : (j : Int) ≤ R := by omega
          have hTb : T ≤ 50 := by omega
          have hT0' : (0 : Int) ≤ T := by omega
          have hT1 : (T : Int) ≤ 50 := by omega
          clear hT0
          have hne : l ≠ [] := by intro e; have h9 := HN.out; rw [e] at h9; exact hln h9.symm
          obtain ⟨lk, lo, rfl, hlk, hlc⟩ := HL.out hne
          obtain ⟨i, hi⟩ : ∃ i, i = T % n := ⟨_, rfl⟩
          have hil : i < n := by rw [hi]; exact Nat.mod_lt _ (by omega)
          have q1 := (HF.out.cell (o := lo + i) (Nat.lt_of_lt_of_le hlk HS.out.fr.size) (fun h => h)).trans ((HS.out.fr.cell hlk (fun h => h)).trans (hlc i (by rw [HN.out]; exact hil)))
          generalize l[i]'(by rw [HN.out]; exact hil) = z at *
          have hm1 : (T : Int).tmod (n : Int) = (i : Int) := by rw [hi]; rfl
          obtain ⟨d, hd⟩ : ∃ d, d = T / n := ⟨_, rfl⟩
          have hm2 : (T : Int).tdiv (n : Int) = (d : Int) := by rw [hd]; rfl
          have hn0 : ¬ ((n : Int) = 0) := by omega
          have hng : (n : Int) > 0 := by omega
          have hi0 : (0 : Int) ≤ i := by omega
          have hi1 : (i : Int) < n := by omega
          clear hlc hi hlk hd hne hil
          go_wp2_with fail
          refine wp_region_still_tail 12 mixed (by kernel_rfl) ?_
          simp only [List.take_succ_cons, List.take_zero, List.drop_succ_cons, List.drop_zero]
          repeat still_step
          refine wpStill_nil ?_
          go_wp2_with fail
          refine (show Calls Try.prog 14 #[vI _, vI 5] _ _ from mod_any _ 5 (by omega) (by omega) _).mono ?_
          rintro e w8 ⟨rfl, rfl⟩
          obtain ⟨x, hx⟩ : ∃ x, x = modX (wrap64 (z + wrap64 d)) 5 := ⟨_, rfl⟩
          have hmb : 0 ≤ x ∧ x < 5 := by rw [hx]; exact modX_bound _ 5 (by omega)
          rw [← hx]
          clear hx q1 hm1 hm2 hi0 hi1
          by_cases hx4 : x = 4
          · subst hx4
            have HXO : Hd (okN 9 = true) := rfl
            have HO1 : Hd ((wr.drew.alloc (.cells #[vI 9] 3)).ownsRow B 3 1 u12 ts.length (ts.map vI)) := World.ownsRow.alloc (IOwn.fr HO.out (Fr.drew (Fr.refl _ _)) (fun _ _ e => e)) _
            have hnews : ∀ j u, [vI 9][j]? = some u → (wr.drew.alloc (.cells #[vI 9] 3)).cell? ((⟨wr.drew.heap.size, 0, none⟩ : Addr).add j) = some u :=
              World.news_of_block (cs := #[vI 9]) (heap_new wr.drew (.cells #[vI 9] 3))
            have hbase : B ≤ (wr.drew.alloc (.cells #[vI 9] 3)).heap.size := by have h9 := HBB.out; have h8 : w7.heap.size ≤ wr.heap.size := HF.out.size; simp; omega
            have hEl : ts.length + 1 ≤ 6 := by have := HTL.out; omega
            go_wp2_with ((at_builtin; refine Hd.out ?_))
            unfold Hd
            refine wpList_append_lies _ rfl (.tmp 52) (.tmp 54) 22 rfl B 3 i3 (.int .i64 0) 1 8 under22i hi3 hz3 hs3 hb3 rfl (by omega) u12 ts.length _ rfl HO1.out ⟨wr.drew.heap.size, 0, none⟩ 1 1 [vI 9] rfl rfl hnews (by intro u hu; simp at hu; subst hu; rfl) (by omega) (by unfold maxLen; omega) (by omega) hbase (wr.drew.heap.size + 1) (by simp) ?_
            intro g8 cap8 w8 hown8 hgrow8 hat8 hlt8
            have HO8 : Hd (IOwn w8 B (.slice (some ⟨g8, 0, none⟩) (ts.length + 1) cap8) (ts ++ [9])) := by unfold Hd IOwn; rw [List.map_append, List.length_append]; exact hown8
            have HF8 : Hd (Fr (fun _ => False) w7 w8) := grow_fr0 ((HF.out.drew).alloc _) hgrow8 (fun k hk => by have := (World.ownsRow.lt HO1.out k hk).1; have := HBB.out; omega)
            have HT8 : Hd ((ts ++ [9]).length = j + 1) := by unfold Hd; rw [List.length_append, HTL.out]; rfl
            have HK8 : Hd (∀ y ∈ ts ++ [9], okN y = true) := fun y hy => by
              rcases List.mem_append.1 hy with hy | hy
              · exact HTO.out y hy
              · simp at hy; subst hy; exact HXO.out
            clear hown8 hgrow8 hat8 hlt8 HO HF HO1 hnews hbase c1
            go_wp2_with fail
            exact ⟨⟨j + 1, T + 1, _, by simp, by simp, by omega, by omega, HT8.out, HK8.out, HO8.out, HF8.out⟩, by simp; omega⟩

          · have hx4b : (x == 4) = false := by simpa using hx4
            have HXO : Hd (okN x = true) := by unfold Hd okN; simp; omega
            clear hx4
            have HO1 : Hd ((wr.drew.alloc (.cells #[vI x] 3)).ownsRow B 3 1 u12 ts.length (ts.map vI)) := World.ownsRow.alloc (IOwn.fr HO.out (Fr.drew (Fr.refl _ _)) (fun _ _ e => e)) _
            have hnews : ∀ j u, [vI x][j]? = some u → (wr.drew.alloc (.cells #[vI x] 3)).cell? ((⟨wr.drew.heap.size, 0, none⟩ : Addr).add j) = some u :=
              World.news_of_block (cs := #[vI x]) (heap_new wr.drew (.cells #[vI x] 3))
            have hbase : B ≤ (wr.drew.alloc (.cells #[vI x] 3)).heap.size := by have h9 := HBB.out; have h8 : w7.heap.size ≤ wr.heap.size := HF.out.size; simp; omega
            have hEl : ts.length + 1 ≤ 6 := by have := HTL.out; omega
            go_wp2_with ((at_builtin; refine Hd.out ?_))
            unfold Hd
            refine wpList_append_lies _ rfl (.tmp 52) (.tmp 54) 22 rfl B 3 i3 (.int .i64 0) 1 8 under22i hi3 hz3 hs3 hb3 rfl (by omega) u12 ts.length _ rfl HO1.out ⟨wr.drew.heap.size, 0, none⟩ 1 1 [vI x] rfl rfl hnews (by intro u hu; simp at hu; subst hu; rfl) (by omega) (by unfold maxLen; omega) (by omega) hbase (wr.drew.heap.size + 1) (by simp) ?_
            intro g8 cap8 w8 hown8 hgrow8 hat8 hlt8
            have HO8 : Hd (IOwn w8 B (.slice (some ⟨g8, 0, none⟩) (ts.length + 1) cap8) (ts ++ [x])) := by unfold Hd IOwn; rw [List.map_append, List.length_append]; exact hown8
            have HF8 : Hd (Fr (fun _ => False) w7 w8) := grow_fr0 ((HF.out.drew).alloc _) hgrow8 (fun k hk => by have := (World.ownsRow.lt HO1.out k hk).1; have := HBB.out; omega)
            have HT8 : Hd ((ts ++ [x]).length = j + 1) := by unfold Hd; rw [List.length_append, HTL.out]; rfl
            have HK8 : Hd (∀ y ∈ ts ++ [x], okN y = true) := fun y hy => by
              rcases List.mem_append.1 hy with hy | hy
              · exact HTO.out y hy
              · simp at hy; subst hy; exact HXO.out
            clear hown8 hgrow8 hat8 hlt8 HO HF HO1 hnews hbase c1
            go_wp2_with fail
            exact ⟨⟨j + 1, T + 1, _, by simp, by simp, by omega, by omega, HT8.out, HK8.out, HO8.out, HF8.out⟩, by simp; omega⟩

        · have hjr : j = R + 1 := by omega
          subst hjr
          have hdj : decide (((R + 1 : Nat) : Int) ≤ (R : Int)) = false := by simp; omega
          have hdj2 : ¬ (((R : Int) + 1) ≤ (R : Int)) := by omega
          obtain ⟨x0, zs, ets⟩ : ∃ x0 zs, ts = x0 :: zs := by
            cases hts : ts with
            | nil => have h9 := HTL.out; rw [hts] at h9; simp at h9
            | cons a b => exact ⟨a, b, rfl⟩
          have hzl : zs.length = R := by have h9 := HTL.out; rw [ets] at h9; simpa using h9
          have hx0 : okN x0 = true := HTO.out x0 (by rw [ets]; simp)
          have hzo : ∀ x ∈ zs, okN x = true := fun x hx => HTO.out x (by rw [ets]; simp [hx])
          rw [ets] at HO
          have HO1 : IOwn wr B u12 (x0 :: zs) := HO.out
          obtain ⟨tg, tc, etv, htg, hcell0⟩ := own_cell HO1 (j := 0) (u := vI x0) rfl
          have etl : (x0 :: zs).length = R + 1 := by simp [hzl]
          rw [etl] at etv
          have htc : R + 1 ≤ tc := by
            rcases HO1.2 with ⟨e, e2⟩ | ⟨g', cap', cur', e, k1, k2, k3, k4, k5, k6⟩
            · rw [etv] at e; cases e
            · rw [etv] at e; cases e; omega
          have htB : B ≤ tg := (HO1.ge tg (by rw [etv]; rfl)).1
          have HZL : Hd (zs.length = R ∧ ∀ x ∈ zs, okN x = true) := ⟨hzl, hzo⟩
          have HX0 : Hd (okN x0 = true) := hx0
          have HTB : Hd (B ≤ tg ∧ tg < wr.heap.size) := ⟨htB, htg⟩
          have HS1 : Hd (SH w wr H P R hv rv us hs ls) := HS.out.keep HF.out
          obtain ⟨wb, hwb⟩ : ∃ wb, wb = (wr.alloc (.cells #[vI x0] 3)).drew := ⟨_, rfl⟩
          have hFb : Fr (fun _ => False) wr wb := by rw [hwb]; exact Fr.drew (Fr.alloc (Fr.refl _ wr) _)
          have HB : Hd (SH w wb H P R hv rv us hs ls) := HS1.out.keep hFb
          have HOb : Hd (IOwn wb B u12 (x0 :: zs)) := HO1.fr hFb (fun _ _ e => e)
          have hnews : ∀ j u, [vI x0][j]? = some u → wb.cell? ((⟨wr.heap.size, 0, none⟩ : Addr).add j) = some u := by
            rw [hwb]; exact World.news_of_block (cs := #[vI x0]) (heap_new wr (.cells #[vI x0] 3))
          have hws : wb.heap.size = wr.heap.size + 1 := by rw [hwb]; simp
          have hbase : H + 4 ≤ wb.heap.size := by have := heap_lt HB.out.b3; omega
          have HBs : Hd (∀ j, hv.ownBlock = some j → j < B) := fun j e => by have := (HS.out.oh.ge j e).2; have := HBB.out; omega
          have HRs : Hd (∀ j, rv.ownBlock = some j → j < B) := fun j e => by have := (World.ownsRow.lt HS.out.ol j e).2; have := HBB.out; omega
          have HB4 : Hd (H + 4 ≤ B) := by have := heap_lt HS.out.b3; have := HBB.out; unfold Hd; omega
          have x0c : wr.cell? ⟨H + 3, 0, none⟩ = some hv := by rw [cell_of HS1.out.b3]; rfl
          have x0b : wb.cell? ⟨H + 3, 0, none⟩ = some hv := by rw [cell_of HB.out.b3]; rfl
          have ne1 : wr.heap.size ≠ H + 3 := by have := heap_lt HS1.out.b3; omega
          have ne2 : H + 3 ≠ wr.heap.size := by omega
          have HAFT : Hd (∀ w6, wb.grownBy w6 hv.ownBlock → w6.cell? ⟨H + 3, 0, none⟩ = some hv ∧ w6.frozen? ⟨H + 3, 0, none⟩ = false) := fun w6 hg => by
            have b := ((grown_fr hg).block (H + 3) (heap_lt HB.out.b3) (fun e => by have := (World.ownsRow.lt HB.out.oh _ e).1; omega)).trans HB.out.b3
            exact ⟨by rw [cell_of b]; rfl, frozen_of b 0⟩
          obtain ⟨ha, hc, ehv⟩ := own_slice HS1.out.oh
          have hsl : hs.length + 1 ≤ 9 := by have := HU.out.1; omega
          have hcell : wr.cell? ⟨tg, 0, none⟩ = some (vI x0) := hcell0
          subst etv
          subst ehv
          subst hwb
          clear hFb HO HF HTL HTO HO1 hcell0 ets hzl hx0 hzo etl htB htg HS hj hltj HL
          go_upto_region 18 with fail
          clear c1 hdj hdj2
          go_cut [] (fun wx => ∃ (g6 cap6 : Nat), Hd (SH w wx H P R (.slice (some ⟨g6, 0, none⟩) (hs.length + 1) cap6) rv us (hs ++ [x0]) ls) ∧ Hd (IOwn wx B (.slice (some ⟨tg, 0, none⟩) (R + 1) tc) (x0 :: zs)) ∧ Hd (g6 ≠ tg))
          case first =>
            go_region_law (
              refine step_append_lies _ rfl (.tmp 57) (.tmp 61) 22 rfl (H + 4) 3 i3 (.int .i64 0) 1 8 under22i hi3 hz3 hs3 hb3 rfl (by omega) (.slice ha hs.length hc) hs.length _ (by simp [Act.eval, Act.put]) HB.out.oh ⟨wr.heap.size, 0, none⟩ 1 1 [vI x0] (by simp [Act.eval, Act.put]) rfl hnews (by intro u hu; simp at hu; subst hu; rfl) (by omega) (by unfold maxLen; omega) (by omega) hbase (wr.heap.size + 1) hws ?_
              intro g6 cap6 w6 hown6 hgrow6 hat6 hlt6
              obtain ⟨y0, z0⟩ := HAFT.out w6 hgrow6)
            all_goals
              go_wp2_with fail
              go_meet
              refine ⟨g6, cap6, HB.out.hvGrown HH.out HX0.out hgrow6 hown6 (by rw [hws]; exact hat6), ?_, ?_⟩
              · have h1 := HOb.out.fr (grown_fr hgrow6) (fun j e e2 => by have := HBs.out j e2; have := (HOb.out.ge j e).1; omega)
                exact h1.fr (setCell_fr w6 (H + 3) 0 _) (fun j e e2 => by have := (h1.ge j e).1; have := HB4.out; omega)
              · intro e
                have h9 := HTB.out
                rcases hat6 with e3 | e3
                · have := HBs.out g6 e3; omega
                · omega
          case rest =>
            obtain ⟨g6, cap6, HS2, HO2, HNE⟩ := hcut
            clear HB HOb hnews hws hbase x0c x0b ne1 ne2 HAFT hcell HS1 HBs hsl
            have HRL : Hd _ := HRs.out
            obtain ⟨ua, hua⟩ : ∃ ua : Option Addr, (if tc = 1 then some (⟨tg, 0, none⟩ : Addr) else some (⟨tg, 1, none⟩ : Addr)) = ua := ⟨_, rfl⟩
            have HUO : Hd (∀ j, (Value.slice ua R (tc - 1)).ownBlock = some j → j = tg) := fun j e => by
              rw [← hua] at e
              split at e <;> exact (Option.some.inj e).symm
            have HUA : Hd (∀ W, IOwn W B (.slice (some ⟨tg, 0, none⟩) (R + 1) tc) (x0 :: zs) → IA W (.slice ua R (tc - 1)) zs) := fun W h => by
              refine ⟨ua, tc - 1, by rw [HZL.out.1], fun hne => ?_⟩
              have hR : 0 < R := by rw [← HZL.out.1]; exact List.length_pos_iff.2 hne
              have ht1 : ¬ tc = 1 := by omega
              rw [if_neg ht1] at hua
              refine ⟨tg, 1, hua.symm, (h.ge tg rfl).2, fun j hj => ?_⟩
              obtain ⟨g', c', e', -, hc'⟩ := own_cell h (j := j + 1) (u := vI zs[j]) (by simp [List.getElem?_eq_getElem hj])
              cases e'
              rw [Nat.add_comm 1 j]; exact hc'
            obtain ⟨ra, rc, erv⟩ := own_slice HS2.out.ol
            subst erv
            obtain ⟨wb, hwb⟩ : ∃ wb, wb = (wc.alloc (.cells #[.slice ua R (tc - 1)] 22)).drew := ⟨_, rfl⟩
            have hFb : Fr (fun _ => False) wc wb := by rw [hwb]; exact Fr.drew (Fr.alloc (Fr.refl _ wc) _)
            have HB : Hd (SH w wb H P R (.slice (some ⟨g6, 0, none⟩) (hs.length + 1) cap6) (.slice ra us.length rc) us (hs ++ [x0]) ls) := HS2.out.keep hFb
            have HOb : Hd (IOwn wb B (.slice (some ⟨tg, 0, none⟩) (R + 1) tc) (x0 :: zs)) := HO2.out.fr hFb (fun _ _ e => e)
            have HAP : Hd (Apt wb (H + 4) (.slice (some ⟨g6, 0, none⟩) (hs.length + 1) cap6) (.slice ra us.length rc) (.slice ua R (tc - 1)) zs) := ⟨HUA.out wb HOb.out, fun j e => by
              have ej := HUO.out j e
              subst ej
              have h9 := HTB.out
              have h8 := HB4.out
              refine ⟨by omega, (HOb.out.ge j rfl).2, fun e2 => HNE.out (Option.some.inj e2), fun e2 => ?_⟩
              have := HRL.out j e2
              omega⟩
            have hnews : ∀ j u, [Value.slice ua R (tc - 1)][j]? = some u → wb.cell? ((⟨wc.heap.size, 0, none⟩ : Addr).add j) = some u := by
              rw [hwb]; exact World.news_of_block (cs := #[.slice ua R (tc - 1)]) (heap_new wc (.cells #[.slice ua R (tc - 1)] 22))
            have hws : wb.heap.size = wc.heap.size + 1 := by rw [hwb]; simp
            have hbase : H + 4 ≤ wb.heap.size := by have := heap_lt HB.out.b3; omega
            have x1c : wc.cell? ⟨H + 3, 1, none⟩ = some (.slice ra us.length rc) := by rw [cell_of HS2.out.b3]; rfl
            have x1b : wb.cell? ⟨H + 3, 1, none⟩ = some (.slice ra us.length rc) := by rw [cell_of HB.out.b3]; rfl
            have ne1 : wc.heap.size ≠ H + 3 := by have := heap_lt HS2.out.b3; omega
            have ne2 : H + 3 ≠ wc.heap.size := by omega
            have HAFT : Hd (∀ w6, wb.grownBy w6 (Value.slice ra us.length rc).ownBlock → w6.cell? ⟨H + 3, 1, none⟩ = some (.slice ra us.length rc) ∧ w6.frozen? ⟨H + 3, 1, none⟩ = false) := fun w6 hg => by
              have b := ((grown_fr hg).block (H + 3) (heap_lt HB.out.b3) (fun e => by have := (World.ownsRow.lt HB.out.ol _ e).1; omega)).trans HB.out.b3
              exact ⟨by rw [cell_of b]; rfl, frozen_of b 1⟩
            have hul : us.length + 1 ≤ 9 := by have h1 := HU.out.2; have h2 := HS2.out.ul; omega
            have hcl : (1 : Int) ≤ (R : Int) + 1 := by omega
            subst hwb
            clear hFb HUA HUO HRs HS2 HO2 HOb HNE
            go_upto_region 19 with fail
            have HU3 : Hd ((hs ++ [x0]).length = k + 1 ∧ (ls ++ [zs]).length = k + 1) := by
              have h9 := HU.out
              unfold Hd; simp [h9.1, h9.2]
            go_region_law (
              refine step_append_lies _ rfl (.tmp 65) (.tmp 68) 29 rfl (H + 4) 22 i22 (.slice none 0 0) 1 24 under29 hi22 hz22 hs22 hb22 rfl (by omega) (.slice ra us.length rc) us.length _ (by simp [Act.eval, Act.put]) HB.out.ol ⟨wc.heap.size, 0, none⟩ 1 1 [.slice ua R (tc - 1)] (by simp [Act.eval, Act.put]) rfl hnews (by intro u hu; simp at hu; subst hu; rfl) (by omega) (by unfold maxLen; omega) (by omega) hbase (wc.heap.size + 1) hws ?_
              intro g8 cap8 w8 hown8 hgrow8 hat8 hlt8
              obtain ⟨y0, z0⟩ := HAFT.out w8 hgrow8)
            all_goals
              have HS3 : Hd (SH w (w8.setCell ⟨H + 3, 1, none⟩ (.slice (some ⟨g8, 0, none⟩) (us.length + 1) cap8)) H P R (.slice (some ⟨g6, 0, none⟩) (hs.length + 1) cap6) (.slice (some ⟨g8, 0, none⟩) (us.length + 1) cap8) (us ++ [.slice ua R (tc - 1)]) (hs ++ [x0]) (ls ++ [zs])) := HB.out.rvGrown HH.out HAP.out HZL.out hgrow8 hown8 (by rw [hws]; exact hat8)
              clear HB HAP hnews hbase x1c x1b ne1 ne2 HAFT hua hcl hown8 hgrow8 hat8 hlt8
              go_wp2_with fail
              exact ⟨⟨k + 1, T, _, _, _, _, _, rfl, by simp, by omega, by omega, HU3.out, HS3.out⟩, by simp; omega⟩
    · have hkP : k = P := by omega
      have HU3 : Hd (hs.length = P ∧ ls.length = P) := by rw [← hkP]; exact HU.out
      have hdk : decide ((k : Int) < P) = false := by simp; omega
      obtain ⟨ha, hc, ehv⟩ := own_slice HS.out.oh
      obtain ⟨ra, rc, erv⟩ := own_slice HS.out.ol
      subst ehv
      subst erv
      have c1 : wr.cell? ⟨H + 2, 1, none⟩ = some (vI (R : Int)) := by rw [cell_of HS.out.b2]; rfl
      have c2 : wr.cell? ⟨H + 2, 2, none⟩ = some (vI 0) := by rw [cell_of HS.out.b2]; rfl
      have c3 : wr.cell? ⟨H + 2, 3, none⟩ = some (.slice none 0 0) := by rw [cell_of HS.out.b2]; rfl
      have d0 : wr.cell? ⟨H + 3, 0, none⟩ = some (.slice ha hs.length hc) := by rw [cell_of HS.out.b3]; rfl
      have d1 : wr.cell? ⟨H + 3, 1, none⟩ = some (.slice ra us.length rc) := by rw [cell_of HS.out.b3]; rfl
      have a0 : wr.cell? ⟨H, 0, none⟩ = some (vI 0) := by rw [cell_of HS.out.b0]; rfl
      have a1 : wr.cell? ⟨H, 1, none⟩ = some (vI 0) := by rw [cell_of HS.out.b0]; rfl
      have a2 : wr.cell? ⟨H, 2, none⟩ = some (vI 0) := by rw [cell_of HS.out.b0]; rfl
      have a3 : wr.cell? ⟨H, 3, none⟩ = some (.slice none 0 0) := by rw [cell_of HS.out.b0]; rfl
      have z0 := frozen_of HS.out.b0 0
      have z1 := frozen_of HS.out.b0 1
      have z2 := frozen_of HS.out.b0 2
      have z3 := frozen_of HS.out.b0 3
      have e0 : wr.cell? ⟨H + 1, 0, none⟩ = some (.slice none 0 0) := by rw [cell_of HS.out.b1]; rfl
      have e1 : wr.cell? ⟨H + 1, 1, none⟩ = some (.slice none 0 0) := by rw [cell_of HS.out.b1]; rfl
      have y0 := frozen_of HS.out.b1 0
      have y1 := frozen_of HS.out.b1 1
      clear hkP HU hk HL
      go_wp2_with fail
      go_region
      clear c0 c1 c2 c3 d0 d1 a0 a1 a2 a3 z0 z1 z2 z3 e0 e1 y0 y1
      obtain ⟨wz, hwz⟩ : ∃ wz, wz = ((((((wr.setCell ⟨H, 0, none⟩ (vI P)).setCell ⟨H, 1, none⟩ (vI R)).setCell ⟨H, 2, none⟩ (vI 0)).setCell ⟨H, 3, none⟩ (.slice none 0 0)).setCell ⟨H + 1, 0, none⟩ (.slice ha hs.length hc)).setCell ⟨H + 1, 1, none⟩ (.slice ra us.length rc)).drew := ⟨_, rfl⟩
      obtain ⟨k1, k2, k3, k4⟩ := HS.out.fin HH.out hwz
      rw [← hwz]
      have K3 : Hd (SAq (fun j => w.heap.size ≤ j) wz (.agg #[.slice ha hs.length hc, .slice ra us.length rc]) ⟨hs, ls⟩) := k3
      have K4 : Hd _ := k4
      have KR : Hd (PS.Right P R ⟨hs, ls⟩) := ⟨HU3.out.1, HU3.out.2, HS.out.okh, HS.out.okl⟩
      have c0 : wz.cell? ⟨H, 0, none⟩ = some (vI P) := by rw [cell_of k1]; rfl
      have c1 : wz.cell? ⟨H, 1, none⟩ = some (vI R) := by rw [cell_of k1]; rfl
      have c2 : wz.cell? ⟨H, 2, none⟩ = some (vI 0) := by rw [cell_of k1]; rfl
      have c3 : wz.cell? ⟨H, 3, none⟩ = some (.slice none 0 0) := by rw [cell_of k1]; rfl
      have d0 : wz.cell? ⟨H + 1, 0, none⟩ = some (.slice ha hs.length hc) := by rw [cell_of k2]; rfl
      have d1 : wz.cell? ⟨H + 1, 1, none⟩ = some (.slice ra us.length rc) := by rw [cell_of k2]; rfl
      clear k1 k2 k3 k4 HS HU3 hwz
      go_wp2_with fail
      refine bodyPost_ret (v := .tuple #[.agg #[vI P, vI R, vI 0, .slice none 0 0], .agg #[.slice ha hs.length hc, .slice ra us.length rc]]) ?_ rfl ⟨⟨hs, ls⟩, _, rfl, K3.out, KR.out, K4.out⟩
      simp [results, Try.results8, go_sem, c0, c1, c2, c3, d0, d1]

end Go.Proofs.Ytchilccmnaihkaa
