import Derived.Test.YtjmbfjaahadbhaaGreatDoorQGhJ
set_option linter.unusedVariables false
set_option linter.unusedSimpArgs false
namespace Go.Proofs.YtjmbfjaahadbhaaGreatDoor
open Go.RowKit (wrap32 wrap64)

set_option maxRecDepth 100000 in
set_option maxHeartbeats 16000000 in
theorem join_any {N n go ck co cc : Nat} {of : Nat → Nat} {cl : Nat → List Nat} (w : World) (hof : Wg.Row w 3 go N (fun i => vI (of i : Nat))) (hla : LB w.heap.size w (.slice (some ⟨ck, co, none⟩) N cc) (zLs N cl)) (h0 : 0 < N) (hN : N ≤ 1000000) (hlt : ∀ x, x < N → of x < n) (hon : ∀ c, c < n → ∃ x, x < N ∧ of x = c) (hnN : n ≤ N) (hcl : ∀ x, x < N → ∀ z ∈ cl x, z < N) (hll : ∀ x, x < N → (cl x).length ≤ 1000000000) :
    Calls Tryz.prog 18 #[.slice (some ⟨go, 0, none⟩) N N, .slice (some ⟨ck, co, none⟩) N cc] w (JnE N n go of cl w) := by
  have HMX : Hd (Calls Tryz.prog 44 #[.slice (some ⟨go, 0, none⟩) N N] w fun e w' => ∃ m : Nat, e = .returned (vI (m : Int)) ∧ (∃ i, i < N ∧ of i = m) ∧ (∀ i, i < N → of i ≤ m) ∧ w' = w) := max_any go N of w hof h0 hN (fun i hi => by have := hlt i hi; omega)
  have HOF : Hd (Wg.Row w 3 go N (fun i => vI (of i : Nat))) := hof
  have HLA : Hd (LB w.heap.size w (.slice (some ⟨ck, co, none⟩) N cc) (zLs N cl)) := hla
  have HLT : Hd (∀ x, x < N → of x < n) := hlt
  have HON : Hd (∀ c, c < n → ∃ x, x < N ∧ of x = c) := hon
  have HCL : Hd (∀ x, x < N → ∀ z ∈ cl x, z < N) := hcl
  have HLL : Hd (∀ x, x < N → (cl x).length ≤ 1000000000) := hll
  clear hof hla hlt hon hcl hll
  go_enter Tryz.func18, Tryz.ntmps18
  go_wp2_with fail
  refine Calls.mono HMX.out ?_
  rintro e w' ⟨m, rfl, ⟨i, hi, him⟩, hmax, rfl⟩
  have hmn : (m : Int) + 1 = (n : Int) := by
    have k1 := HLT.out i hi
    obtain ⟨x, x1, x2⟩ := HON.out (n - 1) (by omega)
    have k2 := hmax x x1
    omega
  have hm1 : (m : Int) < 1000001 := by omega
  clear hmax him hi HMX
  go_upto_region 2 with fail
  go_cut [6] (fun x6 wx => ∃ b gm ge gr, x6 = .pointer (some ⟨b, 0, none⟩) ∧ Hd (Jst w' w'.heap.size b gm ge gr) ∧ Hd (J0 w' wx w'.heap.size b go gm ge gr N n) ∧ Hd (Wg.Row wx 25 gm n (fun _ => .slice none 0 0)) ∧ Hd (Wg.Row wx 25 ge n (fun _ => .slice none 0 0)) ∧ Hd (Wg.Row wx 25 gr n (fun _ => .slice none 0 0)))
  case first =>
    have hmk : ∀ W : World, (Instr.makeSlice 48 (.int .i64 n) (.int .i64 n)).run Tryz.prog W = .ok (.slice (some ⟨W.heap.size, 0, none⟩) n n) (W.alloc (.cells (Array.replicate n (.slice none 0 0)) 25)) := fun W => make53 n (by omega) W
    go_region
    all_goals
      go_wp2_with fail
      go_meet
      exact ⟨_, _, _, _, rfl, ⟨rfl, by omega, by omega, by omega, by omega, by omega, by omega, rfl, by omega, by omega, by omega⟩, j0_begin w' N n go _ _ _, three_rows w' n _ _ (by omega) (by omega), three_rows w' n _ _ (by omega) (by omega), three_rows w' n _ _ (by omega) (by omega)⟩
  case rest =>
  obtain ⟨b, gm, ge, gr, rfl, HST, HJ, HRM, HRE, HRR⟩ := hcut
  obtain ⟨w1, hw1⟩ : ∃ w1, w1 = wc := ⟨_, rfl⟩
  rw [← hw1] at HJ HRM HRE HRR ⊢
  obtain ⟨H, hH⟩ : ∃ H, H = w'.heap.size := ⟨_, rfl⟩
  rw [← hH] at HST HJ HLA
  have HM0 : Hd (∃ cv, Cr w1 (H + 4) gm n cv (fun c => zL (memX 0 of c))) := ⟨_, Cr.nils HRM.out⟩
  clear hw1 hH HRM hmn hm1
  go_wp2_with fail
  go_loopw [33] (fun v wx => ∃ k : Nat, v = .int .i64 k ∧ k ≤ N ∧ Hd (J0 w' wx H b go gm ge gr N n) ∧ Hd (∃ cv, Cr wx (H + 4) gm n cv (fun c => zL (memX k of c))) ∧ Hd (Wg.Row wx 25 ge n (fun _ => .slice none 0 0)) ∧ Hd (Wg.Row wx 25 gr n (fun _ => .slice none 0 0))) (fun v _ => match v with | .int _ q => N - q.toNat | _ => 0)
  case atStart => exact ⟨0, rfl, Nat.zero_le _, HJ.out, HM0.out, HRE.out, HRR.out⟩
  case round =>
    clear HJ HM0 HRE HRR
    obtain ⟨k, rfl, hk, HJ, HM, HRE, HRR⟩ := hrel
    by_cases hlt : k < N
    · have d1 : decide ((k : Int) < (N : Int)) = true := by simp; omega
      have k0 : (0 : Int) ≤ k := by omega
      have k1 : (k : Int) < N := by omega
      have hgoH : go < H := by rw [HST.out.1]; exact HOF.out.lt
      have po : wr.cell? ⟨go, k, none⟩ = some (vI (of k : Nat)) := (HJ.out.ff.cell HOF.out.lt (by omega)).trans (HOF.out.cell hlt)
      have HIX : Hd (of k < n) := HLT.out k hlt
      have cb : wr.cell? ⟨b, 1, none⟩ = some (.slice (some ⟨gm, 0, none⟩) n n) := by rw [cell_of0 HJ.out.blk]; rfl
      have HBW : Hd (H + 4 ≤ wr.heap.size) := HJ.out.sz
      have HBB : Hd (b < H + 4) := by have := HST.out.2.2.2.2.2.2.2.1; unfold Hd; omega
      obtain ⟨cv, hc⟩ := HM.out
      obtain ⟨Lk, hLk⟩ : ∃ Lk : Nat → List Int, Lk = fun c => zL (memX k of c) := ⟨_, rfl⟩
      rw [← hLk] at hc
      obtain ⟨Q, hQ⟩ : ∃ Q, Q = of k := ⟨_, rfl⟩
      rw [← hQ] at po HIX
      have el : Lk Q = zL (memX k of Q) := by rw [hLk]
      obtain ⟨va, vc, ev, p0, ho⟩ := hc.cell (i := Q) HIX.out
      rw [el, List.length_map] at ev p0 ho
      have hlen : (memX k of Q).length ≤ 1000000 := by
        have := len_le (memX_rise (N := k) (of := of) Q) (fun x hx => (mem_memX.1 hx).1)
        omega
      have HCV : Hd (Cr wr (H + 4) gm n cv Lk) := hc
      have HLK : Hd (Lk = fun c => zL (memX k of c)) := hLk
      have HEL : Hd (Lk Q = zL (memX k of Q)) := el
      have HQQ : Hd (Q = of k) := hQ
      have q0 : (0 : Int) ≤ Q := by omega
      have q1 : (Q : Int) < n := by have := HIX.out; omega
      clear hLk el hQ HM hlt hgoH
      go_upto_region 6 with fail
      have hCz : Fr (fun _ => False) wr (wr.alloc (.cells #[vI (k : Int)] 3)).drew := (Fr.alloc (Fr.refl _ wr) _).drew
      have HFz : Hd (Fr (fun _ => False) wr (wr.alloc (.cells #[vI (k : Int)] 3)).drew) := hCz
      have HEV : Hd (cv Q = .slice va (memX k of Q).length vc) := ev
      have HRW : Hd ((wr.alloc (.cells #[vI (k : Int)] 3)).drew.ownsRow (H + 4) 3 1 (.slice va (memX k of Q).length vc) (memX k of Q).length ((zL (memX k of Q)).map vI)) := ownsRow_frL ho hCz (fun _ _ e => e)
      have HNW : Hd (∀ j' u, [vI (k : Int)][j']? = some u → (wr.alloc (.cells #[vI (k : Int)] 3)).drew.cell? ((⟨wr.heap.size, 0, none⟩ : Addr).add j') = some u) := World.news_of_block (w := wr.alloc (.cells #[vI (k : Int)] 3)) (cs := #[vI (k : Int)]) (heap_new0 wr _)
      have HSZ : Hd ((wr.alloc (.cells #[vI (k : Int)] 3)).drew.heap.size = wr.heap.size + 1) := by unfold Hd; show (wr.alloc (.cells #[vI (k : Int)] 3)).heap.size = _; rw [World.size_alloc]
      have HBS : Hd (H + 4 ≤ (wr.alloc (.cells #[vI (k : Int)] 3)).drew.heap.size) := by have := HSZ.out; have := HBW.out; unfold Hd; omega
      have p0z : (wr.alloc (.cells #[vI (k : Int)] 3)).drew.cell? ⟨gm, Q, none⟩ = some (.slice va (memX k of Q).length vc) := (hCz.cell hc.row.lt (fun e => e)).trans p0
      have p0y : (wr.alloc (.cells #[vI (k : Int)] 3)).cell? ⟨gm, Q, none⟩ = some (.slice va (memX k of Q).length vc) := p0z
      have cz : (wr.alloc (.cells #[vI (k : Int)] 3)).drew.cell? ⟨b, 1, none⟩ = some (.slice (some ⟨gm, 0, none⟩) n n) := (hCz.cell (heap_lt0 HJ.out.blk) (fun e => e)).trans cb
      have cy : (wr.alloc (.cells #[vI (k : Int)] 3)).cell? ⟨b, 1, none⟩ = some (.slice (some ⟨gm, 0, none⟩) n n) := cz
      clear hCz hc ev ho
      go_region_law ((
        obtain ⟨i3, hi3, hz3, hs3, hb3⟩ := info_parts (P := Tryz.prog) (e := 3) (z := .int .i64 0) (size := 1) (bytes := 8) (by kernel_rfl)
        refine step_append_lies _ rfl (.tmp 49) (.tmp 51) 25 rfl (H + 4) 3 i3 (.int .i64 0) 1 8 under64 hi3 hz3 hs3 hb3 rfl (by omega) (.slice va (memX k of Q).length vc) (memX k of Q).length _ (by simp [Act.eval, Act.put]) HRW.out ⟨wr.heap.size, 0, none⟩ 1 1 [vI (k : Int)] (by simp [Act.eval, Act.put]) rfl HNW.out (by intro u hu; simp at hu; subst hu; rfl) (by omega) (by unfold maxLen; omega) (by omega) HBS.out (wr.heap.size + 1) (by simp) ?_
        intro g6 cap6 w9 hown6 hgrow6 hat6 hlt6
        obtain ⟨HQ1, p0, z0, hF9, hG9⟩ := Cr.push (x := (k : Int)) HCV.out HFz.out HSZ.out HIX.out HEV.out (by rw [HEL.out, List.length_map]) hgrow6 (by rw [HEL.out]; exact hown6) hat6
        have cb : w9.cell? ⟨b, 1, none⟩ = some (.slice (some ⟨gm, 0, none⟩) n n) := by
          have q := HST.out.2.2.2.2.2.2.2.1
          have q2 := HBB.out
          rw [hG9.cell (heap_lt0 HJ.out.blk) (by omega), cell_of0 HJ.out.blk]
          rfl
        have HC4 : Hd (∃ cv, Cr (w9.setCell ⟨gm, Q, none⟩ (.slice (some ⟨g6, 0, none⟩) ((memX k of Q).length + 1) cap6)) (H + 4) gm n cv (fun c => zL (memX (k + 1) of c))) := by
          refine ⟨_, HQ1.congr (fun i hi => ?_)⟩
          rw [memX_next]
          by_cases e : i = Q
          · rw [e, Wg.upd_same, HEL.out, if_pos HQQ.out.symm, zL_app]
          · rw [Wg.upd_ne _ _ e, HLK.out, if_neg (fun x => e (by rw [HQQ.out, x]))]
        have HS4 : ∀ j, (j = gm ∨ H + 4 ≤ j) → H ≤ j ∧ j ≠ b ∧ j ≠ ge ∧ j ≠ gr := fun j e => by
          obtain ⟨s1, s2, s3, s4, s5, s6, s7, s8, s9, s10, s11⟩ := HST.out
          rcases e with e | e <;> omega
        have HJ4 : Hd (J0 w' (w9.setCell ⟨gm, Q, none⟩ (.slice (some ⟨g6, 0, none⟩) ((memX k of Q).length + 1) cap6)) H b go gm ge gr N n) := HJ.out.next hF9 (fun e => (HS4 b e).2.1 rfl) (fun j e => (HS4 j e).1)
        have HRE4 : Hd (Wg.Row (w9.setCell ⟨gm, Q, none⟩ (.slice (some ⟨g6, 0, none⟩) ((memX k of Q).length + 1) cap6)) 25 ge n (fun _ => .slice none 0 0)) := HRE.out.fr hF9 (fun e => (HS4 ge e).2.2.1 rfl)
        have HRR4 : Hd (Wg.Row (w9.setCell ⟨gm, Q, none⟩ (.slice (some ⟨g6, 0, none⟩) ((memX k of Q).length + 1) cap6)) 25 gr n (fun _ => .slice none 0 0)) := HRR.out.fr hF9 (fun e => (HS4 gr e).2.2.2 rfl)
        clear HS4
        clear HQ1 hown6 hgrow6 hat6 hlt6 hi3 hz3 hs3 hb3 hF9 hG9))
      all_goals
        go_wp2_with fail
        go_roundw
        case measure => simp; omega
        case rel => exact ⟨k + 1, by simp, by omega, HJ4.out, HC4.out, HRE4.out, HRR4.out⟩
    · have hkN : k = N := by omega
      have d1 : decide ((k : Int) < (N : Int)) = false := by simp; omega
      have d1n : ¬ k < N := by omega
      obtain ⟨mv, hm⟩ := HM.out
      rw [hkN] at hm
      obtain ⟨s1, hs1⟩ : ∃ s1, s1 = wr.heap.size := ⟨_, rfl⟩
      have HCM : Hd (Cr wr (H + 4) gm n mv (fun c => zL (memX N of c))) := hm
      have HMB : Hd (Cb mv n s1) := by unfold Hd; rw [hs1]; exact hm.below
      have HCR0 : Hd (∃ rv, Cr wr s1 gr n rv (fun d => zL (clrX N 0 of cl d))) := ⟨_, Cr.nils HRR.out⟩
      have HS1 : Hd (H + 4 ≤ s1) := by unfold Hd; rw [hs1]; exact HJ.out.sz
      have HSW : Hd (s1 ≤ wr.heap.size) := Nat.le_of_eq hs1
      have cb : wr.cell? ⟨b, 1, none⟩ = some (.slice (some ⟨gm, 0, none⟩) n n) := by rw [cell_of0 HJ.out.blk]; rfl
      clear hm hs1 HM HRR hkN hlt
      go_wp2_with fail
      obtain ⟨w2, hw2⟩ : ∃ w2, w2 = wr := ⟨_, rfl⟩
      rw [← hw2] at HJ HCM HRE HCR0 HSW ⊢
      clear hw2 d1 d1n cb
      go_loopw [60] (fun v wx => ∃ c : Nat, v = .int .i64 c ∧ c ≤ n ∧ Hd (J0 w' wx H b go gm ge gr N n) ∧ Hd (Cr wx (H + 4) gm n mv (fun c => zL (memX N of c))) ∧ Hd (∃ rv, Cr wx s1 gr n rv (fun d => zL (clrX N c of cl d))) ∧ Hd (Wg.Row wx 25 ge n (fun _ => .slice none 0 0)) ∧ Hd (s1 ≤ wx.heap.size)) (fun v _ => match v with | .int _ q => n - q.toNat | _ => 0)
      case atStart => exact ⟨0, rfl, Nat.zero_le _, HJ.out, HCM.out, HCR0.out, HRE.out, HSW.out⟩
      case round =>
        clear HJ HCM HCR0 HRE HSW
        obtain ⟨c, rfl, hcn, HJ, HCM, HCR, HRE, HSW⟩ := hrel
        by_cases hltc : c < n
        · have d1 : decide ((c : Int) < (n : Int)) = true := by simp; omega
          have c0 : (0 : Int) ≤ c := by omega
          have c1 : (c : Int) < n := by omega
          obtain ⟨ma, mc, emv, pm, -⟩ := HCM.out.cell hltc
          rw [List.length_map] at emv pm
          have hml : (memX N of c).length ≤ 1000000 := by
            have := len_le (memX_rise (N := N) (of := of) c) (fun x hx => (mem_memX.1 hx).1)
            omega
          have HEM : Hd (mv c = .slice ma (memX N of c).length mc) := emv
          have HCR3 : Hd (∃ rv, Cr wr s1 gr n rv (fun d => zL (cP N of cl c (hitP N of cl c 0 []) d))) := by
            unfold Hd
            rw [hitP_zero, cP_first]
            exact HCR.out
          clear emv HCR
          go_wp2_with fail
          obtain ⟨w3, hw3⟩ : ∃ w3, w3 = wr := ⟨_, rfl⟩
          rw [← hw3] at HJ HCM HRE HCR3 HSW ⊢
          clear hw3 d1 pm
          go_loopw [67] (fun v wx => ∃ i : Nat, v = .int .i64 i ∧ i ≤ (memX N of c).length ∧ Hd (J0 w' wx H b go gm ge gr N n) ∧ Hd (Cr wx (H + 4) gm n mv (fun c => zL (memX N of c))) ∧ Hd (∃ rv, Cr wx s1 gr n rv (fun d => zL (cP N of cl c (hitP N of cl c i []) d))) ∧ Hd (Wg.Row wx 25 ge n (fun _ => .slice none 0 0)) ∧ Hd (s1 ≤ wx.heap.size)) (fun v _ => match v with | .int _ q => (memX N of c).length - q.toNat | _ => 0)
          case atStart => exact ⟨0, rfl, Nat.zero_le _, HJ.out, HCM.out, HCR3.out, HRE.out, HSW.out⟩
          case round =>
            clear HJ HCM HCR3 HRE HSW
            obtain ⟨i, rfl, hil, HJ, HCM, HCR, HRE, HSW⟩ := hrel
            by_cases hlti : i < (memX N of c).length
            · have d2 : decide ((i : Int) < ((memX N of c).length : Int)) = true := by simp; omega
              have i0 : (0 : Int) ≤ i := by omega
              have i1 : (i : Int) < ((memX N of c).length : Int) := by omega
              obtain ⟨f, hf⟩ : ∃ f, (memX N of c)[i]? = some f := ⟨_, List.getElem?_eq_getElem hlti⟩
              have hfN : f < N := (mem_memX.1 (List.mem_of_getElem? hf)).1
              have hown := HCM.out.own c hltc
              rw [HEM.out] at hown
              obtain ⟨mg, mc2, eg, -, hcell⟩ := iown_some hown (by rw [List.length_map]; omega)
              have ema : ma = some ⟨mg, 0, none⟩ := by injection eg
              subst ema
              have pf : wr.cell? ⟨mg, i, none⟩ = some (vI (f : Int)) := by
                rw [hcell i (by rw [List.length_map]; omega)]
                rw [List.getElem?_eq_getElem hlti] at hf
                injection hf with hf
                simp [hf]
              have f0 : (0 : Int) ≤ f := by omega
              have f1 : (f : Int) < N := by omega
              obtain ⟨ua, uc, pu0, hck, hu⟩ := lb_rows HLA.out hfN
              have pu : wr.cell? ⟨ck, co + f, none⟩ = some (.slice ua (cl f).length uc) := (HJ.out.ff.cell (by have := HST.out.1; omega) (by omega)).trans pu0
              have HLU : Hd (∀ (i z : Nat), (cl f)[i]? = some z → ∃ uk uo, ua = some ⟨uk, uo, none⟩ ∧ uk < H ∧ w'.cell? ⟨uk, uo + i, none⟩ = some (vI (z : Int))) := hu
              have hfl := HLL.out f hfN
              have HFF : Hd ((memX N of c)[i]? = some f) := hf
              have HCR4 : Hd (∃ rv, Cr wr s1 gr n rv (fun d => zL (cP N of cl c (hitP N of cl c i ((cl f).take 0)) d))) := HCR.out
              clear hown eg hcell hf HCR hu pu0 hck
              go_wp2_with fail
              obtain ⟨w4, hw4⟩ : ∃ w4, w4 = wr := ⟨_, rfl⟩
              rw [← hw4] at HJ HCM HRE HCR4 HSW ⊢
              clear hw4 d2 pf pu
              go_loopw [76] (fun v wx => ∃ j : Nat, v = .int .i64 j ∧ j ≤ (cl f).length ∧ Hd (J0 w' wx H b go gm ge gr N n) ∧ Hd (Cr wx (H + 4) gm n mv (fun c => zL (memX N of c))) ∧ Hd (∃ rv, Cr wx s1 gr n rv (fun d => zL (cP N of cl c (hitP N of cl c i ((cl f).take j)) d))) ∧ Hd (Wg.Row wx 25 ge n (fun _ => .slice none 0 0)) ∧ Hd (s1 ≤ wx.heap.size)) (fun v _ => match v with | .int _ q => (cl f).length - q.toNat | _ => 0)
              case atStart => exact ⟨0, rfl, Nat.zero_le _, HJ.out, HCM.out, HCR4.out, HRE.out, HSW.out⟩
              case round =>
                clear HJ HCM HCR4 HRE HSW
                obtain ⟨j, rfl, hjl, HJ, HCM, HCR, HRE, HSW⟩ := hrel
                by_cases hltj : j < (cl f).length
                · have d3 : decide ((j : Int) < ((cl f).length : Int)) = true := by simp; omega
                  have j0 : (0 : Int) ≤ j := by omega
                  have j1 : (j : Int) < ((cl f).length : Int) := by omega
                  obtain ⟨g, hg⟩ : ∃ g, (cl f)[j]? = some g := ⟨_, List.getElem?_eq_getElem hltj⟩
                  have hgN : g < N := HCL.out f hfN g (List.mem_of_getElem? hg)
                  obtain ⟨uk, uo, eua, huk, pz0⟩ := HLU.out j g hg
                  subst eua
                  have pz : wr.cell? ⟨uk, uo + j, none⟩ = some (vI (g : Int)) := (HJ.out.ff.cell (by have := HST.out.1; omega) (by omega)).trans pz0
                  have g0 : (0 : Int) ≤ g := by omega
                  have g1 : (g : Int) < N := by omega
                  have hgoH : go < H := by rw [HST.out.1]; exact HOF.out.lt
                  have po : wr.cell? ⟨go, g, none⟩ = some (vI (of g : Nat)) := (HJ.out.ff.cell HOF.out.lt (by omega)).trans (HOF.out.cell hgN)
                  obtain ⟨rv, hr⟩ := HCR.out
                  have hdn := HLT.out g hgN
                  have hbb : b < s1 := by have := HST.out.2.2.2.2.2.2.2.1; have := HS1.out; omega
                  have HAC : Hd (Calls Tryz.prog 45 #[.pointer (some ⟨b, 0, none⟩), vI (of g : Nat), vI (c : Int)] wr (AcE s1 gr n (cP N of cl c (hitP N of cl c i ((cl f).take j))) (of g) c wr)) := addCaller_any (of g) c wr HJ.out.blk hr hbb HSW.out hdn (by omega) (by omega) (by have := cP_len N of cl c (hitP N of cl c i ((cl f).take j)) (of g); omega)
                  have HRV : Hd (Wg.Row wr 25 gr n rv) := hr.row
                  have HGG : Hd ((cl f).take (j + 1) = (cl f).take j ++ [g]) := by unfold Hd; rw [List.take_add_one, hg]; rfl
                  clear hr hg pz0 huk HCR hltj
                  go_wp2_with fail
                  refine Calls.mono HAC.out ?_
                  rintro e w5 ⟨rfl, ⟨rv', hr'⟩, hF5⟩
                  have HS4 : ∀ j, (j = gr ∨ s1 ≤ j) → H ≤ j ∧ j ≠ b ∧ j ≠ ge := fun j e => by
                    obtain ⟨q1, q2, q3, q4, q5, q6, q7, q8, q9, q10, q11⟩ := HST.out
                    have := HS1.out
                    rcases e with e | e <;> omega
                  have HJ5 : Hd (J0 w' w5 H b go gm ge gr N n) := HJ.out.next hF5 (fun e => (HS4 b e).2.1 rfl) (fun j e => (HS4 j e).1)
                  have HCM5 : Hd (Cr w5 (H + 4) gm n mv (fun c => zL (memX N of c))) := HCM.out.beside HMB.out hF5 HRV.out (by decide) HST.out.2.2.2.2.2.2.2.2.2.1 (by have := HST.out.2.2.2.2.1; have := HS1.out; omega) (fun k e => e)
                  have HCR5 : Hd (∃ rv, Cr w5 s1 gr n rv (fun d => zL (cP N of cl c (hitP N of cl c i ((cl f).take (j + 1))) d))) := by
                    unfold Hd
                    rw [HGG.out, hitP_one, ← cP_told]
                    exact ⟨rv', hr'⟩
                  have HRE5 : Hd (Wg.Row w5 25 ge n (fun _ => .slice none 0 0)) := HRE.out.fr hF5 (fun e => (HS4 ge e).2.2 rfl)
                  have HSW5 : Hd (s1 ≤ w5.heap.size) := Nat.le_trans HSW.out hF5.size
                  clear hr' hF5 HAC po pz HS4 HGG
                  go_wp2_with fail
                  go_roundw
                  case measure => simp; omega
                  case rel => exact ⟨j + 1, by simp, by omega, HJ5.out, HCM5.out, HCR5.out, HRE5.out, HSW5.out⟩
                · have d3 : decide ((j : Int) < ((cl f).length : Int)) = false := by simp; omega
                  have d3n : ¬ j < (cl f).length := by omega
                  have HCR5 : Hd (∃ rv, Cr wr s1 gr n rv (fun d => zL (cP N of cl c (hitP N of cl c (i + 1) []) d))) := by
                    unfold Hd
                    rw [hitP_next N of cl c i f HFF.out]
                    have := HCR.out
                    rw [List.take_of_length_le (by omega)] at this
                    exact this
                  clear hltj HCR
                  go_wp2_with fail
                  go_roundw
                  case measure => simp; omega
                  case rel => exact ⟨i + 1, by simp, by omega, HJ.out, HCM.out, HCR5.out, HRE.out, HSW.out⟩
            · have d2 : decide ((i : Int) < ((memX N of c).length : Int)) = false := by simp; omega
              have d2n : ¬ i < (memX N of c).length := by omega
              have HCR5 : Hd (∃ rv, Cr wr s1 gr n rv (fun d => zL (clrX N (c + 1) of cl d))) := by
                unfold Hd
                rw [← cP_last, ← hitP_all N of cl c i (by omega)]
                exact HCR.out
              clear hlti HCR
              go_wp2_with fail
              go_roundw
              case measure => simp; omega
              case rel => exact ⟨c + 1, by simp, by omega, HJ.out, HCM.out, HCR5.out, HRE.out, HSW.out⟩
        · have hcn2 : c = n := by omega
          have d1 : decide ((c : Int) < (n : Int)) = false := by simp; omega
          have d1n : ¬ c < n := by omega
          obtain ⟨rv, hr⟩ := HCR.out
          rw [hcn2] at hr
          obtain ⟨s2, hs2⟩ : ∃ s2, s2 = wr.heap.size := ⟨_, rfl⟩
          have HCR : Hd (Cr wr s1 gr n rv (fun d => zL (clrX N n of cl d))) := hr
          have HRB : Hd (Cb rv n s2) := by unfold Hd; rw [hs2]; exact hr.below
          have HCE0 : Hd (∃ ev, Cr wr s2 ge n ev (fun c => zL (cleX N 0 of cl c))) := ⟨_, Cr.nils HRE.out⟩
          have HS2 : Hd (s1 ≤ s2) := by unfold Hd; rw [hs2]; exact HSW.out
          have HSW2 : Hd (s2 ≤ wr.heap.size) := Nat.le_of_eq hs2
          have cb : wr.cell? ⟨b, 3, none⟩ = some (.slice (some ⟨gr, 0, none⟩) n n) := by rw [cell_of0 HJ.out.blk]; rfl
          clear hr hs2 HRE HSW hcn2 hltc
          go_wp2_with fail
          obtain ⟨w3, hw3⟩ : ∃ w3, w3 = wr := ⟨_, rfl⟩
          rw [← hw3] at HJ HCM HCR HCE0 HSW2 ⊢
          clear hw3 d1 d1n cb
          go_loopw [95] (fun v wx => ∃ d : Nat, v = .int .i64 d ∧ d ≤ n ∧ Hd (J0 w' wx H b go gm ge gr N n) ∧ Hd (Cr wx (H + 4) gm n mv (fun c => zL (memX N of c))) ∧ Hd (Cr wx s1 gr n rv (fun d => zL (clrX N n of cl d))) ∧ Hd (∃ ev, Cr wx s2 ge n ev (fun c => zL (cleX N d of cl c))) ∧ Hd (s2 ≤ wx.heap.size)) (fun v _ => match v with | .int _ q => n - q.toNat | _ => 0)
          case atStart => exact ⟨0, rfl, Nat.zero_le _, HJ.out, HCM.out, HCR.out, HCE0.out, HSW2.out⟩
          case round =>
            clear HJ HCM HCR HCE0 HSW2
            obtain ⟨d, rfl, hdn, HJ, HCM, HCR, HCE, HSW⟩ := hrel
            by_cases hltd : d < n
            · have d1 : decide ((d : Int) < (n : Int)) = true := by simp; omega
              have c0 : (0 : Int) ≤ d := by omega
              have c1 : (d : Int) < n := by omega
              obtain ⟨ra, rc, erv, pr, -⟩ := HCR.out.cell hltd
              rw [List.length_map] at erv pr
              have hrl : (clrX N n of cl d).length ≤ 1000000 := by
                have := len_le (clrX_rise (N := N) (n := n) (of := of) (cl := cl) d) (fun x hx => (mem_clrX.1 hx).1)
                omega
              have HER : Hd (rv d = .slice ra (clrX N n of cl d).length rc) := erv
              have HCE3 : Hd (∃ ev, Cr wr s2 ge n ev (fun c => zL (eP N of cl d ((clrX N n of cl d).take 0) c))) := by
                unfold Hd
                rw [List.take_zero, eP_first]
                exact HCE.out
              clear erv HCE
              go_wp2_with fail
              obtain ⟨w4, hw4⟩ : ∃ w4, w4 = wr := ⟨_, rfl⟩
              rw [← hw4] at HJ HCM HCR HCE3 HSW ⊢
              clear hw4 d1 pr
              go_loopw [102] (fun v wx => ∃ i : Nat, v = .int .i64 i ∧ i ≤ (clrX N n of cl d).length ∧ Hd (J0 w' wx H b go gm ge gr N n) ∧ Hd (Cr wx (H + 4) gm n mv (fun c => zL (memX N of c))) ∧ Hd (Cr wx s1 gr n rv (fun d => zL (clrX N n of cl d))) ∧ Hd (∃ ev, Cr wx s2 ge n ev (fun c => zL (eP N of cl d ((clrX N n of cl d).take i) c))) ∧ Hd (s2 ≤ wx.heap.size)) (fun v _ => match v with | .int _ q => (clrX N n of cl d).length - q.toNat | _ => 0)
              case atStart => exact ⟨0, rfl, Nat.zero_le _, HJ.out, HCM.out, HCR.out, HCE3.out, HSW.out⟩
              case round =>
                clear HJ HCM HCR HCE3 HSW
                obtain ⟨i, rfl, hil, HJ, HCM, HCR, HCE, HSW⟩ := hrel
                by_cases hlti : i < (clrX N n of cl d).length
                · have d2 : decide ((i : Int) < ((clrX N n of cl d).length : Int)) = true := by simp; omega
                  have i0 : (0 : Int) ≤ i := by omega
                  have i1 : (i : Int) < ((clrX N n of cl d).length : Int) := by omega
                  obtain ⟨Q, hf⟩ : ∃ f, (clrX N n of cl d)[i]? = some f := ⟨_, List.getElem?_eq_getElem hlti⟩
                  have hown := HCR.out.own d hltd
                  rw [HER.out] at hown
                  obtain ⟨mg, mc2, eg, -, hcell⟩ := iown_some hown (by rw [List.length_map]; omega)
                  have ema : ra = some ⟨mg, 0, none⟩ := by injection eg
                  subst ema
                  have pf : wr.cell? ⟨mg, i, none⟩ = some (vI (Q : Int)) := by
                    rw [hcell i (by rw [List.length_map]; omega)]
                    rw [List.getElem?_eq_getElem hlti] at hf
                    injection hf with hf
                    simp [hf]
                  have HIX : Hd (Q < n) := (mem_clrX.1 (List.mem_of_getElem? hf)).1
                  have HTK : Hd ((clrX N n of cl d).take (i + 1) = (clrX N n of cl d).take i ++ [Q]) := by unfold Hd; rw [List.take_add_one, hf]; rfl
                  have HNT : Hd (Q ∉ (clrX N n of cl d).take i) := by
                    intro e
                    obtain ⟨j, hj, ej⟩ := List.getElem_of_mem e
                    rw [List.getElem_take] at ej
                    rw [List.length_take] at hj
                    rw [List.getElem?_eq_getElem hlti] at hf
                    injection hf with hf
                    have := (List.pairwise_iff_getElem.1 (clrX_rise (N := N) (n := n) (of := of) (cl := cl) d)) j i (by omega) hlti (by omega)
                    rw [ej, hf] at this
                    omega
                  have cb : wr.cell? ⟨b, 2, none⟩ = some (.slice (some ⟨ge, 0, none⟩) n n) := by rw [cell_of0 HJ.out.blk]; rfl
                  have HBW : Hd (s2 ≤ wr.heap.size) := HSW.out
                  have HBB : Hd (b < s2) := by
                    have := HST.out.2.2.2.2.2.2.2.1
                    have := HS1.out
                    have := HS2.out
                    unfold Hd
                    omega
                  obtain ⟨P, hP⟩ : ∃ P, P = (clrX N n of cl d).take i := ⟨_, rfl⟩
                  obtain ⟨cv, hc⟩ := HCE.out
                  rw [← hP] at hc
                  obtain ⟨Lk, hLk⟩ : ∃ Lk : Nat → List Int, Lk = fun c => zL (eP N of cl d P c) := ⟨_, rfl⟩
                  rw [← hLk] at hc
                  have el : Lk Q = zL (eP N of cl d P Q) := by rw [hLk]
                  obtain ⟨va, vc, ev, p0, ho⟩ := hc.cell (i := Q) HIX.out
                  rw [el, List.length_map] at ev p0 ho
                  have hlen : (eP N of cl d P Q).length ≤ 1000001 := by have := eP_len N of cl d P Q; omega
                  have HCV : Hd (Cr wr s2 ge n cv Lk) := hc
                  have HLK : Hd (Lk = fun c => zL (eP N of cl d P c)) := hLk
                  have HEL : Hd (Lk Q = zL (eP N of cl d P Q)) := el
                  have HPP : Hd (P = (clrX N n of cl d).take i) := hP
                  have q0 : (0 : Int) ≤ Q := by omega
                  have q1 : (Q : Int) < n := by have := HIX.out; omega
                  have HRE : Hd (Wg.Row wr 25 ge n cv) := hc.row
                  clear hLk el hP HCE hlti hf hown eg hcell
                  go_upto_region 27 with fail
                  have hCz : Fr (fun _ => False) wr (wr.alloc (.cells #[vI (d : Int)] 3)).drew := (Fr.alloc (Fr.refl _ wr) _).drew
                  have HFz : Hd (Fr (fun _ => False) wr (wr.alloc (.cells #[vI (d : Int)] 3)).drew) := hCz
                  have HEV : Hd (cv Q = .slice va (eP N of cl d P Q).length vc) := ev
                  have HRW : Hd ((wr.alloc (.cells #[vI (d : Int)] 3)).drew.ownsRow (s2) 3 1 (.slice va (eP N of cl d P Q).length vc) (eP N of cl d P Q).length ((zL (eP N of cl d P Q)).map vI)) := ownsRow_frL ho hCz (fun _ _ e => e)
                  have HNW : Hd (∀ j' u, [vI (d : Int)][j']? = some u → (wr.alloc (.cells #[vI (d : Int)] 3)).drew.cell? ((⟨wr.heap.size, 0, none⟩ : Addr).add j') = some u) := World.news_of_block (w := wr.alloc (.cells #[vI (d : Int)] 3)) (cs := #[vI (d : Int)]) (heap_new0 wr _)
                  have HSZ : Hd ((wr.alloc (.cells #[vI (d : Int)] 3)).drew.heap.size = wr.heap.size + 1) := by unfold Hd; show (wr.alloc (.cells #[vI (d : Int)] 3)).heap.size = _; rw [World.size_alloc]
                  have HBS : Hd (s2 ≤ (wr.alloc (.cells #[vI (d : Int)] 3)).drew.heap.size) := by have := HSZ.out; have := HBW.out; unfold Hd; omega
                  have p0z : (wr.alloc (.cells #[vI (d : Int)] 3)).drew.cell? ⟨ge, Q, none⟩ = some (.slice va (eP N of cl d P Q).length vc) := (hCz.cell hc.row.lt (fun e => e)).trans p0
                  have p0y : (wr.alloc (.cells #[vI (d : Int)] 3)).cell? ⟨ge, Q, none⟩ = some (.slice va (eP N of cl d P Q).length vc) := p0z
                  have cz : (wr.alloc (.cells #[vI (d : Int)] 3)).drew.cell? ⟨b, 2, none⟩ = some (.slice (some ⟨ge, 0, none⟩) n n) := (hCz.cell (heap_lt0 HJ.out.blk) (fun e => e)).trans cb
                  have cy : (wr.alloc (.cells #[vI (d : Int)] 3)).cell? ⟨b, 2, none⟩ = some (.slice (some ⟨ge, 0, none⟩) n n) := cz
                  clear hCz hc ev ho
                  go_region_law ((
                    obtain ⟨i3, hi3, hz3, hs3, hb3⟩ := info_parts (P := Tryz.prog) (e := 3) (z := .int .i64 0) (size := 1) (bytes := 8) (by kernel_rfl)
                    refine step_append_lies _ rfl (.tmp 117) (.tmp 119) 25 rfl (s2) 3 i3 (.int .i64 0) 1 8 under64 hi3 hz3 hs3 hb3 rfl (by omega) (.slice va (eP N of cl d P Q).length vc) (eP N of cl d P Q).length _ (by simp [Act.eval, Act.put]) HRW.out ⟨wr.heap.size, 0, none⟩ 1 1 [vI (d : Int)] (by simp [Act.eval, Act.put]) rfl HNW.out (by intro u hu; simp at hu; subst hu; rfl) (by omega) (by unfold maxLen; omega) (by omega) HBS.out (wr.heap.size + 1) (by simp) ?_
                    intro g6 cap6 w9 hown6 hgrow6 hat6 hlt6
                    obtain ⟨HQ1, p0, z0, hF9, hG9⟩ := Cr.push (x := (d : Int)) HCV.out HFz.out HSZ.out HIX.out HEV.out (by rw [HEL.out, List.length_map]) hgrow6 (by rw [HEL.out]; exact hown6) hat6
                    have cb : w9.cell? ⟨b, 2, none⟩ = some (.slice (some ⟨ge, 0, none⟩) n n) := by
                      have q := HST.out.2.2.2.2.2.2.2.1
                      have q2 := HBB.out
                      rw [hG9.cell (heap_lt0 HJ.out.blk) (by omega), cell_of0 HJ.out.blk]
                      rfl
                    have HC4 : Hd (∃ cv, Cr (w9.setCell ⟨ge, Q, none⟩ (.slice (some ⟨g6, 0, none⟩) ((eP N of cl d P Q).length + 1) cap6)) s2 ge n cv (fun c => zL (eP N of cl d ((clrX N n of cl d).take (i + 1)) c))) := by
                      refine ⟨_, HQ1.congr (fun x hx => ?_)⟩
                      rw [HTK.out, ← HPP.out, eP_step (by rw [HPP.out]; exact HNT.out)]
                      by_cases e : x = Q
                      · rw [e, Wg.upd_same, Wg.upd_same, HEL.out, zL_app]
                      · rw [Wg.upd_ne _ _ e, Wg.upd_ne _ _ e, HLK.out]
                    have HS4 : ∀ j, (j = ge ∨ s2 ≤ j) → H ≤ j ∧ j ≠ b := fun j e => by
                      obtain ⟨t1, t2, t3, t4, t5, t6, t7, t8, t9, t10, t11⟩ := HST.out
                      have := HS1.out
                      have := HS2.out
                      rcases e with e | e <;> omega
                    have HJ4 : Hd (J0 w' (w9.setCell ⟨ge, Q, none⟩ (.slice (some ⟨g6, 0, none⟩) ((eP N of cl d P Q).length + 1) cap6)) H b go gm ge gr N n) := HJ.out.next hF9 (fun e => (HS4 b e).2 rfl) (fun j e => (HS4 j e).1)
                    have HCM4 : Hd (Cr (w9.setCell ⟨ge, Q, none⟩ (.slice (some ⟨g6, 0, none⟩) ((eP N of cl d P Q).length + 1) cap6)) (H + 4) gm n mv (fun c => zL (memX N of c))) := HCM.out.beside (s := s2) (fun i hi k e => Nat.lt_of_lt_of_le (HMB.out i hi k e) HS2.out) hF9 HRE.out (by decide) HST.out.2.2.2.2.2.2.2.2.1 (by have := HST.out.2.2.2.2.1; have := HS1.out; have := HS2.out; omega) (fun k e => e)
                    have HCR4 : Hd (Cr (w9.setCell ⟨ge, Q, none⟩ (.slice (some ⟨g6, 0, none⟩) ((eP N of cl d P Q).length + 1) cap6)) s1 gr n rv (fun d => zL (clrX N n of cl d))) := HCR.out.beside HRB.out hF9 HRE.out (by decide) (fun e => HST.out.2.2.2.2.2.2.2.2.2.2 e.symm) (by have := HST.out.2.2.2.2.2.2.1; have := HS1.out; have := HS2.out; omega) (fun k e => e)
                    have HSW4 : Hd (s2 ≤ (w9.setCell ⟨ge, Q, none⟩ (.slice (some ⟨g6, 0, none⟩) ((eP N of cl d P Q).length + 1) cap6)).heap.size) := Nat.le_trans HSW.out hF9.size
                    clear HS4
                    clear HQ1 hown6 hgrow6 hat6 hlt6 hi3 hz3 hs3 hb3 hF9 hG9))
                  all_goals
                    go_wp2_with fail
                    go_roundw
                    case measure => simp; omega
                    case rel => exact ⟨i + 1, by simp, by omega, HJ4.out, HCM4.out, HCR4.out, HC4.out, HSW4.out⟩
                · have d2 : decide ((i : Int) < ((clrX N n of cl d).length : Int)) = false := by simp; omega
                  have d2n : ¬ i < (clrX N n of cl d).length := by omega
                  have HCE5 : Hd (∃ ev, Cr wr s2 ge n ev (fun c => zL (cleX N (d + 1) of cl c))) := by
                    obtain ⟨ev, he⟩ := HCE.out
                    rw [List.take_of_length_le (by omega)] at he
                    exact ⟨ev, he.congr (fun c hc => by rw [eP_last hc])⟩
                  clear hlti HCE
                  go_wp2_with fail
                  go_roundw
                  case measure => simp; omega
                  case rel => exact ⟨d + 1, by simp, by omega, HJ.out, HCM.out, HCR.out, HCE5.out, HSW.out⟩
            · have d1 : decide ((d : Int) < (n : Int)) = false := by simp; omega
              have d1n : ¬ d < n := by omega
              have HE : Hd (JnE N n go of cl w' (.returned (.pointer (some ⟨b, 0, none⟩))) wr) := by
                obtain ⟨ev, he⟩ := HCE.out
                have edn : d = n := by omega
                rw [edn] at he
                obtain ⟨t1, t2, t3, t4, t5, t6, t7, t8, t9, t10, t11⟩ := HST.out
                have z1 := HS1.out
                have z2 := HS2.out
                refine ⟨b, gm, ge, gr, mv, ev, rv, rfl, by omega, by omega, by omega, by omega, ⟨HJ.out.blk, HOF.out.fr HJ.out.ff (by have := HOF.out.lt; omega), HCM.out.mono (by omega), he.mono (by omega), HCR.out.mono (by omega)⟩, ?_⟩
                have f := HJ.out.ff
                rw [t1] at f
                exact fr_new f
              clear hltd HCE
              go_wp2_with fail
              go_ret
              exact HE.out
end Go.Proofs.YtjmbfjaahadbhaaGreatDoor
