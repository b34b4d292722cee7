import Derived.Test.YtjmbfjaahadbhaaDoorQLoJ
import Derived.BigRegion
set_option linter.unusedVariables false
set_option linter.unusedSimpArgs false
namespace Go.Proofs.YtjmbfjaahadbhaaDoor
open Go.RowKit (wrap32 wrap64)

theorem fine_ren {tw : Nat → Nat} {fs fs' : List PF} (h : RnP tw fs fs') (hn : FineP fs) : FineP fs' := by
  refine ⟨by rw [h.len]; exact hn.1, fun f hf => ?_⟩
  obtain ⟨x, hx, rfl⟩ := h.mem hf
  have k := hn.2 _ (List.getElem_mem hx)
  refine ⟨by show ((fs[x].code.map (renI tw)).length) ≤ _; rw [List.length_map]; exact k.1, fun c hc => ?_⟩
  obtain ⟨c0, h0, rfl⟩ := List.mem_map.1 (show c ∈ fs[x].code.map (renI tw) from hc)
  have := k.2 c0 h0
  unfold renI
  split <;> exact this
/-- The code as far as its calls are numbered otherwise. -/
def mixC (tw : Nat → Nat) (cs : List PI) (i : Nat) : List PI := (cs.take i).map (renI tw) ++ cs.drop i
theorem mixC_zero (tw : Nat → Nat) (cs : List PI) : mixC tw cs 0 = cs := by simp [mixC]
theorem mixC_all (tw : Nat → Nat) (cs : List PI) {i : Nat} (h : cs.length ≤ i) : mixC tw cs i = cs.map (renI tw) := by simp [mixC, List.take_of_length_le h, List.drop_of_length_le h]
theorem mixC_len (tw : Nat → Nat) (cs : List PI) (i : Nat) : (mixC tw cs i).length = cs.length := by simp [mixC]; omega
theorem mixC_at (tw : Nat → Nat) {cs : List PI} {i : Nat} (h : i < cs.length) : (mixC tw cs i)[i]? = some cs[i] := by
  unfold mixC
  rw [List.getElem?_append_right (by rw [List.length_map, List.length_take]; omega), List.length_map, List.length_take]
  rw [List.getElem?_drop, show i + (i - min i cs.length) = i by omega, List.getElem?_eq_getElem h]
theorem mixC_next (tw : Nat → Nat) {cs : List PI} {i : Nat} (h : i < cs.length) : mixC tw cs (i + 1) = (mixC tw cs i).set i (renI tw cs[i]) := by
  unfold mixC
  have hl : ((cs.take i).map (renI tw)).length = i := by rw [List.length_map, List.length_take]; omega
  have hd : cs.drop i = cs[i] :: cs.drop (i + 1) := (List.getElem_cons_drop h).symm
  conv => rhs; rw [hd]
  rw [List.set_append_right _ _ (by omega), hl, Nat.sub_self, List.set_cons_zero, List.take_succ_eq_append_getElem h, List.map_append]
  simp
set_option maxRecDepth 100000 in
set_option maxHeartbeats 16000000 in
theorem names_any (G : Int) (fs : List PF) (fv ov : Value) (ol : List Int) (w : World) (h : FA w fv fs) (hn : FineP fs) (hO : IA w ov ol) (hol : ol.length ≤ 17592186043904) (hT : Tab w) (h0 : 0 < w.heap.size) :
    Calls Tryd.prog 4 #[.agg #[vI G, fv, ov]] w fun e w' => e = .returned (.bool true) ∧ Fr (fun _ => False) w w' := by
  obtain ⟨a0, cp0, efv, -⟩ := id h
  subst efv
  obtain ⟨oa, oc, eov, -⟩ := id hO
  subst eov
  obtain ⟨wa, hwa⟩ : ∃ wa, wa = w.alloc (.cells #[vI G, .slice a0 fs.length cp0, .slice oa ol.length oc] 42) := ⟨_, rfl⟩
  obtain ⟨H, hH⟩ : ∃ H, H = w.heap.size := ⟨_, rfl⟩
  have HH : Hd (H = w.heap.size) := hH
  have hFa : Fr (fun _ => False) w wa := by rw [hwa]; exact Fr.alloc (Fr.refl _ w) _
  have hba : wa.heap[H]? = some (.cells #[vI G, .slice a0 fs.length cp0, .slice oa ol.length oc] 42) := by rw [hwa, hH]; exact heap_new0 w _
  have HWA : Hd (wa = w.alloc (.cells #[vI G, .slice a0 fs.length cp0, .slice oa ol.length oc] 42)) := hwa
  have HFA : Hd (Fr (fun _ => False) w wa) := hFa
  have HFP : Hd (FA w (.slice a0 fs.length cp0) fs ∧ FineP fs ∧ Tab w ∧ 0 < w.heap.size ∧ IA w (.slice oa ol.length oc) ol ∧ ol.length ≤ 17592186043904) := ⟨h, hn, hT, h0, hO, hol⟩
  have HBX : Hd (∀ W, Fr (fun _ => False) wa W → W.cell? ⟨H, 0, none⟩ = some (vI G) ∧ W.cell? ⟨H, 1, none⟩ = some (.slice a0 fs.length cp0) ∧ W.cell? ⟨H, 2, none⟩ = some (.slice oa ol.length oc)) := fun W fW => by
    have := keepF hba fW
    exact ⟨by rw [cell_of0 this]; rfl, by rw [cell_of0 this]; rfl, by rw [cell_of0 this]; rfl⟩
  have HLG : Hd (Calls Tryd.prog 16 #[.agg #[vI G, .slice a0 fs.length cp0]] wa fun e w' => ∃ b, e = .returned (.bool b) ∧ Fr (fun _ => False) wa w' ∧ (b = false → fs.length ≤ 2147483647 ∧ ∀ f ∈ fs, SmC 2147483647 f.code)) := long_any G _ fs wa (h.stay hFa) hn
  obtain ⟨c0, c1, c2⟩ := HBX.out wa (Fr.refl _ _)
  clear h hn hT h0 hwa hH hFa hba hO hol
  go_enter Tryd.func4, Tryd.ntmps4
  go_upto_region 1 with fail
  rw [← HWA.out, ← HH.out]
  clear HWA
  go_wp2_with fail
  refine Calls.mono HLG.out ?_
  rintro e w1 ⟨lg, rfl, hF1, -⟩
  have HF1 : Hd (Fr (fun _ => False) wa w1) := hF1
  clear hF1 HLG c0 c1 c2
  cases lg with
  | true =>
    have HE1 : Hd (Fr (fun _ => False) w w1) := HFA.out.trans HF1.out
    go_wp2_with fail
    go_ret
    exact ⟨rfl, HE1.out⟩
  | false =>
  obtain ⟨c0, c1, c2⟩ := HBX.out w1 HF1.out
  have HE1 : Hd (Fr (fun _ => False) w w1) := HFA.out.trans HF1.out
  go_wp2_with fail
  refine (long1_any ol.length w1).mono ?_
  rintro e wl ⟨rfl, rfl⟩
  clear c0 c1 c2
  by_cases hbig : 2147483647 < ol.length
  · have db : decide (2147483647 < ol.length) = true := by simp; omega
    go_wp2_with fail
    go_ret
    exact ⟨rfl, HE1.out⟩
  have db : decide (2147483647 < ol.length) = false := by simp; omega
  go_wp2_with fail
  refine (lives_any wl (HFP.out.2.2.1.fr HE1.out (fun e => e)) (Nat.lt_of_lt_of_le HFP.out.2.2.2.1 HE1.out.size)).mono ?_
  rintro e w2 ⟨rfl, hF2⟩
  have HF2 : Hd (Fr (fun _ => False) w w2 ∧ Fr (fun _ => False) wa w2) := ⟨HE1.out.trans hF2, HF1.out.trans hF2⟩
  obtain ⟨c0, c1, c2⟩ := HBX.out w2 HF2.out.2
  have HGR : Hd (Calls Tryd.prog 19 #[.agg #[vI G, .slice a0 fs.length cp0]] w2 (GhE G fs w2)) := graph_any G fs _ w2 (HFP.out.1.stay HF2.out.1) HFP.out.2.1 (HFP.out.2.2.1.fr HF2.out.1 (fun e => e)) (Nat.lt_of_lt_of_le HFP.out.2.2.2.1 HF2.out.1.size)
  clear hF2 HF1 HE1 db hbig
  go_wp2_with fail
  refine Calls.mono HGR.out ?_
  rintro e w3 ⟨hF3, hcase⟩
  have HF3 : Hd (Fr (fun _ => False) w w3 ∧ Fr (fun _ => False) wa w3) := ⟨HF2.out.1.trans hF3, HF2.out.2.trans hF3⟩
  clear hF3 HGR HF2 c0 c1 c2
  rcases hcase with ⟨-, rfl⟩ | ⟨hck, b, n, of, rfl, hgr, hgp, hnN⟩
  · go_wp2_with fail
    go_ret
    exact ⟨rfl, HF3.out.1⟩
  obtain ⟨go, gm, ge, gr, mv, ev, rv, -, -, -, -, -, hga⟩ := hgr
  obtain ⟨hN1, hN2⟩ := check_len hck
  obtain ⟨hok, hcl⟩ := check_calls hck
  have HCK : Hd (checkP G fs = 0 ∧ CallOk fs ∧ ∀ f ∈ fs, f.code.length ≤ 4096) := ⟨hck, hok, hcl⟩
  have HGP : Hd (Gp fs.length (clX fs) n of) := hgp
  have HGA3 : Hd (GA w3 w2.heap.size b go gm ge gr fs.length n mv ev rv of (clX fs)) := hga
  obtain ⟨c0, c1, c2⟩ := HBX.out w3 HF3.out.2
  have HPL : Hd (Calls Tryd.prog 20 #[vI (fs.length : Int), .slice oa ol.length oc] w3 (PlE fs.length w3)) := places_any fs.length _ ol w3 hN2 (HFP.out.2.2.2.2.1.stay HF3.out.1) HFP.out.2.2.2.2.2
  clear hck hgp hga hok hcl
  go_wp2_with fail
  refine Calls.mono HPL.out ?_
  rintro e w4 ⟨tv, tl, rfl, hto, htp, hF4⟩
  obtain ⟨tw, htl, hta, hlt, hinj, hon⟩ := perm_fn htp
  obtain ⟨tg, tc, etv, -, htc⟩ := iown_some hto (by rw [List.length_map]; omega)
  rw [List.length_map, htl] at etv
  subst etv
  have HTO : Hd (∀ W, Fr (fun _ => False) w4 W → ∀ x, x < fs.length → W.cell? ⟨tg, x, none⟩ = some (vI (tw x : Nat))) := fun W fW x hx => by
    have hg := (hto.ge tg rfl).2
    rw [fW.cell hg (fun e => e), htc x (by rw [List.length_map]; omega)]
    simp [hta x (by omega)]
  have HTW : Hd ((∀ x, x < fs.length → tw x < fs.length) ∧ (∀ x y, x < fs.length → y < fs.length → tw x = tw y → x = y) ∧ ∀ y, y < fs.length → ∃ x, x < fs.length ∧ tw x = y) := ⟨hlt, hinj, hon⟩
  have HF4 : Hd (Fr (fun _ => False) w w4 ∧ Fr (fun _ => False) wa w4) := ⟨HF3.out.1.trans hF4, HF3.out.2.trans hF4⟩
  have HGA : Hd (∀ W, Fr (fun _ => False) w4 W → GA W w2.heap.size b go gm ge gr fs.length n mv ev rv of (clX fs)) := fun W fW => HGA3.out.stay (hF4.trans fW)
  have HCP : Hd (Calls Tryd.prog 21 #[.agg #[vI G, .slice a0 fs.length cp0]] w4 fun e w' => ∃ v' L, e = .returned (.agg #[vI G, v']) ∧ FO w' (w4.heap.size + 2) v' L ∧ L.map (·.1) = fs ∧ Fr (fun _ => False) w4 w') := copyProgramO_any G _ fs w4 (HFP.out.1.stay HF4.out.1) HFP.out.2.1
  clear hto htp hF4 htl hta hlt hinj hon htc HGA3 HPL c0 c1 c2 HF3
  obtain ⟨c0, c1, c2⟩ := HBX.out w4 HF4.out.2
  go_wp2_with fail
  refine Calls.mono HCP.out ?_
  rintro e w5 ⟨qv, L0, rfl, hfo, hL0, hF5⟩
  have hl0 : L0.length = fs.length := by rw [← hL0, List.length_map]
  obtain ⟨qg, qc, eqv, hqB, hql⟩ := hfo.some4 (by omega)
  rw [hl0] at eqv
  subst eqv
  obtain ⟨Q, hQ⟩ : ∃ Q, Q = w5.heap.size := ⟨_, rfl⟩
  have HFO5 : Hd (FO w5 (w4.heap.size + 2) (.slice (some ⟨qg, 0, none⟩) fs.length qc) L0 ∧ L0.map (·.1) = fs ∧ Fr (fun _ => False) w4 w5) := ⟨hfo, hL0, hF5⟩
  clear hfo hL0 hF5 HCP c0 c1 c2
  go_upto_region 9 with fail
  rw [← hQ]
  obtain ⟨w6, hw6⟩ : ∃ w6, w6 = w5.alloc (.cells #[vI G, .slice (some ⟨qg, 0, none⟩) fs.length qc] 24) := ⟨_, rfl⟩
  have hw6' : w5.alloc (Obj.cells #[Value.int IntKind.i64 G, Value.slice (some ⟨qg, 0, none⟩) fs.length qc] 24) = w6 := hw6.symm
  rw [hw6']
  have HS0 : Hd (∃ L : List FI, FO w6 (w4.heap.size + 2) (.slice (some ⟨qg, 0, none⟩) fs.length qc) L ∧ rnL tw fs 0 (L.map (·.1)) ∧ w6.heap[Q]? = some (.cells #[vI G, .slice (some ⟨qg, 0, none⟩) fs.length qc] 24) ∧ Fr (fun _ => False) w4 w6) := by
    have f6 : Fr (fun _ => False) w5 w6 := by rw [hw6]; exact Fr.alloc (Fr.refl _ w5) _
    refine ⟨L0, HFO5.out.1.stay f6, ⟨by rw [HFO5.out.2.1], fun x hx h0 => by omega⟩, by rw [hw6, hQ]; exact heap_new0 w5 _, HFO5.out.2.2.trans f6⟩
  have HQ4 : Hd (w4.heap.size ≤ Q ∧ qg ≠ Q ∧ w4.heap.size ≤ qg) := ⟨by have := HFO5.out.2.2.size; omega, by omega, by omega⟩
  clear hw6 hw6' HFO5 hQ hql hqB hl0
  go_wp2_with fail
  go_loopw [9] (fun v wx => ∃ f : Nat, v = .int .i64 f ∧ f ≤ fs.length ∧ Hd (∃ L : List FI, FO wx (w4.heap.size + 2) (.slice (some ⟨qg, 0, none⟩) fs.length qc) L ∧ rnL tw fs f (L.map (·.1)) ∧ wx.heap[Q]? = some (.cells #[vI G, .slice (some ⟨qg, 0, none⟩) fs.length qc] 24) ∧ Fr (fun _ => False) w4 wx)) (fun v _ => match v with | .int _ q => fs.length - q.toNat | _ => 0)
  case atStart => exact ⟨0, by simp, Nat.zero_le _, HS0.out⟩
  case round =>
    clear HS0
    obtain ⟨f, rfl, hf, HS⟩ := hrel
    obtain ⟨L, hFO, hrn, hQb, hF4r⟩ := HS.out
    have HFO : Hd (FO wr (w4.heap.size + 2) (.slice (some ⟨qg, 0, none⟩) fs.length qc) L ∧ rnL tw fs f (L.map (·.1)) ∧ wr.heap[Q]? = some (.cells #[vI G, .slice (some ⟨qg, 0, none⟩) fs.length qc] 24) ∧ Fr (fun _ => False) w4 wr) := ⟨hFO, hrn, hQb, hF4r⟩
    clear HS hFO hrn hQb hF4r
    obtain ⟨c0, c1, c2⟩ := HBX.out wr (HF4.out.2.trans HFO.out.2.2.2)
    by_cases hlt : f < fs.length
    · have d1 : decide ((f : Int) < (fs.length : Int)) = true := by simp; omega
      have f0 : (0 : Int) ≤ f := by omega
      have f1 : (f : Int) < fs.length := by omega
      obtain ⟨a, cp, e, hh⟩ := HFP.out.1
      obtain ⟨fk, fo, e2, hfk, hg⟩ := hh (fun e => by simp [e] at hlt)
      obtain ⟨cv, p0, p1, p2, p3, hca⟩ := hg f hlt
      rw [e2] at e
      injection e with e eL eC
      clear eL eC
      subst e
      have HMv : Hd (∀ o, wr.cell? ⟨fk, o, none⟩ = w.cell? ⟨fk, o, none⟩) := fun o => (HF4.out.1.trans HFO.out.2.2.2).cell hfk (fun e => e)
      rw [← HMv.out] at p0 p1 p2 p3
      have HCF : Hd (Calls Tryd.prog 22 #[.agg #[vI fs[f].P, vI fs[f].R, vI fs[f].V, cv]] wr fun e w' => ∃ x' L, e = .returned (.agg #[vI fs[f].P, vI fs[f].R, vI fs[f].V, x']) ∧ CO w' wr.heap.size x' L ∧ L.map (·.1) = fs[f].code ∧ Fr (fun _ => False) wr w') := copyFunc_any fs[f] cv wr (hca.stay (HF4.out.1.trans HFO.out.2.2.2)) (HFP.out.2.1.2 _ (List.getElem_mem hlt))
      have HFF : Hd (f < fs.length ∧ ∃ h : f < fs.length, fs[f]'h = fs[f]'h) := ⟨hlt, hlt, rfl⟩
      obtain ⟨F, hFe⟩ : ∃ F, F = fs[f] := ⟨_, rfl⟩
      have HFE : Hd (∃ h : f < fs.length, F = fs[f]'h) := ⟨hlt, hFe⟩
      rw [← hFe] at p0 p1 p2 HCF
      have hcb : F.code.length ≤ 4096 := by rw [hFe]; exact HCK.out.2.2 _ (List.getElem_mem hlt)
      have HCO : Hd (∀ c ∈ F.code, c.op = 11 → 0 ≤ c.n ∧ c.n < (fs.length : Int)) := by unfold Hd; rw [hFe]; exact HCK.out.2.1 _ (List.getElem_mem hlt)
      have HLF : Hd (f < fs.length) := hlt
      obtain ⟨ca, cc, ecv, -⟩ := id hca
      subst ecv
      clear hg hh hca hFe HFF HMv
      go_wp2_with fail
      refine Calls.mono HCF.out ?_
      rintro e w7 ⟨xv, Lc, rfl, hco, hLc, hF7⟩
      obtain ⟨xa, xc, exv⟩ := hco.shape
      have hll : Lc.length = F.code.length := by rw [← hLc, List.length_map]
      rw [hll] at exv
      subst exv
      obtain ⟨hb, hhb⟩ : ∃ hb, hb = w7.heap.size := ⟨_, rfl⟩
      have HW7 : Hd (CO w7 wr.heap.size (.slice xa F.code.length xc) Lc ∧ Lc.map (·.1) = F.code ∧ Fr (fun _ => False) wr w7) := ⟨hco, hLc, hF7⟩
      clear HCF p0 p1 p2 p3 c0 c1 c2 hco hLc hF7 hll
      go_upto_region 13 with fail
      rw [← hhb]
      obtain ⟨w8, hw8⟩ : ∃ w8, w8 = w7.alloc (.cells #[vI F.P, vI F.R, vI F.V, .slice xa F.code.length xc] 32) := ⟨_, rfl⟩
      have hw8' : w7.alloc (Obj.cells #[Value.int IntKind.i64 F.P, Value.int IntKind.i64 F.R, Value.int IntKind.i64 F.V, Value.slice xa F.code.length xc] 32) = w8 := hw8.symm
      rw [hw8']
      have HS8 : Hd (∃ Lc : List CI, CO w8 wr.heap.size (.slice xa F.code.length xc) Lc ∧ Lc.map (·.1) = mixC tw F.code 0 ∧ w8.heap[hb]? = some (.cells #[vI F.P, vI F.R, vI F.V, .slice xa F.code.length xc] 32) ∧ Fr (fun _ => False) wr w8) := by
        have f8 : Fr (fun _ => False) w7 w8 := by rw [hw8]; exact Fr.alloc (Fr.refl _ w7) _
        refine ⟨Lc, HW7.out.1.stay f8, by rw [mixC_zero]; exact HW7.out.2.1, by rw [hw8, hhb]; exact heap_new0 w7 _, HW7.out.2.2.trans f8⟩
      have HHB : Hd (wr.heap.size ≤ hb) := by unfold Hd; rw [hhb]; exact HW7.out.2.2.size
      clear hw8 hw8' HW7 hhb
      obtain ⟨wq, hwq⟩ : ∃ wq, wq = wr := ⟨_, rfl⟩
      rw [← hwq] at HS8 HHB HFO
      clear hwq
      go_wp2_with fail
      go_loopw [11] (fun v wx => ∃ i : Nat, v = .int .i64 i ∧ i ≤ F.code.length ∧ Hd (∃ Lc : List CI, CO wx wq.heap.size (.slice xa F.code.length xc) Lc ∧ Lc.map (·.1) = mixC tw F.code i ∧ wx.heap[hb]? = some (.cells #[vI F.P, vI F.R, vI F.V, .slice xa F.code.length xc] 32) ∧ Fr (fun _ => False) wq wx)) (fun v _ => match v with | .int _ q => F.code.length - q.toNat | _ => 0)
      case atStart => exact ⟨0, by simp, Nat.zero_le _, HS8.out⟩
      case round =>
        clear HS8
        obtain ⟨i, rfl, hi, HI⟩ := hrel
        obtain ⟨Lc, hco, hmx, hhb, hFq⟩ := HI.out
        have c3 : wr.cell? ⟨hb, 3, none⟩ = some (.slice xa F.code.length xc) := by rw [cell_of0 hhb]; rfl
        have hll : Lc.length = F.code.length := by have := congrArg List.length hmx; rw [List.length_map, mixC_len] at this; exact this
        by_cases hlti : i < F.code.length
        · have d2 : decide ((i : Int) < (F.code.length : Int)) = true := by simp; omega
          have i0 : (0 : Int) ≤ i := by omega
          have i1 : (i : Int) < F.code.length := by omega
          obtain ⟨cg, ccp, exv, hcB, hcl⟩ := World.ownsRow.form hco.row (by omega)
          rw [hll] at exv
          injection exv with ex1 ex2 ex3
          clear ex2
          subst ex1 ex3
          have hiL : i < Lc.length := by omega
          have hci : Lc[i].1 = F.code[i] := by
            have h1 := mixC_at tw hlti
            rw [← hmx, List.getElem?_map, List.getElem?_eq_getElem hiL] at h1
            injection h1
          have q0 : wr.cell? ⟨cg, i * 7, none⟩ = some (vI F.code[i].op) := by
            obtain ⟨g', cap', e', -, hc'⟩ := own_cell hco.row (j := i * 7 + 0) (u := vI F.code[i].op) (by rw [flat_get rowI 7 (fun _ => rfl) Lc i 0 hiL (by omega), ← hci]; rfl)
            injection e' with e1 e2 e3
            injection e1 with e1
            injection e1 with e1
            subst e1
            exact hc'
          have q4 : wr.cell? ⟨cg, i * 7 + 4, none⟩ = some (vI F.code[i].n) := by
            obtain ⟨g', cap', e', -, hc'⟩ := own_cell hco.row (j := i * 7 + 4) (u := vI F.code[i].n) (by rw [flat_get rowI 7 (fun _ => rfl) Lc i 4 hiL (by omega), ← hci]; rfl)
            injection e' with e1 e2 e3
            injection e1 with e1
            injection e1 with e1
            subst e1
            exact hc'
          have HNX : Hd (mixC tw F.code (i + 1) = (mixC tw F.code i).set i (renI tw F.code[i])) := mixC_next tw hlti
          have HSM : Hd ((mixC tw F.code i).set i F.code[i] = mixC tw F.code i) := by
            unfold Hd
            apply List.ext_getElem?
            intro q
            rw [List.getElem?_set]
            split
            · rename_i e
              subst e
              rw [if_pos (by rw [mixC_len]; exact hlti)]
              exact (mixC_at tw hlti).symm
            · rfl
          have HKJ : Hd (F.code[i].op = 11 → 0 ≤ F.code[i].n ∧ F.code[i].n < (fs.length : Int)) := HCO.out _ (List.getElem_mem hlti)
          rw [← hll] at hco
          have hset := fun z => hco.setN hiL z
          rw [hci] at hset
          have HST : Hd (∀ z, CO (wr.setCell ⟨cg, i * 7 + 4, none⟩ (vI z)) wq.heap.size (.slice (some ⟨cg, 0, none⟩) Lc.length xc) (Lc.set i ({ F.code[i] with n := z }, Lc[i].2)) ∧ wr.frozen? ⟨cg, i * 7 + 4, none⟩ = false) := hset
          rw [hll] at hco HST
          have HCC : Hd (CO wr wq.heap.size (.slice (some ⟨cg, 0, none⟩) F.code.length xc) Lc ∧ Lc.map (·.1) = mixC tw F.code i ∧ wr.heap[hb]? = some (.cells #[vI F.P, vI F.R, vI F.V, .slice (some ⟨cg, 0, none⟩) F.code.length xc] 32) ∧ Fr (fun _ => False) wq wr) := ⟨hco, hmx, hhb, hFq⟩
          generalize F.code[i] = c at *
          clear hset hci HI hmx hhb hFq
          by_cases hop : c.op = 11
          · have eop : (c.op == 11) = true := by simp [hop]
            obtain ⟨n0, hn0⟩ : ∃ n0 : Nat, c.n = (n0 : Int) := ⟨c.n.toNat, by have := HKJ.out hop; omega⟩
            have hn0N : n0 < fs.length := by have := HKJ.out hop; omega
            rw [hn0] at q4
            have tq : wr.cell? ⟨tg, n0, none⟩ = some (vI (tw n0 : Nat)) := HTO.out wr (HFO.out.2.2.2.trans HCC.out.2.2.2) n0 hn0N
            have n00 : (0 : Int) ≤ n0 := by omega
            have n01 : (n0 : Int) < fs.length := by omega
            obtain ⟨hset1, zf⟩ := HST.out (tw n0 : Nat)
            have fs1 := setCell_fr wr cg (i * 7 + 4) (vI (tw n0 : Nat))
            have hne : hb ≠ cg := fun e => by
              subst e
              rcases hco.row.2 with ⟨e2, -⟩ | ⟨g, cap, cur, e2, -, k2, -⟩
              · injection e2 with e2
                cases e2
              · injection e2 with e2
                injection e2 with e2
                injection e2 with e2
                subst e2
                rw [HCC.out.2.2.1] at k2
                injection k2 with k2
                injection k2 with _ k2
                cases k2
            have HI2 : Hd (∃ Lc : List CI, CO (wr.setCell ⟨cg, i * 7 + 4, none⟩ (vI (tw n0 : Nat))) wq.heap.size (.slice (some ⟨cg, 0, none⟩) F.code.length xc) Lc ∧ Lc.map (·.1) = mixC tw F.code (i + 1) ∧ (wr.setCell ⟨cg, i * 7 + 4, none⟩ (vI (tw n0 : Nat))).heap[hb]? = some (.cells #[vI F.P, vI F.R, vI F.V, .slice (some ⟨cg, 0, none⟩) F.code.length xc] 32) ∧ Fr (fun _ => False) wq (wr.setCell ⟨cg, i * 7 + 4, none⟩ (vI (tw n0 : Nat)))) := by
              refine ⟨_, hset1, ?_, (fs1.block hb (heap_lt HCC.out.2.2.1) hne).trans HCC.out.2.2.1, HCC.out.2.2.2.then fs1 (fun q hq e => by omega)⟩
              rw [List.map_set, HCC.out.2.1, HNX.out]
              congr 1
              unfold renI
              rw [if_pos hop, hn0, Int.toNat_natCast]
            clear HST hset1 hco hop HKJ HNX HCC hne fs1
            go_upto_region 17 with fail
            go_region
            all_goals
              go_wp2_with fail
              go_roundw
              case measure => simp; omega
              case rel =>
                refine ⟨i + 1, by simp, by omega, ?_⟩
                obtain ⟨Lz, z1, z2, z3, z4⟩ := HI2.out
                exact ⟨Lz, z1.stay (Fr.drew (Fr.refl _ _)), z2, z3, z4.drew⟩
          · have eop : (c.op == 11) = false := by simp [hop]
            have HI2 : Hd (∃ Lc : List CI, CO wr wq.heap.size (.slice (some ⟨cg, 0, none⟩) F.code.length xc) Lc ∧ Lc.map (·.1) = mixC tw F.code (i + 1) ∧ wr.heap[hb]? = some (.cells #[vI F.P, vI F.R, vI F.V, .slice (some ⟨cg, 0, none⟩) F.code.length xc] 32) ∧ Fr (fun _ => False) wq wr) := by
              refine ⟨Lc, HCC.out.1, ?_, HCC.out.2.2.1, HCC.out.2.2.2⟩
              rw [HNX.out, HCC.out.2.1]
              have e3 : renI tw c = c := by unfold renI; rw [if_neg hop]
              rw [e3]
              exact HSM.out.symm
            clear HST hco hop HKJ HNX HCC
            go_wp2_with fail
            go_roundw
            case measure => simp; omega
            case rel => exact ⟨i + 1, by simp, by omega, HI2.out⟩
        · have d2 : decide ((i : Int) < (F.code.length : Int)) = false := by simp; omega
          have d2n : ¬ i < F.code.length := hlti
          have hyN := HTW.out.1 f HLF.out
          have hFO := HFO.out.1.stay hFq
          have hlL : L.length = fs.length := by have := HFO.out.2.1.1; rwa [List.length_map] at this
          have cQ : wr.cell? ⟨Q, 1, none⟩ = some (.slice (some ⟨qg, 0, none⟩) fs.length qc) := by rw [cell_of0 (keepF HFO.out.2.2.1 hFq)]; rfl
          have tf : wr.cell? ⟨tg, f, none⟩ = some (vI (tw f : Nat)) := HTO.out wr (HFO.out.2.2.2.trans hFq) f HLF.out
          have h0c : wr.cell? ⟨hb, 0, none⟩ = some (vI F.P) := by rw [cell_of0 hhb]; rfl
          have h1c : wr.cell? ⟨hb, 1, none⟩ = some (vI F.R) := by rw [cell_of0 hhb]; rfl
          have h2c : wr.cell? ⟨hb, 2, none⟩ = some (vI F.V) := by rw [cell_of0 hhb]; rfl
          have hcell : ∀ o, o < 4 → ∃ u, wr.cell? ⟨qg, tw f * 4 + o, none⟩ = some u := fun o ho => by
            obtain ⟨u, hu⟩ : ∃ u, (L.flatMap rowF)[tw f * 4 + o]? = some u := ⟨_, List.getElem?_eq_getElem (by rw [flat_len rowF 4 (fun _ => rfl)]; omega)⟩
            obtain ⟨g', cap', e', -, hc'⟩ := own_cell hFO.row hu
            injection e' with e1 e2 e3
            injection e1 with e1
            injection e1 with e1
            subst e1
            exact ⟨u, hc'⟩
          obtain ⟨u0, k0⟩ := hcell 0 (by omega)
          obtain ⟨u1, k1⟩ := hcell 1 (by omega)
          obtain ⟨u2, k2⟩ := hcell 2 (by omega)
          obtain ⟨u3, k3⟩ := hcell 3 (by omega)
          rw [Nat.add_zero] at k0
          rw [← hlL] at hFO
          have hfz : ∀ q, wr.frozen? ⟨qg, q, none⟩ = false := fun q => (row_set (j := q) hFO.row undef).2
          have z0 := hfz (tw f * 4)
          have z1 := hfz (tw f * 4 + 1)
          have z2 := hfz (tw f * 4 + 2)
          have z3 := hfz (tw f * 4 + 3)
          have y0 : (0 : Int) ≤ (tw f : Int) := by omega
          have y1 : (tw f : Int) < fs.length := by omega
          have hmc : mixC tw F.code i = F.code.map (renI tw) := mixC_all tw F.code (by omega)
          obtain ⟨hset, hfr4⟩ := hFO.set4 (y := tw f) (by omega) (renF tw F, .slice xa F.code.length xc, Lc) (hco.mono (by have := World.ownsRow.lt HFO.out.1.row qg rfl; omega)) (by rw [hmx, hmc]; rfl)
          rw [hlL] at hset
          have HN : Hd (∃ L : List FI, FO (fou4 wr qg (tw f * 4) (rowF (renF tw F, .slice xa F.code.length xc, Lc))) (w4.heap.size + 2) (.slice (some ⟨qg, 0, none⟩) fs.length qc) L ∧ rnL tw fs (f + 1) (L.map (·.1)) ∧ (fou4 wr qg (tw f * 4) (rowF (renF tw F, .slice xa F.code.length xc, Lc))).heap[Q]? = some (.cells #[vI G, .slice (some ⟨qg, 0, none⟩) fs.length qc] 24) ∧ Fr (fun _ => False) w4 (fou4 wr qg (tw f * 4) (rowF (renF tw F, .slice xa F.code.length xc, Lc)))) := by
            refine ⟨_, hset, ?_, (hfr4.block Q (heap_lt (keepF HFO.out.2.2.1 hFq)) (fun e => HQ4.out.2.1 e.symm)).trans (keepF HFO.out.2.2.1 hFq), (HFO.out.2.2.2.trans hFq).then hfr4 (fun q hq e => by have := HQ4.out.2.2; omega)⟩
            rw [List.map_set]
            obtain ⟨hfl, hFe⟩ := HFE.out
            have := rnL_next HFO.out.2.1 hfl HTW.out.1 HTW.out.2.1
            rw [← hFe] at this
            exact this
          clear hset hfr4 hFO hcell hfz hco hmx hhb hFq HI hmc hlti
          go_upto_region 18 with fail
          go_region
          all_goals
            go_wp2_with fail
            go_roundw
            case measure => have := HLF.out; simp; omega
            case rel =>
              refine ⟨f + 1, by simp, by have := HLF.out; omega, ?_⟩
              obtain ⟨Lz, z1, z2, z3, z4⟩ := HN.out
              exact ⟨Lz, z1.stay (Fr.drew (Fr.refl _ _)), z2, z3, z4.drew⟩
    · have d1 : decide ((f : Int) < (fs.length : Int)) = false := by simp; omega
      have d1n : ¬ f < fs.length := hlt
      have hfe : f = fs.length := by omega
      have hrp : RnP tw fs (L.map (·.1)) := rnL_all (by have := HFO.out.2.1; rw [hfe] at this; exact this) HTW.out.1 HTW.out.2.1 HTW.out.2.2
      obtain ⟨fs', hfs'⟩ : ∃ fs', fs' = L.map (·.1) := ⟨_, rfl⟩
      rw [← hfs'] at hrp
      have hl' : fs'.length = fs.length := hrp.len
      have hfa : FA wr (.slice (some ⟨qg, 0, none⟩) fs.length qc) fs' := by rw [hfs']; exact HFO.out.1.fa
      have HNW : Hd (Calls Tryd.prog 10 #[.agg #[vI G, .slice (some ⟨qg, 0, none⟩) fs.length qc]] wr (NwE G fs' wr)) := new_any G fs' _ wr hfa (fine_ren hrp HFP.out.2.1) (HFP.out.2.2.1.fr (HF4.out.1.trans HFO.out.2.2.2) (fun e => e)) (Nat.lt_of_lt_of_le HFP.out.2.2.2.1 (HF4.out.1.trans HFO.out.2.2.2).size)
      have HRP : Hd (RnP tw fs fs') := hrp
      have HFR : Hd (Fr (fun _ => False) w4 wr) := HFO.out.2.2.2
      have k0 : wr.cell? ⟨Q, 0, none⟩ = some (vI G) := by rw [cell_of0 HFO.out.2.2.1]; rfl
      have k1 : wr.cell? ⟨Q, 1, none⟩ = some (.slice (some ⟨qg, 0, none⟩) fs.length qc) := by rw [cell_of0 HFO.out.2.2.1]; rfl
      clear hfa hrp hfs' hfe HFO hlt hl' c0 c1 c2
      go_wp2_with fail
      refine Calls.mono HNW.out ?_
      rintro e w7 ⟨hF7, hcase⟩
      rcases hcase with ⟨hne, -⟩ | ⟨-, b2, n2, of2, rfl, hgr, hgp, hnN2⟩
      · exact absurd (HRP.out.check HCK.out.1) hne
      obtain ⟨go2, gm2, ge2, gr2, mv2, ev2, rv2, -, -, -, -, -, hga2⟩ := hgr
      rw [HRP.out.len] at hga2 hgp hnN2
      have hren : Ren fs.length tw (clX fs) (clX fs') := HRP.out.ren HCK.out.2.1
      have hnn : n2 = n := hren.len HGP.out.toRg hgp.toRg
      subst hnn
      have HREN : Hd (Ren fs.length tw (clX fs) (clX fs') ∧ Rg fs.length (clX fs) n2 of ∧ Rg fs.length (clX fs') n2 of2) := ⟨hren, HGP.out.toRg, hgp.toRg⟩
      have HFZ : Hd (Fr (fun _ => False) w4 w7 ∧ Fr (fun _ => False) w w7) := ⟨HFR.out.trans hF7, HF4.out.1.trans (HFR.out.trans hF7)⟩
      have HG1 : Hd (∀ W, Fr (fun _ => False) w7 W → GA W w2.heap.size b go gm ge gr fs.length n2 mv ev rv of (clX fs)) := fun W fW => HGA.out W (HFZ.out.1.trans fW)
      have HG2 : Hd (∀ W, Fr (fun _ => False) w7 W → GA W wr.heap.size b2 go2 gm2 ge2 gr2 fs.length n2 mv2 ev2 rv2 of2 (clX fs')) := fun W fW => hga2.stay fW
      have HT7 : Hd (∀ W, Fr (fun _ => False) w7 W → ∀ x, x < fs.length → W.cell? ⟨tg, x, none⟩ = some (vI (tw x : Nat))) := fun W fW => HTO.out W (HFZ.out.1.trans fW)
      have e1 : (binOp .eql 33 (.pointer (some ⟨b2, 0, none⟩)) (.pointer none)).run Tryd.prog w7 = .ok (.bool false) w7 := by first | rfl | kernel_rfl
      have nn : ((n2 : Int) != (n2 : Int)) = false := by simp
      clear hga2 hgp hren HNW hF7 k0 k1 HGA HTO HFR d1 d1n hf
      go_wp2_with fail
      refine Calls.mono (glen_any w7 (HG2.out w7 (Fr.refl _ _)) (by omega)) ?_
      rintro e w8 ⟨rfl, rfl⟩
      go_wp2_with fail
      refine Calls.mono (glen_any w8 (HG1.out w8 (Fr.refl _ _)) (by omega)) ?_
      rintro e w9 ⟨rfl, rfl⟩
      clear e1
      have HF90 : Hd (Fr (fun _ => False) w9 w9) := Fr.refl _ _
      go_wp2_with fail
      go_loopw [14] (fun v wx => ∃ f : Nat, v = .int .i64 f ∧ f ≤ fs.length ∧ Hd (Fr (fun _ => False) w9 wx)) (fun v _ => match v with | .int _ q => fs.length - q.toNat | _ => 0)
      case atStart => exact ⟨0, by simp, Nat.zero_le _, HF90.out⟩
      case round =>
        clear HF90
        obtain ⟨f, rfl, hf, HF⟩ := hrel
        by_cases hlt : f < fs.length
        · have d1 : decide ((f : Int) < (fs.length : Int)) = true := by simp; omega
          have HLF : Hd (f < fs.length) := hlt
          have f0 : (0 : Int) ≤ f := by omega
          have f1 : (f : Int) < fs.length := by omega
          go_wp2_with fail
          go_loopw [15] (fun v wx => ∃ h : Nat, v = .int .i64 h ∧ h ≤ fs.length ∧ Hd (Fr (fun _ => False) w9 wx)) (fun v _ => match v with | .int _ q => fs.length - q.toNat | _ => 0)
          case atStart => exact ⟨0, by simp, Nat.zero_le _, HF.out⟩
          case round =>
            clear HF
            obtain ⟨h, rfl, hh, HF⟩ := hrel
            by_cases hlth : h < fs.length
            · have d2 : decide ((h : Int) < (fs.length : Int)) = true := by simp; omega
              have h0' : (0 : Int) ≤ h := by omega
              have h1' : (h : Int) < fs.length := by omega
              have hof := HREN.out.2.1.lt f HLF.out
              have hof2 := HREN.out.2.2.lt (tw f) (HTW.out.1 f HLF.out)
              have hty := HTW.out.1 f HLF.out
              have hth := HTW.out.1 h hlth
              have HO1 : Hd (∀ W, Fr (fun _ => False) w9 W → Calls Tryd.prog 13 #[.pointer (some ⟨b, 0, none⟩), vI (f : Int)] W fun e w' => e = .returned (vI (of f : Nat)) ∧ w' = W) := fun W fW => of_any f (HG1.out W fW) HLF.out (by omega)
              have HO2 : Hd (∀ W, Fr (fun _ => False) w9 W → Calls Tryd.prog 13 #[.pointer (some ⟨b, 0, none⟩), vI (h : Int)] W fun e w' => e = .returned (vI (of h : Nat)) ∧ w' = W) := fun W fW => of_any h (HG1.out W fW) hlth (by omega)
              have HO3 : Hd (∀ W, Fr (fun _ => False) w9 W → Calls Tryd.prog 13 #[.pointer (some ⟨b2, 0, none⟩), vI ((tw f : Nat) : Int)] W fun e w' => e = .returned (vI (of2 (tw f) : Nat)) ∧ w' = W) := fun W fW => of_any (tw f) (HG2.out W fW) hty (by omega)
              have HO4 : Hd (∀ W, Fr (fun _ => False) w9 W → Calls Tryd.prog 13 #[.pointer (some ⟨b2, 0, none⟩), vI ((tw h : Nat) : Int)] W fun e w' => e = .returned (vI (of2 (tw h) : Nat)) ∧ w' = W) := fun W fW => of_any (tw h) (HG2.out W fW) hth (by omega)
              have HC1 : Hd (∀ W, Fr (fun _ => False) w9 W → Calls Tryd.prog 14 #[.pointer (some ⟨b, 0, none⟩), vI ((of f : Nat) : Int)] W fun e w' => ∃ v', e = .returned v' ∧ IOwn w' W.heap.size v' (zL (cleX fs.length n2 of (clX fs) (of f))) ∧ Fr (fun _ => False) W w') := fun W fW => callees_any (of f) (HG1.out W fW) hof (by omega) (by omega)
              have HC2 : Hd (∀ W, Fr (fun _ => False) w9 W → Calls Tryd.prog 14 #[.pointer (some ⟨b2, 0, none⟩), vI ((of2 (tw f) : Nat) : Int)] W fun e w' => ∃ v', e = .returned v' ∧ IOwn w' W.heap.size v' (zL (cleX fs.length n2 of2 (clX fs') (of2 (tw f)))) ∧ Fr (fun _ => False) W w') := fun W fW => callees_any (of2 (tw f)) (HG2.out W fW) hof2 (by omega) (by omega)
              obtain ⟨bb, hbb⟩ : ∃ bb, bb = decide (of h ∈ cleX fs.length n2 of (clX fs) (of f)) := ⟨_, rfl⟩
              have hbb2 : decide (of2 (tw h) ∈ cleX fs.length n2 of2 (clX fs') (of2 (tw f))) = bb := by
                rw [hbb, decide_eq_decide]
                exact (HREN.out.1.calls HREN.out.2.1 HREN.out.2.2 HLF.out hlth).symm
              have HH1 : Hd (∀ W v, IA W v (zL (cleX fs.length n2 of (clX fs) (of f))) → Calls Tryd.prog 23 #[v, vI ((of h : Nat) : Int)] W fun e w' => e = .returned (.bool bb) ∧ w' = W) := fun W v hv => by
                have := has_any v (cleX fs.length n2 of (clX fs) (of f)) (of h) W hv (by
                  have := len_le (cleX_rise (N := fs.length) (n := n2) (of := of) (cl := clX fs) (of f)) (fun x hx => (mem_cleX.1 hx).1)
                  omega)
                rw [← hbb] at this
                exact this
              have HH2 : Hd (∀ W v, IA W v (zL (cleX fs.length n2 of2 (clX fs') (of2 (tw f)))) → Calls Tryd.prog 23 #[v, vI ((of2 (tw h) : Nat) : Int)] W fun e w' => e = .returned (.bool bb) ∧ w' = W) := fun W v hv => by
                have := has_any v (cleX fs.length n2 of2 (clX fs') (of2 (tw f))) (of2 (tw h)) W hv (by
                  have := len_le (cleX_rise (N := fs.length) (n := n2) (of := of2) (cl := clX fs') (of2 (tw f))) (fun x hx => (mem_cleX.1 hx).1)
                  omega)
                rw [hbb2] at this
                exact this
              have hsame := HREN.out.1.same HREN.out.2.1 HREN.out.2.2 HLF.out hlth
              obtain ⟨sb, hsb⟩ : ∃ sb, sb = decide (of f = of h) := ⟨_, rfl⟩
              have s1 : ((of f : Int) == (of h : Int)) = sb := by rw [hsb, Bool.eq_iff_iff]; simp; omega
              have s2 : ((of2 (tw f) : Int) == (of2 (tw h) : Int)) = sb := by rw [hsb, Bool.eq_iff_iff]; simp; rw [hsame]; omega
              have s1d : decide (of f = of h) = sb := hsb.symm
              have s2d : decide (of2 (tw f) = of2 (tw h)) = sb := by rw [hsb, decide_eq_decide]; exact hsame.symm
              have HTF : Hd (∀ W, Fr (fun _ => False) w9 W → W.cell? ⟨tg, f, none⟩ = some (vI (tw f : Nat)) ∧ W.cell? ⟨tg, h, none⟩ = some (vI (tw h : Nat))) := fun W fW => ⟨HT7.out W fW f HLF.out, HT7.out W fW h hlth⟩
              generalize zL (cleX fs.length n2 of (clX fs) (of f)) = l1 at *
              generalize zL (cleX fs.length n2 of2 (clX fs') (of2 (tw f))) = l2 at *
              generalize of f = A at *
              generalize of h = B at *
              generalize of2 (tw f) = A2 at *
              generalize of2 (tw h) = B2 at *
              clear hbb hbb2 hsame hsb hof hof2 hlth
              go_wp2_with fail
              refine Calls.mono (HO1.out wr HF.out) ?_
              rintro e wx ⟨rfl, rfl⟩
              go_wp2_with fail
              refine Calls.mono (HC1.out wx HF.out) ?_
              rintro e wy ⟨vy, rfl, hoy, hFy⟩
              have HFY : Hd (Fr (fun _ => False) w9 wy) := HF.out.trans hFy
              have HHY : Hd (Calls Tryd.prog 23 #[vy, vI (B : Int)] wy fun e w' => e = .returned (.bool bb) ∧ w' = wy) := HH1.out wy vy hoy.ia
              clear hoy hFy HC1 HH1 HF
              go_wp2_with fail
              refine Calls.mono (HO2.out wy HFY.out) ?_
              rintro e wz ⟨rfl, rfl⟩
              go_wp2_with fail
              refine Calls.mono HHY.out ?_
              rintro e wv ⟨rfl, rfl⟩
              clear HHY
              go_upto_region 29 with fail
              refine wp_region_held_drew (S := fun W => Fr (fun _ => False) w9 W) (by kernel_rfl) (HFY.out.drew) (fun hHeld => ?_)
              refine heldTake (i := 0) 147 (v := ?_) rfl rfl (by kernel_rfl) (by kernel_rfl) (by kernel_rfl) (fun _ _ _ h => h) (by kernel_rfl) (fun w hSw => (by obtain ⟨q0, q1⟩ := HTF.out w hSw; go_simp; try with_reducible rfl)) hHeld ?_
              simp only [Act.put, List.setIfInBounds_toArray, List.set_cons_zero, List.set_cons_succ]
              refine heldTake (i := 1) 148 (v := ?_) rfl rfl (by kernel_rfl) (by kernel_rfl) (by kernel_rfl) (fun _ _ _ h => h) (by kernel_rfl) (fun w hSw => (by obtain ⟨q0, q1⟩ := HTF.out w hSw; go_simp; try with_reducible rfl)) hHeld ?_
              simp only [Act.put, List.setIfInBounds_toArray, List.set_cons_zero, List.set_cons_succ]
              refine heldTake (i := 2) 149 (v := ?_) rfl rfl (by kernel_rfl) (by kernel_rfl) (by kernel_rfl) (fun _ _ _ h => h) (by kernel_rfl) (fun w hSw => (by obtain ⟨q0, q1⟩ := HTF.out w hSw; go_simp; try with_reducible rfl)) hHeld ?_
              simp only [Act.put, List.setIfInBounds_toArray, List.set_cons_zero, List.set_cons_succ]
              refine heldTake (i := 3) 150 (v := ?_) rfl rfl (by kernel_rfl) (by kernel_rfl) (by kernel_rfl) (fun _ _ _ h => h) (by kernel_rfl) (fun w hSw => (by obtain ⟨q0, q1⟩ := HTF.out w hSw; go_simp; try with_reducible rfl)) hHeld ?_
              simp only [Act.put, List.setIfInBounds_toArray, List.set_cons_zero, List.set_cons_succ]
              refine heldTake (i := 4) 151 (v := ?_) rfl rfl (by kernel_rfl) (by kernel_rfl) (by kernel_rfl) (fun _ _ _ h => h) (by kernel_rfl) (fun w hSw => (by obtain ⟨q0, q1⟩ := HTF.out w hSw; go_simp; try with_reducible rfl)) hHeld ?_
              simp only [Act.put, List.setIfInBounds_toArray, List.set_cons_zero, List.set_cons_succ]
              refine heldTake (i := 5) 152 (v := ?_) rfl rfl (by kernel_rfl) (by kernel_rfl) (by kernel_rfl) (fun _ _ _ h => h) (by kernel_rfl) (fun w hSw => (by obtain ⟨q0, q1⟩ := HTF.out w hSw; go_simp; try with_reducible rfl)) hHeld ?_
              simp only [Act.put, List.setIfInBounds_toArray, List.set_cons_zero, List.set_cons_succ]
              refine heldTake (i := 8) 155 (v := ?_) rfl rfl (by kernel_rfl) (by kernel_rfl) (by kernel_rfl) (fun _ _ _ h => h) (by kernel_rfl) (fun w hSw => (by obtain ⟨q0, q1⟩ := HTF.out w hSw; go_simp; try with_reducible rfl)) hHeld ?_
              simp only [Act.put, List.setIfInBounds_toArray, List.set_cons_zero, List.set_cons_succ]
              refine heldTake (i := 9) 156 (v := ?_) rfl rfl (by kernel_rfl) (by kernel_rfl) (by kernel_rfl) (fun _ _ _ h => h) (by kernel_rfl) (fun w hSw => (by obtain ⟨q0, q1⟩ := HTF.out w hSw; go_simp; try with_reducible rfl)) hHeld ?_
              simp only [Act.put, List.setIfInBounds_toArray, List.set_cons_zero, List.set_cons_succ]
              refine heldTake (i := 10) 157 (v := ?_) rfl rfl (by kernel_rfl) (by kernel_rfl) (by kernel_rfl) (fun _ _ _ h => h) (by kernel_rfl) (fun w hSw => (by obtain ⟨q0, q1⟩ := HTF.out w hSw; go_simp; try with_reducible rfl)) hHeld ?_
              simp only [Act.put, List.setIfInBounds_toArray, List.set_cons_zero, List.set_cons_succ]
              refine heldTake (i := 11) 158 (v := ?_) rfl rfl (by kernel_rfl) (by kernel_rfl) (by kernel_rfl) (fun _ _ _ h => h) (by kernel_rfl) (fun w hSw => (by obtain ⟨q0, q1⟩ := HTF.out w hSw; go_simp; try with_reducible rfl)) hHeld ?_
              simp only [Act.put, List.setIfInBounds_toArray, List.set_cons_zero, List.set_cons_succ]
              refine heldTake (i := 12) 159 (v := ?_) rfl rfl (by kernel_rfl) (by kernel_rfl) (by kernel_rfl) (fun _ _ _ h => h) (by kernel_rfl) (fun w hSw => (by obtain ⟨q0, q1⟩ := HTF.out w hSw; go_simp; try with_reducible rfl)) hHeld ?_
              simp only [Act.put, List.setIfInBounds_toArray, List.set_cons_zero, List.set_cons_succ]
              refine heldOne (i := 6) rfl (by kernel_rfl) (fun KK hKK => ?_)
              go_simp
              go_wp2_with ((go_at_call 13; refine Calls.mono (HO3.out _ hHeld) ?_; rintro e wa1 ⟨rfl, rfl⟩))
              refine hKK.out _ _ hHeld ?_
              clear hKK KK
              refine heldOne (i := 7) rfl (by kernel_rfl) (fun KK hKK => ?_)
              go_simp
              go_wp2_with ((go_at_call 14; refine Calls.mono (HC2.out _ hHeld) ?_; rintro e wb1 ⟨vb1, rfl, hob, hFb⟩; have hHeld2 : Fr (fun _ => False) w9 wb1 := hHeld.trans hFb; have HHB : Hd (Calls Tryd.prog 23 #[vb1, vI (B2 : Int)] wb1 fun e w' => e = .returned (.bool bb) ∧ w' = wb1) := HH2.out wb1 vb1 hob.ia; clear hob hFb hHeld))
              refine hKK.out _ _ hHeld2 ?_
              clear hKK KK
              have hHeld := hHeld2
              clear hHeld2
              refine heldOne (i := 13) rfl (by kernel_rfl) (fun KK hKK => ?_)
              go_simp
              go_wp2_with ((go_at_call 13; refine Calls.mono (HO4.out _ hHeld) ?_; rintro e wc1 ⟨rfl, rfl⟩))
              refine hKK.out _ _ hHeld ?_
              clear hKK KK
              refine heldOne (i := 14) rfl (by kernel_rfl) (fun KK hKK => ?_)
              go_simp
              go_wp2_with ((go_at_call 23; refine Calls.mono (HHB.out) ?_; rintro e wd1 ⟨rfl, rfl⟩))
              refine hKK.out _ _ hHeld ?_
              clear hKK KK
              refine heldTake (i := 15) 17 (v := ?_) rfl rfl (by kernel_rfl) (by kernel_rfl) (by kernel_rfl) (fun _ _ _ h => h) (by kernel_rfl) (fun w hSw => (by obtain ⟨q0, q1⟩ := HTF.out w hSw; go_simp; try with_reducible rfl)) hHeld ?_
              simp only [Act.put, List.setIfInBounds_toArray, List.set_cons_zero, List.set_cons_succ]
              refine wpAnyH_done (by kernel_rfl) ?_ _
              have HFD : Hd (Fr (fun _ => False) w9 wd1) := hHeld
              clear hHeld HHB HC2 HH2
              have bn : (bb != bb) = false := by simp
              have sn : (sb != sb) = false := by simp
              go_upto_region 30 with fail
              refine wp_region_held_drew (S := fun W => Fr (fun _ => False) w9 W) (by kernel_rfl) (HFD.out.drew) (fun hHeld => ?_)
              refine heldTake (i := 0) 162 (v := ?_) rfl rfl (by kernel_rfl) (by kernel_rfl) (by kernel_rfl) (fun _ _ _ h => h) (by kernel_rfl) (fun w hSw => (by obtain ⟨q0, q1⟩ := HTF.out w hSw; go_simp; try with_reducible rfl)) hHeld ?_
              simp only [Act.put, List.setIfInBounds_toArray, List.set_cons_zero, List.set_cons_succ]
              refine heldTake (i := 1) 163 (v := ?_) rfl rfl (by kernel_rfl) (by kernel_rfl) (by kernel_rfl) (fun _ _ _ h => h) (by kernel_rfl) (fun w hSw => (by obtain ⟨q0, q1⟩ := HTF.out w hSw; go_simp; try with_reducible rfl)) hHeld ?_
              simp only [Act.put, List.setIfInBounds_toArray, List.set_cons_zero, List.set_cons_succ]
              refine heldTake (i := 2) 164 (v := ?_) rfl rfl (by kernel_rfl) (by kernel_rfl) (by kernel_rfl) (fun _ _ _ h => h) (by kernel_rfl) (fun w hSw => (by obtain ⟨q0, q1⟩ := HTF.out w hSw; go_simp; try with_reducible rfl)) hHeld ?_
              simp only [Act.put, List.setIfInBounds_toArray, List.set_cons_zero, List.set_cons_succ]
              refine heldTake (i := 3) 165 (v := ?_) rfl rfl (by kernel_rfl) (by kernel_rfl) (by kernel_rfl) (fun _ _ _ h => h) (by kernel_rfl) (fun w hSw => (by obtain ⟨q0, q1⟩ := HTF.out w hSw; go_simp; try with_reducible rfl)) hHeld ?_
              simp only [Act.put, List.setIfInBounds_toArray, List.set_cons_zero, List.set_cons_succ]
              refine heldTake (i := 4) 166 (v := ?_) rfl rfl (by kernel_rfl) (by kernel_rfl) (by kernel_rfl) (fun _ _ _ h => h) (by kernel_rfl) (fun w hSw => (by obtain ⟨q0, q1⟩ := HTF.out w hSw; go_simp; try with_reducible rfl)) hHeld ?_
              simp only [Act.put, List.setIfInBounds_toArray, List.set_cons_zero, List.set_cons_succ]
              refine heldTake (i := 5) 167 (v := ?_) rfl rfl (by kernel_rfl) (by kernel_rfl) (by kernel_rfl) (fun _ _ _ h => h) (by kernel_rfl) (fun w hSw => (by obtain ⟨q0, q1⟩ := HTF.out w hSw; go_simp; try with_reducible rfl)) hHeld ?_
              simp only [Act.put, List.setIfInBounds_toArray, List.set_cons_zero, List.set_cons_succ]
              refine heldTake (i := 7) 169 (v := ?_) rfl rfl (by kernel_rfl) (by kernel_rfl) (by kernel_rfl) (fun _ _ _ h => h) (by kernel_rfl) (fun w hSw => (by obtain ⟨q0, q1⟩ := HTF.out w hSw; go_simp; try with_reducible rfl)) hHeld ?_
              simp only [Act.put, List.setIfInBounds_toArray, List.set_cons_zero, List.set_cons_succ]
              refine heldTake (i := 8) 170 (v := ?_) rfl rfl (by kernel_rfl) (by kernel_rfl) (by kernel_rfl) (fun _ _ _ h => h) (by kernel_rfl) (fun w hSw => (by obtain ⟨q0, q1⟩ := HTF.out w hSw; go_simp; try with_reducible rfl)) hHeld ?_
              simp only [Act.put, List.setIfInBounds_toArray, List.set_cons_zero, List.set_cons_succ]
              refine heldTake (i := 11) 173 (v := ?_) rfl rfl (by kernel_rfl) (by kernel_rfl) (by kernel_rfl) (fun _ _ _ h => h) (by kernel_rfl) (fun w hSw => (by obtain ⟨q0, q1⟩ := HTF.out w hSw; go_simp; try with_reducible rfl)) hHeld ?_
              simp only [Act.put, List.setIfInBounds_toArray, List.set_cons_zero, List.set_cons_succ]
              refine heldTake (i := 12) 174 (v := ?_) rfl rfl (by kernel_rfl) (by kernel_rfl) (by kernel_rfl) (fun _ _ _ h => h) (by kernel_rfl) (fun w hSw => (by obtain ⟨q0, q1⟩ := HTF.out w hSw; go_simp; try with_reducible rfl)) hHeld ?_
              simp only [Act.put, List.setIfInBounds_toArray, List.set_cons_zero, List.set_cons_succ]
              refine heldTake (i := 13) 175 (v := ?_) rfl rfl (by kernel_rfl) (by kernel_rfl) (by kernel_rfl) (fun _ _ _ h => h) (by kernel_rfl) (fun w hSw => (by obtain ⟨q0, q1⟩ := HTF.out w hSw; go_simp; try with_reducible rfl)) hHeld ?_
              simp only [Act.put, List.setIfInBounds_toArray, List.set_cons_zero, List.set_cons_succ]
              refine heldTake (i := 14) 176 (v := ?_) rfl rfl (by kernel_rfl) (by kernel_rfl) (by kernel_rfl) (fun _ _ _ h => h) (by kernel_rfl) (fun w hSw => (by obtain ⟨q0, q1⟩ := HTF.out w hSw; go_simp; try with_reducible rfl)) hHeld ?_
              simp only [Act.put, List.setIfInBounds_toArray, List.set_cons_zero, List.set_cons_succ]
              refine heldTake (i := 15) 177 (v := ?_) rfl rfl (by kernel_rfl) (by kernel_rfl) (by kernel_rfl) (fun _ _ _ h => h) (by kernel_rfl) (fun w hSw => (by obtain ⟨q0, q1⟩ := HTF.out w hSw; go_simp; try with_reducible rfl)) hHeld ?_
              simp only [Act.put, List.setIfInBounds_toArray, List.set_cons_zero, List.set_cons_succ]
              refine heldTake (i := 17) 179 (v := ?_) rfl rfl (by kernel_rfl) (by kernel_rfl) (by kernel_rfl) (fun _ _ _ h => h) (by kernel_rfl) (fun w hSw => (by obtain ⟨q0, q1⟩ := HTF.out w hSw; go_simp; try with_reducible rfl)) hHeld ?_
              simp only [Act.put, List.setIfInBounds_toArray, List.set_cons_zero, List.set_cons_succ]
              refine heldTake (i := 18) 180 (v := ?_) rfl rfl (by kernel_rfl) (by kernel_rfl) (by kernel_rfl) (fun _ _ _ h => h) (by kernel_rfl) (fun w hSw => (by obtain ⟨q0, q1⟩ := HTF.out w hSw; go_simp; try with_reducible rfl)) hHeld ?_
              simp only [Act.put, List.setIfInBounds_toArray, List.set_cons_zero, List.set_cons_succ]
              refine heldTake (i := 19) 181 (v := ?_) rfl rfl (by kernel_rfl) (by kernel_rfl) (by kernel_rfl) (fun _ _ _ h => h) (by kernel_rfl) (fun w hSw => (by obtain ⟨q0, q1⟩ := HTF.out w hSw; go_simp; try with_reducible rfl)) hHeld ?_
              simp only [Act.put, List.setIfInBounds_toArray, List.set_cons_zero, List.set_cons_succ]
              refine heldTake (i := 20) 182 (v := ?_) rfl rfl (by kernel_rfl) (by kernel_rfl) (by kernel_rfl) (fun _ _ _ h => h) (by kernel_rfl) (fun w hSw => (by obtain ⟨q0, q1⟩ := HTF.out w hSw; go_simp; try with_reducible rfl)) hHeld ?_
              simp only [Act.put, List.setIfInBounds_toArray, List.set_cons_zero, List.set_cons_succ]
              refine heldTake (i := 21) 183 (v := ?_) rfl rfl (by kernel_rfl) (by kernel_rfl) (by kernel_rfl) (fun _ _ _ h => h) (by kernel_rfl) (fun w hSw => (by obtain ⟨q0, q1⟩ := HTF.out w hSw; go_simp; try with_reducible rfl)) hHeld ?_
              simp only [Act.put, List.setIfInBounds_toArray, List.set_cons_zero, List.set_cons_succ]
              refine heldOne (i := 6) rfl (by kernel_rfl) (fun KK hKK => ?_)
              go_simp
              go_wp2_with ((go_at_call 13; refine Calls.mono (HO1.out _ hHeld) ?_; rintro e wa1 ⟨rfl, rfl⟩))
              refine hKK.out _ _ hHeld ?_
              clear hKK KK
              refine heldOne (i := 9) rfl (by kernel_rfl) (fun KK hKK => ?_)
              go_simp
              go_wp2_with ((go_at_call 13; refine Calls.mono (HO2.out _ hHeld) ?_; rintro e wb1 ⟨rfl, rfl⟩))
              refine hKK.out _ _ hHeld ?_
              clear hKK KK
              refine heldTake (i := 10) 172 (v := ?_) rfl rfl (by kernel_rfl) (by kernel_rfl) (by kernel_rfl) (fun _ _ _ h => h) (by kernel_rfl) (fun w hSw => (by obtain ⟨q0, q1⟩ := HTF.out w hSw; go_simp; try with_reducible rfl)) hHeld ?_
              simp only [Act.put, List.setIfInBounds_toArray, List.set_cons_zero, List.set_cons_succ]
              refine heldOne (i := 16) rfl (by kernel_rfl) (fun KK hKK => ?_)
              go_simp
              go_wp2_with ((go_at_call 13; refine Calls.mono (HO3.out _ hHeld) ?_; rintro e wc1 ⟨rfl, rfl⟩))
              refine hKK.out _ _ hHeld ?_
              clear hKK KK
              refine heldOne (i := 22) rfl (by kernel_rfl) (fun KK hKK => ?_)
              go_simp
              go_wp2_with ((go_at_call 13; refine Calls.mono (HO4.out _ hHeld) ?_; rintro e wd2 ⟨rfl, rfl⟩))
              refine hKK.out _ _ hHeld ?_
              clear hKK KK
              refine heldTake (i := 23) 185 (v := ?_) rfl rfl (by kernel_rfl) (by kernel_rfl) (by kernel_rfl) (fun _ _ _ h => h) (by kernel_rfl) (fun w hSw => (by obtain ⟨q0, q1⟩ := HTF.out w hSw; go_simp; try with_reducible rfl)) hHeld ?_
              simp only [Act.put, List.setIfInBounds_toArray, List.set_cons_zero, List.set_cons_succ]
              refine heldTake (i := 24) 186 (v := ?_) rfl rfl (by kernel_rfl) (by kernel_rfl) (by kernel_rfl) (fun _ _ _ h => h) (by kernel_rfl) (fun w hSw => (by obtain ⟨q0, q1⟩ := HTF.out w hSw; go_simp; try with_reducible rfl)) hHeld ?_
              simp only [Act.put, List.setIfInBounds_toArray, List.set_cons_zero, List.set_cons_succ]
              refine heldTake (i := 25) 187 (v := ?_) rfl rfl (by kernel_rfl) (by kernel_rfl) (by kernel_rfl) (fun _ _ _ h => h) (by kernel_rfl) (fun w hSw => (by obtain ⟨q0, q1⟩ := HTF.out w hSw; go_simp; try with_reducible rfl)) hHeld ?_
              simp only [Act.put, List.setIfInBounds_toArray, List.set_cons_zero, List.set_cons_succ]
              refine wpAnyH_done (by kernel_rfl) ?_ _
              have HFE2 : Hd (Fr (fun _ => False) w9 _) := hHeld
              clear hHeld HO1 HO2 HO3 HO4 HTF
              go_wp2_with fail
              go_roundw
              case measure => simp; omega
              case rel => exact ⟨h + 1, by simp, by omega, HFE2.out⟩
            · have d2 : decide ((h : Int) < (fs.length : Int)) = false := by simp; omega
              have d2n : ¬ h < fs.length := hlth
              have HFz : Hd (Fr (fun _ => False) w9 wr) := HF.out
              clear hlth HF
              go_wp2_with fail
              go_roundw
              case measure => have := HLF.out; simp; omega
              case rel => exact ⟨f + 1, by simp, by have := HLF.out; omega, HFz.out⟩
        · have d1 : decide ((f : Int) < (fs.length : Int)) = false := by simp; omega
          have d1n : ¬ f < fs.length := hlt
          have HEND : Hd (Fr (fun _ => False) w wr) := HFZ.out.2.trans HF.out
          clear hlt HF
          go_wp2_with fail
          go_ret
          exact ⟨rfl, HEND.out⟩
end Go.Proofs.YtjmbfjaahadbhaaDoor
