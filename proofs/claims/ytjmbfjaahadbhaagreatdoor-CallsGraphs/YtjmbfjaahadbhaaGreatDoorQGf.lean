import Derived.Test.YtjmbfjaahadbhaaGreatDoorQGdJ
set_option linter.unusedVariables false
set_option linter.unusedSimpArgs false
namespace Go.Proofs.YtjmbfjaahadbhaaGreatDoor
open Go.RowKit (wrap32 wrap64)

theorem LB.row {B0 N ck co cc : Nat} {cl : Nat → List Nat} {w : World} (h : LB B0 w (.slice (some ⟨ck, co, none⟩) N cc) (zLs N cl)) {f : Nat} (hf : f < N) :
    ∃ ua uc, w.cell? ⟨ck, co + f, none⟩ = some (.slice ua (cl f).length uc) ∧ ∀ (i z : Nat), (cl f)[i]? = some z → ∃ uk uo, ua = some ⟨uk, uo, none⟩ ∧ w.cell? ⟨uk, uo + i, none⟩ = some (vI (z : Int)) := by
  obtain ⟨a, c, e, h⟩ := h
  have hne : zLs N cl ≠ [] := fun e => by
    have := congrArg List.length e
    simp at this
    omega
  obtain ⟨k, o, e2, -, h⟩ := h hne
  rw [e2] at e
  injection e with e1 e3 e4
  injection e1 with e1
  injection e1 with e5 e6
  subst e5 e6
  obtain ⟨u, u1, a2, c2, rfl, h2⟩ := h f (by simpa using hf)
  have ez : (zLs N cl)[f]'(by simpa using hf) = zL (cl f) := by simp
  rw [ez] at h2
  refine ⟨a2, c2, ?_, fun i z hz => ?_⟩
  · rw [u1, ez]; simp
  · have hi : i < (cl f).length := by
      by_cases e : i < (cl f).length
      · exact e
      · rw [List.getElem?_eq_none (by omega)] at hz; cases hz
    obtain ⟨k2, o2, e7, -, h3⟩ := h2 (fun e => by have := congrArg List.length e; rw [List.length_map, List.length_nil] at this; omega)
    refine ⟨k2, o2, e7, ?_⟩
    rw [h3 i (by simpa using hi)]
    rw [List.getElem?_eq_getElem hi] at hz
    injection hz with hz
    simp [hz]
theorem LB.some {B0 N : Nat} {clv : Value} {cl : Nat → List Nat} {w : World} (h : LB B0 w clv (zLs N cl)) (hN : 0 < N) : ∃ ck co cc, clv = .slice (some ⟨ck, co, none⟩) N cc := by
  obtain ⟨a, c, e, h⟩ := h
  obtain ⟨k, o, e2, -, -⟩ := h (fun e => by have := congrArg List.length e; simp at this; omega)
  exact ⟨k, o, c, by rw [e, e2]; simp⟩
/-- What from leaves. -/
def FmE (B0 B b go gm gl gn N : Nat) (cl : Nat → List Nat) (clv : Value) (met : Nat → Nat) (first : Nat) (w : World) (e : Ending) (w' : World) : Prop :=
  e = .returned (.tuple #[]) ∧ (∃ of' met' low' nxt' count' steps', Se w' B0 B b go gm gl gn N cl clv of' met' low' nxt' [] [] count' steps' ∧ met' first ≠ 0 ∧ ∀ x, met x ≠ 0 → met' x ≠ 0) ∧ Fr (fun k => B0 ≤ k) w w'
/-- Between two rounds of from. -/
def Fm (w0 : World) (B0 B b go gm gl gn N : Nat) (cl : Nat → List Nat) (clv : Value) (met0 : Nat → Nat) (first : Nat) (wr : World) (met low nxt : Nat → Nat) (path : List Nat) (steps : Nat) : Prop :=
  (∃ of opn count, Se wr B0 B b go gm gl gn N cl clv of met low nxt path opn count steps) ∧ Fr (fun k => B0 ≤ k) w0 wr ∧ met first ≠ 0 ∧ ∀ x, met0 x ≠ 0 → met x ≠ 0
theorem Se.stay {w w' : World} {B0 B b go gm gl gn N : Nat} {cl : Nat → List Nat} {clv : Value} {of : Nat → Int} {met low nxt : Nat → Nat} {path opn : List Nat} {count steps : Nat} (h : Se w B0 B b go gm gl gn N cl clv of met low nxt path opn count steps) (f : Fr (fun _ => False) w w') : Se w' B0 B b go gm gl gn N cl clv of met low nxt path opn count steps := by
  obtain ⟨⟨pv, ov, h1⟩, h2, h3, b1, b2, b3, b4, b5, b6, b7⟩ := h
  exact ⟨⟨pv, ov, h1.stay f⟩, h2.fr (by omega) f (fun _ _ e => e), h3, b1, b2, b3, b4, b5, b6, Nat.le_trans b7 f.size⟩
theorem drewN_fr (w : World) (n : Nat) : Fr (fun _ => False) w (w.drewN n) := ⟨rfl, rfl, rfl, Nat.le_refl _, fun _ _ _ => rfl⟩

set_option maxRecDepth 100000 in
set_option maxHeartbeats 8000000 in
theorem from_any {B0 B b go gm gl gn N : Nat} {cl : Nat → List Nat} {clv : Value} {of : Nat → Int} {met low nxt : Nat → Nat} {count steps : Nat} (first : Nat) (w : World) (h : Se w B0 B b go gm gl gn N cl clv of met low nxt [] [] count steps) (hf : first < N) (h0 : met first = 0) (hcl : ∀ x, x < N → ∀ z ∈ cl x, z < N) (hll : ∀ x, x < N → (cl x).length ≤ 1000000000) (hN : N ≤ 1000000) :
    Calls Tryz.prog 43 #[.pointer (some ⟨b, 0, none⟩), vI (first : Int)] w (FmE B0 B b go gm gl gn N cl clv met first w) := by
  have HEN : Hd (Calls Tryz.prog 66 #[.pointer (some ⟨b, 0, none⟩), vI (first : Int)] w (EnE B0 B b go gm gl gn N cl clv of met low nxt [] [] count steps first w)) := senter_any first w h hf h0 (by simp) hN
  obtain ⟨ck, co, cc, eclv⟩ := h.la.some (by omega)
  subst eclv
  have HCL : Hd (∀ x, x < N → ∀ z ∈ cl x, z < N) := hcl
  have HLL : Hd (∀ x, x < N → (cl x).length ≤ 1000000000) := hll
  have HST : Hd (steps < N) := h.ti.lt hf h0
  clear h hcl hll
  go_enter Tryz.func43, Tryz.ntmps43
  go_wp2_with fail
  go_step3
  go_wp2_with fail
  refine Calls.mono HEN.out ?_
  rintro e w1 ⟨rfl, hS1, hF1⟩
  have HS1 : Hd (Fm w B0 B b go gm gl gn N cl (.slice (some ⟨ck, co, none⟩) N cc) met first w1 (Wg.upd met first (steps + 1)) (Wg.upd low first (steps + 1)) nxt [first] (steps + 1)) := by
    refine ⟨⟨_, _, _, hS1⟩, hF1, by rw [Wg.upd_same]; omega, fun x hx => ?_⟩
    by_cases e : x = first
    · rw [e, Wg.upd_same]; omega
    · rw [Wg.upd_ne _ _ e]; exact hx
  clear hS1 hF1 HEN h0
  go_wp2_with fail
  go_step3
  go_wp2_with fail
  go_loopg [] (2 * (N - (steps + 1)) + 1) (fun gg wr => ∃ (met1 low1 nxt1 : Nat → Nat) (path1 : List Nat) (steps1 : Nat), Hd (Fm w B0 B b go gm gl gn N cl (.slice (some ⟨ck, co, none⟩) N cc) met first wr met1 low1 nxt1 path1 steps1) ∧ Hd (2 * (N - steps1) + path1.length = gg))
  case atStart => exact ⟨_, _, _, _, _, HS1.out, rfl⟩
  case round =>
    clear HS1
    obtain ⟨met1, low1, nxt1, path1, steps1, HS, HG⟩ := hrel
    rcases List.eq_nil_or_concat path1 with hp | ⟨r, f, hp⟩
    · subst hp
      obtain ⟨⟨of1, opn1, count1, hs1⟩, hF1, hm1, hm2⟩ := HS.out
      obtain ⟨⟨pv, ov, hsc⟩, -⟩ := id hs1
      obtain ⟨pa, pc, epv⟩ := iown_cap hsc.rp
      have epv2 : pv = .slice pa 0 pc := epv
      have c6 : wr.cell? ⟨b, 6, none⟩ = some (.slice pa 0 pc) := by rw [cell_of0 hsc.blk, ← epv2]; rfl
      have HE : Hd (FmE B0 B b go gm gl gn N cl (.slice (some ⟨ck, co, none⟩) N cc) met first w (.returned (.tuple #[])) wr) := by
        have e := hs1.ti.done
        subst e
        exact ⟨rfl, ⟨of1, met1, low1, nxt1, count1, steps1, hs1, hm1, hm2⟩, hF1⟩
      clear hs1 hF1 hm1 hm2 hsc epv epv2 HS HG
      go_wp2_with fail
      go_end0
      exact HE.out
    · rw [List.concat_eq_append] at hp
      subst hp
      obtain ⟨⟨of1, opn1, count1, hs1⟩, hF1, hm1, hm2⟩ := HS.out
      have hfo : f ∈ opn1 := hs1.ti.po f (by simp)
      have hfm := (hs1.ti.om f).1 hfo
      have hfN : f < N := hs1.ti.mN f hfm.1
      have hrl : (r ++ [f]).length ≤ N := nodup_le (hs1.ti.ps.imp (fun h e => by rw [e] at h; omega)) (fun x hx => hs1.ti.mN x ((hs1.ti.om x).1 (hs1.ti.po x hx)).1)
      rw [List.length_append, List.length_singleton] at hrl
      obtain ⟨⟨pv, ov, hsc⟩, -⟩ := id hs1
      obtain ⟨gp, pc, epv, -, hpcell⟩ := iown_some hsc.rp (by simp)
      have hplen : (zL (r ++ [f])).length = r.length + 1 := by simp
      rw [hplen] at epv
      have c6 : wr.cell? ⟨b, 6, none⟩ = some (.slice (some ⟨gp, 0, none⟩) (r.length + 1) pc) := by rw [cell_of0 hsc.blk, ← epv]; rfl
      have pl : wr.cell? ⟨gp, r.length, none⟩ = some (vI (f : Int)) := by
        rw [hpcell r.length (by rw [hplen]; omega)]
        simp
      have HSI : Hd (∃ of opn count, Se wr B0 B b go gm gl gn N cl (.slice (some ⟨ck, co, none⟩) N cc) of met1 low1 nxt1 (r ++ [f]) opn count steps1) := ⟨_, _, _, hs1⟩
      have HFI : Hd (Fr (fun k => B0 ≤ k) w wr ∧ met1 first ≠ 0 ∧ ∀ x, met x ≠ 0 → met1 x ≠ 0) := ⟨hF1, hm1, hm2⟩
      have q1 : ((r.length + 1 : Nat) : Int) - 1 = (r.length : Int) := by omega
      have q0 : (0 : Int) ≤ (r.length : Int) := by omega
      have q2 : (r.length : Int) < ((r.length + 1 : Nat) : Int) := by omega
      have q3 : (r.length : Int) < (r.length : Int) + 1 := by omega
      have q5 : decide (((r.length + 1 : Nat) : Int) > 0) = true := by simp
      have q6 : decide ((0 : Int) < ((r.length + 1 : Nat) : Int)) = true := by simp
      have q7 : decide ((0 : Int) < (r.length : Int) + 1) = true := by simp <;> omega
      clear hs1 hF1 hm1 hm2 hsc epv hpcell HS hplen hfo hfm
      go_upto_region 2 with fail
      go_quiet (fail)
      obtain ⟨wi, hwi⟩ : ∃ wi, wi = wr.drewN nq := ⟨_, rfl⟩
      have fW : Fr (fun _ => False) wr wi := by rw [hwi]; exact drewN_fr _ _
      have HSI2 : Hd (∃ of opn count, Se wi B0 B b go gm gl gn N cl (.slice (some ⟨ck, co, none⟩) N cc) of met1 low1 nxt1 (r ++ [f]) opn count steps1) := by
        obtain ⟨x1, x2, x3, x4⟩ := HSI.out
        exact ⟨x1, x2, x3, x4.stay fW⟩
      have HFI2 : Hd (Fr (fun k => B0 ≤ k) w wi ∧ met1 first ≠ 0 ∧ ∀ x, met x ≠ 0 → met1 x ≠ 0) := ⟨HFI.out.1.trans (fW.mono (fun _ _ e => e.elim)), HFI.out.2⟩
      rw [← hwi]
      clear hwi fW HSI HFI c6 pl q1 q2 q3 q5 q6 q7
      go_wp2_with fail
      obtain ⟨go_, hgo⟩ : ∃ x, x = gk := ⟨_, rfl⟩
      have HGO : Hd (go_ = gk) := hgo
      clear hgo
      have hfl := HLL.out f hfN
      go_loopg [] ((cl f).length - nxt1 f) (fun gg wr => ∃ (low2 nxt2 : Nat → Nat), Hd (∃ of opn count, Se wr B0 B b go gm gl gn N cl (.slice (some ⟨ck, co, none⟩) N cc) of met1 low2 nxt2 (r ++ [f]) opn count steps1) ∧ Hd (Fr (fun k => B0 ≤ k) w wr ∧ met1 first ≠ 0 ∧ ∀ x, met x ≠ 0 → met1 x ≠ 0) ∧ Hd ((cl f).length - nxt2 f = gg))
      case atStart => exact ⟨_, _, HSI2.out, HFI2.out, rfl⟩
      case round =>
        clear HSI2 HFI2
        obtain ⟨low2, nxt2, HS, HF, HG2⟩ := hrel
        obtain ⟨of2, opn2, count2, hs2⟩ := HS.out
        have hnl := hs2.ti.nl f
        have c5 : wr.cell? ⟨b, 5, none⟩ = some (.slice (some ⟨gn, 0, none⟩) N N) := by obtain ⟨⟨_, _, k⟩, -⟩ := id hs2; rw [cell_of0 k.blk]; rfl
        have c0 : wr.cell? ⟨b, 0, none⟩ = some (.slice (some ⟨ck, co, none⟩) N cc) := by obtain ⟨⟨_, _, k⟩, -⟩ := id hs2; rw [cell_of0 k.blk]; rfl
        have pn : wr.cell? ⟨gn, f, none⟩ = some (vI (nxt2 f : Int)) := by obtain ⟨⟨_, _, k⟩, -⟩ := id hs2; exact k.rnx.cell hfN
        obtain ⟨ua, uc, pu, hu⟩ := hs2.la.row hfN
        have f0 : (0 : Int) ≤ f := by omega
        have f1 : (f : Int) < N := by omega
        by_cases hlt : nxt2 f < (cl f).length
        · have d1 : decide ((nxt2 f : Int) < ((cl f).length : Int)) = true := by simp; omega
          have HLT : Hd (nxt2 f < (cl f).length) := hlt
          clear hlt hs2 hu
          go_upto_region 3 with fail
          go_quiet (fail)
          obtain ⟨W, hW⟩ : ∃ W, W = wr.drewN nq := ⟨_, rfl⟩
          have fW : Fr (fun _ => False) wr W := by rw [hW]; exact drewN_fr _ _
          rw [← hW]
          have HS3 : Hd (∃ of opn count, Se W B0 B b go gm gl gn N cl (.slice (some ⟨ck, co, none⟩) N cc) of met1 low2 nxt2 (r ++ [f]) opn count steps1) := by
            obtain ⟨x1, x2, x3, x4⟩ := HS.out
            exact ⟨x1, x2, x3, x4.stay fW⟩
          have HF3 : Hd (Fr (fun k => B0 ≤ k) w W ∧ met1 first ≠ 0 ∧ ∀ x, met x ≠ 0 → met1 x ≠ 0) := ⟨HF.out.1.trans (fW.mono (fun _ _ e => e.elim)), HF.out.2⟩
          clear hW fW HS HF c5 c0 pn pu
          obtain ⟨of3, opn3, count3, hs3⟩ := HS3.out
          obtain ⟨g, hg⟩ : ∃ g, (cl f)[nxt2 f]? = some g := ⟨_, List.getElem?_eq_getElem HLT.out⟩
          have hgN : g < N := HCL.out f hfN g (List.mem_of_getElem? hg)
          have c5 : W.cell? ⟨b, 5, none⟩ = some (.slice (some ⟨gn, 0, none⟩) N N) := by obtain ⟨⟨_, _, k⟩, -⟩ := id hs3; rw [cell_of0 k.blk]; rfl
          have c0 : W.cell? ⟨b, 0, none⟩ = some (.slice (some ⟨ck, co, none⟩) N cc) := by obtain ⟨⟨_, _, k⟩, -⟩ := id hs3; rw [cell_of0 k.blk]; rfl
          have pn : W.cell? ⟨gn, f, none⟩ = some (vI (nxt2 f : Int)) := by obtain ⟨⟨_, _, k⟩, -⟩ := id hs3; exact k.rnx.cell hfN
          obtain ⟨ua, uc, pu, hu⟩ := hs3.la.row hfN
          obtain ⟨uk, uo, eua, pz⟩ := hu _ g hg
          subst eua
          have n0 : (0 : Int) ≤ (nxt2 f : Int) := by omega
          have n1 : (nxt2 f : Int) < ((cl f).length : Int) := by have := HLT.out; omega
          have HGG : Hd ((cl f)[nxt2 f]? = some g) := hg
          clear hs3 hu hg d1
          go_upto_region 5 with fail
          go_quiet (fail)
          obtain ⟨V, hV⟩ : ∃ V, V = W.drewN nq := ⟨_, rfl⟩
          have fV : Fr (fun _ => False) W V := by rw [hV]; exact drewN_fr _ _
          rw [← hV]
          have HS4 : Hd (∃ of opn count, Se V B0 B b go gm gl gn N cl (.slice (some ⟨ck, co, none⟩) N cc) of met1 low2 nxt2 (r ++ [f]) opn count steps1) := by
            obtain ⟨x1, x2, x3, x4⟩ := HS3.out
            exact ⟨x1, x2, x3, x4.stay fV⟩
          have HF4 : Hd (Fr (fun k => B0 ≤ k) w V ∧ met1 first ≠ 0 ∧ ∀ x, met x ≠ 0 → met1 x ≠ 0) := ⟨HF3.out.1.trans (fV.mono (fun _ _ e => e.elim)), HF3.out.2⟩
          clear hV fV HS3 HF3 c5 c0 pn pu pz
          obtain ⟨of4, opn4, count4, hs4⟩ := HS4.out
          have hmst : met1 g ≤ steps1 := hs4.ti.ms g
          have hsN : steps1 ≤ N := by have := hs4.ti.st; omega
          have c3 : V.cell? ⟨b, 3, none⟩ = some (.slice (some ⟨gm, 0, none⟩) N N) := by obtain ⟨⟨_, _, k⟩, -⟩ := id hs4; rw [cell_of0 k.blk]; rfl
          have pm : V.cell? ⟨gm, g, none⟩ = some (vI (met1 g : Int)) := by obtain ⟨⟨_, _, k⟩, -⟩ := id hs4; exact k.rme.cell hgN
          have g0 : (0 : Int) ≤ g := by omega
          have g1 : (g : Int) < N := by omega
          by_cases hm0 : met1 g = 0
          · have d2 : ((met1 g : Int) == 0) = true := by simp [hm0]
            have hst := hs4.ti.lt hgN hm0
            have HEN : Hd (Calls Tryz.prog 66 #[.pointer (some ⟨b, 0, none⟩), vI (g : Int)] V (EnE B0 B b go gm gl gn N cl (.slice (some ⟨ck, co, none⟩) N cc) of4 met1 low2 nxt2 (r ++ [f]) opn4 count4 steps1 g V)) := senter_any g V hs4 hgN hm0 (fun i p hi hl => by
              rw [List.length_append, List.length_singleton] at hl
              have ei : i = r.length := by omega
              subst ei
              simp at hi
              subst hi
              exact HGG.out) hN
            have HM0 : Hd (met1 g = 0) := hm0
            clear hs4 hm0
            go_wp2_with fail
            refine Calls.mono HEN.out ?_
            rintro e w5 ⟨rfl, hS5, hF5⟩
            have HS5 : Hd (Fm w B0 B b go gm gl gn N cl (.slice (some ⟨ck, co, none⟩) N cc) met first w5 (Wg.upd met1 g (steps1 + 1)) (Wg.upd low2 g (steps1 + 1)) nxt2 (r ++ [f] ++ [g]) (steps1 + 1)) := by
              refine ⟨⟨_, _, _, hS5⟩, HF4.out.1.trans hF5, ?_, fun x hx => ?_⟩
              · by_cases e : first = g
                · rw [e, Wg.upd_same]; omega
                · rw [Wg.upd_ne _ _ e]; exact HF4.out.2.1
              · by_cases e : x = g
                · rw [e, Wg.upd_same]; omega
                · rw [Wg.upd_ne _ _ e]; exact HF4.out.2.2 x hx
            clear hS5 hF5 HEN c3 pm d2
            go_wp2_with fail
            go_roundg (2 * (N - (steps1 + 1)) + (r ++ [f] ++ [g]).length)
            case measure =>
              have k1 := HG.out
              rw [List.length_append, List.length_singleton] at k1
              rw [List.length_append, List.length_append, List.length_singleton, List.length_singleton]
              omega
            case rel => exact ⟨_, _, _, _, _, HS5.out, rfl⟩
          · have d2 : ((met1 g : Int) == 0) = false := by simp; omega
            have c1 : V.cell? ⟨b, 1, none⟩ = some (.slice (some ⟨go, 0, none⟩) N N) := by obtain ⟨⟨_, _, k⟩, -⟩ := id hs4; rw [cell_of0 k.blk]; rfl
            have po : V.cell? ⟨go, g, none⟩ = some (vI (of4 g)) := by obtain ⟨⟨_, _, k⟩, -⟩ := id hs4; exact k.rof.cell hgN
            have hnf : nxt2 f + 1 ≤ (cl f).length := HLT.out
            have HTA : Hd (TI N cl of4 met1 (Wg.upd low2 f (if of4 g < 0 then min (low2 f) (low2 g) else low2 f)) (Wg.upd nxt2 f (nxt2 f + 1)) (r ++ [f]) opn4 count4 steps1) := hs4.ti.along HGG.out hm0
            have HS6 : Hd (Se V B0 B b go gm gl gn N cl (.slice (some ⟨ck, co, none⟩) N cc) of4 met1 low2 nxt2 (r ++ [f]) opn4 count4 steps1) := hs4
            clear hs4 hm0 HS4
            by_cases hog : of4 g < 0
            · have d3 : decide (of4 g < 0) = true := by simp [hog]
              have HOG : Hd (of4 g < 0) := hog
              clear hog
              have c4 : V.cell? ⟨b, 4, none⟩ = some (.slice (some ⟨gl, 0, none⟩) N N) := by obtain ⟨⟨_, _, k⟩, -⟩ := id HS6.out; rw [cell_of0 k.blk]; rfl
              have pf : V.cell? ⟨gl, f, none⟩ = some (vI (low2 f : Int)) := by obtain ⟨⟨_, _, k⟩, -⟩ := id HS6.out; exact k.rlo.cell hfN
              have pg : V.cell? ⟨gl, g, none⟩ = some (vI (low2 g : Int)) := by obtain ⟨⟨_, _, k⟩, -⟩ := id HS6.out; exact k.rlo.cell hgN
              have zf : V.frozen? ⟨gl, f, none⟩ = false := by obtain ⟨⟨_, _, k⟩, -⟩ := id HS6.out; exact k.rlo.frozen f
              go_upto_region 9 with fail
              go_region
              go_upto_region 4 with fail
              obtain ⟨W9, hW9⟩ : ∃ W9, W9 = (V.setCell ⟨gl, f, none⟩ (.int .i64 (if low2 g < low2 f then (low2 g : Int) else (low2 f : Int)))).drew := ⟨_, rfl⟩
              obtain ⟨lowX, hlowX⟩ : ∃ lowX, lowX = Wg.upd low2 f (if of4 g < 0 then min (low2 f) (low2 g) else low2 f) := ⟨_, rfl⟩
              have HS9 : Hd (∃ pv ov, Sc W9 B b go gm gl gn N (.slice (some ⟨ck, co, none⟩) N cc) pv ov of4 (zF met1) (zF lowX) (zF nxt2) count4 steps1 (zL (r ++ [f])) (zL opn4)) := by
                obtain ⟨⟨pv, ov, k⟩, -⟩ := id HS6.out
                have k2 := k.setLow f (if low2 g < low2 f then (low2 g : Int) else (low2 f : Int))
                have e : (if low2 g < low2 f then (low2 g : Int) else (low2 f : Int)) = ((min (low2 f) (low2 g) : Nat) : Int) := by split <;> omega
                rw [e, zF_upd] at k2
                unfold Hd
                rw [hlowX, if_pos HOG.out, hW9, e]
                exact ⟨pv, ov, k2.stay (Fr.refl _ _).drew⟩
              have HF9 : Hd (Fr (fun k => B0 ≤ k) V W9) := by
                have b4 := HS6.out.hB.2.2.2.1
                unfold Hd
                rw [hW9]
                exact ((Fr.refl _ V).setCell _ _ (Or.inl b4)).drew
              have HTX : Hd (TI N cl of4 met1 lowX (Wg.upd nxt2 f (nxt2 f + 1)) (r ++ [f]) opn4 count4 steps1) := by rw [hlowX]; exact HTA.out
              rw [← hW9]
              clear hW9 hlowX HTA c1 po c3 pm c4 pf pg zf d3
              generalize (if low2 g < low2 f then (low2 g : Int) else (low2 f : Int)) = zz
              have c5 : W9.cell? ⟨b, 5, none⟩ = some (.slice (some ⟨gn, 0, none⟩) N N) := by obtain ⟨_, _, k⟩ := HS9.out; rw [cell_of0 k.blk]; rfl
              have pn : W9.cell? ⟨gn, f, none⟩ = some (vI (nxt2 f : Int)) := by obtain ⟨_, _, k⟩ := HS9.out; exact k.rnx.cell hfN
              have zn : W9.frozen? ⟨gn, f, none⟩ = false := by obtain ⟨_, _, k⟩ := HS9.out; exact k.rnx.frozen f
              have nb : (nxt2 f : Int) < 1000000001 := by omega
              have enn : (nxt2 f : Int) + 1 = ((nxt2 f + 1 : Nat) : Int) := by omega
              have HS10 : Hd (∃ of opn count, Se (W9.setCell ⟨gn, f, none⟩ (vI ((nxt2 f + 1 : Nat) : Int))) B0 B b go gm gl gn N cl (.slice (some ⟨ck, co, none⟩) N cc) of met1 lowX (Wg.upd nxt2 f (nxt2 f + 1)) (r ++ [f]) opn count steps1) := by
                obtain ⟨pv, ov, k⟩ := HS9.out
                obtain ⟨-, la, -, b1, b2, b3, b4, b5, b6, b7⟩ := HS6.out
                have k2 := k.setNxt f ((nxt2 f + 1 : Nat) : Int)
                rw [zF_upd] at k2
                have f2 : Fr (fun k => B0 ≤ k) V (W9.setCell ⟨gn, f, none⟩ (vI ((nxt2 f + 1 : Nat) : Int))) := HF9.out.setCell _ _ (Or.inl b5)
                exact ⟨of4, opn4, count4, ⟨pv, ov, k2⟩, la.fr (by omega) f2 (fun k hk => by omega), HTX.out, b1, b2, b3, b4, b5, b6, Nat.le_trans b7 f2.size⟩
              have HF10 : Hd (Fr (fun k => B0 ≤ k) w (W9.setCell ⟨gn, f, none⟩ (vI ((nxt2 f + 1 : Nat) : Int))) ∧ met1 first ≠ 0 ∧ ∀ x, met x ≠ 0 → met1 x ≠ 0) := ⟨HF4.out.1.trans (HF9.out.setCell _ _ (Or.inl HS6.out.hB.2.2.2.2.1)), HF4.out.2⟩
              generalize ((nxt2 f + 1 : Nat) : Int) = nn at *
              go_wp2_with fail
              go_roundg ((cl f).length - (nxt2 f + 1))
              case measure =>
                have k1 := HG2.out
                omega
              case rel => exact ⟨lowX, _, HS10.out, HF10.out, by unfold Hd; rw [Wg.upd_same]⟩
            · have d3 : decide (of4 g < 0) = false := by simp; omega
              have HOG : Hd (¬ of4 g < 0) := hog
              clear hog
              go_upto_region 4 with fail
              obtain ⟨W9, hW9⟩ : ∃ W9, W9 = V := ⟨_, rfl⟩
              obtain ⟨lowX, hlowX⟩ : ∃ lowX, lowX = Wg.upd low2 f (if of4 g < 0 then min (low2 f) (low2 g) else low2 f) := ⟨_, rfl⟩
              have HS9 : Hd (∃ pv ov, Sc W9 B b go gm gl gn N (.slice (some ⟨ck, co, none⟩) N cc) pv ov of4 (zF met1) (zF lowX) (zF nxt2) count4 steps1 (zL (r ++ [f])) (zL opn4)) := by
                obtain ⟨⟨pv, ov, k⟩, -⟩ := id HS6.out
                have e : Wg.upd low2 f (low2 f) = low2 := by
                  funext x
                  by_cases e : x = f
                  · rw [e, Wg.upd_same]
                  · rw [Wg.upd_ne _ _ e]
                unfold Hd
                rw [hlowX, if_neg HOG.out, e, hW9]
                exact ⟨pv, ov, k⟩
              have HF9 : Hd (Fr (fun k => B0 ≤ k) V W9) := by
                have b4 := HS6.out.hB.2.2.2.1
                unfold Hd
                rw [hW9]
                exact Fr.refl _ V
              have HTX : Hd (TI N cl of4 met1 lowX (Wg.upd nxt2 f (nxt2 f + 1)) (r ++ [f]) opn4 count4 steps1) := by rw [hlowX]; exact HTA.out
              rw [← hW9]
              clear hW9 hlowX HTA c1 po c3 pm d3
              have c5 : W9.cell? ⟨b, 5, none⟩ = some (.slice (some ⟨gn, 0, none⟩) N N) := by obtain ⟨_, _, k⟩ := HS9.out; rw [cell_of0 k.blk]; rfl
              have pn : W9.cell? ⟨gn, f, none⟩ = some (vI (nxt2 f : Int)) := by obtain ⟨_, _, k⟩ := HS9.out; exact k.rnx.cell hfN
              have zn : W9.frozen? ⟨gn, f, none⟩ = false := by obtain ⟨_, _, k⟩ := HS9.out; exact k.rnx.frozen f
              have nb : (nxt2 f : Int) < 1000000001 := by omega
              have enn : (nxt2 f : Int) + 1 = ((nxt2 f + 1 : Nat) : Int) := by omega
              have HS10 : Hd (∃ of opn count, Se (W9.setCell ⟨gn, f, none⟩ (vI ((nxt2 f + 1 : Nat) : Int))) B0 B b go gm gl gn N cl (.slice (some ⟨ck, co, none⟩) N cc) of met1 lowX (Wg.upd nxt2 f (nxt2 f + 1)) (r ++ [f]) opn count steps1) := by
                obtain ⟨pv, ov, k⟩ := HS9.out
                obtain ⟨-, la, -, b1, b2, b3, b4, b5, b6, b7⟩ := HS6.out
                have k2 := k.setNxt f ((nxt2 f + 1 : Nat) : Int)
                rw [zF_upd] at k2
                have f2 : Fr (fun k => B0 ≤ k) V (W9.setCell ⟨gn, f, none⟩ (vI ((nxt2 f + 1 : Nat) : Int))) := HF9.out.setCell _ _ (Or.inl b5)
                exact ⟨of4, opn4, count4, ⟨pv, ov, k2⟩, la.fr (by omega) f2 (fun k hk => by omega), HTX.out, b1, b2, b3, b4, b5, b6, Nat.le_trans b7 f2.size⟩
              have HF10 : Hd (Fr (fun k => B0 ≤ k) w (W9.setCell ⟨gn, f, none⟩ (vI ((nxt2 f + 1 : Nat) : Int))) ∧ met1 first ≠ 0 ∧ ∀ x, met x ≠ 0 → met1 x ≠ 0) := ⟨HF4.out.1.trans (HF9.out.setCell _ _ (Or.inl HS6.out.hB.2.2.2.2.1)), HF4.out.2⟩
              generalize ((nxt2 f + 1 : Nat) : Int) = nn at *
              go_wp2_with fail
              go_roundg ((cl f).length - (nxt2 f + 1))
              case measure =>
                have k1 := HG2.out
                omega
              case rel => exact ⟨lowX, _, HS10.out, HF10.out, by unfold Hd; rw [Wg.upd_same]⟩
        · have hne : nxt2 f = (cl f).length := by omega
          have d1 : decide ((nxt2 f : Int) < ((cl f).length : Int)) = false := by simp; omega
          have d1' : decide (nxt2 f < (cl f).length) = false := by simp; omega
          have d1n : ¬ nxt2 f < (cl f).length := by omega
          have HNE : Hd (nxt2 f = (cl f).length) := hne
          clear hlt hs2 hu hne
          go_upto_region 3 with fail
          go_quiet (fail)
          obtain ⟨W, hW⟩ : ∃ W, W = wr.drewN nq := ⟨_, rfl⟩
          have fW : Fr (fun _ => False) wr W := by rw [hW]; exact drewN_fr _ _
          rw [← hW]
          have HS3 : Hd (∃ of opn count, Se W B0 B b go gm gl gn N cl (.slice (some ⟨ck, co, none⟩) N cc) of met1 low2 nxt2 (r ++ [f]) opn count steps1) := by
            obtain ⟨x1, x2, x3, x4⟩ := HS.out
            exact ⟨x1, x2, x3, x4.stay fW⟩
          have HF3 : Hd (Fr (fun k => B0 ≤ k) w W ∧ met1 first ≠ 0 ∧ ∀ x, met x ≠ 0 → met1 x ≠ 0) := ⟨HF.out.1.trans (fW.mono (fun _ _ e => e.elim)), HF.out.2⟩
          clear hW fW HS HF c5 c0 pn pu
          obtain ⟨of3, opn3, count3, hs3⟩ := HS3.out
          have HLV : Hd (Calls Tryz.prog 67 #[.pointer (some ⟨b, 0, none⟩)] W (LvE B0 B b go gm gl gn N cl (.slice (some ⟨ck, co, none⟩) N cc) met1 low2 nxt2 r steps1 W)) := sleave_any W hs3 HNE.out hN
          clear hs3 HS3
          go_wp2_with fail
          refine Calls.mono HLV.out ?_
          rintro e w5 ⟨rfl, ⟨of5, opn5, count5, hS5⟩, hF5⟩
          have HS5 : Hd (Fm w B0 B b go gm gl gn N cl (.slice (some ⟨ck, co, none⟩) N cc) met first w5 met1 low2 nxt2 r steps1) := ⟨⟨_, _, _, hS5⟩, HF3.out.1.trans hF5, HF3.out.2⟩
          clear hS5 hF5 HLV
          go_wp2_with fail
          go_roundg (2 * (N - steps1) + r.length)
          case measure =>
            have k1 := HG.out
            rw [List.length_append, List.length_singleton] at k1
            omega
          case rel => exact ⟨_, _, _, _, _, HS5.out, rfl⟩
end Go.Proofs.YtjmbfjaahadbhaaGreatDoor
