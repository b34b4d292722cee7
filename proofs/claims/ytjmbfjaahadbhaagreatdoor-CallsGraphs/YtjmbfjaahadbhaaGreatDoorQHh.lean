import Derived.Test.YtjmbfjaahadbhaaGreatDoorQHfJ
set_option linter.unusedVariables false
set_option linter.unusedSimpArgs false
namespace Go.Proofs.YtjmbfjaahadbhaaGreatDoor
open Go.RowKit (wrap32 wrap64)

/-- A component's first function, as it lies. -/
theorem GA.first {w : World} {B b go gm ge gr N n : Nat} {mv ev rv : Nat → Value} {of : Nat → Nat} {cl : Nat → List Nat} (h : GA w B b go gm ge gr N n mv ev rv of cl) (hr : Rg N cl n of) {c : Nat} (hc : c < n) : ∃ mg m mc, w.cell? ⟨gm, c, none⟩ = some (.slice (some ⟨mg, 0, none⟩) (m + 1) mc) ∧ w.cell? ⟨mg, 0, none⟩ = some (vI ((lwX N of c : Nat) : Int)) ∧ m ≤ N := by
  obtain ⟨r, e, h1, h2⟩ := hr.low hc
  obtain ⟨a, c', ev', p, ho⟩ := h.cm.cell hc
  have hl : (zL (memX N of c)).length = r.length + 1 := by rw [List.length_map, e, List.length_cons]
  have hown := h.cm.own c hc
  obtain ⟨g, cc, e2, -, hcell⟩ := iown_some hown (by rw [hl]; omega)
  rw [ev'] at e2
  injection e2 with e3 e4 e5
  have hlen : r.length + 1 ≤ N := by
    have := len_le (memX_rise (N := N) (of := of) c) (fun x hx => (mem_memX.1 hx).1)
    rw [e, List.length_cons] at this
    exact this
  refine ⟨g, r.length, c', by rw [p, e3, hl], ?_, by omega⟩
  rw [hcell 0 (by rw [hl]; omega)]
  congr 2
  have : (zL (memX N of c))[0]? = some ((lwX N of c : Nat) : Int) := by rw [e]; rfl
  rw [List.getElem?_eq_getElem (by rw [hl]; omega)] at this
  exact Option.some.inj this
set_option maxRecDepth 100000 in
set_option maxHeartbeats 16000000 in
theorem numbers_any {B b go gm ge gr N n : Nat} {mv ev rv : Nat → Value} {of : Nat → Nat} {cl : Nat → List Nat} (w : World) (h : GA w B b go gm ge gr N n mv ev rv of cl) (hr : Rg N cl n of) (hcl : ∀ x, x < N → ∀ z ∈ cl x, z < N) (hN : N ≤ 999999) (hnN : n ≤ N) :
    Calls Tryz.prog 19 #[.pointer (some ⟨b, 0, none⟩)] w (NbE N n of cl w) := by
  have HGA : Hd (GA w B b go gm ge gr N n mv ev rv of cl) := h
  have HRG : Hd (Rg N cl n of) := hr
  have HNG : Hd (NG n (lwX N of) (cleX N n of cl) (clrX N n of cl)) := hr.graph hcl
  have HL1 : Hd (Calls Tryz.prog 26 #[.pointer (some ⟨b, 0, none⟩)] w fun e w' => e = .returned (vI (n : Int)) ∧ w' = w) := glen_any w h (by omega)
  have hmk : ∀ W : World, (Instr.makeSlice 25 (.int .i64 n) (.int .i64 n)).run Tryz.prog W = .ok (.slice (some ⟨W.heap.size, 0, none⟩) n n) (W.alloc (.cells (Array.replicate n (vI 0)) 3)) := fun W => make64 n (by omega) W
  obtain ⟨X, hX⟩ : ∃ X, X = w.heap.size := ⟨_, rfl⟩
  have HX : Hd (X = w.heap.size) := hX
  obtain ⟨wa, hwa⟩ : ∃ wa, wa = w.alloc (.cells (Array.replicate n (vI 0)) 3) := ⟨_, rfl⟩
  obtain ⟨wb, hwb⟩ : ∃ wb, wb = wa.alloc (.cells (Array.replicate n (vI 0)) 3) := ⟨_, rfl⟩
  obtain ⟨wd, hwd⟩ : ∃ wd, wd = wb.alloc (.cells #[.slice none 0 0] 78) := ⟨_, rfl⟩
  have hsa : wa.heap.size = X + 1 := by rw [hwa, World.size_alloc, hX]
  have hsb : wb.heap.size = X + 2 := by rw [hwb, World.size_alloc, hsa]
  have hsd : wd.heap.size = X + 3 := by rw [hwd, World.size_alloc, hsb]
  have fa : Fr (fun _ => False) w wa := by rw [hwa]; exact Fr.alloc (Fr.refl _ w) _
  have fb : Fr (fun _ => False) wa wb := by rw [hwb]; exact Fr.alloc (Fr.refl _ wa) _
  have fd : Fr (fun _ => False) wb wd := by rw [hwd]; exact Fr.alloc (Fr.refl _ wb) _
  have HL2 : Hd (Calls Tryz.prog 26 #[.pointer (some ⟨b, 0, none⟩)] wa fun e w' => e = .returned (vI (n : Int)) ∧ w' = wa) := glen_any wa (h.stay fa) (by omega)
  have HNR : Hd (Nr w wd X n (fun _ => 0) (fun _ => 0) []) := by
    have r1 := Wg.Row.made w 3 n (vI 0)
    rw [← hwa, ← hX] at r1
    have r2 := Wg.Row.made wa 3 n (vI 0)
    rw [← hwb, hsa] at r2
    refine ⟨(r1.fr fb (fun e => e)).fr fd (fun e => e), r2.fr fd (fun e => e), ⟨.slice none 0 0, ?_, World.ownsRow_nil _ _ _ _⟩, HS.nil, ((fa.trans fb).trans fd).mono (fun _ _ e => e.elim), Nat.le_of_eq hsd.symm⟩
    rw [hwd, ← hsb]
    exact heap_new0 wb _
  have HWA : Hd (wa = w.alloc (.cells (Array.replicate n (vI 0)) 3)) := hwa
  have HWB : Hd (wb = wa.alloc (.cells (Array.replicate n (vI 0)) 3)) := hwb
  have HWD : Hd (wd = wb.alloc (.cells #[.slice none 0 0] 78)) := hwd
  have HSA : Hd (wa.heap.size = X + 1) := hsa
  have HSB : Hd (wb.heap.size = X + 2) := hsb
  clear h hr hcl hX hwa hwb hwd hsa hsb hsd fa fb fd
  go_enter Tryz.func19, Tryz.ntmps19
  go_wp2_with fail
  refine Calls.mono HL1.out ?_
  rintro e w1 ⟨rfl, rfl⟩
  clear HL1
  go_upto_region 2 with fail
  rw [← HWA.out, ← HX.out]
  clear HWA
  go_wp2_with fail
  refine Calls.mono HL2.out ?_
  rintro e w2 ⟨rfl, rfl⟩
  clear HL2
  go_upto_region 3 with fail
  rw [← HWB.out, HSA.out]
  clear HWB hmk
  go_upto_region 4 with fail
  rw [← HWD.out, HSB.out]
  clear HWD HSB HSA
  have HGW : Hd (∀ wx, Fr (fun k => X ≤ k) w1 wx → GA wx B b go gm ge gr N n mv ev rv of cl) := fun wx f => HGA.out.stay (by
    have := HX.out
    subst this
    exact fr_new f)
  have c2 : wd.cell? ⟨b, 2, none⟩ = some (.slice (some ⟨ge, 0, none⟩) n n) := by rw [cell_of0 (HGW.out wd HNR.out.ff).blk]; rfl
  have HN1 : Hd (∃ waits can, Nr w1 wd X n (fun _ => 0) waits can ∧ (∀ c, c < 0 → waits c = ((cleX N n of cl c).length : Int)) ∧ ∀ v : Int, v ∈ can ↔ ∃ c, c < 0 ∧ v = (lwX N of c : Int) ∧ waits c = 0) := ⟨_, _, HNR.out, fun c hc => by omega, fun v => by simp⟩
  clear HNR
  go_wp2_with fail
  go_loopw [23] (fun v wx => ∃ k : Nat, v = .int .i64 k ∧ k ≤ n ∧ Hd (∃ waits can, Nr w1 wx X n (fun _ => 0) waits can ∧ (∀ c, c < k → waits c = ((cleX N n of cl c).length : Int)) ∧ ∀ v : Int, v ∈ can ↔ ∃ c, c < k ∧ v = (lwX N of c : Int) ∧ waits c = 0)) (fun v _ => match v with | .int _ q => n - q.toNat | _ => 0)
  case atStart => exact ⟨0, rfl, Nat.zero_le _, HN1.out⟩
  case round =>
    clear HN1 c2
    obtain ⟨k, rfl, hk, HN⟩ := hrel
    obtain ⟨waits, can, hnr, hw, hcan⟩ := HN.out
    by_cases hlt : k < n
    · have d1 : decide ((k : Int) < (n : Int)) = true := by simp; omega
      have k0 : (0 : Int) ≤ k := by omega
      have k1 : (k : Int) < n := by omega
      have hga := HGW.out wr hnr.ff
      obtain ⟨ea, ec, eev, pe, -⟩ := hga.ce.cell hlt
      rw [List.length_map] at pe
      have hel : (cleX N n of cl k).length ≤ 1000000 := by
        have := len_le (cleX_rise (N := N) (n := n) (of := of) (cl := cl) k) (fun x hx => (mem_cleX.1 hx).1)
        omega
      have pw := hnr.rw'.cell hlt
      have zw := hnr.rw'.frozen k
      obtain ⟨E, hE⟩ : ∃ E, E = (cleX N n of cl k).length := ⟨_, rfl⟩
      rw [← hE] at pe hel
      have hnr2 := hnr.setW k (E : Int)
      have hga2 := HGW.out _ hnr2.ff
      obtain ⟨mg, m, mc, pm, pf, hmN⟩ := hga2.first HRG.out hlt
      have c1 : (wr.setCell ⟨X + 1, k, none⟩ (vI (E : Int))).cell? ⟨b, 1, none⟩ = some (.slice (some ⟨gm, 0, none⟩) n n) := by rw [cell_of0 hga2.blk]; rfl
      have pw2 : (wr.setCell ⟨X + 1, k, none⟩ (vI (E : Int))).cell? ⟨X + 1, k, none⟩ = some (vI (E : Int)) := by rw [hnr2.rw'.cell hlt, Wg.upd_same]
      obtain ⟨w3, hw3⟩ : ∃ w3, w3 = wr.setCell ⟨X + 1, k, none⟩ (vI (E : Int)) := ⟨_, rfl⟩
      rw [← hw3] at hnr2 hga2 pm pf c1 pw2
      have HW3 : Hd (w3 = wr.setCell ⟨X + 1, k, none⟩ (vI (E : Int))) := hw3
      have HNR2 : Hd (Nr w1 w3 X n (fun _ => 0) (Wg.upd waits k (E : Int)) can) := hnr2
      have HWT : Hd (∀ c, c < k + 1 → Wg.upd waits k (E : Int) c = ((cleX N n of cl c).length : Int)) := fun c hc => by
        by_cases e : c = k
        · rw [e, Wg.upd_same, hE]
        · rw [Wg.upd_ne _ _ e]; exact hw c (by omega)
      have HCN : Hd (∀ v : Int, v ∈ can ↔ ∃ c, c < k ∧ v = (lwX N of c : Int) ∧ Wg.upd waits k (E : Int) c = 0) := fun v => by
        rw [hcan]
        constructor
        · rintro ⟨c, h1, h2, h3⟩
          exact ⟨c, h1, h2, by rw [Wg.upd_ne _ _ (by omega)]; exact h3⟩
        · rintro ⟨c, h1, h2, h3⟩
          rw [Wg.upd_ne _ _ (by omega)] at h3
          exact ⟨c, h1, h2, h3⟩
      clear hga eev hw3 hnr hnr2 hga2 hw hcan HN hE hlt
      go_upto_region 8 with fail
      rw [← HW3.out]
      clear HW3 pe pw zw
      by_cases hE0 : E = 0
      · have e0 : ((E : Int) == 0) = true := by simp [hE0]
        have HE0 : Hd (E = 0) := hE0
        have HLW : Hd ((lwX N of k : Int) ∉ can) := fun e => by
          obtain ⟨c, h1, h2, -⟩ := (HCN.out _).1 e
          have := HNG.out.li k c (by omega) (by omega) (by omega)
          omega
        have HLC : Hd (can.length < 1000000) := by
          have := hlen_le (n := n) (lw := lwX N of) HNR2.out.hs.n (fun v hv => by
            obtain ⟨c, h1, h2, -⟩ := (HCN.out v).1 hv
            exact ⟨c, by omega, h2⟩)
          unfold Hd
          omega
        have HPS : Hd (Calls Tryz.prog 46 #[rdI (X + 2), .iface 3 (vI ((lwX N of k : Nat) : Int))] w3 fun e w' => e = .returned (.tuple #[]) ∧ ∃ l', Hp w' (X + 3) (X + 2) l' ∧ HS l' ∧ (∀ y, y ∈ l' ↔ y ∈ can ∨ y = ((lwX N of k : Nat) : Int)) ∧ l'.length = can.length + 1 ∧ Fr (fun j => j = X + 2 ∨ X + 3 ≤ j) w3 w') := hpush_any (X + 3) (X + 2) can _ w3 HNR2.out.hp HNR2.out.hs HLW.out (by omega) HNR2.out.sz HLC.out
        clear hE0
        go_wp2_with fail
        refine Calls.mono HPS.out ?_
        rintro e w5 ⟨rfl, l', hp5, hs5, hm5, -, hF5⟩
        have HN5 : Hd (∃ waits can, Nr w1 w5 X n (fun _ => 0) waits can ∧ (∀ c, c < k + 1 → waits c = ((cleX N n of cl c).length : Int)) ∧ ∀ v : Int, v ∈ can ↔ ∃ c, c < k + 1 ∧ v = (lwX N of c : Int) ∧ waits c = 0) := by
          refine ⟨_, l', HNR2.out.heap hp5 hs5 hF5, HWT.out, fun v => ?_⟩
          rw [hm5, HCN.out]
          constructor
          · rintro (⟨c, h1, h2, h3⟩ | h1)
            · exact ⟨c, by omega, h2, h3⟩
            · exact ⟨k, by omega, h1, by rw [Wg.upd_same, HE0.out]; rfl⟩
          · rintro ⟨c, h1, h2, h3⟩
            by_cases e : c = k
            · exact Or.inr (by rw [h2, e])
            · exact Or.inl ⟨c, by omega, h2, h3⟩
        clear hp5 hs5 hm5 hF5 HPS pm pf c1 pw2 e0
        go_wp2_with fail
        go_roundw
        case measure => simp; omega
        case rel => exact ⟨k + 1, by simp, by omega, HN5.out⟩
      · have e0 : ((E : Int) == 0) = false := by simp; omega
        have HN5 : Hd (∃ waits can, Nr w1 w3 X n (fun _ => 0) waits can ∧ (∀ c, c < k + 1 → waits c = ((cleX N n of cl c).length : Int)) ∧ ∀ v : Int, v ∈ can ↔ ∃ c, c < k + 1 ∧ v = (lwX N of c : Int) ∧ waits c = 0) := by
          refine ⟨_, can, HNR2.out, HWT.out, fun v => ?_⟩
          rw [HCN.out]
          constructor
          · rintro ⟨c, h1, h2, h3⟩
            exact ⟨c, by omega, h2, h3⟩
          · rintro ⟨c, h1, h2, h3⟩
            by_cases e : c = k
            · rw [e, Wg.upd_same] at h3
              omega
            · exact ⟨c, by omega, h2, h3⟩
        clear hE0 HNR2 HWT HCN
        go_wp2_with fail
        go_roundw
        case measure => simp; omega
        case rel => exact ⟨k + 1, by simp, by omega, HN5.out⟩
    · have d1 : decide ((k : Int) < (n : Int)) = false := by simp; omega
      have d1n : ¬ k < n := by omega
      have HNI : Hd (∃ number dn waits can, Nr w1 wr X n number waits can ∧ NI n (lwX N of) (cleX N n of cl) dn number waits can ∧ dn.length = 0) := ⟨_, [], waits, can, hnr, NI.begin (fun c hc => hw c (by omega)) (fun v => by
        rw [hcan]
        constructor
        · rintro ⟨c, h1, h2, h3⟩; exact ⟨c, by omega, h2, h3⟩
        · rintro ⟨c, h1, h2, h3⟩; exact ⟨c, by omega, h2, h3⟩), rfl⟩
      clear hnr hw hcan HN hlt
      go_wp2_with fail
      go_loopg [8] n (fun gg v wx => ∃ (p : Nat), v = vI (p : Int) ∧ p ≤ n ∧ Hd (n - p = gg) ∧ Hd (∃ number dn waits can, Nr w1 wx X n number waits can ∧ NI n (lwX N of) (cleX N n of cl) dn number waits can ∧ dn.length = p))
      case atStart => exact ⟨0, by simp, Nat.zero_le _, rfl, HNI.out⟩
      case round =>
        clear HNI
        obtain ⟨p, rfl, hpn, HG, HN⟩ := hrel
        obtain ⟨number, dn, waits, can, hnr, hni, hlen⟩ := HN.out
        obtain ⟨hv, hb, ho⟩ := id hnr.hp
        have c5 : wr.cell? ⟨X + 2, 0, none⟩ = some hv := by rw [cell_of0 hb]; rfl
        have hcl2 : can.length ≤ n := hlen_le (n := n) (lw := lwX N of) hnr.hs.n (fun v hv => by
          obtain ⟨c, h1, h2, -⟩ := (hni.rd v).1 hv
          exact ⟨c, h1, h2⟩)
        have HLN : Hd (Calls Tryz.prog 47 #[hv] wr fun e w' => e = .returned (vI (can.length : Int)) ∧ w' = wr) := hlen_any hv (X + 3) can wr ho (by omega)
        have HNR : Hd (Nr w1 wr X n number waits can) := hnr
        have HNI : Hd (NI n (lwX N of) (cleX N n of cl) dn number waits can) := hni
        have HDL : Hd (dn.length = p) := hlen
        have hp1 : (p : Int) ≤ 1000000 := by omega
        by_cases hc0 : can.length = 0
        · have e0 : decide ((can.length : Int) > 0) = false := by simp [hc0]
          have e0' : decide ((0 : Int) < (can.length : Int)) = false := by simp [hc0]
          have e0n : ¬ 0 < can.length := by omega
          have HE : Hd (NbE N n of cl w1 (.returned (.slice (some ⟨X, 0, none⟩) n n)) wr) := by
            have e : can = [] := List.eq_nil_of_length_eq_zero hc0
            subst e
            have hx := HX.out
            subst hx
            exact ⟨_, number, dn, waits, rfl, Nat.le_refl _, hnr.rn, hni, fr_new hnr.ff⟩
          clear hc0 hnr hni hb ho HN hlen HG HNR HNI
          go_wp2_with fail
          refine Calls.mono HLN.out ?_
          rintro e w5 ⟨rfl, rfl⟩
          clear HLN c5
          go_wp2_with fail
          go_ret
          exact HE.out
        · have e0 : decide ((can.length : Int) > 0) = true := by simp; omega
          have e0' : decide ((0 : Int) < (can.length : Int)) = true := by simp; omega
          obtain ⟨m, hm⟩ : ∃ m, can.length = m + 1 := ⟨can.length - 1, by omega⟩
          obtain ⟨c, hcn, hlw, hcd, hw0⟩ := (hni.rd _).1 (mem_at.2 ⟨0, by omega, rfl⟩)
          have HPOP : Hd (∀ W, Fr (fun _ => False) wr W → Calls Tryz.prog 48 #[rdI (X + 2)] W fun e w' => e = .returned (.iface 3 (vI ((lwX N of c : Nat) : Int))) ∧ ∃ l', Hp w' (X + 3) (X + 2) l' ∧ HS l' ∧ (∀ y, y ∈ l' ↔ y ∈ can ∧ y ≠ ((lwX N of c : Nat) : Int)) ∧ (∀ y ∈ can, ((lwX N of c : Nat) : Int) ≤ y) ∧ l'.length = m ∧ Fr (fun k => k = X + 2 ∨ X + 3 ≤ k) W w') := fun W fW => by
            have := hpop_any (X + 3) (X + 2) m can W (hnr.hp.stay fW) hnr.hs hm (by omega) (by omega)
            rw [hlw] at this
            exact this
          have HCD : Hd (c ∉ dn ∧ waits c = 0) := ⟨hcd, hw0⟩
          obtain ⟨Lc, hLc⟩ : ∃ Lc, Lc = lwX N of c := ⟨_, rfl⟩
          have hlow := HRG.out.low hcn
          have HOL : Hd (of Lc = c) := by unfold Hd; rw [hLc]; obtain ⟨-, -, -, e⟩ := hlow; exact e
          have hLN : Lc < N := by rw [hLc]; obtain ⟨-, -, e, -⟩ := hlow; exact e
          rw [← hLc] at HPOP
          have HLC : Hd (Lc = lwX N of c) := hLc
          have L0 : (0 : Int) ≤ Lc := by omega
          have L1 : (Lc : Int) < N := by omega
          have cof : wr.cell? ⟨b, 0, none⟩ = some (.slice (some ⟨go, 0, none⟩) N N) := by rw [cell_of0 (HGW.out wr hnr.ff).blk]; rfl
          have cofd : wr.drew.cell? ⟨b, 0, none⟩ = some (.slice (some ⟨go, 0, none⟩) N N) := cof
          have hta : ∀ W : World, (Instr.typeAssert (.iface 3 (vI (Lc : Int))) 20 3 false).run Tryz.prog W = .ok (vI (Lc : Int)) W := fun _ => by kernel_rfl
          have hpln : p < n := by rw [← hlen]; exact hni.less hcn hcd
          clear hc0 hnr hni hb ho HN hlen hlow hLc hlw hcd hw0
          go_wp2_with fail
          refine Calls.mono HLN.out ?_
          rintro e w5 ⟨rfl, rfl⟩
          clear HLN c5
          go_upto_region 14 with fail
          go_cut [9] (fun x9 wx => x9 = vI (c : Int) ∧ Hd (∃ can', NM n (lwX N of) (cleX N n of cl) (clrX N n of cl) dn c 0 (Wg.upd number c p) waits can' ∧ Nr w1 wx X n number waits can'))
          case first =>
            go_region_with ((
              go_at_call 48
              refine (HPOP.out _ ((Fr.refl (fun _ => False) _).drew)).mono ?_
              rintro e w6 ⟨rfl, l', hp6, hs6, hm6, hmin6, hln6, hF6⟩
              have hnr6 : Nr w1 w6 X n number waits l' := HNR.out.heap hp6 hs6 (((Fr.refl (fun _ => False) _).drew.mono (fun _ _ e => e.elim)).trans hF6)
              have cof6 : w6.cell? ⟨b, 0, none⟩ = some (.slice (some ⟨go, 0, none⟩) N N) := by rw [cell_of0 (HGW.out w6 hnr6.ff).blk]; rfl
              have pof6 : w6.cell? ⟨go, Lc, none⟩ = some (vI (c : Int)) := by rw [(HGW.out w6 hnr6.ff).rof.cell hLN, HOL.out]
              have HQ6 : Hd (∃ can', NM n (lwX N of) (cleX N n of cl) (clrX N n of cl) dn c 0 (Wg.upd number c p) waits can' ∧ Nr w1 w6 X n number waits can') := by
                refine ⟨l', ?_, hnr6⟩
                have := HNI.out.pop (c := c) (can' := l') (clr := clrX N n of cl) hcn HCD.out.1 HCD.out.2 (fun u hu => by rw [← HLC.out]; exact hmin6 u hu) (fun x => by rw [hm6, HLC.out]) HNG.out
                rw [HDL.out] at this
                exact this
              clear hp6 hs6 hm6 hmin6 hln6 hF6 hnr6))
            all_goals
              go_wp2_with fail
              go_meet
              exact ⟨rfl, HQ6.out⟩
          case rest =>
          obtain ⟨rfl, HQ⟩ := hcut
          obtain ⟨w6, hw6⟩ : ∃ w6, w6 = wc := ⟨_, rfl⟩
          rw [← hw6] at HQ ⊢
          clear hw6 HPOP cof cofd hta
          obtain ⟨can6, hnm6, hnr6⟩ := HQ.out
          have pn := hnr6.rn.cell hcn
          have zn := hnr6.rn.frozen c
          have hnr7 := hnr6.setN c p
          have hga7 := HGW.out _ hnr7.ff
          obtain ⟨ra, rc, erv, pr, -⟩ := hga7.cr.cell hcn
          rw [List.length_map] at erv pr
          have c3 : (w6.setCell ⟨X, c, none⟩ (vI (p : Nat))).cell? ⟨b, 3, none⟩ = some (.slice (some ⟨gr, 0, none⟩) n n) := by rw [cell_of0 hga7.blk]; rfl
          obtain ⟨w7, hw7⟩ : ∃ w7, w7 = w6.setCell ⟨X, c, none⟩ (vI (p : Nat)) := ⟨_, rfl⟩
          rw [← hw7] at hnr7 hga7 pr c3
          have HW7 : Hd (w7 = w6.setCell ⟨X, c, none⟩ (vI (p : Nat))) := hw7
          have HN7 : Hd (∃ waits can, NM n (lwX N of) (cleX N n of cl) (clrX N n of cl) dn c 0 (Wg.upd number c p) waits can ∧ Nr w1 w7 X n (Wg.upd number c p) waits can) := ⟨_, _, hnm6, hnr7⟩
          have HER : Hd (rv c = .slice ra (clrX N n of cl c).length rc) := erv
          have cc0 : (0 : Int) ≤ c := by omega
          have cc1 : (c : Int) < n := by omega
          have hrl : (clrX N n of cl c).length ≤ 1000000 := by
            have := len_le (clrX_rise (N := N) (n := n) (of := of) (cl := cl) c) (fun x hx => (mem_clrX.1 hx).1)
            omega
          clear hnm6 hnr6 hnr7 hga7 erv hw7 HQ HNR HNI
          go_upto_region 16 with fail
          rw [← HW7.out]
          clear HW7 pn zn
          go_wp2_with fail
          obtain ⟨gout, hgout⟩ : ∃ x, x = gk := ⟨_, rfl⟩
          have HGO : Hd (gout = gk) := hgout
          clear hgout pr c3
          go_loopg [77] (clrX N n of cl c).length (fun gg v wx => ∃ i : Nat, v = .int .i64 i ∧ i ≤ (clrX N n of cl c).length ∧ Hd ((clrX N n of cl c).length - i = gg) ∧ Hd (∃ waits can, NM n (lwX N of) (cleX N n of cl) (clrX N n of cl) dn c i (Wg.upd number c p) waits can ∧ Nr w1 wx X n (Wg.upd number c p) waits can))
          case atStart => exact ⟨0, rfl, Nat.zero_le _, rfl, HN7.out⟩
          case round =>
            clear HN7
            obtain ⟨i, rfl, hil, HG3, HN⟩ := hrel
            obtain ⟨waits3, can3, hnm, hnr⟩ := HN.out
            by_cases hlti : i < (clrX N n of cl c).length
            · have d2 : decide ((i : Int) < ((clrX N n of cl c).length : Int)) = true := by simp; omega
              have i0 : (0 : Int) ≤ i := by omega
              have i1 : (i : Int) < ((clrX N n of cl c).length : Int) := by omega
              obtain ⟨d, hd⟩ : ∃ d, (clrX N n of cl c)[i]? = some d := ⟨_, List.getElem?_eq_getElem hlti⟩
              have hga := HGW.out wr hnr.ff
              have hown := hga.cr.own c hcn
              rw [HER.out] at hown
              obtain ⟨mg, mc2, eg, -, hcell⟩ := iown_some hown (by rw [List.length_map]; omega)
              have ema : ra = some ⟨mg, 0, none⟩ := by injection eg
              subst ema
              have pf : wr.cell? ⟨mg, i, none⟩ = some (vI (d : Int)) := by
                rw [hcell i (by rw [List.length_map]; omega)]
                have hd2 := hd
                rw [List.getElem?_eq_getElem hlti] at hd2
                injection hd2 with hd2
                simp [hd2]
              obtain ⟨hdn, hdnot, hw1, hlwd⟩ := hnm.caller HNG.out hd
              have hwb : waits3 d ≤ 1000000 := by
                rw [hnm.wt d hdn]
                have k1 := List.countP_le_length (p := fun e => decide (e ∉ dn)) (l := cleX N n of cl d)
                have k2 := len_le (cleX_rise (N := N) (n := n) (of := of) (cl := cl) d) (fun x hx => (mem_cleX.1 hx).1)
                split <;> omega
              have pw := hnr.rw'.cell hdn
              have zw := hnr.rw'.frozen d
              have hnr4 := hnr.setW d (waits3 d - 1)
              have hga4 := HGW.out _ hnr4.ff
              obtain ⟨mg2, m2, mc3, pm, pfm, hmN⟩ := hga4.first HRG.out hdn
              have c1 : (wr.setCell ⟨X + 1, d, none⟩ (vI (waits3 d - 1))).cell? ⟨b, 1, none⟩ = some (.slice (some ⟨gm, 0, none⟩) n n) := by rw [cell_of0 hga4.blk]; rfl
              have pw2 : (wr.setCell ⟨X + 1, d, none⟩ (vI (waits3 d - 1))).cell? ⟨X + 1, d, none⟩ = some (vI (waits3 d - 1)) := by rw [hnr4.rw'.cell hdn, Wg.upd_same]
              obtain ⟨Wd, hWd⟩ : ∃ Wd, Wd = waits3 d - 1 := ⟨_, rfl⟩
              obtain ⟨w8, hw8⟩ : ∃ w8, w8 = wr.setCell ⟨X + 1, d, none⟩ (vI (waits3 d - 1)) := ⟨_, rfl⟩
              rw [← hw8] at hnr4 hga4 pm pfm c1 pw2
              rw [← hWd] at hw8 hnr4 pw2
              have HW8 : Hd (w8 = wr.setCell ⟨X + 1, d, none⟩ (vI Wd)) := hw8
              have HNR4 : Hd (Nr w1 w8 X n (Wg.upd number c p) (Wg.upd waits3 d Wd) can3) := hnr4
              have HNM : Hd (NM n (lwX N of) (cleX N n of cl) (clrX N n of cl) dn c i (Wg.upd number c p) waits3 can3) := hnm
              have HDD : Hd ((clrX N n of cl c)[i]? = some d) := hd
              have HWD : Hd (Wd = waits3 d - 1) := hWd
              have HLD : Hd ((lwX N of d : Int) ∉ can3) := hlwd
              have d0 : (0 : Int) ≤ d := by omega
              have d1' : (d : Int) < n := by omega
              obtain ⟨Wo, hWo⟩ : ∃ Wo, Wo = waits3 d := ⟨_, rfl⟩
              rw [← hWo] at pw hw1 hwb hWd
              have qW : Wo - 1 = Wd := hWd.symm
              clear hga hown eg hcell hdnot hnr hnr4 hga4 hw8 hnm hd hWd HN hlti hlwd hWo
              go_upto_region 20 with fail
              rw [← HW8.out]
              clear HW8 pf pw zw
              by_cases hW0 : Wd = 0
              · have e0 : (Wd == 0) = true := by simp [hW0]
                have HW0 : Hd (Wd = 0) := hW0
                have HLC3 : Hd (can3.length < 1000000) := by
                  have := hlen_le (n := n) (lw := lwX N of) HNR4.out.hs.n (fun v hv => by
                    obtain ⟨c, h1, h2, -⟩ := (HNM.out.rd v).1 hv
                    exact ⟨c, h1, h2⟩)
                  unfold Hd
                  omega
                have HPS : Hd (Calls Tryz.prog 46 #[rdI (X + 2), .iface 3 (vI ((lwX N of d : Nat) : Int))] w8 fun e w' => e = .returned (.tuple #[]) ∧ ∃ l', Hp w' (X + 3) (X + 2) l' ∧ HS l' ∧ (∀ y, y ∈ l' ↔ y ∈ can3 ∨ y = ((lwX N of d : Nat) : Int)) ∧ l'.length = can3.length + 1 ∧ Fr (fun j => j = X + 2 ∨ X + 3 ≤ j) w8 w') := hpush_any (X + 3) (X + 2) can3 _ w8 HNR4.out.hp HNR4.out.hs HLD.out (by omega) HNR4.out.sz HLC3.out
                clear hW0
                go_wp2_with fail
                refine Calls.mono HPS.out ?_
                rintro e w9 ⟨rfl, l', hp9, hs9, hm9, -, hF9⟩
                have HN9 : Hd (∃ waits can, NM n (lwX N of) (cleX N n of cl) (clrX N n of cl) dn c (i + 1) (Wg.upd number c p) waits can ∧ Nr w1 w9 X n (Wg.upd number c p) waits can) := by
                  have k1 := HWD.out
                  have k2 := HW0.out
                  refine ⟨_, l', ?_, HNR4.out.heap hp9 hs9 hF9⟩
                  rw [k1]
                  exact HNM.out.step HNG.out HDD.out (fun x => by rw [hm9]; simp only [← k1, k2, and_true])
                clear hp9 hs9 hm9 hF9 HPS pm pfm c1 pw2 e0
                go_wp2_with fail
                go_roundg ((clrX N n of cl c).length - (i + 1))
                case measure => have := HG3.out; omega
                case rel => exact ⟨i + 1, by simp, by omega, rfl, HN9.out⟩
              · have e0 : (Wd == 0) = false := by simp [hW0]
                have HN9 : Hd (∃ waits can, NM n (lwX N of) (cleX N n of cl) (clrX N n of cl) dn c (i + 1) (Wg.upd number c p) waits can ∧ Nr w1 w8 X n (Wg.upd number c p) waits can) := by
                  have k1 := HWD.out
                  refine ⟨_, can3, ?_, HNR4.out⟩
                  rw [k1]
                  exact HNM.out.step HNG.out HDD.out (fun x => by simp only [← k1, hW0, and_false, or_false])
                clear hW0
                go_wp2_with fail
                go_roundg ((clrX N n of cl c).length - (i + 1))
                case measure => have := HG3.out; omega
                case rel => exact ⟨i + 1, by simp, by omega, rfl, HN9.out⟩
            · have hie : i = (clrX N n of cl c).length := by omega
              have d2 : decide ((i : Int) < ((clrX N n of cl c).length : Int)) = false := by simp; omega
              have d2n : ¬ i < (clrX N n of cl c).length := by omega
              have HN9 : Hd (∃ number dn waits can, Nr w1 wr X n number waits can ∧ NI n (lwX N of) (cleX N n of cl) dn number waits can ∧ dn.length = p + 1) := by
                rw [hie] at hnm
                exact ⟨_, _, _, _, hnr, hnm.end HNG.out, by rw [List.length_append, HDL.out]; rfl⟩
              clear hlti hnm hnr HN hie
              go_wp2_with fail
              go_roundg (n - (p + 1))
              case measure => have := HG.out; omega
              case rel => exact ⟨p + 1, by simp, by omega, rfl, HN9.out⟩
end Go.Proofs.YtjmbfjaahadbhaaGreatDoor
