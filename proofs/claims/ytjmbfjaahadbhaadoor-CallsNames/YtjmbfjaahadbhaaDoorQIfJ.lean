import Derived.Test.YtjmbfjaahadbhaaDoorQLkJ
import Derived.Test.YtjmbfjaahadbhaaDoorQLcJ
import Derived.Deep.RegionHeld3
import Derived.Test.YtjmbfjaahadbhaaDoorQA3J
import Derived.IntWalk
set_option linter.unusedVariables false
set_option linter.unusedSimpArgs false
namespace Go.Proofs.YtjmbfjaahadbhaaDoor
open Go.RowKit (wrap32 wrap64)

/-! ### who calls whom, as the statements see it -/
/-- Lists in a row that grows. -/
structure LOc (w : World) (B : Nat) (v : Value) (us : List Value) (ls : List (List Int)) : Prop where
  row : w.ownsRow B 25 1 v us.length us
  ul : us.length = ls.length
  each : ∀ i (h : i < us.length) (h' : i < ls.length), IOwn w B us[i] ls[i]
theorem LOc.stay {w w' : World} {B : Nat} {v : Value} {us : List Value} {ls : List (List Int)} (h : LOc w B v us ls) (f : Fr (fun _ => False) w w') : LOc w' B v us ls :=
  ⟨ownsRow_frL h.row f (fun _ _ e => e), h.ul, fun i hi hk => (h.each i hi hk).fr f (fun _ _ e => e)⟩
theorem LOc.grow {w w6 : World} {B g cap : Nat} {v x : Value} {us : List Value} {ls : List (List Int)} {l : List Int} (h : LOc w B v us ls) (hx : IOwn w B x l) (hg : w.grownBy w6 v.ownBlock) (ho : w6.ownsRow B 25 1 (.slice (some ⟨g, 0, none⟩) (us.length + 1) cap) (us.length + 1) (us ++ [x])) :
    LOc w6 B (.slice (some ⟨g, 0, none⟩) (us.length + 1) cap) (us ++ [x]) (ls ++ [l]) := by
  have f := grown_frL hg
  have ke : ∀ y s, IOwn w B y s → IOwn w6 B y s := fun y s hy => hy.fr f (fun j e e2 => own_apart h.row hy (by decide) j e e2)
  refine ⟨by rw [List.length_append]; exact ho, by simp [h.ul], fun i hi hk => ?_⟩
  rw [List.length_append, List.length_singleton] at hi
  by_cases e : i < us.length
  · rw [List.getElem_append_left e, List.getElem_append_left (by rw [← h.ul]; exact e)]
    exact ke _ _ (h.each i e (by rw [← h.ul]; exact e))
  · have ei : i = us.length := by omega
    subst ei
    rw [List.getElem_append_right (Nat.le_refl _), List.getElem_append_right (by rw [h.ul]; exact Nat.le_refl _)]
    simp only [Nat.sub_self, h.ul, List.getElem_cons_zero]
    exact ke _ _ hx
/-- Read. -/
theorem LOc.lb {w : World} {B : Nat} {v : Value} {us : List Value} {ls : List (List Int)} (h : LOc w B v us ls) : LB w.heap.size w v ls := by
  obtain ⟨a, c, e⟩ := own_slice h.row
  refine ⟨a, c, by rw [e, h.ul], fun hne => ?_⟩
  have hl0 : 0 < us.length := by rw [h.ul]; exact List.length_pos_iff.2 hne
  obtain ⟨g, cap, e2, -, -⟩ := own_cell h.row (j := 0) (u := us[0]) (List.getElem?_eq_getElem hl0)
  rw [e] at e2
  injection e2 with e3 e4 e5
  refine ⟨g, 0, e3, (World.ownsRow.lt h.row g (by rw [e, e3]; rfl)).2, fun i hi => ?_⟩
  have hi' : i < us.length := by rw [h.ul]; exact hi
  obtain ⟨g', cap', e6, -, hc⟩ := own_cell h.row (j := i) (u := us[i]) (List.getElem?_eq_getElem hi')
  rw [e, e3] at e6
  injection e6 with e7
  injection e7 with e7
  injection e7 with e7
  subst e7
  refine ⟨us[i], by rw [Nat.zero_add]; exact hc, ?_⟩
  have ho := h.each i hi' hi
  obtain ⟨a2, c2, e8, h2⟩ := ho.ia
  refine ⟨a2, c2, e8, fun hne2 => ?_⟩
  obtain ⟨k, o, e9, hk, h3⟩ := h2 hne2
  exact ⟨k, o, e9, hk, h3⟩
def ClE (fs : List PF) (w : World) (e : Ending) (w' : World) : Prop :=
  ∃ v, e = .returned v ∧ LB w'.heap.size w' v (zLs fs.length (clX fs)) ∧ Fr (fun _ => False) w w'
theorem under53 : Tryd.prog.underlying 53 = some (.slice 25) := by kernel_rfl
set_option maxRecDepth 100000 in
set_option maxHeartbeats 8000000 in
theorem called_any (G : Int) (fv : Value) (fs : List PF) (w : World) (h : FA w fv fs) (hok : CallOk fs) (hN : fs.length ≤ 1000000) (hL : ∀ f ∈ fs, f.code.length ≤ 1000000000) :
    Calls Tryd.prog 24 #[.agg #[vI G, fv]] w (ClE fs w) := by
  obtain ⟨a0, c0, efv, -⟩ := id h
  subst efv
  have HFA : Hd (FA w (.slice a0 fs.length c0) fs) := h
  have HOK : Hd (CallOk fs) := hok
  have HL : Hd (∀ f ∈ fs, f.code.length ≤ 1000000000) := hL
  obtain ⟨wa, hwa⟩ : ∃ wa, wa = w.alloc (.cells #[vI G, .slice a0 fs.length c0] 24) := ⟨_, rfl⟩
  obtain ⟨H, hH⟩ : ∃ H, H = w.heap.size := ⟨_, rfl⟩
  have HH : Hd (H = w.heap.size) := hH
  have hFa : Fr (fun _ => False) w wa := by rw [hwa]; exact Fr.alloc (Fr.refl _ w) _
  have HBB : Hd (wa.heap[H]? = some (.cells #[vI G, .slice a0 fs.length c0] 24)) := by unfold Hd; rw [hwa, hH]; exact heap_new0 w _
  have HFB : Hd (Fr (fun _ => False) w wa) := hFa
  have HWA : Hd (wa = w.alloc (.cells #[vI G, .slice a0 fs.length c0] 24)) := hwa
  have HSB : Hd (H + 1 ≤ wa.heap.size) := by unfold Hd; rw [hwa, World.size_alloc, hH]; exact Nat.le_refl _
  have c1 : wa.cell? ⟨H, 1, none⟩ = some (.slice a0 fs.length c0) := by rw [cell_of0 HBB.out]; rfl
  clear h hok hL hwa hH hFa
  go_enter Tryd.func24, Tryd.ntmps24
  go_upto_region 1 with fail
  rw [← HWA.out, ← HH.out]
  clear HWA
  go_wp2_with fail
  go_loopw [3, 4] (fun v3 v wx => ∃ (k : Nat) (us : List Value), v = .int .i64 k ∧ k ≤ fs.length ∧ Hd (us.length = k ∧ LOc wx (H + 1) v3 us ((List.range k).map (fun f => zL (clX fs f)))) ∧ Hd (wx.heap[H]? = some (.cells #[vI G, .slice a0 fs.length c0] 24)) ∧ Hd (Fr (fun _ => False) w wx) ∧ Hd (H + 1 ≤ wx.heap.size)) (fun _ v _ => match v with | .int _ q => fs.length - q.toNat | _ => 0)
  case atStart => exact ⟨0, [], by simp, Nat.zero_le _, ⟨rfl, World.ownsRow_nil _ _ _ _, rfl, fun i hi => by simp at hi⟩, HBB.out, HFB.out, HSB.out⟩
  case round =>
    clear HBB HFB HSB c1
    obtain ⟨k, us, rfl, hk, HO, HB, HF, HS⟩ := hrel
    have c1 : wr.cell? ⟨H, 1, none⟩ = some (.slice a0 fs.length c0) := by rw [cell_of0 HB.out]; rfl
    by_cases hlt : k < fs.length
    · have d1 : decide ((k : Int) < (fs.length : Int)) = true := by simp; omega
      have k0 : (0 : Int) ≤ k := by omega
      have k1 : (k : Int) < fs.length := by omega
      obtain ⟨a, cp, e, hh⟩ := HFA.out
      obtain ⟨fk, fo, e2, hfk, hg⟩ := hh (fun e => by simp [e] at hlt)
      obtain ⟨cv0, -, -, -, p3, hca⟩ := hg k hlt
      rw [e2] at e
      injection e with e eL eC
      clear eL eC
      subst e
      obtain ⟨ca, cc, ecv, hcode⟩ := id hca
      subst ecv
      have HP3 : Hd (w.cell? ⟨fk, fo + k * 4 + 3, none⟩ = some (.slice ca fs[k].code.length cc) ∧ fk < w.heap.size) := ⟨p3, hfk⟩
      have hcl := HL.out _ (List.getElem_mem hlt)
      have HCD : Hd (CA w (.slice ca fs[k].code.length cc) fs[k].code) := hca
      have HCK : Hd (∀ c ∈ fs[k].code, c.op = 11 → 0 ≤ c.n ∧ c.n < (fs.length : Int)) := HOK.out _ (List.getElem_mem hlt)
      have HCX : Hd (clX fs k = callX fs[k].code) := clX_at hlt
      generalize hcs : fs[k].code = cs at *
      have HI0 : Hd (IOwn wr wr.heap.size (.slice none 0 0) (zL (callX (cs.take 0)))) := World.ownsRow_nil _ _ _ _
      clear hcs hg hh hca hcode p3 hlt
      go_wp2_with fail
      obtain ⟨wi, hwi⟩ : ∃ wi, wi = wr := ⟨_, rfl⟩
      rw [← hwi] at HO HB HF HS HI0 ⊢
      have HFI : Hd (Fr (fun _ => False) wi wi) := Fr.refl _ _
      clear hwi c1
      go_loopw [5, 6] (fun v5 v wx => ∃ j : Nat, v = .int .i64 j ∧ j ≤ cs.length ∧ Hd (IOwn wx wi.heap.size v5 (zL (callX (cs.take j)))) ∧ Hd (Fr (fun _ => False) wi wx)) (fun _ v _ => match v with | .int _ q => cs.length - q.toNat | _ => 0)
      case atStart => exact ⟨0, by simp, Nat.zero_le _, HI0.out, HFI.out⟩
      case round =>
        clear HI0 HFI
        obtain ⟨j, rfl, hj, HI, HFI⟩ := hrel
        have hHlt : H < wi.heap.size := by have := HS.out; omega
        have c1 : wr.cell? ⟨H, 1, none⟩ = some (.slice (some ⟨fk, fo, none⟩) fs.length c0) := by rw [HFI.out.cell hHlt (fun e => e), cell_of0 HB.out]; rfl
        have p3 : wr.cell? ⟨fk, fo + k * 4 + 3, none⟩ = some (.slice ca cs.length cc) := ((HF.out.trans HFI.out).cell HP3.out.2 (fun e => e)).trans HP3.out.1
        by_cases hlj : j < cs.length
        · have d2 : decide ((j : Int) < (cs.length : Int)) = true := by simp; omega
          have j0 : (0 : Int) ≤ j := by omega
          have j1 : (j : Int) < cs.length := by omega
          obtain ⟨a, cp, e, hh⟩ := HCD.out
          obtain ⟨ck, co, e2, hck, hg⟩ := hh (fun e => by simp [e] at hlj)
          obtain ⟨av, rv, q0, -, -, -, q4, -⟩ := hg j hlj
          rw [e2] at e
          injection e with e eL eC
          clear eL eC
          subst e
          have m : ∀ o, wr.cell? ⟨ck, o, none⟩ = w.cell? ⟨ck, o, none⟩ := fun o => (HF.out.trans HFI.out).cell hck (fun e => e)
          rw [← m] at q0 q4
          have HT : Hd (callX (cs.take (j + 1)) = callX (cs.take j) ++ if cs[j].op = 11 then [cs[j].n.toNat] else []) := callX_next hlj
          have HKJ : Hd (cs[j].op = 11 → 0 ≤ cs[j].n ∧ cs[j].n < (fs.length : Int)) := HCK.out _ (List.getElem_mem hlj)
          have hlen : (callX (cs.take j)).length ≤ 1000000000 := by
            unfold callX
            rw [List.length_map]
            have := List.length_filter_le (fun c => c.op == 11) (cs.take j)
            rw [List.length_take] at this
            omega
          generalize cs[j] = c at *
          clear hg hh m hlj
          by_cases hop : c.op = 11
          · have eop : (c.op == 11) = true := by simp [hop]
            obtain ⟨n, hn⟩ : ∃ n : Nat, c.n = (n : Int) := ⟨c.n.toNat, by have := HKJ.out hop; omega⟩
            have HT2 : Hd (callX (cs.take (j + 1)) = callX (cs.take j) ++ [n]) := by
              unfold Hd
              rw [HT.out, if_pos hop, hn]
              rfl
            rw [hn] at q4
            obtain ⟨va, vc, ev⟩ := iown_cap HI.out
            subst ev
            have hCz : Fr (fun _ => False) wr (wr.alloc (.cells #[vI (n : Int)] 3)) := Fr.alloc (Fr.refl _ wr) _
            have HFz : Hd (Fr (fun _ => False) wr (wr.alloc (.cells #[vI (n : Int)] 3))) := hCz
            have HRW : Hd ((wr.alloc (.cells #[vI (n : Int)] 3)).ownsRow wi.heap.size 3 1 (.slice va (zL (callX (cs.take j))).length vc) (zL (callX (cs.take j))).length ((zL (callX (cs.take j))).map vI)) := ownsRow_frL HI.out hCz (fun _ _ e => e)
            have HNW : Hd (∀ j' u, [vI (n : Int)][j']? = some u → (wr.alloc (.cells #[vI (n : Int)] 3)).cell? ((⟨wr.heap.size, 0, none⟩ : Addr).add j') = some u) := World.news_of_block (w := wr.alloc (.cells #[vI (n : Int)] 3)) (cs := #[vI (n : Int)]) (heap_new0 wr _)
            have HSZ : Hd ((wr.alloc (.cells #[vI (n : Int)] 3)).heap.size = wr.heap.size + 1) := World.size_alloc _ _
            have HBS : Hd (wi.heap.size ≤ (wr.alloc (.cells #[vI (n : Int)] 3)).heap.size) := by have := HSZ.out; have := HFI.out.size; unfold Hd; omega
            have HZL : Hd ((zL (callX (cs.take j))).length ≤ 1000000000) := by unfold Hd; rw [List.length_map]; exact hlen
            have HGE : Hd (∀ q, (Value.slice va (zL (callX (cs.take j))).length vc).ownBlock = some q → wi.heap.size ≤ q) := fun q e => (HI.out.ge q e).1
            have HL2 : Hd (zL (callX (cs.take (j + 1))) = zL (callX (cs.take j)) ++ [(n : Int)]) := by unfold Hd; rw [HT2.out, zL_app]
            generalize zL (callX (cs.take j)) = L at *
            clear hop hn HT HKJ HT2 hCz hlen
            go_wp2_with ((at_builtin; refine Hd.out ?_))
            unfold Hd
            obtain ⟨i3, hi3, hz3, hs3, hb3⟩ := info_parts (P := Tryd.prog) (e := 3) (z := .int .i64 0) (size := 1) (bytes := 8) (by kernel_rfl)
            refine wpList_append_lies _ rfl (.tmp 36) (.tmp 47) 25 rfl wi.heap.size 3 i3 (.int .i64 0) 1 8 under64 hi3 hz3 hs3 hb3 rfl (by omega) (.slice va L.length vc) L.length _ rfl HRW.out ⟨wr.heap.size, 0, none⟩ 1 1 [vI (n : Int)] rfl rfl HNW.out (by intro u hu; rw [List.mem_singleton] at hu; rw [hu]; rfl) (by omega) (by have := HZL.out; unfold maxLen; omega) (by have := HZL.out; omega) HBS.out (wr.heap.size + 1) (by simp) ?_
            intro g6 cap6 w6 hown6 hgrow6 hat6 hlt6
            clear hi3 hz3 hs3 hb3
            have HI6 : Hd (IOwn w6 wi.heap.size (.slice (some ⟨g6, 0, none⟩) (L.length + 1) cap6) (zL (callX (cs.take (j + 1))))) := by
              unfold Hd
              rw [HL2.out]
              unfold IOwn
              simpa using hown6
            have HF6 : Hd (Fr (fun _ => False) wi w6) := (HFI.out.trans HFz.out).then (grown_frL hgrow6) (fun q hq e => by have := HGE.out q e; omega)
            clear hown6 hgrow6 hat6 hlt6 HRW HNW HSZ HBS HFz
            go_wp2_with fail
            go_roundw
            case measure => simp; omega
            case rel => exact ⟨j + 1, by simp, by omega, HI6.out, HF6.out⟩
          · have eop : (c.op == 11) = false := by simp [hop]
            have HI6 : Hd (IOwn wr wi.heap.size u5 (zL (callX (cs.take (j + 1))))) := by
              unfold Hd
              rw [HT.out, if_neg hop, List.append_nil]
              exact HI.out
            clear hop HT HKJ
            go_wp2_with fail
            go_roundw
            case measure => simp; omega
            case rel => exact ⟨j + 1, by simp, by omega, HI6.out, HFI.out⟩
        · have d2 : decide ((j : Int) < (cs.length : Int)) = false := by simp; omega
          have d2n : ¬ j < cs.length := by omega
          have hIk : IOwn wr wi.heap.size u5 (zL (clX fs k)) := by
            have := HI.out
            rw [List.take_of_length_le (by omega), ← HCX.out] at this
            exact this
          obtain ⟨va, vc, ev⟩ := iown_cap hIk
          have hO1 := HO.out.2.stay HFI.out
          obtain ⟨ra, rc, er⟩ := own_slice hO1.row
          rw [HO.out.1] at er
          have hCz : Fr (fun _ => False) wr (wr.alloc (.cells #[.slice va (zL (clX fs k)).length vc] 25)) := Fr.alloc (Fr.refl _ wr) _
          subst ev er
          have HFz : Hd (Fr (fun _ => False) wr (wr.alloc (.cells #[.slice va (zL (clX fs k)).length vc] 25))) := hCz
          have HOz : Hd (LOc (wr.alloc (.cells #[.slice va (zL (clX fs k)).length vc] 25)) (H + 1) (.slice ra k rc) us ((List.range k).map (fun f => zL (clX fs f)))) := hO1.stay hCz
          have HIz : Hd (IOwn (wr.alloc (.cells #[.slice va (zL (clX fs k)).length vc] 25)) (H + 1) (.slice va (zL (clX fs k)).length vc) (zL (clX fs k))) := (hIk.fr hCz (fun _ _ e => e)).mono HS.out
          have HRW : Hd ((wr.alloc (.cells #[.slice va (zL (clX fs k)).length vc] 25)).ownsRow (H + 1) 25 1 (.slice ra k rc) k us) := by
            have := HOz.out.row
            rw [HO.out.1] at this
            exact this
          have HNW : Hd (∀ j' u, [Value.slice va (zL (clX fs k)).length vc][j']? = some u → (wr.alloc (.cells #[.slice va (zL (clX fs k)).length vc] 25)).cell? ((⟨wr.heap.size, 0, none⟩ : Addr).add j') = some u) := World.news_of_block (w := wr.alloc (.cells #[.slice va (zL (clX fs k)).length vc] 25)) (cs := #[.slice va (zL (clX fs k)).length vc]) (heap_new0 wr _)
          have HSZ : Hd ((wr.alloc (.cells #[.slice va (zL (clX fs k)).length vc] 25)).heap.size = wr.heap.size + 1) := World.size_alloc _ _
          have HBS : Hd (H + 1 ≤ (wr.alloc (.cells #[.slice va (zL (clX fs k)).length vc] 25)).heap.size) := by have := HSZ.out; have := HFI.out.size; have := HS.out; unfold Hd; omega
          have HUL : Hd (us.length = k) := HO.out.1
          have HRG : Hd ((List.range (k + 1)).map (fun f => zL (clX fs f)) = (List.range k).map (fun f => zL (clX fs f)) ++ [zL (clX fs k)]) := by unfold Hd; rw [List.range_succ, List.map_append]; rfl
          have hkb : k ≤ 1000000 := by omega
          have HGE : Hd (∀ q, (Value.slice ra k rc).ownBlock = some q → H + 1 ≤ q ∧ q < wr.heap.size) := fun q e => by
            have := World.ownsRow.lt hO1.row q (by rw [← e])
            exact this
          clear hIk hO1 hCz HI hlj HO
          generalize zL (clX fs k) = L at *
          go_wp2_with ((at_builtin; refine Hd.out ?_))
          unfold Hd
          obtain ⟨i3, hi3, hz3, hs3, hb3⟩ := info_parts (P := Tryd.prog) (e := 25) (z := .slice none 0 0) (size := 1) (bytes := 24) (by kernel_rfl)
          refine wpList_append_lies _ rfl (.tmp 49) (.tmp 51) 53 rfl (H + 1) 25 i3 (.slice none 0 0) 1 24 under53 hi3 hz3 hs3 hb3 rfl (by omega) (.slice ra k rc) k _ rfl HRW.out ⟨wr.heap.size, 0, none⟩ 1 1 [.slice va L.length vc] rfl rfl HNW.out (by intro u hu; rw [List.mem_singleton] at hu; rw [hu]; rfl) (by omega) (by unfold maxLen; omega) (by omega) HBS.out (wr.heap.size + 1) (by simp) ?_
          intro g6 cap6 w6 hown6 hgrow6 hat6 hlt6
          clear hi3 hz3 hs3 hb3
          have HO6 : Hd ((us ++ [Value.slice va L.length vc]).length = k + 1 ∧ LOc w6 (H + 1) (.slice (some ⟨g6, 0, none⟩) (k + 1) cap6) (us ++ [.slice va L.length vc]) ((List.range (k + 1)).map (fun f => zL (clX fs f)))) := by
            refine ⟨by rw [List.length_append, HUL.out]; rfl, ?_⟩
            rw [HRG.out]
            have k1 := HOz.out.grow (g := g6) (cap := cap6) HIz.out hgrow6 (by rw [HUL.out]; exact hown6)
            rw [HUL.out] at k1
            exact k1
          have hfr : Fr (fun q => (Value.slice ra k rc).ownBlock = some q) wr w6 := (HFz.out.mono (fun _ _ e => e.elim)).trans (grown_frL hgrow6)
          have HB6 : Hd (w6.heap[H]? = some (.cells #[vI G, .slice (some ⟨fk, fo, none⟩) fs.length c0] 24)) := (hfr.block H (Nat.lt_of_lt_of_le hHlt HFI.out.size) (fun e => by have := (HGE.out H e).1; omega)).trans (keepF HB.out HFI.out)
          have HF6 : Hd (Fr (fun _ => False) w w6) := (HF.out.trans HFI.out).then hfr (fun q hq e => by have := (HGE.out q e).1; have := HH.out; omega)
          have HS6 : Hd (H + 1 ≤ w6.heap.size) := by have := hfr.size; have := HFI.out.size; have := HS.out; unfold Hd; omega
          clear hown6 hgrow6 hat6 hlt6 HRW HNW HSZ HBS HFz HOz HIz hfr
          go_wp2_with fail
          go_roundw
          case measure => simp; omega
          case rel => exact ⟨k + 1, _, by simp, by omega, HO6.out, HB6.out, HF6.out, HS6.out⟩
    · have d1 : decide ((k : Int) < (fs.length : Int)) = false := by simp; omega
      have d1n : ¬ k < fs.length := by omega
      have HE : Hd (ClE fs w (.returned u3) wr) := by
        have e : k = fs.length := by omega
        have := HO.out.2.lb
        rw [e] at this
        exact ⟨u3, rfl, this, HF.out⟩
      clear hlt HO
      go_wp2_with fail
      go_ret
      exact HE.out

/-- A list that was told, and lies there from then on. -/
def Lst (w : World) (g : Nat) (l : List Nat) : Prop := ∀ W, Fr (fun _ => False) w W → ∀ i x, l[i]? = some x → W.cell? ⟨g, i, none⟩ = some (vI (x : Nat))
theorem lst_of {w : World} {B : Nat} {v : Value} {l : List Nat} (h : IOwn w B v (zL l)) : ∃ a c, v = .slice a l.length c ∧ (0 < l.length → ∃ g, a = some ⟨g, 0, none⟩ ∧ Lst w g l) := by
  obtain ⟨a, c, e⟩ := iown_cap h
  rw [List.length_map] at e
  refine ⟨a, c, e, fun hl => ?_⟩
  obtain ⟨g, c2, e2, -, hc⟩ := iown_some h (by rw [List.length_map]; exact hl)
  rw [e] at e2
  injection e2 with e3 e4 e5
  refine ⟨g, e3, fun W f i x hx => ?_⟩
  have hi : i < l.length := by
    by_cases q : i < l.length
    · exact q
    · rw [List.getElem?_eq_none (by omega)] at hx; cases hx
  have hk : g < w.heap.size := (h.ge g (by rw [e, e3]; rfl)).2
  rw [f.cell hk (fun e => e), hc i (by rw [List.length_map]; exact hi)]
  rw [List.getElem?_eq_getElem hi] at hx
  injection hx with hx
  simp [hx]
end Go.Proofs.YtjmbfjaahadbhaaDoor
namespace Go.Proofs.YtjmbfjaahadbhaaDoor

/-! ### a region that draws its order, operation by operation in the text's order -/
section
variable {P : Program} {ops : Array Oper} {Q : Exit → Act → World → Prop} {md : Region.Mode} {S : World → Prop}
/-- An operation that yields in every world of the class is taken first. -/
theorem heldTake {i : Nat} (d : Tmp) {oi : Oper} {v : Value} {fuel : Nat} {listed : Array Bool} {a : Act} {w : World} (hi : ops[i]? = some oi) (hd : oi.dst = some d)
    (hs : Region.noSelect ops = true) (hf : Region.free md ops listed i = true) (hr : (Region.ready md ops listed).contains i = true)
    (hQ : ∀ c a w, Q (.panic c) (a.put (some d) v) w → Q (.panic c) a w) (hw : Region.wanted oi (yielded ops a.tmps) = true) (hy : ∀ w, S w → (execOp a.eval oi).run P w = .ok (.value v) w) (hS : S w)
    (h : wpAnyH P md ops Q S fuel (listed.setIfInBounds i true) (a.put (some d) v) w) : wpAnyH P md ops Q S (fuel + 1) listed a w :=
  wpAnyH_take hi hs hf hr (by rw [hd]; exact hQ) (Or.inl ⟨hw, hy⟩) hS (by rw [hd]; exact h)
/-- One that is passed over. -/
theorem heldPass {i : Nat} (d : Tmp) {oi : Oper} {fuel : Nat} {listed : Array Bool} {a : Act} {w : World} (hi : ops[i]? = some oi) (hd : oi.dst = some d)
    (hs : Region.noSelect ops = true) (hf : Region.free md ops listed i = true) (hr : (Region.ready md ops listed).contains i = true)
    (hQ : ∀ c a w, Q (.panic c) (a.put (some d) undef) w → Q (.panic c) a w) (hw : Region.wanted oi (yielded ops a.tmps) = false) (hS : S w)
    (h : wpAnyH P md ops Q S fuel (listed.setIfInBounds i true) (a.put (some d) undef) w) : wpAnyH P md ops Q S (fuel + 1) listed a w :=
  wpAnyH_take hi hs hf hr (by rw [hd]; exact hQ) (Or.inr ⟨hw, rfl⟩) hS (by rw [hd]; exact h)
/-- One alone may come up. -/
theorem heldOne {i : Nat} {o : Oper} {fuel : Nat} {listed : Array Bool} {a : Act} {w : World} (ho : ops[i]? = some o) (hr : Region.ready md ops listed = [i])
    (h : ∀ K' : Act → World → Prop, Shut (∀ a w, S w → wpAnyH P md ops Q S fuel (listed.setIfInBounds i true) a w → K' a w) → if Region.wanted o (yielded ops a.tmps) = true then Oper.wp P o a w K' Q else K' (a.put o.dst undef) w) : wpAnyH P md ops Q S (fuel + 1) listed a w := by
  refine wpAnyH_all hr (by simp) (fun j hj => ?_)
  obtain rfl := List.mem_singleton.1 hj
  exact wpOp_step ho (fun K' hK => h K' (fun a w h1 h2 => hK a w ⟨h1, h2⟩))
end
end Go.Proofs.YtjmbfjaahadbhaaDoor
namespace Go.Proofs.YtjmbfjaahadbhaaDoor
open Go.RowKit (wrap32 wrap64)
theorem w64s (x : Int) (h : -1000000000000000000 ≤ x) (h' : x ≤ 1000000000000000000) : wrap64 x = x := by
  unfold wrap64
  omega
end Go.Proofs.YtjmbfjaahadbhaaDoor
