import Derived.Test.YtjmbfjaahadbhaaGreatDoorQNeJ
import Derived.Test.YtjmbfjaahadbhaaGreatDoorQIfJ
import Derived.Test.YtjmbfjaahadbhaaGreatDoorQRaJ
import Derived.Deep.RegionHeld3
set_option linter.unusedVariables false
set_option linter.unusedSimpArgs false
namespace Go.Proofs.YtjmbfjaahadbhaaGreatDoor
open Go.RowKit (wrap32 wrap64)

/-- The components as far as they are told. -/
def cmkX (N : Nat) (of : Nat → Nat) (k : Nat) : List Nat := (List.range k).filter (fun f => lwX N of (of f) == f)
theorem cmkX_next (N : Nat) (of : Nat → Nat) (k : Nat) : cmkX N of (k + 1) = if lwX N of (of k) = k then cmkX N of k ++ [k] else cmkX N of k := by
  unfold cmkX
  rw [List.range_succ, List.filter_append]
  by_cases e : lwX N of (of k) = k
  · rw [if_pos e]; simp [e]
  · rw [if_neg e]; simp [e]
theorem cmkX_len (N : Nat) (of : Nat → Nat) (k : Nat) : (cmkX N of k).length ≤ k := by
  unfold cmkX
  have := List.length_filter_le (fun f => lwX N of (of f) == f) (List.range k)
  rwa [List.length_range] at this
/-- A component's functions as far as they are found. -/
def mkX (of : Nat → Nat) (f g : Nat) : List Nat := (List.range g).filter (fun x => decide (of x = of f))
theorem mkX_next (of : Nat → Nat) (f g : Nat) : mkX of f (g + 1) = if of g = of f then mkX of f g ++ [g] else mkX of f g := by
  unfold mkX
  rw [List.range_succ, List.filter_append]
  by_cases e : of g = of f
  · rw [if_pos e]; simp [e]
  · rw [if_neg e]; simp [e]
theorem mkX_len (of : Nat → Nat) (f g : Nat) : (mkX of f g).length ≤ g := by
  unfold mkX
  have := List.length_filter_le (fun x => decide (of x = of f)) (List.range g)
  rwa [List.length_range] at this
/-- What the document's components leaves. -/
def CmE (N : Nat) (of : Nat → Nat) (w : World) (e : Ending) (w' : World) : Prop :=
  ∃ v us, e = .returned v ∧ LOc w' w.heap.size v us ((cmpX N of).map (fun f => zL (memX N of (of f)))) ∧ Fr (fun _ => False) w w'
set_option maxRecDepth 100000 in
set_option maxHeartbeats 8000000 in
theorem rcomponents_any {N n ck co cc : Nat} {of : Nat → Nat} {cl : Nat → List Nat} (w : World) (h : LB w.heap.size w (.slice (some ⟨ck, co, none⟩) N cc) (zLs N cl)) (hcl : ∀ x, x < N → ∀ z ∈ cl x, z < N) (hll : ∀ x, x < N → (cl x).length ≤ 1000000000) (hN : N ≤ 65535) (hg : Rg N cl n of) :
    Calls Tryz.prog 22 #[.slice (some ⟨ck, co, none⟩) N cc] w (CmE N of w) := by
  have HLB : Hd (∀ W, Fr (fun _ => False) w W → LB W.heap.size W (.slice (some ⟨ck, co, none⟩) N cc) (zLs N cl)) := fun W fW => (h.fr (Nat.le_refl _) fW (fun _ _ e => e)).up fW.size
  have HCL : Hd ((∀ x, x < N → ∀ z ∈ cl x, z < N) ∧ ∀ x, x < N → (cl x).length ≤ 1000000000) := ⟨hcl, hll⟩
  have HRG : Hd (Rg N cl n of) := hg
  have HS0 : Hd (LOb N cl w w.heap.size (.slice none 0 0) [] ∧ Fr (fun _ => False) w w) := ⟨⟨World.ownsRow_nil _ _ _ _, fun i hi => by simp at hi⟩, Fr.refl _ _⟩
  clear h hcl hll hg
  go_enter Tryz.func22, Tryz.ntmps22
  go_wp2_with fail
  go_loopw [3, 4] (fun v3 v wx => ∃ (k : Nat) (us : List Value), v = .int .i64 k ∧ k ≤ N ∧ Hd (us.length = k ∧ LOb N cl wx w.heap.size v3 us ∧ Fr (fun _ => False) w wx)) (fun _ v _ => match v with | .int _ q => N - q.toNat | _ => 0)
  case atStart => exact ⟨0, [], by simp, Nat.zero_le _, rfl, HS0.out⟩
  case round =>
    clear HS0
    obtain ⟨k, us, rfl, hk, HS⟩ := hrel
    by_cases hlt : k < N
    · have d1 : decide ((k : Int) < (N : Int)) = true := by simp; omega
      have HRE : Hd (Calls Tryz.prog 53 #[.slice (some ⟨ck, co, none⟩) N cc, vI (k : Int)] wr (RcE N cl k wr)) := reached_any wr (HLB.out wr HS.out.2.2) HCL.out.1 HCL.out.2 (by omega) hlt
      have hul := HS.out.1
      obtain ⟨ra, rc, er⟩ := own_slice HS.out.2.1.row
      rw [hul] at er
      subst er
      clear hul
      go_wp2_with fail
      refine Calls.mono HRE.out ?_
      rintro e w5 ⟨vr, sn, rfl, hob, hsn, hF5⟩
      have HOB : Hd (OB w5 w.heap.size vr N sn) := World.ownsRow.mono hob HS.out.2.2.size
      have HSN : Hd (∀ x, x < N → (sn x = true ↔ Rch cl k x)) := hsn
      have HS5 : Hd (us.length = k ∧ LOb N cl w5 w.heap.size (.slice ra k rc) us ∧ Fr (fun _ => False) w w5) := ⟨HS.out.1, HS.out.2.1.stay hF5, HS.out.2.2.trans hF5⟩
      clear hob hsn hF5 HRE HS
      have hCz : Fr (fun _ => False) w5 (w5.alloc (.cells #[vr] 89)) := Fr.alloc (Fr.refl _ w5) _
      have HFz : Hd (Fr (fun _ => False) w5 (w5.alloc (.cells #[vr] 89))) := hCz
      have HLz : Hd (LOb N cl (w5.alloc (.cells #[vr] 89)) w.heap.size (.slice ra k rc) us) := HS5.out.2.1.stay hCz
      have HOz : Hd (OB (w5.alloc (.cells #[vr] 89)) w.heap.size vr N sn) := HOB.out.stay hCz
      have HRW : Hd ((w5.alloc (.cells #[vr] 89)).ownsRow w.heap.size 89 1 (.slice ra k rc) k us) := by have := HLz.out.row; rw [HS5.out.1] at this; exact this
      have HNW : Hd (∀ j' u, [vr][j']? = some u → (w5.alloc (.cells #[vr] 89)).cell? ((⟨w5.heap.size, 0, none⟩ : Addr).add j') = some u) := World.news_of_block (w := w5.alloc (.cells #[vr] 89)) (cs := #[vr]) (heap_new0 w5 _)
      have HBS : Hd (w.heap.size ≤ (w5.alloc (.cells #[vr] 89)).heap.size) := by have := HS5.out.2.2.size; have := hCz.size; unfold Hd; omega
      have HGE : Hd (∀ q, (Value.slice ra k rc).ownBlock = some q → w.heap.size ≤ q) := fun q e => (World.ownsRow.lt HRW.out q e).1
      obtain ⟨sa, sc, es⟩ := own_slice HOB.out
      subst es
      clear hCz
      go_wp2_with ((at_builtin; refine Hd.out ?_))
      unfold Hd
      obtain ⟨i3, hi3, hz3, hs3, hb3⟩ := info_parts (P := Tryz.prog) (e := 89) (z := .slice none 0 0) (size := 1) (bytes := 24) (by kernel_rfl)
      refine wpList_append_lies _ rfl (.tmp 16) (.tmp 20) 88 rfl w.heap.size 89 i3 (.slice none 0 0) 1 24 under55 hi3 hz3 hs3 hb3 rfl (by omega) (.slice ra k rc) k _ rfl HRW.out ⟨w5.heap.size, 0, none⟩ 1 1 [.slice sa N sc] rfl rfl HNW.out (by intro u hu; rw [List.mem_singleton] at hu; rw [hu]; rfl) (by omega) (by unfold maxLen; omega) (by omega) HBS.out (w5.heap.size + 1) (by simp) ?_
      intro g6 cap6 w6 hown6 hgrow6 hat6 hlt6
      clear hi3 hz3 hs3 hb3
      have HS6 : Hd ((us ++ [Value.slice sa N sc]).length = k + 1 ∧ LOb N cl w6 w.heap.size (.slice (some ⟨g6, 0, none⟩) (k + 1) cap6) (us ++ [.slice sa N sc]) ∧ Fr (fun _ => False) w w6) := by
        refine ⟨by rw [List.length_append, HS5.out.1]; rfl, ?_, (HS5.out.2.2.trans HFz.out).then (grown_frL hgrow6) (fun q hq e => by have := HGE.out q e; omega)⟩
        have k1 := HLz.out.grow (g := g6) (cap := cap6) HOz.out (by rw [HS5.out.1]; exact HSN.out) hgrow6 (by rw [HS5.out.1]; exact hown6)
        rw [HS5.out.1] at k1
        exact k1
      clear hown6 hgrow6 hat6 hlt6 HRW HNW HBS HFz HLz HOz HOB HS5
      go_wp2_with fail
      go_roundw
      case measure => simp; omega
      case rel => exact ⟨k + 1, _, by simp, by omega, HS6.out⟩
    · have d1 : decide ((k : Int) < (N : Int)) = false := by simp; omega
      have d1n : ¬ k < N := hlt
      have hul : us.length = N := by have := HS.out.1; omega
      have HRD : Hd (∀ i, i < N → ∃ g c gi ci, ∃ sn : Nat → Bool, u3 = .slice (some ⟨g, 0, none⟩) N c ∧ (∀ W, Fr (fun _ => False) wr W → W.cell? ⟨g, i, none⟩ = some (.slice (some ⟨gi, 0, none⟩) N ci) ∧ ∀ x, x < N → W.cell? ⟨gi, x, none⟩ = some (.bool (sn x))) ∧ ∀ x, x < N → (sn x = true ↔ Rch cl i x)) := fun i hi => HS.out.2.1.at hul hi
      obtain ⟨wk, hwk⟩ : ∃ wk, wk = wr := ⟨_, rfl⟩
      rw [← hwk] at HRD HS ⊢
      have HFK : Hd (Fr (fun _ => False) w wk) := HS.out.2.2
      have HO0 : Hd (LOc wk wk.heap.size (.slice none 0 0) [] ((cmkX N of 0).map (fun f => zL (memX N of (of f)))) ∧ Fr (fun _ => False) wk wk) := ⟨⟨World.ownsRow_nil _ _ _ _, rfl, fun i hi => by simp at hi⟩, Fr.refl _ _⟩
      clear hlt hul HS hk hwk
      go_wp2_with fail
      go_loopw [5, 6] (fun v5 v wx => ∃ (f : Nat) (us : List Value), v = .int .i64 f ∧ f ≤ N ∧ Hd (LOc wx wk.heap.size v5 us ((cmkX N of f).map (fun f => zL (memX N of (of f)))) ∧ Fr (fun _ => False) wk wx)) (fun _ v _ => match v with | .int _ q => N - q.toNat | _ => 0)
      case atStart => exact ⟨0, [], by simp, Nat.zero_le _, HO0.out⟩
      case round =>
        clear HO0 d1 d1n
        obtain ⟨f, us, rfl, hf, HO⟩ := hrel
        by_cases hlt : f < N
        · have d1 : decide ((f : Int) < (N : Int)) = true := by simp; omega
          have HLF : Hd (f < N) := hlt
          have f0 : (0 : Int) ≤ f := by omega
          have f1 : (f : Int) < N := by omega
          obtain ⟨wi, hwi⟩ : ∃ wi, wi = wr := ⟨_, rfl⟩
          rw [← hwi] at HO ⊢
          have HI0 : Hd (IOwn wi wi.heap.size (.slice none 0 0) (zL (mkX of f 0)) ∧ Fr (fun _ => False) wi wi) := ⟨World.ownsRow_nil _ _ _ _, Fr.refl _ _⟩
          clear hwi
          go_wp2_with fail
          go_loopw [7, 8, 9] (fun v7 v8 v wx => ∃ (g : Nat) (fb : Bool), v = .int .i64 g ∧ v8 = .bool fb ∧ g ≤ N ∧ Hd (fb = true ↔ ∀ x, x < g → x < f → of x ≠ of f) ∧ Hd (IOwn wx wi.heap.size v7 (zL (mkX of f g)) ∧ Fr (fun _ => False) wi wx)) (fun _ _ v _ => match v with | .int _ q => N - q.toNat | _ => 0)
          case atStart => exact ⟨0, true, by simp, rfl, Nat.zero_le _, by unfold Hd; simp, HI0.out⟩
          case round =>
            clear HI0
            obtain ⟨g, fb, rfl, rfl, hgN, HB, HI⟩ := hrel
            by_cases hltg : g < N
            · have d2 : decide ((g : Int) < (N : Int)) = true := by simp; omega
              obtain ⟨rg, cap, gf, cf, snf, ev, hf1, hf2⟩ := HRD.out f HLF.out
              obtain ⟨rg', cap', gg, cg, sng, ev', hg1, hg2⟩ := HRD.out g hltg
              have e3 : Value.slice (some ⟨rg, 0, none⟩) N cap = .slice (some ⟨rg', 0, none⟩) N cap' := ev.symm.trans ev'
              cases e3
              subst ev
              clear ev'
              have hFw : Fr (fun _ => False) wk wr := HO.out.2.trans HI.out.2
              obtain ⟨p1, p2⟩ := hf1 wr hFw
              obtain ⟨p3, p4⟩ := hg1 wr hFw
              have p2g := p2 g hltg
              have p4f := p4 f HLF.out
              have g0 : (0 : Int) ≤ g := by omega
              have g1 : (g : Int) < N := by omega
              have HEQ : Hd (of g = of f ↔ snf g = true ∧ sng f = true) := by
                unfold Hd
                rw [hf2 g hltg, hg2 f HLF.out, HRG.out.eq g f hltg HLF.out]
                exact ⟨fun ⟨a, b⟩ => ⟨b, a⟩, fun ⟨a, b⟩ => ⟨b, a⟩⟩
              have HMK : Hd (mkX of f (g + 1) = if of g = of f then mkX of f g ++ [g] else mkX of f g) := mkX_next of f g
              have hml := mkX_len of f g
              clear hf1 hf2 hg1 hg2 p2 p4 hFw
              by_cases hrg : of g = of f
              · have ea : snf g = true := (HEQ.out.1 hrg).1
                have eb : sng f = true := (HEQ.out.1 hrg).2
                rw [ea] at p2g
                rw [eb] at p4f
                obtain ⟨va, vc, evv⟩ := iown_cap HI.out.1
                rw [List.length_map] at evv
                subst evv
                have HM2 : Hd (zL (mkX of f (g + 1)) = zL (mkX of f g) ++ [(g : Int)]) := by unfold Hd; rw [HMK.out, if_pos hrg]; simp
                have hCz : Fr (fun _ => False) wr (wr.alloc (.cells #[vI (g : Int)] 3)) := Fr.alloc (Fr.refl _ wr) _
                have HFz : Hd (Fr (fun _ => False) wr (wr.alloc (.cells #[vI (g : Int)] 3))) := hCz
                have HRW : Hd ((wr.alloc (.cells #[vI (g : Int)] 3)).ownsRow wi.heap.size 3 1 (.slice va (mkX of f g).length vc) (mkX of f g).length ((zL (mkX of f g)).map vI)) := by
                  have := ownsRow_frL HI.out.1 hCz (fun _ _ e => e)
                  rw [List.length_map] at this
                  exact this
                have HNW : Hd (∀ j' u, [vI (g : Int)][j']? = some u → (wr.alloc (.cells #[vI (g : Int)] 3)).cell? ((⟨wr.heap.size, 0, none⟩ : Addr).add j') = some u) := World.news_of_block (w := wr.alloc (.cells #[vI (g : Int)] 3)) (cs := #[vI (g : Int)]) (heap_new0 wr _)
                have HBS : Hd (wi.heap.size ≤ (wr.alloc (.cells #[vI (g : Int)] 3)).heap.size) := by have := HI.out.2.size; have := hCz.size; unfold Hd; omega
                have HGE : Hd (∀ q, (Value.slice va (mkX of f g).length vc).ownBlock = some q → wi.heap.size ≤ q) := fun q e => (HI.out.1.ge q e).1
                have HBN : Hd ((fb && !decide (g < f)) = true ↔ ∀ x, x < g + 1 → x < f → of x ≠ of f) := by
                  unfold Hd
                  rw [Bool.and_eq_true, HB.out]
                  simp only [Bool.not_eq_true', decide_eq_false_iff_not]
                  constructor
                  · rintro ⟨k1, k2⟩ x x1 x2
                    by_cases e : x = g
                    · omega
                    · exact k1 x (by omega) x2
                  · intro k1
                    refine ⟨fun x x1 x2 => k1 x (by omega) x2, fun e => ?_⟩
                    exact k1 g (by omega) e hrg
                generalize zL (mkX of f g) = LL at *
                generalize (mkX of f g).length = ml at *
                clear hCz hrg HEQ HMK ea eb HB
                go_wp2_with ((at_builtin; refine Hd.out ?_))
                unfold Hd
                obtain ⟨i3, hi3, hz3, hs3, hb3⟩ := info_parts (P := Tryz.prog) (e := 3) (z := .int .i64 0) (size := 1) (bytes := 8) (by kernel_rfl)
                refine wpList_append_lies _ rfl (.tmp 50) (.tmp 52) 25 rfl wi.heap.size 3 i3 (.int .i64 0) 1 8 under64 hi3 hz3 hs3 hb3 rfl (by omega) (.slice va ml vc) ml _ rfl HRW.out ⟨wr.heap.size, 0, none⟩ 1 1 [vI (g : Int)] rfl rfl HNW.out (by intro u hu; rw [List.mem_singleton] at hu; rw [hu]; rfl) (by omega) (by unfold maxLen; omega) (by omega) HBS.out (wr.heap.size + 1) (by simp) ?_
                intro g6 cap6 w6 hown6 hgrow6 hat6 hlt6
                clear hi3 hz3 hs3 hb3
                have HI6 : Hd (IOwn w6 wi.heap.size (.slice (some ⟨g6, 0, none⟩) (ml + 1) cap6) (zL (mkX of f (g + 1))) ∧ Fr (fun _ => False) wi w6) := by
                  refine ⟨?_, (HI.out.2.trans HFz.out).then (grown_frL hgrow6) (fun q hq e => by have := HGE.out q e; omega)⟩
                  have hle : LL.length = ml := by have := hown6.1; simp at this; omega
                  unfold IOwn
                  rw [HM2.out]
                  simp only [List.map_append, List.map_cons, List.map_nil, List.length_append, List.length_cons, List.length_nil, hle]
                  exact hown6
                clear hown6 hgrow6 hat6 hlt6 HRW HNW HBS HFz HI
                by_cases hgf : g < f
                · have d3 : decide ((g : Int) < (f : Int)) = true := by simp; omega
                  have HBF : Hd (false = true ↔ ∀ x, x < g + 1 → x < f → of x ≠ of f) := by
                    have := HBN.out
                    rw [decide_eq_true hgf] at this
                    unfold Hd
                    simpa using this
                  go_wp2_with fail
                  go_roundw
                  case measure => simp; omega
                  case rel => exact ⟨g + 1, false, by simp, rfl, by omega, HBF.out, HI6.out⟩
                · have d3 : decide ((g : Int) < (f : Int)) = false := by simp; omega
                  have d3n : ¬ g < f := hgf
                  have HBF : Hd (fb = true ↔ ∀ x, x < g + 1 → x < f → of x ≠ of f) := by
                    have := HBN.out
                    rw [decide_eq_false hgf] at this
                    unfold Hd
                    simpa using this
                  go_wp2_with fail
                  go_roundw
                  case measure => simp; omega
                  case rel => exact ⟨g + 1, fb, by simp, rfl, by omega, HBF.out, HI6.out⟩
              · have HI6 : Hd (IOwn wr wi.heap.size u7 (zL (mkX of f (g + 1))) ∧ Fr (fun _ => False) wi wr) := by
                  refine ⟨?_, HI.out.2⟩
                  rw [HMK.out, if_neg hrg]
                  exact HI.out.1
                have HBF : Hd (fb = true ↔ ∀ x, x < g + 1 → x < f → of x ≠ of f) := by
                  unfold Hd
                  rw [HB.out]
                  constructor
                  · intro k1 x x1 x2
                    by_cases e : x = g
                    · rw [e]; exact hrg
                    · exact k1 x (by omega) x2
                  · exact fun k1 x x1 x2 => k1 x (by omega) x2
                cases ea : snf g with
                | false =>
                  rw [ea] at p2g
                  clear HEQ HMK hrg HI HB ea
                  go_wp2_with fail
                  go_roundw
                  case measure => simp; omega
                  case rel => exact ⟨g + 1, fb, by simp, rfl, by omega, HBF.out, HI6.out⟩
                | true =>
                  have eb : sng f = false := by
                    cases eb : sng f with
                    | false => rfl
                    | true => exact absurd (HEQ.out.2 ⟨ea, eb⟩) hrg
                  rw [ea] at p2g
                  rw [eb] at p4f
                  clear HEQ HMK hrg HI HB ea eb
                  go_wp2_with fail
                  go_roundw
                  case measure => simp; omega
                  case rel => exact ⟨g + 1, fb, by simp, rfl, by omega, HBF.out, HI6.out⟩
            · have d2 : decide ((g : Int) < (N : Int)) = false := by simp; omega
              have d2n : ¬ g < N := hltg
              have hgE : g = N := by omega
              have HME : Hd (IOwn wr wi.heap.size u7 (zL (memX N of (of f))) ∧ Fr (fun _ => False) wi wr) := by
                have := HI.out
                rw [hgE, show mkX of f N = memX N of (of f) from ring_mem HRG.out HLF.out] at this
                exact this
              have HLW : Hd (fb = true ↔ lwX N of (of f) = f) := by
                unfold Hd
                rw [HB.out, low_iff HRG.out HLF.out, hgE]
                exact ⟨fun k1 g hg => k1 g (by have := HLF.out; omega) hg, fun k1 x _ x2 => k1 x x2⟩
              have HCN : Hd (cmkX N of (f + 1) = if lwX N of (of f) = f then cmkX N of f ++ [f] else cmkX N of f) := cmkX_next N of f
              have hcl := cmkX_len N of f
              have hmm := (len_le (memX_rise (N := N) (of := of) (of f)) (fun x hx => (mem_memX.1 hx).1))
              clear HI HB hltg hgE
              cases fb with
              | false =>
                have HO6 : Hd (LOc wr wk.heap.size u5 us ((cmkX N of (f + 1)).map (fun f => zL (memX N of (of f)))) ∧ Fr (fun _ => False) wk wr) := by
                  have hne : ¬ lwX N of (of f) = f := fun e => by have := HLW.out.2 e; cases this
                  refine ⟨?_, HO.out.2.trans HME.out.2⟩
                  rw [HCN.out, if_neg hne]
                  exact HO.out.1.stay HME.out.2
                clear HLW HCN HME HO
                go_wp2_with fail
                go_roundw
                case measure => have := HLF.out; simp; omega
                case rel => exact ⟨f + 1, us, by simp, by have := HLF.out; omega, HO6.out⟩
              | true =>
                have hlw : lwX N of (of f) = f := HLW.out.1 rfl
                have hul : us.length = (cmkX N of f).length := by have := HO.out.1.ul; rwa [List.length_map] at this
                have hO1 := HO.out.1.stay HME.out.2
                obtain ⟨ra, rc, er⟩ := own_slice hO1.row
                subst er
                obtain ⟨va, vc, evv⟩ := iown_cap HME.out.1
                rw [List.length_map] at evv
                subst evv
                obtain ⟨vm, hvm⟩ : ∃ vm, vm = Value.slice va (memX N of (of f)).length vc := ⟨_, rfl⟩
                have hIB : IOwn wr wk.heap.size vm (zL (memX N of (of f))) := by rw [hvm]; exact HME.out.1.mono HO.out.2.size
                have hCz : Fr (fun _ => False) wr (wr.alloc (.cells #[vm] 25)) := Fr.alloc (Fr.refl _ wr) _
                have HFz : Hd (Fr (fun _ => False) wr (wr.alloc (.cells #[vm] 25))) := hCz
                have HOz : Hd (LOc (wr.alloc (.cells #[vm] 25)) wk.heap.size (.slice ra us.length rc) us ((cmkX N of f).map (fun f => zL (memX N of (of f))))) := hO1.stay hCz
                have HIz : Hd (IOwn (wr.alloc (.cells #[vm] 25)) wk.heap.size vm (zL (memX N of (of f)))) := hIB.fr hCz (fun _ _ e => e)
                have HNW : Hd (∀ j' u, [vm][j']? = some u → (wr.alloc (.cells #[vm] 25)).cell? ((⟨wr.heap.size, 0, none⟩ : Addr).add j') = some u) := World.news_of_block (w := wr.alloc (.cells #[vm] 25)) (cs := #[vm]) (heap_new0 wr _)
                have HBS : Hd (wk.heap.size ≤ (wr.alloc (.cells #[vm] 25)).heap.size) := by have := (HO.out.2.trans HME.out.2).size; have := hCz.size; unfold Hd; omega
                have HGE : Hd (∀ q, (Value.slice ra us.length rc).ownBlock = some q → wk.heap.size ≤ q) := fun q e => (World.ownsRow.lt hO1.row q e).1
                have HFW : Hd (Fr (fun _ => False) wk wr ∧ Fr (fun _ => False) w wr) := ⟨HO.out.2.trans HME.out.2, HFK.out.trans (HO.out.2.trans HME.out.2)⟩
                have hub : us.length ≤ 65535 := by omega
                have HC2 : Hd ((cmkX N of (f + 1)).map (fun f => zL (memX N of (of f))) = (cmkX N of f).map (fun f => zL (memX N of (of f))) ++ [zL (memX N of (of f))]) := by unfold Hd; rw [HCN.out, if_pos hlw]; simp
                clear hO1 hIB hCz HLW HCN hlw hul HME
                obtain ⟨vn, hvn⟩ : ∃ vn, vn = (memX N of (of f)).length := ⟨_, rfl⟩
                rw [← hvn] at hvm ⊢
                subst hvm
                clear hvn
                go_wp2_with ((at_builtin; refine Hd.out ?_))
                unfold Hd
                obtain ⟨i3, hi3, hz3, hs3, hb3⟩ := info_parts (P := Tryz.prog) (e := 25) (z := .slice none 0 0) (size := 1) (bytes := 24) (by kernel_rfl)
                refine wpList_append_lies _ rfl (.tmp 58) (.tmp 60) 48 rfl wk.heap.size 25 i3 (.slice none 0 0) 1 24 under53 hi3 hz3 hs3 hb3 rfl (by omega) (.slice ra us.length rc) us.length _ rfl HOz.out.row ⟨wr.heap.size, 0, none⟩ 1 1 [.slice va vn vc] rfl rfl HNW.out (by intro u hu; rw [List.mem_singleton] at hu; rw [hu]; rfl) (by omega) (by unfold maxLen; omega) (by omega) HBS.out (wr.heap.size + 1) (by simp) ?_
                intro g6 cap6 w6 hown6 hgrow6 hat6 hlt6
                clear hi3 hz3 hs3 hb3
                have HO6 : Hd (LOc w6 wk.heap.size (.slice (some ⟨g6, 0, none⟩) (us.length + 1) cap6) (us ++ [.slice va vn vc]) ((cmkX N of (f + 1)).map (fun f => zL (memX N of (of f)))) ∧ Fr (fun _ => False) wk w6) := by
                  refine ⟨?_, (HFW.out.1.trans HFz.out).then (grown_frL hgrow6) (fun q hq e => by have := HGE.out q e; omega)⟩
                  rw [HC2.out]
                  exact HOz.out.grow HIz.out hgrow6 hown6
                clear hown6 hgrow6 hat6 hlt6 HNW HBS HFz HOz HIz HO
                go_wp2_with fail
                go_roundw
                case measure => have := HLF.out; simp; omega
                case rel => exact ⟨f + 1, _, by simp, by have := HLF.out; omega, HO6.out⟩
        · have d1 : decide ((f : Int) < (N : Int)) = false := by simp; omega
          have d1n : ¬ f < N := hlt
          have HE : Hd (CmE N of w (.returned u5) wr) := by
            have hfe : f = N := by omega
            have := HO.out.1
            rw [hfe] at this
            exact ⟨u5, us, rfl, this.mono HFK.out.size, HFK.out.trans HO.out.2⟩
          clear hlt HO
          go_wp2_with fail
          go_ret
          exact HE.out
end Go.Proofs.YtjmbfjaahadbhaaGreatDoor
namespace Go.Proofs.YtjmbfjaahadbhaaGreatDoor

/-! ### a region that draws its order, operation by operation in the text's order -/
section
variable {P : Program} {ops : Array Oper} {Q : Exit → Act → World → Prop} {md : Region.Mode} {S : World → Prop}
/-- An operation that yields in every world of the class is taken first. -/
theorem heldTake {i : Nat} (d : Tmp) {oi : Oper} {v : Value} {fuel : Nat} {listed : Array Bool} {a : Act} {w : World} (hi : ops[i]? = some oi) (hd : oi.dst = some d)
    (hs : Region.noSelect ops = true) (hf : Region.free md ops listed i = true) (hr : (Region.ready md ops listed).contains i = true)
    (hQ : ∀ c a w, Q (.panic c) (a.put (some d) v) w → Q (.panic c) a w) (hw : Region.wanted oi (yielded ops a.tmps) = true) (hy : ∀ w, S w → (execOp a.eval oi).run P w = .ok (.value v) w) (hS : S w)
    (h : wpAnyH P md ops Q S fuel (listed.setIfInBounds i true) (a.put (some d) v) w) : wpAnyH P md ops Q S (fuel + 1) listed a w :=
  wpAnyH_take hi hs hf hr (by rw [hd]; exact hQ) (Or.inl ⟨hw, hy⟩) hS (by rw [hd]; exact h)
/-- One that is passed over. -/
theorem heldPass {i : Nat} (d : Tmp) {oi : Oper} {fuel : Nat} {listed : Array Bool} {a : Act} {w : World} (hi : ops[i]? = some oi) (hd : oi.dst = some d)
    (hs : Region.noSelect ops = true) (hf : Region.free md ops listed i = true) (hr : (Region.ready md ops listed).contains i = true)
    (hQ : ∀ c a w, Q (.panic c) (a.put (some d) undef) w → Q (.panic c) a w) (hw : Region.wanted oi (yielded ops a.tmps) = false) (hS : S w)
    (h : wpAnyH P md ops Q S fuel (listed.setIfInBounds i true) (a.put (some d) undef) w) : wpAnyH P md ops Q S (fuel + 1) listed a w :=
  wpAnyH_take hi hs hf hr (by rw [hd]; exact hQ) (Or.inr ⟨hw, rfl⟩) hS (by rw [hd]; exact h)
/-- One alone may come up. -/
theorem heldOne {i : Nat} {o : Oper} {fuel : Nat} {listed : Array Bool} {a : Act} {w : World} (ho : ops[i]? = some o) (hr : Region.ready md ops listed = [i])
    (h : ∀ K' : Act → World → Prop, Shut (∀ a w, S w → wpAnyH P md ops Q S fuel (listed.setIfInBounds i true) a w → K' a w) → if Region.wanted o (yielded ops a.tmps) = true then Oper.wp P o a w K' Q else K' (a.put o.dst undef) w) : wpAnyH P md ops Q S (fuel + 1) listed a w := by
  refine wpAnyH_all hr (by simp) (fun j hj => ?_)
  obtain rfl := List.mem_singleton.1 hj
  exact wpOp_step ho (fun K' hK => h K' (fun a w h1 h2 => hK a w ⟨h1, h2⟩))
end
end Go.Proofs.YtjmbfjaahadbhaaGreatDoor
namespace Go.Proofs.YtjmbfjaahadbhaaGreatDoor
open Go.RowKit (wrap32 wrap64)

/-- What the document's ready leaves. -/
def RyE (cl : Nat → List Nat) (ms : List Nat) (wh : Nat → Int) (w : World) (e : Ending) (w' : World) : Prop :=
  ∃ b, e = .returned (.bool b) ∧ (b = true ↔ ∀ x ∈ ms, ∀ z ∈ cl x, z ∈ ms ∨ 0 ≤ wh z) ∧ Fr (fun _ => False) w w'
set_option maxRecDepth 100000 in
set_option maxHeartbeats 8000000 in
theorem ready_any {N ck co cc mg mo mc wg wc : Nat} {cl : Nat → List Nat} {ms : List Nat} {wh : Nat → Int} (w : World) (h : LB w.heap.size w (.slice (some ⟨ck, co, none⟩) N cc) (zLs N cl)) (hcl : ∀ x, x < N → ∀ z ∈ cl x, z < N) (hll : ∀ x, x < N → (cl x).length ≤ 1000000000) (hN : N ≤ 65535)
    (hm : ∀ W, Fr (fun _ => False) w W → ∀ j (hj : j < ms.length), W.cell? ⟨mg, mo + j, none⟩ = some (vI (ms[j] : Nat))) (hmN : ∀ x ∈ ms, x < N) (hml : ms.length ≤ 65535) (hw : ∀ W, Fr (fun _ => False) w W → ∀ x, x < N → W.cell? ⟨wg, x, none⟩ = some (vI (wh x))) :
    Calls Tryz.prog 23 #[.slice (some ⟨ck, co, none⟩) N cc, .slice (some ⟨mg, mo, none⟩) ms.length mc, .slice (some ⟨wg, 0, none⟩) N wc] w (RyE cl ms wh w) := by
  have HLB : Hd (LB w.heap.size w (.slice (some ⟨ck, co, none⟩) N cc) (zLs N cl)) := h
  have HCL : Hd ((∀ x, x < N → ∀ z ∈ cl x, z < N) ∧ ∀ x, x < N → (cl x).length ≤ 1000000000) := ⟨hcl, hll⟩
  have HM : Hd (∀ W, Fr (fun _ => False) w W → ∀ j (hj : j < ms.length), W.cell? ⟨mg, mo + j, none⟩ = some (vI (ms[j] : Nat))) := hm
  have HMN : Hd (∀ x ∈ ms, x < N) := hmN
  have HW : Hd (∀ W, Fr (fun _ => False) w W → ∀ x, x < N → W.cell? ⟨wg, x, none⟩ = some (vI (wh x))) := hw
  have HF0 : Hd (Fr (fun _ => False) w w) := Fr.refl _ _
  clear h hcl hll hm hmN hw
  go_enter Tryz.func23, Tryz.ntmps23
  go_wp2_with fail
  go_loopw [7] (fun v wx => ∃ i : Nat, v = .int .i64 i ∧ i ≤ ms.length ∧ Hd (∀ x ∈ ms.take i, ∀ z ∈ cl x, z ∈ ms ∨ 0 ≤ wh z) ∧ Hd (Fr (fun _ => False) w wx)) (fun v _ => match v with | .int _ q => ms.length - q.toNat | _ => 0)
  case atStart => exact ⟨0, by simp, Nat.zero_le _, by unfold Hd; simp, HF0.out⟩
  case round =>
    clear HF0
    obtain ⟨i, rfl, hi, HA, HF⟩ := hrel
    by_cases hlt : i < ms.length
    · have d1 : decide ((i : Int) < (ms.length : Int)) = true := by simp; omega
      have i0 : (0 : Int) ≤ i := by omega
      have i1 : (i : Int) < ms.length := by omega
      have p0 := HM.out wr HF.out i hlt
      have hyN := HMN.out _ (List.getElem_mem hlt)
      have HTK : Hd (ms.take (i + 1) = ms.take i ++ [ms[i]] ∧ ms[i] ∈ ms) := ⟨by rw [List.take_add_one, List.getElem?_eq_getElem hlt]; rfl, List.getElem_mem hlt⟩
      generalize ms[i] = y at *
      obtain ⟨ua, uc, p2, hck, hu⟩ := lb_rows HLB.out hyN
      have p2r : wr.cell? ⟨ck, co + y, none⟩ = some (.slice ua (cl y).length uc) := (HF.out.cell hck (fun e => e)).trans p2
      have HU : Hd (∀ (k z : Nat), (cl y)[k]? = some z → ∃ uk uo, ua = some ⟨uk, uo, none⟩ ∧ ∀ W, Fr (fun _ => False) w W → W.cell? ⟨uk, uo + k, none⟩ = some (vI (z : Int))) := fun k z hz => by
        obtain ⟨uk, uo, e, huk, hc⟩ := hu k z hz
        exact ⟨uk, uo, e, fun W fW => (fW.cell huk (fun e => e)).trans hc⟩
      have y0 : (0 : Int) ≤ y := by omega
      have y1 : (y : Int) < N := by omega
      have hyl := HCL.out.2 y hyN
      have HYN : Hd (∀ z ∈ cl y, z < N) := HCL.out.1 y hyN
      have HFz : Hd (Fr (fun _ => False) w wr) := HF.out
      clear p2 hck hu HF
      go_wp2_with fail
      go_loopw [9] (fun v wx => ∃ k : Nat, v = .int .i64 k ∧ k ≤ (cl y).length ∧ Hd (∀ z ∈ (cl y).take k, z ∈ ms ∨ 0 ≤ wh z) ∧ Hd (Fr (fun _ => False) w wx)) (fun v _ => match v with | .int _ q => (cl y).length - q.toNat | _ => 0)
      case atStart => exact ⟨0, by simp, Nat.zero_le _, by unfold Hd; simp, HFz.out⟩
      case round =>
        clear HFz p0 p2r
        obtain ⟨k, rfl, hk, HB, HF⟩ := hrel
        by_cases hltk : k < (cl y).length
        · have d2 : decide ((k : Int) < ((cl y).length : Int)) = true := by simp; omega
          have k0 : (0 : Int) ≤ k := by omega
          have k1 : (k : Int) < ((cl y).length : Int) := by omega
          obtain ⟨z, hz⟩ : ∃ z, (cl y)[k]? = some z := ⟨_, List.getElem?_eq_getElem hltk⟩
          have hzm : z ∈ cl y := List.mem_of_getElem? hz
          have hzN := HYN.out z hzm
          obtain ⟨uk, uo, rfl, hcz⟩ := HU.out k z hz
          have HCZ : Hd (∀ W, Fr (fun _ => False) w W → W.cell? ⟨uk, uo + k, none⟩ = some (vI (z : Int))) := hcz
          have HTK2 : Hd ((cl y).take (k + 1) = (cl y).take k ++ [z] ∧ z ∈ cl y) := ⟨by rw [List.take_add_one, hz]; rfl, hzm⟩
          have z0 : (0 : Int) ≤ z := by omega
          have z1 : (z : Int) < N := by omega
          have HFz : Hd (Fr (fun _ => False) w wr) := HF.out
          clear hcz hz hzm HF
          go_wp2_with fail
          go_loopw [10, 11] (fun v10 v wx => ∃ (j : Nat) (ob : Bool), v = .int .i64 j ∧ v10 = .bool ob ∧ j ≤ ms.length ∧ Hd (ob = true ↔ z ∈ ms.take j) ∧ Hd (Fr (fun _ => False) w wx)) (fun _ v _ => match v with | .int _ q => ms.length - q.toNat | _ => 0)
          case atStart => exact ⟨0, false, by simp, rfl, Nat.zero_le _, by unfold Hd; simp, HFz.out⟩
          case round =>
            clear HFz
            obtain ⟨j, ob, rfl, rfl, hj, HO, HF⟩ := hrel
            by_cases hltj : j < ms.length
            · have d3 : decide ((j : Int) < (ms.length : Int)) = true := by simp; omega
              have j0 : (0 : Int) ≤ j := by omega
              have j1 : (j : Int) < ms.length := by omega
              have HTJ : Hd (ms.take (j + 1) = ms.take j ++ [ms[j]]) := by unfold Hd; rw [List.take_add_one, List.getElem?_eq_getElem hltj]; rfl
              have HMJ : Hd (∀ W, Fr (fun _ => False) w W → W.cell? ⟨mg, mo + j, none⟩ = some (vI (ms[j] : Nat))) := fun W fW => HM.out W fW j hltj
              generalize ms[j] = x at *
              cases ob with
              | true =>
                have HO2 : Hd (true = true ↔ z ∈ ms.take (j + 1)) := by
                  unfold Hd
                  rw [HTJ.out, List.mem_append]
                  exact ⟨fun _ => Or.inl (HO.out.1 rfl), fun _ => rfl⟩
                clear HO HTJ hltj
                go_upto_region 12 with fail
                refine wp_region_held_drew (S := fun W => Fr (fun _ => False) w W) (by kernel_rfl) (HF.out.drew) (fun hHeld => ?_)
                refine heldTake (i := 0) 37 (v := ?_) rfl rfl (by kernel_rfl) (by kernel_rfl) (by kernel_rfl) (fun _ _ _ h => h) (by kernel_rfl) (fun w2 hSw => (by have q0 := HMJ.out w2 hSw; have q1 := HCZ.out w2 hSw; go_simp; try with_reducible rfl)) hHeld ?_
                simp only [Act.put, List.setIfInBounds_toArray, List.set_cons_zero, List.set_cons_succ]
                refine heldTake (i := 1) 38 (v := ?_) rfl rfl (by kernel_rfl) (by kernel_rfl) (by kernel_rfl) (fun _ _ _ h => h) (by kernel_rfl) (fun w2 hSw => (by have q0 := HMJ.out w2 hSw; have q1 := HCZ.out w2 hSw; go_simp; try with_reducible rfl)) hHeld ?_
                simp only [Act.put, List.setIfInBounds_toArray, List.set_cons_zero, List.set_cons_succ]
                refine heldPass (i := 2) 39 rfl rfl (by kernel_rfl) (by kernel_rfl) (by kernel_rfl) (fun _ _ _ h => h) (by kernel_rfl) hHeld ?_
                simp only [Act.put, List.setIfInBounds_toArray, List.set_cons_zero, List.set_cons_succ]
                refine heldPass (i := 3) 40 rfl rfl (by kernel_rfl) (by kernel_rfl) (by kernel_rfl) (fun _ _ _ h => h) (by kernel_rfl) hHeld ?_
                simp only [Act.put, List.setIfInBounds_toArray, List.set_cons_zero, List.set_cons_succ]
                refine heldPass (i := 4) 41 rfl rfl (by kernel_rfl) (by kernel_rfl) (by kernel_rfl) (fun _ _ _ h => h) (by kernel_rfl) hHeld ?_
                simp only [Act.put, List.setIfInBounds_toArray, List.set_cons_zero, List.set_cons_succ]
                refine heldPass (i := 5) 42 rfl rfl (by kernel_rfl) (by kernel_rfl) (by kernel_rfl) (fun _ _ _ h => h) (by kernel_rfl) hHeld ?_
                simp only [Act.put, List.setIfInBounds_toArray, List.set_cons_zero, List.set_cons_succ]
                refine heldPass (i := 6) 43 rfl rfl (by kernel_rfl) (by kernel_rfl) (by kernel_rfl) (fun _ _ _ h => h) (by kernel_rfl) hHeld ?_
                simp only [Act.put, List.setIfInBounds_toArray, List.set_cons_zero, List.set_cons_succ]
                refine heldPass (i := 7) 44 rfl rfl (by kernel_rfl) (by kernel_rfl) (by kernel_rfl) (fun _ _ _ h => h) (by kernel_rfl) hHeld ?_
                simp only [Act.put, List.setIfInBounds_toArray, List.set_cons_zero, List.set_cons_succ]
                refine heldPass (i := 8) 45 rfl rfl (by kernel_rfl) (by kernel_rfl) (by kernel_rfl) (fun _ _ _ h => h) (by kernel_rfl) hHeld ?_
                simp only [Act.put, List.setIfInBounds_toArray, List.set_cons_zero, List.set_cons_succ]
                refine heldPass (i := 9) 46 rfl rfl (by kernel_rfl) (by kernel_rfl) (by kernel_rfl) (fun _ _ _ h => h) (by kernel_rfl) hHeld ?_
                simp only [Act.put, List.setIfInBounds_toArray, List.set_cons_zero, List.set_cons_succ]
                refine heldPass (i := 10) 47 rfl rfl (by kernel_rfl) (by kernel_rfl) (by kernel_rfl) (fun _ _ _ h => h) (by kernel_rfl) hHeld ?_
                simp only [Act.put, List.setIfInBounds_toArray, List.set_cons_zero, List.set_cons_succ]
                refine heldTake (i := 11) 48 (v := ?_) rfl rfl (by kernel_rfl) (by kernel_rfl) (by kernel_rfl) (fun _ _ _ h => h) (by kernel_rfl) (fun w2 hSw => (by have q0 := HMJ.out w2 hSw; have q1 := HCZ.out w2 hSw; go_simp; try with_reducible rfl)) hHeld ?_
                simp only [Act.put, List.setIfInBounds_toArray, List.set_cons_zero, List.set_cons_succ]
                refine heldTake (i := 12) 10 (v := ?_) rfl rfl (by kernel_rfl) (by kernel_rfl) (by kernel_rfl) (fun _ _ _ h => h) (by kernel_rfl) (fun w2 hSw => (by have q0 := HMJ.out w2 hSw; have q1 := HCZ.out w2 hSw; go_simp; try with_reducible rfl)) hHeld ?_
                simp only [Act.put, List.setIfInBounds_toArray, List.set_cons_zero, List.set_cons_succ]
                refine wpAnyH_done (by kernel_rfl) ?_ _
                have HF6 : Hd (Fr (fun _ => False) w wr.drew) := HF.out.drew
                clear hHeld HF
                go_wp2_with fail
                go_roundw
                case measure => simp; omega
                case rel => exact ⟨j + 1, true, by simp, rfl, by omega, HO2.out, HF6.out⟩
              | false =>
                obtain ⟨eb, heb⟩ : ∃ eb, eb = ((x : Int) == (z : Int)) := ⟨_, rfl⟩
                have e1 : ((x : Int) == (z : Int)) = eb := heb.symm
                have e1' : decide (x = z) = eb := by rw [heb, Bool.eq_iff_iff]; simp; omega
                have HO2 : Hd (eb = true ↔ z ∈ ms.take (j + 1)) := by
                  unfold Hd
                  rw [HTJ.out, List.mem_append, List.mem_singleton, ← e1', decide_eq_true_eq]
                  constructor
                  · intro e; exact Or.inr e.symm
                  · rintro (e | e)
                    · have := HO.out.2 e; cases this
                    · exact e.symm
                clear HO HTJ hltj heb
                go_upto_region 12 with fail
                refine wp_region_held_drew (S := fun W => Fr (fun _ => False) w W) (by kernel_rfl) (HF.out.drew) (fun hHeld => ?_)
                refine heldTake (i := 0) 37 (v := ?_) rfl rfl (by kernel_rfl) (by kernel_rfl) (by kernel_rfl) (fun _ _ _ h => h) (by kernel_rfl) (fun w2 hSw => (by have q0 := HMJ.out w2 hSw; have q1 := HCZ.out w2 hSw; go_simp; try with_reducible rfl)) hHeld ?_
                simp only [Act.put, List.setIfInBounds_toArray, List.set_cons_zero, List.set_cons_succ]
                refine heldTake (i := 1) 38 (v := ?_) rfl rfl (by kernel_rfl) (by kernel_rfl) (by kernel_rfl) (fun _ _ _ h => h) (by kernel_rfl) (fun w2 hSw => (by have q0 := HMJ.out w2 hSw; have q1 := HCZ.out w2 hSw; go_simp; try with_reducible rfl)) hHeld ?_
                simp only [Act.put, List.setIfInBounds_toArray, List.set_cons_zero, List.set_cons_succ]
                refine heldTake (i := 2) 39 (v := ?_) rfl rfl (by kernel_rfl) (by kernel_rfl) (by kernel_rfl) (fun _ _ _ h => h) (by kernel_rfl) (fun w2 hSw => (by have q0 := HMJ.out w2 hSw; have q1 := HCZ.out w2 hSw; go_simp; try with_reducible rfl)) hHeld ?_
                simp only [Act.put, List.setIfInBounds_toArray, List.set_cons_zero, List.set_cons_succ]
                refine heldTake (i := 3) 40 (v := ?_) rfl rfl (by kernel_rfl) (by kernel_rfl) (by kernel_rfl) (fun _ _ _ h => h) (by kernel_rfl) (fun w2 hSw => (by have q0 := HMJ.out w2 hSw; have q1 := HCZ.out w2 hSw; go_simp; try with_reducible rfl)) hHeld ?_
                simp only [Act.put, List.setIfInBounds_toArray, List.set_cons_zero, List.set_cons_succ]
                refine heldTake (i := 4) 41 (v := ?_) rfl rfl (by kernel_rfl) (by kernel_rfl) (by kernel_rfl) (fun _ _ _ h => h) (by kernel_rfl) (fun w2 hSw => (by have q0 := HMJ.out w2 hSw; have q1 := HCZ.out w2 hSw; go_simp; try with_reducible rfl)) hHeld ?_
                simp only [Act.put, List.setIfInBounds_toArray, List.set_cons_zero, List.set_cons_succ]
                refine heldTake (i := 5) 42 (v := ?_) rfl rfl (by kernel_rfl) (by kernel_rfl) (by kernel_rfl) (fun _ _ _ h => h) (by kernel_rfl) (fun w2 hSw => (by have q0 := HMJ.out w2 hSw; have q1 := HCZ.out w2 hSw; go_simp; try with_reducible rfl)) hHeld ?_
                simp only [Act.put, List.setIfInBounds_toArray, List.set_cons_zero, List.set_cons_succ]
                refine heldTake (i := 6) 43 (v := ?_) rfl rfl (by kernel_rfl) (by kernel_rfl) (by kernel_rfl) (fun _ _ _ h => h) (by kernel_rfl) (fun w2 hSw => (by have q0 := HMJ.out w2 hSw; have q1 := HCZ.out w2 hSw; go_simp; try with_reducible rfl)) hHeld ?_
                simp only [Act.put, List.setIfInBounds_toArray, List.set_cons_zero, List.set_cons_succ]
                refine heldTake (i := 7) 44 (v := ?_) rfl rfl (by kernel_rfl) (by kernel_rfl) (by kernel_rfl) (fun _ _ _ h => h) (by kernel_rfl) (fun w2 hSw => (by have q0 := HMJ.out w2 hSw; have q1 := HCZ.out w2 hSw; go_simp; try with_reducible rfl)) hHeld ?_
                simp only [Act.put, List.setIfInBounds_toArray, List.set_cons_zero, List.set_cons_succ]
                refine heldTake (i := 8) 45 (v := ?_) rfl rfl (by kernel_rfl) (by kernel_rfl) (by kernel_rfl) (fun _ _ _ h => h) (by kernel_rfl) (fun w2 hSw => (by have q0 := HMJ.out w2 hSw; have q1 := HCZ.out w2 hSw; go_simp; try with_reducible rfl)) hHeld ?_
                simp only [Act.put, List.setIfInBounds_toArray, List.set_cons_zero, List.set_cons_succ]
                refine heldTake (i := 9) 46 (v := ?_) rfl rfl (by kernel_rfl) (by kernel_rfl) (by kernel_rfl) (fun _ _ _ h => h) (by kernel_rfl) (fun w2 hSw => (by have q0 := HMJ.out w2 hSw; have q1 := HCZ.out w2 hSw; go_simp; try with_reducible rfl)) hHeld ?_
                simp only [Act.put, List.setIfInBounds_toArray, List.set_cons_zero, List.set_cons_succ]
                refine heldTake (i := 10) 47 (v := ?_) rfl rfl (by kernel_rfl) (by kernel_rfl) (by kernel_rfl) (fun _ _ _ h => h) (by kernel_rfl) (fun w2 hSw => (by have q0 := HMJ.out w2 hSw; have q1 := HCZ.out w2 hSw; go_simp; try with_reducible rfl)) hHeld ?_
                simp only [Act.put, List.setIfInBounds_toArray, List.set_cons_zero, List.set_cons_succ]
                refine heldTake (i := 11) 48 (v := ?_) rfl rfl (by kernel_rfl) (by kernel_rfl) (by kernel_rfl) (fun _ _ _ h => h) (by kernel_rfl) (fun w2 hSw => (by have q0 := HMJ.out w2 hSw; have q1 := HCZ.out w2 hSw; go_simp; try with_reducible rfl)) hHeld ?_
                simp only [Act.put, List.setIfInBounds_toArray, List.set_cons_zero, List.set_cons_succ]
                refine heldTake (i := 12) 10 (v := ?_) rfl rfl (by kernel_rfl) (by kernel_rfl) (by kernel_rfl) (fun _ _ _ h => h) (by kernel_rfl) (fun w2 hSw => (by have q0 := HMJ.out w2 hSw; have q1 := HCZ.out w2 hSw; go_simp; try with_reducible rfl)) hHeld ?_
                simp only [Act.put, List.setIfInBounds_toArray, List.set_cons_zero, List.set_cons_succ]
                refine wpAnyH_done (by kernel_rfl) ?_ _
                have HF6 : Hd (Fr (fun _ => False) w wr.drew) := HF.out.drew
                clear hHeld HF e1 e1'
                go_wp2_with fail
                go_roundw
                case measure => simp; omega
                case rel => exact ⟨j + 1, eb, by simp, rfl, by omega, HO2.out, HF6.out⟩
            · have d3 : decide ((j : Int) < (ms.length : Int)) = false := by simp; omega
              have d3n : ¬ j < ms.length := hltj
              have hob : ob = true ↔ z ∈ ms := by have := HO.out; rwa [List.take_of_length_le (by omega)] at this
              have p5 := HCZ.out wr HF.out
              have p6 := HW.out wr HF.out z hzN
              clear HO hltj
              cases ob with
              | true =>
                have HB2 : Hd (∀ q ∈ (cl y).take (k + 1), q ∈ ms ∨ 0 ≤ wh q) := fun q hq => by
                  rw [HTK2.out.1, List.mem_append, List.mem_singleton] at hq
                  rcases hq with hq | rfl
                  · exact HB.out q hq
                  · exact Or.inl (hob.1 rfl)
                clear hob
                go_wp2_with fail
                go_roundw
                case measure => simp; omega
                case rel => exact ⟨k + 1, by simp, by omega, HB2.out, HF.out⟩
              | false =>
                have hnm : z ∉ ms := fun e => by have := hob.2 e; cases this
                have HZY : Hd (y ∈ ms ∧ z ∈ cl y ∧ z ∉ ms) := ⟨HTK.out.2, HTK2.out.2, hnm⟩
                obtain ⟨zz, hzz⟩ : ∃ zz, zz = wh z := ⟨_, rfl⟩
                have HZZ : Hd (zz = wh z) := hzz
                rw [← hzz] at p6
                clear hzz
                by_cases hneg : zz < 0
                · have d4 : decide (zz < 0) = true := by simp; exact hneg
                  have HE : Hd (RyE cl ms wh w (.returned (.bool false)) wr) := by
                    refine ⟨false, rfl, ⟨fun e => (by cases e), fun ha => ?_⟩, HF.out⟩
                    rcases ha y HZY.out.1 z HZY.out.2.1 with h1 | h1
                    · exact absurd h1 HZY.out.2.2
                    · rw [← HZZ.out] at h1
                      omega
                  clear hob hnm
                  go_wp2_with fail
                  go_ret
                  exact HE.out
                · have d4 : decide (zz < 0) = false := by simp; omega
                  have HB2 : Hd (∀ q ∈ (cl y).take (k + 1), q ∈ ms ∨ 0 ≤ wh q) := fun q hq => by
                    rw [HTK2.out.1, List.mem_append, List.mem_singleton] at hq
                    rcases hq with hq | rfl
                    · exact HB.out q hq
                    · exact Or.inr (by rw [← HZZ.out]; omega)
                  clear hob hnm
                  go_wp2_with fail
                  go_roundw
                  case measure => simp; omega
                  case rel => exact ⟨k + 1, by simp, by omega, HB2.out, HF.out⟩
        · have d2 : decide ((k : Int) < ((cl y).length : Int)) = false := by simp; omega
          have d2n : ¬ k < (cl y).length := hltk
          have HA2 : Hd (∀ x ∈ ms.take (i + 1), ∀ z ∈ cl x, z ∈ ms ∨ 0 ≤ wh z) := fun x hx z hz => by
            rw [HTK.out.1, List.mem_append, List.mem_singleton] at hx
            rcases hx with hx | rfl
            · exact HA.out x hx z hz
            · exact HB.out z (by rw [List.take_of_length_le (by omega)]; exact hz)
          clear hltk HB HU
          go_wp2_with fail
          go_roundw
          case measure => simp; omega
          case rel => exact ⟨i + 1, by simp, by omega, HA2.out, HF.out⟩
    · have d1 : decide ((i : Int) < (ms.length : Int)) = false := by simp; omega
      have d1n : ¬ i < ms.length := hlt
      have HE : Hd (RyE cl ms wh w (.returned (.bool true)) wr) := ⟨true, rfl, ⟨fun _ x hx => HA.out x (by rw [List.take_of_length_le (by omega)]; exact hx), fun _ => rfl⟩, HF.out⟩
      clear hlt HA
      go_wp2_with fail
      go_ret
      exact HE.out
end Go.Proofs.YtjmbfjaahadbhaaGreatDoor
