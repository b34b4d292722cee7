import Derived.Test.YtjmbfjaahadbhaaGreatDoorQGkJ
import Derived.Test.YtjmbfjaahadbhaaGreatDoorQGg
import Derived.Test.YtjmbfjaahadbhaaGreatDoorQGm
import Derived.Test.YtjmbfjaahadbhaaGreatDoorQHh
import Derived.Test.YtjmbfjaahadbhaaGreatDoorQN4J
set_option linter.unusedVariables false
set_option linter.unusedSimpArgs false
namespace Go.Proofs.YtjmbfjaahadbhaaGreatDoor
open Go.RowKit (wrap32 wrap64)

/-- A graph of a right program, made since w. -/
def GrN (fs : List PF) (w w' : World) (b n : Nat) (of : Nat → Nat) : Prop :=
  ∃ go gm ge gr mv ev rv, w.heap.size ≤ b ∧ w.heap.size ≤ go ∧ w.heap.size ≤ gm ∧ w.heap.size ≤ ge ∧ w.heap.size ≤ gr ∧ GA w' w.heap.size b go gm ge gr fs.length n mv ev rv of (clX fs)
/-- What New leaves. -/
def NwE (G : Int) (fs : List PF) (w : World) (e : Ending) (w' : World) : Prop :=
  Fr (fun _ => False) w w' ∧ ((checkP G fs ≠ 0 ∧ e = .returned (.tuple #[.pointer none, vI (checkP G fs)])) ∨ (checkP G fs = 0 ∧ ∃ b n of, e = .returned (.tuple #[.pointer (some ⟨b, 0, none⟩), vI 0]) ∧ GrN fs w w' b n of ∧ Gp fs.length (clX fs) n of ∧ n ≤ fs.length))

set_option maxRecDepth 100000 in
set_option maxHeartbeats 8000000 in
theorem new_any (G : Int) (fs : List PF) (fv : Value) (w : World) (h : FA w fv fs) (hn : FineP fs) (hT : Tab w) (h0 : 0 < w.heap.size) :
    Calls Tryz.prog 7 #[.agg #[vI G, fv]] w (NwE G fs w) := by
  obtain ⟨a0, cp0, efv, -⟩ := id h
  subst efv
  obtain ⟨wa, hwa⟩ : ∃ wa, wa = w.alloc (.cells #[vI G, .slice a0 fs.length cp0] 24) := ⟨_, rfl⟩
  obtain ⟨H, hH⟩ : ∃ H, H = w.heap.size := ⟨_, rfl⟩
  have HH : Hd (H = w.heap.size) := hH
  have hFa : Fr (fun _ => False) w wa := by rw [hwa]; exact Fr.alloc (Fr.refl _ w) _
  have hba : wa.heap[H]? = some (.cells #[vI G, .slice a0 fs.length cp0] 24) := by rw [hwa, hH]; exact heap_new0 w _
  have HCK : Hd (Calls Tryz.prog 15 #[.agg #[vI G, .slice a0 fs.length cp0]] wa fun e w' => e = .returned (vI (checkP G fs)) ∧ Fr (fun _ => False) wa w') := check_fa wa G fs _ (h.stay hFa) hn (hT.fr hFa (fun e => e)) (Nat.lt_of_lt_of_le h0 hFa.size)
  have HWA : Hd (wa = w.alloc (.cells #[vI G, .slice a0 fs.length cp0] 24)) := hwa
  have HBA : Hd (wa.heap[H]? = some (.cells #[vI G, .slice a0 fs.length cp0] 24)) := hba
  have HFA : Hd (Fr (fun _ => False) w wa) := hFa
  have HFP : Hd (FA w (.slice a0 fs.length cp0) fs) := h
  have c0 : wa.cell? ⟨H, 0, none⟩ = some (vI G) := by rw [cell_of0 hba]; rfl
  have c1 : wa.cell? ⟨H, 1, none⟩ = some (.slice a0 fs.length cp0) := by rw [cell_of0 hba]; rfl
  have HCP : Hd (checkP G fs = 0 → (1 ≤ fs.length ∧ fs.length ≤ 65535) ∧ CallOk fs ∧ ∀ f ∈ fs, f.code.length ≤ 4096) := fun e => ⟨check_len e, check_calls e⟩
  obtain ⟨E, hE⟩ : ∃ E, E = checkP G fs := ⟨_, rfl⟩
  have HE : Hd (E = checkP G fs) := hE
  rw [← hE] at HCK HCP
  clear h hn hT hwa hH hFa hba hE
  go_enter Tryz.func7, Tryz.ntmps7
  go_upto_region 1 with fail
  rw [← HWA.out, ← HH.out]
  clear HWA
  go_wp2_with fail
  refine Calls.mono HCK.out ?_
  rintro e w1 ⟨rfl, hF1⟩
  have HF1 : Hd (Fr (fun _ => False) w w1) := HFA.out.trans hF1
  have HB1 : Hd (w1.heap[H]? = some (.cells #[vI G, .slice a0 fs.length cp0] 24)) := keepF HBA.out hF1
  clear hF1 HCK HFA HBA c0 c1
  by_cases hE0 : E = 0
  · obtain ⟨⟨hN1, hN2⟩, hok, hcl⟩ := HCP.out hE0
    subst hE0
    have c0 : w1.cell? ⟨H, 0, none⟩ = some (vI G) := by rw [cell_of0 HB1.out]; rfl
    have c1 : w1.cell? ⟨H, 1, none⟩ = some (.slice a0 fs.length cp0) := by rw [cell_of0 HB1.out]; rfl
    have HCB : Hd (Calls Tryz.prog 16 #[.agg #[vI G, .slice a0 fs.length cp0]] w1 (CbE fs w1)) := calledBy_any G _ fs w1 (HFP.out.stay HF1.out) hok (by omega) (fun f hf => by have := hcl f hf; omega)
    have HCL : Hd (∀ x, x < fs.length → ∀ z ∈ clX fs x, z < fs.length) := fun x hx => clX_lt hok hx
    have HLL : Hd (∀ x, x < fs.length → (clX fs x).length ≤ 1000000000) := fun x hx => by
      have k1 := clX_len hx
      have k2 := hcl _ (List.getElem_mem hx)
      omega
    clear hok hcl HCP
    go_wp2_with fail
    refine Calls.mono HCB.out ?_
    rintro e w2 ⟨g, cv, rfl, hg, hc, hF2⟩
    have hs2 : g < w2.heap.size := hc.row.lt
    have HCC : Hd (Cr w2 w1.heap.size g fs.length cv (fun i => zL (clX fs i))) := hc
    have HCBL : Hd (Cb cv fs.length w2.heap.size) := hc.below
    have HF2 : Hd (Fr (fun _ => False) w w2) := HF1.out.trans hF2
    have HCM : Hd (Calls Tryz.prog 17 #[.slice (some ⟨g, 0, none⟩) fs.length fs.length] w2 (CpE fs.length (clX fs) w2)) := components_any w2 (hc.lb hc.below hs2) HCL.out HLL.out (by omega)
    clear hc hF2 hg HCB c0 c1
    go_wp2_with fail
    refine Calls.mono HCM.out ?_
    rintro e w3 ⟨go, n, of, rfl, hgo, hrow, hrg, hnN, hF3⟩
    have hc3 := HCC.out.stay hF3
    have HRG : Hd (Rg fs.length (clX fs) n of) := hrg
    have HROW : Hd (Wg.Row w3 3 go fs.length (fun i => vI (of i : Nat))) := hrow
    have HJ1 : Hd (Calls Tryz.prog 18 #[.slice (some ⟨go, 0, none⟩) fs.length fs.length, .slice (some ⟨g, 0, none⟩) fs.length fs.length] w3 (JnE fs.length n go of (clX fs) w3)) := join_any w3 hrow (hc3.lb hc3.below hc3.row.lt) (by omega) (by omega) hrg.lt hrg.on hnN HCL.out HLL.out
    have HC3 : Hd (Cr w3 w1.heap.size g fs.length cv (fun i => zL (clX fs i))) := hc3
    have HF3 : Hd (Fr (fun _ => False) w w3) := HF2.out.trans hF3
    clear hc3 hrow hrg hF3 HCM HCC
    go_wp2_with fail
    refine Calls.mono HJ1.out ?_
    rintro e w4 ⟨b1, gm1, ge1, gr1, mv1, ev1, rv1, rfl, -, -, -, -, hga, hF4⟩
    have HNB : Hd (Calls Tryz.prog 19 #[.pointer (some ⟨b1, 0, none⟩)] w4 (NbE fs.length n of (clX fs) w4)) := numbers_any w4 hga HRG.out HCL.out (by omega) hnN
    have HC4 : Hd (Cr w4 w1.heap.size g fs.length cv (fun i => zL (clX fs i))) := HC3.out.stay hF4
    have HR4 : Hd (Wg.Row w4 3 go fs.length (fun i => vI (of i : Nat))) := HROW.out.fr hF4 (fun e => e)
    have HF4 : Hd (Fr (fun _ => False) w w4) := HF3.out.trans hF4
    clear hga hF4 HJ1 HC3 HROW HF3
    go_wp2_with fail
    refine Calls.mono HNB.out ?_
    rintro e w5 ⟨gx, number, dn, waits, rfl, hgx, hnrow, hni, hF5⟩
    have HGP : Hd (Gp fs.length (clX fs) n (fun x => number (of x))) := HRG.out.numbered HCL.out hni
    have hgogx : go ≠ gx := by have := HR4.out.lt; omega
    have HC5 : Hd (Cr w5 w1.heap.size g fs.length cv (fun i => zL (clX fs i))) := HC4.out.stay hF5
    have HR5 : Hd (∃ f : Nat → Nat, Wg.Row w5 3 go fs.length (fun i => vI (f i : Nat)) ∧ ∀ i, i < fs.length → f i = if i < 0 then number (of i) else of i) := ⟨of, HR4.out.fr hF5 (fun e => e), fun i _ => by simp⟩
    have HX5 : Hd (Wg.Row w5 3 gx n (fun i => vI (number i : Nat))) := hnrow
    have HF5 : Hd (Fr (fun _ => False) w w5) := HF4.out.trans hF5
    clear hnrow hni hF5 HNB HC4 HR4 HF4
    go_wp2_with fail
    go_loopw [25] (fun v wx => ∃ k : Nat, v = .int .i64 k ∧ k ≤ fs.length ∧ Hd (∃ f : Nat → Nat, Wg.Row wx 3 go fs.length (fun i => vI (f i : Nat)) ∧ ∀ i, i < fs.length → f i = if i < k then number (of i) else of i) ∧ Hd (Wg.Row wx 3 gx n (fun i => vI (number i : Nat))) ∧ Hd (Cr wx w1.heap.size g fs.length cv (fun i => zL (clX fs i))) ∧ Hd (Fr (fun _ => False) w wx)) (fun v _ => match v with | .int _ q => fs.length - q.toNat | _ => 0)
    case atStart => exact ⟨0, rfl, Nat.zero_le _, HR5.out, HX5.out, HC5.out, HF5.out⟩
    case round =>
      clear HR5 HX5 HC5 HF5
      obtain ⟨k, rfl, hk, HR, HX, HC, HF⟩ := hrel
      obtain ⟨f, hrow, hf⟩ := HR.out
      by_cases hlt : k < fs.length
      · have d1 : decide ((k : Int) < (fs.length : Int)) = true := by simp; omega
        have k0 : (0 : Int) ≤ k := by omega
        have k1 : (k : Int) < fs.length := by omega
        have hfk : f k = of k := by rw [hf k hlt, if_neg (by omega)]
        have hon := HRG.out.lt k hlt
        have p1 : wr.cell? ⟨go, k, none⟩ = some (vI (of k : Nat)) := by rw [← hfk]; exact hrow.cell hlt
        have z1 := hrow.frozen k
        have p2 : wr.cell? ⟨gx, of k, none⟩ = some (vI (number (of k) : Nat)) := HX.out.cell hon
        have o0 : (0 : Int) ≤ (of k : Int) := by omega
        have o1 : (of k : Int) < n := by omega
        have fS := setCell_fr wr go k (vI (number (of k) : Nat))
        have HR6 : Hd (∃ f : Nat → Nat, Wg.Row (wr.setCell ⟨go, k, none⟩ (vI (number (of k) : Nat))) 3 go fs.length (fun i => vI (f i : Nat)) ∧ ∀ i, i < fs.length → f i = if i < k + 1 then number (of i) else of i) := by
          refine ⟨Wg.upd f k (number (of k)), ?_, fun i hi => ?_⟩
          · have := hrow.setI (f := zF f) k (number (of k) : Int)
            rw [zF_upd] at this
            exact this
          · by_cases e : i = k
            · rw [e, Wg.upd_same, if_pos (by omega)]
            · rw [Wg.upd_ne _ _ e, hf i hi]
              by_cases e2 : i < k
              · rw [if_pos e2, if_pos (by omega)]
              · rw [if_neg e2, if_neg (by omega)]
        have HX6 : Hd (Wg.Row (wr.setCell ⟨go, k, none⟩ (vI (number (of k) : Nat))) 3 gx n (fun i => vI (number i : Nat))) := HX.out.fr fS (fun e => hgogx e.symm)
        have HC6 : Hd (Cr (wr.setCell ⟨go, k, none⟩ (vI (number (of k) : Nat))) w1.heap.size g fs.length cv (fun i => zL (clX fs i))) := HC.out.fr fS (by omega) (fun i hi q e e2 => by have := HCBL.out i hi q e; omega)
        have HF6 : Hd (Fr (fun _ => False) w (wr.setCell ⟨go, k, none⟩ (vI (number (of k) : Nat)))) := HF.out.then fS (fun q hq e => by have := HF2.out.size; omega)
        obtain ⟨O, hO⟩ : ∃ O, O = of k := ⟨_, rfl⟩
        obtain ⟨M, hM⟩ : ∃ M, M = number O := ⟨_, rfl⟩
        rw [← hO] at p1 p2 o0 o1 HR6 HX6 HC6 HF6
        rw [← hM] at p2 HR6 HX6 HC6 HF6
        clear hfk hon hO hM hrow hf HR fS
        go_wp2_with fail
        go_roundw
        case measure => simp; omega
        case rel => exact ⟨k + 1, by simp, by omega, HR6.out, HX6.out, HC6.out, HF6.out⟩
      · have d1 : decide ((k : Int) < (fs.length : Int)) = false := by simp; omega
        have d1n : ¬ k < fs.length := by omega
        have HJ2 : Hd (Calls Tryz.prog 18 #[.slice (some ⟨go, 0, none⟩) fs.length fs.length, .slice (some ⟨g, 0, none⟩) fs.length fs.length] wr (JnE fs.length n go (fun x => number (of x)) (clX fs) wr)) := join_any wr (hrow.congr (fun i hi => by rw [hf i hi, if_pos (by omega)])) (HC.out.lb HC.out.below HC.out.row.lt) (by omega) (by omega) HGP.out.lt HGP.out.on hnN HCL.out HLL.out
        clear hrow hf HR hlt
        go_wp2_with fail
        refine Calls.mono HJ2.out ?_
        rintro e w7 ⟨b, gm, ge, gr, mv, ev, rv, rfl, q1, q2, q3, q4, hga, hF7⟩
        have HEN : Hd (NwE G fs w (.returned (.tuple #[.pointer (some ⟨b, 0, none⟩), vI 0])) w7) := by
          have z1 := HF.out.size
          have z2 := HF2.out.size
          refine ⟨HF.out.trans hF7, Or.inr ⟨HE.out.symm, b, n, _, rfl, ⟨go, gm, ge, gr, mv, ev, rv, by omega, by omega, by omega, by omega, by omega, hga.blk, hga.rof, hga.cm.mono z1, hga.ce.mono z1, hga.cr.mono z1⟩, HGP.out, hnN⟩⟩
        clear hga hF7 HJ2 q1 q2 q3 q4
        go_wp2_with fail
        go_ret2
        exact HEN.out
  · have e0 : (E != 0) = true := by simp [hE0]
    have HEN : Hd (NwE G fs w (.returned (.tuple #[.pointer none, vI E])) w1) := ⟨HF1.out, Or.inl ⟨by rw [← HE.out]; exact hE0, by rw [HE.out]⟩⟩
    clear hE0 HCP
    go_wp2_with fail
    go_ret2
    exact HEN.out

set_option maxRecDepth 100000 in
set_option maxHeartbeats 2000000 in
theorem cloneI_any (v : Value) (l : List Int) (w : World) (h : IA w v l) (hn : l.length ≤ 1000000000) :
    Calls Tryz.prog 77 #[v] w fun e w' => ∃ v', e = .returned v' ∧ IOwn w' w.heap.size v' l ∧ Fr (fun _ => False) w w' := by
  by_cases hne : l = []
  · subst hne
    obtain ⟨a0, cp, rfl, -⟩ := h
    rcases a0 with _ | ad
    rotate_left
    · have hq : (binOp .eql 25 (.slice (some ad) 0 cp) (.slice none 0 0)).run Tryz.prog w = .ok (.bool false) w := by first | rfl | kernel_rfl
      have HF1 : Hd (Fr (fun _ => False) w (w.alloc (.cells #[] 3))) := Fr.alloc (Fr.refl _ w) _
      have HRW : Hd ((w.alloc (.cells #[] 3)).ownsRow w.heap.size 3 1 (.slice (some ⟨w.heap.size, 0, none⟩) 0 0) 0 []) := ⟨rfl, Or.inr ⟨w.heap.size, 0, #[], rfl, Nat.le_refl _, heap_new w _, Nat.le_refl _, Nat.zero_le _, rfl, rfl⟩⟩
      show Calls Tryz.prog 77 #[.slice (some ad) 0 cp] w _
      go_enter Tryz.func77, Tryz.ntmps77
      go_wp2_with ((at_builtin; refine Hd.out ?_))
      unfold Hd
      obtain ⟨i3, hi3, hz3, hs3, hb3⟩ := info_parts (P := Tryz.prog) (e := 3) (z := .int .i64 0) (size := 1) (bytes := 8) (by kernel_rfl)
      refine wpList_append_none0 rfl (.tmp 5) (.tmp 6) 25 rfl w.heap.size 3 i3 1 (by kernel_rfl) hi3 (.slice (some ⟨w.heap.size, 0, none⟩) 0 0) 0 [] rfl HRW.out ad cp rfl ?_
      clear hi3 hz3 hs3 hb3
      go_wp2_with fail
      go_ret
      exact ⟨_, rfl, HRW.out, HF1.out⟩
    show Calls Tryz.prog 77 #[.slice none 0 cp] w _
    have hq : (binOp .eql 25 (.slice none 0 cp) (.slice none 0 0)).run Tryz.prog w = .ok (.bool true) w := by first | rfl | kernel_rfl
    go_enter Tryz.func77, Tryz.ntmps77
    go_wp2_with fail
    go_ret
    exact ⟨_, rfl, World.ownsRow_nil _ _ _ _, Fr.refl _ _⟩
  · obtain ⟨a0, cp, rfl, hh⟩ := h
    obtain ⟨k, o, rfl, hk, hcell⟩ := hh hne
    have hpos : 0 < l.length := List.length_pos_iff.2 hne
    have hq : (binOp .eql 25 (.slice (some ⟨k, o, none⟩) l.length cp) (.slice none 0 0)).run Tryz.prog w = .ok (.bool false) w := by first | rfl | kernel_rfl
    have hF1 : Fr (fun _ => False) w (w.alloc (.cells #[] 3)) := Fr.alloc (Fr.refl _ w) _
    have HF1 : Hd (Fr (fun _ => False) w (w.alloc (.cells #[] 3))) := hF1
    have HRW : Hd ((w.alloc (.cells #[] 3)).ownsRow w.heap.size 3 1 (.slice (some ⟨w.heap.size, 0, none⟩) 0 0) 0 []) := ⟨rfl, Or.inr ⟨w.heap.size, 0, #[], rfl, Nat.le_refl _, heap_new w _, Nat.le_refl _, Nat.zero_le _, rfl, rfl⟩⟩
    have HNW : Hd (∀ j u, (l.map vI)[j]? = some u → (w.alloc (.cells #[] 3)).cell? ((⟨k, o, none⟩ : Addr).add j) = some u) := fun j u hu => by
      rw [addr_plus, hF1.cell hk (fun h => h)]
      rw [List.getElem?_map] at hu
      have hj : j < l.length := by
        by_cases e : j < l.length
        · exact e
        · rw [List.getElem?_eq_none (by omega)] at hu
          cases hu
      rw [List.getElem?_eq_getElem hj] at hu
      cases hu
      exact hcell j hj
    have hbase : w.heap.size ≤ (w.alloc (.cells #[] 3)).heap.size := hF1.size
    clear hF1 hcell hh hne
    go_enter Tryz.func77, Tryz.ntmps77
    go_wp2_with ((at_builtin; refine Hd.out ?_))
    unfold Hd
    obtain ⟨i3, hi3, hz3, hs3, hb3⟩ := info_parts (P := Tryz.prog) (e := 3) (z := .int .i64 0) (size := 1) (bytes := 8) (by kernel_rfl)
    refine wpList_append_lies _ rfl (.tmp 5) (.tmp 6) 25 rfl w.heap.size 3 i3 (.int .i64 0) 1 8 under64 hi3 hz3 hs3 hb3 rfl (by omega) (.slice (some ⟨w.heap.size, 0, none⟩) 0 0) 0 _ rfl HRW.out ⟨k, o, none⟩ l.length cp (l.map vI) rfl (by simp) HNW.out (by intro u hu; obtain ⟨x, -, rfl⟩ := List.mem_map.1 hu; rfl) hpos (by unfold maxLen; omega) (by omega) hbase (w.heap.size + 1) (by simp) ?_
    intro g6 cap6 w6 hown6 hgrow6 hat6 hlt6
    clear hi3 hz3 hs3 hb3
    have HF6 : Hd (Fr (fun _ => False) w w6) := HF1.out.then (grown_frL hgrow6) (fun j hj e => by cases e; exact absurd hj (Nat.lt_irrefl _))
    have HO6 : Hd (IOwn w6 w.heap.size (.slice (some ⟨g6, 0, none⟩) l.length cap6) l) := by unfold Hd IOwn; simpa using hown6
    clear hown6 hgrow6 hat6 hlt6 hbase HRW HNW
    rw [Nat.zero_add]
    go_wp2_with fail
    go_ret
    exact ⟨_, rfl, HO6.out, HF6.out⟩


set_option maxRecDepth 100000 in
set_option maxHeartbeats 1000000 in
theorem listOf_any {B cg r : Nat} {cv : Nat → Value} {L : Nat → List Nat} (i : Nat) (w : World) (h : Cr w B cg r cv (fun c => zL (L c))) (hi : i < r) (hr : r ≤ 1000000) (hb : (L i).length ≤ 1000000000) :
    Calls Tryz.prog 57 #[.slice (some ⟨cg, 0, none⟩) r r, vI (i : Int)] w fun e w' => ∃ v', e = .returned v' ∧ IOwn w' w.heap.size v' (zL (L i)) ∧ Fr (fun _ => False) w w' := by
  obtain ⟨a, c, ev, p0, ho⟩ := h.cell hi
  have hi0 : (0 : Int) ≤ i := by omega
  have hi1 : (i : Int) < r := by omega
  have d1 : decide ((i : Int) < 0) = false := by simp
  have d2 : decide ((i : Int) ≥ r) = false := by simp; omega
  have d3 : decide ((r : Int) ≤ i) = false := by simp; omega
  have HC : Hd (Calls Tryz.prog 77 #[.slice a (zL (L i)).length c] w fun e w' => ∃ v', e = .returned v' ∧ IOwn w' w.heap.size v' (zL (L i)) ∧ Fr (fun _ => False) w w') := cloneI_any _ _ w (IOwn.ia (B := B) ho) (by rw [List.length_map]; exact hb)
  clear h ho ev hb
  generalize zL (L i) = l at *
  go_enter Tryz.func57, Tryz.ntmps57
  go_wp2_with fail
  refine Calls.mono HC.out ?_
  rintro e w1 ⟨v', rfl, hO, hF⟩
  have HO : Hd (IOwn w1 w.heap.size v' l) := hO
  have HF : Hd (Fr (fun _ => False) w w1) := hF
  clear hO hF HC p0
  go_wp2_with fail
  go_ret
  exact ⟨v', rfl, HO.out, HF.out⟩
section
variable {w : World} {B b go gm ge gr N n : Nat} {mv ev rv : Nat → Value} {of : Nat → Nat} {cl : Nat → List Nat}
set_option maxRecDepth 100000 in
set_option maxHeartbeats 1000000 in
theorem members_any (i : Nat) (h : GA w B b go gm ge gr N n mv ev rv of cl) (hi : i < n) (hn : n ≤ 1000000) (hN : N ≤ 1000000) :
    Calls Tryz.prog 31 #[.pointer (some ⟨b, 0, none⟩), vI (i : Int)] w fun e w' => ∃ v', e = .returned v' ∧ IOwn w' w.heap.size v' (zL (memX N of i)) ∧ Fr (fun _ => False) w w' := by
  have c1 : w.cell? ⟨b, 1, none⟩ = some (.slice (some ⟨gm, 0, none⟩) n n) := by rw [cell_of0 h.blk]; rfl
  have HC : Hd (Calls Tryz.prog 57 #[.slice (some ⟨gm, 0, none⟩) n n, vI (i : Int)] w fun e w' => ∃ v', e = .returned v' ∧ IOwn w' w.heap.size v' (zL (memX N of i)) ∧ Fr (fun _ => False) w w') := listOf_any i w h.cm hi hn (by have := (len_le (memX_rise (N := N) (of := of) i) (fun x hx => (mem_memX.1 hx).1)); omega)
  clear h
  generalize zL (memX N of i) = l at *
  go_enter Tryz.func31, Tryz.ntmps31
  go_wp2_with fail
  refine Calls.mono HC.out ?_
  rintro e w1 ⟨v', rfl, hO, hF⟩
  have HO : Hd (IOwn w1 w.heap.size v' l) := hO
  have HF : Hd (Fr (fun _ => False) w w1) := hF
  clear hO hF HC c1
  go_wp2_with fail
  go_ret
  exact ⟨v', rfl, HO.out, HF.out⟩
set_option maxRecDepth 100000 in
set_option maxHeartbeats 1000000 in
theorem callees_any (i : Nat) (h : GA w B b go gm ge gr N n mv ev rv of cl) (hi : i < n) (hn : n ≤ 1000000) (hN : N ≤ 1000000) :
    Calls Tryz.prog 33 #[.pointer (some ⟨b, 0, none⟩), vI (i : Int)] w fun e w' => ∃ v', e = .returned v' ∧ IOwn w' w.heap.size v' (zL (cleX N n of cl i)) ∧ Fr (fun _ => False) w w' := by
  have c1 : w.cell? ⟨b, 2, none⟩ = some (.slice (some ⟨ge, 0, none⟩) n n) := by rw [cell_of0 h.blk]; rfl
  have HC : Hd (Calls Tryz.prog 57 #[.slice (some ⟨ge, 0, none⟩) n n, vI (i : Int)] w fun e w' => ∃ v', e = .returned v' ∧ IOwn w' w.heap.size v' (zL (cleX N n of cl i)) ∧ Fr (fun _ => False) w w') := listOf_any i w h.ce hi hn (by have := (len_le (cleX_rise (N := N) (n := n) (of := of) (cl := cl) i) (fun x hx => (mem_cleX.1 hx).1)); omega)
  clear h
  generalize zL (cleX N n of cl i) = l at *
  go_enter Tryz.func33, Tryz.ntmps33
  go_wp2_with fail
  refine Calls.mono HC.out ?_
  rintro e w1 ⟨v', rfl, hO, hF⟩
  have HO : Hd (IOwn w1 w.heap.size v' l) := hO
  have HF : Hd (Fr (fun _ => False) w w1) := hF
  clear hO hF HC c1
  go_wp2_with fail
  go_ret
  exact ⟨v', rfl, HO.out, HF.out⟩
set_option maxRecDepth 100000 in
set_option maxHeartbeats 1000000 in
theorem callers_any (i : Nat) (h : GA w B b go gm ge gr N n mv ev rv of cl) (hi : i < n) (hn : n ≤ 1000000) (hN : N ≤ 1000000) :
    Calls Tryz.prog 35 #[.pointer (some ⟨b, 0, none⟩), vI (i : Int)] w fun e w' => ∃ v', e = .returned v' ∧ IOwn w' w.heap.size v' (zL (clrX N n of cl i)) ∧ Fr (fun _ => False) w w' := by
  have c1 : w.cell? ⟨b, 3, none⟩ = some (.slice (some ⟨gr, 0, none⟩) n n) := by rw [cell_of0 h.blk]; rfl
  have HC : Hd (Calls Tryz.prog 57 #[.slice (some ⟨gr, 0, none⟩) n n, vI (i : Int)] w fun e w' => ∃ v', e = .returned v' ∧ IOwn w' w.heap.size v' (zL (clrX N n of cl i)) ∧ Fr (fun _ => False) w w') := listOf_any i w h.cr hi hn (by have := (len_le (clrX_rise (N := N) (n := n) (of := of) (cl := cl) i) (fun x hx => (mem_clrX.1 hx).1)); omega)
  clear h
  generalize zL (clrX N n of cl i) = l at *
  go_enter Tryz.func35, Tryz.ntmps35
  go_wp2_with fail
  refine Calls.mono HC.out ?_
  rintro e w1 ⟨v', rfl, hO, hF⟩
  have HO : Hd (IOwn w1 w.heap.size v' l) := hO
  have HF : Hd (Fr (fun _ => False) w w1) := hF
  clear hO hF HC c1
  go_wp2_with fail
  go_ret
  exact ⟨v', rfl, HO.out, HF.out⟩
set_option maxRecDepth 100000 in
set_option maxHeartbeats 1000000 in
theorem of_any (i : Nat) (h : GA w B b go gm ge gr N n mv ev rv of cl) (hi : i < N) (hN : N ≤ 1000000) :
    Calls Tryz.prog 28 #[.pointer (some ⟨b, 0, none⟩), vI (i : Int)] w fun e w' => e = .returned (vI (of i : Nat)) ∧ w' = w := by
  have c0 : w.cell? ⟨b, 0, none⟩ = some (.slice (some ⟨go, 0, none⟩) N N) := by rw [cell_of0 h.blk]; rfl
  have p0 : w.cell? ⟨go, i, none⟩ = some (vI (of i : Nat)) := h.rof.cell hi
  have hi0 : (0 : Int) ≤ i := by omega
  have hi1 : (i : Int) < N := by omega
  have d1 : decide ((i : Int) < 0) = false := by simp
  have d2 : decide ((i : Int) ≥ N) = false := by simp; omega
  have d3 : decide ((N : Int) ≤ i) = false := by simp; omega
  clear h
  go_enter Tryz.func28, Tryz.ntmps28
  go_wp2_with fail
  go_ret
  exact ⟨rfl, rfl⟩
end

theorem WF.stay {w w' : World} {B : Nat} {v : Value} {fs : List PF} {g : Nat} {cv : Nat → Value} (h : WF w B v fs g cv) (f : Fr (fun _ => False) w w') : WF w' B v fs g cv :=
  ⟨h.val, h.ge, h.row.fr f (fun e => e), fun i x hx => (h.code i x hx).stay f, h.apart⟩
theorem WF.fa {w : World} {B : Nat} {v : Value} {fs : List PF} {g : Nat} {cv : Nat → Value} (h : WF w B v fs g cv) : FA w v fs := by
  refine ⟨_, _, h.val, fun _ => ⟨g, 0, rfl, h.row.lt, fun j hj => ?_⟩⟩
  have pc := fun o (ho : o < 4) => h.row.cell (i := j) (o := o) (by omega) ho
  have e1 : wideF fs cv j = fR fs[j] (cv j) := by unfold wideF; rw [List.getElem?_eq_getElem hj]
  rw [e1] at pc
  rw [Nat.zero_add]
  exact ⟨cv j, pc 0 (by omega), pc 1 (by omega), pc 2 (by omega), pc 3 (by omega), (h.code j fs[j] (List.getElem?_eq_getElem hj)).ca⟩


set_option maxRecDepth 100000 in
set_option maxHeartbeats 2000000 in
theorem eqInstr_same (c : PI) (x1 y1 x2 y2 : Value) (w : World) (h1 : IA w x1 c.args) (h2 : IA w y1 c.rets) (h3 : IA w x2 c.args) (h4 : IA w y2 c.rets) (hla : c.args.length ≤ 17592186043904) (hlr : c.rets.length ≤ 17592186043904) :
    Calls Tryz.prog 96 #[.agg #[vI c.op, vI c.r, vI c.s, vI c.t, vI c.n, x1, y1], .agg #[vI c.op, vI c.r, vI c.s, vI c.t, vI c.n, x2, y2]] w fun e w' => e = .returned (.bool true) ∧ Fr (fun _ => False) w w' := by
  obtain ⟨a1, b1, e1, -⟩ := id h1
  obtain ⟨a2, b2, e2, -⟩ := id h2
  obtain ⟨a3, b3, e3, -⟩ := id h3
  obtain ⟨a4, b4, e4, -⟩ := id h4
  have hF : Fr (fun _ => False) w ((w.alloc (.cells #[vI c.op, vI c.r, vI c.s, vI c.t, vI c.n, x1, y1] 43)).alloc (.cells #[vI c.op, vI c.r, vI c.s, vI c.t, vI c.n, x2, y2] 43)) := Fr.alloc (Fr.alloc (Fr.refl _ w) _) _
  have HB1 : Hd (((w.alloc (.cells #[vI c.op, vI c.r, vI c.s, vI c.t, vI c.n, x1, y1] 43)).alloc (.cells #[vI c.op, vI c.r, vI c.s, vI c.t, vI c.n, x2, y2] 43)).heap[w.heap.size]? = some (.cells #[vI c.op, vI c.r, vI c.s, vI c.t, vI c.n, x1, y1] 43)) := by
    unfold Hd; rw [Go.RowKit.Below.heap_alloc _ _ _ (by simp)]; exact heap_new w _
  have HB2 : Hd (((w.alloc (.cells #[vI c.op, vI c.r, vI c.s, vI c.t, vI c.n, x1, y1] 43)).alloc (.cells #[vI c.op, vI c.r, vI c.s, vI c.t, vI c.n, x2, y2] 43)).heap[w.heap.size + 1]? = some (.cells #[vI c.op, vI c.r, vI c.s, vI c.t, vI c.n, x2, y2] 43)) := by
    unfold Hd; rw [show w.heap.size + 1 = (w.alloc (.cells #[vI c.op, vI c.r, vI c.s, vI c.t, vI c.n, x1, y1] 43)).heap.size by simp]; exact heap_new _ _
  have H1 := h1.stay hF
  have H2 := h2.stay hF
  have H3 := h3.stay hF
  have H4 := h4.stay hF
  have G1 : Hd _ := H1
  have G2 : Hd _ := H2
  have G3 : Hd _ := H3
  have G4 : Hd _ := H4
  have HF : Hd _ := hF
  clear h1 h2 h3 h4 H1 H2 H3 H4 hF
  subst e1; subst e2; subst e3; subst e4
  have q0 : (c.op == c.op) = true := by simp
  have q1 : (c.r == c.r) = true := by simp
  have q2 : (c.s == c.s) = true := by simp
  have q3 : (c.t == c.t) = true := by simp
  have q4 : (c.n == c.n) = true := by simp
  go_enter Tryz.func96, Tryz.ntmps96
  go_upto_region 1 with fail
  generalize (w.alloc (.cells #[vI c.op, vI c.r, vI c.s, vI c.t, vI c.n, .slice a1 c.args.length b1, .slice a2 c.rets.length b2] 43)).alloc (.cells #[vI c.op, vI c.r, vI c.s, vI c.t, vI c.n, .slice a3 c.args.length b3, .slice a4 c.rets.length b4] 43) = wa at *
  have c0 : wa.cell? ⟨w.heap.size, 0, none⟩ = some (vI c.op) := by rw [cell_of HB1.out]; rfl
  have c1 : wa.cell? ⟨w.heap.size, 1, none⟩ = some (vI c.r) := by rw [cell_of HB1.out]; rfl
  have c2 : wa.cell? ⟨w.heap.size, 2, none⟩ = some (vI c.s) := by rw [cell_of HB1.out]; rfl
  have c3 : wa.cell? ⟨w.heap.size, 3, none⟩ = some (vI c.t) := by rw [cell_of HB1.out]; rfl
  have c4 : wa.cell? ⟨w.heap.size, 4, none⟩ = some (vI c.n) := by rw [cell_of HB1.out]; rfl
  have c5 : wa.cell? ⟨w.heap.size, 5, none⟩ = some (.slice a1 c.args.length b1) := by rw [cell_of HB1.out]; rfl
  have d0 : wa.cell? ⟨w.heap.size + 1, 0, none⟩ = some (vI c.op) := by rw [cell_of HB2.out]; rfl
  have d1 : wa.cell? ⟨w.heap.size + 1, 1, none⟩ = some (vI c.r) := by rw [cell_of HB2.out]; rfl
  have d2 : wa.cell? ⟨w.heap.size + 1, 2, none⟩ = some (vI c.s) := by rw [cell_of HB2.out]; rfl
  have d3 : wa.cell? ⟨w.heap.size + 1, 3, none⟩ = some (vI c.t) := by rw [cell_of HB2.out]; rfl
  have d4 : wa.cell? ⟨w.heap.size + 1, 4, none⟩ = some (vI c.n) := by rw [cell_of HB2.out]; rfl
  have d5 : wa.cell? ⟨w.heap.size + 1, 5, none⟩ = some (.slice a3 c.args.length b3) := by rw [cell_of HB2.out]; rfl
  go_wp2_with fail
  refine (show Calls Tryz.prog 30 #[.slice a1 c.args.length b1, .slice a3 c.args.length b3] wa _ from eqInts_same _ _ c.args wa G1.out G3.out hla).mono ?_
  rintro e w1 ⟨rfl, hF1⟩
  have G2' : Hd (IA w1 (.slice a2 c.rets.length b2) c.rets) := IA.stay G2.out hF1
  have G4' : Hd (IA w1 (.slice a4 c.rets.length b4) c.rets) := IA.stay G4.out hF1
  have p6 : w1.cell? ⟨w.heap.size, 6, none⟩ = some (.slice a2 c.rets.length b2) := by rw [hF1.cell (heap_lt HB1.out) (fun e => e), cell_of HB1.out]; rfl
  have r6 : w1.cell? ⟨w.heap.size + 1, 6, none⟩ = some (.slice a4 c.rets.length b4) := by rw [hF1.cell (heap_lt HB2.out) (fun e => e), cell_of HB2.out]; rfl
  have HF1 : Hd (Fr (fun _ => False) w w1) := HF.out.trans hF1
  clear hF1 c0 c1 c2 c3 c4 c5 d0 d1 d2 d3 d4 d5 HB1 HB2
  go_wp2_with fail
  refine (show Calls Tryz.prog 30 #[.slice a2 c.rets.length b2, .slice a4 c.rets.length b4] w1 _ from eqInts_same _ _ c.rets w1 G2'.out G4'.out hlr).mono ?_
  rintro e w2 ⟨rfl, hF2⟩
  have HF2 : Hd (Fr (fun _ => False) w w2) := HF1.out.trans hF2
  clear hF2
  go_wp2_with fail
  go_ret
  exact ⟨rfl, HF2.out⟩

set_option maxRecDepth 100000 in
set_option maxHeartbeats 2000000 in
theorem eqCode_same (v1 v2 : Value) (cs : List PI) (w : World) (h1 : CA w v1 cs) (h2 : CA w v2 cs) (hn : FineC cs) :
    Calls Tryz.prog 75 #[v1, v2] w fun e w' => e = .returned (.bool true) ∧ Fr (fun _ => False) w w' := by
  obtain ⟨a1, c1, rfl, hc1⟩ := h1
  obtain ⟨a2, c2, rfl, hc2⟩ := h2
  have H1 : Hd _ := hc1
  have H2 : Hd _ := hc2
  have HFI : Hd (FineC cs) := hn
  have hz := hn.1
  clear hc1 hc2 hn
  go_enter Tryz.func75, Tryz.ntmps75
  go_wp2_with fail
  go_loopw [5] (fun v wr => ∃ (k : Nat), v = .int .i64 k ∧ k ≤ cs.length ∧ Hd (Fr (fun _ => False) w wr)) (fun v _ => match v with | .int _ q => cs.length - q.toNat | _ => 0)
  case atStart => exact ⟨0, rfl, Nat.zero_le _, Fr.refl _ _⟩
  case round =>
    obtain ⟨k, rfl, hk, HF⟩ := hrel
    by_cases hlt : k < cs.length
    · have hne : cs ≠ [] := by intro e; simp [e] at hlt
      obtain ⟨k1, o1, rfl, hk1, g1⟩ := H1.out hne
      obtain ⟨k2, o2, rfl, hk2, g2⟩ := H2.out hne
      obtain ⟨x1, y1, p0, p1, p2, p3, p4, p5, p6, ix1, iy1⟩ := g1 k hlt
      obtain ⟨x2, y2, q0, q1, q2, q3, q4, q5, q6, ix2, iy2⟩ := g2 k hlt
      have m1 := fun o => HF.out.cell (o := o) hk1 (fun h => h)
      have m2 := fun o => HF.out.cell (o := o) hk2 (fun h => h)
      have p0 := (m1 _).trans p0
      have p1 := (m1 _).trans p1
      have p2 := (m1 _).trans p2
      have p3 := (m1 _).trans p3
      have p4 := (m1 _).trans p4
      have p5 := (m1 _).trans p5
      have p6 := (m1 _).trans p6
      have q0 := (m2 _).trans q0
      have q1 := (m2 _).trans q1
      have q2 := (m2 _).trans q2
      have q3 := (m2 _).trans q3
      have q4 := (m2 _).trans q4
      have q5 := (m2 _).trans q5
      have q6 := (m2 _).trans q6
      have X1 : Hd (IA wr x1 cs[k].args) := ix1.stay HF.out
      have Y1 : Hd (IA wr y1 cs[k].rets) := iy1.stay HF.out
      have X2 : Hd (IA wr x2 cs[k].args) := ix2.stay HF.out
      have Y2 : Hd (IA wr y2 cs[k].rets) := iy2.stay HF.out
      have HC : Hd (cs[k].args.length ≤ 17592186043904 ∧ cs[k].rets.length ≤ 17592186043904) := HFI.out.2 _ (List.getElem_mem hlt)
      generalize cs[k] = c at *
      obtain ⟨a, b, e1, -⟩ := ix1
      obtain ⟨a', b', e2, -⟩ := iy1
      obtain ⟨a'', b'', e3, -⟩ := ix2
      obtain ⟨a3, b3, e4, -⟩ := iy2
      subst e1; subst e2; subst e3; subst e4
      have hk0 : (0 : Int) ≤ k := by omega
      have hk3 : (k : Int) < cs.length := by omega
      clear g1 g2 m1 m2
      go_wp2_with fail
      refine wp_region_still_tail 8 mixed (by kernel_rfl) ?_
      simp only [List.take_succ_cons, List.take_zero, List.drop_succ_cons, List.drop_zero]
      repeat still_step
      refine wpStill_nil ?_
      go_wp2_with fail
      refine (show Calls Tryz.prog 96 #[.agg #[vI c.op, vI c.r, vI c.s, vI c.t, vI c.n, .slice a c.args.length b, .slice a' c.rets.length b'], .agg #[vI c.op, vI c.r, vI c.s, vI c.t, vI c.n, .slice a'' c.args.length b'', .slice a3 c.rets.length b3]] wr.drew _ from eqInstr_same c _ _ _ _ wr.drew X1.out Y1.out X2.out Y2.out (by have := HC.out; omega) (by have := HC.out; omega)).mono ?_
      rintro e w1 ⟨rfl, hF1⟩
      have HF1 : Hd (Fr (fun _ => False) w w1) := HF.out.drew.trans hF1
      clear hF1 p0 p1 p2 p3 p4 p5 p6 q0 q1 q2 q3 q4 q5 q6
      go_wp2_with fail
      exact ⟨⟨k + 1, by simp, by omega, HF1.out⟩, by simp; omega⟩
    · have hke : k = cs.length := by omega
      subst hke
      go_wp2_with fail
      go_ret
      exact ⟨rfl, HF.out⟩

set_option maxRecDepth 100000 in
set_option maxHeartbeats 2000000 in
theorem eqFunc_same (f : PF) (x1 x2 : Value) (w : World) (h1 : CA w x1 f.code) (h3 : CA w x2 f.code) (hn : FineC f.code) :
    Calls Tryz.prog 54 #[.agg #[vI f.P, vI f.R, vI f.V, x1], .agg #[vI f.P, vI f.R, vI f.V, x2]] w fun e w' => e = .returned (.bool true) ∧ Fr (fun _ => False) w w' := by
  obtain ⟨a1, b1, e1, -⟩ := id h1
  obtain ⟨a3, b3, e3, -⟩ := id h3
  have hF : Fr (fun _ => False) w ((w.alloc (.cells #[vI f.P, vI f.R, vI f.V, x1] 41)).alloc (.cells #[vI f.P, vI f.R, vI f.V, x2] 41)) := Fr.alloc (Fr.alloc (Fr.refl _ w) _) _
  have HB1 : Hd (((w.alloc (.cells #[vI f.P, vI f.R, vI f.V, x1] 41)).alloc (.cells #[vI f.P, vI f.R, vI f.V, x2] 41)).heap[w.heap.size]? = some (.cells #[vI f.P, vI f.R, vI f.V, x1] 41)) := by
    unfold Hd; rw [Go.RowKit.Below.heap_alloc _ _ _ (by simp)]; exact heap_new w _
  have HB2 : Hd (((w.alloc (.cells #[vI f.P, vI f.R, vI f.V, x1] 41)).alloc (.cells #[vI f.P, vI f.R, vI f.V, x2] 41)).heap[w.heap.size + 1]? = some (.cells #[vI f.P, vI f.R, vI f.V, x2] 41)) := by
    unfold Hd; rw [show w.heap.size + 1 = (w.alloc (.cells #[vI f.P, vI f.R, vI f.V, x1] 41)).heap.size by simp]; exact heap_new _ _
  have H1 := h1.stay hF
  have H3 := h3.stay hF
  have G1 : Hd _ := H1
  have G3 : Hd _ := H3
  have HF : Hd _ := hF
  clear h1 h3 H1 H3 hF
  subst e1; subst e3
  have q0 : (f.P == f.P) = true := by simp
  have q1 : (f.R == f.R) = true := by simp
  have q2 : (f.V == f.V) = true := by simp
  go_enter Tryz.func54, Tryz.ntmps54
  go_upto_region 1 with fail
  generalize (w.alloc (.cells #[vI f.P, vI f.R, vI f.V, .slice a1 f.code.length b1] 41)).alloc (.cells #[vI f.P, vI f.R, vI f.V, .slice a3 f.code.length b3] 41) = wa at *
  have c0 : wa.cell? ⟨w.heap.size, 0, none⟩ = some (vI f.P) := by rw [cell_of HB1.out]; rfl
  have c1 : wa.cell? ⟨w.heap.size, 1, none⟩ = some (vI f.R) := by rw [cell_of HB1.out]; rfl
  have c2 : wa.cell? ⟨w.heap.size, 2, none⟩ = some (vI f.V) := by rw [cell_of HB1.out]; rfl
  have c3 : wa.cell? ⟨w.heap.size, 3, none⟩ = some (.slice a1 f.code.length b1) := by rw [cell_of HB1.out]; rfl
  have d0 : wa.cell? ⟨w.heap.size + 1, 0, none⟩ = some (vI f.P) := by rw [cell_of HB2.out]; rfl
  have d1 : wa.cell? ⟨w.heap.size + 1, 1, none⟩ = some (vI f.R) := by rw [cell_of HB2.out]; rfl
  have d2 : wa.cell? ⟨w.heap.size + 1, 2, none⟩ = some (vI f.V) := by rw [cell_of HB2.out]; rfl
  have d3 : wa.cell? ⟨w.heap.size + 1, 3, none⟩ = some (.slice a3 f.code.length b3) := by rw [cell_of HB2.out]; rfl
  go_wp2_with fail
  refine (show Calls Tryz.prog 75 #[.slice a1 f.code.length b1, .slice a3 f.code.length b3] wa _ from eqCode_same _ _ f.code wa G1.out G3.out hn).mono ?_
  rintro e w1 ⟨rfl, hF1⟩
  have HF1 : Hd (Fr (fun _ => False) w w1) := HF.out.trans hF1
  clear hF1 c0 c1 c2 c3 d0 d1 d2 d3 HB1 HB2
  go_wp2_with fail
  go_ret
  exact ⟨rfl, HF1.out⟩

end Go.Proofs.YtjmbfjaahadbhaaGreatDoor
