import Derived.Test.YtjmbfjaahadbhaaDoorQIa
import Derived.Test.YtjmbfjaahadbhaaDoorQGg
import Derived.Test.YtjmbfjaahadbhaaDoorQGm
import Derived.Test.YtjmbfjaahadbhaaDoorQHh
import Derived.Test.YtjmbfjaahadbhaaDoorQN4J
set_option linter.unusedVariables false
set_option linter.unusedSimpArgs false
namespace Go.Proofs.YtjmbfjaahadbhaaDoor
open Go.RowKit (wrap32 wrap64)

/-- A graph of a right program, made since w. -/
def GrN (fs : List PF) (w w' : World) (b n : Nat) (of : Nat → Nat) : Prop :=
  ∃ go gm ge gr mv ev rv, w.heap.size ≤ b ∧ w.heap.size ≤ go ∧ w.heap.size ≤ gm ∧ w.heap.size ≤ ge ∧ w.heap.size ≤ gr ∧ GA w' w.heap.size b go gm ge gr fs.length n mv ev rv of (clX fs)
/-- What New leaves. -/
def NwE (G : Int) (fs : List PF) (w : World) (e : Ending) (w' : World) : Prop :=
  Fr (fun _ => False) w w' ∧ ((checkP G fs ≠ 0 ∧ e = .returned (.tuple #[.pointer none, vI (checkP G fs)])) ∨ (checkP G fs = 0 ∧ ∃ b n of, e = .returned (.tuple #[.pointer (some ⟨b, 0, none⟩), vI 0]) ∧ GrN fs w w' b n of ∧ Gp fs.length (clX fs) n of ∧ n ≤ fs.length))

set_option maxRecDepth 100000 in
set_option maxHeartbeats 8000000 in
theorem new_any (G : Int) (fs : List PF) (fv : Value) (w : World) (h : FA w fv fs) (hn : FineP fs) (hT : Tab w) (h0 : 0 < w.heap.size) :
    Calls Tryd.prog 10 #[.agg #[vI G, fv]] w (NwE G fs w) := by
  obtain ⟨a0, cp0, efv, -⟩ := id h
  subst efv
  obtain ⟨wa, hwa⟩ : ∃ wa, wa = w.alloc (.cells #[vI G, .slice a0 fs.length cp0] 24) := ⟨_, rfl⟩
  obtain ⟨H, hH⟩ : ∃ H, H = w.heap.size := ⟨_, rfl⟩
  have HH : Hd (H = w.heap.size) := hH
  have hFa : Fr (fun _ => False) w wa := by rw [hwa]; exact Fr.alloc (Fr.refl _ w) _
  have hba : wa.heap[H]? = some (.cells #[vI G, .slice a0 fs.length cp0] 24) := by rw [hwa, hH]; exact heap_new0 w _
  have HCK : Hd (Calls Tryd.prog 30 #[.agg #[vI G, .slice a0 fs.length cp0]] wa fun e w' => e = .returned (vI (checkP G fs)) ∧ Fr (fun _ => False) wa w') := check_fa wa G fs _ (h.stay hFa) hn (hT.fr hFa (fun e => e)) (Nat.lt_of_lt_of_le h0 hFa.size)
  have HWA : Hd (wa = w.alloc (.cells #[vI G, .slice a0 fs.length cp0] 24)) := hwa
  have HBA : Hd (wa.heap[H]? = some (.cells #[vI G, .slice a0 fs.length cp0] 24)) := hba
  have HFA : Hd (Fr (fun _ => False) w wa) := hFa
  have HFP : Hd (FA w (.slice a0 fs.length cp0) fs) := h
  have c0 : wa.cell? ⟨H, 0, none⟩ = some (vI G) := by rw [cell_of0 hba]; rfl
  have c1 : wa.cell? ⟨H, 1, none⟩ = some (.slice a0 fs.length cp0) := by rw [cell_of0 hba]; rfl
  have HCP : Hd (checkP G fs = 0 → (1 ≤ fs.length ∧ fs.length ≤ 65535) ∧ CallOk fs ∧ ∀ f ∈ fs, f.code.length ≤ 4096) := fun e => ⟨check_len e, check_calls e⟩
  obtain ⟨E, hE⟩ : ∃ E, E = checkP G fs := ⟨_, rfl⟩
  have HE : Hd (E = checkP G fs) := hE
  rw [← hE] at HCK HCP
  clear h hn hT hwa hH hFa hba hE
  go_enter Tryd.func10, Tryd.ntmps10
  go_upto_region 1 with fail
  rw [← HWA.out, ← HH.out]
  clear HWA
  go_wp2_with fail
  refine Calls.mono HCK.out ?_
  rintro e w1 ⟨rfl, hF1⟩
  have HF1 : Hd (Fr (fun _ => False) w w1) := HFA.out.trans hF1
  have HB1 : Hd (w1.heap[H]? = some (.cells #[vI G, .slice a0 fs.length cp0] 24)) := keepF HBA.out hF1
  clear hF1 HCK HFA HBA c0 c1
  by_cases hE0 : E = 0
  · obtain ⟨⟨hN1, hN2⟩, hok, hcl⟩ := HCP.out hE0
    subst hE0
    have c0 : w1.cell? ⟨H, 0, none⟩ = some (vI G) := by rw [cell_of0 HB1.out]; rfl
    have c1 : w1.cell? ⟨H, 1, none⟩ = some (.slice a0 fs.length cp0) := by rw [cell_of0 HB1.out]; rfl
    have HCB : Hd (Calls Tryd.prog 31 #[.agg #[vI G, .slice a0 fs.length cp0]] w1 (CbE fs w1)) := calledBy_any G _ fs w1 (HFP.out.stay HF1.out) hok (by omega) (fun f hf => by have := hcl f hf; omega)
    have HCL : Hd (∀ x, x < fs.length → ∀ z ∈ clX fs x, z < fs.length) := fun x hx => clX_lt hok hx
    have HLL : Hd (∀ x, x < fs.length → (clX fs x).length ≤ 1000000000) := fun x hx => by
      have k1 := clX_len hx
      have k2 := hcl _ (List.getElem_mem hx)
      omega
    clear hok hcl HCP
    go_wp2_with fail
    refine Calls.mono HCB.out ?_
    rintro e w2 ⟨g, cv, rfl, hg, hc, hF2⟩
    have hs2 : g < w2.heap.size := hc.row.lt
    have HCC : Hd (Cr w2 w1.heap.size g fs.length cv (fun i => zL (clX fs i))) := hc
    have HCBL : Hd (Cb cv fs.length w2.heap.size) := hc.below
    have HF2 : Hd (Fr (fun _ => False) w w2) := HF1.out.trans hF2
    have HCM : Hd (Calls Tryd.prog 32 #[.slice (some ⟨g, 0, none⟩) fs.length fs.length] w2 (CpE fs.length (clX fs) w2)) := components_any w2 (hc.lb hc.below hs2) HCL.out HLL.out (by omega)
    clear hc hF2 hg HCB c0 c1
    go_wp2_with fail
    refine Calls.mono HCM.out ?_
    rintro e w3 ⟨go, n, of, rfl, hgo, hrow, hrg, hnN, hF3⟩
    have hc3 := HCC.out.stay hF3
    have HRG : Hd (Rg fs.length (clX fs) n of) := hrg
    have HROW : Hd (Wg.Row w3 3 go fs.length (fun i => vI (of i : Nat))) := hrow
    have HJ1 : Hd (Calls Tryd.prog 33 #[.slice (some ⟨go, 0, none⟩) fs.length fs.length, .slice (some ⟨g, 0, none⟩) fs.length fs.length] w3 (JnE fs.length n go of (clX fs) w3)) := join_any w3 hrow (hc3.lb hc3.below hc3.row.lt) (by omega) (by omega) hrg.lt hrg.on hnN HCL.out HLL.out
    have HC3 : Hd (Cr w3 w1.heap.size g fs.length cv (fun i => zL (clX fs i))) := hc3
    have HF3 : Hd (Fr (fun _ => False) w w3) := HF2.out.trans hF3
    clear hc3 hrow hrg hF3 HCM HCC
    go_wp2_with fail
    refine Calls.mono HJ1.out ?_
    rintro e w4 ⟨b1, gm1, ge1, gr1, mv1, ev1, rv1, rfl, -, -, -, -, hga, hF4⟩
    have HNB : Hd (Calls Tryd.prog 34 #[.pointer (some ⟨b1, 0, none⟩)] w4 (NbE fs.length n of (clX fs) w4)) := numbers_any w4 hga HRG.out HCL.out (by omega) hnN
    have HC4 : Hd (Cr w4 w1.heap.size g fs.length cv (fun i => zL (clX fs i))) := HC3.out.stay hF4
    have HR4 : Hd (Wg.Row w4 3 go fs.length (fun i => vI (of i : Nat))) := HROW.out.fr hF4 (fun e => e)
    have HF4 : Hd (Fr (fun _ => False) w w4) := HF3.out.trans hF4
    clear hga hF4 HJ1 HC3 HROW HF3
    go_wp2_with fail
    refine Calls.mono HNB.out ?_
    rintro e w5 ⟨gx, number, dn, waits, rfl, hgx, hnrow, hni, hF5⟩
    have HGP : Hd (Gp fs.length (clX fs) n (fun x => number (of x))) := HRG.out.numbered HCL.out hni
    have hgogx : go ≠ gx := by have := HR4.out.lt; omega
    have HC5 : Hd (Cr w5 w1.heap.size g fs.length cv (fun i => zL (clX fs i))) := HC4.out.stay hF5
    have HR5 : Hd (∃ f : Nat → Nat, Wg.Row w5 3 go fs.length (fun i => vI (f i : Nat)) ∧ ∀ i, i < fs.length → f i = if i < 0 then number (of i) else of i) := ⟨of, HR4.out.fr hF5 (fun e => e), fun i _ => by simp⟩
    have HX5 : Hd (Wg.Row w5 3 gx n (fun i => vI (number i : Nat))) := hnrow
    have HF5 : Hd (Fr (fun _ => False) w w5) := HF4.out.trans hF5
    clear hnrow hni hF5 HNB HC4 HR4 HF4
    go_wp2_with fail
    go_loopw [25] (fun v wx => ∃ k : Nat, v = .int .i64 k ∧ k ≤ fs.length ∧ Hd (∃ f : Nat → Nat, Wg.Row wx 3 go fs.length (fun i => vI (f i : Nat)) ∧ ∀ i, i < fs.length → f i = if i < k then number (of i) else of i) ∧ Hd (Wg.Row wx 3 gx n (fun i => vI (number i : Nat))) ∧ Hd (Cr wx w1.heap.size g fs.length cv (fun i => zL (clX fs i))) ∧ Hd (Fr (fun _ => False) w wx)) (fun v _ => match v with | .int _ q => fs.length - q.toNat | _ => 0)
    case atStart => exact ⟨0, rfl, Nat.zero_le _, HR5.out, HX5.out, HC5.out, HF5.out⟩
    case round =>
      clear HR5 HX5 HC5 HF5
      obtain ⟨k, rfl, hk, HR, HX, HC, HF⟩ := hrel
      obtain ⟨f, hrow, hf⟩ := HR.out
      by_cases hlt : k < fs.length
      · have d1 : decide ((k : Int) < (fs.length : Int)) = true := by simp; omega
        have k0 : (0 : Int) ≤ k := by omega
        have k1 : (k : Int) < fs.length := by omega
        have hfk : f k = of k := by rw [hf k hlt, if_neg (by omega)]
        have hon := HRG.out.lt k hlt
        have p1 : wr.cell? ⟨go, k, none⟩ = some (vI (of k : Nat)) := by rw [← hfk]; exact hrow.cell hlt
        have z1 := hrow.frozen k
        have p2 : wr.cell? ⟨gx, of k, none⟩ = some (vI (number (of k) : Nat)) := HX.out.cell hon
        have o0 : (0 : Int) ≤ (of k : Int) := by omega
        have o1 : (of k : Int) < n := by omega
        have fS := setCell_fr wr go k (vI (number (of k) : Nat))
        have HR6 : Hd (∃ f : Nat → Nat, Wg.Row (wr.setCell ⟨go, k, none⟩ (vI (number (of k) : Nat))) 3 go fs.length (fun i => vI (f i : Nat)) ∧ ∀ i, i < fs.length → f i = if i < k + 1 then number (of i) else of i) := by
          refine ⟨Wg.upd f k (number (of k)), ?_, fun i hi => ?_⟩
          · have := hrow.setI (f := zF f) k (number (of k) : Int)
            rw [zF_upd] at this
            exact this
          · by_cases e : i = k
            · rw [e, Wg.upd_same, if_pos (by omega)]
            · rw [Wg.upd_ne _ _ e, hf i hi]
              by_cases e2 : i < k
              · rw [if_pos e2, if_pos (by omega)]
              · rw [if_neg e2, if_neg (by omega)]
        have HX6 : Hd (Wg.Row (wr.setCell ⟨go, k, none⟩ (vI (number (of k) : Nat))) 3 gx n (fun i => vI (number i : Nat))) := HX.out.fr fS (fun e => hgogx e.symm)
        have HC6 : Hd (Cr (wr.setCell ⟨go, k, none⟩ (vI (number (of k) : Nat))) w1.heap.size g fs.length cv (fun i => zL (clX fs i))) := HC.out.fr fS (by omega) (fun i hi q e e2 => by have := HCBL.out i hi q e; omega)
        have HF6 : Hd (Fr (fun _ => False) w (wr.setCell ⟨go, k, none⟩ (vI (number (of k) : Nat)))) := HF.out.then fS (fun q hq e => by have := HF2.out.size; omega)
        obtain ⟨O, hO⟩ : ∃ O, O = of k := ⟨_, rfl⟩
        obtain ⟨M, hM⟩ : ∃ M, M = number O := ⟨_, rfl⟩
        rw [← hO] at p1 p2 o0 o1 HR6 HX6 HC6 HF6
        rw [← hM] at p2 HR6 HX6 HC6 HF6
        clear hfk hon hO hM hrow hf HR fS
        go_wp2_with fail
        go_roundw
        case measure => simp; omega
        case rel => exact ⟨k + 1, by simp, by omega, HR6.out, HX6.out, HC6.out, HF6.out⟩
      · have d1 : decide ((k : Int) < (fs.length : Int)) = false := by simp; omega
        have d1n : ¬ k < fs.length := by omega
        have HJ2 : Hd (Calls Tryd.prog 33 #[.slice (some ⟨go, 0, none⟩) fs.length fs.length, .slice (some ⟨g, 0, none⟩) fs.length fs.length] wr (JnE fs.length n go (fun x => number (of x)) (clX fs) wr)) := join_any wr (hrow.congr (fun i hi => by rw [hf i hi, if_pos (by omega)])) (HC.out.lb HC.out.below HC.out.row.lt) (by omega) (by omega) HGP.out.lt HGP.out.on hnN HCL.out HLL.out
        clear hrow hf HR hlt
        go_wp2_with fail
        refine Calls.mono HJ2.out ?_
        rintro e w7 ⟨b, gm, ge, gr, mv, ev, rv, rfl, q1, q2, q3, q4, hga, hF7⟩
        have HEN : Hd (NwE G fs w (.returned (.tuple #[.pointer (some ⟨b, 0, none⟩), vI 0])) w7) := by
          have z1 := HF.out.size
          have z2 := HF2.out.size
          refine ⟨HF.out.trans hF7, Or.inr ⟨HE.out.symm, b, n, _, rfl, ⟨go, gm, ge, gr, mv, ev, rv, by omega, by omega, by omega, by omega, by omega, hga.blk, hga.rof, hga.cm.mono z1, hga.ce.mono z1, hga.cr.mono z1⟩, HGP.out, hnN⟩⟩
        clear hga hF7 HJ2 q1 q2 q3 q4
        go_wp2_with fail
        go_ret2
        exact HEN.out
  · have e0 : (E != 0) = true := by simp [hE0]
    have HEN : Hd (NwE G fs w (.returned (.tuple #[.pointer none, vI E])) w1) := ⟨HF1.out, Or.inl ⟨by rw [← HE.out]; exact hE0, by rw [HE.out]⟩⟩
    clear hE0 HCP
    go_wp2_with fail
    go_ret2
    exact HEN.out

set_option maxRecDepth 100000 in
set_option maxHeartbeats 2000000 in
theorem cloneI_any (v : Value) (l : List Int) (w : World) (h : IA w v l) (hn : l.length ≤ 1000000000) :
    Calls Tryd.prog 59 #[v] w fun e w' => ∃ v', e = .returned v' ∧ IOwn w' w.heap.size v' l ∧ Fr (fun _ => False) w w' := by
  by_cases hne : l = []
  · subst hne
    obtain ⟨a0, cp, rfl, -⟩ := h
    rcases a0 with _ | ad
    rotate_left
    · have hq : (binOp .eql 25 (.slice (some ad) 0 cp) (.slice none 0 0)).run Tryd.prog w = .ok (.bool false) w := by first | rfl | kernel_rfl
      have HF1 : Hd (Fr (fun _ => False) w (w.alloc (.cells #[] 3))) := Fr.alloc (Fr.refl _ w) _
      have HRW : Hd ((w.alloc (.cells #[] 3)).ownsRow w.heap.size 3 1 (.slice (some ⟨w.heap.size, 0, none⟩) 0 0) 0 []) := ⟨rfl, Or.inr ⟨w.heap.size, 0, #[], rfl, Nat.le_refl _, heap_new w _, Nat.le_refl _, Nat.zero_le _, rfl, rfl⟩⟩
      show Calls Tryd.prog 59 #[.slice (some ad) 0 cp] w _
      go_enter Tryd.func59, Tryd.ntmps59
      go_wp2_with ((at_builtin; refine Hd.out ?_))
      unfold Hd
      obtain ⟨i3, hi3, hz3, hs3, hb3⟩ := info_parts (P := Tryd.prog) (e := 3) (z := .int .i64 0) (size := 1) (bytes := 8) (by kernel_rfl)
      refine wpList_append_none0 rfl (.tmp 5) (.tmp 6) 25 rfl w.heap.size 3 i3 1 (by kernel_rfl) hi3 (.slice (some ⟨w.heap.size, 0, none⟩) 0 0) 0 [] rfl HRW.out ad cp rfl ?_
      clear hi3 hz3 hs3 hb3
      go_wp2_with fail
      go_ret
      exact ⟨_, rfl, HRW.out, HF1.out⟩
    show Calls Tryd.prog 59 #[.slice none 0 cp] w _
    have hq : (binOp .eql 25 (.slice none 0 cp) (.slice none 0 0)).run Tryd.prog w = .ok (.bool true) w := by first | rfl | kernel_rfl
    go_enter Tryd.func59, Tryd.ntmps59
    go_wp2_with fail
    go_ret
    exact ⟨_, rfl, World.ownsRow_nil _ _ _ _, Fr.refl _ _⟩
  · obtain ⟨a0, cp, rfl, hh⟩ := h
    obtain ⟨k, o, rfl, hk, hcell⟩ := hh hne
    have hpos : 0 < l.length := List.length_pos_iff.2 hne
    have hq : (binOp .eql 25 (.slice (some ⟨k, o, none⟩) l.length cp) (.slice none 0 0)).run Tryd.prog w = .ok (.bool false) w := by first | rfl | kernel_rfl
    have hF1 : Fr (fun _ => False) w (w.alloc (.cells #[] 3)) := Fr.alloc (Fr.refl _ w) _
    have HF1 : Hd (Fr (fun _ => False) w (w.alloc (.cells #[] 3))) := hF1
    have HRW : Hd ((w.alloc (.cells #[] 3)).ownsRow w.heap.size 3 1 (.slice (some ⟨w.heap.size, 0, none⟩) 0 0) 0 []) := ⟨rfl, Or.inr ⟨w.heap.size, 0, #[], rfl, Nat.le_refl _, heap_new w _, Nat.le_refl _, Nat.zero_le _, rfl, rfl⟩⟩
    have HNW : Hd (∀ j u, (l.map vI)[j]? = some u → (w.alloc (.cells #[] 3)).cell? ((⟨k, o, none⟩ : Addr).add j) = some u) := fun j u hu => by
      rw [addr_plus, hF1.cell hk (fun h => h)]
      rw [List.getElem?_map] at hu
      have hj : j < l.length := by
        by_cases e : j < l.length
        · exact e
        · rw [List.getElem?_eq_none (by omega)] at hu
          cases hu
      rw [List.getElem?_eq_getElem hj] at hu
      cases hu
      exact hcell j hj
    have hbase : w.heap.size ≤ (w.alloc (.cells #[] 3)).heap.size := hF1.size
    clear hF1 hcell hh hne
    go_enter Tryd.func59, Tryd.ntmps59
    go_wp2_with ((at_builtin; refine Hd.out ?_))
    unfold Hd
    obtain ⟨i3, hi3, hz3, hs3, hb3⟩ := info_parts (P := Tryd.prog) (e := 3) (z := .int .i64 0) (size := 1) (bytes := 8) (by kernel_rfl)
    refine wpList_append_lies _ rfl (.tmp 5) (.tmp 6) 25 rfl w.heap.size 3 i3 (.int .i64 0) 1 8 under64 hi3 hz3 hs3 hb3 rfl (by omega) (.slice (some ⟨w.heap.size, 0, none⟩) 0 0) 0 _ rfl HRW.out ⟨k, o, none⟩ l.length cp (l.map vI) rfl (by simp) HNW.out (by intro u hu; obtain ⟨x, -, rfl⟩ := List.mem_map.1 hu; rfl) hpos (by unfold maxLen; omega) (by omega) hbase (w.heap.size + 1) (by simp) ?_
    intro g6 cap6 w6 hown6 hgrow6 hat6 hlt6
    clear hi3 hz3 hs3 hb3
    have HF6 : Hd (Fr (fun _ => False) w w6) := HF1.out.then (grown_frL hgrow6) (fun j hj e => by cases e; exact absurd hj (Nat.lt_irrefl _))
    have HO6 : Hd (IOwn w6 w.heap.size (.slice (some ⟨g6, 0, none⟩) l.length cap6) l) := by unfold Hd IOwn; simpa using hown6
    clear hown6 hgrow6 hat6 hlt6 hbase HRW HNW
    rw [Nat.zero_add]
    go_wp2_with fail
    go_ret
    exact ⟨_, rfl, HO6.out, HF6.out⟩


set_option maxRecDepth 100000 in
set_option maxHeartbeats 1000000 in
theorem listOf_any {B cg r : Nat} {cv : Nat → Value} {L : Nat → List Nat} (i : Nat) (w : World) (h : Cr w B cg r cv (fun c => zL (L c))) (hi : i < r) (hr : r ≤ 1000000) (hb : (L i).length ≤ 1000000000) :
    Calls Tryd.prog 35 #[.slice (some ⟨cg, 0, none⟩) r r, vI (i : Int)] w fun e w' => ∃ v', e = .returned v' ∧ IOwn w' w.heap.size v' (zL (L i)) ∧ Fr (fun _ => False) w w' := by
  obtain ⟨a, c, ev, p0, ho⟩ := h.cell hi
  have hi0 : (0 : Int) ≤ i := by omega
  have hi1 : (i : Int) < r := by omega
  have d1 : decide ((i : Int) < 0) = false := by simp
  have d2 : decide ((i : Int) ≥ r) = false := by simp; omega
  have d3 : decide ((r : Int) ≤ i) = false := by simp; omega
  have HC : Hd (Calls Tryd.prog 59 #[.slice a (zL (L i)).length c] w fun e w' => ∃ v', e = .returned v' ∧ IOwn w' w.heap.size v' (zL (L i)) ∧ Fr (fun _ => False) w w') := cloneI_any _ _ w (IOwn.ia (B := B) ho) (by rw [List.length_map]; exact hb)
  clear h ho ev hb
  generalize zL (L i) = l at *
  go_enter Tryd.func35, Tryd.ntmps35
  go_wp2_with fail
  refine Calls.mono HC.out ?_
  rintro e w1 ⟨v', rfl, hO, hF⟩
  have HO : Hd (IOwn w1 w.heap.size v' l) := hO
  have HF : Hd (Fr (fun _ => False) w w1) := hF
  clear hO hF HC p0
  go_wp2_with fail
  go_ret
  exact ⟨v', rfl, HO.out, HF.out⟩
section
variable {w : World} {B b go gm ge gr N n : Nat} {mv ev rv : Nat → Value} {of : Nat → Nat} {cl : Nat → List Nat}
set_option maxRecDepth 100000 in
set_option maxHeartbeats 1000000 in
theorem members_any (i : Nat) (h : GA w B b go gm ge gr N n mv ev rv of cl) (hi : i < n) (hn : n ≤ 1000000) (hN : N ≤ 1000000) :
    Calls Tryd.prog 11 #[.pointer (some ⟨b, 0, none⟩), vI (i : Int)] w fun e w' => ∃ v', e = .returned v' ∧ IOwn w' w.heap.size v' (zL (memX N of i)) ∧ Fr (fun _ => False) w w' := by
  have c1 : w.cell? ⟨b, 1, none⟩ = some (.slice (some ⟨gm, 0, none⟩) n n) := by rw [cell_of0 h.blk]; rfl
  have HC : Hd (Calls Tryd.prog 35 #[.slice (some ⟨gm, 0, none⟩) n n, vI (i : Int)] w fun e w' => ∃ v', e = .returned v' ∧ IOwn w' w.heap.size v' (zL (memX N of i)) ∧ Fr (fun _ => False) w w') := listOf_any i w h.cm hi hn (by have := (len_le (memX_rise (N := N) (of := of) i) (fun x hx => (mem_memX.1 hx).1)); omega)
  clear h
  generalize zL (memX N of i) = l at *
  go_enter Tryd.func11, Tryd.ntmps11
  go_wp2_with fail
  refine Calls.mono HC.out ?_
  rintro e w1 ⟨v', rfl, hO, hF⟩
  have HO : Hd (IOwn w1 w.heap.size v' l) := hO
  have HF : Hd (Fr (fun _ => False) w w1) := hF
  clear hO hF HC c1
  go_wp2_with fail
  go_ret
  exact ⟨v', rfl, HO.out, HF.out⟩
set_option maxRecDepth 100000 in
set_option maxHeartbeats 1000000 in
theorem callees_any (i : Nat) (h : GA w B b go gm ge gr N n mv ev rv of cl) (hi : i < n) (hn : n ≤ 1000000) (hN : N ≤ 1000000) :
    Calls Tryd.prog 14 #[.pointer (some ⟨b, 0, none⟩), vI (i : Int)] w fun e w' => ∃ v', e = .returned v' ∧ IOwn w' w.heap.size v' (zL (cleX N n of cl i)) ∧ Fr (fun _ => False) w w' := by
  have c1 : w.cell? ⟨b, 2, none⟩ = some (.slice (some ⟨ge, 0, none⟩) n n) := by rw [cell_of0 h.blk]; rfl
  have HC : Hd (Calls Tryd.prog 35 #[.slice (some ⟨ge, 0, none⟩) n n, vI (i : Int)] w fun e w' => ∃ v', e = .returned v' ∧ IOwn w' w.heap.size v' (zL (cleX N n of cl i)) ∧ Fr (fun _ => False) w w') := listOf_any i w h.ce hi hn (by have := (len_le (cleX_rise (N := N) (n := n) (of := of) (cl := cl) i) (fun x hx => (mem_cleX.1 hx).1)); omega)
  clear h
  generalize zL (cleX N n of cl i) = l at *
  go_enter Tryd.func14, Tryd.ntmps14
  go_wp2_with fail
  refine Calls.mono HC.out ?_
  rintro e w1 ⟨v', rfl, hO, hF⟩
  have HO : Hd (IOwn w1 w.heap.size v' l) := hO
  have HF : Hd (Fr (fun _ => False) w w1) := hF
  clear hO hF HC c1
  go_wp2_with fail
  go_ret
  exact ⟨v', rfl, HO.out, HF.out⟩
set_option maxRecDepth 100000 in
set_option maxHeartbeats 1000000 in
theorem callers_any (i : Nat) (h : GA w B b go gm ge gr N n mv ev rv of cl) (hi : i < n) (hn : n ≤ 1000000) (hN : N ≤ 1000000) :
    Calls Tryd.prog 15 #[.pointer (some ⟨b, 0, none⟩), vI (i : Int)] w fun e w' => ∃ v', e = .returned v' ∧ IOwn w' w.heap.size v' (zL (clrX N n of cl i)) ∧ Fr (fun _ => False) w w' := by
  have c1 : w.cell? ⟨b, 3, none⟩ = some (.slice (some ⟨gr, 0, none⟩) n n) := by rw [cell_of0 h.blk]; rfl
  have HC : Hd (Calls Tryd.prog 35 #[.slice (some ⟨gr, 0, none⟩) n n, vI (i : Int)] w fun e w' => ∃ v', e = .returned v' ∧ IOwn w' w.heap.size v' (zL (clrX N n of cl i)) ∧ Fr (fun _ => False) w w') := listOf_any i w h.cr hi hn (by have := (len_le (clrX_rise (N := N) (n := n) (of := of) (cl := cl) i) (fun x hx => (mem_clrX.1 hx).1)); omega)
  clear h
  generalize zL (clrX N n of cl i) = l at *
  go_enter Tryd.func15, Tryd.ntmps15
  go_wp2_with fail
  refine Calls.mono HC.out ?_
  rintro e w1 ⟨v', rfl, hO, hF⟩
  have HO : Hd (IOwn w1 w.heap.size v' l) := hO
  have HF : Hd (Fr (fun _ => False) w w1) := hF
  clear hO hF HC c1
  go_wp2_with fail
  go_ret
  exact ⟨v', rfl, HO.out, HF.out⟩
set_option maxRecDepth 100000 in
set_option maxHeartbeats 1000000 in
theorem of_any (i : Nat) (h : GA w B b go gm ge gr N n mv ev rv of cl) (hi : i < N) (hN : N ≤ 1000000) :
    Calls Tryd.prog 13 #[.pointer (some ⟨b, 0, none⟩), vI (i : Int)] w fun e w' => e = .returned (vI (of i : Nat)) ∧ w' = w := by
  have c0 : w.cell? ⟨b, 0, none⟩ = some (.slice (some ⟨go, 0, none⟩) N N) := by rw [cell_of0 h.blk]; rfl
  have p0 : w.cell? ⟨go, i, none⟩ = some (vI (of i : Nat)) := h.rof.cell hi
  have hi0 : (0 : Int) ≤ i := by omega
  have hi1 : (i : Int) < N := by omega
  have d1 : decide ((i : Int) < 0) = false := by simp
  have d2 : decide ((i : Int) ≥ N) = false := by simp; omega
  have d3 : decide ((N : Int) ≤ i) = false := by simp; omega
  clear h
  go_enter Tryd.func13, Tryd.ntmps13
  go_wp2_with fail
  go_ret
  exact ⟨rfl, rfl⟩
end
set_option maxRecDepth 100000 in
set_option maxHeartbeats 1000000 in
theorem has_any (v : Value) (l : List Nat) (x : Nat) (w : World) (h : IA w v (zL l)) (hl : l.length ≤ 1000000000) :
    Calls Tryd.prog 23 #[v, vI (x : Int)] w fun e w' => e = .returned (.bool (decide (x ∈ l))) ∧ w' = w := by
  obtain ⟨a, c, rfl, hh⟩ := h
  have HH : Hd (∀ k (hk : k < l.length), ∃ g o, a = some ⟨g, o, none⟩ ∧ w.cell? ⟨g, o + k, none⟩ = some (vI (l[k] : Nat))) := fun k hk => by
    obtain ⟨g, o, e, -, hc⟩ := hh (fun e => by have := congrArg List.length e; rw [List.length_map, List.length_nil] at this; omega)
    exact ⟨g, o, e, by rw [hc k (by rw [List.length_map]; exact hk)]; simp⟩
  rw [List.length_map]
  clear hh
  go_enter Tryd.func23, Tryd.ntmps23
  go_wp2_with fail
  go_loopw [5] (fun v wx => ∃ k : Nat, v = .int .i64 k ∧ k ≤ l.length ∧ Hd (x ∉ l.take k) ∧ Hd (wx = w)) (fun v _ => match v with | .int _ q => l.length - q.toNat | _ => 0)
  case atStart => exact ⟨0, by simp, Nat.zero_le _, by unfold Hd; simp, rfl⟩
  case round =>
    obtain ⟨k, rfl, hk, HN, HW⟩ := hrel
    have hw := HW.out
    subst hw
    by_cases hlt : k < l.length
    · have d1 : decide ((k : Int) < (l.length : Int)) = true := by simp; omega
      obtain ⟨g, o, rfl, p0⟩ := HH.out k hlt
      have k0 : (0 : Int) ≤ k := by omega
      have k1 : (k : Int) < l.length := by omega
      have HM : Hd (l[k] ∈ l) := List.getElem_mem hlt
      have HT : Hd (l.take (k + 1) = l.take k ++ [l[k]]) := by unfold Hd; rw [List.take_add_one, List.getElem?_eq_getElem hlt]; rfl
      generalize l[k] = y at *
      by_cases e : y = x
      · have e1 : ((y : Int) == (x : Int)) = true := by simp [e]
        have HX : Hd (decide (x ∈ l) = true) := by unfold Hd; rw [← e]; exact decide_eq_true HM.out
        clear e HM HT hlt HH
        go_wp2_with fail
        go_ret
        exact ⟨by rw [HX.out]; rfl, rfl⟩
      · have e1 : ((y : Int) == (x : Int)) = false := by simp; omega
        have HN2 : Hd (x ∉ l.take (k + 1)) := by
          unfold Hd
          rw [HT.out, List.mem_append, List.mem_singleton]
          rintro (h | h)
          · exact HN.out h
          · exact e h.symm
        clear e HM HT hlt
        go_wp2_with fail
        go_roundw
        case measure => simp; omega
        case rel => exact ⟨k + 1, by simp, by omega, HN2.out, trivial⟩
    · have d1 : decide ((k : Int) < (l.length : Int)) = false := by simp; omega
      have d1n : ¬ k < l.length := by omega
      have HX : Hd (decide (x ∈ l) = false) := by
        have := HN.out
        rw [List.take_of_length_le (by omega)] at this
        exact decide_eq_false this
      clear hlt HH
      go_wp2_with fail
      go_ret
      exact ⟨by rw [HX.out]; rfl, rfl⟩

theorem WF.stay {w w' : World} {B : Nat} {v : Value} {fs : List PF} {g : Nat} {cv : Nat → Value} (h : WF w B v fs g cv) (f : Fr (fun _ => False) w w') : WF w' B v fs g cv :=
  ⟨h.val, h.ge, h.row.fr f (fun e => e), fun i x hx => (h.code i x hx).stay f, h.apart⟩
theorem WF.fa {w : World} {B : Nat} {v : Value} {fs : List PF} {g : Nat} {cv : Nat → Value} (h : WF w B v fs g cv) : FA w v fs := by
  refine ⟨_, _, h.val, fun _ => ⟨g, 0, rfl, h.row.lt, fun j hj => ?_⟩⟩
  have pc := fun o (ho : o < 4) => h.row.cell (i := j) (o := o) (by omega) ho
  have e1 : wideF fs cv j = fR fs[j] (cv j) := by unfold wideF; rw [List.getElem?_eq_getElem hj]
  rw [e1] at pc
  rw [Nat.zero_add]
  exact ⟨cv j, pc 0 (by omega), pc 1 (by omega), pc 2 (by omega), pc 3 (by omega), (h.code j fs[j] (List.getElem?_eq_getElem hj)).ca⟩



theorem flat_get {α : Type} (row : α → List Value) (sz : Nat) (hr : ∀ x, (row x).length = sz) : ∀ (L : List α) (i o : Nat) (h : i < L.length), o < sz → (L.flatMap row)[i * sz + o]? = (row L[i])[o]?
  | [], i, o, h, _ => absurd h (by simp)
  | x :: L, 0, o, _, ho => by
    rw [Nat.zero_mul, Nat.zero_add, List.flatMap_cons, List.getElem?_append_left (by rw [hr]; exact ho)]
    rfl
  | x :: L, i + 1, o, h, ho => by
    rw [List.flatMap_cons, List.getElem?_append_right (by rw [hr, Nat.add_mul]; omega), hr, show (i + 1) * sz + o - sz = i * sz + o by rw [Nat.add_mul]; omega]
    exact flat_get row sz hr L i o (by simpa using h) ho
theorem flat_len {α : Type} (row : α → List Value) (sz : Nat) (hr : ∀ x, (row x).length = sz) : ∀ (L : List α), (L.flatMap row).length = L.length * sz
  | [] => by simp
  | x :: L => by rw [List.flatMap_cons, List.length_append, hr, flat_len row sz hr L, List.length_cons, Nat.add_mul]; omega
/-- A cell of a row of one's own. -/
theorem own_cell {w : World} {B e sz n : Nat} {v : Value} {xs : List Value} (h : w.ownsRow B e sz v n xs) {j : Nat} {u : Value} (hj : xs[j]? = some u) : ∃ g cap, v = .slice (some ⟨g, 0, none⟩) n cap ∧ g < w.heap.size ∧ w.cell? ⟨g, j, none⟩ = some u := by
  obtain ⟨h0, h1⟩ := h
  have hjl := (List.getElem?_eq_some_iff.1 hj).1
  rcases h1 with ⟨-, e2⟩ | ⟨g, cap, cur, rfl, k1, k2, k3, k4, k5, k6⟩
  · subst e2; simp at h0; subst h0; simp at hjl
  · refine ⟨g, cap, rfl, heap_lt k2, ?_⟩
    rw [cell_of k2, ← Array.getElem?_toList]
    rw [← k6] at hj
    rw [List.getElem?_take_of_lt (by omega)] at hj
    exact hj
theorem own_apart {w : World} {B B' e e' sz sz' n m : Nat} {v u : Value} {xs ys : List Value} (h : w.ownsRow B e sz v n xs) (k : w.ownsRow B' e' sz' u m ys) (he : e ≠ e') : ∀ j, u.ownBlock = some j → v.ownBlock ≠ some j := by
  intro j hu hv
  rcases h.2 with ⟨rfl, -⟩ | ⟨g, cap, cur, rfl, -, h2, -⟩
  · cases hv
  · rcases k.2 with ⟨rfl, -⟩ | ⟨g', cap', cur', rfl, -, k2, -⟩
    · cases hu
    · cases hv
      cases hu
      rw [h2] at k2
      cases k2
      exact he rfl

abbrev CI := PI × Value × Value
abbrev rowI (x : CI) : List Value := iR x.1 x.2
/-- Instructions of one's own. -/
structure CO (w : World) (B : Nat) (v : Value) (L : List CI) : Prop where
  row : w.ownsRow B 27 7 v L.length (L.flatMap rowI)
  ints : ∀ x ∈ L, IOwn w B x.2.1 x.1.args ∧ IOwn w B x.2.2 x.1.rets
theorem CO.ca {w : World} {B : Nat} {v : Value} {L : List CI} (h : CO w B v L) : CA w v (L.map (·.1)) := by
  rcases h.row.2 with ⟨h2, h3⟩ | ⟨g, cap, cur, e, -⟩
  · refine ⟨none, 0, by rw [h2, List.length_map, h3], fun hne => ?_⟩
    exact absurd (by rw [List.eq_nil_of_length_eq_zero h3]; rfl) hne
  · refine ⟨some ⟨g, 0, none⟩, cap, by rw [e, List.length_map], fun _ => ⟨g, 0, rfl, (World.ownsRow.lt h.row g (by rw [e]; rfl)).2, fun j hj => ?_⟩⟩
    have hj' : j < L.length := by simpa using hj
    have pc : ∀ o u, o < 7 → (rowI L[j])[o]? = some u → w.cell? ⟨g, j * 7 + o, none⟩ = some u := fun o u ho hu => by
      obtain ⟨g', cap', e', -, hc⟩ := own_cell h.row (j := j * 7 + o) (u := u) (by rw [flat_get rowI 7 (fun _ => rfl) L j o hj' ho]; exact hu)
      rw [e] at e'
      cases e'
      exact hc
    have hi := h.ints L[j] (List.getElem_mem hj')
    rw [Nat.zero_add]
    simp only [List.getElem_map]
    exact ⟨L[j].2.1, L[j].2.2, pc 0 _ (by omega) rfl, pc 1 _ (by omega) rfl, pc 2 _ (by omega) rfl, pc 3 _ (by omega) rfl, pc 4 _ (by omega) rfl, pc 5 _ (by omega) rfl, pc 6 _ (by omega) rfl, hi.1.ia, hi.2.ia⟩
theorem CO.fr {S : Nat → Prop} {w w' : World} {B : Nat} {v : Value} {L : List CI} (h : CO w B v L) (f : Fr S w w') (h1 : ∀ k, v.ownBlock = some k → ¬ S k) (h2 : ∀ x ∈ L, ∀ k, (x.2.1.ownBlock = some k ∨ x.2.2.ownBlock = some k) → ¬ S k) : CO w' B v L :=
  ⟨ownsRow_frL h.row f h1, fun x hx => ⟨(h.ints x hx).1.fr f (fun k e => h2 x hx k (Or.inl e)), (h.ints x hx).2.fr f (fun k e => h2 x hx k (Or.inr e))⟩⟩
theorem CO.stay {w w' : World} {B : Nat} {v : Value} {L : List CI} (h : CO w B v L) (f : Fr (fun _ => False) w w') : CO w' B v L := h.fr f (fun _ _ e => e) (fun _ _ _ _ e => e)
theorem CO.mono {w : World} {B B' : Nat} {v : Value} {L : List CI} (h : CO w B v L) (hB : B' ≤ B) : CO w B' v L := ⟨World.ownsRow.mono h.row hB, fun x hx => ⟨(h.ints x hx).1.mono hB, (h.ints x hx).2.mono hB⟩⟩

set_option maxRecDepth 100000 in
set_option maxHeartbeats 1000000 in
theorem copyInstr_any (c : PI) (x y : Value) (w : World) (h1 : IA w x c.args) (h2 : IA w y c.rets) (hla : c.args.length ≤ 17592186043904) (hlr : c.rets.length ≤ 17592186043904) :
    Calls Tryd.prog 63 #[.agg #[vI c.op, vI c.r, vI c.s, vI c.t, vI c.n, x, y]] w fun e w' => ∃ x' y', e = .returned (.agg #[vI c.op, vI c.r, vI c.s, vI c.t, vI c.n, x', y']) ∧ IOwn w' w.heap.size x' c.args ∧ IOwn w' w.heap.size y' c.rets ∧ Fr (fun _ => False) w w' := by
  obtain ⟨a1, b1, e1, -⟩ := id h1
  obtain ⟨a2, b2, e2, -⟩ := id h2
  obtain ⟨wa, hwa⟩ : ∃ wa, wa = (w.alloc (.cells #[vI c.op, vI c.r, vI c.s, vI c.t, vI c.n, x, y] 27)).alloc (.cells #[vI 0, vI 0, vI 0, vI 0, vI 0, .slice none 0 0, .slice none 0 0] 27) := ⟨_, rfl⟩
  have hF : Fr (fun _ => False) w wa := by rw [hwa]; exact Fr.alloc (Fr.alloc (Fr.refl _ w) _) _
  have hsz : wa.heap.size = w.heap.size + 2 := by rw [hwa]; simp
  have b1' : wa.heap[w.heap.size]? = some (.cells #[vI c.op, vI c.r, vI c.s, vI c.t, vI c.n, x, y] 27) := by
    rw [hwa, Go.RowKit.Below.heap_alloc _ _ _ (by simp)]; exact heap_new w _
  have b2' : wa.heap[w.heap.size + 1]? = some (.cells #[vI 0, vI 0, vI 0, vI 0, vI 0, .slice none 0 0, .slice none 0 0] 27) := by
    rw [hwa, show w.heap.size + 1 = (w.alloc (.cells #[vI c.op, vI c.r, vI c.s, vI c.t, vI c.n, x, y] 27)).heap.size by simp]; exact heap_new _ _
  have HWA : Hd (wa = (w.alloc (.cells #[vI c.op, vI c.r, vI c.s, vI c.t, vI c.n, x, y] 27)).alloc (.cells #[vI 0, vI 0, vI 0, vI 0, vI 0, .slice none 0 0, .slice none 0 0] 27)) := hwa
  have G1 : Hd (IA wa x c.args) := h1.stay hF
  have G2 : Hd (IA w y c.rets) := h2
  have HF : Hd (Fr (fun _ => False) w wa) := hF
  obtain ⟨H, hH⟩ : ∃ H, H = w.heap.size := ⟨_, rfl⟩
  have HH : Hd (H = w.heap.size) := hH
  have HSZ : Hd (wa.heap.size = H + 2) := by rw [hH]; exact hsz
  rw [← hH] at b1' b2'
  have B1 : Hd _ := b1'
  have B2 : Hd _ := b2'
  have p5 : wa.cell? ⟨H, 5, none⟩ = some x := by rw [cell_of b1']; rfl
  subst e1; subst e2
  clear h1 h2 hF hsz hwa hH b1' b2'
  go_enter Tryd.func63, Tryd.ntmps63
  go_upto_region 1 with fail
  rw [← HWA.out, ← HH.out]
  clear HWA
  go_wp2_with fail
  refine (show Calls Tryd.prog 38 #[.slice a1 c.args.length b1] wa _ from copyInts_any _ c.args wa G1.out hla).mono ?_
  rintro e w2 ⟨x', rfl, hx', hF2⟩
  have hxs : ∀ k, x'.ownBlock = some k → H + 2 ≤ k := fun k e => by have := (hx'.ge k e).1; have := HSZ.out; omega
  have B1' : w2.heap[H]? = some (.cells #[vI c.op, vI c.r, vI c.s, vI c.t, vI c.n, .slice a1 c.args.length b1, .slice a2 c.rets.length b2] 27) := (hF2.block H (heap_lt B1.out) (fun e => e)).trans B1.out
  have B2' : w2.heap[H + 1]? = some (.cells #[vI 0, vI 0, vI 0, vI 0, vI 0, .slice none 0 0, .slice none 0 0] 27) := (hF2.block (H + 1) (heap_lt B2.out) (fun e => e)).trans B2.out
  obtain ⟨xa, xc, exa⟩ : ∃ xa xc, x' = .slice xa c.args.length xc := by obtain ⟨xa, xc, e, -⟩ := hx'.ia; exact ⟨xa, xc, e⟩
  have q5 : w2.cell? ⟨H, 5, none⟩ = some (.slice a1 c.args.length b1) := by rw [cell_of B1']; rfl
  have z5 := frozen_of B1' 5
  have fs2 := setCell_fr w2 H 5 x'
  have C1 : Hd ((w2.setCell ⟨H, 5, none⟩ x').heap[H]? = some (.cells #[vI c.op, vI c.r, vI c.s, vI c.t, vI c.n, x', .slice a2 c.rets.length b2] 27)) := set_of B1' 5 x'
  have C2 : Hd ((w2.setCell ⟨H, 5, none⟩ x').heap[H + 1]? = some (.cells #[vI 0, vI 0, vI 0, vI 0, vI 0, .slice none 0 0, .slice none 0 0] 27)) := (fs2.block (H + 1) (heap_lt B2') (by omega)).trans B2'
  have HX : Hd (IOwn (w2.setCell ⟨H, 5, none⟩ x') (H + 2) x' c.args) := (hx'.mono (by rw [HSZ.out]; exact Nat.le_refl _)).fr fs2 (fun k e e2 => by have := hxs k e; omega)
  have HF2 : Hd (Fr (fun _ => False) w (w2.setCell ⟨H, 5, none⟩ x')) := (HF.out.trans hF2).then fs2 (fun j hj e => by have := HH.out; omega)
  have HZ2 : Hd (H + 2 ≤ (w2.setCell ⟨H, 5, none⟩ x').heap.size) := by have := hF2.size; have := HSZ.out; have := fs2.size; unfold Hd; omega
  have G2' : Hd (IA (w2.setCell ⟨H, 5, none⟩ x') (.slice a2 c.rets.length b2) c.rets) := IA.stay G2.out HF2.out
  subst exa
  clear hx' hF2 hxs fs2 B1' B2' p5 B1 B2 G1 G2 HF HSZ
  go_upto_region 2 with fail
  clear q5 z5
  generalize w2.setCell ⟨H, 5, none⟩ (.slice xa c.args.length xc) = w3 at *
  have q6 : w3.cell? ⟨H, 6, none⟩ = some (.slice a2 c.rets.length b2) := by rw [cell_of C1.out]; rfl
  go_wp2_with fail
  refine (show Calls Tryd.prog 38 #[.slice a2 c.rets.length b2] w3 _ from copyInts_any _ c.rets w3 G2'.out hlr).mono ?_
  rintro e w4 ⟨y', rfl, hy', hF4⟩
  have hys : ∀ k, y'.ownBlock = some k → H + 2 ≤ k := fun k e => by have := (hy'.ge k e).1; have := HZ2.out; omega
  have B1' : w4.heap[H]? = some (.cells #[vI c.op, vI c.r, vI c.s, vI c.t, vI c.n, .slice xa c.args.length xc, .slice a2 c.rets.length b2] 27) := (hF4.block H (heap_lt C1.out) (fun e => e)).trans C1.out
  have B2' : w4.heap[H + 1]? = some (.cells #[vI 0, vI 0, vI 0, vI 0, vI 0, .slice none 0 0, .slice none 0 0] 27) := (hF4.block (H + 1) (heap_lt C2.out) (fun e => e)).trans C2.out
  obtain ⟨ya, yc, eya⟩ : ∃ ya yc, y' = .slice ya c.rets.length yc := by obtain ⟨ya, yc, e, -⟩ := hy'.ia; exact ⟨ya, yc, e⟩
  have fs4 := setCell_fr w4 H 6 y'
  have D1 : (w4.setCell ⟨H, 6, none⟩ y').heap[H]? = some (.cells #[vI c.op, vI c.r, vI c.s, vI c.t, vI c.n, .slice xa c.args.length xc, y'] 27) := set_of B1' 6 y'
  have D2 : (w4.setCell ⟨H, 6, none⟩ y').heap[H + 1]? = some (.cells #[vI 0, vI 0, vI 0, vI 0, vI 0, .slice none 0 0, .slice none 0 0] 27) := (fs4.block (H + 1) (heap_lt B2') (by omega)).trans B2'
  have HX4 : IOwn (w4.setCell ⟨H, 6, none⟩ y') (H + 2) (.slice xa c.args.length xc) c.args := (HX.out.fr hF4 (fun _ _ e => e)).fr fs4 (fun k e e2 => by have := (HX.out.ge k e).1; omega)
  have HY4 : IOwn (w4.setCell ⟨H, 6, none⟩ y') (H + 2) y' c.rets := (hy'.mono HZ2.out).fr fs4 (fun k e e2 => by have := hys k e; omega)
  have HF4 : Fr (fun _ => False) w (w4.setCell ⟨H, 6, none⟩ y') := (HF2.out.trans hF4).then fs4 (fun j hj e => by have := HH.out; omega)
  have r6 : w4.cell? ⟨H, 6, none⟩ = some (.slice a2 c.rets.length b2) := by rw [cell_of B1']; rfl
  have z6 := frozen_of B1' 6
  subst eya
  have J1 : Hd _ := D1
  have J2 : Hd _ := D2
  have JX : Hd _ := HX4
  have JY : Hd _ := HY4
  have JF : Hd _ := HF4
  clear hy' hF4 hys fs4 B1' B2' D1 D2 HX4 HY4 HF4 C1 C2 HX HF2 HZ2 G2'
  go_upto_region 3 with fail
  clear q6 r6 z6
  generalize w4.setCell ⟨H, 6, none⟩ (.slice ya c.rets.length yc) = w5 at *
  have c0 : w5.cell? ⟨H, 0, none⟩ = some (vI c.op) := by rw [cell_of J1.out]; rfl
  have c1 : w5.cell? ⟨H, 1, none⟩ = some (vI c.r) := by rw [cell_of J1.out]; rfl
  have c2 : w5.cell? ⟨H, 2, none⟩ = some (vI c.s) := by rw [cell_of J1.out]; rfl
  have c3 : w5.cell? ⟨H, 3, none⟩ = some (vI c.t) := by rw [cell_of J1.out]; rfl
  have c4 : w5.cell? ⟨H, 4, none⟩ = some (vI c.n) := by rw [cell_of J1.out]; rfl
  have c5 : w5.cell? ⟨H, 5, none⟩ = some (.slice xa c.args.length xc) := by rw [cell_of J1.out]; rfl
  have c6 : w5.cell? ⟨H, 6, none⟩ = some (.slice ya c.rets.length yc) := by rw [cell_of J1.out]; rfl
  have d0 : w5.cell? ⟨H + 1, 0, none⟩ = some (vI 0) := by rw [cell_of J2.out]; rfl
  have d1 : w5.cell? ⟨H + 1, 1, none⟩ = some (vI 0) := by rw [cell_of J2.out]; rfl
  have d2 : w5.cell? ⟨H + 1, 2, none⟩ = some (vI 0) := by rw [cell_of J2.out]; rfl
  have d3 : w5.cell? ⟨H + 1, 3, none⟩ = some (vI 0) := by rw [cell_of J2.out]; rfl
  have d4 : w5.cell? ⟨H + 1, 4, none⟩ = some (vI 0) := by rw [cell_of J2.out]; rfl
  have d5 : w5.cell? ⟨H + 1, 5, none⟩ = some (.slice none 0 0) := by rw [cell_of J2.out]; rfl
  have d6 : w5.cell? ⟨H + 1, 6, none⟩ = some (.slice none 0 0) := by rw [cell_of J2.out]; rfl
  have y0 := frozen_of J2.out 0
  have y1 := frozen_of J2.out 1
  have y2 := frozen_of J2.out 2
  have y3 := frozen_of J2.out 3
  have y4 := frozen_of J2.out 4
  have y5 := frozen_of J2.out 5
  have y6 := frozen_of J2.out 6
  have HL : Hd ((sev7 w5 (H + 1) 0 (iR c (.slice xa c.args.length xc, .slice ya c.rets.length yc))).heap[H + 1]? = some (.cells #[vI c.op, vI c.r, vI c.s, vI c.t, vI c.n, .slice xa c.args.length xc, .slice ya c.rets.length yc] 27)) :=
    set_of (set_of (set_of (set_of (set_of (set_of (set_of J2.out 0 _) 1 _) 2 _) 3 _) 4 _) 5 _) 6 _
  have fs6 := sev7_fr w5 (H + 1) 0 (iR c (.slice xa c.args.length xc, .slice ya c.rets.length yc))
  have KX : Hd (IOwn (sev7 w5 (H + 1) 0 (iR c (.slice xa c.args.length xc, .slice ya c.rets.length yc))) w.heap.size (.slice xa c.args.length xc) c.args) := (IOwn.fr JX.out fs6 (fun k e e2 => by have := (IOwn.ge JX.out k e).1; omega)).mono (by have := HH.out; omega)
  have KY : Hd (IOwn (sev7 w5 (H + 1) 0 (iR c (.slice xa c.args.length xc, .slice ya c.rets.length yc))) w.heap.size (.slice ya c.rets.length yc) c.rets) := (IOwn.fr JY.out fs6 (fun k e e2 => by have := (IOwn.ge JY.out k e).1; omega)).mono (by have := HH.out; omega)
  have KF : Hd (Fr (fun _ => False) w (sev7 w5 (H + 1) 0 (iR c (.slice xa c.args.length xc, .slice ya c.rets.length yc)))) := Fr.then JF.out fs6 (fun j hj e => by have := HH.out; omega)
  clear fs6
  go_wp2_with fail
  change bodyPost _ _ _ _ _ (sev7 w5 (H + 1) 0 (iR c (.slice xa c.args.length xc, .slice ya c.rets.length yc)))
  generalize sev7 w5 (H + 1) 0 (iR c (.slice xa c.args.length xc, .slice ya c.rets.length yc)) = wz at *
  have e0 : wz.cell? ⟨H + 1, 0, none⟩ = some (vI c.op) := by rw [cell_of HL.out]; rfl
  have e1 : wz.cell? ⟨H + 1, 1, none⟩ = some (vI c.r) := by rw [cell_of HL.out]; rfl
  have e2 : wz.cell? ⟨H + 1, 2, none⟩ = some (vI c.s) := by rw [cell_of HL.out]; rfl
  have e3 : wz.cell? ⟨H + 1, 3, none⟩ = some (vI c.t) := by rw [cell_of HL.out]; rfl
  have e4 : wz.cell? ⟨H + 1, 4, none⟩ = some (vI c.n) := by rw [cell_of HL.out]; rfl
  have e5 : wz.cell? ⟨H + 1, 5, none⟩ = some (.slice xa c.args.length xc) := by rw [cell_of HL.out]; rfl
  have e6 : wz.cell? ⟨H + 1, 6, none⟩ = some (.slice ya c.rets.length yc) := by rw [cell_of HL.out]; rfl
  refine bodyPost_ret (v := .agg #[vI c.op, vI c.r, vI c.s, vI c.t, vI c.n, .slice xa c.args.length xc, .slice ya c.rets.length yc]) ?_ rfl ⟨_, _, rfl, KX.out, KY.out, KF.out⟩
  rw [results_cell (p := 2) (ty := 27) Tryd.results63]
  simp [go_sem, e0, e1, e2, e3, e4, e5, e6]

end Go.Proofs.YtjmbfjaahadbhaaDoor
