import Derived.Test.YtlmlmhinbkcpoaaGreatDoorQEiJ
import Derived.Test.YtlmlmhinbkcpoaaGreatDoorQQaJ
namespace Go.Proofs.YtlmlmhinbkcpoaaGreatDoor
open Go.RowKit Go.Shelf
set_option linter.unusedVariables false
set_option linter.unusedSimpArgs false
theorem cellX_is {R V : Int} (hR : 0 ≤ R ∧ R ≤ 4) (hV : 0 ≤ V ∧ V ≤ 255) : cellX R V = 1 + R + V := by
  unfold cellX wrap64
  omega
theorem newsX_take (cs : List PI) (j : Nat) (hj : j < cs.length) : newsX (cs.take (j + 1)) = newsX (cs.take j) + (if cs[j].op = 6 then 1 else 0) := by
  rw [List.take_succ_eq_append_getElem hj, newsX_snoc]
theorem clX_is {R V : Int} (hR : 0 ≤ R ∧ R ≤ 4) (hV : 0 ≤ V ∧ V ≤ 255) (cs : List PI) (hl : cs.length ≤ 4096) : ∀ j, j ≤ cs.length → clX R V cs j = 1 + R + V + (newsX (cs.take j) : Nat)
  | 0, _ => by
    show cellX R V = _
    rw [cellX_is hR hV]
    simp [newsX]
  | j + 1, h => by
    have ih := clX_is hR hV cs hl j (by omega)
    have e : cs.getD j dPI = cs[j] := by simp [show j < cs.length by omega]
    have h1 := newsX_take cs j (by omega)
    have h2 := newsX_le (cs.take (j + 1))
    have h3 : (cs.take (j + 1)).length ≤ cs.length := by rw [List.length_take]; omega
    show (if (cs.getD j dPI).op = 6 then wrap64 (clX R V cs j + 1) else clX R V cs j) = _
    rw [e, h1, ih]
    split
    · unfold wrap64
      omega
    · simp
end Go.Proofs.YtlmlmhinbkcpoaaGreatDoor
namespace Go.Proofs.YtlmlmhinbkcpoaaGreatDoor
open Go.RowKit (wrap32 wrap64)
set_option linter.unusedVariables false
set_option linter.unusedSimpArgs false
set_option maxRecDepth 100000
set_option maxHeartbeats 8000000
theorem rcell_any (f : PF) (cv : Value) (at' : Int) (w : World) (h : CA w cv f.code) (hn : f.code.length ≤ 1599289640354) :
    Calls Tryz.prog 43 #[.agg #[vI f.P, vI f.R, vI f.V, cv], vI at'] w fun e w' => e = .returned (vI (fcelX f.R f.V at' f.code)) ∧ Fr (fun _ => False) w w' := by
  obtain ⟨a, c, rfl, H0'⟩ := id h
  obtain ⟨wa, hwa⟩ : ∃ wa, wa = w.alloc (.cells #[vI f.P, vI f.R, vI f.V, .slice a f.code.length c] 46) := ⟨_, rfl⟩
  have hb : wa.heap[w.heap.size]? = some (.cells #[vI f.P, vI f.R, vI f.V, .slice a f.code.length c] 46) := by rw [hwa]; exact heap_new0 w _
  have HWA : Hd (wa = w.alloc (.cells #[vI f.P, vI f.R, vI f.V, .slice a f.code.length c] 46)) := hwa
  obtain ⟨H, hH⟩ : ∃ H, H = w.heap.size := ⟨_, rfl⟩
  have HH : Hd (H = w.heap.size) := hH
  rw [← hH] at hb
  have hFa : Fr (fun _ => False) w wa := by rw [hwa]; exact Fr.alloc (Fr.refl _ w) _
  have HFa : Hd (Fr (fun _ => False) w wa) := hFa
  have HB : Hd (wa.heap[H]? = some (.cells #[vI f.P, vI f.R, vI f.V, .slice a f.code.length c] 46)) := hb
  have H0 : Hd (f.code ≠ [] → _) := H0'
  have c0 : wa.cell? ⟨H, 0, none⟩ = some (vI f.P) := by rw [cell_of0 hb]; rfl
  have c1 : wa.cell? ⟨H, 1, none⟩ = some (vI f.R) := by rw [cell_of0 hb]; rfl
  have c2 : wa.cell? ⟨H, 2, none⟩ = some (vI f.V) := by rw [cell_of0 hb]; rfl
  have c3 : wa.cell? ⟨H, 3, none⟩ = some (.slice a f.code.length c) := by rw [cell_of0 hb]; rfl
  clear hwa hH hb hFa H0' h
  by_cases hq0 : 0 ≤ f.R
  · have d0 : decide (f.R < 0) = false := by simp; omega
    by_cases hq1 : 0 ≤ f.V
    · have d1 : decide (f.V < 0) = false := by simp; omega
      by_cases hq2 : 0 ≤ at'
      · have d2 : decide (at' < 0) = false := by simp; omega
        by_cases hq3 : at' < f.code.length
        · have d3 : decide (at' ≥ f.code.length) = false := by simp; omega
          obtain ⟨m, rfl⟩ := Int.eq_ofNat_of_zero_le hq2
          have hml : m < f.code.length := by omega
          obtain ⟨ck, co, ea, hck, hcs⟩ := H0.out (by intro e; simp [e] at hml)
          obtain ⟨av, rv, x0, -⟩ := hcs m hml
          have x0 := (HFa.out.cell (o := co + m * 7) hck (fun h => h)).trans x0
          have hop : (f.code[((m : Int)).toNat]?.map (·.op)) = some f.code[m].op := by simp [hml]
          have hm0 : (0 : Int) ≤ m := by omega
          have hm1 : (m : Int) < f.code.length := by omega
          have HOP : Hd ((f.code[((m : Int)).toNat]?.map (·.op)) = some f.code[m].op) := hop
          generalize f.code[m].op = op at *
          subst ea
          clear hcs hop
          by_cases h6 : op = 6
          · have d6 : (op != 6) = false := by simp [h6]
            have d7 : decide (op ≠ 6) = false := by simp [h6]
            have HX : Hd (fcelX f.R f.V m f.code = wrap64 (cellX f.R f.V + (newsX (f.code.take m) : Nat))) := by
              unfold Hd fcelX; rw [if_pos ⟨hq0, hq1, hq2, hq3, by rw [HOP.out, h6]⟩]; simp
            clear h6 hq0 hq1 hq2 hq3
            go_enter Tryz.func43, Tryz.ntmps43
            go_upto_region 1 with fail
            rw [← HWA.out, ← HH.out]
            clear HWA
            go_wp2_with fail
            clear c0 c1 c2 c3 x0
            go_loopw [5, 6] (fun nv v wr => ∃ (q : Int) (k : Nat), nv = .int .i64 q ∧ v = .int .i64 k ∧ k ≤ m ∧ Hd (q = wrap64 (cellX f.R f.V + (newsX (f.code.take k) : Nat))) ∧ Hd (Fr (fun _ => False) wa wr)) (fun _ v _ => match v with | .int _ q => m - q.toNat | _ => 0)
            case atStart => exact ⟨_, 0, rfl, rfl, Nat.zero_le _, start_news _ _ _, Fr.refl _ _⟩
            case round =>
              obtain ⟨q, k, rfl, rfl, hk, HQ, HF⟩ := hrel
              have c3 : wr.cell? ⟨H, 3, none⟩ = some (.slice (some ⟨ck, co, none⟩) f.code.length c) := by rw [HF.out.cell (heap_lt0 HB.out) (fun e => e), cell_of0 HB.out]; rfl
              by_cases hlt : k < m
              · have hkl : k < f.code.length := by omega
                obtain ⟨ck', co', ea, hck', hcs⟩ := H0.out (by intro e; simp [e] at hkl)
                cases ea
                obtain ⟨av, rv, x0, -⟩ := hcs k hkl
                have x0 := ((HFa.out.trans HF.out).cell (o := co + k * 7) hck (fun h => h)).trans x0
                have HT : Hd (f.code.take (k + 1) = f.code.take k ++ [f.code[k]]) := by unfold Hd; rw [List.take_add_one, List.getElem?_eq_getElem hkl]; rfl
                generalize f.code[k] = ci at *
                have hk0 : (0 : Int) ≤ k := by omega
                have hk1 : (k : Int) < f.code.length := by omega
                have hk2 : (k : Int) < m := by omega
                clear hcs
                by_cases h6 : ci.op = 6
                · have d6 : (ci.op == 6) = true := by simpa using h6
                  have HQ2 : Hd (wrap64 (q + 1) = wrap64 (cellX f.R f.V + (newsX (f.code.take (k + 1)) : Nat))) := by
                    unfold Hd; rw [HT.out, newsX_snoc, if_pos h6, HQ.out, wrap_add]; congr 1; omega
                  clear h6
                  go_wp2_with fail
                  exact ⟨⟨_, k + 1, rfl, by simp, by omega, HQ2.out, HF.out⟩, by simp; omega⟩
                · have d6 : (ci.op == 6) = false := by simpa using h6
                  have HQ2 : Hd (q = wrap64 (cellX f.R f.V + (newsX (f.code.take (k + 1)) : Nat))) := by unfold Hd; rw [HT.out, newsX_snoc, if_neg h6]; exact HQ.out
                  clear h6
                  go_wp2_with fail
                  exact ⟨⟨_, k + 1, rfl, by simp, by omega, HQ2.out, HF.out⟩, by simp; omega⟩
              · have hke : k = m := by omega
                have HE : Hd (q = fcelX f.R f.V m f.code) := by unfold Hd; rw [HX.out, HQ.out, hke]
                have hdk : decide ((k : Int) < m) = false := by simp; omega
                have hdk2 : decide (k < m) = false := by simp; omega
                clear hke hlt
                go_wp2_with fail
                go_ret
                exact ⟨by rw [← HE.out]; rfl, HFa.out.trans HF.out⟩
          · have d6 : (op != 6) = true := by simp [h6]
            have d7 : decide (op ≠ 6) = true := by simp [h6]
            have HX : Hd (fcelX f.R f.V m f.code = -1) := if_neg (fun h => h6 (by have := h.2.2.2.2; rw [HOP.out] at this; exact Option.some.inj this))
            clear h6 hq0 hq1 hq2 hq3
            go_enter Tryz.func43, Tryz.ntmps43
            go_upto_region 1 with fail
            rw [← HWA.out, ← HH.out]
            clear HWA
            go_wp2_with fail
            go_ret
            exact ⟨by rw [HX.out]; rfl, HFa.out⟩
        · have d3 : decide (at' ≥ f.code.length) = true := by simp; omega
          have HX : Hd (fcelX f.R f.V at' f.code = -1) := if_neg (fun h => hq3 h.2.2.2.1)
          clear hq0 hq1 hq2 hq3
          go_enter Tryz.func43, Tryz.ntmps43
          go_upto_region 1 with fail
          rw [← HWA.out, ← HH.out]
          clear HWA
          go_wp2_with fail
          go_ret
          exact ⟨by rw [HX.out]; rfl, HFa.out⟩
      · have d2 : decide (at' < 0) = true := by simp; omega
        have HX : Hd (fcelX f.R f.V at' f.code = -1) := if_neg (fun h => hq2 h.2.2.1)
        clear hq0 hq1 hq2
        go_enter Tryz.func43, Tryz.ntmps43
        go_upto_region 1 with fail
        rw [← HWA.out, ← HH.out]
        clear HWA
        go_wp2_with fail
        go_ret
        exact ⟨by rw [HX.out]; rfl, HFa.out⟩
    · have d1 : decide (f.V < 0) = true := by simp; omega
      have HX : Hd (fcelX f.R f.V at' f.code = -1) := if_neg (fun h => hq1 h.2.1)
      clear hq0 hq1
      go_enter Tryz.func43, Tryz.ntmps43
      go_upto_region 1 with fail
      rw [← HWA.out, ← HH.out]
      clear HWA
      go_wp2_with fail
      go_ret
      exact ⟨by rw [HX.out]; rfl, HFa.out⟩
  · have d0 : decide (f.R < 0) = true := by simp; omega
    have HX : Hd (fcelX f.R f.V at' f.code = -1) := if_neg (fun h => hq0 h.1)
    clear hq0
    go_enter Tryz.func43, Tryz.ntmps43
    go_upto_region 1 with fail
    rw [← HWA.out, ← HH.out]
    clear HWA
    go_wp2_with fail
    go_ret
    exact ⟨by rw [HX.out]; rfl, HFa.out⟩
theorem EO.one (w : World) (B : Nat) (hB : B ≤ w.heap.size) (a b d : Int) : EO (w.alloc (.cells #[vI a, vI b, vI d] 51)) B (.slice (some ⟨w.heap.size, 0, none⟩) 1 1) [(a, b, d)] :=
  ⟨rfl, Or.inr ⟨w.heap.size, 1, #[vI a, vI b, vI d], rfl, hB, heap_new w _, Nat.le_refl _, by decide, rfl, rfl⟩⟩
theorem edgI_one {ss : List PS} {R V cell : Int} {c : PI} {a b d : Int} (o : Nat) (h : c.op = o) (ho : o ≠ 15 ∧ o ≠ 11) (hr : rowX o = (1, a, b, d)) : edgI ss R V cell c = [(endX R V a c.r c.s cell, endX R V b c.r c.s cell, d)] := by
  unfold edgI
  rw [h, if_neg (by omega), if_neg (by omega), Int.toNat_natCast, hr]
  rfl
theorem edgI_none {ss : List PS} {R V cell : Int} {c : PI} (h : 1 ≤ c.op ∧ c.op ≤ 17) (h2 : c.op ≠ 2) (h5 : c.op ≠ 5) (h6 : c.op ≠ 6) (h7 : c.op ≠ 7) (h8 : c.op ≠ 8) (h10 : c.op ≠ 10) (h11 : c.op ≠ 11) (h15 : c.op ≠ 15) : edgI ss R V cell c = [] := by
  unfold edgI
  rw [if_neg h15, if_neg h11]
  have hr : (rowX c.op.toNat).1 = 0 := by
    obtain ⟨o, ho⟩ : ∃ o : Nat, c.op = o := ⟨c.op.toNat, by omega⟩
    rw [ho, Int.toNat_natCast]
    have key : ∀ o : Fin 18, (o.val ≠ 2 ∧ o.val ≠ 5 ∧ o.val ≠ 6 ∧ o.val ≠ 7 ∧ o.val ≠ 8 ∧ o.val ≠ 10 ∧ o.val ≠ 11 ∧ o.val ≠ 15) → (rowX o.val).1 = 0 := by decide
    exact key ⟨o, by omega⟩ ⟨by simp; omega, by simp; omega, by simp; omega, by simp; omega, by simp; omega, by simp; omega, by simp; omega, by simp; omega⟩
  rw [hr]
  rfl
theorem retE_tk {R V : Int} {zs : List Int} {j : Nat} (h : j < zs.length) : (retE R V zs).take (j + 1) = (retE R V zs).take j ++ [(1 + (j : Int), varX R V zs[j], 0)] := by
  have e : (retE R V zs)[j]? = some (1 + (j : Int), varX R V zs[j], 0) := by
    unfold retE
    rw [List.getElem?_map, List.getElem?_range h]
    simp [h]
  rw [List.take_add_one, e]
  rfl
theorem rins_any (fs : List PF) (f : PF) (cv : Value) (k : Nat) (sv : Value) (ss : List PS) (w : World) (h0 : CA w cv f.code) (h1 : SsA w sv ss) (hf : FunR fs f) (ht : toldX fs ss f.code = true) (hls : ss.length = fs.length) (bs : FineS ss) (hk : k < f.code.length) :
    Calls Tryz.prog 24 #[.agg #[vI f.P, vI f.R, vI f.V, cv], vI (k : Int), sv] w fun e w' => ∃ v, e = .returned v ∧ EO w' w.heap.size v (edgI ss f.R f.V (clX f.R f.V f.code k) f.code[k]) ∧ Fr (fun _ => False) w w' := by
  obtain ⟨ca, cc, ecv, hcs⟩ := id h0
  obtain ⟨ck, co, eca, hck, hcs⟩ := hcs (by intro e; rw [e] at hk; simp at hk)
  obtain ⟨av, rv, o0, o1, o2, o3, o4, o5, o6, hA, hB⟩ := hcs k hk
  subst eca
  obtain ⟨W1, hW1⟩ : ∃ W1, W1 = w.alloc (.cells #[vI f.P, vI f.R, vI f.V, cv] 46) := ⟨_, rfl⟩
  have HW1 : Hd (W1 = w.alloc (.cells #[vI f.P, vI f.R, vI f.V, cv] 46)) := hW1
  have hF1 : Fr (fun _ => False) w W1 := by rw [hW1]; exact Fr.alloc (Fr.refl _ w) _
  have k1 : W1.heap[w.heap.size]? = some (.cells #[vI f.P, vI f.R, vI f.V, cv] 46) := by rw [hW1]; exact heap_new w _
  have hs1 : W1.heap.size = w.heap.size + 1 := by rw [hW1]; simp
  obtain ⟨W, hW⟩ : ∃ W, W = W1.alloc (.cells #[vI f.code[k].op, vI f.code[k].r, vI f.code[k].s, vI f.code[k].t, vI f.code[k].n, av, rv] 48) := ⟨_, rfl⟩
  have HW : Hd (W = W1.alloc (.cells #[vI f.code[k].op, vI f.code[k].r, vI f.code[k].s, vI f.code[k].t, vI f.code[k].n, av, rv] 48)) := hW
  have hF2 : Fr (fun _ => False) W1 W := by rw [hW]; exact Fr.alloc (Fr.refl _ W1) _
  have k2 : W.heap[w.heap.size + 1]? = some (.cells #[vI f.code[k].op, vI f.code[k].r, vI f.code[k].s, vI f.code[k].t, vI f.code[k].n, av, rv] 48) := by rw [hW, ← hs1]; exact heap_new W1 _
  obtain ⟨X, hX⟩ : ∃ X, X = w.heap.size := ⟨_, rfl⟩
  have HX : Hd (X = w.heap.size) := hX
  rw [← hX] at k1 k2 hs1
  have k1' := (hF2.block _ (heap_lt k1) (fun h => h)).trans k1
  have HF : Hd (Fr (fun _ => False) w W) := hF1.trans hF2
  have HS1 : Hd (W1.heap.size = X + 1) := hs1
  have HXW : Hd (X + 1 < W.heap.size) := heap_lt k2
  have HCA : Hd (∀ wr, Fr (fun _ => False) W wr → CA wr cv f.code) := fun wr f => h0.stay (HF.out.trans f)
  have HSA : Hd (∀ wr, Fr (fun _ => False) W wr → SsA wr sv ss) := fun wr f => h1.stay (HF.out.trans f)
  have HIA : Hd (∀ wr, Fr (fun _ => False) W wr → IA wr av f.code[k].args ∧ IA wr rv f.code[k].rets) := fun wr f => ⟨hA.stay (HF.out.trans f), hB.stay (HF.out.trans f)⟩
  have hlen := hf.len
  have HOP : Hd (1 ≤ f.code[k].op ∧ f.code[k].op ≤ 17) := hf.op _ (List.getElem_mem hk)
  have HCX : Hd (∀ (o : f.code[k].op = 6), fcelX f.R f.V (k : Int) f.code = clX f.R f.V f.code k) := fun o => by
    have h6 : (f.code[(k : Int).toNat]?.map (·.op)) = some 6 := by rw [Int.toNat_natCast, List.getElem?_eq_getElem hk]; simp [o]
    unfold fcelX
    rw [if_pos ⟨hf.R.1, hf.V.1, by omega, by omega, h6⟩, clX_is hf.R hf.V f.code (by omega) k (by omega), cellX_is hf.R hf.V, Int.toNat_natCast]
    have h1 := newsX_le (f.code.take k)
    rw [List.length_take] at h1
    have := hf.R
    have := hf.V
    unfold wrap64
    omega
  have HRT : Hd (f.code[k].op = 15 → f.code[k].args.length ≤ 4) := fun o => by
    have := (hf.ret _ (List.getElem_mem hk) o).1
    have := hf.R
    omega
  have HCL : Hd (f.code[k].op = 11 → ∃ q : Nat, f.code[k].n = q ∧ ∃ h : q < ss.length, f.code[k].args.length ≤ 8 ∧ f.code[k].rets.length ≤ 4 ∧ f.code[k].args.length ≤ ss[q].H.length ∧ f.code[k].args.length ≤ ss[q].R.length ∧ ∀ l ∈ ss[q].R, l.length = f.code[k].rets.length) := fun o => by
    obtain ⟨q, hq, hqf, p1, p2, a1, a2, -⟩ := hf.call _ (List.getElem_mem hk) o
    have hqs : q < ss.length := by omega
    have hfit : fitsX ss[q] fs[q].P fs[q].R = true := by
      have := List.all_eq_true.1 ht _ (List.getElem_mem hk)
      unfold fitI at this
      rw [if_pos o, hq] at this
      simpa [hqf, hqs] using this
    obtain ⟨l1, l2, l3, l4, l5⟩ := fits_len hfit
    exact ⟨q, hq, hqs, by omega, by omega, by omega, by omega, fun l hl => by have := l3 l hl; omega⟩
  have HBS : Hd (FineS ss) := bs
  have HC : Hd (∀ wr, Fr (fun _ => False) W wr → wr.cell? ⟨X, 0, none⟩ = some (vI f.P) ∧ wr.cell? ⟨X, 1, none⟩ = some (vI f.R) ∧ wr.cell? ⟨X, 2, none⟩ = some (vI f.V) ∧ wr.cell? ⟨X, 3, none⟩ = some cv ∧
      wr.cell? ⟨X + 1, 0, none⟩ = some (vI f.code[k].op) ∧ wr.cell? ⟨X + 1, 1, none⟩ = some (vI f.code[k].r) ∧ wr.cell? ⟨X + 1, 2, none⟩ = some (vI f.code[k].s) ∧ wr.cell? ⟨X + 1, 3, none⟩ = some (vI f.code[k].t) ∧ wr.cell? ⟨X + 1, 4, none⟩ = some (vI f.code[k].n) ∧ wr.cell? ⟨X + 1, 5, none⟩ = some av ∧ wr.cell? ⟨X + 1, 6, none⟩ = some rv) := fun wr f => by
    have e1 := (f.block _ (heap_lt k1') (fun h => h)).trans k1'
    have e2 := (f.block _ (heap_lt k2) (fun h => h)).trans k2
    exact ⟨by rw [cell_of e1]; rfl, by rw [cell_of e1]; rfl, by rw [cell_of e1]; rfl, by rw [cell_of e1]; rfl, by rw [cell_of e2]; rfl, by rw [cell_of e2]; rfl, by rw [cell_of e2]; rfl, by rw [cell_of e2]; rfl, by rw [cell_of e2]; rfl, by rw [cell_of e2]; rfl, by rw [cell_of e2]; rfl⟩
  have q0 := (hF1.cell hck (fun h => h)).trans o0
  have q1 := (hF1.cell hck (fun h => h)).trans o1
  have q2 := (hF1.cell hck (fun h => h)).trans o2
  have q3 := (hF1.cell hck (fun h => h)).trans o3
  have q4 := (hF1.cell hck (fun h => h)).trans o4
  have q5 := (hF1.cell hck (fun h => h)).trans o5
  have q6 := (hF1.cell hck (fun h => h)).trans o6
  have d3 : W1.cell? ⟨X, 3, none⟩ = some cv := by rw [cell_of k1]; rfl
  obtain ⟨aa, ac, ea, -⟩ := hA
  obtain ⟨ra, rc, er, -⟩ := hB
  obtain ⟨sa, sc, es, -⟩ := h1
  have hk0 : (0 : Int) ≤ k := by omega
  have hk1 : (k : Int) < f.code.length := by omega
  have HLN : Hd (f.code.length ≤ 4096) := hlen.2
  have HK : Hd (k < f.code.length) := hk
  clear h0 hX hcs hF1 hF2 k1 k2 k1' hW1 hW o0 o1 o2 o3 o4 o5 o6 hck hf ht hls bs hlen hs1
  generalize f.code[k] = c at *
  generalize clX f.R f.V f.code k = cell at *
  subst ecv ea er es
  go_enter Tryz.func24, Tryz.ntmps24
  go_upto_region 1 with fail
  rw [← HW1.out, ← HX.out]
  go_upto_region 2 with fail
  rw [show W1.heap.size = X + 1 from HS1.out, ← HW.out]
  clear HW HW1 q0 q1 q2 q3 q4 q5 q6 d3
  obtain ⟨c0, c1, c2, c3, m0, m1, m2, m3, m4, m5, m6⟩ := HC.out W (Fr.refl _ _)
  have hv1 := rvariable_any f (.slice (some ⟨ck, co, none⟩) f.code.length cc) c.r W (HCA.out W (Fr.refl _ _))
  go_wp2_with fail
  refine hv1.mono ?_
  rintro _ w2 ⟨rfl, hG2⟩
  have HG2 : Hd (Fr (fun _ => False) W w2) := hG2
  clear hv1 hG2 c0 c1 c2 c3 m0 m1 m2 m3 m4 m5 m6
  obtain ⟨c0, c1, c2, c3, m0, m1, m2, m3, m4, m5, m6⟩ := HC.out w2 HG2.out
  have hv2 := rvariable_any f (.slice (some ⟨ck, co, none⟩) f.code.length cc) c.s w2 (HCA.out w2 HG2.out)
  go_wp2_with fail
  refine hv2.mono ?_
  rintro _ w3 ⟨rfl, hG3⟩
  have HG3 : Hd (Fr (fun _ => False) W w3) := HG2.out.trans hG3
  have HSZ : Hd (w.heap.size ≤ w3.heap.size) := (HF.out.trans HG3.out).size
  clear hv2 hG3 c0 c1 c2 c3 m0 m1 m2 m3 m4 m5 m6 HG2
  obtain ⟨c0, c1, c2, c3, m0, m1, m2, m3, m4, m5, m6⟩ := HC.out w3 HG3.out
  by_cases b2 : c.op = 2
  · rw [b2] at m0
    have HE := @edgI_one ss f.R f.V cell c 1 2 0 2 b2 (by decide) (by decide)
    have HQ : Hd (∀ v, EO (w3.alloc (.cells #[vI (varX f.R f.V c.r), vI (varX f.R f.V c.s), vI 0] 51)) w.heap.size v [(varX f.R f.V c.r, varX f.R f.V c.s, 0)] → EO (w3.alloc (.cells #[vI (varX f.R f.V c.r), vI (varX f.R f.V c.s), vI 0] 51)) w.heap.size v (edgI ss f.R f.V cell c)) := fun v h => by rw [HE]; exact h
    clear HE
    go_wp2_with fail
    go_ret
    exact ⟨_, rfl, HQ.out _ (EO.one w3 _ HSZ.out _ _ _), (HF.out.trans HG3.out).alloc _⟩
  by_cases b5 : c.op = 5
  · rw [b5] at m0
    have HE := @edgI_one ss f.R f.V cell c 1 2 (-1) 5 b5 (by decide) (by decide)
    have HQ : Hd (∀ v, EO (w3.alloc (.cells #[vI (varX f.R f.V c.r), vI (varX f.R f.V c.s), vI (-1)] 51)) w.heap.size v [(varX f.R f.V c.r, varX f.R f.V c.s, -1)] → EO (w3.alloc (.cells #[vI (varX f.R f.V c.r), vI (varX f.R f.V c.s), vI (-1)] 51)) w.heap.size v (edgI ss f.R f.V cell c)) := fun v h => by rw [HE]; exact h
    clear HE
    go_wp2_with fail
    go_ret
    exact ⟨_, rfl, HQ.out _ (EO.one w3 _ HSZ.out _ _ _), (HF.out.trans HG3.out).alloc _⟩
  by_cases b7 : c.op = 7
  · rw [b7] at m0
    have HE := @edgI_one ss f.R f.V cell c 1 2 1 7 b7 (by decide) (by decide)
    have HQ : Hd (∀ v, EO (w3.alloc (.cells #[vI (varX f.R f.V c.r), vI (varX f.R f.V c.s), vI 1] 51)) w.heap.size v [(varX f.R f.V c.r, varX f.R f.V c.s, 1)] → EO (w3.alloc (.cells #[vI (varX f.R f.V c.r), vI (varX f.R f.V c.s), vI 1] 51)) w.heap.size v (edgI ss f.R f.V cell c)) := fun v h => by rw [HE]; exact h
    clear HE
    go_wp2_with fail
    go_ret
    exact ⟨_, rfl, HQ.out _ (EO.one w3 _ HSZ.out _ _ _), (HF.out.trans HG3.out).alloc _⟩
  by_cases b8 : c.op = 8
  · rw [b8] at m0
    have HE := @edgI_one ss f.R f.V cell c 0 2 0 8 b8 (by decide) (by decide)
    have HQ : Hd (∀ v, EO (w3.alloc (.cells #[vI (0), vI (varX f.R f.V c.s), vI 0] 51)) w.heap.size v [(0, varX f.R f.V c.s, 0)] → EO (w3.alloc (.cells #[vI (0), vI (varX f.R f.V c.s), vI 0] 51)) w.heap.size v (edgI ss f.R f.V cell c)) := fun v h => by rw [HE]; exact h
    clear HE
    go_wp2_with fail
    go_ret
    exact ⟨_, rfl, HQ.out _ (EO.one w3 _ HSZ.out _ _ _), (HF.out.trans HG3.out).alloc _⟩
  by_cases b10 : c.op = 10
  · rw [b10] at m0
    have HE := @edgI_one ss f.R f.V cell c 0 2 0 10 b10 (by decide) (by decide)
    have HQ : Hd (∀ v, EO (w3.alloc (.cells #[vI (0), vI (varX f.R f.V c.s), vI 0] 51)) w.heap.size v [(0, varX f.R f.V c.s, 0)] → EO (w3.alloc (.cells #[vI (0), vI (varX f.R f.V c.s), vI 0] 51)) w.heap.size v (edgI ss f.R f.V cell c)) := fun v h => by rw [HE]; exact h
    clear HE
    go_wp2_with fail
    go_ret
    exact ⟨_, rfl, HQ.out _ (EO.one w3 _ HSZ.out _ _ _), (HF.out.trans HG3.out).alloc _⟩
  by_cases b6 : c.op = 6
  · rw [b6] at m0
    have HE := @edgI_one ss f.R f.V cell c 1 3 (-1) 6 b6 (by decide) (by decide)
    have HQ : Hd (∀ w' v, EO w' w.heap.size v [(varX f.R f.V c.r, cell, -1)] → EO w' w.heap.size v (edgI ss f.R f.V cell c)) := fun w' v h => by rw [HE]; exact h
    have hcl := rcell_any f (.slice (some ⟨ck, co, none⟩) f.code.length cc) (k : Int) w3 (HCA.out w3 HG3.out) (by have := HLN.out; omega)
    rw [HCX.out b6] at hcl
    clear HE
    go_wp2_with fail
    refine hcl.mono ?_
    rintro _ w4 ⟨rfl, hG4⟩
    have HG4 : Hd (Fr (fun _ => False) W w4) := HG3.out.trans hG4
    have HS4 : Hd (w.heap.size ≤ w4.heap.size) := (HF.out.trans HG4.out).size
    clear hcl hG4 c0 c1 c2 c3 m0 m1 m2 m3 m4 m5 m6
    go_wp2_with fail
    go_ret
    exact ⟨_, rfl, HQ.out _ _ (EO.one w4 _ HS4.out _ _ _), (HF.out.trans HG4.out).alloc _⟩
  by_cases b11 : c.op = 11
  · rw [b11] at m0
    obtain ⟨q, hq, hqs, n1, n2, n3, n4, n5⟩ := HCL.out b11
    have HE : Hd (edgI ss f.R f.V cell c = callT f.R f.V c.args c.rets ss[q].H ss[q].R c.args.length) := by
      unfold Hd edgI
      rw [if_neg (by omega), if_pos b11, hq]
      simp [hqs]
    obtain ⟨a', c', e', hss⟩ := HSA.out w3 HG3.out
    cases e'
    obtain ⟨sg, so, rfl, hsg, hss⟩ := hss (by intro e; rw [e] at hqs; simp at hqs)
    obtain ⟨hv, lv, s0, s1, t1, t2⟩ := hss q hqs
    have hbs := HBS.out.2 ss[q] (List.getElem_mem hqs)
    have hI := HIA.out w3 HG3.out
    have HD : Fr (fun _ => False) w3 w3.drew := Fr.drew (Fr.refl _ w3)
    have hct := rcall_any f (.slice (some ⟨ck, co, none⟩) f.code.length cc) 11 c.r c.s c.t c.n (.slice aa c.args.length ac) (.slice ra c.rets.length rc) c.args c.rets hv lv ss[q] w3.drew ((HCA.out w3 HG3.out).stay HD) (hI.1.stay HD) (hI.2.stay HD) (t1.stay HD) (t2.stay HD) n1 n2 n3 n4 n5 ⟨hbs.1, by omega⟩
    obtain ⟨ha, hc, ehv, -⟩ := t1
    obtain ⟨la, lc, elv, -⟩ := t2
    subst ehv elv
    rw [hq] at m4 hct
    have hq0 : (0 : Int) ≤ q := by omega
    have hq1 : (q : Int) < ss.length := by omega
    clear hss hI HD n3 n4 n5 hbs
    go_upto_region 17 with fail
    refine wp_region_still_tail 7 mixed (by kernel_rfl) ?_
    simp only [List.take_succ_cons, List.take_zero, List.drop_succ_cons, List.drop_zero]
    repeat still_step
    refine wpStill_nil ?_
    go_wp2_with fail
    refine hct.mono ?_
    rintro _ w4 ⟨v, rfl, hO, hG4⟩
    have HO : Hd (EO w4 w.heap.size v (edgI ss f.R f.V cell c)) := by unfold Hd; rw [HE.out]; exact World.ownsRow.mono hO HSZ.out
    have HG4 : Hd (Fr (fun _ => False) w w4) := (HF.out.trans HG3.out).trans ((Fr.drew (Fr.refl _ w3)).trans hG4)
    clear hO hG4 c0 c1 c2 c3 m0 m1 m2 m3 m4 m5 m6 s0 s1
    go_wp2_with fail
    go_ret
    exact ⟨_, rfl, HO.out, HG4.out⟩
  by_cases b15 : c.op = 15
  · rw [b15] at m0
    have HE : Hd (edgI ss f.R f.V cell c = retE f.R f.V c.args) := by unfold Hd edgI; rw [if_pos b15]
    have hl4 := HRT.out b15
    have HRL : Hd ((retE f.R f.V c.args).length = c.args.length) := by unfold Hd retE; simp
    obtain ⟨i7, hi7, hz7, hs7, hb7⟩ := info_parts (P := Tryz.prog) (e := 51) (z := .agg #[vI 0, vI 0, vI 0]) (size := 3) (bytes := 24) (by kernel_rfl)
    go_wp2_with fail
    clear c0 c1 c2 c3 m0 m1 m2 m3 m4 m5 m6
    go_loopw [10, 11] (fun v10 v11 wr => ∃ (j : Nat), v11 = .int .i64 j ∧ j ≤ c.args.length ∧ Hd (EO wr W.heap.size v10 ((retE f.R f.V c.args).take j)) ∧ Hd (Fr (fun _ => False) W wr)) (fun _ v _ => match v with | .int _ q => c.args.length - q.toNat | _ => 0)
    case atStart => exact ⟨0, rfl, by omega, EO.nil _ _, HG3⟩
    case round =>
      obtain ⟨j, rfl, hj, HO, HFr⟩ := hrel
      obtain ⟨c0, c1, c2, c3, m0, m1, m2, m3, m4, m5, m6⟩ := HC.out wr HFr.out
      by_cases hjl : j < c.args.length
      · obtain ⟨a', c', e', ha1⟩ := (HIA.out wr HFr.out).1
        cases e'
        obtain ⟨ak, ao, rfl, hak, ha1⟩ := ha1 (by intro e; rw [e] at hjl; simp at hjl)
        have p0 := ha1 j hjl
        have HT := @retE_tk f.R f.V c.args j hjl
        have HT : Hd ((retE f.R f.V c.args).take (j + 1) = (retE f.R f.V c.args).take j ++ [(1 + (j : Int), varX f.R f.V c.args[j], 0)]) := HT
        have HTL : Hd (((retE f.R f.V c.args).take j).length ≤ 4) := by unfold Hd; rw [List.length_take]; omega
        have HRV : Hd (∀ wx (hx : Fr (fun _ => False) W wx), Calls Tryz.prog 42 #[.agg #[vI f.P, vI f.R, vI f.V, .slice (some ⟨ck, co, none⟩) f.code.length cc], vI c.args[j]] wx fun e w' => e = .returned (vI (varX f.R f.V c.args[j])) ∧ Fr (fun _ => False) wx w') := fun wx hx => rvariable_any f (.slice (some ⟨ck, co, none⟩) f.code.length cc) c.args[j] wx (HCA.out wx hx)
        have HP1 : Hd (∀ W', Fr (fun _ => False) W W' → W'.cell? ⟨ak, ao + j, none⟩ = some (vI c.args[j])) := fun W' f => by
          obtain ⟨a', c', e', hz⟩ := (HIA.out W' f).1
          cases e'
          obtain ⟨ak', ao', e2, -, hz⟩ := hz (by intro e; rw [e] at hjl; simp at hjl)
          cases e2
          exact hz j hjl
        have HP0 : Hd (∀ W', Fr (fun _ => False) wr W' → W'.cell? ⟨ak, ao + j, none⟩ = some (vI c.args[j])) := fun W' f => (f.cell hak (fun h => h)).trans p0
        generalize varX f.R f.V c.args[j] = va at *
        generalize c.args[j] = aj at *
        generalize (retE f.R f.V c.args).take j = E at *
        have hj0 : (0 : Int) ≤ j := by omega
        have hj1 : (j : Int) < c.args.length := by omega
        have hw1 : wrap64 (1 + (j : Int)) = 1 + (j : Int) := by unfold wrap64; omega
        have hw2 : IntKind.i64.wrap (1 + (j : Int)) = 1 + (j : Int) := wrap_small _ (by omega) (by omega)
        obtain ⟨ea, ec, ee⟩ := own_slice HO.out
        subst ee
        have hel := HTL.out
        clear ha1
        go_upto_region 23 with fail
        go_region_held3 (fun w' => w'.cell? ⟨X, 0, none⟩ = some (vI f.P) ∧ w'.cell? ⟨X, 1, none⟩ = some (vI f.R) ∧ w'.cell? ⟨X, 2, none⟩ = some (vI f.V) ∧ w'.cell? ⟨X, 3, none⟩ = some (.slice (some ⟨ck, co, none⟩) f.code.length cc) ∧ w'.cell? ⟨X + 1, 5, none⟩ = some (.slice (some ⟨ak, ao, none⟩) c.args.length ac) ∧ w'.cell? ⟨ak, ao + j, none⟩ = some (vI aj)) (go_keep) ((
          first
            | (go_at_call 42
               refine (HRV.out _ (HFr.out.trans (Fr.drew (Fr.refl _ wr)))).mono ?_
               rintro e w4 ⟨rfl, hG4⟩
               have HD4 : Hd (Fr (fun _ => False) wr w4) := (Fr.drew (Fr.refl _ wr)).trans hG4
               have HF4 : Hd (Fr (fun _ => False) W w4) := HFr.out.trans HD4.out
               have HO4 : Hd (EO w4 W.heap.size (.slice ea E.length ec) E) := HO.out.stay HD4.out
               obtain ⟨s0, s1, s2, s3, -, -, -, -, -, s5, -⟩ := HC.out w4 HF4.out
               have s8 := HP0.out w4 HD4.out
               have HFn : Hd (Fr (fun _ => False) w4 (w4.alloc (.cells #[vI (1 + (j : Int)), vI va, vI 0] 51))) := Fr.alloc (Fr.refl _ w4) _
               have HRW : Hd ((w4.alloc (.cells #[vI (1 + (j : Int)), vI va, vI 0] 51)).ownsRow W.heap.size 51 3 (.slice ea E.length ec) E.length (E.flatMap edC)) := HO4.out.stay HFn.out
               have HNW : Hd (∀ j' u, [vI (1 + (j : Int)), vI va, vI 0][j']? = some u → (w4.alloc (.cells #[vI (1 + (j : Int)), vI va, vI 0] 51)).cell? ((⟨w4.heap.size, 0, none⟩ : Addr).add j') = some u) := World.news_of_block (cs := #[vI (1 + (j : Int)), vI va, vI 0]) (heap_new w4 _)
               have HBS2 : Hd (W.heap.size ≤ (w4.alloc (.cells #[vI (1 + (j : Int)), vI va, vI 0] 51)).heap.size) := (HF4.out.trans HFn.out).size
               clear hG4)
            | (refine step_append_lies _ rfl (.tmp 78) (.tmp 89) 31 rfl W.heap.size 51 i7 (.agg #[vI 0, vI 0, vI 0]) 3 24 under36 hi7 hz7 hs7 hb7 rfl (by omega) (.slice ea E.length ec) E.length _ (by simp [Act.eval, Act.put]) HRW.out ⟨w4.heap.size, 0, none⟩ 1 1 [vI (1 + (j : Int)), vI va, vI 0] (by simp [Act.eval, Act.put]) rfl HNW.out (by intro u hu; simp at hu; rcases hu with rfl | rfl | rfl <;> rfl) (by omega) (by unfold maxLen; omega) (by omega) HBS2.out (w4.heap.size + 1) (by simp) ?_
               intro g6 cap6 w6 hown6 hgrow6 hat6 hlt6
               obtain ⟨z1, z2⟩ := EO.grow (x := (1 + (j : Int), va, 0)) HO4.out HFn.out hgrow6 hown6 HF4.out (Nat.le_refl _)
               have HO1 : Hd (EO w6 W.heap.size (.slice (some ⟨g6, 0, none⟩) (E.length + 1) cap6) ((retE f.R f.V c.args).take (j + 1))) := by unfold Hd; rw [HT.out]; exact z1
               have HO2 : Hd (Fr (fun _ => False) W w6) := z2
               obtain ⟨n0, n1, n2, n3, -, -, -, -, -, n5, -⟩ := HC.out w6 HO2.out
               have n8 := HP1.out w6 HO2.out
               clear hown6 hgrow6 hat6 hlt6 z1 z2)))
        all_goals
          go_wp2_with fail
          exact ⟨⟨j + 1, castE j, hjl, HO1, HO2⟩, measE hjl⟩
      · have hdj : decide ((j : Int) < c.args.length) = false := by simp; omega
        have HQ : Hd (EO wr w.heap.size u10 (edgI ss f.R f.V cell c)) := by
          unfold Hd
          have h : EO wr w.heap.size u10 ((retE f.R f.V c.args).take j) := World.ownsRow.mono HO.out HF.out.size
          rw [List.take_of_length_le (by have := HRL.out; omega)] at h
          rw [HE.out]
          exact h
        go_wp2_with fail
        go_ret
        exact ⟨_, rfl, HQ.out, HF.out.trans HFr.out⟩
  have HN : Hd (edgI ss f.R f.V cell c = []) := edgI_none HOP.out b2 b5 b6 b7 b8 b10 b11 b15
  have x2 : (c.op == 2) = false := by simpa using b2
  have x5 : (c.op == 5) = false := by simpa using b5
  have x6 : (c.op == 6) = false := by simpa using b6
  have x7 : (c.op == 7) = false := by simpa using b7
  have x8 : (c.op == 8) = false := by simpa using b8
  have x10 : (c.op == 10) = false := by simpa using b10
  have x11 : (c.op == 11) = false := by simpa using b11
  have x15 : (c.op == 15) = false := by simpa using b15
  go_wp2_with fail
  go_ret
  exact ⟨_, rfl, by rw [HN.out]; exact EO.nil _ _, HF.out.trans HG3.out⟩
end Go.Proofs.YtlmlmhinbkcpoaaGreatDoor
