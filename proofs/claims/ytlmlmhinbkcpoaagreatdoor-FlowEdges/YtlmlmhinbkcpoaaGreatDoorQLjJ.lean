import Derived.Test.YtlmlmhinbkcpoaaGreatDoorQLhJ
import Derived.Test.YtlmlmhinbkcpoaaGreatDoorQLfJ
import Derived.Deep.RegionHeld3
namespace Go.Proofs.YtlmlmhinbkcpoaaGreatDoor
open Go.RowKit (wrap32 wrap64)
set_option linter.unusedVariables false
set_option linter.unusedSimpArgs false
set_option maxRecDepth 100000
set_option maxHeartbeats 4000000
theorem copyCode_any (v : Value) (cs : List PI) (w : World) (hl : CA w v cs) (hn : FineC cs) :
    Calls Tryz.prog 70 #[v] w fun e w' => ∃ v' L, e = .returned v' ∧ CO w' w.heap.size v' L ∧ L.map (·.1) = cs ∧ Fr (fun _ => False) w w' := by
  obtain ⟨ea, ec, rfl, hein⟩ := hl
  have HE : Hd _ := hein
  have HFI : Hd (FineC cs) := hn
  have hz := hn.1
  clear hein hn
  obtain ⟨i7, hi7, hz7, hs7, hb7⟩ := info_parts (P := Tryz.prog) (e := 48) (z := .agg #[vI 0, vI 0, vI 0, vI 0, vI 0, .slice none 0 0, .slice none 0 0]) (size := 7) (bytes := 88) (by kernel_rfl)
  go_enter Tryz.func70, Tryz.ntmps70
  go_wp2_with fail
  go_loopw [3, 4] (fun mv v wr => ∃ (k : Nat) (L : List CI), v = .int .i64 k ∧ k ≤ cs.length ∧ Hd (CO wr w.heap.size mv L) ∧ Hd (L.map (·.1) = cs.take k) ∧ Hd (Fr (fun _ => False) w wr)) (fun _ v _ => match v with | .int _ q => cs.length - q.toNat | _ => 0)
  case atStart => exact ⟨0, [], rfl, Nat.zero_le _, ⟨World.ownsRow_nil _ _ _ _, fun x hx => by simp at hx⟩, rfl, Fr.refl _ _⟩
  case round =>
    obtain ⟨k, L, rfl, hk, HO, HM, HF⟩ := hrel
    by_cases hlt : k < cs.length
    · have hne : cs ≠ [] := by intro e; simp [e] at hlt
      obtain ⟨k1, o1, rfl, hk1, g1⟩ := HE.out hne
      obtain ⟨x1, y1, p0, p1, p2, p3, p4, p5, p6, ix1, iy1⟩ := g1 k hlt
      have m1 := fun o => HF.out.cell (o := o) hk1 (fun h => h)
      have p0 := (m1 _).trans p0
      have p1 := (m1 _).trans p1
      have p2 := (m1 _).trans p2
      have p3 := (m1 _).trans p3
      have p4 := (m1 _).trans p4
      have p5 := (m1 _).trans p5
      have p6 := (m1 _).trans p6
      have X1 : Hd (IA wr x1 cs[k].args) := ix1.stay HF.out
      have Y1 : Hd (IA wr y1 cs[k].rets) := iy1.stay HF.out
      have HC : Hd (cs[k].args.length ≤ 17592186043904 ∧ cs[k].rets.length ≤ 17592186043904) := HFI.out.2 _ (List.getElem_mem hlt)
      have HT : Hd (cs.take (k + 1) = cs.take k ++ [cs[k]]) := by unfold Hd; rw [List.take_add_one, List.getElem?_eq_getElem hlt]; rfl
      have HLL : Hd (L.length = k) := by have := congrArg List.length HM.out; simp at this; unfold Hd; omega
      generalize cs[k] = c at *
      obtain ⟨a, b, e1, -⟩ := ix1
      obtain ⟨a', b', e2, -⟩ := iy1
      subst e1; subst e2
      have hk0 : (0 : Int) ≤ k := by omega
      have hk3 : (k : Int) < cs.length := by omega
      clear g1 m1
      go_wp2_with fail
      refine (show Calls Tryz.prog 84 #[.agg #[vI c.op, vI c.r, vI c.s, vI c.t, vI c.n, .slice a c.args.length b, .slice a' c.rets.length b']] wr _ from copyInstr_any c _ _ wr X1.out Y1.out (by have := HC.out; omega) (by have := HC.out; omega)).mono ?_
      rintro e w1 ⟨x', y', rfl, hx, hy, hF1⟩
      obtain ⟨xa, xc, rfl⟩ : ∃ xa xc, x' = .slice xa c.args.length xc := by obtain ⟨xa, xc, e, -⟩ := hx.ia; exact ⟨xa, xc, e⟩
      obtain ⟨ya, yc, rfl⟩ : ∃ ya yc, y' = .slice ya c.rets.length yc := by obtain ⟨ya, yc, e, -⟩ := hy.ia; exact ⟨ya, yc, e⟩
      obtain ⟨wb, hwb⟩ : ∃ wb, wb = w1.alloc (.cells #[vI c.op, vI c.r, vI c.s, vI c.t, vI c.n, .slice xa c.args.length xc, .slice ya c.rets.length yc] 48) := ⟨_, rfl⟩
      have hFb : Fr (fun _ => False) w1 wb := by rw [hwb]; exact Fr.alloc (Fr.refl _ w1) _
      have hFc : Fr (fun _ => False) w1 (wb.alloc (.cells #[vI c.op, vI c.r, vI c.s, vI c.t, vI c.n, .slice xa c.args.length xc, .slice ya c.rets.length yc] 48)) := Fr.alloc hFb _
      have b1 : wb.heap[w1.heap.size]? = some (.cells #[vI c.op, vI c.r, vI c.s, vI c.t, vI c.n, .slice xa c.args.length xc, .slice ya c.rets.length yc] 48) := by rw [hwb]; exact heap_new w1 _
      have HO1 : Hd (CO (wb.alloc (.cells #[vI c.op, vI c.r, vI c.s, vI c.t, vI c.n, .slice xa c.args.length xc, .slice ya c.rets.length yc] 48)) w.heap.size u3 L) := HO.out.stay (hF1.trans hFc)
      have HX1 : Hd (IOwn (wb.alloc (.cells #[vI c.op, vI c.r, vI c.s, vI c.t, vI c.n, .slice xa c.args.length xc, .slice ya c.rets.length yc] 48)) w.heap.size (.slice xa c.args.length xc) c.args) := (hx.fr hFc (fun _ _ e => e)).mono HF.out.size
      have HY1 : Hd (IOwn (wb.alloc (.cells #[vI c.op, vI c.r, vI c.s, vI c.t, vI c.n, .slice xa c.args.length xc, .slice ya c.rets.length yc] 48)) w.heap.size (.slice ya c.rets.length yc) c.rets) := (hy.fr hFc (fun _ _ e => e)).mono HF.out.size
      have HF1 : Hd (Fr (fun _ => False) w (wb.alloc (.cells #[vI c.op, vI c.r, vI c.s, vI c.t, vI c.n, .slice xa c.args.length xc, .slice ya c.rets.length yc] 48))) := HF.out.trans (hF1.trans hFc)
      have HWB : Hd (wb = w1.alloc (.cells #[vI c.op, vI c.r, vI c.s, vI c.t, vI c.n, .slice xa c.args.length xc, .slice ya c.rets.length yc] 48)) := hwb
      have HRW : Hd ((wb.alloc (.cells #[vI c.op, vI c.r, vI c.s, vI c.t, vI c.n, .slice xa c.args.length xc, .slice ya c.rets.length yc] 48)).ownsRow w.heap.size 48 7 u3 L.length (L.flatMap rowI)) := HO1.out.row
      have hnews : ∀ j u, [vI c.op, vI c.r, vI c.s, vI c.t, vI c.n, .slice xa c.args.length xc, .slice ya c.rets.length yc][j]? = some u → (wb.alloc (.cells #[vI c.op, vI c.r, vI c.s, vI c.t, vI c.n, .slice xa c.args.length xc, .slice ya c.rets.length yc] 48)).cell? ((⟨wb.heap.size, 0, none⟩ : Addr).add j) = some u :=
        World.news_of_block (cs := #[vI c.op, vI c.r, vI c.s, vI c.t, vI c.n, .slice xa c.args.length xc, .slice ya c.rets.length yc]) (heap_new wb _)
      have hbase : w.heap.size ≤ (wb.alloc (.cells #[vI c.op, vI c.r, vI c.s, vI c.t, vI c.n, .slice xa c.args.length xc, .slice ya c.rets.length yc] 48)).heap.size := HF1.out.size
      have hEl : L.length + 1 ≤ 1599289640355 := by have := HLL.out; omega
      have u0 : wb.cell? ⟨w1.heap.size, 0, none⟩ = some (vI c.op) := by rw [cell_of b1]; rfl
      have u1 : wb.cell? ⟨w1.heap.size, 1, none⟩ = some (vI c.r) := by rw [cell_of b1]; rfl
      have u2 : wb.cell? ⟨w1.heap.size, 2, none⟩ = some (vI c.s) := by rw [cell_of b1]; rfl
      have u3' : wb.cell? ⟨w1.heap.size, 3, none⟩ = some (vI c.t) := by rw [cell_of b1]; rfl
      have u4 : wb.cell? ⟨w1.heap.size, 4, none⟩ = some (vI c.n) := by rw [cell_of b1]; rfl
      have u5 : wb.cell? ⟨w1.heap.size, 5, none⟩ = some (.slice xa c.args.length xc) := by rw [cell_of b1]; rfl
      have u6 : wb.cell? ⟨w1.heap.size, 6, none⟩ = some (.slice ya c.rets.length yc) := by rw [cell_of b1]; rfl
      clear hx hy hF1 hFb hFc b1 HO HF hwb p0 p1 p2 p3 p4 p5 p6
      go_upto_region 6 with fail
      rw [← HWB.out]
      clear HWB
      go_wp2_with ((at_builtin; refine Hd.out ?_))
      unfold Hd
      refine wpList_append_lies _ rfl (.tmp 17) (.tmp 19) 44 rfl w.heap.size 48 i7 (.agg #[vI 0, vI 0, vI 0, vI 0, vI 0, .slice none 0 0, .slice none 0 0]) 7 88 under65 hi7 hz7 hs7 hb7 rfl (by omega) u3 L.length _ rfl HRW.out ⟨wb.heap.size, 0, none⟩ 1 1 [vI c.op, vI c.r, vI c.s, vI c.t, vI c.n, .slice xa c.args.length xc, .slice ya c.rets.length yc] rfl rfl hnews (by intro u hu; simp at hu; rcases hu with rfl | rfl | rfl | rfl | rfl | rfl | rfl <;> rfl) (by omega) (by unfold maxLen; omega) (by omega) hbase (wb.heap.size + 1) (by simp) ?_
      intro g6 cap6 w6 hown6 hgrow6 hat6 hlt6
      have hF6 := grown_frL hgrow6
      have HO6 : Hd (CO w6 w.heap.size (.slice (some ⟨g6, 0, none⟩) (L.length + 1) cap6) (L ++ [(c, .slice xa c.args.length xc, .slice ya c.rets.length yc)])) := by
        refine ⟨?_, fun x hx => ?_⟩
        · rw [List.length_append, List.flatMap_append]
          simpa using hown6
        · rcases List.mem_append.1 hx with hx | hx
          · have hi := HO1.out.ints x hx
            exact ⟨hi.1.fr hF6 (fun j e e2 => own_apart HRW.out hi.1 (by decide) j e e2), hi.2.fr hF6 (fun j e e2 => own_apart HRW.out hi.2 (by decide) j e e2)⟩
          · simp at hx
            subst hx
            exact ⟨HX1.out.fr hF6 (fun j e e2 => own_apart HRW.out HX1.out (by decide) j e e2), HY1.out.fr hF6 (fun j e e2 => own_apart HRW.out HY1.out (by decide) j e e2)⟩
      have HF6 : Hd (Fr (fun _ => False) w w6) := grow_fr0 HF1.out hgrow6 (fun k hk => (World.ownsRow.lt HRW.out k hk).1)
      have HM6 : Hd ((L ++ [(c, Value.slice xa c.args.length xc, Value.slice ya c.rets.length yc)]).map (·.1) = cs.take (k + 1)) := by
        unfold Hd
        rw [HT.out, List.map_append, HM.out]
        rfl
      clear hown6 hgrow6 hat6 hlt6 HO1 HF1 HRW hnews hbase hF6 HX1 HY1 u0 u1 u2 u3' u4 u5 u6
      go_wp2_with fail
      exact ⟨⟨k + 1, _, by simp, by omega, HO6.out, HM6.out, HF6.out⟩, by simp; omega⟩
    · have hke : k = cs.length := by omega
      subst hke
      have HM2 : Hd (L.map (·.1) = cs) := by have := HM.out; rw [List.take_length] at this; exact this
      clear HM
      go_wp2_with fail
      go_ret
      exact ⟨u3, L, rfl, HO.out, HM2.out, HF.out⟩
abbrev FI := PF × Value × List CI
abbrev rowF (x : FI) : List Value := fR x.1 x.2.1
structure FO (w : World) (B : Nat) (v : Value) (L : List FI) : Prop where
  row : w.ownsRow B 46 4 v L.length (L.flatMap rowF)
  code : ∀ x ∈ L, CO w B x.2.1 x.2.2 ∧ x.2.2.map (·.1) = x.1.code
theorem FO.fa {w : World} {B : Nat} {v : Value} {L : List FI} (h : FO w B v L) : FA w v (L.map (·.1)) := by
  rcases h.row.2 with ⟨h2, h3⟩ | ⟨g, cap, cur, e, -⟩
  · refine ⟨none, 0, by rw [h2, List.length_map, h3], fun hne => ?_⟩
    exact absurd (by rw [List.eq_nil_of_length_eq_zero h3]; rfl) hne
  · refine ⟨some ⟨g, 0, none⟩, cap, by rw [e, List.length_map], fun _ => ⟨g, 0, rfl, (World.ownsRow.lt h.row g (by rw [e]; rfl)).2, fun j hj => ?_⟩⟩
    have hj' : j < L.length := by simpa using hj
    have pc : ∀ o u, o < 4 → (rowF L[j])[o]? = some u → w.cell? ⟨g, j * 4 + o, none⟩ = some u := fun o u ho hu => by
      obtain ⟨g', cap', e', -, hc⟩ := own_cell h.row (j := j * 4 + o) (u := u) (by rw [flat_get rowF 4 (fun _ => rfl) L j o hj' ho]; exact hu)
      rw [e] at e'
      cases e'
      exact hc
    have hi := h.code L[j] (List.getElem_mem hj')
    rw [Nat.zero_add]
    simp only [List.getElem_map]
    refine ⟨L[j].2.1, pc 0 _ (by omega) rfl, pc 1 _ (by omega) rfl, pc 2 _ (by omega) rfl, pc 3 _ (by omega) rfl, ?_⟩
    rw [← hi.2]
    exact hi.1.ca
theorem FO.stay {w w' : World} {B : Nat} {v : Value} {L : List FI} (h : FO w B v L) (f : Fr (fun _ => False) w w') : FO w' B v L := ⟨ownsRow_frL h.row f (fun _ _ e => e), fun x hx => ⟨(h.code x hx).1.stay f, (h.code x hx).2⟩⟩
theorem CO.shape {w : World} {B : Nat} {v : Value} {L : List CI} (h : CO w B v L) : ∃ a c, v = .slice a L.length c := by
  rcases h.row.2 with ⟨h2, h3⟩ | ⟨g, cap, cur, e, -⟩
  · exact ⟨none, 0, by rw [h2, h3]⟩
  · exact ⟨_, _, e⟩
theorem copyFunc_any (f : PF) (x : Value) (w : World) (h1 : CA w x f.code) (hn : FineC f.code) :
    Calls Tryz.prog 48 #[.agg #[vI f.P, vI f.R, vI f.V, x]] w fun e w' => ∃ x' L, e = .returned (.agg #[vI f.P, vI f.R, vI f.V, x']) ∧ CO w' w.heap.size x' L ∧ L.map (·.1) = f.code ∧ Fr (fun _ => False) w w' := by
  obtain ⟨a1, b1, e1, -⟩ := id h1
  obtain ⟨wa, hwa⟩ : ∃ wa, wa = (w.alloc (.cells #[vI f.P, vI f.R, vI f.V, x] 46)).alloc (.cells #[vI 0, vI 0, vI 0, .slice none 0 0] 46) := ⟨_, rfl⟩
  have hF : Fr (fun _ => False) w wa := by rw [hwa]; exact Fr.alloc (Fr.alloc (Fr.refl _ w) _) _
  have hsz : wa.heap.size = w.heap.size + 2 := by rw [hwa]; simp
  have b1' : wa.heap[w.heap.size]? = some (.cells #[vI f.P, vI f.R, vI f.V, x] 46) := by
    rw [hwa, Go.RowKit.Below.heap_alloc _ _ _ (by simp)]; exact heap_new w _
  have b2' : wa.heap[w.heap.size + 1]? = some (.cells #[vI 0, vI 0, vI 0, .slice none 0 0] 46) := by
    rw [hwa, show w.heap.size + 1 = (w.alloc (.cells #[vI f.P, vI f.R, vI f.V, x] 46)).heap.size by simp]; exact heap_new _ _
  have HWA : Hd (wa = (w.alloc (.cells #[vI f.P, vI f.R, vI f.V, x] 46)).alloc (.cells #[vI 0, vI 0, vI 0, .slice none 0 0] 46)) := hwa
  have G1 : Hd (CA wa x f.code) := h1.stay hF
  have HF : Hd (Fr (fun _ => False) w wa) := hF
  obtain ⟨H, hH⟩ : ∃ H, H = w.heap.size := ⟨_, rfl⟩
  have HH : Hd (H = w.heap.size) := hH
  have HSZ : Hd (wa.heap.size = H + 2) := by rw [hH]; exact hsz
  rw [← hH] at b1' b2'
  have B1 : Hd _ := b1'
  have B2 : Hd _ := b2'
  have p3 : wa.cell? ⟨H, 3, none⟩ = some x := by rw [cell_of b1']; rfl
  subst e1
  clear h1 hF hsz hwa hH b1' b2'
  go_enter Tryz.func48, Tryz.ntmps48
  go_upto_region 1 with fail
  rw [← HWA.out, ← HH.out]
  clear HWA
  go_wp2_with fail
  refine (show Calls Tryz.prog 70 #[.slice a1 f.code.length b1] wa _ from copyCode_any _ f.code wa G1.out hn).mono ?_
  rintro e w2 ⟨x', L, rfl, hx', hL, hF2⟩
  have B1' : w2.heap[H]? = some (.cells #[vI f.P, vI f.R, vI f.V, .slice a1 f.code.length b1] 46) := (hF2.block H (heap_lt B1.out) (fun e => e)).trans B1.out
  have B2' : w2.heap[H + 1]? = some (.cells #[vI 0, vI 0, vI 0, .slice none 0 0] 46) := (hF2.block (H + 1) (heap_lt B2.out) (fun e => e)).trans B2.out
  obtain ⟨xa, xc, exa⟩ := hx'.shape
  have q3 : w2.cell? ⟨H, 3, none⟩ = some (.slice a1 f.code.length b1) := by rw [cell_of B1']; rfl
  have z3 := frozen_of B1' 3
  have fs2 := setCell_fr w2 H 3 x'
  have C1 : Hd ((w2.setCell ⟨H, 3, none⟩ x').heap[H]? = some (.cells #[vI f.P, vI f.R, vI f.V, x'] 46)) := set_of B1' 3 x'
  have C2 : Hd ((w2.setCell ⟨H, 3, none⟩ x').heap[H + 1]? = some (.cells #[vI 0, vI 0, vI 0, .slice none 0 0] 46)) := (fs2.block (H + 1) (heap_lt B2') (by omega)).trans B2'
  have hx2 := hx'.mono (B' := H + 2) (by rw [HSZ.out]; exact Nat.le_refl _)
  have HX : Hd (CO (w2.setCell ⟨H, 3, none⟩ x') (H + 2) x' L) := hx2.fr fs2 (fun k e e2 => by have := (World.ownsRow.lt hx2.row k e).1; omega) (fun y hy k e e2 => by
    rcases e with e | e
    · have := ((hx2.ints y hy).1.ge k e).1; omega
    · have := ((hx2.ints y hy).2.ge k e).1; omega)
  have HF2 : Hd (Fr (fun _ => False) w (w2.setCell ⟨H, 3, none⟩ x')) := (HF.out.trans hF2).then fs2 (fun j hj e => by have := HH.out; omega)
  have HLL : Hd (L.map (·.1) = f.code) := hL
  subst exa
  clear hx' hx2 hL hF2 fs2 B1' B2' p3 B1 B2 G1 HF HSZ
  go_upto_region 2 with fail
  clear q3 z3
  generalize w2.setCell ⟨H, 3, none⟩ (.slice xa L.length xc) = w5 at *
  have c0 : w5.cell? ⟨H, 0, none⟩ = some (vI f.P) := by rw [cell_of C1.out]; rfl
  have c1 : w5.cell? ⟨H, 1, none⟩ = some (vI f.R) := by rw [cell_of C1.out]; rfl
  have c2 : w5.cell? ⟨H, 2, none⟩ = some (vI f.V) := by rw [cell_of C1.out]; rfl
  have c3 : w5.cell? ⟨H, 3, none⟩ = some (.slice xa L.length xc) := by rw [cell_of C1.out]; rfl
  have d0 : w5.cell? ⟨H + 1, 0, none⟩ = some (vI 0) := by rw [cell_of C2.out]; rfl
  have d1 : w5.cell? ⟨H + 1, 1, none⟩ = some (vI 0) := by rw [cell_of C2.out]; rfl
  have d2 : w5.cell? ⟨H + 1, 2, none⟩ = some (vI 0) := by rw [cell_of C2.out]; rfl
  have d3 : w5.cell? ⟨H + 1, 3, none⟩ = some (.slice none 0 0) := by rw [cell_of C2.out]; rfl
  have y0 := frozen_of C2.out 0
  have y1 := frozen_of C2.out 1
  have y2 := frozen_of C2.out 2
  have y3 := frozen_of C2.out 3
  have HLz : Hd ((fou4 w5 (H + 1) 0 (fR f (.slice xa L.length xc))).heap[H + 1]? = some (.cells #[vI f.P, vI f.R, vI f.V, .slice xa L.length xc] 46)) := set_of (set_of (set_of (set_of C2.out 0 _) 1 _) 2 _) 3 _
  have fs6 := fou4_fr w5 (H + 1) 0 (fR f (.slice xa L.length xc))
  have KX : Hd (CO (fou4 w5 (H + 1) 0 (fR f (.slice xa L.length xc))) w.heap.size (.slice xa L.length xc) L) := (HX.out.fr fs6 (fun k e e2 => by have := (World.ownsRow.lt HX.out.row k e).1; omega) (fun y hy k e e2 => by
    rcases e with e | e
    · have := ((HX.out.ints y hy).1.ge k e).1; omega
    · have := ((HX.out.ints y hy).2.ge k e).1; omega)).mono (by have := HH.out; omega)
  have KF : Hd (Fr (fun _ => False) w (fou4 w5 (H + 1) 0 (fR f (.slice xa L.length xc)))) := Fr.then HF2.out fs6 (fun j hj e => by have := HH.out; omega)
  clear fs6
  go_wp2_with fail
  change bodyPost _ _ _ _ _ (fou4 w5 (H + 1) 0 (fR f (.slice xa L.length xc)))
  generalize fou4 w5 (H + 1) 0 (fR f (.slice xa L.length xc)) = wz at *
  have e0 : wz.cell? ⟨H + 1, 0, none⟩ = some (vI f.P) := by rw [cell_of HLz.out]; rfl
  have e1 : wz.cell? ⟨H + 1, 1, none⟩ = some (vI f.R) := by rw [cell_of HLz.out]; rfl
  have e2 : wz.cell? ⟨H + 1, 2, none⟩ = some (vI f.V) := by rw [cell_of HLz.out]; rfl
  have e3 : wz.cell? ⟨H + 1, 3, none⟩ = some (.slice xa L.length xc) := by rw [cell_of HLz.out]; rfl
  refine bodyPost_ret (v := .agg #[vI f.P, vI f.R, vI f.V, .slice xa L.length xc]) ?_ rfl ⟨_, L, rfl, KX.out, HLL.out, KF.out⟩
  rw [results_cell (p := 2) (ty := 46) Tryz.results48]
  simp [go_sem, e0, e1, e2, e3]
theorem copyFuncs_any (v : Value) (fs : List PF) (w : World) (hl : FA w v fs) (hn : FineP fs) :
    Calls Tryz.prog 30 #[v] w fun e w' => ∃ v' L, e = .returned v' ∧ FO w' w.heap.size v' L ∧ L.map (·.1) = fs ∧ Fr (fun _ => False) w w' := by
  obtain ⟨ea, ec, rfl, hein⟩ := hl
  have HE : Hd _ := hein
  have HFI : Hd (FineP fs) := hn
  have hz := hn.1
  clear hein hn
  obtain ⟨i7, hi7, hz7, hs7, hb7⟩ := info_parts (P := Tryz.prog) (e := 46) (z := .agg #[vI 0, vI 0, vI 0, .slice none 0 0]) (size := 4) (bytes := 48) (by kernel_rfl)
  go_enter Tryz.func30, Tryz.ntmps30
  go_wp2_with fail
  go_loopw [3, 4] (fun mv v wr => ∃ (k : Nat) (L : List FI), v = .int .i64 k ∧ k ≤ fs.length ∧ Hd (FO wr w.heap.size mv L) ∧ Hd (L.map (·.1) = fs.take k) ∧ Hd (Fr (fun _ => False) w wr)) (fun _ v _ => match v with | .int _ q => fs.length - q.toNat | _ => 0)
  case atStart => exact ⟨0, [], rfl, Nat.zero_le _, ⟨World.ownsRow_nil _ _ _ _, fun x hx => by simp at hx⟩, rfl, Fr.refl _ _⟩
  case round =>
    obtain ⟨k, L, rfl, hk, HO, HM, HF⟩ := hrel
    by_cases hlt : k < fs.length
    · have hne : fs ≠ [] := by intro e; simp [e] at hlt
      obtain ⟨k1, o1, rfl, hk1, g1⟩ := HE.out hne
      obtain ⟨x1, p0, p1, p2, p3, ix1⟩ := g1 k hlt
      have m1 := fun o => HF.out.cell (o := o) hk1 (fun h => h)
      have p0 := (m1 _).trans p0
      have p1 := (m1 _).trans p1
      have p2 := (m1 _).trans p2
      have p3 := (m1 _).trans p3
      have X1 : Hd (CA wr x1 fs[k].code) := ix1.stay HF.out
      have HC : Hd (FineC fs[k].code) := HFI.out.2 _ (List.getElem_mem hlt)
      have HT : Hd (fs.take (k + 1) = fs.take k ++ [fs[k]]) := by unfold Hd; rw [List.take_add_one, List.getElem?_eq_getElem hlt]; rfl
      have HLL : Hd (L.length = k) := by have := congrArg List.length HM.out; simp at this; unfold Hd; omega
      generalize fs[k] = f at *
      obtain ⟨a, b, e1, -⟩ := ix1
      subst e1
      have hk0 : (0 : Int) ≤ k := by omega
      have hk3 : (k : Int) < fs.length := by omega
      clear g1 m1
      go_wp2_with fail
      refine (show Calls Tryz.prog 48 #[.agg #[vI f.P, vI f.R, vI f.V, .slice a f.code.length b]] wr _ from copyFunc_any f _ wr X1.out HC.out).mono ?_
      rintro e w1 ⟨x', Lx, rfl, hx, hLx, hF1⟩
      obtain ⟨xa, xc, rfl⟩ := hx.shape
      obtain ⟨wb, hwb⟩ : ∃ wb, wb = w1.alloc (.cells #[vI f.P, vI f.R, vI f.V, .slice xa Lx.length xc] 46) := ⟨_, rfl⟩
      have hFb : Fr (fun _ => False) w1 wb := by rw [hwb]; exact Fr.alloc (Fr.refl _ w1) _
      have hFc : Fr (fun _ => False) w1 (wb.alloc (.cells #[vI f.P, vI f.R, vI f.V, .slice xa Lx.length xc] 46)) := Fr.alloc hFb _
      have b1 : wb.heap[w1.heap.size]? = some (.cells #[vI f.P, vI f.R, vI f.V, .slice xa Lx.length xc] 46) := by rw [hwb]; exact heap_new w1 _
      have HO1 : Hd (FO (wb.alloc (.cells #[vI f.P, vI f.R, vI f.V, .slice xa Lx.length xc] 46)) w.heap.size u3 L) := HO.out.stay (hF1.trans hFc)
      have HX1 : Hd (CO (wb.alloc (.cells #[vI f.P, vI f.R, vI f.V, .slice xa Lx.length xc] 46)) w.heap.size (.slice xa Lx.length xc) Lx) := (hx.stay hFc).mono HF.out.size
      have HLX : Hd (Lx.map (·.1) = f.code) := hLx
      have HF1 : Hd (Fr (fun _ => False) w (wb.alloc (.cells #[vI f.P, vI f.R, vI f.V, .slice xa Lx.length xc] 46))) := HF.out.trans (hF1.trans hFc)
      have HWB : Hd (wb = w1.alloc (.cells #[vI f.P, vI f.R, vI f.V, .slice xa Lx.length xc] 46)) := hwb
      have HRW : Hd ((wb.alloc (.cells #[vI f.P, vI f.R, vI f.V, .slice xa Lx.length xc] 46)).ownsRow w.heap.size 46 4 u3 L.length (L.flatMap rowF)) := HO1.out.row
      have hnews : ∀ j u, [vI f.P, vI f.R, vI f.V, .slice xa Lx.length xc][j]? = some u → (wb.alloc (.cells #[vI f.P, vI f.R, vI f.V, .slice xa Lx.length xc] 46)).cell? ((⟨wb.heap.size, 0, none⟩ : Addr).add j) = some u :=
        World.news_of_block (cs := #[vI f.P, vI f.R, vI f.V, .slice xa Lx.length xc]) (heap_new wb _)
      have hbase : w.heap.size ≤ (wb.alloc (.cells #[vI f.P, vI f.R, vI f.V, .slice xa Lx.length xc] 46)).heap.size := HF1.out.size
      have hEl : L.length + 1 ≤ 2932031007318 := by have := HLL.out; omega
      have u0 : wb.cell? ⟨w1.heap.size, 0, none⟩ = some (vI f.P) := by rw [cell_of b1]; rfl
      have u1 : wb.cell? ⟨w1.heap.size, 1, none⟩ = some (vI f.R) := by rw [cell_of b1]; rfl
      have u2 : wb.cell? ⟨w1.heap.size, 2, none⟩ = some (vI f.V) := by rw [cell_of b1]; rfl
      have u3' : wb.cell? ⟨w1.heap.size, 3, none⟩ = some (.slice xa Lx.length xc) := by rw [cell_of b1]; rfl
      clear hx hLx hF1 hFb hFc b1 HO HF hwb p0 p1 p2 p3
      go_upto_region 6 with fail
      rw [← HWB.out]
      clear HWB
      go_wp2_with ((at_builtin; refine Hd.out ?_))
      unfold Hd
      refine wpList_append_lies _ rfl (.tmp 17) (.tmp 19) 22 rfl w.heap.size 46 i7 (.agg #[vI 0, vI 0, vI 0, .slice none 0 0]) 4 48 under24 hi7 hz7 hs7 hb7 rfl (by omega) u3 L.length _ rfl HRW.out ⟨wb.heap.size, 0, none⟩ 1 1 [vI f.P, vI f.R, vI f.V, .slice xa Lx.length xc] rfl rfl hnews (by intro u hu; simp at hu; rcases hu with rfl | rfl | rfl | rfl <;> rfl) (by omega) (by unfold maxLen; omega) (by omega) hbase (wb.heap.size + 1) (by simp) ?_
      intro g6 cap6 w6 hown6 hgrow6 hat6 hlt6
      have hF6 := grown_frL hgrow6
      have HO6 : Hd (FO w6 w.heap.size (.slice (some ⟨g6, 0, none⟩) (L.length + 1) cap6) (L ++ [(f, .slice xa Lx.length xc, Lx)])) := by
        have keep : ∀ (v : Value) (M : List CI), CO (wb.alloc (.cells #[vI f.P, vI f.R, vI f.V, .slice xa Lx.length xc] 46)) w.heap.size v M → CO w6 w.heap.size v M := fun v M hM =>
          hM.fr hF6 (fun j e e2 => own_apart HRW.out hM.row (by decide) j e e2) (fun y hy j e e2 => by
            rcases e with e | e
            · exact own_apart HRW.out (hM.ints y hy).1 (by decide) j e e2
            · exact own_apart HRW.out (hM.ints y hy).2 (by decide) j e e2)
        refine ⟨?_, fun x hx => ?_⟩
        · rw [List.length_append, List.flatMap_append]
          simpa using hown6
        · rcases List.mem_append.1 hx with hx | hx
          · exact ⟨keep _ _ (HO1.out.code x hx).1, (HO1.out.code x hx).2⟩
          · simp at hx
            subst hx
            exact ⟨keep _ _ HX1.out, HLX.out⟩
      have HF6 : Hd (Fr (fun _ => False) w w6) := grow_fr0 HF1.out hgrow6 (fun k hk => (World.ownsRow.lt HRW.out k hk).1)
      have HM6 : Hd ((L ++ [(f, Value.slice xa Lx.length xc, Lx)]).map (·.1) = fs.take (k + 1)) := by
        unfold Hd
        rw [HT.out, List.map_append, HM.out]
        rfl
      clear hown6 hgrow6 hat6 hlt6 HO1 HF1 HRW hnews hbase hF6 HX1 u0 u1 u2 u3'
      go_wp2_with fail
      exact ⟨⟨k + 1, _, by simp, by omega, HO6.out, HM6.out, HF6.out⟩, by simp; omega⟩
    · have hke : k = fs.length := by omega
      subst hke
      have HM2 : Hd (L.map (·.1) = fs) := by have := HM.out; rw [List.take_length] at this; exact this
      clear HM
      go_wp2_with fail
      go_ret
      exact ⟨u3, L, rfl, HO.out, HM2.out, HF.out⟩
abbrev nil2 : Obj := .cells #[.slice none 0 0, .slice none 0 0] 43
theorem underL32 : Tryz.prog.underlying 41 = some (.slice 40) := by kernel_rfl
theorem own_slice {w : World} {B e sz n : Nat} {v : Value} {xs : List Value} (h : w.ownsRow B e sz v n xs) : ∃ a c, v = .slice a n c := by
  rcases h.2 with ⟨e, e2⟩ | ⟨g, cap, cur, e, -⟩
  · exact ⟨none, 0, by rw [e, e2]⟩
  · exact ⟨_, _, e⟩
theorem keepA {W : World} {k : Nat} {o' : Obj} (h : W.heap[k]? = some o') (o : Obj) : (W.alloc o).heap[k]? = some o' := by rw [Go.RowKit.Below.heap_alloc _ _ _ (heap_lt h)]; exact h
theorem keepF {W W' : World} {k : Nat} {o' : Obj} (h : W.heap[k]? = some o') (f : Fr (fun _ => False) W W') : W'.heap[k]? = some o' := (f.block k (heap_lt h) (fun e => e)).trans h
structure LO (w : World) (B : Nat) (rv : Value) (us : List Value) (ls : List (List Int)) : Prop where
  row : w.ownsRow B 40 1 rv us.length us
  ul : us.length = ls.length
  each : ∀ i (h : i < us.length) (h' : i < ls.length), IOwn w B us[i] ls[i]
  apart : ∀ i j (h : i < us.length) (h' : j < us.length), i ≠ j → ∀ k, us[i].ownBlock = some k → us[j].ownBlock ≠ some k
theorem LO.nil (w : World) (B : Nat) : LO w B (.slice none 0 0) [] [] := ⟨World.ownsRow_nil _ _ _ _, rfl, fun i h => by simp at h, fun i j h => by simp at h⟩
theorem LO.keep {w w' : World} {B : Nat} {rv : Value} {us : List Value} {ls : List (List Int)} (h : LO w B rv us ls) (f : Fr (fun _ => False) w w') : LO w' B rv us ls :=
  ⟨ownsRow_frL h.row f (fun _ _ e => e), h.ul, fun i hi hk => (h.each i hi hk).fr f (fun _ _ e => e), h.apart⟩
theorem LO.grow {w w6 : World} {B g cap : Nat} {rv x : Value} {us : List Value} {ls : List (List Int)} {l : List Int} (h : LO w B rv us ls) (hx : IOwn w B x l) (ha : ∀ i (hi : i < us.length), ∀ k, us[i].ownBlock = some k → x.ownBlock ≠ some k) (hg : w.grownBy w6 rv.ownBlock) (ho : w6.ownsRow B 40 1 (.slice (some ⟨g, 0, none⟩) (us.length + 1) cap) (us.length + 1) (us ++ [x])) :
    LO w6 B (.slice (some ⟨g, 0, none⟩) (us.length + 1) cap) (us ++ [x]) (ls ++ [l]) := by
  have f := grown_frL hg
  have ke : ∀ y s, IOwn w B y s → IOwn w6 B y s := fun y s hy => hy.fr f (fun j e e2 => own_apart h.row hy (by decide) j e e2)
  refine ⟨by rw [List.length_append]; exact ho, by rw [List.length_append, List.length_append, h.ul]; rfl, fun i hi hk => ?_, fun i j hi hj hne k e => ?_⟩
  · have hul := h.ul
    by_cases e : i < us.length
    · rw [List.getElem_append_left e, List.getElem_append_left (by omega)]
      exact ke _ _ (h.each i e (by omega))
    · have ei : i = us.length := by simp at hi; omega
      subst ei
      have e1 : (us ++ [x])[us.length] = x := by simp
      have e2 : (ls ++ [l])[us.length] = l := by simp [hul]
      rw [e1, e2]
      exact ke _ _ hx
  · have hi' : i < us.length + 1 := by simpa using hi
    have hj' : j < us.length + 1 := by simpa using hj
    by_cases ei : i < us.length
    · rw [List.getElem_append_left ei] at e
      by_cases ej : j < us.length
      · rw [List.getElem_append_left ej]; exact h.apart i j ei ej hne k e
      · have e3 : j = us.length := by omega
        subst e3
        have e1 : (us ++ [x])[us.length] = x := by simp
        rw [e1]; exact ha i ei k e
    · have e3 : i = us.length := by omega
      subst e3
      have e1 : (us ++ [x])[us.length] = x := by simp
      rw [e1] at e
      have ej : j < us.length := by omega
      rw [List.getElem_append_left ej]
      intro e2
      exact ha j ej k e2 e
theorem LO.la {w : World} {B : Nat} {rv : Value} {us : List Value} {ls : List (List Int)} (h : LO w B rv us ls) : LA w rv ls := by
  obtain ⟨ra, rc, erv⟩ := own_slice h.row
  refine ⟨ra, rc, by rw [erv, h.ul], fun hne => ?_⟩
  have hl0 : 0 < us.length := by rw [h.ul]; exact List.length_pos_iff.2 hne
  obtain ⟨g, cap, e, hgl, -⟩ := own_cell h.row (j := 0) (u := us[0]) (List.getElem?_eq_getElem hl0)
  rw [erv] at e
  cases e
  refine ⟨g, 0, rfl, hgl, fun j hj => ?_⟩
  have hj' : j < us.length := by rw [h.ul]; exact hj
  obtain ⟨g', cap', e', -, hc⟩ := own_cell h.row (j := j) (u := us[j]) (List.getElem?_eq_getElem hj')
  rw [erv] at e'
  cases e'
  exact ⟨us[j], by rw [Nat.zero_add]; exact hc, (h.each j hj' hj).ia⟩
theorem copyLists_any (v : Value) (ls : List (List Int)) (w : World) (hE : LA w v ls) (hel : ls.length ≤ 5864062014634) (hll : ∀ l ∈ ls, l.length ≤ 17592186043904) : Calls Tryz.prog 50 #[v] w fun e w' => ∃ v' us, e = .returned v' ∧ LO w' w.heap.size v' us ls ∧ Fr (fun _ => False) w w' := by
  obtain ⟨ea, ec, rfl, hein⟩ := hE
  have HE : Hd (ls ≠ [] → _) := hein
  have HLL : Hd (∀ l ∈ ls, l.length ≤ 17592186043904) := hll
  clear hein hll
  obtain ⟨i22, hi22, hz22, hs22, hb22⟩ := info_parts (P := Tryz.prog) (e := 40) (z := .slice none 0 0) (size := 1) (bytes := 24) (by kernel_rfl)
  go_enter Tryz.func50, Tryz.ntmps50
  go_wp2_with fail
  go_loopw [3, 4] (fun mv v wr => ∃ (k : Nat) (us : List Value), v = .int .i64 k ∧ k ≤ ls.length ∧ Hd (LO wr w.heap.size mv us (ls.take k)) ∧ Hd (Fr (fun _ => False) w wr)) (fun _ v _ => match v with | .int _ q => ls.length - q.toNat | _ => 0)
  case atStart => exact ⟨0, [], rfl, Nat.zero_le _, LO.nil _ _, Fr.refl _ _⟩
  case round =>
    obtain ⟨k, us, rfl, hk, HO, HF⟩ := hrel
    by_cases hlt : k < ls.length
    · obtain ⟨pk, po, rfl, hpk, hcs⟩ := HE.out (by intro e; simp [e] at hlt)
      obtain ⟨u, hu1, hu2⟩ := hcs k hlt
      have p0 := (HF.out.cell (o := po + k) hpk (fun h => h)).trans hu1
      have HI : Hd (IA wr u ls[k]) := hu2.stay HF.out
      have hzk : ls[k].length ≤ 17592186043904 := HLL.out _ (List.getElem_mem hlt)
      have HT : Hd (ls.take (k + 1) = ls.take k ++ [ls[k]]) := by unfold Hd; rw [List.take_add_one, List.getElem?_eq_getElem hlt]; rfl
      have HUL : Hd (us.length = k) := by have h9 := HO.out.ul; unfold Hd; rw [h9, List.length_take]; omega
      obtain ⟨va, vc, eu, -⟩ := hu2
      generalize ls[k] = z at *
      subst eu
      have hk0 : (0 : Int) ≤ k := by omega
      have hk1 : (k : Int) < ls.length := by omega
      clear hcs hu1
      go_wp2_with fail
      refine (show Calls Tryz.prog 49 #[.slice va z.length vc] wr _ from copyInts_any _ z wr HI.out hzk).mono ?_
      rintro e w2 ⟨x, rfl, hx, hF2⟩
      have HX : Hd (IOwn w2 w.heap.size x z) := hx.mono HF.out.size
      have HXA : Hd (∀ i (hi : i < us.length), ∀ k, us[i].ownBlock = some k → x.ownBlock ≠ some k) := fun i hi j e e2 => by
        have h1 := (hx.ge j e2).1
        have h2 := ((HO.out.each i hi (by have := HO.out.ul; omega)).ge j e).2
        omega
      obtain ⟨xa, xc, ex⟩ := own_slice hx
      have HO2 : Hd (LO w2 w.heap.size u3 us (ls.take k)) := HO.out.keep hF2
      have HF2 : Hd (Fr (fun _ => False) w w2) := HF.out.trans hF2
      have hsz := HF2.out.size
      have HO1 : Hd (LO (w2.alloc (.cells #[x] 40)) w.heap.size u3 us (ls.take k)) := HO2.out.keep (Fr.alloc (Fr.refl _ _) _)
      have HX1 : Hd (IOwn (w2.alloc (.cells #[x] 40)) w.heap.size x z) := HX.out.fr (Fr.alloc (Fr.refl (fun _ => False) _) _) (fun _ _ e => e)
      have hnews : ∀ j u, [x][j]? = some u → (w2.alloc (.cells #[x] 40)).cell? ((⟨w2.heap.size, 0, none⟩ : Addr).add j) = some u :=
        World.news_of_block (cs := #[x]) (heap_new w2 (.cells #[x] 40))
      have hbase : w.heap.size ≤ (w2.alloc (.cells #[x] 40)).heap.size := by simp; omega
      have hUl : us.length + 1 ≤ 5864062014634 := by have := HUL.out; omega
      subst ex
      clear hx hF2 HF HO HI p0
      go_wp2_with ((at_builtin; refine Hd.out ?_))
      unfold Hd
      refine wpList_append_lies _ rfl (.tmp 17) (.tmp 19) 41 rfl w.heap.size 40 i22 (.slice none 0 0) 1 24 underL32 hi22 hz22 hs22 hb22 rfl (by omega) u3 us.length _ rfl HO1.out.row ⟨w2.heap.size, 0, none⟩ 1 1 [.slice xa z.length xc] rfl rfl hnews (by intro u hu; simp at hu; subst hu; rfl) (by omega) (by unfold maxLen; omega) (by omega) hbase (w2.heap.size + 1) (by simp) ?_
      intro g6 cap6 w6 hown6 hgrow6 hat6 hlt6
      have HO6 : Hd (LO w6 w.heap.size (.slice (some ⟨g6, 0, none⟩) (us.length + 1) cap6) (us ++ [.slice xa z.length xc]) (ls.take (k + 1))) := by unfold Hd; rw [HT.out]; exact HO1.out.grow HX1.out HXA.out hgrow6 hown6
      have HF6 : Hd (Fr (fun _ => False) w w6) := grow_fr0 (HF2.out.alloc _) hgrow6 (fun k hk => (World.ownsRow.lt HO1.out.row k hk).1)
      clear hown6 hgrow6 hat6 hlt6 HO1 hnews hbase HO2 HF2 HX HX1 HXA
      go_wp2_with fail
      exact ⟨⟨k + 1, _, by simp, by omega, HO6.out, HF6.out⟩, by simp; omega⟩
    · have hdk : decide ((k : Int) < ls.length) = false := by simp; omega
      have HO2 : Hd (LO wr w.heap.size u3 us ls) := by have := HO.out; rw [List.take_of_length_le (by omega)] at this; exact this
      clear HO
      go_wp2_with fail
      go_ret
      exact ⟨u3, us, rfl, HO2.out, HF.out⟩
structure SO (w : World) (B : Nat) (hv rv : Value) (us : List Value) (s : PS) : Prop where
  oh : IOwn w B hv s.H
  lo : LO w B rv us s.R
  ap : ∀ i (h : i < us.length), ∀ k, us[i].ownBlock = some k → hv.ownBlock ≠ some k
theorem SO.keep {w w' : World} {B : Nat} {hv rv : Value} {us : List Value} {s : PS} (h : SO w B hv rv us s) (f : Fr (fun _ => False) w w') : SO w' B hv rv us s := ⟨h.oh.fr f (fun _ _ e => e), h.lo.keep f, h.ap⟩
theorem SO.sa {w : World} {B : Nat} {hv rv : Value} {us : List Value} {s : PS} (h : SO w B hv rv us s) : (IA w hv s.H ∧ LA w rv s.R) := ⟨h.oh.ia, h.lo.la⟩
theorem LO.fr {S : Nat → Prop} {w w' : World} {B : Nat} {rv : Value} {us : List Value} {ls : List (List Int)} (h : LO w B rv us ls) (f : Fr S w w') (hS : ∀ k, B ≤ k → ¬ S k) : LO w' B rv us ls :=
  ⟨ownsRow_frL h.row f (fun k e => hS k (World.ownsRow.lt h.row k e).1), h.ul, fun i hi hk => (h.each i hi hk).fr f (fun k e => hS k ((h.each i hi hk).ge k e).1), h.apart⟩
theorem LO.mono {w : World} {B B' : Nat} {rv : Value} {us : List Value} {ls : List (List Int)} (h : LO w B rv us ls) (hB : B' ≤ B) : LO w B' rv us ls := ⟨World.ownsRow.mono h.row hB, h.ul, fun i hi hk => (h.each i hi hk).mono hB, h.apart⟩
theorem copySummary_any (x1 y1 : Value) (s : PS) (w : World) (h1 : IA w x1 s.H) (h2 : LA w y1 s.R) (fh : s.H.length ≤ 17592186043904) (hr : s.R.length ≤ 5864062014634) (fl : ∀ l ∈ s.R, l.length ≤ 17592186043904) : Calls Tryz.prog 31 #[.agg #[x1, y1]] w fun e w' => ∃ hv rv us, e = .returned (.agg #[hv, rv]) ∧ SO w' (w.heap.size + 2) hv rv us s ∧ Fr (fun _ => False) w w' := by
  obtain ⟨a1, b1, e1, -⟩ := id h1
  obtain ⟨a2, b2, e2, -⟩ := id h2
  obtain ⟨wa, hwa⟩ : ∃ wa, wa = (w.alloc (.cells #[x1, y1] 43)).alloc nil2 := ⟨_, rfl⟩
  have hF : Fr (fun _ => False) w wa := by rw [hwa]; exact Fr.alloc (Fr.alloc (Fr.refl _ w) _) _
  obtain ⟨H, hH⟩ : ∃ H, H = w.heap.size := ⟨_, rfl⟩
  have b1' : wa.heap[H]? = some (.cells #[x1, y1] 43) := by rw [hwa, hH]; exact keepA (heap_new w _) _
  have b2' : wa.heap[H + 1]? = some nil2 := by
    have := heap_new (w.alloc (.cells #[x1, y1] 43)) nil2
    rw [World.size_alloc] at this
    rw [hwa, hH]; exact this
  have hsz : wa.heap.size = H + 2 := by rw [hwa, hH]; simp
  have HWA : Hd (wa = (w.alloc (.cells #[x1, y1] 43)).alloc nil2) := hwa
  have HSZ : Hd (wa.heap.size = H + 2) := hsz
  have HF : Hd (Fr (fun _ => False) w wa) := hF
  have HH : Hd (H = w.heap.size) := hH
  have B2 : Hd (wa.heap[H + 1]? = some nil2) := b2'
  have HI1 : Hd (∀ W, Fr (fun _ => False) wa W → IA W x1 s.H) := fun W f => h1.stay (hF.trans f)
  have HI2 : Hd (∀ W, Fr (fun _ => False) wa W → LA W y1 s.R) := fun W f => h2.stay (hF.trans f)
  have FL : Hd (∀ l ∈ s.R, l.length ≤ 17592186043904) := fl
  have c0 : wa.cell? ⟨H, 0, none⟩ = some x1 := by rw [cell_of b1']; rfl
  have c1 : wa.cell? ⟨H, 1, none⟩ = some y1 := by rw [cell_of b1']; rfl
  have d0 : wa.cell? ⟨H + 1, 0, none⟩ = some (.slice none 0 0) := by rw [cell_of b2']; rfl
  have d1 : wa.cell? ⟨H + 1, 1, none⟩ = some (.slice none 0 0) := by rw [cell_of b2']; rfl
  have z0 := frozen_of b2' 0
  have z1 := frozen_of b2' 1
  have hHl : H < wa.heap.size := heap_lt b1'
  have hHl1 : H + 1 < wa.heap.size := heap_lt b2'
  subst e1; subst e2
  clear h1 h2 hF hwa hH b1' b2' fl hsz
  go_enter Tryz.func31, Tryz.ntmps31
  go_upto_region 1 with fail
  rw [← HWA.out, ← HH.out]
  clear HWA
  go_region_held3 (fun w' => w'.cell? ⟨H, 0, none⟩ = some (.slice a1 s.H.length b1) ∧ w'.cell? ⟨H, 1, none⟩ = some (.slice a2 s.R.length b2)) (go_keep) ((
    first
      | (go_at_call 49
         refine (show Calls Tryz.prog 49 #[.slice a1 s.H.length b1] _ _ from copyInts_any _ s.H _ (by first | exact HI1.out _ (Fr.drew (Fr.refl _ _)) | exact HI1.out _ HGb.out) fh).mono ?_
         rintro e wx ⟨hv, rfl, hxo, hfx⟩
         obtain ⟨xa, xc, ehv⟩ := own_slice hxo
         subst ehv
         have HGa : Hd (Fr (fun _ => False) wa wx) := by first | exact (Fr.drew (Fr.refl _ _)).trans hfx | exact HGb.out.trans hfx
         have HOa : Hd _ := hxo
         have s0 := (HGa.out.cell hHl (fun h => h)).trans c0
         have s1 := (HGa.out.cell hHl (fun h => h)).trans c1
         have s2 := (HGa.out.cell hHl1 (fun h => h)).trans d0
         have s3 := (HGa.out.cell hHl1 (fun h => h)).trans d1
         have s4 := frozen_of (keepF B2.out HGa.out) 0
         have s5 := frozen_of (keepF B2.out HGa.out) 1
         have HFXa : Hd _ := hfx
         clear hxo hfx)
      | (go_at_call 50
         refine (show Calls Tryz.prog 50 #[.slice a2 s.R.length b2] _ _ from copyLists_any _ s.R _ (by first | exact HI2.out _ (Fr.drew (Fr.refl _ _)) | exact HI2.out _ HGa.out) hr FL.out).mono ?_
         rintro e wy ⟨rv, us, rfl, hyo, hfy⟩
         obtain ⟨ya, yc, erv⟩ := own_slice hyo.row
         subst erv
         have HGb : Hd (Fr (fun _ => False) wa wy) := by first | exact (Fr.drew (Fr.refl _ _)).trans hfy | exact HGa.out.trans hfy
         have HOb : Hd _ := hyo
         have t0 := (HGb.out.cell hHl (fun h => h)).trans c0
         have t1 := (HGb.out.cell hHl (fun h => h)).trans c1
         have t2 := (HGb.out.cell hHl1 (fun h => h)).trans d0
         have t3 := (HGb.out.cell hHl1 (fun h => h)).trans d1
         have t4 := frozen_of (keepF B2.out HGb.out) 0
         have t5 := frozen_of (keepF B2.out HGb.out) 1
         have HFXb : Hd _ := hfy
         clear hyo hfy)))
  have f : Fr (fun j => j = H + 1) wy ((wy.setCell ⟨H + 1, 0, none⟩ (.slice xa s.H.length xc)).setCell ⟨H + 1, 1, none⟩ (.slice ya us.length yc)) := (setCell_fr wy (H + 1) 0 _).trans (setCell_fr _ (H + 1) 1 _)
  have HZ : Hd (((wy.setCell ⟨H + 1, 0, none⟩ (.slice xa s.H.length xc)).setCell ⟨H + 1, 1, none⟩ (.slice ya us.length yc)).heap[H + 1]? = some (.cells #[.slice xa s.H.length xc, .slice ya us.length yc] 43)) := set_of (set_of (keepF B2.out HGb.out) 0 _) 1 _
  have hO1 : IOwn wx wa.heap.size (.slice xa s.H.length xc) s.H := HOa.out
  have hL1 : LO wy wx.heap.size (.slice ya us.length yc) us s.R := HOb.out
  have hFxy : Fr (fun _ => False) wx wy := HFXb.out
  have hsx : wa.heap.size ≤ wx.heap.size := HGa.out.size
  have hsz := HSZ.out
  have HSO : Hd (SO ((wy.setCell ⟨H + 1, 0, none⟩ (.slice xa s.H.length xc)).setCell ⟨H + 1, 1, none⟩ (.slice ya us.length yc)) (w.heap.size + 2) (.slice xa s.H.length xc) (.slice ya us.length yc) us s) := by
    have hw := HH.out
    have h1 : IOwn wy (w.heap.size + 2) (.slice xa s.H.length xc) s.H := (hO1.fr hFxy (fun _ _ e => e)).mono (by omega)
    refine ⟨h1.fr f (fun j e e2 => by have := (h1.ge j e).1; omega), (hL1.mono (by omega)).fr f (fun j hj e => by omega), fun i hi j e e2 => ?_⟩
    have h2 := ((hL1.each i hi (by have := hL1.ul; omega)).ge j e).1
    have h3 := (hO1.ge j e2).2
    omega
  have HFz : Hd (Fr (fun _ => False) w ((wy.setCell ⟨H + 1, 0, none⟩ (.slice xa s.H.length xc)).setCell ⟨H + 1, 1, none⟩ (.slice ya us.length yc))) := (HF.out.trans HGb.out).then f (fun j hj e => by have := HH.out; omega)
  clear f hO1 hL1 hFxy hsx hsz s0 s1 s2 s3 s4 s5 t0 t1 t2 t3 t4 t5 c0 c1 d0 d1 z0 z1
  go_wp2_with fail
  generalize (wy.setCell ⟨H + 1, 0, none⟩ (.slice xa s.H.length xc)).setCell ⟨H + 1, 1, none⟩ (.slice ya us.length yc) = wz at *
  have e0 : wz.cell? ⟨H + 1, 0, none⟩ = some (.slice xa s.H.length xc) := by rw [cell_of HZ.out]; rfl
  have e1 : wz.cell? ⟨H + 1, 1, none⟩ = some (.slice ya us.length yc) := by rw [cell_of HZ.out]; rfl
  refine bodyPost_ret (v := .agg #[.slice xa s.H.length xc, .slice ya us.length yc]) ?_ rfl ⟨_, _, us, rfl, HSO.out, HFz.out⟩
  rw [results_cell (p := 2) (ty := 43) Tryz.results31]
  simp [go_sem, e0, e1]
abbrev SI := PS × Value × Value × List Value
abbrev rowS (x : SI) : List Value := [x.2.1, x.2.2.1]
structure SsO (w : World) (B : Nat) (v : Value) (L : List SI) : Prop where
  row : w.ownsRow B 43 2 v L.length (L.flatMap rowS)
  each : ∀ x ∈ L, SO w B x.2.1 x.2.2.1 x.2.2.2 x.1
theorem SsO.sa {w : World} {B : Nat} {v : Value} {L : List SI} (h : SsO w B v L) : SsA w v (L.map (·.1)) := by
  rcases h.row.2 with ⟨h2, h3⟩ | ⟨g, cap, cur, e, -⟩
  · refine ⟨none, 0, by rw [h2, List.length_map, h3], fun hne => ?_⟩
    exact absurd (by rw [List.eq_nil_of_length_eq_zero h3]; rfl) hne
  · refine ⟨some ⟨g, 0, none⟩, cap, by rw [e, List.length_map], fun _ => ⟨g, 0, rfl, (World.ownsRow.lt h.row g (by rw [e]; rfl)).2, fun j hj => ?_⟩⟩
    have hj' : j < L.length := by simpa using hj
    have pc : ∀ o u, o < 2 → (rowS L[j])[o]? = some u → w.cell? ⟨g, j * 2 + o, none⟩ = some u := fun o u ho hu => by
      obtain ⟨g', cap', e', -, hc⟩ := own_cell h.row (j := j * 2 + o) (u := u) (by rw [flat_get rowS 2 (fun _ => rfl) L j o hj' ho]; exact hu)
      rw [e] at e'
      cases e'
      exact hc
    have hi := (h.each L[j] (List.getElem_mem hj')).sa
    rw [Nat.zero_add]
    simp only [List.getElem_map]
    exact ⟨L[j].2.1, L[j].2.2.1, pc 0 _ (by omega) rfl, pc 1 _ (by omega) rfl, hi.1, hi.2⟩
theorem SsO.stay {w w' : World} {B : Nat} {v : Value} {L : List SI} (h : SsO w B v L) (f : Fr (fun _ => False) w w') : SsO w' B v L := ⟨ownsRow_frL h.row f (fun _ _ e => e), fun x hx => (h.each x hx).keep f⟩
theorem SO.mono {w : World} {B B' : Nat} {hv rv : Value} {us : List Value} {s : PS} (h : SO w B hv rv us s) (hB : B' ≤ B) : SO w B' hv rv us s := ⟨h.oh.mono hB, h.lo.mono hB, h.ap⟩
theorem SO.other {S : Nat → Prop} {w w' : World} {B : Nat} {hv rv : Value} {us : List Value} {s : PS} (h : SO w B hv rv us s) (f : Fr S w w') (h1 : ∀ k, hv.ownBlock = some k → ¬ S k) (h2 : ∀ k, rv.ownBlock = some k → ¬ S k) (h3 : ∀ i (h : i < us.length), ∀ k, us[i].ownBlock = some k → ¬ S k) : SO w' B hv rv us s :=
  ⟨h.oh.fr f h1, ⟨ownsRow_frL h.lo.row f h2, h.lo.ul, fun i hi hk => (h.lo.each i hi hk).fr f (h3 i hi), h.lo.apart⟩, h.ap⟩
theorem under25 : Tryz.prog.underlying 25 = some (.slice 43) := by kernel_rfl
theorem copySums_any (v : Value) (ss : List PS) (w : World) (hl : SsA w v ss) (hn : FineS ss) :
    Calls Tryz.prog 15 #[v] w fun e w' => ∃ v' L, e = .returned v' ∧ SsO w' w.heap.size v' L ∧ L.map (·.1) = ss ∧ Fr (fun _ => False) w w' := by
  obtain ⟨ea, ec, rfl, hein⟩ := hl
  have HE : Hd _ := hein
  have HFI : Hd (FineS ss) := hn
  have hz := hn.1
  clear hein hn
  obtain ⟨i7, hi7, hz7, hs7, hb7⟩ := info_parts (P := Tryz.prog) (e := 43) (z := .agg #[.slice none 0 0, .slice none 0 0]) (size := 2) (bytes := 48) (by kernel_rfl)
  go_enter Tryz.func15, Tryz.ntmps15
  go_wp2_with fail
  go_loopw [3, 4] (fun mv v wr => ∃ (k : Nat) (L : List SI), v = .int .i64 k ∧ k ≤ ss.length ∧ Hd (SsO wr w.heap.size mv L) ∧ Hd (L.map (·.1) = ss.take k) ∧ Hd (Fr (fun _ => False) w wr)) (fun _ v _ => match v with | .int _ q => ss.length - q.toNat | _ => 0)
  case atStart => exact ⟨0, [], rfl, Nat.zero_le _, ⟨World.ownsRow_nil _ _ _ _, fun x hx => by simp at hx⟩, rfl, Fr.refl _ _⟩
  case round =>
    obtain ⟨k, L, rfl, hk, HO, HM, HF⟩ := hrel
    by_cases hlt : k < ss.length
    · have hne : ss ≠ [] := by intro e; simp [e] at hlt
      obtain ⟨k1, o1, rfl, hk1, g1⟩ := HE.out hne
      obtain ⟨x1, y1, p0, p1, ix1, iy1⟩ := g1 k hlt
      have m1 := fun o => HF.out.cell (o := o) hk1 (fun h => h)
      have p0 := (m1 _).trans p0
      have p1 := (m1 _).trans p1
      have X1 : Hd (IA wr x1 ss[k].H) := ix1.stay HF.out
      have Y1 : Hd (LA wr y1 ss[k].R) := iy1.stay HF.out
      have HC := HFI.out.2 _ (List.getElem_mem hlt)
      have HT : Hd (ss.take (k + 1) = ss.take k ++ [ss[k]]) := by unfold Hd; rw [List.take_add_one, List.getElem?_eq_getElem hlt]; rfl
      have HLL : Hd (L.length = k) := by have := congrArg List.length HM.out; simp at this; unfold Hd; omega
      generalize ss[k] = f at *
      obtain ⟨a, b, e1, -⟩ := ix1
      obtain ⟨a', b', e2, -⟩ := iy1
      subst e1 e2
      obtain ⟨q1, q2, q3⟩ := HC
      have hct := copySummary_any _ _ f wr X1.out Y1.out q1 q2 q3
      have hk0 : (0 : Int) ≤ k := by omega
      have hk3 : (k : Int) < ss.length := by omega
      clear g1 m1 q3
      go_wp2_with fail
      refine hct.mono ?_
      rintro e w1 ⟨hv, rv, us, rfl, hx, hF1⟩
      obtain ⟨xa, xc, eh⟩ := own_slice hx.oh
      obtain ⟨ya, yc, er⟩ := own_slice hx.lo.row
      subst eh er
      obtain ⟨wb, hwb⟩ : ∃ wb, wb = w1.alloc (.cells #[.slice xa f.H.length xc, .slice ya us.length yc] 43) := ⟨_, rfl⟩
      have hFb : Fr (fun _ => False) w1 wb := by rw [hwb]; exact Fr.alloc (Fr.refl _ w1) _
      have hFc : Fr (fun _ => False) w1 (wb.alloc (.cells #[.slice xa f.H.length xc, .slice ya us.length yc] 43)) := Fr.alloc hFb _
      have b1 : wb.heap[w1.heap.size]? = some (.cells #[.slice xa f.H.length xc, .slice ya us.length yc] 43) := by rw [hwb]; exact heap_new w1 _
      have HO1 : Hd (SsO (wb.alloc (.cells #[.slice xa f.H.length xc, .slice ya us.length yc] 43)) w.heap.size u3 L) := HO.out.stay (hF1.trans hFc)
      have HX1 : Hd (SO (wb.alloc (.cells #[.slice xa f.H.length xc, .slice ya us.length yc] 43)) w.heap.size (.slice xa f.H.length xc) (.slice ya us.length yc) us f) := (hx.keep hFc).mono (by have := HF.out.size; omega)
      have HF1 : Hd (Fr (fun _ => False) w (wb.alloc (.cells #[.slice xa f.H.length xc, .slice ya us.length yc] 43))) := HF.out.trans (hF1.trans hFc)
      have HWB : Hd (wb = w1.alloc (.cells #[.slice xa f.H.length xc, .slice ya us.length yc] 43)) := hwb
      have HRW : Hd ((wb.alloc (.cells #[.slice xa f.H.length xc, .slice ya us.length yc] 43)).ownsRow w.heap.size 43 2 u3 L.length (L.flatMap rowS)) := HO1.out.row
      have hnews : ∀ j u, [Value.slice xa f.H.length xc, .slice ya us.length yc][j]? = some u → (wb.alloc (.cells #[.slice xa f.H.length xc, .slice ya us.length yc] 43)).cell? ((⟨wb.heap.size, 0, none⟩ : Addr).add j) = some u :=
        World.news_of_block (cs := #[.slice xa f.H.length xc, .slice ya us.length yc]) (heap_new wb _)
      have hbase : w.heap.size ≤ (wb.alloc (.cells #[.slice xa f.H.length xc, .slice ya us.length yc] 43)).heap.size := HF1.out.size
      have hEl : L.length + 1 ≤ 2932031007318 := by have := HLL.out; omega
      have u0 : wb.cell? ⟨w1.heap.size, 0, none⟩ = some (.slice xa f.H.length xc) := by rw [cell_of b1]; rfl
      have u1 : wb.cell? ⟨w1.heap.size, 1, none⟩ = some (.slice ya us.length yc) := by rw [cell_of b1]; rfl
      clear hx hF1 hFb hFc b1 HO HF hwb p0 p1 hct
      go_upto_region 6 with fail
      rw [← HWB.out]
      clear HWB
      go_wp2_with ((at_builtin; refine Hd.out ?_))
      unfold Hd
      refine wpList_append_lies _ rfl (.tmp 17) (.tmp 19) 25 rfl w.heap.size 43 i7 (.agg #[.slice none 0 0, .slice none 0 0]) 2 48 under25 hi7 hz7 hs7 hb7 rfl (by omega) u3 L.length _ rfl HRW.out ⟨wb.heap.size, 0, none⟩ 1 1 [.slice xa f.H.length xc, .slice ya us.length yc] rfl rfl hnews (by intro u hu; simp at hu; rcases hu with rfl | rfl <;> rfl) (by omega) (by unfold maxLen; omega) (by omega) hbase (wb.heap.size + 1) (by simp) ?_
      intro g6 cap6 w6 hown6 hgrow6 hat6 hlt6
      have hF6 := grown_frL hgrow6
      have HO6 : Hd (SsO w6 w.heap.size (.slice (some ⟨g6, 0, none⟩) (L.length + 1) cap6) (L ++ [(f, .slice xa f.H.length xc, .slice ya us.length yc, us)])) := by
        have keep : ∀ (hv rv : Value) (us : List Value) (s : PS), SO (wb.alloc (.cells #[.slice xa f.H.length xc, .slice ya us.length yc] 43)) w.heap.size hv rv us s → True := fun _ _ _ _ _ => trivial
        have keep : ∀ (hv rv : Value) (us' : List Value) (s : PS), SO (wb.alloc (.cells #[.slice xa f.H.length xc, .slice ya us.length yc] 43)) w.heap.size hv rv us' s → SO w6 w.heap.size hv rv us' s := fun hv rv us' s hM =>
          hM.other hF6 (fun j e e2 => own_apart HRW.out hM.oh (by decide) j e e2) (fun j e e2 => own_apart HRW.out hM.lo.row (by decide) j e e2) (fun i hi j e e2 => own_apart HRW.out (hM.lo.each i hi (by have := hM.lo.ul; omega)) (by decide) j e e2)
        refine ⟨?_, fun x hx => ?_⟩
        · rw [List.length_append, List.flatMap_append]
          simpa using hown6
        · rcases List.mem_append.1 hx with hx | hx
          · exact keep _ _ _ _ (HO1.out.each x hx)
          · simp at hx
            subst hx
            exact keep _ _ _ _ HX1.out
      have HF6 : Hd (Fr (fun _ => False) w w6) := grow_fr0 HF1.out hgrow6 (fun k hk => (World.ownsRow.lt HRW.out k hk).1)
      have HM6 : Hd ((L ++ [((f, .slice xa f.H.length xc, .slice ya us.length yc, us) : SI)]).map (·.1) = ss.take (k + 1)) := by unfold Hd; rw [HT.out, List.map_append, HM.out]; rfl
      clear hown6 hgrow6 hat6 hlt6 hnews hbase u0 u1 HRW HO1 HX1 HF1 HM hF6
      go_wp2_with fail
      exact ⟨⟨k + 1, _, by simp, by omega, HO6, HM6, HF6⟩, by simp; omega⟩
    · have hdk : decide ((k : Int) < ss.length) = false := by simp; omega
      have HM2 : Hd (L.map (·.1) = ss) := by have := HM.out; rw [List.take_of_length_le (by omega)] at this; exact this
      clear HM
      go_wp2_with fail
      go_ret
      exact ⟨u3, L, rfl, HO.out, HM2.out, HF.out⟩
end Go.Proofs.YtlmlmhinbkcpoaaGreatDoor
