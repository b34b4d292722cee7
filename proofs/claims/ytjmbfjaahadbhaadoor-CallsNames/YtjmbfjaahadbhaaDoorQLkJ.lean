import Derived.Test.YtjmbfjaahadbhaaDoorQIbJ
set_option linter.unusedVariables false
set_option linter.unusedSimpArgs false
namespace Go.Proofs.YtjmbfjaahadbhaaDoor
open Go.RowKit (wrap32 wrap64)

abbrev FI := PF × Value × List CI
abbrev rowF (x : FI) : List Value := fR x.1 x.2.1
/-- Functions of one's own. -/
structure FO (w : World) (B : Nat) (v : Value) (L : List FI) : Prop where
  row : w.ownsRow B 32 4 v L.length (L.flatMap rowF)
  code : ∀ x ∈ L, CO w B x.2.1 x.2.2 ∧ x.2.2.map (·.1) = x.1.code
theorem FO.fa {w : World} {B : Nat} {v : Value} {L : List FI} (h : FO w B v L) : FA w v (L.map (·.1)) := by
  rcases h.row.2 with ⟨h2, h3⟩ | ⟨g, cap, cur, e, -⟩
  · refine ⟨none, 0, by rw [h2, List.length_map, h3], fun hne => ?_⟩
    exact absurd (by rw [List.eq_nil_of_length_eq_zero h3]; rfl) hne
  · refine ⟨some ⟨g, 0, none⟩, cap, by rw [e, List.length_map], fun _ => ⟨g, 0, rfl, (World.ownsRow.lt h.row g (by rw [e]; rfl)).2, fun j hj => ?_⟩⟩
    have hj' : j < L.length := by simpa using hj
    have pc : ∀ o u, o < 4 → (rowF L[j])[o]? = some u → w.cell? ⟨g, j * 4 + o, none⟩ = some u := fun o u ho hu => by
      obtain ⟨g', cap', e', -, hc⟩ := own_cell h.row (j := j * 4 + o) (u := u) (by rw [flat_get rowF 4 (fun _ => rfl) L j o hj' ho]; exact hu)
      rw [e] at e'
      cases e'
      exact hc
    have hi := h.code L[j] (List.getElem_mem hj')
    rw [Nat.zero_add]
    simp only [List.getElem_map]
    refine ⟨L[j].2.1, pc 0 _ (by omega) rfl, pc 1 _ (by omega) rfl, pc 2 _ (by omega) rfl, pc 3 _ (by omega) rfl, ?_⟩
    rw [← hi.2]
    exact hi.1.ca
theorem FO.stay {w w' : World} {B : Nat} {v : Value} {L : List FI} (h : FO w B v L) (f : Fr (fun _ => False) w w') : FO w' B v L := ⟨ownsRow_frL h.row f (fun _ _ e => e), fun x hx => ⟨(h.code x hx).1.stay f, (h.code x hx).2⟩⟩
theorem CO.shape {w : World} {B : Nat} {v : Value} {L : List CI} (h : CO w B v L) : ∃ a c, v = .slice a L.length c := by
  rcases h.row.2 with ⟨h2, h3⟩ | ⟨g, cap, cur, e, -⟩
  · exact ⟨none, 0, by rw [h2, h3]⟩
  · exact ⟨_, _, e⟩

set_option maxRecDepth 100000 in
set_option maxHeartbeats 1000000 in
theorem copyFunc_any (f : PF) (x : Value) (w : World) (h1 : CA w x f.code) (hn : FineC f.code) :
    Calls Tryd.prog 22 #[.agg #[vI f.P, vI f.R, vI f.V, x]] w fun e w' => ∃ x' L, e = .returned (.agg #[vI f.P, vI f.R, vI f.V, x']) ∧ CO w' w.heap.size x' L ∧ L.map (·.1) = f.code ∧ Fr (fun _ => False) w w' := by
  obtain ⟨a1, b1, e1, -⟩ := id h1
  obtain ⟨wa, hwa⟩ : ∃ wa, wa = (w.alloc (.cells #[vI f.P, vI f.R, vI f.V, x] 32)).alloc (.cells #[vI 0, vI 0, vI 0, .slice none 0 0] 32) := ⟨_, rfl⟩
  have hF : Fr (fun _ => False) w wa := by rw [hwa]; exact Fr.alloc (Fr.alloc (Fr.refl _ w) _) _
  have hsz : wa.heap.size = w.heap.size + 2 := by rw [hwa]; simp
  have b1' : wa.heap[w.heap.size]? = some (.cells #[vI f.P, vI f.R, vI f.V, x] 32) := by
    rw [hwa, Go.RowKit.Below.heap_alloc _ _ _ (by simp)]; exact heap_new w _
  have b2' : wa.heap[w.heap.size + 1]? = some (.cells #[vI 0, vI 0, vI 0, .slice none 0 0] 32) := by
    rw [hwa, show w.heap.size + 1 = (w.alloc (.cells #[vI f.P, vI f.R, vI f.V, x] 32)).heap.size by simp]; exact heap_new _ _
  have HWA : Hd (wa = (w.alloc (.cells #[vI f.P, vI f.R, vI f.V, x] 32)).alloc (.cells #[vI 0, vI 0, vI 0, .slice none 0 0] 32)) := hwa
  have G1 : Hd (CA wa x f.code) := h1.stay hF
  have HF : Hd (Fr (fun _ => False) w wa) := hF
  obtain ⟨H, hH⟩ : ∃ H, H = w.heap.size := ⟨_, rfl⟩
  have HH : Hd (H = w.heap.size) := hH
  have HSZ : Hd (wa.heap.size = H + 2) := by rw [hH]; exact hsz
  rw [← hH] at b1' b2'
  have B1 : Hd _ := b1'
  have B2 : Hd _ := b2'
  have p3 : wa.cell? ⟨H, 3, none⟩ = some x := by rw [cell_of b1']; rfl
  subst e1
  clear h1 hF hsz hwa hH b1' b2'
  go_enter Tryd.func22, Tryd.ntmps22
  go_upto_region 1 with fail
  rw [← HWA.out, ← HH.out]
  clear HWA
  go_wp2_with fail
  refine (show Calls Tryd.prog 40 #[.slice a1 f.code.length b1] wa _ from copyCode_any _ f.code wa G1.out hn).mono ?_
  rintro e w2 ⟨x', L, rfl, hx', hL, hF2⟩
  have B1' : w2.heap[H]? = some (.cells #[vI f.P, vI f.R, vI f.V, .slice a1 f.code.length b1] 32) := (hF2.block H (heap_lt B1.out) (fun e => e)).trans B1.out
  have B2' : w2.heap[H + 1]? = some (.cells #[vI 0, vI 0, vI 0, .slice none 0 0] 32) := (hF2.block (H + 1) (heap_lt B2.out) (fun e => e)).trans B2.out
  obtain ⟨xa, xc, exa⟩ := hx'.shape
  have q3 : w2.cell? ⟨H, 3, none⟩ = some (.slice a1 f.code.length b1) := by rw [cell_of B1']; rfl
  have z3 := frozen_of B1' 3
  have fs2 := setCell_fr w2 H 3 x'
  have C1 : Hd ((w2.setCell ⟨H, 3, none⟩ x').heap[H]? = some (.cells #[vI f.P, vI f.R, vI f.V, x'] 32)) := set_of B1' 3 x'
  have C2 : Hd ((w2.setCell ⟨H, 3, none⟩ x').heap[H + 1]? = some (.cells #[vI 0, vI 0, vI 0, .slice none 0 0] 32)) := (fs2.block (H + 1) (heap_lt B2') (by omega)).trans B2'
  have hx2 := hx'.mono (B' := H + 2) (by rw [HSZ.out]; exact Nat.le_refl _)
  have HX : Hd (CO (w2.setCell ⟨H, 3, none⟩ x') (H + 2) x' L) := hx2.fr fs2 (fun k e e2 => by have := (World.ownsRow.lt hx2.row k e).1; omega) (fun y hy k e e2 => by
    rcases e with e | e
    · have := ((hx2.ints y hy).1.ge k e).1; omega
    · have := ((hx2.ints y hy).2.ge k e).1; omega)
  have HF2 : Hd (Fr (fun _ => False) w (w2.setCell ⟨H, 3, none⟩ x')) := (HF.out.trans hF2).then fs2 (fun j hj e => by have := HH.out; omega)
  have HLL : Hd (L.map (·.1) = f.code) := hL
  subst exa
  clear hx' hx2 hL hF2 fs2 B1' B2' p3 B1 B2 G1 HF HSZ
  go_upto_region 2 with fail
  clear q3 z3
  generalize w2.setCell ⟨H, 3, none⟩ (.slice xa L.length xc) = w5 at *
  have c0 : w5.cell? ⟨H, 0, none⟩ = some (vI f.P) := by rw [cell_of C1.out]; rfl
  have c1 : w5.cell? ⟨H, 1, none⟩ = some (vI f.R) := by rw [cell_of C1.out]; rfl
  have c2 : w5.cell? ⟨H, 2, none⟩ = some (vI f.V) := by rw [cell_of C1.out]; rfl
  have c3 : w5.cell? ⟨H, 3, none⟩ = some (.slice xa L.length xc) := by rw [cell_of C1.out]; rfl
  have d0 : w5.cell? ⟨H + 1, 0, none⟩ = some (vI 0) := by rw [cell_of C2.out]; rfl
  have d1 : w5.cell? ⟨H + 1, 1, none⟩ = some (vI 0) := by rw [cell_of C2.out]; rfl
  have d2 : w5.cell? ⟨H + 1, 2, none⟩ = some (vI 0) := by rw [cell_of C2.out]; rfl
  have d3 : w5.cell? ⟨H + 1, 3, none⟩ = some (.slice none 0 0) := by rw [cell_of C2.out]; rfl
  have y0 := frozen_of C2.out 0
  have y1 := frozen_of C2.out 1
  have y2 := frozen_of C2.out 2
  have y3 := frozen_of C2.out 3
  have HLz : Hd ((fou4 w5 (H + 1) 0 (fR f (.slice xa L.length xc))).heap[H + 1]? = some (.cells #[vI f.P, vI f.R, vI f.V, .slice xa L.length xc] 32)) := set_of (set_of (set_of (set_of C2.out 0 _) 1 _) 2 _) 3 _
  have fs6 := fou4_fr w5 (H + 1) 0 (fR f (.slice xa L.length xc))
  have KX : Hd (CO (fou4 w5 (H + 1) 0 (fR f (.slice xa L.length xc))) w.heap.size (.slice xa L.length xc) L) := (HX.out.fr fs6 (fun k e e2 => by have := (World.ownsRow.lt HX.out.row k e).1; omega) (fun y hy k e e2 => by
    rcases e with e | e
    · have := ((HX.out.ints y hy).1.ge k e).1; omega
    · have := ((HX.out.ints y hy).2.ge k e).1; omega)).mono (by have := HH.out; omega)
  have KF : Hd (Fr (fun _ => False) w (fou4 w5 (H + 1) 0 (fR f (.slice xa L.length xc)))) := Fr.then HF2.out fs6 (fun j hj e => by have := HH.out; omega)
  clear fs6
  go_wp2_with fail
  change bodyPost _ _ _ _ _ (fou4 w5 (H + 1) 0 (fR f (.slice xa L.length xc)))
  generalize fou4 w5 (H + 1) 0 (fR f (.slice xa L.length xc)) = wz at *
  have e0 : wz.cell? ⟨H + 1, 0, none⟩ = some (vI f.P) := by rw [cell_of HLz.out]; rfl
  have e1 : wz.cell? ⟨H + 1, 1, none⟩ = some (vI f.R) := by rw [cell_of HLz.out]; rfl
  have e2 : wz.cell? ⟨H + 1, 2, none⟩ = some (vI f.V) := by rw [cell_of HLz.out]; rfl
  have e3 : wz.cell? ⟨H + 1, 3, none⟩ = some (.slice xa L.length xc) := by rw [cell_of HLz.out]; rfl
  refine bodyPost_ret (v := .agg #[vI f.P, vI f.R, vI f.V, .slice xa L.length xc]) ?_ rfl ⟨_, L, rfl, KX.out, HLL.out, KF.out⟩
  rw [results_cell (p := 2) (ty := 32) Tryd.results22]
  simp [go_sem, e0, e1, e2, e3]

set_option maxRecDepth 100000 in
set_option maxHeartbeats 2000000 in
theorem copyFuncs_any (v : Value) (fs : List PF) (w : World) (hl : FA w v fs) (hn : FineP fs) :
    Calls Tryd.prog 39 #[v] w fun e w' => ∃ v' L, e = .returned v' ∧ FO w' w.heap.size v' L ∧ L.map (·.1) = fs ∧ Fr (fun _ => False) w w' := by
  obtain ⟨ea, ec, rfl, hein⟩ := hl
  have HE : Hd _ := hein
  have HFI : Hd (FineP fs) := hn
  have hz := hn.1
  clear hein hn
  obtain ⟨i7, hi7, hz7, hs7, hb7⟩ := info_parts (P := Tryd.prog) (e := 32) (z := .agg #[vI 0, vI 0, vI 0, .slice none 0 0]) (size := 4) (bytes := 48) (by kernel_rfl)
  go_enter Tryd.func39, Tryd.ntmps39
  go_wp2_with fail
  go_loopw [3, 4] (fun mv v wr => ∃ (k : Nat) (L : List FI), v = .int .i64 k ∧ k ≤ fs.length ∧ Hd (FO wr w.heap.size mv L) ∧ Hd (L.map (·.1) = fs.take k) ∧ Hd (Fr (fun _ => False) w wr)) (fun _ v _ => match v with | .int _ q => fs.length - q.toNat | _ => 0)
  case atStart => exact ⟨0, [], rfl, Nat.zero_le _, ⟨World.ownsRow_nil _ _ _ _, fun x hx => by simp at hx⟩, rfl, Fr.refl _ _⟩
  case round =>
    obtain ⟨k, L, rfl, hk, HO, HM, HF⟩ := hrel
    by_cases hlt : k < fs.length
    · have hne : fs ≠ [] := by intro e; simp [e] at hlt
      obtain ⟨k1, o1, rfl, hk1, g1⟩ := HE.out hne
      obtain ⟨x1, p0, p1, p2, p3, ix1⟩ := g1 k hlt
      have m1 := fun o => HF.out.cell (o := o) hk1 (fun h => h)
      have p0 := (m1 _).trans p0
      have p1 := (m1 _).trans p1
      have p2 := (m1 _).trans p2
      have p3 := (m1 _).trans p3
      have X1 : Hd (CA wr x1 fs[k].code) := ix1.stay HF.out
      have HC : Hd (FineC fs[k].code) := HFI.out.2 _ (List.getElem_mem hlt)
      have HT : Hd (fs.take (k + 1) = fs.take k ++ [fs[k]]) := by unfold Hd; rw [List.take_add_one, List.getElem?_eq_getElem hlt]; rfl
      have HLL : Hd (L.length = k) := by have := congrArg List.length HM.out; simp at this; unfold Hd; omega
      generalize fs[k] = f at *
      obtain ⟨a, b, e1, -⟩ := ix1
      subst e1
      have hk0 : (0 : Int) ≤ k := by omega
      have hk3 : (k : Int) < fs.length := by omega
      clear g1 m1
      go_wp2_with fail
      refine (show Calls Tryd.prog 22 #[.agg #[vI f.P, vI f.R, vI f.V, .slice a f.code.length b]] wr _ from copyFunc_any f _ wr X1.out HC.out).mono ?_
      rintro e w1 ⟨x', Lx, rfl, hx, hLx, hF1⟩
      obtain ⟨xa, xc, rfl⟩ := hx.shape
      obtain ⟨wb, hwb⟩ : ∃ wb, wb = w1.alloc (.cells #[vI f.P, vI f.R, vI f.V, .slice xa Lx.length xc] 32) := ⟨_, rfl⟩
      have hFb : Fr (fun _ => False) w1 wb := by rw [hwb]; exact Fr.alloc (Fr.refl _ w1) _
      have hFc : Fr (fun _ => False) w1 (wb.alloc (.cells #[vI f.P, vI f.R, vI f.V, .slice xa Lx.length xc] 32)) := Fr.alloc hFb _
      have b1 : wb.heap[w1.heap.size]? = some (.cells #[vI f.P, vI f.R, vI f.V, .slice xa Lx.length xc] 32) := by rw [hwb]; exact heap_new w1 _
      have HO1 : Hd (FO (wb.alloc (.cells #[vI f.P, vI f.R, vI f.V, .slice xa Lx.length xc] 32)) w.heap.size u3 L) := HO.out.stay (hF1.trans hFc)
      have HX1 : Hd (CO (wb.alloc (.cells #[vI f.P, vI f.R, vI f.V, .slice xa Lx.length xc] 32)) w.heap.size (.slice xa Lx.length xc) Lx) := (hx.stay hFc).mono HF.out.size
      have HLX : Hd (Lx.map (·.1) = f.code) := hLx
      have HF1 : Hd (Fr (fun _ => False) w (wb.alloc (.cells #[vI f.P, vI f.R, vI f.V, .slice xa Lx.length xc] 32))) := HF.out.trans (hF1.trans hFc)
      have HWB : Hd (wb = w1.alloc (.cells #[vI f.P, vI f.R, vI f.V, .slice xa Lx.length xc] 32)) := hwb
      have HRW : Hd ((wb.alloc (.cells #[vI f.P, vI f.R, vI f.V, .slice xa Lx.length xc] 32)).ownsRow w.heap.size 32 4 u3 L.length (L.flatMap rowF)) := HO1.out.row
      have hnews : ∀ j u, [vI f.P, vI f.R, vI f.V, .slice xa Lx.length xc][j]? = some u → (wb.alloc (.cells #[vI f.P, vI f.R, vI f.V, .slice xa Lx.length xc] 32)).cell? ((⟨wb.heap.size, 0, none⟩ : Addr).add j) = some u :=
        World.news_of_block (cs := #[vI f.P, vI f.R, vI f.V, .slice xa Lx.length xc]) (heap_new wb _)
      have hbase : w.heap.size ≤ (wb.alloc (.cells #[vI f.P, vI f.R, vI f.V, .slice xa Lx.length xc] 32)).heap.size := HF1.out.size
      have hEl : L.length + 1 ≤ 2932031007318 := by have := HLL.out; omega
      have u0 : wb.cell? ⟨w1.heap.size, 0, none⟩ = some (vI f.P) := by rw [cell_of b1]; rfl
      have u1 : wb.cell? ⟨w1.heap.size, 1, none⟩ = some (vI f.R) := by rw [cell_of b1]; rfl
      have u2 : wb.cell? ⟨w1.heap.size, 2, none⟩ = some (vI f.V) := by rw [cell_of b1]; rfl
      have u3' : wb.cell? ⟨w1.heap.size, 3, none⟩ = some (.slice xa Lx.length xc) := by rw [cell_of b1]; rfl
      clear hx hLx hF1 hFb hFc b1 HO HF hwb p0 p1 p2 p3
      go_upto_region 6 with fail
      rw [← HWB.out]
      clear HWB
      go_wp2_with ((at_builtin; refine Hd.out ?_))
      unfold Hd
      refine wpList_append_lies _ rfl (.tmp 17) (.tmp 19) 22 rfl w.heap.size 32 i7 (.agg #[vI 0, vI 0, vI 0, .slice none 0 0]) 4 48 under24 hi7 hz7 hs7 hb7 rfl (by omega) u3 L.length _ rfl HRW.out ⟨wb.heap.size, 0, none⟩ 1 1 [vI f.P, vI f.R, vI f.V, .slice xa Lx.length xc] rfl rfl hnews (by intro u hu; simp at hu; rcases hu with rfl | rfl | rfl | rfl <;> rfl) (by omega) (by unfold maxLen; omega) (by omega) hbase (wb.heap.size + 1) (by simp) ?_
      intro g6 cap6 w6 hown6 hgrow6 hat6 hlt6
      have hF6 := grown_frL hgrow6
      have HO6 : Hd (FO w6 w.heap.size (.slice (some ⟨g6, 0, none⟩) (L.length + 1) cap6) (L ++ [(f, .slice xa Lx.length xc, Lx)])) := by
        have keep : ∀ (v : Value) (M : List CI), CO (wb.alloc (.cells #[vI f.P, vI f.R, vI f.V, .slice xa Lx.length xc] 32)) w.heap.size v M → CO w6 w.heap.size v M := fun v M hM =>
          hM.fr hF6 (fun j e e2 => own_apart HRW.out hM.row (by decide) j e e2) (fun y hy j e e2 => by
            rcases e with e | e
            · exact own_apart HRW.out (hM.ints y hy).1 (by decide) j e e2
            · exact own_apart HRW.out (hM.ints y hy).2 (by decide) j e e2)
        refine ⟨?_, fun x hx => ?_⟩
        · rw [List.length_append, List.flatMap_append]
          simpa using hown6
        · rcases List.mem_append.1 hx with hx | hx
          · exact ⟨keep _ _ (HO1.out.code x hx).1, (HO1.out.code x hx).2⟩
          · simp at hx
            subst hx
            exact ⟨keep _ _ HX1.out, HLX.out⟩
      have HF6 : Hd (Fr (fun _ => False) w w6) := grow_fr0 HF1.out hgrow6 (fun k hk => (World.ownsRow.lt HRW.out k hk).1)
      have HM6 : Hd ((L ++ [(f, Value.slice xa Lx.length xc, Lx)]).map (·.1) = fs.take (k + 1)) := by
        unfold Hd
        rw [HT.out, List.map_append, HM.out]
        rfl
      clear hown6 hgrow6 hat6 hlt6 HO1 HF1 HRW hnews hbase hF6 HX1 u0 u1 u2 u3'
      go_wp2_with fail
      exact ⟨⟨k + 1, _, by simp, by omega, HO6.out, HM6.out, HF6.out⟩, by simp; omega⟩
    · have hke : k = fs.length := by omega
      subst hke
      have HM2 : Hd (L.map (·.1) = fs) := by have := HM.out; rw [List.take_length] at this; exact this
      clear HM
      go_wp2_with fail
      go_ret
      exact ⟨u3, L, rfl, HO.out, HM2.out, HF.out⟩


theorem FO.shape {w : World} {B : Nat} {v : Value} {L : List FI} (h : FO w B v L) : ∃ a c, v = .slice a L.length c := by
  rcases h.row.2 with ⟨h2, h3⟩ | ⟨g, cap, cur, e, -⟩
  · exact ⟨none, 0, by rw [h2, h3]⟩
  · exact ⟨_, _, e⟩
theorem FO.far {S : Nat → Prop} {w w' : World} {B : Nat} {v : Value} {L : List FI} (h : FO w B v L) (f : Fr S w w') (hS : ∀ k, S k → k < B) : FO w' B v L := by
  have no : ∀ k, B ≤ k → ¬ S k := fun k hk e => by have := hS k e; omega
  refine ⟨ownsRow_frL h.row f (fun k e => no k (World.ownsRow.lt h.row k e).1), fun x hx => ⟨(h.code x hx).1.fr f (fun k e => no k (World.ownsRow.lt (h.code x hx).1.row k e).1) (fun y hy k e => ?_), (h.code x hx).2⟩⟩
  rcases e with e | e
  · exact no k (((h.code x hx).1.ints y hy).1.ge k e).1
  · exact no k (((h.code x hx).1.ints y hy).2.ge k e).1
theorem FO.mono {w : World} {B B' : Nat} {v : Value} {L : List FI} (h : FO w B v L) (hB : B' ≤ B) : FO w B' v L := ⟨World.ownsRow.mono h.row hB, fun x hx => ⟨(h.code x hx).1.mono hB, (h.code x hx).2⟩⟩

set_option maxRecDepth 100000 in
set_option maxHeartbeats 2000000 in
/-- CopyProgram. -/
theorem copyProgram_any (G : Int) (v : Value) (fs : List PF) (w : World) (hl : FA w v fs) (hn : FineP fs) :
    Calls Tryd.prog 21 #[.agg #[vI G, v]] w fun e w' => ∃ v', e = .returned (.agg #[vI G, v']) ∧ FA w' v' fs ∧ Fr (fun _ => False) w w' := by
  obtain ⟨a1, b1, e1, -⟩ := id hl
  obtain ⟨wa, hwa⟩ : ∃ wa, wa = (w.alloc (.cells #[vI G, v] 24)).alloc (.cells #[vI 0, .slice none 0 0] 24) := ⟨_, rfl⟩
  have hF : Fr (fun _ => False) w wa := by rw [hwa]; exact Fr.alloc (Fr.alloc (Fr.refl _ w) _) _
  have hsz : wa.heap.size = w.heap.size + 2 := by rw [hwa]; simp
  have b1' : wa.heap[w.heap.size]? = some (.cells #[vI G, v] 24) := by
    rw [hwa, Go.RowKit.Below.heap_alloc _ _ _ (by simp)]; exact heap_new w _
  have b2' : wa.heap[w.heap.size + 1]? = some (.cells #[vI 0, .slice none 0 0] 24) := by
    rw [hwa, show w.heap.size + 1 = (w.alloc (.cells #[vI G, v] 24)).heap.size by simp]; exact heap_new _ _
  have HWA : Hd (wa = (w.alloc (.cells #[vI G, v] 24)).alloc (.cells #[vI 0, .slice none 0 0] 24)) := hwa
  have G1 : Hd (FA wa v fs) := hl.stay hF
  have HF : Hd (Fr (fun _ => False) w wa) := hF
  obtain ⟨H, hH⟩ : ∃ H, H = w.heap.size := ⟨_, rfl⟩
  have HH : Hd (H = w.heap.size) := hH
  have HSZ : Hd (wa.heap.size = H + 2) := by rw [hH]; exact hsz
  rw [← hH] at b1' b2'
  have B1 : Hd _ := b1'
  have B2 : Hd _ := b2'
  have p0 : wa.cell? ⟨H, 0, none⟩ = some (vI G) := by rw [cell_of b1']; rfl
  have p1 : wa.cell? ⟨H, 1, none⟩ = some v := by rw [cell_of b1']; rfl
  subst e1
  clear hl hF hsz hwa hH b1' b2'
  go_enter Tryd.func21, Tryd.ntmps21
  go_upto_region 1 with fail
  rw [← HWA.out, ← HH.out]
  clear HWA
  go_region_held3 (fun w' => w'.cell? ⟨H, 0, none⟩ = some (vI G) ∧ w'.cell? ⟨H, 1, none⟩ = some (.slice a1 fs.length b1)) (go_keep) ((
    go_at_call 39
    refine (show Calls Tryd.prog 39 #[.slice a1 fs.length b1] wa.drew _ from copyFuncs_any _ fs wa.drew G1.out hn).mono ?_
    rintro e w2 ⟨x', L, rfl, hx', hL, hF2⟩
    have hG2 : Fr (fun _ => False) wa w2 := (Fr.refl _ wa).drew.trans hF2
    have B1' : w2.heap[H]? = some (.cells #[vI G, .slice a1 fs.length b1] 24) := (hG2.block H (heap_lt B1.out) (fun e => e)).trans B1.out
    have B2' : w2.heap[H + 1]? = some (.cells #[vI 0, .slice none 0 0] 24) := (hG2.block (H + 1) (heap_lt B2.out) (fun e => e)).trans B2.out
    have s0 : w2.cell? ⟨H, 0, none⟩ = some (vI G) := by rw [cell_of B1']; rfl
    have s1 : w2.cell? ⟨H, 1, none⟩ = some (.slice a1 fs.length b1) := by rw [cell_of B1']; rfl
    have d0 : w2.cell? ⟨H + 1, 0, none⟩ = some (vI 0) := by rw [cell_of B2']; rfl
    have d1 : w2.cell? ⟨H + 1, 1, none⟩ = some (.slice none 0 0) := by rw [cell_of B2']; rfl
    have y0 := frozen_of B2' 0
    have y1 := frozen_of B2' 1
    have HX : Hd (FO w2 (H + 2) x' L) := hx'.mono (by have := HSZ.out; show H + 2 ≤ wa.heap.size; omega)
    have HLL : Hd (L.map (·.1) = fs) := hL
    have HF2 : Hd (Fr (fun _ => False) w w2) := HF.out.trans hG2
    have HB2 : Hd (w2.heap[H + 1]? = some (.cells #[vI 0, .slice none 0 0] 24)) := B2'
    obtain ⟨xa, xc, rfl⟩ := hx'.shape
    clear hx' hL hF2 hG2 B1' B2'))
  all_goals
    have HZ : Hd (((w2.setCell ⟨H + 1, 0, none⟩ (vI G)).setCell ⟨H + 1, 1, none⟩ (.slice xa L.length xc)).heap[H + 1]? = some (.cells #[vI G, .slice xa L.length xc] 24)) := set_of (set_of HB2.out 0 _) 1 _
    have fs6 : Fr (fun j => j = H + 1) w2 ((w2.setCell ⟨H + 1, 0, none⟩ (vI G)).setCell ⟨H + 1, 1, none⟩ (.slice xa L.length xc)) := Fr.setCell (S := fun j => j = H + 1) (Fr.setCell (S := fun j => j = H + 1) (Fr.refl _ w2) _ _ (Or.inl rfl)) _ _ (Or.inl rfl)
    have KX : Hd (FA ((w2.setCell ⟨H + 1, 0, none⟩ (vI G)).setCell ⟨H + 1, 1, none⟩ (.slice xa L.length xc)) (.slice xa L.length xc) fs) := by
      have := (HX.out.far fs6 (fun k e => by omega)).fa
      rw [HLL.out] at this
      exact this
    have KF : Hd (Fr (fun _ => False) w ((w2.setCell ⟨H + 1, 0, none⟩ (vI G)).setCell ⟨H + 1, 1, none⟩ (.slice xa L.length xc))) := Fr.then HF2.out fs6 (fun j hj e => by have := HH.out; omega)
    clear fs6
    go_wp2_with fail
    generalize (w2.setCell ⟨H + 1, 0, none⟩ (vI G)).setCell ⟨H + 1, 1, none⟩ (.slice xa L.length xc) = wz at *
    have e0 : wz.cell? ⟨H + 1, 0, none⟩ = some (vI G) := by rw [cell_of HZ.out]; rfl
    have e1 : wz.cell? ⟨H + 1, 1, none⟩ = some (.slice xa L.length xc) := by rw [cell_of HZ.out]; rfl
    refine bodyPost_ret (v := .agg #[vI G, .slice xa L.length xc]) ?_ rfl ⟨_, rfl, KX.out, KF.out⟩
    rw [results_cell (p := 2) (ty := 24) Tryd.results21]
    simp [go_sem, e0, e1]


theorem GrN.of {fs : List PF} {w0 w w' : World} {b n : Nat} {of : Nat → Nat} (h : GrN fs w w' b n of) (hs : w0.heap.size ≤ w.heap.size) : GrN fs w0 w' b n of := by
  obtain ⟨go, gm, ge, gr, mv, ev, rv, h1, h2, h3, h4, h5, h6⟩ := h
  exact ⟨go, gm, ge, gr, mv, ev, rv, by omega, by omega, by omega, by omega, by omega, h6.blk, h6.rof, h6.cm.mono hs, h6.ce.mono hs, h6.cr.mono hs⟩
theorem GrN.stay {fs : List PF} {w w' w2 : World} {b n : Nat} {of : Nat → Nat} (h : GrN fs w w' b n of) (f : Fr (fun _ => False) w' w2) : GrN fs w w2 b n of := by
  obtain ⟨go, gm, ge, gr, mv, ev, rv, h1, h2, h3, h4, h5, h6⟩ := h
  exact ⟨go, gm, ge, gr, mv, ev, rv, h1, h2, h3, h4, h5, h6.stay f⟩
theorem results_tmp3 {fn : Func} {t u v : Tmp} (h : fn.results = #[.tmp t, .tmp u, .tmp v]) (tmps : Array Value) (P : Program) (w : World) :
    (results fn tmps).run P w = .ok (.tuple #[tmps.getD t undef, tmps.getD u undef, tmps.getD v undef]) w := by
  simp only [results, h]
  simp [Sem.run_bind, Result.andThen]
/-- What the statements' graph leaves: New's error is the document's. -/
def GhE (G : Int) (fs : List PF) (w : World) (e : Ending) (w' : World) : Prop :=
  Fr (fun _ => False) w w' ∧ ((checkP G fs ≠ 0 ∧ e = .returned (.tuple #[.pointer none, .bool false, .bool true])) ∨ (checkP G fs = 0 ∧ ∃ b n of, e = .returned (.tuple #[.pointer (some ⟨b, 0, none⟩), .bool true, .bool true]) ∧ GrN fs w w' b n of ∧ Gp fs.length (clX fs) n of ∧ n ≤ fs.length))
set_option maxRecDepth 100000 in
set_option maxHeartbeats 4000000 in
theorem graph_any (G : Int) (fs : List PF) (fv : Value) (w : World) (h : FA w fv fs) (hn : FineP fs) (hT : Tab w) (h0 : 0 < w.heap.size) :
    Calls Tryd.prog 19 #[.agg #[vI G, fv]] w (GhE G fs w) := by
  obtain ⟨a0, cp0, efv, -⟩ := id h
  subst efv
  obtain ⟨wa, hwa⟩ : ∃ wa, wa = w.alloc (.cells #[vI G, .slice a0 fs.length cp0] 24) := ⟨_, rfl⟩
  obtain ⟨H, hH⟩ : ∃ H, H = w.heap.size := ⟨_, rfl⟩
  have HH : Hd (H = w.heap.size) := hH
  have hFa : Fr (fun _ => False) w wa := by rw [hwa]; exact Fr.alloc (Fr.refl _ w) _
  have hba : wa.heap[H]? = some (.cells #[vI G, .slice a0 fs.length cp0] 24) := by rw [hwa, hH]; exact heap_new0 w _
  have HWA : Hd (wa = w.alloc (.cells #[vI G, .slice a0 fs.length cp0] 24)) := hwa
  have HBA : Hd (wa.heap[H]? = some (.cells #[vI G, .slice a0 fs.length cp0] 24)) := hba
  have HFA : Hd (Fr (fun _ => False) w wa) := hFa
  have HFP : Hd (FA w (.slice a0 fs.length cp0) fs ∧ FineP fs ∧ Tab w ∧ 0 < w.heap.size) := ⟨h, hn, hT, h0⟩
  have HCP : Hd (Calls Tryd.prog 21 #[.agg #[vI G, .slice a0 fs.length cp0]] wa fun e w' => ∃ v', e = .returned (.agg #[vI G, v']) ∧ FA w' v' fs ∧ Fr (fun _ => False) wa w') := copyProgram_any G (.slice a0 fs.length cp0) fs wa (h.stay hFa) hn
  have c0 : wa.cell? ⟨H, 0, none⟩ = some (vI G) := by rw [cell_of0 hba]; rfl
  have c1 : wa.cell? ⟨H, 1, none⟩ = some (.slice a0 fs.length cp0) := by rw [cell_of0 hba]; rfl
  clear h hn hT h0 hwa hH hFa hba
  go_enter Tryd.func19, Tryd.ntmps19
  go_upto_region 1 with fail
  rw [← HWA.out, ← HH.out]
  clear HWA
  go_wp2_with fail
  refine Calls.mono HCP.out ?_
  rintro e w1 ⟨v1, rfl, hfa1, hF1⟩
  have HF1 : Hd (Fr (fun _ => False) w w1) := HFA.out.trans hF1
  have HB1 : Hd (w1.heap[H]? = some (.cells #[vI G, .slice a0 fs.length cp0] 24)) := keepF HBA.out hF1
  have HNW : Hd (Calls Tryd.prog 10 #[.agg #[vI G, v1]] w1 (NwE G fs w1)) := new_any G fs v1 w1 hfa1 HFP.out.2.1 (HFP.out.2.2.1.fr HF1.out (fun e => e)) (Nat.lt_of_lt_of_le HFP.out.2.2.2 HF1.out.size)
  obtain ⟨va, vc, ev1, -⟩ := id hfa1
  subst ev1
  clear hF1 hfa1 HCP HFA HBA c0 c1
  go_wp2_with fail
  refine Calls.mono HNW.out ?_
  rintro e w2 ⟨hF2, hcase⟩
  have HF2 : Hd (Fr (fun _ => False) w w2) := HF1.out.trans hF2
  have HB2 : Hd (w2.heap[H]? = some (.cells #[vI G, .slice a0 fs.length cp0] 24)) := keepF HB1.out hF2
  have c0 : w2.cell? ⟨H, 0, none⟩ = some (vI G) := by rw [cell_of0 HB2.out]; rfl
  have c1 : w2.cell? ⟨H, 1, none⟩ = some (.slice a0 fs.length cp0) := by rw [cell_of0 HB2.out]; rfl
  have HRC : Hd (Calls Tryd.prog 37 #[.agg #[vI G, .slice a0 fs.length cp0]] w2 fun e w' => e = .returned (vI (checkP G fs)) ∧ Fr (fun _ => False) w2 w') := rcheck_fa w2 G fs _ (HFP.out.1.stay HF2.out) HFP.out.2.1
  obtain ⟨E, hE⟩ : ∃ E, E = checkP G fs := ⟨_, rfl⟩
  have HE : Hd (E = checkP G fs) := hE
  rw [← hE] at HRC hcase
  have HS1 : Hd (w.heap.size ≤ w1.heap.size) := HF1.out.size
  clear hE hF2 HNW HF1 HB1
  rcases hcase with ⟨hE0, rfl⟩ | ⟨hE0, b, n, of, rfl, hgr, hgp, hnN⟩
  · have e0 : (E == 0) = false := by simp [hE0]
    have HE0 : Hd (E ≠ 0) := hE0
    clear hE0
    go_wp2_with fail
    refine Calls.mono HRC.out ?_
    rintro e w3 ⟨rfl, hF3⟩
    have HG : Hd (GhE G fs w (.returned (.tuple #[.pointer none, .bool false, .bool true])) w3) := ⟨HF2.out.trans hF3, Or.inl ⟨by rw [← HE.out]; exact HE0.out, rfl⟩⟩
    have e1 : (binOp .neq 33 (.pointer none) (.pointer none)).run Tryd.prog w3 = .ok (.bool false) w3 := by first | rfl | kernel_rfl
    clear hF3 HRC c0 c1
    go_wp2_with fail
    refine bodyPost_ret (results_tmp3 rfl _ _ _) rfl ?_
    exact HG.out
  · subst hE0
    have HGR : Hd (GrN fs w1 w2 b n of ∧ Gp fs.length (clX fs) n of ∧ n ≤ fs.length) := ⟨hgr, hgp, hnN⟩
    clear hgr hgp hnN
    go_wp2_with fail
    refine Calls.mono HRC.out ?_
    rintro e w3 ⟨rfl, hF3⟩
    have HG : Hd (GhE G fs w (.returned (.tuple #[.pointer (some ⟨b, 0, none⟩), .bool true, .bool true])) w3) := ⟨HF2.out.trans hF3, Or.inr ⟨HE.out.symm, b, n, of, rfl, (HGR.out.1.of HS1.out).stay hF3, HGR.out.2.1, HGR.out.2.2⟩⟩
    have e1 : (binOp .neq 33 (.pointer (some ⟨b, 0, none⟩)) (.pointer none)).run Tryd.prog w3 = .ok (.bool true) w3 := by first | rfl | kernel_rfl
    clear hF3 HRC c0 c1
    go_wp2_with fail
    refine bodyPost_ret (results_tmp3 rfl _ _ _) rfl ?_
    exact HG.out

/-! ### three functions, of which the first calls the others, the second the third -/
abbrev cI (n : Int) : PI := ⟨11, 0, 0, 0, n, [], []⟩
abbrev bI : PI := ⟨15, 0, 0, 0, 0, [], []⟩
def fs3 : List PF := [⟨0, 0, 0, [cI 1, cI 2, bI]⟩, ⟨0, 0, 0, [cI 2, bI]⟩, ⟨0, 0, 0, [bI]⟩]
theorem fs3_check : checkP 0 fs3 = 0 := by kernel_rfl
theorem fs3_cl : clX fs3 0 = [1, 2] ∧ clX fs3 1 = [2] ∧ ∀ x, 2 ≤ x → clX fs3 x = [] := by
  refine ⟨rfl, rfl, fun x hx => ?_⟩
  by_cases e : x = 2
  · rw [e]; rfl
  · unfold clX
    rw [List.getElem?_eq_none (by show 3 ≤ x; omega)]
    rfl
theorem rch_up {cl : Nat → List Nat} (h : ∀ x, ∀ z ∈ cl x, x < z) {x y : Nat} (k : Rch cl x y) : x ≤ y := by
  induction k with
  | refl => exact Nat.le_refl _
  | step _ m ih => have := h _ _ m; omega
theorem fs3_up : ∀ x, ∀ z ∈ clX fs3 x, x < z := by
  obtain ⟨h0, h1, h2⟩ := fs3_cl
  intro x z hz
  by_cases e0 : x = 0
  · rw [e0, h0] at hz; simp at hz; omega
  · by_cases e1 : x = 1
    · rw [e1, h1] at hz; simp at hz; omega
    · rw [h2 x (by omega)] at hz; cases hz
theorem fs3_graph {n : Nat} {of : Nat → Nat} (h : Gp 3 (clX fs3) n of) : n = 3 ∧ of 2 = 0 ∧ of 1 = 1 ∧ of 0 = 2 ∧ cleX 3 3 of (clX fs3) 2 = [0, 1] ∧ clrX 3 3 of (clX fs3) 0 = [1, 2] := by
  obtain ⟨l0, l1, l2⟩ := fs3_cl
  have r01 : Rch (clX fs3) 0 1 := .step (.refl 0) (by rw [l0]; simp)
  have r12 : Rch (clX fs3) 1 2 := .step (.refl 1) (by rw [l1]; simp)
  have d1 := h.dn 0 1 (by omega) (by omega) r01
  have d2 := h.dn 1 2 (by omega) (by omega) r12
  have n1 : of 0 ≠ of 1 := fun e => by
    have := rch_up fs3_up ((h.eq 0 1 (by omega) (by omega)).1 e).2
    omega
  have n2 : of 1 ≠ of 2 := fun e => by
    have := rch_up fs3_up ((h.eq 1 2 (by omega) (by omega)).1 e).2
    omega
  have b0 := h.lt 0 (by omega)
  have on : ∀ c, c < n → c = of 0 ∨ c = of 1 ∨ c = of 2 := fun c hc => by
    obtain ⟨x, hx, e⟩ := h.on c hc
    have : x = 0 ∨ x = 1 ∨ x = 2 := by omega
    rcases this with e2 | e2 | e2 <;> subst e2 <;> omega
  have o0 := on 0 (by omega)
  have o1 := on (n - 1) (by omega)
  have o2 := on 1 (by omega)
  have o3 := on 2 (by omega)
  have hn : n = 3 := by
    by_cases e : n = 3
    · exact e
    · have := on 3
      omega
  subst hn
  have e2 : of 2 = 0 := by omega
  have e1 : of 1 = 1 := by omega
  have e0 : of 0 = 2 := by omega
  have h20 : hitX 3 of (clX fs3) 2 0 = true := hitX_iff.2 ⟨0, by omega, e0, 2, by rw [l0]; simp, e2⟩
  have h21 : hitX 3 of (clX fs3) 2 1 = true := hitX_iff.2 ⟨0, by omega, e0, 1, by rw [l0]; simp, e1⟩
  have h10 : hitX 3 of (clX fs3) 1 0 = true := hitX_iff.2 ⟨1, by omega, e1, 2, by rw [l1]; simp, e2⟩
  refine ⟨rfl, e2, e1, e0, ?_, ?_⟩
  · simp [cleX, List.range_succ, h20, h21]
  · simp [clrX, List.range_succ, h20, h10]
abbrev iV (op n : Int) : Value := .agg #[vI op, vI 0, vI 0, vI 0, vI n, .slice none 0 0, .slice none 0 0]
set_option maxRecDepth 100000 in
set_option maxHeartbeats 1000000 in
theorem back_any (w : World) : Calls Tryd.prog 8 #[] w fun e w' => e = .returned (iV 15 0) ∧ Fr (fun _ => False) w w' := by
  have hb : (w.alloc (.cells #[vI 15, vI 0, vI 0, vI 0, vI 0, .slice none 0 0, .slice none 0 0] 27)).heap[w.heap.size]? = some (.cells #[vI 15, vI 0, vI 0, vI 0, vI 0, .slice none 0 0, .slice none 0 0] 27) := heap_new0 w _
  have HF : Hd (Fr (fun _ => False) w (w.alloc (.cells #[vI 15, vI 0, vI 0, vI 0, vI 0, .slice none 0 0, .slice none 0 0] 27))) := Fr.alloc (Fr.refl _ w) _
  have HB : Hd ((w.alloc (.cells #[vI 15, vI 0, vI 0, vI 0, vI 0, .slice none 0 0, .slice none 0 0] 27)).heap[w.heap.size]? = some (.cells #[vI 15, vI 0, vI 0, vI 0, vI 0, .slice none 0 0, .slice none 0 0] 27)) := hb
  clear hb
  go_enter Tryd.func8, Tryd.ntmps8
  go_wp2_with fail
  generalize w.alloc (.cells #[vI 15, vI 0, vI 0, vI 0, vI 0, .slice none 0 0, .slice none 0 0] 27) = wz at *
  generalize w.heap.size = X at *
  have e0 : wz.cell? ⟨X, 0, none⟩ = some (vI 15) := by rw [cell_of0 HB.out]; rfl
  have e1 : wz.cell? ⟨X, 1, none⟩ = some (vI 0) := by rw [cell_of0 HB.out]; rfl
  have e2 : wz.cell? ⟨X, 2, none⟩ = some (vI 0) := by rw [cell_of0 HB.out]; rfl
  have e3 : wz.cell? ⟨X, 3, none⟩ = some (vI 0) := by rw [cell_of0 HB.out]; rfl
  have e4 : wz.cell? ⟨X, 4, none⟩ = some (vI 0) := by rw [cell_of0 HB.out]; rfl
  have e5 : wz.cell? ⟨X, 5, none⟩ = some (.slice none 0 0) := by rw [cell_of0 HB.out]; rfl
  have e6 : wz.cell? ⟨X, 6, none⟩ = some (.slice none 0 0) := by rw [cell_of0 HB.out]; rfl
  refine bodyPost_ret (v := iV 15 0) ?_ rfl ⟨rfl, HF.out⟩
  rw [results_cell (p := 0) (ty := 27) Tryd.results8]
  simp [go_sem, e0, e1, e2, e3, e4, e5, e6]
set_option maxRecDepth 100000 in
set_option maxHeartbeats 1000000 in
theorem lcall_any (g : Int) (w : World) : Calls Tryd.prog 9 #[vI g] w fun e w' => e = .returned (iV 11 g) ∧ Fr (fun _ => False) w w' := by
  have hb : (w.alloc (.cells #[vI 11, vI 0, vI 0, vI 0, vI g, .slice none 0 0, .slice none 0 0] 27)).heap[w.heap.size]? = some (.cells #[vI 11, vI 0, vI 0, vI 0, vI g, .slice none 0 0, .slice none 0 0] 27) := heap_new0 w _
  have HF : Hd (Fr (fun _ => False) w (w.alloc (.cells #[vI 11, vI 0, vI 0, vI 0, vI g, .slice none 0 0, .slice none 0 0] 27))) := Fr.alloc (Fr.refl _ w) _
  have HB : Hd ((w.alloc (.cells #[vI 11, vI 0, vI 0, vI 0, vI g, .slice none 0 0, .slice none 0 0] 27)).heap[w.heap.size]? = some (.cells #[vI 11, vI 0, vI 0, vI 0, vI g, .slice none 0 0, .slice none 0 0] 27)) := hb
  clear hb
  go_enter Tryd.func9, Tryd.ntmps9
  go_wp2_with fail
  generalize w.alloc (.cells #[vI 11, vI 0, vI 0, vI 0, vI g, .slice none 0 0, .slice none 0 0] 27) = wz at *
  generalize w.heap.size = X at *
  have e0 : wz.cell? ⟨X, 0, none⟩ = some (vI 11) := by rw [cell_of0 HB.out]; rfl
  have e1 : wz.cell? ⟨X, 1, none⟩ = some (vI 0) := by rw [cell_of0 HB.out]; rfl
  have e2 : wz.cell? ⟨X, 2, none⟩ = some (vI 0) := by rw [cell_of0 HB.out]; rfl
  have e3 : wz.cell? ⟨X, 3, none⟩ = some (vI 0) := by rw [cell_of0 HB.out]; rfl
  have e4 : wz.cell? ⟨X, 4, none⟩ = some (vI g) := by rw [cell_of0 HB.out]; rfl
  have e5 : wz.cell? ⟨X, 5, none⟩ = some (.slice none 0 0) := by rw [cell_of0 HB.out]; rfl
  have e6 : wz.cell? ⟨X, 6, none⟩ = some (.slice none 0 0) := by rw [cell_of0 HB.out]; rfl
  refine bodyPost_ret (v := iV 11 g) ?_ rfl ⟨rfl, HF.out⟩
  rw [results_cell (p := 2) (ty := 27) Tryd.results9]
  simp [go_sem, e0, e1, e2, e3, e4, e5, e6]
theorem ia_nil (w : World) : IA w (.slice none 0 0) [] := ⟨none, 0, rfl, fun h => absurd rfl h⟩
theorem ca_lit {w : World} {k : Nat} {cs : List PI} {arr : Array Value} (h : w.heap[k]? = some (.cells arr 27)) (hc : ∀ j (h : j < cs.length), arr[j * 7]? = some (vI cs[j].op) ∧ arr[j * 7 + 1]? = some (vI cs[j].r) ∧ arr[j * 7 + 2]? = some (vI cs[j].s) ∧ arr[j * 7 + 3]? = some (vI cs[j].t) ∧ arr[j * 7 + 4]? = some (vI cs[j].n) ∧ arr[j * 7 + 5]? = some (.slice none 0 0) ∧ arr[j * 7 + 6]? = some (.slice none 0 0) ∧ cs[j].args = [] ∧ cs[j].rets = []) : CA w (.slice (some ⟨k, 0, none⟩) cs.length cs.length) cs := by
  refine ⟨_, cs.length, rfl, fun _ => ⟨k, 0, rfl, heap_lt0 h, fun j hj => ?_⟩⟩
  obtain ⟨h0, h1, h2, h3, h4, h5, h6, h7, h8⟩ := hc j hj
  have m : ∀ o, w.cell? ⟨k, 0 + o, none⟩ = arr[o]? := fun o => by rw [Nat.zero_add, cell_of0 h]
  refine ⟨.slice none 0 0, .slice none 0 0, (m _).trans h0, (m (j * 7 + 1)).trans h1, (m (j * 7 + 2)).trans h2, (m (j * 7 + 3)).trans h3, (m (j * 7 + 4)).trans h4, (m (j * 7 + 5)).trans h5, (m (j * 7 + 6)).trans h6, ?_, ?_⟩
  · rw [h7]; exact ia_nil w
  · rw [h8]; exact ia_nil w
abbrev iC (op n : Int) : List Value := [vI op, vI 0, vI 0, vI 0, vI n, .slice none 0 0, .slice none 0 0]
theorem fs3_fa {w : World} {k0 k1 k2 kf : Nat} (h0 : w.heap[k0]? = some (.cells #[vI 11, vI 0, vI 0, vI 0, vI 1, .slice none 0 0, .slice none 0 0, vI 11, vI 0, vI 0, vI 0, vI 2, .slice none 0 0, .slice none 0 0, vI 15, vI 0, vI 0, vI 0, vI 0, .slice none 0 0, .slice none 0 0] 27)) (h1 : w.heap[k1]? = some (.cells #[vI 11, vI 0, vI 0, vI 0, vI 2, .slice none 0 0, .slice none 0 0, vI 15, vI 0, vI 0, vI 0, vI 0, .slice none 0 0, .slice none 0 0] 27)) (h2 : w.heap[k2]? = some (.cells #[vI 15, vI 0, vI 0, vI 0, vI 0, .slice none 0 0, .slice none 0 0] 27))
    (hf : w.heap[kf]? = some (.cells #[vI 0, vI 0, vI 0, .slice (some ⟨k0, 0, none⟩) 3 3, vI 0, vI 0, vI 0, .slice (some ⟨k1, 0, none⟩) 2 2, vI 0, vI 0, vI 0, .slice (some ⟨k2, 0, none⟩) 1 1] 32)) : FA w (.slice (some ⟨kf, 0, none⟩) 3 3) fs3 := by
  have c0 : CA w (.slice (some ⟨k0, 0, none⟩) 3 3) [cI 1, cI 2, bI] := ca_lit (cs := [cI 1, cI 2, bI]) h0 (fun j hj => by
    have : j = 0 ∨ j = 1 ∨ j = 2 := by simp at hj; omega
    rcases this with rfl | rfl | rfl <;> exact ⟨rfl, rfl, rfl, rfl, rfl, rfl, rfl, rfl, rfl⟩)
  have c1 : CA w (.slice (some ⟨k1, 0, none⟩) 2 2) [cI 2, bI] := ca_lit (cs := [cI 2, bI]) h1 (fun j hj => by
    have : j = 0 ∨ j = 1 := by simp at hj; omega
    rcases this with rfl | rfl <;> exact ⟨rfl, rfl, rfl, rfl, rfl, rfl, rfl, rfl, rfl⟩)
  have c2 : CA w (.slice (some ⟨k2, 0, none⟩) 1 1) [bI] := ca_lit (cs := [bI]) h2 (fun j hj => by
    have : j = 0 := by simp at hj; omega
    subst this
    exact ⟨rfl, rfl, rfl, rfl, rfl, rfl, rfl, rfl, rfl⟩)
  refine ⟨_, 3, rfl, fun _ => ⟨kf, 0, rfl, heap_lt0 hf, fun j hj => ?_⟩⟩
  have m : ∀ o, w.cell? ⟨kf, 0 + o, none⟩ = (#[vI 0, vI 0, vI 0, .slice (some ⟨k0, 0, none⟩) 3 3, vI 0, vI 0, vI 0, .slice (some ⟨k1, 0, none⟩) 2 2, vI 0, vI 0, vI 0, .slice (some ⟨k2, 0, none⟩) 1 1] : Array Value)[o]? := fun o => by rw [Nat.zero_add, cell_of0 hf]
  have : j = 0 ∨ j = 1 ∨ j = 2 := by simp [fs3] at hj; omega
  rcases this with rfl | rfl | rfl
  · exact ⟨_, m 0, m 1, m 2, m 3, c0⟩
  · exact ⟨_, m 4, m 5, m 6, m 7, c1⟩
  · exact ⟨_, m 8, m 9, m 10, m 11, c2⟩
theorem fs3_fine : FineP fs3 := by
  refine ⟨by simp [fs3], fun f hf => ?_⟩
  simp [fs3] at hf
  rcases hf with rfl | rfl | rfl <;> refine ⟨by simp, fun c hc => ?_⟩ <;> simp at hc
  · rcases hc with rfl | rfl | rfl <;> simp
  · rcases hc with rfl | rfl <;> simp
  · subst hc; simp
set_option maxRecDepth 100000 in
set_option maxHeartbeats 4000000 in
theorem lives_any (w : World) (hT : Tab w) (h0 : 0 < w.heap.size) : Calls Tryd.prog 18 #[] w fun e w' => e = .returned (.bool true) ∧ Fr (fun _ => False) w w' := by
  have HT : Hd (Tab w ∧ 0 < w.heap.size) := ⟨hT, h0⟩
  clear hT h0
  go_enter Tryd.func18, Tryd.ntmps18
  go_wp2_with fail
  refine (lcall_any 1 w).mono ?_
  rintro e w1 ⟨rfl, hF1⟩
  have HF1 : Hd (Fr (fun _ => False) w w1) := hF1
  clear hF1
  go_wp2_with fail
  refine (lcall_any 2 w1).mono ?_
  rintro e w2 ⟨rfl, hF2⟩
  have HF2 : Hd (Fr (fun _ => False) w w2) := HF1.out.trans hF2
  clear hF2 HF1
  go_wp2_with fail
  refine (back_any w2).mono ?_
  rintro e w3 ⟨rfl, hF3⟩
  have HF3 : Hd (Fr (fun _ => False) w w3) := HF2.out.trans hF3
  clear hF3 HF2
  go_wp2_with fail
  obtain ⟨k0, hk0⟩ : ∃ k0, k0 = w3.heap.size := ⟨_, rfl⟩
  have hb0 := heap_new0 w3 (.cells #[vI 11, vI 0, vI 0, vI 0, vI 1, .slice none 0 0, .slice none 0 0, vI 11, vI 0, vI 0, vI 0, vI 2, .slice none 0 0, .slice none 0 0, vI 15, vI 0, vI 0, vI 0, vI 0, .slice none 0 0, .slice none 0 0] 27)
  have hG0 : Fr (fun _ => False) w (w3.alloc (.cells #[vI 11, vI 0, vI 0, vI 0, vI 1, .slice none 0 0, .slice none 0 0, vI 11, vI 0, vI 0, vI 0, vI 2, .slice none 0 0, .slice none 0 0, vI 15, vI 0, vI 0, vI 0, vI 0, .slice none 0 0, .slice none 0 0] 27)) := HF3.out.alloc _
  rw [← hk0] at hb0 ⊢
  generalize w3.alloc (.cells #[vI 11, vI 0, vI 0, vI 0, vI 1, .slice none 0 0, .slice none 0 0, vI 11, vI 0, vI 0, vI 0, vI 2, .slice none 0 0, .slice none 0 0, vI 15, vI 0, vI 0, vI 0, vI 0, .slice none 0 0, .slice none 0 0] 27) = w4 at *
  have HB0 : Hd (w4.heap[k0]? = some (.cells #[vI 11, vI 0, vI 0, vI 0, vI 1, .slice none 0 0, .slice none 0 0, vI 11, vI 0, vI 0, vI 0, vI 2, .slice none 0 0, .slice none 0 0, vI 15, vI 0, vI 0, vI 0, vI 0, .slice none 0 0, .slice none 0 0] 27)) := hb0
  have HF4 : Hd (Fr (fun _ => False) w w4) := hG0
  clear hb0 hG0 hk0 HF3
  refine (lcall_any 2 w4).mono ?_
  rintro e w5 ⟨rfl, hF5⟩
  have HB05 : Hd (w5.heap[k0]? = _) := keepF HB0.out hF5
  have HF5 : Hd (Fr (fun _ => False) w w5) := HF4.out.trans hF5
  clear hF5 HF4 HB0
  go_wp2_with fail
  refine (back_any w5).mono ?_
  rintro e w6 ⟨rfl, hF6⟩
  have HB06 : Hd (w6.heap[k0]? = _) := keepF HB05.out hF6
  have HF6 : Hd (Fr (fun _ => False) w w6) := HF5.out.trans hF6
  clear hF6 HF5 HB05
  go_wp2_with fail
  obtain ⟨k1, hk1⟩ : ∃ k1, k1 = w6.heap.size := ⟨_, rfl⟩
  have hb1 := heap_new0 w6 (.cells #[vI 11, vI 0, vI 0, vI 0, vI 2, .slice none 0 0, .slice none 0 0, vI 15, vI 0, vI 0, vI 0, vI 0, .slice none 0 0, .slice none 0 0] 27)
  have hG1 : Fr (fun _ => False) w6 (w6.alloc (.cells #[vI 11, vI 0, vI 0, vI 0, vI 2, .slice none 0 0, .slice none 0 0, vI 15, vI 0, vI 0, vI 0, vI 0, .slice none 0 0, .slice none 0 0] 27)) := (Fr.refl _ _).alloc _
  rw [← hk1] at hb1 ⊢
  generalize w6.alloc (.cells #[vI 11, vI 0, vI 0, vI 0, vI 2, .slice none 0 0, .slice none 0 0, vI 15, vI 0, vI 0, vI 0, vI 0, .slice none 0 0, .slice none 0 0] 27) = w7 at *
  have HB07 : Hd (w7.heap[k0]? = _) := keepF HB06.out hG1
  have HB17 : Hd (w7.heap[k1]? = _) := hb1
  have HF7 : Hd (Fr (fun _ => False) w w7) := HF6.out.trans hG1
  clear hb1 hG1 hk1 HF6 HB06
  refine (back_any w7).mono ?_
  rintro e w8 ⟨rfl, hF8⟩
  have HB08 : Hd (w8.heap[k0]? = _) := keepF HB07.out hF8
  have HB18 : Hd (w8.heap[k1]? = _) := keepF HB17.out hF8
  have HF8 : Hd (Fr (fun _ => False) w w8) := HF7.out.trans hF8
  clear hF8 HF7 HB07 HB17
  go_upto_region 2 with fail
  obtain ⟨k2, hk2⟩ : ∃ k2, k2 = w8.heap.size := ⟨_, rfl⟩
  obtain ⟨wx, hwx⟩ : ∃ wx, wx = w8.alloc (.cells #[vI 15, vI 0, vI 0, vI 0, vI 0, .slice none 0 0, .slice none 0 0] 27) := ⟨_, rfl⟩
  obtain ⟨wy, hwy⟩ : ∃ wy, wy = wx.alloc (.cells #[vI 0, vI 0, vI 0, .slice (some ⟨k0, 0, none⟩) 3 3, vI 0, vI 0, vI 0, .slice (some ⟨k1, 0, none⟩) 2 2, vI 0, vI 0, vI 0, .slice (some ⟨k2, 0, none⟩) 1 1] 32) := ⟨_, rfl⟩
  obtain ⟨wz, hwz⟩ : ∃ wz, wz = wy.alloc (.cells #[vI 0, .slice (some ⟨k2 + 1, 0, none⟩) 3 3] 24) := ⟨_, rfl⟩
  have fx : Fr (fun _ => False) w8 wx := by rw [hwx]; exact (Fr.refl _ _).alloc _
  have fy : Fr (fun _ => False) wx wy := by rw [hwy]; exact (Fr.refl _ _).alloc _
  have fz : Fr (fun _ => False) wy wz := by rw [hwz]; exact (Fr.refl _ _).alloc _
  have sx : wx.heap.size = k2 + 1 := by rw [hwx, World.size_alloc, hk2]
  have sy : wy.heap.size = k2 + 2 := by rw [hwy, World.size_alloc, sx]
  have b2 : wx.heap[k2]? = some (.cells #[vI 15, vI 0, vI 0, vI 0, vI 0, .slice none 0 0, .slice none 0 0] 27) := by rw [hwx, hk2]; exact heap_new0 w8 _
  have bf : wy.heap[k2 + 1]? = some (.cells #[vI 0, vI 0, vI 0, .slice (some ⟨k0, 0, none⟩) 3 3, vI 0, vI 0, vI 0, .slice (some ⟨k1, 0, none⟩) 2 2, vI 0, vI 0, vI 0, .slice (some ⟨k2, 0, none⟩) 1 1] 32) := by rw [hwy, ← sx]; exact heap_new0 wx _
  have bp : wz.heap[k2 + 2]? = some (.cells #[vI 0, .slice (some ⟨k2 + 1, 0, none⟩) 3 3] 24) := by rw [hwz, ← sy]; exact heap_new0 wy _
  have hfa : FA wz (.slice (some ⟨k2 + 1, 0, none⟩) 3 3) fs3 := fs3_fa (keepF (keepF (keepF HB08.out fx) fy) fz) (keepF (keepF (keepF HB18.out fx) fy) fz) (keepF (keepF b2 fy) fz) (keepF bf fz)
  have HFZ : Hd (Fr (fun _ => False) w wz) := HF8.out.trans ((fx.trans fy).trans fz)
  have HNW : Hd (Calls Tryd.prog 10 #[.agg #[vI 0, .slice (some ⟨k2 + 1, 0, none⟩) 3 3]] wz (NwE 0 fs3 wz)) := new_any 0 fs3 _ wz hfa fs3_fine (HT.out.1.fr HFZ.out (fun e => e)) (Nat.lt_of_lt_of_le HT.out.2 HFZ.out.size)
  have c0 : wz.cell? ⟨k2 + 2, 0, none⟩ = some (vI 0) := by rw [cell_of0 bp]; rfl
  have c1 : wz.cell? ⟨k2 + 2, 1, none⟩ = some (.slice (some ⟨k2 + 1, 0, none⟩) 3 3) := by rw [cell_of0 bp]; rfl
  have HWZ : Hd (wz = ((w8.alloc (.cells #[vI 15, vI 0, vI 0, vI 0, vI 0, .slice none 0 0, .slice none 0 0] 27)).alloc (.cells #[vI 0, vI 0, vI 0, .slice (some ⟨k0, 0, none⟩) 3 3, vI 0, vI 0, vI 0, .slice (some ⟨k1, 0, none⟩) 2 2, vI 0, vI 0, vI 0, .slice (some ⟨k2, 0, none⟩) 1 1] 32)).alloc (.cells #[vI 0, .slice (some ⟨k2 + 1, 0, none⟩) 3 3] 24)) := by unfold Hd; rw [hwz, hwy, hwx]
  rw [← hk2]
  have eW : ∀ W, W = wz → W = wz := fun W e => e
  clear hwx hwy hwz fx fy fz sx sy b2 bf bp hfa HB08 HB18 HF8
  show Code.wp _ _ _ _ (((w8.alloc (.cells #[vI 15, vI 0, vI 0, vI 0, vI 0, .slice none 0 0, .slice none 0 0] 27)).alloc (.cells #[vI 0, vI 0, vI 0, .slice (some ⟨k0, 0, none⟩) 3 3, vI 0, vI 0, vI 0, .slice (some ⟨k1, 0, none⟩) 2 2, vI 0, vI 0, vI 0, .slice (some ⟨k2, 0, none⟩) 1 1] 32)).alloc (.cells #[vI 0, .slice (some ⟨k2 + 1, 0, none⟩) 3 3] 24))
  rw [← HWZ.out]
  clear HWZ hk2 eW
  go_wp2_with fail
  refine Calls.mono HNW.out ?_
  rintro e w9 ⟨hF9, hcase⟩
  rcases hcase with ⟨hne, -⟩ | ⟨-, b, n, of, rfl, hgr, hgp, -⟩
  · exact absurd fs3_check hne
  obtain ⟨go, gm, ge, gr, mv, ev, rv, -, -, -, -, -, hga⟩ := hgr
  obtain ⟨rfl, o2, o1, o0, hce, hcr⟩ := fs3_graph hgp
  have HGA : Hd (GA w9 wz.heap.size b go gm ge gr 3 3 mv ev rv of (clX fs3)) := hga
  have HF9 : Hd (Fr (fun _ => False) w w9) := HFZ.out.trans hF9
  have HLN : Hd (Calls Tryd.prog 12 #[.pointer (some ⟨b, 0, none⟩)] w9 fun e w' => e = .returned (vI 3) ∧ w' = w9) := glen_any w9 hga (by decide)
  have HO2 : Hd (Calls Tryd.prog 13 #[.pointer (some ⟨b, 0, none⟩), vI 2] w9 fun e w' => e = .returned (vI 0) ∧ w' = w9) := by
    have := of_any 2 hga (by show 2 < 3; omega) (by show 3 ≤ _; omega)
    rw [o2] at this
    exact this
  have HO1 : Hd (Calls Tryd.prog 13 #[.pointer (some ⟨b, 0, none⟩), vI 1] w9 fun e w' => e = .returned (vI 1) ∧ w' = w9) := by
    have := of_any 1 hga (by show 1 < 3; omega) (by show 3 ≤ _; omega)
    rw [o1] at this
    exact this
  have HO0 : Hd (Calls Tryd.prog 13 #[.pointer (some ⟨b, 0, none⟩), vI 0] w9 fun e w' => e = .returned (vI 2) ∧ w' = w9) := by
    have := of_any 0 hga (by show 0 < 3; omega) (by show 3 ≤ _; omega)
    rw [o0] at this
    exact this
  have HCE : Hd (Calls Tryd.prog 14 #[.pointer (some ⟨b, 0, none⟩), vI 2] w9 fun e w' => ∃ v', e = .returned v' ∧ IOwn w' w9.heap.size v' [0, 1] ∧ Fr (fun _ => False) w9 w') := by
    have := callees_any 2 hga (by decide) (by decide) (by show 3 ≤ _; omega)
    rw [show cleX fs3.length 3 of (clX fs3) 2 = [0, 1] from hce] at this
    exact this
  have HCR : Hd (∀ W, Fr (fun _ => False) w9 W → Calls Tryd.prog 15 #[.pointer (some ⟨b, 0, none⟩), vI 0] W fun e w' => ∃ v', e = .returned v' ∧ IOwn w' W.heap.size v' [1, 2] ∧ Fr (fun _ => False) W w') := fun W fW => by
    have := callers_any 0 (hga.stay fW) (by decide) (by decide) (by show 3 ≤ _; omega)
    rw [show clrX fs3.length 3 of (clX fs3) 0 = [1, 2] from hcr] at this
    exact this
  have e1 : (binOp .eql 33 (.pointer (some ⟨b, 0, none⟩)) (.pointer none)).run Tryd.prog w9 = .ok (.bool false) w9 := by first | rfl | kernel_rfl
  clear hga hgp o2 o1 o0 hce hcr hF9 HNW HFZ c0 c1
  go_wp2_with fail
  refine Calls.mono HLN.out ?_
  rintro e w10 ⟨rfl, rfl⟩
  clear HLN
  go_wp2_with fail
  refine Calls.mono HO2.out ?_
  rintro e w11 ⟨rfl, rfl⟩
  clear HO2
  go_wp2_with fail
  refine Calls.mono HO1.out ?_
  rintro e w12 ⟨rfl, rfl⟩
  clear HO1
  go_wp2_with fail
  refine Calls.mono HO0.out ?_
  rintro e w13 ⟨rfl, rfl⟩
  clear HO0
  go_wp2_with fail
  refine Calls.mono HCE.out ?_
  rintro e w14 ⟨v4, rfl, ho4, hF14⟩
  have hlit : ∀ (W : World) (x y : Int), IA (W.alloc (.cells #[vI x, vI y] 3)) (.slice (some ⟨W.heap.size, 0, none⟩) 2 2) [x, y] := fun W x y => by
    refine ⟨_, 2, rfl, fun _ => ⟨W.heap.size, 0, rfl, by rw [World.size_alloc]; omega, fun j hj => ?_⟩⟩
    have hb := heap_new0 W (.cells #[vI x, vI y] 3)
    have : j = 0 ∨ j = 1 := by simp at hj; omega
    rcases this with rfl | rfl <;> (rw [cell_of0 hb]; rfl)
  have HF14 : Hd (Fr (fun _ => False) w14 (w14.alloc (.cells #[vI 0, vI 1] 3))) := (Fr.refl _ _).alloc _
  have HEQ1 : Hd (Calls Tryd.prog 36 #[v4, .slice (some ⟨w14.heap.size, 0, none⟩) 2 2] (w14.alloc (.cells #[vI 0, vI 1] 3)) fun e w' => e = .returned (.bool true) ∧ Fr (fun _ => False) (w14.alloc (.cells #[vI 0, vI 1] 3)) w') := by
    have := eqInts_same v4 (.slice (some ⟨w14.heap.size, 0, none⟩) 2 2) [0, 1] (w14.alloc (.cells #[vI 0, vI 1] 3)) (ho4.ia.stay HF14.out) (hlit w14 0 1) (by simp)
    exact this
  have HFA : Hd (Fr (fun _ => False) w14 w14) := Fr.refl _ _
  have HF15 : Hd (Fr (fun _ => False) w13 w14) := hF14
  have HLIT : Hd (∀ (W : World) (x y : Int), IA (W.alloc (.cells #[vI x, vI y] 3)) (.slice (some ⟨W.heap.size, 0, none⟩) 2 2) [x, y]) := hlit
  obtain ⟨va, vc, ev4⟩ := iown_cap ho4
  subst ev4
  clear ho4 hF14 hlit HCE
  go_wp2_with fail
  refine Calls.mono (show Calls Tryd.prog 36 #[.slice va 2 vc, .slice (some ⟨w14.heap.size, 0, none⟩) 2 2] (w14.alloc (.cells #[vI 0, vI 1] 3)) _ from HEQ1.out) ?_
  rintro e w16 ⟨rfl, hF16⟩
  have HF16 : Hd (Fr (fun _ => False) w13 w16) := HF15.out.trans (HF14.out.trans hF16)
  have HC2 : Hd (Calls Tryd.prog 15 #[.pointer (some ⟨b, 0, none⟩), vI 0] w16 fun e w' => ∃ v', e = .returned v' ∧ IOwn w' w16.heap.size v' [1, 2] ∧ Fr (fun _ => False) w16 w') := HCR.out w16 HF16.out
  clear hF16 HEQ1 HCR HF14 HF15 HFA
  go_wp2_with fail
  refine Calls.mono HC2.out ?_
  rintro e w17 ⟨v5, rfl, ho5, hF17⟩
  have HF18 : Hd (Fr (fun _ => False) w17 (w17.alloc (.cells #[vI 1, vI 2] 3))) := (Fr.refl _ _).alloc _
  have HEQ2 := eqInts_same v5 (.slice (some ⟨w17.heap.size, 0, none⟩) 2 2) [1, 2] (w17.alloc (.cells #[vI 1, vI 2] 3)) (ho5.ia.stay HF18.out) (HLIT.out w17 1 2) (by simp)
  have HF17 : Hd (Fr (fun _ => False) w13 w17) := HF16.out.trans hF17
  obtain ⟨va5, vc5, ev5⟩ := iown_cap ho5
  subst ev5
  have HEQ3 : Hd (Calls Tryd.prog 36 #[.slice va5 2 vc5, .slice (some ⟨w17.heap.size, 0, none⟩) 2 2] (w17.alloc (.cells #[vI 1, vI 2] 3)) fun e w' => e = .returned (.bool true) ∧ Fr (fun _ => False) (w17.alloc (.cells #[vI 1, vI 2] 3)) w') := HEQ2
  clear ho5 hF17 HC2 HEQ2 HF16
  go_wp2_with fail
  refine Calls.mono HEQ3.out ?_
  rintro e w19 ⟨rfl, hF19⟩
  have HE : Hd (Fr (fun _ => False) w w19) := HF9.out.trans (HF17.out.trans (HF18.out.trans hF19))
  clear hF19 HEQ3
  go_wp2_with fail
  go_ret
  exact ⟨rfl, HE.out⟩
end Go.Proofs.YtjmbfjaahadbhaaDoor
