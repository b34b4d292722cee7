import Derived.Test.YtjmbfjaahadbhaaGreatDoorQXbJ
import Derived.StillTail
import Derived.StillTailTactics
set_option linter.unusedVariables false
set_option linter.unusedSimpArgs false
namespace Go.Proofs.YtjmbfjaahadbhaaGreatDoor
open Go.RowKit (wrap32 wrap64)

/-- Functions within the statements' bound. -/
def FinP (fs : List PF) : Prop := fs.length ≤ 2147483647 ∧ ∀ f ∈ fs, f.code.length ≤ 2147483647 ∧ ∀ c ∈ f.code, c.args.length ≤ 2147483647 ∧ c.rets.length ≤ 2147483647
abbrev zero24 : Obj := .cells #[vI 0, .slice none 0 0] 24

set_option maxRecDepth 100000 in
set_option maxHeartbeats 2000000 in
theorem spare_any (G : Int) (fv : Value) (fs : List PF) (w : World) (hE : FA w fv fs) (hF : FinP fs) :
    Calls Tryz.prog 6 #[.agg #[vI G, fv]] w fun e w' => ∃ fv', e = .returned (.agg #[vI G, fv']) ∧ SpF w' w.heap.size fv' fs ∧ Fr (fun _ => False) w w' := by
  obtain ⟨a, c, rfl, hein⟩ := hE
  have HE : Hd (fs ≠ [] → _) := hein
  have HFI : Hd (FinP fs) := hF
  have hel := hF.1
  obtain ⟨wa, hwa⟩ : ∃ wa, wa = (w.alloc (.cells #[vI G, .slice a fs.length c] 24)).alloc zero24 := ⟨_, rfl⟩
  have HWA : Hd (wa = (w.alloc (.cells #[vI G, .slice a fs.length c] 24)).alloc zero24) := hwa
  obtain ⟨H, hH⟩ : ∃ H, H = w.heap.size := ⟨_, rfl⟩
  have HH : Hd (H = w.heap.size) := hH
  have hb0 : wa.heap[H]? = some (.cells #[vI G, .slice a fs.length c] 24) := by rw [hwa, hH]; exact keepA (heap_new0 w _) _
  have hb1 : wa.heap[H + 1]? = some zero24 := by
    rw [hwa, hH]
    have := heap_new0 (w.alloc (.cells #[vI G, .slice a fs.length c] 24)) zero24
    rw [World.size_alloc] at this
    exact this
  have HFA : Hd (Fr (fun _ => False) w wa) := by unfold Hd; rw [hwa]; exact Fr.alloc (Fr.alloc (Fr.refl _ w) _) _
  have HWS : Hd (wa.heap.size = H + 2) := by unfold Hd; rw [hwa, hH]; simp
  have HB0 : Hd (∀ wx, Fr (fun _ => False) wa wx → wx.heap[H]? = some (.cells #[vI G, .slice a fs.length c] 24)) := fun wx hx => keepF hb0 hx
  have HB1 : Hd (∀ wx, Fr (fun _ => False) wa wx → wx.heap[H + 1]? = some zero24) := fun wx hx => keepF hb1 hx
  clear hein hF hwa hH hb0 hb1
  obtain ⟨i7, hi7, hz7, hs7, hb7⟩ := info_parts (P := Tryz.prog) (e := 41) (z := .agg #[vI 0, vI 0, vI 0, .slice none 0 0]) (size := 4) (bytes := 48) (by kernel_rfl)
  go_enter Tryz.func6, Tryz.ntmps6
  go_upto_region 1 with fail
  rw [← HWA.out, ← HH.out]
  clear HWA
  go_wp2_with fail
  go_loopw [3, 4] (fun mv v wr => ∃ (k : Nat) (L : List (PF × Value)), v = .int .i64 k ∧ k ≤ fs.length ∧ Hd (SpFs wr wa.heap.size mv L (fs.take k) 0) ∧ Hd (Fr (fun _ => False) wa wr)) (fun _ v _ => match v with | .int _ q => fs.length - q.toNat | _ => 0)
  case atStart => exact ⟨0, [], rfl, Nat.zero_le _, SpFs.nil _ _, Fr.refl _ _⟩
  case round =>
    obtain ⟨k, L, rfl, hk, HO, HF⟩ := hrel
    have c1 : wr.cell? ⟨H, 1, none⟩ = some (.slice a fs.length c) := by rw [cell_of0 (HB0.out wr HF.out)]; rfl
    by_cases hlt : k < fs.length
    · obtain ⟨pk, po, rfl, hpk, hcs⟩ := HE.out (by intro e; simp [e] at hlt)
      obtain ⟨x1, p0, p1, p2, p3, ix1⟩ := hcs k hlt
      have m1 := fun o => (HFA.out.trans HF.out).cell (o := o) hpk (fun h => h)
      have p0 := (m1 _).trans p0
      have p1 := (m1 _).trans p1
      have p2 := (m1 _).trans p2
      have p3 := (m1 _).trans p3
      have hB := HFI.out.2 _ (List.getElem_mem hlt)
      have HC : Hd (Calls Tryz.prog 14 #[.agg #[vI fs[k].P, vI fs[k].R, vI fs[k].V, x1]] wr fun e w' => ∃ x', e = .returned (.agg #[vI fs[k].P, vI fs[k].R, vI fs[k].V, x']) ∧ SpK w' wr.heap.size x' fs[k].code ∧ Fr (fun _ => False) wr w') := spareFunc_any fs[k] x1 wr (ix1.stay (HFA.out.trans HF.out)) (by omega) (fun c hc => by have := hB.2 c hc; omega)
      have HT : Hd (fs.take (k + 1) = fs.take k ++ [fs[k]]) := by unfold Hd; rw [List.take_add_one, List.getElem?_eq_getElem hlt]; rfl
      have HUL : Hd (L.length = k) := by have h9 := HO.out.len; unfold Hd; rw [h9, List.length_take]; omega
      obtain ⟨va, vc, ev, -⟩ := ix1
      clear hB hcs m1
      generalize fs[k] = f at *
      subst ev
      have hk0 : (0 : Int) ≤ k := by omega
      have hk1 : (k : Int) < fs.length := by omega
      go_wp2_with fail
      refine HC.out.mono ?_
      rintro e w2 ⟨x, rfl, hx, hF2⟩
      obtain ⟨xa, xc, ex⟩ : ∃ xa xc, x = .slice (some ⟨xa, 0, none⟩) f.code.length xc := by obtain ⟨xa, xc, _, e, -⟩ := hx; exact ⟨xa, xc, e⟩
      subst ex
      obtain ⟨wb, hwb⟩ : ∃ wb, wb = w2.alloc (.cells #[vI f.P, vI f.R, vI f.V, .slice (some ⟨xa, 0, none⟩) f.code.length xc] 41) := ⟨_, rfl⟩
      have HWB : Hd (wb = w2.alloc (.cells #[vI f.P, vI f.R, vI f.V, .slice (some ⟨xa, 0, none⟩) f.code.length xc] 41)) := hwb
      have hFb : Fr (fun _ => False) w2 wb := by rw [hwb]; exact Fr.alloc (Fr.refl _ _) _
      have bx : wb.heap[w2.heap.size]? = some (.cells #[vI f.P, vI f.R, vI f.V, .slice (some ⟨xa, 0, none⟩) f.code.length xc] 41) := by rw [hwb]; exact heap_new0 w2 _
      have hwz : wb.heap.size = w2.heap.size + 1 := by rw [hwb]; simp
      obtain ⟨X, hX⟩ : ∃ X, X = w2.heap.size := ⟨_, rfl⟩
      have HX : Hd (X = w2.heap.size) := hX
      rw [← hX] at bx hwz
      have u0 : wb.cell? ⟨X, 0, none⟩ = some (vI f.P) := by rw [cell_of0 bx]; rfl
      have u1 : wb.cell? ⟨X, 1, none⟩ = some (vI f.R) := by rw [cell_of0 bx]; rfl
      have u2 : wb.cell? ⟨X, 2, none⟩ = some (vI f.V) := by rw [cell_of0 bx]; rfl
      have v3 : wb.cell? ⟨X, 3, none⟩ = some (.slice (some ⟨xa, 0, none⟩) f.code.length xc) := by rw [cell_of0 bx]; rfl
      have HFc : Hd (Fr (fun _ => False) wb (wb.alloc (.cells #[vI f.P, vI f.R, vI f.V, .slice (some ⟨xa, 0, none⟩) f.code.length xc] 41))) := Fr.alloc (Fr.refl _ _) _
      have HFd : Hd (Fr (fun _ => False) wr (wb.alloc (.cells #[vI f.P, vI f.R, vI f.V, .slice (some ⟨xa, 0, none⟩) f.code.length xc] 41))) := (hF2.trans hFb).trans HFc.out
      have HO1 : Hd (SpFs (wb.alloc (.cells #[vI f.P, vI f.R, vI f.V, .slice (some ⟨xa, 0, none⟩) f.code.length xc] 41)) wa.heap.size u3 L (fs.take k) 0) := HO.out.stay HFd.out
      have HX1 : Hd (SpK (wb.alloc (.cells #[vI f.P, vI f.R, vI f.V, .slice (some ⟨xa, 0, none⟩) f.code.length xc] 41)) wa.heap.size (.slice (some ⟨xa, 0, none⟩) f.code.length xc) f.code) := (hx.mono HF.out.size).stay (hFb.trans HFc.out)
      have hnews : ∀ j u, [vI f.P, vI f.R, vI f.V, .slice (some ⟨xa, 0, none⟩) f.code.length xc][j]? = some u → (wb.alloc (.cells #[vI f.P, vI f.R, vI f.V, .slice (some ⟨xa, 0, none⟩) f.code.length xc] 41)).cell? ((⟨wb.heap.size, 0, none⟩ : Addr).add j) = some u :=
        World.news_of_block (cs := #[vI f.P, vI f.R, vI f.V, .slice (some ⟨xa, 0, none⟩) f.code.length xc]) (heap_new0 wb _)
      have HF1 : Hd (Fr (fun _ => False) wa (wb.alloc (.cells #[vI f.P, vI f.R, vI f.V, .slice (some ⟨xa, 0, none⟩) f.code.length xc] 41))) := HF.out.trans HFd.out
      have hbase : wa.heap.size ≤ (wb.alloc (.cells #[vI f.P, vI f.R, vI f.V, .slice (some ⟨xa, 0, none⟩) f.code.length xc] 41)).heap.size := HF1.out.size
      have hUl : L.length + 1 ≤ 3000000001 := by have := HUL.out; omega
      clear hx hF2 hwb hFb bx hX HF HO HC p0 p1 p2 p3 c1 hwz
      go_upto_region 6 with fail
      rw [← HWB.out, ← HX.out]
      clear HWB
      go_wp2_with ((at_builtin; refine Hd.out ?_))
      unfold Hd
      refine wpList_append_lies _ rfl (.tmp 20) (.tmp 22) 22 rfl wa.heap.size 41 i7 (.agg #[vI 0, vI 0, vI 0, .slice none 0 0]) 4 48 under24 hi7 hz7 hs7 hb7 rfl (by omega) u3 L.length _ rfl HO1.out.row ⟨wb.heap.size, 0, none⟩ 1 1 [vI f.P, vI f.R, vI f.V, .slice (some ⟨xa, 0, none⟩) f.code.length xc] rfl rfl hnews (by intro u hu; simp at hu; rcases hu with rfl | rfl | rfl | rfl <;> rfl) (by omega) (by unfold maxLen; omega) (by omega) hbase (wb.heap.size + 1) (by simp) ?_
      intro g6 cap6 w6 hown6 hgrow6 hat6 hlt6
      have HO6 : Hd (SpFs w6 wa.heap.size (.slice (some ⟨g6, 0, none⟩) (L.length + 1) cap6) (L ++ [(f, .slice (some ⟨xa, 0, none⟩) f.code.length xc)]) (fs.take (k + 1)) 0) := by unfold Hd; rw [HT.out]; exact HO1.out.app1 HX1.out hgrow6 hown6
      have HF6 : Hd (Fr (fun _ => False) wa w6) := grow_fr0 HF1.out hgrow6 (fun k hk => (World.ownsRow.lt HO1.out.row k hk).1)
      clear hown6 hgrow6 hat6 hlt6 HO1 hnews hbase HF1 HX1 HFc HFd u0 u1 u2 v3
      go_wp2_with fail
      exact ⟨⟨k + 1, _, by simp, by omega, HO6.out, HF6.out⟩, by simp; omega⟩
    · have hdk : decide ((k : Int) < fs.length) = false := by simp; omega
      have HO2 : Hd (SpFs wr wa.heap.size u3 L fs 0) := by have := HO.out; rw [List.take_of_length_le (by omega)] at this; exact this
      clear HO
      go_wp2_with fail
      clear hdk c1
      obtain ⟨wo, hwo⟩ : ∃ wo, wo = wr := ⟨_, rfl⟩
      rw [← hwo] at HO2 HF ⊢
      clear hwo
      go_loopw [3, 6] (fun mv v wr => ∃ (k : Nat) (L : List (PF × Value)), v = .int .i64 k ∧ k ≤ 64 ∧ Hd (SpFs wr wa.heap.size mv L fs k) ∧ Hd (Fr (fun _ => False) wa wr)) (fun _ v _ => match v with | .int _ q => 64 - q.toNat | _ => 0)
      case atStart => exact ⟨0, L, rfl, Nat.zero_le _, HO2.out, HF.out⟩
      case round =>
        clear HO2 HF
        obtain ⟨k, L, rfl, hk, HO, HF⟩ := hrel
        by_cases hlt : k < 64
        · have hk0 : (0 : Int) ≤ k := by omega
          have hk1 : (k : Int) < 64 := by omega
          have hw : IntKind.i64.wrap (-76 - (k : Int)) = -76 - (k : Int) := by simp [IntKind.wrap, IntKind.bits, IntKind.signed]; omega
          have HFc : Hd (Fr (fun _ => False) wr (wr.alloc (.cells #[vI (-76 - (k : Int)), vI 0, vI 0, .slice none 0 0] 41))) := Fr.alloc (Fr.refl _ _) _
          have HO1 : Hd (SpFs (wr.alloc (.cells #[vI (-76 - (k : Int)), vI 0, vI 0, .slice none 0 0] 41)) wa.heap.size u3 L fs k) := HO.out.stay HFc.out
          have hnews : ∀ j u, [vI (-76 - (k : Int)), vI 0, vI 0, .slice none 0 0][j]? = some u → (wr.alloc (.cells #[vI (-76 - (k : Int)), vI 0, vI 0, .slice none 0 0] 41)).cell? ((⟨wr.heap.size, 0, none⟩ : Addr).add j) = some u :=
            World.news_of_block (cs := #[vI (-76 - (k : Int)), vI 0, vI 0, .slice none 0 0]) (heap_new0 wr _)
          have HF1 : Hd (Fr (fun _ => False) wa (wr.alloc (.cells #[vI (-76 - (k : Int)), vI 0, vI 0, .slice none 0 0] 41))) := HF.out.trans HFc.out
          have hbase : wa.heap.size ≤ (wr.alloc (.cells #[vI (-76 - (k : Int)), vI 0, vI 0, .slice none 0 0] 41)).heap.size := HF1.out.size
          have hUl : L.length + 1 ≤ 3000000065 := by have := HO.out.len; omega
          clear HO HF
          go_wp2_with ((at_builtin; refine Hd.out ?_))
          unfold Hd
          refine wpList_append_lies _ rfl (.tmp 28) (.tmp 32) 22 rfl wa.heap.size 41 i7 (.agg #[vI 0, vI 0, vI 0, .slice none 0 0]) 4 48 under24 hi7 hz7 hs7 hb7 rfl (by omega) u3 L.length _ rfl HO1.out.row ⟨wr.heap.size, 0, none⟩ 1 1 [vI (-76 - (k : Int)), vI 0, vI 0, .slice none 0 0] rfl rfl hnews (by intro u hu; simp at hu; rcases hu with rfl | rfl | rfl <;> rfl) (by omega) (by unfold maxLen; omega) (by omega) hbase (wr.heap.size + 1) (by simp) ?_
          intro g6 cap6 w6 hown6 hgrow6 hat6 hlt6
          have HO6 : Hd (SpFs w6 wa.heap.size (.slice (some ⟨g6, 0, none⟩) (L.length + 1) cap6) (L ++ [(⟨-76 - (k : Int), 0, 0, []⟩, .slice none 0 0)]) fs (k + 1)) := HO1.out.app2 hgrow6 hown6
          have HF6 : Hd (Fr (fun _ => False) wa w6) := grow_fr0 HF1.out hgrow6 (fun k hk => (World.ownsRow.lt HO1.out.row k hk).1)
          clear hown6 hgrow6 hat6 hlt6 HO1 hnews hbase HF1 HFc
          go_wp2_with fail
          exact ⟨⟨k + 1, _, by simp, by omega, HO6.out, HF6.out⟩, by simp; omega⟩
        · have hke : k = 64 := by omega
          subst hke
          have hlen : L.length = fs.length + 64 := HO.out.len
          obtain ⟨g, cap, rfl, hcap⟩ : ∃ g cap, u3 = .slice (some ⟨g, 0, none⟩) (fs.length + 64) cap ∧ fs.length + 64 ≤ cap := by
            rcases HO.out.row.2 with ⟨-, h3⟩ | ⟨g, cap, cur, e, -, -, h5, -⟩
            · omega
            · rw [hlen] at e h5; exact ⟨g, cap, e, h5⟩
          have hn0 : (0 : Int) ≤ fs.length := by omega
          have hn1 : (fs.length : Int) ≤ cap := by omega
          have hB0 := HB0.out wr HF.out
          have hB1 := HB1.out wr HF.out
          have c0 : wr.cell? ⟨H, 0, none⟩ = some (vI G) := by rw [cell_of0 hB0]; rfl
          have c1 : wr.cell? ⟨H, 1, none⟩ = some (.slice a fs.length c) := by rw [cell_of0 hB0]; rfl
          have y0 : wr.cell? ⟨H + 1, 0, none⟩ = some (vI 0) := by rw [cell_of0 hB1]; rfl
          have y1 : wr.cell? ⟨H + 1, 1, none⟩ = some (.slice none 0 0) := by rw [cell_of0 hB1]; rfl
          have z0 := frozen_of hB1 0
          have z1 := frozen_of hB1 1
          have hE0 : ((wr.setCell ⟨H + 1, 0, none⟩ (vI G)).setCell ⟨H + 1, 1, none⟩ (.slice (some ⟨g, 0, none⟩) fs.length cap)).drew.heap[H + 1]? = some (.cells #[vI G, .slice (some ⟨g, 0, none⟩) fs.length cap] 24) := set_of (set_of hB1 0 _) 1 _
          have hfz : Fr (fun j => j = H + 1) wr ((wr.setCell ⟨H + 1, 0, none⟩ (vI G)).setCell ⟨H + 1, 1, none⟩ (.slice (some ⟨g, 0, none⟩) fs.length cap)).drew := ((setCell_fr wr (H + 1) 0 _).trans (setCell_fr _ (H + 1) 1 _)).drew
          have hSp : SpFs ((wr.setCell ⟨H + 1, 0, none⟩ (vI G)).setCell ⟨H + 1, 1, none⟩ (.slice (some ⟨g, 0, none⟩) fs.length cap)).drew wa.heap.size (.slice (some ⟨g, 0, none⟩) (fs.length + 64) cap) L fs 64 := by
            have hs := HWS.out
            refine ⟨ownsRow_frL HO.out.row hfz (fun j e e2 => by have := (World.ownsRow.lt HO.out.row j e).1; omega), HO.out.len, fun i hi hi' => ⟨(HO.out.each i hi hi').1, ?_⟩, HO.out.mrk⟩
            obtain ⟨g', cap', L', e1, e2, e3, e4⟩ := (HO.out.each i hi hi').2
            exact ⟨g', cap', L', e1, e2, e3, e4.up hfz (fun k hk e => by omega)⟩
          have HEN : Hd (SpF ((wr.setCell ⟨H + 1, 0, none⟩ (vI G)).setCell ⟨H + 1, 1, none⟩ (.slice (some ⟨g, 0, none⟩) fs.length cap)).drew w.heap.size (.slice (some ⟨g, 0, none⟩) fs.length cap) fs) := ⟨g, cap, L, rfl, hcap, hSp.mono HFA.out.size⟩
          have HFz : Hd (Fr (fun _ => False) w ((wr.setCell ⟨H + 1, 0, none⟩ (vI G)).setCell ⟨H + 1, 1, none⟩ (.slice (some ⟨g, 0, none⟩) fs.length cap)).drew) := (HFA.out.trans HF.out).then hfz (fun j hj e => by have := HH.out; omega)
          have HE0 : Hd (((wr.setCell ⟨H + 1, 0, none⟩ (vI G)).setCell ⟨H + 1, 1, none⟩ (.slice (some ⟨g, 0, none⟩) fs.length cap)).drew.heap[H + 1]? = some (.cells #[vI G, .slice (some ⟨g, 0, none⟩) fs.length cap] 24)) := hE0
          clear hE0 hfz hSp hB0 hB1 hlen HO HF
          go_upto_region 11 with fail
          go_region
          all_goals
            go_wp2_with fail
            generalize ((wr.setCell ⟨H + 1, 0, none⟩ (vI G)).setCell ⟨H + 1, 1, none⟩ (.slice (some ⟨g, 0, none⟩) fs.length cap)).drew = wv at *
            have e0 : wv.cell? ⟨H + 1, 0, none⟩ = some (vI G) := by rw [cell_of0 HE0.out]; rfl
            have e1 : wv.cell? ⟨H + 1, 1, none⟩ = some (.slice (some ⟨g, 0, none⟩) fs.length cap) := by rw [cell_of0 HE0.out]; rfl
            refine bodyPost_ret (v := .agg #[vI G, .slice (some ⟨g, 0, none⟩) fs.length cap]) ?_ rfl ⟨_, rfl, HEN.out, HFz.out⟩
            rw [results_cell (p := 2) (ty := 24) Tryz.results6]
            simp [go_sem, e0, e1]

set_option maxRecDepth 100000 in
set_option maxHeartbeats 2000000 in
theorem stays_any (G : Int) (sv pv : Value) (fs : List PF) (B : Nat) (w : World) (h : SpF w B sv fs) (h2 : FA w pv fs) (hF : FinP fs) :
    Calls Tryz.prog 9 #[.agg #[vI G, sv], .agg #[vI G, pv]] w fun e w' => e = .returned (.bool true) ∧ Fr (fun _ => False) w w' := by
  obtain ⟨g, cap, L, rfl, hcap, h⟩ := h
  have hl := h.len
  have hel := hF.1
  obtain ⟨pa, pc, rfl, hp⟩ := h2
  have HP : Hd (∀ wx, Fr (fun _ => False) w wx → ∀ k (hk : k < fs.length), ∃ pk po y, pa = some ⟨pk, po, none⟩ ∧ wx.cell? ⟨pk, po + k * 4, none⟩ = some (vI fs[k].P) ∧ wx.cell? ⟨pk, po + k * 4 + 1, none⟩ = some (vI fs[k].R) ∧ wx.cell? ⟨pk, po + k * 4 + 2, none⟩ = some (vI fs[k].V) ∧ wx.cell? ⟨pk, po + k * 4 + 3, none⟩ = some y ∧ CA wx y fs[k].code) := fun wx hx k hk => by
    obtain ⟨pk, po, e, h1, h2⟩ := hp (by intro e; simp [e] at hk)
    obtain ⟨y, c0, c1, c2, c3, hy⟩ := h2 k hk
    have m := fun o => hx.cell (o := o) h1 (fun e => e)
    exact ⟨pk, po, y, e, (m _).trans c0, (m _).trans c1, (m _).trans c2, (m _).trans c3, hy.stay hx⟩
  have HS : Hd (∀ wx, Fr (fun _ => False) w wx → ∀ k (hk : k < fs.length), ∃ x, wx.cell? ⟨g, k * 4, none⟩ = some (vI fs[k].P) ∧ wx.cell? ⟨g, k * 4 + 1, none⟩ = some (vI fs[k].R) ∧ wx.cell? ⟨g, k * 4 + 2, none⟩ = some (vI fs[k].V) ∧ wx.cell? ⟨g, k * 4 + 3, none⟩ = some x ∧ SpK wx B x fs[k].code) := fun wx hx k hk => by
    have hh := h.stay hx
    obtain ⟨h3, h4⟩ := hh.each k (by omega) hk
    have c0 := (hh.cell (j := k) (o := 0) (by omega) (by omega) rfl).2
    have c1 := (hh.cell (j := k) (o := 1) (by omega) (by omega) rfl).2
    have c2 := (hh.cell (j := k) (o := 2) (by omega) (by omega) rfl).2
    have c3 := (hh.cell (j := k) (o := 3) (by omega) (by omega) rfl).2
    rw [h3] at c0 c1 c2
    exact ⟨_, c0, c1, c2, c3, h4⟩
  have HM : Hd (∀ wx, Fr (fun _ => False) w wx → ∀ k, k < 64 → wx.cell? ⟨g, (fs.length + k) * 4, none⟩ = some (vI (-76 - (k : Int)))) := fun wx hx k hk => by
    have hh := h.stay hx
    have c0 := (hh.cell (j := fs.length + k) (o := 0) (by omega) (by omega) rfl).2
    have h3 := hh.mrk (fs.length + k) (by omega) (by omega)
    rw [Nat.add_sub_cancel_left] at h3
    rw [h3] at c0
    exact c0
  have HCT : Hd (∀ wx k (hk : k < fs.length) x y, SpK wx B x fs[k].code → CA wx y fs[k].code → Calls Tryz.prog 24 #[.agg #[vI fs[k].P, vI fs[k].R, vI fs[k].V, x], .agg #[vI fs[k].P, vI fs[k].R, vI fs[k].V, y]] wx fun e w' => e = .returned (.bool true) ∧ Fr (fun _ => False) wx w') := fun wx k hk x y hx hy => by
    have hB := hF.2 _ (List.getElem_mem hk)
    exact staysFunc_any fs[k] x y B wx hx hy (by omega) (fun c hc => by have := hB.2 c hc; omega)
  obtain ⟨wa, hwa⟩ : ∃ wa, wa = (w.alloc (.cells #[vI G, .slice (some ⟨g, 0, none⟩) fs.length cap] 24)).alloc (.cells #[vI G, .slice pa fs.length pc] 24) := ⟨_, rfl⟩
  have HWA : Hd (wa = (w.alloc (.cells #[vI G, .slice (some ⟨g, 0, none⟩) fs.length cap] 24)).alloc (.cells #[vI G, .slice pa fs.length pc] 24)) := hwa
  obtain ⟨H, hH⟩ : ∃ H, H = w.heap.size := ⟨_, rfl⟩
  have HH : Hd (H = w.heap.size) := hH
  have hb0 : wa.heap[H]? = some (.cells #[vI G, .slice (some ⟨g, 0, none⟩) fs.length cap] 24) := by rw [hwa, hH]; exact keepA (heap_new0 w _) _
  have hb1 : wa.heap[H + 1]? = some (.cells #[vI G, .slice pa fs.length pc] 24) := by
    rw [hwa, hH]
    have := heap_new0 (w.alloc (.cells #[vI G, .slice (some ⟨g, 0, none⟩) fs.length cap] 24)) (.cells #[vI G, .slice pa fs.length pc] 24)
    rw [World.size_alloc] at this
    exact this
  have HFA : Hd (Fr (fun _ => False) w wa) := by unfold Hd; rw [hwa]; exact Fr.alloc (Fr.alloc (Fr.refl _ w) _) _
  have HB : Hd (∀ wx, Fr (fun _ => False) wa wx → wx.cell? ⟨H, 0, none⟩ = some (vI G) ∧ wx.cell? ⟨H, 1, none⟩ = some (.slice (some ⟨g, 0, none⟩) fs.length cap) ∧ wx.cell? ⟨H + 1, 0, none⟩ = some (vI G) ∧ wx.cell? ⟨H + 1, 1, none⟩ = some (.slice pa fs.length pc)) := fun wx hx => by
    have k0 := keepF hb0 hx
    have k1 := keepF hb1 hx
    exact ⟨by rw [cell_of0 k0]; rfl, by rw [cell_of0 k0]; rfl, by rw [cell_of0 k1]; rfl, by rw [cell_of0 k1]; rfl⟩
  clear hwa hH hb0 hb1 h hl hF hp
  obtain ⟨n, hnl⟩ : ∃ n, n = fs.length := ⟨_, rfl⟩
  have HNL : Hd (n = fs.length) := hnl
  rw [← hnl] at hel hcap HM HB HWA ⊢
  clear hnl
  have hn0 : (0 : Int) ≤ (n : Int) + 64 := by omega
  have hn1 : (n : Int) + 64 ≤ cap := by omega
  have ht : ((n : Int) + 64).toNat = n + 64 := by omega
  obtain ⟨c0, c1, d0, d1⟩ := HB.out wa (Fr.refl _ _)
  go_enter Tryz.func9, Tryz.ntmps9
  go_upto_region 1 with fail
  rw [← HWA.out, ← HH.out]
  clear HWA
  go_wp2_with fail
  clear c0 c1 d0 d1
  go_loopw [6] (fun v wr => ∃ (k : Nat), v = .int .i64 k ∧ k ≤ 64 ∧ wr = wa) (fun v _ => match v with | .int _ q => 64 - q.toNat | _ => 0)
  case atStart => exact ⟨0, rfl, by omega, rfl⟩
  case round =>
    obtain ⟨k, rfl, hk, rfl⟩ := hrel
    obtain ⟨c0, c1, d0, d1⟩ := HB.out wr (Fr.refl _ _)
    by_cases hlt : k < 64
    · have hk0 : (0 : Int) ≤ (n : Int) + k := by omega
      have hk1 : (k : Int) < 64 := by omega
      have hk3 : (n : Int) + k < ((n + 64 : Nat) : Int) := by omega
      have ht2 : ((n : Int) + k).toNat = n + k := by omega
      have p0 := HM.out wr HFA.out k hlt
      have hw : IntKind.i64.wrap (-76 - (k : Int)) = -76 - (k : Int) := by simp [IntKind.wrap, IntKind.bits, IntKind.signed]; omega
      go_wp2_with fail
      exact ⟨⟨k + 1, by simp, by omega, by trivial⟩, by simp; omega⟩
    · have hd64 : decide ((k : Int) < 64) = false := by simp; omega
      clear hk hlt
      go_wp2_with fail
      clear hd64 c0 c1 d0 d1
      obtain ⟨wo, hwo⟩ : ∃ wo, wo = wr := ⟨_, rfl⟩
      rw [← hwo] at HFA HB ⊢
      clear hwo
      go_loopw [7] (fun v wr => ∃ (k : Nat), v = .int .i64 k ∧ k ≤ n ∧ Hd (Fr (fun _ => False) wo wr)) (fun v _ => match v with | .int _ q => n - q.toNat | _ => 0)
      case atStart => exact ⟨0, rfl, by omega, Fr.refl _ _⟩
      case round =>
        obtain ⟨k, rfl, hk, HF⟩ := hrel
        obtain ⟨c0, c1, d0, d1⟩ := HB.out wr HF.out
        by_cases hlt : k < n
        · have hk0 : (0 : Int) ≤ k := by omega
          have hk1 : (k : Int) < n := by omega
          have hkf : k < fs.length := by have := HNL.out; omega
          have hfd := Fr.drew (HFA.out.trans HF.out)
          obtain ⟨pk, po, y, rfl, q0, q1, q2, q3, -⟩ := HP.out wr (HFA.out.trans HF.out) k hkf
          obtain ⟨x, p0, p1, p2, p3, -⟩ := HS.out wr (HFA.out.trans HF.out) k hkf
          have hct : Calls Tryz.prog 24 #[.agg #[vI fs[k].P, vI fs[k].R, vI fs[k].V, x], .agg #[vI fs[k].P, vI fs[k].R, vI fs[k].V, y]] wr.drew fun e w' => e = .returned (.bool true) ∧ Fr (fun _ => False) wr.drew w' := by
            obtain ⟨pk', po', y', e, -, -, -, q3', hy⟩ := HP.out wr.drew hfd k hkf
            obtain ⟨x', -, -, -, p3', hx⟩ := HS.out wr.drew hfd k hkf
            cases e
            have e1 : y' = y := Option.some.inj (q3'.symm.trans q3)
            have e2 : x' = x := Option.some.inj (p3'.symm.trans p3)
            subst e1 e2
            exact HCT.out wr.drew k hkf _ _ hx hy
          obtain ⟨xa, xl, xc, ex⟩ : ∃ xa xl xc, x = .slice xa xl xc := by
            obtain ⟨x', -, -, -, p3', hx⟩ := HS.out wr (HFA.out.trans HF.out) k hkf
            have e2 : x' = x := Option.some.inj (p3'.symm.trans p3)
            subst e2
            obtain ⟨_, _, _, e, -⟩ := hx
            exact ⟨_, _, _, e⟩
          obtain ⟨ya, yl, yc, ey⟩ : ∃ xa xl xc, y = .slice xa xl xc := by
            obtain ⟨pk', po', y', e, -, -, -, q3', hy⟩ := HP.out wr (HFA.out.trans HF.out) k hkf
            cases e
            have e1 : y' = y := Option.some.inj (q3'.symm.trans q3)
            subst e1
            obtain ⟨_, _, e, -⟩ := hy
            exact ⟨_, _, _, e⟩
          subst ex ey
          have HC : Hd _ := hct
          generalize fs[k] = f at *
          clear hct hfd hkf
          go_upto_region 12 with fail
          refine wp_region_still_tail 10 mixed (by kernel_rfl) ?_
          simp only [List.take_succ_cons, List.take_zero, List.drop_succ_cons, List.drop_zero]
          repeat still_step
          refine wpStill_nil ?_
          go_wp2_with fail
          refine Calls.mono HC.out ?_
          rintro e w1 ⟨rfl, hF1⟩
          have HF1 : Hd (Fr (fun _ => False) wo w1) := HF.out.drew.trans hF1
          clear hF1 p0 p1 p2 p3 q0 q1 q2 q3 HC c0 c1 d0 d1
          go_wp2_with fail
          exact ⟨⟨k + 1, by simp, by omega, HF1.out⟩, by simp; omega⟩
        · have dk : decide ((k : Int) < n) = false := by simp; omega
          go_wp2_with fail
          go_ret
          exact ⟨rfl, HFA.out.trans HF.out⟩

/-! ### code written over where it lies -/
theorem list_of {α : Type} {P : Nat → α → Prop} : ∀ (n : Nat), (∀ i, i < n → ∃ x, P i x) → ∃ l : List α, l.length = n ∧ ∀ i (h : i < l.length), P i l[i]
  | 0, _ => ⟨[], rfl, fun i h => by simp at h⟩
  | n + 1, h => by
    obtain ⟨l, h1, h2⟩ := list_of n (fun i hi => h i (by omega))
    obtain ⟨x, hx⟩ := h n (by omega)
    refine ⟨l ++ [x], by simp [h1], fun i hi => ?_⟩
    by_cases e : i < l.length
    · rw [List.getElem_append_left e]
      exact h2 i e
    · have e1 : i = l.length := by simp at hi; omega
      subst e1
      simp
      rw [h1]
      exact hx
def AllN (w : World) (k m : Nat) : Prop := ∃ cs : Array Value, w.heap[k]? = some (.cells cs 3) ∧ m ≤ cs.size ∧ ∀ j, j < m → ∃ z, cs[j]? = some (vI z)
def NL (w : World) (B : Nat) (v : Value) (n : Nat) : Prop := ∃ g cap m, v = .slice (some ⟨g, 0, none⟩) n cap ∧ n ≤ m ∧ B ≤ g ∧ AllN w g m
theorem AllN.cell {w : World} {k m : Nat} (h : AllN w k m) {j : Nat} (hj : j < m) : k < w.heap.size ∧ (∃ z, w.cell? ⟨k, j, none⟩ = some (vI z)) ∧ w.frozen? ⟨k, j, none⟩ = false := by
  obtain ⟨cs, h1, h2, h3⟩ := h
  obtain ⟨z, hz⟩ := h3 j hj
  exact ⟨heap_lt0 h1, ⟨z, by rw [cell_of0 h1]; exact hz⟩, frozen_of h1 j⟩
theorem AllN.congr {w w' : World} {k m : Nat} (h : AllN w k m) (e : w'.heap[k]? = w.heap[k]?) : AllN w' k m := by
  obtain ⟨cs, h1, h2⟩ := h
  exact ⟨cs, e.trans h1, h2⟩
theorem NL.ia {w : World} {B : Nat} {v : Value} {n : Nat} (h : NL w B v n) : ∃ l : List Int, l.length = n ∧ IA w v l := by
  obtain ⟨g, cap, m, rfl, h1, h2, cs, h3, h4, h5⟩ := h
  have hz : ∀ j, j < n → ∃ z, cs[j]? = some (vI z) := fun j hj => h5 j (by omega)
  have hf : ∃ f : Nat → Int, ∀ j, j < n → cs[j]? = some (vI (f j)) := ⟨fun j => if h : j < n then (hz j h).choose else 0, fun j hj => by
    simp only [dif_pos hj]
    exact (hz j hj).choose_spec⟩
  obtain ⟨f, hf⟩ := hf
  refine ⟨(List.range n).map f, by simp, _, cap, by simp, fun _ => ⟨g, 0, rfl, heap_lt0 h3, fun j hj => ?_⟩⟩
  have hj' : j < n := by simpa using hj
  rw [Nat.zero_add, cell_of0 h3, hf j hj']
  simp

theorem AllN.lt {w : World} {k m : Nat} (h : AllN w k m) : k < w.heap.size := by
  obtain ⟨cs, h1, -⟩ := h
  exact heap_lt0 h1
def NB (w : World) (B : Nat) (v : Value) : Prop := ∃ n, n ≤ 2147483647 ∧ NL w B v n
def RowC (w : World) (B : Nat) (cs : Array Value) (i : Nat) : Prop :=
  ∃ a b c d e u v, cs[i * 7]? = some (vI a) ∧ cs[i * 7 + 1]? = some (vI b) ∧ cs[i * 7 + 2]? = some (vI c) ∧ cs[i * 7 + 3]? = some (vI d) ∧ cs[i * 7 + 4]? = some (vI e) ∧ cs[i * 7 + 5]? = some u ∧ cs[i * 7 + 6]? = some v ∧ NB w B u ∧ NB w B v
def AllC (w : World) (B k m : Nat) : Prop := ∃ cs : Array Value, w.heap[k]? = some (.cells cs 43) ∧ ∀ i, i < m → RowC w B cs i
theorem NB.to {w w' : World} {B : Nat} {v : Value} (h : NB w B v) (t : ∀ k m, AllN w k m → AllN w' k m) : NB w' B v := by
  obtain ⟨n, hn, g, cap, m, e, h1, h2, h3⟩ := h
  exact ⟨n, hn, g, cap, m, e, h1, h2, t _ _ h3⟩
theorem RowC.to {w w' : World} {B : Nat} {cs : Array Value} {i : Nat} (h : RowC w B cs i) (t : ∀ k m, AllN w k m → AllN w' k m) : RowC w' B cs i := by
  obtain ⟨a, b, c, d, e, u, v, h1, h2, h3, h4, h5, h6, h7, h8, h9⟩ := h
  exact ⟨a, b, c, d, e, u, v, h1, h2, h3, h4, h5, h6, h7, h8.to t, h9.to t⟩
theorem RowC.lt {w : World} {B : Nat} {cs : Array Value} {i : Nat} (h : RowC w B cs i) : i * 7 + 6 < cs.size := by
  obtain ⟨a, b, c, d, e, u, v, h1, h2, h3, h4, h5, h6, h7, h8, h9⟩ := h
  exact (Array.getElem?_eq_some_iff.1 h7).1
theorem AllC.to {w w' : World} {B k m : Nat} (h : AllC w B k m) (e : w'.heap[k]? = w.heap[k]?) (t : ∀ k m, AllN w k m → AllN w' k m) : AllC w' B k m := by
  obtain ⟨cs, h1, h2⟩ := h
  exact ⟨cs, e.trans h1, fun i hi => (h2 i hi).to t⟩
theorem AllC.lt {w : World} {B k m : Nat} (h : AllC w B k m) : k < w.heap.size := by
  obtain ⟨cs, h1, -⟩ := h
  exact heap_lt0 h1
theorem AllC.ne {w : World} {B k m g q : Nat} (h : AllC w B k m) (h2 : AllN w g q) : k ≠ g := by
  intro e
  subst e
  obtain ⟨cs, h1, -⟩ := h
  obtain ⟨cs', h3, -⟩ := h2
  rw [h1] at h3
  injection h3 with h3
  injection h3 with _ h3
  cases h3
/-- Blocks of instructions from B on, below C, may have been written over: they are such blocks. -/
structure Tc (B C : Nat) (w w' : World) : Prop where
  fr : Fr (fun k => B ≤ k ∧ k < C ∧ ∃ cs, w.heap[k]? = some (.cells cs 43)) w w'
  code : ∀ k m, AllC w B k m → AllC w' B k m
theorem Tc.refl (B C : Nat) (w : World) : Tc B C w w := ⟨Fr.refl _ _, fun _ _ h => h⟩
theorem Tc.trans {B C : Nat} {a b c : World} (h : Tc B C a b) (k : Tc B C b c) : Tc B C a c := by
  refine ⟨h.fr.then k.fr (fun j hj e => ⟨e.1, e.2.1, ?_⟩), fun q m hq => k.code q m (h.code q m hq)⟩
  by_cases e2 : B ≤ j ∧ j < C ∧ ∃ cs, a.heap[j]? = some (.cells cs 43)
  · exact e2.2.2
  · obtain ⟨cs, h1⟩ := e.2.2
    exact ⟨cs, (h.fr.block j hj e2).symm.trans h1⟩
theorem AllN.fr {S : Nat → Prop} {w w' : World} {k m : Nat} (h : AllN w k m) (f : Fr S w w') (hS : ¬ S k) : AllN w' k m := h.congr (f.block k h.lt hS)
theorem Tc.stay {B C : Nat} {a b c : World} (h : Tc B C a b) (f : Fr (fun _ => False) b c) : Tc B C a c :=
  h.trans ⟨f.mono (fun _ _ e => e.elim), fun k m hk => hk.to (f.block k hk.lt (fun e => e)) (fun q m hq => hq.fr f (fun e => e))⟩
theorem Tc.other {B C : Nat} {w w' : World} (h : Tc B C w w') {k t : Nat} {cs : Array Value} (hk : w.heap[k]? = some (.cells cs t)) (ht : t ≠ 43) : w'.heap[k]? = some (.cells cs t) := by
  refine (h.fr.block k (heap_lt0 hk) (fun e => ?_)).trans hk
  obtain ⟨-, -, cs', h1⟩ := e
  rw [hk] at h1
  injection h1 with h1
  injection h1 with _ e1
  exact ht e1
theorem Tc.frB {B C : Nat} {w w' : World} (h : Tc B C w w') : Fr (fun k => B ≤ k ∧ k < C) w w' := h.fr.mono (fun _ _ e => ⟨e.1, e.2.1⟩)
/-- The fifth cell of an instruction, written over. -/
theorem Tc.set4 {B C : Nat} {w : World} {g m : Nat} (h : AllC w B g m) (hB : B ≤ g ∧ g < C) {i : Nat} (hi : i < m) (z : Int) : Tc B C w (w.setCell ⟨g, i * 7 + 4, none⟩ (vI z)) := by
  have f := setCell_fr w g (i * 7 + 4) (vI z)
  have hI : ∀ k q, AllN w k q → AllN (w.setCell ⟨g, i * 7 + 4, none⟩ (vI z)) k q := fun k q hk => hk.fr f (fun e => h.ne hk e.symm)
  refine ⟨f.mono (fun k _ e => ?_), fun k q hk => ?_⟩
  · have e : k = g := e
    subst e
    obtain ⟨cs, h1, -⟩ := h
    exact ⟨hB.1, hB.2, cs, h1⟩
  · by_cases e : k = g
    · subst e
      obtain ⟨cs, h1, h2⟩ := hk
      refine ⟨cs.setIfInBounds (i * 7 + 4) (vI z), set_of h1 _ _, fun i' hi' => ?_⟩
      have hl := (h2 i' hi').lt
      obtain ⟨a, b, c, d, e, u, v, k1, k2, k3, k4, k5, k6, k7, k8, k9⟩ := (h2 i' hi').to hI
      have hne : ∀ o', i' * 7 + o' ≠ i * 7 + 4 → (cs.setIfInBounds (i * 7 + 4) (vI z))[i' * 7 + o']? = cs[i' * 7 + o']? := fun o' ne => by rw [Array.getElem?_setIfInBounds, if_neg (fun e => ne e.symm)]
      by_cases e2 : i' = i
      · subst e2
        have heq : (cs.setIfInBounds (i' * 7 + 4) (vI z))[i' * 7 + 4]? = some (vI z) := by rw [Array.getElem?_setIfInBounds, if_pos rfl, if_pos (by omega)]
        exact ⟨a, b, c, d, z, u, v, (hne 0 (by omega)).trans k1, (hne 1 (by omega)).trans k2, (hne 2 (by omega)).trans k3, (hne 3 (by omega)).trans k4, heq, (hne 5 (by omega)).trans k6, (hne 6 (by omega)).trans k7, k8, k9⟩
      · exact ⟨a, b, c, d, e, u, v, (hne 0 (by omega)).trans k1, (hne 1 (by omega)).trans k2, (hne 2 (by omega)).trans k3, (hne 3 (by omega)).trans k4, (hne 4 (by omega)).trans k5, (hne 5 (by omega)).trans k6, (hne 6 (by omega)).trans k7, k8, k9⟩
    · exact hk.to (f.block k hk.lt e) hI
/-- Functions whose code is such. -/
def NP (w : World) (B C : Nat) (v : Value) (N : Nat) (cn : Nat → Nat) : Prop :=
  ∃ g cap cs, v = .slice (some ⟨g, 0, none⟩) N cap ∧ w.heap[g]? = some (.cells cs 41) ∧ (B ≤ g ∧ g < C) ∧ ∀ i, i < N → ∃ a b c gc cc, cs[i * 4]? = some (vI a) ∧ cs[i * 4 + 1]? = some (vI b) ∧ cs[i * 4 + 2]? = some (vI c) ∧ cs[i * 4 + 3]? = some (.slice (some ⟨gc, 0, none⟩) (cn i) cc) ∧ (B ≤ gc ∧ gc < C) ∧ AllC w B gc (cn i)
theorem NP.tc {w w' : World} {B C : Nat} {v : Value} {N : Nat} {cn : Nat → Nat} (h : NP w B C v N cn) (t : Tc B C w w') : NP w' B C v N cn := by
  obtain ⟨g, cap, cs, e, h1, h0, h2⟩ := h
  refine ⟨g, cap, cs, e, t.other h1 (by decide), h0, fun i hi => ?_⟩
  obtain ⟨a, b, c, gc, cc, k1, k2, k3, k4, k5, k6⟩ := h2 i hi
  exact ⟨a, b, c, gc, cc, k1, k2, k3, k4, k5, t.code _ _ k6⟩
def NC (w : World) (B : Nat) (v : Value) (n : Nat) : Prop := ∃ g cap, v = .slice (some ⟨g, 0, none⟩) n cap ∧ B ≤ g ∧ AllC w B g n
/-- An instruction, as the walk reads it. -/
theorem AllC.row {w : World} {B g m : Nat} (h : AllC w B g m) {i : Nat} (hi : i < m) : (∃ a e, w.cell? ⟨g, i * 7, none⟩ = some (vI a) ∧ w.cell? ⟨g, i * 7 + 4, none⟩ = some (vI e)) ∧ w.frozen? ⟨g, i * 7 + 4, none⟩ = false := by
  obtain ⟨cs, h1, h2⟩ := h
  obtain ⟨a, b, c, d, e, u, v, k1, k2, k3, k4, k5, k6, k7, k8, k9⟩ := h2 i hi
  exact ⟨⟨a, e, by rw [cell_of0 h1]; exact k1, by rw [cell_of0 h1]; exact k5⟩, frozen_of h1 _⟩
def cnX (fs : List PF) (i : Nat) : Nat := (fs.getD i ⟨0, 0, 0, []⟩).code.length
theorem iown_all {w : World} {B g cap n : Nat} {l : List Int} (h : IOwn w B (.slice (some ⟨g, 0, none⟩) n cap) l) : B ≤ g ∧ AllN w g l.length := by
  rcases h.2 with ⟨e, -⟩ | ⟨g', cap', cur, e, h1, h2, h3, h4, h5, h6⟩
  · cases e
  · injection e with e1
    simp at e1
    subst e1
    refine ⟨h1, cur, h2, by omega, fun j hj => ⟨l[j], ?_⟩⟩
    have hc : cur.toList[j]? = some (vI l[j]) := by
      have k := congrArg (fun x => x[j]?) h6
      simp only [Nat.mul_one, List.getElem?_take, if_pos hj, List.getElem?_map, List.getElem?_eq_getElem hj] at k
      simpa using k
    simpa using hc
theorem SpI.nl {w : World} {B : Nat} {v : Value} {l : List Int} {m : Int} (h : SpI w B v l m) : NL w B v l.length := by
  obtain ⟨g, cap, rfl, hc, h⟩ := h
  obtain ⟨h1, h2⟩ := iown_all h
  exact ⟨g, cap, _, rfl, by simp, h1, h2⟩
theorem row_cells {w : World} {B e sz g n cap : Nat} {xs : List Value} (h : w.ownsRow B e sz (.slice (some ⟨g, 0, none⟩) n cap) n xs) : ∃ cs : Array Value, w.heap[g]? = some (.cells cs e) ∧ ∀ (j : Nat) (u : Value), xs[j]? = some u → cs[j]? = some u := by
  rcases h.2 with ⟨e1, -⟩ | ⟨g', cap', cur, e1, h1, h2, h3, h4, h5, h6⟩
  · cases e1
  · injection e1 with e2
    simp at e2
    subst e2
    refine ⟨cur, h2, fun j u hj => ?_⟩
    rw [← h6, List.getElem?_take] at hj
    split at hj
    · simpa using hj
    · cases hj
theorem SpI.nb {w : World} {B : Nat} {v : Value} {l : List Int} {m : Int} (h : SpI w B v l m) (hl : l.length ≤ 2147483647) : NB w B v := ⟨_, hl, h.nl⟩
theorem SpK.nc {w : World} {B : Nat} {v : Value} {cs : List PI} (h : SpK w B v cs) (hb : ∀ c ∈ cs, c.args.length ≤ 2147483647 ∧ c.rets.length ≤ 2147483647) : NC w B v cs.length := by
  obtain ⟨g, cap, L, rfl, hc, hL, h⟩ := h
  have hl : (L ++ mkC 64).length = cs.length + 64 := by rw [List.length_append, mkC_len, ← hL]; simp
  have hLl : L.length = cs.length := by rw [← hL]; simp
  have hrow := h.row
  rw [hl] at hrow
  obtain ⟨ds, h1, h2⟩ := row_cells hrow
  have hg : B ≤ g := (World.ownsRow.lt hrow g rfl).1
  refine ⟨g, cap, rfl, hg, ds, h1, fun i hi => ?_⟩
  have hiL : i < (L ++ mkC 64).length := by omega
  have hi2 : i < L.length := by omega
  have e1 : (L ++ mkC 64)[i] = L[i] := List.getElem_append_left hi2
  have hmem : L[i] ∈ (L ++ mkC 64).take cs.length := by
    rw [← hLl, List.take_left]
    exact List.getElem_mem hi2
  obtain ⟨s1, s2⟩ := h.ints _ hmem
  have hcm : L[i].1 ∈ cs := by rw [← hL]; exact List.mem_map.2 ⟨_, List.getElem_mem hi2, rfl⟩
  obtain ⟨b1, b2⟩ := hb _ hcm
  have hcell : ∀ o (ho : o < 7) (u : Value), (rowI L[i])[o]? = some u → ds[i * 7 + o]? = some u := fun o ho u hu => h2 (i * 7 + o) u (by rw [flat_get rowI 7 (fun _ => rfl) (L ++ mkC 64) i o hiL ho, e1]; exact hu)
  exact ⟨_, _, _, _, _, _, _, hcell 0 (by omega) _ rfl, hcell 1 (by omega) _ rfl, hcell 2 (by omega) _ rfl, hcell 3 (by omega) _ rfl, hcell 4 (by omega) _ rfl, hcell 5 (by omega) _ rfl, hcell 6 (by omega) _ rfl, s1.nb b1, s2.nb b2⟩
theorem SpF.np {w : World} {B : Nat} {v : Value} {fs : List PF} (h : SpF w B v fs) (hF : FinP fs) : NP w B w.heap.size v fs.length (cnX fs) := by
  obtain ⟨g, cap, L, rfl, hc, h⟩ := h
  have hl := h.len
  have hrow := h.row
  rw [hl] at hrow
  obtain ⟨cs, h1, h2⟩ := row_cells hrow
  refine ⟨g, cap, cs, rfl, h1, ⟨(World.ownsRow.lt hrow g rfl).1, heap_lt0 h1⟩, fun i hi => ?_⟩
  have hiL : i < L.length := by omega
  obtain ⟨k1, k2⟩ := h.each i hiL hi
  have hcell : ∀ o (ho : o < 4) (u : Value), (rowP L[i])[o]? = some u → cs[i * 4 + o]? = some u := fun o ho u hu => h2 (i * 4 + o) u (by rw [flat_get rowP 4 (fun _ => rfl) L i o hiL ho]; exact hu)
  have hg : fs.getD i ⟨0, 0, 0, []⟩ = fs[i] := by simp [List.getD, hi]
  obtain ⟨gc, cc, e, k3, k4⟩ := k2.nc (fun c hc => (hF.2 _ (List.getElem_mem hi)).2 c hc)
  refine ⟨_, _, _, gc, cc, hcell 0 (by omega) _ rfl, hcell 1 (by omega) _ rfl, hcell 2 (by omega) _ rfl, ?_, ⟨k3, k4.lt⟩, ?_⟩
  · unfold cnX
    rw [hg, ← e]
    exact hcell 3 (by omega) _ rfl
  · unfold cnX
    rw [hg]
    exact k4
theorem NB.ia {w : World} {B : Nat} {v : Value} (h : NB w B v) : ∃ l : List Int, l.length ≤ 2147483647 ∧ IA w v l := by
  obtain ⟨n, hn, h⟩ := h
  obtain ⟨l, h1, h2⟩ := h.ia
  exact ⟨l, by omega, h2⟩
theorem AllC.ca {w : World} {B g n cap : Nat} (h : AllC w B g n) : ∃ cs : List PI, cs.length = n ∧ CA w (.slice (some ⟨g, 0, none⟩) n cap) cs ∧ ∀ c ∈ cs, c.args.length ≤ 2147483647 ∧ c.rets.length ≤ 2147483647 := by
  obtain ⟨ds, h1, h2⟩ := h
  obtain ⟨cs, hl, hs⟩ := list_of (P := fun i (c : PI) => (c.args.length ≤ 2147483647 ∧ c.rets.length ≤ 2147483647) ∧ ∃ av rv, ds[i * 7]? = some (vI c.op) ∧ ds[i * 7 + 1]? = some (vI c.r) ∧ ds[i * 7 + 2]? = some (vI c.s) ∧ ds[i * 7 + 3]? = some (vI c.t) ∧ ds[i * 7 + 4]? = some (vI c.n) ∧ ds[i * 7 + 5]? = some av ∧ ds[i * 7 + 6]? = some rv ∧ IA w av c.args ∧ IA w rv c.rets) n (fun i hi => by
    obtain ⟨a, b, c, d, e, u, v, k1, k2, k3, k4, k5, k6, k7, k8, k9⟩ := h2 i hi
    obtain ⟨l, l1, l2⟩ := k8.ia
    obtain ⟨r, r1, r2⟩ := k9.ia
    exact ⟨⟨a, b, c, d, e, l, r⟩, ⟨l1, r1⟩, u, v, k1, k2, k3, k4, k5, k6, k7, l2, r2⟩)
  refine ⟨cs, hl, ⟨_, cap, by rw [hl], fun _ => ⟨g, 0, rfl, heap_lt0 h1, fun j hj => ?_⟩⟩, fun c hc => ?_⟩
  · obtain ⟨-, av, rv, k1, k2, k3, k4, k5, k6, k7, k8, k9⟩ := hs j hj
    simp only [Nat.zero_add, cell_of0 h1]
    exact ⟨av, rv, k1, k2, k3, k4, k5, k6, k7, k8, k9⟩
  · obtain ⟨j, hj, e⟩ := List.getElem_of_mem hc
    rw [← e]
    exact (hs j hj).1
theorem NP.fa {w : World} {B C : Nat} {v : Value} {N : Nat} {cn : Nat → Nat} (h : NP w B C v N cn) (b1 : N ≤ 2147483647) (b2 : ∀ i, i < N → cn i ≤ 2147483647) : ∃ fs : List PF, fs.length = N ∧ FA w v fs ∧ FinP fs := by
  obtain ⟨g, cap, ds, rfl, h1, -, h2⟩ := h
  obtain ⟨fs, hl, hs⟩ := list_of (P := fun i (f : PF) => (f.code.length ≤ 2147483647 ∧ ∀ c ∈ f.code, c.args.length ≤ 2147483647 ∧ c.rets.length ≤ 2147483647) ∧ ∃ x, ds[i * 4]? = some (vI f.P) ∧ ds[i * 4 + 1]? = some (vI f.R) ∧ ds[i * 4 + 2]? = some (vI f.V) ∧ ds[i * 4 + 3]? = some x ∧ CA w x f.code) N (fun i hi => by
    obtain ⟨a, b, c, gc, cc, k1, k2, k3, k4, k5, k6⟩ := h2 i hi
    obtain ⟨cs, c1, c2, c3⟩ := k6.ca (cap := cc)
    exact ⟨⟨a, b, c, cs⟩, ⟨by simp only [c1]; exact b2 i hi, c3⟩, _, k1, k2, k3, k4, c2⟩)
  refine ⟨fs, hl, ⟨_, cap, by rw [hl], fun _ => ⟨g, 0, rfl, heap_lt0 h1, fun j hj => ?_⟩⟩, by omega, fun f hf => ?_⟩
  · obtain ⟨-, x, k1, k2, k3, k4, k5⟩ := hs j hj
    simp only [Nat.zero_add, cell_of0 h1]
    exact ⟨x, k1, k2, k3, k4, k5⟩
  · obtain ⟨j, hj, e⟩ := List.getElem_of_mem hf
    rw [← e]
    exact (hs j hj).1
set_option maxRecDepth 100000 in
set_option maxHeartbeats 4000000 in
theorem turn_any (G : Int) (v : Value) (N B C : Nat) (cn : Nat → Nat) (w : World) (h : NP w B C v N cn) (hC : C ≤ w.heap.size) (b1 : N ≤ 2147483647) (b2 : ∀ i, i < N → cn i ≤ 2147483647) :
    Calls Tryz.prog 10 #[.agg #[vI G, v]] w fun e w' => e = .returned (.tuple #[]) ∧ Tc B C w w' := by
  obtain ⟨g, cap, cs, rfl, h1, -, h2⟩ := id h
  obtain ⟨wa, hwa⟩ : ∃ wa, wa = w.alloc (.cells #[vI G, .slice (some ⟨g, 0, none⟩) N cap] 24) := ⟨_, rfl⟩
  have HWA : Hd (wa = w.alloc (.cells #[vI G, .slice (some ⟨g, 0, none⟩) N cap] 24)) := hwa
  obtain ⟨H, hH⟩ : ∃ H, H = w.heap.size := ⟨_, rfl⟩
  have HH : Hd (H = w.heap.size) := hH
  have hb0 : wa.heap[H]? = some (.cells #[vI G, .slice (some ⟨g, 0, none⟩) N cap] 24) := by rw [hwa, hH]; exact heap_new0 w _
  have HTA : Hd (Tc B C w wa) := by unfold Hd; rw [hwa]; exact (Tc.refl B C w).stay (Fr.alloc (Fr.refl _ w) _)
  have HP : Hd (∀ wx, Tc B C wa wx → wx.cell? ⟨H, 1, none⟩ = some (.slice (some ⟨g, 0, none⟩) N cap)) := fun wx t => by
    have := t.other hb0 (by decide)
    rw [cell_of0 this]
    rfl
  have HN : Hd (∀ i, i < N → ∃ gc cc, (B ≤ gc ∧ gc < C) ∧ ∀ wx, Tc B C wa wx → wx.cell? ⟨g, i * 4 + 3, none⟩ = some (.slice (some ⟨gc, 0, none⟩) (cn i) cc) ∧ AllC wx B gc (cn i)) := fun i hi => by
    obtain ⟨a, b, c, gc, cc, k1, k2, k3, k4, k5, k6⟩ := h2 i hi
    refine ⟨gc, cc, k5, fun wx t => ?_⟩
    have t' := HTA.out.trans t
    have g1 := t'.other h1 (by decide)
    exact ⟨by rw [cell_of0 g1]; exact k4, t'.code _ _ k6⟩
  have HB2 : Hd (∀ i, i < N → cn i ≤ 2147483647) := b2
  have HT0 : Hd (Tc B C wa wa) := Tc.refl _ _ _
  clear h h1 h2 b2 hwa hH hb0
  go_enter Tryz.func10, Tryz.ntmps10
  go_upto_region 1 with fail
  rw [← HWA.out, ← HH.out]
  clear HWA
  go_wp2_with fail
  go_loopw [2] (fun v wr => ∃ (k : Nat), v = .int .i64 k ∧ k ≤ N ∧ Hd (Tc B C wa wr)) (fun v _ => match v with | .int _ q => N - q.toNat | _ => 0)
  case atStart => exact ⟨0, rfl, Nat.zero_le _, HT0.out⟩
  case round =>
    clear HT0
    obtain ⟨k, rfl, hk, HT⟩ := hrel
    have c1 := HP.out wr HT.out
    by_cases hlt : k < N
    · have hk0 : (0 : Int) ≤ k := by omega
      have hk1 : (k : Int) < N := by omega
      have dk : decide ((k : Int) < N) = true := by simp; omega
      obtain ⟨gc, cc, hgc, hN⟩ := HN.out k hlt
      have b3 := HB2.out k hlt
      obtain ⟨n, hn⟩ : ∃ n, n = cn k := ⟨_, rfl⟩
      have HA : Hd (∀ wx, Tc B C wa wx → wx.cell? ⟨g, k * 4 + 3, none⟩ = some (.slice (some ⟨gc, 0, none⟩) n cc) ∧ AllC wx B gc n) := fun wx t => by rw [hn]; exact hN wx t
      have HGC : Hd (B ≤ gc ∧ gc < C) := hgc
      have HK : Hd (k + 1 ≤ N) := hlt
      have HT1 : Hd (Tc B C wa wr) := HT.out
      rw [← hn] at b3
      clear hN hn hgc hlt HT
      go_wp2_with fail
      go_loopw [3] (fun v wr => ∃ (j : Nat), v = .int .i64 j ∧ j ≤ n ∧ Hd (Tc B C wa wr)) (fun v _ => match v with | .int _ q => n - q.toNat | _ => 0)
      case atStart => exact ⟨0, by simp, Nat.zero_le _, HT1.out⟩
      case round =>
        clear HT1 c1
        obtain ⟨j, rfl, hj, HT⟩ := hrel
        have c1 := HP.out wr HT.out
        obtain ⟨p3, hall⟩ := HA.out wr HT.out
        by_cases hlj : j < n
        · have hj0 : (0 : Int) ≤ j := by omega
          have hj1 : (j : Int) < n := by omega
          have dj : decide ((j : Int) < n) = true := by simp; omega
          obtain ⟨⟨a, z, q0, q4⟩, qf⟩ := hall.row hlj
          have HJ : Hd (j + 1 ≤ n) := hlj
          by_cases ha : a = 11
          · have ea : (a == 11) = true := by simp [ha]
            have HT2 : Hd (∀ y, Tc B C wa (wr.drew.setCell ⟨gc, j * 7 + 4, none⟩ (vI y))) := fun y => by
              have hs : AllC wr.drew B gc n := hall
              exact (HT.out.stay (Fr.drew (Fr.refl _ wr))).trans (Tc.set4 hs HGC.out hlj y)
            have hjb := HJ.out
            clear ha hall HT hlj
            go_wp2_with fail
            refine wp_region_still_tail 24 mixed (by kernel_rfl) ?_
            simp only [List.take_succ_cons, List.take_zero, List.drop_succ_cons, List.drop_zero]
            repeat still_step
            refine wpStill_nil ?_
            go_wp2_with fail
            go_roundw
            case measure => simp; omega
            case rel => exact ⟨j + 1, by simp, by omega, HT2.out _⟩
          · have ea : (a == 11) = false := by simp [ha]
            have HT2 : Hd (Tc B C wa wr) := HT.out
            have hjb := HJ.out
            clear ha hall HT hlj
            go_wp2_with fail
            go_roundw
            case measure => simp; omega
            case rel => exact ⟨j + 1, by simp, by omega, HT2.out⟩
        · have dj : decide ((j : Int) < n) = false := by simp; omega
          have djn : ¬ j < n := hlj
          have HT2 : Hd (Tc B C wa wr) := HT.out
          have hkb := HK.out
          clear hall HT hlj
          go_wp2_with fail
          go_roundw
          case measure => simp; omega
          case rel => exact ⟨k + 1, by simp, by omega, HT2.out⟩
    · have dk : decide ((k : Int) < N) = false := by simp; omega
      have dkn : ¬ k < N := hlt
      have HE : Hd (Tc B C w wr) := HTA.out.trans HT.out
      clear hlt HT
      go_wp2_with fail
      go_end0
      exact ⟨rfl, HE.out⟩
end Go.Proofs.YtjmbfjaahadbhaaGreatDoor
