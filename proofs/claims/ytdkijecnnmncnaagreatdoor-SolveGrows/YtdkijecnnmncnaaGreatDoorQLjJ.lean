import Derived.Test.YtdkijecnnmncnaaGreatDoorQEaJ
import Derived.Test.YtdkijecnnmncnaaGreatDoorQQ5J
import Derived.Laws.OwnMore
import Derived.Deep.RegionHeld3
namespace Go.Proofs.YtdkijecnnmncnaaGreatDoor
open Go.RowKit (wrap32 wrap64)
set_option linter.unusedVariables false
set_option linter.unusedSimpArgs false
set_option maxRecDepth 100000
set_option maxHeartbeats 2000000
theorem copyCode_any (v : Value) (cs : List PI) (w : World) (hl : CA w v cs) (hn : FineC cs) :
 Calls Tryz.prog 16 #[v] w fun e w' => ∃ v' L, e = .returned v' ∧ CO w' w.heap.size v' L ∧ L.map (·.1) = cs ∧ Fr (fun _ => False) w w' := by
 obtain ⟨ea, ec, rfl, hein⟩ := hl
 have HE : Hd _ := hein
 have HFI : Hd (FineC cs) := hn
 have hz := hn.1
 clear hein hn
 obtain ⟨i7, hi7, hz7, hs7, hb7⟩ := info_parts (P := Tryz.prog) (e := 79) (z := .agg #[vI 0, vI 0, vI 0, vI 0, vI 0, .slice none 0 0, .slice none 0 0]) (size := 7) (bytes := 88) (by kernel_rfl)
 go_enter Tryz.func16, Tryz.ntmps16
 go_wp2_with fail
 go_loopw [3, 4] (fun mv v wr => ∃ (k : Nat) (L : List CI), v = .int .i64 k ∧ k ≤ cs.length ∧ Hd (CO wr w.heap.size mv L) ∧ Hd (L.map (·.1) = cs.take k) ∧ Hd (Fr (fun _ => False) w wr)) (fun _ v _ => match v with | .int _ q => cs.length - q.toNat | _ => 0)
 case atStart => exact ⟨0, [], rfl, Nat.zero_le _, ⟨World.ownsRow_nil _ _ _ _, fun x hx => by simp at hx⟩, rfl, Fr.refl _ _⟩
 case round =>
  obtain ⟨k, L, rfl, hk, HO, HM, HF⟩ := hrel
  by_cases hlt : k < cs.length
  ·have hne : cs ≠ [] := by intro e; simp [e] at hlt
   obtain ⟨k1, o1, rfl, hk1, g1⟩ := HE.out hne
   obtain ⟨x1, y1, p0, p1, p2, p3, p4, p5, p6, ix1, iy1⟩ := g1 k hlt
   have m1 := fun o => HF.out.cell (o := o) hk1 (fun h => h)
   have p0 := (m1 _).trans p0
   have p1 := (m1 _).trans p1
   have p2 := (m1 _).trans p2
   have p3 := (m1 _).trans p3
   have p4 := (m1 _).trans p4
   have p5 := (m1 _).trans p5
   have p6 := (m1 _).trans p6
   have X1 : Hd (IA wr x1 cs[k].args) := ix1.stay HF.out
   have Y1 : Hd (IA wr y1 cs[k].rets) := iy1.stay HF.out
   have HC : Hd (cs[k].args.length ≤ 17592186043904 ∧ cs[k].rets.length ≤ 17592186043904) := HFI.out.2 _ (List.getElem_mem hlt)
   have HT : Hd (cs.take (k + 1) = cs.take k ++ [cs[k]]) := by unfold Hd; rw [List.take_add_one, List.getElem?_eq_getElem hlt]; rfl
   have HLL : Hd (L.length = k) := by have := congrArg List.length HM.out; simp at this; unfold Hd; omega
   generalize cs[k] = c at *
   obtain ⟨a, b, e1, -⟩ := ix1
   obtain ⟨a', b', e2, -⟩ := iy1
   subst e1; subst e2
   have hk0 : (0 : Int) ≤ k := by omega
   have hk3 : (k : Int) < cs.length := by omega
   clear g1 m1
   go_wp2_with fail
   refine (show Calls Tryz.prog 48 #[.agg #[vI c.op, vI c.r, vI c.s, vI c.t, vI c.n, .slice a c.args.length b, .slice a' c.rets.length b']] wr _ from copyInstr_any c _ _ wr X1.out Y1.out (by have := HC.out; omega) (by have := HC.out; omega)).mono ?_
   rintro e w1 ⟨x', y', rfl, hx, hy, hF1⟩
   obtain ⟨xa, xc, rfl⟩ : ∃ xa xc, x' = .slice xa c.args.length xc := by obtain ⟨xa, xc, e, -⟩ := hx.ia; exact ⟨xa, xc, e⟩
   obtain ⟨ya, yc, rfl⟩ : ∃ ya yc, y' = .slice ya c.rets.length yc := by obtain ⟨ya, yc, e, -⟩ := hy.ia; exact ⟨ya, yc, e⟩
   obtain ⟨wb, hwb⟩ : ∃ wb, wb = w1.alloc (.cells #[vI c.op, vI c.r, vI c.s, vI c.t, vI c.n, .slice xa c.args.length xc, .slice ya c.rets.length yc] 79) := ⟨_, rfl⟩
   have hFb : Fr (fun _ => False) w1 wb := by rw [hwb]; exact Fr.alloc (Fr.refl _ w1) _
   have hFc : Fr (fun _ => False) w1 (wb.alloc (.cells #[vI c.op, vI c.r, vI c.s, vI c.t, vI c.n, .slice xa c.args.length xc, .slice ya c.rets.length yc] 79)) := Fr.alloc hFb _
   have b1 : wb.heap[w1.heap.size]? = some (.cells #[vI c.op, vI c.r, vI c.s, vI c.t, vI c.n, .slice xa c.args.length xc, .slice ya c.rets.length yc] 79) := by rw [hwb]; exact heap_new w1 _
   have HO1 : Hd (CO (wb.alloc (.cells #[vI c.op, vI c.r, vI c.s, vI c.t, vI c.n, .slice xa c.args.length xc, .slice ya c.rets.length yc] 79)) w.heap.size u3 L) := HO.out.stay (hF1.trans hFc)
   have HX1 : Hd (IOwn (wb.alloc (.cells #[vI c.op, vI c.r, vI c.s, vI c.t, vI c.n, .slice xa c.args.length xc, .slice ya c.rets.length yc] 79)) w.heap.size (.slice xa c.args.length xc) c.args) := (hx.fr hFc (fun _ _ e => e)).mono HF.out.size
   have HY1 : Hd (IOwn (wb.alloc (.cells #[vI c.op, vI c.r, vI c.s, vI c.t, vI c.n, .slice xa c.args.length xc, .slice ya c.rets.length yc] 79)) w.heap.size (.slice ya c.rets.length yc) c.rets) := (hy.fr hFc (fun _ _ e => e)).mono HF.out.size
   have HF1 : Hd (Fr (fun _ => False) w (wb.alloc (.cells #[vI c.op, vI c.r, vI c.s, vI c.t, vI c.n, .slice xa c.args.length xc, .slice ya c.rets.length yc] 79))) := HF.out.trans (hF1.trans hFc)
   have HWB : Hd (wb = w1.alloc (.cells #[vI c.op, vI c.r, vI c.s, vI c.t, vI c.n, .slice xa c.args.length xc, .slice ya c.rets.length yc] 79)) := hwb
   have HRW : Hd ((wb.alloc (.cells #[vI c.op, vI c.r, vI c.s, vI c.t, vI c.n, .slice xa c.args.length xc, .slice ya c.rets.length yc] 79)).ownsRow w.heap.size 79 7 u3 L.length (L.flatMap rowI)) := HO1.out.row
   have hnews : ∀ j u, [vI c.op, vI c.r, vI c.s, vI c.t, vI c.n, .slice xa c.args.length xc, .slice ya c.rets.length yc][j]? = some u → (wb.alloc (.cells #[vI c.op, vI c.r, vI c.s, vI c.t, vI c.n, .slice xa c.args.length xc, .slice ya c.rets.length yc] 79)).cell? ((⟨wb.heap.size, 0, none⟩ : Addr).add j) = some u :=
    World.news_of_block (cs := #[vI c.op, vI c.r, vI c.s, vI c.t, vI c.n, .slice xa c.args.length xc, .slice ya c.rets.length yc]) (heap_new wb _)
   have hbase : w.heap.size ≤ (wb.alloc (.cells #[vI c.op, vI c.r, vI c.s, vI c.t, vI c.n, .slice xa c.args.length xc, .slice ya c.rets.length yc] 79)).heap.size := HF1.out.size
   have hEl : L.length + 1 ≤ 1599289640355 := by have := HLL.out; omega
   have u0 : wb.cell? ⟨w1.heap.size, 0, none⟩ = some (vI c.op) := by rw [cell_of b1]; rfl
   have u1 : wb.cell? ⟨w1.heap.size, 1, none⟩ = some (vI c.r) := by rw [cell_of b1]; rfl
   have u2 : wb.cell? ⟨w1.heap.size, 2, none⟩ = some (vI c.s) := by rw [cell_of b1]; rfl
   have u3' : wb.cell? ⟨w1.heap.size, 3, none⟩ = some (vI c.t) := by rw [cell_of b1]; rfl
   have u4 : wb.cell? ⟨w1.heap.size, 4, none⟩ = some (vI c.n) := by rw [cell_of b1]; rfl
   have u5 : wb.cell? ⟨w1.heap.size, 5, none⟩ = some (.slice xa c.args.length xc) := by rw [cell_of b1]; rfl
   have u6 : wb.cell? ⟨w1.heap.size, 6, none⟩ = some (.slice ya c.rets.length yc) := by rw [cell_of b1]; rfl
   clear hx hy hF1 hFb hFc b1 HO HF hwb p0 p1 p2 p3 p4 p5 p6
   go_upto_region 6 with fail
   rw [← HWB.out]
   clear HWB
   go_wp2_with ((at_builtin; refine Hd.out ?_))
   unfold Hd
   refine wpList_append_lies _ rfl (.tmp 17) (.tmp 19) 41 rfl w.heap.size 79 i7 (.agg #[vI 0, vI 0, vI 0, vI 0, vI 0, .slice none 0 0, .slice none 0 0]) 7 88 under65 hi7 hz7 hs7 hb7 rfl (by omega) u3 L.length _ rfl HRW.out ⟨wb.heap.size, 0, none⟩ 1 1 [vI c.op, vI c.r, vI c.s, vI c.t, vI c.n, .slice xa c.args.length xc, .slice ya c.rets.length yc] rfl rfl hnews (by intro u hu; simp at hu; rcases hu with rfl | rfl | rfl | rfl | rfl | rfl | rfl <;> rfl) (by omega) (by unfold maxLen; omega) (by omega) hbase (wb.heap.size + 1) (by simp) ?_
   intro g6 cap6 w6 hown6 hgrow6 hat6 hlt6
   have hF6 := grown_frL hgrow6
   have HO6 : Hd (CO w6 w.heap.size (.slice (some ⟨g6, 0, none⟩) (L.length + 1) cap6) (L ++ [(c, .slice xa c.args.length xc, .slice ya c.rets.length yc)])) := by
    refine ⟨?_, fun x hx => ?_⟩
    ·rw [List.length_append, List.flatMap_append]
     simpa using hown6
    ·rcases List.mem_append.1 hx with hx | hx
     ·have hi := HO1.out.ints x hx
      exact ⟨hi.1.fr hF6 (fun j e e2 => own_apart HRW.out hi.1 (by decide) j e e2), hi.2.fr hF6 (fun j e e2 => own_apart HRW.out hi.2 (by decide) j e e2)⟩
     ·simp at hx
      subst hx
      exact ⟨HX1.out.fr hF6 (fun j e e2 => own_apart HRW.out HX1.out (by decide) j e e2), HY1.out.fr hF6 (fun j e e2 => own_apart HRW.out HY1.out (by decide) j e e2)⟩
   have HF6 : Hd (Fr (fun _ => False) w w6) := grow_fr0 HF1.out hgrow6 (fun k hk => (World.ownsRow.lt HRW.out k hk).1)
   have HM6 : Hd ((L ++ [(c, Value.slice xa c.args.length xc, Value.slice ya c.rets.length yc)]).map (·.1) = cs.take (k + 1)) := by
    unfold Hd
    rw [HT.out, List.map_append, HM.out]
    rfl
   clear hown6 hgrow6 hat6 hlt6 HO1 HF1 HRW hnews hbase hF6 HX1 HY1 u0 u1 u2 u3' u4 u5 u6
   go_wp2_with fail
   exact ⟨⟨k + 1, _, by simp, by omega, HO6.out, HM6.out, HF6.out⟩, by simp; omega⟩
  ·have hke : k = cs.length := by omega
   subst hke
   have HM2 : Hd (L.map (·.1) = cs) := by have := HM.out; rw [List.take_length] at this; exact this
   clear HM
   go_wp2_with fail
   go_ret
   exact ⟨u3, L, rfl, HO.out, HM2.out, HF.out⟩
end Go.Proofs.YtdkijecnnmncnaaGreatDoor
namespace Go.Proofs.YtdkijecnnmncnaaGreatDoor
open Go.RowKit (wrap32 wrap64)
set_option linter.unusedVariables false
set_option linter.unusedSimpArgs false
set_option maxRecDepth 100000
set_option maxHeartbeats 1000000
abbrev FI := PF × Value × List CI
abbrev rowF (x : FI) : List Value := fR x.1 x.2.1
structure FO (w : World) (B : Nat) (v : Value) (L : List FI) : Prop where
 row : w.ownsRow B 45 4 v L.length (L.flatMap rowF)
 code : ∀ x ∈ L, CO w B x.2.1 x.2.2 ∧ x.2.2.map (·.1) = x.1.code
theorem FO.stay {w w' : World} {B : Nat} {v : Value} {L : List FI} (h : FO w B v L) (f : Fr (fun _ => False) w w') : FO w' B v L := ⟨ownsRow_frL h.row f (fun _ _ e => e), fun x hx => ⟨(h.code x hx).1.stay f, (h.code x hx).2⟩⟩
theorem CO.shape {w : World} {B : Nat} {v : Value} {L : List CI} (h : CO w B v L) : ∃ a c, v = .slice a L.length c := by
 rcases h.row.2 with ⟨h2, h3⟩ | ⟨g, cap, cur, e, -⟩
 ·exact ⟨none, 0, by rw [h2, h3]⟩
 ·exact ⟨_, _, e⟩
theorem copyFunc_any (f : PF) (x : Value) (w : World) (h1 : CA w x f.code) (hn : FineC f.code) :
 Calls Tryz.prog 90 #[.agg #[vI f.P, vI f.R, vI f.V, x]] w fun e w' => ∃ x' L, e = .returned (.agg #[vI f.P, vI f.R, vI f.V, x']) ∧ CO w' w.heap.size x' L ∧ L.map (·.1) = f.code ∧ Fr (fun _ => False) w w' := by
 obtain ⟨a1, b1, e1, -⟩ := id h1
 obtain ⟨wa, hwa⟩ : ∃ wa, wa = (w.alloc (.cells #[vI f.P, vI f.R, vI f.V, x] 45)).alloc (.cells #[vI 0, vI 0, vI 0, .slice none 0 0] 45) := ⟨_, rfl⟩
 have hF : Fr (fun _ => False) w wa := by rw [hwa]; exact Fr.alloc (Fr.alloc (Fr.refl _ w) _) _
 have hsz : wa.heap.size = w.heap.size + 2 := by rw [hwa]; simp
 have b1' : wa.heap[w.heap.size]? = some (.cells #[vI f.P, vI f.R, vI f.V, x] 45) := by
  rw [hwa, Go.RowKit.Below.heap_alloc _ _ _ (by simp)]; exact heap_new w _
 have b2' : wa.heap[w.heap.size + 1]? = some (.cells #[vI 0, vI 0, vI 0, .slice none 0 0] 45) := by
  rw [hwa, show w.heap.size + 1 = (w.alloc (.cells #[vI f.P, vI f.R, vI f.V, x] 45)).heap.size by simp]; exact heap_new _ _
 have HWA : Hd (wa = (w.alloc (.cells #[vI f.P, vI f.R, vI f.V, x] 45)).alloc (.cells #[vI 0, vI 0, vI 0, .slice none 0 0] 45)) := hwa
 have G1 : Hd (CA wa x f.code) := h1.stay hF
 have HF : Hd (Fr (fun _ => False) w wa) := hF
 obtain ⟨H, hH⟩ : ∃ H, H = w.heap.size := ⟨_, rfl⟩
 have HH : Hd (H = w.heap.size) := hH
 have HSZ : Hd (wa.heap.size = H + 2) := by rw [hH]; exact hsz
 rw [← hH] at b1' b2'
 have B1 : Hd _ := b1'
 have B2 : Hd _ := b2'
 have p3 : wa.cell? ⟨H, 3, none⟩ = some x := by rw [cell_of b1']; rfl
 subst e1
 clear h1 hF hsz hwa hH b1' b2'
 go_enter Tryz.func90, Tryz.ntmps90
 go_upto_region 1 with fail
 rw [← HWA.out, ← HH.out]
 clear HWA
 go_wp2_with fail
 refine (show Calls Tryz.prog 16 #[.slice a1 f.code.length b1] wa _ from copyCode_any _ f.code wa G1.out hn).mono ?_
 rintro e w2 ⟨x', L, rfl, hx', hL, hF2⟩
 have B1' : w2.heap[H]? = some (.cells #[vI f.P, vI f.R, vI f.V, .slice a1 f.code.length b1] 45) := (hF2.block H (heap_lt B1.out) (fun e => e)).trans B1.out
 have B2' : w2.heap[H + 1]? = some (.cells #[vI 0, vI 0, vI 0, .slice none 0 0] 45) := (hF2.block (H + 1) (heap_lt B2.out) (fun e => e)).trans B2.out
 obtain ⟨xa, xc, exa⟩ := hx'.shape
 have q3 : w2.cell? ⟨H, 3, none⟩ = some (.slice a1 f.code.length b1) := by rw [cell_of B1']; rfl
 have z3 := frozen_of B1' 3
 have fs2 := setCell_fr w2 H 3 x'
 have C1 : Hd ((w2.setCell ⟨H, 3, none⟩ x').heap[H]? = some (.cells #[vI f.P, vI f.R, vI f.V, x'] 45)) := set_of B1' 3 x'
 have C2 : Hd ((w2.setCell ⟨H, 3, none⟩ x').heap[H + 1]? = some (.cells #[vI 0, vI 0, vI 0, .slice none 0 0] 45)) := (fs2.block (H + 1) (heap_lt B2') (by omega)).trans B2'
 have hx2 := hx'.mono (B' := H + 2) (by rw [HSZ.out]; exact Nat.le_refl _)
 have HX : Hd (CO (w2.setCell ⟨H, 3, none⟩ x') (H + 2) x' L) := hx2.fr fs2 (fun k e e2 => by have := (World.ownsRow.lt hx2.row k e).1; omega) (fun y hy k e e2 => by
  rcases e with e | e
  ·have := ((hx2.ints y hy).1.ge k e).1; omega
  ·have := ((hx2.ints y hy).2.ge k e).1; omega)
 have HF2 : Hd (Fr (fun _ => False) w (w2.setCell ⟨H, 3, none⟩ x')) := (HF.out.trans hF2).then fs2 (fun j hj e => by have := HH.out; omega)
 have HLL : Hd (L.map (·.1) = f.code) := hL
 subst exa
 clear hx' hx2 hL hF2 fs2 B1' B2' p3 B1 B2 G1 HF HSZ
 go_upto_region 2 with fail
 clear q3 z3
 generalize w2.setCell ⟨H, 3, none⟩ (.slice xa L.length xc) = w5 at *
 have c0 : w5.cell? ⟨H, 0, none⟩ = some (vI f.P) := by rw [cell_of C1.out]; rfl
 have c1 : w5.cell? ⟨H, 1, none⟩ = some (vI f.R) := by rw [cell_of C1.out]; rfl
 have c2 : w5.cell? ⟨H, 2, none⟩ = some (vI f.V) := by rw [cell_of C1.out]; rfl
 have c3 : w5.cell? ⟨H, 3, none⟩ = some (.slice xa L.length xc) := by rw [cell_of C1.out]; rfl
 have d0 : w5.cell? ⟨H + 1, 0, none⟩ = some (vI 0) := by rw [cell_of C2.out]; rfl
 have d1 : w5.cell? ⟨H + 1, 1, none⟩ = some (vI 0) := by rw [cell_of C2.out]; rfl
 have d2 : w5.cell? ⟨H + 1, 2, none⟩ = some (vI 0) := by rw [cell_of C2.out]; rfl
 have d3 : w5.cell? ⟨H + 1, 3, none⟩ = some (.slice none 0 0) := by rw [cell_of C2.out]; rfl
 have y0 := frozen_of C2.out 0
 have y1 := frozen_of C2.out 1
 have y2 := frozen_of C2.out 2
 have y3 := frozen_of C2.out 3
 have HLz : Hd ((fou4 w5 (H + 1) 0 (fR f (.slice xa L.length xc))).heap[H + 1]? = some (.cells #[vI f.P, vI f.R, vI f.V, .slice xa L.length xc] 45)) := set_of (set_of (set_of (set_of C2.out 0 _) 1 _) 2 _) 3 _
 have fs6 := fou4_fr w5 (H + 1) 0 (fR f (.slice xa L.length xc))
 have KX : Hd (CO (fou4 w5 (H + 1) 0 (fR f (.slice xa L.length xc))) w.heap.size (.slice xa L.length xc) L) := (HX.out.fr fs6 (fun k e e2 => by have := (World.ownsRow.lt HX.out.row k e).1; omega) (fun y hy k e e2 => by
  rcases e with e | e
  ·have := ((HX.out.ints y hy).1.ge k e).1; omega
  ·have := ((HX.out.ints y hy).2.ge k e).1; omega)).mono (by have := HH.out; omega)
 have KF : Hd (Fr (fun _ => False) w (fou4 w5 (H + 1) 0 (fR f (.slice xa L.length xc)))) := Fr.then HF2.out fs6 (fun j hj e => by have := HH.out; omega)
 clear fs6
 go_wp2_with fail
 change bodyPost _ _ _ _ _ (fou4 w5 (H + 1) 0 (fR f (.slice xa L.length xc)))
 generalize fou4 w5 (H + 1) 0 (fR f (.slice xa L.length xc)) = wz at *
 have e0 : wz.cell? ⟨H + 1, 0, none⟩ = some (vI f.P) := by rw [cell_of HLz.out]; rfl
 have e1 : wz.cell? ⟨H + 1, 1, none⟩ = some (vI f.R) := by rw [cell_of HLz.out]; rfl
 have e2 : wz.cell? ⟨H + 1, 2, none⟩ = some (vI f.V) := by rw [cell_of HLz.out]; rfl
 have e3 : wz.cell? ⟨H + 1, 3, none⟩ = some (.slice xa L.length xc) := by rw [cell_of HLz.out]; rfl
 refine bodyPost_ret (v := .agg #[vI f.P, vI f.R, vI f.V, .slice xa L.length xc]) ?_ rfl ⟨_, L, rfl, KX.out, HLL.out, KF.out⟩
 rw [results_cell (p := 2) (ty := 45) Tryz.results90]
 simp [go_sem, e0, e1, e2, e3]
end Go.Proofs.YtdkijecnnmncnaaGreatDoor
namespace Go.Proofs.YtdkijecnnmncnaaGreatDoor
open Go.RowKit (wrap32 wrap64)
set_option linter.unusedVariables false
set_option linter.unusedSimpArgs false
set_option maxRecDepth 100000
set_option maxHeartbeats 2000000
theorem addr_plus (b off i : Nat) : (⟨b, off, none⟩ : Addr).add i = ⟨b, off + i, none⟩ := by unfold Addr.add; split <;> simp_all
theorem row_set {w : World} {B e sz n g cap j : Nat} {xs : List Value} (h : w.ownsRow B e sz (.slice (some ⟨g, 0, none⟩) n cap) n xs) (u : Value) :
 (w.setCell ⟨g, j, none⟩ u).ownsRow B e sz (.slice (some ⟨g, 0, none⟩) n cap) n (xs.set j u) ∧ w.frozen? ⟨g, j, none⟩ = false := by
 obtain ⟨h0, h1⟩ := h
 rcases h1 with ⟨e1, -⟩ | ⟨g', cap', cur, e1, k1, k2, k3, k4, k5, k6⟩
 ·cases e1
 ·cases e1
  refine ⟨⟨by rw [List.length_set]; exact h0, Or.inr ⟨g, cap, cur.setIfInBounds j u, rfl, k1, set_of k2 j u, k3, k4, by simpa using k5, ?_⟩⟩, frozen_of k2 j⟩
  rw [← k6, Array.toList_setIfInBounds, List.take_set]
structure CSo (w : World) (B : Nat) (v : Value) (L : List CI) : Prop where
 row : w.ownsRow B 79 7 v L.length (L.flatMap rowI)
 ints : ∀ x ∈ L, IA w x.2.1 x.1.args ∧ IA w x.2.2 x.1.rets
theorem CSo.ca {w : World} {B : Nat} {v : Value} {L : List CI} (h : CSo w B v L) : CA w v (L.map (·.1)) := by
 rcases h.row.2 with ⟨h2, h3⟩ | ⟨g, cap, cur, e, -⟩
 ·refine ⟨none, 0, by rw [h2, List.length_map, h3], fun hne => ?_⟩
  exact absurd (by rw [List.eq_nil_of_length_eq_zero h3]; rfl) hne
 ·refine ⟨some ⟨g, 0, none⟩, cap, by rw [e, List.length_map], fun _ => ⟨g, 0, rfl, (World.ownsRow.lt h.row g (by rw [e]; rfl)).2, fun j hj => ?_⟩⟩
  have hj' : j < L.length := by simpa using hj
  have pc : ∀ o u, o < 7 → (rowI L[j])[o]? = some u → w.cell? ⟨g, j * 7 + o, none⟩ = some u := fun o u ho hu => by
   obtain ⟨g', cap', e', -, hc⟩ := own_cell h.row (j := j * 7 + o) (u := u) (by rw [flat_get rowI 7 (fun _ => rfl) L j o hj' ho]; exact hu)
   rw [e] at e'
   cases e'
   exact hc
  have hi := h.ints L[j] (List.getElem_mem hj')
  rw [Nat.zero_add]
  simp only [List.getElem_map]
  exact ⟨L[j].2.1, L[j].2.2, pc 0 _ (by omega) rfl, pc 1 _ (by omega) rfl, pc 2 _ (by omega) rfl, pc 3 _ (by omega) rfl, pc 4 _ (by omega) rfl, pc 5 _ (by omega) rfl, pc 6 _ (by omega) rfl, hi.1, hi.2⟩
theorem CA.items {w : World} {a : Option Addr} {n cp : Nat} {cs : List PI} (h : CA w (.slice a n cp) cs) (hne : cs ≠ []) :
 ∃ k o, a = some ⟨k, o, none⟩ ∧ k < w.heap.size ∧ ∃ L : List CI, L.map (·.1) = cs ∧ (∀ x ∈ L, IA w x.2.1 x.1.args ∧ IA w x.2.2 x.1.rets) ∧ ∀ j u, (L.flatMap rowI)[j]? = some u → w.cell? ⟨k, o + j, none⟩ = some u := by
 obtain ⟨a', cp', e, h⟩ := h
 cases e
 obtain ⟨k, o, rfl, hk, hc⟩ := h hne
 have hf : ∃ f : Nat → Value × Value, ∀ j (h : j < cs.length), w.cell? ⟨k, o + j * 7, none⟩ = some (vI cs[j].op) ∧ w.cell? ⟨k, o + j * 7 + 1, none⟩ = some (vI cs[j].r) ∧ w.cell? ⟨k, o + j * 7 + 2, none⟩ = some (vI cs[j].s) ∧ w.cell? ⟨k, o + j * 7 + 3, none⟩ = some (vI cs[j].t) ∧ w.cell? ⟨k, o + j * 7 + 4, none⟩ = some (vI cs[j].n) ∧
  w.cell? ⟨k, o + j * 7 + 5, none⟩ = some (f j).1 ∧ w.cell? ⟨k, o + j * 7 + 6, none⟩ = some (f j).2 ∧ IA w (f j).1 cs[j].args ∧ IA w (f j).2 cs[j].rets := by
  have hv : ∀ j, ∃ p : Value × Value, ∀ (h : j < cs.length), w.cell? ⟨k, o + j * 7, none⟩ = some (vI cs[j].op) ∧ w.cell? ⟨k, o + j * 7 + 1, none⟩ = some (vI cs[j].r) ∧ w.cell? ⟨k, o + j * 7 + 2, none⟩ = some (vI cs[j].s) ∧ w.cell? ⟨k, o + j * 7 + 3, none⟩ = some (vI cs[j].t) ∧ w.cell? ⟨k, o + j * 7 + 4, none⟩ = some (vI cs[j].n) ∧
   w.cell? ⟨k, o + j * 7 + 5, none⟩ = some p.1 ∧ w.cell? ⟨k, o + j * 7 + 6, none⟩ = some p.2 ∧ IA w p.1 cs[j].args ∧ IA w p.2 cs[j].rets := fun j => by
   by_cases hj : j < cs.length
   ·obtain ⟨av, rv, q⟩ := hc j hj
    exact ⟨(av, rv), fun _ => q⟩
   ·exact ⟨(undef, undef), fun h => absurd h hj⟩
  exact ⟨fun j => (hv j).choose, fun j => (hv j).choose_spec⟩
 obtain ⟨f, hf⟩ := hf
 have hL : ∀ j (h : j < (List.zip cs ((List.range cs.length).map f)).length), j < cs.length := fun j h => by simpa using h
 have hg : ∀ j (h : j < (List.zip cs ((List.range cs.length).map f)).length), (List.zip cs ((List.range cs.length).map f))[j] = (cs[j]'(hL j h), f j) := fun j h => by simp
 refine ⟨k, o, rfl, hk, List.zip cs ((List.range cs.length).map f), ?_, fun x hx => ?_, fun j u hu => ?_⟩
 ·apply List.map_fst_zip
  simp
 ·obtain ⟨j, hj, rfl⟩ := List.mem_iff_getElem.1 hx
  rw [hg j hj]
  exact ⟨(hf j (hL j hj)).2.2.2.2.2.2.2.1, (hf j (hL j hj)).2.2.2.2.2.2.2.2⟩
 ·have hlen : ((List.zip cs ((List.range cs.length).map f)).flatMap rowI).length = cs.length * 7 := by
   rw [List.length_flatMap]
   simp [List.map_const']
  have hj := (List.getElem?_eq_some_iff.1 hu).1
  rw [hlen] at hj
  have hi : j / 7 < cs.length := by omega
  have hi' : j / 7 < (List.zip cs ((List.range cs.length).map f)).length := by simpa using hi
  have ho : j % 7 < 7 := Nat.mod_lt _ (by omega)
  have e : j = j / 7 * 7 + j % 7 := by omega
  rw [e, flat_get rowI 7 (fun _ => rfl) _ _ _ hi' ho, hg _ hi'] at hu
  rw [e, ← Nat.add_assoc]
  obtain ⟨c0, c1, c2, c3, c4, c5, c6, -⟩ := hf (j / 7) hi
  generalize j / 7 = i at *
  generalize j % 7 = r at *
  have hr : r = 0 ∨ r = 1 ∨ r = 2 ∨ r = 3 ∨ r = 4 ∨ r = 5 ∨ r = 6 := by omega
  rcases hr with rfl | rfl | rfl | rfl | rfl | rfl | rfl
  all_goals (cases hu; assumption)
theorem items_one {w : World} {L : List CI} (h : ∀ x ∈ L, IA w x.2.1 x.1.args ∧ IA w x.2.2 x.1.rets) : ∀ u ∈ L.flatMap rowI, u.oneCell' = true := fun u hu => by
 obtain ⟨x, hx, hu⟩ := List.mem_flatMap.1 hu
 obtain ⟨⟨a1, c1, e1, -⟩, ⟨a2, c2, e2, -⟩⟩ := h x hx
 simp only [rowI, iR, List.mem_cons, List.not_mem_nil, or_false] at hu
 rcases hu with rfl | rfl | rfl | rfl | rfl | rfl | rfl
 all_goals first | rfl | (rw [e1]; rfl) | (rw [e2]; rfl)
theorem run_append_none0 {P : Program} {w : World} (base : Nat) (t ty e : TypeId) (i : TypeInfo) (size : Nat) (ht : P.underlying t = some (.slice e)) (hi : P.info? e = some i)
 (v : Value) (n : Nat) (xs : List Value) (hown : w.ownsRow base e size v n xs) (ad : Addr) (c : Nat) :
 (Builtin.append_ #[t, t] ty #[v, .slice (some ad) 0 c]).run P w = .ok v w := by
 rcases hown.2 with ⟨rfl, rfl⟩ | ⟨g, cap, cur, rfl, _, _, hnc, _⟩
 ·simp [Builtin.append_, run_underlying ht, sizeOf, typeInfo, hi, Builtin.lenOf, Builtin.firstCells, loadCells, loadCellsFrom]
 ·simp [Builtin.append_, run_underlying ht, sizeOf, typeInfo, hi, Builtin.lenOf, Builtin.firstCells, hnc, storeCells, loadCells, loadCellsFrom]
theorem wpList_append_none0 {P : Program} {w : World} {ops : Array Oper} {rest : List Oper} {o : Oper} {a : Act} {Q : Exit → Act → World → Prop} (hgd : o.guard = none) (s x : Operand) (t : TypeId)
 (ho : o.op = .call { callee := .builtin .append, args := #[s, x], argTypes := #[t, t] })
 (base : Nat) (e : TypeId) (i : TypeInfo) (size : Nat) (ht : P.underlying t = some (.slice e)) (hi : P.info? e = some i)
 (v : Value) (n : Nat) (xs : List Value) (hs : a.eval s = v) (hown : w.ownsRow base e size v n xs) (ad : Addr) (c : Nat) (hx : a.eval x = .slice (some ad) 0 c)
 (h : wpList P ops Q rest (a.put o.dst v) w) : wpList P ops Q (o :: rest) a w := by
 refine wpList_plain hgd fun K hK => ?_
 have hrun := run_append_none0 (P := P) (w := w) base t o.type e i size ht hi v n xs hown ad c
 unfold Oper.wp
 simp [execOp, ho, resolve, invoke, builtin, hs, hx, hrun, Result.andThen]
 exact hK _ _ h
theorem clone_any (v : Value) (cs : List PI) (w0 w : World) (h : CA w0 v cs) (f : Fr (fun _ => False) w0 w) (hn : FineC cs) :
 Calls Tryz.prog 148 #[v] w fun e w' => ∃ (v' : Value) (L : List CI), e = .returned v' ∧ w'.ownsRow w.heap.size 79 7 v' cs.length (L.flatMap rowI) ∧ L.map (·.1) = cs ∧ (∀ x ∈ L, IA w0 x.2.1 x.1.args ∧ IA w0 x.2.2 x.1.rets) ∧ Fr (fun _ => False) w w' := by
 by_cases hne : cs = []
 ·subst hne
  obtain ⟨a0, cp, rfl, -⟩ := h
  rcases a0 with _ | ad
  rotate_left
  ·obtain ⟨i7, hi7, hz7, hs7, hb7⟩ := info_parts (P := Tryz.prog) (e := 79) (z := .agg #[vI 0, vI 0, vI 0, vI 0, vI 0, .slice none 0 0, .slice none 0 0]) (size := 7) (bytes := 88) (by kernel_rfl)
   have hq : (binOp .eql 41 (.slice (some ad) 0 cp) (.slice none 0 0)).run Tryz.prog w = .ok (.bool false) w := by first | rfl | kernel_rfl
   have HF1 : Hd (Fr (fun _ => False) w (w.alloc (.cells #[] 79))) := Fr.alloc (Fr.refl _ w) _
   have HRW : Hd ((w.alloc (.cells #[] 79)).ownsRow w.heap.size 79 7 (.slice (some ⟨w.heap.size, 0, none⟩) 0 0) 0 []) := ⟨rfl, Or.inr ⟨w.heap.size, 0, #[], rfl, Nat.le_refl _, heap_new w _, Nat.le_refl _, Nat.zero_le _, rfl, rfl⟩⟩
   show Calls Tryz.prog 148 #[.slice (some ad) 0 cp] w _
   go_enter Tryz.func148, Tryz.ntmps148
   go_wp2_with ((at_builtin; refine Hd.out ?_))
   unfold Hd
   refine wpList_append_none0 rfl (.tmp 5) (.tmp 6) 41 rfl w.heap.size 79 i7 7 (by kernel_rfl) hi7 (.slice (some ⟨w.heap.size, 0, none⟩) 0 0) 0 [] rfl HRW.out ad cp rfl ?_
   go_wp2_with fail
   go_ret
   exact ⟨_, [], rfl, HRW.out, rfl, (fun x hx => by simp at hx), HF1.out⟩
  show Calls Tryz.prog 148 #[.slice none 0 cp] w _
  have hq : (binOp .eql 41 (.slice none 0 cp) (.slice none 0 0)).run Tryz.prog w = .ok (.bool true) w := by first | rfl | kernel_rfl
  go_enter Tryz.func148, Tryz.ntmps148
  go_wp2_with fail
  go_ret
  exact ⟨_, [], rfl, World.ownsRow_nil _ _ _ _, rfl, (fun x hx => by simp at hx), Fr.refl _ _⟩
 ·obtain ⟨a0, cp, rfl, -⟩ := id h
  obtain ⟨k, o, rfl, hk, L, hL, hI, hcell⟩ := h.items hne
  have hLl : L.length = cs.length := by rw [← hL, List.length_map]
  have hlen : (L.flatMap rowI).length = cs.length * 7 := by
   rw [List.length_flatMap, ← hLl]
   simp [List.map_const']
  have hpos : 0 < cs.length := List.length_pos_iff.2 hne
  obtain ⟨i7, hi7, hz7, hs7, hb7⟩ := info_parts (P := Tryz.prog) (e := 79) (z := .agg #[vI 0, vI 0, vI 0, vI 0, vI 0, .slice none 0 0, .slice none 0 0]) (size := 7) (bytes := 88) (by kernel_rfl)
  have hq : (binOp .eql 41 (.slice (some ⟨k, o, none⟩) cs.length cp) (.slice none 0 0)).run Tryz.prog w = .ok (.bool false) w := by first | rfl | kernel_rfl
  have hF1 : Fr (fun _ => False) w (w.alloc (.cells #[] 79)) := Fr.alloc (Fr.refl _ w) _
  have HF1 : Hd (Fr (fun _ => False) w (w.alloc (.cells #[] 79))) := hF1
  have HRW : Hd ((w.alloc (.cells #[] 79)).ownsRow w.heap.size 79 7 (.slice (some ⟨w.heap.size, 0, none⟩) 0 0) 0 []) := ⟨rfl, Or.inr ⟨w.heap.size, 0, #[], rfl, Nat.le_refl _, heap_new w _, Nat.le_refl _, Nat.zero_le _, rfl, rfl⟩⟩
  have HNW : Hd (∀ j u, (L.flatMap rowI)[j]? = some u → (w.alloc (.cells #[] 79)).cell? ((⟨k, o, none⟩ : Addr).add j) = some u) := fun j u hu => by
   rw [addr_plus, hF1.cell (Nat.lt_of_lt_of_le hk f.size) (fun h => h), f.cell hk (fun h => h)]
   exact hcell j u hu
  have hbase : w.heap.size ≤ (w.alloc (.cells #[] 79)).heap.size := hF1.size
  have HI : Hd (∀ x ∈ L, IA w0 x.2.1 x.1.args ∧ IA w0 x.2.2 x.1.rets) := hI
  have HL : Hd (L.map (·.1) = cs ∧ L.length = cs.length ∧ (L.flatMap rowI).length = cs.length * 7 ∧ cs.length ≤ 1599289640354) := ⟨hL, hLl, hlen, hn.1⟩
  clear hF1 hcell hI hL hLl hlen hn h hne
  go_enter Tryz.func148, Tryz.ntmps148
  go_wp2_with ((at_builtin; refine Hd.out ?_))
  unfold Hd
  refine wpList_append_lies _ rfl (.tmp 5) (.tmp 6) 41 rfl w.heap.size 79 i7 (.agg #[vI 0, vI 0, vI 0, vI 0, vI 0, .slice none 0 0, .slice none 0 0]) 7 88 (by kernel_rfl) hi7 hz7 hs7 hb7 rfl (by omega) (.slice (some ⟨w.heap.size, 0, none⟩) 0 0) 0 _ rfl HRW.out ⟨k, o, none⟩ cs.length cp (L.flatMap rowI) rfl HL.out.2.2.1 HNW.out (items_one HI.out) hpos (by have := HL.out; unfold maxLen; omega) (by have := HL.out; omega) hbase (w.heap.size + 1) (by simp) ?_
  intro g6 cap6 w6 hown6 hgrow6 hat6 hlt6
  have HF6 : Hd (Fr (fun _ => False) w w6) := HF1.out.then (⟨hgrow6.os, hgrow6.tape, hgrow6.output, hgrow6.size, fun k hk hS => hgrow6.block k hk (fun e => hS e.symm)⟩ : Fr (fun k => (Value.slice (some ⟨w.heap.size, 0, none⟩) 0 0).ownBlock = some k) _ _) (fun j hj e => by cases e; exact absurd hj (Nat.lt_irrefl _))
  have HO6 : Hd (w6.ownsRow w.heap.size 79 7 (.slice (some ⟨g6, 0, none⟩) cs.length cap6) cs.length (L.flatMap rowI)) := by unfold Hd; simpa using hown6
  clear hown6 hgrow6 hat6 hlt6 hbase HRW HNW
  rw [Nat.zero_add]
  go_wp2_with fail
  go_ret
  exact ⟨_, L, rfl, HO6.out, HL.out.1, HI.out, HF6.out⟩
end Go.Proofs.YtdkijecnnmncnaaGreatDoor
namespace Go.Proofs.YtdkijecnnmncnaaGreatDoor
open Go.RowKit (wrap32 wrap64)
set_option linter.unusedVariables false
set_option linter.unusedSimpArgs false
abbrev nil2 : Obj := .cells #[.slice none 0 0, .slice none 0 0] 33
theorem underL32 : Tryz.prog.underlying 31 = some (.slice 30) := by kernel_rfl
theorem own_slice {w : World} {B e sz n : Nat} {v : Value} {xs : List Value} (h : w.ownsRow B e sz v n xs) : ∃ a c, v = .slice a n c := by
 rcases h.2 with ⟨e, e2⟩ | ⟨g, cap, cur, e, -⟩
 ·exact ⟨none, 0, by rw [e, e2]⟩
 ·exact ⟨_, _, e⟩
theorem keepA {W : World} {k : Nat} {o' : Obj} (h : W.heap[k]? = some o') (o : Obj) : (W.alloc o).heap[k]? = some o' := by rw [Go.RowKit.Below.heap_alloc _ _ _ (heap_lt h)]; exact h
theorem keepF {W W' : World} {k : Nat} {o' : Obj} (h : W.heap[k]? = some o') (f : Fr (fun _ => False) W W') : W'.heap[k]? = some o' := (f.block k (heap_lt h) (fun e => e)).trans h
structure LO (w : World) (B : Nat) (rv : Value) (us : List Value) (ls : List (List Int)) : Prop where
 row : w.ownsRow B 30 1 rv us.length us
 ul : us.length = ls.length
 each : ∀ i (h : i < us.length) (h' : i < ls.length), IOwn w B us[i] ls[i]
 apart : ∀ i j (h : i < us.length) (h' : j < us.length), i ≠ j → ∀ k, us[i].ownBlock = some k → us[j].ownBlock ≠ some k
theorem LO.la {w : World} {B : Nat} {rv : Value} {us : List Value} {ls : List (List Int)} (h : LO w B rv us ls) : LA w rv ls := by
 obtain ⟨ra, rc, erv⟩ := own_slice h.row
 refine ⟨ra, rc, by rw [erv, h.ul], fun hne => ?_⟩
 have hl0 : 0 < us.length := by rw [h.ul]; exact List.length_pos_iff.2 hne
 obtain ⟨g, cap, e, hgl, -⟩ := own_cell h.row (j := 0) (u := us[0]) (List.getElem?_eq_getElem hl0)
 rw [erv] at e
 cases e
 refine ⟨g, 0, rfl, hgl, fun j hj => ?_⟩
 have hj' : j < us.length := by rw [h.ul]; exact hj
 obtain ⟨g', cap', e', -, hc⟩ := own_cell h.row (j := j) (u := us[j]) (List.getElem?_eq_getElem hj')
 rw [erv] at e'
 cases e'
 exact ⟨us[j], by rw [Nat.zero_add]; exact hc, (h.each j hj' hj).ia⟩
structure SO (w : World) (B : Nat) (hv rv : Value) (us : List Value) (s : PS) : Prop where
 oh : IOwn w B hv s.H
 lo : LO w B rv us s.R
 ap : ∀ i (h : i < us.length), ∀ k, us[i].ownBlock = some k → hv.ownBlock ≠ some k
theorem SO.sa {w : World} {B : Nat} {hv rv : Value} {us : List Value} {s : PS} (h : SO w B hv rv us s) : (IA w hv s.H ∧ LA w rv s.R) := ⟨h.oh.ia, h.lo.la⟩
end Go.Proofs.YtdkijecnnmncnaaGreatDoor
namespace Go.Proofs.YtdkijecnnmncnaaGreatDoor
open Go.RowKit (wrap32 wrap64)
set_option linter.unusedVariables false
set_option linter.unusedSimpArgs false
theorem under25 : Tryz.prog.underlying 25 = some (.slice 33) := by kernel_rfl
end Go.Proofs.YtdkijecnnmncnaaGreatDoor
