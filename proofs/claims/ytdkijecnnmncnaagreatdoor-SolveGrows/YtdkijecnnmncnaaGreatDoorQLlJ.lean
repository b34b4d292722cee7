import Derived.Test.YtdkijecnnmncnaaGreatDoorQLjJ
import Derived.Test.YtdkijecnnmncnaaGreatDoorQUf
namespace Go.Proofs.YtdkijecnnmncnaaGreatDoor
open Go.RowKit (wrap32 wrap64)
set_option linter.unusedVariables false
set_option linter.unusedSimpArgs false
theorem FO.shape {w : World} {B : Nat} {v : Value} {L : List FI} (h : FO w B v L) : ∃ a c, v = .slice a L.length c := by
 rcases h.row.2 with ⟨h2, h3⟩ | ⟨g, cap, cur, e, -⟩
 ·exact ⟨none, 0, by rw [h2, h3]⟩
 ·exact ⟨_, _, e⟩
theorem FO.far {S : Nat → Prop} {w w' : World} {B : Nat} {v : Value} {L : List FI} (h : FO w B v L) (f : Fr S w w') (hS : ∀ k, S k → k < B) : FO w' B v L := by
 have no : ∀ k, B ≤ k → ¬ S k := fun k hk e => by have := hS k e; omega
 refine ⟨ownsRow_frL h.row f (fun k e => no k (World.ownsRow.lt h.row k e).1), fun x hx => ⟨(h.code x hx).1.fr f (fun k e => no k (World.ownsRow.lt (h.code x hx).1.row k e).1) (fun y hy k e => ?_), (h.code x hx).2⟩⟩
 rcases e with e | e
 ·exact no k (((h.code x hx).1.ints y hy).1.ge k e).1
 ·exact no k (((h.code x hx).1.ints y hy).2.ge k e).1
theorem FO.mono {w : World} {B B' : Nat} {v : Value} {L : List FI} (h : FO w B v L) (hB : B' ≤ B) : FO w B' v L := ⟨World.ownsRow.mono h.row hB, fun x hx => ⟨(h.code x hx).1.mono hB, (h.code x hx).2⟩⟩
end Go.Proofs.YtdkijecnnmncnaaGreatDoor
namespace Go.Proofs.YtdkijecnnmncnaaGreatDoor
open Go.RowKit (wrap32 wrap64)
set_option linter.unusedVariables false
set_option linter.unusedSimpArgs false
set_option maxRecDepth 100000
set_option maxHeartbeats 2000000
def Pw (L : List FI) : Prop := L.Pairwise fun x y => ∀ k, x.2.1.ownBlock = some k → y.2.1.ownBlock ≠ some k
theorem Pw.more {L : List FI} {x : FI} {n : Nat} (h : Pw L) (h1 : ∀ y ∈ L, ∀ k, y.2.1.ownBlock = some k → k < n) (h2 : ∀ k, x.2.1.ownBlock = some k → n ≤ k) : Pw (L ++ [x]) := by
 refine List.pairwise_append.2 ⟨h, List.pairwise_singleton _ _, fun y hy z hz k e e2 => ?_⟩
 obtain rfl := List.mem_singleton.1 hz
 have := h1 y hy k e
 have := h2 k e2
 omega
theorem Pw.ne {L : List FI} (h : Pw L) {i j : Nat} (hi : i < L.length) (hj : j < L.length) (hne : j ≠ i) : ∀ k, L[j].2.1.ownBlock = some k → L[i].2.1.ownBlock ≠ some k := fun k e e2 => by
 rcases Nat.lt_or_gt_of_ne hne with h1 | h1
 ·exact List.pairwise_iff_getElem.1 h j i hj hi h1 k e e2
 ·exact List.pairwise_iff_getElem.1 h i j hi hj h1 k e2 e
theorem copyFuncsP_any (v : Value) (fs : List PF) (w : World) (hl : FA w v fs) (hn : FineP fs) :
 Calls Tryz.prog 47 #[v] w fun e w' => ∃ v' L, e = .returned v' ∧ FO w' w.heap.size v' L ∧ Pw L ∧ L.map (·.1) = fs ∧ Fr (fun _ => False) w w' := by
 obtain ⟨ea, ec, rfl, hein⟩ := hl
 have HE : Hd _ := hein
 have HFI : Hd (FineP fs) := hn
 have hz := hn.1
 clear hein hn
 obtain ⟨i7, hi7, hz7, hs7, hb7⟩ := info_parts (P := Tryz.prog) (e := 45) (z := .agg #[vI 0, vI 0, vI 0, .slice none 0 0]) (size := 4) (bytes := 48) (by kernel_rfl)
 go_enter Tryz.func47, Tryz.ntmps47
 go_wp2_with fail
 go_loopw [3, 4] (fun mv v wr => ∃ (k : Nat) (L : List FI), v = .int .i64 k ∧ k ≤ fs.length ∧ Hd (FO wr w.heap.size mv L) ∧ Hd (Pw L) ∧ Hd (L.map (·.1) = fs.take k) ∧ Hd (Fr (fun _ => False) w wr)) (fun _ v _ => match v with | .int _ q => fs.length - q.toNat | _ => 0)
 case atStart => exact ⟨0, [], rfl, Nat.zero_le _, ⟨World.ownsRow_nil _ _ _ _, fun x hx => by simp at hx⟩, List.Pairwise.nil, rfl, Fr.refl _ _⟩
 case round =>
  obtain ⟨k, L, rfl, hk, HO, HPW, HM, HF⟩ := hrel
  by_cases hlt : k < fs.length
  ·have hne : fs ≠ [] := by intro e; simp [e] at hlt
   obtain ⟨k1, o1, rfl, hk1, g1⟩ := HE.out hne
   obtain ⟨x1, p0, p1, p2, p3, ix1⟩ := g1 k hlt
   have m1 := fun o => HF.out.cell (o := o) hk1 (fun h => h)
   have p0 := (m1 _).trans p0
   have p1 := (m1 _).trans p1
   have p2 := (m1 _).trans p2
   have p3 := (m1 _).trans p3
   have X1 : Hd (CA wr x1 fs[k].code) := ix1.stay HF.out
   have HC : Hd (FineC fs[k].code) := HFI.out.2 _ (List.getElem_mem hlt)
   have HT : Hd (fs.take (k + 1) = fs.take k ++ [fs[k]]) := by unfold Hd; rw [List.take_add_one, List.getElem?_eq_getElem hlt]; rfl
   have HLL : Hd (L.length = k) := by have := congrArg List.length HM.out; simp at this; unfold Hd; omega
   generalize fs[k] = f at *
   obtain ⟨a, b, e1, -⟩ := ix1
   subst e1
   have hk0 : (0 : Int) ≤ k := by omega
   have hk3 : (k : Int) < fs.length := by omega
   clear g1 m1
   go_wp2_with fail
   refine (show Calls Tryz.prog 90 #[.agg #[vI f.P, vI f.R, vI f.V, .slice a f.code.length b]] wr _ from copyFunc_any f _ wr X1.out HC.out).mono ?_
   rintro e w1 ⟨x', Lx, rfl, hx, hLx, hF1⟩
   obtain ⟨xa, xc, rfl⟩ := hx.shape
   obtain ⟨wb, hwb⟩ : ∃ wb, wb = w1.alloc (.cells #[vI f.P, vI f.R, vI f.V, .slice xa Lx.length xc] 45) := ⟨_, rfl⟩
   have hFb : Fr (fun _ => False) w1 wb := by rw [hwb]; exact Fr.alloc (Fr.refl _ w1) _
   have hFc : Fr (fun _ => False) w1 (wb.alloc (.cells #[vI f.P, vI f.R, vI f.V, .slice xa Lx.length xc] 45)) := Fr.alloc hFb _
   have b1 : wb.heap[w1.heap.size]? = some (.cells #[vI f.P, vI f.R, vI f.V, .slice xa Lx.length xc] 45) := by rw [hwb]; exact heap_new w1 _
   have HO1 : Hd (FO (wb.alloc (.cells #[vI f.P, vI f.R, vI f.V, .slice xa Lx.length xc] 45)) w.heap.size u3 L) := HO.out.stay (hF1.trans hFc)
   have HX1 : Hd (CO (wb.alloc (.cells #[vI f.P, vI f.R, vI f.V, .slice xa Lx.length xc] 45)) w.heap.size (.slice xa Lx.length xc) Lx) := (hx.stay hFc).mono HF.out.size
   have HPW2 : Hd (Pw (L ++ [(f, Value.slice xa Lx.length xc, Lx)])) := Pw.more HPW.out (fun y hy k e => (World.ownsRow.lt (HO.out.code y hy).1.row k e).2) (fun k e => (World.ownsRow.lt hx.row k e).1)
   have HLX : Hd (Lx.map (·.1) = f.code) := hLx
   have HF1 : Hd (Fr (fun _ => False) w (wb.alloc (.cells #[vI f.P, vI f.R, vI f.V, .slice xa Lx.length xc] 45))) := HF.out.trans (hF1.trans hFc)
   have HWB : Hd (wb = w1.alloc (.cells #[vI f.P, vI f.R, vI f.V, .slice xa Lx.length xc] 45)) := hwb
   have HRW : Hd ((wb.alloc (.cells #[vI f.P, vI f.R, vI f.V, .slice xa Lx.length xc] 45)).ownsRow w.heap.size 45 4 u3 L.length (L.flatMap rowF)) := HO1.out.row
   have hnews : ∀ j u, [vI f.P, vI f.R, vI f.V, .slice xa Lx.length xc][j]? = some u → (wb.alloc (.cells #[vI f.P, vI f.R, vI f.V, .slice xa Lx.length xc] 45)).cell? ((⟨wb.heap.size, 0, none⟩ : Addr).add j) = some u :=
    World.news_of_block (cs := #[vI f.P, vI f.R, vI f.V, .slice xa Lx.length xc]) (heap_new wb _)
   have hbase : w.heap.size ≤ (wb.alloc (.cells #[vI f.P, vI f.R, vI f.V, .slice xa Lx.length xc] 45)).heap.size := HF1.out.size
   have hEl : L.length + 1 ≤ 2932031007318 := by have := HLL.out; omega
   have u0 : wb.cell? ⟨w1.heap.size, 0, none⟩ = some (vI f.P) := by rw [cell_of b1]; rfl
   have u1 : wb.cell? ⟨w1.heap.size, 1, none⟩ = some (vI f.R) := by rw [cell_of b1]; rfl
   have u2 : wb.cell? ⟨w1.heap.size, 2, none⟩ = some (vI f.V) := by rw [cell_of b1]; rfl
   have u3' : wb.cell? ⟨w1.heap.size, 3, none⟩ = some (.slice xa Lx.length xc) := by rw [cell_of b1]; rfl
   clear hx hLx hF1 hFb hFc b1 HO HF hwb p0 p1 p2 p3
   go_upto_region 6 with fail
   rw [← HWB.out]
   clear HWB
   go_wp2_with ((at_builtin; refine Hd.out ?_))
   unfold Hd
   refine wpList_append_lies _ rfl (.tmp 17) (.tmp 19) 22 rfl w.heap.size 45 i7 (.agg #[vI 0, vI 0, vI 0, .slice none 0 0]) 4 48 under24 hi7 hz7 hs7 hb7 rfl (by omega) u3 L.length _ rfl HRW.out ⟨wb.heap.size, 0, none⟩ 1 1 [vI f.P, vI f.R, vI f.V, .slice xa Lx.length xc] rfl rfl hnews (by intro u hu; simp at hu; rcases hu with rfl | rfl | rfl | rfl <;> rfl) (by omega) (by unfold maxLen; omega) (by omega) hbase (wb.heap.size + 1) (by simp) ?_
   intro g6 cap6 w6 hown6 hgrow6 hat6 hlt6
   have hF6 := grown_frL hgrow6
   have HO6 : Hd (FO w6 w.heap.size (.slice (some ⟨g6, 0, none⟩) (L.length + 1) cap6) (L ++ [(f, .slice xa Lx.length xc, Lx)])) := by
    have keep : ∀ (v : Value) (M : List CI), CO (wb.alloc (.cells #[vI f.P, vI f.R, vI f.V, .slice xa Lx.length xc] 45)) w.heap.size v M → CO w6 w.heap.size v M := fun v M hM =>
     hM.fr hF6 (fun j e e2 => own_apart HRW.out hM.row (by decide) j e e2) (fun y hy j e e2 => by
      rcases e with e | e
      ·exact own_apart HRW.out (hM.ints y hy).1 (by decide) j e e2
      ·exact own_apart HRW.out (hM.ints y hy).2 (by decide) j e e2)
    refine ⟨?_, fun x hx => ?_⟩
    ·rw [List.length_append, List.flatMap_append]
     simpa using hown6
    ·rcases List.mem_append.1 hx with hx | hx
     ·exact ⟨keep _ _ (HO1.out.code x hx).1, (HO1.out.code x hx).2⟩
     ·simp at hx
      subst hx
      exact ⟨keep _ _ HX1.out, HLX.out⟩
   have HF6 : Hd (Fr (fun _ => False) w w6) := grow_fr0 HF1.out hgrow6 (fun k hk => (World.ownsRow.lt HRW.out k hk).1)
   have HM6 : Hd ((L ++ [(f, Value.slice xa Lx.length xc, Lx)]).map (·.1) = fs.take (k + 1)) := by
    unfold Hd
    rw [HT.out, List.map_append, HM.out]
    rfl
   clear hown6 hgrow6 hat6 hlt6 HO1 HF1 HRW hnews hbase hF6 HX1 u0 u1 u2 u3'
   go_wp2_with fail
   exact ⟨⟨k + 1, _, by simp, by omega, HO6.out, HPW2.out, HM6.out, HF6.out⟩, by simp; omega⟩
  ·have hke : k = fs.length := by omega
   subst hke
   have HM2 : Hd (L.map (·.1) = fs) := by have := HM.out; rw [List.take_length] at this; exact this
   clear HM
   go_wp2_with fail
   go_ret
   exact ⟨u3, L, rfl, HO.out, HPW.out, HM2.out, HF.out⟩
theorem copyProgramP_any (G : Int) (v : Value) (fs : List PF) (w : World) (hl : FA w v fs) (hn : FineP fs) :
 Calls Tryz.prog 15 #[.agg #[vI G, v]] w fun e w' => ∃ v' L, e = .returned (.agg #[vI G, v']) ∧ FO w' (w.heap.size + 2) v' L ∧ Pw L ∧ L.map (·.1) = fs ∧ Fr (fun _ => False) w w' := by
 obtain ⟨a1, b1, e1, -⟩ := id hl
 obtain ⟨wa, hwa⟩ : ∃ wa, wa = (w.alloc (.cells #[vI G, v] 24)).alloc (.cells #[vI 0, .slice none 0 0] 24) := ⟨_, rfl⟩
 have hF : Fr (fun _ => False) w wa := by rw [hwa]; exact Fr.alloc (Fr.alloc (Fr.refl _ w) _) _
 have hsz : wa.heap.size = w.heap.size + 2 := by rw [hwa]; simp
 have b1' : wa.heap[w.heap.size]? = some (.cells #[vI G, v] 24) := by
  rw [hwa, Go.RowKit.Below.heap_alloc _ _ _ (by simp)]; exact heap_new w _
 have b2' : wa.heap[w.heap.size + 1]? = some (.cells #[vI 0, .slice none 0 0] 24) := by
  rw [hwa, show w.heap.size + 1 = (w.alloc (.cells #[vI G, v] 24)).heap.size by simp]; exact heap_new _ _
 have HWA : Hd (wa = (w.alloc (.cells #[vI G, v] 24)).alloc (.cells #[vI 0, .slice none 0 0] 24)) := hwa
 have G1 : Hd (FA wa v fs) := hl.stay hF
 have HF : Hd (Fr (fun _ => False) w wa) := hF
 obtain ⟨H, hH⟩ : ∃ H, H = w.heap.size := ⟨_, rfl⟩
 have HH : Hd (H = w.heap.size) := hH
 have HSZ : Hd (wa.heap.size = H + 2) := by rw [hH]; exact hsz
 rw [← hH] at b1' b2'
 have B1 : Hd _ := b1'
 have B2 : Hd _ := b2'
 have p0 : wa.cell? ⟨H, 0, none⟩ = some (vI G) := by rw [cell_of b1']; rfl
 have p1 : wa.cell? ⟨H, 1, none⟩ = some v := by rw [cell_of b1']; rfl
 subst e1
 clear hl hF hsz hwa hH b1' b2'
 go_enter Tryz.func15, Tryz.ntmps15
 go_upto_region 1 with fail
 rw [← HWA.out, ← HH.out]
 clear HWA
 go_region_held3 (fun w' => w'.cell? ⟨H, 0, none⟩ = some (vI G) ∧ w'.cell? ⟨H, 1, none⟩ = some (.slice a1 fs.length b1)) (go_keep) ((
  go_at_call 47
  refine (show Calls Tryz.prog 47 #[.slice a1 fs.length b1] wa.drew _ from copyFuncsP_any _ fs wa.drew G1.out hn).mono ?_
  rintro e w2 ⟨x', L, rfl, hx', hpw, hL, hF2⟩
  have HPW : Hd (Pw L) := hpw
  have hG2 : Fr (fun _ => False) wa w2 := (Fr.refl _ wa).drew.trans hF2
  have B1' : w2.heap[H]? = some (.cells #[vI G, .slice a1 fs.length b1] 24) := (hG2.block H (heap_lt B1.out) (fun e => e)).trans B1.out
  have B2' : w2.heap[H + 1]? = some (.cells #[vI 0, .slice none 0 0] 24) := (hG2.block (H + 1) (heap_lt B2.out) (fun e => e)).trans B2.out
  have s0 : w2.cell? ⟨H, 0, none⟩ = some (vI G) := by rw [cell_of B1']; rfl
  have s1 : w2.cell? ⟨H, 1, none⟩ = some (.slice a1 fs.length b1) := by rw [cell_of B1']; rfl
  have d0 : w2.cell? ⟨H + 1, 0, none⟩ = some (vI 0) := by rw [cell_of B2']; rfl
  have d1 : w2.cell? ⟨H + 1, 1, none⟩ = some (.slice none 0 0) := by rw [cell_of B2']; rfl
  have y0 := frozen_of B2' 0
  have y1 := frozen_of B2' 1
  have HX : Hd (FO w2 (H + 2) x' L) := hx'.mono (by have := HSZ.out; show H + 2 ≤ wa.heap.size; omega)
  have HLL : Hd (L.map (·.1) = fs) := hL
  have HF2 : Hd (Fr (fun _ => False) w w2) := HF.out.trans hG2
  have HB2 : Hd (w2.heap[H + 1]? = some (.cells #[vI 0, .slice none 0 0] 24)) := B2'
  obtain ⟨xa, xc, rfl⟩ := hx'.shape
  clear hpw hx' hL hF2 hG2 B1' B2'))
 all_goals
  have HZ : Hd (((w2.setCell ⟨H + 1, 0, none⟩ (vI G)).setCell ⟨H + 1, 1, none⟩ (.slice xa L.length xc)).heap[H + 1]? = some (.cells #[vI G, .slice xa L.length xc] 24)) := set_of (set_of HB2.out 0 _) 1 _
  have fs6 : Fr (fun j => j = H + 1) w2 ((w2.setCell ⟨H + 1, 0, none⟩ (vI G)).setCell ⟨H + 1, 1, none⟩ (.slice xa L.length xc)) := Fr.setCell (S := fun j => j = H + 1) (Fr.setCell (S := fun j => j = H + 1) (Fr.refl _ w2) _ _ (Or.inl rfl)) _ _ (Or.inl rfl)
  have KX : Hd (FO ((w2.setCell ⟨H + 1, 0, none⟩ (vI G)).setCell ⟨H + 1, 1, none⟩ (.slice xa L.length xc)) (w.heap.size + 2) (.slice xa L.length xc) L) := by
   have := HX.out.far fs6 (fun k e => by omega)
   exact this.mono (by have := HH.out; omega)
  have KF : Hd (Fr (fun _ => False) w ((w2.setCell ⟨H + 1, 0, none⟩ (vI G)).setCell ⟨H + 1, 1, none⟩ (.slice xa L.length xc))) := Fr.then HF2.out fs6 (fun j hj e => by have := HH.out; omega)
  clear fs6
  go_wp2_with fail
  generalize (w2.setCell ⟨H + 1, 0, none⟩ (vI G)).setCell ⟨H + 1, 1, none⟩ (.slice xa L.length xc) = wz at *
  have e0 : wz.cell? ⟨H + 1, 0, none⟩ = some (vI G) := by rw [cell_of HZ.out]; rfl
  have e1 : wz.cell? ⟨H + 1, 1, none⟩ = some (.slice xa L.length xc) := by rw [cell_of HZ.out]; rfl
  refine bodyPost_ret (v := .agg #[vI G, .slice xa L.length xc]) ?_ rfl ⟨_, L, rfl, KX.out, HPW.out, HLL.out, KF.out⟩
  rw [results_cell (p := 2) (ty := 24) Tryz.results15]
  simp [go_sem, e0, e1]
def rowN (L : List FI) : List (PF × Value) := L.map fun x => (x.1, x.2.1)
theorem rowN_flat : ∀ L : List FI, (rowN L).flatMap rowP = L.flatMap rowF
 | [] => rfl
 | x :: L => by
   show rowP (x.1, x.2.1) ++ (rowN L).flatMap rowP = rowF x ++ L.flatMap rowF
   rw [rowN_flat L]
theorem fn_set {w w' : World} {B g cap i : Nat} {N : List (PF × Value)} {x : PF × Value} (h : w.ownsRow B 45 4 (.slice (some ⟨g, 0, none⟩) N.length cap) N.length (N.flatMap rowP)) (hi : i < N.length) (hw : w'.ownsRow B 45 4 (.slice (some ⟨g, 0, none⟩) N.length cap) N.length ((N.set i x).flatMap rowP)) (hc : ∀ j (hj : j < N.length), j ≠ i → CA w' N[j].2 N[j].1.code) (hx : CA w' x.2 x.1.code) : FA w' (.slice (some ⟨g, 0, none⟩) N.length cap) ((N.set i x).map (·.1)) := by
 refine fa_of_row (B := B) (N := N.set i x) (by rw [List.length_set]; exact hw) (fun y hy => ?_)
 obtain ⟨j, hj, rfl⟩ := List.mem_iff_getElem.1 hy
 rw [List.getElem_set]
 split
 ·exact hx
 ·rename_i hne
  exact hc j (by simpa using hj) (fun e => hne e.symm)
theorem fo_app {W w6 : World} {B g cap i m : Nat} {L : List FI} {M : List CI} {cv mv : Value} (h : FO W B (.slice (some ⟨g, 0, none⟩) L.length cap) L) (hp : Pw L) (hi : i < L.length) (hM : CO W B mv M) (hg : W.grownBy w6 L[i].2.1.ownBlock) (ho : w6.ownsRow B 79 7 cv m ((L[i].2.2 ++ M).flatMap rowI)) (hm : m = (L[i].2.2 ++ M).length) :
 FA (w6.setCell ⟨g, i * 4 + 3, none⟩ cv) (.slice (some ⟨g, 0, none⟩) L.length cap) ((L.map (·.1)).set i { L[i].1 with code := L[i].1.code ++ M.map (·.1) }) := by
 subst hm
 have hN : (rowN L).length = L.length := by unfold rowN; simp
 have fg := grown_frL hg
 have hLi := h.code L[i] (List.getElem_mem hi)
 have hrow6 : w6.ownsRow B 45 4 (.slice (some ⟨g, 0, none⟩) L.length cap) L.length (L.flatMap rowF) := ownsRow_frL h.row fg (fun k e e2 => own_apart h.row hLi.1.row (by decide) k e2 e)
 have hrow := hrow6
 rw [← rowN_flat, ← hN] at hrow
 have fs := setCell_fr w6 g (i * 4 + 3) cv
 have hset := (row_set (j := i * 4 + 3) hrow cv).1
 have hgi : (rowN L)[i]'(by omega) = (L[i].1, L[i].2.1) := by simp only [rowN, List.getElem_map]
 rw [← flat_set rowP 4 (fun _ => rfl) 3 (by omega) cv (rowN L) i (by omega) ({ L[i].1 with code := L[i].1.code ++ M.map (·.1) }, cv) (by rw [hgi]; rfl)] at hset
 have intsg : ∀ (u : Value) (l : List Int), IOwn W B u l → IOwn w6 B u l := fun u l hu => hu.fr fg (fun k e e2 => own_apart hLi.1.row hu (by decide) k e e2)
 have hfa := fn_set hrow (by omega) hset (fun j hj hne => ?_) ?_
 ·rw [hN] at hfa
  have e : ((rowN L).set i ({ L[i].1 with code := L[i].1.code ++ M.map (·.1) }, cv)).map (·.1) = (L.map (·.1)).set i { L[i].1 with code := L[i].1.code ++ M.map (·.1) } := by
   rw [List.map_set]
   unfold rowN
   rw [List.map_map]
   rfl
  rw [e] at hfa
  exact hfa
 ·have hj' : j < L.length := by omega
  have e : (rowN L)[j] = (L[j].1, L[j].2.1) := by simp only [rowN, List.getElem_map]
  rw [e]
  obtain ⟨k1, k2⟩ := h.code L[j] (List.getElem_mem hj')
  have k6 : CO w6 B L[j].2.1 L[j].2.2 := ⟨ownsRow_frL k1.row fg (fun k e e2 => hp.ne hi hj' hne k e e2), fun y hy => ⟨intsg _ _ (k1.ints y hy).1, intsg _ _ (k1.ints y hy).2⟩⟩
  have := (k6.fr fs (fun k e1 e2 => own_apart hrow6 k6.row (by decide) k e1 (by rw [e2]; rfl)) (fun y hy k e1 e2 => by
   rcases e1 with e1 | e1
   ·exact own_apart hrow6 (k6.ints y hy).1 (by decide) k e1 (by rw [e2]; rfl)
   ·exact own_apart hrow6 (k6.ints y hy).2 (by decide) k e1 (by rw [e2]; rfl))).ca
  rw [k2] at this
  exact this
 ·have k6 : CO w6 B cv (L[i].2.2 ++ M) := ⟨ho, fun y hy => by
   rcases List.mem_append.1 hy with hy | hy
   ·exact ⟨intsg _ _ (hLi.1.ints y hy).1, intsg _ _ (hLi.1.ints y hy).2⟩
   ·exact ⟨intsg _ _ (hM.ints y hy).1, intsg _ _ (hM.ints y hy).2⟩⟩
  have := (k6.fr fs (fun k e1 e2 => own_apart hrow6 k6.row (by decide) k e1 (by rw [e2]; rfl)) (fun y hy k e1 e2 => by
   rcases e1 with e1 | e1
   ·exact own_apart hrow6 (k6.ints y hy).1 (by decide) k e1 (by rw [e2]; rfl)
   ·exact own_apart hrow6 (k6.ints y hy).2 (by decide) k e1 (by rw [e2]; rfl))).ca
  rw [List.map_append, hLi.2] at this
  exact this
theorem co_news {w : World} {B : Nat} {v : Value} {M : List CI} (h : CO w B v M) (hm : 0 < M.length) : ∃ g cap, v = .slice (some ⟨g, 0, none⟩) M.length cap ∧ (∀ j u, (M.flatMap rowI)[j]? = some u → w.cell? ((⟨g, 0, none⟩ : Addr).add j) = some u) ∧ (∀ u ∈ M.flatMap rowI, u.oneCell' = true) := by
 rcases h.row.2 with ⟨h2, h3⟩ | ⟨g, cap, cur, e, -⟩
 ·omega
 ·refine ⟨g, cap, e, fun j u hj => ?_, fun u hu => ?_⟩
  ·obtain ⟨g', cap', e', -, hc⟩ := own_cell h.row hj
   rw [e] at e'
   cases e'
   rw [Wg.addr_add]
   exact hc
  ·obtain ⟨x, hx, hu⟩ := List.mem_flatMap.1 hu
   obtain ⟨a1, c1, e1⟩ := own_slice (h.ints x hx).1
   obtain ⟨a2, c2, e2⟩ := own_slice (h.ints x hx).2
   simp only [rowI, List.mem_cons, List.not_mem_nil, or_false] at hu
   rcases hu with rfl | rfl | rfl | rfl | rfl | rfl | rfl
   all_goals first | rfl | (rw [e1]; rfl) | (rw [e2]; rfl)
theorem step_append_none0 {P : Program} {w : World} {ops : Array Oper} {o : Oper} {a : Act} {K : Act → World → Prop} {Q : Exit → Act → World → Prop} {E : Prop} (hgd : o.guard = none) (s x : Operand) (t : TypeId)
 (ho : o.op = .call { callee := .builtin .append, args := #[s, x], argTypes := #[t, t] })
 (base : Nat) (e : TypeId) (i : TypeInfo) (size : Nat) (ht : P.underlying t = some (.slice e)) (hi : P.info? e = some i)
 (v : Value) (n : Nat) (xs : List Value) (hs : a.eval s = v) (hown : w.ownsRow base e size v n xs) (ad : Option Addr) (c : Nat) (hx : a.eval x = .slice ad 0 c) (hc : ad = none → c = 0)
 (h : K (a.put o.dst v) w) : if Region.wanted o (yielded ops a.tmps) = true then Oper.wp P o a w K Q else E := by
 have hw : Region.wanted o (yielded ops a.tmps) = true := by simp [Region.wanted, hgd]
 rw [if_pos hw]
 have hrun : (Builtin.append_ #[t, t] o.type #[v, .slice ad 0 c]).run P w = .ok v w := by
  cases ad with
  | some ad => exact run_append_none0 base t o.type e i size ht hi v n xs hown ad c
  | none =>
    rw [hc rfl]
    rcases hown.2 with ⟨rfl, rfl⟩ | ⟨g, cap, cur, rfl, _, _, hnc, _⟩
    ·simp [Builtin.append_, run_underlying ht, sizeOf, typeInfo, hi, Builtin.lenOf, Builtin.firstCells]
    ·simp [Builtin.append_, run_underlying ht, sizeOf, typeInfo, hi, Builtin.lenOf, Builtin.firstCells, hnc, storeCells]
 unfold Oper.wp
 simp [execOp, ho, resolve, invoke, builtin, hs, hx, hrun, Result.andThen]
 exact h
end Go.Proofs.YtdkijecnnmncnaaGreatDoor
namespace Go.Proofs.YtdkijecnnmncnaaGreatDoor
open Go.RowKit (wrap32 wrap64)
set_option linter.unusedVariables false
set_option linter.unusedSimpArgs false
theorem above_lwr (x1 y1 x2 y2 : Value) (s t : PS) (P R : Int) (w : World) (h1 : IA w x1 s.H) (h2 : LA w y1 s.R) (h3 : IA w x2 t.H) (h4 : LA w y2 t.R) (hL : Lwr s t) (hf : fitsX s P R = true) (hP : P ≤ 8) (hR : R ≤ 4) :
 Calls Tryz.prog 14 #[.agg #[x1, y1], .agg #[x2, y2]] w fun e w' => e = .returned (.bool true) ∧ Fr (fun _ => False) w w' := by
 obtain ⟨l1, l2, l3, -, -⟩ := fits_len hf
 have e1 := hL.h
 have e2 := hL.r
 refine above_true x1 y1 x2 y2 s t w s.H.length h1 h2 h3 h4 rfl (by omega) (by omega) (by omega) (by omega) fun k hk => ?_
 have k1 : k < s.H.length := by omega
 have k2 : k < s.R.length := by omega
 have k3 : k < t.H.length := by omega
 have k4 : k < t.R.length := by omega
 have e1 : s.H.getD k 0 = s.H[k] := by simp [k1]
 have e2 : s.R.getD k [] = s.R[k] := by simp [k2]
 have e3 : t.H.getD k 0 = t.H[k] := by simp [k3]
 have e4 : t.R.getD k [] = t.R[k] := by simp [k4]
 rw [e1, e2, e3, e4]
 have hlen := l3 _ (List.getElem_mem k2)
 refine ⟨hL.hn k k3 k1, hL.rl k k4 k2, by omega, fun j hj => ?_⟩
 have hj' : j < t.R[k].length := by have := hL.rl k k4 k2; omega
 have e5 : s.R[k].getD j 0 = s.R[k][j] := by simp [hj]
 have e6 : t.R[k].getD j 0 = t.R[k][j] := by simp [hj']
 rw [e5, e6]
 exact hL.rn k k4 k2 j hj' hj
theorem one_fa {w : World} {g : Nat} {mv : Value} {cs : List PI} (h : w.heap[g]? = some (.cells #[vI 0, vI 0, vI 0, mv] 45)) (hm : CA w mv cs) : FA w (.slice (some ⟨g, 0, none⟩) 1 1) [⟨0, 0, 0, cs⟩] := by
 refine ⟨_, 1, rfl, fun _ => ⟨g, 0, rfl, heap_lt0 h, fun j hj => ?_⟩⟩
 obtain rfl : j = 0 := by simp at hj; omega
 exact ⟨mv, by rw [cell_of0 h]; rfl, by rw [cell_of0 h]; rfl, by rw [cell_of0 h]; rfl, by rw [cell_of0 h]; rfl, hm⟩
def grwP (fs : List PF) (i : Nat) (f : PF) (ms : List PI) : List PF := fs.set i { f with code := f.code ++ ms }
def GrC (w0 : World) (g n cap i X : Nat) (qo : Obj) (fs : List PF) (f : PF) (ms : List PI) (x : Value) (w : World) : Prop :=
 (∃ a m c, x = .slice a m c) ∧ FA (w.setCell ⟨g, i * 4 + 3, none⟩ x) (.slice (some ⟨g, 0, none⟩) n cap) (grwP fs i f ms) ∧ Fr (fun _ => False) w0 w ∧ w.heap[X]? = some qo ∧ (∃ u, w.cell? ⟨g, i * 4 + 3, none⟩ = some u) ∧ w.frozen? ⟨g, i * 4 + 3, none⟩ = false ∧ g < w.heap.size
end Go.Proofs.YtdkijecnnmncnaaGreatDoor
