import Derived.Test.YtngbakjalmgciaaGreatQQa2J
import Derived.BigRegion
import Derived.StillTailTactics
namespace Go.Proofs.YtngbakjalmgciaaGreat
open Go.RowKit (wrap32 wrap64)
set_option linter.unusedVariables false
set_option linter.unusedSimpArgs false

section
variable {w : World} {B sb tb : Nat} {lv kv vv hv : Value} {ro : Nat → Nat} {dvs : List DV} {mvs : List MV} {t : DS}
set_option maxRecDepth 100000 in
set_option maxHeartbeats 4000000 in
theorem rstep_end (h : Sn w B sb tb lv kv vv hv ro dvs mvs t) (n : Nat) (hn : n < dvs.length) (hl : dvs.length ≤ 64) (o : OpT) (hop : dvs[n].d.ops[dvs[n].d.at']? = some o) (hol : dvs[n].d.ops.length ≤ 2147483647) (hb : dvs[n].d.begun = true) (hd : dvs[n].d.done = true) (hms : t.ms.length ≤ 100000000000) :
    Calls Tryz.prog 29 #[.pointer (some ⟨sb, 0, none⟩), vI (n : Nat)] w fun e w' => e = .returned (.tuple #[]) ∧ Snd w' B sb tb dvs.length { t with cls := t.cls.set n { dvs[n].d with at' := dvs[n].d.at' + 1, begun := false, done := false }, ms := t.ms ++ [⟨n, false, o, dvs[n].d.rp⟩] } ∧ Fr (fun j => B ≤ j) w w' := by
  obtain ⟨lg, lc, og, oo, oc, eov, hat, hx⟩ := h.looks n hn o hop
  have H : Hd (Sn w B sb tb lv kv vv hv ro dvs mvs t) := h
  obtain ⟨x, ex⟩ : ∃ x, x = dvs[n] := ⟨_, rfl⟩
  have HN : Hd (n < dvs.length) := hn
  have hro : Hd (∀ j, w.heap.size ≤ j → ro j = 0) := fun j hj => by
    by_cases e : ro j = 0
    · exact e
    · have := h.lt j e; omega
  have EX : Hd (x = dvs[n]'HN.out) := ex
  rw [← ex] at hop hol hat eov hx hb hd ⊢
  obtain ⟨N, eN⟩ : ∃ N, N = dvs.length := ⟨_, rfl⟩
  have EN : Hd (N = dvs.length) := eN
  rw [← eN] at hn hl hx ⊢
  have HX : Hd (∀ W, Fr (fun _ => False) w W → Lk W sb lg lc N n x og oo oc o) := hx
  have HEOV : Hd (x.ov = .slice (some ⟨og, oo, none⟩) x.d.ops.length oc) := eov
  clear hx ex eN eov h hop
  obtain ⟨kd, ky, v⟩ := o
  have LK : ∀ W, Fr (fun _ => False) w W → _ := fun W f => HX.out W f
  have L0 := HX.out w (Fr.refl _ _)
  have c9 := L0.s9
  have cr := L0.rw
  have k0 := L0.k0
  have k1 := L0.k1
  have o0 := L0.o0
  have o1 := L0.o1
  have o2 := L0.o2
  have L1 := HX.out w.drew (Fr.drew (Fr.refl _ _))
  have v0 := L1.k0
  have v1 := L1.k1
  have t0 := L1.o0
  have t1 := L1.o1
  have t2 := L1.o2
  have L2 := HX.out ((w.alloc (.cells #[.int .i64 0, .int .i64 0, .string ⟨#[]⟩] 31)).drew) ((Fr.alloc (Fr.refl _ w) _).drew)
  have z0 := L2.k0
  have z1 := L2.k1
  have y0 := L2.o0
  have y1 := L2.o1
  have y2 := L2.o2
  obtain ⟨M, eM⟩ : ∃ M, M = x.d.ops.length := ⟨_, rfl⟩
  obtain ⟨a, ea⟩ : ∃ a, a = x.d.at' := ⟨_, rfl⟩
  have EA : Hd (a = x.d.at') := ea
  simp only [← eM, ← ea] at k0 k1 o0 o1 o2 v0 v1 t0 t1 t2 z0 z1 y0 y1 y2 hat hol
  have a0 : (0 : Int) ≤ a := by omega
  have a1 : (a : Int) < M := by omega
  have n0 : (0 : Int) ≤ n := by omega
  have n1 : (n : Int) < N := by omega
  clear L0 L1 L2 LK eM ea
  go_enter Tryz.func29, Tryz.ntmps29
  go_upto_region 1 with fail
  go_region
  obtain ⟨w2, hw2⟩ : ∃ w2, w2 = (w.alloc (.cells #[vI kd, vI ky, .string v] 31)).drew := ⟨_, rfl⟩
  obtain ⟨Y, hY⟩ : ∃ Y, Y = w.heap.size := ⟨_, rfl⟩
  have HF2 : Hd (Fr (fun _ => False) w w2) := by unfold Hd; rw [hw2]; exact (Fr.alloc (Fr.refl _ w) _).drew
  have hb2 : w2.heap[Y]? = some (.cells #[vI kd, vI ky, .string v] 31) := by rw [hw2, hY]; exact heap_alloc_last w _
  have HY : Hd (ro Y = 0) := hro.out Y (by omega)
  have HS2 : Hd (Sn w2 B sb tb lv kv vv hv ro dvs mvs t) := H.out.fr0 HF2.out
  have HB2 : Hd (w2.heap[Y]? = some (.cells #[vI kd, vI ky, .string v] 31)) := hb2
  have b0 : w2.cell? ⟨Y, 0, none⟩ = some (vI kd) := by rw [cell_of hb2]; rfl
  have b1 : w2.cell? ⟨Y, 1, none⟩ = some (vI ky) := by rw [cell_of hb2]; rfl
  have b2 : w2.cell? ⟨Y, 2, none⟩ = some (.string v) := by rw [cell_of hb2]; rfl
  have L2 := HX.out w2 HF2.out
  have k1 := L2.k1
  have k2 := L2.k2
  have k3 := L2.k3
  have k4 := L2.k4
  have hcb : w2.heap[x.cb]? = some (.cells (cl9 x) 70) := by have := HS2.out.cl n HN.out; rw [← EX.out] at this; exact this
  have f1 : w2.frozen? ⟨x.cb, 1, none⟩ = false := frozen_of hcb 1
  have f2 : w2.frozen? ⟨x.cb, 2, none⟩ = false := frozen_of hcb 2
  have f3 : w2.frozen? ⟨x.cb, 3, none⟩ = false := frozen_of hcb 3
  have f4 : w2.frozen? ⟨x.cb, 4, none⟩ = false := frozen_of hcb 4
  have HCBN : Hd (x.cb ≠ Y ∧ x.cb ≠ sb ∧ B ≤ x.cb) := by
    have r1 := HS2.out.rc n HN.out
    have r2 := HS2.out.cbB HN.out
    rw [← EX.out] at r1 r2
    exact ⟨fun e => by rw [e, HY.out] at r1; omega, fun e => by rw [e, HS2.out.rs] at r1; omega, r2⟩
  rw [← hw2, ← hY]
  clear hw2 hY hb2 hcb L2 v0 v1 t0 t1 t2 z0 z1 y0 y1 y2 c9 cr k0 o0 o1 o2 hro H
  rw [hb] at k2
  rw [hd] at k4
  have HM : Hd (x ∈ dvs) := by unfold Hd; rw [EX.out]; exact List.getElem_mem HN.out
  have HK1 : Hd (Rd w2 ro x.kv (kCells x.d.rp.L)) := HS2.out.rpk x HM.out
  have HK2 : Hd (Rd w2 ro x.vv (vCells x.d.rp.L)) := HS2.out.rpv x HM.out
  have HCB : Hd (w2.heap[x.cb]? = some (.cells (cl9 x) 70)) := by have := HS2.out.cl n HN.out; rw [← EX.out] at this; exact this
  obtain ⟨⟨ka, kc, ekv, -⟩, -⟩ := HK1.out
  obtain ⟨⟨va, vc, evv, -⟩, -⟩ := HK2.out
  obtain ⟨kn, ekn⟩ : ∃ kn, kn = (kCells x.d.rp.L).length := ⟨_, rfl⟩
  obtain ⟨vn, evn⟩ : ∃ vn, vn = (vCells x.d.rp.L).length := ⟨_, rfl⟩
  rw [← ekn] at ekv
  rw [← evn] at evv
  have HKV : Hd (x.kv = .slice ka kn kc ∧ x.vv = .slice va vn vc) := ⟨ekv, evv⟩
  have k5 : w2.cell? ⟨x.cb, 5, none⟩ = some (.bool x.d.rp.ok) := by rw [cell_of HCB.out]; rfl
  have k6 : w2.cell? ⟨x.cb, 6, none⟩ = some (.string x.d.rp.val) := by rw [cell_of HCB.out]; rfl
  have k7 : w2.cell? ⟨x.cb, 7, none⟩ = some (.slice ka kn kc) := by rw [cell_of HCB.out, ← ekv]; rfl
  have k8 : w2.cell? ⟨x.cb, 8, none⟩ = some (.slice va vn vc) := by rw [cell_of HCB.out, ← evv]; rfl
  have HR1 : Hd (Rd w2 ro (.slice ka kn kc) (kCells x.d.rp.L)) := by rw [← ekv]; exact HK1.out
  have HR2 : Hd (Rd w2 ro (.slice va vn vc) (vCells x.d.rp.L)) := by rw [← evv]; exact HK2.out
  obtain ⟨R, eR⟩ : ∃ R, R = x.d.rp := ⟨_, rfl⟩
  have ER : Hd (R = x.d.rp) := eR
  rw [← eR] at k5 k6 HR1 HR2
  clear ekv evv ekn evn eR
  go_upto_region 14 with fail
  have hYl : Y < w2.heap.size := heap_lt HB2.out
  have hcl : x.cb < w2.heap.size := heap_lt HCB.out
  obtain ⟨iM, hiM, hzM, hsM, hbM⟩ := info_parts infoM
  have s10 : w2.cell? ⟨sb, 10, none⟩ = some hv := by rw [cell_of HS2.out.scn]; rfl
  have z10 : w2.frozen? ⟨sb, 10, none⟩ = false := frozen_of HS2.out.scn 10
  have HO1 : Hd ((w2.drew.alloc (.cells #[vI (n : Int), .bool false, vI kd, vI ky, .string v, .bool R.ok, .string R.val, .slice ka kn kc, .slice va vn vc] 44)).ownsRow B 44 9 hv t.ms.length ((mvs.map m9).flatten)) := World.ownsRow.alloc ((HS2.out.fr0 (Fr.drew (Fr.refl _ _))).mom) _
  have hnews : ∀ j u, [vI (n : Int), .bool false, vI kd, vI ky, .string v, .bool R.ok, .string R.val, .slice ka kn kc, .slice va vn vc][j]? = some u → (w2.drew.alloc (.cells #[vI (n : Int), .bool false, vI kd, vI ky, .string v, .bool R.ok, .string R.val, .slice ka kn kc, .slice va vn vc] 44)).cell? ((⟨w2.heap.size, 0, none⟩ : Addr).add j) = some u :=
    World.news_of_block (cs := #[vI (n : Int), .bool false, vI kd, vI ky, .string v, .bool R.ok, .string R.val, .slice ka kn kc, .slice va vn vc]) (heap_alloc_last w2.drew _)
  have hw1 : (w2.drew.alloc (.cells #[vI (n : Int), .bool false, vI kd, vI ky, .string v, .bool R.ok, .string R.val, .slice ka kn kc, .slice va vn vc] 44)).heap.size = w2.heap.size + 1 := by simp
  have hbase : B ≤ (w2.drew.alloc (.cells #[vI (n : Int), .bool false, vI kd, vI ky, .string v, .bool R.ok, .string R.val, .slice ka kn kc, .slice va vn vc] 44)).heap.size := by rw [hw1]; have := HS2.out.Ble; omega
  have HTOLD : Hd (∀ (w6 : World) (g6 cap6 : Nat), w6.ownsRow B 44 9 (.slice (some ⟨g6, 0, none⟩) (t.ms.length + 1) cap6) (t.ms.length + 1) ((mvs.map m9).flatten ++ [vI (n : Int), .bool false, vI kd, vI ky, .string v, .bool R.ok, .string R.val, .slice ka kn kc, .slice va vn vc]) → (w2.drew.alloc (.cells #[vI (n : Int), .bool false, vI kd, vI ky, .string v, .bool R.ok, .string R.val, .slice ka kn kc, .slice va vn vc] 44)).grownBy w6 hv.ownBlock → (hv.ownBlock = some g6 ∨ g6 = w2.heap.size + 1) → _) := fun w6 g6 cap6 p q u => HS2.out.told ⟨.slice ka kn kc, .slice va vn vc, ⟨n, false, (kd, ky, v), R⟩⟩ HR1.out HR2.out _ p q u
  have hlc : sb < w2.heap.size := heap_lt HS2.out.scn
  have hms' : t.ms.length ≤ 100000000000 := hms
  have ab : a < 2147483648 := by omega
  clear k1 k2 k3 k4 f1 f2 f3 f4 HKV HK1 HK2 HX HEOV hat hol a1 n0 n1 hl hn
  obtain ⟨cb, ecb⟩ : ∃ cb, cb = x.cb := ⟨_, rfl⟩
  have ECB : Hd (cb = x.cb) := ecb
  rw [← ecb] at k5 k6 k7 k8 hcl ⊢
  clear ecb
  go_region_law (
    refine step_append_lies _ rfl (.tmp 81) (.tmp 89) 28 rfl B 44 iM (.agg #[vI 0, .bool false, vI 0, vI 0, .string ⟨#[]⟩, .bool false, .string ⟨#[]⟩, .slice none 0 0, .slice none 0 0]) 9 120 underM hiM hzM hsM hbM rfl (by omega) hv t.ms.length _ (by simp [Act.eval, Act.put]) HO1.out ⟨w2.heap.size, 0, none⟩ 1 1 [vI (n : Int), .bool false, vI kd, vI ky, .string v, .bool R.ok, .string R.val, .slice ka kn kc, .slice va vn vc] (by simp [Act.eval, Act.put]) rfl hnews (by intro u hu; simp at hu; rcases hu with rfl | rfl | rfl | rfl | rfl | rfl | rfl | rfl | rfl <;> rfl) (by omega) (by unfold maxLen; omega) (by omega) hbase (w2.heap.size + 1) hw1 ?_
    intro g6 cap6 w6 hown6 hgrow6 hat6 hlt6
    obtain ⟨hp6, hP6, hF6⟩ := HTOLD.out w6 g6 cap6 hown6 hgrow6 hat6
    have HP6 : Hd _ := hP6
    have HF6 : Hd _ := hF6
    have e10 : w6.cell? ⟨sb, 10, none⟩ = some hv := by { rw [cell_of hp6]; rfl }
    have y10 : w6.frozen? ⟨sb, 10, none⟩ = false := frozen_of hp6 10
    have hb6 : (w6.setCell ⟨sb, 10, none⟩ (.slice (some ⟨g6, 0, none⟩) (t.ms.length + 1) cap6)).heap[x.cb]? = some (.cells (cl9 x) 70) := by { have := hP6.cl n HN.out; rw [← EX.out] at this; exact this }
    clear hP6 hF6 hp6 hown6 hgrow6 hat6 hlt6)
  all_goals
    have ecb : cb = x.cb := ECB.out
    subst ecb
    obtain ⟨w7, hw7⟩ : ∃ w7, w7 = w6.setCell ⟨sb, 10, none⟩ (.slice (some ⟨g6, 0, none⟩) (t.ms.length + 1) cap6) := ⟨_, rfl⟩
    rw [← hw7] at HP6 HF6 hb6
    have HP7 : Hd (Sn w7 B sb tb lv kv vv (.slice (some ⟨g6, 0, none⟩) (t.ms.length + 1) cap6) (fun j => if j = g6 then 6 else ro j) dvs (mvs ++ [⟨.slice ka kn kc, .slice va vn vc, ⟨n, false, (kd, ky, v), R⟩⟩]) { t with ms := t.ms ++ [⟨n, false, (kd, ky, v), R⟩] }) := HP6.out
    have HEND : Hd (Snd (((w7.setCell ⟨x.cb, 1, none⟩ (vI ((a : Int) + 1))).setCell ⟨x.cb, 2, none⟩ (.bool false)).setCell ⟨x.cb, 4, none⟩ (.bool false)) B sb tb N { t with cls := t.cls.set n { x.d with at' := x.d.at' + 1, begun := false, done := false }, ms := t.ms ++ [⟨n, false, (kd, ky, v), x.d.rp⟩] } ∧ Fr (fun j => B ≤ j) w (((w7.setCell ⟨x.cb, 1, none⟩ (vI ((a : Int) + 1))).setCell ⟨x.cb, 2, none⟩ (.bool false)).setCell ⟨x.cb, 4, none⟩ (.bool false))) := by
      have hm := HM.out
      have hB := HCBN.out.2.2
      have hblk : (((w7.setCell ⟨x.cb, 1, none⟩ (vI ((a : Int) + 1))).setCell ⟨x.cb, 2, none⟩ (.bool false)).setCell ⟨x.cb, 4, none⟩ (.bool false)).heap[x.cb]? = some (.cells (cl9 ⟨x.cb, x.ov, x.kv, x.vv, { x.d with at' := x.d.at' + 1, begun := false, done := false }⟩) 70) := by
        rw [set_of (set_of (set_of hb6 1 _) 2 _) 4 _, EA.out]
        rfl
      have hF : Fr (fun j => j = x.cb) w7 (((w7.setCell ⟨x.cb, 1, none⟩ (vI ((a : Int) + 1))).setCell ⟨x.cb, 2, none⟩ (.bool false)).setCell ⟨x.cb, 4, none⟩ (.bool false)) := (((Fr.refl (fun j => j = x.cb) w7).setCell ⟨x.cb, 1, none⟩ _ (Or.inl rfl)).setCell ⟨x.cb, 2, none⟩ _ (Or.inl rfl)).setCell ⟨x.cb, 4, none⟩ _ (Or.inl rfl)
      have hs := HP7.out.setCl HN.out (by rw [← EX.out]; exact hF) ⟨x.cb, x.ov, x.kv, x.vv, { x.d with at' := x.d.at' + 1, begun := false, done := false }⟩ (by rw [EX.out]) (by rw [← EX.out]; exact hblk) (HP7.out.ops x hm) (HP7.out.rpk x hm) (HP7.out.rpv x hm)
      rw [ER.out] at hs
      refine ⟨⟨_, _, _, _, _, _, _, by rw [List.length_set]; exact EN.out.symm, hs⟩, ?_⟩
      exact ((HF2.out.mono (fun _ _ h => h.elim)).trans HF6.out).trans (hF.mono (fun j _ e => by rw [e]; exact hB))
    have j1 : w7.cell? ⟨x.cb, 1, none⟩ = some (vI (a : Nat)) := by rw [cell_of hb6, EA.out]; rfl
    have j2 : w7.cell? ⟨x.cb, 2, none⟩ = some (.bool x.d.begun) := by rw [cell_of hb6]; rfl
    have j4 : w7.cell? ⟨x.cb, 4, none⟩ = some (.bool x.d.done) := by rw [cell_of hb6]; rfl
    have g1 : w7.frozen? ⟨x.cb, 1, none⟩ = false := frozen_of hb6 1
    have g2 : w7.frozen? ⟨x.cb, 2, none⟩ = false := frozen_of hb6 2
    have g4 : w7.frozen? ⟨x.cb, 4, none⟩ = false := frozen_of hb6 4
    rw [hb] at j2
    rw [hd] at j4
    rw [← hw7]
    clear HP6 HP7 HF6 hb6 hw7 k5 k6 k7 k8 e10 y10 s10 z10 b0 b1 b2 hb hd
    go_wp2_with fail
    first | go_end0 | refine bodyPost_ret (results_none rfl _ _ _) rfl ?_
    exact ⟨rfl, HEND.out⟩
end
end Go.Proofs.YtngbakjalmgciaaGreat
