import Derived.Test.YtngbakjalmgciaaGreatQQa
import Derived.BigRegion
import Derived.StillTailTactics
namespace Go.Proofs.YtngbakjalmgciaaGreat
open Go.RowKit (wrap32 wrap64)
set_option linter.unusedVariables false
set_option linter.unusedSimpArgs false

theorem infoM : (Tryz.prog.info? 44).map (fun i => (i.zero, i.size, i.bytes)) = some (some (.agg #[vI 0, .bool false, vI 0, vI 0, .string ⟨#[]⟩, .bool false, .string ⟨#[]⟩, .slice none 0 0, .slice none 0 0]), 9, 120) := by kernel_rfl
theorem underM : Tryz.prog.underlying 28 = some (.slice 44) := by kernel_rfl
/-- What a step reads first. -/
structure Lk (W : World) (sb lg lc N n : Nat) (x : DV) (og oo oc : Nat) (o : OpT) : Prop where
  s9 : W.cell? ⟨sb, 9, none⟩ = some (.slice (some ⟨lg, 0, none⟩) N lc)
  rw : W.cell? ⟨lg, n, none⟩ = some (.pointer (some ⟨x.cb, 0, none⟩))
  k0 : W.cell? ⟨x.cb, 0, none⟩ = some (.slice (some ⟨og, oo, none⟩) x.d.ops.length oc)
  k1 : W.cell? ⟨x.cb, 1, none⟩ = some (vI (x.d.at' : Nat))
  k2 : W.cell? ⟨x.cb, 2, none⟩ = some (.bool x.d.begun)
  k3 : W.cell? ⟨x.cb, 3, none⟩ = some (vI (x.d.locked : Nat))
  k4 : W.cell? ⟨x.cb, 4, none⟩ = some (.bool x.d.done)
  o0 : W.cell? ⟨og, oo + x.d.at' * 3, none⟩ = some (vI o.1)
  o1 : W.cell? ⟨og, oo + x.d.at' * 3 + 1, none⟩ = some (vI o.2.1)
  o2 : W.cell? ⟨og, oo + x.d.at' * 3 + 2, none⟩ = some (.string o.2.2)
section
variable {w : World} {B sb tb : Nat} {lv kv vv hv : Value} {ro : Nat → Nat} {dvs : List DV} {mvs : List MV} {t : DS}
theorem ptrs_len (dvs : List DV) : (ptrs dvs).length = dvs.length := by simp [ptrs]
theorem Sn.looks (h : Sn w B sb tb lv kv vv hv ro dvs mvs t) (n : Nat) (hn : n < dvs.length) (o : OpT) (hop : dvs[n].d.ops[dvs[n].d.at']? = some o) :
    ∃ lg lc og oo oc, dvs[n].ov = .slice (some ⟨og, oo, none⟩) dvs[n].d.ops.length oc ∧ dvs[n].d.at' < dvs[n].d.ops.length ∧ ∀ W, Fr (fun _ => False) w W → Lk W sb lg lc dvs.length n dvs[n] og oo oc o := by
  obtain ⟨ha, eo⟩ := List.getElem?_eq_some_iff.1 hop
  obtain ⟨⟨ad, oc, e, hcap, hx⟩, -⟩ := h.ops dvs[n] (List.getElem_mem hn)
  obtain ⟨og, oo, rfl, hog, hcs⟩ := hx (fun e => by rw [e] at ha; simp at ha)
  obtain ⟨la, lc, el, hl⟩ := RowAt.own h.row
  rw [ptrs_len] at el
  obtain ⟨lg, lo, e2, hlg, hlc⟩ := hl (fun e => by have := ptrs_len dvs; rw [e] at this; simp at this; omega)
  have lo0 : lo = 0 := by
    rcases h.row.2 with ⟨e3, -⟩ | ⟨g, cap, cur, e3, -⟩
    · rw [el, e2] at e3; cases e3
    · rw [el, e2] at e3
      injection e3 with e4 _ _
      injection e4 with e4
      injection e4
  subst lo0
  refine ⟨lg, lc, og, oo, oc, e, ha, fun W f => ?_⟩
  have hs := h.fr0 f
  have hc := hs.cl n hn
  obtain ⟨c0, c1, c2⟩ := hcs dvs[n].d.at' ha
  rw [eo] at c0 c1 c2
  have r1 := hlc n (by rw [ptrs_len]; exact hn)
  have r2 : (ptrs dvs)[n]'(by rw [ptrs_len]; exact hn) = .pointer (some ⟨dvs[n].cb, 0, none⟩) := by simp [ptrs]
  rw [r2, Nat.zero_add] at r1
  exact ⟨by rw [cell_of hs.scn, ← e2, ← el]; rfl, (f.cell hlg (fun h => h)).trans r1, by rw [cell_of hc, ← e]; rfl, by rw [cell_of hc]; rfl, by rw [cell_of hc]; rfl, by rw [cell_of hc]; rfl, by rw [cell_of hc]; rfl, (f.cell hog (fun h => h)).trans c0, (f.cell hog (fun h => h)).trans c1, (f.cell hog (fun h => h)).trans c2⟩
/-- The scene as a step leaves it. -/
def Snd (w' : World) (B sb tb N : Nat) (t' : DS) : Prop := ∃ lv kv vv hv ro dvs mvs, dvs.length = N ∧ Sn w' B sb tb lv kv vv hv ro dvs mvs t'
theorem scn_mom (tb : Nat) (held : Nat → Int) (lv hv hv' : Value) : (scnC tb held lv hv).setIfInBounds 10 hv' = scnC tb held lv hv' := rfl
/-- Behind the append: the scene's block is told. -/
theorem Sn.told (h : Sn w B sb tb lv kv vv hv ro dvs mvs t) (x : MV) (h1 : Rd w ro x.kv (kCells x.m.rp.L)) (h2 : Rd w ro x.vv (vCells x.m.rp.L)) {w6 : World} {g6 cap6 : Nat} (o : Obj)
    (hown6 : w6.ownsRow B 44 9 (.slice (some ⟨g6, 0, none⟩) (t.ms.length + 1) cap6) (t.ms.length + 1) ((mvs.map m9).flatten ++ m9 x)) (hgrow6 : (w.drew.alloc o).grownBy w6 hv.ownBlock) (hat6 : hv.ownBlock = some g6 ∨ g6 = w.heap.size + 1) :
    w6.heap[sb]? = some (.cells (scnC tb t.held lv hv) 67) ∧ Sn (w6.setCell ⟨sb, 10, none⟩ (.slice (some ⟨g6, 0, none⟩) (t.ms.length + 1) cap6)) B sb tb lv kv vv (.slice (some ⟨g6, 0, none⟩) (t.ms.length + 1) cap6) (fun j => if j = g6 then 6 else ro j) dvs (mvs ++ [x]) { t with ms := t.ms ++ [x.m] } ∧ Fr (fun j => B ≤ j) w (w6.setCell ⟨sb, 10, none⟩ (.slice (some ⟨g6, 0, none⟩) (t.ms.length + 1) cap6)) := by
  have F0 : Fr (fun _ => False) w (w.drew.alloc o) := (Fr.drew (Fr.refl _ w)).alloc _
  have hs := h.fr0 F0
  have hp6 : w6.heap[sb]? = some (.cells (scnC tb t.held lv hv) 67) := (hgrow6.block sb (heap_lt hs.scn) (fun e => by have := h.rh sb e.symm; rw [h.rs] at this; omega)).trans hs.scn
  have F6 : Fr (fun j => hv.ownBlock = some j) w w6 := (F0.mono (fun _ _ h => h.elim)).trans (grown_fr hgrow6)
  refine ⟨hp6, h.grow x hown6 F6 (by rcases hat6 with e | e; exact Or.inl e; exact Or.inr (by omega)) ((Fr.refl (fun j => j = sb) w6).setCell _ _ (Or.inl rfl)) (by rw [set_of hp6, scn_mom]) h1 h2, ?_⟩
  exact (F6.mono (fun j _ e => (World.ownsRow.lt h.mom j e).1)).trans (((Fr.refl (fun j => j = sb) w6).setCell _ _ (Or.inl rfl)).mono (fun j _ e => by rw [e]; exact h.ge sb (by rw [h.rs]; decide)))
theorem Sn.cbB (h : Sn w B sb tb lv kv vv hv ro dvs mvs t) {n : Nat} (hn : n < dvs.length) : B ≤ dvs[n].cb := h.ge _ (by rw [h.rc n hn]; omega)
/-- A cell of a client's block is written over. -/
theorem Sn.putCl (h : Sn w B sb tb lv kv vv hv ro dvs mvs t) {n : Nat} (hn : n < dvs.length) (k : Nat) (u : Value) (x : DV) (hcb : x.cb = dvs[n].cb) (hc : (cl9 dvs[n]).setIfInBounds k u = cl9 x) (ho : Od w ro x.ov x.d.ops) (h1 : Rd w ro x.kv (kCells x.d.rp.L)) (h2 : Rd w ro x.vv (vCells x.d.rp.L)) :
    Sn (w.setCell ⟨dvs[n].cb, k, none⟩ u) B sb tb lv kv vv hv ro (dvs.set n x) mvs { t with cls := t.cls.set n x.d } :=
  h.setCl hn ((Fr.refl (fun j => j = dvs[n].cb) w).setCell _ _ (Or.inl rfl)) x hcb (by rw [set_of (h.cl n hn), hc]) ho h1 h2
end
end Go.Proofs.YtngbakjalmgciaaGreat

namespace Go.Proofs.YtngbakjalmgciaaGreat
open Go.RowKit (wrap32 wrap64)
set_option linter.unusedVariables false
set_option linter.unusedSimpArgs false

section
variable {w : World} {B sb tb : Nat} {lv kv vv hv : Value} {ro : Nat → Nat} {dvs : List DV} {mvs : List MV} {t : DS}
set_option maxRecDepth 100000 in
set_option maxHeartbeats 4000000 in
theorem rstep_begin (h : Sn w B sb tb lv kv vv hv ro dvs mvs t) (n : Nat) (hn : n < dvs.length) (hl : dvs.length ≤ 64) (o : OpT) (hop : dvs[n].d.ops[dvs[n].d.at']? = some o) (hol : dvs[n].d.ops.length ≤ 2147483647) (hb : dvs[n].d.begun = false) (hms : t.ms.length ≤ 100000000000) :
    Calls Tryz.prog 29 #[.pointer (some ⟨sb, 0, none⟩), vI (n : Nat)] w fun e w' => e = .returned (.tuple #[]) ∧ Snd w' B sb tb dvs.length { t with cls := t.cls.set n { dvs[n].d with begun := true }, ms := t.ms ++ [⟨n, true, o, rep0⟩] } ∧ Fr (fun j => B ≤ j) w w' := by
  obtain ⟨lg, lc, og, oo, oc, eov, hat, hx⟩ := h.looks n hn o hop
  have H : Hd (Sn w B sb tb lv kv vv hv ro dvs mvs t) := h
  obtain ⟨x, ex⟩ : ∃ x, x = dvs[n] := ⟨_, rfl⟩
  have HN : Hd (n < dvs.length) := hn
  have hro : Hd (∀ j, w.heap.size ≤ j → ro j = 0) := fun j hj => by
    by_cases e : ro j = 0
    · exact e
    · have := h.lt j e; omega
  have EX : Hd (x = dvs[n]'HN.out) := ex
  rw [← ex] at hop hol hat eov hx hb ⊢
  obtain ⟨N, eN⟩ : ∃ N, N = dvs.length := ⟨_, rfl⟩
  have EN : Hd (N = dvs.length) := eN
  rw [← eN] at hn hl hx ⊢
  have HX : Hd (∀ W, Fr (fun _ => False) w W → Lk W sb lg lc N n x og oo oc o) := hx
  have HEOV : Hd (x.ov = .slice (some ⟨og, oo, none⟩) x.d.ops.length oc) := eov
  clear hx ex eN eov h hop
  obtain ⟨kd, ky, v⟩ := o
  have LK : ∀ W, Fr (fun _ => False) w W → _ := fun W f => HX.out W f
  have L0 := HX.out w (Fr.refl _ _)
  have c9 := L0.s9
  have cr := L0.rw
  have k0 := L0.k0
  have k1 := L0.k1
  have o0 := L0.o0
  have o1 := L0.o1
  have o2 := L0.o2
  have L1 := HX.out w.drew (Fr.drew (Fr.refl _ _))
  have v0 := L1.k0
  have v1 := L1.k1
  have t0 := L1.o0
  have t1 := L1.o1
  have t2 := L1.o2
  have L2 := HX.out ((w.alloc (.cells #[.int .i64 0, .int .i64 0, .string ⟨#[]⟩] 31)).drew) ((Fr.alloc (Fr.refl _ w) _).drew)
  have z0 := L2.k0
  have z1 := L2.k1
  have y0 := L2.o0
  have y1 := L2.o1
  have y2 := L2.o2
  obtain ⟨M, eM⟩ : ∃ M, M = x.d.ops.length := ⟨_, rfl⟩
  obtain ⟨a, ea⟩ : ∃ a, a = x.d.at' := ⟨_, rfl⟩
  have EA : Hd (a = x.d.at') := ea
  simp only [← eM, ← ea] at k0 k1 o0 o1 o2 v0 v1 t0 t1 t2 z0 z1 y0 y1 y2 hat hol
  have a0 : (0 : Int) ≤ a := by omega
  have a1 : (a : Int) < M := by omega
  have n0 : (0 : Int) ≤ n := by omega
  have n1 : (n : Int) < N := by omega
  clear L0 L1 L2 LK eM ea
  go_enter Tryz.func29, Tryz.ntmps29
  go_upto_region 1 with fail
  go_region
  obtain ⟨w2, hw2⟩ : ∃ w2, w2 = (w.alloc (.cells #[vI kd, vI ky, .string v] 31)).drew := ⟨_, rfl⟩
  obtain ⟨Y, hY⟩ : ∃ Y, Y = w.heap.size := ⟨_, rfl⟩
  have HF2 : Hd (Fr (fun _ => False) w w2) := by unfold Hd; rw [hw2]; exact (Fr.alloc (Fr.refl _ w) _).drew
  have hb2 : w2.heap[Y]? = some (.cells #[vI kd, vI ky, .string v] 31) := by rw [hw2, hY]; exact heap_alloc_last w _
  have HY : Hd (ro Y = 0) := hro.out Y (by omega)
  have HS2 : Hd (Sn w2 B sb tb lv kv vv hv ro dvs mvs t) := H.out.fr0 HF2.out
  have HB2 : Hd (w2.heap[Y]? = some (.cells #[vI kd, vI ky, .string v] 31)) := hb2
  have b0 : w2.cell? ⟨Y, 0, none⟩ = some (vI kd) := by rw [cell_of hb2]; rfl
  have b1 : w2.cell? ⟨Y, 1, none⟩ = some (vI ky) := by rw [cell_of hb2]; rfl
  have b2 : w2.cell? ⟨Y, 2, none⟩ = some (.string v) := by rw [cell_of hb2]; rfl
  have L2 := HX.out w2 HF2.out
  have k1 := L2.k1
  have k2 := L2.k2
  have k3 := L2.k3
  have k4 := L2.k4
  have hcb : w2.heap[x.cb]? = some (.cells (cl9 x) 70) := by have := HS2.out.cl n HN.out; rw [← EX.out] at this; exact this
  have f1 : w2.frozen? ⟨x.cb, 1, none⟩ = false := frozen_of hcb 1
  have f2 : w2.frozen? ⟨x.cb, 2, none⟩ = false := frozen_of hcb 2
  have f3 : w2.frozen? ⟨x.cb, 3, none⟩ = false := frozen_of hcb 3
  have f4 : w2.frozen? ⟨x.cb, 4, none⟩ = false := frozen_of hcb 4
  have HCBN : Hd (x.cb ≠ Y ∧ x.cb ≠ sb ∧ B ≤ x.cb) := by
    have r1 := HS2.out.rc n HN.out
    have r2 := HS2.out.cbB HN.out
    rw [← EX.out] at r1 r2
    exact ⟨fun e => by rw [e, HY.out] at r1; omega, fun e => by rw [e, HS2.out.rs] at r1; omega, r2⟩
  rw [← hw2, ← hY]
  clear hw2 hY hb2 hcb L2 v0 v1 t0 t1 t2 z0 z1 y0 y1 y2 c9 cr k0 o0 o1 o2 hro H
  rw [hb] at k2
  go_upto_region 12 with fail
  obtain ⟨w3, hw3⟩ : ∃ w3, w3 = w2.setCell ⟨x.cb, 2, none⟩ (.bool true) := ⟨_, rfl⟩
  have HS3 : Hd (Sn w3 B sb tb lv kv vv hv ro (dvs.set n ⟨x.cb, x.ov, x.kv, x.vv, { x.d with begun := true }⟩) mvs { t with cls := t.cls.set n { x.d with begun := true } }) := by
    have hm : x ∈ dvs := by rw [EX.out]; exact List.getElem_mem HN.out
    have := HS2.out.putCl HN.out 2 (.bool true) ⟨x.cb, x.ov, x.kv, x.vv, { x.d with begun := true }⟩ (by rw [EX.out]) (by rw [← EX.out]; rfl) (HS2.out.ops x hm) (HS2.out.rpk x hm) (HS2.out.rpv x hm)
    rw [← EX.out] at this
    rw [hw3]; exact this
  have HF3 : Hd (Fr (fun j => B ≤ j) w w3) := by
    rw [hw3]
    exact ((HF2.out.mono (fun _ _ h => h.elim)).setCell _ _ (Or.inl HCBN.out.2.2))
  have hb3 : w3.heap[Y]? = some (.cells #[vI kd, vI ky, .string v] 31) := by
    rw [hw3, Go.RowKit.Below.heap_setCell _ _ _ _ (by show Y ≠ x.cb; exact fun e => HCBN.out.1 e.symm)]; exact HB2.out
  have b0 : w3.cell? ⟨Y, 0, none⟩ = some (vI kd) := by rw [cell_of hb3]; rfl
  have b1 : w3.cell? ⟨Y, 1, none⟩ = some (vI ky) := by rw [cell_of hb3]; rfl
  have b2 : w3.cell? ⟨Y, 2, none⟩ = some (.string v) := by rw [cell_of hb3]; rfl
  rw [← hw3]
  have hYl : Y < w3.heap.size := heap_lt hb3
  clear hw3 hb3 k1 k2 k3 k4 f1 f2 f3 f4
  obtain ⟨iM, hiM, hzM, hsM, hbM⟩ := info_parts infoM
  have s10 : w3.cell? ⟨sb, 10, none⟩ = some hv := by rw [cell_of HS3.out.scn]; rfl
  have z10 : w3.frozen? ⟨sb, 10, none⟩ = false := frozen_of HS3.out.scn 10
  have HO1 : Hd ((w3.drew.alloc (.cells #[vI (n : Int), .bool true, vI kd, vI ky, .string v, .bool false, .string ⟨#[]⟩, .slice none 0 0, .slice none 0 0] 44)).ownsRow B 44 9 hv t.ms.length ((mvs.map m9).flatten)) := World.ownsRow.alloc ((HS3.out.fr0 (Fr.drew (Fr.refl _ _))).mom) _
  have hnews : ∀ j u, [vI (n : Int), .bool true, vI kd, vI ky, .string v, .bool false, .string ⟨#[]⟩, .slice none 0 0, .slice none 0 0][j]? = some u → (w3.drew.alloc (.cells #[vI (n : Int), .bool true, vI kd, vI ky, .string v, .bool false, .string ⟨#[]⟩, .slice none 0 0, .slice none 0 0] 44)).cell? ((⟨w3.heap.size, 0, none⟩ : Addr).add j) = some u :=
    World.news_of_block (cs := #[vI (n : Int), .bool true, vI kd, vI ky, .string v, .bool false, .string ⟨#[]⟩, .slice none 0 0, .slice none 0 0]) (heap_alloc_last w3.drew _)
  have hw1 : (w3.drew.alloc (.cells #[vI (n : Int), .bool true, vI kd, vI ky, .string v, .bool false, .string ⟨#[]⟩, .slice none 0 0, .slice none 0 0] 44)).heap.size = w3.heap.size + 1 := by simp
  have hbase : B ≤ (w3.drew.alloc (.cells #[vI (n : Int), .bool true, vI kd, vI ky, .string v, .bool false, .string ⟨#[]⟩, .slice none 0 0, .slice none 0 0] 44)).heap.size := by rw [hw1]; have := HS3.out.Ble; omega
  have HTOLD : Hd (∀ (w6 : World) (g6 cap6 : Nat), w6.ownsRow B 44 9 (.slice (some ⟨g6, 0, none⟩) (t.ms.length + 1) cap6) (t.ms.length + 1) ((mvs.map m9).flatten ++ [vI (n : Int), .bool true, vI kd, vI ky, .string v, .bool false, .string ⟨#[]⟩, .slice none 0 0, .slice none 0 0]) → (w3.drew.alloc (.cells #[vI (n : Int), .bool true, vI kd, vI ky, .string v, .bool false, .string ⟨#[]⟩, .slice none 0 0, .slice none 0 0] 44)).grownBy w6 hv.ownBlock → (hv.ownBlock = some g6 ∨ g6 = w3.heap.size + 1) → _) := fun w6 g6 cap6 p q u => HS3.out.told ⟨.slice none 0 0, .slice none 0 0, ⟨n, true, (kd, ky, v), rep0⟩⟩ (Rd.nil _ _) (Rd.nil _ _) _ p q u
  have hlc : sb < w3.heap.size := heap_lt HS3.out.scn
  have hms' : t.ms.length ≤ 100000000000 := hms
  go_region_law (
    refine step_append_lies _ rfl (.tmp 64) (.tmp 68) 28 rfl B 44 iM (.agg #[vI 0, .bool false, vI 0, vI 0, .string ⟨#[]⟩, .bool false, .string ⟨#[]⟩, .slice none 0 0, .slice none 0 0]) 9 120 underM hiM hzM hsM hbM rfl (by omega) hv t.ms.length _ (by simp [Act.eval, Act.put]) HO1.out ⟨w3.heap.size, 0, none⟩ 1 1 [vI (n : Int), .bool true, vI kd, vI ky, .string v, .bool false, .string ⟨#[]⟩, .slice none 0 0, .slice none 0 0] (by simp [Act.eval, Act.put]) rfl hnews (by intro u hu; simp at hu; rcases hu with rfl | rfl | rfl | rfl | rfl | rfl | rfl | rfl | rfl <;> rfl) (by omega) (by unfold maxLen; omega) (by omega) hbase (w3.heap.size + 1) hw1 ?_
    intro g6 cap6 w6 hown6 hgrow6 hat6 hlt6
    obtain ⟨hp6, hP6, hF6⟩ := HTOLD.out w6 g6 cap6 hown6 hgrow6 hat6
    have HP6 : Hd _ := hP6
    have HF6 : Hd _ := hF6
    have e10 : w6.cell? ⟨sb, 10, none⟩ = some hv := by { rw [cell_of hp6]; rfl }
    have y10 : w6.frozen? ⟨sb, 10, none⟩ = false := frozen_of hp6 10
    clear hP6 hF6 hp6 hown6 hgrow6 hat6 hlt6)
  all_goals
    have HEND : Hd (Snd (w6.setCell ⟨sb, 10, none⟩ (.slice (some ⟨g6, 0, none⟩) (t.ms.length + 1) cap6)) B sb tb N { t with cls := t.cls.set n { x.d with begun := true }, ms := t.ms ++ [⟨n, true, (kd, ky, v), rep0⟩] } ∧ Fr (fun j => B ≤ j) w (w6.setCell ⟨sb, 10, none⟩ (.slice (some ⟨g6, 0, none⟩) (t.ms.length + 1) cap6))) :=
      ⟨⟨_, _, _, _, _, _, _, by rw [List.length_set]; exact EN.out.symm, HP6.out⟩, HF3.out.trans HF6.out⟩
    clear HP6 HF6
    go_wp2_with fail
    first | go_end0 | refine bodyPost_ret (results_none rfl _ _ _) rfl ?_
    exact ⟨rfl, HEND.out⟩
end
end Go.Proofs.YtngbakjalmgciaaGreat
