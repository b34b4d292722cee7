import Derived.Test.YtngbakjalmgciaaGreatQQa2J
import Derived.Test.YtngbakjalmgciaaGreatQQdJ
import Derived.BigRegion
import Derived.StillTailTactics
namespace Go.Proofs.YtngbakjalmgciaaGreat
open Go.RowKit (wrap32 wrap64)
set_option linter.unusedVariables false
set_option linter.unusedSimpArgs false

section
variable {w : World} {B sb tb : Nat} {lv kv vv hv : Value} {ro : Nat → Nat} {dvs : List DV} {mvs : List MV} {t : DS}
set_option maxRecDepth 100000 in
set_option maxHeartbeats 4000000 in
theorem rstep_act (h : Sn w B sb tb lv kv vv hv ro dvs mvs t) (n : Nat) (hn : n < dvs.length) (hl : dvs.length ≤ 64) (o : OpT) (hop : dvs[n].d.ops[dvs[n].d.at']? = some o) (hol : dvs[n].d.ops.length ≤ 2147483647) (hb : dvs[n].d.begun = true) (hd : dvs[n].d.done = false) (hkn : o.1 = 1 ∨ o.1 = 2) (hlt : t.tab.length ≤ 3999999999) :
    Calls Tryz.prog 29 #[.pointer (some ⟨sb, 0, none⟩), vI (n : Nat)] w fun e w' => e = .returned (.tuple #[]) ∧ Snd w' B sb tb dvs.length { t with tab := doT t.tab o, cls := t.cls.set n { dvs[n].d with rp := doR t.tab o, done := true } } ∧ Fr (fun j => B ≤ j) w w' := by
  obtain ⟨lg, lc, og, oo, oc, eov, hat, hx⟩ := h.looks n hn o hop
  have H : Hd (Sn w B sb tb lv kv vv hv ro dvs mvs t) := h
  obtain ⟨x, ex⟩ : ∃ x, x = dvs[n] := ⟨_, rfl⟩
  have HN : Hd (n < dvs.length) := hn
  have hro : Hd (∀ j, w.heap.size ≤ j → ro j = 0) := fun j hj => by
    by_cases e : ro j = 0
    · exact e
    · have := h.lt j e; omega
  have EX : Hd (x = dvs[n]'HN.out) := ex
  rw [← ex] at hop hol hat eov hx hb hd ⊢
  obtain ⟨N, eN⟩ : ∃ N, N = dvs.length := ⟨_, rfl⟩
  have EN : Hd (N = dvs.length) := eN
  rw [← eN] at hn hl hx ⊢
  have HX : Hd (∀ W, Fr (fun _ => False) w W → Lk W sb lg lc N n x og oo oc o) := hx
  have HEOV : Hd (x.ov = .slice (some ⟨og, oo, none⟩) x.d.ops.length oc) := eov
  clear hx ex eN eov h hop
  obtain ⟨kd, ky, v⟩ := o
  have LK : ∀ W, Fr (fun _ => False) w W → _ := fun W f => HX.out W f
  have L0 := HX.out w (Fr.refl _ _)
  have c9 := L0.s9
  have cr := L0.rw
  have k0 := L0.k0
  have k1 := L0.k1
  have o0 := L0.o0
  have o1 := L0.o1
  have o2 := L0.o2
  have L1 := HX.out w.drew (Fr.drew (Fr.refl _ _))
  have v0 := L1.k0
  have v1 := L1.k1
  have t0 := L1.o0
  have t1 := L1.o1
  have t2 := L1.o2
  have L2 := HX.out ((w.alloc (.cells #[.int .i64 0, .int .i64 0, .string ⟨#[]⟩] 31)).drew) ((Fr.alloc (Fr.refl _ w) _).drew)
  have z0 := L2.k0
  have z1 := L2.k1
  have y0 := L2.o0
  have y1 := L2.o1
  have y2 := L2.o2
  obtain ⟨M, eM⟩ : ∃ M, M = x.d.ops.length := ⟨_, rfl⟩
  obtain ⟨a, ea⟩ : ∃ a, a = x.d.at' := ⟨_, rfl⟩
  have EA : Hd (a = x.d.at') := ea
  simp only [← eM, ← ea] at k0 k1 o0 o1 o2 v0 v1 t0 t1 t2 z0 z1 y0 y1 y2 hat hol
  have a0 : (0 : Int) ≤ a := by omega
  have a1 : (a : Int) < M := by omega
  have n0 : (0 : Int) ≤ n := by omega
  have n1 : (n : Int) < N := by omega
  clear L0 L1 L2 LK eM ea
  go_enter Tryz.func29, Tryz.ntmps29
  go_upto_region 1 with fail
  go_region
  obtain ⟨w2, hw2⟩ : ∃ w2, w2 = (w.alloc (.cells #[vI kd, vI ky, .string v] 31)).drew := ⟨_, rfl⟩
  obtain ⟨Y, hY⟩ : ∃ Y, Y = w.heap.size := ⟨_, rfl⟩
  have HF2 : Hd (Fr (fun _ => False) w w2) := by unfold Hd; rw [hw2]; exact (Fr.alloc (Fr.refl _ w) _).drew
  have hb2 : w2.heap[Y]? = some (.cells #[vI kd, vI ky, .string v] 31) := by rw [hw2, hY]; exact heap_alloc_last w _
  have HY : Hd (ro Y = 0) := hro.out Y (by omega)
  have HS2 : Hd (Sn w2 B sb tb lv kv vv hv ro dvs mvs t) := H.out.fr0 HF2.out
  have HB2 : Hd (w2.heap[Y]? = some (.cells #[vI kd, vI ky, .string v] 31)) := hb2
  have b0 : w2.cell? ⟨Y, 0, none⟩ = some (vI kd) := by rw [cell_of hb2]; rfl
  have b1 : w2.cell? ⟨Y, 1, none⟩ = some (vI ky) := by rw [cell_of hb2]; rfl
  have b2 : w2.cell? ⟨Y, 2, none⟩ = some (.string v) := by rw [cell_of hb2]; rfl
  have L2 := HX.out w2 HF2.out
  have k1 := L2.k1
  have k2 := L2.k2
  have k3 := L2.k3
  have k4 := L2.k4
  have hcb : w2.heap[x.cb]? = some (.cells (cl9 x) 70) := by have := HS2.out.cl n HN.out; rw [← EX.out] at this; exact this
  have f1 : w2.frozen? ⟨x.cb, 1, none⟩ = false := frozen_of hcb 1
  have f2 : w2.frozen? ⟨x.cb, 2, none⟩ = false := frozen_of hcb 2
  have f3 : w2.frozen? ⟨x.cb, 3, none⟩ = false := frozen_of hcb 3
  have f4 : w2.frozen? ⟨x.cb, 4, none⟩ = false := frozen_of hcb 4
  have HCBN : Hd (x.cb ≠ Y ∧ x.cb ≠ sb ∧ B ≤ x.cb) := by
    have r1 := HS2.out.rc n HN.out
    have r2 := HS2.out.cbB HN.out
    rw [← EX.out] at r1 r2
    exact ⟨fun e => by rw [e, HY.out] at r1; omega, fun e => by rw [e, HS2.out.rs] at r1; omega, r2⟩
  rw [← hw2, ← hY]
  clear hw2 hY hb2 hcb L2 v0 v1 t0 t1 t2 z0 z1 y0 y1 y2 c9 cr k0 o0 o1 o2 hro H
  rw [hb] at k2
  rw [hd] at k4
  clear hb hd
  simp only at hkn
  have kn3 : (kd == 3) = false := by simp; omega
  have s0 : w2.cell? ⟨sb, 0, none⟩ = some (.pointer (some ⟨tb, 0, none⟩)) := by rw [cell_of HS2.out.scn]; rfl
  have HACT : Hd (Calls Tryz.prog 45 #[.pointer (some ⟨tb, 0, none⟩), opV kd ky v] w2.drew fun e w' => ∃ ra rn rc ua un uc, e = .returned (.agg #[.bool (doR t.tab (kd, ky, v)).ok, .string (doR t.tab (kd, ky, v)).val, .slice ra rn rc, .slice ua un uc]) ∧ w'.heap[x.cb]? = some (.cells (cl9 x) 70) ∧ w'.heap[Y]? = some (.cells #[vI kd, vI ky, .string v] 31) ∧
      (∃ kv' vv' ro', ro' Y = 0 ∧ Sn (actW w' x.cb (doR t.tab (kd, ky, v)) (.slice ra rn rc) (.slice ua un uc)) B sb tb lv kv' vv' hv ro' (dvs.set n ⟨x.cb, x.ov, .slice ra rn rc, .slice ua un uc, { x.d with rp := doR t.tab (kd, ky, v), done := true }⟩) mvs { t with tab := doT t.tab (kd, ky, v), cls := t.cls.set n { x.d with rp := doR t.tab (kd, ky, v), done := true } }) ∧ Fr (fun j => B ≤ j) w2.drew (actW w' x.cb (doR t.tab (kd, ky, v)) (.slice ra rn rc) (.slice ua un uc))) := by
    have := (HS2.out.fr0 (Fr.drew (Fr.refl _ w2))).acts n HN.out kd ky v (by omega) hlt Y HY.out _ HB2.out
    rw [← EX.out] at this
    exact this
  have HFd : Hd (Fr (fun j => B ≤ j) w w2.drew) := (HF2.out.mono (fun _ _ h => h.elim)).drew
  have HLN : Hd (∀ y, (dvs.set n y).length = N) := fun y => by rw [List.length_set]; exact EN.out.symm
  obtain ⟨R, eR⟩ : ∃ R, R = doR t.tab (kd, ky, v) := ⟨_, rfl⟩
  have ER : Hd (R = doR t.tab (kd, ky, v)) := eR
  rw [← eR] at HACT
  have NCB : Hd (¬ x.cb = Y ∧ ¬ x.cb = sb) := ⟨HCBN.out.1, HCBN.out.2.1⟩
  have HCBB : Hd (B ≤ x.cb) := HCBN.out.2.2
  obtain ⟨cb, ecb⟩ : ∃ cb, cb = x.cb := ⟨_, rfl⟩
  have ECB : Hd (cb = x.cb) := ecb
  rw [← ecb] at HACT k2 k3 k4 f3 f4 NCB HCBB ⊢
  clear eR ecb hlt f1 f2 k1 hat hol a0 a1 n0 n1 hl hn HX HEOV HS2 HB2 HF2 HY HCBN hkn
  go_wp2_with fail
  go_region_with ((first
    | (go_at_call 45; refine HACT.out.mono ?_; rintro _ w5 ⟨ra, rn, rc, ua, un, uc, rfl, hb5, hY5, hE5, hF5⟩; have HE5 : Hd _ := hE5; have HF5 : Hd _ := hF5; have HB5 : Hd (w5.heap[cb]? = some (.cells (cl9 x) 70)) := hb5; have HY5 : Hd (w5.heap[Y]? = some (.cells #[vI kd, vI ky, .string v] 31)) := hY5; have m4 : w5.cell? ⟨cb, 4, none⟩ = some (.bool x.d.done) := by { rw [cell_of hb5]; rfl }; have m5 : w5.cell? ⟨cb, 5, none⟩ = some (.bool x.d.rp.ok) := by { rw [cell_of hb5]; rfl }; have m6 : w5.cell? ⟨cb, 6, none⟩ = some (.string x.d.rp.val) := by { rw [cell_of hb5]; rfl }; have m7 : w5.cell? ⟨cb, 7, none⟩ = some x.kv := by { rw [cell_of hb5]; rfl }; have m8 : w5.cell? ⟨cb, 8, none⟩ = some x.vv := by { rw [cell_of hb5]; rfl }; have g4 : w5.frozen? ⟨cb, 4, none⟩ = false := frozen_of hb5 4; have g5 : w5.frozen? ⟨cb, 5, none⟩ = false := frozen_of hb5 5; have g6 : w5.frozen? ⟨cb, 6, none⟩ = false := frozen_of hb5 6; have g7 : w5.frozen? ⟨cb, 7, none⟩ = false := frozen_of hb5 7; have g8 : w5.frozen? ⟨cb, 8, none⟩ = false := frozen_of hb5 8; have e0 : w5.cell? ⟨Y, 0, none⟩ = some (vI kd) := by { rw [cell_of hY5]; rfl }; clear hE5 hF5 hb5 hY5)))
  all_goals
    have HEND : Hd (Snd (actW w5 cb R (.slice ra rn rc) (.slice ua un uc)) B sb tb N { t with tab := doT t.tab (kd, ky, v), cls := t.cls.set n { x.d with rp := doR t.tab (kd, ky, v), done := true } } ∧ Fr (fun j => B ≤ j) w (actW w5 cb R (.slice ra rn rc) (.slice ua un uc))) := by
      obtain ⟨kv', vv', ro', -, hs⟩ := HE5.out
      rw [← ER.out]
      exact ⟨⟨_, kv', vv', _, ro', _, _, HLN.out _, hs⟩, HFd.out.trans HF5.out⟩
    unfold actW at HEND
    clear HE5 HF5 HB5 HY5 HACT
    have ncY : ¬ cb = Y := NCB.out.1
    go_wp2_with fail
    first | go_end0 | refine bodyPost_ret (results_none rfl _ _ _) rfl ?_
    exact ⟨rfl, HEND.out⟩
end
end Go.Proofs.YtngbakjalmgciaaGreat
