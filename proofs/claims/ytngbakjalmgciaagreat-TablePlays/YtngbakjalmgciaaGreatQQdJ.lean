import Derived.Test.YtngbakjalmgciaaGreatQQa2J
import Derived.BigRegion
import Derived.StillTailTactics
namespace Go.Proofs.YtngbakjalmgciaaGreat
open Go.RowKit (wrap32 wrap64)
set_option linter.unusedVariables false
set_option linter.unusedSimpArgs false

section
variable {w : World} {B sb tb : Nat} {lv kv vv hv : Value} {ro : Nat → Nat} {dvs : List DV} {mvs : List MV} {t : DS}
theorem scn_lock (tb : Nat) (held : Nat → Int) (lv hv : Value) (j : Nat) (hj : j < 8) (u : Int) : (scnC tb held lv hv).setIfInBounds (1 + j) (vI u) = scnC tb (fun i => if i = j then u else held i) lv hv := by
  match j, hj with
  | 0, _ => rfl
  | 1, _ => rfl
  | 2, _ => rfl
  | 3, _ => rfl
  | 4, _ => rfl
  | 5, _ => rfl
  | 6, _ => rfl
  | 7, _ => rfl
theorem scn_held (tb : Nat) (held : Nat → Int) (lv hv : Value) (j : Nat) (hj : j < 8) : (scnC tb held lv hv)[1 + j]? = some (vI (held j)) := by
  match j, hj with
  | 0, _ => rfl
  | 1, _ => rfl
  | 2, _ => rfl
  | 3, _ => rfl
  | 4, _ => rfl
  | 5, _ => rfl
  | 6, _ => rfl
  | 7, _ => rfl
set_option maxRecDepth 100000 in
set_option maxHeartbeats 4000000 in
theorem rstep_lock (h : Sn w B sb tb lv kv vv hv ro dvs mvs t) (n : Nat) (hn : n < dvs.length) (hl : dvs.length ≤ 64) (o : OpT) (hop : dvs[n].d.ops[dvs[n].d.at']? = some o) (hol : dvs[n].d.ops.length ≤ 2147483647) (hb : dvs[n].d.begun = true) (hd : dvs[n].d.done = false) (hk3 : o.1 = 3) (hlk : dvs[n].d.locked < 8) :
    Calls Tryz.prog 29 #[.pointer (some ⟨sb, 0, none⟩), vI (n : Nat)] w fun e w' => e = .returned (.tuple #[]) ∧ Snd w' B sb tb dvs.length { t with held := fun j => if j = dvs[n].d.locked then (n : Int) else t.held j, cls := t.cls.set n { dvs[n].d with locked := dvs[n].d.locked + 1 } } ∧ Fr (fun j => B ≤ j) w w' := by
  obtain ⟨lg, lc, og, oo, oc, eov, hat, hx⟩ := h.looks n hn o hop
  have H : Hd (Sn w B sb tb lv kv vv hv ro dvs mvs t) := h
  obtain ⟨x, ex⟩ : ∃ x, x = dvs[n] := ⟨_, rfl⟩
  have HN : Hd (n < dvs.length) := hn
  have hro : Hd (∀ j, w.heap.size ≤ j → ro j = 0) := fun j hj => by
    by_cases e : ro j = 0
    · exact e
    · have := h.lt j e; omega
  have EX : Hd (x = dvs[n]'HN.out) := ex
  rw [← ex] at hop hol hat eov hx hb hd hlk ⊢
  obtain ⟨N, eN⟩ : ∃ N, N = dvs.length := ⟨_, rfl⟩
  have EN : Hd (N = dvs.length) := eN
  rw [← eN] at hn hl hx ⊢
  have HX : Hd (∀ W, Fr (fun _ => False) w W → Lk W sb lg lc N n x og oo oc o) := hx
  have HEOV : Hd (x.ov = .slice (some ⟨og, oo, none⟩) x.d.ops.length oc) := eov
  clear hx ex eN eov h hop
  obtain ⟨kd, ky, v⟩ := o
  have LK : ∀ W, Fr (fun _ => False) w W → _ := fun W f => HX.out W f
  have L0 := HX.out w (Fr.refl _ _)
  have c9 := L0.s9
  have cr := L0.rw
  have k0 := L0.k0
  have k1 := L0.k1
  have o0 := L0.o0
  have o1 := L0.o1
  have o2 := L0.o2
  have L1 := HX.out w.drew (Fr.drew (Fr.refl _ _))
  have v0 := L1.k0
  have v1 := L1.k1
  have t0 := L1.o0
  have t1 := L1.o1
  have t2 := L1.o2
  have L2 := HX.out ((w.alloc (.cells #[.int .i64 0, .int .i64 0, .string ⟨#[]⟩] 31)).drew) ((Fr.alloc (Fr.refl _ w) _).drew)
  have z0 := L2.k0
  have z1 := L2.k1
  have y0 := L2.o0
  have y1 := L2.o1
  have y2 := L2.o2
  obtain ⟨M, eM⟩ : ∃ M, M = x.d.ops.length := ⟨_, rfl⟩
  obtain ⟨a, ea⟩ : ∃ a, a = x.d.at' := ⟨_, rfl⟩
  have EA : Hd (a = x.d.at') := ea
  simp only [← eM, ← ea] at k0 k1 o0 o1 o2 v0 v1 t0 t1 t2 z0 z1 y0 y1 y2 hat hol
  have a0 : (0 : Int) ≤ a := by omega
  have a1 : (a : Int) < M := by omega
  have n0 : (0 : Int) ≤ n := by omega
  have n1 : (n : Int) < N := by omega
  clear L0 L1 L2 LK eM ea
  go_enter Tryz.func29, Tryz.ntmps29
  go_upto_region 1 with fail
  go_region
  obtain ⟨w2, hw2⟩ : ∃ w2, w2 = (w.alloc (.cells #[vI kd, vI ky, .string v] 31)).drew := ⟨_, rfl⟩
  obtain ⟨Y, hY⟩ : ∃ Y, Y = w.heap.size := ⟨_, rfl⟩
  have HF2 : Hd (Fr (fun _ => False) w w2) := by unfold Hd; rw [hw2]; exact (Fr.alloc (Fr.refl _ w) _).drew
  have hb2 : w2.heap[Y]? = some (.cells #[vI kd, vI ky, .string v] 31) := by rw [hw2, hY]; exact heap_alloc_last w _
  have HY : Hd (ro Y = 0) := hro.out Y (by omega)
  have HS2 : Hd (Sn w2 B sb tb lv kv vv hv ro dvs mvs t) := H.out.fr0 HF2.out
  have HB2 : Hd (w2.heap[Y]? = some (.cells #[vI kd, vI ky, .string v] 31)) := hb2
  have b0 : w2.cell? ⟨Y, 0, none⟩ = some (vI kd) := by rw [cell_of hb2]; rfl
  have b1 : w2.cell? ⟨Y, 1, none⟩ = some (vI ky) := by rw [cell_of hb2]; rfl
  have b2 : w2.cell? ⟨Y, 2, none⟩ = some (.string v) := by rw [cell_of hb2]; rfl
  have L2 := HX.out w2 HF2.out
  have k1 := L2.k1
  have k2 := L2.k2
  have k3 := L2.k3
  have k4 := L2.k4
  have hcb : w2.heap[x.cb]? = some (.cells (cl9 x) 70) := by have := HS2.out.cl n HN.out; rw [← EX.out] at this; exact this
  have f1 : w2.frozen? ⟨x.cb, 1, none⟩ = false := frozen_of hcb 1
  have f2 : w2.frozen? ⟨x.cb, 2, none⟩ = false := frozen_of hcb 2
  have f3 : w2.frozen? ⟨x.cb, 3, none⟩ = false := frozen_of hcb 3
  have f4 : w2.frozen? ⟨x.cb, 4, none⟩ = false := frozen_of hcb 4
  have HCBN : Hd (x.cb ≠ Y ∧ x.cb ≠ sb ∧ B ≤ x.cb) := by
    have r1 := HS2.out.rc n HN.out
    have r2 := HS2.out.cbB HN.out
    rw [← EX.out] at r1 r2
    exact ⟨fun e => by rw [e, HY.out] at r1; omega, fun e => by rw [e, HS2.out.rs] at r1; omega, r2⟩
  rw [← hw2, ← hY]
  clear hw2 hY hb2 hcb L2 v0 v1 t0 t1 t2 z0 z1 y0 y1 y2 c9 cr k0 o0 o1 o2 hro H
  rw [hb] at k2
  rw [hd] at k4
  clear hb hd
  simp only at hk3
  subst hk3
  have HM : Hd (x ∈ dvs) := by unfold Hd; rw [EX.out]; exact List.getElem_mem HN.out
  obtain ⟨lk, elk⟩ : ∃ lk, lk = x.d.locked := ⟨_, rfl⟩
  have ELK : Hd (lk = x.d.locked) := elk
  rw [← elk] at k3 hlk
  have l0 : (0 : Int) ≤ lk := by omega
  have l8 : (lk : Int) < 8 := by omega
  have HCB : Hd (w2.heap[x.cb]? = some (.cells (cl9 x) 70)) := by have := HS2.out.cl n HN.out; rw [← EX.out] at this; exact this
  have sl : w2.cell? ⟨sb, 1 + lk, none⟩ = some (vI (t.held lk)) := by rw [cell_of HS2.out.scn, scn_held _ _ _ _ _ hlk]
  have zl : w2.frozen? ⟨sb, 1 + lk, none⟩ = false := frozen_of HS2.out.scn _
  have ncb : ¬ x.cb = sb := HCBN.out.2.1
  have nsb : ¬ sb = x.cb := fun e => HCBN.out.2.1 e.symm
  have HEND : Hd (∀ w', w' = ((w2.setCell ⟨sb, 1 + lk, none⟩ (vI (n : Nat))).setCell ⟨x.cb, 3, none⟩ (vI ((lk : Int) + 1))).drew → Snd w' B sb tb N { t with held := fun j => if j = x.d.locked then (n : Int) else t.held j, cls := t.cls.set n { x.d with locked := x.d.locked + 1 } } ∧ Fr (fun j => B ≤ j) w w') := by
    rintro w' rfl
    have hm := HM.out
    have hd2 := HS2.out.fr0 (Fr.drew (Fr.refl _ w2))
    have fs : Fr (fun j => j = sb) w2.drew (w2.drew.setCell ⟨sb, 1 + lk, none⟩ (vI (n : Nat))) := (Fr.refl (fun j => j = sb) w2.drew).setCell _ _ (Or.inl rfl)
    have h1 := hd2.setHeld fs (fun j => if j = lk then (n : Int) else t.held j) (by rw [set_of hd2.scn, scn_lock _ _ _ _ _ hlk])
    have hb1 : (w2.drew.setCell ⟨sb, 1 + lk, none⟩ (vI (n : Nat))).heap[x.cb]? = some (.cells (cl9 x) 70) := by have := h1.cl n HN.out; rw [← EX.out] at this; exact this
    have fc : Fr (fun j => j = x.cb) (w2.drew.setCell ⟨sb, 1 + lk, none⟩ (vI (n : Nat))) ((w2.drew.setCell ⟨sb, 1 + lk, none⟩ (vI (n : Nat))).setCell ⟨x.cb, 3, none⟩ (vI ((lk : Int) + 1))) := (Fr.refl _ _).setCell _ _ (Or.inl rfl)
    have hblk : ((w2.drew.setCell ⟨sb, 1 + lk, none⟩ (vI (n : Nat))).setCell ⟨x.cb, 3, none⟩ (vI ((lk : Int) + 1))).heap[x.cb]? = some (.cells (cl9 ⟨x.cb, x.ov, x.kv, x.vv, { x.d with locked := x.d.locked + 1 }⟩) 70) := by
      rw [set_of hb1 3 _, ELK.out]
      rfl
    have hs := h1.setCl HN.out (by rw [← EX.out]; exact fc) ⟨x.cb, x.ov, x.kv, x.vv, { x.d with locked := x.d.locked + 1 }⟩ (by rw [EX.out]) (by rw [← EX.out]; exact hblk) (h1.ops x hm) (h1.rpk x hm) (h1.rpv x hm)
    rw [ELK.out] at hs ⊢
    refine ⟨⟨_, _, _, _, _, _, _, by rw [List.length_set]; exact EN.out.symm, hs⟩, ?_⟩
    rw [← ELK.out]
    have hB := HCBN.out.2.2
    have hsB := HS2.out.ge sb (by rw [HS2.out.rs]; decide)
    exact (((HF2.out.mono (fun _ _ h => h.elim)).drew).trans (fs.mono (fun j _ e => by rw [e]; exact hsB))).trans (fc.mono (fun j _ e => by rw [e]; exact hB))
  generalize t.held lk = hlkv at sl
  clear elk
  go_upto_region 19 with fail
  go_region
  all_goals go_wp2_with fail
  all_goals first | go_end0 | refine bodyPost_ret (results_none rfl _ _ _) rfl ?_
  all_goals exact ⟨rfl, HEND.out _ rfl⟩
end
end Go.Proofs.YtngbakjalmgciaaGreat

namespace Go.Proofs.YtngbakjalmgciaaGreat
open Go.RowKit (wrap32 wrap64)
set_option linter.unusedVariables false
set_option linter.unusedSimpArgs false

section
variable {w : World} {B sb tb : Nat} {lv kv vv hv : Value} {ro : Nat → Nat} {dvs : List DV} {mvs : List MV} {t : DS}
theorem cl9_act (x : DV) (R : RepT) (rk ru : Value) : (((((cl9 x).setIfInBounds 5 (.bool R.ok)).setIfInBounds 6 (.string R.val)).setIfInBounds 7 rk).setIfInBounds 8 ru).setIfInBounds 4 (.bool true) = cl9 ⟨x.cb, x.ov, rk, ru, { x.d with rp := R, done := true }⟩ := rfl
/-- The client's block behind an answer. -/
def actW (w' : World) (cb : Nat) (R : RepT) (rk ru : Value) : World := ((((w'.setCell ⟨cb, 5, none⟩ (.bool R.ok)).setCell ⟨cb, 6, none⟩ (.string R.val)).setCell ⟨cb, 7, none⟩ rk).setCell ⟨cb, 8, none⟩ ru).setCell ⟨cb, 4, none⟩ (.bool true)
theorem actW_fr (w' : World) (cb : Nat) (R : RepT) (rk ru : Value) : Fr (fun j => j = cb) w' (actW w' cb R rk ru) := (((((Fr.refl (fun j => j = cb) w').setCell ⟨cb, 5, none⟩ _ (Or.inl rfl)).setCell ⟨cb, 6, none⟩ _ (Or.inl rfl)).setCell ⟨cb, 7, none⟩ _ (Or.inl rfl)).setCell ⟨cb, 8, none⟩ _ (Or.inl rfl)).setCell ⟨cb, 4, none⟩ _ (Or.inl rfl)
theorem actW_blk {w' : World} {x : DV} (R : RepT) (rk ru : Value) (h : w'.heap[x.cb]? = some (.cells (cl9 x) 70)) : (actW w' x.cb R rk ru).heap[x.cb]? = some (.cells (cl9 ⟨x.cb, x.ov, rk, ru, { x.d with rp := R, done := true }⟩) 70) := by
  unfold actW
  rw [set_of (set_of (set_of (set_of (set_of h 5 _) 6 _) 7 _) 8 _) 4 _, cl9_act]
/-- The document's table does a call; the answer is laid into the client. -/
theorem Sn.acts (h : Sn w B sb tb lv kv vv hv ro dvs mvs t) (n : Nat) (hn : n < dvs.length) (kd ky : Int) (v : ByteArray) (hk : kd = 1 ∨ kd = 2 ∨ kd = 3) (hlt : t.tab.length ≤ 3999999999) (Y : Nat) (hY : ro Y = 0) (bY : Obj) (hb : w.heap[Y]? = some bY) :
    Calls Tryz.prog 45 #[.pointer (some ⟨tb, 0, none⟩), opV kd ky v] w fun e w' => ∃ ra rn rc ua un uc, e = .returned (.agg #[.bool (doR t.tab (kd, ky, v)).ok, .string (doR t.tab (kd, ky, v)).val, .slice ra rn rc, .slice ua un uc]) ∧ w'.heap[dvs[n].cb]? = some (.cells (cl9 dvs[n]) 70) ∧ w'.heap[Y]? = some bY ∧
      (∃ kv' vv' ro', ro' Y = 0 ∧ Sn (actW w' dvs[n].cb (doR t.tab (kd, ky, v)) (.slice ra rn rc) (.slice ua un uc)) B sb tb lv kv' vv' hv ro' (dvs.set n ⟨dvs[n].cb, dvs[n].ov, .slice ra rn rc, .slice ua un uc, { dvs[n].d with rp := doR t.tab (kd, ky, v), done := true }⟩) mvs { t with tab := doT t.tab (kd, ky, v), cls := t.cls.set n { dvs[n].d with rp := doR t.tab (kd, ky, v), done := true } }) ∧ Fr (fun j => B ≤ j) w (actW w' dvs[n].cb (doR t.tab (kd, ky, v)) (.slice ra rn rc) (.slice ua un uc)) := by
  refine (do_any w B tb kv vv t.tab kd ky v hk h.tab h.Ble hlt).mono ?_
  rintro _ w' ⟨rv, rfl, rk, ru, kv', vv', rfl, p1, p2, p3, p4, p5, p6, p7⟩
  obtain ⟨q1, q2, q3⟩ := h.did p1 p2 p3 p4 p5 p6 p7
  obtain ⟨ra, rc, era⟩ := row_val p1
  obtain ⟨ua, uc, eua⟩ := row_val p2
  generalize (doR t.tab (kd, ky, v)).L.length = m at era eua
  have hbx := q1.cl n hn
  have hm : dvs[n] ∈ dvs := List.getElem_mem hn
  have hYl := heap_lt hb
  have hF := actW_fr w' dvs[n].cb (doR t.tab (kd, ky, v)) rk ru
  have hs := q1.setCl hn hF ⟨dvs[n].cb, dvs[n].ov, rk, ru, { dvs[n].d with rp := doR t.tab (kd, ky, v), done := true }⟩ rfl (actW_blk _ _ _ hbx) (q1.ops dvs[n] hm) q2 q3
  have hFr : Fr (fun j => B ≤ j) w (actW w' dvs[n].cb (doR t.tab (kd, ky, v)) rk ru) := by
    refine (p4.mono (fun j _ e => ?_)).trans (hF.mono (fun j _ e => by rw [e]; exact h.cbB hn))
    rcases e with e | e | e
    · rw [e]; exact h.ge tb (by rw [h.rt]; decide)
    · exact h.ge j (by rw [h.rk j e]; decide)
    · exact h.ge j (by rw [h.rv j e]; decide)
  have hY' : roT ro w.heap.size kv' vv' rk ru Y = 0 := by unfold roT; rw [if_pos hYl]; exact hY
  have hbY : w'.heap[Y]? = some bY := by
    refine (p4.block Y hYl (fun e => ?_)).trans hb
    rcases e with e | e | e
    · rw [e, h.rt] at hY; omega
    · rw [h.rk Y e] at hY; omega
    · rw [h.rv Y e] at hY; omega
  subst era eua
  exact ⟨ra, m, rc, ua, m, uc, rfl, hbx, hbY, ⟨_, _, _, hY', hs⟩, hFr⟩
end
end Go.Proofs.YtngbakjalmgciaaGreat
