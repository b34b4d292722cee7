import Derived.Test.YtngbakjalmgciaaGreatQQa2J
import Derived.Test.YtngbakjalmgciaaGreatQQdJ
import Derived.BigRegion
import Derived.StillTailTactics
import Derived.Shelf.SlSortCmp.WholeK
import Derived.Ground.SlsfProg
import Derived.Test.YtngbakjalmgciaaGreatProg
namespace Go.Proofs.YtngbakjalmgciaaGreat
open Go.RowKit (wrap32 wrap64)
set_option linter.unusedVariables false
set_option linter.unusedSimpArgs false

section
variable {w : World} {B sb tb : Nat} {lv kv vv hv : Value} {ro : Nat → Nat} {dvs : List DV} {mvs : List MV} {t : DS}
theorem Sn.held' (h : Sn w B sb tb lv kv vv hv ro dvs mvs t) (held : Nat → Int) (e : ∀ j, j < 8 → held j = t.held j) : Sn w B sb tb lv kv vv hv ro dvs mvs { t with held := held } := by
  refine h.setHeld (Fr.refl _ _) held ?_
  have : scnC tb held lv hv = scnC tb t.held lv hv := by
    unfold scnC
    rw [e 0 (by omega), e 1 (by omega), e 2 (by omega), e 3 (by omega), e 4 (by omega), e 5 (by omega), e 6 (by omega), e 7 (by omega)]
  rw [this]; exact h.scn
theorem Sn.putHeld (h : Sn w B sb tb lv kv vv hv ro dvs mvs t) (k : Nat) (hk : k < 8) (u : Int) (held : Nat → Int) (e : ∀ j, j < 8 → held j = if j = k then u else t.held j) : Sn (w.setCell ⟨sb, 1 + k, none⟩ (vI u)) B sb tb lv kv vv hv ro dvs mvs { t with held := held } := by
  have h1 := h.setHeld ((Fr.refl (fun j => j = sb) w).setCell ⟨sb, 1 + k, none⟩ (vI u) (Or.inl rfl)) (fun i => if i = k then u else t.held i) (by rw [set_of h.scn, scn_lock _ _ _ _ _ hk])
  exact h1.held' held e
theorem Sn.unlk {y z : DV} {n : Nat} (h : Sn w B sb tb lv kv vv hv ro (dvs.set n y) mvs { t with cls := t.cls.set n y.d }) (hn : n < dvs.length) (hcb : z.cb = y.cb) (hz : (cl9 y).setIfInBounds 3 (vI 0) = cl9 z) (ho : z.ov = y.ov ∧ z.d.ops = y.d.ops) (hk : z.kv = y.kv ∧ z.vv = y.vv ∧ z.d.rp = y.d.rp) : Sn (w.setCell ⟨y.cb, 3, none⟩ (vI 0)) B sb tb lv kv vv hv ro (dvs.set n z) mvs { t with cls := t.cls.set n z.d } := by
  have hn' : n < (dvs.set n y).length := by rw [List.length_set]; exact hn
  have ey : (dvs.set n y)[n] = y := List.getElem_set_self hn'
  have hm : y ∈ dvs.set n y := by have := List.getElem_mem hn'; rw [ey] at this; exact this
  have := h.putCl hn' 3 (vI 0) z (by rw [ey]; exact hcb) (by rw [ey]; exact hz) (by rw [ho.1, ho.2]; exact h.ops y hm) (by rw [hk.1, hk.2.2]; exact h.rpk y hm) (by rw [hk.2.1, hk.2.2]; exact h.rpv y hm)
  rw [ey, List.set_set] at this
  simp only [List.set_set] at this
  exact this
set_option maxRecDepth 100000 in
set_option maxHeartbeats 4000000 in
theorem rstep_snap (h : Sn w B sb tb lv kv vv hv ro dvs mvs t) (n : Nat) (hn : n < dvs.length) (hl : dvs.length ≤ 64) (o : OpT) (hop : dvs[n].d.ops[dvs[n].d.at']? = some o) (hol : dvs[n].d.ops.length ≤ 2147483647) (hb : dvs[n].d.begun = true) (hd : dvs[n].d.done = false) (hkn : o.1 = 3) (hlk : dvs[n].d.locked = 8) (hlt : t.tab.length ≤ 3999999999) :
    Calls Tryz.prog 29 #[.pointer (some ⟨sb, 0, none⟩), vI (n : Nat)] w fun e w' => e = .returned (.tuple #[]) ∧ Snd w' B sb tb dvs.length { t with held := fun _ => -1, cls := t.cls.set n { dvs[n].d with rp := doR t.tab o, done := true, locked := 0 } } ∧ Fr (fun j => B ≤ j) w w' := by
  obtain ⟨lg, lc, og, oo, oc, eov, hat, hx⟩ := h.looks n hn o hop
  have H : Hd (Sn w B sb tb lv kv vv hv ro dvs mvs t) := h
  obtain ⟨x, ex⟩ : ∃ x, x = dvs[n] := ⟨_, rfl⟩
  have HN : Hd (n < dvs.length) := hn
  have hro : Hd (∀ j, w.heap.size ≤ j → ro j = 0) := fun j hj => by
    by_cases e : ro j = 0
    · exact e
    · have := h.lt j e; omega
  have EX : Hd (x = dvs[n]'HN.out) := ex
  rw [← ex] at hop hol hat eov hx hb hd hlk ⊢
  obtain ⟨N, eN⟩ : ∃ N, N = dvs.length := ⟨_, rfl⟩
  have EN : Hd (N = dvs.length) := eN
  rw [← eN] at hn hl hx ⊢
  have HX : Hd (∀ W, Fr (fun _ => False) w W → Lk W sb lg lc N n x og oo oc o) := hx
  have HEOV : Hd (x.ov = .slice (some ⟨og, oo, none⟩) x.d.ops.length oc) := eov
  clear hx ex eN eov h hop
  obtain ⟨kd, ky, v⟩ := o
  have LK : ∀ W, Fr (fun _ => False) w W → _ := fun W f => HX.out W f
  have L0 := HX.out w (Fr.refl _ _)
  have c9 := L0.s9
  have cr := L0.rw
  have k0 := L0.k0
  have k1 := L0.k1
  have o0 := L0.o0
  have o1 := L0.o1
  have o2 := L0.o2
  have L1 := HX.out w.drew (Fr.drew (Fr.refl _ _))
  have v0 := L1.k0
  have v1 := L1.k1
  have t0 := L1.o0
  have t1 := L1.o1
  have t2 := L1.o2
  have L2 := HX.out ((w.alloc (.cells #[.int .i64 0, .int .i64 0, .string ⟨#[]⟩] 31)).drew) ((Fr.alloc (Fr.refl _ w) _).drew)
  have z0 := L2.k0
  have z1 := L2.k1
  have y0 := L2.o0
  have y1 := L2.o1
  have y2 := L2.o2
  obtain ⟨M, eM⟩ : ∃ M, M = x.d.ops.length := ⟨_, rfl⟩
  obtain ⟨a, ea⟩ : ∃ a, a = x.d.at' := ⟨_, rfl⟩
  have EA : Hd (a = x.d.at') := ea
  simp only [← eM, ← ea] at k0 k1 o0 o1 o2 v0 v1 t0 t1 t2 z0 z1 y0 y1 y2 hat hol
  have a0 : (0 : Int) ≤ a := by omega
  have a1 : (a : Int) < M := by omega
  have n0 : (0 : Int) ≤ n := by omega
  have n1 : (n : Int) < N := by omega
  clear L0 L1 L2 LK eM ea
  go_enter Tryz.func29, Tryz.ntmps29
  go_upto_region 1 with fail
  go_region
  obtain ⟨w2, hw2⟩ : ∃ w2, w2 = (w.alloc (.cells #[vI kd, vI ky, .string v] 31)).drew := ⟨_, rfl⟩
  obtain ⟨Y, hY⟩ : ∃ Y, Y = w.heap.size := ⟨_, rfl⟩
  have HF2 : Hd (Fr (fun _ => False) w w2) := by unfold Hd; rw [hw2]; exact (Fr.alloc (Fr.refl _ w) _).drew
  have hb2 : w2.heap[Y]? = some (.cells #[vI kd, vI ky, .string v] 31) := by rw [hw2, hY]; exact heap_alloc_last w _
  have HY : Hd (ro Y = 0) := hro.out Y (by omega)
  have HS2 : Hd (Sn w2 B sb tb lv kv vv hv ro dvs mvs t) := H.out.fr0 HF2.out
  have HB2 : Hd (w2.heap[Y]? = some (.cells #[vI kd, vI ky, .string v] 31)) := hb2
  have b0 : w2.cell? ⟨Y, 0, none⟩ = some (vI kd) := by rw [cell_of hb2]; rfl
  have b1 : w2.cell? ⟨Y, 1, none⟩ = some (vI ky) := by rw [cell_of hb2]; rfl
  have b2 : w2.cell? ⟨Y, 2, none⟩ = some (.string v) := by rw [cell_of hb2]; rfl
  have L2 := HX.out w2 HF2.out
  have k1 := L2.k1
  have k2 := L2.k2
  have k3 := L2.k3
  have k4 := L2.k4
  have hcb : w2.heap[x.cb]? = some (.cells (cl9 x) 70) := by have := HS2.out.cl n HN.out; rw [← EX.out] at this; exact this
  have f1 : w2.frozen? ⟨x.cb, 1, none⟩ = false := frozen_of hcb 1
  have f2 : w2.frozen? ⟨x.cb, 2, none⟩ = false := frozen_of hcb 2
  have f3 : w2.frozen? ⟨x.cb, 3, none⟩ = false := frozen_of hcb 3
  have f4 : w2.frozen? ⟨x.cb, 4, none⟩ = false := frozen_of hcb 4
  have HCBN : Hd (x.cb ≠ Y ∧ x.cb ≠ sb ∧ B ≤ x.cb) := by
    have r1 := HS2.out.rc n HN.out
    have r2 := HS2.out.cbB HN.out
    rw [← EX.out] at r1 r2
    exact ⟨fun e => by rw [e, HY.out] at r1; omega, fun e => by rw [e, HS2.out.rs] at r1; omega, r2⟩
  rw [← hw2, ← hY]
  clear hw2 hY hb2 hcb L2 v0 v1 t0 t1 t2 z0 z1 y0 y1 y2 c9 cr k0 o0 o1 o2 hro H
  rw [hlk] at k3
  have k3 : w2.cell? ⟨x.cb, 3, none⟩ = some (vI 8) := k3
  clear hlk
  rw [hb] at k2
  rw [hd] at k4
  clear hb hd
  simp only at hkn
  subst hkn
  have s0 : w2.cell? ⟨sb, 0, none⟩ = some (.pointer (some ⟨tb, 0, none⟩)) := by rw [cell_of HS2.out.scn]; rfl
  have HACT : Hd (Calls Tryz.prog 45 #[.pointer (some ⟨tb, 0, none⟩), opV 3 ky v] w2.drew fun e w' => ∃ ra rn rc ua un uc, e = .returned (.agg #[.bool (doR t.tab (3, ky, v)).ok, .string (doR t.tab (3, ky, v)).val, .slice ra rn rc, .slice ua un uc]) ∧ w'.heap[x.cb]? = some (.cells (cl9 x) 70) ∧ w'.heap[Y]? = some (.cells #[vI 3, vI ky, .string v] 31) ∧
      (∃ kv' vv' ro', ro' Y = 0 ∧ Sn (actW w' x.cb (doR t.tab (3, ky, v)) (.slice ra rn rc) (.slice ua un uc)) B sb tb lv kv' vv' hv ro' (dvs.set n ⟨x.cb, x.ov, .slice ra rn rc, .slice ua un uc, { x.d with rp := doR t.tab (3, ky, v), done := true }⟩) mvs { t with tab := doT t.tab (3, ky, v), cls := t.cls.set n { x.d with rp := doR t.tab (3, ky, v), done := true } }) ∧ Fr (fun j => B ≤ j) w2.drew (actW w' x.cb (doR t.tab (3, ky, v)) (.slice ra rn rc) (.slice ua un uc))) := by
    have := (HS2.out.fr0 (Fr.drew (Fr.refl _ w2))).acts n HN.out 3 ky v (by omega) hlt Y HY.out _ HB2.out
    rw [← EX.out] at this
    exact this
  have HFd : Hd (Fr (fun j => B ≤ j) w w2.drew) := (HF2.out.mono (fun _ _ h => h.elim)).drew
  have HLN : Hd (∀ y, (dvs.set n y).length = N) := fun y => by rw [List.length_set]; exact EN.out.symm
  obtain ⟨R, eR⟩ : ∃ R, R = doR t.tab (3, ky, v) := ⟨_, rfl⟩
  have ER : Hd (R = doR t.tab (3, ky, v)) := eR
  rw [← eR] at HACT
  have NCB : Hd (¬ x.cb = Y ∧ ¬ x.cb = sb) := ⟨HCBN.out.1, HCBN.out.2.1⟩
  have HCBB : Hd (B ≤ x.cb) := HCBN.out.2.2
  obtain ⟨cb, ecb⟩ : ∃ cb, cb = x.cb := ⟨_, rfl⟩
  have ECB : Hd (cb = x.cb) := ecb
  rw [← ecb] at HACT k2 k3 k4 f3 f4 NCB HCBB ⊢
  clear eR ecb hlt f1 f2 k1 hat hol a0 a1 n0 n1 hl hn HX HEOV HS2 HB2 HF2 HY HCBN
  have HDT : Hd (doT t.tab (3, ky, v) = t.tab) := by unfold Hd doT; rw [if_neg (by show ¬ (3 : Int) = 1; decide)]
  go_wp2_with fail
  go_region_with ((first
    | (go_at_call 45; refine HACT.out.mono ?_; rintro _ w5 ⟨ra, rn, rc, ua, un, uc, rfl, hb5, hY5, hE5, hF5⟩; have HE5 : Hd _ := hE5; have HF5 : Hd _ := hF5; have HB5 : Hd (w5.heap[cb]? = some (.cells (cl9 x) 70)) := hb5; have HY5 : Hd (w5.heap[Y]? = some (.cells #[vI 3, vI ky, .string v] 31)) := hY5; have m4 : w5.cell? ⟨cb, 4, none⟩ = some (.bool x.d.done) := by { rw [cell_of hb5]; rfl }; have m5 : w5.cell? ⟨cb, 5, none⟩ = some (.bool x.d.rp.ok) := by { rw [cell_of hb5]; rfl }; have m6 : w5.cell? ⟨cb, 6, none⟩ = some (.string x.d.rp.val) := by { rw [cell_of hb5]; rfl }; have m7 : w5.cell? ⟨cb, 7, none⟩ = some x.kv := by { rw [cell_of hb5]; rfl }; have m8 : w5.cell? ⟨cb, 8, none⟩ = some x.vv := by { rw [cell_of hb5]; rfl }; have m3 : w5.cell? ⟨cb, 3, none⟩ = some (vI (x.d.locked : Nat)) := by { rw [cell_of hb5]; rfl }; have g3 : w5.frozen? ⟨cb, 3, none⟩ = false := frozen_of hb5 3; have g4 : w5.frozen? ⟨cb, 4, none⟩ = false := frozen_of hb5 4; have g5 : w5.frozen? ⟨cb, 5, none⟩ = false := frozen_of hb5 5; have g6 : w5.frozen? ⟨cb, 6, none⟩ = false := frozen_of hb5 6; have g7 : w5.frozen? ⟨cb, 7, none⟩ = false := frozen_of hb5 7; have g8 : w5.frozen? ⟨cb, 8, none⟩ = false := frozen_of hb5 8; have e0 : w5.cell? ⟨Y, 0, none⟩ = some (vI 3) := by { rw [cell_of hY5]; rfl }; clear hE5 hF5 hb5 hY5)))
  all_goals
    have HEND : Hd (∃ kv' vv' ro', Sn ((actW w5 cb R (.slice ra rn rc) (.slice ua un uc)).setCell ⟨cb, 3, none⟩ (vI 0)) B sb tb lv kv' vv' hv ro' (dvs.set n ⟨cb, x.ov, .slice ra rn rc, .slice ua un uc, { x.d with rp := R, done := true, locked := 0 }⟩) mvs { t with cls := t.cls.set n { x.d with rp := R, done := true, locked := 0 } }) := by
      obtain ⟨kv', vv', ro', -, hs⟩ := HE5.out
      rw [HDT.out] at hs
      exact ⟨kv', vv', ro', Sn.unlk (y := ⟨cb, x.ov, .slice ra rn rc, .slice ua un uc, { x.d with rp := R, done := true }⟩) hs HN.out rfl rfl ⟨rfl, rfl⟩ ⟨rfl, rfl, rfl⟩⟩
    have HFE : Hd (Fr (fun j => B ≤ j) w ((actW w5 cb R (.slice ra rn rc) (.slice ua un uc)).setCell ⟨cb, 3, none⟩ (vI 0))) := (HFd.out.trans HF5.out).setCell _ _ (Or.inl HCBB.out)
    unfold actW at HEND HFE
    clear HE5 HF5 HB5 HY5 HACT
    have ncY : ¬ cb = Y := NCB.out.1
    go_wp2_with fail
    generalize ((((((w5.setCell ⟨cb, 5, none⟩ (.bool R.ok)).setCell ⟨cb, 6, none⟩ (.string R.val)).setCell ⟨cb, 7, none⟩ (.slice ra rn rc)).setCell ⟨cb, 8, none⟩ (.slice ua un uc)).setCell ⟨cb, 4, none⟩ (.bool true)).setCell ⟨cb, 3, none⟩ (vI 0)) = w7 at *
    go_loopw [6] (fun v6 wr => ∃ k : Nat, v6 = .int .i64 k ∧ k ≤ 8 ∧ Hd ((∃ kv' vv' ro', Sn wr B sb tb lv kv' vv' hv ro' (dvs.set n ⟨cb, x.ov, .slice ra rn rc, .slice ua un uc, { x.d with rp := R, done := true, locked := 0 }⟩) mvs { t with held := fun j => if j < k then -1 else t.held j, cls := t.cls.set n { x.d with rp := R, done := true, locked := 0 } }) ∧ Fr (fun j => B ≤ j) w wr)) (fun v _ => match v with | .int _ q => 8 - q.toNat | _ => 0)
    case atStart =>
      refine ⟨0, rfl, by omega, ?_, HFE.out⟩
      obtain ⟨kv', vv', ro', hs⟩ := HEND.out
      exact ⟨kv', vv', ro', hs.held' _ (fun j _ => by simp)⟩
    case round =>
      obtain ⟨k, rfl, hk, HM⟩ := hrel
      by_cases hlt : k < 8
      · have d1 : decide ((k : Int) < 8) = true := by simp; omega
        have k0 : (0 : Int) ≤ k := by omega
        have k8 : (k : Int) < 8 := by omega
        have HM2 : Hd ((∃ kv' vv' ro', Sn (wr.setCell ⟨sb, 1 + k, none⟩ (vI (-1))) B sb tb lv kv' vv' hv ro' (dvs.set n ⟨cb, x.ov, .slice ra rn rc, .slice ua un uc, { x.d with rp := R, done := true, locked := 0 }⟩) mvs { t with held := fun j => if j < k + 1 then -1 else t.held j, cls := t.cls.set n { x.d with rp := R, done := true, locked := 0 } }) ∧ Fr (fun j => B ≤ j) w (wr.setCell ⟨sb, 1 + k, none⟩ (vI (-1)))) := by
          obtain ⟨⟨kv', vv', ro', hs⟩, hf⟩ := HM.out
          refine ⟨⟨kv', vv', ro', hs.putHeld k hlt (-1) _ (fun j hj => ?_)⟩, hf.setCell _ _ (Or.inl (hs.ge sb (by rw [hs.rs]; decide)))⟩
          by_cases e : j = k
          · rw [if_pos (by omega), if_pos e]
          · rw [if_neg e]
            by_cases e2 : j < k
            · rw [if_pos (by omega)]; simp only; rw [if_pos e2]
            · rw [if_neg (by omega)]; simp only; rw [if_neg e2]
        obtain ⟨⟨kv', vv', ro', hs⟩, -⟩ := HM.out
        have sl : wr.cell? ⟨sb, 1 + k, none⟩ = some (vI (if k < k then -1 else t.held k)) := by rw [cell_of hs.scn, scn_held _ _ _ _ _ hlt]
        have zl : wr.frozen? ⟨sb, 1 + k, none⟩ = false := frozen_of hs.scn _
        generalize (if k < k then (-1 : Int) else t.held k) = q at sl
        clear hs HM
        go_wp2_with fail
        exact ⟨⟨k + 1, by simp, by omega, HM2.out⟩, by simp; omega⟩
      · have d1 : decide ((k : Int) < 8) = false := by simp; omega
        have hk8 : k = 8 := by omega
        have HZ : Hd (Snd wr B sb tb N { t with held := fun _ => -1, cls := t.cls.set n { x.d with rp := doR t.tab (3, ky, v), done := true, locked := 0 } } ∧ Fr (fun j => B ≤ j) w wr) := by
          obtain ⟨⟨kv', vv', ro', hs⟩, hf⟩ := HM.out
          rw [← ER.out]
          exact ⟨⟨_, kv', vv', _, ro', _, _, HLN.out _, hs.held' (fun _ => -1) (fun j hj => by show (-1 : Int) = if j < k then -1 else t.held j; rw [if_pos (by omega)])⟩, hf⟩
        clear HM hk8
        go_wp2_with fail
        first | go_end0 | refine bodyPost_ret (results_none rfl _ _ _) rfl ?_
        exact ⟨rfl, HZ.out⟩
end
end Go.Proofs.YtngbakjalmgciaaGreat

namespace Go.Proofs.YtngbakjalmgciaaGreat
open Go.Shelf
set_option linter.unusedVariables false
set_option linter.unusedSimpArgs false
def sortL_ren : Go.Shelf.Ren := ⟨fun | 6 => 78 | 15 => 91 | 14 => 90 | 28 => 101 | 29 => 102 | 20 => 93 | 21 => 94 | 22 => 95 | 23 => 96 | 24 => 97 | 25 => 98 | 26 => 99 | 27 => 100 | 46 => 103 | 47 => 104 | 48 => 105 | 49 => 106 | 50 => 107 | 57 => 108 | n => n, fun | 22 => 136 | 24 => 140 | 25 => 141 | 3 => 3 | 39 => 104 | 0 => 0 | 53 => 80 | 55 => 156 | 4 => 4 | 46 => 149 | 45 => 148 | 50 => 124 | 5 => 5 | 9 => 9 | 66 => 157 | 70 => 161 | 76 => 163 | 77 => 164 | n => n, fun | n => n⟩
theorem sortL : Go.Proofs.SlLaysF0.n6 Tryz.prog sortL_ren := {
  mixed := by kernel_rfl
  f6 := ⟨Tryz.f78.name, by decide, Tryz.func78.trans (congrArg some (by kernel_rfl))⟩
  f14 := ⟨Tryz.f90.name, by decide, Tryz.func90.trans (congrArg some (by kernel_rfl))⟩
  f15 := Tryz.func91.trans (congrArg some (by kernel_rfl))
  f20 := ⟨Tryz.f93.name, by decide, Tryz.func93.trans (congrArg some (by kernel_rfl))⟩
  f21 := ⟨Tryz.f94.name, by decide, Tryz.func94.trans (congrArg some (by kernel_rfl))⟩
  f22 := ⟨Tryz.f95.name, by decide, Tryz.func95.trans (congrArg some (by kernel_rfl))⟩
  f23 := ⟨Tryz.f96.name, by decide, Tryz.func96.trans (congrArg some (by kernel_rfl))⟩
  f24 := ⟨Tryz.f97.name, by decide, Tryz.func97.trans (congrArg some (by kernel_rfl))⟩
  f25 := ⟨Tryz.f98.name, by decide, Tryz.func98.trans (congrArg some (by kernel_rfl))⟩
  f26 := ⟨Tryz.f99.name, by decide, Tryz.func99.trans (congrArg some (by kernel_rfl))⟩
  f27 := ⟨Tryz.f100.name, by decide, Tryz.func100.trans (congrArg some (by kernel_rfl))⟩
  f28 := Tryz.func101.trans (congrArg some (by kernel_rfl))
  f29 := Tryz.func102.trans (congrArg some (by kernel_rfl))
  f46 := ⟨Tryz.f103.name, by decide, Tryz.func103.trans (congrArg some (by kernel_rfl))⟩
  f47 := Tryz.func104.trans (congrArg some (by kernel_rfl))
  f48 := Tryz.func105.trans (congrArg some (by kernel_rfl))
  f49 := ⟨Tryz.f106.name, by decide, Tryz.func106.trans (congrArg some (by kernel_rfl))⟩
  f50 := ⟨Tryz.f107.name, by decide, Tryz.func107.trans (congrArg some (by kernel_rfl))⟩
  f57 := ⟨Tryz.f108.name, by decide, Tryz.func108.trans (congrArg some (by kernel_rfl))⟩
  t0 := Tryz.underlying0
  a0 := Tryz.isAgg0
  z0 := Tryz.sizeOf0
  v0 := Tryz.zeroValue0
  t3 := Tryz.underlying3
  a3 := Tryz.isAgg3
  z3 := Tryz.sizeOf3
  v3 := Tryz.zeroValue3
  t4 := Tryz.underlying4
  a4 := Tryz.isAgg4
  z4 := Tryz.sizeOf4
  v4 := Tryz.zeroValue4
  t5 := Tryz.underlying5
  a5 := Tryz.isAgg5
  z5 := Tryz.sizeOf5
  v5 := Tryz.zeroValue5
  t9 := Tryz.underlying9
  a9 := Tryz.isAgg9
  z9 := Tryz.sizeOf9
  v9 := Tryz.zeroValue9
  t22 := Tryz.underlying136
  a22 := Tryz.isAgg136
  z22 := Tryz.sizeOf136
  v22 := Tryz.zeroValue136
  t25 := Tryz.underlying141
  a25 := Tryz.isAgg141
  z25 := Tryz.sizeOf141
  v25 := Tryz.zeroValue141
  t39 := Tryz.underlying104
  a39 := Tryz.isAgg104
  z39 := Tryz.sizeOf104
  v39 := Tryz.zeroValue104
  t45 := Tryz.underlying148
  a45 := Tryz.isAgg148
  z45 := Tryz.sizeOf148
  v45 := Tryz.zeroValue148
  t46 := Tryz.underlying149
  a46 := Tryz.isAgg149
  z46 := Tryz.sizeOf149
  v46 := Tryz.zeroValue149
  t50 := Tryz.underlying124
  a50 := Tryz.isAgg124
  z50 := Tryz.sizeOf124
  v50 := Tryz.zeroValue124
  t53 := Tryz.underlying80
  a53 := Tryz.isAgg80
  z53 := Tryz.sizeOf80
  v53 := Tryz.zeroValue80
  t55 := Tryz.underlying156
  a55 := Tryz.isAgg156
  z55 := Tryz.sizeOf156
  v55 := Tryz.zeroValue156
  t66 := Tryz.underlying157
  a66 := Tryz.isAgg157
  z66 := Tryz.sizeOf157
  v66 := Tryz.zeroValue157
  t70 := Tryz.underlying161
  a70 := Tryz.isAgg161
  z70 := Tryz.sizeOf161
  v70 := Tryz.zeroValue161
  t76 := Tryz.underlying163
  a76 := Tryz.isAgg163
  z76 := Tryz.sizeOf163
  v76 := Tryz.zeroValue163
  t77 := Tryz.underlying164
  a77 := Tryz.isAgg164
  z77 := Tryz.sizeOf164
  v77 := Tryz.zeroValue164 }
end Go.Proofs.YtngbakjalmgciaaGreat
