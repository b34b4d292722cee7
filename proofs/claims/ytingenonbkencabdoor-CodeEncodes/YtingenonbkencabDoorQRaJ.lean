import Derived.Test.YtingenonbkencabDoorQE6J
import Derived.Test.YtingenonbkencabDoorQW4
import Derived.Test.YtingenonbkencabDoorQN3J
import Derived.Test.YtingenonbkencabDoorQN6J
import Derived.Test.YtingenonbkencabDoorQW3J
set_option linter.unusedVariables false
set_option linter.unusedSimpArgs false
namespace Go.Proofs.YtingenonbkencabDoor
open Go.RowKit (wrap32 wrap64)
set_option maxRecDepth 100000
set_option maxHeartbeats 2000000
def NextKeep {b : Nat} (M : Mode b) (rm : M.σ → Nat) : Prop := ∀ (pb po : Nat), ¬ M.SB pb → ∀ (x : WS × M.σ) (v : Int) (size : Nat) (w : World), 1 ≤ rm x.2 → On M w x → 1 ≤ size → size ≤ 8 → w.cell? ⟨pb, po, none⟩ = some (vI v) →
 Calls Tryd.prog 64 #[.pointer (some ⟨b, 0, none⟩), .pointer (some ⟨pb, po, none⟩), .int .i64 size] w fun e w' => Fr M.SB w w' ∧ e = .returned (vI x.1.at') ∧
  ∃ st, M.eff x.2 x.1.at' size v = .ok (v, st) ∧ On M w' ({ x.1 with at' := adv x.1.at' size }, st)
structure KM {b : Nat} (M : Mode b) (rm : M.σ → Nat) : Prop where
 next : NextAt M rm
 other : NextKeep M rm
 goes : RoomGoes M rm
 keeps : Keeps M rm
theorem eff_goes {b : Nat} {M : Mode b} {rm : M.σ → Nat} (hR : RoomGoes M rm) (s : WS) {st st' : M.σ} {p v v' : Int} {size : Nat} (h : M.eff st p size v = .ok (v', st')) : rm st ≤ rm st' + 1 := by
 have e : nextX M 161 size ({ s with at' := p, count := v }, st) = .ok ({ ({ s with at' := p, count := v } : WS).set 161 v' with at' := adv p size }, st') := by
  have g : ({ s with at' := p, count := v } : WS).get 161 = v := rfl
  unfold nextX
  simp only [g, h]
 exact hR _ _ _ _ e
theorem K_next {b : Nat} {M : Mode b} {rm : M.σ → Nat} (hM : KM M rm) (o size : Nat) (s : WS) (st : M.σ) (h : 1 ≤ rm st) :
 ∃ st', nextX M o size (s, st) = .ok ({ s with at' := adv s.at' size }, st') ∧ rm st ≤ rm st' + 1 := by
 obtain ⟨st', e1, e2, -⟩ := next_keep hM.keeps hM.goes o size 0 s st h
 exact ⟨st', e2, hM.goes _ _ _ _ e2⟩
def oneK {b : Nat} (M : Mode b) (v : Int) (x : WS × M.σ) : X (WS × M.σ) :=
 match M.eff x.2 x.1.at' 1 v with
 | .ok (_, st) => if varOk x.1.fV v then .ok ({ x.1 with at' := adv x.1.at' 1 }, st) else .error (13, x.1.at')
 | .error z => .error z
def varsK {b : Nat} (M : Mode b) : List Int → WS × M.σ → X (WS × M.σ)
 | [], x => .ok x
 | v :: r, x => thenX (oneK M v x) (varsK M r)
def listK {b : Nat} (M : Mode b) (n : Nat) (l : List Int) (x : WS × M.σ) : X (WS × M.σ) :=
 thenX (nextX M 161 1 ({ x.1 with count := l.length }, x.2)) fun y => if l.length = n then varsK M l y else .error (15, x.1.at')
theorem oneK_goes {b : Nat} {M : Mode b} {rm : M.σ → Nat} (hR : RoomGoes M rm) {v : Int} {x y : WS × M.σ} (h : oneK M v x = .ok y) : rm x.2 ≤ rm y.2 + 1 := by
 unfold oneK at h
 split at h
 ·rename_i v' st hv
  split at h
  ·cases h; exact eff_goes hR x.1 hv
  ·cases h
 ·cases h
theorem varsK_goes {b : Nat} {M : Mode b} {rm : M.σ → Nat} (hR : RoomGoes M rm) : ∀ {l : List Int} {x y : WS × M.σ}, varsK M l x = .ok y → rm x.2 ≤ rm y.2 + l.length
 | [], _, _, h => by cases h; simp
 | v :: r, x, y, h => by
   unfold varsK at h
   cases h1 : oneK M v x with
   | error z => rw [h1] at h; cases h
   | ok x1 =>
     rw [h1] at h
     have h2 := varsK_goes hR (l := r) (x := x1) (y := y) h
     have h3 := oneK_goes hR h1
     simp only [List.length_cons]
     omega
theorem listK_goes {b : Nat} {M : Mode b} {rm : M.σ → Nat} (hR : RoomGoes M rm) {n : Nat} {l : List Int} {x y : WS × M.σ} (h : listK M n l x = .ok y) : rm x.2 ≤ rm y.2 + (n + 1) := by
 unfold listK at h
 cases h1 : nextX M 161 1 ({ x.1 with count := l.length }, x.2) with
 | error z => rw [h1] at h; cases h
 | ok x1 =>
   rw [h1] at h
   have h3 := hR _ _ _ _ h1
   have h3 : rm x.2 ≤ rm x1.2 + 1 := h3
   simp only [thenX] at h
   split at h
   ·have h2 := varsK_goes hR h
    omega
   ·cases h
theorem variable_K {b : Nat} {M : Mode b} {rm : M.σ → Nat} (hM : KM M rm) (pb po : Nat) (x : WS × M.σ) (v : Int) (w : World) (h : On M w x) (hp : 1 ≤ rm x.2) (hpb : ¬ M.SB pb) (hu : w.cell? ⟨pb, po, none⟩ = some (vI v)) :
 Calls Tryd.prog 54 #[.pointer (some ⟨b, 0, none⟩), .pointer (some ⟨pb, po, none⟩)] w (Ends M w (oneK M v x)) := by
 have hlt : pb < w.heap.size := cell_lt hu
 go_enter Tryd.func54, Tryd.ntmps54
 go_wp2_with fail
 refine (hM.other pb po hpb x v 1 w hp h (by omega) (by omega) hu).mono ?_
 rintro e w1 ⟨hf, rfl, st, hst, hon⟩
 have hc : w1.cell? ⟨pb, po, none⟩ = some (vI v) := (hf.cell hlt hpb).trans hu
 have hcV : w1.cell? ⟨b, 151, none⟩ = some (vI x.1.fV) := hon.1.facts.2.2.2.2.2.2.2.1
 have HX : Hd (oneK M v x = if varOk x.1.fV v then .ok ({ x.1 with at' := adv x.1.at' 1 }, st) else .error (13, x.1.at')) := by
  unfold Hd; simp only [oneK, hst]
 clear hst hu hp h
 by_cases hm : varOk x.1.fV v = true
 ·have hm' : decide (0 ≤ v ∧ v ≤ IntKind.i64.wrap (x.1.fV - 1)) = true := by exact hm
  have HM : Hd (varOk x.1.fV v = true) := hm'
  clear hm
  go_wp2_with fail
  refine wp_region_still_tail 11 mixed (by kernel_rfl) ?_
  simp only [List.take_succ_cons, List.take_zero, List.drop_succ_cons, List.drop_zero]
  repeat still_step
  still_call (within_any _ _ _ _)
  repeat still_step
  refine wpStill_nil ?_
  go_wp2_with fail
  refine (must_true 13 x.1.at' _).mono ?_
  rintro e w' ⟨rfl, rfl⟩
  go_wp2_with fail
  go_end0
  refine ⟨hf.drew, ?_⟩
  rw [HX.out, if_pos HM.out]
  exact ⟨rfl, hon.drew⟩
 ·have hm' : decide (0 ≤ v ∧ v ≤ IntKind.i64.wrap (x.1.fV - 1)) = false := by simpa [varOk] using hm
  have HM : Hd (varOk x.1.fV v = false) := hm'
  clear hm
  go_wp2_with fail
  refine wp_region_still_tail 11 mixed (by kernel_rfl) ?_
  simp only [List.take_succ_cons, List.take_zero, List.drop_succ_cons, List.drop_zero]
  repeat still_step
  still_call (within_any _ _ _ _)
  repeat still_step
  refine wpStill_nil ?_
  go_wp2_with fail
  refine (must_false 13 x.1.at' _).mono ?_
  rintro e w' ⟨rfl, rfl⟩
  go_wp2_with fail
  refine ⟨rfl, hf.drew, ?_⟩
  rw [HX.out, if_neg (by rw [HM.out]; simp)]
def IS (S : Nat → Prop) (w : World) (v : Value) (l : List Int) : Prop :=
 ∃ a c, v = .slice a l.length c ∧ (l ≠ [] → ∃ k o, a = some ⟨k, o, none⟩ ∧ k < w.heap.size ∧ ¬ S k ∧ ∀ j (h : j < l.length), w.cell? ⟨k, o + j, none⟩ = some (vI l[j]))
theorem IS.fr {S : Nat → Prop} {w w' : World} {v : Value} {l : List Int} (h : IS S w v l) (f : Fr S w w') : IS S w' v l := by
 obtain ⟨a, c, e, h⟩ := h
 refine ⟨a, c, e, fun hne => ?_⟩
 obtain ⟨k, o, e, hk, hb, hc⟩ := h hne
 exact ⟨k, o, e, Nat.lt_of_lt_of_le hk f.size, hb, fun j hj => (f.cell hk hb).trans (hc j hj)⟩
theorem oneK_getL {b : Nat} {M : Mode b} {o : Nat} {v : Int} {x y : WS × M.σ} (h : oneK M v x = .ok y) : y.1.getL o = x.1.getL o := by
 unfold oneK at h
 split at h
 ·split at h
  ·cases h; rfl
  ·cases h
 ·cases h
theorem list_K {b : Nat} {M : Mode b} {rm : M.σ → Nat} (hM : KM M rm) (o n : Nat) (ho : o = 159 ∨ o = 160) (x : WS × M.σ) (w : World) (h : On M w x) (hp : n + 1 ≤ rm x.2) (l : List Int) (hl : IS M.SB w (x.1.getL o) l) (hll : l.length ≤ 1000000000000000) (hn : n ≤ 255) :
 Calls Tryd.prog 75 #[.pointer (some ⟨b, 0, none⟩), .pointer (some ⟨b, o, none⟩), .int .i64 n] w (Ends M w (listK M n l x)) := by
 obtain ⟨a, c, hsl, hin⟩ := hl
 have HIN : Hd _ := hin
 clear hin
 have hcl : w.cell? ⟨b, o, none⟩ = some (.slice a l.length c) := by rw [h.1.cell, cells_getL _ _ ho, hsl]
 have hc161 : w.cell? ⟨b, 161, none⟩ = some (vI x.1.count) := h.1.facts.2.2.2.2.2.2.2.2.2.2.2.2.2.2.2.2.2
 have hz161 := h.1.frozen 161
 have hf0 : Fr (· = b) w (w.setCell ⟨b, 161, none⟩ (vI l.length)) := Fr.setCell (Fr.refl (fun k => k = b) w) _ _ (Or.inl rfl)
 have hl0 : Lies (w.setCell ⟨b, 161, none⟩ (vI l.length)) b { x.1 with count := l.length } := h.1.setCell 161 _ (cells_set _ 161 _ (by simp [places]))
 have hon0 : On M (w.setCell ⟨b, 161, none⟩ (vI l.length)) ({ x.1 with count := l.length }, x.2) := h.fr hf0 hl0 rfl rfl
 have hb := h.1.lt
 obtain ⟨st1, hnx, hrm1⟩ := K_next hM 161 1 { x.1 with count := l.length } x.2 (by omega)
 have hrm : Hd (n ≤ rm st1) := by unfold Hd; omega
 have hN := hM.next 161 (by simp [places]) ({ x.1 with count := l.length }, x.2) 1 _ (by show 1 ≤ rm x.2; omega) hon0 (by omega) (by omega)
 rw [hnx] at hN
 have HL0 : Hd (listK M n l x = if l.length = n then varsK M l ({ x.1 with count := l.length, at' := adv x.1.at' 1 }, st1) else .error (15, x.1.at')) := by
  unfold Hd listK; rw [hnx]; rfl
 clear hnx hrm1 hp
 go_enter Tryd.func75, Tryd.ntmps75
 go_wp2_with fail
 refine hN.mono ?_
 rintro e w1 ⟨hf1, rfl, hon1⟩
 have hfa : Fr M.SB w w1 := (hf0.mono (fun k _ hk => Or.inl hk)).trans hf1
 obtain ⟨y, hy⟩ : ∃ y : WS × M.σ, y = ({ x.1 with count := l.length, at' := adv x.1.at' 1 }, st1) := ⟨_, rfl⟩
 have hon1 : On M w1 y := by rw [hy]; exact hon1
 have hcc : w1.cell? ⟨b, 161, none⟩ = some (vI l.length) := by rw [hon1.1.facts.2.2.2.2.2.2.2.2.2.2.2.2.2.2.2.2.2, hy]
 have hyL : y.1.getL o = .slice a l.length c := by
  rw [hy]
  rcases ho with rfl | rfl <;> exact hsl
 have hry : Hd (n ≤ rm y.2) := by unfold Hd; rw [hy]; exact hrm.out
 have hcl1 : w1.cell? ⟨b, o, none⟩ = some (.slice a l.length c) := by rw [hon1.1.cell, cells_getL _ _ ho, hyL]
 have HL : Hd (listK M n l x = if l.length = n then varsK M l y else .error (15, x.1.at')) := by unfold Hd; rw [HL0.out, hy]
 clear hy hf1 hf0 hl0 hon0 hc161 hz161 HL0 hrm hN
 by_cases hm : l.length = n
 rotate_left
 ·have hm' : (((l.length : Nat) : Int) == (n : Int)) = false := by simp; omega
  have HM : Hd (¬ l.length = n) := hm
  clear hm
  go_wp2_with fail
  refine (must_false 15 x.1.at' _).mono ?_
  rintro e w' ⟨rfl, rfl⟩
  go_wp2_with fail
  refine ⟨rfl, hfa, ?_⟩
  rw [HL.out, if_neg HM.out]
 subst hm
 have HLV : Hd (listK M l.length l x = varsK M l y) := by unfold Hd; rw [HL.out, if_pos rfl]
 clear HL
 go_wp2_with fail
 refine (must_true 15 x.1.at' _).mono ?_
 rintro e w' ⟨rfl, rfl⟩
 go_wp2_with fail
 go_loopw [42] (fun i wr => ∃ (k : Nat) (z : WS × M.σ), k ≤ l.length ∧ i = .int .i64 k ∧ On M wr z ∧ Hd (z.1.getL o = .slice a l.length c) ∧ Fr M.SB w wr ∧ Hd (l.length ≤ rm z.2 + k) ∧ Hd (varsK M l y = varsK M (l.drop k) z)) (fun i _ => match i with | .int _ q => l.length - q.toNat | _ => 0)
 case atStart => exact ⟨0, y, Nat.zero_le _, rfl, hon1, hyL, hfa, hry, rfl⟩
 case round =>
  obtain ⟨k, z, hk, rfl, honz, hzL, hfz, hrz, hvx⟩ := hrel
  have hclz : wr.cell? ⟨b, o, none⟩ = some (.slice a l.length c) := by rw [honz.1.cell, cells_getL _ _ ho, hzL.out]
  by_cases hlt : k < l.length
  ·obtain ⟨pk, po, rfl, hpk, hpb, hcs⟩ := HIN.out (by intro e; simp [e] at hlt)
   have hce : wr.cell? ⟨pk, po + k, none⟩ = some (vI l[k]) := (hfz.cell hpk hpb).trans (hcs k hlt)
   have hdrop : Hd (l.drop k = l[k] :: l.drop (k + 1)) := List.drop_eq_getElem_cons hlt
   generalize l[k] = lk at hce hdrop
   have hcdz := variable_K hM pk (po + k) z lk wr honz (by have := hrz.out; omega) hpb hce
   clear hcs
   go_wp2_with fail
   refine hcdz.mono ?_
   rintro e w2 ⟨hf2, hres⟩
   cases hox : oneK M lk z with
   | error er =>
     rw [hox] at hres
     have hres : e = .panicked (viol er.1 er.2) := hres
     subst hres
     go_wp2_with fail
     refine ⟨rfl, hfz.trans hf2, ?_⟩
     rw [HLV.out, hvx.out, hdrop.out]
     simp only [varsK, hox, thenX]
   | ok z2 =>
     rw [hox] at hres
     obtain ⟨rfl, hon2⟩ := hres
     have hz2 : Hd (z2.1.getL o = .slice (some ⟨pk, po, none⟩) l.length c) := (oneK_getL hox).trans hzL.out
     have hrz2 : Hd (l.length ≤ rm z2.2 + (k + 1)) := by have h1 := oneK_goes hM.goes hox; have h2 := hrz.out; unfold Hd; omega
     have hvx2 : Hd (varsK M l y = varsK M (l.drop (k + 1)) z2) := by
      unfold Hd; rw [hvx.out, hdrop.out]; simp only [varsK, hox, thenX]
     clear hcdz hce hox hvx hzL hclz hrz
     go_wp2_with fail
     exact ⟨⟨k + 1, z2, by omega, by simp, hon2, hz2, hfz.trans hf2, hrz2, hvx2⟩, by simp; omega⟩
  ·have hkl : k = l.length := by omega
   subst hkl
   have hvl : Hd (varsK M l y = .ok z) := by unfold Hd; rw [hvx.out, List.drop_length]; rfl
   clear hvx
   go_wp2_with fail
   go_end0
   refine ⟨hfz, ?_⟩
   rw [HLV.out, hvl.out]
   exact ⟨rfl, honz⟩
set_option maxHeartbeats 4000000
theorem oneK_kept {b : Nat} {M : Mode b} {v : Int} {x y : WS × M.σ} (h : oneK M v x = .ok y) : Kept x.1 y.1 ∧ y.1.n = x.1.n := by
 unfold oneK at h
 split at h
 ·split at h
  ·cases h; exact ⟨⟨rfl, rfl, rfl, rfl, rfl, rfl, rfl, rfl, rfl, rfl, rfl⟩, rfl⟩
  ·cases h
 ·cases h
theorem varsK_kept {b : Nat} {M : Mode b} : ∀ {l : List Int} {x y : WS × M.σ}, varsK M l x = .ok y → Kept x.1 y.1 ∧ y.1.n = x.1.n
 | [], _, _, h => by cases h; exact ⟨Kept.refl _, rfl⟩
 | v :: r, x, y, h => by
   unfold varsK at h
   cases h1 : oneK M v x with
   | error z => rw [h1] at h; cases h
   | ok x1 =>
     rw [h1] at h
     obtain ⟨a1, a2⟩ := oneK_kept h1
     obtain ⟨b1, b2⟩ := varsK_kept (l := r) (x := x1) (y := y) h
     exact ⟨a1.trans b1, b2.trans a2⟩
theorem listK_kept {b : Nat} {M : Mode b} {n : Nat} {l : List Int} {x y : WS × M.σ} (h : listK M n l x = .ok y) : Kept x.1 y.1 ∧ y.1.n = x.1.n := by
 unfold listK at h
 cases h1 : nextX M 161 1 ({ x.1 with count := l.length }, x.2) with
 | error z => rw [h1] at h; cases h
 | ok x1 =>
   rw [h1] at h
   simp only [thenX] at h
   split at h
   ·obtain ⟨b1, b2⟩ := varsK_kept h
    have k1 : Kept x.1 x1.1 := by
     have := nextX_kept (by simp) h1
     exact ⟨this.num, this.globals, this.funcs, this.fP, this.fR, this.fV, this.fC, this.len, this.op, this.args, this.rets⟩
    have n1 : x1.1.n = x.1.n := by
     obtain ⟨v, st, rfl⟩ := nextX_num h1
     rfl
    exact ⟨k1.trans b1, b2.trans n1⟩
   ·cases h
def retK {b : Nat} (M : Mode b) (n : Nat) (la : List Int) (c : X (WS × M.σ)) : X (WS × M.σ) := thenX c (listK M n la)
theorem instr_15K {b : Nat} {M : Mode b} {rm : M.σ → Nat} (hM : KM M rm) (x y : WS × M.σ) (w : World) (h : On M w x) (hp : 20 ≤ rm x.2) (i : Nat) (hi : i ≤ 4096) (hx : nextX M 154 1 x = .ok y) (hk : y.1.op = 15) (hl0 : 0 ≤ y.1.len) (hl1 : y.1.len ≤ 4096) (nb : Bool)
 (hnames : ∀ w1, Lies w1 b y.1 → Calls Tryd.prog 67 #[.pointer (some ⟨b, 122, none⟩), .pointer (some ⟨b, 154, none⟩)] w1 fun e w' => e = .returned (.bool nb) ∧ w' = w1)
 (la : List Int) (ha : IS M.SB w y.1.args la) (hll : la.length ≤ 1000000000000000) (n : Nat) (hR : y.1.fR = n) (hn : n ≤ 4) :
 Calls Tryd.prog 41 #[.pointer (some ⟨b, 0, none⟩), .int .i64 i] w (Ends M w (retK M n la (frontOk M true false nb i x.1.at' y))) := by
 have G0 := front_goes hM.goes hx true false nb i x.1.at'
 refine askInstr_15at M rm hM.next x y w h (by omega) i hi hx hk hl0 hl1 nb hnames _ (fun j w1 => match j with | 0 => Stage M w y.1 (frontOk M true false nb i x.1.at' y) w1 | 1 => Stage M w y.1 (retK M n la (frontOk M true false nb i x.1.at' y)) w1 | _ => False)
  (fun z w1 hz hf => ends_error (by simp only [retK, hz, thenX]) hf) ?_ ?_ ?_ ?_ ?_
 ·exact fun y' w1 hy hf hon => ⟨y', hy, hf, hon, frontOk_kept hy⟩
 ·intro j w1 hj
  match j, hj with
  | 0, hj => exact Stage.lies hj
  | 1, hj => exact Stage.lies hj
 ·intro j w1 hj
  match j, hj with
  | 0, hj => exact Stage.drew hj
  | 1, hj => exact Stage.drew hj
 ·intro w1 hw1
  have hfw : Fr M.SB w w1 := hw1.choose_spec.2.1
  refine stage_stepR (M := M) (p := listK M n la) (fun a a' ha => (listK_kept ha).1) (fun z w' hz hf => ends_error hz hf) (fun yy hyc hon hkp => ?_) hw1
  refine ownResults_any 159 n yy.1 w1 hon.1 (by rw [hkp.fR, hR]) _ ?_
  exact (list_K hM 159 n (Or.inl rfl) yy w1 hon (by have := G0 yy hyc; omega) la (by
   have e : yy.1.getL 159 = y.1.args := by unfold WS.getL; rw [if_pos rfl]; exact hkp.args
   rw [e]; exact ha.fr hfw) hll (by omega)).mono (fun e w' he => ends_plain he)
 ·exact fun w1 hw1 => stage_end hw1
def callK {b : Nat} (M : Mode b) (heads : List (Nat × Nat)) (la lr : List Int) (c : X (WS × M.σ)) : X (WS × M.σ) :=
 thenX (thenX c (calleePart M heads.length)) fun y =>
  thenX (listK M ((heads.getD y.1.n.toNat (0, 0)).1) la y) fun y2 => listK M ((heads.getD y.1.n.toNat (0, 0)).2) lr y2
def MidK {b : Nat} (M : Mode b) (w : World) (heads : List (Nat × Nat)) (la : List Int) (s0 : WS) (c : X (WS × M.σ)) (w1 : World) : Prop :=
 ∃ y y2, thenX c (calleePart M heads.length) = .ok y ∧ listK M ((heads.getD y.1.n.toNat (0, 0)).1) la y = .ok y2 ∧ Fr M.SB w w1 ∧ On M w1 y2 ∧ Kept s0 y2.1 ∧ y2.1.n = y.1.n ∧ 0 ≤ y.1.n ∧ y.1.n < heads.length
theorem instr_11K {b : Nat} {M : Mode b} {rm : M.σ → Nat} (hM : KM M rm) (x y : WS × M.σ) (w : World) (h : On M w x) (hp : 20 ≤ rm x.2) (i : Nat) (hi : i ≤ 4096) (hx : nextX M 154 1 x = .ok y) (hk : y.1.op = 11) (hl0 : 0 ≤ y.1.len) (hl1 : y.1.len ≤ 4096) (nb : Bool)
 (hnames : ∀ w1, Lies w1 b y.1 → Calls Tryd.prog 67 #[.pointer (some ⟨b, 90, none⟩), .pointer (some ⟨b, 154, none⟩)] w1 fun e w' => e = .returned (.bool nb) ∧ w' = w1)
 (la lr : List Int) (ha : IS M.SB w y.1.args la) (hr : IS M.SB w y.1.rets lr) (hal : la.length ≤ 1000000000000000) (hrl : lr.length ≤ 1000000000000000) (heads : List (Nat × Nat)) (fb fo fc : Nat) (hfu : y.1.funcs = .slice (some ⟨fb, fo, none⟩) heads.length fc) (hH : HeadsAt w fb fo heads) (hSB : ¬ M.SB fb) (hflt : fb < w.heap.size) (hnf : heads.length ≤ 65535) :
 Calls Tryd.prog 41 #[.pointer (some ⟨b, 0, none⟩), .int .i64 i] w (Ends M w (callK M heads la lr (frontOk M false false nb i x.1.at' y))) := by
 have hPR : ∀ j (h : j < heads.length), heads[j].1 ≤ 8 ∧ heads[j].2 ≤ 4 := fun j h => (hH j h).2.2
 have G0 := front_goes hM.goes hx false false nb i x.1.at'
 have G1 := G0.then (calleePart M heads.length) (fun a a' ha => ask_goes hM.goes ha)
 generalize hC : frontOk M false false nb i x.1.at' y = C at G0 G1
 refine askInstr_11at M rm hM.next x y w h (by omega) i hi hx hk hl0 hl1 nb hnames _ (fun j w1 => match j with | 0 => Stage M w y.1 C w1 | 1 => Stage M w y.1 (thenX C (calleePart M heads.length)) w1 | 2 => MidK M w heads la y.1 C w1 | 3 => Stage M w y.1 (callK M heads la lr C) w1 | _ => False)
  (fun z w1 hz hf => ends_error (by rw [← hC, hz]; rfl) hf) ?_ ?_ ?_ ?_ ?_ ?_ ?_
 ·exact fun y' w1 hy hf hon => ⟨y', hC ▸ hy, hf, hon, frontOk_kept hy⟩
 ·intro j w1 hj
  match j, hj with
  | 0, hj => exact Stage.lies hj
  | 1, hj => exact Stage.lies hj
  | 2, hj => obtain ⟨_, _, _, _, _, hon, _⟩ := hj; exact ⟨_, hon.1⟩
  | 3, hj => exact Stage.lies hj
 ·intro j w1 hj
  match j, hj with
  | 0, hj => exact Stage.drew hj
  | 1, hj => exact Stage.drew hj
  | 2, hj => obtain ⟨y1, y2, e1, e2, hf, hon, hkk⟩ := hj; exact ⟨y1, y2, e1, e2, hf.drew, hon.drew, hkk⟩
  | 3, hj => exact Stage.drew hj
 ·exact fun w1 hw1 => stage_stepR (p := calleePart M heads.length) (fun a a' ha => askX_kept (by simp) ha) (fun z w' hz hf => ends_error (by unfold callK; rw [hz]; rfl) hf)
   (fun yy hyc hon hkp => callee_at M rm hM.next yy w1 hon (by have := G0 yy hyc; omega) 11 2 (by rw [hkp.op, hk]; rfl) (by omega) rfl (by omega) (by omega) _ heads.length fc (by rw [hkp.funcs, hfu])) hw1
 ·rintro w1 ⟨y', hy', hf1, hon, hkp⟩
  have hN0 := callee_in hnf hy'
  obtain ⟨N, hNe⟩ := Int.eq_ofNat_of_zero_le hN0.1
  have hNlt : N < heads.length := by omega
  have hH1 := hH.fr hf1 hflt hSB N hNlt
  have hgd : heads.getD y'.1.n.toNat (0, 0) = heads[N] := by
   rw [hNe]; simp [List.getD, hNlt]
  refine calleeParams_any 159 (heads[N].1) N fb fo heads.length fc y'.1 w1 hon.1 hNe hNlt (by rw [hkp.funcs, hfu]) hH1.1 _ ?_
  refine (list_K hM 159 (heads[N].1) (Or.inl rfl) y' w1.drew hon.drew (by have := G1 y' hy'; have := hPR N hNlt; omega) la (by
   have e : y'.1.getL 159 = y.1.args := by unfold WS.getL; rw [if_pos rfl]; exact hkp.args
   rw [e]; exact ha.fr hf1.drew) hal (by have := hH1.2.2.1; omega)).mono ?_
  rintro e w2 ⟨hf2, hres⟩
  have hf12 : Fr M.SB w w2 := hf1.drew.trans hf2
  cases hl : listK M (heads[N].1) la y' with
  | error z =>
    rw [hl] at hres
    have hres : e = .panicked (viol z.1 z.2) := hres
    subst hres
    exact ⟨Or.inr ⟨_, rfl⟩, Or.inr ⟨_, rfl, ends_error (by unfold callK; rw [hy']; simp only [thenX, hgd, hl]) hf12⟩⟩
  | ok y2 =>
    rw [hl] at hres
    obtain ⟨rfl, hon2⟩ := hres
    have hk2 := listK_kept hl
    exact ⟨Or.inl rfl, Or.inl ⟨rfl, y', y2, hy', by rw [hgd]; exact hl, hf12, hon2, hkp.trans hk2.1, hk2.2, hN0⟩⟩
 ·rintro w1 ⟨y', y2, hy', hl, hf1, hon, hkp, hn2, hN0⟩
  obtain ⟨N, hNe⟩ := Int.eq_ofNat_of_zero_le hN0.1
  have hNlt : N < heads.length := by omega
  have hH1 := hH.fr hf1 hflt hSB N hNlt
  have hgd : heads.getD y'.1.n.toNat (0, 0) = heads[N] := by
   rw [hNe]; simp [List.getD, hNlt]
  refine calleeResults_any 160 (heads[N].2) N fb fo heads.length fc y2.1 w1 hon.1 (hn2.trans hNe) hNlt (hkp.funcs.trans hfu) hH1.2.1 _ ?_
  refine (list_K hM 160 (heads[N].2) (Or.inr rfl) y2 w1.drew hon.drew (by have h1 := G1 y' hy'; have h2 := hPR N hNlt; have h3 := listK_goes hM.goes hl; rw [hgd] at h3; omega) lr (by
   have e : y2.1.getL 160 = y.1.rets := by unfold WS.getL; rw [if_neg (by omega)]; exact hkp.rets
   rw [e]; exact hr.fr hf1.drew) hrl (by have := hH1.2.2.2; omega)).mono ?_
  rintro e w2 ⟨hf2, hres⟩
  have hf12 : Fr M.SB w w2 := hf1.drew.trans hf2
  cases hl2 : listK M (heads[N].2) lr y2 with
  | error z =>
    rw [hl2] at hres
    have hres : e = .panicked (viol z.1 z.2) := hres
    subst hres
    exact ⟨Or.inr ⟨_, rfl⟩, Or.inr ⟨_, rfl, ends_error (by unfold callK; rw [hy']; simp only [thenX, hl]; rw [hgd]; exact hl2) hf12⟩⟩
  | ok y3 =>
    rw [hl2] at hres
    obtain ⟨rfl, hon3⟩ := hres
    exact ⟨Or.inl rfl, Or.inl ⟨rfl, y3, by unfold callK; rw [hy']; simp only [thenX, hl]; rw [hgd]; exact hl2, hf12, hon3, hkp.trans (listK_kept hl2).1⟩⟩
 ·exact fun w1 hw1 => stage_end hw1
def instrK {b : Nat} (M : Mode b) (heads : List (Nat × Nat)) (fR i : Nat) (la lr : List Int) (x : WS × M.σ) : X (WS × M.σ) :=
 thenX (nextX M 154 1 x) fun y =>
  if 1 ≤ x.1.op ∧ x.1.op ≤ 17 then
   (if x.1.op = 15 then retK M fR la (frontOk M true false (nbK 15 x.1 la.length lr.length) i x.1.at' y)
    else if x.1.op = 11 then callK M heads la lr (frontOk M false false (nbK 11 x.1 la.length lr.length) i x.1.at' y)
    else partsX M x.1.op.toNat (frontOk M (x.1.op == 13) (x.1.op == 6) (nbK x.1.op.toNat x.1 la.length lr.length) i x.1.at' y))
  else .error (12, x.1.at')
theorem instr_K {b : Nat} {M : Mode b} {rm : M.σ → Nat} (hM : KM M rm) (s : WS) (st : M.σ) (w : World) (h : On M w (s, st)) (hp : 20 ≤ rm st) (i : Nat) (hi : i ≤ 4096) (hl0 : 0 ≤ s.len) (hl1 : s.len ≤ 4096)
 (fR : Nat) (hR : s.fR = fR) (hRn : fR ≤ 4) (la lr : List Int) (ha : IS M.SB w s.args la) (hr : IS M.SB w s.rets lr) (hal : la.length ≤ 1000000000000000) (hrl : lr.length ≤ 1000000000000000)
 (heads : List (Nat × Nat)) (fb fo fc : Nat) (hfu : s.funcs = .slice (some ⟨fb, fo, none⟩) heads.length fc) (hH : HeadsAt w fb fo heads) (hSB : ¬ M.SB fb) (hflt : fb < w.heap.size) (hnf : heads.length ≤ 65535) :
 Calls Tryd.prog 41 #[.pointer (some ⟨b, 0, none⟩), .int .i64 i] w (Ends M w (instrK M heads fR i la lr (s, st))) := by
 obtain ⟨st', hx, -⟩ := K_next hM 154 1 s st (by omega)
 have hX0 : instrK M heads fR i la lr (s, st) = if 1 ≤ s.op ∧ s.op ≤ 17 then
  (if s.op = 15 then retK M fR la (frontOk M true false (nbK 15 s la.length lr.length) i s.at' ({ s with at' := adv s.at' 1 }, st'))
   else if s.op = 11 then callK M heads la lr (frontOk M false false (nbK 11 s la.length lr.length) i s.at' ({ s with at' := adv s.at' 1 }, st'))
   else partsX M s.op.toNat (frontOk M (s.op == 13) (s.op == 6) (nbK s.op.toNat s la.length lr.length) i s.at' ({ s with at' := adv s.at' 1 }, st')))
  else .error (12, s.at') := by unfold instrK; rw [hx]; rfl
 by_cases hop : 1 ≤ s.op ∧ s.op ≤ 17
 rotate_left
 ·refine (askInstr_noOpAt M rm hM.next (s, st) _ w h (by show 1 ≤ rm st; omega) i hx hop).mono ?_
  rintro e w' ⟨rfl, hf⟩
  exact ends_error (z := (12, s.at')) (by rw [hX0, if_neg hop]) hf
 rw [hX0, if_pos hop]
 have ha2 := ha
 have hr2 := hr
 obtain ⟨aa, ca, ha0, -⟩ := ha2
 obtain ⟨ra, cr, hr0, -⟩ := hr2
 obtain ⟨k, hk⟩ := Int.eq_ofNat_of_zero_le (show 0 ≤ s.op by omega)
 have hk17 : k = 1 ∨ k = 2 ∨ k = 3 ∨ k = 4 ∨ k = 5 ∨ k = 6 ∨ k = 7 ∨ k = 8 ∨ k = 9 ∨ k = 10 ∨ k = 11 ∨ k = 12 ∨ k = 13 ∨ k = 14 ∨ k = 15 ∨ k = 16 ∨ k = 17 := by omega
 clear hX0 hop
 rcases hk17 with rfl | rfl | rfl | rfl | rfl | rfl | rfl | rfl | rfl | rfl | rfl | rfl | rfl | rfl | rfl | rfl | rfl
 ·have eK : ∀ (Y : WS × M.σ), partsX M s.op.toNat (frontOk M (s.op == 13) (s.op == 6) (nbK s.op.toNat s la.length lr.length) i s.at' Y) = partsX M 1 (frontOk M false false (nbK 1 s la.length lr.length) i s.at' Y) := fun Y => by rw [hk]; rfl
  rw [if_neg (by rw [hk]; decide), if_neg (by rw [hk]; decide), eK]
  exact instr_1at M rm hM.next hM.goes (s, st) ({ s with at' := adv s.at' 1 }, st') w h (by show 4 ≤ rm st; omega) i hi hx hk hl0 hl1 (nbK 1 s la.length lr.length) (fun w1 hl => namesAll_g1 { s with at' := adv s.at' 1 } w1 hl aa ra la.length ca lr.length cr ha0 hr0)
 ·have eK : ∀ (Y : WS × M.σ), partsX M s.op.toNat (frontOk M (s.op == 13) (s.op == 6) (nbK s.op.toNat s la.length lr.length) i s.at' Y) = partsX M 2 (frontOk M false false (nbK 2 s la.length lr.length) i s.at' Y) := fun Y => by rw [hk]; rfl
  rw [if_neg (by rw [hk]; decide), if_neg (by rw [hk]; decide), eK]
  exact instr_2at M rm hM.next hM.goes (s, st) ({ s with at' := adv s.at' 1 }, st') w h (by show 4 ≤ rm st; omega) i hi hx hk hl0 hl1 (nbK 2 s la.length lr.length) (fun w1 hl => namesAll_g2 { s with at' := adv s.at' 1 } w1 hl aa ra la.length ca lr.length cr ha0 hr0)
 ·have eK : ∀ (Y : WS × M.σ), partsX M s.op.toNat (frontOk M (s.op == 13) (s.op == 6) (nbK s.op.toNat s la.length lr.length) i s.at' Y) = partsX M 3 (frontOk M false false (nbK 3 s la.length lr.length) i s.at' Y) := fun Y => by rw [hk]; rfl
  rw [if_neg (by rw [hk]; decide), if_neg (by rw [hk]; decide), eK]
  exact instr_3at M rm hM.next hM.goes (s, st) ({ s with at' := adv s.at' 1 }, st') w h (by show 4 ≤ rm st; omega) i hi hx hk hl0 hl1 (nbK 3 s la.length lr.length) (fun w1 hl => namesAll_g3 { s with at' := adv s.at' 1 } w1 hl aa ra la.length ca lr.length cr ha0 hr0)
 ·have eK : ∀ (Y : WS × M.σ), partsX M s.op.toNat (frontOk M (s.op == 13) (s.op == 6) (nbK s.op.toNat s la.length lr.length) i s.at' Y) = partsX M 4 (frontOk M false false (nbK 4 s la.length lr.length) i s.at' Y) := fun Y => by rw [hk]; rfl
  rw [if_neg (by rw [hk]; decide), if_neg (by rw [hk]; decide), eK]
  exact instr_4at M rm hM.next hM.goes (s, st) ({ s with at' := adv s.at' 1 }, st') w h (by show 4 ≤ rm st; omega) i hi hx hk hl0 hl1 (nbK 4 s la.length lr.length) (fun w1 hl => namesAll_g4 { s with at' := adv s.at' 1 } w1 hl aa ra la.length ca lr.length cr ha0 hr0)
 ·have eK : ∀ (Y : WS × M.σ), partsX M s.op.toNat (frontOk M (s.op == 13) (s.op == 6) (nbK s.op.toNat s la.length lr.length) i s.at' Y) = partsX M 5 (frontOk M false false (nbK 5 s la.length lr.length) i s.at' Y) := fun Y => by rw [hk]; rfl
  rw [if_neg (by rw [hk]; decide), if_neg (by rw [hk]; decide), eK]
  exact instr_5at M rm hM.next hM.goes (s, st) ({ s with at' := adv s.at' 1 }, st') w h (by show 4 ≤ rm st; omega) i hi hx hk hl0 hl1 (nbK 5 s la.length lr.length) (fun w1 hl => namesAll_g5 { s with at' := adv s.at' 1 } w1 hl aa ra la.length ca lr.length cr ha0 hr0)
 ·have eK : ∀ (Y : WS × M.σ), partsX M s.op.toNat (frontOk M (s.op == 13) (s.op == 6) (nbK s.op.toNat s la.length lr.length) i s.at' Y) = partsX M 6 (frontOk M false true (nbK 6 s la.length lr.length) i s.at' Y) := fun Y => by rw [hk]; rfl
  rw [if_neg (by rw [hk]; decide), if_neg (by rw [hk]; decide), eK]
  exact instr_6at M rm hM.next hM.goes (s, st) ({ s with at' := adv s.at' 1 }, st') w h (by show 4 ≤ rm st; omega) i hi hx hk hl0 hl1 (nbK 6 s la.length lr.length) (fun w1 hl => namesAll_g6 { s with at' := adv s.at' 1 } w1 hl aa ra la.length ca lr.length cr ha0 hr0)
 ·have eK : ∀ (Y : WS × M.σ), partsX M s.op.toNat (frontOk M (s.op == 13) (s.op == 6) (nbK s.op.toNat s la.length lr.length) i s.at' Y) = partsX M 7 (frontOk M false false (nbK 7 s la.length lr.length) i s.at' Y) := fun Y => by rw [hk]; rfl
  rw [if_neg (by rw [hk]; decide), if_neg (by rw [hk]; decide), eK]
  exact instr_7at M rm hM.next hM.goes (s, st) ({ s with at' := adv s.at' 1 }, st') w h (by show 4 ≤ rm st; omega) i hi hx hk hl0 hl1 (nbK 7 s la.length lr.length) (fun w1 hl => namesAll_g7 { s with at' := adv s.at' 1 } w1 hl aa ra la.length ca lr.length cr ha0 hr0)
 ·have eK : ∀ (Y : WS × M.σ), partsX M s.op.toNat (frontOk M (s.op == 13) (s.op == 6) (nbK s.op.toNat s la.length lr.length) i s.at' Y) = partsX M 8 (frontOk M false false (nbK 8 s la.length lr.length) i s.at' Y) := fun Y => by rw [hk]; rfl
  rw [if_neg (by rw [hk]; decide), if_neg (by rw [hk]; decide), eK]
  exact instr_8at M rm hM.next hM.goes (s, st) ({ s with at' := adv s.at' 1 }, st') w h (by show 4 ≤ rm st; omega) i hi hx hk hl0 hl1 (nbK 8 s la.length lr.length) (fun w1 hl => namesAll_g8 { s with at' := adv s.at' 1 } w1 hl aa ra la.length ca lr.length cr ha0 hr0)
 ·have eK : ∀ (Y : WS × M.σ), partsX M s.op.toNat (frontOk M (s.op == 13) (s.op == 6) (nbK s.op.toNat s la.length lr.length) i s.at' Y) = partsX M 9 (frontOk M false false (nbK 9 s la.length lr.length) i s.at' Y) := fun Y => by rw [hk]; rfl
  rw [if_neg (by rw [hk]; decide), if_neg (by rw [hk]; decide), eK]
  exact instr_9at M rm hM.next hM.goes (s, st) ({ s with at' := adv s.at' 1 }, st') w h (by show 4 ≤ rm st; omega) i hi hx hk hl0 hl1 (nbK 9 s la.length lr.length) (fun w1 hl => namesAll_g9 { s with at' := adv s.at' 1 } w1 hl aa ra la.length ca lr.length cr ha0 hr0)
 ·have eK : ∀ (Y : WS × M.σ), partsX M s.op.toNat (frontOk M (s.op == 13) (s.op == 6) (nbK s.op.toNat s la.length lr.length) i s.at' Y) = partsX M 10 (frontOk M false false (nbK 10 s la.length lr.length) i s.at' Y) := fun Y => by rw [hk]; rfl
  rw [if_neg (by rw [hk]; decide), if_neg (by rw [hk]; decide), eK]
  exact instr_10at M rm hM.next hM.goes (s, st) ({ s with at' := adv s.at' 1 }, st') w h (by show 4 ≤ rm st; omega) i hi hx hk hl0 hl1 (nbK 10 s la.length lr.length) (fun w1 hl => namesAll_g10 { s with at' := adv s.at' 1 } w1 hl aa ra la.length ca lr.length cr ha0 hr0)
 ·rw [if_neg (by rw [hk]; decide), if_pos (by rw [hk]; rfl)]
  exact instr_11K hM (s, st) ({ s with at' := adv s.at' 1 }, st') w h hp i hi hx hk hl0 hl1 (nbK 11 s la.length lr.length) (fun w1 hl => namesAll_g11 { s with at' := adv s.at' 1 } w1 hl aa ra la.length ca lr.length cr ha0 hr0) la lr ha hr hal hrl heads fb fo fc hfu hH hSB hflt hnf
 ·have eK : ∀ (Y : WS × M.σ), partsX M s.op.toNat (frontOk M (s.op == 13) (s.op == 6) (nbK s.op.toNat s la.length lr.length) i s.at' Y) = partsX M 12 (frontOk M false false (nbK 12 s la.length lr.length) i s.at' Y) := fun Y => by rw [hk]; rfl
  rw [if_neg (by rw [hk]; decide), if_neg (by rw [hk]; decide), eK]
  exact instr_12at M rm hM.next hM.goes (s, st) ({ s with at' := adv s.at' 1 }, st') w h (by show 4 ≤ rm st; omega) i hi hx hk hl0 hl1 (nbK 12 s la.length lr.length) (fun w1 hl => namesAll_g12 { s with at' := adv s.at' 1 } w1 hl aa ra la.length ca lr.length cr ha0 hr0)
 ·have eK : ∀ (Y : WS × M.σ), partsX M s.op.toNat (frontOk M (s.op == 13) (s.op == 6) (nbK s.op.toNat s la.length lr.length) i s.at' Y) = partsX M 13 (frontOk M true false (nbK 13 s la.length lr.length) i s.at' Y) := fun Y => by rw [hk]; rfl
  rw [if_neg (by rw [hk]; decide), if_neg (by rw [hk]; decide), eK]
  exact instr_13at M rm hM.next hM.goes (s, st) ({ s with at' := adv s.at' 1 }, st') w h (by show 4 ≤ rm st; omega) i hi hx hk hl0 hl1 (nbK 13 s la.length lr.length) (fun w1 hl => namesAll_g13 { s with at' := adv s.at' 1 } w1 hl aa ra la.length ca lr.length cr ha0 hr0)
 ·have eK : ∀ (Y : WS × M.σ), partsX M s.op.toNat (frontOk M (s.op == 13) (s.op == 6) (nbK s.op.toNat s la.length lr.length) i s.at' Y) = partsX M 14 (frontOk M false false (nbK 14 s la.length lr.length) i s.at' Y) := fun Y => by rw [hk]; rfl
  rw [if_neg (by rw [hk]; decide), if_neg (by rw [hk]; decide), eK]
  exact instr_14at M rm hM.next hM.goes (s, st) ({ s with at' := adv s.at' 1 }, st') w h (by show 4 ≤ rm st; omega) i hi hx hk hl0 hl1 (nbK 14 s la.length lr.length) (fun w1 hl => namesAll_g14 { s with at' := adv s.at' 1 } w1 hl aa ra la.length ca lr.length cr ha0 hr0)
 ·rw [if_pos (by rw [hk]; rfl)]
  exact instr_15K hM (s, st) ({ s with at' := adv s.at' 1 }, st') w h hp i hi hx hk hl0 hl1 (nbK 15 s la.length lr.length) (fun w1 hl => namesAll_g15 { s with at' := adv s.at' 1 } w1 hl aa ra la.length ca lr.length cr ha0 hr0) la ha hal fR hR hRn
 ·have eK : ∀ (Y : WS × M.σ), partsX M s.op.toNat (frontOk M (s.op == 13) (s.op == 6) (nbK s.op.toNat s la.length lr.length) i s.at' Y) = partsX M 16 (frontOk M false false (nbK 16 s la.length lr.length) i s.at' Y) := fun Y => by rw [hk]; rfl
  rw [if_neg (by rw [hk]; decide), if_neg (by rw [hk]; decide), eK]
  exact instr_16at M rm hM.next hM.goes (s, st) ({ s with at' := adv s.at' 1 }, st') w h (by show 4 ≤ rm st; omega) i hi hx hk hl0 hl1 (nbK 16 s la.length lr.length) (fun w1 hl => namesAll_g16 { s with at' := adv s.at' 1 } w1 hl aa ra la.length ca lr.length cr ha0 hr0)
 ·have eK : ∀ (Y : WS × M.σ), partsX M s.op.toNat (frontOk M (s.op == 13) (s.op == 6) (nbK s.op.toNat s la.length lr.length) i s.at' Y) = partsX M 17 (frontOk M false false (nbK 17 s la.length lr.length) i s.at' Y) := fun Y => by rw [hk]; rfl
  rw [if_neg (by rw [hk]; decide), if_neg (by rw [hk]; decide), eK]
  exact instr_17at M rm hM.next hM.goes (s, st) ({ s with at' := adv s.at' 1 }, st') w h (by show 4 ≤ rm st; omega) i hi hx hk hl0 hl1 (nbK 17 s la.length lr.length) (fun w1 hl => namesAll_g17 { s with at' := adv s.at' 1 } w1 hl aa ra la.length ca lr.length cr ha0 hr0)
theorem parts_goes {b : Nat} {M : Mode b} {rm : M.σ → Nat} (hR : RoomGoes M rm) {n j : Nat} (op : Nat) {c : X (WS × M.σ)} (h : Goes M rm n j c) : Goes M rm n (j + 3) (partsX M op c) := by
 have up : ∀ {j' : Nat} {c' : X (WS × M.σ)}, j' ≤ j + 3 → Goes M rm n j' c' → Goes M rm n (j + 3) c' := fun hj hc y hy => by have := hc y hy; omega
 have hv : ∀ o {j' : Nat} {c' : X (WS × M.σ)}, Goes M rm n j' c' → Goes M rm n (j' + 1) (thenX c' (varPart M o)) := fun o _ _ hc => hc.then _ (fun a a' ha => ask_goes hR ha)
 have hn : ∀ {j' : Nat} {c' : X (WS × M.σ)}, Goes M rm n j' c' → Goes M rm n (j' + 1) (thenX c' (intPart M)) := fun hc => hc.then _ (fun a a' ha => hR _ _ _ _ ha)
 have hf : ∀ {j' : Nat} {c' : X (WS × M.σ)}, Goes M rm n j' c' → Goes M rm n (j' + 1) (thenX c' (fieldsPart M)) := fun hc => hc.then _ (fun a a' ha => ask_goes hR ha)
 have hd : ∀ {j' : Nat} {c' : X (WS × M.σ)}, Goes M rm n j' c' → Goes M rm n (j' + 1) (thenX c' (fieldPart M)) := fun hc => hc.then _ (fun a a' ha => ask_goes hR ha)
 have hg : ∀ {j' : Nat} {c' : X (WS × M.σ)}, Goes M rm n j' c' → Goes M rm n (j' + 1) (thenX c' (globalPart M)) := fun hc => hc.then _ (fun a a' ha => ask_goes hR ha)
 have ht : ∀ {j' : Nat} {c' : X (WS × M.σ)}, Goes M rm n j' c' → Goes M rm n (j' + 1) (thenX c' (targetPart M)) := fun hc => hc.then _ (fun a a' ha => ask_goes hR ha)
 match op with
 | 1 => exact up (by omega) (hn (hv 155 h))
 | 2 => exact up (by omega) (hv 156 (hv 155 h))
 | 3 => exact up (by omega) (hv 157 (hv 156 (hv 155 h)))
 | 4 => exact up (by omega) (hv 157 (hv 156 (hv 155 h)))
 | 5 => exact up (by omega) (hv 156 (hv 155 h))
 | 6 => exact up (by omega) (hf (hv 155 h))
 | 7 => exact up (by omega) (hd (hv 156 (hv 155 h)))
 | 8 => exact up (by omega) (hd (hv 156 (hv 155 h)))
 | 9 => exact up (by omega) (hg (hv 155 h))
 | 10 => exact up (by omega) (hg (hv 156 h))
 | 12 => exact up (by omega) (hv 156 h)
 | 13 => exact up (by omega) (ht h)
 | 14 => exact up (by omega) (ht (hv 156 h))
 | 16 => exact up (by omega) (hv 155 h)
 | 17 => exact up (by omega) (hv 157 (hv 156 (hv 155 h)))
 | 0 => exact up (by omega) h
 | 11 => exact up (by omega) h
 | 15 => exact up (by omega) h
 | m + 18 => exact up (by omega) h
theorem instrK_goes {b : Nat} {M : Mode b} {rm : M.σ → Nat} (hR : RoomGoes M rm) {heads : List (Nat × Nat)} (hPR : ∀ j (h : j < heads.length), heads[j].1 ≤ 8 ∧ heads[j].2 ≤ 4) {fR i : Nat} (hf : fR ≤ 4) {la lr : List Int} {x y : WS × M.σ} (h : instrK M heads fR i la lr x = .ok y) : rm x.2 ≤ rm y.2 + 20 := by
 have hgd : ∀ k : Nat, (heads.getD k (0, 0)).1 ≤ 8 ∧ (heads.getD k (0, 0)).2 ≤ 4 := fun k => by
  by_cases hk : k < heads.length
  ·have e : heads.getD k (0, 0) = heads[k] := by simp [List.getD, hk]
   rw [e]; exact hPR k hk
  ·have e : heads.getD k (0, 0) = (0, 0) := by simp [List.getD, Nat.le_of_not_lt hk]
   rw [e]; exact ⟨Nat.zero_le _, Nat.zero_le _⟩
 unfold instrK at h
 cases hx : nextX M 154 1 x with
 | error z => rw [hx] at h; cases h
 | ok x1 =>
   rw [hx] at h
   simp only [thenX] at h
   split at h
   ·split at h
    ·have G := front_goes hR hx true false (nbK 15 x.1 la.length lr.length) i x.1.at'
     unfold retK at h
     cases hc : frontOk M true false (nbK 15 x.1 la.length lr.length) i x.1.at' x1 with
     | error z => rw [hc] at h; cases h
     | ok x2 =>
       rw [hc] at h
       have h1 := G x2 hc
       have h2 := listK_goes hR (x := x2) (y := y) h
       omega
    ·split at h
     ·have G := (front_goes hR hx false false (nbK 11 x.1 la.length lr.length) i x.1.at').then (calleePart M heads.length) (fun a a' ha => ask_goes hR ha)
      unfold callK at h
      cases hc : thenX (frontOk M false false (nbK 11 x.1 la.length lr.length) i x.1.at' x1) (calleePart M heads.length) with
      | error z => rw [hc] at h; cases h
      | ok x2 =>
        rw [hc] at h
        have h1 := G x2 hc
        simp only [thenX] at h
        cases hl : listK M ((heads.getD x2.1.n.toNat (0, 0)).1) la x2 with
        | error z => rw [hl] at h; cases h
        | ok x3 =>
          rw [hl] at h
          have h2 := listK_goes hR hl
          have h3 := listK_goes hR (x := x3) (y := y) h
          have h4 := hgd x2.1.n.toNat
          omega
     ·have G := parts_goes hR x.1.op.toNat (front_goes hR hx (x.1.op == 13) (x.1.op == 6) (nbK x.1.op.toNat x.1 la.length lr.length) i x.1.at')
      have h1 := G y h
      omega
   ·cases h
def Al {σ : Type} (x x' : WS × σ) : Prop := x.1.bare = x'.1.bare ∧ x.2 = x'.2
theorem Al.refl {σ : Type} (x : WS × σ) : Al x x := ⟨rfl, rfl⟩
def SimK {σ : Type} (r r' : X (WS × σ)) : Prop := match r, r' with
 | .ok y, .ok y' => Al y y'
 | .error z, .error z' => z = z'
 | _, _ => False
theorem SimK.refl {σ : Type} (r : X (WS × σ)) : SimK r r := by cases r <;> first | exact rfl | exact Al.refl _
theorem SimK.trans {σ : Type} {r r' r'' : X (WS × σ)} (h : SimK r r') (k : SimK r' r'') : SimK r r'' := by
 cases r <;> cases r' <;> cases r'' <;> first | exact Eq.trans h k | exact h.elim | exact k.elim | exact ⟨h.1.trans k.1, h.2.trans k.2⟩
theorem SimK.then {σ : Type} {c c' : X (WS × σ)} {p p' : WS × σ → X (WS × σ)} (h : SimK c c') (hp : ∀ y y', Al y y' → SimK (p y) (p' y')) : SimK (thenX c p) (thenX c' p') := by
 cases c with
 | ok y => cases c' with
   | ok y' => exact hp y y' h
   | error z => exact h.elim
 | error z => cases c' with
   | ok y' => exact h.elim
   | error z' => exact h
theorem SimK.cast {σ : Type} {r r' q q' : X (WS × σ)} (h1 : r = q) (h2 : r' = q') (h : SimK q q') : SimK r r' := by
 subst h1; subst h2; exact h
theorem SimK.ite {σ : Type} {p : Prop} [Decidable p] {a a' c c' : X (WS × σ)} (h1 : p → SimK a a') (h2 : ¬ p → SimK c c') : SimK (if p then a else c) (if p then a' else c') := by
 by_cases h : p
 ·exact SimK.cast (if_pos h) (if_pos h) (h1 h)
 ·exact SimK.cast (if_neg h) (if_neg h) (h2 h)
theorem SimK.err {σ : Type} {z : Int × Int} {T : X (WS × σ)} (h : SimK (.error z) T) : T = .error z := by
 cases T with
 | ok y => exact h.elim
 | error z' => exact congrArg _ (Eq.symm h)
theorem SimK.okk {σ : Type} {y : WS × σ} {T : X (WS × σ)} (h : SimK (.ok y) T) : ∃ y', T = .ok y' ∧ Al y y' := by
 cases T with
 | ok y' => exact ⟨y', rfl, h⟩
 | error z' => exact h.elim
theorem get_bareK (s : WS) (o : Nat) : s.bare.get o = s.get o := by unfold WS.get; rfl
theorem set_bareK (s : WS) (o : Nat) (v a : Int) : ({ s.set o v with at' := a } : WS).bare = { s.bare.set o v with at' := a } := congrArg (fun t : WS => { t with at' := a }) (set_bare s o v)
theorem simK_next {b : Nat} (M : Mode b) (o size : Nat) (x x' : WS × M.σ) (h : Al x x') : SimK (nextX M o size x) (nextX M o size x') := by
 obtain ⟨s, st⟩ := x
 obtain ⟨s', st'⟩ := x'
 obtain ⟨h1, h2⟩ := h
 have h1 : s.bare = s'.bare := h1
 have h2 : st = st' := h2
 subst h2
 have ea : s.at' = s'.at' := bare_at h1
 have eg : s.get o = s'.get o := by rw [← get_bareK s, ← get_bareK s', h1]
 unfold nextX
 simp only [ea, eg]
 cases M.eff st s'.at' size (s'.get o) with
 | error z => exact rfl
 | ok vs =>
   obtain ⟨v, st2⟩ := vs
   refine ⟨?_, rfl⟩
   show ({ s.set o v with at' := adv s'.at' size } : WS).bare = ({ s'.set o v with at' := adv s'.at' size } : WS).bare
   rw [set_bareK, set_bareK, h1]
theorem simK_ask {b : Nat} (M : Mode b) (o size : Nat) (c : WS → Bool) (hc : ∀ s, c s.bare = c s) (er : Int) (x x' : WS × M.σ) (h : Al x x') : SimK (askX M o size c er x) (askX M o size c er x') := by
 refine SimK.cast (askX_then M o size c er x) (askX_then M o size c er x') (SimK.then (simK_next M o size x x' h) fun y y' hy => ?_)
 have e : c y.1 = c y'.1 := by rw [← hc, ← hc y'.1, hy.1]
 rw [e]
 exact SimK.ite (fun _ => hy) (fun _ => congrArg (fun z => (er, z)) (bare_at h.1))
theorem simK_loc {b : Nat} (M : Mode b) (n p : Int) (x x' : WS × M.σ) (h : Al x x') : SimK (locX M n p x) (locX M n p x') := by
 have e : x.1.locs = x'.1.locs := (congrArg WS.locs h.1 : x.1.bare.locs = x'.1.bare.locs)
 unfold locX
 rw [e]
 refine SimK.ite (fun _ => ⟨?_, h.2⟩) (fun _ => rfl)
 exact (congrArg (fun t : WS => ({ t with locs := wrap64 (x'.1.locs + n) } : WS)) h.1 : ({ x.1.bare with locs := wrap64 (x'.1.locs + n) } : WS) = _)
theorem simK_front {b : Nat} (M : Mode b) (ends makes nb : Bool) (i : Nat) (p p' : Int) (hp : p = p') (x x' : WS × M.σ) (h : Al x x') : SimK (frontOk M ends makes nb i p x) (frontOk M ends makes nb i p' x') := by
 subst hp
 have e : x.1.len = x'.1.len := (congrArg WS.len h.1 : x.1.bare.len = x'.1.bare.len)
 unfold frontOk
 rw [e]
 refine SimK.ite (fun _ => rfl) (fun _ => SimK.ite (fun _ => rfl) (fun _ => SimK.ite (fun _ => simK_loc M 1 p x x' h) (fun _ => h)))
theorem simK_one {b : Nat} (M : Mode b) (v : Int) (x x' : WS × M.σ) (h : Al x x') : SimK (oneK M v x) (oneK M v x') := by
 have e : x.1.fV = x'.1.fV := (congrArg WS.fV h.1 : x.1.bare.fV = x'.1.bare.fV)
 have ea := bare_at h.1
 unfold oneK
 rw [e, ea, h.2]
 cases M.eff x'.2 x'.1.at' 1 v with
 | error z => exact rfl
 | ok vs => exact SimK.ite (fun _ => ⟨bare_with h.1 _, rfl⟩) (fun _ => rfl)
theorem simK_vars {b : Nat} (M : Mode b) : ∀ (l : List Int) (x x' : WS × M.σ), Al x x' → SimK (varsK M l x) (varsK M l x')
 | [], _, _, h => h
 | v :: r, x, x', h => SimK.then (simK_one M v x x' h) (fun y y' hy => simK_vars M r y y' hy)
theorem simK_list {b : Nat} (M : Mode b) (n : Nat) (l : List Int) (x x' : WS × M.σ) (h : Al x x') : SimK (listK M n l x) (listK M n l x') := by
 unfold listK
 refine SimK.then (simK_next M 161 1 _ _ ⟨?_, h.2⟩) (fun y y' hy => SimK.ite (fun _ => simK_vars M l y y' hy) (fun _ => congrArg (fun z => ((15 : Int), z)) (bare_at h.1)))
 exact (congrArg (fun t : WS => ({ t with count := l.length } : WS)) h.1 : ({ x.1.bare with count := l.length } : WS) = _)
theorem simK_parts {b : Nat} (M : Mode b) (op : Nat) (c c' : X (WS × M.σ)) (h : SimK c c') : SimK (partsX M op c) (partsX M op c') := by
 have hv : ∀ o (y y' : WS × M.σ), Al y y' → SimK (varPart M o y) (varPart M o y') := fun o y y' hy => simK_ask M _ _ _ (fun s => by
  show varOk s.bare.fV (s.bare.get o) = varOk s.fV (s.get o)
  unfold WS.get
  rfl) _ y y' hy
 have hn : ∀ (y y' : WS × M.σ), Al y y' → SimK (intPart M y) (intPart M y') := fun y y' hy => simK_next M _ _ y y' hy
 have hf : ∀ (y y' : WS × M.σ), Al y y' → SimK (fieldsPart M y) (fieldsPart M y') := fun y y' hy => simK_ask M _ _ _ (fun s => rfl) _ y y' hy
 have hd : ∀ (y y' : WS × M.σ), Al y y' → SimK (fieldPart M y) (fieldPart M y') := fun y y' hy => simK_ask M _ _ _ (fun s => rfl) _ y y' hy
 have hg : ∀ (y y' : WS × M.σ), Al y y' → SimK (globalPart M y) (globalPart M y') := fun y y' hy => simK_ask M _ _ _ (fun s => rfl) _ y y' hy
 have ht : ∀ (y y' : WS × M.σ), Al y y' → SimK (targetPart M y) (targetPart M y') := fun y y' hy => simK_ask M _ _ _ (fun s => rfl) _ y y' hy
 match op with
 | 1 => exact (h.then (hv 155)).then hn
 | 2 => exact (h.then (hv 155)).then (hv 156)
 | 3 => exact ((h.then (hv 155)).then (hv 156)).then (hv 157)
 | 4 => exact ((h.then (hv 155)).then (hv 156)).then (hv 157)
 | 5 => exact (h.then (hv 155)).then (hv 156)
 | 6 => exact (h.then (hv 155)).then hf
 | 7 => exact ((h.then (hv 155)).then (hv 156)).then hd
 | 8 => exact ((h.then (hv 155)).then (hv 156)).then hd
 | 9 => exact (h.then (hv 155)).then hg
 | 10 => exact (h.then (hv 156)).then hg
 | 12 => exact h.then (hv 156)
 | 13 => exact h.then ht
 | 14 => exact (h.then (hv 156)).then ht
 | 16 => exact h.then (hv 155)
 | 17 => exact ((h.then (hv 155)).then (hv 156)).then (hv 157)
 | 0 => exact h
 | 11 => exact h
 | 15 => exact h
 | n + 18 => exact h
theorem simK_instr {b : Nat} (M : Mode b) (heads : List (Nat × Nat)) (fR i : Nat) (la lr : List Int) (x x' : WS × M.σ) (h : Al x x') : SimK (instrK M heads fR i la lr x) (instrK M heads fR i la lr x') := by
 have e : x.1.op = x'.1.op := (congrArg WS.op h.1 : x.1.bare.op = x'.1.bare.op)
 have ea := bare_at h.1
 unfold instrK
 refine SimK.then (simK_next M 154 1 x x' h) (fun y y' hy => ?_)
 have hf : ∀ ends makes k, SimK (frontOk M ends makes (nbK k x.1 la.length lr.length) i x.1.at' y) (frontOk M ends makes (nbK k x'.1 la.length lr.length) i x'.1.at' y') := fun ends makes k => by
  rw [nbK_bare k x.1 x'.1 _ _ h.1]
  exact simK_front M ends makes _ i _ _ ea _ _ hy
 rw [e]
 refine SimK.ite (fun _ => SimK.ite (fun _ => ?_) (fun _ => SimK.ite (fun _ => ?_) (fun _ => ?_))) (fun _ => congrArg (fun z => ((12 : Int), z)) ea)
 ·exact SimK.then (hf true false 15) (fun y y' hy => simK_list M fR la y y' hy)
 ·unfold callK
  refine SimK.then (SimK.then (hf false false 11) (fun y y' hy => simK_ask M _ _ _ (fun s => rfl) _ y y' hy)) (fun y y' hy => ?_)
  have en : y.1.n = y'.1.n := (congrArg WS.n hy.1 : y.1.bare.n = y'.1.bare.n)
  rw [en]
  exact SimK.then (simK_list M _ la y y' hy) (fun z z' hz => simK_list M _ lr z z' hz)
 ·exact simK_parts M _ _ _ (hf _ _ _)
theorem simK_head {b : Nat} (M : Mode b) (x x' : WS × M.σ) (h : Al x x') : SimK (headX M x) (headX M x') := by
 refine SimK.cast (headX_then M x) (headX_then M x') ?_
 refine SimK.then (simK_next M 149 1 x x' h) (fun y1 y1' h1 => ?_)
 refine SimK.then (simK_next M 150 1 y1 y1' h1) (fun y2 y2' h2 => ?_)
 refine SimK.then (simK_next M 151 1 y2 y2' h2) (fun y3 y3' h3 => ?_)
 refine SimK.then (simK_next M 153 2 y3 y3' h3) (fun y4 y4' h4 => ?_)
 have ea := bare_at h.1
 have e1 : y4.1.fV = y4'.1.fV := (congrArg WS.fV h4.1 : y4.1.bare.fV = y4'.1.bare.fV)
 have e2 : y4.1.fP = y4'.1.fP := (congrArg WS.fP h4.1 : y4.1.bare.fP = y4'.1.bare.fP)
 have e3 : y4.1.fR = y4'.1.fR := (congrArg WS.fR h4.1 : y4.1.bare.fR = y4'.1.bare.fR)
 have e4 : y4.1.len = y4'.1.len := (congrArg WS.len h4.1 : y4.1.bare.len = y4'.1.bare.len)
 have ho : headOk y4.1 x.1.at' = headOk y4'.1 x'.1.at' := by
  unfold headOk
  rw [e1, e2, e3, e4, ea]
 rw [ho, e1, ea]
 cases headOk y4'.1 x'.1.at' with
 | error z => exact rfl
 | ok u => exact simK_loc M _ _ _ _ h4
def headsK {b : Nat} (M : Mode b) : List PF → WS × M.σ → X (WS × M.σ)
 | [], x => .ok x
 | f :: r, x => thenX (headX M (inF f x.1, x.2)) (headsK M r)
def codeK {b : Nat} (M : Mode b) (heads : List (Nat × Nat)) (fR : Nat) : Nat → List PI → WS × M.σ → X (WS × M.σ)
 | _, [], x => .ok x
 | i, c :: r, x => thenX (instrK M heads fR i c.args c.rets (inI c x.1, x.2)) (codeK M heads fR (i + 1) r)
def funcsK {b : Nat} (M : Mode b) (heads : List (Nat × Nat)) : List PF → WS × M.σ → X (WS × M.σ)
 | [], x => .ok x
 | f :: r, x => thenX (codeK M heads f.R.toNat 0 f.code (inF f x.1, x.2)) (funcsK M heads r)
def overK {b : Nat} (M : Mode b) (G : Int) (fs : List PF) (x : WS × M.σ) : X (WS × M.σ) :=
 thenX (askX M 146 1 (fun s => decide (0 ≤ s.globals ∧ s.globals ≤ 16)) 18 ({ x.1 with globals := G, count := (fs.length : Nat) }, x.2)) fun y =>
  thenX (askX M 161 2 (fun s => decide (1 ≤ s.count ∧ s.count ≤ 65535)) 20 y) fun y =>
   thenX (headsK M fs y) (funcsK M (headsOfP fs) fs)
theorem Al.inF {σ : Type} {x x' : WS × σ} (f : PF) (h : Al x x') : Al (inF f x.1, x.2) (inF f x'.1, x'.2) := ⟨inF_bare f h.1, h.2⟩
theorem Al.inI {σ : Type} {x x' : WS × σ} (c : PI) (h : Al x x') : Al (inI c x.1, x.2) (inI c x'.1, x'.2) := ⟨inI_bare c h.1, h.2⟩
theorem simK_heads {b : Nat} (M : Mode b) : ∀ (fs : List PF) (x x' : WS × M.σ), Al x x' → SimK (headsK M fs x) (headsK M fs x')
 | [], _, _, h => h
 | f :: r, _, _, h => SimK.then (simK_head M _ _ (h.inF f)) (fun y y' hy => simK_heads M r y y' hy)
theorem simK_code {b : Nat} (M : Mode b) (heads : List (Nat × Nat)) (fR : Nat) : ∀ (l : List PI) (i : Nat) (x x' : WS × M.σ), Al x x' → SimK (codeK M heads fR i l x) (codeK M heads fR i l x')
 | [], _, _, _, h => h
 | c :: r, i, _, _, h => SimK.then (simK_instr M heads fR i c.args c.rets _ _ (h.inI c)) (fun y y' hy => simK_code M heads fR r (i + 1) y y' hy)
theorem simK_funcs {b : Nat} (M : Mode b) (heads : List (Nat × Nat)) : ∀ (fs : List PF) (x x' : WS × M.σ), Al x x' → SimK (funcsK M heads fs x) (funcsK M heads fs x')
 | [], _, _, h => h
 | f :: r, _, _, h => SimK.then (simK_code M heads f.R.toNat f.code 0 _ _ (h.inF f)) (fun y y' hy => simK_funcs M heads r y y' hy)
def RespK {σ : Type} (p : WS × σ → X (WS × σ)) : Prop := ∀ y y', Al y y' → SimK (p y) (p y')
theorem step_simK {σ : Type} {c c' : X (WS × σ)} {p K : WS × σ → X (WS × σ)} {T : X (WS × σ)} (h : SimK (thenX (thenX c p) K) T) (hc : SimK c' c) (hp : RespK p) (hK : RespK K) :
 (∀ z, c' = .error z → T = .error z) ∧ ∀ y, c' = .ok y → SimK (thenX (p y) K) T := by
 have h2 : SimK (thenX (thenX c' p) K) T := (SimK.then (SimK.then hc hp) hK).trans h
 refine ⟨fun z e => ?_, fun y e => ?_⟩
 ·subst e; exact h2.err
 ·subst e; exact h2
theorem heads_stepK {b : Nat} {M : Mode b} {fs : List PF} {k : Nat} (hk : k < fs.length) {x x2 : WS × M.σ} {H : List (Nat × Nat)} {T : X (WS × M.σ)} (h : SimK (thenX (headsK M (fs.drop k) x) (funcsK M H fs)) T) (hs : Al x2 (inF fs[k] x.1, x.2)) :
 (∀ z, headX M x2 = .error z → T = .error z) ∧ ∀ y, headX M x2 = .ok y → SimK (thenX (headsK M (fs.drop (k + 1)) y) (funcsK M H fs)) T := by
 rw [List.drop_eq_getElem_cons hk] at h
 exact step_simK h (simK_head M x2 _ hs) (fun y y' hy => simK_heads M _ y y' hy) (fun y y' hy => simK_funcs M H fs y y' hy)
theorem code_stepK {b : Nat} {M : Mode b} {fs : List PF} {c : List PI} {i fR : Nat} (hi : i < c.length) {x x2 : WS × M.σ} {H : List (Nat × Nat)} {T : X (WS × M.σ)} (h : SimK (thenX (codeK M H fR i (c.drop i) x) (funcsK M H fs)) T) (hs : Al x2 (inI c[i] x.1, x.2)) :
 (∀ z, instrK M H fR i c[i].args c[i].rets x2 = .error z → T = .error z) ∧ ∀ y, instrK M H fR i c[i].args c[i].rets x2 = .ok y → SimK (thenX (codeK M H fR (i + 1) (c.drop (i + 1)) y) (funcsK M H fs)) T := by
 rw [List.drop_eq_getElem_cons hi] at h
 exact step_simK h (simK_instr M H fR i c[i].args c[i].rets x2 _ hs) (fun y y' hy => simK_code M H fR _ _ y y' hy) (fun y y' hy => simK_funcs M H fs y y' hy)
theorem code_endK {b : Nat} {M : Mode b} {fs : List PF} {c : List PI} {fR : Nat} {x : WS × M.σ} {H : List (Nat × Nat)} {T : X (WS × M.σ)} {i : Nat} (hi : i = c.length) (h : SimK (thenX (codeK M H fR i (c.drop i) x) (funcsK M H fs)) T) : SimK (funcsK M H fs x) T := by
 subst hi
 rw [List.drop_length] at h
 exact h
theorem heads_endK {b : Nat} {M : Mode b} {fs : List PF} {x : WS × M.σ} {H : List (Nat × Nat)} {T : X (WS × M.σ)} {i : Nat} (hi : i = fs.length) (h : SimK (thenX (headsK M (fs.drop i) x) (funcsK M H fs)) T) : SimK (funcsK M H fs x) T := by
 subst hi
 rw [List.drop_length] at h
 exact h
theorem funcs_beginK {b : Nat} {M : Mode b} {fs : List PF} {k : Nat} (hk : k < fs.length) {x x2 : WS × M.σ} {H : List (Nat × Nat)} {T : X (WS × M.σ)} (h : SimK (funcsK M H (fs.drop k) x) T) (hs : Al x2 (inF fs[k] x.1, x.2)) :
 SimK (thenX (codeK M H fs[k].R.toNat 0 (fs[k].code.drop 0) x2) (funcsK M H (fs.drop (k + 1)))) T := by
 rw [List.drop_eq_getElem_cons hk] at h
 exact (SimK.then (simK_code M H _ _ _ x2 _ hs) (fun y y' hy => simK_funcs M H _ y y' hy)).trans h
theorem funcs_endK {b : Nat} {M : Mode b} {fs : List PF} {x : WS × M.σ} {H : List (Nat × Nat)} {T : X (WS × M.σ)} {i : Nat} (hi : i = fs.length) (h : SimK (funcsK M H (fs.drop i) x) T) : SimK (.ok x) T := by
 subst hi
 rw [List.drop_length] at h
 exact h
theorem headK_goes {b : Nat} {M : Mode b} {rm : M.σ → Nat} (hR : RoomGoes M rm) {x y : WS × M.σ} (h : headX M x = .ok y) : rm x.2 ≤ rm y.2 + 4 := by
 rw [headX_then] at h
 obtain ⟨y1, h1, h⟩ := then_ok h
 obtain ⟨y2, h2, h⟩ := then_ok h
 obtain ⟨y3, h3, h⟩ := then_ok h
 obtain ⟨y4, h4, h⟩ := then_ok h
 obtain ⟨u, -, h⟩ := then_ok h
 have e := loc_snd h
 have a1 := hR _ _ _ _ h1
 have a2 := hR _ _ _ _ h2
 have a3 := hR _ _ _ _ h3
 have a4 := hR _ _ _ _ h4
 rw [e]
 omega
theorem headK_state {b : Nat} {M : Mode b} {rm : M.σ → Nat} (hM : KM M rm) {x y : WS × M.σ} (hp : 4 ≤ rm x.2) (h : headX M x = .ok y) : y.1.fP = x.1.fP ∧ y.1.fR = x.1.fR ∧ y.1.fV = x.1.fV ∧ y.1.len = x.1.len := by
 obtain ⟨s, st⟩ := x
 have hp : 4 ≤ rm st := hp
 obtain ⟨st1, e1, r1⟩ := K_next hM 149 1 s st (by omega)
 obtain ⟨st2, e2, r2⟩ := K_next hM 150 1 { s with at' := adv s.at' 1 } st1 (by omega)
 obtain ⟨st3, e3, r3⟩ := K_next hM 151 1 { s with at' := adv (adv s.at' 1) 1 } st2 (by omega)
 obtain ⟨st4, e4, r4⟩ := K_next hM 153 2 { s with at' := adv (adv (adv s.at' 1) 1) 1 } st3 (by omega)
 have h := (headX_then M (s, st)).symm.trans h
 rw [e1] at h
 simp only [thenX] at h
 rw [e2] at h
 simp only at h
 rw [e3] at h
 simp only at h
 rw [e4] at h
 simp only at h
 split at h
 ·unfold locX at h
  split at h
  ·cases h; exact ⟨rfl, rfl, rfl, rfl⟩
  ·cases h
 ·cases h
theorem headK_fine {b : Nat} {M : Mode b} {rm : M.σ → Nat} (hM : KM M rm) {f : PF} {s : WS} {st : M.σ} {y : WS × M.σ} (hp : 4 ≤ rm st) (hP : s.fP = f.P) (hR : s.fR = f.R) (hV : s.fV = f.V) (hl : s.len = (f.code.length : Nat)) (h : headX M (s, st) = .ok y) : FineF f := by
 obtain ⟨-, h1, h2, h3, h4, h5⟩ := headX_ok h
 obtain ⟨e1, e2, e3, e4⟩ := headK_state hM (x := (s, st)) hp h
 have e1 : y.1.fP = s.fP := e1
 have e2 : y.1.fR = s.fR := e2
 have e3 : y.1.fV = s.fV := e3
 have e4 : y.1.len = s.len := e4
 rw [e3, hV] at h1
 rw [e1, hP] at h2
 rw [e2, hR] at h3
 rw [e4, hl] at h4 h5
 exact ⟨h1, h2, h3, by omega, by omega⟩
def CS (S : Nat → Prop) (w : World) (v : Value) (c : List PI) : Prop :=
 c.length ≤ 1000000000000000 ∧ ∃ a cp, v = .slice a c.length cp ∧ (c ≠ [] → ∃ k o, a = some ⟨k, o, none⟩ ∧ k < w.heap.size ∧ ¬ S k ∧ ∀ j (h : j < c.length), ∃ av rv,
  w.cell? ⟨k, o + j * 7, none⟩ = some (vI c[j].op) ∧ w.cell? ⟨k, o + j * 7 + 1, none⟩ = some (vI c[j].r) ∧ w.cell? ⟨k, o + j * 7 + 2, none⟩ = some (vI c[j].s) ∧ w.cell? ⟨k, o + j * 7 + 3, none⟩ = some (vI c[j].t) ∧ w.cell? ⟨k, o + j * 7 + 4, none⟩ = some (vI c[j].n) ∧
  w.cell? ⟨k, o + j * 7 + 5, none⟩ = some av ∧ w.cell? ⟨k, o + j * 7 + 6, none⟩ = some rv ∧ IS S w av c[j].args ∧ IS S w rv c[j].rets ∧ c[j].args.length ≤ 1000000000000000 ∧ c[j].rets.length ≤ 1000000000000000)
def FS (S : Nat → Prop) (w : World) (v : Value) (fs : List PF) : Prop :=
 fs.length ≤ 1000000000000000 ∧ ∃ a cp, v = .slice a fs.length cp ∧ (fs ≠ [] → ∃ k o, a = some ⟨k, o, none⟩ ∧ k < w.heap.size ∧ ¬ S k ∧ ∀ j (h : j < fs.length), ∃ cv,
  w.cell? ⟨k, o + j * 4, none⟩ = some (vI fs[j].P) ∧ w.cell? ⟨k, o + j * 4 + 1, none⟩ = some (vI fs[j].R) ∧ w.cell? ⟨k, o + j * 4 + 2, none⟩ = some (vI fs[j].V) ∧ w.cell? ⟨k, o + j * 4 + 3, none⟩ = some cv ∧ CS S w cv fs[j].code)
theorem IL.out {b : Nat} {S : Nat → Prop} {w : World} {v : Value} {l : List Int} (h : IL b w v l) (hS : ∀ k, k < w.heap.size → k ≠ b → ¬ S k) : IS S w v l := by
 obtain ⟨a, c, e, h⟩ := h
 refine ⟨a, c, e, fun hne => ?_⟩
 obtain ⟨k, o, e, hk, hb, hc⟩ := h hne
 exact ⟨k, o, e, hk, hS k hk hb, hc⟩
theorem CL.out {b : Nat} {S : Nat → Prop} {w : World} {v : Value} {c : List PI} (h : CL b w v c) (hS : ∀ k, k < w.heap.size → k ≠ b → ¬ S k) : CS S w v c := by
 obtain ⟨h0, a, cp, e, h⟩ := h
 refine ⟨h0, a, cp, e, fun hne => ?_⟩
 obtain ⟨k, o, e, hk, hb, hc⟩ := h hne
 refine ⟨k, o, e, hk, hS k hk hb, fun j hj => ?_⟩
 obtain ⟨av, rv, h1, h2, h3, h4, h5, h6, h7, h8, h9, h10⟩ := hc j hj
 exact ⟨av, rv, h1, h2, h3, h4, h5, h6, h7, h8.out hS, h9.out hS, h10⟩
theorem FL.out {b : Nat} {S : Nat → Prop} {w : World} {v : Value} {fs : List PF} (h : FL b w v fs) (hS : ∀ k, k < w.heap.size → k ≠ b → ¬ S k) : FS S w v fs := by
 obtain ⟨h0, a, cp, e, h⟩ := h
 refine ⟨h0, a, cp, e, fun hne => ?_⟩
 obtain ⟨k, o, e, hk, hb, hc⟩ := h hne
 refine ⟨k, o, e, hk, hS k hk hb, fun j hj => ?_⟩
 obtain ⟨cv, h1, h2, h3, h4, h5⟩ := hc j hj
 exact ⟨cv, h1, h2, h3, h4, h5.out hS⟩
set_option maxRecDepth 100000
set_option maxHeartbeats 4000000
abbrev iR (c : PI) (p : Value × Value) : List Value := [vI c.op, vI c.r, vI c.s, vI c.t, vI c.n, p.1, p.2]
abbrev markC : List Value := [vI (-78), vI 0, vI 0, vI 0, vI 0, .slice none 0 0, .slice none 0 0]
abbrev zeroC : List Value := [vI 0, vI 0, vI 0, vI 0, vI 0, .slice none 0 0, .slice none 0 0]
def wideC (cs : List PI) (ps : Nat → Value × Value) (i : Nat) : List Value := match cs[i]? with | some c => iR c (ps i) | none => markC
def CA (w : World) (v : Value) (cs : List PI) : Prop :=
 ∃ a cp, v = .slice a cs.length cp ∧ (cs ≠ [] → ∃ k o, a = some ⟨k, o, none⟩ ∧ k < w.heap.size ∧ ∀ j (h : j < cs.length), ∃ av rv,
  w.cell? ⟨k, o + j * 7, none⟩ = some (vI cs[j].op) ∧ w.cell? ⟨k, o + j * 7 + 1, none⟩ = some (vI cs[j].r) ∧ w.cell? ⟨k, o + j * 7 + 2, none⟩ = some (vI cs[j].s) ∧ w.cell? ⟨k, o + j * 7 + 3, none⟩ = some (vI cs[j].t) ∧ w.cell? ⟨k, o + j * 7 + 4, none⟩ = some (vI cs[j].n) ∧
  w.cell? ⟨k, o + j * 7 + 5, none⟩ = some av ∧ w.cell? ⟨k, o + j * 7 + 6, none⟩ = some rv ∧ IA w av cs[j].args ∧ IA w rv cs[j].rets)
theorem CA.stay {w w' : World} {v : Value} {cs : List PI} (h : CA w v cs) (f : Fr (fun _ => False) w w') : CA w' v cs := by
 obtain ⟨a, cp, rfl, h⟩ := h
 refine ⟨a, cp, rfl, fun hne => ?_⟩
 obtain ⟨k, o, rfl, hk, hc⟩ := h hne
 refine ⟨k, o, rfl, Nat.lt_of_lt_of_le hk f.size, fun j hj => ?_⟩
 obtain ⟨av, rv, h1, h2, h3, h4, h5, h6, h7, h8, h9⟩ := hc j hj
 have g : ∀ o, w'.cell? ⟨k, o, none⟩ = w.cell? ⟨k, o, none⟩ := fun o => f.cell hk (fun h => h)
 exact ⟨av, rv, (g _).trans h1, (g _).trans h2, (g _).trans h3, (g _).trans h4, (g _).trans h5, (g _).trans h6, (g _).trans h7, h8.stay f, h9.stay f⟩
def FineC (cs : List PI) : Prop := cs.length ≤ 1599289640354 ∧ ∀ c ∈ cs, c.args.length ≤ 17592186043904 ∧ c.rets.length ≤ 17592186043904
def WC (w : World) (B : Nat) (v : Value) (cs : List PI) : Prop :=
 ∃ g ps, v = .slice (some ⟨g, 0, none⟩) cs.length (cs.length + 64) ∧ B ≤ g ∧ Rws w 57 7 g (cs.length + 64) (wideC cs ps) ∧ ∀ i c, cs[i]? = some c → WI w B (ps i).1 c.args ∧ WI w B (ps i).2 c.rets
theorem WI.ne {w : World} {B g m : Nat} {t sz : Nat} {R : Nat → List Value} {v : Value} {l : List Int} (h : WI w B v l) (hR : Rws w t sz g m R) (ht : t ≠ 3) : ∀ k, v.ownBlock = some k → k ≠ g := by
 obtain ⟨g', rfl, -, cs', h', -⟩ := h
 obtain ⟨cs, h2, -⟩ := hR
 intro k e1 e2
 cases e1
 subst e2
 rw [h'] at h2
 cases h2
 exact ht rfl
theorem wideC_len (cs : List PI) (ps : Nat → Value × Value) (i : Nat) : (wideC cs ps i).length = 7 := by
 unfold wideC; split <;> rfl
theorem under65 : Tryd.prog.underlying 40 = some (.slice 57) := by kernel_rfl
theorem make65 (n : Nat) (hn : n ≤ 1700000000000) (w : World) : (Instr.makeSlice 40 (.int .i64 n) (.int .i64 n)).run Tryd.prog w = .ok (.slice (some ⟨w.heap.size, 0, none⟩) n n) (w.alloc (.cells (madeCells zeroC.toArray (n * 7)) 57)) := by
 rw [run_make_of 40 57 (.agg zeroC.toArray) 7 88 under65 (by kernel_rfl) (by kernel_rfl) (by kernel_rfl) n (by omega) (by omega) w]
 rfl
theorem Rws.made7 (w : World) (m : Nat) : Rws (w.alloc (.cells (madeCells zeroC.toArray (m * 7)) 57)) 57 7 w.heap.size m (fun _ => zeroC) :=
 ⟨_, heap_new w _, by simp [madeCells], fun i o hi ho => by
  have hlt : i * 7 + o < m * 7 := by omega
  have e : (i * 7 + o) % 7 = o := by omega
  unfold madeCells
  simp only [Array.getElem?_map, Array.getElem?_range, hlt, if_true, Option.map_some]
  show some (zeroC.toArray[(i * 7 + o) % 7]!) = _
  rw [e]
  rcases (show o = 0 ∨ o = 1 ∨ o = 2 ∨ o = 3 ∨ o = 4 ∨ o = 5 ∨ o = 6 by omega) with rfl | rfl | rfl | rfl | rfl | rfl | rfl <;> rfl⟩
theorem list7 {α : Type} : ∀ (l : List α), l.length = 7 → ∃ a b c d e f g, l = [a, b, c, d, e, f, g]
 | [a, b, c, d, e, f, g], _ => ⟨a, b, c, d, e, f, g, rfl⟩
def sev7 (w : World) (g q : Nat) (x : List Value) : World :=
 ((((((w.setCell ⟨g, q, none⟩ (x.getD 0 undef)).setCell ⟨g, q + 1, none⟩ (x.getD 1 undef)).setCell ⟨g, q + 2, none⟩ (x.getD 2 undef)).setCell ⟨g, q + 3, none⟩ (x.getD 3 undef)).setCell ⟨g, q + 4, none⟩ (x.getD 4 undef)).setCell ⟨g, q + 5, none⟩ (x.getD 5 undef)).setCell ⟨g, q + 6, none⟩ (x.getD 6 undef)
theorem Rws.set7 {w : World} {t g m : Nat} {R : Nat → List Value} (h : Rws w t 7 g m R) {i : Nat} (hi : i < m) (hl : (R i).length = 7) (x : List Value) (hx : x.length = 7) : Rws (sev7 w g (i * 7) x) t 7 g m (at1 R i x) := by
 have h0 := h.set1 (o := 0) hi (by omega) hl (x.getD 0 undef)
 have h1 := h0.set1 (i := i) (o := 1) hi (by omega) (by rw [at1_self]; simpa using hl) (x.getD 1 undef)
 have h2 := h1.set1 (i := i) (o := 2) hi (by omega) (by rw [at1_self, at1_self]; simpa using hl) (x.getD 2 undef)
 have h3 := h2.set1 (i := i) (o := 3) hi (by omega) (by simp only [at1_self, List.length_set]; exact hl) (x.getD 3 undef)
 have h4 := h3.set1 (i := i) (o := 4) hi (by omega) (by simp only [at1_self, List.length_set]; exact hl) (x.getD 4 undef)
 have h5 := h4.set1 (i := i) (o := 5) hi (by omega) (by simp only [at1_self, List.length_set]; exact hl) (x.getD 5 undef)
 have h6 := h5.set1 (i := i) (o := 6) hi (by omega) (by simp only [at1_self, List.length_set]; exact hl) (x.getD 6 undef)
 simp only [at1_at1, at1_self, Nat.add_zero] at h6
 obtain ⟨a, b, c, d, e, f, gg, hR⟩ := list7 _ hl
 obtain ⟨x0, x1, x2, x3, x4, x5, x6, rfl⟩ := list7 _ hx
 rw [hR] at h6
 simp only [List.set_cons_zero, List.set_cons_succ, List.getD_cons_zero, List.getD_cons_succ] at h6
 unfold sev7
 simp only [List.getD_cons_zero, List.getD_cons_succ]
 exact h6
theorem sev7_fr (w : World) (g q : Nat) (x : List Value) : Fr (fun k => k = g) w (sev7 w g q x) := by
 unfold sev7
 refine Fr.setCell (S := fun k => k = g) ?_ _ _ (Or.inl rfl)
 refine Fr.setCell (S := fun k => k = g) ?_ _ _ (Or.inl rfl)
 refine Fr.setCell (S := fun k => k = g) ?_ _ _ (Or.inl rfl)
 refine Fr.setCell (S := fun k => k = g) ?_ _ _ (Or.inl rfl)
 refine Fr.setCell (S := fun k => k = g) ?_ _ _ (Or.inl rfl)
 refine Fr.setCell (S := fun k => k = g) ?_ _ _ (Or.inl rfl)
 refine Fr.setCell (S := fun k => k = g) ?_ _ _ (Or.inl rfl)
 exact Fr.refl _ _
theorem wideCode_any (v : Value) (cs : List PI) (w : World) (hl : CA w v cs) (hn : FineC cs) : Calls Tryd.prog 35 #[v] w fun e w' => ∃ v', e = .returned v' ∧ WC w' w.heap.size v' cs ∧ Fr (fun _ => False) w w' := by
 obtain ⟨a, c, rfl, h0⟩ := hl
 have H0 : Hd _ := h0
 clear h0
 have HFI : Hd (FineC cs) := hn
 have hn := hn.1
 obtain ⟨n, hnl⟩ : ∃ n, n = cs.length := ⟨_, rfl⟩
 have HN : Hd (n = cs.length) := hnl
 rw [← hnl] at hn ⊢
 clear hnl
 have hmk := make65 (n + 64) (by omega) w
 have hcast : ((n + 64 : Nat) : Int) = (n : Int) + 64 := by omega
 rw [hcast] at hmk
 have HR : Hd (Rws (w.alloc (.cells (madeCells zeroC.toArray ((n + 64) * 7)) 57)) 57 7 w.heap.size (n + 64) (fun i => if i < 0 then wideC cs (fun _ => (undef, undef)) i else zeroC)) := (Rws.made7 w (n + 64)).congr (fun i _ => by simp)
 have HF : Hd (Fr (fun _ => False) w (w.alloc (.cells (madeCells zeroC.toArray ((n + 64) * 7)) 57))) := Fr.alloc (Fr.refl _ w) _
 obtain ⟨g, hg⟩ : ∃ g, g = w.heap.size := ⟨_, rfl⟩
 have HG : Hd (g = w.heap.size) := hg
 rw [← hg] at hmk HR
 clear hg
 go_enter Tryd.func35, Tryd.ntmps35
 go_wp2_with fail
 go_loopw [4] (fun v wr => ∃ (k : Nat) (ps : Nat → Value × Value), v = .int .i64 k ∧ k ≤ n + 64 ∧ Hd (Rws wr 57 7 g (n + 64) (fun i => if i < k then wideC cs ps i else zeroC)) ∧ Hd (∀ i c, i < k → cs[i]? = some c → WI wr w.heap.size (ps i).1 c.args ∧ WI wr w.heap.size (ps i).2 c.rets) ∧ Hd (Fr (fun _ => False) w wr)) (fun v _ => match v with | .int _ q => n + 64 - q.toNat | _ => 0)
 case atStart => exact ⟨0, fun _ => (undef, undef), rfl, Nat.zero_le _, HR.out, fun i c hi => absurd hi (Nat.not_lt_zero _), HF.out⟩
 case round =>
  clear HR HF
  obtain ⟨k, ps, rfl, hk, HR, HW, HF⟩ := hrel
  by_cases hlt : k < n + 64
  ·have hk0 : (0 : Int) ≤ k := by omega
   have hk1 : (k : Int) < (n : Int) + 64 := by omega
   have pc := fun o (ho : o < 7) => HR.out.cell (i := k) (o := o) hlt ho
   rw [if_neg (Nat.lt_irrefl k)] at pc
   have p0 := pc 0 (by omega)
   have p1 := pc 1 (by omega)
   have p2 := pc 2 (by omega)
   have p3 := pc 3 (by omega)
   have p4 := pc 4 (by omega)
   have p5 := pc 5 (by omega)
   have p6 := pc 6 (by omega)
   have z0 := HR.out.frozen (k * 7)
   have z1 := HR.out.frozen (k * 7 + 1)
   have z2 := HR.out.frozen (k * 7 + 2)
   have z3 := HR.out.frozen (k * 7 + 3)
   have z4 := HR.out.frozen (k * 7 + 4)
   have z5 := HR.out.frozen (k * 7 + 5)
   have z6 := HR.out.frozen (k * 7 + 6)
   simp only [Nat.add_zero, List.getD_cons_zero, List.getD_cons_succ] at p0 p1 p2 p3 p4 p5 p6
   clear pc
   have HR1 : Hd (Rws (sev7 wr g (k * 7) markC) 57 7 g (n + 64) (at1 (fun i => if i < k then wideC cs ps i else zeroC) k markC)) := HR.out.set7 hlt (by rw [if_neg (Nat.lt_irrefl k)]; rfl) markC rfl
   have hFs : Fr (fun j => j = g) wr (sev7 wr g (k * 7) markC) := sev7_fr _ _ _ _
   have HF1 : Hd (Fr (fun _ => False) w (sev7 wr g (k * 7) markC)) := HF.out.then hFs (fun j hj e => by have := HG.out; omega)
   have HW1 : Hd (∀ i c, i < k → cs[i]? = some c → WI (sev7 wr g (k * 7) markC) w.heap.size (ps i).1 c.args ∧ WI (sev7 wr g (k * 7) markC) w.heap.size (ps i).2 c.rets) := fun i c hi hc => ⟨(HW.out i c hi hc).1.fr hFs ((HW.out i c hi hc).1.ne HR.out (by decide)), (HW.out i c hi hc).2.fr hFs ((HW.out i c hi hc).2.ne HR.out (by decide))⟩
   clear hFs
   go_upto_region 6 with fail
   change Code.wp Tryd.prog _ _ _ (sev7 wr g (k * 7) markC)
   clear p0 p1 p2 p3 p4 p5 p6 z0 z1 z2 z3 z4 z5 z6 HR HF HW
   generalize sev7 wr g (k * 7) markC = w1 at *
   by_cases hin : k < n
   ·have hk2 : (k : Int) < n := by omega
    have d1 : decide ((k : Int) < n) = true := by simpa using hk2
    have hkc : k < cs.length := by have := HN.out; omega
    obtain ⟨ak, ao, rfl, hak, hcells⟩ := H0.out (by intro e; simp [e] at hkc)
    obtain ⟨av, rv, c0, c1, c2, c3, c4, c5, c6, hav, hrv⟩ := hcells k hkc
    have HC : Hd (cs[k]? = some cs[k]) := List.getElem?_eq_getElem hkc
    have HCF : Hd (cs[k].args.length ≤ 17592186043904 ∧ cs[k].rets.length ≤ 17592186043904) := HFI.out.2 _ (List.getElem_mem hkc)
    generalize cs[k] = ci at *
    have cl := fun (wx : World) (f : Fr (fun _ => False) w wx) (o : Nat) => f.cell (o := o) hak (fun e => e)
    have q0 := (cl w1 HF1.out _).trans c0
    have q1 := (cl w1 HF1.out _).trans c1
    have q2 := (cl w1 HF1.out _).trans c2
    have q3 := (cl w1 HF1.out _).trans c3
    have q4 := (cl w1 HF1.out _).trans c4
    have q5 := (cl w1 HF1.out _).trans c5
    have q6 := (cl w1 HF1.out _).trans c6
    have HCL : Hd _ := cl
    have HC5 : Hd _ := c5
    have HC6 : Hd _ := c6
    have HAV : Hd (IA w av ci.args) := hav
    have HRV : Hd (IA w rv ci.rets) := hrv
    obtain ⟨aa, ac, rfl, -⟩ := id hav
    obtain ⟨ra, rc, rfl, -⟩ := id hrv
    clear hcells c0 c1 c2 c3 c4 c5 c6 cl hav hrv
    have pc := fun o (ho : o < 7) => HR1.out.cell (i := k) (o := o) hlt ho
    rw [at1_self] at pc
    have p0 := pc 0 (by omega)
    have p1 := pc 1 (by omega)
    have p2 := pc 2 (by omega)
    have p3 := pc 3 (by omega)
    have p4 := pc 4 (by omega)
    have p5 := pc 5 (by omega)
    have p6 := pc 6 (by omega)
    simp only [Nat.add_zero, List.getD_cons_zero, List.getD_cons_succ] at p0 p1 p2 p3 p4 p5 p6
    have z0 := HR1.out.frozen (k * 7)
    have z1 := HR1.out.frozen (k * 7 + 1)
    have z2 := HR1.out.frozen (k * 7 + 2)
    have z3 := HR1.out.frozen (k * 7 + 3)
    have z4 := HR1.out.frozen (k * 7 + 4)
    have z5 := HR1.out.frozen (k * 7 + 5)
    have z6 := HR1.out.frozen (k * 7 + 6)
    clear pc
    have HR2 : Hd (Rws (sev7 w1 g (k * 7) (iR ci (.slice aa ci.args.length ac, .slice ra ci.rets.length rc))) 57 7 g (n + 64) (at1 (fun i => if i < k then wideC cs ps i else zeroC) k (iR ci (.slice aa ci.args.length ac, .slice ra ci.rets.length rc)))) := by
     have := HR1.out.set7 (i := k) hlt (by rw [at1_self]; rfl) (iR ci (.slice aa ci.args.length ac, .slice ra ci.rets.length rc)) rfl
     rw [at1_at1] at this
     exact this
    have hFs : Fr (fun j => j = g) w1 (sev7 w1 g (k * 7) (iR ci (.slice aa ci.args.length ac, .slice ra ci.rets.length rc))) := sev7_fr _ _ _ _
    have HF2 : Hd (Fr (fun _ => False) w (sev7 w1 g (k * 7) (iR ci (.slice aa ci.args.length ac, .slice ra ci.rets.length rc)))) := HF1.out.then hFs (fun j hj e => by have := HG.out; omega)
    have HW2 : Hd (∀ i c, i < k → cs[i]? = some c → WI (sev7 w1 g (k * 7) (iR ci (.slice aa ci.args.length ac, .slice ra ci.rets.length rc))) w.heap.size (ps i).1 c.args ∧ WI (sev7 w1 g (k * 7) (iR ci (.slice aa ci.args.length ac, .slice ra ci.rets.length rc))) w.heap.size (ps i).2 c.rets) := fun i c hi hc => ⟨(HW1.out i c hi hc).1.fr hFs ((HW1.out i c hi hc).1.ne HR1.out (by decide)), (HW1.out i c hi hc).2.fr hFs ((HW1.out i c hi hc).2.ne HR1.out (by decide))⟩
    clear hFs
    go_upto_region 8 with fail
    change Code.wp Tryd.prog _ _ _ (sev7 w1 g (k * 7) (iR ci (.slice aa ci.args.length ac, .slice ra ci.rets.length rc)))
    clear p0 p1 p2 p3 p4 p5 p6 z0 z1 z2 z3 z4 z5 z6 q0 q1 q2 q3 q4 q5 q6 HR1 HF1 HW1
    generalize sev7 w1 g (k * 7) (iR ci (.slice aa ci.args.length ac, .slice ra ci.rets.length rc)) = w2 at *
    have q5 := (HCL.out w2 HF2.out _).trans HC5.out
    go_wp2_with fail
    refine (show Calls Tryd.prog 53 #[.slice aa ci.args.length ac] w2 _ from wideInts_any _ ci.args w2 (HAV.out.stay HF2.out) (by have := HCF.out; omega)).mono ?_
    rintro e w3 ⟨v3, rfl, hv3, hF3⟩
    have HR3 : Hd (Rws w3 57 7 g (n + 64) (at1 (fun i => if i < k then wideC cs ps i else zeroC) k (iR ci (.slice aa ci.args.length ac, .slice ra ci.rets.length rc)))) := HR2.out.fr hF3 (fun e => e)
    have HV3 : Hd (WI w3 w.heap.size v3 ci.args) := hv3.mono HF2.out.size
    have HF3 : Hd (Fr (fun _ => False) w w3) := HF2.out.trans hF3
    have HW3 : Hd (∀ i c, i < k → cs[i]? = some c → WI w3 w.heap.size (ps i).1 c.args ∧ WI w3 w.heap.size (ps i).2 c.rets) := fun i c hi hc => ⟨(HW2.out i c hi hc).1.fr hF3 (fun _ _ e => e), (HW2.out i c hi hc).2.fr hF3 (fun _ _ e => e)⟩
    obtain ⟨g3, e3, -⟩ := id hv3
    subst e3
    clear hv3 hF3 HR2 HF2 HW2 q5
    have p5 := HR3.out.cell (i := k) (o := 5) hlt (by omega)
    rw [at1_self] at p5
    simp only [List.getD_cons_zero, List.getD_cons_succ] at p5
    have z5 := HR3.out.frozen (k * 7 + 5)
    have HR4 : Hd (Rws (w3.setCell ⟨g, k * 7 + 5, none⟩ (.slice (some ⟨g3, 0, none⟩) ci.args.length (ci.args.length + 64))) 57 7 g (n + 64) (at1 (fun i => if i < k then wideC cs ps i else zeroC) k (iR ci (.slice (some ⟨g3, 0, none⟩) ci.args.length (ci.args.length + 64), .slice ra ci.rets.length rc)))) := by
     have := HR3.out.set1 (i := k) (o := 5) hlt (by omega) (by rw [at1_self]; rfl) (.slice (some ⟨g3, 0, none⟩) ci.args.length (ci.args.length + 64))
     rw [at1_self, at1_at1] at this
     exact this
    have hFs := setCell_fr w3 g (k * 7 + 5) (.slice (some ⟨g3, 0, none⟩) ci.args.length (ci.args.length + 64))
    have HF4 : Hd (Fr (fun _ => False) w (w3.setCell ⟨g, k * 7 + 5, none⟩ (.slice (some ⟨g3, 0, none⟩) ci.args.length (ci.args.length + 64)))) := HF3.out.then hFs (fun j hj e => by have := HG.out; omega)
    have HV4 : Hd (WI (w3.setCell ⟨g, k * 7 + 5, none⟩ (.slice (some ⟨g3, 0, none⟩) ci.args.length (ci.args.length + 64))) w.heap.size (.slice (some ⟨g3, 0, none⟩) ci.args.length (ci.args.length + 64)) ci.args) := HV3.out.fr hFs (HV3.out.ne HR3.out (by decide))
    have HW4 : Hd (∀ i c, i < k → cs[i]? = some c → WI (w3.setCell ⟨g, k * 7 + 5, none⟩ (.slice (some ⟨g3, 0, none⟩) ci.args.length (ci.args.length + 64))) w.heap.size (ps i).1 c.args ∧ WI (w3.setCell ⟨g, k * 7 + 5, none⟩ (.slice (some ⟨g3, 0, none⟩) ci.args.length (ci.args.length + 64))) w.heap.size (ps i).2 c.rets) := fun i c hi hc => ⟨(HW3.out i c hi hc).1.fr hFs ((HW3.out i c hi hc).1.ne HR3.out (by decide)), (HW3.out i c hi hc).2.fr hFs ((HW3.out i c hi hc).2.ne HR3.out (by decide))⟩
    clear hFs HR3 HF3 HW3 HV3
    go_upto_region 9 with fail
    clear p5 z5
    generalize w3.setCell ⟨g, k * 7 + 5, none⟩ (.slice (some ⟨g3, 0, none⟩) ci.args.length (ci.args.length + 64)) = w4 at *
    have q6 := (HCL.out w4 HF4.out _).trans HC6.out
    go_wp2_with fail
    refine (show Calls Tryd.prog 53 #[.slice ra ci.rets.length rc] w4 _ from wideInts_any _ ci.rets w4 (HRV.out.stay HF4.out) (by have := HCF.out; omega)).mono ?_
    rintro e w5 ⟨v5, rfl, hv5, hF5⟩
    have HR5 : Hd (Rws w5 57 7 g (n + 64) (at1 (fun i => if i < k then wideC cs ps i else zeroC) k (iR ci (.slice (some ⟨g3, 0, none⟩) ci.args.length (ci.args.length + 64), .slice ra ci.rets.length rc)))) := HR4.out.fr hF5 (fun e => e)
    have HV5 : Hd (WI w5 w.heap.size v5 ci.rets) := hv5.mono HF4.out.size
    have HU5 : Hd (WI w5 w.heap.size (.slice (some ⟨g3, 0, none⟩) ci.args.length (ci.args.length + 64)) ci.args) := HV4.out.fr hF5 (fun _ _ e => e)
    have HF5 : Hd (Fr (fun _ => False) w w5) := HF4.out.trans hF5
    have HW5 : Hd (∀ i c, i < k → cs[i]? = some c → WI w5 w.heap.size (ps i).1 c.args ∧ WI w5 w.heap.size (ps i).2 c.rets) := fun i c hi hc => ⟨(HW4.out i c hi hc).1.fr hF5 (fun _ _ e => e), (HW4.out i c hi hc).2.fr hF5 (fun _ _ e => e)⟩
    obtain ⟨g5, e5, -⟩ := id hv5
    subst e5
    clear hv5 hF5 HR4 HF4 HW4 HV4 q6
    have p6 := HR5.out.cell (i := k) (o := 6) hlt (by omega)
    rw [at1_self] at p6
    simp only [List.getD_cons_zero, List.getD_cons_succ] at p6
    have z6 := HR5.out.frozen (k * 7 + 6)
    have hFs := setCell_fr w5 g (k * 7 + 6) (.slice (some ⟨g5, 0, none⟩) ci.rets.length (ci.rets.length + 64))
    have HR6 : Hd (Rws (w5.setCell ⟨g, k * 7 + 6, none⟩ (.slice (some ⟨g5, 0, none⟩) ci.rets.length (ci.rets.length + 64))) 57 7 g (n + 64) (fun i => if i < k + 1 then wideC cs (at1 ps k (.slice (some ⟨g3, 0, none⟩) ci.args.length (ci.args.length + 64), .slice (some ⟨g5, 0, none⟩) ci.rets.length (ci.rets.length + 64))) i else zeroC)) := by
     have := HR5.out.set1 (i := k) (o := 6) hlt (by omega) (by rw [at1_self]; rfl) (.slice (some ⟨g5, 0, none⟩) ci.rets.length (ci.rets.length + 64))
     rw [at1_self, at1_at1] at this
     refine this.congr (fun i _ => ?_)
     by_cases e : i = k
     ·subst e
      rw [at1_self, if_pos (by omega)]
      unfold wideC
      rw [HC.out, at1_self]
      rfl
     ·rw [at1_ne _ _ e]
      by_cases hi : i < k
      ·rw [if_pos hi, if_pos (by omega)]
       unfold wideC
       rw [at1_ne _ _ e]
      ·rw [if_neg hi, if_neg (by omega)]
    have HF6 : Hd (Fr (fun _ => False) w (w5.setCell ⟨g, k * 7 + 6, none⟩ (.slice (some ⟨g5, 0, none⟩) ci.rets.length (ci.rets.length + 64)))) := HF5.out.then hFs (fun j hj e => by have := HG.out; omega)
    have HW6 : Hd (∀ i c, i < k + 1 → cs[i]? = some c → WI (w5.setCell ⟨g, k * 7 + 6, none⟩ (.slice (some ⟨g5, 0, none⟩) ci.rets.length (ci.rets.length + 64))) w.heap.size (at1 ps k (.slice (some ⟨g3, 0, none⟩) ci.args.length (ci.args.length + 64), .slice (some ⟨g5, 0, none⟩) ci.rets.length (ci.rets.length + 64)) i).1 c.args ∧ WI (w5.setCell ⟨g, k * 7 + 6, none⟩ (.slice (some ⟨g5, 0, none⟩) ci.rets.length (ci.rets.length + 64))) w.heap.size (at1 ps k (.slice (some ⟨g3, 0, none⟩) ci.args.length (ci.args.length + 64), .slice (some ⟨g5, 0, none⟩) ci.rets.length (ci.rets.length + 64)) i).2 c.rets) := fun i c hi hc => by
     by_cases e : i = k
     ·subst e
      rw [HC.out] at hc
      cases hc
      rw [at1_self]
      exact ⟨HU5.out.fr hFs (HU5.out.ne HR5.out (by decide)), HV5.out.fr hFs (HV5.out.ne HR5.out (by decide))⟩
     ·rw [at1_ne _ _ e]
      exact ⟨(HW5.out i c (by omega) hc).1.fr hFs ((HW5.out i c (by omega) hc).1.ne HR5.out (by decide)), (HW5.out i c (by omega) hc).2.fr hFs ((HW5.out i c (by omega) hc).2.ne HR5.out (by decide))⟩
    clear hFs HR5 HF5 HW5 HV5 HU5
    go_wp2_with fail
    exact ⟨⟨k + 1, _, by simp, by omega, HR6.out, HW6.out, HF6.out⟩, by simp; omega⟩
   ·have d1 : decide ((k : Int) < n) = false := by simp; omega
    have HR2 : Hd (Rws w1 57 7 g (n + 64) (fun i => if i < k + 1 then wideC cs ps i else zeroC)) := by
     refine HR1.out.congr (fun i _ => ?_)
     by_cases e : i = k
     ·subst e; rw [at1_self, if_pos (by omega)]; unfold wideC; rw [List.getElem?_eq_none (by have := HN.out; omega)]
     ·rw [at1_ne _ _ e]
      by_cases hi : i < k
      ·rw [if_pos hi, if_pos (by omega)]
      ·rw [if_neg hi, if_neg (by omega)]
    have HW2 : Hd (∀ i c, i < k + 1 → cs[i]? = some c → WI w1 w.heap.size (ps i).1 c.args ∧ WI w1 w.heap.size (ps i).2 c.rets) := fun i c hi hc => HW1.out i c (by have := (List.getElem?_eq_some_iff.1 hc).1; have := HN.out; omega) hc
    clear HR1 HW1
    go_wp2_with fail
    exact ⟨⟨k + 1, ps, by simp, by omega, HR2.out, HW2.out, HF1.out⟩, by simp; omega⟩
  ·have hke : k = n + 64 := by omega
   subst hke
   have HE : Hd (WC wr w.heap.size (.slice (some ⟨g, 0, none⟩) n (n + 64)) cs) := by
    refine ⟨g, ps, by rw [← HN.out], by rw [HG.out]; exact Nat.le_refl _, ?_, fun i c hc => HW.out i c (by have := (List.getElem?_eq_some_iff.1 hc).1; have := HN.out; omega) hc⟩
    rw [← HN.out]
    exact HR.out.congr (fun i hi => by rw [if_pos hi])
   have hn0 : (0 : Int) ≤ n := by omega
   have hn1 : (n : Int) ≤ (n : Int) + 64 := by omega
   go_wp2_with fail
   go_ret
   exact ⟨_, rfl, HE.out, HF.out⟩
set_option maxRecDepth 100000
set_option maxHeartbeats 4000000
theorem spareCode_any (v : Value) (cs : List PI) (B : Nat) (w : World) (hl : WC w B v cs) (hn : FineC cs) : Calls Tryd.prog 27 #[v] w fun e w' => e = .returned (.bool true) ∧ w' = w := by
 obtain ⟨g, ps, rfl, -, hR, hW⟩ := hl
 have HR : Hd (Rws w 57 7 g (cs.length + 64) (wideC cs ps)) := hR
 have HW : Hd _ := hW
 have HFI : Hd (FineC cs) := hn
 have hn := hn.1
 clear hR hW
 obtain ⟨n, hnl⟩ : ∃ n, n = cs.length := ⟨_, rfl⟩
 have HN : Hd (n = cs.length) := hnl
 rw [← hnl] at hn HR ⊢
 clear hnl
 have hn0 : (0 : Int) ≤ (n : Int) + 64 := by omega
 have hn1 : (n : Int) + 64 ≤ ((n + 64 : Nat) : Int) := by omega
 have ht : ((n : Int) + 64).toNat = n + 64 := by omega
 go_enter Tryd.func27, Tryd.ntmps27
 go_wp2_with fail
 go_loopw [4] (fun v wr => ∃ (k : Nat), v = .int .i64 k ∧ k ≤ n + 64 ∧ wr = w) (fun v _ => match v with | .int _ q => n + 64 - q.toNat | _ => 0)
 case atStart => exact ⟨0, rfl, by omega, rfl⟩
 case round =>
  obtain ⟨k, rfl, hk, rfl⟩ := hrel
  by_cases hlt : k < n + 64
  ·have hk0 : (0 : Int) ≤ k := by omega
   have hk1 : (k : Int) < (n : Int) + 64 := by omega
   have hk3 : (k : Int) < ((n + 64 : Nat) : Int) := by omega
   have pc := fun o (ho : o < 7) => HR.out.cell (i := k) (o := o) hlt ho
   by_cases hin : k < n
   ·have d1 : decide ((k : Int) ≥ n) = false := by simp; omega
    have hkc : k < cs.length := by have := HN.out; omega
    have e1 : wideC cs ps k = iR cs[k] (ps k) := by unfold wideC; rw [List.getElem?_eq_getElem hkc]
    rw [e1] at pc
    have p5 := pc 5 (by omega)
    have p6 := pc 6 (by omega)
    simp only [List.getD_cons_zero, List.getD_cons_succ] at p5 p6
    have HA : Hd (WI wr B (ps k).1 cs[k].args ∧ WI wr B (ps k).2 cs[k].rets) := HW.out k cs[k] (List.getElem?_eq_getElem hkc)
    have HC : Hd (cs[k].args.length ≤ 17592186043904 ∧ cs[k].rets.length ≤ 17592186043904) := HFI.out.2 _ (List.getElem_mem hkc)
    generalize cs[k] = ci at *
    generalize ps k = pk at *
    obtain ⟨x1, x2⟩ := pk
    simp only at p5 p6 HA
    obtain ⟨g1, e1, -⟩ := id HA.out.1
    obtain ⟨g2, e2, -⟩ := id HA.out.2
    subst e1
    subst e2
    clear pc
    go_wp2_with fail
    refine (show Calls Tryd.prog 48 #[.slice (some ⟨g1, 0, none⟩) ci.args.length (ci.args.length + 64)] wr _ from spareInts_any _ ci.args B wr HA.out.1 (by have := HC.out; omega)).mono ?_
    rintro e w1 ⟨rfl, rfl⟩
    go_wp2_with fail
    refine (show Calls Tryd.prog 48 #[.slice (some ⟨g2, 0, none⟩) ci.rets.length (ci.rets.length + 64)] _ _ from spareInts_any _ ci.rets B _ HA.out.2 (by have := HC.out; omega)).mono ?_
    rintro e w1 ⟨rfl, rfl⟩
    go_wp2_with fail
    exact ⟨⟨k + 1, by simp, by omega, by trivial⟩, by simp; omega⟩
   ·have d1 : decide ((k : Int) ≥ n) = true := by simp; omega
    have e1 : wideC cs ps k = markC := by unfold wideC; rw [List.getElem?_eq_none (by have := HN.out; omega)]
    rw [e1] at pc
    have p0 := pc 0 (by omega)
    have p4 := pc 4 (by omega)
    simp only [Nat.add_zero, List.getD_cons_zero, List.getD_cons_succ] at p0 p4
    clear pc
    go_wp2_with fail
    exact ⟨⟨k + 1, by simp, by omega, by trivial⟩, by simp; omega⟩
  ·have hke : k = n + 64 := by omega
   subst hke
   go_wp2_with fail
   go_ret
   exact ⟨rfl, rfl⟩
theorem WC.fr {S : Nat → Prop} {w w' : World} {B : Nat} {v : Value} {cs : List PI} (h : WC w B v cs) (f : Fr S w w') (hS : ∀ k, S k → k < B) : WC w' B v cs := by
 obtain ⟨g, ps, rfl, h1, h2, h3⟩ := h
 have no : ∀ k, B ≤ k → ¬ S k := fun k hk e => by have := hS k e; omega
 exact ⟨g, ps, rfl, h1, h2.fr f (no g h1), fun i c hc => ⟨(h3 i c hc).1.fr f (fun k e => no k ((h3 i c hc).1.ge k e).1), (h3 i c hc).2.fr f (fun k e => no k ((h3 i c hc).2.ge k e).1)⟩⟩
theorem WC.stay {w w' : World} {B : Nat} {v : Value} {cs : List PI} (h : WC w B v cs) (f : Fr (fun _ => False) w w') : WC w' B v cs := h.fr f (fun _ e => e.elim)
theorem WC.mono {w : World} {B B' : Nat} {v : Value} {cs : List PI} (h : WC w B v cs) (hB : B' ≤ B) : WC w B' v cs := by
 obtain ⟨g, ps, rfl, h1, h2, h3⟩ := h
 exact ⟨g, ps, rfl, by omega, h2, fun i c hc => ⟨(h3 i c hc).1.mono hB, (h3 i c hc).2.mono hB⟩⟩
theorem WC.ca {w : World} {B : Nat} {v : Value} {cs : List PI} (h : WC w B v cs) : CA w v cs := by
 obtain ⟨g, ps, rfl, h1, h2, h3⟩ := h
 refine ⟨_, _, rfl, fun _ => ⟨g, 0, rfl, h2.lt, fun j hj => ?_⟩⟩
 have pc := fun o (ho : o < 7) => h2.cell (i := j) (o := o) (by omega) ho
 have e1 : wideC cs ps j = iR cs[j] (ps j) := by unfold wideC; rw [List.getElem?_eq_getElem hj]
 rw [e1] at pc
 have hw := h3 j cs[j] (List.getElem?_eq_getElem hj)
 rw [Nat.zero_add]
 exact ⟨(ps j).1, (ps j).2, pc 0 (by omega), pc 1 (by omega), pc 2 (by omega), pc 3 (by omega), pc 4 (by omega), pc 5 (by omega), pc 6 (by omega), hw.1.ia, hw.2.ia⟩
theorem WC.ge {w : World} {B : Nat} {v : Value} {cs : List PI} (h : WC w B v cs) : ∀ k, v.ownBlock = some k → B ≤ k ∧ k < w.heap.size := by
 obtain ⟨g, ps, rfl, h1, h2, h3⟩ := h
 intro k e; cases e; exact ⟨h1, h2.lt⟩
theorem wideFunc_any (P R V : Int) (cv : Value) (cs : List PI) (w : World) (hl : CA w cv cs) (hn : FineC cs) :
 Calls Tryd.prog 17 #[.agg #[vI P, vI R, vI V, cv]] w fun e w' => ∃ v', e = .returned (.agg #[vI P, vI R, vI V, v']) ∧ WC w' w.heap.size v' cs ∧ Fr (fun _ => False) w w' := by
 obtain ⟨a, cp, rfl, h0⟩ := id hl
 have HL : Hd (CA w (.slice a cs.length cp) cs) := hl
 clear h0 hl
 have hF1 : Fr (fun _ => False) w ((w.alloc (.cells #[vI P, vI R, vI V, .slice a cs.length cp] 42)).alloc (.cells #[vI 0, vI 0, vI 0, .slice none 0 0] 42)) := Fr.alloc (Fr.alloc (Fr.refl _ w) _) _
 have HF1 : Hd _ := hF1
 have HB : Hd (((w.alloc (.cells #[vI P, vI R, vI V, .slice a cs.length cp] 42)).alloc (.cells #[vI 0, vI 0, vI 0, .slice none 0 0] 42)).heap[w.heap.size]? = some (.cells #[vI P, vI R, vI V, .slice a cs.length cp] 42)) := by
  unfold Hd
  rw [Go.RowKit.Below.heap_alloc _ _ _ (by simp)]
  exact heap_new w _
 have HB2 : Hd (((w.alloc (.cells #[vI P, vI R, vI V, .slice a cs.length cp] 42)).alloc (.cells #[vI 0, vI 0, vI 0, .slice none 0 0] 42)).heap[w.heap.size + 1]? = some (.cells #[vI 0, vI 0, vI 0, .slice none 0 0] 42)) := by
  unfold Hd
  rw [show w.heap.size + 1 = (w.alloc (.cells #[vI P, vI R, vI V, .slice a cs.length cp] 42)).heap.size by simp]
  exact heap_new _ _
 have hsz : ((w.alloc (.cells #[vI P, vI R, vI V, .slice a cs.length cp] 42)).alloc (.cells #[vI 0, vI 0, vI 0, .slice none 0 0] 42)).heap.size = w.heap.size + 2 := by simp
 go_enter Tryd.func17, Tryd.ntmps17
 go_wp2_with fail
 refine (show Calls Tryd.prog 35 #[.slice a cs.length cp] ((w.alloc (.cells #[vI P, vI R, vI V, .slice a cs.length cp] 42)).alloc (.cells #[vI 0, vI 0, vI 0, .slice none 0 0] 42)) _ from wideCode_any _ cs _ (HL.out.stay HF1.out) hn).mono ?_
 rintro e w2 ⟨v2, rfl, hv2, hF2⟩
 have HV2 : Hd (WC w2 w.heap.size v2 cs) := hv2.mono hF1.size
 have hne : ∀ k, v2.ownBlock = some k → w.heap.size + 2 ≤ k := fun k e => by have := (hv2.ge k e).1; omega
 have HGE : Hd (WC w2 (w.heap.size + 2) v2 cs) := hv2.mono (by omega)
 obtain ⟨g2, ps2, e2, -⟩ := id hv2
 subst e2
 have b1 := (hF2.block w.heap.size (by omega) (fun e => e)).trans HB.out
 have b2 := (hF2.block (w.heap.size + 1) (by omega) (fun e => e)).trans HB2.out
 have p0 : w2.cell? ⟨w.heap.size, 0, none⟩ = some (vI P) := by rw [cell_of b1]; rfl
 have p1 : w2.cell? ⟨w.heap.size, 1, none⟩ = some (vI R) := by rw [cell_of b1]; rfl
 have p2 : w2.cell? ⟨w.heap.size, 2, none⟩ = some (vI V) := by rw [cell_of b1]; rfl
 have p3 : w2.cell? ⟨w.heap.size, 3, none⟩ = some (.slice a cs.length cp) := by rw [cell_of b1]; rfl
 have r0 : w2.cell? ⟨w.heap.size + 1, 0, none⟩ = some (vI 0) := by rw [cell_of b2]; rfl
 have r1 : w2.cell? ⟨w.heap.size + 1, 1, none⟩ = some (vI 0) := by rw [cell_of b2]; rfl
 have r2 : w2.cell? ⟨w.heap.size + 1, 2, none⟩ = some (vI 0) := by rw [cell_of b2]; rfl
 have r3 : w2.cell? ⟨w.heap.size + 1, 3, none⟩ = some (.slice none 0 0) := by rw [cell_of b2]; rfl
 have z3 := frozen_of b1 3
 have y0 := frozen_of b2 0
 have y1 := frozen_of b2 1
 have y2 := frozen_of b2 2
 have y3 := frozen_of b2 3
 have HF3 : Hd (Fr (fun _ => False) w w2) := HF1.out.trans hF2
 clear hv2 hF2 hF1 HF1 HB HB2 HL hne
 obtain ⟨v2, hv2⟩ : ∃ v2, v2 = Value.slice (some ⟨g2, 0, none⟩) cs.length (cs.length + 64) := ⟨_, rfl⟩
 have f1 : Fr (fun k => k = w.heap.size ∨ k = w.heap.size + 1) w2 (((((w2.setCell ⟨w.heap.size, 3, none⟩ v2).setCell ⟨w.heap.size + 1, 0, none⟩ (vI P)).setCell ⟨w.heap.size + 1, 1, none⟩ (vI R)).setCell ⟨w.heap.size + 1, 2, none⟩ (vI V)).setCell ⟨w.heap.size + 1, 3, none⟩ v2) :=
  (((((Fr.refl _ w2).setCell _ _ (Or.inl (Or.inl rfl))).setCell _ _ (Or.inl (Or.inr rfl))).setCell _ _ (Or.inl (Or.inr rfl))).setCell _ _ (Or.inl (Or.inr rfl))).setCell _ _ (Or.inl (Or.inr rfl))
 have b3 : (((((w2.setCell ⟨w.heap.size, 3, none⟩ v2).setCell ⟨w.heap.size + 1, 0, none⟩ (vI P)).setCell ⟨w.heap.size + 1, 1, none⟩ (vI R)).setCell ⟨w.heap.size + 1, 2, none⟩ (vI V)).setCell ⟨w.heap.size + 1, 3, none⟩ v2).heap[w.heap.size + 1]? = some (.cells #[vI P, vI R, vI V, v2] 42) :=
  set_of (set_of (set_of (set_of (((setCell_fr w2 w.heap.size 3 v2).block (w.heap.size + 1) (heap_lt b2) (by omega)).trans b2) 0 (vI P)) 1 (vI R)) 2 (vI V)) 3 v2
 have HX : Hd (WC (((((w2.setCell ⟨w.heap.size, 3, none⟩ v2).setCell ⟨w.heap.size + 1, 0, none⟩ (vI P)).setCell ⟨w.heap.size + 1, 1, none⟩ (vI R)).setCell ⟨w.heap.size + 1, 2, none⟩ (vI V)).setCell ⟨w.heap.size + 1, 3, none⟩ v2) w.heap.size v2 cs) := by
  rw [hv2] at f1 ⊢
  exact (HGE.out.fr f1 (fun k hk => by omega)).mono (by omega)
 have HFX : Hd (Fr (fun _ => False) w (((((w2.setCell ⟨w.heap.size, 3, none⟩ v2).setCell ⟨w.heap.size + 1, 0, none⟩ (vI P)).setCell ⟨w.heap.size + 1, 1, none⟩ (vI R)).setCell ⟨w.heap.size + 1, 2, none⟩ (vI V)).setCell ⟨w.heap.size + 1, 3, none⟩ v2)) := HF3.out.then f1 (fun j hj e => by omega)
 have HB3 : Hd _ := b3
 have HV : Hd (v2 = Value.slice (some ⟨g2, 0, none⟩) cs.length (cs.length + 64)) := hv2
 clear f1 b3 hv2
 go_wp2_with fail
 rw [← HV.out]
 generalize (((((w2.setCell ⟨w.heap.size, 3, none⟩ v2).setCell ⟨w.heap.size + 1, 0, none⟩ (vI P)).setCell ⟨w.heap.size + 1, 1, none⟩ (vI R)).setCell ⟨w.heap.size + 1, 2, none⟩ (vI V)).setCell ⟨w.heap.size + 1, 3, none⟩ v2) = wz at *
 have c0 : wz.cell? ⟨w.heap.size + 1, 0, none⟩ = some (vI P) := by rw [cell_of HB3.out]; rfl
 have c1 : wz.cell? ⟨w.heap.size + 1, 1, none⟩ = some (vI R) := by rw [cell_of HB3.out]; rfl
 have c2 : wz.cell? ⟨w.heap.size + 1, 2, none⟩ = some (vI V) := by rw [cell_of HB3.out]; rfl
 have c3 : wz.cell? ⟨w.heap.size + 1, 3, none⟩ = some v2 := by rw [cell_of HB3.out]; rfl
 refine bodyPost_ret (v := .agg #[vI P, vI R, vI V, v2]) ?_ rfl ⟨v2, rfl, HX.out, HFX.out⟩
 rw [results_cell (p := 2) (ty := 42) Tryd.results17]
 simp [go_sem, c0, c1, c2, c3]
end Go.Proofs.YtingenonbkencabDoor
