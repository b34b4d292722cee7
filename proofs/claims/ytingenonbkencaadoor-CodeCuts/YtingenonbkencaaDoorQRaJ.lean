import Derived.Test.YtingenonbkencaaDoorQE6J
import Derived.Test.YtingenonbkencaaDoorQW4
import Derived.Test.YtingenonbkencaaDoorQB8J
import Derived.Test.YtingenonbkencaaDoorQA3J
import Derived.BigFrame
set_option linter.unusedVariables false
set_option linter.unusedSimpArgs false
namespace Go.Proofs.YtingenonbkencaaDoor
open Go.RowKit (wrap32 wrap64)
set_option maxRecDepth 100000
set_option maxHeartbeats 2000000
def NextKeep {b : Nat} (M : Mode b) (rm : M.σ → Nat) : Prop := ∀ (pb po : Nat), ¬ M.SB pb → ∀ (x : WS × M.σ) (v : Int) (size : Nat) (w : World), 1 ≤ rm x.2 → On M w x → 1 ≤ size → size ≤ 8 → w.cell? ⟨pb, po, none⟩ = some (vI v) →
  Calls Tryd.prog 90 #[.pointer (some ⟨b, 0, none⟩), .pointer (some ⟨pb, po, none⟩), .int .i64 size] w fun e w' => Fr M.SB w w' ∧ e = .returned (vI x.1.at') ∧
    ∃ st, M.eff x.2 x.1.at' size v = .ok (v, st) ∧ On M w' ({ x.1 with at' := adv x.1.at' size }, st)
structure KM {b : Nat} (M : Mode b) (rm : M.σ → Nat) : Prop where
  next : NextAt M rm
  other : NextKeep M rm
  goes : RoomGoes M rm
  keeps : Keeps M rm
theorem eff_goes {b : Nat} {M : Mode b} {rm : M.σ → Nat} (hR : RoomGoes M rm) (s : WS) {st st' : M.σ} {p v v' : Int} {size : Nat} (h : M.eff st p size v = .ok (v', st')) : rm st ≤ rm st' + 1 := by
  have e : nextX M 161 size ({ s with at' := p, count := v }, st) = .ok ({ ({ s with at' := p, count := v } : WS).set 161 v' with at' := adv p size }, st') := by
    have g : ({ s with at' := p, count := v } : WS).get 161 = v := rfl
    unfold nextX
    simp only [g, h]
  exact hR _ _ _ _ e
theorem K_next {b : Nat} {M : Mode b} {rm : M.σ → Nat} (hM : KM M rm) (o size : Nat) (s : WS) (st : M.σ) (h : 1 ≤ rm st) :
    ∃ st', nextX M o size (s, st) = .ok ({ s with at' := adv s.at' size }, st') ∧ rm st ≤ rm st' + 1 := by
  obtain ⟨st', e1, e2, -⟩ := next_keep hM.keeps hM.goes o size 0 s st h
  exact ⟨st', e2, hM.goes _ _ _ _ e2⟩
def oneK {b : Nat} (M : Mode b) (v : Int) (x : WS × M.σ) : X (WS × M.σ) :=
  match M.eff x.2 x.1.at' 1 v with
  | .ok (_, st) => if varOk x.1.fV v then .ok ({ x.1 with at' := adv x.1.at' 1 }, st) else .error (13, x.1.at')
  | .error z => .error z
def varsK {b : Nat} (M : Mode b) : List Int → WS × M.σ → X (WS × M.σ)
  | [], x => .ok x
  | v :: r, x => thenX (oneK M v x) (varsK M r)
def listK {b : Nat} (M : Mode b) (n : Nat) (l : List Int) (x : WS × M.σ) : X (WS × M.σ) :=
  thenX (nextX M 161 1 ({ x.1 with count := l.length }, x.2)) fun y => if l.length = n then varsK M l y else .error (15, x.1.at')
theorem oneK_goes {b : Nat} {M : Mode b} {rm : M.σ → Nat} (hR : RoomGoes M rm) {v : Int} {x y : WS × M.σ} (h : oneK M v x = .ok y) : rm x.2 ≤ rm y.2 + 1 := by
  unfold oneK at h
  split at h
  · rename_i v' st hv
    split at h
    · cases h; exact eff_goes hR x.1 hv
    · cases h
  · cases h
theorem varsK_goes {b : Nat} {M : Mode b} {rm : M.σ → Nat} (hR : RoomGoes M rm) : ∀ {l : List Int} {x y : WS × M.σ}, varsK M l x = .ok y → rm x.2 ≤ rm y.2 + l.length
  | [], _, _, h => by cases h; simp
  | v :: r, x, y, h => by
    unfold varsK at h
    cases h1 : oneK M v x with
    | error z => rw [h1] at h; cases h
    | ok x1 =>
      rw [h1] at h
      have h2 := varsK_goes hR (l := r) (x := x1) (y := y) h
      have h3 := oneK_goes hR h1
      simp only [List.length_cons]
      omega
theorem listK_goes {b : Nat} {M : Mode b} {rm : M.σ → Nat} (hR : RoomGoes M rm) {n : Nat} {l : List Int} {x y : WS × M.σ} (h : listK M n l x = .ok y) : rm x.2 ≤ rm y.2 + (n + 1) := by
  unfold listK at h
  cases h1 : nextX M 161 1 ({ x.1 with count := l.length }, x.2) with
  | error z => rw [h1] at h; cases h
  | ok x1 =>
    rw [h1] at h
    have h3 := hR _ _ _ _ h1
    have h3 : rm x.2 ≤ rm x1.2 + 1 := h3
    simp only [thenX] at h
    split at h
    · have h2 := varsK_goes hR h
      omega
    · cases h
theorem variable_K {b : Nat} {M : Mode b} {rm : M.σ → Nat} (hM : KM M rm) (pb po : Nat) (x : WS × M.σ) (v : Int) (w : World) (h : On M w x) (hp : 1 ≤ rm x.2) (hpb : ¬ M.SB pb) (hu : w.cell? ⟨pb, po, none⟩ = some (vI v)) :
    Calls Tryd.prog 80 #[.pointer (some ⟨b, 0, none⟩), .pointer (some ⟨pb, po, none⟩)] w (Ends M w (oneK M v x)) := by
  have hlt : pb < w.heap.size := cell_lt hu
  go_enter Tryd.func80, Tryd.ntmps80
  go_wp2_with fail
  refine (hM.other pb po hpb x v 1 w hp h (by omega) (by omega) hu).mono ?_
  rintro e w1 ⟨hf, rfl, st, hst, hon⟩
  have hc : w1.cell? ⟨pb, po, none⟩ = some (vI v) := (hf.cell hlt hpb).trans hu
  have hcV : w1.cell? ⟨b, 151, none⟩ = some (vI x.1.fV) := hon.1.facts.2.2.2.2.2.2.2.1
  have HX : Hd (oneK M v x = if varOk x.1.fV v then .ok ({ x.1 with at' := adv x.1.at' 1 }, st) else .error (13, x.1.at')) := by
    unfold Hd; simp only [oneK, hst]
  clear hst hu hp h
  by_cases hm : varOk x.1.fV v = true
  · have hm' : decide (0 ≤ v ∧ v ≤ IntKind.i64.wrap (x.1.fV - 1)) = true := by exact hm
    have HM : Hd (varOk x.1.fV v = true) := hm'
    clear hm
    go_wp2_with fail
    refine wp_region_still_tail 11 mixed (by kernel_rfl) ?_
    simp only [List.take_succ_cons, List.take_zero, List.drop_succ_cons, List.drop_zero]
    repeat still_step
    still_call (within_any _ _ _ _)
    repeat still_step
    refine wpStill_nil ?_
    go_wp2_with fail
    refine (must_true 13 x.1.at' _).mono ?_
    rintro e w' ⟨rfl, rfl⟩
    go_wp2_with fail
    go_end0
    refine ⟨hf.drew, ?_⟩
    rw [HX.out, if_pos HM.out]
    exact ⟨rfl, hon.drew⟩
  · have hm' : decide (0 ≤ v ∧ v ≤ IntKind.i64.wrap (x.1.fV - 1)) = false := by simpa [varOk] using hm
    have HM : Hd (varOk x.1.fV v = false) := hm'
    clear hm
    go_wp2_with fail
    refine wp_region_still_tail 11 mixed (by kernel_rfl) ?_
    simp only [List.take_succ_cons, List.take_zero, List.drop_succ_cons, List.drop_zero]
    repeat still_step
    still_call (within_any _ _ _ _)
    repeat still_step
    refine wpStill_nil ?_
    go_wp2_with fail
    refine (must_false 13 x.1.at' _).mono ?_
    rintro e w' ⟨rfl, rfl⟩
    go_wp2_with fail
    refine ⟨rfl, hf.drew, ?_⟩
    rw [HX.out, if_neg (by rw [HM.out]; simp)]
def IS (S : Nat → Prop) (w : World) (v : Value) (l : List Int) : Prop :=
  ∃ a c, v = .slice a l.length c ∧ (l ≠ [] → ∃ k o, a = some ⟨k, o, none⟩ ∧ k < w.heap.size ∧ ¬ S k ∧ ∀ j (h : j < l.length), w.cell? ⟨k, o + j, none⟩ = some (vI l[j]))
theorem IS.fr {S : Nat → Prop} {w w' : World} {v : Value} {l : List Int} (h : IS S w v l) (f : Fr S w w') : IS S w' v l := by
  obtain ⟨a, c, e, h⟩ := h
  refine ⟨a, c, e, fun hne => ?_⟩
  obtain ⟨k, o, e, hk, hb, hc⟩ := h hne
  exact ⟨k, o, e, Nat.lt_of_lt_of_le hk f.size, hb, fun j hj => (f.cell hk hb).trans (hc j hj)⟩
theorem oneK_getL {b : Nat} {M : Mode b} {o : Nat} {v : Int} {x y : WS × M.σ} (h : oneK M v x = .ok y) : y.1.getL o = x.1.getL o := by
  unfold oneK at h
  split at h
  · split at h
    · cases h; rfl
    · cases h
  · cases h
theorem list_K {b : Nat} {M : Mode b} {rm : M.σ → Nat} (hM : KM M rm) (o n : Nat) (ho : o = 159 ∨ o = 160) (x : WS × M.σ) (w : World) (h : On M w x) (hp : n + 1 ≤ rm x.2) (l : List Int) (hl : IS M.SB w (x.1.getL o) l) (hll : l.length ≤ 1000000000000000) (hn : n ≤ 255) :
    Calls Tryd.prog 100 #[.pointer (some ⟨b, 0, none⟩), .pointer (some ⟨b, o, none⟩), .int .i64 n] w (Ends M w (listK M n l x)) := by
  obtain ⟨a, c, hsl, hin⟩ := hl
  have HIN : Hd _ := hin
  clear hin
  have hcl : w.cell? ⟨b, o, none⟩ = some (.slice a l.length c) := by rw [h.1.cell, cells_getL _ _ ho, hsl]
  have hc161 : w.cell? ⟨b, 161, none⟩ = some (vI x.1.count) := h.1.facts.2.2.2.2.2.2.2.2.2.2.2.2.2.2.2.2.2
  have hz161 := h.1.frozen 161
  have hf0 : Fr (· = b) w (w.setCell ⟨b, 161, none⟩ (vI l.length)) := Fr.setCell (Fr.refl (fun k => k = b) w) _ _ (Or.inl rfl)
  have hl0 : Lies (w.setCell ⟨b, 161, none⟩ (vI l.length)) b { x.1 with count := l.length } := h.1.setCell 161 _ (cells_set _ 161 _ (by simp [places]))
  have hon0 : On M (w.setCell ⟨b, 161, none⟩ (vI l.length)) ({ x.1 with count := l.length }, x.2) := h.fr hf0 hl0 rfl rfl
  have hb := h.1.lt
  obtain ⟨st1, hnx, hrm1⟩ := K_next hM 161 1 { x.1 with count := l.length } x.2 (by omega)
  have hrm : Hd (n ≤ rm st1) := by unfold Hd; omega
  have hN := hM.next 161 (by simp [places]) ({ x.1 with count := l.length }, x.2) 1 _ (by show 1 ≤ rm x.2; omega) hon0 (by omega) (by omega)
  rw [hnx] at hN
  have HL0 : Hd (listK M n l x = if l.length = n then varsK M l ({ x.1 with count := l.length, at' := adv x.1.at' 1 }, st1) else .error (15, x.1.at')) := by
    unfold Hd listK; rw [hnx]; rfl
  clear hnx hrm1 hp
  go_enter Tryd.func100, Tryd.ntmps100
  go_wp2_with fail
  refine hN.mono ?_
  rintro e w1 ⟨hf1, rfl, hon1⟩
  have hfa : Fr M.SB w w1 := (hf0.mono (fun k _ hk => Or.inl hk)).trans hf1
  obtain ⟨y, hy⟩ : ∃ y : WS × M.σ, y = ({ x.1 with count := l.length, at' := adv x.1.at' 1 }, st1) := ⟨_, rfl⟩
  have hon1 : On M w1 y := by rw [hy]; exact hon1
  have hcc : w1.cell? ⟨b, 161, none⟩ = some (vI l.length) := by rw [hon1.1.facts.2.2.2.2.2.2.2.2.2.2.2.2.2.2.2.2.2, hy]
  have hyL : y.1.getL o = .slice a l.length c := by
    rw [hy]
    rcases ho with rfl | rfl <;> exact hsl
  have hry : Hd (n ≤ rm y.2) := by unfold Hd; rw [hy]; exact hrm.out
  have hcl1 : w1.cell? ⟨b, o, none⟩ = some (.slice a l.length c) := by rw [hon1.1.cell, cells_getL _ _ ho, hyL]
  have HL : Hd (listK M n l x = if l.length = n then varsK M l y else .error (15, x.1.at')) := by unfold Hd; rw [HL0.out, hy]
  clear hy hf1 hf0 hl0 hon0 hc161 hz161 HL0 hrm hN
  by_cases hm : l.length = n
  rotate_left
  · have hm' : (((l.length : Nat) : Int) == (n : Int)) = false := by simp; omega
    have HM : Hd (¬ l.length = n) := hm
    clear hm
    go_wp2_with fail
    refine (must_false 15 x.1.at' _).mono ?_
    rintro e w' ⟨rfl, rfl⟩
    go_wp2_with fail
    refine ⟨rfl, hfa, ?_⟩
    rw [HL.out, if_neg HM.out]
  subst hm
  have HLV : Hd (listK M l.length l x = varsK M l y) := by unfold Hd; rw [HL.out, if_pos rfl]
  clear HL
  go_wp2_with fail
  refine (must_true 15 x.1.at' _).mono ?_
  rintro e w' ⟨rfl, rfl⟩
  go_wp2_with fail
  go_loopw [42] (fun i wr => ∃ (k : Nat) (z : WS × M.σ), k ≤ l.length ∧ i = .int .i64 k ∧ On M wr z ∧ Hd (z.1.getL o = .slice a l.length c) ∧ Fr M.SB w wr ∧ Hd (l.length ≤ rm z.2 + k) ∧ Hd (varsK M l y = varsK M (l.drop k) z)) (fun i _ => match i with | .int _ q => l.length - q.toNat | _ => 0)
  case atStart => exact ⟨0, y, Nat.zero_le _, rfl, hon1, hyL, hfa, hry, rfl⟩
  case round =>
    obtain ⟨k, z, hk, rfl, honz, hzL, hfz, hrz, hvx⟩ := hrel
    have hclz : wr.cell? ⟨b, o, none⟩ = some (.slice a l.length c) := by rw [honz.1.cell, cells_getL _ _ ho, hzL.out]
    by_cases hlt : k < l.length
    · obtain ⟨pk, po, rfl, hpk, hpb, hcs⟩ := HIN.out (by intro e; simp [e] at hlt)
      have hce : wr.cell? ⟨pk, po + k, none⟩ = some (vI l[k]) := (hfz.cell hpk hpb).trans (hcs k hlt)
      have hdrop : Hd (l.drop k = l[k] :: l.drop (k + 1)) := List.drop_eq_getElem_cons hlt
      generalize l[k] = lk at hce hdrop
      have hcdz := variable_K hM pk (po + k) z lk wr honz (by have := hrz.out; omega) hpb hce
      clear hcs
      go_wp2_with fail
      refine hcdz.mono ?_
      rintro e w2 ⟨hf2, hres⟩
      cases hox : oneK M lk z with
      | error er =>
        rw [hox] at hres
        have hres : e = .panicked (viol er.1 er.2) := hres
        subst hres
        go_wp2_with fail
        refine ⟨rfl, hfz.trans hf2, ?_⟩
        rw [HLV.out, hvx.out, hdrop.out]
        simp only [varsK, hox, thenX]
      | ok z2 =>
        rw [hox] at hres
        obtain ⟨rfl, hon2⟩ := hres
        have hz2 : Hd (z2.1.getL o = .slice (some ⟨pk, po, none⟩) l.length c) := (oneK_getL hox).trans hzL.out
        have hrz2 : Hd (l.length ≤ rm z2.2 + (k + 1)) := by have h1 := oneK_goes hM.goes hox; have h2 := hrz.out; unfold Hd; omega
        have hvx2 : Hd (varsK M l y = varsK M (l.drop (k + 1)) z2) := by
          unfold Hd; rw [hvx.out, hdrop.out]; simp only [varsK, hox, thenX]
        clear hcdz hce hox hvx hzL hclz hrz
        go_wp2_with fail
        exact ⟨⟨k + 1, z2, by omega, by simp, hon2, hz2, hfz.trans hf2, hrz2, hvx2⟩, by simp; omega⟩
    · have hkl : k = l.length := by omega
      subst hkl
      have hvl : Hd (varsK M l y = .ok z) := by unfold Hd; rw [hvx.out, List.drop_length]; rfl
      clear hvx
      go_wp2_with fail
      go_end0
      refine ⟨hfz, ?_⟩
      rw [HLV.out, hvl.out]
      exact ⟨rfl, honz⟩
set_option maxRecDepth 100000
abbrev pp (b o : Nat) : Value := .pointer (some ⟨b, o, none⟩)
theorem op_nil {ρ : Operand → Value} {o : Oper} {x : Operand} (h : o.op = .nilCheck x) {b q : Nat} (hv : ρ x = pp b q) (w : World) : (execOp ρ o).run Tryd.prog w = .ok (.value (pp b q)) w := by
  unfold execOp
  rw [h]
  simp only [hv]
  rfl
theorem op_fld84 {ρ : Operand → Value} {o : Oper} {x : Operand} {i : Nat} (h : o.op = .fieldAddr 84 x i) (hi : i < 6) {b q : Nat} (hv : ρ x = pp b q) (w : World) : (execOp ρ o).run Tryd.prog w = .ok (.value (pp b (q + i))) w := by
  unfold execOp
  rw [h]
  simp only [hv]
  rcases (show i = 0 ∨ i = 1 ∨ i = 2 ∨ i = 3 ∨ i = 4 ∨ i = 5 by omega) with rfl | rfl | rfl | rfl | rfl | rfl <;> kernel_rfl
theorem op_fld71 {ρ : Operand → Value} {o : Oper} {x : Operand} {i : Nat} (h : o.op = .fieldAddr 71 x i) (hi : i < 7) {b q : Nat} (hv : ρ x = pp b q) (w : World) : (execOp ρ o).run Tryd.prog w = .ok (.value (pp b (q + i))) w := by
  unfold execOp
  rw [h]
  simp only [hv]
  rcases (show i = 0 ∨ i = 1 ∨ i = 2 ∨ i = 3 ∨ i = 4 ∨ i = 5 ∨ i = 6 by omega) with rfl | rfl | rfl | rfl | rfl | rfl | rfl <;> kernel_rfl
theorem op_load {ρ : Operand → Value} {o : Oper} {x : Operand} {ty : TypeId} (h : o.op = .load ty x) (ht : ty = 3 ∨ ty = 64 ∨ ty = 81 ∨ ty = 82) {b q : Nat} (hv : ρ x = pp b q) {w : World} {v : Value} (hc : w.cell? ⟨b, q, none⟩ = some v) : (execOp ρ o).run Tryd.prog w = .ok (.value v) w := by
  unfold execOp
  rw [h]
  simp only [hv]
  rcases ht with rfl | rfl | rfl | rfl <;> simp [go_sem, hc]
theorem op_neq {ρ : Operand → Value} {o : Oper} {x : Operand} {ty ty' : TypeId} (h : o.op = .binOp .neq ty x (.const .nilFunc) ty') (hρ : ρ (.const .nilFunc) = .nilFunc) (ht : ty = 81 ∨ ty = 82) (w : World) : (ρ x = vN → (execOp ρ o).run Tryd.prog w = .ok (.value (.bool false)) w) ∧ (∀ f, ρ x = vF f → (execOp ρ o).run Tryd.prog w = .ok (.value (.bool true)) w) := by
  refine ⟨fun hv => ?_, fun f hv => ?_⟩
  · unfold execOp
    rw [h]
    simp only [hv, hρ]
    rcases ht with rfl | rfl <;> kernel_rfl
  · unfold execOp
    rw [h]
    simp only [hv, hρ]
    rcases ht with rfl | rfl <;> kernel_rfl
theorem op_eql {ρ : Operand → Value} {o : Oper} {x : Operand} {ty' : TypeId} (h : o.op = .binOp .eql 3 x (.const (vI 0)) ty') (hρ : ρ (.const (vI 0)) = vI 0) (w : World) {z : Int} (hv : ρ x = vI z) : (execOp ρ o).run Tryd.prog w = .ok (.value (.bool (z == 0))) w := by
  unfold execOp
  rw [h]
  simp only [hv, hρ]
  simp [go_sem]
def ev2 (b : Nat) (mem : Nat → Option Value) (zz : Nat → Int) (tb : Nat → Bool) (ops : Array Oper) (o : Oper) (a : Act) : Option (Act × List (Value × Value)) :=
  bif Region.wanted o (yielded ops a.tmps) then
    match o.op with
    | .move x => some (a.put o.dst (a.eval x), [])
    | .assign x => some (a.put o.dst (a.eval x), [])
    | .pick c x y =>
      match a.eval c with
      | .bool true => some (a.put o.dst (a.eval x), [])
      | .bool false => some (a.put o.dst (a.eval y), [])
      | _ => none
    | .nilCheck x =>
      match a.eval x with
      | .pointer (some ⟨k, q, none⟩) => some (a.put o.dst (pp k q), [])
      | _ => none
    | .fieldAddr ty x i =>
      match a.eval x with
      | .pointer (some ⟨k, q, none⟩) =>
        bif (ty == 84 && Nat.blt i 6) || (ty == 71 && Nat.blt i 7) then some (a.put o.dst (pp k (q + i)), []) else none
      | _ => none
    | .load ty x =>
      match a.eval x with
      | .pointer (some ⟨k, q, none⟩) =>
        bif ty == 3 || ty == 64 || ty == 81 || ty == 82 then
          match mem q with
          | some v => some (a.put o.dst v, [(pp k q, pp b q)])
          | none => none
        else none
      | _ => none
    | .binOp .neq ty x (.const .nilFunc) _ =>
      bif ty == 81 || ty == 82 then
        match a.eval x with
        | .nilFunc => some (a.put o.dst (.bool false), [])
        | .func (.func _) first cap => bif first.toList.isEmpty && cap.toList.isEmpty then some (a.put o.dst (.bool true), []) else none
        | _ => none
      else none
    | .binOp .eql ty x (.const (.int .i64 0)) _ =>
      bif ty == 3 then
        match o.dst with
        | some d => some (a.put o.dst (.bool (tb d)), [(a.eval x, vI (zz d))])
        | none => none
      else none
    | .call c =>
      match c.callee, c.args.toList, c.argTypes.toList with
      | .builtin .len, [x], [ty] =>
        bif ty == 64 then
          match a.eval x with
          | .slice _ n _ => some (a.put o.dst (vI n), [])
          | _ => none
        else none
      | _, _, _ => none
    | _ => none
  else some (a.put o.dst undef, [])
theorem op_len {ρ : Operand → Value} {o : Oper} {x : Operand} (h : o.op = .call { callee := .builtin .len, args := #[x], argTypes := #[64] }) (w : World) {a : Option Addr} {n c : Nat} (hv : ρ x = .slice a n c) : (execOp ρ o).run Tryd.prog w = .ok (.value (vI n)) w := by
  obtain ⟨dst, op, ty, pos, after, guard⟩ := o
  simp only at h
  subst h
  show (builtin .len #[64] ty ((#[x] : Array Operand).map fun | .const _ => true | _ => false) ((#[x] : Array Operand).map ρ)).run Tryd.prog w = .ok (.value (vI n)) w
  have e : (#[x] : Array Operand).map ρ = #[ρ x] := by simp
  simp only [e, hv]
  simp [go_sem]
def ev2L (b : Nat) (mem : Nat → Option Value) (zz : Nat → Int) (tb : Nat → Bool) (ops : Array Oper) : List Oper → Act → Option (Act × List (Value × Value))
  | [], a => some (a, [])
  | o :: rest, a => match ev2 b mem zz tb ops o a with
    | some (a', l) => match ev2L b mem zz tb ops rest a' with
      | some (a2, l2) => some (a2, l ++ l2)
      | none => none
    | none => none
theorem wp_value {o : Oper} {a : Act} {w : World} {K : Act → World → Prop} {Q : Exit → Act → World → Prop} {v : Value} (h : (execOp a.eval o).run Tryd.prog w = .ok (.value v) w) (hk : K (a.put o.dst v) w) : o.wp Tryd.prog a w K Q := by
  unfold Oper.wp
  rw [h]
  exact hk
theorem ev2_sound {b : Nat} {mem : Nat → Option Value} {zz : Nat → Int} {tb : Nat → Bool} {ops : Array Oper} {o : Oper} {a a' : Act} {l : List (Value × Value)} {w : World} {rest : List Oper} {Q : Exit → Act → World → Prop}
    (hm : ∀ q v, mem q = some v → w.cell? ⟨b, q, none⟩ = some v) (hz : ∀ d, (zz d == 0) = tb d) (h : ev2 b mem zz tb ops o a = some (a', l)) (hl : ∀ p ∈ l, p.1 = p.2) (ih : wpList Tryd.prog ops Q rest a' w) : wpList Tryd.prog ops Q (o :: rest) a w := by
  unfold ev2 at h
  cases hw : Region.wanted o (yielded ops a.tmps) with
  | false =>
    rw [hw] at h
    cases h
    exact wpList_skip hw ih
  | true =>
    rw [hw] at h
    refine BigFrame.wpList_want hw (fun K hK => ?_)
    simp only [cond_true] at h
    split at h
    · rename_i x hx
      cases h
      exact BigFrame.wp_move x hx (hK _ _ ih)
    · rename_i x hx
      cases h
      exact BigFrame.wp_assign x hx (hK _ _ ih)
    · rename_i c x y hx
      unfold Oper.wp execOp
      rw [hx]
      split at h
      · rename_i hc
        cases h
        simp only [hc]
        exact hK _ _ ih
      · rename_i hc
        cases h
        simp only [hc]
        exact hK _ _ ih
      · cases h
    · rename_i x hx
      split at h
      · rename_i k q hv
        cases h
        exact wp_value (op_nil hx hv w) (hK _ _ ih)
      · cases h
    · rename_i ty x i hx
      split at h
      · rename_i k q hv
        cases hc : ((ty == 84 && Nat.blt i 6) || (ty == 71 && Nat.blt i 7)) with
        | false => rw [hc] at h; cases h
        | true =>
          rw [hc] at h
          cases h
          simp only [Bool.or_eq_true, Bool.and_eq_true, beq_iff_eq, Nat.blt_eq] at hc
          rcases hc with ⟨rfl, hi⟩ | ⟨rfl, hi⟩
          · exact wp_value (op_fld84 hx hi hv w) (hK _ _ ih)
          · exact wp_value (op_fld71 hx hi hv w) (hK _ _ ih)
      · cases h
    · rename_i ty x hx
      split at h
      · rename_i k q hv
        cases hc : (ty == 3 || ty == 64 || ty == 81 || ty == 82) with
        | false => rw [hc] at h; cases h
        | true =>
          rw [hc] at h
          simp only [cond_true] at h
          simp only [Bool.or_eq_true, beq_iff_eq] at hc
          split at h
          · rename_i u hu
            cases h
            have hp : pp k q = pp b q := hl _ List.mem_cons_self
            have hk : k = b := by cases hp; rfl
            subst hk
            exact wp_value (op_load hx (by rcases hc with ((h | h) | h) | h <;> simp [h]) hv (hm q u hu)) (hK _ _ ih)
          · cases h
      · cases h
    · rename_i ty x ty' hx
      cases hc : (ty == 81 || ty == 82) with
      | false => rw [hc] at h; cases h
      | true =>
        rw [hc] at h
        simp only [cond_true] at h
        simp only [Bool.or_eq_true, beq_iff_eq] at hc
        have hq := op_neq (ρ := a.eval) hx rfl hc w
        split at h
        · rename_i hv
          cases h
          exact wp_value (hq.1 hv) (hK _ _ ih)
        · rename_i f first cap hv
          cases hf : (first.toList.isEmpty && cap.toList.isEmpty) with
          | false => rw [hf] at h; cases h
          | true =>
            rw [hf] at h
            cases h
            simp only [Bool.and_eq_true, List.isEmpty_iff] at hf
            have e1 : first = #[] := by cases first; simp_all
            have e2 : cap = #[] := by cases cap; simp_all
            subst e1; subst e2
            exact wp_value (hq.2 f hv) (hK _ _ ih)
        · cases h
    · rename_i ty x ty' hx
      cases hc : (ty == 3) with
      | false => rw [hc] at h; cases h
      | true =>
        rw [hc] at h
        simp only [cond_true] at h
        simp only [beq_iff_eq] at hc
        subst hc
        split at h
        · rename_i d hd
          cases h
          have hp : a.eval x = vI (zz d) := hl _ List.mem_cons_self
          have := op_eql (ρ := a.eval) hx rfl w hp
          rw [hz d] at this
          exact wp_value this (hK _ _ ih)
        · cases h
    · rename_i c hx
      split at h
      · rename_i x ty h1 h2 h3
        cases hc : (ty == 64) with
        | false => rw [hc] at h; cases h
        | true =>
          rw [hc] at h
          simp only [cond_true] at h
          simp only [beq_iff_eq] at hc
          subst hc
          obtain ⟨callee, args, argTypes⟩ := c
          simp only at h1 h2 h3
          subst h1
          have e2 : args = #[x] := by cases args; simp_all
          have e3 : argTypes = #[64] := by cases argTypes; simp_all
          subst e2; subst e3
          split at h
          · rename_i aa n c hv
            cases h
            exact wp_value (op_len hx w hv) (hK _ _ ih)
          · cases h
      · cases h
    · cases h
theorem ev2L_sound {b : Nat} {mem : Nat → Option Value} {zz : Nat → Int} {tb : Nat → Bool} {ops : Array Oper} {w : World} {Q : Exit → Act → World → Prop} (hm : ∀ q v, mem q = some v → w.cell? ⟨b, q, none⟩ = some v) (hz : ∀ d, (zz d == 0) = tb d) :
    ∀ {rest : List Oper} {a a' : Act} {l : List (Value × Value)}, ev2L b mem zz tb ops rest a = some (a', l) → (∀ p ∈ l, p.1 = p.2) → Q .normal a' w → wpList Tryd.prog ops Q rest a w
  | [], a, a', l, h, _, hq => by
    cases h
    exact hq
  | o :: rest, a, a', l, h, hl, hq => by
    unfold ev2L at h
    split at h
    · rename_i a1 l1 h1
      split at h
      · rename_i a2 l2 h2
        cases h
        exact ev2_sound hm hz h1 (fun p hp => hl p (List.mem_append_left _ hp)) (ev2L_sound hm hz h2 (fun p hp => hl p (List.mem_append_right _ hp)) hq)
      · cases h
    · cases h
theorem wpList_names {b : Nat} {mem : Nat → Option Value} {zz : Nat → Int} {tb : Nat → Bool} {ops : Array Oper} {w : World} {Q : Exit → Act → World → Prop} {rest : List Oper} {a : Act} (t : Tmp) (v : Value) (hm : ∀ q v, mem q = some v → w.cell? ⟨b, q, none⟩ = some v) (hz : ∀ d, (zz d == 0) = tb d)
    (h1 : ((ev2L b mem zz tb ops rest a).map fun r => (r.1.tmps.getD t undef, r.1.defers, r.2.map (·.1))) = ((ev2L b mem zz tb ops rest a).map fun r => (v, [], r.2.map (·.2)))) (h2 : (ev2L b mem zz tb ops rest a).isSome = true)
    (hq : ∀ a', a'.tmps.getD t undef = v → a'.defers = [] → Q .normal a' w) : wpList Tryd.prog ops Q rest a w := by
  cases e : ev2L b mem zz tb ops rest a with
  | none => rw [e] at h2; cases h2
  | some r =>
    obtain ⟨a', l⟩ := r
    rw [e] at h1
    simp only [Option.map_some, Option.some.injEq, Prod.mk.injEq] at h1
    refine ev2L_sound hm hz e (fun p hp => ?_) (hq a' h1.1 h1.2.1)
    have key : ∀ (l : List (Value × Value)), l.map (·.1) = l.map (·.2) → ∀ p ∈ l, p.1 = p.2 := fun l => by
      induction l with
      | nil => intro _ p hp; cases hp
      | cons x r ih =>
        intro h p hp
        simp only [List.map_cons, List.cons.injEq] at h
        rcases List.mem_cons.1 hp with rfl | hp
        · exact h.1
        · exact ih h.2 p hp
    exact key l h1.2.2 p hp
def memOf : List (Nat × Value) → Nat → Option Value
  | [], _ => none
  | p :: r, q => bif p.1 == q then some p.2 else memOf r q
theorem memOf_sound {b : Nat} {w : World} : ∀ {l : List (Nat × Value)}, (∀ p ∈ l, w.cell? ⟨b, p.1, none⟩ = some p.2) → ∀ q v, memOf l q = some v → w.cell? ⟨b, q, none⟩ = some v
  | [], _, _, _, h => by cases h
  | p :: r, hl, q, v, h => by
    unfold memOf at h
    cases hc : (p.1 == q) with
    | true =>
      rw [hc] at h
      cases h
      rw [← beq_iff_eq.1 hc]
      exact hl p List.mem_cons_self
    | false =>
      rw [hc] at h
      exact memOf_sound (fun p hp => hl p (List.mem_cons_of_mem _ hp)) q v h
def zzOf : List (Nat × Int × Bool) → Nat → Int
  | [], _ => 0
  | p :: r, q => bif p.1 == q then p.2.1 else zzOf r q
def tbOf : List (Nat × Int × Bool) → Nat → Bool
  | [], _ => true
  | p :: r, q => bif p.1 == q then p.2.2 else tbOf r q
theorem zzOf_sound : ∀ {l : List (Nat × Int × Bool)}, (∀ p ∈ l, (p.2.1 == 0) = p.2.2) → ∀ d, (zzOf l d == 0) = tbOf l d
  | [], _, _ => rfl
  | p :: r, hl, d => by
    unfold zzOf tbOf
    cases hc : (p.1 == d) with
    | true => exact hl p List.mem_cons_self
    | false => exact zzOf_sound (fun p hp => hl p (List.mem_cons_of_mem _ hp)) d
end Go.Proofs.YtingenonbkencaaDoor
