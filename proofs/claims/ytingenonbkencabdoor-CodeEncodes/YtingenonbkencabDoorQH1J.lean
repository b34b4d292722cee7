import Derived.Test.YtingenonbkencabDoorQB1
import Derived.Test.YtingenonbkencabDoorQB2J
import Derived.Test.YtingenonbkencabDoorQA3
import Derived.BigFrame
import Derived.Test.YtingenonbkencabDoorQE6J
import Derived.Test.YtingenonbkencabDoorQE5J
set_option linter.unusedVariables false
set_option linter.unusedSimpArgs false
namespace Go.Proofs.YtingenonbkencabDoor
open Go.RowKit (wrap32 wrap64)
set_option maxRecDepth 100000
set_option maxHeartbeats 1000000
theorem leave_any (a b c : Value) (w : World) : Calls Tryd.prog 32 #[a, b, c] w fun e w' => e = .returned (.tuple #[]) ∧ w' = w := by
 go_enter Tryd.func32, Tryd.ntmps32
 go_wp2
 go_end0
 exact ⟨rfl, rfl⟩
def leaving (b : Nat) : Mode b where
 σ := Unit
 S := fun _ => False
 N := fun k => k = 0
 fn := vF 32
 I := fun _ _ w => b ≠ 0 ∧ Tab w
 eff := fun st _ _ old => .ok (old, st)
 tab := fun _ _ _ h => h.2
 stable := fun _ _ _ _ h f => ⟨h.1, h.2.fr f (fun e => h.1 e.symm)⟩
theorem wrap64_wrap (x : Int) : wrap64 x = IntKind.i64.wrap x := by
 rw [IntKind.wrap_i64]; unfold wrap64; omega
theorem next_leaves (b : Nat) (p : Addr) (at' : Int) (size : Nat) (w : World) (h0 : w.cell? ⟨b, 0, none⟩ = some (vF 32)) (h1 : w.cell? ⟨b, 1, none⟩ = some (vI at')) (f1 : w.frozen? ⟨b, 1, none⟩ = false) :
 Calls Tryd.prog 64 #[.pointer (some ⟨b, 0, none⟩), .pointer (some p), .int .i64 size] w fun e w' =>
  e = .returned (vI at') ∧ w' = w.setCell ⟨b, 1, none⟩ (vI (adv at' size)) := by
 unfold adv
 rw [← wrap64_wrap]
 go_enter Tryd.func64, Tryd.ntmps64
 go_wp2_with fail
 refine (leave_any _ _ _ _).mono ?_
 rintro e w' ⟨rfl, rfl⟩
 go_wp2_with fail
 go_ret
 exact ⟨rfl, rfl⟩
theorem set_get (s : WS) (o : Nat) : s.set o (s.get o) = s := by
 by_cases h146 : o = 146
 ·subst h146; rfl
 by_cases h149 : o = 149
 ·subst h149; rfl
 by_cases h150 : o = 150
 ·subst h150; rfl
 by_cases h151 : o = 151
 ·subst h151; rfl
 by_cases h153 : o = 153
 ·subst h153; rfl
 by_cases h154 : o = 154
 ·subst h154; rfl
 by_cases h155 : o = 155
 ·subst h155; rfl
 by_cases h156 : o = 156
 ·subst h156; rfl
 by_cases h157 : o = 157
 ·subst h157; rfl
 by_cases h158 : o = 158
 ·subst h158; rfl
 unfold WS.set WS.get
 rw [if_neg h146, if_neg h149, if_neg h150, if_neg h151, if_neg h153, if_neg h154, if_neg h155, if_neg h156, if_neg h157, if_neg h158, if_neg h146, if_neg h149, if_neg h150, if_neg h151, if_neg h153, if_neg h154, if_neg h155, if_neg h156, if_neg h157, if_neg h158]
theorem leaving_own (b : Nat) : NextOwn (leaving b) := by
 intro o ho x size w hx hs1 hs8
 obtain ⟨s, st⟩ := x
 obtain ⟨hl, hn, hI⟩ := hx
 simp only at hl hn hI
 have h0 : w.cell? ⟨b, 0, none⟩ = some (vF 32) := by rw [hl.facts.1, hn]; rfl
 refine (next_leaves b ⟨b, o, none⟩ s.at' size w h0 hl.facts.2.1 (hl.frozen 1)).mono ?_
 rintro e w' ⟨rfl, rfl⟩
 have hfr : Fr (fun k => k = b) w (w.setCell ⟨b, 1, none⟩ (vI (adv s.at' size))) := Fr.setCell (Fr.refl (fun k => k = b) w) _ _ (Or.inl rfl)
 refine ⟨hfr.mono (fun k _ hk => Or.inl hk), ?_⟩
 simp only [nextX, leaving, set_get]
 exact ⟨trivial, hl.setCell 1 _ (cells_at _ _), hn, (leaving b).stable () s.at' _ _ hI hfr⟩
set_option maxRecDepth 100000
abbrev pp (b o : Nat) : Value := .pointer (some ⟨b, o, none⟩)
theorem op_nil {ρ : Operand → Value} {o : Oper} {x : Operand} (h : o.op = .nilCheck x) {b q : Nat} (hv : ρ x = pp b q) (w : World) : (execOp ρ o).run Tryd.prog w = .ok (.value (pp b q)) w := by
 unfold execOp
 rw [h]
 simp only [hv]
 rfl
theorem op_fld84 {ρ : Operand → Value} {o : Oper} {x : Operand} {i : Nat} (h : o.op = .fieldAddr 66 x i) (hi : i < 6) {b q : Nat} (hv : ρ x = pp b q) (w : World) : (execOp ρ o).run Tryd.prog w = .ok (.value (pp b (q + i))) w := by
 unfold execOp
 rw [h]
 simp only [hv]
 rcases (show i = 0 ∨ i = 1 ∨ i = 2 ∨ i = 3 ∨ i = 4 ∨ i = 5 by omega) with rfl | rfl | rfl | rfl | rfl | rfl <;> kernel_rfl
theorem op_fld71 {ρ : Operand → Value} {o : Oper} {x : Operand} {i : Nat} (h : o.op = .fieldAddr 57 x i) (hi : i < 7) {b q : Nat} (hv : ρ x = pp b q) (w : World) : (execOp ρ o).run Tryd.prog w = .ok (.value (pp b (q + i))) w := by
 unfold execOp
 rw [h]
 simp only [hv]
 rcases (show i = 0 ∨ i = 1 ∨ i = 2 ∨ i = 3 ∨ i = 4 ∨ i = 5 ∨ i = 6 by omega) with rfl | rfl | rfl | rfl | rfl | rfl | rfl <;> kernel_rfl
theorem op_load {ρ : Operand → Value} {o : Oper} {x : Operand} {ty : TypeId} (h : o.op = .load ty x) (ht : ty = 3 ∨ ty = 55 ∨ ty = 63 ∨ ty = 64) {b q : Nat} (hv : ρ x = pp b q) {w : World} {v : Value} (hc : w.cell? ⟨b, q, none⟩ = some v) : (execOp ρ o).run Tryd.prog w = .ok (.value v) w := by
 unfold execOp
 rw [h]
 simp only [hv]
 rcases ht with rfl | rfl | rfl | rfl <;> simp [go_sem, hc]
theorem op_neq {ρ : Operand → Value} {o : Oper} {x : Operand} {ty ty' : TypeId} (h : o.op = .binOp .neq ty x (.const .nilFunc) ty') (hρ : ρ (.const .nilFunc) = .nilFunc) (ht : ty = 63 ∨ ty = 64) (w : World) : (ρ x = vN → (execOp ρ o).run Tryd.prog w = .ok (.value (.bool false)) w) ∧ (∀ f, ρ x = vF f → (execOp ρ o).run Tryd.prog w = .ok (.value (.bool true)) w) := by
 refine ⟨fun hv => ?_, fun f hv => ?_⟩
 ·unfold execOp
  rw [h]
  simp only [hv, hρ]
  rcases ht with rfl | rfl <;> kernel_rfl
 ·unfold execOp
  rw [h]
  simp only [hv, hρ]
  rcases ht with rfl | rfl <;> kernel_rfl
theorem op_eql {ρ : Operand → Value} {o : Oper} {x : Operand} {ty' : TypeId} (h : o.op = .binOp .eql 3 x (.const (vI 0)) ty') (hρ : ρ (.const (vI 0)) = vI 0) (w : World) {z : Int} (hv : ρ x = vI z) : (execOp ρ o).run Tryd.prog w = .ok (.value (.bool (z == 0))) w := by
 unfold execOp
 rw [h]
 simp only [hv, hρ]
 simp [go_sem]
def ev2 (b : Nat) (mem : Nat → Option Value) (zz : Nat → Int) (tb : Nat → Bool) (ops : Array Oper) (o : Oper) (a : Act) : Option (Act × List (Value × Value)) :=
 bif Region.wanted o (yielded ops a.tmps) then
  match o.op with
  | .move x => some (a.put o.dst (a.eval x), [])
  | .assign x => some (a.put o.dst (a.eval x), [])
  | .pick c x y =>
    match a.eval c with
    | .bool true => some (a.put o.dst (a.eval x), [])
    | .bool false => some (a.put o.dst (a.eval y), [])
    | _ => none
  | .nilCheck x =>
    match a.eval x with
    | .pointer (some ⟨k, q, none⟩) => some (a.put o.dst (pp k q), [])
    | _ => none
  | .fieldAddr ty x i =>
    match a.eval x with
    | .pointer (some ⟨k, q, none⟩) =>
      bif (ty == 66 && Nat.blt i 6) || (ty == 57 && Nat.blt i 7) then some (a.put o.dst (pp k (q + i)), []) else none
    | _ => none
  | .load ty x =>
    match a.eval x with
    | .pointer (some ⟨k, q, none⟩) =>
      bif ty == 3 || ty == 55 || ty == 63 || ty == 64 then
       match mem q with
       | some v => some (a.put o.dst v, [(pp k q, pp b q)])
       | none => none
      else none
    | _ => none
  | .binOp .neq ty x (.const .nilFunc) _ =>
    bif ty == 63 || ty == 64 then
     match a.eval x with
     | .nilFunc => some (a.put o.dst (.bool false), [])
     | .func (.func _) first cap => bif first.toList.isEmpty && cap.toList.isEmpty then some (a.put o.dst (.bool true), []) else none
     | _ => none
    else none
  | .binOp .eql ty x (.const (.int .i64 0)) _ =>
    bif ty == 3 then
     match o.dst with
     | some d => some (a.put o.dst (.bool (tb d)), [(a.eval x, vI (zz d))])
     | none => none
    else none
  | .call c =>
    match c.callee, c.args.toList, c.argTypes.toList with
    | .builtin .len, [x], [ty] =>
      bif ty == 55 then
       match a.eval x with
       | .slice _ n _ => some (a.put o.dst (vI n), [])
       | _ => none
      else none
    | _, _, _ => none
  | _ => none
 else some (a.put o.dst undef, [])
theorem op_len {ρ : Operand → Value} {o : Oper} {x : Operand} (h : o.op = .call { callee := .builtin .len, args := #[x], argTypes := #[55] }) (w : World) {a : Option Addr} {n c : Nat} (hv : ρ x = .slice a n c) : (execOp ρ o).run Tryd.prog w = .ok (.value (vI n)) w := by
 obtain ⟨dst, op, ty, pos, after, guard⟩ := o
 simp only at h
 subst h
 show (builtin .len #[55] ty ((#[x] : Array Operand).map fun | .const _ => true | _ => false) ((#[x] : Array Operand).map ρ)).run Tryd.prog w = .ok (.value (vI n)) w
 have e : (#[x] : Array Operand).map ρ = #[ρ x] := by simp
 simp only [e, hv]
 simp [go_sem]
def ev2L (b : Nat) (mem : Nat → Option Value) (zz : Nat → Int) (tb : Nat → Bool) (ops : Array Oper) : List Oper → Act → Option (Act × List (Value × Value))
 | [], a => some (a, [])
 | o :: rest, a => match ev2 b mem zz tb ops o a with
   | some (a', l) => match ev2L b mem zz tb ops rest a' with
     | some (a2, l2) => some (a2, l ++ l2)
     | none => none
   | none => none
theorem wp_value {o : Oper} {a : Act} {w : World} {K : Act → World → Prop} {Q : Exit → Act → World → Prop} {v : Value} (h : (execOp a.eval o).run Tryd.prog w = .ok (.value v) w) (hk : K (a.put o.dst v) w) : o.wp Tryd.prog a w K Q := by
 unfold Oper.wp
 rw [h]
 exact hk
theorem ev2_sound {b : Nat} {mem : Nat → Option Value} {zz : Nat → Int} {tb : Nat → Bool} {ops : Array Oper} {o : Oper} {a a' : Act} {l : List (Value × Value)} {w : World} {rest : List Oper} {Q : Exit → Act → World → Prop}
 (hm : ∀ q v, mem q = some v → w.cell? ⟨b, q, none⟩ = some v) (hz : ∀ d, (zz d == 0) = tb d) (h : ev2 b mem zz tb ops o a = some (a', l)) (hl : ∀ p ∈ l, p.1 = p.2) (ih : wpList Tryd.prog ops Q rest a' w) : wpList Tryd.prog ops Q (o :: rest) a w := by
 unfold ev2 at h
 cases hw : Region.wanted o (yielded ops a.tmps) with
 | false =>
   rw [hw] at h
   cases h
   exact wpList_skip hw ih
 | true =>
   rw [hw] at h
   refine BigFrame.wpList_want hw (fun K hK => ?_)
   simp only [cond_true] at h
   split at h
   ·rename_i x hx
    cases h
    exact BigFrame.wp_move x hx (hK _ _ ih)
   ·rename_i x hx
    cases h
    exact BigFrame.wp_assign x hx (hK _ _ ih)
   ·rename_i c x y hx
    unfold Oper.wp execOp
    rw [hx]
    split at h
    ·rename_i hc
     cases h
     simp only [hc]
     exact hK _ _ ih
    ·rename_i hc
     cases h
     simp only [hc]
     exact hK _ _ ih
    ·cases h
   ·rename_i x hx
    split at h
    ·rename_i k q hv
     cases h
     exact wp_value (op_nil hx hv w) (hK _ _ ih)
    ·cases h
   ·rename_i ty x i hx
    split at h
    ·rename_i k q hv
     cases hc : ((ty == 66 && Nat.blt i 6) || (ty == 57 && Nat.blt i 7)) with
     | false => rw [hc] at h; cases h
     | true =>
       rw [hc] at h
       cases h
       simp only [Bool.or_eq_true, Bool.and_eq_true, beq_iff_eq, Nat.blt_eq] at hc
       rcases hc with ⟨rfl, hi⟩ | ⟨rfl, hi⟩
       ·exact wp_value (op_fld84 hx hi hv w) (hK _ _ ih)
       ·exact wp_value (op_fld71 hx hi hv w) (hK _ _ ih)
    ·cases h
   ·rename_i ty x hx
    split at h
    ·rename_i k q hv
     cases hc : (ty == 3 || ty == 55 || ty == 63 || ty == 64) with
     | false => rw [hc] at h; cases h
     | true =>
       rw [hc] at h
       simp only [cond_true] at h
       simp only [Bool.or_eq_true, beq_iff_eq] at hc
       split at h
       ·rename_i u hu
        cases h
        have hp : pp k q = pp b q := hl _ List.mem_cons_self
        have hk : k = b := by cases hp; rfl
        subst hk
        exact wp_value (op_load hx (by rcases hc with ((h | h) | h) | h <;> simp [h]) hv (hm q u hu)) (hK _ _ ih)
       ·cases h
    ·cases h
   ·rename_i ty x ty' hx
    cases hc : (ty == 63 || ty == 64) with
    | false => rw [hc] at h; cases h
    | true =>
      rw [hc] at h
      simp only [cond_true] at h
      simp only [Bool.or_eq_true, beq_iff_eq] at hc
      have hq := op_neq (ρ := a.eval) hx rfl hc w
      split at h
      ·rename_i hv
       cases h
       exact wp_value (hq.1 hv) (hK _ _ ih)
      ·rename_i f first cap hv
       cases hf : (first.toList.isEmpty && cap.toList.isEmpty) with
       | false => rw [hf] at h; cases h
       | true =>
         rw [hf] at h
         cases h
         simp only [Bool.and_eq_true, List.isEmpty_iff] at hf
         have e1 : first = #[] := by cases first; simp_all
         have e2 : cap = #[] := by cases cap; simp_all
         subst e1; subst e2
         exact wp_value (hq.2 f hv) (hK _ _ ih)
      ·cases h
   ·rename_i ty x ty' hx
    cases hc : (ty == 3) with
    | false => rw [hc] at h; cases h
    | true =>
      rw [hc] at h
      simp only [cond_true] at h
      simp only [beq_iff_eq] at hc
      subst hc
      split at h
      ·rename_i d hd
       cases h
       have hp : a.eval x = vI (zz d) := hl _ List.mem_cons_self
       have := op_eql (ρ := a.eval) hx rfl w hp
       rw [hz d] at this
       exact wp_value this (hK _ _ ih)
      ·cases h
   ·rename_i c hx
    split at h
    ·rename_i x ty h1 h2 h3
     cases hc : (ty == 55) with
     | false => rw [hc] at h; cases h
     | true =>
       rw [hc] at h
       simp only [cond_true] at h
       simp only [beq_iff_eq] at hc
       subst hc
       obtain ⟨callee, args, argTypes⟩ := c
       simp only at h1 h2 h3
       subst h1
       have e2 : args = #[x] := by cases args; simp_all
       have e3 : argTypes = #[55] := by cases argTypes; simp_all
       subst e2; subst e3
       split at h
       ·rename_i aa n c hv
        cases h
        exact wp_value (op_len hx w hv) (hK _ _ ih)
       ·cases h
    ·cases h
   ·cases h
theorem ev2L_sound {b : Nat} {mem : Nat → Option Value} {zz : Nat → Int} {tb : Nat → Bool} {ops : Array Oper} {w : World} {Q : Exit → Act → World → Prop} (hm : ∀ q v, mem q = some v → w.cell? ⟨b, q, none⟩ = some v) (hz : ∀ d, (zz d == 0) = tb d) :
 ∀ {rest : List Oper} {a a' : Act} {l : List (Value × Value)}, ev2L b mem zz tb ops rest a = some (a', l) → (∀ p ∈ l, p.1 = p.2) → Q .normal a' w → wpList Tryd.prog ops Q rest a w
 | [], a, a', l, h, _, hq => by
   cases h
   exact hq
 | o :: rest, a, a', l, h, hl, hq => by
   unfold ev2L at h
   split at h
   ·rename_i a1 l1 h1
    split at h
    ·rename_i a2 l2 h2
     cases h
     exact ev2_sound hm hz h1 (fun p hp => hl p (List.mem_append_left _ hp)) (ev2L_sound hm hz h2 (fun p hp => hl p (List.mem_append_right _ hp)) hq)
    ·cases h
   ·cases h
theorem wpList_names {b : Nat} {mem : Nat → Option Value} {zz : Nat → Int} {tb : Nat → Bool} {ops : Array Oper} {w : World} {Q : Exit → Act → World → Prop} {rest : List Oper} {a : Act} (t : Tmp) (v : Value) (hm : ∀ q v, mem q = some v → w.cell? ⟨b, q, none⟩ = some v) (hz : ∀ d, (zz d == 0) = tb d)
 (h1 : ((ev2L b mem zz tb ops rest a).map fun r => (r.1.tmps.getD t undef, r.1.defers, r.2.map (·.1))) = ((ev2L b mem zz tb ops rest a).map fun r => (v, [], r.2.map (·.2)))) (h2 : (ev2L b mem zz tb ops rest a).isSome = true)
 (hq : ∀ a', a'.tmps.getD t undef = v → a'.defers = [] → Q .normal a' w) : wpList Tryd.prog ops Q rest a w := by
 cases e : ev2L b mem zz tb ops rest a with
 | none => rw [e] at h2; cases h2
 | some r =>
   obtain ⟨a', l⟩ := r
   rw [e] at h1
   simp only [Option.map_some, Option.some.injEq, Prod.mk.injEq] at h1
   refine ev2L_sound hm hz e (fun p hp => ?_) (hq a' h1.1 h1.2.1)
   have key : ∀ (l : List (Value × Value)), l.map (·.1) = l.map (·.2) → ∀ p ∈ l, p.1 = p.2 := fun l => by
    induction l with
    | nil => intro _ p hp; cases hp
    | cons x r ih =>
      intro h p hp
      simp only [List.map_cons, List.cons.injEq] at h
      rcases List.mem_cons.1 hp with rfl | hp
      ·exact h.1
      ·exact ih h.2 p hp
   exact key l h1.2.2 p hp
def memOf : List (Nat × Value) → Nat → Option Value
 | [], _ => none
 | p :: r, q => bif p.1 == q then some p.2 else memOf r q
theorem memOf_sound {b : Nat} {w : World} : ∀ {l : List (Nat × Value)}, (∀ p ∈ l, w.cell? ⟨b, p.1, none⟩ = some p.2) → ∀ q v, memOf l q = some v → w.cell? ⟨b, q, none⟩ = some v
 | [], _, _, _, h => by cases h
 | p :: r, hl, q, v, h => by
   unfold memOf at h
   cases hc : (p.1 == q) with
   | true =>
     rw [hc] at h
     cases h
     rw [← beq_iff_eq.1 hc]
     exact hl p List.mem_cons_self
   | false =>
     rw [hc] at h
     exact memOf_sound (fun p hp => hl p (List.mem_cons_of_mem _ hp)) q v h
def zzOf : List (Nat × Int × Bool) → Nat → Int
 | [], _ => 0
 | p :: r, q => bif p.1 == q then p.2.1 else zzOf r q
def tbOf : List (Nat × Int × Bool) → Nat → Bool
 | [], _ => true
 | p :: r, q => bif p.1 == q then p.2.2 else tbOf r q
theorem zzOf_sound : ∀ {l : List (Nat × Int × Bool)}, (∀ p ∈ l, (p.2.1 == 0) = p.2.2) → ∀ d, (zzOf l d == 0) = tbOf l d
 | [], _, _ => rfl
 | p :: r, hl, d => by
   unfold zzOf tbOf
   cases hc : (p.1 == d) with
   | true => exact hl p List.mem_cons_self
   | false => exact zzOf_sound (fun p hp => hl p (List.mem_cons_of_mem _ hp)) d
theorem L_next {b : Nat} (o size : Nat) (s : WS) (u : Unit) : nextX (leaving b) o size (s, u) = .ok ({ s with at' := adv s.at' size }, u) := by
 unfold nextX
 simp only [leaving, set_get]
def oneL (v : Int) (x : WS × Unit) : X (WS × Unit) := if varOk x.1.fV v then .ok ({ x.1 with at' := adv x.1.at' 1 }, x.2) else .error (13, x.1.at')
def varsL : List Int → WS × Unit → X (WS × Unit)
 | [], x => .ok x
 | v :: r, x => thenX (oneL v x) (varsL r)
def listL (n : Nat) (l : List Int) (x : WS × Unit) : X (WS × Unit) :=
 if l.length = n then varsL l ({ x.1 with count := l.length, at' := adv x.1.at' 1 }, x.2) else .error (15, x.1.at')
def IL (b : Nat) (w : World) (v : Value) (l : List Int) : Prop :=
 ∃ a c, v = .slice a l.length c ∧ (l ≠ [] → ∃ k o, a = some ⟨k, o, none⟩ ∧ k < w.heap.size ∧ k ≠ b ∧ ∀ j (h : j < l.length), w.cell? ⟨k, o + j, none⟩ = some (vI l[j]))
theorem IL.fr {S : Nat → Prop} {b : Nat} {w w' : World} {v : Value} {l : List Int} (h : IL b w v l) (f : Fr S w w') (hS : ∀ k, S k → k = b) : IL b w' v l := by
 obtain ⟨a, c, e, h⟩ := h
 refine ⟨a, c, e, fun hne => ?_⟩
 obtain ⟨k, o, e, hk, hb, hc⟩ := h hne
 exact ⟨k, o, e, Nat.lt_of_lt_of_le hk f.size, hb, fun j hj => (f.cell hk (fun h => hb (hS k h))).trans (hc j hj)⟩
set_option maxRecDepth 100000
set_option maxHeartbeats 1000000
theorem run_nil_string (w : World) (c : Nat) : (convert 27 9 (.slice none 0 c)).run Tryd.prog w = .ok (.string ⟨#[]⟩) w := by
 rw [run_convert_bytes_string w 27 9 5 _ _ _ Tryd.underlying27 (by kernel_rfl) (by kernel_rfl)]
 rfl
theorem begins_nil (w : World) :
 Calls Tryd.prog 51 #[.agg #[.slice none 0 0]] w fun e w' => e = .returned (.tuple #[]) ∧ w' = (w.alloc (.cells #[.slice none 0 0] 61)).drew := by
 have hcv := run_nil_string
 go_enter Tryd.func51, Tryd.ntmps51
 go_wp2_with fail
 have hcr : (w.alloc (.cells #[.slice none 0 0] 61)).cell? ⟨w.heap.size, 0, none⟩ = some (.slice none 0 0) := by simp
 generalize hwa : (w.alloc (.cells #[.slice none 0 0] 61)) = wa at hcr ⊢
 have Hwa : Hd (w.alloc (.cells #[.slice none 0 0] 61) = wa) := hwa
 clear hwa
 refine wp_region_still_tail 8 mixed (by kernel_rfl) ?_
 simp only [List.take_succ_cons, List.take_zero, List.drop_succ_cons, List.drop_zero]
 repeat still_step
 refine wpStill_nil ?_
 go_wp2_with fail
 refine (must_true 10 0 _).mono ?_
 rintro e w' ⟨rfl, rfl⟩
 go_wp2_with fail
 go_end0
 exact ⟨rfl, by rw [Hwa.out]⟩
end Go.Proofs.YtingenonbkencabDoor
