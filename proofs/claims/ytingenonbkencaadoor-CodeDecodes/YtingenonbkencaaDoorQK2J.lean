import Derived.Test.YtingenonbkencaaDoorQK1
import Derived.Test.YtingenonbkencaaDoorQLbJ
import Derived.Test.YtingenonbkencaaDoorQB1
import Derived.Test.YtingenonbkencaaDoorQLa
set_option linter.unusedVariables false
set_option linter.unusedSimpArgs false
namespace Go.Proofs.YtingenonbkencaaDoor
open Go.RowKit (wrap32 wrap64)
set_option maxRecDepth 100000
set_option maxHeartbeats 4000000
abbrev vU (c : UInt8) : Value := .int .u8 (c.toNat : Nat)
def namesB (op : Int) (c : UInt8) : Bool := (partsN op.toNat).toList.any (· == c)
theorem partsN_size (n : Nat) : (partsN n).size ≤ 3 := by
 unfold partsN
 split <;> simp
theorem rnames (op : Int) (c : UInt8) (w : World) : Calls Tryd.prog 103 #[vI op, vU c] w fun r w' => r = .returned (.bool (namesB op c)) ∧ Fr (fun _ => False) w w' := by
 obtain ⟨l, hl⟩ : ∃ l : List UInt8, (partsN op.toNat).toList = l := ⟨_, rfl⟩
 have hP : Hd (namesB op c = l.any (· == c)) := by unfold Hd namesB; rw [hl]
 have hB : partsB op = ⟨l.toArray⟩ := by unfold partsB; rw [← hl]
 have h3 : l.length ≤ 3 := by
  have := partsN_size op.toNat
  rw [← hl]; simpa using this
 have hc := rparts op w
 rw [hB] at hc
 clear hB hl
 go_enter Tryd.func103, Tryd.ntmps103
 go_wp2_with fail
 refine hc.mono ?_
 rintro e w1 ⟨rfl, hf1⟩
 clear hc
 go_wp2_with fail
 go_loopw [6] (fun i wr => ∃ (k : Nat), k ≤ l.length ∧ i = .int .i64 k ∧ wr = w1 ∧ Hd (l.any (· == c) = (l.drop k).any (· == c))) (fun i _ => match i with | .int _ q => l.length - q.toNat | _ => 0)
 case atStart => exact ⟨0, Nat.zero_le _, rfl, rfl, rfl⟩
 case round =>
  obtain ⟨k, hk, rfl, rfl, hv⟩ := hrel
  by_cases hlt : k < l.length
  ·have hp : k < (⟨l.toArray⟩ : ByteArray).size := by show k < l.toArray.size; simpa using hlt
   have hi : (⟨l.toArray⟩ : ByteArray)[k]'hp = l[k] := rfl
   have hd : Hd (l.drop k = l[k] :: l.drop (k + 1)) := List.drop_eq_getElem_cons hlt
   by_cases hu : l[k] = c
   ·have hq : (((((⟨l.toArray⟩ : ByteArray)[k]'hp).toNat : Nat) : Int) == ((c.toNat : Nat) : Int)) = true := by rw [hi, hu]; simp
    have hT : Hd (namesB op c = true) := by unfold Hd; rw [hP.out, hv.out, hd.out, List.any_cons, show (l[k] == c) = true by simpa using hu, Bool.true_or]
    clear hu hv hd hi
    go_wp2_with fail
    go_ret
    exact ⟨by rw [hT.out]; rfl, hf1⟩
   ·have hq : (((((⟨l.toArray⟩ : ByteArray)[k]'hp).toNat : Nat) : Int) == ((c.toNat : Nat) : Int)) = false := by
     rw [hi]
     simp only [beq_eq_false_iff_ne, ne_eq]
     intro e
     exact hu (UInt8.toNat_inj.1 (by omega))
    have hN : Hd ((l.any fun x => x == c) = (l.drop (k + 1)).any fun x => x == c) := by
     unfold Hd
     rw [hv.out, hd.out, List.any_cons, show (l[k] == c) = false by simpa using hu, Bool.false_or]
    clear hu hv hd hi
    go_wp2_with fail
    exact ⟨⟨k + 1, by omega, by simp, trivial, hN⟩, by simp; omega⟩
  ·have hkl : k = l.length := by omega
   subst hkl
   have hF : Hd (namesB op c = false) := by unfold Hd; rw [hP.out, hv.out]; simp
   clear hv
   go_wp2_with fail
   go_ret
   exact ⟨by rw [hF.out]; rfl, hf1⟩
set_option maxRecDepth 100000
theorem op_names {ρ : Operand → Value} {o : Oper} {x y : Operand} (h : o.op = .call { callee := .value (.func 103), args := #[x, y], argTypes := #[3, 5] }) (hρ : ρ (.func 103) = .func (.func 103) #[] #[]) (w : World) {op : Int} {c : UInt8} (hx : ρ x = vI op) (hy : ρ y = vU c) :
 (execOp ρ o).run Tryd.prog w = .ok (.enter 103 #[vI op, vU c]) w := by
 have hen : ∀ (cap : Array Value) w, (callFunc 103 cap).run Tryd.prog w = .ok (.enter 103 cap) w := fun _ _ => by kernel_rfl
 unfold execOp
 rw [h]
 simp only [resolve, hρ]
 have e : (#[x, y] : Array Operand).map ρ = #[vI op, vU c] := by simp [hx, hy]
 rw [e]
 exact hen _ w
def ev3 (b : Nat) (op : Int) (nmf : UInt8 → Bool) (mem : Nat → Option Value) (zz : Nat → Int) (tb : Nat → Bool) (ops : Array Oper) (o : Oper) (a : Act) : Option (Act × List (Value × Value)) :=
 bif Region.wanted o (yielded ops a.tmps) then
  match o.op with
  | .move x => some (a.put o.dst (a.eval x), [])
  | .assign x => some (a.put o.dst (a.eval x), [])
  | .pick c x y =>
    match a.eval c with
    | .bool true => some (a.put o.dst (a.eval x), [])
    | .bool false => some (a.put o.dst (a.eval y), [])
    | _ => none
  | .fieldAddr ty x i =>
    match a.eval x with
    | .pointer (some ⟨k, q, none⟩) =>
      bif ty == 71 && Nat.blt i 7 then some (a.put o.dst (pp k (q + i)), []) else none
    | _ => none
  | .load ty x =>
    match a.eval x with
    | .pointer (some ⟨k, q, none⟩) =>
      bif ty == 3 || ty == 64 then
       match mem q with
       | some v => some (a.put o.dst v, [(pp k q, pp b q)])
       | none => none
      else none
    | _ => none
  | .binOp .eql ty x (.const (.int .i64 0)) _ =>
    bif ty == 3 then
     match o.dst with
     | some d => some (a.put o.dst (.bool (tb d)), [(a.eval x, vI (zz d))])
     | none => none
    else none
  | .call c =>
    match c.callee, c.args.toList, c.argTypes.toList with
    | .builtin .len, [x], [ty] =>
      bif ty == 64 then
       match a.eval x with
       | .slice _ n _ => some (a.put o.dst (vI n), [])
       | _ => none
      else none
    | .value (.func f), [x, .const (.int .u8 (.ofNat n))], [t1, t2] =>
      bif f == 103 && t1 == 3 && t2 == 5 && Nat.blt n 256 then some (a.put o.dst (.bool (nmf (UInt8.ofNat n))), [(a.eval x, vI op)]) else none
    | _, _, _ => none
  | _ => none
 else some (a.put o.dst undef, [])
def ev3L (b : Nat) (op : Int) (nmf : UInt8 → Bool) (mem : Nat → Option Value) (zz : Nat → Int) (tb : Nat → Bool) (ops : Array Oper) : List Oper → Act → Option (Act × List (Value × Value))
 | [], a => some (a, [])
 | o :: rest, a => match ev3 b op nmf mem zz tb ops o a with
   | some (a', l) => match ev3L b op nmf mem zz tb ops rest a' with
     | some (a2, l2) => some (a2, l ++ l2)
     | none => none
   | none => none
theorem ev3_sound {b : Nat} {op : Int} {nmf : UInt8 → Bool} {mem : Nat → Option Value} {zz : Nat → Int} {tb : Nat → Bool} {ops : Array Oper} {o : Oper} {a a' : Act} {l : List (Value × Value)} {w0 w : World} {rest : List Oper} {Q : Exit → Act → World → Prop} (hn : ∀ c, namesB op c = nmf c) (hb : b < w0.heap.size)
 (hm : ∀ q v, mem q = some v → w0.cell? ⟨b, q, none⟩ = some v) (hz : ∀ d, (zz d == 0) = tb d) (h : ev3 b op nmf mem zz tb ops o a = some (a', l)) (hl : ∀ p ∈ l, p.1 = p.2) (hf : Fr (fun _ => False) w0 w) (ih : ∀ w', Fr (fun _ => False) w0 w' → wpList Tryd.prog ops Q rest a' w') : wpList Tryd.prog ops Q (o :: rest) a w := by
 unfold ev3 at h
 cases hw : Region.wanted o (yielded ops a.tmps) with
 | false =>
   rw [hw] at h
   cases h
   exact wpList_skip hw (ih w hf)
 | true =>
   rw [hw] at h
   refine BigFrame.wpList_want hw (fun K hK => ?_)
   simp only [cond_true] at h
   split at h
   ·rename_i x hx
    cases h
    exact BigFrame.wp_move x hx (hK _ _ (ih w hf))
   ·rename_i x hx
    cases h
    exact BigFrame.wp_assign x hx (hK _ _ (ih w hf))
   ·rename_i c x y hx
    unfold Oper.wp execOp
    rw [hx]
    split at h
    ·rename_i hc
     cases h
     simp only [hc]
     exact hK _ _ (ih w hf)
    ·rename_i hc
     cases h
     simp only [hc]
     exact hK _ _ (ih w hf)
    ·cases h
   ·rename_i ty x i hx
    split at h
    ·rename_i k q hv
     cases hc : (ty == 71 && Nat.blt i 7) with
     | false => rw [hc] at h; cases h
     | true =>
       rw [hc] at h
       cases h
       simp only [Bool.and_eq_true, beq_iff_eq, Nat.blt_eq] at hc
       obtain ⟨rfl, hi⟩ := hc
       exact wp_value (op_fld71 hx hi hv w) (hK _ _ (ih w hf))
    ·cases h
   ·rename_i ty x hx
    split at h
    ·rename_i k q hv
     cases hc : (ty == 3 || ty == 64) with
     | false => rw [hc] at h; cases h
     | true =>
       rw [hc] at h
       simp only [cond_true] at h
       simp only [Bool.or_eq_true, beq_iff_eq] at hc
       split at h
       ·rename_i u hu
        cases h
        have hp : pp k q = pp b q := hl _ List.mem_cons_self
        have hk : k = b := by cases hp; rfl
        subst hk
        exact wp_value (op_load hx (by rcases hc with h | h <;> simp [h]) hv ((hf.cell hb (fun h => h)).trans (hm q u hu))) (hK _ _ (ih w hf))
       ·cases h
    ·cases h
   ·rename_i ty x ty' hx
    cases hc : (ty == 3) with
    | false => rw [hc] at h; cases h
    | true =>
      rw [hc] at h
      simp only [cond_true] at h
      simp only [beq_iff_eq] at hc
      subst hc
      split at h
      ·rename_i d hd
       cases h
       have hp : a.eval x = vI (zz d) := hl _ List.mem_cons_self
       have := op_eql (ρ := a.eval) hx rfl w hp
       rw [hz d] at this
       exact wp_value this (hK _ _ (ih w hf))
      ·cases h
   ·rename_i c hx
    split at h
    ·rename_i x ty h1 h2 h3
     cases hc : (ty == 64) with
     | false => rw [hc] at h; cases h
     | true =>
       rw [hc] at h
       simp only [cond_true] at h
       simp only [beq_iff_eq] at hc
       subst hc
       obtain ⟨callee, args, argTypes⟩ := c
       simp only at h1 h2 h3
       subst h1
       have e2 : args = #[x] := by cases args; simp_all
       have e3 : argTypes = #[64] := by cases argTypes; simp_all
       subst e2; subst e3
       split at h
       ·rename_i aa n c hv
        cases h
        exact wp_value (op_len hx w hv) (hK _ _ (ih w hf))
       ·cases h
    ·rename_i f x n t1 t2 h1 h2 h3
     cases hc : (f == 103 && t1 == 3 && t2 == 5 && Nat.blt n 256) with
     | false => rw [hc] at h; cases h
     | true =>
       rw [hc] at h
       cases h
       simp only [Bool.and_eq_true, beq_iff_eq, Nat.blt_eq] at hc
       obtain ⟨⟨⟨rfl, rfl⟩, rfl⟩, hnn⟩ := hc
       obtain ⟨callee, args, argTypes⟩ := c
       simp only at h1 h2 h3
       subst h1
       have e2 : args = #[x, .const (.int .u8 (.ofNat n))] := by cases args; simp_all
       have e3 : argTypes = #[3, 5] := by cases argTypes; simp_all
       subst e2; subst e3
       have hp : a.eval x = vI op := hl _ List.mem_cons_self
       have hy : a.eval (.const (.int .u8 (.ofNat n))) = vU (UInt8.ofNat n) := by
        show Value.int .u8 (.ofNat n) = .int .u8 (((UInt8.ofNat n).toNat : Nat) : Int)
        have e : (UInt8.ofNat n).toNat = n := by simp; omega
        rw [e]
        rfl
       unfold Oper.wp
       rw [op_names hx rfl w hp hy, Oper.upon_enter]
       refine (rnames op (UInt8.ofNat n) w).mono ?_
       rw [hn]
       rintro e w1 ⟨rfl, hf1⟩
       exact hK _ _ (ih w1 (hf.trans hf1))
    ·cases h
   ·cases h
theorem ev3L_sound {b : Nat} {op : Int} {nmf : UInt8 → Bool} {mem : Nat → Option Value} {zz : Nat → Int} {tb : Nat → Bool} {ops : Array Oper} {w0 : World} {Q : Exit → Act → World → Prop} (hn : ∀ c, namesB op c = nmf c) (hb : b < w0.heap.size) (hm : ∀ q v, mem q = some v → w0.cell? ⟨b, q, none⟩ = some v) (hz : ∀ d, (zz d == 0) = tb d) :
 ∀ {rest : List Oper} {a a' : Act} {l : List (Value × Value)} {w : World}, ev3L b op nmf mem zz tb ops rest a = some (a', l) → (∀ p ∈ l, p.1 = p.2) → Fr (fun _ => False) w0 w → (∀ w', Fr (fun _ => False) w0 w' → Q .normal a' w') → wpList Tryd.prog ops Q rest a w
 | [], a, a', l, w, h, _, hf, hq => by
   cases h
   exact hq w hf
 | o :: rest, a, a', l, w, h, hl, hf, hq => by
   unfold ev3L at h
   split at h
   ·rename_i a1 l1 h1
    split at h
    ·rename_i a2 l2 h2
     cases h
     exact ev3_sound hn hb hm hz h1 (fun p hp => hl p (List.mem_append_left _ hp)) hf (fun w' hf' => ev3L_sound hn hb hm hz h2 (fun p hp => hl p (List.mem_append_right _ hp)) hf' hq)
    ·cases h
   ·cases h
theorem wpList_ev3 {b : Nat} {op : Int} {nmf : UInt8 → Bool} {mem : Nat → Option Value} {zz : Nat → Int} {tb : Nat → Bool} {ops : Array Oper} {w0 w : World} {Q : Exit → Act → World → Prop} {rest : List Oper} {a : Act} (hn : ∀ c, namesB op c = nmf c) (hb : b < w0.heap.size) (hm : ∀ q v, mem q = some v → w0.cell? ⟨b, q, none⟩ = some v) (hz : ∀ d, (zz d == 0) = tb d)
 (h1 : ((ev3L b op nmf mem zz tb ops rest a).map fun r => r.2.map (·.1)) = ((ev3L b op nmf mem zz tb ops rest a).map fun r => r.2.map (·.2))) (h2 : (ev3L b op nmf mem zz tb ops rest a).isSome = true) (hf : Fr (fun _ => False) w0 w)
 (hq : ∀ w', Fr (fun _ => False) w0 w' → Q .normal ((ev3L b op nmf mem zz tb ops rest a).getD (a, [])).1 w') : wpList Tryd.prog ops Q rest a w := by
 cases e : ev3L b op nmf mem zz tb ops rest a with
 | none => rw [e] at h2; cases h2
 | some r =>
   obtain ⟨a', l⟩ := r
   rw [e] at h1 hq
   simp only [Option.map_some, Option.some.injEq] at h1
   refine ev3L_sound hn hb hm hz e (fun p hp => ?_) hf hq
   have key : ∀ (l : List (Value × Value)), l.map (·.1) = l.map (·.2) → ∀ p ∈ l, p.1 = p.2 := fun l => by
    induction l with
    | nil => intro _ p hp; cases hp
    | cons x r ih =>
      intro h p hp
      simp only [List.map_cons, List.cons.injEq] at h
      rcases List.mem_cons.1 hp with rfl | hp
      ·exact h.1
      ·exact ih h.2 p hp
   exact key l h1 p hp
inductive TR where
 | leaf (r : Bool)
 | node (d : Nat) (t f : TR)
def TR.ev (e : Nat → Bool) : TR → Bool
 | .leaf r => r
 | .node d t f => bif e d then t.ev e else f.ev e
def testOf (ops : Array Oper) (o : Oper) (a : Act) : Option (Nat × Operand) :=
 bif Region.wanted o (yielded ops a.tmps) then
  match o.op, o.dst with
  | .binOp .eql ty x (.const (.int .i64 0)) _, some d => bif ty == 3 then some (d, x) else none
  | _, _ => none
 else none
theorem testOf_sound {ops : Array Oper} {o : Oper} {a : Act} {d : Nat} {x : Operand} (h : testOf ops o a = some (d, x)) : Region.wanted o (yielded ops a.tmps) = true ∧ (∃ ty', o.op = .binOp .eql 3 x (.const (vI 0)) ty') ∧ o.dst = some d := by
 unfold testOf at h
 cases hw : Region.wanted o (yielded ops a.tmps) with
 | false => rw [hw] at h; cases h
 | true =>
   rw [hw] at h
   simp only [cond_true] at h
   split at h
   ·rename_i ty x' ty' d' h1 h2
    cases hc : (ty == 3) with
    | false => rw [hc] at h; cases h
    | true =>
      rw [hc] at h
      cases h
      simp only [beq_iff_eq] at hc
      subst hc
      exact ⟨rfl, ⟨_, h1⟩, h2⟩
   ·cases h
def ev4L (b : Nat) (op : Int) (nmf : UInt8 → Bool) (mem : Nat → Option Value) (zz : Nat → Int) (t : Tmp) (ops : Array Oper) : List Oper → Act → Option (TR × List (Value × Value))
 | [], a => match a.tmps.getD t undef, a.defers with
   | .bool r, [] => some (.leaf r, [])
   | _, _ => none
 | o :: rest, a => match testOf ops o a with
   | some (d, x) => match ev4L b op nmf mem zz t ops rest (a.put o.dst (.bool true)), ev4L b op nmf mem zz t ops rest (a.put o.dst (.bool false)) with
     | some (t1, l1), some (t2, l2) => some (.node d t1 t2, (a.eval x, vI (zz d)) :: (l1 ++ l2))
     | _, _ => none
   | none => match ev3 b op nmf mem zz (fun d => zz d == 0) ops o a with
     | some (a', l) => match ev4L b op nmf mem zz t ops rest a' with
       | some (t1, l1) => some (t1, l ++ l1)
       | none => none
     | none => none
theorem ev4L_sound {b : Nat} {op : Int} {nmf : UInt8 → Bool} {mem : Nat → Option Value} {zz : Nat → Int} {t : Tmp} {ops : Array Oper} {w0 : World} {Q : Exit → Act → World → Prop} (hn : ∀ c, namesB op c = nmf c) (hb : b < w0.heap.size) (hm : ∀ q v, mem q = some v → w0.cell? ⟨b, q, none⟩ = some v) :
 ∀ {rest : List Oper} {a : Act} {T : TR} {l : List (Value × Value)} {w : World}, ev4L b op nmf mem zz t ops rest a = some (T, l) → (∀ p ∈ l, p.1 = p.2) → Fr (fun _ => False) w0 w →
  (∀ a' w', Fr (fun _ => False) w0 w' → a'.tmps.getD t undef = .bool (T.ev fun d => zz d == 0) → a'.defers = [] → Q .normal a' w') → wpList Tryd.prog ops Q rest a w
 | [], a, T, l, w, h, _, hf, hq => by
   unfold ev4L at h
   split at h
   ·rename_i r h1 h2
    cases h
    exact hq a w hf h1 h2
   ·cases h
 | o :: rest, a, T, l, w, h, hl, hf, hq => by
   unfold ev4L at h
   split at h
   ·rename_i d x ht
    obtain ⟨hw, ⟨ty', hx⟩, hd⟩ := testOf_sound ht
    split at h
    ·rename_i t1 l1 t2 l2 h1 h2
     cases h
     have hp : a.eval x = vI (zz d) := hl _ List.mem_cons_self
     refine BigFrame.wpList_want hw (fun K hK => ?_)
     have hop := op_eql (ρ := a.eval) hx rfl w hp
     cases he : (zz d == 0) with
     | true =>
       rw [he] at hop
       refine wp_value hop (hK _ _ (ev4L_sound hn hb hm h1 (fun p hp => hl p (List.mem_cons_of_mem _ (List.mem_append_left _ hp))) hf (fun a' w' hf' hr hdd => hq a' w' hf' ?_ hdd)))
       rw [hr]
       simp only [TR.ev, he, cond_true]
     | false =>
       rw [he] at hop
       refine wp_value hop (hK _ _ (ev4L_sound hn hb hm h2 (fun p hp => hl p (List.mem_cons_of_mem _ (List.mem_append_right _ hp))) hf (fun a' w' hf' hr hdd => hq a' w' hf' ?_ hdd)))
       rw [hr]
       simp only [TR.ev, he, cond_false]
    ·cases h
   ·split at h
    ·rename_i a1 l1 h1
     split at h
     ·rename_i t2 l2 h2
      cases h
      exact ev3_sound hn hb hm (fun _ => rfl) h1 (fun p hp => hl p (List.mem_append_left _ hp)) hf (fun w' hf' => ev4L_sound hn hb hm h2 (fun p hp => hl p (List.mem_append_right _ hp)) hf' hq)
     ·cases h
    ·cases h
theorem wpList_ev4 {b : Nat} {op : Int} {nmf : UInt8 → Bool} {mem : Nat → Option Value} {zz : Nat → Int} {ops : Array Oper} {w0 w : World} {Q : Exit → Act → World → Prop} {rest : List Oper} {a : Act} (t : Tmp) (T : TR) (hn : ∀ c, namesB op c = nmf c) (hb : b < w0.heap.size) (hm : ∀ q v, mem q = some v → w0.cell? ⟨b, q, none⟩ = some v)
 (h1 : ((ev4L b op nmf mem zz t ops rest a).map fun r => (r.1, r.2.map (·.1))) = ((ev4L b op nmf mem zz t ops rest a).map fun r => (T, r.2.map (·.2)))) (h2 : (ev4L b op nmf mem zz t ops rest a).isSome = true) (hf : Fr (fun _ => False) w0 w)
 (hq : ∀ a' w', Fr (fun _ => False) w0 w' → a'.tmps.getD t undef = .bool (T.ev fun d => zz d == 0) → a'.defers = [] → Q .normal a' w') : wpList Tryd.prog ops Q rest a w := by
 cases e : ev4L b op nmf mem zz t ops rest a with
 | none => rw [e] at h2; cases h2
 | some r =>
   obtain ⟨T', l⟩ := r
   rw [e] at h1
   simp only [Option.map_some, Option.some.injEq, Prod.mk.injEq] at h1
   obtain ⟨rfl, h1⟩ := h1
   refine ev4L_sound hn hb hm e (fun p hp => ?_) hf hq
   have key : ∀ (l : List (Value × Value)), l.map (·.1) = l.map (·.2) → ∀ p ∈ l, p.1 = p.2 := fun l => by
    induction l with
    | nil => intro _ p hp; cases hp
    | cons x r ih =>
      intro h p hp
      simp only [List.map_cons, List.cons.injEq] at h
      rcases List.mem_cons.1 hp with rfl | hp
      ·exact h.1
      ·exact ih h.2 p hp
   exact key l h1 p hp
set_option maxRecDepth 100000
set_option maxHeartbeats 1000000
theorem leave_any (a b c : Value) (w : World) : Calls Tryd.prog 38 #[a, b, c] w fun e w' => e = .returned (.tuple #[]) ∧ w' = w := by
 go_enter Tryd.func38, Tryd.ntmps38
 go_wp2
 go_end0
 exact ⟨rfl, rfl⟩
def leaving (b : Nat) : Mode b where
 σ := Unit
 S := fun _ => False
 N := fun k => k = 0
 fn := vF 38
 I := fun _ _ w => b ≠ 0 ∧ Tab w
 eff := fun st _ _ old => .ok (old, st)
 tab := fun _ _ _ h => h.2
 stable := fun _ _ _ _ h f => ⟨h.1, h.2.fr f (fun e => h.1 e.symm)⟩
theorem wrap64_wrap (x : Int) : wrap64 x = IntKind.i64.wrap x := by
 rw [IntKind.wrap_i64]; unfold wrap64; omega
theorem next_leaves (b : Nat) (p : Addr) (at' : Int) (size : Nat) (w : World) (h0 : w.cell? ⟨b, 0, none⟩ = some (vF 38)) (h1 : w.cell? ⟨b, 1, none⟩ = some (vI at')) (f1 : w.frozen? ⟨b, 1, none⟩ = false) :
 Calls Tryd.prog 90 #[.pointer (some ⟨b, 0, none⟩), .pointer (some p), .int .i64 size] w fun e w' =>
  e = .returned (vI at') ∧ w' = w.setCell ⟨b, 1, none⟩ (vI (adv at' size)) := by
 unfold adv
 rw [← wrap64_wrap]
 go_enter Tryd.func90, Tryd.ntmps90
 go_wp2_with fail
 refine (leave_any _ _ _ _).mono ?_
 rintro e w' ⟨rfl, rfl⟩
 go_wp2_with fail
 go_ret
 exact ⟨rfl, rfl⟩
theorem set_get (s : WS) (o : Nat) : s.set o (s.get o) = s := by
 by_cases h146 : o = 146
 ·subst h146; rfl
 by_cases h149 : o = 149
 ·subst h149; rfl
 by_cases h150 : o = 150
 ·subst h150; rfl
 by_cases h151 : o = 151
 ·subst h151; rfl
 by_cases h153 : o = 153
 ·subst h153; rfl
 by_cases h154 : o = 154
 ·subst h154; rfl
 by_cases h155 : o = 155
 ·subst h155; rfl
 by_cases h156 : o = 156
 ·subst h156; rfl
 by_cases h157 : o = 157
 ·subst h157; rfl
 by_cases h158 : o = 158
 ·subst h158; rfl
 unfold WS.set WS.get
 rw [if_neg h146, if_neg h149, if_neg h150, if_neg h151, if_neg h153, if_neg h154, if_neg h155, if_neg h156, if_neg h157, if_neg h158, if_neg h146, if_neg h149, if_neg h150, if_neg h151, if_neg h153, if_neg h154, if_neg h155, if_neg h156, if_neg h157, if_neg h158]
theorem leaving_own (b : Nat) : NextOwn (leaving b) := by
 intro o ho x size w hx hs1 hs8
 obtain ⟨s, st⟩ := x
 obtain ⟨hl, hn, hI⟩ := hx
 simp only at hl hn hI
 have h0 : w.cell? ⟨b, 0, none⟩ = some (vF 38) := by rw [hl.facts.1, hn]; rfl
 refine (next_leaves b ⟨b, o, none⟩ s.at' size w h0 hl.facts.2.1 (hl.frozen 1)).mono ?_
 rintro e w' ⟨rfl, rfl⟩
 have hfr : Fr (fun k => k = b) w (w.setCell ⟨b, 1, none⟩ (vI (adv s.at' size))) := Fr.setCell (Fr.refl (fun k => k = b) w) _ _ (Or.inl rfl)
 refine ⟨hfr.mono (fun k _ hk => Or.inl hk), ?_⟩
 simp only [nextX, leaving, set_get]
 exact ⟨trivial, hl.setCell 1 _ (cells_at _ _), hn, (leaving b).stable () s.at' _ _ hI hfr⟩
set_option maxRecDepth 100000
set_option maxHeartbeats 1000000
def u8i (z : Int) : Value := .int .u8 z
def wideB (l : List UInt8) (i : Nat) : Int := if i < l.length then ((l.getD i 0).toNat : Int) else 170 + ((i % 5 : Nat) : Int)
def WB (w : World) (B : Nat) (v : Value) (l : List UInt8) : Prop := ∃ g, v = .slice (some ⟨g, 0, none⟩) l.length (l.length + 64) ∧ B ≤ g ∧ Rws w 5 1 g (l.length + 64) (fun i => [u8i (wideB l i)])
theorem WB.fr {S : Nat → Prop} {w w' : World} {B : Nat} {v : Value} {l : List UInt8} (h : WB w B v l) (f : Fr S w w') (hS : ∀ k, v.ownBlock = some k → ¬ S k) : WB w' B v l := by
 obtain ⟨g, rfl, h1, h2⟩ := h
 exact ⟨g, rfl, h1, h2.fr f (hS g rfl)⟩
theorem WB.mono {w : World} {B B' : Nat} {v : Value} {l : List UInt8} (h : WB w B v l) (hB : B' ≤ B) : WB w B' v l := by
 obtain ⟨g, rfl, h1, h2⟩ := h
 exact ⟨g, rfl, by omega, h2⟩
theorem WB.bytes {w : World} {B : Nat} {v : Value} {l : List UInt8} (h : WB w B v l) (hl : l.length ≤ 1000000000000000) : BytesIn w v l := by
 obtain ⟨g, rfl, h1, h2⟩ := h
 refine ⟨hl, _, _, rfl, by omega, fun _ => ⟨g, 0, rfl, h2.lt, fun j hj => ?_⟩⟩
 have := h2.cell (i := j) (o := 0) (by omega) (by omega)
 rw [Nat.mul_one, Nat.add_zero] at this
 rw [Nat.zero_add, this]
 simp [wideB, hj, u8i]
theorem under22 : Tryd.prog.underlying 22 = some (.slice 5) := by kernel_rfl
theorem make22 (n : Nat) (hn : n ≤ 200000000000000) (w : World) : (Instr.makeSlice 22 (.int .i64 n) (.int .i64 n)).run Tryd.prog w = .ok (.slice (some ⟨w.heap.size, 0, none⟩) n n) (w.alloc (.cells (Array.replicate n (u8i 0)) 5)) := by
 rw [run_make_of 22 5 (u8i 0) 1 1 under22 (by kernel_rfl) (by kernel_rfl) (by kernel_rfl) n (by omega) (by omega) w, Nat.mul_one]
 congr 2
 congr 1
 unfold madeCells
 apply Array.ext
 ·simp
 ·intro i h1 h2
  simp [Nat.mod_one, Value.cells, u8i]
theorem wideBytes_any (v : Value) (l : List UInt8) (w : World) (hl : BytesIn w v l) (hn : l.length ≤ 140737488351232) : Calls Tryd.prog 17 #[v] w fun e w' => ∃ v', e = .returned v' ∧ WB w' w.heap.size v' l ∧ Fr (fun _ => False) w w' := by
 obtain ⟨-, a, c, rfl, hc, h0⟩ := hl
 have H0 : Hd _ := h0
 clear h0
 obtain ⟨n, hnl⟩ : ∃ n, n = l.length := ⟨_, rfl⟩
 have HN : Hd (n = l.length) := hnl
 rw [← hnl] at hn hc ⊢
 clear hnl
 have hmk := make22 (n + 64) (by omega) w
 have hcast : ((n + 64 : Nat) : Int) = (n : Int) + 64 := by omega
 rw [hcast] at hmk
 have HR : Hd (Rws (w.alloc (.cells (Array.replicate (n + 64) (u8i 0)) 5)) 5 1 w.heap.size (n + 64) (fun i => [u8i (if i < 0 then wideB l i else 0)])) := (Rws.made w 5 (n + 64) (u8i 0)).congr (fun i _ => by simp)
 have HF : Hd (Fr (fun _ => False) w (w.alloc (.cells (Array.replicate (n + 64) (u8i 0)) 5))) := Fr.alloc (Fr.refl _ w) _
 obtain ⟨g, hg⟩ : ∃ g, g = w.heap.size := ⟨_, rfl⟩
 have HG : Hd (g = w.heap.size) := hg
 rw [← hg] at hmk HR
 clear hg
 go_enter Tryd.func17, Tryd.ntmps17
 go_wp2_with fail
 go_loopw [4] (fun v wr => ∃ (k : Nat), v = .int .i64 k ∧ k ≤ n + 64 ∧ Hd (Rws wr 5 1 g (n + 64) (fun i => [u8i (if i < k then wideB l i else 0)])) ∧ Hd (Fr (fun _ => False) w wr)) (fun v _ => match v with | .int _ q => n + 64 - q.toNat | _ => 0)
 case atStart => exact ⟨0, rfl, Nat.zero_le _, HR.out, HF.out⟩
 case round =>
  clear HR HF
  obtain ⟨k, rfl, hk, HR, HF⟩ := hrel
  by_cases hlt : k < n + 64
  ·have hk0 : (0 : Int) ≤ k := by omega
   have hk1 : (k : Int) < (n : Int) + 64 := by omega
   have p0 := HR.out.cell (i := k) (o := 0) hlt (by omega)
   rw [Nat.mul_one, Nat.add_zero] at p0
   have z0 := HR.out.frozen k
   have HS : Hd (∀ x : Int, Rws (wr.setCell ⟨g, k, none⟩ (u8i x)) 5 1 g (n + 64) (at1 (fun i => [u8i (if i < k then wideB l i else 0)]) k [u8i x])) := fun x => by
    have := HR.out.set1 (i := k) (o := 0) hlt (by omega) rfl (u8i x)
    rw [Nat.mul_one, Nat.add_zero] at this
    exact this
   have HFS : Hd (∀ x : Int, Fr (fun _ => False) w (wr.setCell ⟨g, k, none⟩ (u8i x))) := fun x => HF.out.setCell _ _ (Or.inr (by rw [HG.out]; exact Nat.le_refl _))
   by_cases hin : k < n
   ·have hk2 : (k : Int) < n := by omega
    have d1 : decide ((k : Int) < n) = true := by simpa using hk2
    obtain ⟨ak, ao, rfl, hak, hcells⟩ := H0.out (by intro e; have := HN.out; simp [e] at this; omega)
    have q0 := (HF.out.cell (o := ao + k) hak (fun e => e)).trans (hcells k (by have := HN.out; omega))
    have hne : g ≠ ak := by have := HG.out; omega
    have HX : Hd (wideB l k = ((l[k]'(by have := HN.out; omega)).toNat : Int)) := by
     unfold Hd wideB
     rw [if_pos (by have := HN.out; omega)]
     simp [show k < l.length by have := HN.out; omega]
    generalize (l[k]'(by have := HN.out; omega)).toNat = x at *
    have q1 : (wr.setCell ⟨g, k, none⟩ (.int .u8 (170 + (k : Int) % 5))).cell? ⟨ak, ao + k, none⟩ = some (.int .u8 x) := by rw [World.cell?_setCell_other _ _ _ _ (by simp <;> omega)]; exact q0
    have q2 : (wr.setCell ⟨g, k, none⟩ (.int .u8 (170 + (k : Int) % 5))).cell? ⟨g, k, none⟩ = some (.int .u8 (170 + (k : Int) % 5)) := World.cell?_setCell_same' _ _ _ (by rw [p0]; rfl)
    have z1 := (HS.out (170 + (k : Int) % 5)).frozen k
    have HR2 : Hd (Rws ((wr.setCell ⟨g, k, none⟩ (.int .u8 (170 + (k : Int) % 5))).setCell ⟨g, k, none⟩ (.int .u8 x)) 5 1 g (n + 64) (fun i => [u8i (if i < k + 1 then wideB l i else 0)])) := by
     have := (HS.out (170 + (k : Int) % 5)).set1 (i := k) (o := 0) hlt (by omega) (by rw [at1_self]; rfl) (u8i x)
     rw [Nat.mul_one, Nat.add_zero, at1_self, at1_at1] at this
     refine this.congr (fun i _ => ?_)
     by_cases e : i = k
     ·subst e; rw [at1_self, if_pos (by omega), HX.out]; rfl
     ·rw [at1_ne _ _ e]
      by_cases hi : i < k
      ·rw [if_pos hi, if_pos (by omega)]
      ·rw [if_neg hi, if_neg (by omega)]
    have HF2 : Hd (Fr (fun _ => False) w ((wr.setCell ⟨g, k, none⟩ (.int .u8 (170 + (k : Int) % 5))).setCell ⟨g, k, none⟩ (.int .u8 x))) := (HFS.out (170 + (k : Int) % 5)).setCell _ _ (Or.inr (by rw [HG.out]; exact Nat.le_refl _))
    clear hcells HS HFS HR HF
    go_wp2_with fail
    exact ⟨⟨k + 1, by simp, by omega, HR2.out, HF2.out⟩, by simp; omega⟩
   ·have d1 : decide ((k : Int) < n) = false := by simp; omega
    have HR2 : Hd (Rws (wr.setCell ⟨g, k, none⟩ (.int .u8 (170 + (k : Int) % 5))) 5 1 g (n + 64) (fun i => [u8i (if i < k + 1 then wideB l i else 0)])) := by
     refine (HS.out (170 + (k : Int) % 5)).congr (fun i _ => ?_)
     by_cases e : i = k
     ·subst e; rw [at1_self, if_pos (by omega)]; unfold wideB; rw [if_neg (by have := HN.out; omega)]; congr 2 <;> omega
     ·rw [at1_ne _ _ e]
      by_cases hi : i < k
      ·rw [if_pos hi, if_pos (by omega)]
      ·rw [if_neg hi, if_neg (by omega)]
    have HF2 := HFS
    clear HS HR HF
    go_wp2_with fail
    exact ⟨⟨k + 1, by simp, by omega, HR2.out, HF2.out _⟩, by simp; omega⟩
  ·have hke : k = n + 64 := by omega
   subst hke
   have HE : Hd (WB wr w.heap.size (.slice (some ⟨g, 0, none⟩) n (n + 64)) l) := by
    refine ⟨g, by rw [← HN.out], by rw [HG.out]; exact Nat.le_refl _, ?_⟩
    rw [← HN.out]
    exact HR.out.congr (fun i hi => by rw [if_pos hi])
   have hn0 : (0 : Int) ≤ n := by omega
   have hn1 : (n : Int) ≤ (n : Int) + 64 := by omega
   go_wp2_with fail
   go_ret
   exact ⟨_, rfl, HE.out, HF.out⟩
end Go.Proofs.YtingenonbkencaaDoor
