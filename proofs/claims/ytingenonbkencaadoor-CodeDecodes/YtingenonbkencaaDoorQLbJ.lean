import Derived.Test.YtingenonbkencaaDoorQLa
import Derived.Test.YtingenonbkencaaDoorQB2J
import Derived.Test.YtingenonbkencaaDoorQA3
import Derived.BigFrame
import Derived.Deep.RegionHeld3
import Derived.Test.YtingenonbkencaaDoorQF3
set_option linter.unusedVariables false
set_option linter.unusedSimpArgs false
namespace Go.Proofs.YtingenonbkencaaDoor
open Go.RowKit (wrap32 wrap64)
set_option maxRecDepth 100000
set_option maxHeartbeats 1000000
def IOwn (w : World) (B : Nat) (v : Value) (l : List Int) : Prop := w.ownsRow B 3 1 v l.length (l.map vI)
theorem ownsRow_frL {S : Nat → Prop} {w w' : World} {B e size n : Nat} {v : Value} {xs : List Value} (h : w.ownsRow B e size v n xs) (f : Fr S w w') (hS : ∀ g, v.ownBlock = some g → ¬ S g) : w'.ownsRow B e size v n xs := by
 refine ⟨h.1, ?_⟩
 rcases h.2 with h2 | ⟨g, cap, cur, rfl, h3, h4, h5⟩
 ·exact Or.inl h2
 ·exact Or.inr ⟨g, cap, cur, rfl, h3, by rw [f.block g ((Array.getElem?_eq_some_iff.1 h4).1) (hS g rfl)]; exact h4, h5⟩
theorem IOwn.fr {S : Nat → Prop} {w w' : World} {B : Nat} {v : Value} {l : List Int} (h : IOwn w B v l) (f : Fr S w w') (hS : ∀ k, v.ownBlock = some k → ¬ S k) : IOwn w' B v l := ownsRow_frL h f hS
theorem IOwn.ge {w : World} {B : Nat} {v : Value} {l : List Int} (h : IOwn w B v l) : ∀ k, v.ownBlock = some k → B ≤ k ∧ k < w.heap.size := World.ownsRow.lt h
theorem IOwn.mono {w : World} {B B' : Nat} {v : Value} {l : List Int} (h : IOwn w B v l) (hB : B' ≤ B) : IOwn w B' v l := World.ownsRow.mono h hB
theorem IOwn.ia {w : World} {B : Nat} {v : Value} {l : List Int} (h : IOwn w B v l) : IA w v l := by
 rcases h.2 with ⟨h2, h3⟩ | ⟨g, cap, cur, e, h3, h4, h5, h6, h7, h8⟩
 ·exact ⟨none, 0, by rw [h2, h3], fun hne => absurd (List.eq_nil_of_length_eq_zero h3) hne⟩
 ·refine ⟨_, cap, e, fun _ => ⟨g, 0, rfl, heap_lt h4, fun i hi => ?_⟩⟩
  rw [Nat.zero_add, cell_of h4]
  have : cur[i]? = (l.map vI)[i]? := by rw [← h8, List.getElem?_take, if_pos (by omega), Array.getElem?_toList]
  rw [this]
  simp [hi]
theorem grown_frL {w w' : World} {row : Option Nat} (h : w.grownBy w' row) : Fr (fun k => row = some k) w w' :=
 ⟨h.os, h.tape, h.output, h.size, fun k hk hS => h.block k hk (fun e => hS e.symm)⟩
theorem eqInts_same (v1 v2 : Value) (zs : List Int) (w : World) (h1 : IA w v1 zs) (h2 : IA w v2 zs) (hz : zs.length ≤ 17592186043904) :
 Calls Tryd.prog 105 #[v1, v2] w fun e w' => e = .returned (.bool true) ∧ Fr (fun _ => False) w w' := by
 obtain ⟨a1, c1, rfl, hc1⟩ := h1
 obtain ⟨a2, c2, rfl, hc2⟩ := h2
 have H1 : Hd _ := hc1
 have H2 : Hd _ := hc2
 clear hc1 hc2
 go_enter Tryd.func105, Tryd.ntmps105
 go_wp2_with fail
 go_loopw [5] (fun v wr => ∃ (k : Nat), v = .int .i64 k ∧ k ≤ zs.length ∧ Hd (Fr (fun _ => False) w wr)) (fun v _ => match v with | .int _ q => zs.length - q.toNat | _ => 0)
 case atStart => exact ⟨0, rfl, Nat.zero_le _, Fr.refl _ _⟩
 case round =>
  obtain ⟨k, rfl, hk, HF⟩ := hrel
  by_cases hlt : k < zs.length
  ·have hne : zs ≠ [] := by intro e; simp [e] at hlt
   obtain ⟨k1, o1, rfl, hk1, g1⟩ := H1.out hne
   obtain ⟨k2, o2, rfl, hk2, g2⟩ := H2.out hne
   have q1 := (HF.out.cell (o := o1 + k) hk1 (fun h => h)).trans (g1 k hlt)
   have q2 := (HF.out.cell (o := o2 + k) hk2 (fun h => h)).trans (g2 k hlt)
   generalize zs[k] = z at *
   have hk0 : (0 : Int) ≤ k := by omega
   have hk3 : (k : Int) < zs.length := by omega
   clear g1 g2
   go_wp2_with fail
   refine wp_region_still_tail 8 mixed (by kernel_rfl) ?_
   simp only [List.take_succ_cons, List.take_zero, List.drop_succ_cons, List.drop_zero]
   repeat still_step
   refine wpStill_nil ?_
   go_wp2_with fail
   exact ⟨⟨k + 1, by simp, by omega, HF.out.drew⟩, by simp; omega⟩
  ·have hke : k = zs.length := by omega
   subst hke
   go_wp2_with fail
   go_ret
   exact ⟨rfl, HF.out⟩
set_option maxRecDepth 100000
abbrev pp (b o : Nat) : Value := .pointer (some ⟨b, o, none⟩)
theorem op_fld71 {ρ : Operand → Value} {o : Oper} {x : Operand} {i : Nat} (h : o.op = .fieldAddr 71 x i) (hi : i < 7) {b q : Nat} (hv : ρ x = pp b q) (w : World) : (execOp ρ o).run Tryd.prog w = .ok (.value (pp b (q + i))) w := by
 unfold execOp
 rw [h]
 simp only [hv]
 rcases (show i = 0 ∨ i = 1 ∨ i = 2 ∨ i = 3 ∨ i = 4 ∨ i = 5 ∨ i = 6 by omega) with rfl | rfl | rfl | rfl | rfl | rfl | rfl <;> kernel_rfl
theorem op_load {ρ : Operand → Value} {o : Oper} {x : Operand} {ty : TypeId} (h : o.op = .load ty x) (ht : ty = 3 ∨ ty = 64 ∨ ty = 81 ∨ ty = 82) {b q : Nat} (hv : ρ x = pp b q) {w : World} {v : Value} (hc : w.cell? ⟨b, q, none⟩ = some v) : (execOp ρ o).run Tryd.prog w = .ok (.value v) w := by
 unfold execOp
 rw [h]
 simp only [hv]
 rcases ht with rfl | rfl | rfl | rfl <;> simp [go_sem, hc]
theorem op_eql {ρ : Operand → Value} {o : Oper} {x : Operand} {ty' : TypeId} (h : o.op = .binOp .eql 3 x (.const (vI 0)) ty') (hρ : ρ (.const (vI 0)) = vI 0) (w : World) {z : Int} (hv : ρ x = vI z) : (execOp ρ o).run Tryd.prog w = .ok (.value (.bool (z == 0))) w := by
 unfold execOp
 rw [h]
 simp only [hv, hρ]
 simp [go_sem]
theorem op_len {ρ : Operand → Value} {o : Oper} {x : Operand} (h : o.op = .call { callee := .builtin .len, args := #[x], argTypes := #[64] }) (w : World) {a : Option Addr} {n c : Nat} (hv : ρ x = .slice a n c) : (execOp ρ o).run Tryd.prog w = .ok (.value (vI n)) w := by
 obtain ⟨dst, op, ty, pos, after, guard⟩ := o
 simp only at h
 subst h
 show (builtin .len #[64] ty ((#[x] : Array Operand).map fun | .const _ => true | _ => false) ((#[x] : Array Operand).map ρ)).run Tryd.prog w = .ok (.value (vI n)) w
 have e : (#[x] : Array Operand).map ρ = #[ρ x] := by simp
 simp only [e, hv]
 simp [go_sem]
theorem wp_value {o : Oper} {a : Act} {w : World} {K : Act → World → Prop} {Q : Exit → Act → World → Prop} {v : Value} (h : (execOp a.eval o).run Tryd.prog w = .ok (.value v) w) (hk : K (a.put o.dst v) w) : o.wp Tryd.prog a w K Q := by
 unfold Oper.wp
 rw [h]
 exact hk
def memOf : List (Nat × Value) → Nat → Option Value
 | [], _ => none
 | p :: r, q => bif p.1 == q then some p.2 else memOf r q
theorem memOf_sound {b : Nat} {w : World} : ∀ {l : List (Nat × Value)}, (∀ p ∈ l, w.cell? ⟨b, p.1, none⟩ = some p.2) → ∀ q v, memOf l q = some v → w.cell? ⟨b, q, none⟩ = some v
 | [], _, _, _, h => by cases h
 | p :: r, hl, q, v, h => by
   unfold memOf at h
   cases hc : (p.1 == q) with
   | true =>
     rw [hc] at h
     cases h
     rw [← beq_iff_eq.1 hc]
     exact hl p List.mem_cons_self
   | false =>
     rw [hc] at h
     exact memOf_sound (fun p hp => hl p (List.mem_cons_of_mem _ hp)) q v h
def zzOf : List (Nat × Int × Bool) → Nat → Int
 | [], _ => 0
 | p :: r, q => bif p.1 == q then p.2.1 else zzOf r q
def tbOf : List (Nat × Int × Bool) → Nat → Bool
 | [], _ => true
 | p :: r, q => bif p.1 == q then p.2.2 else tbOf r q
theorem zzOf_sound : ∀ {l : List (Nat × Int × Bool)}, (∀ p ∈ l, (p.2.1 == 0) = p.2.2) → ∀ d, (zzOf l d == 0) = tbOf l d
 | [], _, _ => rfl
 | p :: r, hl, d => by
   unfold zzOf tbOf
   cases hc : (p.1 == d) with
   | true => exact hl p List.mem_cons_self
   | false => exact zzOf_sound (fun p hp => hl p (List.mem_cons_of_mem _ hp)) d
end Go.Proofs.YtingenonbkencaaDoor
namespace Go.Proofs.YtingenonbkencaaDoor
structure PI where
 op : Int
 r : Int
 s : Int
 t : Int
 n : Int
 args : List Int
 rets : List Int
structure PF where
 P : Int
 R : Int
 V : Int
 code : List PI
end Go.Proofs.YtingenonbkencaaDoor
namespace Go.Proofs.YtingenonbkencaaDoor
open Go.RowKit (wrap32 wrap64)
abbrev iR (c : PI) (p : Value × Value) : List Value := [vI c.op, vI c.r, vI c.s, vI c.t, vI c.n, p.1, p.2]
abbrev markC : List Value := [vI (-78), vI 0, vI 0, vI 0, vI 0, .slice none 0 0, .slice none 0 0]
def wideC (cs : List PI) (ps : Nat → Value × Value) (i : Nat) : List Value := match cs[i]? with | some c => iR c (ps i) | none => markC
def CA (w : World) (v : Value) (cs : List PI) : Prop :=
 ∃ a cp, v = .slice a cs.length cp ∧ (cs ≠ [] → ∃ k o, a = some ⟨k, o, none⟩ ∧ k < w.heap.size ∧ ∀ j (h : j < cs.length), ∃ av rv,
  w.cell? ⟨k, o + j * 7, none⟩ = some (vI cs[j].op) ∧ w.cell? ⟨k, o + j * 7 + 1, none⟩ = some (vI cs[j].r) ∧ w.cell? ⟨k, o + j * 7 + 2, none⟩ = some (vI cs[j].s) ∧ w.cell? ⟨k, o + j * 7 + 3, none⟩ = some (vI cs[j].t) ∧ w.cell? ⟨k, o + j * 7 + 4, none⟩ = some (vI cs[j].n) ∧
  w.cell? ⟨k, o + j * 7 + 5, none⟩ = some av ∧ w.cell? ⟨k, o + j * 7 + 6, none⟩ = some rv ∧ IA w av cs[j].args ∧ IA w rv cs[j].rets)
theorem CA.stay {w w' : World} {v : Value} {cs : List PI} (h : CA w v cs) (f : Fr (fun _ => False) w w') : CA w' v cs := by
 obtain ⟨a, cp, rfl, h⟩ := h
 refine ⟨a, cp, rfl, fun hne => ?_⟩
 obtain ⟨k, o, rfl, hk, hc⟩ := h hne
 refine ⟨k, o, rfl, Nat.lt_of_lt_of_le hk f.size, fun j hj => ?_⟩
 obtain ⟨av, rv, h1, h2, h3, h4, h5, h6, h7, h8, h9⟩ := hc j hj
 have g : ∀ o, w'.cell? ⟨k, o, none⟩ = w.cell? ⟨k, o, none⟩ := fun o => f.cell hk (fun h => h)
 exact ⟨av, rv, (g _).trans h1, (g _).trans h2, (g _).trans h3, (g _).trans h4, (g _).trans h5, (g _).trans h6, (g _).trans h7, h8.stay f, h9.stay f⟩
def FineC (cs : List PI) : Prop := cs.length ≤ 1599289640354 ∧ ∀ c ∈ cs, c.args.length ≤ 17592186043904 ∧ c.rets.length ≤ 17592186043904
def WC (w : World) (B : Nat) (v : Value) (cs : List PI) : Prop :=
 ∃ g ps, v = .slice (some ⟨g, 0, none⟩) cs.length (cs.length + 64) ∧ B ≤ g ∧ Rws w 71 7 g (cs.length + 64) (wideC cs ps) ∧ ∀ i c, cs[i]? = some c → WI w B (ps i).1 c.args ∧ WI w B (ps i).2 c.rets
theorem WI.ne {w : World} {B g m : Nat} {t sz : Nat} {R : Nat → List Value} {v : Value} {l : List Int} (h : WI w B v l) (hR : Rws w t sz g m R) (ht : t ≠ 3) : ∀ k, v.ownBlock = some k → k ≠ g := by
 obtain ⟨g', rfl, -, cs', h', -⟩ := h
 obtain ⟨cs, h2, -⟩ := hR
 intro k e1 e2
 cases e1
 subst e2
 rw [h'] at h2
 cases h2
 exact ht rfl
theorem under65 : Tryd.prog.underlying 65 = some (.slice 71) := by kernel_rfl
theorem WC.fr {S : Nat → Prop} {w w' : World} {B : Nat} {v : Value} {cs : List PI} (h : WC w B v cs) (f : Fr S w w') (hS : ∀ k, S k → k < B) : WC w' B v cs := by
 obtain ⟨g, ps, rfl, h1, h2, h3⟩ := h
 have no : ∀ k, B ≤ k → ¬ S k := fun k hk e => by have := hS k e; omega
 exact ⟨g, ps, rfl, h1, h2.fr f (no g h1), fun i c hc => ⟨(h3 i c hc).1.fr f (fun k e => no k ((h3 i c hc).1.ge k e).1), (h3 i c hc).2.fr f (fun k e => no k ((h3 i c hc).2.ge k e).1)⟩⟩
theorem WC.stay {w w' : World} {B : Nat} {v : Value} {cs : List PI} (h : WC w B v cs) (f : Fr (fun _ => False) w w') : WC w' B v cs := h.fr f (fun _ e => e.elim)
theorem WC.mono {w : World} {B B' : Nat} {v : Value} {cs : List PI} (h : WC w B v cs) (hB : B' ≤ B) : WC w B' v cs := by
 obtain ⟨g, ps, rfl, h1, h2, h3⟩ := h
 exact ⟨g, ps, rfl, by omega, h2, fun i c hc => ⟨(h3 i c hc).1.mono hB, (h3 i c hc).2.mono hB⟩⟩
theorem WC.ca {w : World} {B : Nat} {v : Value} {cs : List PI} (h : WC w B v cs) : CA w v cs := by
 obtain ⟨g, ps, rfl, h1, h2, h3⟩ := h
 refine ⟨_, _, rfl, fun _ => ⟨g, 0, rfl, h2.lt, fun j hj => ?_⟩⟩
 have pc := fun o (ho : o < 7) => h2.cell (i := j) (o := o) (by omega) ho
 have e1 : wideC cs ps j = iR cs[j] (ps j) := by unfold wideC; rw [List.getElem?_eq_getElem hj]
 rw [e1] at pc
 have hw := h3 j cs[j] (List.getElem?_eq_getElem hj)
 rw [Nat.zero_add]
 exact ⟨(ps j).1, (ps j).2, pc 0 (by omega), pc 1 (by omega), pc 2 (by omega), pc 3 (by omega), pc 4 (by omega), pc 5 (by omega), pc 6 (by omega), hw.1.ia, hw.2.ia⟩
theorem WC.ge {w : World} {B : Nat} {v : Value} {cs : List PI} (h : WC w B v cs) : ∀ k, v.ownBlock = some k → B ≤ k ∧ k < w.heap.size := by
 obtain ⟨g, ps, rfl, h1, h2, h3⟩ := h
 intro k e; cases e; exact ⟨h1, h2.lt⟩
def frontOk {b : Nat} (M : Mode b) (ends makes nb : Bool) (i : Nat) (p : Int) (y : WS × M.σ) : X (WS × M.σ) :=
 if nb = false then .error (1, p)
 else if (ends || decide ((i : Int) < y.1.len - 1)) = false then .error (19, p)
 else if makes then locX M 1 p y else .ok y
def StepR (J : World → Prop) (Post : Ending → World → Prop) (e : Ending) (w' : World) : Prop :=
 (e = .returned (.tuple #[]) ∧ J w') ∨ ∃ c, e = .panicked c ∧ Post (.panicked c) w'
end Go.Proofs.YtingenonbkencaaDoor
namespace Go.Proofs.YtingenonbkencaaDoor
section
variable {P : Program} {ops : Array Oper} {Q : Exit → Act → World → Prop} {md : Region.Mode} {S : World → Prop}
theorem heldTake {i : Nat} (d : Tmp) {oi : Oper} {v : Value} {fuel : Nat} {listed : Array Bool} {a : Act} {w : World} (hi : ops[i]? = some oi) (hd : oi.dst = some d)
 (hs : Region.noSelect ops = true) (hf : Region.free md ops listed i = true) (hr : (Region.ready md ops listed).contains i = true)
 (hQ : ∀ c a w, Q (.panic c) (a.put (some d) v) w → Q (.panic c) a w) (hw : Region.wanted oi (yielded ops a.tmps) = true) (hy : ∀ w, S w → (execOp a.eval oi).run P w = .ok (.value v) w) (hS : S w)
 (h : wpAnyH P md ops Q S fuel (listed.setIfInBounds i true) (a.put (some d) v) w) : wpAnyH P md ops Q S (fuel + 1) listed a w :=
 wpAnyH_take hi hs hf hr (by rw [hd]; exact hQ) (Or.inl ⟨hw, hy⟩) hS (by rw [hd]; exact h)
theorem heldOne {i : Nat} {o : Oper} {fuel : Nat} {listed : Array Bool} {a : Act} {w : World} (ho : ops[i]? = some o) (hr : Region.ready md ops listed = [i])
 (h : ∀ K' : Act → World → Prop, Shut (∀ a w, S w → wpAnyH P md ops Q S fuel (listed.setIfInBounds i true) a w → K' a w) → if Region.wanted o (yielded ops a.tmps) = true then Oper.wp P o a w K' Q else K' (a.put o.dst undef) w) : wpAnyH P md ops Q S (fuel + 1) listed a w := by
 refine wpAnyH_all hr (by simp) (fun j hj => ?_)
 obtain rfl := List.mem_singleton.1 hj
 exact wpOp_step ho (fun K' hK => h K' (fun a w h1 h2 => hK a w ⟨h1, h2⟩))
theorem heldTwo {i j : Nat} {oi oj : Oper} {fuel : Nat} {listed : Array Bool} {a : Act} {w : World} (hi : ops[i]? = some oi) (hj : ops[j]? = some oj) (hr : Region.ready md ops listed = [i, j])
 (h1 : ∀ K' : Act → World → Prop, Shut (∀ a w, S w → wpAnyH P md ops Q S fuel (listed.setIfInBounds i true) a w → K' a w) → if Region.wanted oi (yielded ops a.tmps) = true then Oper.wp P oi a w K' Q else K' (a.put oi.dst undef) w)
 (h2 : ∀ K' : Act → World → Prop, Shut (∀ a w, S w → wpAnyH P md ops Q S fuel (listed.setIfInBounds j true) a w → K' a w) → if Region.wanted oj (yielded ops a.tmps) = true then Oper.wp P oj a w K' Q else K' (a.put oj.dst undef) w) : wpAnyH P md ops Q S (fuel + 1) listed a w := by
 refine wpAnyH_all hr (by simp) (fun k hk => ?_)
 simp only [List.mem_cons, List.not_mem_nil, or_false] at hk
 rcases hk with rfl | rfl
 ·exact wpOp_step hi (fun K' hK => h1 K' (fun a w h1 h2 => hK a w ⟨h1, h2⟩))
 ·exact wpOp_step hj (fun K' hK => h2 K' (fun a w h1 h2 => hK a w ⟨h1, h2⟩))
end
end Go.Proofs.YtingenonbkencaaDoor
namespace Go.Proofs.YtingenonbkencaaDoor
open Go.RowKit (wrap32 wrap64)
set_option maxRecDepth 100000
set_option maxHeartbeats 1000000
theorem run_nil_string (w : World) (c : Nat) : (convert 22 9 (.slice none 0 c)).run Tryd.prog w = .ok (.string ⟨#[]⟩) w := by
 rw [run_convert_bytes_string w 22 9 5 _ _ _ Tryd.underlying22 (by kernel_rfl) (by kernel_rfl)]
 rfl
theorem begins_nil (w : World) :
 Calls Tryd.prog 60 #[.agg #[.slice none 0 0]] w fun e w' => e = .returned (.tuple #[]) ∧ w' = (w.alloc (.cells #[.slice none 0 0] 45)).drew := by
 have hcv := run_nil_string
 go_enter Tryd.func60, Tryd.ntmps60
 go_wp2_with fail
 have hcr : (w.alloc (.cells #[.slice none 0 0] 45)).cell? ⟨w.heap.size, 0, none⟩ = some (.slice none 0 0) := by simp
 generalize hwa : (w.alloc (.cells #[.slice none 0 0] 45)) = wa at hcr ⊢
 have Hwa : Hd (w.alloc (.cells #[.slice none 0 0] 45) = wa) := hwa
 clear hwa
 refine wp_region_still_tail 8 mixed (by kernel_rfl) ?_
 simp only [List.take_succ_cons, List.take_zero, List.drop_succ_cons, List.drop_zero]
 repeat still_step
 refine wpStill_nil ?_
 go_wp2_with fail
 refine (must_true 10 0 _).mono ?_
 rintro e w' ⟨rfl, rfl⟩
 go_wp2_with fail
 go_end0
 exact ⟨rfl, by rw [Hwa.out]⟩
end Go.Proofs.YtingenonbkencaaDoor
