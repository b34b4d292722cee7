import Derived.Test.YtihicdbplmdjiaaGreatQA4J
import Derived.Maps.Views
set_option linter.unusedVariables false
set_option linter.unusedSimpArgs false
namespace Go.Proofs.YtihicdbplmdjiaaGreat
open Go.RowKit (wrap32 wrap64)
open Go.Maps (Keyed)

/-! ### the map of open calls -/
theorem und72 : Tryz.prog.underlying 82 = some (.map 3 3) := by kernel_rfl
theorem und3i : Tryz.prog.underlying 3 = some (.int .i64) := by kernel_rfl
theorem keyed3 : Keyed Tryz.prog 3 := Maps.int_keyed und3i
theorem zero3 (w : World) : (zeroValue 3).run Tryz.prog w = .ok (.int .i64 0) w := by kernel_rfl
theorem wf_int {k : Int} (h : In64 k) : (Lit.int .i64 k).wf = true := WalkArith.wf_i64 (by obtain ⟨a, b⟩ := h; omega)
theorem lit_ne {i j : Int} (h : i ≠ j) : (Lit.int .i64 i) ≠ .int .i64 j := fun e => h (by injection e)
/-- The map tells each client's open call. -/
def OpM (w : World) (mb N : Nat) (op : List (Int × Nat)) : Prop :=
  ∃ D : DataW Unit, w.ownsMap Tryz.prog 3 (plainElem Tryz.prog 3) mb N D ∧ (∀ q, Maps.has D (.int .i64 q) = (op.lookup q).isSome) ∧ (∀ q i, op.lookup q = some i → D.atKey (.int .i64 q) (.lit (.int .i64 0)) = .lit (.int .i64 (i : Nat))) ∧ Maps.size D = op.length
theorem OpM.fr {S : Nat → Prop} {w w' : World} {mb N : Nat} {op : List (Int × Nat)} (h : OpM w mb N op) (f : Fr S w w') (hS : ¬ S mb) : OpM w' mb N op := by
  obtain ⟨D, h1, h2⟩ := h
  exact ⟨D, ownsMap_fr h1 f hS, h2⟩
theorem OpM.lt {w : World} {mb N : Nat} {op : List (Int × Nat)} (h : OpM w mb N op) : mb < w.heap.size := by obtain ⟨D, h1, h2⟩ := h; exact h1.lt
theorem OpM.made (w : World) : OpM (w.alloc (.map #[] 0)) w.heap.size 0 [] := ⟨.map [], World.ownsMap_made w _ _ _, fun q => by simp [Maps.has], fun q i h => by simp at h, rfl⟩
theorem OpM.in_ {w : World} {mb N : Nat} {op : List (Int × Nat)} (h : OpM w mb N op) {q : Int} {i : Nat} (hq : In64 q) (hi : op.lookup q = some i) :
    (Instr.lookup 82 (.map (some mb)) (vI q) true).run Tryz.prog w = .ok (.tuple #[vI (i : Int), .bool true]) w := by
  obtain ⟨D, h1, h2, h3, -⟩ := h
  obtain ⟨v, ps, hrun, hv⟩ := h1.look_ok keyed3 und72 (zero3 w) (zd := .lit (.int .i64 0)) (zp := []) (plainElem_int und3i (by decide)) (Maps.keyOf_int_mk und3i (wf_int hq))
  rw [h3 q i hi] at hv
  obtain ⟨a, rfl, e, -⟩ := plainElem_int_inv und3i hv
  simp only [Prod.mk.injEq, DataW.lit.injEq, Lit.int.injEq, true_and] at e
  rw [hrun, h2, hi, ← e.1]
  rfl
theorem OpM.out {w : World} {mb N : Nat} {op : List (Int × Nat)} (h : OpM w mb N op) {q : Int} (hq : In64 q) (hi : op.lookup q = none) :
    (Instr.lookup 82 (.map (some mb)) (vI q) true).run Tryz.prog w = .ok (.tuple #[vI 0, .bool false]) w := by
  obtain ⟨D, h1, h2, h3, -⟩ := h
  obtain ⟨v, ps, hrun, hv⟩ := h1.look_ok keyed3 und72 (zero3 w) (zd := .lit (.int .i64 0)) (zp := []) (plainElem_int und3i (by decide)) (Maps.keyOf_int_mk und3i (wf_int hq))
  have hh : Maps.has D (.int .i64 q) = false := by rw [h2, hi]; rfl
  rw [Maps.atKey_of_not_has hh] at hv
  obtain ⟨a, rfl, e, -⟩ := plainElem_int_inv und3i hv
  simp only [Prod.mk.injEq, DataW.lit.injEq, Lit.int.injEq, true_and] at e
  rw [hrun, hh, ← e.1]
theorem turned_fr {w w' : World} {b : Nat} (h : w.mapTurned w' b) : Fr (fun k => k = b) w w' := (grown_fr h.grown).mono fun k _ e => (Option.some.inj e).symm
theorem OpM.begin_ {w : World} {mb N : Nat} {op : List (Int × Nat)} (h : OpM w mb N op) {q : Int} (hq : In64 q) (hi : op.lookup q = none) (n : Nat) (hn : n ≤ 1000000) (hN : N ≤ 1000000) :
    ∃ w', (Instr.mapUpdate 82 (.map (some mb)) (vI q) (vI (n : Int))).run Tryz.prog w = .ok () w' ∧ OpM w' mb (N + 1) ((q, n) :: op) ∧ Fr (fun k => k = mb) w w' := by
  obtain ⟨D, h1, h2, h3, h4⟩ := h
  obtain ⟨w', hrun, hown, hg⟩ := h1.store keyed3 und72 (by unfold maxLen; omega) (Maps.keyOf_int_mk und3i (wf_int hq)) (plainElem_int und3i (wf_int (k := (n : Int)) ⟨by omega, by omega⟩))
  have hh : Maps.has D (.int .i64 q) = false := by rw [h2, hi]; rfl
  refine ⟨w', hrun, ⟨_, hown, fun x => ?_, fun x i hx => ?_, ?_⟩, turned_fr hg⟩
  · rw [List.lookup_cons]
    by_cases e : x = q
    · subst e
      rw [Maps.has_put_same h1.isMap (show WideAt.IsKeyLit (.int .i64 x) from trivial)]
      simp
    · rw [Maps.has_put_other (lit_ne e), h2, show (x == q) = false by simpa using e]
  · rw [List.lookup_cons] at hx
    by_cases e : x = q
    · subst e
      simp at hx
      subst hx
      exact Maps.atKey_put_same h1.isMap (show WideAt.IsKeyLit (.int .i64 x) from trivial) _ _
    · rw [show (x == q) = false by simpa using e] at hx
      rw [Maps.atKey_put_other (lit_ne e)]
      exact h3 x i hx
  · rw [Maps.size_put (h1.tidy keyed3), hh, h4]
    simp
theorem OpM.end_ {w : World} {mb N : Nat} {op : List (Int × Nat)} (h : OpM w mb N op) {q : Int} {i : Nat} (hq : In64 q) (hi : op.lookup q = some i) (hnd : (op.map (·.1)).Nodup) (ty : TypeId) :
    ∃ w', (Builtin.delete_ #[82, 3] ty #[.map (some mb), vI q]).run Tryz.prog w = .ok (.tuple #[]) w' ∧ OpM w' mb N (op.filter (fun p => p.1 != q)) ∧ Fr (fun k => k = mb) w w' := by
  obtain ⟨D, h1, h2, h3, h4⟩ := h
  obtain ⟨w', hrun, hown, hg⟩ := h1.drop keyed3 und72 (Maps.keyOf_int_mk und3i (wf_int hq)) ty
  have hh : Maps.has D (.int .i64 q) = true := by rw [h2, hi]; rfl
  refine ⟨w', hrun, ⟨_, hown, fun x => ?_, fun x j hx => ?_, ?_⟩, turned_fr hg⟩
  · rw [lookup_filter]
    by_cases e : x = q
    · subst e
      rw [Maps.has_del_same, if_pos rfl]; rfl
    · rw [Maps.has_del_other (lit_ne e), h2, if_neg e]
  · rw [lookup_filter] at hx
    by_cases e : x = q
    · rw [if_pos e] at hx; cases hx
    · rw [if_neg e] at hx
      rw [Maps.atKey_del_other (lit_ne e)]
      exact h3 x j hx
  · have := Maps.size_del (h1.tidy keyed3) (k := .int .i64 q)
    rw [hh, h4] at this
    have h5 := filter_len hnd hi
    simp at this
    omega
theorem OpM.len {w : World} {mb N : Nat} {op : List (Int × Nat)} (h : OpM w mb N op) (ty : TypeId) : (Builtin.len_ #[82] ty #[.map (some mb)]).run Tryz.prog w = .ok (vI (op.length : Int)) w := by
  obtain ⟨D, h1, h2, h3, h4⟩ := h
  rw [h1.len und72 ty, h4]

/-! ### calls in a row of one's own -/
def COwn (w : World) (B : Nat) (v : Value) (cs : List Cl) : Prop := w.ownsRow B 87 9 v cs.length ((cs.map c9).flatten)
theorem flat_get {α : Type} {n : Nat} {l : List (List α)} (h : ∀ r ∈ l, r.length = n) (i j : Nat) (hi : i < l.length) (hj : j < n) : l.flatten[i * n + j]? = l[i][j]? := by
  induction l generalizing i with
  | nil => simp at hi
  | cons a l ih =>
    have ha : a.length = n := h a (by simp)
    rw [List.flatten_cons]
    cases i with
    | zero => rw [Nat.zero_mul, Nat.zero_add, List.getElem?_append_left (by omega)]; simp
    | succ i =>
      rw [List.getElem?_append_right (by rw [ha, Nat.succ_mul]; omega), ha, show (i + 1) * n + j - n = i * n + j by rw [Nat.succ_mul]; omega, ih (fun r hr => h r (by simp [hr])) i (by simpa using hi)]
      simp
theorem c9_len (c : Cl) : (c9 c).length = 9 := rfl
theorem COwn.fr {S : Nat → Prop} {w w' : World} {B : Nat} {v : Value} {cs : List Cl} (h : COwn w B v cs) (f : Fr S w w') (hS : ∀ j, v.ownBlock = some j → ¬ S j) : COwn w' B v cs := ownsRow_fr h f hS
theorem COwn.val {w : World} {B : Nat} {v : Value} {cs : List Cl} (h : COwn w B v cs) : ∃ ad cap, v = .slice ad cs.length cap := by
  rcases h.2 with ⟨e1, e2⟩ | ⟨g, cap, cur, e, -⟩
  · exact ⟨none, 0, by rw [e1, e2]⟩
  · exact ⟨_, cap, e⟩
theorem COwn.cells {w : World} {B : Nat} {v : Value} {cs : List Cl} (h : COwn w B v cs) (hne : cs ≠ []) : ∃ g cap, v = .slice (some ⟨g, 0, none⟩) cs.length cap ∧ B ≤ g ∧ g < w.heap.size ∧ (∀ o, w.frozen? ⟨g, o, none⟩ = false) ∧ ∀ i (hi : i < cs.length) j, j < 9 → w.cell? ⟨g, i * 9 + j, none⟩ = (c9 cs[i])[j]? := by
  rcases h.2 with ⟨e1, e2⟩ | ⟨g, cap, cur, e, b1, b2, b3, b4, b5, b6⟩
  · exact absurd (List.eq_nil_of_length_eq_zero e2) hne
  · refine ⟨g, cap, e, b1, heap_lt b2, fun o => frozen_of b2 o, fun i hi j hj => ?_⟩
    rw [cell_of b2]
    have e1 : cur[i * 9 + j]? = ((cs.map c9).flatten)[i * 9 + j]? := by rw [← b6, List.getElem?_take, if_pos (by omega), Array.getElem?_toList]
    rw [e1, flat_get (fun r hr => by obtain ⟨c, -, rfl⟩ := List.mem_map.1 hr; rfl) i j (by simpa using hi) hj, List.getElem_map]
/-- A call's end and answer are written over. -/
theorem take_c9 (cs : List Cl) (i : Nat) (hi : i < cs.length) (j : Nat) (hj : j < 9) (u : Value) (c : Cl) (hc : c9 c = (c9 cs[i]).set j u) : ((cs.map c9).flatten).set (i * 9 + j) u = ((cs.set i c).map c9).flatten := by
  induction cs generalizing i with
  | nil => simp at hi
  | cons a l ih =>
    rw [List.map_cons, List.flatten_cons]
    cases i with
    | zero =>
      rw [Nat.zero_mul, Nat.zero_add, List.set_append_left _ _ (by rw [c9_len]; exact hj)]
      simp only [List.getElem_cons_zero] at hc
      rw [← hc]; rfl
    | succ i =>
      rw [show (i + 1) * 9 + j = 9 + (i * 9 + j) by omega, List.set_append_right _ _ (by rw [c9_len]; omega), c9_len, show 9 + (i * 9 + j) - 9 = i * 9 + j by omega, ih i (by simpa using hi) (by simpa using hc)]
      rfl
theorem COwn.put {w : World} {B g cap : Nat} {n : Nat} {cs : List Cl} (h : COwn w B (.slice (some ⟨g, 0, none⟩) n cap) cs) (i : Nat) (hi : i < cs.length) (j : Nat) (hj : j < 9) (u : Value) (c : Cl) (hc : c9 c = (c9 cs[i]).set j u) :
    COwn (w.setCell ⟨g, i * 9 + j, none⟩ u) B (.slice (some ⟨g, 0, none⟩) n cap) (cs.set i c) := by
  obtain ⟨h0, h1⟩ := h
  rcases h1 with ⟨e1, -⟩ | ⟨g', cap', cur, e1, k1, k2, k3, k4, k5, k6⟩
  · cases e1
  · cases e1
    refine ⟨by rw [← take_c9 cs i hi j hj u c hc, List.length_set, List.length_set]; exact h0, Or.inr ⟨g, cap, cur.setIfInBounds (i * 9 + j) u, by rw [List.length_set], k1, set_of k2 _ u, by rw [List.length_set]; exact k3, k4, by simpa using k5, ?_⟩⟩
    rw [← take_c9 cs i hi j hj u c hc, ← k6, Array.toList_setIfInBounds, List.take_set, List.length_set]
/-! ### append -/
theorem info_parts {t : TypeId} {z : Value} {size bytes : Nat} (h : (Tryz.prog.info? t).map (fun i => (i.zero, i.size, i.bytes)) = some (some z, size, bytes)) : ∃ i, Tryz.prog.info? t = some i ∧ i.zero = some z ∧ i.size = size ∧ i.bytes = bytes := by
  cases e : Tryz.prog.info? t with
  | none => rw [e] at h; cases h
  | some i =>
    rw [e] at h
    simp only [Option.map_some, Option.some.injEq, Prod.mk.injEq] at h
    exact ⟨i, rfl, h.1, h.2.1, h.2.2⟩
/-- One element more onto a row of one's own. -/
theorem app1 {t e : TypeId} {z : Value} {size bytes : Nat} (ht : Tryz.prog.underlying t = some (.slice e)) (hi : (Tryz.prog.info? e).map (fun i => (i.zero, i.size, i.bytes)) = some (some z, size, bytes)) (hzs : z.cells.size = size) (hs0 : 0 < size)
    {w : World} {B n : Nat} {v : Value} {xs : List Value} (h : w.ownsRow B e size v n xs) (cs : Array Value) (hcs : cs.size = size) (h1 : ∀ u ∈ cs.toList, u.oneCell' = true) (hm : n + 1 ≤ maxLen) (hb : (n + 1) * bytes ≤ 140737488355328) (hB : B ≤ w.heap.size) :
    ∃ g cap w2, (Builtin.append_ #[t, t] t #[v, .slice (some ⟨w.heap.size, 0, none⟩) 1 1]).run Tryz.prog (w.alloc (.cells cs e)) = .ok (.slice (some ⟨g, 0, none⟩) (n + 1) cap) w2 ∧ w2.ownsRow B e size (.slice (some ⟨g, 0, none⟩) (n + 1) cap) (n + 1) (xs ++ cs.toList) ∧ Fr (fun j => v.ownBlock = some j) w w2 ∧ (v.ownBlock = some g ∨ g = w.heap.size + 1) := by
  obtain ⟨i, hi, hz, hs, hby⟩ := info_parts hi
  obtain ⟨g, cap, w2, hr, hown, hgr, hw, -⟩ := run_append_lies (P := Tryz.prog) (w := w.alloc (.cells cs e)) t t B e i z size bytes ht hi hz hs hby hzs hs0 v n xs (World.ownsRow.alloc h _) ⟨w.heap.size, 0, none⟩ 1 1 cs.toList (by simp [hcs]) (World.news_of_block (heap_alloc_last w _)) h1 (by omega) hm hb (by simp; omega) _ rfl
  exact ⟨g, cap, w2, hr, hown, ((Fr.refl _ w).alloc _).trans (grown_fr hgr), by rcases hw with e | e; exact Or.inl e; right; rw [e]; simp⟩
theorem wpList_append_run {P : Program} {w w' : World} {ops : Array Oper} {rest : List Oper} {o : Oper} {a : Act} {Q : Exit → Act → World → Prop} (hgd : o.guard = none) (s x : Operand) (t : TypeId)
    (ho : o.op = .call { callee := .builtin .append, args := #[s, x], argTypes := #[t, t] }) (v u v' : Value) (hs : a.eval s = v) (hx : a.eval x = u)
    (hrun : (Builtin.append_ #[t, t] o.type #[v, u]).run P w = .ok v' w') (h : wpList P ops Q rest (a.put o.dst v') w') : wpList P ops Q (o :: rest) a w := by
  refine wpList_plain hgd fun K hK => ?_
  unfold Oper.wp
  simp [execOp, ho, resolve, invoke, builtin, hs, hx, hrun, Result.andThen]
  exact hK _ _ h
theorem wpList_delete_run {P : Program} {w w' : World} {ops : Array Oper} {rest : List Oper} {o : Oper} {a : Act} {Q : Exit → Act → World → Prop} (hgd : o.guard = none) (s x : Operand) (t k : TypeId)
    (ho : o.op = .call { callee := .builtin .delete, args := #[s, x], argTypes := #[t, k] }) (v u v' : Value) (hs : a.eval s = v) (hx : a.eval x = u)
    (hrun : (Builtin.delete_ #[t, k] o.type #[v, u]).run P w = .ok v' w') (h : wpList P ops Q rest (a.put o.dst v') w') : wpList P ops Q (o :: rest) a w := by
  refine wpList_plain hgd fun K hK => ?_
  unfold Oper.wp
  simp [execOp, ho, resolve, invoke, builtin, hs, hx, hrun, Result.andThen]
  exact hK _ _ h
theorem wpList_len_run {P : Program} {w w' : World} {ops : Array Oper} {rest : List Oper} {o : Oper} {a : Act} {Q : Exit → Act → World → Prop} (hgd : o.guard = none) (s : Operand) (t : TypeId)
    (ho : o.op = .call { callee := .builtin .len, args := #[s], argTypes := #[t] }) (v v' : Value) (hs : a.eval s = v)
    (hrun : (Builtin.len_ #[t] o.type #[v]).run P w = .ok v' w') (h : wpList P ops Q rest (a.put o.dst v') w') : wpList P ops Q (o :: rest) a w := by
  refine wpList_plain hgd fun K hK => ?_
  unfold Oper.wp
  simp [execOp, ho, resolve, invoke, builtin, hs, hrun, Result.andThen]
  exact hK _ _ h
theorem und48 : Tryz.prog.underlying 53 = some (.slice 87) := by kernel_rfl
theorem info75 : (Tryz.prog.info? 87).map (fun i => (i.zero, i.size, i.bytes)) = some (some (.agg #[vI 0, vI 0, vI 0, vI 0, .string ⟨#[]⟩, .bool false, .string ⟨#[]⟩, .slice none 0 0, .slice none 0 0]), 9, 120) := by kernel_rfl
theorem COwn.app {w : World} {B : Nat} {v : Value} {cs : List Cl} (h : COwn w B v cs) (hB : B ≤ w.heap.size) (c : Cl) (hk : ∃ a n q, c.R.kv = .slice a n q) (hv : ∃ a n q, c.R.vv = .slice a n q) (hl : cs.length ≤ 1000000) :
    ∃ g cap w2, (Builtin.append_ #[53, 53] 53 #[v, .slice (some ⟨w.heap.size, 0, none⟩) 1 1]).run Tryz.prog (w.alloc (.cells (c9 c).toArray 87)) = .ok (.slice (some ⟨g, 0, none⟩) (cs.length + 1) cap) w2 ∧ COwn w2 B (.slice (some ⟨g, 0, none⟩) (cs.length + 1) cap) (cs ++ [c]) ∧ Fr (fun j => v.ownBlock = some j) w w2 ∧ (v.ownBlock = some g ∨ g = w.heap.size + 1) := by
  obtain ⟨a1, n1, q1, e1⟩ := hk
  obtain ⟨a2, n2, q2, e2⟩ := hv
  obtain ⟨g, cap, w2, h1, h2, h3, h4⟩ := app1 und48 info75 rfl (by omega) h (c9 c).toArray rfl (by
    intro u hu
    unfold c9 at hu
    rw [e1, e2] at hu
    simp at hu
    rcases hu with rfl | rfl | rfl | rfl | rfl | rfl | rfl | rfl | rfl <;> rfl) (by unfold maxLen; omega) (by omega) hB
  refine ⟨g, cap, w2, h1, ?_, h3, h4⟩
  unfold COwn
  rw [List.length_append, List.map_append, List.flatten_append]
  simpa using h2
theorem COwn.ended {w : World} {B g cap n : Nat} {cs : List Cl} (h : COwn w B (.slice (some ⟨g, 0, none⟩) n cap) cs) (i : Nat) (c0 : Cl) (hi : cs[i]? = some c0) (k : Nat) (R : RV) :
    COwn (((((w.setCell ⟨g, i * 9 + 1, none⟩ (vI k)).setCell ⟨g, i * 9 + 5, none⟩ (.bool R.r.ok)).setCell ⟨g, i * 9 + 5 + 1, none⟩ (.string R.r.val)).setCell ⟨g, i * 9 + 5 + 2, none⟩ R.kv).setCell ⟨g, i * 9 + 5 + 3, none⟩ R.vv) B (.slice (some ⟨g, 0, none⟩) n cap) (cs.set i { c0 with e := k, R := R }) := by
  obtain ⟨hl, e0⟩ := List.getElem?_eq_some_iff.1 hi
  have h1 := h.put i hl 1 (by omega) (vI k) { c0 with e := k } (by rw [e0]; rfl)
  have h2 := h1.put i (by simpa using hl) 5 (by omega) (.bool R.r.ok) { c0 with e := k, R := { c0.R with r := { c0.R.r with ok := R.r.ok } } } (by simp [c9])
  have h3 := h2.put i (by simpa using hl) 6 (by omega) (.string R.r.val) { c0 with e := k, R := { c0.R with r := R.r } } (by simp [c9])
  have h4 := h3.put i (by simpa using hl) 7 (by omega) R.kv { c0 with e := k, R := { R with vv := c0.R.vv } } (by simp [c9])
  have h5 := h4.put i (by simpa using hl) 8 (by omega) R.vv { c0 with e := k, R := R } (by simp [c9])
  simp only [List.set_set] at h5
  exact h5
theorem fr_five (w : World) (g a1 a2 a3 a4 a5 : Nat) (v1 v2 v3 v4 v5 : Value) : Fr (fun j => j = g) w (((((w.setCell ⟨g, a1, none⟩ v1).setCell ⟨g, a2, none⟩ v2).setCell ⟨g, a3, none⟩ v3).setCell ⟨g, a4, none⟩ v4).setCell ⟨g, a5, none⟩ v5) := by
  refine Fr.setCell ?_ _ _ (Or.inl rfl)
  refine Fr.setCell ?_ _ _ (Or.inl rfl)
  refine Fr.setCell ?_ _ _ (Or.inl rfl)
  refine Fr.setCell ?_ _ _ (Or.inl rfl)
  refine Fr.setCell ?_ _ _ (Or.inl rfl)
  exact Fr.refl _ _
theorem ended_all {w : World} {B g cap n : Nat} {cs : List Cl} (h : COwn w B (.slice (some ⟨g, 0, none⟩) n cap) cs) (i b0 en0 : Nat) (kd ky : Int) (v0 : ByteArray) (R0 : RV) (hi : cs[i]? = some ⟨b0, en0, kd, ky, v0, R0⟩) (k : Nat) (ok : Bool) (val : ByteArray) (ks : List Int) (vs : List ByteArray) (kv vv : Value) :
    ∃ W9, W9 = (((((w.setCell ⟨g, i * 9 + 1, none⟩ (vI k)).setCell ⟨g, i * 9 + 5, none⟩ (.bool ok)).setCell ⟨g, i * 9 + 5 + 1, none⟩ (.string val)).setCell ⟨g, i * 9 + 5 + 2, none⟩ kv).setCell ⟨g, i * 9 + 5 + 3, none⟩ vv) ∧ Fr (fun j => j = g) w W9.drew ∧ COwn W9.drew B (.slice (some ⟨g, 0, none⟩) n cap) (cs.set i ⟨b0, k, kd, ky, v0, ⟨⟨ok, val, ks, vs⟩, kv, vv⟩⟩) := by
  refine ⟨_, rfl, (fr_five w g _ _ _ _ _ _ _ _ _ _).drew, ?_⟩
  have h1 := h.ended i _ hi k ⟨⟨ok, val, ks, vs⟩, kv, vv⟩
  exact h1.fr (S := fun _ => False) ((Fr.refl _ _).drew) (fun _ _ e => e)
/-- A history as it lies. -/
def HAt (w : World) (hv : Value) (ms : List Mo) : Prop :=
  ∃ ad cap, hv = .slice ad ms.length cap ∧ (ms ≠ [] → ∃ g o, ad = some ⟨g, o, none⟩ ∧ ∀ i (h : i < ms.length) j, j < 9 → w.cell? ⟨g, o + i * 9 + j, none⟩ = (m9 ms[i])[j]?) ∧ ∀ m ∈ ms, m.R.At w ∧ m.R.r.keys.length ≤ 1000000000000000000 ∧ In64 m.c
theorem HAt.fr {w w' : World} {hv : Value} {ms : List Mo} (h : HAt w hv ms) (f : Fr (fun _ => False) w w') : HAt w' hv ms := by
  obtain ⟨ad, cap, e, h1, h2⟩ := h
  refine ⟨ad, cap, e, fun hne => ?_, fun m hm => ⟨(h2 m hm).1.fr f, (h2 m hm).2⟩⟩
  obtain ⟨g, o, ea, hc⟩ := h1 hne
  refine ⟨g, o, ea, fun i hi j hj => (f.cell ?_ (fun e => e)).trans (hc i hi j hj)⟩
  have := hc i hi j hj
  rw [List.getElem?_eq_getElem (by exact hj)] at this
  exact cell_lt this
end Go.Proofs.YtihicdbplmdjiaaGreat
