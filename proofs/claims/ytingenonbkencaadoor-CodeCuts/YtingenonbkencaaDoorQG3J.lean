import Derived.Test.YtingenonbkencaaDoorQF2J
import Derived.Deep.RegionLaw
import Derived.Deep.CutRange
import Derived.Deep.RegionHeld3
import Derived.RegionDies
import Derived.Test.YtingenonbkencaaDoorQE6J
set_option linter.unusedVariables false
set_option linter.unusedSimpArgs false
namespace Go.Proofs.YtingenonbkencaaDoor
open Go.RowKit (wrap32 wrap64)
def funcCells : List HD → List Value → List Value
  | h :: r, c :: cs => [vI h.P, vI h.R, vI h.V, c] ++ funcCells r cs
  | _, _ => []
theorem funcCells_length : ∀ (l : List HD) (cs : List Value), cs.length = l.length → (funcCells l cs).length = l.length * 4
  | [], cs, h => by cases cs with | nil => rfl | cons a b => simp at h
  | x :: r, [], h => by simp at h
  | x :: r, c :: cs, h => by
    simp only [funcCells, List.length_append, List.length_cons, List.length_nil]
    rw [funcCells_length r cs (by simpa using h)]
    omega
theorem funcCells_nil : ∀ (l : List HD), funcCells l (List.replicate l.length nilS) = l.flatMap (fun h => [vI h.P, vI h.R, vI h.V, .slice none 0 0])
  | [] => rfl
  | h :: r => by
    simp only [List.length_cons, List.replicate_succ, funcCells, List.flatMap_cons]
    rw [funcCells_nil r]
    rfl
theorem funcCells_at : ∀ (l : List HD) (cs : List Value) (j : Nat) (hj : j < l.length) (hc : cs.length = l.length),
    (funcCells l cs)[j * 4]? = some (vI l[j].P) ∧ (funcCells l cs)[j * 4 + 1]? = some (vI l[j].R) ∧ (funcCells l cs)[j * 4 + 2]? = some (vI l[j].V) ∧ (funcCells l cs)[j * 4 + 3]? = cs[j]?
  | x :: r, [], j, hj, hc => by simp at hc
  | x :: r, c :: cs, 0, _, _ => by simp [funcCells]
  | x :: r, c :: cs, j + 1, hj, hc => by
    have ih := funcCells_at r cs j (by simpa using hj) (by simpa using hc)
    simp only [funcCells, List.getElem_cons_succ, List.getElem?_cons_succ]
    have e : ∀ m, ([vI x.P, vI x.R, vI x.V, c] ++ funcCells r cs)[(j + 1) * 4 + m]? = (funcCells r cs)[j * 4 + m]? := by
      intro m
      rw [List.getElem?_append_right (by simp; omega)]
      congr 1
      simp only [List.length_cons, List.length_nil]
      omega
    have e0 := e 0
    simp only [Nat.add_zero] at e0
    rw [e0, e 1, e 2, e 3]
    exact ih
theorem funcCells_set : ∀ (l : List HD) (cs : List Value) (j : Nat) (v : Value) (tl : List Value), j < l.length → cs.length = l.length →
    (funcCells l cs ++ tl).set (j * 4 + 3) v = funcCells l (cs.set j v) ++ tl
  | x :: r, [], j, v, tl, hj, hc => by simp at hc
  | x :: r, c :: cs, 0, v, tl, _, _ => by simp [funcCells]
  | x :: r, c :: cs, j + 1, v, tl, hj, hc => by
    have ih := funcCells_set r cs j v tl (by simpa using hj) (by simpa using hc)
    simp only [funcCells, List.set_cons_succ]
    rw [List.append_assoc, List.set_append, if_neg (by simp; omega)]
    simp only [List.length_cons, List.length_nil]
    rw [show (j + 1) * 4 + 3 - (0 + 1 + 1 + 1 + 1) = j * 4 + 3 by omega, ih, List.append_assoc]
def funcsX {b : Nat} (M : Mode b) (heads : List (Nat × Nat)) : List HD → WS × M.σ → X (List (List AI) × (WS × M.σ))
  | [], x => .ok ([], x)
  | h :: r, x => match codeX M heads h.R.toNat h.len.toNat h.len.toNat ({ x.1 with fP := h.P, fR := (h.R.toNat : Nat), fV := h.V, fC := .slice none 0 0, len := (h.len.toNat : Nat) }, x.2) with
    | .error z => .error z
    | .ok (l, y) => match funcsX M heads r y with
      | .error z => .error z
      | .ok (ls, y') => .ok (l :: ls, y')
def contF {α : Type} (done : List (List AI)) : X (List (List AI) × α) → X (List (List AI) × α)
  | .ok (vs, y) => .ok (done ++ vs, y)
  | .error z => .error z
theorem contF_nil {α : Type} (r : X (List (List AI) × α)) : contF [] r = r := by cases r <;> simp [contF]
theorem contF_cons {b : Nat} (M : Mode b) (heads : List (Nat × Nat)) (done : List (List AI)) (h : HD) (r : List HD) (x y : WS × M.σ) (l : List AI)
    (hc : codeX M heads h.R.toNat h.len.toNat h.len.toNat ({ x.1 with fP := h.P, fR := (h.R.toNat : Nat), fV := h.V, fC := .slice none 0 0, len := (h.len.toNat : Nat) }, x.2) = .ok (l, y)) :
    contF done (funcsX M heads (h :: r) x) = contF (done ++ [l]) (funcsX M heads r y) := by
  simp only [funcsX, hc]
  cases funcsX M heads r y with
  | error z => rfl
  | ok p => simp [contF]
structure KeptF (s s' : WS) : Prop where
  num : s'.num = s.num
  globals : s'.globals = s.globals
  funcs : s'.funcs = s.funcs
theorem codeX_kept {b : Nat} {M : Mode b} {heads : List (Nat × Nat)} {fR len : Nat} : ∀ {m : Nat} {x : WS × M.σ} {l : List AI} {y : WS × M.σ}, codeX M heads fR len m x = .ok (l, y) → Kept2 x.1 y.1
  | 0, _, _, _, h => by simp only [codeX, Except.ok.injEq, Prod.mk.injEq] at h; rw [← h.2]; exact Kept2.refl _
  | m + 1, x, l, y, h => by
    simp only [codeX] at h
    split at h
    · cases h
    · rename_i ll y1 h1
      split at h
      · cases h
      · rename_i l' y' h2
        simp only [Except.ok.injEq, Prod.mk.injEq] at h
        rw [← h.2]
        exact ((show Kept2 x.1 (blank x.1) from ⟨rfl, rfl, rfl, rfl, rfl, rfl, rfl, rfl⟩).trans (instrX_kept h1)).trans (codeX_kept h2)
theorem codeX_length {b : Nat} {M : Mode b} {heads : List (Nat × Nat)} {fR len : Nat} : ∀ {m : Nat} {x : WS × M.σ} {l : List AI} {y : WS × M.σ}, codeX M heads fR len m x = .ok (l, y) → l.length = m
  | 0, _, _, _, h => by simp only [codeX, Except.ok.injEq, Prod.mk.injEq] at h; rw [← h.1]; rfl
  | m + 1, x, l, y, h => by
    simp only [codeX] at h
    split at h
    · cases h
    · split at h
      · cases h
      · rename_i l' y' h2
        simp only [Except.ok.injEq, Prod.mk.injEq] at h
        rw [← h.1, List.length_cons, codeX_length h2]
theorem codeX_blank {b : Nat} {M : Mode b} (heads : List (Nat × Nat)) (fR len m : Nat) (x x' : WS × M.σ) (hm : 0 < m) (h1 : blank x.1 = blank x'.1) (h2 : x.2 = x'.2) : codeX M heads fR len m x = codeX M heads fR len m x' := by
  cases m with
  | zero => exact absurd hm (Nat.lt_irrefl 0)
  | succ m =>
    simp only [codeX]
    rw [h1, h2]
def headsOf (l : List HD) : List (Nat × Nat) := l.map (fun h => (h.P.toNat, h.R.toNat))
theorem headsAt_of {w : World} {g : Nat} {l : List HD} {cs tl : List Value} {e : TypeId} (hb : w.heap[g]? = some (.cells (funcCells l cs ++ tl).toArray e)) (hc : cs.length = l.length)
    (hf : ∀ h ∈ l, (0 ≤ h.P ∧ h.P ≤ 8) ∧ (0 ≤ h.R ∧ h.R ≤ 4)) : HeadsAt w g 0 (headsOf l) := by
  intro j hj
  have hj' : j < l.length := by simpa [headsOf] using hj
  have hfl := funcCells_length l cs hc
  have hat := funcCells_at l cs j hj' hc
  have hfj := hf l[j] (List.getElem_mem hj')
  have e1 : (headsOf l)[j] = (l[j].P.toNat, l[j].R.toNat) := by simp [headsOf]
  have cell : ∀ o, o < (funcCells l cs).length → w.cell? ⟨g, 0 + o, none⟩ = (funcCells l cs)[o]? := by
    intro o ho
    unfold World.cell?
    simp only [hb, Nat.zero_add, Option.isSome_none, Bool.false_eq_true, if_false, List.getElem?_toArray]
    rw [List.getElem?_append_left ho]
  rw [e1]
  refine ⟨?_, ?_, ?_, ?_⟩
  · rw [cell _ (by omega), hat.1]
    simp only [Option.some.injEq, Value.int.injEq, true_and]
    omega
  · rw [Nat.add_assoc, cell _ (by omega), hat.2.1]
    simp only [Option.some.injEq, Value.int.injEq, true_and]
    omega
  · simp only; omega
  · simp only; omega
def CodesAt (w0 w : World) : List (List AI) → List Value → Prop
  | [], _ => True
  | l :: ls, c :: cs => (∃ gc cells, w0.heap.size ≤ gc ∧ c = .slice (some ⟨gc, 0, none⟩) l.length l.length ∧ w.heap[gc]? = some (.cells cells.toArray 71) ∧ CodeCells w0 w l cells) ∧ CodesAt w0 w ls cs
  | _ :: _, [] => False
theorem CodesAt.fr {S : Nat → Prop} {w0 w w' : World} (f : Fr S w w') (hS : ∀ k, w0.heap.size ≤ k → k < w.heap.size → ¬ S k) : ∀ {ls : List (List AI)} {cs : List Value}, CodesAt w0 w ls cs → CodesAt w0 w' ls cs
  | [], _, h => h
  | _ :: _, [], h => h
  | l :: ls, c :: cs, ⟨⟨gc, cells, h1, h2, h3, h4⟩, h⟩ => by
    have hlt : gc < w.heap.size := (Array.getElem?_eq_some_iff.1 h3).1
    exact ⟨⟨gc, cells, h1, h2, by rw [f.block gc hlt (hS gc h1 hlt)]; exact h3, h4.fr f hS⟩, CodesAt.fr f hS h⟩
theorem CodesAt.snoc {w0 w : World} (l : List AI) (v : Value) (hv : ∃ gc cells, w0.heap.size ≤ gc ∧ v = .slice (some ⟨gc, 0, none⟩) l.length l.length ∧ w.heap[gc]? = some (.cells cells.toArray 71) ∧ CodeCells w0 w l cells) :
    ∀ {ls : List (List AI)} {cs : List Value}, ls.length < cs.length → CodesAt w0 w ls cs → CodesAt w0 w (ls ++ [l]) (cs.set ls.length v)
  | [], [], hl, _ => by simp at hl
  | [], c :: cs, _, _ => ⟨hv, trivial⟩
  | x :: ls, [], hl, _ => by simp at hl
  | x :: ls, c :: cs, hl, ⟨h1, h2⟩ => by
    simp only [List.cons_append, List.length_cons, List.set_cons_succ]
    exact ⟨h1, CodesAt.snoc l v hv (by simpa using hl) h2⟩
structure Under (b : Nat) (rv : Value) (B : Nat) : Prop where
  walk : b < B
  tab : 0 < B
  bytes : ∀ k o n c, rv = .slice (some ⟨k, o, none⟩) n c → n ≠ 0 → k < B
theorem On.under {b : Nat} {rv : Value} {bs : List UInt8} {B : Nat} (hu : Under b rv B) {w w' : World} {x : WS × Unit} (h : On (reading b rv bs) w x) (f : Fr (fun k => B ≤ k) w w') : On (reading b rv bs) w' x := by
  obtain ⟨h1, h2, ⟨g1, a, c, g2, g3, g4⟩, h4, h5, h6, h7⟩ := h
  have hb := hu.walk
  have ht := hu.tab
  refine ⟨h1.fr f (by omega), h2, ⟨g1, a, c, g2, g3, fun hne => ?_⟩, h4, h5, h6, h7.fr f (by omega)⟩
  obtain ⟨k, o, e, hk, hkb, hc⟩ := g4 hne
  subst e
  have := hu.bytes k o _ c g2 (by intro e; exact hne (List.length_eq_zero_iff.1 e))
  exact ⟨k, o, rfl, Nat.lt_of_lt_of_le hk f.size, hkb, fun i hi => (f.cell hk (by omega)).trans (hc i hi)⟩
def headCells (l : List HD) : List Value := l.flatMap (fun h => [vI h.P, vI h.R, vI h.V, .slice none 0 0])
def HeadFine (h : HD) : Prop := (0 ≤ h.V ∧ h.V ≤ 255) ∧ (0 ≤ h.P ∧ h.P ≤ 8) ∧ (0 ≤ h.R ∧ h.R ≤ 4) ∧ 0 < h.len ∧ h.len ≤ 4096
theorem step_append_own {P : Program} {ops : Array Oper} {o : Oper} {a : Act} {w : World} {K : Act → World → Prop} {Q : Exit → Act → World → Prop} {E : Prop}
    (hg : o.guard = none) (s x : Operand) (t : TypeId) (hop : o.op = Op.call { callee := Callee.builtin Builtin.append, args := #[s, x], argTypes := #[t, t] })
    (base : Nat) (e : TypeId) (z : Value) (size bytes : Nat) (h1 : P.underlying t = some (.slice e)) (hinfo : (P.info? e).map (fun i => (i.zero, i.size, i.bytes)) = some (some z, size, bytes)) (h6 : z.cells.size = size) (h7 : 0 < size)
    (v : Value) (n : Nat) (xs : List Value) (hs : a.eval s = v) (hown : w.ownsRow base e size v n xs)
    (ad : Addr) (m c : Nat) (news : List Value) (hx : a.eval x = .slice (some ad) m c) (hn : news.length = m * size) (hc : ∀ j u, news[j]? = some u → w.cell? (ad.add j) = some u) (h1c : ∀ u ∈ news, u.oneCell' = true)
    (b1 : n + m ≤ maxLen) (b2 : (n + m) * bytes ≤ 140737488355328) (hbase : base ≤ w.heap.size)
    (hK : ∀ a' c' w', w'.ownsRow base e size (.slice a' (n + m) c') (n + m) (xs ++ news) → w.grownBy w' v.ownBlock → K (a.put o.dst (.slice a' (n + m) c')) w') :
    if Region.wanted o (yielded ops a.tmps) = true then Oper.wp P o a w K Q else E := by
  obtain ⟨i, h2, h3, h4, h5⟩ := info_parts hinfo
  have hw : Region.wanted o (yielded ops a.tmps) = true := by simp [Region.wanted, hg]
  rw [if_pos hw]
  obtain ⟨v', w', hrun, r1, r2, _⟩ := run_append_own (P := P) w base t o.type e i z size bytes h1 h2 h3 h4 h5 h6 h7 v n xs hown ad m c news hn hc h1c b1 b2 hbase
  obtain ⟨a', c', rfl⟩ : ∃ a' c', v' = .slice a' (n + m) c' := by
    rcases r1.2 with ⟨e1, e2⟩ | ⟨g, cap, cur, e1, -⟩
    · exact ⟨none, 0, by rw [e1, e2]⟩
    · exact ⟨_, _, e1⟩
  unfold Oper.wp
  simp [execOp, hop, resolve, invoke, builtin, hs, hx, hrun, Result.andThen]
  exact hK a' c' w' r1 r2
theorem ownsRow_fr {S : Nat → Prop} {w w' : World} {B e size n : Nat} {v : Value} {xs : List Value} (h : w.ownsRow B e size v n xs) (f : Fr S w w') (hS : ∀ g, v.ownBlock = some g → ¬ S g) : w'.ownsRow B e size v n xs := by
  refine ⟨h.1, ?_⟩
  rcases h.2 with h2 | ⟨g, cap, cur, rfl, h3, h4, h5⟩
  · exact Or.inl h2
  · exact Or.inr ⟨g, cap, cur, rfl, h3, by rw [f.block g ((Array.getElem?_eq_some_iff.1 h4).1) (hS g rfl)]; exact h4, h5⟩
theorem Under.I {b : Nat} {rv : Value} {bs : List UInt8} {B : Nat} (hu : Under b rv B) {st : Unit} {p : Int} {w w' : World} (h : (reading b rv bs).I st p w) (f : Fr (fun k => B ≤ k) w w') : (reading b rv bs).I st p w' := by
  obtain ⟨⟨g1, a, c, g2, g3, g4⟩, h4, h5, h6, h7⟩ := h
  have ht := hu.tab
  refine ⟨⟨g1, a, c, g2, g3, fun hne => ?_⟩, h4, h5, h6, h7.fr f (by omega)⟩
  obtain ⟨k, o, e, hk, hkb, hc⟩ := g4 hne
  subst e
  have := hu.bytes k o _ c g2 (by intro e; exact hne (List.length_eq_zero_iff.1 e))
  exact ⟨k, o, rfl, Nat.lt_of_lt_of_le hk f.size, hkb, fun i hi => (f.cell hk (by omega)).trans (hc i hi)⟩
theorem reading_fresh (b : Nat) (rv : Value) (bs : List UInt8) : FreshOk (reading b rv bs) := by
  intro x w hx y hy k hk
  refine ⟨fun h => h.elim, ?_⟩
  obtain ⟨hl, hn, ⟨g1, a, c, g2, g3, g4⟩, h4, h5, h6, h7⟩ := hx
  have hne : bs ≠ [] := by
    intro e
    subst e
    unfold nextX at hy
    simp only [reading, rd] at hy
    split at hy
    · rename_i heq
      split at heq
      · rename_i heq2
        split at heq2
        · rename_i hle; simp at hle
        · cases heq2
      · cases heq
    · cases hy
  obtain ⟨k', o, e, hk', hkb, hc⟩ := g4 hne
  rintro (rfl | ⟨o', n', c', e'⟩)
  · have := hl.lt; omega
  · rw [g2, e] at e'
    simp only [Value.slice.injEq, Option.some.injEq, Addr.mk.injEq] at e'
    omega
theorem cells_funcs (s : WS) (v : Value) : s.cells.setIfInBounds 147 v = { s with funcs := v }.cells := by kernel_rfl
set_option maxRecDepth 100000
set_option maxHeartbeats 1000000
abbrev u8v (c : UInt8) : Value := .int .u8 c.toNat
def leBytes : Nat → Nat → List UInt8
  | 0, _ => []
  | k + 1, n => UInt8.ofNat (n % 256) :: leBytes k (n / 256)
theorem leBytes_length : ∀ (k n : Nat), (leBytes k n).length = k
  | 0, _ => rfl
  | k + 1, n => by simp [leBytes, leBytes_length k]
theorem leBytes_get : ∀ (k n j : Nat), j < k → (leBytes k n)[j]? = some (UInt8.ofNat (n / 256 ^ j % 256))
  | 0, _, _, h => absurd h (Nat.not_lt_zero _)
  | k + 1, n, 0, _ => by simp [leBytes]
  | k + 1, n, j + 1, h => by
    simp only [leBytes, List.getElem?_cons_succ]
    rw [leBytes_get k (n / 256) j (by omega), Nat.div_div_eq_div_mul, Nat.pow_succ, Nat.mul_comm]
theorem leBytes_take (k n j : Nat) (h : j < k) : (leBytes k n).take (j + 1) = (leBytes k n).take j ++ [UInt8.ofNat (n / 256 ^ j % 256)] := by
  rw [List.take_add_one, leBytes_get k n j h]
  rfl
structure Row (w : World) (wb g0 K : Nat) (l : List UInt8) (bv : Value) : Prop where
  var : w.heap[wb]? = some (.cells #[bv] 53)
  own : w.ownsRow K 5 1 bv l.length (l.map u8v) ∨ (bv = .slice (some ⟨g0, 0, none⟩) l.length l.length ∧ ∀ j u, (l.map u8v)[j]? = some u → w.cell? ⟨g0, j, none⟩ = some u)
  g0K : g0 < K
  g0w : g0 ≠ wb
  wK : wb < K
  Kw : K ≤ w.heap.size
theorem Row.alloc {w : World} {wb g0 K : Nat} {l : List UInt8} {bv : Value} (h : Row w wb g0 K l bv) (o : Obj) : Row (w.alloc o) wb g0 K l bv := by
  have e : ∀ k, k < K → (w.alloc o).heap[k]? = w.heap[k]? := fun k hk => Go.RowKit.Below.heap_alloc w o k (Nat.lt_of_lt_of_le hk h.Kw)
  refine ⟨by rw [e wb h.wK]; exact h.var, ?_, h.g0K, h.g0w, h.wK, by have := h.Kw; simp; omega⟩
  rcases h.own with k | ⟨k1, k2⟩
  · exact Or.inl (k.alloc o)
  · exact Or.inr ⟨k1, fun j u hu => by rw [World.cell?_of_block (a := ⟨g0, j, none⟩) (e g0 h.g0K)]; exact k2 j u hu⟩
theorem Row.fr {S : Nat → Prop} {w w' : World} {wb g0 K : Nat} {l : List UInt8} {bv : Value} (h : Row w wb g0 K l bv) (f : Fr S w w') (h1 : ¬ S wb) (h2 : ¬ S g0) (h3 : ∀ k, K ≤ k → ¬ S k) : Row w' wb g0 K l bv := by
  have hKw := h.Kw
  have hwK := h.wK
  have hgK := h.g0K
  refine ⟨by rw [f.block wb (by omega) h1]; exact h.var, ?_, h.g0K, h.g0w, h.wK, Nat.le_trans hKw f.size⟩
  rcases h.own with k | ⟨k1, k2⟩
  · exact Or.inl (ownsRow_fr k f (fun g e => h3 g (World.ownsRow.lt k g e).1))
  · exact Or.inr ⟨k1, fun j u hu => by rw [f.cell (by omega) h2]; exact k2 j u hu⟩
theorem addr_add (g j : Nat) : (⟨g, 0, none⟩ : Addr).add j = ⟨g, j, none⟩ := by unfold Addr.add; split <;> simp_all
theorem row_append {w : World} {wb g0 K : Nat} {l : List UInt8} {bv : Value} (h : Row w wb g0 K l bv) (ty : TypeId) (ad : Addr) (cc : Nat) (c : Value) (hc : ∀ j u, [c][j]? = some u → w.cell? (ad.add j) = some u) (h1 : ∀ u ∈ [c], u.oneCell' = true) (hl : l.length + 1 ≤ 1000000000000) :
    ∃ v1 w6 r, (Builtin.append_ #[22, 22] ty #[bv, .slice (some ad) 1 cc]).run Tryd.prog w = .ok v1 w6 ∧ w6.ownsRow K 5 1 v1 (l.length + 1) (l.map u8v ++ [c]) ∧ w.grownBy w6 r ∧ (∀ g, r = some g → K ≤ g) := by
  obtain ⟨i5, hi5, hz5, hs5, hb5⟩ := info_parts (P := Tryd.prog) (e := 5) (z := .int .u8 0) (size := 1) (bytes := 1) (by kernel_rfl)
  have hm : l.length + 1 ≤ maxLen := by unfold maxLen; omega
  rcases h.own with k | ⟨rfl, k2⟩
  · obtain ⟨v1, w6, hr, r1, r2, -⟩ := run_append_own (P := Tryd.prog) w K 22 ty 5 i5 (.int .u8 0) 1 1 Tryd.underlying22 hi5 hz5 hs5 hb5 rfl (by omega) bv l.length _ k ad 1 cc [c] rfl hc h1 hm (by omega) h.Kw
    exact ⟨v1, w6, _, hr, r1, r2, fun g e => (World.ownsRow.lt k g e).1⟩
  · have hr := run_append_grow (P := Tryd.prog) w 22 ty 5 i5 (.int .u8 0) Tryd.underlying22 hi5 hz5 ⟨g0, 0, none⟩ l.length l.length (l.map u8v) (by rw [hs5]; simp) (fun j u hu => by rw [addr_add]; exact k2 j u hu) ad 1 cc [c] (by rw [hs5]; rfl) hc (by omega) (by omega) (by rw [hb5]; exact growslice_fits (by omega) (by omega))
    have hge := grownCap_ge w (l.length + 1) l.length 5
    have hcm : grownCap w (l.length + 1) l.length 5 ≤ maxLen := grownCap_le_maxLen w (l.length + 1) l.length 5 hm
    refine ⟨_, _, none, hr, ⟨by simp, .inr ⟨w.heap.size, _, _, rfl, h.Kw, heap_alloc_last w.drew _, hge, hcm, ?_, ?_⟩⟩, ⟨rfl, rfl, rfl, by simp, fun k hk _ => Go.RowKit.Below.heap_alloc w.drew _ k hk⟩, fun g e => by cases e⟩
    · have : (Builtin.zeroCells (Value.int .u8 0).cells (grownCap w (l.length + 1) l.length 5 - (l.length + 1))).size = grownCap w (l.length + 1) l.length 5 - (l.length + 1) := by
        rw [size_zeroCells]; rw [show (Value.int IntKind.u8 0).cells.size = 1 from rfl]; omega
      simp only [Array.size_append, List.size_toArray, this, List.length_map, List.length_cons, List.length_nil]
      omega
    · simp only [Array.toList_append]
      rw [List.take_append_of_le_length (by simp), List.take_of_length_le (by simp)]
theorem wpList_row {w : World} {wb g0 K : Nat} {l : List UInt8} {bv : Value} {ops : Array Oper} {rest : List Oper} {o : Oper} {a : Act} {Q : Exit → Act → World → Prop} (hgd : o.guard = none) (s x : Operand)
    (ho : o.op = .call { callee := .builtin .append, args := #[s, x], argTypes := #[22, 22] }) (h : Row w wb g0 K l bv) (hs : a.eval s = bv) (ad : Addr) (cc : Nat) (c : Value) (hx : a.eval x = .slice (some ad) 1 cc)
    (hc : ∀ j u, [c][j]? = some u → w.cell? (ad.add j) = some u) (h1 : ∀ u ∈ [c], u.oneCell' = true) (hl : l.length + 1 ≤ 1000000000000)
    (hk : ∀ v1 w6 r, w6.ownsRow K 5 1 v1 (l.length + 1) (l.map u8v ++ [c]) → w.grownBy w6 r → (∀ g, r = some g → K ≤ g) → wpList Tryd.prog ops Q rest (a.put o.dst v1) w6) : wpList Tryd.prog ops Q (o :: rest) a w :=
  wpList_plain hgd fun _ hK => by
    obtain ⟨v1, w6, r, hr, h2, h3, h4⟩ := row_append h o.type ad cc c hc h1 hl
    unfold Oper.wp execOp
    simp only [ho, resolve, invoke, builtin, Sem.run_bind, Sem.run_pure, Result.andThen_ok, List.map_toArray, List.map_cons, List.map_nil, hs, hx, hr]
    exact hK _ _ (hk v1 w6 r h2 h3 h4)
theorem Row.push {w w6 : World} {wb g0 K : Nat} {l : List UInt8} {bv v1 : Value} {c : UInt8} {r : Option Nat} (h : Row w wb g0 K l bv)
    (hown : w6.ownsRow K 5 1 v1 (l.length + 1) (l.map u8v ++ [u8v c])) (hg : w.grownBy w6 r) (hr : ∀ g, r = some g → K ≤ g) : Row (w6.setCell ⟨wb, 0, none⟩ v1) wb g0 K (l ++ [c]) v1 ∧ Fr (fun k => k = wb ∨ K ≤ k) w (w6.setCell ⟨wb, 0, none⟩ v1) := by
  have hKw := h.Kw
  have hwK := h.wK
  have hvar6 : w6.heap[wb]? = some (.cells #[bv] 53) := by rw [hg.block wb (by omega) (fun e => by have := hr wb e.symm; omega)]; exact h.var
  have hbw : ∀ g, v1.ownBlock = some g → g ≠ wb := fun g e hw => by have := (World.ownsRow.lt hown g e).1; omega
  refine ⟨⟨?_, Or.inl ?_, h.g0K, h.g0w, hwK, by have := hg.size; simp; omega⟩, ?_⟩
  · unfold World.setCell
    simp only [Array.getElem?_modify]
    rw [if_pos trivial, hvar6]
    rfl
  · have e1 : (l ++ [c]).length = l.length + 1 := by simp
    rw [e1, List.map_append]
    have hf : Fr (fun j => j = wb) w6 (w6.setCell ⟨wb, 0, none⟩ v1) := Fr.setCell (Fr.refl (fun j => j = wb) w6) _ _ (Or.inl rfl)
    exact ownsRow_fr hown hf (fun g e => hbw g e)
  · exact Fr.setCell ((grown_fr hg).mono (fun j hj e => Or.inr (hr j e))) _ _ (Or.inl (Or.inl rfl))
theorem writes_any (wb g0 K : Nat) (l : List UInt8) (bv : Value) (p : Addr) (at' v : Int) (size : Nat) (w : World) (hp : w.cell? p = some (vI v)) (hs : size ≤ 8) (hr : Row w wb g0 K l bv) (hl : l.length + size ≤ 1000000000000) :
    Calls Tryd.prog 34 #[.pointer (some ⟨wb, 0, none⟩), .pointer (some p), .int .i64 at', .int .i64 size] w fun e w' =>
      e = .returned (.tuple #[]) ∧ (∃ bv', Row w' wb g0 K (l ++ leBytes size (IntKind.u64.wrap v).toNat) bv') ∧ Fr (fun k => k = wb ∨ K ≤ k) w w' := by
  have hN0 : 0 ≤ IntKind.u64.wrap v := by rw [IntKind.wrap_u64]; omega
  obtain ⟨N, hN⟩ := Int.eq_ofNat_of_zero_le hN0
  have HN : Hd (IntKind.u64.wrap v = N) := hN
  go_enter Tryd.func34, Tryd.ntmps34
  go_wp2_with fail
  obtain ⟨i5, hi5, hz5, hs5, hb5⟩ := info_parts (P := Tryd.prog) (e := 5) (z := .int .u8 0) (size := 1) (bytes := 1) (by kernel_rfl)
  go_loopw [8, 14] (fun nv i wr => ∃ (k : Nat) (bv' : Value), k ≤ size ∧ i = .int .i64 k ∧ nv = .int .u64 ((N / 256 ^ k : Nat) : Int) ∧ Row wr wb g0 K (l ++ (leBytes size N).take k) bv' ∧ Fr (fun k => k = wb ∨ K ≤ k) w wr) (fun _ i _ => match i with | .int _ q => size - q.toNat | _ => 0)
  case atStart => exact ⟨0, bv, Nat.zero_le _, rfl, by simp, by simpa using hr, Fr.refl _ _⟩
  case round =>
    obtain ⟨k, bv', hk, rfl, rfl, hrow, hfr⟩ := hrel
    by_cases hlt : k < size
    · have hKw := hrow.Kw
      have hcw : wr.cell? ⟨wb, 0, none⟩ = some bv' := by unfold World.cell?; simp [hrow.var]
      have hwb : wb < wr.heap.size := by have := hrow.wK; omega
      have hll : (l ++ (leBytes size N).take k).length = l.length + k := by simp [leBytes_length]; omega
      have hcell1 : ∀ (j : Nat) (u : Value), [Value.int .u8 ((N : Int) / 256 ^ k % 256)][j]? = some u → (wr.alloc (.cells #[.int .u8 ((N : Int) / 256 ^ k % 256)] 5)).cell? ((⟨wr.heap.size, 0, none⟩ : Addr).add j) = some u := by
        intro j u hu
        have hadd : (⟨wr.heap.size, 0, none⟩ : Addr).add j = ⟨wr.heap.size, j, none⟩ := by unfold Addr.add; split <;> simp_all
        rw [hadd, World.cell?_alloc_new]
        simpa using hu
      have hval : Hd (Value.int .u8 ((N : Int) / 256 ^ k % 256) = u8v (UInt8.ofNat (N / 256 ^ k % 256))) := by
        unfold Hd
        simp
      have hl' : (l ++ (leBytes size N).take k).length + 1 ≤ 1000000000000 := by rw [hll]; omega
      go_wp2_with ((
        at_builtin
        refine wpList_row rfl (.tmp 20) (.tmp 23) rfl (hrow.alloc _) rfl ⟨wr.heap.size, 0, none⟩ 1 (.int .u8 ((N : Int) / 256 ^ k % 256)) rfl hcell1 (by intro u hu; simp at hu; subst hu; rfl) hl' ?_
        intro v1 w6 r hown6 hgrow6 hr6
        rw [hll] at hown6
        obtain ⟨a', c', hv1⟩ : ∃ a' c', v1 = .slice a' (l.length + k + 1) c' := by
          rcases hown6.2 with ⟨e1, e2⟩ | ⟨g, cap, cur, e1, -⟩
          · omega
          · exact ⟨_, _, e1⟩
        subst hv1
        have hw6 : w6.heap[wb]? = some (.cells #[bv'] 53) := by
          rw [hgrow6.block wb (by simp; omega) (fun e => by have := hr6 wb e.symm; have := hrow.wK; omega), Go.RowKit.Below.heap_alloc _ _ _ hwb]; exact hrow.var
        have hc6 : w6.cell? ⟨wb, 0, none⟩ = some bv' := by unfold World.cell?; simp [hw6]
        have hz6 : w6.frozen? ⟨wb, 0, none⟩ = false := by unfold World.frozen?; simp [hw6]
        have hlt6 : wb < w6.heap.size := (Array.getElem?_eq_some_iff.1 hw6).1))
      rw [hval.out] at hown6
      rw [← hll] at hown6
      obtain ⟨hr2, hf2⟩ := (hrow.alloc (.cells #[.int .u8 ((N : Int) / 256 ^ k % 256)] 5)).push hown6 hgrow6 hr6
      rw [hll] at hr2 hf2
      refine ⟨⟨k + 1, .slice a' (l.length + k + 1) c', by omega, by simp, ?_, ?_, ?_⟩, by simp; omega⟩
      · rw [Nat.pow_succ, ← Nat.div_div_eq_div_mul]; simp
      · rw [leBytes_take size N k hlt, ← List.append_assoc]
        exact hr2
      · exact hfr.trans ((Fr.alloc (Fr.refl _ wr) _).trans hf2)
    · have hks : k = size := by omega
      subst hks
      go_wp2_with fail
      go_end0
      refine ⟨rfl, ⟨bv', ?_⟩, hfr⟩
      rw [HN.out, Int.toNat_natCast]
      rw [List.take_of_length_le (by rw [leBytes_length]; exact Nat.le_refl _)] at hrow
      exact hrow
def writerFn (wb : Nat) : Value := .func (.func 34) #[.pointer (some ⟨wb, 0, none⟩)] #[]
def writing (b wb g0 K : Nat) : Mode b where
  σ := Nat × List UInt8
  S := fun k => k = wb ∨ K ≤ k
  N := fun k => k = 0 ∨ k = wb ∨ k = g0 ∨ K ≤ k
  fn := writerFn wb
  I := fun st p w => p = st.2.length ∧ st.2.length + 8 * st.1 ≤ 1000000000000 ∧ 0 < K ∧ 0 < wb ∧ b ≠ 0 ∧ b < K ∧ b ≠ wb ∧ g0 ≠ b ∧ Tab w ∧ ∃ bv, Row w wb g0 K st.2 bv
  eff := fun st _ size v => if st.1 = 0 then .error (-1, -1) else .ok (v, (st.1 - 1, st.2 ++ leBytes size (IntKind.u64.wrap v).toNat))
  tab := fun _ _ _ h => h.2.2.2.2.2.2.2.2.1
  stable := fun st p w w' h f => by
    obtain ⟨h1, h2, h3, h4, h5, h6, h7, h8, h9, bv, k⟩ := h
    exact ⟨h1, h2, h3, h4, h5, h6, h7, h8, h9.fr f (fun e => h5 e.symm), bv, k.fr f (fun e => h7 e.symm) h8 (fun j hj e => by omega)⟩
end Go.Proofs.YtingenonbkencaaDoor
