import Derived.Test.YtihicdbplmdjiaaQLbJ
import Derived.Test.YtihicdbplmdjiaaQH8
import Derived.Test.YtihicdbplmdjiaaQMcJ
namespace Go.Proofs.Ytihicdbplmdjiaa
open Go.RowKit (wrap32 wrap64)
set_option linter.unusedVariables false
set_option linter.unusedSimpArgs false

section
variable {P : Program} {ops : Array Oper} {Q : Exit → Act → World → Prop} {md : Region.Mode} {S : World → Prop}
/-- Two may come up. -/
theorem heldTwo {i j : Nat} {oi oj : Oper} {fuel : Nat} {listed : Array Bool} {a : Act} {w : World} (hi : ops[i]? = some oi) (hj : ops[j]? = some oj) (hr : Region.ready md ops listed = [i, j])
    (h1 : ∀ K' : Act → World → Prop, Shut (∀ a w, S w → wpAnyH P md ops Q S fuel (listed.setIfInBounds i true) a w → K' a w) → if Region.wanted oi (yielded ops a.tmps) = true then Oper.wp P oi a w K' Q else K' (a.put oi.dst undef) w)
    (h2 : ∀ K' : Act → World → Prop, Shut (∀ a w, S w → wpAnyH P md ops Q S fuel (listed.setIfInBounds j true) a w → K' a w) → if Region.wanted oj (yielded ops a.tmps) = true then Oper.wp P oj a w K' Q else K' (a.put oj.dst undef) w) : wpAnyH P md ops Q S (fuel + 1) listed a w := by
  refine wpAnyH_all hr (by simp) (fun k hk => ?_)
  simp only [List.mem_cons, List.not_mem_nil, or_false] at hk
  rcases hk with rfl | rfl
  · exact wpOp_step hi (fun K' hK => h1 K' (fun a w h1 h2 => hK a w ⟨h1, h2⟩))
  · exact wpOp_step hj (fun K' hK => h2 K' (fun a w h1 h2 => hK a w ⟨h1, h2⟩))
end
theorem ra_rowB {w : World} {v : Value} {xs : List Value} (h : RowAt w v xs) : RowB w w.heap.size v xs := by
  obtain ⟨ad, cap, e, hx⟩ := h
  refine ⟨ad, cap, e, fun hne => ?_⟩
  obtain ⟨g, o, ea, hc⟩ := hx hne
  exact ⟨g, o, ea, cell_lt (hc 0 (List.length_pos_iff.2 hne)), hc⟩
/-- One number more, wherever it lies. -/
theorem app_int {w : World} {B n pb : Nat} {v : Value} {xs : List Value} {z : Int} (h : w.ownsRow B 3 1 v n xs) (hb : w.heap[pb]? = some (.cells #[vI z] 3)) (hB : B ≤ w.heap.size) (hn : n ≤ 4000000000) :
    ∃ g cap w2, (Builtin.append_ #[25, 25] 25 #[v, .slice (some ⟨pb, 0, none⟩) 1 1]).run Try.prog w = .ok (.slice (some ⟨g, 0, none⟩) (n + 1) cap) w2 ∧ w2.ownsRow B 3 1 (.slice (some ⟨g, 0, none⟩) (n + 1) cap) (n + 1) (xs ++ [vI z]) ∧ Fr (fun j => v.ownBlock = some j) w w2 := by
  obtain ⟨i, hi, hz, hs, hby⟩ := info_parts info3
  obtain ⟨g, cap, w2, hr, hown, hgr, hw, -⟩ := run_append_lies (P := Try.prog) (w := w) 25 25 B 3 i (vI 0) 1 8 und25 hi hz hs hby rfl (by omega) v n xs h ⟨pb, 0, none⟩ 1 1 [vI z] rfl (World.news_of_block hb) (by intro u hu; rw [List.mem_singleton.1 hu]; rfl) (by omega) (by unfold maxLen; omega) (by omega) hB _ rfl
  exact ⟨g, cap, w2, hr, hown, grown_fr hgr⟩
theorem oper_append_run {P : Program} {w w' : World} {o : Oper} {a : Act} {K : Act → World → Prop} {Q : Exit → Act → World → Prop} (s x : Operand) (t : TypeId)
    (ho : o.op = .call { callee := .builtin .append, args := #[s, x], argTypes := #[t, t] }) (v u v' : Value) (hs : a.eval s = v) (hx : a.eval x = u)
    (hrun : (Builtin.append_ #[t, t] o.type #[v, u]).run P w = .ok v' w') (h : K (a.put o.dst v') w') : Oper.wp P o a w K Q := by
  unfold Oper.wp
  simp [execOp, ho, resolve, invoke, builtin, hs, hx, hrun, Result.andThen]
  exact h
theorem tryL_drop {f : List Int → List Int} {head : List Int} {c : Cl} {r : List Cl} : tryL f head (c :: r) = if (c.b : Int) ∈ head then tryL f head r else if f (head ++ [(c.b : Int)]) = [] then tryL f head r else f (head ++ [(c.b : Int)]) := by
  conv => lhs; unfold tryL
end Go.Proofs.Ytihicdbplmdjiaa

namespace Go.Proofs.Ytihicdbplmdjiaa
open Go.RowKit (wrap32 wrap64)
set_option linter.unusedVariables false
set_option linter.unusedSimpArgs false

theorem und70 : Try.prog.underlying 70 = some (.slice 4) := by kernel_rfl
theorem info4 : (Try.prog.info? 4).map (fun i => (i.zero, i.size, i.bytes)) = some (some (.bool false), 1, 1) := by kernel_rfl
theorem make70 (m : Nat) (hm : m ≤ 64) (W : World) : (Instr.makeSlice 70 (vI m) (vI m)).run Try.prog W = .ok (.slice (some ⟨W.heap.size, 0, none⟩) m m) (W.alloc (.cells (madeCells #[.bool false] m) 4)) := by
  obtain ⟨i, hi, hz, hs, hb⟩ := Go.Proofs.Ytihicdbplmdjiaa.info_parts info4
  have := Go.run_make (P := Try.prog) W 70 4 i (.bool false) und70 hi hz .i64 .i64 m m (by omega) (by omega) (by rw [hb]; omega) (by omega)
  rw [this, hs, show (m : Int).toNat * 1 = m by omega]
  rfl
/-- Which calls are done. -/
def DRow (w : World) (pd : Nat) (dn : List Nat) (n : Nat) : Prop := ∃ cells : Array Value, w.heap[pd]? = some (.cells cells 4) ∧ ∀ i, i < n → cells[i]? = some (.bool (decide (i ∈ dn)))
theorem DRow.fr {S : Nat → Prop} {w w' : World} {pd n : Nat} {dn : List Nat} (h : DRow w pd dn n) (f : Fr S w w') (hS : ¬ S pd) : DRow w' pd dn n := by
  obtain ⟨cells, h1, h2⟩ := h
  exact ⟨cells, (f.block pd (heap_lt h1) hS).trans h1, h2⟩
theorem DRow.at {w : World} {pd n : Nat} {dn : List Nat} (h : DRow w pd dn n) {i : Nat} (hi : i < n) : w.cell? ⟨pd, i, none⟩ = some (.bool (decide (i ∈ dn))) ∧ w.frozen? ⟨pd, i, none⟩ = false := by
  obtain ⟨cells, h1, h2⟩ := h
  exact ⟨by rw [cell_of h1]; exact h2 i hi, frozen_of h1 i⟩
theorem DRow.put {w : World} {pd n : Nat} {dn : List Nat} (h : DRow w pd dn n) (i : Nat) : DRow (w.setCell ⟨pd, i, none⟩ (.bool true)) pd (dn ++ [i]) n := by
  obtain ⟨cells, h1, h2⟩ := h
  refine ⟨cells.setIfInBounds i (.bool true), set_of h1 i _, fun j hj => ?_⟩
  rw [Array.getElem?_setIfInBounds]
  by_cases e : i = j
  · subst e
    have hlt : i < cells.size := (Array.getElem?_eq_some_iff.1 (h2 i hj)).1
    simp [hlt]
  · rw [if_neg e, h2 j hj]
    have hji : ¬ j = i := fun x => e x.symm
    simp [hji]
theorem DRow.made (w : World) (n : Nat) : DRow (w.alloc (.cells (madeCells #[.bool false] n) 4)) w.heap.size [] n := by
  refine ⟨_, heap_alloc_last w _, fun i hi => ?_⟩
  have e : madeCells #[.bool false] n = (List.replicate n (Value.bool false)).toArray := by
    unfold madeCells
    apply Array.ext
    · simp
    · intro j h1 h2; simp [Nat.mod_one]
  rw [e]
  simp [hi]
/-- What lies there while the document's rule goes on. -/
structure PlO (cs : List Cl) (w1 w : World) (pt : Nat) (v8 : Value) (acc dn : List Nat) (kv vv : Value) (L : List Kv) : Prop where
  fr : Fr (fun _ => False) w1 w
  tab : Rt w (pt + 2) pt kv vv L
  own : w.ownsRow (pt + 2) 3 1 v8 acc.length (acc.map (fun i => vI (bI cs i)))
  don : DRow w (pt + 1) dn cs.length
  ap : ∀ j, v8.ownBlock = some j → kv.ownBlock ≠ some j ∧ vv.ownBlock ≠ some j
theorem PlO.go {cs : List Cl} {w1 w w2 : World} {pt : Nat} {v8 : Value} {acc dn : List Nat} {kv vv : Value} {L : List Kv} (h : PlO cs w1 w pt v8 acc dn kv vv L) (f : Fr (fun _ => False) w w2) : PlO cs w1 w2 pt v8 acc dn kv vv L :=
  ⟨h.fr.trans f, h.tab.fr f (fun e => e) (fun _ _ e => e) (fun _ _ e => e), ownsRow_fr h.own f (fun _ _ e => e), h.don.fr f (fun e => e), h.ap⟩
theorem PlO.did {cs : List Cl} {w1 w w2 : World} {pt : Nat} {v8 : Value} {acc dn : List Nat} {kv vv : Value} {L : List Kv} {o : OpT} {rv : Value} (h : PlO cs w1 w pt v8 acc dn kv vv L) (hp : w1.heap.size = pt) (d : DoE w w2 (pt + 2) pt kv vv L o rv) :
    ∃ rk ru kv' vv', rv = RV.V ⟨rpOf (doR L o), rk, ru⟩ ∧ RV.At w2 ⟨rpOf (doR L o), rk, ru⟩ ∧ PlO cs w1 w2 pt v8 acc dn kv' vv' (doT L o) := by
  obtain ⟨rk, ru, kv', vv', e, hk, hv, ht, hf, hk2, hv2, -⟩ := d
  refine ⟨rk, ru, kv', vv', e, ⟨?_, ?_⟩, ⟨?_, ht, ?_, ?_, fun j hj => ?_⟩⟩
  · have := ownsRow_ra hk (by simp [kCells])
    simpa [rpOf, kCells, List.map_map, Function.comp_def] using this
  · have := ownsRow_ra hv (by simp [vCells])
    simpa [rpOf, vCells, List.map_map, Function.comp_def] using this
  · exact h.fr.under hf fun j hj => by
      rcases hj with rfl | hj | hj
      · omega
      · have := (World.ownsRow.lt h.tab.ks j hj).1; omega
      · have := (World.ownsRow.lt h.tab.vs j hj).1; omega
  · refine ownsRow_fr h.own hf fun j hj e2 => ?_
    obtain ⟨a2, a3⟩ := h.ap j hj
    rcases e2 with e2 | e2 | e2
    · have := (World.ownsRow.lt h.own j hj).1; omega
    · exact a2 e2
    · exact a3 e2
  · refine h.don.fr hf fun e2 => ?_
    rcases e2 with e2 | e2 | e2
    · omega
    · have := (World.ownsRow.lt h.tab.ks _ e2).1; omega
    · have := (World.ownsRow.lt h.tab.vs _ e2).1; omega
  · obtain ⟨a2, a3⟩ := h.ap j hj
    have hlt := (World.ownsRow.lt h.own j hj).2
    refine ⟨fun e2 => ?_, fun e2 => ?_⟩
    · rcases hk2 j e2 with e3 | e3
      · exact a2 e3
      · omega
    · rcases hv2 j e2 with e3 | e3
      · exact a3 e3
      · omega
theorem PlO.put {cs : List Cl} {w1 w : World} {pt : Nat} {v8 : Value} {acc dn : List Nat} {kv vv : Value} {L : List Kv} (h : PlO cs w1 w pt v8 acc dn kv vv L) (hp : w1.heap.size = pt) (i : Nat) : PlO cs w1 (w.setCell ⟨pt + 1, i, none⟩ (.bool true)) pt v8 acc (dn ++ [i]) kv vv L := by
  have f : Fr (fun j => j = pt + 1) w (w.setCell ⟨pt + 1, i, none⟩ (.bool true)) := (Fr.refl _ w).setCell _ _ (Or.inl rfl)
  exact ⟨h.fr.under f (fun j e => by omega), h.tab.fr f (by omega) (fun g e e2 => by have := (World.ownsRow.lt h.tab.ks g e).1; omega) (fun g e e2 => by have := (World.ownsRow.lt h.tab.vs g e).1; omega),
    ownsRow_fr h.own f (fun g e e2 => by have := (World.ownsRow.lt h.own g e).1; omega), h.don.put i, h.ap⟩
theorem PlO.app {cs : List Cl} {w1 w : World} {pt : Nat} {v8 : Value} {acc dn : List Nat} {kv vv : Value} {L : List Kv} (h : PlO cs w1 w pt v8 acc dn kv vv L) (hp : w1.heap.size = pt) (i : Nat) (hl : acc.length ≤ 4000000000) :
    ∃ g cap w2, (Builtin.append_ #[25, 25] 25 #[v8, .slice (some ⟨w.heap.size, 0, none⟩) 1 1]).run Try.prog (w.alloc (.cells #[vI (bI cs i)] 3)) = .ok (.slice (some ⟨g, 0, none⟩) (acc.length + 1) cap) w2 ∧ PlO cs w1 w2 pt (.slice (some ⟨g, 0, none⟩) (acc.length + 1) cap) (acc ++ [i]) dn kv vv L := by
  have hpt := heap_lt h.tab.obj
  obtain ⟨cells, hd1, -⟩ := h.don
  have hpd := heap_lt hd1
  obtain ⟨j, hj, hz, hs, hby⟩ := info_parts info3
  obtain ⟨g, cap, w2, hr, hown, hgr, hw⟩ := app1 und25 info3 rfl (by omega) h.own #[vI (bI cs i)] rfl (by intro u hu; simp at hu; rw [hu]; rfl) (by unfold maxLen; omega) (by omega) (by omega)
  have hf : Fr (fun j => v8.ownBlock = some j) w w2 := hgr
  refine ⟨g, cap, w2, hr, ⟨h.fr.under hf (fun j hj => by have := (World.ownsRow.lt h.own j hj).1; omega), h.tab.fr hf (fun e => by have := (World.ownsRow.lt h.own _ e).1; omega) (fun j hj e => (h.ap j e).1 hj) (fun j hj e => (h.ap j e).2 hj), ?_, h.don.fr hf (fun e => by have := (World.ownsRow.lt h.own _ e).1; omega), fun j hj => ?_⟩⟩
  · rw [List.length_append, List.map_append]
    simpa using hown
  · have hjg : j = g := by simpa [Value.ownBlock] using hj.symm
    subst hjg
    rcases hw with h4 | h4
    · exact h.ap j h4
    · refine ⟨fun e => ?_, fun e => ?_⟩
      · have := (World.ownsRow.lt h.tab.ks j e).2; omega
      · have := (World.ownsRow.lt h.tab.vs j e).2; omega
end Go.Proofs.Ytihicdbplmdjiaa
