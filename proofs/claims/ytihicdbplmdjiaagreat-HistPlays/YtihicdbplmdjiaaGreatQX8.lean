import Derived.Test.YtihicdbplmdjiaaGreatQX5J
import Derived.Test.YtihicdbplmdjiaaGreatQH6J
import Derived.Test.YtihicdbplmdjiaaGreatQEaJ
set_option linter.unusedVariables false
set_option linter.unusedSimpArgs false
namespace Go.Proofs.YtihicdbplmdjiaaGreat
open Go.RowKit (wrap32 wrap64)

theorem Long_any (n : Int) (w : World) : Calls Tryz.prog 4 #[vI n] w fun e w' => e = .returned (.bool (decide (n > 2147483647))) ∧ w' = w := by
  go_enter Tryz.func4, Tryz.ntmps4
  go_wp2_with fail
  go_ret
  exact ⟨rfl, rfl⟩
theorem cls_look {w : World} {v : Value} {cl : List (List OpT)} (h : Pl.ClsAt w w.heap.size v cl) : ∃ ad cap, v = .slice ad cl.length cap ∧ ∀ k (hk : k < cl.length), ∃ g o ua uc, ad = some ⟨g, o, none⟩ ∧ ∀ W, Fr (fun _ => False) w W → W.cell? ⟨g, o + k, none⟩ = some (.slice ua cl[k].length uc) ∧ Pl.OpsAt W W.heap.size (.slice ua cl[k].length uc) cl[k] := by
  obtain ⟨ad, cap, e, hx⟩ := h
  refine ⟨ad, cap, e, fun k hk => ?_⟩
  obtain ⟨g, o, ea, hg, hcs⟩ := hx (fun e => by rw [e] at hk; simp at hk)
  obtain ⟨u, hu, ho⟩ := hcs k hk
  have ho' := ho
  obtain ⟨ua, uc, eu, -⟩ := ho'
  subst eu
  exact ⟨g, o, ua, uc, ea, fun W f => ⟨(f.cell hg (fun e => e)).trans hu, (ho.fr (fr_to f) (Nat.le_refl _) (fun _ _ e => e)).mono f.size⟩⟩
/-- One call, as it lies. -/
theorem ops_look {W : World} {B : Nat} {ua : Option Addr} {m uc : Nat} {l : List OpT} (h : Pl.OpsAt W B (.slice ua m uc) l) (k : Nat) (hk : k < l.length) : ∃ g o, ua = some ⟨g, o, none⟩ ∧ W.cell? ⟨g, o + k * 3, none⟩ = some (vI l[k].1) ∧ W.cell? ⟨g, o + k * 3 + 1, none⟩ = some (vI l[k].2.1) ∧ W.cell? ⟨g, o + k * 3 + 2, none⟩ = some (.string l[k].2.2) := by
  obtain ⟨ad, cap, e, -, hx⟩ := h
  obtain ⟨g, o, ea, -, hcs⟩ := hx (fun e => by rw [e] at hk; simp at hk)
  cases e
  obtain ⟨h0, h1, h2⟩ := hcs k hk
  exact ⟨g, o, ea, h0, h1, h2⟩
def sumTo (cl : List (List OpT)) (k : Nat) : Nat := cl.length + ((cl.take k).map List.length).sum
theorem sumTo_succ (cl : List (List OpT)) (k : Nat) (h : k < cl.length) : sumTo cl (k + 1) = sumTo cl k + cl[k].length := by
  unfold sumTo
  rw [List.take_add_one, List.getElem?_eq_getElem h, List.map_append, List.sum_append]
  simp only [Option.toList_some, List.map_cons, List.map_nil, List.sum_cons, List.sum_nil]
  omega
def kn (l : List OpT) (k : Nat) : Nat := ((l.take k).filter Pl.knw).length
theorem kn_succ (l : List OpT) (k : Nat) (h : k < l.length) : kn l (k + 1) = kn l k + if Pl.knw l[k] = true then 1 else 0 := by
  unfold kn
  rw [List.take_add_one, List.getElem?_eq_getElem h, List.filter_append, List.length_append]
  simp only [Option.toList_some, List.filter_cons, List.filter_nil]
  split <;> simp
theorem kn_le (l : List OpT) (k : Nat) : kn l k ≤ l.length := Nat.le_trans (List.length_filter_le _ _) (by rw [List.length_take]; omega)
theorem kn_all (l : List OpT) : kn l l.length = (l.filter Pl.knw).length := by unfold kn; rw [List.take_length]
theorem known_succ (cl : List (List OpT)) (k : Nat) (h : k < cl.length) : nKnown (cl.take (k + 1)) = nKnown (cl.take k) + (cl[k].filter Pl.knw).length := by
  unfold nKnown
  rw [List.take_add_one, List.getElem?_eq_getElem h, List.map_append, List.sum_append]
  simp
theorem turn_take (cl : List (List OpT)) (k : Nat) (h : k < cl.length) : turnL (cl.take (k + 1)) = turnL (cl.take k) ++ [cl[k].map turnO] := by
  unfold turnL
  rw [List.take_add_one, List.getElem?_eq_getElem h, List.map_append]
  rfl
theorem turn_takeO (l : List OpT) (k : Nat) (h : k < l.length) : (l.take (k + 1)).map turnO = (l.take k).map turnO ++ [turnO l[k]] := by
  rw [List.take_add_one, List.getElem?_eq_getElem h, List.map_append]
  rfl
theorem known_take (cl : List (List OpT)) (k : Nat) : nKnown (cl.take k) ≤ nKnown cl := by
  have h : nKnown cl = nKnown (cl.take k) + nKnown (cl.drop k) := by
    unfold nKnown
    rw [← List.sum_append, ← List.map_append, List.take_append_drop]
  omega
theorem kn_le2 (l : List OpT) (k : Nat) : kn l k ≤ (l.filter Pl.knw).length := by
  have h : (l.filter Pl.knw).length = kn l k + ((l.drop k).filter Pl.knw).length := by
    unfold kn
    rw [← List.length_append, ← List.filter_append, List.take_append_drop]
  omega
/-- A list that is being made: apart from those that are. -/
def Apart (u rv : Value) (lvs : List Value) : Prop := ∀ g, u.ownBlock = some g → rv.ownBlock ≠ some g ∧ ∀ x ∈ lvs, x.ownBlock ≠ some g
theorem RtAt.frS {S : Nat → Prop} {w w' : World} {B : Nat} {rv : Value} {ls : List (List OpT)} {lvs : List Value} (h : RtAt w B rv ls lvs) (f : Fr S w w') (h1 : ∀ g, rv.ownBlock = some g → ¬ S g) (h2 : ∀ x ∈ lvs, ∀ g, x.ownBlock = some g → ¬ S g) : RtAt w' B rv ls lvs :=
  ⟨ownsRow_fr h.row f h1, h.len, fun i v l e1 e2 => ⟨ownsRow_fr (h.each i v l e1 e2).1 f (h2 v (List.mem_of_getElem? e1)), (h.each i v l e1 e2).2⟩⟩
theorem RtAt.lt {w : World} {B : Nat} {rv : Value} {ls : List (List OpT)} {lvs : List Value} (h : RtAt w B rv ls lvs) : (∀ g, rv.ownBlock = some g → g < w.heap.size) ∧ ∀ x ∈ lvs, ∀ g, x.ownBlock = some g → g < w.heap.size := by
  refine ⟨fun g e => (World.ownsRow.lt h.row g e).2, fun x hx g e => ?_⟩
  obtain ⟨i, hi, rfl⟩ := List.getElem_of_mem hx
  have hi' : i < ls.length := by have := h.len; omega
  exact (World.ownsRow.lt (h.each i _ _ (List.getElem?_eq_getElem hi) (List.getElem?_eq_getElem hi')).1 g e).2
/-- What holds while a list is made. -/
structure Mk2 (w0 wx : World) (u rv : Value) (ls : List (List OpT)) (os : List OpT) (lvs : List Value) : Prop where
  fr : Fr (fun _ => False) w0 wx
  rt : RtAt wx w0.heap.size rv ls lvs
  own : LOwn wx w0.heap.size u os
  ap : Apart u rv lvs
theorem Mk2.far {w0 wx wy : World} {u rv : Value} {ls : List (List OpT)} {os : List OpT} {lvs : List Value} (h : Mk2 w0 wx u rv ls os lvs) (f : Fr (fun _ => False) wx wy) : Mk2 w0 wy u rv ls os lvs :=
  ⟨h.fr.trans f, h.rt.fr f, ownsRow_fr h.own f (fun _ _ e => e), h.ap⟩
theorem Mk2.app {w0 wx : World} {u rv : Value} {ls : List (List OpT)} {os : List OpT} {lvs : List Value} (h : Mk2 w0 wx u rv ls os lvs) (o : OpT) (hn : os.length ≤ 4000000000) :
    ∃ g cap w2, (Builtin.append_ #[25, 25] 25 #[u, .slice (some ⟨wx.heap.size, 0, none⟩) 1 1]).run Tryz.prog (wx.alloc (.cells #[vI o.1, vI o.2.1, .string o.2.2] 28)) = .ok (.slice (some ⟨g, 0, none⟩) (os.length + 1) cap) w2 ∧
      Mk2 w0 w2 (.slice (some ⟨g, 0, none⟩) (os.length + 1) cap) rv ls (os ++ [o]) lvs := by
  obtain ⟨g, cap, w2, h1, h2, h3, h4⟩ := h.own.app o h.fr.size hn
  have hlt := h.rt.lt
  refine ⟨g, cap, w2, h1, h.fr.under h3 (fun j hj => (World.ownsRow.lt h.own j hj).1), h.rt.frS h3 (fun j e1 e2 => (h.ap j e2).1 e1) (fun x hx j e1 e2 => (h.ap j e2).2 x hx e1), h2, fun j e => ?_⟩
  have : g = j := Option.some.inj e
  subst this
  rcases h4 with e4 | e4
  · exact h.ap _ e4
  · exact ⟨fun e5 => by have := hlt.1 _ e5; omega, fun x hx e5 => by have := hlt.2 x hx _ e5; omega⟩
theorem Mk2.done {w0 wx : World} {u rv : Value} {ls : List (List OpT)} {os : List OpT} {lvs : List Value} (h : Mk2 w0 wx u rv ls os lvs) (hn : ls.length ≤ 4000000000) :
    ∃ g cap w2, (Builtin.append_ #[22, 22] 22 #[rv, .slice (some ⟨wx.heap.size, 0, none⟩) 1 1]).run Tryz.prog (wx.alloc (.cells #[u] 25)) = .ok (.slice (some ⟨g, 0, none⟩) (ls.length + 1) cap) w2 ∧
      Fr (fun _ => False) w0 w2 ∧ RtAt w2 w0.heap.size (.slice (some ⟨g, 0, none⟩) (ls.length + 1) cap) (ls ++ [os]) (lvs ++ [u]) := by
  have hu : u.oneCell' = true := by
    rcases h.own.2 with ⟨e, -⟩ | ⟨g, cap, cur, e, -⟩ <;> rw [e] <;> rfl
  obtain ⟨g, cap, w2, h1, h2, h3⟩ := h.rt.app h.own (fun g e => (h.ap g e).1) hu h.fr.size hn
  exact ⟨g, cap, w2, h1, h.fr.under h3 (fun j hj => (World.ownsRow.lt h.rt.row j hj).1), h2⟩
/-- A call's cells, put right. -/
theorem put_op {W : World} {p : Nat} {o : OpT} (h : W.heap[p]? = some (.cells #[vI o.1, vI o.2.1, .string o.2.2] 28)) :
    (W.setCell ⟨p, 2, none⟩ (.string ⟨#[]⟩)).heap[p]? = some (.cells #[vI o.1, vI o.2.1, .string ⟨#[]⟩] 28) ∧ ((W.setCell ⟨p, 2, none⟩ (.string ⟨#[]⟩)).setCell ⟨p, 1, none⟩ (vI 0)).heap[p]? = some (.cells #[vI o.1, vI 0, .string ⟨#[]⟩] 28) := by
  have h1 := set_of h 2 (.string ⟨#[]⟩)
  exact ⟨h1, set_of h1 1 (vI 0)⟩
end Go.Proofs.YtihicdbplmdjiaaGreat
