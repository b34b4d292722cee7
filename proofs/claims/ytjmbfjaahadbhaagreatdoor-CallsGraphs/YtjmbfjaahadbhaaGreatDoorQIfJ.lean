import Derived.Test.YtjmbfjaahadbhaaGreatDoorQLiJ
import Derived.Test.YtjmbfjaahadbhaaGreatDoorQPcJ
set_option linter.unusedVariables false
set_option linter.unusedSimpArgs false
namespace Go.Proofs.YtjmbfjaahadbhaaGreatDoor
open Go.RowKit (wrap32 wrap64)

/-! ### who calls whom, as the statements see it -/
/-- Lists in a row that grows. -/
structure LOc (w : World) (B : Nat) (v : Value) (us : List Value) (ls : List (List Int)) : Prop where
  row : w.ownsRow B 25 1 v us.length us
  ul : us.length = ls.length
  each : ∀ i (h : i < us.length) (h' : i < ls.length), IOwn w B us[i] ls[i]
theorem LOc.stay {w w' : World} {B : Nat} {v : Value} {us : List Value} {ls : List (List Int)} (h : LOc w B v us ls) (f : Fr (fun _ => False) w w') : LOc w' B v us ls :=
  ⟨ownsRow_frL h.row f (fun _ _ e => e), h.ul, fun i hi hk => (h.each i hi hk).fr f (fun _ _ e => e)⟩
theorem LOc.grow {w w6 : World} {B g cap : Nat} {v x : Value} {us : List Value} {ls : List (List Int)} {l : List Int} (h : LOc w B v us ls) (hx : IOwn w B x l) (hg : w.grownBy w6 v.ownBlock) (ho : w6.ownsRow B 25 1 (.slice (some ⟨g, 0, none⟩) (us.length + 1) cap) (us.length + 1) (us ++ [x])) :
    LOc w6 B (.slice (some ⟨g, 0, none⟩) (us.length + 1) cap) (us ++ [x]) (ls ++ [l]) := by
  have f := grown_frL hg
  have ke : ∀ y s, IOwn w B y s → IOwn w6 B y s := fun y s hy => hy.fr f (fun j e e2 => own_apart h.row hy (by decide) j e e2)
  refine ⟨by rw [List.length_append]; exact ho, by simp [h.ul], fun i hi hk => ?_⟩
  rw [List.length_append, List.length_singleton] at hi
  by_cases e : i < us.length
  · rw [List.getElem_append_left e, List.getElem_append_left (by rw [← h.ul]; exact e)]
    exact ke _ _ (h.each i e (by rw [← h.ul]; exact e))
  · have ei : i = us.length := by omega
    subst ei
    rw [List.getElem_append_right (Nat.le_refl _), List.getElem_append_right (by rw [h.ul]; exact Nat.le_refl _)]
    simp only [Nat.sub_self, h.ul, List.getElem_cons_zero]
    exact ke _ _ hx
theorem LOc.mono {w : World} {B B' : Nat} {v : Value} {us : List Value} {ls : List (List Int)} (h : LOc w B v us ls) (hB : B' ≤ B) : LOc w B' v us ls :=
  ⟨World.ownsRow.mono h.row hB, h.ul, fun i hi hk => (h.each i hi hk).mono hB⟩
/-- Rows that lie where nothing is written. -/
theorem LOc.frS {S : Nat → Prop} {w w' : World} {B : Nat} {v : Value} {us : List Value} {ls : List (List Int)} (h : LOc w B v us ls) (f : Fr S w w') (hS : ∀ q, B ≤ q → ¬ S q) : LOc w' B v us ls :=
  ⟨ownsRow_frL h.row f (fun q e => hS q (World.ownsRow.lt h.row q e).1), h.ul, fun i hi hk => (h.each i hi hk).fr f (fun q e => hS q ((h.each i hi hk).ge q e).1)⟩
/-- Read. -/
theorem LOc.lb {w : World} {B : Nat} {v : Value} {us : List Value} {ls : List (List Int)} (h : LOc w B v us ls) : LB w.heap.size w v ls := by
  obtain ⟨a, c, e⟩ := own_slice h.row
  refine ⟨a, c, by rw [e, h.ul], fun hne => ?_⟩
  have hl0 : 0 < us.length := by rw [h.ul]; exact List.length_pos_iff.2 hne
  obtain ⟨g, cap, e2, -, -⟩ := own_cell h.row (j := 0) (u := us[0]) (List.getElem?_eq_getElem hl0)
  rw [e] at e2
  injection e2 with e3 e4 e5
  refine ⟨g, 0, e3, (World.ownsRow.lt h.row g (by rw [e, e3]; rfl)).2, fun i hi => ?_⟩
  have hi' : i < us.length := by rw [h.ul]; exact hi
  obtain ⟨g', cap', e6, -, hc⟩ := own_cell h.row (j := i) (u := us[i]) (List.getElem?_eq_getElem hi')
  rw [e, e3] at e6
  injection e6 with e7
  injection e7 with e7
  injection e7 with e7
  subst e7
  refine ⟨us[i], by rw [Nat.zero_add]; exact hc, ?_⟩
  have ho := h.each i hi' hi
  obtain ⟨a2, c2, e8, h2⟩ := ho.ia
  refine ⟨a2, c2, e8, fun hne2 => ?_⟩
  obtain ⟨k, o, e9, hk, h3⟩ := h2 hne2
  exact ⟨k, o, e9, hk, h3⟩
def ClE (fs : List PF) (w : World) (e : Ending) (w' : World) : Prop :=
  ∃ v, e = .returned v ∧ LB w'.heap.size w' v (zLs fs.length (clX fs)) ∧ Fr (fun _ => False) w w'
theorem under53 : Tryz.prog.underlying 48 = some (.slice 25) := by kernel_rfl
end Go.Proofs.YtjmbfjaahadbhaaGreatDoor
namespace Go.Proofs.YtjmbfjaahadbhaaGreatDoor

/-! ### the document's graph, in plain lists -/
/-- A list with one number more, if it isn't there. -/
def wX (l : List Nat) (x : Nat) : List Nat := if x ∈ l then l else l ++ [x]
def ddX (l : List Nat) : List Nat := l.foldl wX []
theorem mem_wX {l : List Nat} {x y : Nat} : y ∈ wX l x ↔ y ∈ l ∨ y = x := by
  unfold wX
  split
  · rename_i h
    constructor
    · exact Or.inl
    · rintro (h1 | rfl)
      · exact h1
      · exact h
  · simp
theorem mem_fold {l : List Nat} : ∀ {a : List Nat} {y : Nat}, y ∈ l.foldl wX a ↔ y ∈ a ∨ y ∈ l := by
  induction l with
  | nil => intro a y; simp
  | cons x l ih =>
    intro a y
    rw [List.foldl_cons, ih, mem_wX, List.mem_cons]
    constructor
    · rintro ((h | h) | h)
      · exact Or.inl h
      · exact Or.inr (Or.inl h)
      · exact Or.inr (Or.inr h)
    · rintro (h | h | h)
      · exact Or.inl (Or.inl h)
      · exact Or.inl (Or.inr h)
      · exact Or.inr h
theorem mem_ddX {l : List Nat} {y : Nat} : y ∈ ddX l ↔ y ∈ l := by unfold ddX; rw [mem_fold]; simp
theorem wX_len (l : List Nat) (x : Nat) : (wX l x).length ≤ l.length + 1 := by unfold wX; split <;> simp
theorem fold_len : ∀ (l a : List Nat), (l.foldl wX a).length ≤ a.length + l.length
  | [], a => by simp
  | x :: l, a => by
    rw [List.foldl_cons]
    have := fold_len l (wX a x)
    have := wX_len a x
    rw [List.length_cons]
    omega
theorem ddX_len (l : List Nat) : (ddX l).length ≤ l.length := by have := fold_len l []; simpa [ddX] using this
theorem ddX_next {l : List Nat} (x : Nat) : ddX (l ++ [x]) = wX (ddX l) x := by unfold ddX; rw [List.foldl_append]; rfl
theorem rch_same {cl cl' : Nat → List Nat} (h : ∀ x z, z ∈ cl x ↔ z ∈ cl' x) {x y : Nat} : Rch cl x y ↔ Rch cl' x y := by
  constructor
  · intro k
    induction k with
    | refl => exact .refl _
    | step _ m ih => exact .step ih ((h _ _).1 m)
  · intro k
    induction k with
    | refl => exact .refl _
    | step _ m ih => exact .step ih ((h _ _).2 m)
/-- The lowest functions of the components, rising. -/
def cmpX (N : Nat) (of : Nat → Nat) : List Nat := (List.range N).filter (fun f => lwX N of (of f) == f)
/-- Those of the components that have no number below k. -/
def lefX (N : Nat) (of : Nat → Nat) (k : Nat) : List Nat := (cmpX N of).filter (fun f => decide (k ≤ of f))
theorem filter_one {l : List Nat} {p a : Nat} (hn : l.Nodup) (hp : l[p]? = some a) : l.filter (fun x => decide (x ≠ a)) = l.take p ++ l.drop (p + 1) := by
  have hk : p < l.length := by
    by_cases e : p < l.length
    · exact e
    · rw [List.getElem?_eq_none (by omega)] at hp; cases hp
  have e : l = l.take p ++ a :: l.drop (p + 1) := by
    rw [List.getElem?_eq_getElem hk] at hp
    injection hp with hp
    rw [← hp, List.getElem_cons_drop hk, List.take_append_drop]
  have hn2 := hn
  rw [e, List.nodup_append] at hn2
  obtain ⟨h1, h2, h3⟩ := hn2
  rw [List.nodup_cons] at h2
  conv => lhs; rw [e]
  rw [List.filter_append, List.filter_cons, if_neg (by simp)]
  congr 1
  · rw [List.filter_eq_self]
    intro x hx
    have := h3 x hx a (List.mem_cons_self ..)
    simpa using this
  · rw [List.filter_eq_self]
    intro x hx
    have : x ≠ a := fun e => h2.1 (e ▸ hx)
    simpa using this
section
variable {N n : Nat} {of : Nat → Nat} {cl : Nat → List Nat}
theorem mem_cmpX {f : Nat} : f ∈ cmpX N of ↔ f < N ∧ lwX N of (of f) = f := by unfold cmpX; rw [List.mem_filter, List.mem_range]; simp
theorem cmpX_rise : List.Pairwise (fun a b : Nat => a < b) (cmpX N of) := List.Pairwise.filter _ List.pairwise_lt_range
theorem lefX_rise (k : Nat) : List.Pairwise (fun a b : Nat => a < b) (lefX N of k) := List.Pairwise.filter _ (cmpX_rise (N := N) (of := of))
theorem mem_lefX {f k : Nat} : f ∈ lefX N of k ↔ (f < N ∧ lwX N of (of f) = f) ∧ k ≤ of f := by unfold lefX; rw [List.mem_filter, mem_cmpX]; simp
theorem lefX_zero : lefX N of 0 = cmpX N of := by unfold lefX; rw [List.filter_eq_self]; simp
/-- All callees of a component have numbers below k. -/
def Rdy (N n : Nat) (of : Nat → Nat) (cl : Nat → List Nat) (k d : Nat) : Prop := ∀ e ∈ cleX N n of cl d, e < k
/-- The first of them that is ready is the next one. -/
theorem first_ready (h : Gp N cl n of) (hcl : ∀ x, x < N → ∀ z ∈ cl x, z < N) {k : Nat} (hk : k < n) :
    ∃ p : Nat, (lefX N of k)[p]? = some (lwX N of k) ∧ of (lwX N of k) = k ∧ Rdy N n of cl k k ∧ ∀ q g : Nat, q < p → (lefX N of k)[q]? = some g → ¬ Rdy N n of cl k (of g) := by
  obtain ⟨r, -, l1, l2⟩ := h.toRg.low hk
  have hg := h.toRg.graph hcl
  have hm : lwX N of k ∈ lefX N of k := mem_lefX.2 ⟨⟨l1, by rw [l2]⟩, by rw [l2]; exact Nat.le_refl k⟩
  obtain ⟨p, hp, e⟩ := List.mem_iff_getElem.1 hm
  refine ⟨p, by rw [List.getElem?_eq_getElem hp, e], l2, fun d hd => hg.dn k hk d hd, fun q g hq hgq hr => ?_⟩
  have hql : q < (lefX N of k).length := by omega
  have hgm : g ∈ lefX N of k := List.mem_of_getElem? hgq
  obtain ⟨⟨g1, g2⟩, g3⟩ := mem_lefX.1 hgm
  rw [List.getElem?_eq_getElem hql] at hgq
  injection hgq with hgq
  have hlt : g < lwX N of k := by
    have := (List.pairwise_iff_getElem.1 (lefX_rise (N := N) (of := of) k)) q p hql hp hq
    rw [hgq, e] at this
    exact this
  have hne : of g ≠ k := fun e2 => by rw [e2] at g2; omega
  have := h.mn k (of g) (by omega) (h.lt g g1) hr
  rw [g2] at this
  omega
theorem lefX_next (h : Gp N cl n of) {k p : Nat} (hk : k < n) (hp : (lefX N of k)[p]? = some (lwX N of k)) : lefX N of (k + 1) = (lefX N of k).take p ++ (lefX N of k).drop (p + 1) := by
  obtain ⟨r, -, l1, l2⟩ := h.toRg.low hk
  rw [← filter_one (rise_nodup (lefX_rise k)) hp]
  unfold lefX
  rw [List.filter_filter]
  apply List.filter_congr
  intro x hx
  rw [Bool.eq_iff_iff]
  obtain ⟨x1, x2⟩ := mem_cmpX.1 hx
  simp only [decide_eq_true_eq, Bool.and_eq_true]
  constructor
  · intro e
    refine ⟨fun e2 => ?_, by omega⟩
    rw [e2, l2] at e
    omega
  · rintro ⟨e1, e2⟩
    have : of x ≠ k := fun e3 => e1 (by rw [← x2, e3])
    omega
theorem lefX_none (h : Gp N cl n of) {k : Nat} (hk : n ≤ k) : lefX N of k = [] := by
  rw [List.eq_nil_iff_forall_not_mem]
  intro x hx
  obtain ⟨⟨x1, -⟩, x2⟩ := mem_lefX.1 hx
  have := h.lt x x1
  omega
theorem lefX_some (h : Gp N cl n of) {k : Nat} (hk : k < n) : 0 < (lefX N of k).length := by
  obtain ⟨r, -, l1, l2⟩ := h.toRg.low hk
  have hm : lwX N of k ∈ lefX N of k := mem_lefX.2 ⟨⟨l1, by rw [l2]⟩, by rw [l2]; exact Nat.le_refl _⟩
  exact List.length_pos_of_mem hm
/-- What ready asks, function by function. -/
theorem rdy_iff (h : Gp N cl n of) (hcl : ∀ x, x < N → ∀ z ∈ cl x, z < N) {k d : Nat} (hd : d < n) : Rdy N n of cl k d ↔ ∀ x ∈ memX N of d, ∀ z ∈ cl x, z ∈ memX N of d ∨ of z < k := by
  constructor
  · intro hr x hx z hz
    obtain ⟨x1, x2⟩ := mem_memX.1 hx
    have hzN := hcl x x1 z hz
    by_cases e : of z = d
    · exact Or.inl (mem_memX.2 ⟨hzN, e⟩)
    · exact Or.inr (hr (of z) (mem_cleX.2 ⟨h.lt z hzN, fun e2 => e e2.symm, hitX_iff.2 ⟨x, x1, x2, z, hz, rfl⟩⟩))
  · intro ha e he
    obtain ⟨e1, e2, e3⟩ := mem_cleX.1 he
    obtain ⟨f, f1, f2, g, g1, g2⟩ := hitX_iff.1 e3
    rcases ha f (mem_memX.2 ⟨f1, f2⟩) g g1 with h1 | h1
    · exact absurd ((mem_memX.1 h1).2.symm.trans g2) e2
    · rw [← g2]; exact h1
/-- Who stands together with f. -/
theorem ring_mem (h : Rg N cl n of) {f : Nat} (hf : f < N) : (List.range N).filter (fun g => decide (of g = of f)) = memX N of (of f) := by
  unfold memX
  apply List.filter_congr
  intro x _
  rw [Bool.eq_iff_iff]
  simp
/-- f is the lowest of its component just if nobody of it stands ahead. -/
theorem low_iff (h : Rg N cl n of) {f : Nat} (hf : f < N) : lwX N of (of f) = f ↔ ∀ g, g < f → of g ≠ of f := by
  obtain ⟨r, hm, l1, l2⟩ := h.low (h.lt f hf)
  have hrise := memX_rise (N := N) (of := of) (of f)
  constructor
  · intro e g hg e2
    have hgm : g ∈ memX N of (of f) := mem_memX.2 ⟨by omega, e2⟩
    rw [hm, e] at hgm
    rw [hm, e, List.pairwise_cons] at hrise
    rcases List.mem_cons.1 hgm with rfl | hgm
    · omega
    · have := hrise.1 g hgm
      omega
  · intro ha
    have hfm : f ∈ memX N of (of f) := mem_memX.2 ⟨hf, rfl⟩
    rw [hm] at hfm hrise
    rw [List.pairwise_cons] at hrise
    rcases List.mem_cons.1 hfm with e | e
    · exact e.symm
    · have := hrise.1 f e
      exact absurd l2 (ha _ this)
end
end Go.Proofs.YtjmbfjaahadbhaaGreatDoor
namespace Go.Proofs.YtjmbfjaahadbhaaGreatDoor
open Go.RowKit (wrap32 wrap64)

set_option maxRecDepth 100000 in
set_option maxHeartbeats 4000000 in
theorem with_any (v : Value) (l : List Nat) (x : Nat) (w : World) (B : Nat) (h : IOwn w B v (zL l)) (hB : B ≤ w.heap.size) (hl : l.length ≤ 1000000000) :
    Calls Tryz.prog 52 #[v, vI (x : Int)] w fun e w' => ∃ v', e = .returned v' ∧ IOwn w' B v' (zL (wX l x)) ∧ Fr (fun q => v.ownBlock = some q) w w' := by
  obtain ⟨a, c, ev⟩ := iown_cap h
  rw [List.length_map] at ev
  subst ev
  have HO : Hd (IOwn w B (.slice a l.length c) (zL l)) := h
  have HH : Hd (∀ k (hk : k < l.length), ∃ g o, a = some ⟨g, o, none⟩ ∧ w.cell? ⟨g, o + k, none⟩ = some (vI (l[k] : Nat))) := fun k hk => by
    obtain ⟨g, c2, e, -, hc⟩ := iown_some h (by rw [List.length_map]; omega)
    rw [List.length_map] at e
    injection e with e1 e2 e3
    exact ⟨g, 0, e1, by rw [Nat.zero_add, hc k (by rw [List.length_map]; exact hk)]; simp⟩
  clear h
  go_enter Tryz.func52, Tryz.ntmps52
  go_wp2_with fail
  go_loopw [5] (fun v wx => ∃ k : Nat, v = .int .i64 k ∧ k ≤ l.length ∧ Hd (x ∉ l.take k) ∧ Hd (wx = w)) (fun v _ => match v with | .int _ q => l.length - q.toNat | _ => 0)
  case atStart => exact ⟨0, by simp, Nat.zero_le _, by unfold Hd; simp, rfl⟩
  case round =>
    obtain ⟨k, rfl, hk, HN, HW⟩ := hrel
    have hw := HW.out
    subst hw
    by_cases hlt : k < l.length
    · have d1 : decide ((k : Int) < (l.length : Int)) = true := by simp; omega
      obtain ⟨g, o, rfl, p0⟩ := HH.out k hlt
      have k0 : (0 : Int) ≤ k := by omega
      have k1 : (k : Int) < l.length := by omega
      have HM : Hd (l[k] ∈ l) := List.getElem_mem hlt
      have HT : Hd (l.take (k + 1) = l.take k ++ [l[k]]) := by unfold Hd; rw [List.take_add_one, List.getElem?_eq_getElem hlt]; rfl
      generalize l[k] = y at *
      by_cases e : y = x
      · have e1 : ((y : Int) == (x : Int)) = true := by simp [e]
        have HX : Hd (wX l x = l) := by unfold Hd wX; rw [← e, if_pos HM.out]
        clear e HM HT hlt HH
        go_wp2_with fail
        go_ret
        exact ⟨_, rfl, by rw [HX.out]; exact HO.out, Fr.refl _ _⟩
      · have e1 : ((y : Int) == (x : Int)) = false := by simp; omega
        have HN2 : Hd (x ∉ l.take (k + 1)) := by
          unfold Hd
          rw [HT.out, List.mem_append, List.mem_singleton]
          rintro (h | h)
          · exact HN.out h
          · exact e h.symm
        clear e HM HT hlt
        go_wp2_with fail
        go_roundw
        case measure => simp; omega
        case rel => exact ⟨k + 1, by simp, by omega, HN2.out, trivial⟩
    · have d1 : decide ((k : Int) < (l.length : Int)) = false := by simp; omega
      have d1n : ¬ k < l.length := by omega
      have HX : Hd (wX l x = l ++ [x]) := by
        have := HN.out
        rw [List.take_of_length_le (by omega)] at this
        unfold Hd wX
        rw [if_neg this]
      have hCz : Fr (fun _ => False) wr (wr.alloc (.cells #[vI (x : Int)] 3)) := Fr.alloc (Fr.refl _ wr) _
      have HFz : Hd (Fr (fun _ => False) wr (wr.alloc (.cells #[vI (x : Int)] 3))) := hCz
      have HRW : Hd ((wr.alloc (.cells #[vI (x : Int)] 3)).ownsRow B 3 1 (.slice a l.length c) l.length ((zL l).map vI)) := by
        have := ownsRow_frL HO.out hCz (fun _ _ e => e)
        rw [List.length_map] at this
        exact this
      have HNW : Hd (∀ j' u, [vI (x : Int)][j']? = some u → (wr.alloc (.cells #[vI (x : Int)] 3)).cell? ((⟨wr.heap.size, 0, none⟩ : Addr).add j') = some u) := World.news_of_block (w := wr.alloc (.cells #[vI (x : Int)] 3)) (cs := #[vI (x : Int)]) (heap_new0 wr _)
      have HBS : Hd (B ≤ (wr.alloc (.cells #[vI (x : Int)] 3)).heap.size) := by have := hCz.size; unfold Hd; omega
      clear hCz hlt HH
      go_wp2_with ((at_builtin; refine Hd.out ?_))
      unfold Hd
      obtain ⟨i3, hi3, hz3, hs3, hb3⟩ := info_parts (P := Tryz.prog) (e := 3) (z := .int .i64 0) (size := 1) (bytes := 8) (by kernel_rfl)
      refine wpList_append_lies _ rfl (.tmp 19) (.tmp 21) 25 rfl B 3 i3 (.int .i64 0) 1 8 under64 hi3 hz3 hs3 hb3 rfl (by omega) (.slice a l.length c) l.length _ rfl HRW.out ⟨wr.heap.size, 0, none⟩ 1 1 [vI (x : Int)] rfl rfl HNW.out (by intro u hu; rw [List.mem_singleton] at hu; rw [hu]; rfl) (by omega) (by unfold maxLen; omega) (by omega) HBS.out (wr.heap.size + 1) (by simp) ?_
      intro g6 cap6 w6 hown6 hgrow6 hat6 hlt6
      clear hi3 hz3 hs3 hb3
      have HO6 : Hd (IOwn w6 B (.slice (some ⟨g6, 0, none⟩) (l.length + 1) cap6) (zL (wX l x))) := by
        unfold Hd
        rw [HX.out]
        unfold IOwn
        simpa using hown6
      have HF6 : Hd (Fr (fun q => (Value.slice a l.length c).ownBlock = some q) wr w6) := (HFz.out.mono (fun _ _ e => e.elim)).trans (grown_frL hgrow6)
      clear hown6 hgrow6 hat6 hlt6 HRW HNW HBS HFz
      go_wp2_with fail
      go_ret
      exact ⟨_, rfl, HO6.out, HF6.out⟩
def RlE (fs : List PF) (w : World) (e : Ending) (w' : World) : Prop :=
  ∃ v us, e = .returned v ∧ LB w'.heap.size w' v (zLs fs.length (fun f => ddX (clX fs f))) ∧ LOc w' w.heap.size v us (zLs fs.length (fun f => ddX (clX fs f))) ∧ Fr (fun _ => False) w w'
set_option maxRecDepth 100000 in
set_option maxHeartbeats 1500000 in
theorem rcallees_any (G : Int) (fv : Value) (fs : List PF) (w : World) (h : FA w fv fs) (hok : CallOk fs) (hN : fs.length ≤ 1000000) (hL : ∀ f ∈ fs, f.code.length ≤ 1000000000) :
    Calls Tryz.prog 21 #[.agg #[vI G, fv]] w (RlE fs w) := by
  obtain ⟨a0, c0, efv, -⟩ := id h
  subst efv
  have HFA : Hd (FA w (.slice a0 fs.length c0) fs) := h
  have HOK : Hd (CallOk fs) := hok
  have HL : Hd (∀ f ∈ fs, f.code.length ≤ 1000000000) := hL
  obtain ⟨wa, hwa⟩ : ∃ wa, wa = w.alloc (.cells #[vI G, .slice a0 fs.length c0] 24) := ⟨_, rfl⟩
  obtain ⟨H, hH⟩ : ∃ H, H = w.heap.size := ⟨_, rfl⟩
  have HH : Hd (H = w.heap.size) := hH
  have hFa : Fr (fun _ => False) w wa := by rw [hwa]; exact Fr.alloc (Fr.refl _ w) _
  have HBB : Hd (wa.heap[H]? = some (.cells #[vI G, .slice a0 fs.length c0] 24)) := by unfold Hd; rw [hwa, hH]; exact heap_new0 w _
  have HFB : Hd (Fr (fun _ => False) w wa) := hFa
  have HWA : Hd (wa = w.alloc (.cells #[vI G, .slice a0 fs.length c0] 24)) := hwa
  have HSB : Hd (H + 1 ≤ wa.heap.size) := by unfold Hd; rw [hwa, World.size_alloc, hH]; exact Nat.le_refl _
  have c1 : wa.cell? ⟨H, 1, none⟩ = some (.slice a0 fs.length c0) := by rw [cell_of0 HBB.out]; rfl
  clear h hok hL hwa hH hFa
  go_enter Tryz.func21, Tryz.ntmps21
  go_upto_region 1 with fail
  rw [← HWA.out, ← HH.out]
  clear HWA
  go_wp2_with fail
  go_loopw [3, 4] (fun v3 v wx => ∃ (k : Nat) (us : List Value), v = .int .i64 k ∧ k ≤ fs.length ∧ Hd (us.length = k ∧ LOc wx (H + 1) v3 us ((List.range k).map (fun f => zL (ddX (clX fs f))))) ∧ Hd (wx.heap[H]? = some (.cells #[vI G, .slice a0 fs.length c0] 24)) ∧ Hd (Fr (fun _ => False) w wx) ∧ Hd (H + 1 ≤ wx.heap.size)) (fun _ v _ => match v with | .int _ q => fs.length - q.toNat | _ => 0)
  case atStart => exact ⟨0, [], by simp, Nat.zero_le _, ⟨rfl, World.ownsRow_nil _ _ _ _, rfl, fun i hi => by simp at hi⟩, HBB.out, HFB.out, HSB.out⟩
  case round =>
    clear HBB HFB HSB c1
    obtain ⟨k, us, rfl, hk, HO, HB, HF, HS⟩ := hrel
    have c1 : wr.cell? ⟨H, 1, none⟩ = some (.slice a0 fs.length c0) := by rw [cell_of0 HB.out]; rfl
    by_cases hlt : k < fs.length
    · have d1 : decide ((k : Int) < (fs.length : Int)) = true := by simp; omega
      have k0 : (0 : Int) ≤ k := by omega
      have k1 : (k : Int) < fs.length := by omega
      obtain ⟨a, cp, e, hh⟩ := HFA.out
      obtain ⟨fk, fo, e2, hfk, hg⟩ := hh (fun e => by simp [e] at hlt)
      obtain ⟨cv0, -, -, -, p3, hca⟩ := hg k hlt
      rw [e2] at e
      injection e with e eL eC
      clear eL eC
      subst e
      obtain ⟨ca, cc, ecv, hcode⟩ := id hca
      subst ecv
      have HP3 : Hd (w.cell? ⟨fk, fo + k * 4 + 3, none⟩ = some (.slice ca fs[k].code.length cc) ∧ fk < w.heap.size) := ⟨p3, hfk⟩
      have hcl := HL.out _ (List.getElem_mem hlt)
      have HCD : Hd (CA w (.slice ca fs[k].code.length cc) fs[k].code) := hca
      have HCK : Hd (∀ c ∈ fs[k].code, c.op = 11 → 0 ≤ c.n ∧ c.n < (fs.length : Int)) := HOK.out _ (List.getElem_mem hlt)
      have HCX : Hd (clX fs k = callX fs[k].code) := clX_at hlt
      generalize hcs : fs[k].code = cs at *
      have HI0 : Hd (IOwn wr wr.heap.size (.slice none 0 0) (zL (ddX (callX (cs.take 0))))) := World.ownsRow_nil _ _ _ _
      clear hcs hg hh hca hcode p3 hlt
      go_wp2_with fail
      obtain ⟨wi, hwi⟩ : ∃ wi, wi = wr := ⟨_, rfl⟩
      rw [← hwi] at HO HB HF HS HI0 ⊢
      have HFI : Hd (Fr (fun _ => False) wi wi) := Fr.refl _ _
      clear hwi c1
      go_loopw [5, 6] (fun v5 v wx => ∃ j : Nat, v = .int .i64 j ∧ j ≤ cs.length ∧ Hd (IOwn wx wi.heap.size v5 (zL (ddX (callX (cs.take j))))) ∧ Hd (Fr (fun _ => False) wi wx)) (fun _ v _ => match v with | .int _ q => cs.length - q.toNat | _ => 0)
      case atStart => exact ⟨0, by simp, Nat.zero_le _, HI0.out, HFI.out⟩
      case round =>
        clear HI0 HFI
        obtain ⟨j, rfl, hj, HI, HFI⟩ := hrel
        have hHlt : H < wi.heap.size := by have := HS.out; omega
        have c1 : wr.cell? ⟨H, 1, none⟩ = some (.slice (some ⟨fk, fo, none⟩) fs.length c0) := by rw [HFI.out.cell hHlt (fun e => e), cell_of0 HB.out]; rfl
        have p3 : wr.cell? ⟨fk, fo + k * 4 + 3, none⟩ = some (.slice ca cs.length cc) := ((HF.out.trans HFI.out).cell HP3.out.2 (fun e => e)).trans HP3.out.1
        by_cases hlj : j < cs.length
        · have d2 : decide ((j : Int) < (cs.length : Int)) = true := by simp; omega
          have j0 : (0 : Int) ≤ j := by omega
          have j1 : (j : Int) < cs.length := by omega
          obtain ⟨a, cp, e, hh⟩ := HCD.out
          obtain ⟨ck, co, e2, hck, hg⟩ := hh (fun e => by simp [e] at hlj)
          obtain ⟨av, rv, q0, q1, q2, q3, q4, q5, q6, ia, ir⟩ := hg j hlj
          rw [e2] at e
          injection e with e eL eC
          clear eL eC
          subst e
          have m : ∀ o, wr.cell? ⟨ck, o, none⟩ = w.cell? ⟨ck, o, none⟩ := fun o => (HF.out.trans HFI.out).cell hck (fun e => e)
          rw [← m] at q0 q1 q2 q3 q4 q5 q6
          have HT : Hd (callX (cs.take (j + 1)) = callX (cs.take j) ++ if cs[j].op = 11 then [cs[j].n.toNat] else []) := callX_next hlj
          have HKJ : Hd (cs[j].op = 11 → 0 ≤ cs[j].n ∧ cs[j].n < (fs.length : Int)) := HCK.out _ (List.getElem_mem hlj)
          have hlen : (ddX (callX (cs.take j))).length ≤ 1000000000 := by
            have h1 := ddX_len (callX (cs.take j))
            have h2 : (callX (cs.take j)).length ≤ cs.length := by
              unfold callX
              rw [List.length_map]
              have := List.length_filter_le (fun c => c.op == 11) (cs.take j)
              rw [List.length_take] at this
              omega
            omega
          generalize cs[j] = c at *
          obtain ⟨aa, ac, eav, -⟩ := ia
          obtain ⟨ra2, rc2, erv, -⟩ := ir
          subst eav erv
          generalize c.args.length = an at *
          generalize c.rets.length = rn at *
          obtain ⟨X, hX⟩ : ∃ X, X = wr.heap.size := ⟨_, rfl⟩
          obtain ⟨wb, hwb⟩ : ∃ wb, wb = wr.alloc (.cells #[vI c.op, vI c.r, vI c.s, vI c.t, vI c.n, .slice aa an ac, .slice ra2 rn rc2] 43) := ⟨_, rfl⟩
          have hwb' : wr.alloc (Obj.cells #[Value.int IntKind.i64 c.op, Value.int IntKind.i64 c.r, Value.int IntKind.i64 c.s, Value.int IntKind.i64 c.t, Value.int IntKind.i64 c.n, Value.slice aa an ac, Value.slice ra2 rn rc2] 43) = wb := hwb.symm
          have hFb : Fr (fun _ => False) wr wb := by rw [hwb]; exact Fr.alloc (Fr.refl _ wr) _
          have hxb : wb.heap[X]? = some (.cells #[vI c.op, vI c.r, vI c.s, vI c.t, vI c.n, .slice aa an ac, .slice ra2 rn rc2] 43) := by rw [hwb, hX]; exact heap_new0 wr _
          have HIB : Hd (IOwn wb wi.heap.size u5 (zL (ddX (callX (cs.take j)))) ∧ Fr (fun _ => False) wi wb) := ⟨HI.out.fr hFb (fun _ _ e => e), HFI.out.trans hFb⟩
          have HXB : Hd (wb.heap[X]? = some (.cells #[vI c.op, vI c.r, vI c.s, vI c.t, vI c.n, .slice aa an ac, .slice ra2 rn rc2] 43)) := hxb
          have HXE : Hd (X = wr.heap.size) := hX
          have HWB : Hd (wr.alloc (Obj.cells #[Value.int IntKind.i64 c.op, Value.int IntKind.i64 c.r, Value.int IntKind.i64 c.s, Value.int IntKind.i64 c.t, Value.int IntKind.i64 c.n, Value.slice aa an ac, Value.slice ra2 rn rc2] 43) = wb) := hwb'
          clear hg hh m hwb hwb' hFb hxb hX HI HFI
          go_upto_region 10 with fail
          rw [HWB.out, ← HXE.out]
          have x0 : wb.cell? ⟨X, 0, none⟩ = some (vI c.op) := by rw [cell_of0 HXB.out]; rfl
          have x4 : wb.cell? ⟨X, 4, none⟩ = some (vI c.n) := by rw [cell_of0 HXB.out]; rfl
          clear HXB HWB HXE q0 q1 q2 q3 q4 q5 q6 c1 p3
          by_cases hop : c.op = 11
          · have eop : (c.op == 11) = true := by simp [hop]
            obtain ⟨n, hn⟩ : ∃ n : Nat, c.n = (n : Int) := ⟨c.n.toNat, by have := HKJ.out hop; omega⟩
            have HT2 : Hd (ddX (callX (cs.take (j + 1))) = wX (ddX (callX (cs.take j))) n) := by
              unfold Hd
              rw [HT.out, if_pos hop, hn, Int.toNat_natCast, ddX_next]
            rw [hn] at x4
            have HW : Hd (Calls Tryz.prog 52 #[u5, vI (n : Int)] wb fun e w' => ∃ v', e = .returned v' ∧ IOwn w' wi.heap.size v' (zL (wX (ddX (callX (cs.take j))) n)) ∧ Fr (fun q => u5.ownBlock = some q) wb w') := with_any u5 _ n wb wi.heap.size HIB.out.1 HIB.out.2.size hlen
            have HGE : Hd (∀ q, u5.ownBlock = some q → wi.heap.size ≤ q) := fun q e => (HIB.out.1.ge q e).1
            obtain ⟨va, vc, ev⟩ := iown_cap HIB.out.1
            rw [List.length_map] at ev
            subst ev
            rw [← HT2.out] at HW
            clear hop hn HT HKJ HT2
            generalize (ddX (callX (cs.take j))).length = dl at *
            go_wp2_with fail
            refine Calls.mono HW.out ?_
            rintro e w6 ⟨v6, rfl, ho6, hF6⟩
            have HI6 : Hd (IOwn w6 wi.heap.size v6 (zL (ddX (callX (cs.take (j + 1)))))) := ho6
            have HF6 : Hd (Fr (fun _ => False) wi w6) := HIB.out.2.then hF6 (fun q hq e => by have := HGE.out q e; omega)
            clear ho6 hF6 HW HIB
            go_wp2_with fail
            go_roundw
            case measure => simp; omega
            case rel => exact ⟨j + 1, by simp, by omega, HI6.out, HF6.out⟩
          · have eop : (c.op == 11) = false := by simp [hop]
            have HI6 : Hd (IOwn wb wi.heap.size u5 (zL (ddX (callX (cs.take (j + 1)))))) := by
              unfold Hd
              rw [HT.out, if_neg hop, List.append_nil]
              exact HIB.out.1
            have HF6 : Hd (Fr (fun _ => False) wi wb) := HIB.out.2
            clear hop HT HKJ HIB
            go_wp2_with fail
            go_roundw
            case measure => simp; omega
            case rel => exact ⟨j + 1, by simp, by omega, HI6.out, HF6.out⟩
        · have d2 : decide ((j : Int) < (cs.length : Int)) = false := by simp; omega
          have d2n : ¬ j < cs.length := by omega
          have hIk : IOwn wr wi.heap.size u5 (zL (ddX (clX fs k))) := by
            have := HI.out
            rw [List.take_of_length_le (by omega), ← HCX.out] at this
            exact this
          obtain ⟨va, vc, ev⟩ := iown_cap hIk
          have hO1 := HO.out.2.stay HFI.out
          obtain ⟨ra, rc, er⟩ := own_slice hO1.row
          rw [HO.out.1] at er
          have hCz : Fr (fun _ => False) wr (wr.alloc (.cells #[.slice va (zL (ddX (clX fs k))).length vc] 25)) := Fr.alloc (Fr.refl _ wr) _
          subst ev er
          have HFz : Hd (Fr (fun _ => False) wr (wr.alloc (.cells #[.slice va (zL (ddX (clX fs k))).length vc] 25))) := hCz
          have HOz : Hd (LOc (wr.alloc (.cells #[.slice va (zL (ddX (clX fs k))).length vc] 25)) (H + 1) (.slice ra k rc) us ((List.range k).map (fun f => zL (ddX (clX fs f))))) := hO1.stay hCz
          have HIz : Hd (IOwn (wr.alloc (.cells #[.slice va (zL (ddX (clX fs k))).length vc] 25)) (H + 1) (.slice va (zL (ddX (clX fs k))).length vc) (zL (ddX (clX fs k)))) := (hIk.fr hCz (fun _ _ e => e)).mono HS.out
          have HRW : Hd ((wr.alloc (.cells #[.slice va (zL (ddX (clX fs k))).length vc] 25)).ownsRow (H + 1) 25 1 (.slice ra k rc) k us) := by
            have := HOz.out.row
            rw [HO.out.1] at this
            exact this
          have HNW : Hd (∀ j' u, [Value.slice va (zL (ddX (clX fs k))).length vc][j']? = some u → (wr.alloc (.cells #[.slice va (zL (ddX (clX fs k))).length vc] 25)).cell? ((⟨wr.heap.size, 0, none⟩ : Addr).add j') = some u) := World.news_of_block (w := wr.alloc (.cells #[.slice va (zL (ddX (clX fs k))).length vc] 25)) (cs := #[.slice va (zL (ddX (clX fs k))).length vc]) (heap_new0 wr _)
          have HSZ : Hd ((wr.alloc (.cells #[.slice va (zL (ddX (clX fs k))).length vc] 25)).heap.size = wr.heap.size + 1) := World.size_alloc _ _
          have HBS : Hd (H + 1 ≤ (wr.alloc (.cells #[.slice va (zL (ddX (clX fs k))).length vc] 25)).heap.size) := by have := HSZ.out; have := HFI.out.size; have := HS.out; unfold Hd; omega
          have HUL : Hd (us.length = k) := HO.out.1
          have HRG : Hd ((List.range (k + 1)).map (fun f => zL (ddX (clX fs f))) = (List.range k).map (fun f => zL (ddX (clX fs f))) ++ [zL (ddX (clX fs k))]) := by unfold Hd; rw [List.range_succ, List.map_append]; rfl
          have hkb : k ≤ 1000000 := by omega
          have HGE : Hd (∀ q, (Value.slice ra k rc).ownBlock = some q → H + 1 ≤ q ∧ q < wr.heap.size) := fun q e => by
            have := World.ownsRow.lt hO1.row q (by rw [← e])
            exact this
          clear hIk hO1 hCz HI hlj HO
          generalize zL (ddX (clX fs k)) = L at *
          go_wp2_with ((at_builtin; refine Hd.out ?_))
          unfold Hd
          obtain ⟨i3, hi3, hz3, hs3, hb3⟩ := info_parts (P := Tryz.prog) (e := 25) (z := .slice none 0 0) (size := 1) (bytes := 24) (by kernel_rfl)
          refine wpList_append_lies _ rfl (.tmp 42) (.tmp 44) 48 rfl (H + 1) 25 i3 (.slice none 0 0) 1 24 under53 hi3 hz3 hs3 hb3 rfl (by omega) (.slice ra k rc) k _ rfl HRW.out ⟨wr.heap.size, 0, none⟩ 1 1 [.slice va L.length vc] rfl rfl HNW.out (by intro u hu; rw [List.mem_singleton] at hu; rw [hu]; rfl) (by omega) (by unfold maxLen; omega) (by omega) HBS.out (wr.heap.size + 1) (by simp) ?_
          intro g6 cap6 w6 hown6 hgrow6 hat6 hlt6
          clear hi3 hz3 hs3 hb3
          have HO6 : Hd ((us ++ [Value.slice va L.length vc]).length = k + 1 ∧ LOc w6 (H + 1) (.slice (some ⟨g6, 0, none⟩) (k + 1) cap6) (us ++ [.slice va L.length vc]) ((List.range (k + 1)).map (fun f => zL (ddX (clX fs f))))) := by
            refine ⟨by rw [List.length_append, HUL.out]; rfl, ?_⟩
            rw [HRG.out]
            have k1 := HOz.out.grow (g := g6) (cap := cap6) HIz.out hgrow6 (by rw [HUL.out]; exact hown6)
            rw [HUL.out] at k1
            exact k1
          have hfr : Fr (fun q => (Value.slice ra k rc).ownBlock = some q) wr w6 := (HFz.out.mono (fun _ _ e => e.elim)).trans (grown_frL hgrow6)
          have HB6 : Hd (w6.heap[H]? = some (.cells #[vI G, .slice (some ⟨fk, fo, none⟩) fs.length c0] 24)) := (hfr.block H (Nat.lt_of_lt_of_le hHlt HFI.out.size) (fun e => by have := (HGE.out H e).1; omega)).trans (keepF HB.out HFI.out)
          have HF6 : Hd (Fr (fun _ => False) w w6) := (HF.out.trans HFI.out).then hfr (fun q hq e => by have := (HGE.out q e).1; have := HH.out; omega)
          have HS6 : Hd (H + 1 ≤ w6.heap.size) := by have := hfr.size; have := HFI.out.size; have := HS.out; unfold Hd; omega
          clear hown6 hgrow6 hat6 hlt6 HRW HNW HSZ HBS HFz HOz HIz hfr
          go_wp2_with fail
          go_roundw
          case measure => simp; omega
          case rel => exact ⟨k + 1, _, by simp, by omega, HO6.out, HB6.out, HF6.out, HS6.out⟩
    · have d1 : decide ((k : Int) < (fs.length : Int)) = false := by simp; omega
      have d1n : ¬ k < fs.length := by omega
      have HE : Hd (RlE fs w (.returned u3) wr) := by
        have e : k = fs.length := by omega
        have := HO.out.2.lb
        have h2 := HO.out.2.mono (B' := w.heap.size) (by have := HH.out; omega)
        rw [e] at this h2
        exact ⟨u3, _, rfl, this, h2, HF.out⟩
      clear hlt HO
      go_wp2_with fail
      go_ret
      exact HE.out
end Go.Proofs.YtjmbfjaahadbhaaGreatDoor
namespace Go.Proofs.YtjmbfjaahadbhaaGreatDoor

/-! ### functions numbered otherwise -/
structure Ren (N : Nat) (tw : Nat → Nat) (cl cl' : Nat → List Nat) : Prop where
  lt : ∀ x, x < N → tw x < N
  inj : ∀ x y, x < N → y < N → tw x = tw y → x = y
  on : ∀ y, y < N → ∃ x, x < N ∧ tw x = y
  cls : ∀ x, x < N → cl' (tw x) = (cl x).map tw
  cN : ∀ x, x < N → ∀ z ∈ cl x, z < N
section
variable {N n n' : Nat} {tw of of' : Nat → Nat} {cl cl' : Nat → List Nat}
theorem Ren.rch (h : Ren N tw cl cl') {x y : Nat} (hx : x < N) (k : Rch cl x y) : y < N ∧ Rch cl' (tw x) (tw y) := by
  induction k with
  | refl => exact ⟨hx, .refl _⟩
  | @step y z _ m ih => exact ⟨h.cN y ih.1 z m, .step ih.2 (by rw [h.cls y ih.1]; exact List.mem_map.2 ⟨z, m, rfl⟩)⟩
theorem Ren.hcr (h : Ren N tw cl cl') {x v : Nat} (hx : x < N) (k : Rch cl' (tw x) v) : ∃ y, y < N ∧ v = tw y ∧ Rch cl x y := by
  induction k with
  | refl => exact ⟨x, hx, rfl, .refl _⟩
  | @step u z _ m ih =>
    obtain ⟨y, hy, rfl, ky⟩ := ih
    rw [h.cls y hy, List.mem_map] at m
    obtain ⟨z0, m0, rfl⟩ := m
    exact ⟨z0, h.cN y hy z0 m0, rfl, .step ky m0⟩
theorem Ren.rchs (h : Ren N tw cl cl') {x y : Nat} (hx : x < N) (hy : y < N) : Rch cl x y ↔ Rch cl' (tw x) (tw y) := by
  refine ⟨fun k => (h.rch hx k).2, fun k => ?_⟩
  obtain ⟨y', hy', e, k'⟩ := h.hcr hx k
  rw [h.inj y y' hy hy' e]
  exact k'
theorem Ren.same (h : Ren N tw cl cl') (g : Rg N cl n of) (g' : Rg N cl' n' of') {x y : Nat} (hx : x < N) (hy : y < N) : of x = of y ↔ of' (tw x) = of' (tw y) := by
  rw [g.eq x y hx hy, g'.eq _ _ (h.lt x hx) (h.lt y hy), h.rchs hx hy, h.rchs hy hx]
theorem inj_le {a b : Nat} (φ : Nat → Nat) (h1 : ∀ c, c < a → φ c < b) (h2 : ∀ c d, c < a → d < a → φ c = φ d → c = d) : a ≤ b := by
  have nd : ((List.range a).map φ).Nodup := by
    rw [List.Nodup, List.pairwise_map]
    refine List.Pairwise.imp_of_mem ?_ (List.pairwise_lt_range (n := a))
    intro x y hx hy hxy e
    rw [List.mem_range] at hx hy
    have := h2 x y hx hy e
    omega
  have := nodup_le nd (n := b) (fun x hx => by
    obtain ⟨c, hc, rfl⟩ := List.mem_map.1 hx
    exact h1 c (List.mem_range.1 hc))
  rwa [List.length_map, List.length_range] at this
theorem Ren.len (h : Ren N tw cl cl') (g : Rg N cl n of) (g' : Rg N cl' n' of') : n' = n := by
  apply Nat.le_antisymm
  · have pick : ∀ c, c < n' → ∃ x, x < N ∧ of' (tw x) = c := fun c hc => by
      obtain ⟨v, v1, v2⟩ := g'.on c hc
      obtain ⟨x, x1, x2⟩ := h.on v v1
      exact ⟨x, x1, by rw [x2, v2]⟩
    have pick2 : ∀ c, ∃ x, c < n' → x < N ∧ of' (tw x) = c := fun c => by
      by_cases hc : c < n'
      · obtain ⟨x, hx⟩ := pick c hc
        exact ⟨x, fun _ => hx⟩
      · exact ⟨0, fun e => absurd e hc⟩
    obtain ⟨ψ, hψ⟩ := Classical.axiomOfChoice pick2
    refine inj_le (fun c => of (ψ c)) (fun c hc => g.lt _ (hψ c hc).1) (fun c d hc hd e => ?_)
    have := (h.same g g' (hψ c hc).1 (hψ d hd).1).1 e
    rw [(hψ c hc).2, (hψ d hd).2] at this
    exact this
  · have pick2 : ∀ c, ∃ x, c < n → x < N ∧ of x = c := fun c => by
      by_cases hc : c < n
      · obtain ⟨x, hx⟩ := g.on c hc
        exact ⟨x, fun _ => hx⟩
      · exact ⟨0, fun e => absurd e hc⟩
    obtain ⟨ψ, hψ⟩ := Classical.axiomOfChoice pick2
    refine inj_le (fun c => of' (tw (ψ c))) (fun c hc => g'.lt _ (h.lt _ (hψ c hc).1)) (fun c d hc hd e => ?_)
    have := (h.same g g' (hψ c hc).1 (hψ d hd).1).2 e
    rw [(hψ c hc).2, (hψ d hd).2] at this
    exact this
theorem Ren.calls (h : Ren N tw cl cl') (g : Rg N cl n of) (g' : Rg N cl' n' of') {x y : Nat} (hx : x < N) (hy : y < N) : of y ∈ cleX N n of cl (of x) ↔ of' (tw y) ∈ cleX N n' of' cl' (of' (tw x)) := by
  rw [mem_cleX, mem_cleX, hitX_iff, hitX_iff]
  constructor
  · rintro ⟨-, h2, f, f1, f2, z, z1, z2⟩
    refine ⟨g'.lt _ (h.lt y hy), fun e => h2 ((h.same g g' hx hy).2 e), tw f, h.lt f f1, (h.same g g' f1 hx).1 f2, tw z, ?_, (h.same g g' (h.cN f f1 z z1) hy).1 z2⟩
    rw [h.cls f f1]
    exact List.mem_map.2 ⟨z, z1, rfl⟩
  · rintro ⟨-, h2, f', f1, f2, z', z1, z2⟩
    obtain ⟨f, e1, rfl⟩ := h.on f' f1
    rw [h.cls f e1, List.mem_map] at z1
    obtain ⟨z, z0, rfl⟩ := z1
    exact ⟨g.lt y hy, fun e => h2 ((h.same g g' hx hy).1 e), f, e1, (h.same g g' e1 hx).2 f2, z, z0, (h.same g g' (h.cN f e1 z z0) hy).2 z2⟩
end

/-! ### who is reached, by going on until nothing new comes -/
structure RI (N : Nat) (cl : Nat → List Nat) (f : Nat) (todo : List Nat) (k i : Nat) : Prop where
  nd : todo.Nodup
  lt : ∀ x ∈ todo, x < N
  ff : f ∈ todo
  rc : ∀ x ∈ todo, Rch cl f x
  dn : ∀ j y, j < k → todo[j]? = some y → ∀ z ∈ cl y, z ∈ todo
  an : ∀ y, todo[k]? = some y → ∀ z ∈ (cl y).take i, z ∈ todo
section
variable {N f k i y z : Nat} {cl : Nat → List Nat} {todo : List Nat}
theorem RI.begin (hf : f < N) : RI N cl f [f] 0 0 :=
  ⟨by simp, fun x hx => by rw [List.mem_singleton] at hx; omega, by simp, fun x hx => by rw [List.mem_singleton] at hx; subst hx; exact .refl _, fun j y hj => absurd hj (Nat.not_lt_zero _), fun y _ z hz => by simp at hz⟩
theorem RI.old (h : RI N cl f todo k i) (hy : todo[k]? = some y) (hz : (cl y)[i]? = some z) (hm : z ∈ todo) : RI N cl f todo k (i + 1) := by
  refine ⟨h.nd, h.lt, h.ff, h.rc, h.dn, fun y' hy' x hx => ?_⟩
  rw [hy] at hy'
  cases hy'
  rw [List.take_add_one, List.mem_append, hz] at hx
  rcases hx with hx | hx
  · exact h.an y hy x hx
  · rw [Option.toList_some, List.mem_singleton] at hx
    subst hx
    exact hm
theorem RI.new (h : RI N cl f todo k i) (hy : todo[k]? = some y) (hz : (cl y)[i]? = some z) (hm : z ∉ todo) (hzN : z < N) : RI N cl f (todo ++ [z]) k (i + 1) := by
  have hk : k < todo.length := by
    by_cases e : k < todo.length
    · exact e
    · rw [List.getElem?_eq_none (by omega)] at hy; cases hy
  have up : ∀ x, x ∈ todo → x ∈ todo ++ [z] := fun x hx => List.mem_append_left _ hx
  refine ⟨?_, fun x hx => ?_, up _ h.ff, fun x hx => ?_, fun j u hj hu x hx => ?_, fun u hu x hx => ?_⟩
  · rw [List.nodup_append]
    refine ⟨h.nd, by simp, fun a ha b hb e => ?_⟩
    rw [List.mem_singleton] at hb
    subst hb
    subst e
    exact hm ha
  · rcases List.mem_append.1 hx with hx | hx
    · exact h.lt x hx
    · rw [List.mem_singleton] at hx; omega
  · rcases List.mem_append.1 hx with hx | hx
    · exact h.rc x hx
    · rw [List.mem_singleton] at hx
      subst hx
      exact .step (h.rc y (List.mem_of_getElem? hy)) (List.mem_of_getElem? hz)
  · rw [List.getElem?_append_left (by omega)] at hu
    exact up _ (h.dn j u hj hu x hx)
  · rw [List.getElem?_append_left hk, hy] at hu
    cases hu
    rw [List.take_add_one, List.mem_append, hz] at hx
    rcases hx with hx | hx
    · exact up _ (h.an y hy x hx)
    · rw [Option.toList_some, List.mem_singleton] at hx
      subst hx
      simp
theorem RI.next (h : RI N cl f todo k i) (hy : todo[k]? = some y) (hi : i = (cl y).length) : RI N cl f todo (k + 1) 0 := by
  refine ⟨h.nd, h.lt, h.ff, h.rc, fun j u hj hu x hx => ?_, fun u _ x hx => by simp at hx⟩
  by_cases e : j < k
  · exact h.dn j u e hu x hx
  · have ej : j = k := by omega
    subst ej
    rw [hy] at hu
    cases hu
    exact h.an y hy x (by rw [hi, List.take_length]; exact hx)
theorem RI.over (h : RI N cl f todo k i) (hk : todo.length ≤ k) (x : Nat) : Rch cl f x ↔ x ∈ todo := by
  refine ⟨fun r => ?_, h.rc x⟩
  induction r with
  | refl => exact h.ff
  | @step u v _ m ih =>
    obtain ⟨j, hj, e⟩ := List.mem_iff_getElem.1 ih
    exact h.dn j u (by omega) (by rw [List.getElem?_eq_getElem hj, e]) v m
theorem RI.len (h : RI N cl f todo k i) : todo.length ≤ N := nodup_le h.nd h.lt
end
end Go.Proofs.YtjmbfjaahadbhaaGreatDoor
