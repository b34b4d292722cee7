import Derived.Test.YtngbakjalmgciaaGreatQQfJ
namespace Go.Proofs.YtngbakjalmgciaaGreat
open Go.RowKit (wrap32 wrap64)
set_option linter.unusedVariables false
set_option linter.unusedSimpArgs false

theorem OpsOwn.at {w : World} {B : Nat} {v : Value} {ops : List OpT} (h : OpsOwn w B v ops) : OpsAt w w.heap.size v ops := by
  rcases h.2 with ⟨h2, h3⟩ | ⟨g, cap, cur, e, h3, h4, h5, h6, h7, h8⟩
  · have : ops = [] := List.eq_nil_of_length_eq_zero h3
    subst this
    exact ⟨none, 0, h2, Nat.le_refl _, fun h => absurd rfl h⟩
  · refine ⟨_, cap, e, h5, fun _ => ⟨g, 0, rfl, heap_lt h4, fun i hi => ?_⟩⟩
    have hlen : ∀ r ∈ ops.map opC, r.length = 3 := fun r hr => by obtain ⟨o, -, rfl⟩ := List.mem_map.1 hr; rfl
    have hc : ∀ j, j < 3 → w.cell? ⟨g, 0 + i * 3 + j, none⟩ = (opC ops[i])[j]? := fun j hj => by
      rw [cell_of h4, Nat.zero_add]
      have e1 : cur[i * 3 + j]? = (ops.flatMap opC)[i * 3 + j]? := by rw [← h8, List.getElem?_take, if_pos (by omega), Array.getElem?_toList]
      rw [e1]
      have e2 := flat_get hlen i j (by simpa using hi) hj
      rw [List.getElem_map] at e2
      rw [← e2]
      rfl
    exact ⟨hc 0 (by omega), hc 1 (by omega), hc 2 (by omega)⟩
theorem OpsOwn.ge {w : World} {B : Nat} {v : Value} {ops : List OpT} (h : OpsOwn w B v ops) {j : Nat} (hj : v.ownBlock = some j) : B ≤ j ∧ j < w.heap.size := World.ownsRow.lt h j hj

/-- A client as it begins. -/
def dv0 (cb : Nat) (ov : Value) (ops : List OpT) : DV := ⟨cb, ov, .slice none 0 0, .slice none 0 0, ⟨ops, 0, false, 0, false, rep0⟩⟩
def cl0C (ov : Value) : Array Value := #[ov, vI 0, .bool false, vI 0, .bool false, .bool false, .string ⟨#[]⟩, .slice none 0 0, .slice none 0 0]
theorem cl9_new (cb : Nat) (ov : Value) (ops : List OpT) : cl9 (dv0 cb ov ops) = cl0C ov := rfl
theorem scn_row (tb : Nat) (held : Nat → Int) (lv lv' hv : Value) : (scnC tb held lv hv).setIfInBounds 9 lv' = scnC tb held lv' hv := rfl
noncomputable def roC (ro : Nat → Nat) (H cb g6 n : Nat) (ov : Value) (j : Nat) : Nat := open Classical in
  if j < H then ro j else if ov.ownBlock = some j then 7 else if j = cb then 10 + n else if j = g6 then 2 else 0
/-- One client more. -/
theorem Sn.addCl {w : World} {B sb tb : Nat} {lv kv vv hv : Value} {ro : Nat → Nat} {dvs : List DV} {t : DS} (h : Sn w B sb tb lv kv vv hv ro dvs [] t) {w1 w6 : World} {ov : Value} {ops : List OpT} {g6 cap6 : Nat} (f1 : Fr (fun _ => False) w w1) (ho : OpsOwn w1 w.heap.size ov ops)
    (hrow : w6.ownsRow B 68 1 (.slice (some ⟨g6, 0, none⟩) (dvs.length + 1) cap6) (dvs.length + 1) (ptrs dvs ++ [.pointer (some ⟨w1.heap.size, 0, none⟩)]))
    (hgrow : ((w1.alloc (.cells (cl0C ov) 70)).alloc (.cells #[.pointer (some ⟨w1.heap.size, 0, none⟩)] 68)).grownBy w6 lv.ownBlock) (hat : lv.ownBlock = some g6 ∨ g6 = w1.heap.size + 2) :
    w6.heap[sb]? = some (.cells (scnC tb t.held lv hv) 67) ∧ Sn (w6.setCell ⟨sb, 9, none⟩ (.slice (some ⟨g6, 0, none⟩) (dvs.length + 1) cap6)) B sb tb (.slice (some ⟨g6, 0, none⟩) (dvs.length + 1) cap6) kv vv hv (roC ro w.heap.size w1.heap.size g6 dvs.length ov) (dvs ++ [dv0 w1.heap.size ov ops]) [] { t with cls := t.cls ++ [⟨ops, 0, false, 0, false, rep0⟩] } ∧ Fr (fun j => B ≤ j) w (w6.setCell ⟨sb, 9, none⟩ (.slice (some ⟨g6, 0, none⟩) (dvs.length + 1) cap6)) := by
  have hs1 := f1.size
  have hB := h.Ble
  have hsb := heap_lt h.scn
  obtain ⟨wa, ewa⟩ : ∃ wa, wa = (w1.alloc (.cells (cl0C ov) 70)).alloc (.cells #[.pointer (some ⟨w1.heap.size, 0, none⟩)] 68) := ⟨_, rfl⟩
  rw [← ewa] at hgrow
  have sza : wa.heap.size = w1.heap.size + 2 := by rw [ewa]; simp
  have fa : Fr (fun _ => False) w1 wa := by rw [ewa]; exact ((Fr.refl _ w1).alloc _).alloc _
  have hcb : wa.heap[w1.heap.size]? = some (.cells (cl0C ov) 70) := by
    rw [ewa, Go.RowKit.Below.heap_alloc _ _ _ (by simp)]
    exact heap_alloc_last w1 _
  have f6 : Fr (fun j => lv.ownBlock = some j) wa w6 := grown_fr hgrow
  have hlv : ∀ j, lv.ownBlock = some j → j < w.heap.size := fun j hj => (World.ownsRow.lt h.row j hj).2
  have hsb6 : w6.heap[sb]? = some (.cells (scnC tb t.held lv hv) 67) := by
    refine (f6.block sb (by omega) (fun e => ?_)).trans ((fa.block sb (by omega) (fun e => e)).trans ((f1.block sb hsb (fun e => e)).trans h.scn))
    have := h.rl sb e; rw [h.rs] at this; omega
  obtain ⟨w', ew'⟩ : ∃ w', w' = w6.setCell ⟨sb, 9, none⟩ (.slice (some ⟨g6, 0, none⟩) (dvs.length + 1) cap6) := ⟨_, rfl⟩
  have f' : Fr (fun j => j = sb) w6 w' := by rw [ew']; exact (Fr.refl (fun j => j = sb) w6).setCell _ _ (Or.inl rfl)
  rw [← ew']
  have hsb' : w'.heap[sb]? = some (.cells (scnC tb t.held (.slice (some ⟨g6, 0, none⟩) (dvs.length + 1) cap6) hv) 67) := by rw [ew', set_of hsb6, scn_row]
  clear ew'
  have fw : Fr (fun j => j = sb ∨ lv.ownBlock = some j) w w' := (((f1.trans fa).mono (fun _ _ e => e.elim)).trans (f6.mono (fun _ _ e => Or.inr e))).trans (f'.mono (fun _ _ e => Or.inl e))
  have f1w : Fr (fun j => j = sb ∨ lv.ownBlock = some j) w1 w' := ((fa.mono (fun _ _ e => e.elim)).trans (f6.mono (fun _ _ e => Or.inr e))).trans (f'.mono (fun _ _ e => Or.inl e))
  have szw : wa.heap.size ≤ w'.heap.size := Nat.le_trans f6.size f'.size
  have hS : ∀ j, (j = sb ∨ lv.ownBlock = some j) → ro j = 1 ∨ ro j = 2 := fun j e => by
    rcases e with e | e
    · rw [e]; exact Or.inl h.rs
    · exact Or.inr (h.rl j e)
  have hSl : ∀ j, (j = sb ∨ lv.ownBlock = some j) → j < w.heap.size := fun j e => by
    rcases e with e | e
    · rw [e]; exact hsb
    · exact hlv j e
  have low : ∀ j, ro j ≠ 0 → roC ro w.heap.size w1.heap.size g6 dvs.length ov j = ro j := fun j hj => by unfold roC; rw [if_pos (h.lt j hj)]
  have n7 : ∀ j, (j = sb ∨ lv.ownBlock = some j) → ro j ≠ 7 := fun j e => by have := hS j e; omega
  have k7 : ∀ j, ro j = 7 → roC ro w.heap.size w1.heap.size g6 dvs.length ov j = 7 := fun j e => by rw [low j (by omega)]; exact e
  have k0 : ∀ j, ro j ≠ 0 → roC ro w.heap.size w1.heap.size g6 dvs.length ov j ≠ 0 := fun j e => by rw [low j e]; exact e
  have hg6 := World.ownsRow.lt hrow g6 rfl
  have ov7 : ∀ j, ov.ownBlock = some j → roC ro w.heap.size w1.heap.size g6 dvs.length ov j = 7 := fun j hj => by
    have := ho.ge hj
    unfold roC; rw [if_neg (by omega), if_pos hj]
  have cb10 : roC ro w.heap.size w1.heap.size g6 dvs.length ov w1.heap.size = 10 + dvs.length := by
    unfold roC
    rw [if_neg (by omega), if_neg (fun e => by have := ho.ge e; omega), if_pos rfl]
  have g62 : roC ro w.heap.size w1.heap.size g6 dvs.length ov g6 = 2 := by
    rcases hat with e | e
    · have := h.rl g6 e; rw [low g6 (by omega)]; exact this
    · unfold roC
      rw [if_neg (by omega), if_neg (fun e2 => by have := ho.ge e2; omega), if_neg (by omega), if_pos rfl]
  refine ⟨hsb6, ?_, fw.mono (fun j _ e => h.ge j (by have := hS j e; omega))⟩
  have hlast : ∀ k (hk : k < (dvs ++ [dv0 w1.heap.size ov ops]).length), (k < dvs.length ∧ ∃ h' : k < dvs.length, (dvs ++ [dv0 w1.heap.size ov ops])[k] = dvs[k]) ∨ (k = dvs.length ∧ (dvs ++ [dv0 w1.heap.size ov ops])[k] = dv0 w1.heap.size ov ops) := fun k hk => by
    rcases Nat.lt_or_ge k dvs.length with e | e
    · exact Or.inl ⟨e, e, List.getElem_append_left e⟩
    · have : k = dvs.length := by simp at hk; omega
      subst this
      exact Or.inr ⟨rfl, by simp⟩
  exact {
    scn := hsb'
    row := by
      rw [List.length_append]
      have : ptrs (dvs ++ [dv0 w1.heap.size ov ops]) = ptrs dvs ++ [.pointer (some ⟨w1.heap.size, 0, none⟩)] := by simp [ptrs, dv0]
      rw [this]
      refine ownsRow_fr hrow f' (fun j hj e => ?_)
      have e' : g6 = j := Option.some.inj hj
      have h1 := congrArg (roC ro w.heap.size w1.heap.size g6 dvs.length ov) (e'.trans e)
      rw [g62, low sb (by rw [h.rs]; decide), h.rs] at h1
      omega
    cl := fun k hk => by
      rcases hlast k hk with ⟨-, h', e⟩ | ⟨-, e⟩
      · rw [e]
        exact (fw.block _ (heap_lt (h.cl k h')) (fun e2 => by have := h.rc k h'; have := hS _ e2; omega)).trans (h.cl k h')
      · rw [e]
        show w'.heap[w1.heap.size]? = _
        refine (f'.block _ (by have := f6.size; omega) (fun e2 => by omega)).trans ((f6.block _ (by omega) (fun e2 => by have := hlv _ e2; omega)).trans ?_)
        rw [hcb]; rfl
    cls := by rw [List.map_append, h.cls]; rfl
    ops := fun x hx => by
      rcases List.mem_append.1 hx with e | e
      · exact (h.ops x e).fr fw n7 k7
      · simp at e
        subst e
        obtain ⟨ad, cap, e1, hcap, hx'⟩ := ho.at
        refine ⟨⟨ad, cap, e1, hcap, fun hne => ?_⟩, fun _ j hj => ov7 j hj⟩
        obtain ⟨g, o, ea, hg, hcs⟩ := hx' hne
        have hge := ho.ge (j := g) (by rw [e1, ea]; rfl)
        have nS : ¬ (g = sb ∨ lv.ownBlock = some g) := fun e => by have := hSl g e; omega
        refine ⟨g, o, ea, by omega, fun i hi => ?_⟩
        obtain ⟨c0, c1, c2⟩ := hcs i hi
        exact ⟨(f1w.cell hg nS).trans c0, (f1w.cell hg nS).trans c1, (f1w.cell hg nS).trans c2⟩
    rpk := fun x hx => by
      rcases List.mem_append.1 hx with e | e
      · exact (h.rpk x e).fr fw n7 k7
      · simp at e; subst e; exact Rd.nil _ _
    rpv := fun x hx => by
      rcases List.mem_append.1 hx with e | e
      · exact (h.rpv x e).fr fw n7 k7
      · simp at e; subst e; exact Rd.nil _ _
    tab := h.tab.fr fw (fun e => by have := h.rt; have := hS _ e; omega) (fun j hj e => by have := h.rk j hj; have := hS _ e; omega) (fun j hj e => by have := h.rv j hj; have := hS _ e; omega)
    mom := ownsRow_fr h.mom fw (fun j hj e => by have := h.rh j hj; have := hS j e; omega)
    moms := h.moms
    mrk := fun x hx => by cases hx
    mrv := fun x hx => by cases hx
    rs := by rw [low sb (by rw [h.rs]; decide)]; exact h.rs
    rl := fun j hj => by have e' : g6 = j := Option.some.inj hj; rw [← e']; exact g62
    rt := by rw [low tb (by rw [h.rt]; decide)]; exact h.rt
    rk := fun j hj => by have e := h.rk j hj; rw [low j (by omega)]; exact e
    rv := fun j hj => by have e := h.rv j hj; rw [low j (by omega)]; exact e
    rh := fun j hj => by have e := h.rh j hj; rw [low j (by omega)]; exact e
    rc := fun k hk => by
      rcases hlast k hk with ⟨-, h', e⟩ | ⟨ek, e⟩
      · rw [e, low _ (by have := h.rc k h'; omega)]; exact h.rc k h'
      · rw [e, ek]; exact cb10
    lt := fun j hj => by
      unfold roC at hj
      split at hj
      · exact Nat.lt_of_lt_of_le (h.lt j hj) fw.size
      · split at hj
        · rename_i e; have := ho.ge e; omega
        · split at hj
          · rename_i e; omega
          · split at hj
            · rename_i e; rw [e]; exact Nat.lt_of_lt_of_le hg6.2 f'.size
            · exact absurd rfl hj
    ge := fun j hj => by
      unfold roC at hj
      split at hj
      · exact h.ge j hj
      · omega }
/-- The scene as it begins. -/
theorem Sn.start (w : World) : Sn ((w.alloc (.cells #[.slice none 0 0, .slice none 0 0] 63)).alloc (.cells (scnC w.heap.size (fun _ => 0) (.slice none 0 0) (.slice none 0 0)) 67)) w.heap.size (w.heap.size + 1) w.heap.size (.slice none 0 0) (.slice none 0 0) (.slice none 0 0) (.slice none 0 0) (fun j => if j = w.heap.size then 3 else if j = w.heap.size + 1 then 1 else 0) [] [] ⟨[], fun _ => 0, [], []⟩ := by
  have hs : ((w.alloc (.cells #[.slice none 0 0, .slice none 0 0] 63)).alloc (.cells (scnC w.heap.size (fun _ => 0) (.slice none 0 0) (.slice none 0 0)) 67)).heap.size = w.heap.size + 2 := by simp
  have hsz : (w.alloc (.cells #[.slice none 0 0, .slice none 0 0] 63)).heap.size = w.heap.size + 1 := by simp
  exact {
    scn := by have := heap_alloc_last (w.alloc (.cells #[.slice none 0 0, .slice none 0 0] 63)) (.cells (scnC w.heap.size (fun _ => 0) (.slice none 0 0) (.slice none 0 0)) 67); rw [hsz] at this; exact this
    row := World.ownsRow_nil _ _ _ _
    cl := fun i hi => by simp at hi
    cls := rfl
    ops := fun x hx => by cases hx
    rpk := fun x hx => by cases hx
    rpv := fun x hx => by cases hx
    tab := ⟨by rw [Go.RowKit.Below.heap_alloc _ _ _ (by simp)]; exact heap_alloc_last w _, World.ownsRow_nil _ _ _ _, World.ownsRow_nil _ _ _ _, (fun e => by cases e), (fun e => by cases e), (fun g e => by cases e), List.Pairwise.nil⟩
    mom := World.ownsRow_nil _ _ _ _
    moms := rfl
    mrk := fun x hx => by cases hx
    mrv := fun x hx => by cases hx
    rs := by show (if w.heap.size + 1 = w.heap.size then 3 else if w.heap.size + 1 = w.heap.size + 1 then 1 else 0) = 1; rw [if_neg (by omega), if_pos rfl]
    rl := fun j hj => by cases hj
    rt := by show (if w.heap.size = w.heap.size then 3 else if w.heap.size = w.heap.size + 1 then 1 else 0) = 3; rw [if_pos rfl]
    rk := fun j hj => by cases hj
    rv := fun j hj => by cases hj
    rh := fun j hj => by cases hj
    rc := fun i hi => by simp at hi
    lt := fun j hj => by
      split at hj
      · omega
      · split at hj
        · omega
        · exact absurd rfl hj
    ge := fun j hj => by
      split at hj
      · omega
      · split at hj
        · omega
        · exact absurd rfl hj }
end Go.Proofs.YtngbakjalmgciaaGreat
