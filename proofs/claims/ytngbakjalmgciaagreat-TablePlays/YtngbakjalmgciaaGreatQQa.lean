import Derived.Test.YtngbakjalmgciaaGreatQE7J
import Derived.Test.YtngbakjalmgciaaGreatQPe
namespace Go.Proofs.YtngbakjalmgciaaGreat
set_option linter.unusedVariables false
set_option linter.unusedSimpArgs false

/-! ### the document's scene in memory -/
structure DV where
  cb : Nat
  ov : Value
  kv : Value
  vv : Value
  d : DC
def cl9 (x : DV) : Array Value := #[x.ov, vI (x.d.at' : Nat), .bool x.d.begun, vI (x.d.locked : Nat), .bool x.d.done, .bool x.d.rp.ok, .string x.d.rp.val, x.kv, x.vv]
def scnC (tb : Nat) (held : Nat → Int) (lv hv : Value) : Array Value := #[.pointer (some ⟨tb, 0, none⟩), vI (held 0), vI (held 1), vI (held 2), vI (held 3), vI (held 4), vI (held 5), vI (held 6), vI (held 7), lv, hv]
def ptrs (dvs : List DV) : List Value := dvs.map (fun x => .pointer (some ⟨x.cb, 0, none⟩))
/-- Lists that are only read. -/
def Rd (w : World) (ro : Nat → Nat) (v : Value) (xs : List Value) : Prop := RowAt w w.heap.size v xs ∧ (xs ≠ [] → ∀ j, v.ownBlock = some j → ro j = 7) ∧ ∀ j, v.ownBlock = some j → ro j ≠ 0
def Od (w : World) (ro : Nat → Nat) (v : Value) (ops : List OpT) : Prop := OpsAt w w.heap.size v ops ∧ (ops ≠ [] → ∀ j, v.ownBlock = some j → ro j = 7)
theorem Rd.fr {S : Nat → Prop} {w w' : World} {ro ro' : Nat → Nat} {v : Value} {xs : List Value} (h : Rd w ro v xs) (f : Fr S w w') (hS : ∀ j, S j → ro j ≠ 7) (hr : ∀ j, ro j = 7 → ro' j = 7) (h0 : ∀ j, ro j ≠ 0 → ro' j ≠ 0 := by first | assumption | exact fun _ e => e) : Rd w' ro' v xs := by
  obtain ⟨⟨ad, cap, e, hx⟩, h2, h3⟩ := h
  refine ⟨⟨ad, cap, e, fun hne => ?_⟩, fun hne j hj => hr j (h2 hne j hj), fun j hj => h0 j (h3 j hj)⟩
  obtain ⟨g, o, ea, hg, hcs⟩ := hx hne
  have h7 := h2 hne g (by rw [e, ea]; rfl)
  exact ⟨g, o, ea, Nat.lt_of_lt_of_le hg f.size, fun i hi => (f.cell hg (fun s => hS g s h7)).trans (hcs i hi)⟩
theorem Od.fr {S : Nat → Prop} {w w' : World} {ro ro' : Nat → Nat} {v : Value} {ops : List OpT} (h : Od w ro v ops) (f : Fr S w w') (hS : ∀ j, S j → ro j ≠ 7) (hr : ∀ j, ro j = 7 → ro' j = 7) : Od w' ro' v ops := by
  obtain ⟨⟨ad, cap, e, hcap, hx⟩, h2⟩ := h
  refine ⟨⟨ad, cap, e, hcap, fun hne => ?_⟩, fun hne j hj => hr j (h2 hne j hj)⟩
  obtain ⟨g, o, ea, hg, hcs⟩ := hx hne
  have h7 := h2 hne g (by rw [e, ea]; rfl)
  have hn : ¬ S g := fun s => hS g s h7
  refine ⟨g, o, ea, Nat.lt_of_lt_of_le hg f.size, fun i hi => ?_⟩
  obtain ⟨c0, c1, c2⟩ := hcs i hi
  exact ⟨(f.cell hg hn).trans c0, (f.cell hg hn).trans c1, (f.cell hg hn).trans c2⟩
theorem Rd.nil (w : World) (ro : Nat → Nat) : Rd w ro (.slice none 0 0) [] := ⟨RowAt.nil _ _, fun h => absurd rfl h, fun j hj => by cases hj⟩

structure Sn (w : World) (B sb tb : Nat) (lv kv vv hv : Value) (ro : Nat → Nat) (dvs : List DV) (mvs : List MV) (t : DS) : Prop where
  scn : w.heap[sb]? = some (.cells (scnC tb t.held lv hv) 67)
  row : w.ownsRow B 68 1 lv dvs.length (ptrs dvs)
  cl : ∀ i (h : i < dvs.length), w.heap[dvs[i].cb]? = some (.cells (cl9 dvs[i]) 70)
  cls : dvs.map DV.d = t.cls
  ops : ∀ x ∈ dvs, Od w ro x.ov x.d.ops
  rpk : ∀ x ∈ dvs, Rd w ro x.kv (kCells x.d.rp.L)
  rpv : ∀ x ∈ dvs, Rd w ro x.vv (vCells x.d.rp.L)
  tab : Rt w B tb kv vv t.tab
  mom : w.ownsRow B 44 9 hv t.ms.length ((mvs.map m9).flatten)
  moms : mvs.map MV.m = t.ms
  mrk : ∀ x ∈ mvs, Rd w ro x.kv (kCells x.m.rp.L)
  mrv : ∀ x ∈ mvs, Rd w ro x.vv (vCells x.m.rp.L)
  rs : ro sb = 1
  rl : ∀ j, lv.ownBlock = some j → ro j = 2
  rt : ro tb = 3
  rk : ∀ j, kv.ownBlock = some j → ro j = 4
  rv : ∀ j, vv.ownBlock = some j → ro j = 5
  rh : ∀ j, hv.ownBlock = some j → ro j = 6
  rc : ∀ i (h : i < dvs.length), ro dvs[i].cb = 10 + i
  lt : ∀ j, ro j ≠ 0 → j < w.heap.size
  ge : ∀ j, ro j ≠ 0 → B ≤ j

section
variable {w : World} {B sb tb : Nat} {lv kv vv hv : Value} {ro : Nat → Nat} {dvs : List DV} {mvs : List MV} {t : DS}
theorem Sn.len (h : Sn w B sb tb lv kv vv hv ro dvs mvs t) : dvs.length = t.cls.length := by rw [← h.cls]; simp
theorem Sn.Ble (h : Sn w B sb tb lv kv vv hv ro dvs mvs t) : B ≤ w.heap.size := by
  have h1 := heap_lt h.scn
  have h2 := h.ge sb (by rw [h.rs]; decide)
  omega
/-- What is not the scene's own has turned. -/
theorem Sn.fr (h : Sn w B sb tb lv kv vv hv ro dvs mvs t) {S : Nat → Prop} {w' : World} (f : Fr S w w') (hS : ∀ j, S j → ro j = 0) : Sn w' B sb tb lv kv vv hv ro dvs mvs t where
  scn := (f.block sb (heap_lt h.scn) (fun s => by have := hS sb s; rw [h.rs] at this; omega)).trans h.scn
  row := ownsRow_fr h.row f (fun j hj s => by have := hS j s; rw [h.rl j hj] at this; omega)
  cl := fun i hi => (f.block _ (heap_lt (h.cl i hi)) (fun s => by have := hS _ s; rw [h.rc i hi] at this; omega)).trans (h.cl i hi)
  cls := h.cls
  ops := fun x hx => (h.ops x hx).fr f (fun j s => by rw [hS j s]; decide) (fun _ e => e)
  rpk := fun x hx => (h.rpk x hx).fr f (fun j s => by rw [hS j s]; decide) (fun _ e => e)
  rpv := fun x hx => (h.rpv x hx).fr f (fun j s => by rw [hS j s]; decide) (fun _ e => e)
  tab := h.tab.fr f (fun s => by have := hS tb s; rw [h.rt] at this; omega) (fun j hj s => by have := hS j s; rw [h.rk j hj] at this; omega) (fun j hj s => by have := hS j s; rw [h.rv j hj] at this; omega)
  mom := ownsRow_fr h.mom f (fun j hj s => by have := hS j s; rw [h.rh j hj] at this; omega)
  moms := h.moms
  mrk := fun x hx => (h.mrk x hx).fr f (fun j s => by rw [hS j s]; decide) (fun _ e => e)
  mrv := fun x hx => (h.mrv x hx).fr f (fun j s => by rw [hS j s]; decide) (fun _ e => e)
  rs := h.rs
  rl := h.rl
  rt := h.rt
  rk := h.rk
  rv := h.rv
  rh := h.rh
  rc := h.rc
  lt := fun j hj => Nat.lt_of_lt_of_le (h.lt j hj) f.size
  ge := h.ge
theorem Sn.fr0 (h : Sn w B sb tb lv kv vv hv ro dvs mvs t) {w' : World} (f : Fr (fun _ => False) w w') : Sn w' B sb tb lv kv vv hv ro dvs mvs t := h.fr f (fun _ h => h.elim)
theorem ptrs_set {x : DV} {i : Nat} (hi : i < dvs.length) (hcb : x.cb = dvs[i].cb) : ptrs (dvs.set i x) = ptrs dvs := by
  unfold ptrs
  rw [List.map_set, hcb]
  have e : (dvs.map (fun x => Value.pointer (some ⟨x.cb, 0, none⟩)))[i]'(by simpa using hi) = Value.pointer (some ⟨dvs[i].cb, 0, none⟩) := by simp
  rw [← e, List.set_getElem_self]
/-- One client's block is written over. -/
theorem Sn.setCl (h : Sn w B sb tb lv kv vv hv ro dvs mvs t) {w' : World} {i : Nat} (hi : i < dvs.length) (f : Fr (fun j => j = dvs[i].cb) w w') (x : DV) (hcb : x.cb = dvs[i].cb) (hb : w'.heap[dvs[i].cb]? = some (.cells (cl9 x) 70)) (ho : Od w ro x.ov x.d.ops) (h1 : Rd w ro x.kv (kCells x.d.rp.L)) (h2 : Rd w ro x.vv (vCells x.d.rp.L)) :
    Sn w' B sb tb lv kv vv hv ro (dvs.set i x) mvs { t with cls := t.cls.set i x.d } := by
  have hr := h.rc i hi
  have n7 : ∀ j, j = dvs[i].cb → ro j ≠ 7 := fun j e => by rw [e, hr]; omega
  exact {
    scn := (f.block sb (heap_lt h.scn) (fun e => by have := h.rs; rw [e, hr] at this; omega)).trans h.scn
    row := by
      rw [ptrs_set hi hcb, List.length_set]
      exact ownsRow_fr h.row f (fun j hj e => by have := h.rl j hj; rw [e, hr] at this; omega)
    cl := fun k hk => by
      have hk' : k < dvs.length := by simpa using hk
      rw [List.getElem_set]
      by_cases e : i = k
      · rw [if_pos e, hcb]; exact hb
      · rw [if_neg e]
        exact (f.block _ (heap_lt (h.cl k hk')) (fun e2 => by have := h.rc k hk'; rw [e2, hr] at this; omega)).trans (h.cl k hk')
    cls := by rw [List.map_set, h.cls]
    ops := fun y hy => by
      rcases mem_set hy with e | rfl
      · exact (h.ops y e).fr f n7 (fun _ e => e)
      · exact ho.fr f n7 (fun _ e => e)
    rpk := fun y hy => by
      rcases mem_set hy with e | rfl
      · exact (h.rpk y e).fr f n7 (fun _ e => e)
      · exact h1.fr f n7 (fun _ e => e)
    rpv := fun y hy => by
      rcases mem_set hy with e | rfl
      · exact (h.rpv y e).fr f n7 (fun _ e => e)
      · exact h2.fr f n7 (fun _ e => e)
    tab := h.tab.fr f (fun e => by have := h.rt; rw [e, hr] at this; omega) (fun j hj e => by have := h.rk j hj; rw [e, hr] at this; omega) (fun j hj e => by have := h.rv j hj; rw [e, hr] at this; omega)
    mom := ownsRow_fr h.mom f (fun j hj e => by have := h.rh j hj; rw [e, hr] at this; omega)
    moms := h.moms
    mrk := fun y hy => (h.mrk y hy).fr f n7 (fun _ e => e)
    mrv := fun y hy => (h.mrv y hy).fr f n7 (fun _ e => e)
    rs := h.rs
    rl := h.rl
    rt := h.rt
    rk := h.rk
    rv := h.rv
    rh := h.rh
    rc := fun k hk => by
      have hk' : k < dvs.length := by simpa using hk
      rw [List.getElem_set]
      by_cases e : i = k
      · rw [if_pos e, hcb, ← e]; exact hr
      · rw [if_neg e]; exact h.rc k hk'
    lt := fun j hj => Nat.lt_of_lt_of_le (h.lt j hj) f.size
    ge := h.ge }
/-- Who holds the stripes is written over. -/
theorem Sn.setHeld (h : Sn w B sb tb lv kv vv hv ro dvs mvs t) {w' : World} (f : Fr (fun j => j = sb) w w') (held : Nat → Int) (hp : w'.heap[sb]? = some (.cells (scnC tb held lv hv) 67)) : Sn w' B sb tb lv kv vv hv ro dvs mvs { t with held := held } := by
  have hr := h.rs
  have n7 : ∀ j, j = sb → ro j ≠ 7 := fun j e => by rw [e, hr]; decide
  exact {
    scn := hp
    row := ownsRow_fr h.row f (fun j hj e => by have := h.rl j hj; rw [e, hr] at this; omega)
    cl := fun k hk => (f.block _ (heap_lt (h.cl k hk)) (fun e2 => by have := h.rc k hk; rw [e2, hr] at this; omega)).trans (h.cl k hk)
    cls := h.cls
    ops := fun y hy => (h.ops y hy).fr f n7 (fun _ e => e)
    rpk := fun y hy => (h.rpk y hy).fr f n7 (fun _ e => e)
    rpv := fun y hy => (h.rpv y hy).fr f n7 (fun _ e => e)
    tab := h.tab.fr f (fun e => by have := h.rt; rw [e, hr] at this; omega) (fun j hj e => by have := h.rk j hj; rw [e, hr] at this; omega) (fun j hj e => by have := h.rv j hj; rw [e, hr] at this; omega)
    mom := ownsRow_fr h.mom f (fun j hj e => by have := h.rh j hj; rw [e, hr] at this; omega)
    moms := h.moms
    mrk := fun y hy => (h.mrk y hy).fr f n7 (fun _ e => e)
    mrv := fun y hy => (h.mrv y hy).fr f n7 (fun _ e => e)
    rs := h.rs
    rl := h.rl
    rt := h.rt
    rk := h.rk
    rv := h.rv
    rh := h.rh
    rc := h.rc
    lt := fun j hj => Nat.lt_of_lt_of_le (h.lt j hj) f.size
    ge := h.ge }
/-- One more moment: the row grew, then the scene's block was told of it. -/
theorem Sn.grow (h : Sn w B sb tb lv kv vv hv ro dvs mvs t) {w6 w' : World} {g6 cap6 : Nat} (x : MV) (hrow : w6.ownsRow B 44 9 (.slice (some ⟨g6, 0, none⟩) (t.ms.length + 1) cap6) (t.ms.length + 1) ((mvs.map m9).flatten ++ m9 x)) (f6 : Fr (fun j => hv.ownBlock = some j) w w6) (hat : hv.ownBlock = some g6 ∨ w.heap.size ≤ g6)
    (f : Fr (fun j => j = sb) w6 w') (hp : w'.heap[sb]? = some (.cells (scnC tb t.held lv (.slice (some ⟨g6, 0, none⟩) (t.ms.length + 1) cap6)) 67)) (h1 : Rd w ro x.kv (kCells x.m.rp.L)) (h2 : Rd w ro x.vv (vCells x.m.rp.L)) :
    Sn w' B sb tb lv kv vv (.slice (some ⟨g6, 0, none⟩) (t.ms.length + 1) cap6) (fun j => if j = g6 then 6 else ro j) dvs (mvs ++ [x]) { t with ms := t.ms ++ [x.m] } := by
  have hr := h.rs
  have fw : Fr (fun j => j = sb ∨ hv.ownBlock = some j) w w' := (f6.mono (fun _ _ e => Or.inr e)).trans ((f.mono (fun _ _ e => Or.inl e)))
  have rg : ro g6 = 6 ∨ ro g6 = 0 := by
    rcases hat with e | e
    · exact Or.inl (h.rh g6 e)
    · right
      by_cases e2 : ro g6 = 0
      · exact e2
      · have := h.lt g6 e2; omega
  have rr : ∀ j, ro j ≠ 0 → ro j ≠ 6 → (if j = g6 then 6 else ro j) = ro j := fun j h0 h6 => by
    rw [if_neg]
    intro e
    rw [e] at h0 h6
    rcases rg with e | e
    · exact h6 e
    · exact h0 e
  have hS : ∀ j, (j = sb ∨ hv.ownBlock = some j) → ro j = 1 ∨ ro j = 6 := fun j e => by
    rcases e with e | e
    · rw [e]; exact Or.inl hr
    · exact Or.inr (h.rh j e)
  have n7 : ∀ j, (j = sb ∨ hv.ownBlock = some j) → ro j ≠ 7 := fun j e => by have := hS j e; omega
  have k7 : ∀ j, ro j = 7 → (if j = g6 then 6 else ro j) = 7 := fun j e => by rw [rr j (by omega) (by omega)]; exact e
  have k0 : ∀ j, ro j ≠ 0 → (if j = g6 then 6 else ro j) ≠ 0 := fun j e => by split <;> omega
  have hg6 := World.ownsRow.lt hrow g6 rfl
  exact {
    scn := hp
    row := ownsRow_fr h.row fw (fun j hj e => by have := h.rl j hj; have := hS j e; omega)
    cl := fun k hk => (fw.block _ (heap_lt (h.cl k hk)) (fun e2 => by have := h.rc k hk; have := hS _ e2; omega)).trans (h.cl k hk)
    cls := h.cls
    ops := fun y hy => (h.ops y hy).fr fw n7 k7
    rpk := fun y hy => (h.rpk y hy).fr fw n7 k7
    rpv := fun y hy => (h.rpv y hy).fr fw n7 k7
    tab := h.tab.fr fw (fun e => by have := h.rt; have := hS _ e; omega) (fun j hj e => by have := h.rk j hj; have := hS _ e; omega) (fun j hj e => by have := h.rv j hj; have := hS _ e; omega)
    mom := by
      show w'.ownsRow B 44 9 _ (t.ms ++ [x.m]).length (((mvs ++ [x]).map m9).flatten)
      rw [List.length_append, List.map_append, List.flatten_append]
      have : ([x].map m9).flatten = m9 x := by simp
      rw [this]
      refine ownsRow_fr hrow f (fun j hj e => ?_)
      have e' : g6 = j := Option.some.inj hj
      rw [e', e, hr] at rg
      omega
    moms := by rw [List.map_append, h.moms]; rfl
    mrk := fun y hy => by
      rcases List.mem_append.1 hy with e | e
      · exact (h.mrk y e).fr fw n7 k7
      · simp at e; subst e; exact h1.fr fw n7 k7
    mrv := fun y hy => by
      rcases List.mem_append.1 hy with e | e
      · exact (h.mrv y e).fr fw n7 k7
      · simp at e; subst e; exact h2.fr fw n7 k7
    rs := by show (if sb = g6 then 6 else ro sb) = 1; rw [rr sb (by omega) (by omega)]; exact hr
    rl := fun j hj => by have e := h.rl j hj; show (if j = g6 then 6 else ro j) = 2; rw [rr j (by omega) (by omega)]; exact e
    rt := by have e := h.rt; show (if tb = g6 then 6 else ro tb) = 3; rw [rr tb (by omega) (by omega)]; exact e
    rk := fun j hj => by have e := h.rk j hj; show (if j = g6 then 6 else ro j) = 4; rw [rr j (by omega) (by omega)]; exact e
    rv := fun j hj => by have e := h.rv j hj; show (if j = g6 then 6 else ro j) = 5; rw [rr j (by omega) (by omega)]; exact e
    rh := fun j hj => by have e' : g6 = j := Option.some.inj hj; show (if j = g6 then 6 else ro j) = 6; rw [if_pos e'.symm]
    rc := fun k hk => by have e := h.rc k hk; show (if dvs[k].cb = g6 then 6 else ro dvs[k].cb) = 10 + k; rw [rr _ (by omega) (by omega)]; exact e
    lt := fun j hj => by
      split at hj
      · rename_i e; rw [e]; exact Nat.lt_of_lt_of_le hg6.2 f.size
      · exact Nat.lt_of_lt_of_le (h.lt j hj) fw.size
    ge := fun j hj => by
      split at hj
      · rename_i e; rw [e]; exact hg6.1
      · exact h.ge j hj }
/-- The roles behind a call of the table: the answer's lists are only read, the table's rows may have moved. -/
noncomputable def roT (ro : Nat → Nat) (H : Nat) (kv' vv' rk ru : Value) (j : Nat) : Nat := open Classical in
  if j < H then ro j else if kv'.ownBlock = some j then 4 else if vv'.ownBlock = some j then 5 else if rk.ownBlock = some j ∨ ru.ownBlock = some j then 7 else 0
/-- The table did a call. -/
theorem Sn.did (h : Sn w B sb tb lv kv vv hv ro dvs mvs t) {w' : World} {o : OpT} {rk ru kv' vv' : Value} (h1 : w'.ownsRow w.heap.size 3 1 rk (doR t.tab o).L.length (kCells (doR t.tab o).L)) (h2 : w'.ownsRow w.heap.size 9 1 ru (doR t.tab o).L.length (vCells (doR t.tab o).L))
    (ht : Rt w' B tb kv' vv' (doT t.tab o)) (f : Fr (fun j => j = tb ∨ kv.ownBlock = some j ∨ vv.ownBlock = some j) w w') (hk : ∀ j, kv'.ownBlock = some j → kv.ownBlock = some j ∨ w.heap.size ≤ j) (hv' : ∀ j, vv'.ownBlock = some j → vv.ownBlock = some j ∨ w.heap.size ≤ j) (ha : (doR t.tab o).L ≠ [] → ∀ j, (rk.ownBlock = some j ∨ ru.ownBlock = some j) → kv'.ownBlock ≠ some j ∧ vv'.ownBlock ≠ some j) :
    Sn w' B sb tb lv kv' vv' hv (roT ro w.heap.size kv' vv' rk ru) dvs mvs { t with tab := doT t.tab o } ∧ Rd w' (roT ro w.heap.size kv' vv' rk ru) rk (kCells (doR t.tab o).L) ∧ Rd w' (roT ro w.heap.size kv' vv' rk ru) ru (vCells (doR t.tab o).L) := by
  have low : ∀ j, ro j ≠ 0 → roT ro w.heap.size kv' vv' rk ru j = ro j := fun j hj => by unfold roT; rw [if_pos (h.lt j hj)]
  have hS : ∀ j, (j = tb ∨ kv.ownBlock = some j ∨ vv.ownBlock = some j) → ro j = 3 ∨ ro j = 4 ∨ ro j = 5 := fun j e => by
    rcases e with e | e | e
    · rw [e]; exact Or.inl h.rt
    · exact Or.inr (Or.inl (h.rk j e))
    · exact Or.inr (Or.inr (h.rv j e))
  have n7 : ∀ j, (j = tb ∨ kv.ownBlock = some j ∨ vv.ownBlock = some j) → ro j ≠ 7 := fun j e => by have := hS j e; omega
  have k7 : ∀ j, ro j = 7 → roT ro w.heap.size kv' vv' rk ru j = 7 := fun j e => by rw [low j (by omega)]; exact e
  have k0 : ∀ j, ro j ≠ 0 → roT ro w.heap.size kv' vv' rk ru j ≠ 0 := fun j e => by rw [low j e]; exact e
  have hne : ∀ j, kv'.ownBlock = some j → vv'.ownBlock ≠ some j := ht.ap
  have r4 : ∀ j, kv'.ownBlock = some j → roT ro w.heap.size kv' vv' rk ru j = 4 := fun j hj => by
    rcases hk j hj with e | e
    · have := h.rk j e; rw [low j (by omega)]; exact this
    · unfold roT; rw [if_neg (by omega), if_pos hj]
  have r5 : ∀ j, vv'.ownBlock = some j → roT ro w.heap.size kv' vv' rk ru j = 5 := fun j hj => by
    rcases hv' j hj with e | e
    · have := h.rv j e; rw [low j (by omega)]; exact this
    · unfold roT; rw [if_neg (by omega), if_neg (fun e2 => hne j e2 hj), if_pos hj]
  have r7 : (doR t.tab o).L ≠ [] → ∀ j, (rk.ownBlock = some j ∨ ru.ownBlock = some j) → roT ro w.heap.size kv' vv' rk ru j = 7 := fun hL j hj => by
    have hge : w.heap.size ≤ j := by
      rcases hj with e | e
      · exact (World.ownsRow.lt h1 j e).1
      · exact (World.ownsRow.lt h2 j e).1
    unfold roT
    rw [if_neg (by omega), if_neg (ha hL j hj).1, if_neg (ha hL j hj).2, if_pos hj]
  have rn0 : ∀ j, (rk.ownBlock = some j ∨ ru.ownBlock = some j) → roT ro w.heap.size kv' vv' rk ru j ≠ 0 := fun j hj => by
    have hge : w.heap.size ≤ j := by
      rcases hj with e | e
      · exact (World.ownsRow.lt h1 j e).1
      · exact (World.ownsRow.lt h2 j e).1
    unfold roT
    rw [if_neg (by omega), if_pos hj]
    split
    · decide
    · split <;> decide
  have lt' : ∀ j, roT ro w.heap.size kv' vv' rk ru j ≠ 0 → j < w'.heap.size ∧ B ≤ j := fun j hj => by
    unfold roT at hj
    have hB := h.Ble
    split at hj
    · exact ⟨Nat.lt_of_lt_of_le (h.lt j hj) f.size, h.ge j hj⟩
    · rename_i e1
      split at hj
      · rename_i e; exact ⟨(World.ownsRow.lt ht.ks j e).2, by omega⟩
      · split at hj
        · rename_i e; exact ⟨(World.ownsRow.lt ht.vs j e).2, by omega⟩
        · split at hj
          · rename_i e
            rcases e with e | e
            · exact ⟨(World.ownsRow.lt h1 j e).2, by omega⟩
            · exact ⟨(World.ownsRow.lt h2 j e).2, by omega⟩
          · exact absurd rfl hj
  refine ⟨?_, ⟨RowAt.own h1, fun hx j hj => r7 (fun e => hx (by rw [e]; rfl)) j (Or.inl hj), fun j hj => rn0 j (Or.inl hj)⟩, ⟨RowAt.own h2, fun hx j hj => r7 (fun e => hx (by rw [e]; rfl)) j (Or.inr hj), fun j hj => rn0 j (Or.inr hj)⟩⟩
  exact {
    scn := (f.block sb (heap_lt h.scn) (fun e => by have := h.rs; have := hS _ e; omega)).trans h.scn
    row := ownsRow_fr h.row f (fun j hj e => by have := h.rl j hj; have := hS j e; omega)
    cl := fun k hk => (f.block _ (heap_lt (h.cl k hk)) (fun e2 => by have := h.rc k hk; have := hS _ e2; omega)).trans (h.cl k hk)
    cls := h.cls
    ops := fun y hy => (h.ops y hy).fr f n7 k7
    rpk := fun y hy => (h.rpk y hy).fr f n7 k7
    rpv := fun y hy => (h.rpv y hy).fr f n7 k7
    tab := ht
    mom := ownsRow_fr h.mom f (fun j hj e => by have := h.rh j hj; have := hS j e; omega)
    moms := h.moms
    mrk := fun y hy => (h.mrk y hy).fr f n7 k7
    mrv := fun y hy => (h.mrv y hy).fr f n7 k7
    rs := by rw [low sb (by rw [h.rs]; decide)]; exact h.rs
    rl := fun j hj => by have e := h.rl j hj; rw [low j (by omega)]; exact e
    rt := by rw [low tb (by rw [h.rt]; decide)]; exact h.rt
    rk := r4
    rv := r5
    rh := fun j hj => by have e := h.rh j hj; rw [low j (by omega)]; exact e
    rc := fun k hk => by have e := h.rc k hk; rw [low _ (by omega)]; exact e
    lt := fun j hj => (lt' j hj).1
    ge := fun j hj => (lt' j hj).2 }
end
end Go.Proofs.YtngbakjalmgciaaGreat
