import Derived.Test.YtihicdbplmdjiaaGreatQPlC1
set_option linter.unusedVariables false
set_option linter.unusedSimpArgs false
namespace Go.Proofs.YtihicdbplmdjiaaGreat.Pl

/-! ### rows of k cells each -/
theorem flat_get {k : Nat} : ∀ {rows : List (List Value)}, (∀ r ∈ rows, r.length = k) → ∀ (i j : Nat) (hi : i < rows.length), j < k → rows.flatten[i * k + j]? = (rows[i])[j]?
  | r :: rs, h, 0, j, _, hj => by
    rw [List.flatten_cons, Nat.zero_mul, Nat.zero_add, List.getElem?_append_left (by rw [h r (by simp)]; exact hj)]
    rfl
  | r :: rs, h, i + 1, j, hi, hj => by
    have := flat_get (rows := rs) (fun x hx => h x (List.mem_cons_of_mem _ hx)) i j (by simpa using hi) hj
    have hr := h r (by simp)
    rw [List.flatten_cons, List.getElem?_append_right (by rw [hr, Nat.add_mul]; omega), hr, show (i + 1) * k + j - k = i * k + j by rw [Nat.add_mul]; omega]
    exact this
theorem flat_set {k : Nat} : ∀ {rows : List (List Value)}, (∀ r ∈ rows, r.length = k) → ∀ (i j : Nat) (hi : i < rows.length) (x : Value), j < k → rows.flatten.set (i * k + j) x = (rows.set i (rows[i].set j x)).flatten
  | r :: rs, h, 0, j, _, x, hj => by
    have hr := h r (by simp)
    rw [List.flatten_cons, Nat.zero_mul, Nat.zero_add, List.set_append, if_pos (by omega)]
    rfl
  | r :: rs, h, i + 1, j, hi, x, hj => by
    have := flat_set (rows := rs) (fun x hx => h x (List.mem_cons_of_mem _ hx)) i j (by simpa using hi) x hj
    have hr := h r (by simp)
    rw [List.flatten_cons, List.set_append, if_neg (by rw [hr, Nat.add_mul]; omega), hr, show (i + 1) * k + j - k = i * k + j by rw [Nat.add_mul]; omega, this]
    rfl
theorem flat_len {k : Nat} : ∀ {rows : List (List Value)}, (∀ r ∈ rows, r.length = k) → rows.flatten.length = rows.length * k
  | [], _ => by simp
  | r :: rs, h => by
    rw [List.flatten_cons, List.length_append, flat_len (fun x hx => h x (by simp [hx])), h r (by simp), List.length_cons, Nat.add_mul]; omega

/-- A block of rows. -/
structure Rows (w : World) (t : TypeId) (k cb : Nat) (rows : List (List Value)) : Prop where
  blk : w.heap[cb]? = some (.cells rows.flatten.toArray t)
  len : ∀ r ∈ rows, r.length = k
theorem Rows.cell {w : World} {t : TypeId} {k cb : Nat} {rows : List (List Value)} (h : Rows w t k cb rows) (i j : Nat) (hi : i < rows.length) (hj : j < k) : w.cell? ⟨cb, i * k + j, none⟩ = (rows[i])[j]? := by
  rw [cell_of h.blk, List.getElem?_toArray, flat_get h.len i j hi hj]
theorem Rows.frz {w : World} {t : TypeId} {k cb : Nat} {rows : List (List Value)} (h : Rows w t k cb rows) (o : Nat) : w.frozen? ⟨cb, o, none⟩ = false := frozen_of h.blk o
theorem Rows.set {w : World} {t : TypeId} {k cb : Nat} {rows : List (List Value)} (h : Rows w t k cb rows) (i j : Nat) (hi : i < rows.length) (hj : j < k) (x : Value) : Rows (w.setCell ⟨cb, i * k + j, none⟩ x) t k cb (rows.set i (rows[i].set j x)) where
  blk := by rw [set_of h.blk, setArr, flat_set h.len i j hi x hj]
  len := fun r hr => by
    rcases mem_set hr with e | rfl
    · exact h.len r e
    · rw [List.length_set]; exact h.len _ (List.getElem_mem hi)
/-- One row, written over cell by cell. -/
theorem Rows.put {w : World} {t : TypeId} {k cb : Nat} {rows : List (List Value)} {r : List Value} {i : Nat} (hi : i < rows.length) (h : Rows w t k cb (rows.set i r)) (j : Nat) (hj : j < k) (x : Value) : Rows (w.setCell ⟨cb, i * k + j, none⟩ x) t k cb (rows.set i (r.set j x)) := by
  have := h.set i j (by simpa using hi) hj x
  rw [List.set_set, List.getElem_set_self] at this
  exact this
theorem Rows.far {w : World} {t : TypeId} {k cb : Nat} {rows : List (List Value)} (h : Rows w t k cb rows) {S : Nat → Prop} {w' : World} (f : Fr S w w') (hS : ¬ S cb) : Rows w' t k cb rows := ⟨(f.block cb (heap_lt h.blk) hS).trans h.blk, h.len⟩

/-! ### calls as they lie -/
def OpsAt (w : World) (B : Nat) (v : Value) (ops : List OpT) : Prop :=
  ∃ ad cap, v = .slice ad ops.length cap ∧ ops.length ≤ cap ∧ (ops ≠ [] → ∃ g o, ad = some ⟨g, o, none⟩ ∧ g < B ∧ ∀ i (h : i < ops.length), w.cell? ⟨g, o + i * 3, none⟩ = some (vI ops[i].1) ∧ w.cell? ⟨g, o + i * 3 + 1, none⟩ = some (vI ops[i].2.1) ∧ w.cell? ⟨g, o + i * 3 + 2, none⟩ = some (.string ops[i].2.2))
theorem OpsAt.fr {w w' : World} {B : Nat} {v : Value} {ops : List OpT} (h : OpsAt w B v ops) {S : Nat → Prop} (f : Fr S w w') (hB : B ≤ w.heap.size) (hS : ∀ j, j < B → ¬ S j) : OpsAt w' B v ops := by
  obtain ⟨ad, cap, e, hc, hx⟩ := h
  refine ⟨ad, cap, e, hc, fun hne => ?_⟩
  obtain ⟨g, o, ea, hg, hcs⟩ := hx hne
  refine ⟨g, o, ea, hg, fun i hi => ?_⟩
  obtain ⟨h0, h1, h2⟩ := hcs i hi
  have hgw : g < w.heap.size := by omega
  exact ⟨(f.cell hgw (hS g hg)).trans h0, (f.cell hgw (hS g hg)).trans h1, (f.cell hgw (hS g hg)).trans h2⟩
theorem OpsAt.mono {w : World} {B B' : Nat} {v : Value} {ops : List OpT} (h : OpsAt w B v ops) (hB : B ≤ B') : OpsAt w B' v ops := by
  obtain ⟨ad, cap, e, hc, hx⟩ := h
  refine ⟨ad, cap, e, hc, fun hne => ?_⟩
  obtain ⟨g, o, ea, hg, hcs⟩ := hx hne
  exact ⟨g, o, ea, by omega, hcs⟩

/-- The lists of an answer: none, or a Snapshot's. -/
def RepAt (w : World) (O : Nat → Prop) (B : Nat) (kv vv : Value) (L : List Kv) : Prop :=
  (kv = .slice none 0 0 ∧ vv = .slice none 0 0 ∧ L = []) ∨ ∃ kb vb, kv = .slice (some ⟨kb, 0, none⟩) L.length L.length ∧ vv = .slice (some ⟨vb, 0, none⟩) L.length L.length ∧ B ≤ kb ∧ B ≤ vb ∧ ¬ O kb ∧ ¬ O vb ∧ SnapAt w kb vb L
theorem RepAt.none (w : World) (O : Nat → Prop) (B : Nat) : RepAt w O B (.slice none 0 0) (.slice none 0 0) [] := Or.inl ⟨rfl, rfl, rfl⟩
theorem RepAt.keep {w w' : World} {O O' S : Nat → Prop} {B : Nat} {kv vv : Value} {L : List Kv} (h : RepAt w O B kv vv L) (f : Fr S w w') (hS : ∀ j, j < w.heap.size → S j → O j) (hO : ∀ j, j < w.heap.size → O' j → O j) : RepAt w' O' B kv vv L := by
  rcases h with h | ⟨kb, vb, e1, e2, b1, b2, n1, n2, hs⟩
  · exact Or.inl h
  · have l1 := heap_lt hs.ks
    have l2 := heap_lt hs.vs
    exact Or.inr ⟨kb, vb, e1, e2, b1, b2, fun h => n1 (hO kb l1 h), fun h => n2 (hO vb l2 h), ⟨(f.block kb l1 (fun h => n1 (hS kb l1 h))).trans hs.ks, (f.block vb l2 (fun h => n2 (hS vb l2 h))).trans hs.vs, hs.ne⟩⟩

/-! ### a play in memory -/
structure CV where
  cv : Value
  kv : Value
  vv : Value
  c : Cl
def cl7 (x : CV) : List Value := [x.cv, vI x.c.st, vI x.c.lk, .bool x.c.rp.ok, .string x.c.rp.val, x.kv, x.vv]
structure MV where
  kv : Value
  vv : Value
  m : MomT
def m9 (x : MV) : List Value := [vI x.m.c, .bool x.m.beg, vI x.m.op.1, vI x.m.op.2.1, .string x.m.op.2.2, .bool x.m.rp.ok, .string x.m.rp.val, x.kv, x.vv]
def playC (tb : Nat) (lkd : Nat → Bool) (cb n : Nat) (last : Int) (mv : Value) : Array Value :=
  #[.pointer (some ⟨tb, 0, none⟩), .bool (lkd 0), .bool (lkd 1), .bool (lkd 2), .bool (lkd 3), .bool (lkd 4), .bool (lkd 5), .bool (lkd 6), .bool (lkd 7), .slice (some ⟨cb, 0, none⟩) n n, vI last, mv]
/-- Whose blocks they are. -/
def Own (pb cb : Nat) (g : Gh) (mv : Value) (E : Nat → Prop) (j : Nat) : Prop := j = pb ∨ j = cb ∨ g.own j ≠ 0 ∨ mv.ownBlock = some j ∨ E j

structure Pl (w : World) (B pb cb tb : Nat) (g : Gh) (N : Nat) (a : Ab) (mv : Value) (cvs : List CV) (mvs : List MV) (s : St) (E : Nat → Prop) : Prop where
  play : w.heap[pb]? = some (.cells (playC tb s.lkd cb s.cls.length s.last mv) 52)
  rows : Rows w 76 7 cb (cvs.map cl7)
  cls : cvs.map CV.c = s.cls
  ops : ∀ x ∈ cvs, OpsAt w B x.cv x.c.ops
  reps : ∀ x ∈ cvs, RepAt w (Own pb cb g mv E) B x.kv x.vv x.c.rp.L
  tab : Tb w tb g N a
  snap : Snap a s.tab
  mom : w.ownsRow B 41 9 mv s.ms.length ((mvs.map m9).flatten)
  moms : mvs.map MV.m = s.ms
  mreps : ∀ x ∈ mvs, RepAt w (Own pb cb g mv E) B x.kv x.vv x.m.rp.L
  ne : pb ≠ cb
  gp : g.own pb = 0
  gc : g.own cb = 0
  bp : B ≤ pb
  bc : B ≤ cb
  bg : ∀ j, g.own j ≠ 0 → B ≤ j
  mp : mv.ownBlock ≠ some pb
  mc : mv.ownBlock ≠ some cb
  mg : ∀ j, mv.ownBlock = some j → g.own j = 0
  ep : ¬ E pb
  ec : ¬ E cb
  eg : ∀ j, E j → g.own j = 0
  em : ∀ j, E j → mv.ownBlock ≠ some j
  eb : ∀ j, E j → B ≤ j
  el : ∀ j, E j → j < w.heap.size

section
variable {w : World} {B pb cb tb : Nat} {g : Gh} {N : Nat} {a : Ab} {mv : Value} {cvs : List CV} {mvs : List MV} {s : St} {E : Nat → Prop}
theorem Pl.len (h : Pl w B pb cb tb g N a mv cvs mvs s E) : cvs.length = s.cls.length := by rw [← h.cls]; simp
theorem Pl.Ble (h : Pl w B pb cb tb g N a mv cvs mvs s E) : B ≤ w.heap.size := by have := heap_lt h.play; have := h.bp; omega
theorem Pl.ownB (h : Pl w B pb cb tb g N a mv cvs mvs s E) {j : Nat} (hj : Own pb cb g mv E j) : B ≤ j := by
  rcases hj with rfl | rfl | hj | hj | hj
  · exact h.bp
  · exact h.bc
  · exact h.bg j hj
  · exact (World.ownsRow.lt h.mom j hj).1
  · exact h.eb j hj
theorem Pl.ownlt (h : Pl w B pb cb tb g N a mv cvs mvs s E) {j : Nat} (hj : Own pb cb g mv E j) : j < w.heap.size := by
  rcases hj with rfl | rfl | hj | hj | hj
  · exact heap_lt h.play
  · exact heap_lt h.rows.blk
  · exact h.tab.lt j hj
  · exact (World.ownsRow.lt h.mom j hj).2
  · exact h.el j hj

/-- Nothing of it has turned, but what E tells. -/
theorem Pl.fr (h : Pl w B pb cb tb g N a mv cvs mvs s E) {S E' : Nat → Prop} {w' : World} (f : Fr S w w') (hS : ∀ j, S j → w.heap.size ≤ j ∨ E j) (hE : ∀ j, E' j → (w.heap.size ≤ j ∨ E j) ∧ j < w'.heap.size) : Pl w' B pb cb tb g N a mv cvs mvs s E' := by
  have hO : ∀ j, j < w.heap.size → Own pb cb g mv E' j → Own pb cb g mv E j := fun j hj e => by
    rcases e with e | e | e | e | e
    · exact Or.inl e
    · exact Or.inr (Or.inl e)
    · exact Or.inr (Or.inr (Or.inl e))
    · exact Or.inr (Or.inr (Or.inr (Or.inl e)))
    · rcases (hE j e).1 with e2 | e2
      · omega
      · exact Or.inr (Or.inr (Or.inr (Or.inr e2)))
  have hSO : ∀ j, j < w.heap.size → S j → Own pb cb g mv E j := fun j hj e => by
    rcases hS j e with e2 | e2
    · omega
    · exact Or.inr (Or.inr (Or.inr (Or.inr e2)))
  have nS : ∀ j, j < w.heap.size → ¬ E j → ¬ S j := fun j hj hn e => by
    rcases hS j e with e2 | e2
    · omega
    · exact hn e2
  have hpl := heap_lt h.play
  have hcl := heap_lt h.rows.blk
  exact {
    play := (f.block pb hpl (nS pb hpl h.ep)).trans h.play
    rows := h.rows.far f (nS cb hcl h.ec)
    cls := h.cls
    ops := fun x hx => (h.ops x hx).fr f h.Ble (fun j hj e => by have hb := h.Ble; rcases hS j e with e2 | e2; omega; have := h.eb j e2; omega)
    reps := fun x hx => (h.reps x hx).keep f hSO hO
    tab := h.tab.fr f (fun j hj => nS j (h.tab.lt j hj) (fun e => hj (h.eg j e)))
    snap := h.snap
    mom := ownsRow_fr h.mom f (fun j hj => nS j (World.ownsRow.lt h.mom j hj).2 (fun e => h.em j e hj))
    moms := h.moms
    mreps := fun x hx => (h.mreps x hx).keep f hSO hO
    ne := h.ne
    gp := h.gp
    gc := h.gc
    bp := h.bp
    bc := h.bc
    bg := h.bg
    mp := h.mp
    mc := h.mc
    mg := h.mg
    ep := fun e => by rcases (hE pb e).1 with e2 | e2; omega; exact h.ep e2
    ec := fun e => by rcases (hE cb e).1 with e2 | e2; omega; exact h.ec e2
    eg := fun j e => by
      rcases (hE j e).1 with e2 | e2
      · by_cases e3 : g.own j = 0
        · exact e3
        · have := h.tab.lt j e3; omega
      · exact h.eg j e2
    em := fun j e e4 => by
      rcases (hE j e).1 with e2 | e2
      · have := (World.ownsRow.lt h.mom j e4).2; omega
      · exact h.em j e2 e4
    eb := fun j e => by
      rcases (hE j e).1 with e2 | e2
      · have := h.Ble; omega
      · exact h.eb j e2
    el := fun j e => (hE j e).2 }
theorem Pl.fr0 (h : Pl w B pb cb tb g N a mv cvs mvs s E) {w' : World} (f : Fr (fun _ => False) w w') : Pl w' B pb cb tb g N a mv cvs mvs s E := h.fr f (fun _ h => h.elim) (fun j e => ⟨Or.inr e, Nat.lt_of_lt_of_le (h.el j e) f.size⟩)
theorem Pl.drew (h : Pl w B pb cb tb g N a mv cvs mvs s E) : Pl w.drew B pb cb tb g N a mv cvs mvs s E := h.fr0 (Fr.drew (Fr.refl _ w))
theorem Pl.alloc (h : Pl w B pb cb tb g N a mv cvs mvs s E) (o : Obj) : Pl (w.alloc o) B pb cb tb g N a mv cvs mvs s E := h.fr0 (Fr.alloc (Fr.refl _ w) o)

/-- The play's own block written over. -/
theorem Pl.setPlay (h : Pl w B pb cb tb g N a mv cvs mvs s E) {w' : World} (f : Fr (fun j => j = pb) w w') (s' : St) (hp : w'.heap[pb]? = some (.cells (playC tb s'.lkd cb s.cls.length s'.last mv) 52)) (e1 : s'.cls = s.cls) (e2 : s'.tab = s.tab) (e3 : s'.ms = s.ms) : Pl w' B pb cb tb g N a mv cvs mvs s' E where
  play := by rw [e1]; exact hp
  rows := h.rows.far f (fun e => h.ne e.symm)
  cls := by rw [e1]; exact h.cls
  ops := fun x hx => (h.ops x hx).fr f h.Ble (fun j hj e => by have := h.bp; omega)
  reps := fun x hx => (h.reps x hx).keep f (fun j _ e => Or.inl e) (fun j _ e => e)
  tab := h.tab.fr f (fun j hj e => by rw [e] at hj; exact hj h.gp)
  snap := by rw [e2]; exact h.snap
  mom := by rw [e3]; exact ownsRow_fr h.mom f (fun j hj e => by rw [e] at hj; exact h.mp hj)
  moms := by rw [e3]; exact h.moms
  mreps := fun x hx => (h.mreps x hx).keep f (fun j _ e => Or.inl e) (fun j _ e => e)
  ne := h.ne
  gp := h.gp
  gc := h.gc
  bp := h.bp
  bc := h.bc
  bg := h.bg
  mp := h.mp
  mc := h.mc
  mg := h.mg
  ep := h.ep
  ec := h.ec
  eg := h.eg
  em := h.em
  eb := h.eb
  el := fun j e => Nat.lt_of_lt_of_le (h.el j e) f.size

/-- One client's row written over. -/
theorem Pl.setCl (h : Pl w B pb cb tb g N a mv cvs mvs s E) {w' : World} (f : Fr (fun j => j = cb) w w') (i : Nat) (x : CV) (hr : Rows w' 76 7 cb ((cvs.map cl7).set i (cl7 x))) (ho : OpsAt w B x.cv x.c.ops) (hrp : RepAt w (Own pb cb g mv E) B x.kv x.vv x.c.rp.L) : Pl w' B pb cb tb g N a mv (cvs.set i x) mvs { s with cls := s.cls.set i x.c } E where
  play := by
    show w'.heap[pb]? = some (Obj.cells (playC tb s.lkd cb (s.cls.set i x.c).length s.last mv) 52)
    rw [List.length_set]
    exact (f.block pb (heap_lt h.play) h.ne).trans h.play
  rows := by rw [List.map_set]; exact hr
  cls := by rw [List.map_set, h.cls]
  ops := fun y hy => by
    rcases mem_set hy with e | rfl
    · exact (h.ops y e).fr f h.Ble (fun j hj e => by have := h.bc; omega)
    · exact ho.fr f h.Ble (fun j hj e => by have := h.bc; omega)
  reps := fun y hy => by
    rcases mem_set hy with e | rfl
    · exact (h.reps y e).keep f (fun j _ e => Or.inr (Or.inl e)) (fun j _ e => e)
    · exact hrp.keep f (fun j _ e => Or.inr (Or.inl e)) (fun j _ e => e)
  tab := h.tab.fr f (fun j hj e => by rw [e] at hj; exact hj h.gc)
  snap := h.snap
  mom := ownsRow_fr h.mom f (fun j hj e => by rw [e] at hj; exact h.mc hj)
  moms := h.moms
  mreps := fun y hy => (h.mreps y hy).keep f (fun j _ e => Or.inr (Or.inl e)) (fun j _ e => e)
  ne := h.ne
  gp := h.gp
  gc := h.gc
  bp := h.bp
  bc := h.bc
  bg := h.bg
  mp := h.mp
  mc := h.mc
  mg := h.mg
  ep := h.ep
  ec := h.ec
  eg := h.eg
  em := h.em
  eb := h.eb
  el := fun j e => Nat.lt_of_lt_of_le (h.el j e) f.size

/-- The table has turned. -/
theorem Pl.setTab (h : Pl w B pb cb tb g N a mv cvs mvs s E) {w' : World} {g' : Gh} {N' : Nat} {a' : Ab} (f : Fr (fun j => g.own j ≠ 0) w w') (hg : ∀ j, j < w.heap.size → g'.own j = g.own j) (ht : Tb w' tb g' N' a') (t' : List Kv) (hs : Snap a' t') : Pl w' B pb cb tb g' N' a' mv cvs mvs { s with tab := t' } E := by
  have hO : ∀ j, j < w.heap.size → Own pb cb g' mv E j → Own pb cb g mv E j := fun j hj e => by
    rcases e with e | e | e | e
    · exact Or.inl e
    · exact Or.inr (Or.inl e)
    · exact Or.inr (Or.inr (Or.inl (by rw [← hg j hj]; exact e)))
    · exact Or.inr (Or.inr (Or.inr e))
  exact {
    play := (f.block pb (heap_lt h.play) (fun e => e h.gp)).trans h.play
    rows := h.rows.far f (fun e => e h.gc)
    cls := h.cls
    ops := fun y hy => (h.ops y hy).fr f h.Ble (fun j hj e => by have := h.bg j e; omega)
    reps := fun y hy => (h.reps y hy).keep f (fun j _ e => Or.inr (Or.inr (Or.inl e))) hO
    tab := ht
    snap := hs
    mom := ownsRow_fr h.mom f (fun j hj e => e (h.mg j hj))
    moms := h.moms
    mreps := fun y hy => (h.mreps y hy).keep f (fun j _ e => Or.inr (Or.inr (Or.inl e))) hO
    ne := h.ne
    gp := by rw [hg pb (heap_lt h.play)]; exact h.gp
    gc := by rw [hg cb (heap_lt h.rows.blk)]; exact h.gc
    bp := h.bp
    bc := h.bc
    bg := fun j hj => by
      rcases Nat.lt_or_ge j w.heap.size with e | e
      · rw [hg j e] at hj; exact h.bg j hj
      · have := h.Ble; omega
    mp := h.mp
    mc := h.mc
    mg := fun j hj => by rw [hg j (World.ownsRow.lt h.mom j hj).2]; exact h.mg j hj
    ep := h.ep
    ec := h.ec
    eg := fun j e => by rw [hg j (h.el j e)]; exact h.eg j e
    em := h.em
    eb := h.eb
    el := fun j e => Nat.lt_of_lt_of_le (h.el j e) f.size }

/-- One more moment: the row grew, then the play's block was told of it. -/
theorem Pl.grow (h : Pl w B pb cb tb g N a mv cvs mvs s E) {w6 w' : World} {g6 cap6 : Nat} (x : MV) (hrow : w6.ownsRow B 41 9 (.slice (some ⟨g6, 0, none⟩) (s.ms.length + 1) cap6) (s.ms.length + 1) ((mvs.map m9).flatten ++ m9 x)) (f6 : Fr (fun j => mv.ownBlock = some j) w w6) (hat : mv.ownBlock = some g6 ∨ w.heap.size ≤ g6)
    (f : Fr (fun j => j = pb) w6 w') (hp : w'.heap[pb]? = some (.cells (playC tb s.lkd cb s.cls.length s.last (.slice (some ⟨g6, 0, none⟩) (s.ms.length + 1) cap6)) 52)) (hrp : RepAt w (Own pb cb g mv E) B x.kv x.vv x.m.rp.L) :
    Pl w' B pb cb tb g N a (.slice (some ⟨g6, 0, none⟩) (s.ms.length + 1) cap6) cvs (mvs ++ [x]) { s with ms := s.ms ++ [x.m] } E := by
  have hO : ∀ j, j < w.heap.size → Own pb cb g (.slice (some ⟨g6, 0, none⟩) (s.ms.length + 1) cap6) E j → Own pb cb g mv E j := fun j hj e => by
    rcases e with e | e | e | e | e
    · exact Or.inl e
    · exact Or.inr (Or.inl e)
    · exact Or.inr (Or.inr (Or.inl e))
    · have e' : g6 = j := Option.some.inj e
      rcases hat with h1 | h1
      · exact Or.inr (Or.inr (Or.inr (Or.inl (by rw [h1, e']))))
      · omega
    · exact Or.inr (Or.inr (Or.inr (Or.inr e)))
  have fw : Fr (fun j => j = pb ∨ mv.ownBlock = some j) w w' := (f6.mono (fun _ _ e => Or.inr e)).trans ((f.mono (fun _ _ e => Or.inl e)))
  have hS : ∀ j, j < w.heap.size → (j = pb ∨ mv.ownBlock = some j) → Own pb cb g mv E j := fun j _ e => by
    rcases e with e | e
    · exact Or.inl e
    · exact Or.inr (Or.inr (Or.inr (Or.inl e)))
  have hpl := heap_lt h.play
  have hg6p : g6 ≠ pb := by rcases hat with h1 | h1; exact fun e => h.mp (by rw [h1, e]); omega
  have hg6c : g6 ≠ cb := by have := heap_lt h.rows.blk; rcases hat with h1 | h1; exact fun e => h.mc (by rw [h1, e]); omega
  exact {
    play := hp
    rows := h.rows.far fw (fun e => by rcases e with e | e; exact h.ne e.symm; exact h.mc e)
    cls := h.cls
    ops := fun y hy => (h.ops y hy).fr fw h.Ble (fun j hj e => by have := h.ownB (hS j (by have := h.Ble; omega) e); omega)
    reps := fun y hy => (h.reps y hy).keep fw hS hO
    tab := h.tab.fr fw (fun j hj e => by rcases e with e | e; rw [e] at hj; exact hj h.gp; exact hj (h.mg j e))
    snap := h.snap
    mom := by
      show w'.ownsRow B 41 9 _ (s.ms ++ [x.m]).length (((mvs ++ [x]).map m9).flatten)
      rw [List.length_append, List.map_append, List.flatten_append]
      have : ([x].map m9).flatten = m9 x := by simp
      rw [this]
      exact ownsRow_fr hrow f (fun j hj e => by have e' : g6 = j := Option.some.inj hj; omega)
    moms := by rw [List.map_append, h.moms]; rfl
    mreps := fun y hy => by
      rcases List.mem_append.1 hy with e | e
      · exact (h.mreps y e).keep fw hS hO
      · simp at e; subst e; exact hrp.keep fw hS hO
    ne := h.ne
    gp := h.gp
    gc := h.gc
    bp := h.bp
    bc := h.bc
    bg := h.bg
    mp := fun e => hg6p (Option.some.inj e)
    mc := fun e => hg6c (Option.some.inj e)
    mg := fun j hj => by
      have e' : g6 = j := Option.some.inj hj
      rcases hat with h1 | h1
      · exact h.mg j (by rw [h1, e'])
      · by_cases e : g.own j = 0
        · exact e
        · have := h.tab.lt j e; omega
    ep := h.ep
    ec := h.ec
    eg := h.eg
    em := fun j e e4 => by
      have e' : g6 = j := Option.some.inj e4
      rcases hat with h1 | h1
      · exact h.em j e (by rw [h1, e'])
      · have := h.el j e; omega
    eb := h.eb
    el := fun j e => Nat.lt_of_lt_of_le (h.el j e) fw.size }
end
end Go.Proofs.YtihicdbplmdjiaaGreat.Pl
