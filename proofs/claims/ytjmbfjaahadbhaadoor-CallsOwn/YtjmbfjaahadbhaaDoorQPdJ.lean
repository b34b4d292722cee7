import Derived.Test.YtjmbfjaahadbhaaDoorQPaJ
import Derived.Test.YtjmbfjaahadbhaaDoorQRaJ
import Derived.BigRegion
set_option linter.unusedVariables false
set_option linter.unusedSimpArgs false
namespace Go.Proofs.YtjmbfjaahadbhaaDoor

/-! ### the graph of the components, in plain lists -/
/-- A component's functions. -/
def memX (N : Nat) (of : Nat → Nat) (c : Nat) : List Nat := (List.range N).filter (fun f => of f == c)
/-- Does a function of c call one of d? -/
def hitX (N : Nat) (of : Nat → Nat) (cl : Nat → List Nat) (c d : Nat) : Bool := (memX N of c).any (fun f => (cl f).any (fun g => of g == d))
def clrX (N n : Nat) (of : Nat → Nat) (cl : Nat → List Nat) (d : Nat) : List Nat := (List.range n).filter (fun c => c != d && hitX N of cl c d)
def cleX (N n : Nat) (of : Nat → Nat) (cl : Nat → List Nat) (c : Nat) : List Nat := (List.range n).filter (fun d => c != d && hitX N of cl c d)
section
variable {N n : Nat} {of : Nat → Nat} {cl : Nat → List Nat}
theorem mem_memX {c f : Nat} : f ∈ memX N of c ↔ f < N ∧ of f = c := by unfold memX; rw [List.mem_filter, List.mem_range]; simp
theorem memX_next (f c : Nat) : memX (f + 1) of c = if of f = c then memX f of c ++ [f] else memX f of c := by
  unfold memX
  rw [List.range_succ, List.filter_append]
  by_cases e : of f = c
  · rw [if_pos e]; simp [e]
  · rw [if_neg e]; simp [e]
theorem memX_rise (c : Nat) : (memX N of c).Pairwise (· < ·) := List.Pairwise.filter _ List.pairwise_lt_range
theorem hitX_iff {c d : Nat} : hitX N of cl c d = true ↔ ∃ f, f < N ∧ of f = c ∧ ∃ g ∈ cl f, of g = d := by
  unfold hitX
  rw [List.any_eq_true]
  constructor
  · rintro ⟨f, h1, h2⟩
    rw [mem_memX] at h1
    rw [List.any_eq_true] at h2
    obtain ⟨g, g1, g2⟩ := h2
    exact ⟨f, h1.1, h1.2, g, g1, by simpa using g2⟩
  · rintro ⟨f, h1, h2, g, h3, h4⟩
    exact ⟨f, mem_memX.2 ⟨h1, h2⟩, List.any_eq_true.2 ⟨g, h3, by simp [h4]⟩⟩
theorem mem_clrX {c d : Nat} : c ∈ clrX N n of cl d ↔ c < n ∧ c ≠ d ∧ hitX N of cl c d = true := by unfold clrX; rw [List.mem_filter, List.mem_range]; simp
theorem mem_cleX {c d : Nat} : d ∈ cleX N n of cl c ↔ d < n ∧ c ≠ d ∧ hitX N of cl c d = true := by unfold cleX; rw [List.mem_filter, List.mem_range]; simp
theorem clrX_rise (c : Nat) : (clrX N n of cl c).Pairwise (· < ·) := List.Pairwise.filter _ List.pairwise_lt_range
theorem cleX_rise (c : Nat) : (cleX N n of cl c).Pairwise (· < ·) := List.Pairwise.filter _ List.pairwise_lt_range
theorem rise_nodup {l : List Nat} (h : l.Pairwise (· < ·)) : l.Nodup := h.imp (fun h => Nat.ne_of_lt h)
/-- The callers as far as they are told: all of the components ahead of c, and c, where h says so. -/
def cP (N : Nat) (of : Nat → Nat) (cl : Nat → List Nat) (c : Nat) (h : Nat → Bool) (d : Nat) : List Nat := clrX N c of cl d ++ if c != d && h d then [c] else []
theorem cP_first (c : Nat) : cP N of cl c (fun _ => false) = clrX N c of cl := by
  funext d; unfold cP; simp
theorem cP_last (c : Nat) : cP N of cl c (fun d => hitX N of cl c d) = clrX N (c + 1) of cl := by
  funext d
  unfold cP clrX
  rw [List.range_succ, List.filter_append]
  congr 1
  by_cases e : (c != d && hitX N of cl c d) = true
  · rw [if_pos e]; simp [e]
  · rw [if_neg e]; simp at e; simp; exact e
/-- One more call of c's: of d0. -/
theorem cP_step (c d0 : Nat) (h : Nat → Bool) : cP N of cl c (fun d => h d || d0 == d) = Wg.upd (cP N of cl c h) d0 (if c = d0 ∨ h d0 = true then cP N of cl c h d0 else cP N of cl c h d0 ++ [c]) := by
  funext d
  by_cases e : d = d0
  · subst e
    rw [Wg.upd_same]
    unfold cP
    by_cases e1 : c = d
    · simp [e1]
    · by_cases e2 : h d = true
      · simp [e2]
      · simp [e1, e2]
  · rw [Wg.upd_ne _ _ e]
    unfold cP
    have : (d0 == d) = false := by simp; exact fun x => e x.symm
    simp [this]
/-- What addCaller looks at. -/
theorem cP_test (c d0 : Nat) (h : Nat → Bool) (hc : c ≠ d0) : (∃ l, cP N of cl c h d0 = l ++ [c]) ↔ h d0 = true := by
  unfold cP
  constructor
  · rintro ⟨l, e⟩
    by_cases e2 : h d0 = true
    · exact e2
    · exfalso
      have e3 : h d0 = false := by simpa using e2
      rw [e3] at e
      simp at e
      have : c ∈ clrX N c of cl d0 := by rw [e]; simp
      have := (mem_clrX.1 this).1
      omega
  · intro e
    refine ⟨clrX N c of cl d0, ?_⟩
    simp [e, hc]
/-- The callees as far as they are told: of all ahead of d, and d, where P says so. -/
def eP (N : Nat) (of : Nat → Nat) (cl : Nat → List Nat) (d : Nat) (P : List Nat) (c : Nat) : List Nat := cleX N d of cl c ++ if c ∈ P then [d] else []
theorem eP_first (d : Nat) : eP N of cl d [] = cleX N d of cl := by funext c; unfold eP; simp
theorem eP_last {d c : Nat} (hc : c < n) : eP N of cl d (clrX N n of cl d) c = cleX N (d + 1) of cl c := by
  unfold eP cleX
  rw [List.range_succ, List.filter_append]
  congr 1
  by_cases e : (c != d && hitX N of cl c d) = true
  · rw [if_pos (mem_clrX.2 ⟨hc, by simpa using e⟩)]; simp [e]
  · rw [if_neg (fun x => e (by have := mem_clrX.1 x; simpa using this.2))]; simp at e; simp; exact e
theorem eP_step {d c : Nat} {P : List Nat} (hc : c ∉ P) : eP N of cl d (P ++ [c]) = Wg.upd (eP N of cl d P) c (eP N of cl d P c ++ [d]) := by
  funext x
  by_cases e : x = c
  · subst e
    rw [Wg.upd_same]
    unfold eP
    simp [hc]
  · rw [Wg.upd_ne _ _ e]
    unfold eP
    simp [e]
end
/-- A component's lowest function. -/
def lwX (N : Nat) (of : Nat → Nat) (c : Nat) : Nat := (memX N of c).headD 0
/-- What is known of components: they are the rings, callees have lower numbers. -/
structure Rg (N : Nat) (cl : Nat → List Nat) (n : Nat) (of : Nat → Nat) : Prop where
  lt : ∀ x, x < N → of x < n
  on : ∀ c, c < n → ∃ x, x < N ∧ of x = c
  eq : ∀ x y, x < N → y < N → (of x = of y ↔ Rch cl x y ∧ Rch cl y x)
  dn : ∀ x y, x < N → y < N → Rch cl x y → of y ≤ of x
section
variable {N n : Nat} {of : Nat → Nat} {cl : Nat → List Nat}
theorem Rg.low (h : Rg N cl n of) {c : Nat} (hc : c < n) : ∃ r, memX N of c = lwX N of c :: r ∧ lwX N of c < N ∧ of (lwX N of c) = c := by
  obtain ⟨x, x1, x2⟩ := h.on c hc
  have hm : x ∈ memX N of c := mem_memX.2 ⟨x1, x2⟩
  cases e : memX N of c with
  | nil => rw [e] at hm; cases hm
  | cons y r =>
    have hl : lwX N of c = y := by unfold lwX; rw [e]; rfl
    have : y ∈ memX N of c := by rw [e]; simp
    rw [hl]
    exact ⟨r, rfl, mem_memX.1 this⟩
theorem Rg.graph (h : Rg N cl n of) (hcl : ∀ x, x < N → ∀ z ∈ cl x, z < N) : NG n (lwX N of) (cleX N n of cl) (clrX N n of cl) := by
  refine ⟨fun c hc d hd => ?_, fun c _ => rise_nodup (cleX_rise c), fun c _ => rise_nodup (clrX_rise c), fun c d hc hd => ?_, fun d _ c hc => (mem_clrX.1 hc).1, fun c d hc hd e => ?_⟩
  · obtain ⟨d1, d2, d3⟩ := mem_cleX.1 hd
    obtain ⟨f, f1, f2, g, g1, g2⟩ := hitX_iff.1 d3
    have := h.dn f g f1 (hcl f f1 g g1) (.step (.refl f) g1)
    omega
  · rw [mem_clrX, mem_cleX]
    simp [hc, hd]
  · obtain ⟨-, -, -, k1⟩ := h.low hc
    obtain ⟨-, -, -, k2⟩ := h.low hd
    rw [← k1, ← k2, e]
/-- What New tells: the rings, numbered so that of those that could be numbered the one with the lowest function came first. -/
structure Gp (N : Nat) (cl : Nat → List Nat) (n : Nat) (of : Nat → Nat) : Prop extends Rg N cl n of where
  mn : ∀ c d, c < d → d < n → (∀ e ∈ cleX N n of cl d, e < c) → lwX N of c ≤ lwX N of d
theorem Rg.numbered (h : Rg N cl n of) (hcl : ∀ x, x < N → ∀ z ∈ cl x, z < N) {dn : List Nat} {number : Nat → Nat} {waits : Nat → Int} (hn : NI n (lwX N of) (cleX N n of cl) dn number waits []) : Gp N cl n (fun x => number (of x)) := by
  have hg := h.graph hcl
  obtain ⟨n1, n2, n3, n4, n5⟩ := hn.told hg
  have hmem : ∀ c, c < n → memX N (fun x => number (of x)) (number c) = memX N of c := fun c hc => by
    unfold memX
    apply List.filter_congr
    intro x hx
    rw [List.mem_range] at hx
    rw [Bool.eq_iff_iff]
    simp only [beq_iff_eq]
    exact ⟨fun e => n2 _ _ (h.lt x hx) hc e, fun e => by rw [e]⟩
  refine { lt := fun x hx => n1 _ (h.lt x hx), on := fun c hc => ?_, eq := fun x y hx hy => ?_, dn := fun x y hx hy hr => ?_, mn := fun c d hcd hd hall => ?_ }
  · obtain ⟨c0, h1, h2⟩ := n3 c hc
    obtain ⟨x, x1, x2⟩ := h.on c0 h1
    exact ⟨x, x1, by rw [x2, h2]⟩
  · rw [← h.eq x y hx hy]
    exact ⟨fun e => n2 _ _ (h.lt x hx) (h.lt y hy) e, fun e => by rw [e]⟩
  · have key : ∀ x y, x < N → Rch cl x y → y < N ∧ number (of y) ≤ number (of x) := by
      intro x y hx k
      induction k with
      | refl => exact ⟨hx, Nat.le_refl _⟩
      | @step y z _ m ih =>
        have hz := hcl y ih.1 z m
        refine ⟨hz, ?_⟩
        by_cases e : of y = of z
        · rw [← e]; exact ih.2
        · have := n4 (of y) (h.lt y ih.1) (of z) (mem_cleX.2 ⟨h.lt z hz, e, hitX_iff.2 ⟨y, ih.1, rfl, z, m, rfl⟩⟩)
          have := ih.2
          omega
    exact (key x y hx hr).2
  · obtain ⟨c0, c1, c2⟩ := n3 c (by omega)
    obtain ⟨d0, d1, d2⟩ := n3 d hd
    subst c2 d2
    have e1 : lwX N (fun x => number (of x)) (number c0) = lwX N of c0 := by unfold lwX; rw [hmem c0 c1]
    have e2 : lwX N (fun x => number (of x)) (number d0) = lwX N of d0 := by unfold lwX; rw [hmem d0 d1]
    rw [e1, e2]
    refine n5 c0 d0 c1 d1 (by omega) (fun e he => ?_)
    obtain ⟨e3, e4, e5⟩ := mem_cleX.1 he
    refine hall _ (mem_cleX.2 ⟨n1 e e3, fun x => e4 (n2 _ _ d1 e3 x), ?_⟩)
    obtain ⟨f, f1, f2, g, g1, g2⟩ := hitX_iff.1 e5
    exact hitX_iff.2 ⟨f, f1, by rw [f2], g, g1, by rw [g2]⟩
/-- Out of the search. -/
theorem TI.rg {ofi : Nat → Int} {met low nxt : Nat → Nat} {opn : List Nat} {count steps : Nat} (h : TI N cl ofi met low nxt [] opn count steps) (hm : ∀ x, x < N → met x ≠ 0) : Rg N cl count (fun x => (ofi x).toNat) := by
  refine ⟨fun x hx => ?_, fun c hc => ?_, fun x y hx hy => ?_, fun x y hx hy hr => ?_⟩
  · have := (h.rings hm x x hx hx).1
    show (ofi x).toNat < count
    omega
  · obtain ⟨x, e⟩ := h.cs c hc
    refine ⟨x, h.mN x (h.cm x (by omega)).1, ?_⟩
    show (ofi x).toNat = c
    omega
  · obtain ⟨k1, -, k3⟩ := h.rings hm x y hx hy
    have k2 := (h.rings hm y y hy hy).1
    rw [← k3]
    show (ofi x).toNat = (ofi y).toNat ↔ _
    omega
  · obtain ⟨k1, k2, -⟩ := h.rings hm x y hx hy
    have k4 := (h.rings hm y y hy hy).1
    have := k2 hr
    show (ofi y).toNat ≤ (ofi x).toNat
    omega
end
end Go.Proofs.YtjmbfjaahadbhaaDoor
namespace Go.Proofs.YtjmbfjaahadbhaaDoor
open Go.RowKit (wrap32 wrap64)

/-! ### the search and what holds of it -/
/-- Numbers that lie below a block's number. -/
def IB (n0 : Nat) (w : World) (v : Value) (l : List Int) : Prop :=
  ∃ a c, v = .slice a l.length c ∧ (l ≠ [] → ∃ k o, a = some ⟨k, o, none⟩ ∧ k < n0 ∧ ∀ i (h : i < l.length), w.cell? ⟨k, o + i, none⟩ = some (vI l[i]))
/-- Lists of numbers that lie below a block's number. -/
def LB (n0 : Nat) (w : World) (v : Value) (ls : List (List Int)) : Prop :=
  ∃ a c, v = .slice a ls.length c ∧ (ls ≠ [] → ∃ k o, a = some ⟨k, o, none⟩ ∧ k < n0 ∧ ∀ i (h : i < ls.length), ∃ u, w.cell? ⟨k, o + i, none⟩ = some u ∧ IB n0 w u ls[i])
theorem IB.fr {S : Nat → Prop} {n0 : Nat} {w w' : World} {v : Value} {l : List Int} (h : IB n0 w v l) (hn : n0 ≤ w.heap.size) (f : Fr S w w') (hS : ∀ k, k < n0 → ¬ S k) : IB n0 w' v l := by
  obtain ⟨a, c, e, h⟩ := h
  refine ⟨a, c, e, fun hne => ?_⟩
  obtain ⟨k, o, e, hk, h⟩ := h hne
  exact ⟨k, o, e, hk, fun i hi => (f.cell (by omega) (hS k hk)).trans (h i hi)⟩
theorem LB.fr {S : Nat → Prop} {n0 : Nat} {w w' : World} {v : Value} {ls : List (List Int)} (h : LB n0 w v ls) (hn : n0 ≤ w.heap.size) (f : Fr S w w') (hS : ∀ k, k < n0 → ¬ S k) : LB n0 w' v ls := by
  obtain ⟨a, c, e, h⟩ := h
  refine ⟨a, c, e, fun hne => ?_⟩
  obtain ⟨k, o, e, hk, h⟩ := h hne
  refine ⟨k, o, e, hk, fun i hi => ?_⟩
  obtain ⟨u, u1, u2⟩ := h i hi
  exact ⟨u, (f.cell (by omega) (hS k hk)).trans u1, u2.fr hn f hS⟩
/-- Numbers as the memory has them. -/
abbrev zL (l : List Nat) : List Int := l.map (fun x : Nat => (x : Int))
abbrev zF (f : Nat → Nat) : Nat → Int := fun i => (f i : Int)
/-- The lists of who calls whom, as the memory has them. -/
abbrev zLs (N : Nat) (cl : Nat → List Nat) : List (List Int) := (List.range N).map (fun f => zL (cl f))
/-- The search, and what holds of it. -/
structure Se (w : World) (B0 B b go gm gl gn N : Nat) (cl : Nat → List Nat) (clv : Value) (of : Nat → Int) (met low nxt : Nat → Nat) (path opn : List Nat) (count steps : Nat) : Prop where
  sc : ∃ pv ov, Sc w B b go gm gl gn N clv pv ov of (zF met) (zF low) (zF nxt) count steps (zL path) (zL opn)
  la : LB B0 w clv (zLs N cl)
  ti : TI N cl of met low nxt path opn count steps
  hB : B0 ≤ b ∧ B0 ≤ go ∧ B0 ≤ gm ∧ B0 ≤ gl ∧ B0 ≤ gn ∧ B0 ≤ B ∧ B ≤ w.heap.size
theorem zF_upd (f : Nat → Nat) (i x : Nat) : Wg.upd (zF f) i (x : Int) = zF (Wg.upd f i x) := by
  funext j
  unfold Wg.upd
  show _ = ((if j = i then x else f j : Nat) : Int)
  split <;> rfl
theorem zL_app (l : List Nat) (x : Nat) : zL (l ++ [x]) = zL l ++ [(x : Int)] := by simp
section
variable {w w' : World} {B b go gm gl gn N : Nat} {clv pv ov : Value} {of met low nxt : Nat → Int} {count steps : Nat} {path opn : List Int}
theorem Sc.setSteps (h : Sc w B b go gm gl gn N clv pv ov of met low nxt count steps path opn) : Sc (w.setCell ⟨b, 8, none⟩ (vI ((steps + 1 : Nat) : Int))) B b go gm gl gn N clv pv ov of met low nxt count (steps + 1) path opn := by
  have f : Fr (fun j => j = b) w (w.setCell ⟨b, 8, none⟩ (vI ((steps + 1 : Nat) : Int))) := setCell_fr w b 8 _
  obtain ⟨l0, l1, l2, l3, l4⟩ := h.lt
  exact ⟨set_of h.blk 8 _, h.rof.fr f (row3_ne h.blk h.rof), h.rme.fr f (row3_ne h.blk h.rme), h.rlo.fr f (row3_ne h.blk h.rlo), h.rnx.fr f (row3_ne h.blk h.rnx), h.rp.fr f (fun k e e2 => by have := (h.rp.ge k e).1; omega), h.ro.fr f (fun k e e2 => by have := (h.ro.ge k e).1; omega), h.lt, h.ne, h.ap⟩
theorem Sc.setMet (h : Sc w B b go gm gl gn N clv pv ov of met low nxt count steps path opn) (i : Nat) (x : Int) : Sc (w.setCell ⟨gm, i, none⟩ (vI x)) B b go gm gl gn N clv pv ov of (Wg.upd met i x) low nxt count steps path opn := by
  have f : Fr (fun j => j = gm) w (w.setCell ⟨gm, i, none⟩ (vI x)) := setCell_fr w gm i _
  obtain ⟨n1, n2, n3, n4, n5, n6⟩ := h.ne
  obtain ⟨l0, l1, l2, l3, l4⟩ := h.lt
  exact ⟨(f.block b (heap_lt0 h.blk) (fun e => row3_ne h.blk h.rme e.symm)).trans h.blk, h.rof.fr f n1, h.rme.setI i x, h.rlo.fr f (fun e => n4 e.symm), h.rnx.fr f (fun e => n5 e.symm), h.rp.fr f (fun k e e2 => by have := (h.rp.ge k e).1; omega), h.ro.fr f (fun k e e2 => by have := (h.ro.ge k e).1; omega), h.lt, h.ne, h.ap⟩
theorem Sc.setLow (h : Sc w B b go gm gl gn N clv pv ov of met low nxt count steps path opn) (i : Nat) (x : Int) : Sc (w.setCell ⟨gl, i, none⟩ (vI x)) B b go gm gl gn N clv pv ov of met (Wg.upd low i x) nxt count steps path opn := by
  have f : Fr (fun j => j = gl) w (w.setCell ⟨gl, i, none⟩ (vI x)) := setCell_fr w gl i _
  obtain ⟨n1, n2, n3, n4, n5, n6⟩ := h.ne
  obtain ⟨l0, l1, l2, l3, l4⟩ := h.lt
  exact ⟨(f.block b (heap_lt0 h.blk) (fun e => row3_ne h.blk h.rlo e.symm)).trans h.blk, h.rof.fr f n2, h.rme.fr f n4, h.rlo.setI i x, h.rnx.fr f (fun e => n6 e.symm), h.rp.fr f (fun k e e2 => by have := (h.rp.ge k e).1; omega), h.ro.fr f (fun k e e2 => by have := (h.ro.ge k e).1; omega), h.lt, h.ne, h.ap⟩
theorem Sc.setNxt (h : Sc w B b go gm gl gn N clv pv ov of met low nxt count steps path opn) (i : Nat) (x : Int) : Sc (w.setCell ⟨gn, i, none⟩ (vI x)) B b go gm gl gn N clv pv ov of met low (Wg.upd nxt i x) count steps path opn := by
  have f : Fr (fun j => j = gn) w (w.setCell ⟨gn, i, none⟩ (vI x)) := setCell_fr w gn i _
  obtain ⟨n1, n2, n3, n4, n5, n6⟩ := h.ne
  obtain ⟨l0, l1, l2, l3, l4⟩ := h.lt
  exact ⟨(f.block b (heap_lt0 h.blk) (fun e => row3_ne h.blk h.rnx e.symm)).trans h.blk, h.rof.fr f n3, h.rme.fr f n5, h.rlo.fr f n6, h.rnx.setI i x, h.rp.fr f (fun k e e2 => by have := (h.rp.ge k e).1; omega), h.ro.fr f (fun k e e2 => by have := (h.ro.ge k e).1; omega), h.lt, h.ne, h.ap⟩
/-- The path is another one, cut or gone on with. -/
theorem Sc.setPath {w6 : World} {pv' : Value} {path' : List Int} (h : Sc w B b go gm gl gn N clv pv ov of met low nxt count steps path opn) (hg : Fr (fun k => pv.ownBlock = some k) w w6) (ho : IOwn w6 B pv' path') (ha : ∀ k, pv'.ownBlock = some k → pv.ownBlock = some k ∨ w.heap.size ≤ k) :
    Sc (w6.setCell ⟨b, 6, none⟩ pv') B b go gm gl gn N clv pv' ov of met low nxt count steps path' opn ∧ w6.cell? ⟨b, 6, none⟩ = some pv ∧ w6.frozen? ⟨b, 6, none⟩ = false := by
  obtain ⟨l0, l1, l2, l3, l4⟩ := h.lt
  have hge : ∀ k, pv.ownBlock = some k → B ≤ k := fun k e => (h.rp.ge k e).1
  have hb6 := (hg.block b (heap_lt0 h.blk) (fun e => by have := hge b e; omega)).trans h.blk
  have f := setCell_fr w6 b 6 pv'
  have r : ∀ {g : Nat} {x : Nat → Value}, Wg.Row w 3 g N x → g < B → Wg.Row (w6.setCell ⟨b, 6, none⟩ pv') 3 g N x := fun {g x} k hgB => by
    have k6 := k.fr hg (fun e => by have := hge _ e; omega)
    exact k6.fr f (row3_ne hb6 k6)
  have ho6 : IOwn w6 B ov opn := h.ro.fr hg (fun k e e2 => h.ap k e2 e)
  refine ⟨⟨set_of hb6 6 _, r h.rof l1, r h.rme l2, r h.rlo l3, r h.rnx l4, ho.fr f (fun k e e2 => by have := (ho.ge k e).1; omega), ho6.fr f (fun k e e2 => by have := (ho6.ge k e).1; omega), h.lt, h.ne, fun k e e2 => ?_⟩, by rw [cell_of0 hb6]; rfl, frozen_of hb6 6⟩
  rcases ha k e with e3 | e3
  · exact h.ap k e3 e2
  · have := (h.ro.ge k e2).2; omega
theorem Sc.setOpn {w6 : World} {ov' : Value} {opn' : List Int} (h : Sc w B b go gm gl gn N clv pv ov of met low nxt count steps path opn) (hg : Fr (fun k => ov.ownBlock = some k) w w6) (ho : IOwn w6 B ov' opn') (ha : ∀ k, ov'.ownBlock = some k → ov.ownBlock = some k ∨ w.heap.size ≤ k) :
    Sc (w6.setCell ⟨b, 7, none⟩ ov') B b go gm gl gn N clv pv ov' of met low nxt count steps path opn' ∧ w6.cell? ⟨b, 7, none⟩ = some ov ∧ w6.frozen? ⟨b, 7, none⟩ = false := by
  obtain ⟨l0, l1, l2, l3, l4⟩ := h.lt
  have hge : ∀ k, ov.ownBlock = some k → B ≤ k := fun k e => (h.ro.ge k e).1
  have hb6 := (hg.block b (heap_lt0 h.blk) (fun e => by have := hge b e; omega)).trans h.blk
  have f := setCell_fr w6 b 7 ov'
  have r : ∀ {g : Nat} {x : Nat → Value}, Wg.Row w 3 g N x → g < B → Wg.Row (w6.setCell ⟨b, 7, none⟩ ov') 3 g N x := fun {g x} k hgB => by
    have k6 := k.fr hg (fun e => by have := hge _ e; omega)
    exact k6.fr f (row3_ne hb6 k6)
  have ho6 : IOwn w6 B pv path := h.rp.fr hg (fun k e e2 => h.ap k e e2)
  refine ⟨⟨set_of hb6 7 _, r h.rof l1, r h.rme l2, r h.rlo l3, r h.rnx l4, ho6.fr f (fun k e e2 => by have := (ho6.ge k e).1; omega), ho.fr f (fun k e e2 => by have := (ho.ge k e).1; omega), h.lt, h.ne, fun k e e2 => ?_⟩, by rw [cell_of0 hb6]; rfl, frozen_of hb6 7⟩
  rcases ha k e2 with e3 | e3
  · exact h.ap k e e3
  · have := (h.rp.ge k e).2; omega
end

/-! ### rows of lists of their own -/
structure Cr (w : World) (B cg r : Nat) (cv : Nat → Value) (cl : Nat → List Int) : Prop where
  row : Wg.Row w 25 cg r cv
  own : ∀ i, i < r → IOwn w B (cv i) (cl i)
  ap : ∀ i j, i < r → j < r → i ≠ j → ∀ k, (cv i).ownBlock = some k → (cv j).ownBlock ≠ some k
theorem Cr.stay {w w' : World} {B cg r : Nat} {cv : Nat → Value} {cl : Nat → List Int} (h : Cr w B cg r cv cl) (f : Fr (fun _ => False) w w') : Cr w' B cg r cv cl :=
  ⟨h.row.fr f (fun e => e), fun i hi => (h.own i hi).fr f (fun _ _ e => e), h.ap⟩
theorem iown_row_ne {w : World} {B cg r : Nat} {t : TypeId} {cv : Nat → Value} {v : Value} {l : List Int} (h : Wg.Row w t cg r cv) (ht : t ≠ 3) (k : IOwn w B v l) : v.ownBlock ≠ some cg := by
  intro e
  rcases k.2 with ⟨e1, -⟩ | ⟨g, cap, cur, e1, -, h2, -⟩
  · rw [e1] at e; cases e
  · rw [e1] at e
    cases e
    obtain ⟨cs, h1, -⟩ := h
    rw [h1] at h2
    injection h2 with h2
    injection h2 with _ h2
    exact ht h2
/-- One more caller. -/
theorem Cr.app {w w6 : World} {B cg r g6 cap6 m : Nat} {cv : Nat → Value} {cl : Nat → List Int} {x : Int} (h : Cr w B cg r cv cl) (hm : m < r) (hg : w.grownBy w6 (cv m).ownBlock) (ho : IOwn w6 B (.slice (some ⟨g6, 0, none⟩) ((cl m).length + 1) cap6) (cl m ++ [x])) (hat : (cv m).ownBlock = some g6 ∨ w.heap.size ≤ g6) :
    Cr (w6.setCell ⟨cg, m, none⟩ (.slice (some ⟨g6, 0, none⟩) ((cl m).length + 1) cap6)) B cg r (Wg.upd cv m (.slice (some ⟨g6, 0, none⟩) ((cl m).length + 1) cap6)) (Wg.upd cl m (cl m ++ [x])) := by
  have f := grown_frL hg
  have hrow6 : Wg.Row w6 25 cg r cv := h.row.fr f (fun e => iown_row_ne h.row (by decide) (h.own m hm) e)
  have fs := setCell_fr w6 cg m (.slice (some ⟨g6, 0, none⟩) ((cl m).length + 1) cap6)
  refine ⟨hrow6.set m _, fun i hi => ?_, fun i j hi hj hne k e1 e2 => ?_⟩
  · by_cases e : i = m
    · subst e
      rw [Wg.upd_same, Wg.upd_same]
      exact ho.fr fs (fun k e e2 => by rw [e2] at e; exact iown_row_ne hrow6 (by decide) ho e)
    · rw [Wg.upd_ne _ _ e, Wg.upd_ne _ _ e]
      have h1 : IOwn w6 B (cv i) (cl i) := (h.own i hi).fr f (fun k e1 e2 => h.ap i m hi hm e k e1 e2)
      exact h1.fr fs (fun k e e2 => by rw [e2] at e; exact iown_row_ne hrow6 (by decide) h1 e)
  · have hlt : ∀ i, i < r → ∀ k, (cv i).ownBlock = some k → k < w.heap.size := fun i hi k e => ((h.own i hi).ge k e).2
    by_cases ei : i = m
    · subst ei
      have ej : j ≠ i := fun e => hne e.symm
      rw [Wg.upd_same] at e1
      rw [Wg.upd_ne _ _ ej] at e2
      cases e1
      rcases hat with hat | hat
      · exact h.ap i j hi hj hne _ hat e2
      · have k1 : g6 < w.heap.size := hlt j hj _ e2; omega
    · rw [Wg.upd_ne _ _ ei] at e1
      by_cases ej : j = m
      · subst ej
        rw [Wg.upd_same] at e2
        cases e2
        rcases hat with hat | hat
        · exact h.ap i j hi hj hne _ e1 hat
        · have k1 : g6 < w.heap.size := hlt i hi _ e1; omega
      · rw [Wg.upd_ne _ _ ej] at e2
        exact h.ap i j hi hj hne k e1 e2
theorem Cr.fr {S : Nat → Prop} {w w' : World} {B cg r : Nat} {cv : Nat → Value} {cl : Nat → List Int} (h : Cr w B cg r cv cl) (f : Fr S w w') (hg : ¬ S cg) (hS : ∀ i, i < r → ∀ k, (cv i).ownBlock = some k → ¬ S k) : Cr w' B cg r cv cl :=
  ⟨h.row.fr f hg, fun i hi => (h.own i hi).fr f (hS i hi), h.ap⟩
/-- All its lists lie below. -/
def Cb (cv : Nat → Value) (r s : Nat) : Prop := ∀ i, i < r → ∀ k, (cv i).ownBlock = some k → k < s
theorem Cr.below {w : World} {B cg r : Nat} {cv : Nat → Value} {cl : Nat → List Int} (h : Cr w B cg r cv cl) : Cb cv r w.heap.size := fun i hi k e => ((h.own i hi).ge k e).2
/-- What stays beside: all that lies below s, the row cg aside. -/
theorem Cr.beside {S : Nat → Prop} {w w' : World} {B cg r s dg m t : Nat} {cv dv : Nat → Value} {cl : Nat → List Int} (h : Cr w B cg r cv cl) (hb : Cb cv r s) (f : Fr S w w') (hd : Wg.Row w t dg m dv) (ht : t ≠ 3) (hne : cg ≠ dg) (hcs : cg < s) (hS : ∀ k, S k → k = dg ∨ s ≤ k) : Cr w' B cg r cv cl := by
  refine h.fr f (fun e => ?_) (fun i hi k e e2 => ?_)
  · rcases hS cg e with e | e
    · exact hne e
    · omega
  · rcases hS k e2 with e3 | e3
    · subst e3; exact iown_row_ne hd ht (h.own i hi) e
    · have := hb i hi k e; omega
theorem Cr.nils {w : World} {B g n : Nat} (h : Wg.Row w 25 g n (fun _ => .slice none 0 0)) : Cr w B g n (fun _ => .slice none 0 0) (fun _ => []) :=
  ⟨h, fun i _ => World.ownsRow_nil _ _ _ _, fun i j _ _ _ k e => by cases e⟩
theorem Cr.cell {w : World} {B cg r : Nat} {cv : Nat → Value} {cl : Nat → List Int} (h : Cr w B cg r cv cl) {i : Nat} (hi : i < r) : ∃ a c, cv i = .slice a (cl i).length c ∧ w.cell? ⟨cg, i, none⟩ = some (.slice a (cl i).length c) ∧ (w.ownsRow B 3 1 (.slice a (cl i).length c) (cl i).length ((cl i).map vI)) := by
  obtain ⟨a, c, e⟩ := own_slice (h.own i hi)
  refine ⟨a, c, e, ?_, ?_⟩
  · rw [h.row.cell hi, e]
  · have := h.own i hi
    rw [e] at this
    exact this
/-- Seen as lists that only lie there. -/
theorem Cr.lb {w : World} {B cg r s : Nat} {cv : Nat → Value} {cl : Nat → List Int} (h : Cr w B cg r cv cl) (hb : Cb cv r s) (hcs : cg < s) : LB s w (.slice (some ⟨cg, 0, none⟩) r r) ((List.range r).map cl) := by
  refine ⟨_, r, by rw [List.length_map, List.length_range], fun _ => ⟨cg, 0, rfl, hcs, fun i hi => ?_⟩⟩
  have hi' : i < r := by simpa using hi
  refine ⟨cv i, by rw [Nat.zero_add]; exact h.row.cell hi', ?_⟩
  have e : ((List.range r).map cl)[i] = cl i := by simp
  rw [e]
  obtain ⟨a, c, e2, h2⟩ := (h.own i hi').ia
  refine ⟨a, c, e2, fun hne => ?_⟩
  obtain ⟨k, o, e3, -, h3⟩ := h2 hne
  exact ⟨k, o, e3, hb i hi' k (by rw [e2, e3]; rfl), h3⟩

/-- What enter leaves. -/
def EnE (B0 B b go gm gl gn N : Nat) (cl : Nat → List Nat) (clv : Value) (of : Nat → Int) (met low nxt : Nat → Nat) (path opn : List Nat) (count steps g : Nat) (w : World) (e : Ending) (w' : World) : Prop :=
  e = .returned (.tuple #[]) ∧ Se w' B0 B b go gm gl gn N cl clv of (Wg.upd met g (steps + 1)) (Wg.upd low g (steps + 1)) nxt (path ++ [g]) (opn ++ [g]) count (steps + 1) ∧ Fr (fun k => B0 ≤ k) w w'

theorem iown_cap {w : World} {B : Nat} {v : Value} {l : List Int} (h : IOwn w B v l) : ∃ a c, v = .slice a l.length c := by
  have := own_slice h
  simpa [IOwn] using this

set_option maxRecDepth 100000 in
set_option maxHeartbeats 4000000 in
theorem senter_any {B0 B b go gm gl gn N : Nat} {cl : Nat → List Nat} {clv : Value} {of : Nat → Int} {met low nxt : Nat → Nat} {path opn : List Nat} {count steps : Nat} (g : Nat) (w : World) (h : Se w B0 B b go gm gl gn N cl clv of met low nxt path opn count steps) (hg : g < N) (h0 : met g = 0) (hp : ∀ i p, path[i]? = some p → path.length = i + 1 → (cl p)[nxt p]? = some g) (hN : N ≤ 1000000) :
    Calls Tryd.prog 72 #[.pointer (some ⟨b, 0, none⟩), vI (g : Int)] w (EnE B0 B b go gm gl gn N cl clv of met low nxt path opn count steps g w) := by
  have hst := h.ti.lt hg h0
  have hlp : path.length ≤ N := nodup_le (h.ti.ps.imp (fun h e => by rw [e] at h; omega)) (fun x hx => h.ti.mN x ((h.ti.om x).1 (h.ti.po x hx)).1)
  have hlo : opn.length ≤ N := nodup_le (h.ti.os.imp (fun h e => by rw [e] at h; omega)) (fun x hx => h.ti.mN x ((h.ti.om x).1 hx).1)
  have HTI : Hd (TI N cl of (Wg.upd met g (steps + 1)) (Wg.upd low g (steps + 1)) nxt (path ++ [g]) (opn ++ [g]) count (steps + 1)) := h.ti.enter hg h0 hp
  have HLA : Hd (LB B0 w clv (zLs N cl)) := h.la
  have HB : Hd (B0 ≤ b ∧ B0 ≤ go ∧ B0 ≤ gm ∧ B0 ≤ gl ∧ B0 ≤ gn ∧ B0 ≤ B ∧ B ≤ w.heap.size) := h.hB
  obtain ⟨⟨pv, ov, hs⟩, -, -, -⟩ := h
  obtain ⟨pa, pc, epv⟩ := iown_cap hs.rp
  obtain ⟨oa, oc, eov⟩ := iown_cap hs.ro
  rw [List.length_map] at epv eov
  subst epv eov
  have hs1 := hs.setSteps
  have hs2 := ((hs1.setMet g ((steps + 1 : Nat) : Int)).setLow g ((steps + 1 : Nat) : Int))
  rw [zF_upd, zF_upd] at hs2
  obtain ⟨w1, hw1⟩ : ∃ w1, w1 = w.setCell ⟨b, 8, none⟩ (vI ((steps + 1 : Nat) : Int)) := ⟨_, rfl⟩
  obtain ⟨w2, hw2⟩ : ∃ w2, w2 = ((w1.setCell ⟨gm, g, none⟩ (vI ((steps + 1 : Nat) : Int))).setCell ⟨gl, g, none⟩ (vI ((steps + 1 : Nat) : Int))).drew := ⟨_, rfl⟩
  rw [← hw1] at hs1 hs2
  have HS1 : Hd (Sc w1 B b go gm gl gn N clv (.slice pa path.length pc) (.slice oa opn.length oc) of (zF met) (zF low) (zF nxt) count (steps + 1) (zL path) (zL opn)) := hs1
  have HS2 : Hd (Sc w2 B b go gm gl gn N clv (.slice pa path.length pc) (.slice oa opn.length oc) of (zF (Wg.upd met g (steps + 1))) (zF (Wg.upd low g (steps + 1))) (zF nxt) count (steps + 1) (zL path) (zL opn)) := by
    unfold Hd
    rw [hw2]
    exact hs2.stay (Fr.refl _ _).drew
  have HF2 : Hd (Fr (fun k => B0 ≤ k) w w2) := by
    obtain ⟨b1, b2, b3, b4, b5, b6, b7⟩ := HB.out
    unfold Hd
    rw [hw2, hw1]
    exact ((((Fr.refl _ w).setCell ⟨b, 8, none⟩ _ (Or.inl b1)).setCell ⟨gm, g, none⟩ _ (Or.inl b3)).setCell ⟨gl, g, none⟩ _ (Or.inl b4)).drew
  have HW1 : Hd (w1 = w.setCell ⟨b, 8, none⟩ (vI ((steps + 1 : Nat) : Int))) := hw1
  have HW2 : Hd (w2 = ((w1.setCell ⟨gm, g, none⟩ (vI ((steps + 1 : Nat) : Int))).setCell ⟨gl, g, none⟩ (vI ((steps + 1 : Nat) : Int))).drew) := hw2
  have c8 : w.cell? ⟨b, 8, none⟩ = some (vI (steps : Int)) := by rw [cell_of0 hs.blk]; rfl
  have z8 : w.frozen? ⟨b, 8, none⟩ = false := frozen_of hs.blk 8
  have esn : (steps : Int) + 1 = ((steps + 1 : Nat) : Int) := by omega
  have hsl : (steps : Int) < 1000000 := by omega
  clear hw1 hw2 hs1 hs2 hs hp h0
  generalize hsn : ((steps + 1 : Nat) : Int) = sn at *
  have HSN : Hd (((steps + 1 : Nat) : Int) = sn) := hsn
  clear hsn
  go_enter Tryd.func72, Tryd.ntmps72
  go_upto_region 1 with fail
  rw [← HW1.out]
  clear c8 z8 HW1 esn
  have c8 : w1.cell? ⟨b, 8, none⟩ = some (vI sn) := by rw [cell_of0 HS1.out.blk, ← HSN.out]; rfl
  have c3 : w1.cell? ⟨b, 3, none⟩ = some (.slice (some ⟨gm, 0, none⟩) N N) := by rw [cell_of0 HS1.out.blk]; rfl
  have c4 : w1.cell? ⟨b, 4, none⟩ = some (.slice (some ⟨gl, 0, none⟩) N N) := by rw [cell_of0 HS1.out.blk]; rfl
  have p3 := HS1.out.rme.cell hg
  have z3 := HS1.out.rme.frozen g
  have p4 := HS1.out.rlo.cell hg
  have z4 := HS1.out.rlo.frozen g
  have g0 : (0 : Int) ≤ g := by omega
  have g1 : (g : Int) < N := by omega
  have k4 := HS1.out.setMet g sn
  have p5 : (w1.setCell ⟨gm, g, none⟩ (vI sn)).drew.cell? ⟨gl, g, none⟩ = some (vI (zF low g)) := k4.rlo.cell hg
  have z5 : (w1.setCell ⟨gm, g, none⟩ (vI sn)).drew.frozen? ⟨gl, g, none⟩ = false := k4.rlo.frozen g
  have p6 : (w1.setCell ⟨gm, g, none⟩ (vI sn)).cell? ⟨gl, g, none⟩ = some (vI (zF low g)) := k4.rlo.cell hg
  have z6 : (w1.setCell ⟨gm, g, none⟩ (vI sn)).frozen? ⟨gl, g, none⟩ = false := k4.rlo.frozen g
  have hml : gm ≠ gl := HS1.out.ne.2.2.2.1
  have hlm : gl ≠ gm := hml.symm
  clear k4
  go_region
  rw [← HW2.out]
  clear c8 c3 c4 p3 z3 p4 z4 p5 z5 p6 z6 HW2 HS1 g0 g1 hml hlm
  -- the path
  have c6 : w2.cell? ⟨b, 6, none⟩ = some (.slice pa path.length pc) := by rw [cell_of0 HS2.out.blk]; rfl
  have hFz : Fr (fun _ => False) w2 (w2.alloc (.cells #[vI (g : Int)] 3)) := Fr.alloc (Fr.refl _ w2) _
  have HFz : Hd (Fr (fun _ => False) w2 (w2.alloc (.cells #[vI (g : Int)] 3))) := hFz
  have HSz : Hd (Sc (w2.alloc (.cells #[vI (g : Int)] 3)) B b go gm gl gn N clv (.slice pa path.length pc) (.slice oa opn.length oc) of (zF (Wg.upd met g (steps + 1))) (zF (Wg.upd low g (steps + 1))) (zF nxt) count (steps + 1) (zL path) (zL opn)) := HS2.out.stay hFz
  have HNW : Hd (∀ j' u, [vI (g : Int)][j']? = some u → (w2.alloc (.cells #[vI (g : Int)] 3)).cell? ((⟨w2.heap.size, 0, none⟩ : Addr).add j') = some u) := World.news_of_block (w := w2.alloc (.cells #[vI (g : Int)] 3)) (cs := #[vI (g : Int)]) (heap_new0 w2 _)
  have HSZ1 : Hd ((w2.alloc (.cells #[vI (g : Int)] 3)).heap.size = w2.heap.size + 1) := World.size_alloc _ _
  have HBS : Hd (B ≤ (w2.alloc (.cells #[vI (g : Int)] 3)).heap.size) := by
    have k1 := HB.out.2.2.2.2.2.2
    have k2 := HF2.out.size
    have k3 := HSZ1.out
    unfold Hd
    omega
  have HOW : Hd ((w2.alloc (.cells #[vI (g : Int)] 3)).ownsRow B 3 1 (.slice pa path.length pc) path.length ((zL path).map vI)) := by
    have := HSz.out.rp
    unfold IOwn at this
    rw [List.length_map] at this
    exact this
  clear hFz
  go_wp2_with ((at_builtin; refine Hd.out ?_))
  unfold Hd
  obtain ⟨i3, hi3, hz3, hs3, hb3⟩ := info_parts (P := Tryd.prog) (e := 3) (z := .int .i64 0) (size := 1) (bytes := 8) (by kernel_rfl)
  refine wpList_append_lies _ rfl (.tmp 35) (.tmp 37) 25 rfl B 3 i3 (.int .i64 0) 1 8 under64 hi3 hz3 hs3 hb3 rfl (by omega) (.slice pa path.length pc) path.length _ rfl HOW.out ⟨w2.heap.size, 0, none⟩ 1 1 [vI (g : Int)] rfl rfl HNW.out (by intro u hu; rw [List.mem_singleton] at hu; rw [hu]; rfl) (by omega) (by unfold maxLen; omega) (by omega) HBS.out (w2.heap.size + 1) (by simp) ?_
  intro g6 cap6 w6 hown6 hgrow6 hat6 hlt6
  clear hi3 hz3 hs3 hb3
  obtain ⟨k1, k2, k3⟩ := HSz.out.setPath (w6 := w6) (pv' := .slice (some ⟨g6, 0, none⟩) (path.length + 1) cap6) (path' := zL (path ++ [g])) (grown_frL hgrow6) (by rw [zL_app]; unfold IOwn; simpa using hown6) (fun k e => by
    have e' : g6 = k := Option.some.inj e
    subst e'
    rcases hat6 with e | e
    · exact Or.inl e
    · exact Or.inr (by have := HSZ1.out; omega))
  obtain ⟨w3, hw3⟩ : ∃ w3, w3 = w6.setCell ⟨b, 6, none⟩ (.slice (some ⟨g6, 0, none⟩) (path.length + 1) cap6) := ⟨_, rfl⟩
  rw [← hw3] at k1
  have HS3 : Hd (Sc w3 B b go gm gl gn N clv (.slice (some ⟨g6, 0, none⟩) (path.length + 1) cap6) (.slice oa opn.length oc) of (zF (Wg.upd met g (steps + 1))) (zF (Wg.upd low g (steps + 1))) (zF nxt) count (steps + 1) (zL (path ++ [g])) (zL opn)) := k1
  have HF3 : Hd (Fr (fun k => B0 ≤ k) w w3) := by
    have b1 := HB.out.1
    have b6 := HB.out.2.2.2.2.2.1
    unfold Hd
    rw [hw3]
    refine Fr.setCell ?_ _ _ (Or.inl b1)
    refine ((HF2.out.trans (HFz.out.mono (fun _ _ e => e.elim))).trans ((grown_frL hgrow6).mono (fun k _ e => ?_)))
    have := (World.ownsRow.lt HOW.out k e).1
    omega
  have HW3 : Hd (w3 = w6.setCell ⟨b, 6, none⟩ (.slice (some ⟨g6, 0, none⟩) (path.length + 1) cap6)) := hw3
  clear hown6 hgrow6 hat6 hlt6 HSz HNW HSZ1 HBS HOW HFz c6 HS2 HF2 k1 hw3
  go_upto_region 3 with fail
  rw [← HW3.out]
  clear HW3 k2 k3
  have c7 : w3.cell? ⟨b, 7, none⟩ = some (.slice oa opn.length oc) := by rw [cell_of0 HS3.out.blk]; rfl
  have hFz : Fr (fun _ => False) w3 (w3.alloc (.cells #[vI (g : Int)] 3)) := Fr.alloc (Fr.refl _ w3) _
  have HFz : Hd (Fr (fun _ => False) w3 (w3.alloc (.cells #[vI (g : Int)] 3))) := hFz
  have HSz : Hd (Sc (w3.alloc (.cells #[vI (g : Int)] 3)) B b go gm gl gn N clv (.slice (some ⟨g6, 0, none⟩) (path.length + 1) cap6) (.slice oa opn.length oc) of (zF (Wg.upd met g (steps + 1))) (zF (Wg.upd low g (steps + 1))) (zF nxt) count (steps + 1) (zL (path ++ [g])) (zL opn)) := HS3.out.stay hFz
  have HNW : Hd (∀ j' u, [vI (g : Int)][j']? = some u → (w3.alloc (.cells #[vI (g : Int)] 3)).cell? ((⟨w3.heap.size, 0, none⟩ : Addr).add j') = some u) := World.news_of_block (w := w3.alloc (.cells #[vI (g : Int)] 3)) (cs := #[vI (g : Int)]) (heap_new0 w3 _)
  have HSZ1 : Hd ((w3.alloc (.cells #[vI (g : Int)] 3)).heap.size = w3.heap.size + 1) := World.size_alloc _ _
  have HBS : Hd (B ≤ (w3.alloc (.cells #[vI (g : Int)] 3)).heap.size) := by
    have k1 := HB.out.2.2.2.2.2.2
    have k2 := HF3.out.size
    have k3 := HSZ1.out
    unfold Hd
    omega
  have HOW : Hd ((w3.alloc (.cells #[vI (g : Int)] 3)).ownsRow B 3 1 (.slice oa opn.length oc) opn.length ((zL opn).map vI)) := by
    have := HSz.out.ro
    unfold IOwn at this
    rw [List.length_map] at this
    exact this
  clear hFz
  go_wp2_with ((at_builtin; refine Hd.out ?_))
  unfold Hd
  obtain ⟨i3, hi3, hz3, hs3, hb3⟩ := info_parts (P := Tryd.prog) (e := 3) (z := .int .i64 0) (size := 1) (bytes := 8) (by kernel_rfl)
  refine wpList_append_lies _ rfl (.tmp 45) (.tmp 47) 25 rfl B 3 i3 (.int .i64 0) 1 8 under64 hi3 hz3 hs3 hb3 rfl (by omega) (.slice oa opn.length oc) opn.length _ rfl HOW.out ⟨w3.heap.size, 0, none⟩ 1 1 [vI (g : Int)] rfl rfl HNW.out (by intro u hu; rw [List.mem_singleton] at hu; rw [hu]; rfl) (by omega) (by unfold maxLen; omega) (by omega) HBS.out (w3.heap.size + 1) (by simp) ?_
  intro g7 cap7 w7 hown6 hgrow6 hat6 hlt6
  clear hi3 hz3 hs3 hb3
  obtain ⟨k1, k2, k3⟩ := HSz.out.setOpn (w6 := w7) (ov' := .slice (some ⟨g7, 0, none⟩) (opn.length + 1) cap7) (opn' := zL (opn ++ [g])) (grown_frL hgrow6) (by rw [zL_app]; unfold IOwn; simpa using hown6) (fun k e => by
    have e' : g7 = k := Option.some.inj e
    subst e'
    rcases hat6 with e | e
    · exact Or.inl e
    · exact Or.inr (by have := HSZ1.out; omega))
  have hF4 : Fr (fun k => B0 ≤ k) w (w7.setCell ⟨b, 7, none⟩ (.slice (some ⟨g7, 0, none⟩) (opn.length + 1) cap7)) := by
    have b1 := HB.out.1
    have b6 := HB.out.2.2.2.2.2.1
    refine Fr.setCell ?_ _ _ (Or.inl b1)
    refine ((HF3.out.trans (HFz.out.mono (fun _ _ e => e.elim))).trans ((grown_frL hgrow6).mono (fun k _ e => ?_)))
    have := (World.ownsRow.lt HOW.out k e).1
    omega
  have HE : Hd (EnE B0 B b go gm gl gn N cl clv of met low nxt path opn count steps g w (.returned (.tuple #[])) (w7.setCell ⟨b, 7, none⟩ (.slice (some ⟨g7, 0, none⟩) (opn.length + 1) cap7))) := by
    obtain ⟨b1, b2, b3, b4, b5, b6, b7⟩ := HB.out
    exact ⟨rfl, ⟨⟨_, _, k1⟩, HLA.out.fr (by omega) hF4 (fun k hk => by omega), HTI.out, b1, b2, b3, b4, b5, b6, Nat.le_trans b7 hF4.size⟩, hF4⟩
  clear hown6 hgrow6 hat6 hlt6 HSz HNW HSZ1 HBS HOW HFz c7 HS3 HF3 k1 hF4
  go_wp2_with fail
  go_end0
  exact HE.out
end Go.Proofs.YtjmbfjaahadbhaaDoor
