import Derived.Test.YtihicdbplmdjiaaGreatQB3bJ
set_option linter.unusedVariables false
set_option linter.unusedSimpArgs false
namespace Go.Proofs.YtihicdbplmdjiaaGreat.Pl
open Go.RowKit (wrap32 wrap64)
open Go.MuLone

theorem fr_two (w : World) (b o : Nat) (x y : Value) : Fr (fun j => j = b) w ((w.setCell ⟨b, o, none⟩ x).setCell ⟨b, o, none⟩ y) :=
  ((Fr.refl (fun j => j = b) w).setCell _ _ (Or.inl rfl)).setCell _ _ (Or.inl rfl)

theorem cell_lock {w : World} {b o : Nat} (h : w.cell? ⟨b, o, none⟩ = some (.int .i32 0)) (x : Value) (o' : Nat) : ((w.setCell ⟨b, o, none⟩ x).setCell ⟨b, o, none⟩ (.int .i32 0)).cell? ⟨b, o', none⟩ = w.cell? ⟨b, o', none⟩ := by
  by_cases e : o' = o
  · subst e
    rw [World.cell?_setCell_same _ _ _ (World.cell?_setCell_same _ _ _ h), h]
  · rw [World.cell?_setCell_other _ _ _ _ (by first | (simp; done) | (simp; omega)), World.cell?_setCell_other _ _ _ _ (by first | (simp; done) | (simp; omega))]

/-- A lock that was taken and let go. -/
theorem Tb.relock {w : World} {b : Nat} {g : Gh} {N : Nat} {a : Ab} (h : Tb w b g N a) (o : Nat) (ho : w.cell? ⟨b, o, none⟩ = some (.int .i32 0)) (x : Value) : Tb ((w.setCell ⟨b, o, none⟩ x).setCell ⟨b, o, none⟩ (.int .i32 0)) b g N a where
  lock := fun i hi => (cell_lock ho x _).trans (h.lock i hi)
  map := fun i hi => (cell_lock ho x _).trans (h.map i hi)
  frz := fun o' => by simpa using h.frz o'
  own1 := h.own1
  own2 := h.own2
  ownE := h.ownE
  inj := h.inj
  lt := fun j hj => by simpa using h.lt j hj
  maps := fun i hi => ownsMap_fr (h.maps i hi) (fr_two w b o _ _) (by intro e; have h1 := h.own1; have h2 := h.own2 i hi; rw [e] at h2; omega)
  wf := h.wf
  has := h.has
  atk := h.atk
  ent := fun k v hk => by
    have h2 := h.ownE k v hk
    rw [(fr_two w b o x (.int .i32 0)).block _ (h.lt _ (by rw [h2]; decide)) (by intro e; rw [e, h.own1] at h2; omega)]
    exact h.ent k v hk

/-- One more key. -/
def upd (a : Ab) (k : Int) (v : ByteArray) : Ab := fun x => if x = k then some v else a x
def Gh.more (g : Gh) (k : Int) (e : Nat) : Gh where
  own := fun j => if j = e then 10 else g.own j
  mb := g.mb
  D := fun i => if i = strp k then (g.D i).put (.int .i64 k) (.lit (.int .i64 e)) else g.D i
  eb := fun x => if x = k then e else g.eb x

abbrev newEnt : Obj := .cells #[.string ⟨#[]⟩, .int .u32 0] 135
/-- The world behind a Publish of a new key: w1 has the map turned. -/
def pubW (w w1 : World) (b o : Nat) (v : ByteArray) : World := (((w1.setCell ⟨w.heap.size, 0, none⟩ (.string v)).drew).setCell ⟨w.heap.size, 1, none⟩ (.int .u32 1)).setCell ⟨b, o, none⟩ (.int .i32 0)

theorem Tb.pub {w w1 : World} {b : Nat} {g : Gh} {N : Nat} {a : Ab} (h : Tb w b g N a) (k : Int) (v : ByteArray) (hk : In64 k) (o : Nat) (ho : o = 3 * strp k)
    (hown : w1.ownsMap Tryz.prog 3 Rp (g.mb (strp k)) (N + 1) ((g.D (strp k)).put (.int .i64 k) (.lit (.int .i64 w.heap.size))))
    (ht : ((w.setCell ⟨b, o, none⟩ (.int .i32 1)).alloc newEnt).mapTurned w1 (g.mb (strp k))) :
    Tb (pubW w w1 b o v) b (g.more k w.heap.size) (N + 1) (upd a k v) ∧ Fr (fun j => g.own j ≠ 0) w (pubW w w1 b o v) ∧ w1.heap[w.heap.size]? = some newEnt ∧ w1.cell? ⟨b, o, none⟩ = some (.int .i32 1) := by
  have hbl := h.blt
  have hs := strp_lt k
  have hmb := h.own2 (strp k) hs
  have hb1 := h.own1
  have hne : g.mb (strp k) ≠ b := by intro e; rw [e] at hmb; omega
  have hml : g.mb (strp k) < w.heap.size := h.lt _ (by omega)
  have hlock := h.lock (strp k) hs
  rw [← ho] at hlock
  have hsz : ((w.setCell ⟨b, o, none⟩ (.int .i32 1)).alloc newEnt).heap.size = w.heap.size + 1 := by simp
  have F1 : Fr (fun j => j = g.mb (strp k)) ((w.setCell ⟨b, o, none⟩ (.int .i32 1)).alloc newEnt) w1 := (grown_fr ht.grown).mono (fun j _ e => (Option.some.inj e).symm)
  have F0 : Fr (fun j => g.own j ≠ 0) w ((w.setCell ⟨b, o, none⟩ (.int .i32 1)).alloc newEnt) := ((Fr.refl _ w).setCell _ _ (Or.inl (by show g.own b ≠ 0; omega))).alloc _
  have F2 : Fr (fun j => g.own j ≠ 0) w w1 := F0.trans (F1.mono (fun j _ e => by rw [e]; omega))
  have hsz1 : w.heap.size < w1.heap.size := by have := F1.size; omega
  have F3 : Fr (fun j => g.own j ≠ 0) w (pubW w w1 b o v) := by
    unfold pubW
    exact (((F2.setCell _ _ (Or.inr (Nat.le_refl _))).drew).setCell _ _ (Or.inr (Nat.le_refl _))).setCell _ _ (Or.inl (by show g.own b ≠ 0; omega))
  have hnew : w1.heap[w.heap.size]? = some newEnt := by
    rw [F1.block w.heap.size (by omega) (by omega)]
    have := heap_alloc_last (w.setCell ⟨b, o, none⟩ (.int .i32 1)) newEnt
    simpa using this
  have hcb : ∀ o', w1.cell? ⟨b, o', none⟩ = (w.setCell ⟨b, o, none⟩ (.int .i32 1)).cell? ⟨b, o', none⟩ := fun o' => by
    rw [F1.cell (k := b) (by omega) (fun e => hne e.symm)]
    exact World.cell?_alloc_past _ _ _ (by simpa using hbl)
  have hl1 : w1.cell? ⟨b, o, none⟩ = some (.int .i32 1) := by rw [hcb]; exact World.cell?_setCell_same _ _ _ hlock
  have hcf : ∀ o', (pubW w w1 b o v).cell? ⟨b, o', none⟩ = w.cell? ⟨b, o', none⟩ := fun o' => by
    unfold pubW
    have far0 : ∀ (u : World) (x : Value) (o2 o3 : Nat), (u.setCell ⟨w.heap.size, o2, none⟩ x).cell? ⟨b, o3, none⟩ = u.cell? ⟨b, o3, none⟩ := fun u x o2 o3 => World.cell?_setCell_other _ _ _ _ (by first | (simp; done) | (simp; omega))
    by_cases e : o' = o
    · subst e
      rw [World.cell?_setCell_same (u := .int .i32 1) _ _ _ (by rw [far0, World.cell?_drew, far0]; exact hl1), hlock]
    · rw [World.cell?_setCell_other _ _ _ _ (by first | (simp; done) | (simp; omega)), far0, World.cell?_drew, far0, hcb, World.cell?_setCell_other _ _ _ _ (by first | (simp; done) | (simp; omega))]
  have hfz : ∀ o', (pubW w w1 b o v).frozen? ⟨b, o', none⟩ = w.frozen? ⟨b, o', none⟩ := fun o' => by
    unfold pubW
    simp only [World.frozen?_setCell, World.frozen?_drew]
    rw [ht.frozen, World.frozen?_alloc_past _ _ _ (by simpa using hbl), World.frozen?_setCell]
  have hent : (pubW w w1 b o v).heap[w.heap.size]? = some (.cells #[.string v, .int .u32 1] 135) := by
    unfold pubW
    rw [Go.RowKit.Below.heap_setCell _ _ _ _ (by show w.heap.size ≠ b; omega)]
    have e1 := set_of hnew 0 (.string v)
    have e2 : ((w1.setCell ⟨w.heap.size, 0, none⟩ (.string v)).drew).heap[w.heap.size]? = some (.cells (#[Value.string ⟨#[]⟩, .int .u32 0].setIfInBounds 0 (.string v)) 135) := e1
    have e3 := set_of e2 1 (.int .u32 1)
    rw [e3]
    rfl
  have hnewown : g.own w.heap.size = 0 := by
    by_cases e : g.own w.heap.size = 0
    · exact e
    · exact absurd (h.lt _ e) (by omega)
  refine ⟨?_, F3, hnew, hl1⟩
  have hkl : WideAt.IsKeyLit (.int .i64 k) := trivial
  have hlit : ∀ x : Int, x ≠ k → (Lit.int .i64 x) ≠ .int .i64 k := fun x hx e => hx (by injection e)
  constructor
  · exact fun i hi => (hcf _).trans (h.lock i hi)
  · exact fun i hi => (hcf _).trans (h.map i hi)
  · exact fun o' => (hfz o').trans (h.frz o')
  · show (if b = w.heap.size then 10 else g.own b) = 1
    rw [if_neg (by omega)]; exact hb1
  · intro i hi
    show (if g.mb i = w.heap.size then 10 else g.own (g.mb i)) = 2 + i
    have := h.lt (g.mb i) (by rw [h.own2 i hi]; omega)
    rw [if_neg (by omega)]; exact h.own2 i hi
  · intro x y hx
    show (if (if x = k then w.heap.size else g.eb x) = w.heap.size then 10 else g.own (if x = k then w.heap.size else g.eb x)) = 10
    by_cases e : x = k
    · simp [e]
    · have hx' : a x = some y := by simpa [upd, e] using hx
      have := h.ownE x y hx'
      simp [e, this]
  · intro x x' y y' hx hx' he
    have he' : (if x = k then w.heap.size else g.eb x) = (if x' = k then w.heap.size else g.eb x') := he
    by_cases e : x = k
    · by_cases e' : x' = k
      · omega
      · have hy : a x' = some y' := by simpa [upd, e'] using hx'
        have := h.lt (g.eb x') (by rw [h.ownE x' y' hy]; decide)
        rw [if_pos e, if_neg e'] at he'
        omega
    · have hy : a x = some y := by simpa [upd, e] using hx
      by_cases e' : x' = k
      · have := h.lt (g.eb x) (by rw [h.ownE x y hy]; decide)
        rw [if_neg e, if_pos e'] at he'
        omega
      · rw [if_neg e, if_neg e'] at he'
        exact h.inj x x' y y' hy (by simpa [upd, e'] using hx') he'
  · intro j hj
    have hj' : (if j = w.heap.size then 10 else g.own j) ≠ 0 := hj
    have hF := F3.size
    have hf1 : (pubW w w1 b o v).heap.size = w1.heap.size := by unfold pubW; simp
    by_cases e : j = w.heap.size
    · omega
    · rw [if_neg e] at hj'
      have := h.lt j hj'
      omega
  · intro i hi
    show (pubW w w1 b o v).ownsMap Tryz.prog 3 Rp (g.mb i) (N + 1) (if i = strp k then (g.D i).put (.int .i64 k) (.lit (.int .i64 w.heap.size)) else g.D i)
    by_cases e : i = strp k
    · subst e
      rw [if_pos rfl]
      have F4 : Fr (fun j => j = b ∨ j = w.heap.size) w1 (pubW w w1 b o v) := by
        unfold pubW
        exact ((((Fr.refl _ w1).setCell _ _ (Or.inl (Or.inr rfl))).drew).setCell _ _ (Or.inl (Or.inr rfl))).setCell _ _ (Or.inl (Or.inl rfl))
      exact ownsMap_fr hown F4 (by intro e; rcases e with e | e; exact hne e; omega)
    · rw [if_neg e]
      have hi2 := h.own2 i hi
      have hbi : g.mb i ≠ g.mb (strp k) := by intro e2; rw [e2] at hi2; omega
      have hib : g.mb i ≠ b := by intro e2; rw [e2] at hi2; omega
      have hil := h.lt (g.mb i) (by omega)
      have F5 : Fr (fun j => j = b ∨ j = g.mb (strp k)) w (pubW w w1 b o v) := by
        have G0 : Fr (fun j => j = b ∨ j = g.mb (strp k)) w ((w.setCell ⟨b, o, none⟩ (.int .i32 1)).alloc newEnt) := ((Fr.refl _ w).setCell _ _ (Or.inl (Or.inl rfl))).alloc _
        have G1 := G0.trans (F1.mono (T := fun j => j = b ∨ j = g.mb (strp k)) (fun j _ e => Or.inr e))
        unfold pubW
        exact (((G1.setCell _ _ (Or.inr (Nat.le_refl _))).drew).setCell _ _ (Or.inr (Nat.le_refl _))).setCell _ _ (Or.inl (Or.inl rfl))
      exact (ownsMap_fr (h.maps i hi) F5 (by intro e2; rcases e2 with e2 | e2; exact hib e2; exact hbi e2)).mono (Nat.le_succ N)
  · intro x y hx
    by_cases e : x = k
    · rw [e]; exact hk
    · exact h.wf x y (by simpa [upd, e] using hx)
  · intro i x hi hx
    show Maps.has (if i = strp k then (g.D i).put (.int .i64 k) (.lit (.int .i64 w.heap.size)) else g.D i) (.int .i64 x) = _
    by_cases e : x = k
    · subst e
      by_cases e2 : i = strp x
      · rw [if_pos e2, Maps.has_put_same (h.maps i hi).isMap hkl]
        simp [upd, e2]
      · rw [if_neg e2, h.has i x hi hx]
        have : ¬ strp x = i := fun h => e2 h.symm
        simp [this]
    · have hu : upd a k v x = a x := by simp [upd, e]
      rw [hu]
      by_cases e2 : i = strp k
      · rw [if_pos e2, Maps.has_put_other (hlit x e)]; exact h.has i x hi hx
      · rw [if_neg e2]; exact h.has i x hi hx
  · intro x y hx
    show (if strp x = strp k then (g.D (strp x)).put (.int .i64 k) (.lit (.int .i64 w.heap.size)) else g.D (strp x)).atKey (.int .i64 x) .nil = .lit (.int .i64 ((if x = k then w.heap.size else g.eb x : Nat)))
    by_cases e : x = k
    · subst e
      rw [if_pos rfl, if_pos rfl]
      exact Maps.atKey_put_same (h.maps _ hs).isMap hkl _ _
    · have hy : a x = some y := by simpa [upd, e] using hx
      rw [if_neg e]
      by_cases e2 : strp x = strp k
      · rw [if_pos e2, Maps.atKey_put_other (hlit x e)]; exact h.atk x y hy
      · rw [if_neg e2]; exact h.atk x y hy
  · intro x y hx
    show (pubW w w1 b o v).heap[(if x = k then w.heap.size else g.eb x : Nat)]? = _
    by_cases e : x = k
    · have hy : v = y := by simpa [upd, e] using hx
      rw [if_pos e, ← hy]; exact hent
    · have hy : a x = some y := by simpa [upd, e] using hx
      rw [if_neg e]
      have hE := h.ownE x y hy
      have hxl := h.lt (g.eb x) (by omega)
      have hxb : g.eb x ≠ b := by intro e2; rw [e2] at hE; omega
      have hxm : g.eb x ≠ g.mb (strp k) := by intro e2; rw [e2] at hE; omega
      have G0 : Fr (fun j => j = b ∨ j = g.mb (strp k)) w ((w.setCell ⟨b, o, none⟩ (.int .i32 1)).alloc newEnt) := ((Fr.refl _ w).setCell _ _ (Or.inl (Or.inl rfl))).alloc _
      have G1 := G0.trans (F1.mono (T := fun j => j = b ∨ j = g.mb (strp k)) (fun j _ e => Or.inr e))
      have G2 : Fr (fun j => j = b ∨ j = g.mb (strp k)) w (pubW w w1 b o v) := by
        unfold pubW
        exact (((G1.setCell _ _ (Or.inr (Nat.le_refl _))).drew).setCell _ _ (Or.inr (Nat.le_refl _))).setCell _ _ (Or.inl (Or.inl rfl))
      rw [G2.block _ hxl (by intro e2; rcases e2 with e2 | e2; exact hxb e2; exact hxm e2)]
      exact h.ent x y hy
end Go.Proofs.YtihicdbplmdjiaaGreat.Pl
namespace Go.Proofs.YtihicdbplmdjiaaGreat.Pl
open Go.RowKit (wrap32 wrap64)
open Go.MuLone
open Go.Maps (Keyed)

set_option maxRecDepth 100000 in
set_option maxHeartbeats 1000000 in
theorem find_any (b : Nat) (g : Gh) (N : Nat) (a : Ab) (k : Int) (hk : In64 k) (o : Nat) (ho : o = 3 * strp k) (w : World) (h : Tb w b g N a) :
    Calls Tryz.prog 63 #[.pointer (some ⟨b, o, none⟩), vI k] w fun e w' => e = .returned (entP g a k) ∧ w' = (w.setCell ⟨b, o, none⟩ (.int .i32 1)).setCell ⟨b, o, none⟩ (.int .i32 0) := by
  have c0 := h.lock (strp k) (strp_lt k)
  have c2 := h.map (strp k) (strp_lt k)
  rw [← ho] at c0 c2
  have f0 := h.frz o
  have hne : g.mb (strp k) ≠ b := by intro e; have h1 := h.own1; have h2 := h.own2 (strp k) (strp_lt k); rw [e] at h2; omega
  have hrun := h.look (w := w.setCell ⟨b, o, none⟩ (.int .i32 1)) k hk ((h.maps _ (strp_lt k)).setCell hne _)
  clear ho
  generalize g.mb (strp k) = bm at *
  clear hne hk
  go_enter_defers Tryz.func63, Tryz.ntmps63
  go_wp2_with (go_at_call 69; refine (lock_free muLib ⟨b, o, none⟩ _ c0 f0).mono ?_; rintro e w' ⟨rfl, rfl⟩)
  refine leaves_cons (f := 70) (args := #[.pointer (some ⟨b, o, none⟩)]) (by simp) (by simp [go_sem]) ?_
  refine (unlock_deferred muLib ⟨b, o, none⟩ .returning _ ?_ ?_).mono ?_
  · exact World.cell?_setCell_same w ⟨b, o, none⟩ (.int .i32 1) c0
  · simp [f0]
  rintro e u' w'' ⟨rfl, rfl, rfl⟩
  exact ⟨_, results_tmp rfl _ _ _, rfl, rfl⟩

set_option maxRecDepth 100000 in
set_option maxHeartbeats 1000000 in
theorem publish_no (b : Nat) (g : Gh) (N : Nat) (a : Ab) (k : Int) (v : ByteArray) (y : ByteArray) (hy : a k = some y) (o : Nat) (ho : o = 3 * strp k) (w : World) (h : Tb w b g N a) :
    Calls Tryz.prog 62 #[.pointer (some ⟨b, o, none⟩), vI k, .string v] w fun e w' => e = .returned (.bool false) ∧ w' = (w.setCell ⟨b, o, none⟩ (.int .i32 1)).setCell ⟨b, o, none⟩ (.int .i32 0) := by
  have c0 := h.lock (strp k) (strp_lt k)
  have c2 := h.map (strp k) (strp_lt k)
  rw [← ho] at c0 c2
  have f0 := h.frz o
  have hne : g.mb (strp k) ≠ b := by intro e; have h1 := h.own1; have h2 := h.own2 (strp k) (strp_lt k); rw [e] at h2; omega
  have hrun := h.look (w := w.setCell ⟨b, o, none⟩ (.int .i32 1)) k (h.wf k y hy) ((h.maps _ (strp_lt k)).setCell hne _)
  have heP : entP g a k = .pointer (some ⟨g.eb k, 0, none⟩) := by unfold entP; rw [hy]
  rw [heP] at hrun
  have hE := h.ownE k y hy
  have hent : (w.setCell ⟨b, o, none⟩ (.int .i32 1)).heap[g.eb k]? = some (.cells #[.string y, .int .u32 1] 135) := by
    rw [Go.RowKit.Below.heap_setCell _ _ _ _ (by show g.eb k ≠ b; intro e; rw [e, h.own1] at hE; omega)]
    exact h.ent k y hy
  clear ho heP hE
  generalize g.mb (strp k) = bm at *
  generalize g.eb k = eb at *
  clear hne
  go_enter_defers Tryz.func62, Tryz.ntmps62
  go_wp2_with (first
    | (go_at_call 69; refine (lock_free muLib ⟨b, o, none⟩ _ c0 f0).mono ?_; rintro e w' ⟨rfl, rfl⟩)
    | (go_at_call 71; refine (fill_no eb y v _ hent).mono ?_; rintro _ _ ⟨rfl, rfl⟩))
  refine leaves_cons (f := 70) (args := #[.pointer (some ⟨b, o, none⟩)]) (by simp) (by simp [go_sem]) ?_
  refine (unlock_deferred muLib ⟨b, o, none⟩ .returning _ ?_ ?_).mono ?_
  · exact World.cell?_setCell_same w ⟨b, o, none⟩ (.int .i32 1) c0
  · simp [f0]
  rintro e u' w'' ⟨rfl, rfl, rfl⟩
  exact ⟨_, results_tmp rfl _ _ _, rfl, rfl⟩

set_option maxRecDepth 100000 in
set_option maxHeartbeats 1000000 in
theorem publish_yes (b : Nat) (g : Gh) (N : Nat) (a : Ab) (k : Int) (hk : In64 k) (v : ByteArray) (hy : a k = none) (hN : N < maxLen) (o : Nat) (ho : o = 3 * strp k) (w : World) (h : Tb w b g N a) :
    Calls Tryz.prog 62 #[.pointer (some ⟨b, o, none⟩), vI k, .string v] w fun e w' => e = .returned (.bool true) ∧ Tb w' b (g.more k w.heap.size) (N + 1) (upd a k v) ∧ Fr (fun j => g.own j ≠ 0) w w' := by
  have c0 := h.lock (strp k) (strp_lt k)
  have c2 := h.map (strp k) (strp_lt k)
  rw [← ho] at c0 c2
  have f0 := h.frz o
  have hne : g.mb (strp k) ≠ b := by intro e; have h1 := h.own1; have h2 := h.own2 (strp k) (strp_lt k); rw [e] at h2; omega
  have hm1 := (h.maps _ (strp_lt k)).setCell (a := ⟨b, o, none⟩) hne (.int .i32 1)
  have hrun := h.look (w := w.setCell ⟨b, o, none⟩ (.int .i32 1)) k hk hm1
  have heP : entP g a k = .pointer none := by unfold entP; rw [hy]
  rw [heP] at hrun
  have hown1 := hm1.alloc newEnt
  have hkey := Maps.keyOf_int_mk under3 (wf_k k hk)
  have hP : Hd (∀ w1 : World, w1.ownsMap Tryz.prog 3 Rp (g.mb (strp k)) (N + 1) ((g.D (strp k)).put (.int .i64 k) (.lit (.int .i64 w.heap.size))) →
      ((w.setCell ⟨b, o, none⟩ (.int .i32 1)).alloc newEnt).mapTurned w1 (g.mb (strp k)) →
      Tb (pubW w w1 b o v) b (g.more k w.heap.size) (N + 1) (upd a k v) ∧ Fr (fun j => g.own j ≠ 0) w (pubW w w1 b o v) ∧ w1.heap[w.heap.size]? = some newEnt ∧ w1.cell? ⟨b, o, none⟩ = some (.int .i32 1)) := fun w1 p q => h.pub k v hk o ho p q
  have hbl := h.blt
  have hN' : Hd (N < maxLen) := hN
  have hRp : Rp (.pointer (some ⟨w.heap.size, 0, none⟩)) = some (.lit (.int .i64 w.heap.size), []) := rfl
  clear ho heP h hm1 hk hy hN
  obtain ⟨bm, ebm⟩ : ∃ bm, bm = g.mb (strp k) := ⟨_, rfl⟩
  rw [← ebm] at c2 hrun hown1 hP hne
  obtain ⟨D, eD⟩ : ∃ D, D = g.D (strp k) := ⟨_, rfl⟩
  rw [← eD] at hown1 hP
  clear ebm eD
  go_enter_defers Tryz.func62, Tryz.ntmps62
  go_wp2_with (first
    | (go_at_call 69; refine (lock_free muLib ⟨b, o, none⟩ _ c0 f0).mono ?_; rintro e w' ⟨rfl, rfl⟩)
    | (at_mapUpdate; refine wpList_mapUpdate_in _ rfl _ _ _ 110 rfl 3 126 keyed3 under77 _ bm N D rfl hown1 hN' _ _ _ rfl rfl hkey _ [] hRp ?_; intro w1 hown2 hturn1))
  obtain ⟨hT, hF, hnew, hl1⟩ := hP.out w1 hown2 hturn1
  have hfz := (hturn1.frozen ⟨b, o, none⟩).trans ((World.frozen?_alloc_past newEnt b o (by simpa using hbl)).trans (by simpa using f0))
  refine (fill_yes w.heap.size ⟨#[]⟩ v _ hnew).mono ?_
  rintro _ _ ⟨rfl, rfl⟩
  go_wp2_with fail
  refine leaves_cons (f := 70) (args := #[.pointer (some ⟨b, o, none⟩)]) (by simp) (by simp [go_sem]) ?_
  refine (unlock_deferred muLib ⟨b, o, none⟩ .returning _ ?_ ?_).mono ?_
  · rw [World.cell?_drew, World.cell?_setCell_other _ _ _ _ (by first | (simp; done) | (simp; omega)), World.cell?_setCell_other _ _ _ _ (by first | (simp; done) | (simp; omega))]
    exact hl1
  · simp only [World.frozen?_setCell, World.frozen?_drew]
    exact hfz
  rintro e u' w'' ⟨rfl, rfl, rfl⟩
  exact ⟨_, results_tmp rfl _ _ _, rfl, hT, hF⟩
end Go.Proofs.YtihicdbplmdjiaaGreat.Pl
