import Derived.Test.YtchilccmnaihkaaQCpJ
import Derived.RegionDies
namespace Go.Proofs.Ytchilccmnaihkaa
open Go.RowKit (wrap32 wrap64)
set_option linter.unusedVariables false
set_option linter.unusedSimpArgs false

abbrev zeros (P : Nat) : List Int := List.replicate P 0
theorem made_zeros (P : Nat) : Obj.cells (madeCells #[vI 0] P) 3 = minsO (zeros P) := by
  rw [made_one]; simp
theorem make22z (n : Nat) (hn : n ≤ 1000) (w : World) : (Instr.makeSlice 22 (.int .i64 n) (.int .i64 n)).run Try.prog w = .ok (.slice (some ⟨w.heap.size, 0, none⟩) n n) (w.alloc (minsO (zeros n))) := by
  rw [make22 n (by omega) w, made_zeros]

theorem number_yes (B b : Nat) (l : List Int) (w : World) (h : Rd B w b l) (ho : okT l 1 = true) : Calls Try.prog 48 #[.pointer (some ⟨b, 0, none⟩)] w fun e w' => e = .returned (vI (l.getD 0 0)) ∧ Fr (fun k => k = b) w w' ∧ Rd B w' b (l.drop 1) := by
  refine (number_any B b l w h).mono ?_
  rintro e w' ⟨h1, (⟨h2, h3, h4⟩ | ⟨h2, h3⟩)⟩
  · exact ⟨h3, h1, h4⟩
  · rw [ho] at h2; cases h2
theorem number_no (B b : Nat) (l : List Int) (w : World) (h : Rd B w b l) (ho : okT l 1 = false) : Calls Try.prog 48 #[.pointer (some ⟨b, 0, none⟩)] w fun e w' => e = .panicked thrown ∧ Fr (fun k => k = b) w w' := by
  refine (number_any B b l w h).mono ?_
  rintro e w' ⟨h1, (⟨h2, h3, h4⟩ | ⟨h2, h3⟩)⟩
  · rw [ho] at h2; cases h2
  · exact ⟨h3, h1⟩
theorem numbers_yes (B b n : Nat) (l : List Int) (w : World) (h : Rd B w b l) (hnz : n ≤ 1000) (ho : okT l n = true) : Calls Try.prog 49 #[.pointer (some ⟨b, 0, none⟩), vI n] w fun e w' => ∃ g, e = .returned (.slice (some ⟨g, 0, none⟩) n n) ∧ w.heap.size ≤ g ∧ w'.heap[g]? = some (minsO (l.take n)) ∧ Rd B w' b (l.drop n) ∧ Fr (fun k => k = b) w w' := by
  refine (numbers_any B b n l w h hnz).mono ?_
  rintro e w' ⟨h1, (⟨h2, g, h3, h4, h5, h6⟩ | ⟨h2, h3⟩)⟩
  · exact ⟨g, h3, h4, h5, h6, h1⟩
  · rw [ho] at h2; cases h2
theorem numbers_no (B b n : Nat) (l : List Int) (w : World) (h : Rd B w b l) (hnz : n ≤ 1000) (ho : okT l n = false) : Calls Try.prog 49 #[.pointer (some ⟨b, 0, none⟩), vI n] w fun e w' => e = .panicked thrown ∧ Fr (fun k => k = b) w w' := by
  refine (numbers_any B b n l w h hnz).mono ?_
  rintro e w' ⟨h1, (⟨h2, g, h3, h4, h5, h6⟩ | ⟨h2, h3⟩)⟩
  · rw [ho] at h2; cases h2
  · exact ⟨h3, h1⟩
/-- Behind the summary's making. -/
def M3 (w1 wx : World) (P : Nat) (x : Value) : Prop :=
  ∃ X g1 g2, x = .pointer (some ⟨X, 0, none⟩) ∧ w1.heap.size ≤ X ∧ w1.heap.size ≤ g1 ∧ w1.heap.size ≤ g2 ∧ wx.heap[X]? = some (.cells #[.slice (some ⟨g1, 0, none⟩) P P, .slice (some ⟨g2, 0, none⟩) P P] 31) ∧ wx.heap[g1]? = some (minsO (zeros P)) ∧ wx.heap[g2]? = some (nils P) ∧ Fr (fun _ => False) w1 wx
structure Al3 (W Z : World) (o1 o2 o3 : Obj) : Prop where
  a : Z.heap[W.heap.size]? = some o1
  b : Z.heap[W.heap.size + 1]? = some o2
  c : Z.heap[W.heap.size + 1 + 1]? = some o3
  f : Fr (fun _ => False) W Z
theorem al3 (W : World) (o1 o2 o3 : Obj) : Al3 W (((W.alloc o1).alloc o2).alloc o3).drew o1 o2 o3 := by
  refine ⟨keepA (keepA (heap_new W o1) o2) o3, ?_, ?_, Fr.drew (((Fr.refl _ W).alloc _).alloc _ |>.alloc _)⟩
  · have h1 := heap_new (W.alloc o1) o2
    rw [World.size_alloc] at h1
    exact keepA h1 o3
  · have h1 := heap_new ((W.alloc o1).alloc o2) o3
    rw [World.size_alloc, World.size_alloc] at h1
    exact h1
theorem le0 (n : Nat) : n ≤ n := Nat.le_refl n
theorem le1 (n : Nat) : n ≤ n + 1 := Nat.le_succ n
theorem le2 (n : Nat) : n ≤ n + 1 + 1 := by omega

/-- A summary that is being read: k lists, k1 numbers of the heap, t numbers in all. -/
structure M44 (w wr : World) (H N0 B b P R X g1 g2 : Nat) (fb : Obj) (l : List Int) (k k1 t : Nat) (gs : Nat → Nat) : Prop where
  ok : okT l t = true
  r1 : Row0 wr g1 P ((List.range k1).map (hpT R l))
  r2 : Rws wr 22 1 g2 P (fun i => [if i < k then .slice (some ⟨gs i, 0, none⟩) R R else .slice none 0 0])
  gb : ∀ i, i < k → wr.heap[gs i]? = some (minsO (rsT R l i)) ∧ N0 ≤ gs i
  bx : wr.heap[X]? = some (.cells #[.slice (some ⟨g1, 0, none⟩) P P, .slice (some ⟨g2, 0, none⟩) P P] 31)
  bf : wr.heap[H]? = some fb
  bn : wr.heap[H + 1]? = some nil2
  rd : Rd B wr b (l.drop t)
  fr : Fr (fun j => j = b) w wr
  nz : N0 ≤ wr.heap.size
/-- How its blocks lie. -/
structure G44 (w : World) (H N0 B b X g1 g2 : Nat) : Prop where
  hb : b < B
  hB : B ≤ H
  hH : H = w.heap.size
  x0 : H + 2 ≤ X
  x1 : X < N0
  g0 : H + 2 ≤ g1
  g1' : g1 < N0
  q0 : H + 2 ≤ g2
  q1 : g2 < N0
  n1 : X ≠ g1
  n2 : X ≠ g2
  n3 : g1 ≠ g2
section
variable {w wr : World} {H N0 B b P R X g1 g2 : Nat} {fb : Obj} {l : List Int} {k k1 t : Nat} {gs : Nat → Nat}
theorem M44.keep {w' : World} (h : M44 w wr H N0 B b P R X g1 g2 fb l k k1 t gs) (G : G44 w H N0 B b X g1 g2) {t' : Nat} (f : Fr (fun j => j = b) wr w') (ho : okT l t' = true) (hd : Rd B w' b (l.drop t')) : M44 w w' H N0 B b P R X g1 g2 fb l k k1 t' gs := by
  obtain ⟨e1, e2, e3, e4, e5, e6, e7, e8, e9, e10, e11, e12⟩ := G
  have kp : ∀ (j : Nat) (o : Obj), wr.heap[j]? = some o → j ≠ b → w'.heap[j]? = some o := fun j o hj hne => (f.block j (heap_lt hj) hne).trans hj
  exact ⟨ho, h.r1.keep f (by omega), h.r2.fr f (by omega), fun i hi => ⟨kp _ _ (h.gb i hi).1 (by have := (h.gb i hi).2; omega), (h.gb i hi).2⟩, kp _ _ h.bx (by omega), kp _ _ h.bf (by omega), kp _ _ h.bn (by omega), hd, h.fr.trans f, Nat.le_trans h.nz f.size⟩
theorem M44.head {w2 : World} (h : M44 w wr H N0 B b P R X g1 g2 fb l k k t gs) (G : G44 w H N0 B b X g1 g2) (ht : t = k * (R + 1)) (hk : k < P) (f : Fr (fun j => j = b) wr w2) (ho : okT (l.drop t) 1 = true) (hd : Rd B w2 b ((l.drop t).drop 1)) :
    M44 w (w2.setCell ⟨g1, k, none⟩ (vI ((l.drop t).getD 0 0))) H N0 B b P R X g1 g2 fb l k (k + 1) (t + 1) gs := by
  have h2 := h.keep G (t' := t + 1) f (by rw [okT_add, h.ok, ho]; rfl) (by rw [List.drop_drop] at hd; exact hd)
  obtain ⟨e1, e2, e3, e4, e5, e6, e7, e8, e9, e10, e11, e12⟩ := G
  have f2 := setCell_fr w2 g1 k (vI ((l.drop t).getD 0 0))
  have kp : ∀ (j : Nat) (o : Obj), w2.heap[j]? = some o → j ≠ g1 → (w2.setCell ⟨g1, k, none⟩ (vI ((l.drop t).getD 0 0))).heap[j]? = some o := fun j o hj hne => (f2.block j (heap_lt hj) hne).trans hj
  refine ⟨h2.ok, ?_, h2.r2.fr f2 (by omega), fun i hi => ⟨kp _ _ (h2.gb i hi).1 (by have := (h2.gb i hi).2; omega), (h2.gb i hi).2⟩, kp _ _ h2.bx (by omega), kp _ _ h2.bf (by omega), kp _ _ h2.bn (by omega), h2.rd.fr f2 (fun j hj e => by omega), h2.fr.then f2 (fun j hj e => by omega), Nat.le_trans h2.nz f2.size⟩
  have h3 := h2.r1.set ((l.drop t).getD 0 0) (by simp; omega)
  rw [List.length_map, List.length_range] at h3
  rw [List.range_succ, List.map_append, List.map_cons, List.map_nil]
  have : hpT R l k = (l.drop t).getD 0 0 := by rw [getD_drop, ht]; rfl
  rw [this]
  exact h3
theorem M44.list {w2 : World} {g : Nat} (h : M44 w wr H N0 B b P R X g1 g2 fb l k (k + 1) t gs) (G : G44 w H N0 B b X g1 g2) (ht : t = k * (R + 1) + 1) (hk : k < P) (f : Fr (fun j => j = b) wr w2) (ho : okT (l.drop t) R = true) (hd : Rd B w2 b ((l.drop t).drop R)) (hg : wr.heap.size ≤ g) (hgn : w2.heap[g]? = some (minsO ((l.drop t).take R))) :
    M44 w (w2.setCell ⟨g2, k, none⟩ (.slice (some ⟨g, 0, none⟩) R R)) H N0 B b P R X g1 g2 fb l (k + 1) (k + 1) ((k + 1) * (R + 1)) (at1 gs k g) := by
  have et : (k + 1) * (R + 1) = t + R := by rw [Nat.add_mul, Nat.one_mul]; omega
  rw [et]
  have h2 := h.keep G (t' := t + R) f (by rw [okT_add, h.ok, ho]; rfl) (by rw [List.drop_drop] at hd; exact hd)
  obtain ⟨e1, e2, e3, e4, e5, e6, e7, e8, e9, e10, e11, e12⟩ := G
  have hnz := h.nz
  have f2 := setCell_fr w2 g2 k (.slice (some ⟨g, 0, none⟩) R R)
  have kp : ∀ (j : Nat) (o : Obj), w2.heap[j]? = some o → j ≠ g2 → (w2.setCell ⟨g2, k, none⟩ (.slice (some ⟨g, 0, none⟩) R R)).heap[j]? = some o := fun j o hj hne => (f2.block j (heap_lt hj) hne).trans hj
  refine ⟨h2.ok, h2.r1.keep f2 (by omega), ?_, fun i hi => ?_, kp _ _ h2.bx (by omega), kp _ _ h2.bf (by omega), kp _ _ h2.bn (by omega), h2.rd.fr f2 (fun j hj e => by omega), h2.fr.then f2 (fun j hj e => by omega), Nat.le_trans h2.nz f2.size⟩
  · have := h2.r2.set1 (i := k) (o := 0) hk (by omega) rfl (.slice (some ⟨g, 0, none⟩) R R)
    rw [Nat.mul_one, Nat.add_zero] at this
    refine this.congr (fun i _ => ?_)
    by_cases e : i = k
    · subst e; rw [at1_self, at1_self, if_pos (Nat.lt_succ_self i)]; rfl
    · rw [at1_ne _ _ e, at1_ne _ _ e]
      by_cases hi : i < k
      · rw [if_pos hi, if_pos (by omega)]
      · rw [if_neg hi, if_neg (by omega)]
  · by_cases e : i = k
    · subst e
      rw [at1_self]
      refine ⟨kp g _ ?_ (by omega), by omega⟩
      rw [hgn, ht]
      rfl
    · rw [at1_ne _ _ e]
      exact ⟨kp _ _ (h2.gb i (by omega)).1 (by have := (h2.gb i (by omega)).2; omega), (h2.gb i (by omega)).2⟩
theorem M44.fin (h : M44 w wr H N0 B b P R X g1 g2 fb l P P t gs) (G : G44 w H N0 B b X g1 g2) (ht : t = P * (R + 1)) {wz : World} (hz : wz = (wr.setCell ⟨H + 1, 0, none⟩ (.slice (some ⟨g1, 0, none⟩) P P)).setCell ⟨H + 1, 1, none⟩ (.slice (some ⟨g2, 0, none⟩) P P)) :
    wz.heap[H + 1]? = some (.cells #[.slice (some ⟨g1, 0, none⟩) P P, .slice (some ⟨g2, 0, none⟩) P P] 31) ∧ SAq (fun j => w.heap.size ≤ j) wz (.agg #[.slice (some ⟨g1, 0, none⟩) P P, .slice (some ⟨g2, 0, none⟩) P P]) (psT P R l) ∧ Rd B wz b (l.drop t) ∧ Fr (fun j => j = b) w wz := by
  obtain ⟨e1, e2, e3, e4, e5, e6, e7, e8, e9, e10, e11, e12⟩ := G
  have f2 : Fr (fun j => j = H + 1) wr wz := by rw [hz]; exact (setCell_fr wr (H + 1) 0 _).trans (setCell_fr _ (H + 1) 1 _)
  have kp : ∀ (j : Nat) (o : Obj), wr.heap[j]? = some o → j ≠ H + 1 → wz.heap[j]? = some o := fun j o hj hne => (f2.block j (heap_lt hj) hne).trans hj
  have hl1 : ((List.range P).map (hpT R l)).length = P := by simp
  refine ⟨by rw [hz]; exact set_of (set_of h.bn 0 _) 1 _, ⟨_, _, rfl, ?_, ?_⟩, h.rd.fr f2 (fun j hj e => by omega), h.fr.then f2 (fun j hj e => by omega)⟩
  · have q1 := kp g1 _ (h.r1.full hl1) (by omega)
    have q2 := mins_iaq (Q := fun j => w.heap.size ≤ j) q1 (by omega)
    rw [hl1] at q2
    exact q2
  · have hRz := h.r2.fr f2 (by omega)
    have hrz : (psT P R l).res.length = P := by simp [psT]
    refine ⟨_, P, by rw [hrz], fun _ => ⟨g2, 0, rfl, by omega, hRz.lt, fun j hj => ?_⟩⟩
    have hj' : j < P := by rw [hrz] at hj; exact hj
    have hc := hRz.cell (i := j) (o := 0) hj' (by omega)
    rw [Nat.mul_one, Nat.add_zero, if_pos hj'] at hc
    refine ⟨.slice (some ⟨gs j, 0, none⟩) R R, by rw [Nat.zero_add]; exact hc, ?_⟩
    have ej : (psT P R l).res[j] = rsT R l j := by simp [psT]
    rw [ej]
    have q1 := kp (gs j) _ (h.gb j hj').1 (by have := (h.gb j hj').2; omega)
    have q2 := mins_iaq (Q := fun j => w.heap.size ≤ j) q1 (by have := (h.gb j hj').2; omega)
    have : (rsT R l j).length = R := ((psT_right (P := P) (R := R) (l := l) (by rw [← ht]; exact h.ok)).ro _ (by rw [← ej]; exact List.getElem_mem hj)).1
    rw [this] at q2
    exact q2
end

set_option maxRecDepth 100000 in
set_option maxHeartbeats 4000000 in
theorem summary_any (B b P R : Nat) (V : Int) (ca : Option Addr) (cn cc : Nat) (l : List Int) (w : World) (h : Rd B w b l) (hP : P ≤ 8) (hR : R ≤ 4) :
    Calls Try.prog 44 #[.pointer (some ⟨b, 0, none⟩), .agg #[vI P, vI R, vI V, .slice ca cn cc]] w fun e w' => Fr (fun k => k = b) w w' ∧ ((okT l (P * (R + 1)) = true ∧ ∃ x y, e = .returned (.agg #[x, y]) ∧ SAq (fun j => w.heap.size ≤ j) w' (.agg #[x, y]) (psT P R l) ∧ Rd B w' b (l.drop (P * (R + 1)))) ∨ (okT l (P * (R + 1)) = false ∧ e = .panicked thrown)) := by
  obtain ⟨wa, hwa⟩ : ∃ wa, wa = (w.alloc (.cells #[vI P, vI R, vI V, .slice ca cn cc] 28)).alloc nil2 := ⟨_, rfl⟩
  have hF : Fr (fun _ => False) w wa := by rw [hwa]; exact Fr.alloc (Fr.alloc (Fr.refl _ w) _) _
  obtain ⟨H, hH⟩ : ∃ H, H = w.heap.size := ⟨_, rfl⟩
  have b1' : wa.heap[H]? = some (.cells #[vI P, vI R, vI V, .slice ca cn cc] 28) := by rw [hwa, hH]; exact keepA (heap_new w _) _
  have b2' : wa.heap[H + 1]? = some nil2 := by
    have := heap_new (w.alloc (.cells #[vI P, vI R, vI V, .slice ca cn cc] 28)) nil2
    rw [World.size_alloc] at this
    rw [hwa, hH]; exact this
  have HSZ : Hd (wa.heap.size = H + 2) := by unfold Hd; rw [hwa, hH]; simp
  have HD : Hd (Rd B wa b l) := h.stay hF
  have HBG : Hd (b < B ∧ B ≤ H) := ⟨h.lt, by rw [hH]; exact h.size⟩
  have HWA : Hd (wa = (w.alloc (.cells #[vI P, vI R, vI V, .slice ca cn cc] 28)).alloc nil2) := hwa
  have HF : Hd (Fr (fun _ => False) w wa) := hF
  have HH : Hd (H = w.heap.size) := hH
  have B1 : Hd (wa.heap[H]? = some (.cells #[vI P, vI R, vI V, .slice ca cn cc] 28)) := b1'
  have B2 : Hd (wa.heap[H + 1]? = some nil2) := b2'
  have c0 : wa.cell? ⟨H, 0, none⟩ = some (vI P) := by rw [cell_of b1']; rfl
  have hHl : H < wa.heap.size := heap_lt b1'
  have hm := make22z P (by omega)
  have hm2 := make29 P (by omega)
  clear hwa hF hH b1' b2' h
  go_enter Try.func44, Try.ntmps44
  go_upto_region 1 with fail
  rw [← HWA.out, ← HH.out]
  clear HWA
  have ne1 : wa.heap.size ≠ H := by omega
  have ne2 : wa.heap.size + 1 ≠ H := by omega
  have ne3 : H ≠ wa.heap.size := by omega
  have ne4 : H ≠ wa.heap.size + 1 := by omega
  go_cut [5] (fun x3 wx => Hd (M3 wa wx P x3))
  case first =>
    go_region
    all_goals
      first | go_meet | (go_wp2_with fail; go_meet)
      have a3 := al3 wa
      first
        | exact ⟨_, _, _, rfl, le2 _, le0 _, le1 _, (al3 wa _ _ _).c, (al3 wa _ _ _).a, (al3 wa _ _ _).b, (al3 wa _ _ _).f⟩
        | exact ⟨_, _, _, rfl, le2 _, le1 _, le0 _, (al3 wa _ _ _).c, (al3 wa _ _ _).b, (al3 wa _ _ _).a, (al3 wa _ _ _).f⟩
        | exact ⟨_, _, _, rfl, le1 _, le0 _, le2 _, (al3 wa _ _ _).b, (al3 wa _ _ _).a, (al3 wa _ _ _).c, (al3 wa _ _ _).f⟩
        | exact ⟨_, _, _, rfl, le1 _, le2 _, le0 _, (al3 wa _ _ _).b, (al3 wa _ _ _).c, (al3 wa _ _ _).a, (al3 wa _ _ _).f⟩
        | exact ⟨_, _, _, rfl, le0 _, le1 _, le2 _, (al3 wa _ _ _).a, (al3 wa _ _ _).b, (al3 wa _ _ _).c, (al3 wa _ _ _).f⟩
        | exact ⟨_, _, _, rfl, le0 _, le2 _, le1 _, (al3 wa _ _ _).a, (al3 wa _ _ _).c, (al3 wa _ _ _).b, (al3 wa _ _ _).f⟩
  case rest =>
    obtain ⟨X, g1, g2, rfl, hX, hg1, hg2, bX, bg1, bg2, hFx⟩ := hcut
    have HG : Hd (G44 w H wc.heap.size B b X g1 g2) := by
      have s1 := HSZ.out
      refine ⟨HBG.out.1, HBG.out.2, HH.out, by omega, heap_lt bX, by omega, heap_lt bg1, by omega, heap_lt bg2, fun e => ?_, fun e => ?_, fun e => ?_⟩
      · subst e; injection (Option.some.inj (bX.symm.trans bg1)) with _ e; exact absurd e (by decide)
      · subst e; injection (Option.some.inj (bX.symm.trans bg2)) with _ e; exact absurd e (by decide)
      · subst e; injection (Option.some.inj (bg1.symm.trans bg2)) with _ e; exact absurd e (by decide)
    obtain ⟨N0, hN0⟩ : ∃ N0, N0 = wc.heap.size := ⟨_, rfl⟩
    rw [← hN0] at HG
    have HM : Hd (M44 w wc H N0 B b P R X g1 g2 (.cells #[vI P, vI R, vI V, .slice ca cn cc] 28) l 0 0 0 (fun _ => 0)) := by
      refine ⟨okT_zero l, ⟨_, bg1, by simp, fun j hj => ⟨0, by simp [hj]⟩, fun j hj => by simp at hj⟩, ⟨_, bg2, by simp, fun i o hi ho => ?_⟩, fun i hi => absurd hi (Nat.not_lt_zero _), bX, keepF B1.out hFx, keepF B2.out hFx, HD.out.stay hFx, (HF.out.trans hFx).mono (fun _ _ e => e.elim), by omega⟩
      obtain rfl : o = 0 := by omega
      rw [Nat.mul_one, Nat.add_zero]
      simp [Array.getElem?_replicate, hi]
    have x0 : wc.cell? ⟨X, 0, none⟩ = some (.slice (some ⟨g1, 0, none⟩) P P) := by rw [cell_of bX]; rfl
    clear bX bg1 bg2 hFx ne1 ne2 ne3 ne4 hHl c0 hm hm2 hX hg1 hg2 B1 B2 HF HD HSZ hN0
    go_wp2_with fail
    clear x0
    go_loopw [17] (fun v wr => ∃ (k : Nat) (gs : Nat → Nat), v = .int .i64 k ∧ k ≤ P ∧ Hd (M44 w wr H N0 B b P R X g1 g2 (.cells #[vI P, vI R, vI V, .slice ca cn cc] 28) l k k (k * (R + 1)) gs)) (fun v _ => match v with | .int _ z => P - z.toNat | _ => 0)
    case atStart => exact ⟨0, fun _ => 0, rfl, Nat.zero_le _, by unfold Hd; rw [Nat.zero_mul]; exact HM.out⟩
    case round =>
      clear HM
      obtain ⟨k, gs, rfl, hk, HM⟩ := hrel
      by_cases hlt : k < P
      · have hk0 : (0 : Int) ≤ k := by omega
        have hk1 : (k : Int) < P := by omega
        have x0 : wr.cell? ⟨X, 0, none⟩ = some (.slice (some ⟨g1, 0, none⟩) P P) := by rw [cell_of HM.out.bx]; rfl
        have hXl := heap_lt HM.out.bx
        have hXb : ¬ X = b := by have := HG.out.hb; have := HG.out.hB; have := HG.out.x0; omega
        have nX1 : X ≠ g1 := HG.out.n1
        have nX2 : g1 ≠ X := fun e => nX1 e.symm
        by_cases ho : okT (l.drop (k * (R + 1))) 1 = true
        · go_wp2_with fail
          go_region_held3 (fun w' => w'.cell? ⟨X, 0, none⟩ = some (.slice (some ⟨g1, 0, none⟩) P P)) (go_keep) ((
            go_at_call 48
            refine (show Calls Try.prog 48 #[.pointer (some ⟨b, 0, none⟩)] wr.drew _ from number_yes B b (l.drop (k * (R + 1))) wr.drew (HM.out.rd.stay (Fr.drew (Fr.refl _ _))) ho).mono ?_
            rintro e w2 ⟨rfl, hf2, hd⟩
            have hG2 : Fr (fun j => j = b) wr w2 := (Fr.drew (Fr.refl _ wr)).trans hf2
            have s0 := (hG2.cell hXl hXb).trans x0
            have HMh : Hd _ := HM.out.head HG.out rfl hlt hG2 ho hd
            obtain ⟨z, q3, q4⟩ : ∃ z : Int, w2.cell? ⟨g1, k, none⟩ = some (vI z) ∧ w2.frozen? ⟨g1, k, none⟩ = false := by
              obtain ⟨cs, c1, c2, c3, -⟩ := HM.out.r1.keep hG2 (by have := HG.out.hb; have := HG.out.hB; have := HG.out.g0; omega)
              obtain ⟨z, hz⟩ := c3 k hlt
              exact ⟨z, by rw [cell_of c1]; exact hz, frozen_of c1 k⟩
            generalize (l.drop (k * (R + 1))).getD 0 0 = x at *
            clear hG2 hd hf2))
          clear x0 s0 q3 q4 hXl
          obtain ⟨wr, hwr⟩ : ∃ W, W = w2.setCell ⟨g1, k, none⟩ (vI x) := ⟨_, rfl⟩
          rw [← hwr] at HMh ⊢
          clear hwr
          have x1 : wr.cell? ⟨X, 1, none⟩ = some (.slice (some ⟨g2, 0, none⟩) P P) := by rw [cell_of HMh.out.bx]; rfl
          have f1 : wr.cell? ⟨H, 1, none⟩ = some (vI R) := by rw [cell_of HMh.out.bf]; rfl
          have hXl := heap_lt HMh.out.bx
          have hHl := heap_lt HMh.out.bf
          have hHb : ¬ H = b := by have := HG.out.hb; have := HG.out.hB; omega
          have nX3 : X ≠ g2 := HG.out.n2
          have nX4 : g2 ≠ X := fun e => nX3 e.symm
          have nH3 : H ≠ g2 := by have := HG.out.q0; omega
          have nH4 : g2 ≠ H := fun e => nH3 e.symm
          by_cases ho2 : okT (l.drop (k * (R + 1) + 1)) R = true
          · go_wp2_with fail
            go_region_held3 (fun w' => w'.cell? ⟨X, 1, none⟩ = some (.slice (some ⟨g2, 0, none⟩) P P) ∧ w'.cell? ⟨H, 1, none⟩ = some (vI R)) (go_keep) ((
              go_at_call 49
              refine (show Calls Try.prog 49 #[.pointer (some ⟨b, 0, none⟩), vI R] wr.drew _ from numbers_yes B b R (l.drop (k * (R + 1) + 1)) wr.drew (HMh.out.rd.stay (Fr.drew (Fr.refl _ _))) (by omega) ho2).mono ?_
              rintro e w3 ⟨g, rfl, hg, hgn, hd, hf3⟩
              have hG3 : Fr (fun j => j = b) wr w3 := (Fr.drew (Fr.refl _ wr)).trans hf3
              have s1 := (hG3.cell hXl hXb).trans x1
              have s2 := (hG3.cell hHl hHb).trans f1
              have HMz : Hd _ := HMh.out.list HG.out rfl hlt hG3 ho2 hd hg hgn
              have hr2 := HMh.out.r2.fr hG3 (by have := HG.out.hb; have := HG.out.hB; have := HG.out.q0; omega)
              have q3 := hr2.cell (i := k) (o := 0) hlt (by omega)
              rw [Nat.mul_one, Nat.add_zero, if_neg (Nat.lt_irrefl k)] at q3
              have q3' : w3.cell? ⟨g2, k, none⟩ = some (.slice none 0 0) := q3
              have q4 := hr2.frozen k
              clear hr2 q3 hG3 hg hgn hd hf3))
            clear s1 s2 q3' q4 x1 f1 hXl hHl
            go_wp2_with fail
            exact ⟨⟨k + 1, at1 gs k g, by simp, by omega, HMz.out⟩, by simp; omega⟩
          · have hno : okT (l.drop (k * (R + 1) + 1)) R = false := by simpa using ho2
            have HX : Hd (okT l (P * (R + 1)) = false) := by
              unfold Hd
              cases hq : okT l (P * (R + 1)) with
              | false => rfl
              | true =>
                have h9 : (k + 1) * (R + 1) ≤ P * (R + 1) := Nat.mul_le_mul_right _ hlt
                rw [Nat.add_mul, Nat.one_mul] at h9
                have := okT_mono hq (s := k * (R + 1) + 1 + R) (by omega)
                rw [okT_add, hno, Bool.and_false] at this; cases this
            clear ho ho2
            go_wp2_with fail
            go_region_dies
            all_goals
              refine (show Calls Try.prog 49 #[.pointer (some ⟨b, 0, none⟩), vI R] wr.drew _ from numbers_no B b R (l.drop (k * (R + 1) + 1)) wr.drew (HMh.out.rd.stay (Fr.drew (Fr.refl _ _))) (by omega) hno).mono ?_
              rintro e w2 ⟨rfl, hf2⟩
              have HF2 : Hd (Fr (fun j => j = b) w w2) := (HMh.out.fr.drew).trans hf2
              clear hf2
              go_wp2_with fail
              exact ⟨rfl, HF2.out, Or.inr ⟨HX.out, rfl⟩⟩
        · have hno : okT (l.drop (k * (R + 1))) 1 = false := by simpa using ho
          have HX : Hd (okT l (P * (R + 1)) = false) := by
            unfold Hd
            cases hq : okT l (P * (R + 1)) with
            | false => rfl
            | true =>
              have h9 : (k + 1) * (R + 1) ≤ P * (R + 1) := Nat.mul_le_mul_right _ hlt
              rw [Nat.add_mul, Nat.one_mul] at h9
              have := okT_mono hq (s := k * (R + 1) + 1) (by omega)
              rw [okT_add, hno, Bool.and_false] at this; cases this
          clear ho
          go_wp2_with fail
          go_region_dies
          all_goals
            refine (show Calls Try.prog 48 #[.pointer (some ⟨b, 0, none⟩)] wr.drew _ from number_no B b (l.drop (k * (R + 1))) wr.drew (HM.out.rd.stay (Fr.drew (Fr.refl _ _))) hno).mono ?_
            rintro e w2 ⟨rfl, hf2⟩
            have HF2 : Hd (Fr (fun j => j = b) w w2) := (HM.out.fr.drew).trans hf2
            clear hf2
            go_wp2_with fail
            exact ⟨rfl, HF2.out, Or.inr ⟨HX.out, rfl⟩⟩
      · have hke : k = P := by omega
        subst hke
        have x0 : wr.cell? ⟨X, 0, none⟩ = some (.slice (some ⟨g1, 0, none⟩) k k) := by rw [cell_of HM.out.bx]; rfl
        have x1 : wr.cell? ⟨X, 1, none⟩ = some (.slice (some ⟨g2, 0, none⟩) k k) := by rw [cell_of HM.out.bx]; rfl
        have y0 : wr.cell? ⟨H + 1, 0, none⟩ = some (.slice none 0 0) := by rw [cell_of HM.out.bn]; rfl
        have y1 : wr.cell? ⟨H + 1, 1, none⟩ = some (.slice none 0 0) := by rw [cell_of HM.out.bn]; rfl
        have z0 := frozen_of HM.out.bn 0
        have z1 := frozen_of HM.out.bn 1
        obtain ⟨wz, hwz⟩ : ∃ W, W = (wr.setCell ⟨H + 1, 0, none⟩ (.slice (some ⟨g1, 0, none⟩) k k)).setCell ⟨H + 1, 1, none⟩ (.slice (some ⟨g2, 0, none⟩) k k) := ⟨_, rfl⟩
        obtain ⟨k1, k2, k3, k4⟩ := HM.out.fin HG.out rfl hwz
        have HOK : Hd (okT l (k * (R + 1)) = true) := HM.out.ok
        have c0 : wz.cell? ⟨H + 1, 0, none⟩ = some (.slice (some ⟨g1, 0, none⟩) k k) := by rw [cell_of k1]; rfl
        have c1 : wz.cell? ⟨H + 1, 1, none⟩ = some (.slice (some ⟨g2, 0, none⟩) k k) := by rw [cell_of k1]; rfl
        have K2 : Hd _ := k2
        have K3 : Hd _ := k3
        have K4 : Hd _ := k4
        clear k1 k2 k3 k4
        go_wp2_with fail
        rw [← hwz]
        refine bodyPost_ret (v := .agg #[.slice (some ⟨g1, 0, none⟩) k k, .slice (some ⟨g2, 0, none⟩) k k]) ?_ rfl ⟨K4.out, Or.inl ⟨HOK.out, _, _, rfl, K2.out, K3.out⟩⟩
        simp [results, Try.results44, go_sem, c0, c1]

end Go.Proofs.Ytchilccmnaihkaa
