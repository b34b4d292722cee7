import Derived.Test.YtjmbfjaahadbhaaGreatDoorQPcJ
set_option linter.unusedVariables false
set_option linter.unusedSimpArgs false
namespace Go.Proofs.YtjmbfjaahadbhaaGreatDoor
open Go.RowKit (wrap32 wrap64)

/-- What enter leaves. -/
def EnE (B0 B b go gm gl gn N : Nat) (cl : Nat → List Nat) (clv : Value) (of : Nat → Int) (met low nxt : Nat → Nat) (path opn : List Nat) (count steps g : Nat) (w : World) (e : Ending) (w' : World) : Prop :=
  e = .returned (.tuple #[]) ∧ Se w' B0 B b go gm gl gn N cl clv of (Wg.upd met g (steps + 1)) (Wg.upd low g (steps + 1)) nxt (path ++ [g]) (opn ++ [g]) count (steps + 1) ∧ Fr (fun k => B0 ≤ k) w w'

theorem iown_cap {w : World} {B : Nat} {v : Value} {l : List Int} (h : IOwn w B v l) : ∃ a c, v = .slice a l.length c := by
  have := own_slice h
  simpa [IOwn] using this

set_option maxRecDepth 100000 in
set_option maxHeartbeats 4000000 in
theorem senter_any {B0 B b go gm gl gn N : Nat} {cl : Nat → List Nat} {clv : Value} {of : Nat → Int} {met low nxt : Nat → Nat} {path opn : List Nat} {count steps : Nat} (g : Nat) (w : World) (h : Se w B0 B b go gm gl gn N cl clv of met low nxt path opn count steps) (hg : g < N) (h0 : met g = 0) (hp : ∀ i p, path[i]? = some p → path.length = i + 1 → (cl p)[nxt p]? = some g) (hN : N ≤ 1000000) :
    Calls Tryz.prog 66 #[.pointer (some ⟨b, 0, none⟩), vI (g : Int)] w (EnE B0 B b go gm gl gn N cl clv of met low nxt path opn count steps g w) := by
  have hst := h.ti.lt hg h0
  have hlp : path.length ≤ N := nodup_le (h.ti.ps.imp (fun h e => by rw [e] at h; omega)) (fun x hx => h.ti.mN x ((h.ti.om x).1 (h.ti.po x hx)).1)
  have hlo : opn.length ≤ N := nodup_le (h.ti.os.imp (fun h e => by rw [e] at h; omega)) (fun x hx => h.ti.mN x ((h.ti.om x).1 hx).1)
  have HTI : Hd (TI N cl of (Wg.upd met g (steps + 1)) (Wg.upd low g (steps + 1)) nxt (path ++ [g]) (opn ++ [g]) count (steps + 1)) := h.ti.enter hg h0 hp
  have HLA : Hd (LB B0 w clv (zLs N cl)) := h.la
  have HB : Hd (B0 ≤ b ∧ B0 ≤ go ∧ B0 ≤ gm ∧ B0 ≤ gl ∧ B0 ≤ gn ∧ B0 ≤ B ∧ B ≤ w.heap.size) := h.hB
  obtain ⟨⟨pv, ov, hs⟩, -, -, -⟩ := h
  obtain ⟨pa, pc, epv⟩ := iown_cap hs.rp
  obtain ⟨oa, oc, eov⟩ := iown_cap hs.ro
  rw [List.length_map] at epv eov
  subst epv eov
  have hs1 := hs.setSteps
  have hs2 := ((hs1.setMet g ((steps + 1 : Nat) : Int)).setLow g ((steps + 1 : Nat) : Int))
  rw [zF_upd, zF_upd] at hs2
  obtain ⟨w1, hw1⟩ : ∃ w1, w1 = w.setCell ⟨b, 8, none⟩ (vI ((steps + 1 : Nat) : Int)) := ⟨_, rfl⟩
  obtain ⟨w2, hw2⟩ : ∃ w2, w2 = ((w1.setCell ⟨gm, g, none⟩ (vI ((steps + 1 : Nat) : Int))).setCell ⟨gl, g, none⟩ (vI ((steps + 1 : Nat) : Int))).drew := ⟨_, rfl⟩
  rw [← hw1] at hs1 hs2
  have HS1 : Hd (Sc w1 B b go gm gl gn N clv (.slice pa path.length pc) (.slice oa opn.length oc) of (zF met) (zF low) (zF nxt) count (steps + 1) (zL path) (zL opn)) := hs1
  have HS2 : Hd (Sc w2 B b go gm gl gn N clv (.slice pa path.length pc) (.slice oa opn.length oc) of (zF (Wg.upd met g (steps + 1))) (zF (Wg.upd low g (steps + 1))) (zF nxt) count (steps + 1) (zL path) (zL opn)) := by
    unfold Hd
    rw [hw2]
    exact hs2.stay (Fr.refl _ _).drew
  have HF2 : Hd (Fr (fun k => B0 ≤ k) w w2) := by
    obtain ⟨b1, b2, b3, b4, b5, b6, b7⟩ := HB.out
    unfold Hd
    rw [hw2, hw1]
    exact ((((Fr.refl _ w).setCell ⟨b, 8, none⟩ _ (Or.inl b1)).setCell ⟨gm, g, none⟩ _ (Or.inl b3)).setCell ⟨gl, g, none⟩ _ (Or.inl b4)).drew
  have HW1 : Hd (w1 = w.setCell ⟨b, 8, none⟩ (vI ((steps + 1 : Nat) : Int))) := hw1
  have HW2 : Hd (w2 = ((w1.setCell ⟨gm, g, none⟩ (vI ((steps + 1 : Nat) : Int))).setCell ⟨gl, g, none⟩ (vI ((steps + 1 : Nat) : Int))).drew) := hw2
  have c8 : w.cell? ⟨b, 8, none⟩ = some (vI (steps : Int)) := by rw [cell_of0 hs.blk]; rfl
  have z8 : w.frozen? ⟨b, 8, none⟩ = false := frozen_of hs.blk 8
  have esn : (steps : Int) + 1 = ((steps + 1 : Nat) : Int) := by omega
  have hsl : (steps : Int) < 1000000 := by omega
  clear hw1 hw2 hs1 hs2 hs hp h0
  generalize hsn : ((steps + 1 : Nat) : Int) = sn at *
  have HSN : Hd (((steps + 1 : Nat) : Int) = sn) := hsn
  clear hsn
  go_enter Tryz.func66, Tryz.ntmps66
  go_upto_region 1 with fail
  rw [← HW1.out]
  clear c8 z8 HW1 esn
  have c8 : w1.cell? ⟨b, 8, none⟩ = some (vI sn) := by rw [cell_of0 HS1.out.blk, ← HSN.out]; rfl
  have c3 : w1.cell? ⟨b, 3, none⟩ = some (.slice (some ⟨gm, 0, none⟩) N N) := by rw [cell_of0 HS1.out.blk]; rfl
  have c4 : w1.cell? ⟨b, 4, none⟩ = some (.slice (some ⟨gl, 0, none⟩) N N) := by rw [cell_of0 HS1.out.blk]; rfl
  have p3 := HS1.out.rme.cell hg
  have z3 := HS1.out.rme.frozen g
  have p4 := HS1.out.rlo.cell hg
  have z4 := HS1.out.rlo.frozen g
  have g0 : (0 : Int) ≤ g := by omega
  have g1 : (g : Int) < N := by omega
  have k4 := HS1.out.setMet g sn
  have p5 : (w1.setCell ⟨gm, g, none⟩ (vI sn)).drew.cell? ⟨gl, g, none⟩ = some (vI (zF low g)) := k4.rlo.cell hg
  have z5 : (w1.setCell ⟨gm, g, none⟩ (vI sn)).drew.frozen? ⟨gl, g, none⟩ = false := k4.rlo.frozen g
  have p6 : (w1.setCell ⟨gm, g, none⟩ (vI sn)).cell? ⟨gl, g, none⟩ = some (vI (zF low g)) := k4.rlo.cell hg
  have z6 : (w1.setCell ⟨gm, g, none⟩ (vI sn)).frozen? ⟨gl, g, none⟩ = false := k4.rlo.frozen g
  have hml : gm ≠ gl := HS1.out.ne.2.2.2.1
  have hlm : gl ≠ gm := hml.symm
  clear k4
  go_region
  rw [← HW2.out]
  clear c8 c3 c4 p3 z3 p4 z4 p5 z5 p6 z6 HW2 HS1 g0 g1 hml hlm
  -- the path
  have c6 : w2.cell? ⟨b, 6, none⟩ = some (.slice pa path.length pc) := by rw [cell_of0 HS2.out.blk]; rfl
  have hFz : Fr (fun _ => False) w2 (w2.alloc (.cells #[vI (g : Int)] 3)) := Fr.alloc (Fr.refl _ w2) _
  have HFz : Hd (Fr (fun _ => False) w2 (w2.alloc (.cells #[vI (g : Int)] 3))) := hFz
  have HSz : Hd (Sc (w2.alloc (.cells #[vI (g : Int)] 3)) B b go gm gl gn N clv (.slice pa path.length pc) (.slice oa opn.length oc) of (zF (Wg.upd met g (steps + 1))) (zF (Wg.upd low g (steps + 1))) (zF nxt) count (steps + 1) (zL path) (zL opn)) := HS2.out.stay hFz
  have HNW : Hd (∀ j' u, [vI (g : Int)][j']? = some u → (w2.alloc (.cells #[vI (g : Int)] 3)).cell? ((⟨w2.heap.size, 0, none⟩ : Addr).add j') = some u) := World.news_of_block (w := w2.alloc (.cells #[vI (g : Int)] 3)) (cs := #[vI (g : Int)]) (heap_new0 w2 _)
  have HSZ1 : Hd ((w2.alloc (.cells #[vI (g : Int)] 3)).heap.size = w2.heap.size + 1) := World.size_alloc _ _
  have HBS : Hd (B ≤ (w2.alloc (.cells #[vI (g : Int)] 3)).heap.size) := by
    have k1 := HB.out.2.2.2.2.2.2
    have k2 := HF2.out.size
    have k3 := HSZ1.out
    unfold Hd
    omega
  have HOW : Hd ((w2.alloc (.cells #[vI (g : Int)] 3)).ownsRow B 3 1 (.slice pa path.length pc) path.length ((zL path).map vI)) := by
    have := HSz.out.rp
    unfold IOwn at this
    rw [List.length_map] at this
    exact this
  clear hFz
  go_wp2_with ((at_builtin; refine Hd.out ?_))
  unfold Hd
  obtain ⟨i3, hi3, hz3, hs3, hb3⟩ := info_parts (P := Tryz.prog) (e := 3) (z := .int .i64 0) (size := 1) (bytes := 8) (by kernel_rfl)
  refine wpList_append_lies _ rfl (.tmp 35) (.tmp 37) 25 rfl B 3 i3 (.int .i64 0) 1 8 under64 hi3 hz3 hs3 hb3 rfl (by omega) (.slice pa path.length pc) path.length _ rfl HOW.out ⟨w2.heap.size, 0, none⟩ 1 1 [vI (g : Int)] rfl rfl HNW.out (by intro u hu; rw [List.mem_singleton] at hu; rw [hu]; rfl) (by omega) (by unfold maxLen; omega) (by omega) HBS.out (w2.heap.size + 1) (by simp) ?_
  intro g6 cap6 w6 hown6 hgrow6 hat6 hlt6
  clear hi3 hz3 hs3 hb3
  obtain ⟨k1, k2, k3⟩ := HSz.out.setPath (w6 := w6) (pv' := .slice (some ⟨g6, 0, none⟩) (path.length + 1) cap6) (path' := zL (path ++ [g])) (grown_frL hgrow6) (by rw [zL_app]; unfold IOwn; simpa using hown6) (fun k e => by
    have e' : g6 = k := Option.some.inj e
    subst e'
    rcases hat6 with e | e
    · exact Or.inl e
    · exact Or.inr (by have := HSZ1.out; omega))
  obtain ⟨w3, hw3⟩ : ∃ w3, w3 = w6.setCell ⟨b, 6, none⟩ (.slice (some ⟨g6, 0, none⟩) (path.length + 1) cap6) := ⟨_, rfl⟩
  rw [← hw3] at k1
  have HS3 : Hd (Sc w3 B b go gm gl gn N clv (.slice (some ⟨g6, 0, none⟩) (path.length + 1) cap6) (.slice oa opn.length oc) of (zF (Wg.upd met g (steps + 1))) (zF (Wg.upd low g (steps + 1))) (zF nxt) count (steps + 1) (zL (path ++ [g])) (zL opn)) := k1
  have HF3 : Hd (Fr (fun k => B0 ≤ k) w w3) := by
    have b1 := HB.out.1
    have b6 := HB.out.2.2.2.2.2.1
    unfold Hd
    rw [hw3]
    refine Fr.setCell ?_ _ _ (Or.inl b1)
    refine ((HF2.out.trans (HFz.out.mono (fun _ _ e => e.elim))).trans ((grown_frL hgrow6).mono (fun k _ e => ?_)))
    have := (World.ownsRow.lt HOW.out k e).1
    omega
  have HW3 : Hd (w3 = w6.setCell ⟨b, 6, none⟩ (.slice (some ⟨g6, 0, none⟩) (path.length + 1) cap6)) := hw3
  clear hown6 hgrow6 hat6 hlt6 HSz HNW HSZ1 HBS HOW HFz c6 HS2 HF2 k1 hw3
  go_upto_region 3 with fail
  rw [← HW3.out]
  clear HW3 k2 k3
  have c7 : w3.cell? ⟨b, 7, none⟩ = some (.slice oa opn.length oc) := by rw [cell_of0 HS3.out.blk]; rfl
  have hFz : Fr (fun _ => False) w3 (w3.alloc (.cells #[vI (g : Int)] 3)) := Fr.alloc (Fr.refl _ w3) _
  have HFz : Hd (Fr (fun _ => False) w3 (w3.alloc (.cells #[vI (g : Int)] 3))) := hFz
  have HSz : Hd (Sc (w3.alloc (.cells #[vI (g : Int)] 3)) B b go gm gl gn N clv (.slice (some ⟨g6, 0, none⟩) (path.length + 1) cap6) (.slice oa opn.length oc) of (zF (Wg.upd met g (steps + 1))) (zF (Wg.upd low g (steps + 1))) (zF nxt) count (steps + 1) (zL (path ++ [g])) (zL opn)) := HS3.out.stay hFz
  have HNW : Hd (∀ j' u, [vI (g : Int)][j']? = some u → (w3.alloc (.cells #[vI (g : Int)] 3)).cell? ((⟨w3.heap.size, 0, none⟩ : Addr).add j') = some u) := World.news_of_block (w := w3.alloc (.cells #[vI (g : Int)] 3)) (cs := #[vI (g : Int)]) (heap_new0 w3 _)
  have HSZ1 : Hd ((w3.alloc (.cells #[vI (g : Int)] 3)).heap.size = w3.heap.size + 1) := World.size_alloc _ _
  have HBS : Hd (B ≤ (w3.alloc (.cells #[vI (g : Int)] 3)).heap.size) := by
    have k1 := HB.out.2.2.2.2.2.2
    have k2 := HF3.out.size
    have k3 := HSZ1.out
    unfold Hd
    omega
  have HOW : Hd ((w3.alloc (.cells #[vI (g : Int)] 3)).ownsRow B 3 1 (.slice oa opn.length oc) opn.length ((zL opn).map vI)) := by
    have := HSz.out.ro
    unfold IOwn at this
    rw [List.length_map] at this
    exact this
  clear hFz
  go_wp2_with ((at_builtin; refine Hd.out ?_))
  unfold Hd
  obtain ⟨i3, hi3, hz3, hs3, hb3⟩ := info_parts (P := Tryz.prog) (e := 3) (z := .int .i64 0) (size := 1) (bytes := 8) (by kernel_rfl)
  refine wpList_append_lies _ rfl (.tmp 45) (.tmp 47) 25 rfl B 3 i3 (.int .i64 0) 1 8 under64 hi3 hz3 hs3 hb3 rfl (by omega) (.slice oa opn.length oc) opn.length _ rfl HOW.out ⟨w3.heap.size, 0, none⟩ 1 1 [vI (g : Int)] rfl rfl HNW.out (by intro u hu; rw [List.mem_singleton] at hu; rw [hu]; rfl) (by omega) (by unfold maxLen; omega) (by omega) HBS.out (w3.heap.size + 1) (by simp) ?_
  intro g7 cap7 w7 hown6 hgrow6 hat6 hlt6
  clear hi3 hz3 hs3 hb3
  obtain ⟨k1, k2, k3⟩ := HSz.out.setOpn (w6 := w7) (ov' := .slice (some ⟨g7, 0, none⟩) (opn.length + 1) cap7) (opn' := zL (opn ++ [g])) (grown_frL hgrow6) (by rw [zL_app]; unfold IOwn; simpa using hown6) (fun k e => by
    have e' : g7 = k := Option.some.inj e
    subst e'
    rcases hat6 with e | e
    · exact Or.inl e
    · exact Or.inr (by have := HSZ1.out; omega))
  have hF4 : Fr (fun k => B0 ≤ k) w (w7.setCell ⟨b, 7, none⟩ (.slice (some ⟨g7, 0, none⟩) (opn.length + 1) cap7)) := by
    have b1 := HB.out.1
    have b6 := HB.out.2.2.2.2.2.1
    refine Fr.setCell ?_ _ _ (Or.inl b1)
    refine ((HF3.out.trans (HFz.out.mono (fun _ _ e => e.elim))).trans ((grown_frL hgrow6).mono (fun k _ e => ?_)))
    have := (World.ownsRow.lt HOW.out k e).1
    omega
  have HE : Hd (EnE B0 B b go gm gl gn N cl clv of met low nxt path opn count steps g w (.returned (.tuple #[])) (w7.setCell ⟨b, 7, none⟩ (.slice (some ⟨g7, 0, none⟩) (opn.length + 1) cap7))) := by
    obtain ⟨b1, b2, b3, b4, b5, b6, b7⟩ := HB.out
    exact ⟨rfl, ⟨⟨_, _, k1⟩, HLA.out.fr (by omega) hF4 (fun k hk => by omega), HTI.out, b1, b2, b3, b4, b5, b6, Nat.le_trans b7 hF4.size⟩, hF4⟩
  clear hown6 hgrow6 hat6 hlt6 HSz HNW HSZ1 HBS HOW HFz c7 HS3 HF3 k1 hF4
  go_wp2_with fail
  go_end0
  exact HE.out

theorem TI.cnt {N : Nat} {cl : Nat → List Nat} {of : Nat → Int} {met low nxt : Nat → Nat} {path opn : List Nat} {count steps : Nat} (h : TI N cl of met low nxt path opn count steps) : count ≤ N := by
  have ex : ∀ k, ∃ x, k < count → of x = (k : Int) := fun k => by
    by_cases hk : k < count
    · obtain ⟨x, hx⟩ := h.cs k hk
      exact ⟨x, fun _ => hx⟩
    · exact ⟨0, fun h => absurd h hk⟩
  have hg : ∀ k, k < count → of (Classical.choose (ex k)) = (k : Int) := fun k => Classical.choose_spec (ex k)
  have := nodup_le (l := (List.range count).map (fun k => Classical.choose (ex k))) (n := N) (by
    rw [List.Nodup, List.pairwise_map]
    refine List.pairwise_lt_range.imp_of_mem (fun {a b} ha hb hlt e => ?_)
    rw [List.mem_range] at ha hb
    have k1 := hg a ha
    have k2 := hg b hb
    rw [e] at k1
    omega) (by
    intro x hx
    rw [List.mem_map] at hx
    obtain ⟨k, hk, rfl⟩ := hx
    rw [List.mem_range] at hk
    exact h.mN _ (h.cm _ (by rw [hg k hk]; omega)).1)
  rwa [List.length_map, List.length_range] at this
/-- A list of one's own that is not empty lies at the beginning of its block. -/
theorem iown_some {w : World} {B : Nat} {v : Value} {l : List Int} (h : IOwn w B v l) (hl : 0 < l.length) : ∃ g c, v = .slice (some ⟨g, 0, none⟩) l.length c ∧ l.length ≤ c ∧ ∀ i (hi : i < l.length), w.cell? ⟨g, i, none⟩ = some (vI l[i]) := by
  rcases h.2 with ⟨e, e2⟩ | ⟨g, cap, cur, e, -, -, h3, -⟩
  · omega
  · obtain ⟨a, c, e2, h4⟩ := h.ia
    obtain ⟨k, o, e3, -, h5⟩ := h4 (List.length_pos_iff.1 hl)
    rw [e] at e2
    injection e2 with e4 e5 e6
    rw [e3] at e4
    injection e4 with e4
    injection e4 with e7 e8
    subst e7 e8
    exact ⟨g, cap, by rw [e], h3, fun i hi => by have := h5 i hi; rwa [Nat.zero_add] at this⟩
/-- What leave leaves. -/
def LvE (B0 B b go gm gl gn N : Nat) (cl : Nat → List Nat) (clv : Value) (met low nxt : Nat → Nat) (r : List Nat) (steps : Nat) (w : World) (e : Ending) (w' : World) : Prop :=
  e = .returned (.tuple #[]) ∧ (∃ of' opn' count', Se w' B0 B b go gm gl gn N cl clv of' met low nxt r opn' count' steps) ∧ Fr (fun k => B0 ≤ k) w w'

set_option maxRecDepth 100000 in
set_option maxHeartbeats 4000000 in
theorem sleave_any {B0 B b go gm gl gn N : Nat} {cl : Nat → List Nat} {clv : Value} {of : Nat → Int} {met low nxt : Nat → Nat} {r opn : List Nat} {count steps f : Nat} (w : World) (h : Se w B0 B b go gm gl gn N cl clv of met low nxt (r ++ [f]) opn count steps) (hn : nxt f = (cl f).length) (hN : N ≤ 1000000) :
    Calls Tryz.prog 67 #[.pointer (some ⟨b, 0, none⟩)] w (LvE B0 B b go gm gl gn N cl clv met low nxt r steps w) := by
  have hfo : f ∈ opn := h.ti.po f (by simp)
  have hfm := (h.ti.om f).1 hfo
  have hfN : f < N := h.ti.mN f hfm.1
  have hcnt := h.ti.cnt
  have hlp : (r ++ [f]).length ≤ N := nodup_le (h.ti.ps.imp (fun h e => by rw [e] at h; omega)) (fun x hx => h.ti.mN x ((h.ti.om x).1 (h.ti.po x hx)).1)
  rw [List.length_append, List.length_singleton] at hlp
  have hnd : opn.Nodup := h.ti.os.imp (fun h e => by rw [e] at h; omega)
  have hlo : opn.length ≤ N := nodup_le hnd (fun x hx => h.ti.mN x ((h.ti.om x).1 hx).1)
  have hms : met f ≤ steps := h.ti.ms f
  have hlm := (h.ti.lo f hfo).1
  have hsN : steps ≤ N := by have := h.ti.st; omega
  have HTI : Hd (TI N cl of met low nxt (r ++ [f]) opn count steps) := h.ti
  have HLA : Hd (LB B0 w clv (zLs N cl)) := h.la
  have HB : Hd (B0 ≤ b ∧ B0 ≤ go ∧ B0 ≤ gm ∧ B0 ≤ gl ∧ B0 ≤ gn ∧ B0 ≤ B ∧ B ≤ w.heap.size) := h.hB
  obtain ⟨⟨pv, ov, hs⟩, -, -, -⟩ := h
  obtain ⟨gp, pc, epv, hpc, hpcell⟩ := iown_some hs.rp (by simp)
  obtain ⟨gO, oc, eov, -, -⟩ := iown_some hs.ro (by rw [List.length_map]; exact List.length_pos_of_mem hfo)
  have hplen : (zL (r ++ [f])).length = r.length + 1 := by simp
  rw [hplen] at epv hpc
  rw [List.length_map] at eov
  subst epv eov
  have pl : w.cell? ⟨gp, r.length, none⟩ = some (vI (f : Int)) := by
    rw [hpcell r.length (by rw [hplen]; omega)]
    simp
  have hcut := iown_cut hs.rp (m := r.length) (by omega) hplen.symm
  have htk : (zL (r ++ [f])).take r.length = zL r := by
    rw [zL_app, List.take_append_of_le_length (by simp)]
    exact List.take_of_length_le (by simp)
  rw [htk] at hcut
  obtain ⟨k1, -, -⟩ := hs.setPath (w6 := w) (Fr.refl _ w) hcut (fun k e => Or.inl e)
  obtain ⟨w1, hw1⟩ : ∃ w1, w1 = w.setCell ⟨b, 6, none⟩ (.slice (some ⟨gp, 0, none⟩) r.length pc) := ⟨_, rfl⟩
  rw [← hw1] at k1
  have HS1 : Hd (Sc w1 B b go gm gl gn N clv (.slice (some ⟨gp, 0, none⟩) r.length pc) (.slice (some ⟨gO, 0, none⟩) opn.length oc) of (zF met) (zF low) (zF nxt) count steps (zL r) (zL opn)) := k1
  have HF1 : Hd (Fr (fun k => B0 ≤ k) w w1) := by unfold Hd; rw [hw1]; exact (Fr.refl _ w).setCell _ _ (Or.inl HB.out.1)
  have HW1 : Hd (w1 = w.setCell ⟨b, 6, none⟩ (.slice (some ⟨gp, 0, none⟩) r.length pc)) := hw1
  have c6 : w.cell? ⟨b, 6, none⟩ = some (.slice (some ⟨gp, 0, none⟩) (r.length + 1) pc) := by rw [cell_of0 hs.blk]; rfl
  have z6 : w.frozen? ⟨b, 6, none⟩ = false := frozen_of hs.blk 6
  have q1 : ((r.length + 1 : Nat) : Int) - 1 = (r.length : Int) := by omega
  have q0 : (0 : Int) ≤ (r.length : Int) := by omega
  have q2 : (r.length : Int) < ((r.length + 1 : Nat) : Int) := by omega
  have q3 : (r.length : Int) < (r.length : Int) + 1 := by omega
  have q4 : (r.length : Int) ≤ (pc : Int) := by omega
  have HFM : Hd (met f ≠ 0 ∧ of f < 0) := hfm
  have HND : Hd (opn.Nodup ∧ f ∈ opn) := ⟨hnd, hfo⟩
  clear k1 hs hpcell hcut htk hw1 hplen hnd hfo hfm
  go_enter Tryz.func67, Tryz.ntmps67
  go_upto_region 3 with fail
  rw [← HW1.out]
  clear HW1 c6 z6 pl q1 q2 q3 q4
  have c3 : w1.cell? ⟨b, 3, none⟩ = some (.slice (some ⟨gm, 0, none⟩) N N) := by rw [cell_of0 HS1.out.blk]; rfl
  have c4 : w1.cell? ⟨b, 4, none⟩ = some (.slice (some ⟨gl, 0, none⟩) N N) := by rw [cell_of0 HS1.out.blk]; rfl
  have p3 : w1.cell? ⟨gm, f, none⟩ = some (vI (met f : Int)) := HS1.out.rme.cell hfN
  have p4 : w1.cell? ⟨gl, f, none⟩ = some (vI (low f : Int)) := HS1.out.rlo.cell hfN
  have g0 : (0 : Int) ≤ f := by omega
  have g1 : (f : Int) < N := by omega
  by_cases hlmf : low f = met f
  · have de : ((low f : Int) == (met f : Int)) = true := by simp [hlmf]
    have HLM : Hd (low f = met f) := hlmf
    clear hlmf
    go_quiet (fail)
    obtain ⟨W, hW⟩ : ∃ W, W = w1.drewN nq := ⟨_, rfl⟩
    have fW : Fr (fun _ => False) w1 W := by rw [hW]; exact ⟨rfl, rfl, rfl, Nat.le_refl _, fun _ _ _ => rfl⟩
    have HS2 : Hd (Sc W B b go gm gl gn N clv (.slice (some ⟨gp, 0, none⟩) r.length pc) (.slice (some ⟨gO, 0, none⟩) (zL opn).length oc) of (zF met) (zF low) (zF nxt) count steps (zL r) (zL opn)) := by
      rw [List.length_map]
      exact HS1.out.stay fW
    have HF2 : Hd (Fr (fun k => B0 ≤ k) w W) := HF1.out.trans (fW.mono (fun _ _ e => e.elim))
    rw [← hW]
    clear hW fW HS1 HF1 c3 c4 p3 p4
    go_wp2_with fail
    obtain ⟨a, b', eab⟩ := List.append_of_mem HND.out.2
    subst eab
    have hl2 : (zL (a ++ f :: b')).length = a.length + (b'.length + 1) := by simp
    refine (tell_any a.length f W HS2.out (by omega) (by simp) hfN (by
      unfold zL
      rw [List.Nodup, List.pairwise_map]
      exact HND.out.1.imp (fun h e => h (by omega))) (by
      intro x hx
      rw [List.mem_map] at hx
      obtain ⟨y, hy, rfl⟩ := hx
      have := HTI.out.mN y ((HTI.out.om y).1 hy).1
      omega) HFM.out.2 (by omega) hN (by rw [List.length_map]; omega)).mono ?_
    rintro e w4 ⟨rfl, ⟨ov', h4, -⟩, hF4⟩
    have eof : ofX of (zL (a ++ f :: b')) count a.length = (fun x => if x ∈ f :: b' then (count : Int) else of x) := by
      funext x
      unfold ofX
      have : (zL (a ++ f :: b')).drop a.length = zL (f :: b') := by
        unfold zL
        rw [List.map_append, List.drop_append_of_le_length (by simp), List.drop_of_length_le (by simp)]
        rfl
      rw [this]
      by_cases e : x ∈ f :: b'
      · rw [if_pos e, if_pos (List.mem_map.2 ⟨x, e, rfl⟩)]
      · rw [if_neg e, if_neg (fun h => e (by
          obtain ⟨y, hy, e2⟩ := List.mem_map.1 h
          have : y = x := by omega
          rw [← this]; exact hy))]
    have etk : (zL (a ++ f :: b')).take a.length = zL a := by
      unfold zL
      rw [List.map_append, List.take_append_of_le_length (by simp), List.take_of_length_le (by simp)]
    rw [eof, etk] at h4
    have HE : Hd (LvE B0 B b go gm gl gn N cl clv met low nxt r steps w (.returned (.tuple #[])) w4) := by
      obtain ⟨b1, b2, b3, b4, b5, b6, b7⟩ := HB.out
      have hF5 : Fr (fun k => B0 ≤ k) w w4 := HF2.out.trans (hF4.mono (fun k _ e => by rcases e with e | e <;> omega))
      exact ⟨rfl, ⟨_, a, count + 1, ⟨_, _, h4⟩, HLA.out.fr (by omega) hF5 (fun k hk => by omega), HTI.out.told hn HLM.out, b1, b2, b3, b4, b5, b6, Nat.le_trans b7 hF5.size⟩, hF5⟩
    clear h4 hF4 HS2 HF2
    go_wp2_with fail
    go_end0
    exact HE.out
  · have de : ((low f : Int) == (met f : Int)) = false := by simp; omega
    have HLM : Hd (low f ≠ met f) := hlmf
    clear hlmf
    go_quiet (fail)
    obtain ⟨W, hW⟩ : ∃ W, W = w1.drewN nq := ⟨_, rfl⟩
    have fW : Fr (fun _ => False) w1 W := by rw [hW]; exact ⟨rfl, rfl, rfl, Nat.le_refl _, fun _ _ _ => rfl⟩
    have HE : Hd (LvE B0 B b go gm gl gn N cl clv met low nxt r steps w (.returned (.tuple #[])) W) := by
      obtain ⟨b1, b2, b3, b4, b5, b6, b7⟩ := HB.out
      have hF5 : Fr (fun k => B0 ≤ k) w W := HF1.out.trans (fW.mono (fun _ _ e => e.elim))
      exact ⟨rfl, ⟨of, opn, count, ⟨_, _, HS1.out.stay fW⟩, HLA.out.fr (by omega) hF5 (fun k hk => by omega), HTI.out.leave hn HLM.out, b1, b2, b3, b4, b5, b6, Nat.le_trans b7 hF5.size⟩, hF5⟩
    rw [← hW]
    clear hW fW HS1 HF1 c3 c4 p3 p4
    go_wp2_with fail
    go_end0
    exact HE.out

/-- One more number in one of the lists. -/
theorem Cr.push {w wz w9 : World} {B cg r g6 cap6 m n vc : Nat} {va : Option Addr} {cv : Nat → Value} {cl : Nat → List Int} {x : Int} (h : Cr w B cg r cv cl) (fz : Fr (fun _ => False) w wz) (hsz : wz.heap.size = w.heap.size + 1) (hm : m < r) (ev : cv m = .slice va n vc) (hlen : n = (cl m).length) (hg : wz.grownBy w9 (Value.slice va n vc).ownBlock) (ho : w9.ownsRow B 3 1 (.slice (some ⟨g6, 0, none⟩) (n + 1) cap6) (n + 1) ((cl m).map vI ++ [vI x])) (hat : (Value.slice va n vc).ownBlock = some g6 ∨ g6 = w.heap.size + 1) :
    Cr (w9.setCell ⟨cg, m, none⟩ (.slice (some ⟨g6, 0, none⟩) (n + 1) cap6)) B cg r (Wg.upd cv m (.slice (some ⟨g6, 0, none⟩) (n + 1) cap6)) (Wg.upd cl m (cl m ++ [x])) ∧ w9.cell? ⟨cg, m, none⟩ = some (.slice va n vc) ∧ w9.frozen? ⟨cg, m, none⟩ = false ∧ Fr (fun k => k = cg ∨ B ≤ k) w (w9.setCell ⟨cg, m, none⟩ (.slice (some ⟨g6, 0, none⟩) (n + 1) cap6)) ∧ Fr (fun k => B ≤ k) w w9 := by
  subst hlen
  have hz := h.stay fz
  have f9 := grown_frL hg
  have hge : ∀ k, (Value.slice va (cl m).length vc).ownBlock = some k → B ≤ k := fun k e => ((h.own m hm).ge k (by rw [ev]; exact e)).1
  have hrow9 : Wg.Row w9 25 cg r cv := hz.row.fr f9 (fun e => iown_row_ne hz.row (by decide) (hz.own m hm) (by rw [ev]; exact e))
  have ho' : IOwn w9 B (.slice (some ⟨g6, 0, none⟩) ((cl m).length + 1) cap6) (cl m ++ [x]) := by unfold IOwn; simpa using ho
  have happ := Cr.app (x := x) hz hm (by rw [ev]; exact hg) ho' (by
    rw [ev]
    rcases hat with e | e
    · exact Or.inl e
    · exact Or.inr (by omega))
  have fb : Fr (fun k => B ≤ k) w w9 := (fz.mono (fun _ _ e => e.elim)).trans (f9.mono (fun k _ e => hge k e))
  refine ⟨happ, by rw [hrow9.cell hm, ev], hrow9.frozen m, ?_, fb⟩
  exact (fb.mono (fun _ _ e => Or.inr e)).trans ((setCell_fr w9 cg m _).mono (fun _ _ e => Or.inl e))
/-- What addCaller leaves. -/
def AcE (B cg n : Nat) (L : Nat → List Nat) (d c : Nat) (w : World) (e : Ending) (w' : World) : Prop :=
  e = .returned (.tuple #[]) ∧ (∃ cv', Cr w' B cg n cv' (fun i => zL (Wg.upd L d (if c = d ∨ (L d).getLast? = some c then L d else L d ++ [c]) i))) ∧ Fr (fun k => k = cg ∨ B ≤ k) w w'
theorem zL_upd (L : Nat → List Nat) (d : Nat) (l : List Nat) : (fun i => zL (Wg.upd L d l i)) = Wg.upd (fun i => zL (L i)) d (zL l) := by
  funext i
  unfold Wg.upd
  split <;> rfl

set_option maxRecDepth 100000 in
set_option maxHeartbeats 4000000 in
theorem addCaller_any {b B cg n : Nat} {x0 x1 x2 : Value} {cv : Nat → Value} {L : Nat → List Nat} (d c : Nat) (w : World) (hb : w.heap[b]? = some (.cells #[x0, x1, x2, .slice (some ⟨cg, 0, none⟩) n n] 76)) (h : Cr w B cg n cv (fun i => zL (L i))) (hbB : b < B) (hBw : B ≤ w.heap.size) (hd : d < n) (hn : n ≤ 1000000) (hc : c ≤ 1000000) (hl : (L d).length ≤ 1000000) :
    Calls Tryz.prog 45 #[.pointer (some ⟨b, 0, none⟩), vI (d : Int), vI (c : Int)] w (AcE B cg n L d c w) := by
  have c3 : w.cell? ⟨b, 3, none⟩ = some (.slice (some ⟨cg, 0, none⟩) n n) := by rw [cell_of0 hb]; rfl
  have HC : Hd (Cr w B cg n cv (fun i => zL (L i))) := h
  have HB : Hd (w.heap[b]? = some (.cells #[x0, x1, x2, .slice (some ⟨cg, 0, none⟩) n n] 76)) := hb
  obtain ⟨va, vc, ev, p0, -⟩ := h.cell hd
  simp only [List.length_map] at ev p0
  have hd0 : (0 : Int) ≤ d := by omega
  have hd1 : (d : Int) < n := by omega
  obtain ⟨l, hll⟩ : ∃ l, l = L d := ⟨_, rfl⟩
  have HLL : Hd (l = L d) := hll
  rw [← hll] at ev p0 hl
  have hEQ : ∀ (P : Prop), P → (c = d ∨ (L d).getLast? = some c) → P := fun P p _ => p
  have same : (c = d ∨ (L d).getLast? = some c) → AcE B cg n L d c w (.returned (.tuple #[])) w := fun e => by
    refine ⟨rfl, ⟨cv, ?_⟩, Fr.refl _ _⟩
    rw [if_pos e, zL_upd]
    have : Wg.upd (fun i => zL (L i)) d (zL (L d)) = fun i => zL (L i) := by
      funext i
      by_cases e : i = d
      · rw [e, Wg.upd_same]
      · rw [Wg.upd_ne _ _ e]
    rw [this]
    exact HC.out
  by_cases hcd : c = d
  · have e0 : ((c : Int) == (d : Int)) = true := by simp [hcd]
    have HE : Hd (AcE B cg n L d c w (.returned (.tuple #[])) w) := same (Or.inl hcd)
    clear same hcd hll h hb hEQ
    go_enter Tryz.func45, Tryz.ntmps45
    go_wp2_with fail
    go_end0
    exact HE.out
  · have e0 : ((c : Int) == (d : Int)) = false := by simp; omega
    have HLT : Hd (∀ hne : l ≠ [], ∃ g z, va = some ⟨g, 0, none⟩ ∧ w.cell? ⟨g, l.length - 1, none⟩ = some (vI (z : Nat)) ∧ l.getLast? = some z) := fun hne => by
      have hp : 0 < l.length := List.length_pos_iff.2 hne
      have ho := h.own d hd
      rw [ev] at ho
      show ∃ g z, _
      have hlen : (zL (L d)).length = l.length := by rw [← hll, List.length_map]
      obtain ⟨g, cp, e1, -, gg⟩ := iown_some ho (by rw [hlen]; exact hp)
      injection e1 with e2
      refine ⟨g, l[l.length - 1]'(by omega), e2, ?_, ?_⟩
      · rw [gg (l.length - 1) (by rw [hlen]; omega)]
        congr 2
        simp [hll]
      · rw [List.getLast?_eq_getElem?, List.getElem?_eq_getElem (by omega)]
    by_cases hlast : l.getLast? = some c
    · have hne : l ≠ [] := fun e => by rw [e] at hlast; cases hlast
      obtain ⟨g, z, rfl, p1, hz⟩ := HLT.out hne
      have hzk : z = c := by rw [hz] at hlast; exact Option.some.inj hlast
      have hp : 0 < l.length := List.length_pos_iff.2 hne
      have e1 : decide ((l.length : Int) > 0) = true := by simp; omega
      have e1' : decide ((0 : Int) < (l.length : Int)) = true := by simp; omega
      have e2 : ((z : Int) == (c : Int)) = true := by simp [hzk]
      have j0 : (0 : Int) ≤ (l.length : Int) - 1 := by omega
      have j1 : (l.length : Int) - 1 < l.length := by omega
      have j2 : ((l.length : Int) - 1).toNat = l.length - 1 := by omega
      have HE : Hd (AcE B cg n L d c w (.returned (.tuple #[])) w) := same (Or.inr (by rw [← hll]; exact hlast))
      clear same hlast hz hzk hne HLT hll h hb hEQ hcd
      go_enter Tryz.func45, Tryz.ntmps45
      go_wp2_with fail
      go_end0
      exact HE.out
    · by_cases hne : l = []
      · have e1 : decide ((l.length : Int) > 0) = false := by simp [hne]
        have e1' : decide ((0 : Int) < (l.length : Int)) = false := by simp [hne]
        have e1n : ¬ 0 < l.length := by simp [hne]
        have HNE : Hd (l = []) := hne
        clear hne
        have hCz : Fr (fun _ => False) w (w.alloc (.cells #[vI (c : Int)] 3)).drew := (Fr.alloc (Fr.refl _ w) _).drew
        have HFz : Hd (Fr (fun _ => False) w (w.alloc (.cells #[vI (c : Int)] 3)).drew) := hCz
        have HRW : Hd ((w.alloc (.cells #[vI (c : Int)] 3)).drew.ownsRow B 3 1 (.slice va l.length vc) l.length ((zL l).map vI)) := by
          have k9 := (HC.out.stay hCz).own d hd
          rw [ev] at k9
          rw [hll]
          unfold IOwn at k9
          rw [List.length_map, ← hll] at k9
          rw [← hll]
          exact k9
        have HNW : Hd (∀ j' u, [vI (c : Int)][j']? = some u → (w.alloc (.cells #[vI (c : Int)] 3)).drew.cell? ((⟨w.heap.size, 0, none⟩ : Addr).add j') = some u) := World.news_of_block (w := w.alloc (.cells #[vI (c : Int)] 3)) (cs := #[vI (c : Int)]) (heap_new0 w _)
        have HSZ : Hd ((w.alloc (.cells #[vI (c : Int)] 3)).drew.heap.size = w.heap.size + 1) := by unfold Hd; show (w.alloc (.cells #[vI (c : Int)] 3)).heap.size = _; rw [World.size_alloc]
        have HBS : Hd (B ≤ (w.alloc (.cells #[vI (c : Int)] 3)).drew.heap.size) := by have := HSZ.out; unfold Hd; omega
        have HBz : Hd ((w.alloc (.cells #[vI (c : Int)] 3)).drew.heap[b]? = some (.cells #[x0, x1, x2, .slice (some ⟨cg, 0, none⟩) n n] 76)) := keepF HB.out hCz
        have HEV : Hd (cv d = .slice va l.length vc) := ev
        have c3z : (w.alloc (.cells #[vI (c : Int)] 3)).drew.cell? ⟨b, 3, none⟩ = some (.slice (some ⟨cg, 0, none⟩) n n) := by rw [cell_of0 HBz.out]; rfl
        have c3y : (w.alloc (.cells #[vI (c : Int)] 3)).cell? ⟨b, 3, none⟩ = some (.slice (some ⟨cg, 0, none⟩) n n) := c3z
        have HHL : Hd (¬ (c = d ∨ (L d).getLast? = some c)) := by
          rintro (e | e)
          · exact hcd e
          · rw [← hll] at e; exact hlast e
        clear hCz ev hlast same h hb hEQ hcd hll HLT
        go_enter Tryz.func45, Tryz.ntmps45
        go_upto_region 2 with fail
        go_region_law ((
          obtain ⟨i3, hi3, hz3, hs3, hb3⟩ := info_parts (P := Tryz.prog) (e := 3) (z := .int .i64 0) (size := 1) (bytes := 8) (by kernel_rfl)
          refine step_append_lies _ rfl (.tmp 37) (.tmp 39) 25 rfl B 3 i3 (.int .i64 0) 1 8 under64 hi3 hz3 hs3 hb3 rfl (by omega) (.slice va l.length vc) l.length _ (by simp [Act.eval, Act.put]) HRW.out ⟨w.heap.size, 0, none⟩ 1 1 [vI (c : Int)] (by simp [Act.eval, Act.put]) rfl HNW.out (by intro u hu; simp at hu; subst hu; rfl) (by omega) (by unfold maxLen; omega) (by omega) HBS.out (w.heap.size + 1) (by simp) ?_
          intro g6 cap6 w9 hown6 hgrow6 hat6 hlt6
          obtain ⟨HQ1, p0, z0, hF9, hG9⟩ := Cr.push (x := (c : Int)) HC.out HFz.out HSZ.out hd HEV.out (by rw [HLL.out, List.length_map]) hgrow6 (by rw [HLL.out] at hown6; rw [HLL.out]; exact hown6) hat6
          have c3 : w9.cell? ⟨b, 3, none⟩ = some (.slice (some ⟨cg, 0, none⟩) n n) := by rw [hG9.cell (heap_lt0 HB.out) (by omega), cell_of0 HB.out]; rfl
          have HQ2 : Hd (AcE B cg n L d c w (.returned (.tuple #[])) (w9.setCell ⟨cg, d, none⟩ (.slice (some ⟨g6, 0, none⟩) (l.length + 1) cap6))) := ⟨rfl, ⟨_, by rw [if_neg HHL.out, zL_upd, zL_app]; exact HQ1⟩, hF9⟩
          clear HQ1 hown6 hgrow6 hat6 hlt6 hi3 hz3 hs3 hb3 hF9 hG9))
        all_goals
          go_wp2_with fail
          go_end0
          exact HQ2.out
      · obtain ⟨g, z, rfl, p1, hz⟩ := HLT.out hne
        have hzk : z ≠ c := fun e => by rw [hz, e] at hlast; exact hlast rfl
        have hp : 0 < l.length := List.length_pos_iff.2 hne
        have e1 : decide ((l.length : Int) > 0) = true := by simp; omega
        have e1' : decide ((0 : Int) < (l.length : Int)) = true := by simp; omega
        have e2 : ((z : Int) == (c : Int)) = false := by simp; omega
        have j0 : (0 : Int) ≤ (l.length : Int) - 1 := by omega
        have j1 : (l.length : Int) - 1 < l.length := by omega
        have j2 : ((l.length : Int) - 1).toNat = l.length - 1 := by omega
        clear hz hzk hne
        have hCz : Fr (fun _ => False) w (w.alloc (.cells #[vI (c : Int)] 3)).drew := (Fr.alloc (Fr.refl _ w) _).drew
        have HFz : Hd (Fr (fun _ => False) w (w.alloc (.cells #[vI (c : Int)] 3)).drew) := hCz
        have HRW : Hd ((w.alloc (.cells #[vI (c : Int)] 3)).drew.ownsRow B 3 1 (.slice (some ⟨g, 0, none⟩) l.length vc) l.length ((zL l).map vI)) := by
          have k9 := (HC.out.stay hCz).own d hd
          rw [ev] at k9
          rw [hll]
          unfold IOwn at k9
          rw [List.length_map, ← hll] at k9
          rw [← hll]
          exact k9
        have HNW : Hd (∀ j' u, [vI (c : Int)][j']? = some u → (w.alloc (.cells #[vI (c : Int)] 3)).drew.cell? ((⟨w.heap.size, 0, none⟩ : Addr).add j') = some u) := World.news_of_block (w := w.alloc (.cells #[vI (c : Int)] 3)) (cs := #[vI (c : Int)]) (heap_new0 w _)
        have HSZ : Hd ((w.alloc (.cells #[vI (c : Int)] 3)).drew.heap.size = w.heap.size + 1) := by unfold Hd; show (w.alloc (.cells #[vI (c : Int)] 3)).heap.size = _; rw [World.size_alloc]
        have HBS : Hd (B ≤ (w.alloc (.cells #[vI (c : Int)] 3)).drew.heap.size) := by have := HSZ.out; unfold Hd; omega
        have HBz : Hd ((w.alloc (.cells #[vI (c : Int)] 3)).drew.heap[b]? = some (.cells #[x0, x1, x2, .slice (some ⟨cg, 0, none⟩) n n] 76)) := keepF HB.out hCz
        have HEV : Hd (cv d = .slice (some ⟨g, 0, none⟩) l.length vc) := ev
        have c3z : (w.alloc (.cells #[vI (c : Int)] 3)).drew.cell? ⟨b, 3, none⟩ = some (.slice (some ⟨cg, 0, none⟩) n n) := by rw [cell_of0 HBz.out]; rfl
        have c3y : (w.alloc (.cells #[vI (c : Int)] 3)).cell? ⟨b, 3, none⟩ = some (.slice (some ⟨cg, 0, none⟩) n n) := c3z
        have HHL : Hd (¬ (c = d ∨ (L d).getLast? = some c)) := by
          rintro (e | e)
          · exact hcd e
          · rw [← hll] at e; exact hlast e
        clear hCz ev hlast same h hb hEQ hcd hll HLT
        go_enter Tryz.func45, Tryz.ntmps45
        go_upto_region 2 with fail
        go_region_law ((
          obtain ⟨i3, hi3, hz3, hs3, hb3⟩ := info_parts (P := Tryz.prog) (e := 3) (z := .int .i64 0) (size := 1) (bytes := 8) (by kernel_rfl)
          refine step_append_lies _ rfl (.tmp 37) (.tmp 39) 25 rfl B 3 i3 (.int .i64 0) 1 8 under64 hi3 hz3 hs3 hb3 rfl (by omega) (.slice (some ⟨g, 0, none⟩) l.length vc) l.length _ (by simp [Act.eval, Act.put]) HRW.out ⟨w.heap.size, 0, none⟩ 1 1 [vI (c : Int)] (by simp [Act.eval, Act.put]) rfl HNW.out (by intro u hu; simp at hu; subst hu; rfl) (by omega) (by unfold maxLen; omega) (by omega) HBS.out (w.heap.size + 1) (by simp) ?_
          intro g6 cap6 w9 hown6 hgrow6 hat6 hlt6
          obtain ⟨HQ1, p0, z0, hF9, hG9⟩ := Cr.push (x := (c : Int)) HC.out HFz.out HSZ.out hd HEV.out (by rw [HLL.out, List.length_map]) hgrow6 (by rw [HLL.out] at hown6; rw [HLL.out]; exact hown6) hat6
          have c3 : w9.cell? ⟨b, 3, none⟩ = some (.slice (some ⟨cg, 0, none⟩) n n) := by rw [hG9.cell (heap_lt0 HB.out) (by omega), cell_of0 HB.out]; rfl
          have HQ2 : Hd (AcE B cg n L d c w (.returned (.tuple #[])) (w9.setCell ⟨cg, d, none⟩ (.slice (some ⟨g6, 0, none⟩) (l.length + 1) cap6))) := ⟨rfl, ⟨_, by rw [if_neg HHL.out, zL_upd, zL_app]; exact HQ1⟩, hF9⟩
          clear HQ1 hown6 hgrow6 hat6 hlt6 hi3 hz3 hs3 hb3 hF9 hG9))
        all_goals
          go_wp2_with fail
          go_end0
          exact HQ2.out
end Go.Proofs.YtjmbfjaahadbhaaGreatDoor
