import Derived.Test.YtkkfiipnpdlkeaaQA5
namespace Go.Proofs.Ytkkfiipnpdlkeaa
open Go.RowKit (wrap32 wrap64)
open Go.MuLone
set_option linter.unusedVariables false
set_option linter.unusedSimpArgs false

set_option maxRecDepth 100000 in
set_option maxHeartbeats 1000000 in
theorem grow_none (b : Nat) (l : Int) (xs : List Int) (g far : Nat) (w : World) (h : Dq w b l g [] far xs) :
    Calls Try.prog 30 #[.pointer (some ⟨b, 2, none⟩)] w fun e w' => e = .returned (.tuple #[]) ∧ Dq w' b l w.heap.size [0] 0 xs ∧ Fr (fun j => j = b) w w' := by
  obtain ⟨rfl, rfl⟩ := h.no rfl
  obtain ⟨-, c2, c3, c4, hz⟩ := h.cells
  rw [roomV_nil] at c2
  have hmk := make_ints 1 (by omega) w
  have z2 := hz 2
  have z3 := hz 3
  have hx : xs = [] := by have := h.len; simp at this; exact this
  subst hx
  have hbl := h.blt
  have hw : (w.alloc (.cells #[vI 0] 3)).heap[g]? = w.heap[g]? := Go.RowKit.Below.heap_alloc w _ g hbl
  have d2 : (w.alloc (.cells #[vI 0] 3)).cell? ⟨g, 2, none⟩ = some (.slice none 0 0) := (World.cell?_of_block hw).trans c2
  have d3 : (w.alloc (.cells #[vI 0] 3)).cell? ⟨g, 3, none⟩ = some (vI 0) := (World.cell?_of_block hw).trans c3
  have HF : Hd (Fr (fun j => j = g) w (((w.alloc (.cells #[vI 0] 3)).setCell ⟨g, 2, none⟩ (.slice (some ⟨w.heap.size, 0, none⟩) 1 1)).setCell ⟨g, 3, none⟩ (vI 0))) :=
    ((Fr.alloc (Fr.refl (fun j => j = g) w) _).setCell ⟨g, 2, none⟩ _ (Or.inl rfl)).setCell ⟨g, 3, none⟩ _ (Or.inl rfl)
  have HD : Hd (Dq (((w.alloc (.cells #[vI 0] 3)).setCell ⟨g, 2, none⟩ (.slice (some ⟨w.heap.size, 0, none⟩) 1 1)).setCell ⟨g, 3, none⟩ (vI 0)) g l w.heap.size [0] 0 []) := by
    refine ⟨?_, fun _ => ?_, fun e => by simp at e, fun _ => by omega, fun _ => by simp, by simp, fun i hi => by simp at hi⟩
    · rw [set_of (set_of (hw.trans h.obj) 2 _) 3]
      simp [roomV]
    · rw [Go.RowKit.Below.heap_setCell _ _ _ _ (by show w.heap.size ≠ g; omega), Go.RowKit.Below.heap_setCell _ _ _ _ (by show w.heap.size ≠ g; omega)]
      exact heap_alloc_last _ _
  have y2 : (w.alloc (.cells #[vI 0] 3)).frozen? ⟨g, 2, none⟩ = false := (World.frozen?_alloc_past _ _ _ hbl).trans z2
  have y3 : (w.alloc (.cells #[vI 0] 3)).frozen? ⟨g, 3, none⟩ = false := (World.frozen?_alloc_past _ _ _ hbl).trans z3
  rw [show (List.replicate 1 (vI 0)).toArray = #[vI 0] from rfl] at hmk
  clear hz h hw c4 c3 z2 z3
  generalize w.heap.size = g' at *
  obtain ⟨w1, hw1⟩ : ∃ w1, w1 = w.alloc (.cells #[vI 0] 3) := ⟨_, rfl⟩
  rw [← hw1] at hmk d2 d3 y2 y3 HF HD
  clear hw1
  change (Instr.makeSlice 30 (.int .i64 1) (.int .i64 1)).run Try.prog w = _ at hmk
  have hc1 := run_copy_none (P := Try.prog) w1.drew 30 30 3 3 (some ⟨g', 0, none⟩) none 1 1 0 0 under30 size3 rfl
  have hc2 := run_copy_none (P := Try.prog) w1.drew.drew 30 30 3 3 (some ⟨g', 0, none⟩) none 1 1 0 0 under30 size3 rfl
  go_enter Try.func30, Try.ntmps30
  go_wp2_with fail
  clear hmk
  go_region
  all_goals go_wp2_with fail
  all_goals go_region
  all_goals go_wp2_with fail
  all_goals go_end0
  all_goals exact ⟨rfl, HD.out.drew.drew, HF.out.drew.drew⟩

/-- The room behind a push. -/
theorem grow_any (b g : Nat) (l : Int) (rm : List Int) (far : Nat) (xs : List Int) (hB : rm.length ≤ 17592186044416) (w : World) (h : Dq w b l g rm far xs) :
    Calls Try.prog 30 #[.pointer (some ⟨b, 2, none⟩)] w fun e w' => e = .returned (.tuple #[]) ∧ (∃ rm', Dq w' b l w.heap.size rm' 0 xs ∧ rm'.length = max 1 (2 * rm.length)) ∧ Fr (fun j => j = b) w w' := by
  by_cases hne : rm = []
  · subst hne
    refine (grow_none b l xs g far w h).mono ?_
    rintro e w' ⟨rfl, hd, hf⟩
    exact ⟨rfl, ⟨_, hd, rfl⟩, hf⟩
  · refine (grow_some b g l rm far xs hne hB w h).mono ?_
    rintro e w' ⟨rfl, hd, hf⟩
    have := h.flt hne
    exact ⟨rfl, ⟨_, hd, by simp; omega⟩, hf⟩

set_option maxRecDepth 100000 in
set_option maxHeartbeats 1000000 in
/-- What comes behind the test, where there is room. -/
theorem rpush_room (b g : Nat) (l : Int) (rm : List Int) (far : Nat) (xs : List Int) (x : Int) (hl : xs.length < rm.length) (hB : rm.length ≤ 100000000000000) (w : World) (h : Dq w b l g rm far xs) :
    Calls Try.prog 20 #[.pointer (some ⟨b, 2, none⟩), vI x] w fun e w' => e = .returned (.tuple #[]) ∧ Dq w' b l g (rm.set ((far + xs.length) % rm.length) x) far (xs ++ [x]) ∧ Fr (fun j => j = b ∨ j = g) w w' := by
  have hne : rm ≠ [] := by rintro rfl; simp at hl
  have hf := h.flt hne
  have hgb := h.ne hne
  have hbg : b ≠ g := fun e => hgb e.symm
  obtain ⟨-, c2, c3, c4, hz⟩ := h.cells
  rw [roomV_some hne] at c2
  have z4 := hz 4
  have hkn : (far + xs.length) % rm.length < rm.length := Nat.mod_lt _ (by omega)
  obtain ⟨y, hy⟩ : ∃ y, rm[(far + xs.length) % rm.length]? = some y := ⟨_, List.getElem?_eq_getElem hkn⟩
  obtain ⟨cx, zx⟩ := h.cellR hne _ _ hy
  have HP : Hd (∀ w : World, w.cell? ⟨b, 2, none⟩ = some (.slice (some ⟨g, 0, none⟩) rm.length rm.length) → w.cell? ⟨b, 3, none⟩ = some (vI far) → Calls Try.prog 31 #[.pointer (some ⟨b, 2, none⟩), vI xs.length] w fun e w' => e = .returned (vI ((far + xs.length) % rm.length : Nat)) ∧ w' = w.drew) := fun w c2 c3 =>
    place_any b _ rm.length rm.length far xs.length w c2 c3 (by omega) (by omega) (by omega)
  have e1 : wrap64 ((xs.length : Int) + 1) = ((xs.length + 1 : Nat) : Int) := by rw [w64 (by omega) (by omega)]; omega
  have en : ((xs.length : Int) == (rm.length : Int)) = false := by simp; omega
  have HD : Hd (Dq ((w.drew.drew.drew.setCell ⟨g, (far + xs.length) % rm.length, none⟩ (vI x)).setCell ⟨b, 4, none⟩ (vI (xs.length + 1 : Nat))) b l g (rm.set ((far + xs.length) % rm.length) x) far (xs ++ [x])) := h.drew.drew.drew.pushed x hl
  have HF : Hd (Fr (fun j => j = b ∨ j = g) w ((w.drew.drew.drew.setCell ⟨g, (far + xs.length) % rm.length, none⟩ (vI x)).setCell ⟨b, 4, none⟩ (vI (xs.length + 1 : Nat)))) :=
    (((Fr.refl (fun j => j = b ∨ j = g) w).drew.drew.drew).setCell ⟨g, _, none⟩ _ (Or.inl (Or.inr rfl))).setCell ⟨b, 4, none⟩ _ (Or.inl (Or.inl rfl))
  clear h hl hne hf hB hz hy
  obtain ⟨rm', hrm'⟩ : ∃ r, r = rm.set ((far + xs.length) % rm.length) x := ⟨_, rfl⟩
  rw [← hrm'] at HD ⊢
  clear hrm'
  obtain ⟨xs', hxs'⟩ : ∃ r, r = xs ++ [x] := ⟨_, rfl⟩
  rw [← hxs'] at HD ⊢
  clear hxs'
  obtain ⟨k, hk⟩ : ∃ k, k = (far + xs.length) % rm.length := ⟨_, rfl⟩
  rw [← hk] at HP hkn cx zx HD HF
  clear hk
  obtain ⟨n, hn⟩ : ∃ n, n = rm.length := ⟨_, rfl⟩
  rw [← hn] at HP hkn c2 en
  clear hn
  obtain ⟨m', hm'⟩ : ∃ m, m = xs.length + 1 := ⟨_, rfl⟩
  rw [← hm'] at e1 HD HF
  clear hm'
  obtain ⟨m, hm⟩ : ∃ m, m = xs.length := ⟨_, rfl⟩
  rw [← hm] at c4 e1 en HP
  clear hm
  have k0 : (0 : Int) ≤ k := by omega
  have k1 : (k : Int) < n := by omega
  clear hkn
  have HP1 : Hd (Calls Try.prog 31 #[.pointer (some ⟨b, 2, none⟩), vI m] w.drew.drew fun e w' => e = .returned (vI k) ∧ w' = w.drew.drew.drew) := HP.out _ c2 c3
  go_enter Try.func20, Try.ntmps20
  go_wp2_with fail
  go_region
  all_goals go_wp2_with fail
  all_goals go_region_with (go_at_call 31; refine HP1.out.mono ?_; rintro _ _ ⟨rfl, rfl⟩)
  all_goals go_wp2_with fail
  all_goals go_end0
  all_goals exact ⟨rfl, HD.out, HF.out⟩
end Go.Proofs.Ytkkfiipnpdlkeaa
