import Derived.Test.YtkkfiipnpdlkeaaQA6
namespace Go.Proofs.Ytkkfiipnpdlkeaa
open Go.RowKit (wrap32 wrap64)
open Go.MuLone
set_option linter.unusedVariables false
set_option linter.unusedSimpArgs false

theorem roomV_any (g : Nat) (rm : List Int) : ∃ p, roomV g rm = .slice p rm.length rm.length := by
  by_cases h : rm = []
  · subst h; exact ⟨none, rfl⟩
  · exact ⟨_, roomV_some h⟩

set_option maxRecDepth 100000 in
set_option maxHeartbeats 1000000 in
theorem rpush_full (b g : Nat) (l : Int) (rm : List Int) (far : Nat) (xs : List Int) (x : Int) (hl : xs.length = rm.length) (hB : rm.length ≤ 17592186044416) (w : World) (h : Dq w b l g rm far xs) :
    Calls Try.prog 20 #[.pointer (some ⟨b, 2, none⟩), vI x] w fun e w' => e = .returned (.tuple #[]) ∧ (∃ rm', Dq w' b l w.heap.size rm' 0 (xs ++ [x]) ∧ rm'.length = max 1 (2 * rm.length)) ∧ Fr (fun j => j = b) w w' := by
  obtain ⟨-, c2, c3, c4, hz⟩ := h.cells
  obtain ⟨p, hp⟩ := roomV_any g rm
  rw [hp] at c2
  have en : ((xs.length : Int) == (rm.length : Int)) = true := by simp; omega
  have HG : Hd (Calls Try.prog 30 #[.pointer (some ⟨b, 2, none⟩)] w.drew fun e w' => e = .returned (.tuple #[]) ∧ (∃ rm', Dq w' b l w.heap.size rm' 0 xs ∧ rm'.length = max 1 (2 * rm.length)) ∧ Fr (fun j => j = b) w w') := by
    refine (grow_any b g l rm far xs hB w.drew h.drew).mono ?_
    rintro _ w' ⟨rfl, hd, hf⟩
    exact ⟨rfl, hd, (Fr.drew (Fr.refl _ w)).trans hf⟩
  have HB : Hd (rm.length ≤ 17592186044416) := hB
  have HL : Hd (xs.length = rm.length) := hl
  clear h hl hB hz hp
  obtain ⟨n, hn⟩ : ∃ n, n = rm.length := ⟨_, rfl⟩
  rw [← hn] at c2 en HG HB HL ⊢
  clear hn
  obtain ⟨m, hm⟩ : ∃ m, m = xs.length := ⟨_, rfl⟩
  have HM : Hd (m = xs.length) := hm
  rw [← hm] at c4 en
  clear hm
  obtain ⟨g', hg'⟩ : ∃ m, m = w.heap.size := ⟨_, rfl⟩
  have HG' : Hd (g' = w.heap.size) := hg'
  rw [← hg'] at HG ⊢
  clear hg'
  go_enter Try.func20, Try.ntmps20
  go_wp2_with fail
  go_region
  all_goals go_wp2_with (go_at_call 30; refine HG.out.mono ?_; rintro _ w1 ⟨rfl, HG1, HF1⟩)
  all_goals
    clear c2 c3 c4 HG
    obtain ⟨rm', hd, hl'⟩ := HG1
    have hlt : xs.length < rm'.length := by have := HL.out; omega
    have hne : rm' ≠ [] := by rintro rfl; simp at hlt
    have hgb := hd.ne hne
    have hbg : b ≠ g' := fun e => hgb e.symm
    obtain ⟨-, c2, c3, c4, hz⟩ := hd.cells
    rw [roomV_some hne] at c2
    have z4 := hz 4
    have hkn : (0 + xs.length) % rm'.length < rm'.length := Nat.mod_lt _ (by omega)
    obtain ⟨y, hy⟩ : ∃ y, rm'[(0 + xs.length) % rm'.length]? = some y := ⟨_, List.getElem?_eq_getElem hkn⟩
    obtain ⟨cx, zx⟩ := hd.cellR hne _ _ hy
    have HP : Hd (Calls Try.prog 31 #[.pointer (some ⟨b, 2, none⟩), vI xs.length] w1.drew fun e w' => e = .returned (vI ((0 + xs.length) % rm'.length : Nat)) ∧ w' = w1.drew.drew) :=
      place_any b _ rm'.length rm'.length 0 xs.length w1.drew c2 c3 (by omega) (by have := HL.out; have := HB.out; omega) (by have := HL.out; have := HB.out; omega)
    have e1 : wrap64 ((xs.length : Int) + 1) = ((xs.length + 1 : Nat) : Int) := by rw [w64 (by omega) (by have := HL.out; have := HB.out; omega)]; omega
    have HD : Hd (Dq ((w1.drew.drew.setCell ⟨g', (0 + xs.length) % rm'.length, none⟩ (vI x)).setCell ⟨b, 4, none⟩ (vI (xs.length + 1 : Nat))) b l g' (rm'.set ((0 + xs.length) % rm'.length) x) 0 (xs ++ [x])) := hd.drew.drew.pushed x hlt
    have HF : Hd (Fr (fun j => j = b) w ((w1.drew.drew.setCell ⟨g', (0 + xs.length) % rm'.length, none⟩ (vI x)).setCell ⟨b, 4, none⟩ (vI (xs.length + 1 : Nat)))) :=
      ((HF1.drew.drew).setCell ⟨g', _, none⟩ _ (Or.inr (by rw [HG'.out]; exact Nat.le_refl _))).setCell ⟨b, 4, none⟩ _ (Or.inl rfl)
    have HE : Hd ((rm'.set ((0 + xs.length) % rm'.length) x).length = max 1 (2 * n)) := by show _ = _; rw [List.length_set]; exact hl'
    clear hd hl' hlt hne hz hy HF1 HL HB
    obtain ⟨r2, hr2⟩ : ∃ r, r = rm'.set ((0 + xs.length) % rm'.length) x := ⟨_, rfl⟩
    rw [← hr2] at HD HE
    clear hr2
    obtain ⟨k, hk⟩ : ∃ k, k = (0 + xs.length) % rm'.length := ⟨_, rfl⟩
    rw [← hk] at HP hkn cx zx HD HF
    clear hk
    obtain ⟨N, hN⟩ : ∃ n, n = rm'.length := ⟨_, rfl⟩
    rw [← hN] at hkn c2
    clear hN
    obtain ⟨m', hm'⟩ : ∃ m, m = xs.length + 1 := ⟨_, rfl⟩
    rw [← hm'] at e1 HD HF
    clear hm'
    obtain ⟨M, hM⟩ : ∃ m, m = xs.length := ⟨_, rfl⟩
    rw [← hM] at c4 e1 HP
    clear hM HM
    have k0 : (0 : Int) ≤ k := by omega
    have k1 : (k : Int) < N := by omega
    clear hkn
    go_region_with (go_at_call 31; refine HP.out.mono ?_; rintro _ _ ⟨rfl, rfl⟩)
    all_goals go_wp2_with fail
    all_goals go_end0
    all_goals exact ⟨rfl, ⟨_, HD.out, HE.out⟩, HF.out⟩
end Go.Proofs.Ytkkfiipnpdlkeaa
