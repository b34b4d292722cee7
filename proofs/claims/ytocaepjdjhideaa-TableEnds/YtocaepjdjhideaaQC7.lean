import Derived.Test.YtocaepjdjhideaaQC6
namespace Go.Proofs.Ytocaepjdjhideaa
open Go.RowKit (wrap32 wrap64)
set_option linter.unusedVariables false
set_option linter.unusedSimpArgs false

section
variable {w : World} {B pb cb tb : Nat} {g : Gh} {N : Nat} {a : Ab} {mv : Value} {cvs : List CV} {mvs : List MV} {s : St}
theorem Pl.last {E : Nat → Prop} (h : Pl w B pb cb tb g N a mv cvs mvs s E) (p : Int) : Pl (w.setCell ⟨pb, 10, none⟩ (vI p)) B pb cb tb g N a mv cvs mvs { s with last := p } E :=
  h.setPlay ((Fr.refl (fun j => j = pb) w).setCell _ _ (Or.inl rfl)) { s with last := p } (by rw [set_of h.play]; rfl) rfl rfl rfl

set_option maxRecDepth 100000 in
set_option maxHeartbeats 4000000 in
theorem pick_any (av sv : Value) (L : List Nat) (zs : List Int) (turn : Nat) (h : Pl w B pb cb tb g N a mv cvs mvs s (fun j => av.ownBlock = some j)) (hO : OwnI w B av L) (hne : L ≠ []) (hL : L.length ≤ 64) (hz : IntsAt w B sv zs) (hzl : zs.length ≤ 4000000000) (ht : turn ≤ 100000000000) :
    Calls Try.prog 34 #[.pointer (some ⟨pb, 0, none⟩), av, sv, vI turn] w fun e w' => e = .returned (vI (pickX s.last L zs turn : Nat)) ∧ Pl w' B pb cb tb g N a mv cvs mvs { s with last := (pickX s.last L zs turn : Nat) } (fun j => av.ownBlock = some j) ∧ Fr (fun j => j = pb) w w' := by
  have HP : Hd (∀ p : Int, Pl (w.setCell ⟨pb, 10, none⟩ (vI p)) B pb cb tb g N a mv cvs mvs { s with last := p } (fun j => av.ownBlock = some j)) := fun p => h.last p
  have HF : Hd (∀ p : Int, Fr (fun j => j = pb) w (w.setCell ⟨pb, 10, none⟩ (vI p))) := fun p => (Fr.refl (fun j => j = pb) w).setCell _ _ (Or.inl rfl)
  obtain ⟨-, -, p10, -, hfz⟩ := h.heads
  have z10 := hfz 10
  obtain ⟨sa, scap, rfl, hsx⟩ := hz
  have HOw := hO
  obtain ⟨ad, cap, eav, hx⟩ := hO.at
  obtain ⟨gb, rfl, -, hcs⟩ := hx hne
  have hbeh := behind_any B s.last av L w HOw hne hL
  unfold pickX
  subst eav
  have hpos : 0 < L.length := List.length_pos_iff.2 hne
  by_cases hlt : turn < zs.length
  · rw [if_pos hlt]
    obtain ⟨sg, so, rfl, hsg, hsc⟩ := hsx (by intro e; rw [e] at hlt; simp at hlt)
    have k0 := hsc turn hlt
    have e0 : zs.getD turn 0 = zs[turn] := by rw [List.getD_eq_getElem?_getD, List.getElem?_eq_getElem hlt]; rfl
    rw [e0]
    obtain ⟨z, ez⟩ : ∃ z, z = zs[turn] := ⟨_, rfl⟩
    rw [← ez] at k0 ⊢
    have hm0 : 0 ≤ z % (L.length : Int) := Int.emod_nonneg _ (by omega)
    have hm1 : z % (L.length : Int) < L.length := Int.emod_lt_of_pos _ (by omega)
    obtain ⟨q, eq⟩ := Int.eq_ofNat_of_zero_le hm0
    have hq : q < L.length := by omega
    have cq := hcs q hq
    have e1 : L.getD (z % (L.length : Int)).toNat 0 = L[q] := by rw [eq, List.getD_eq_getElem?_getD]; simp [hq]
    rw [e1]
    obtain ⟨y, ey⟩ : ∃ y, y = L[q] := ⟨_, rfl⟩
    rw [← ey] at cq ⊢
    obtain ⟨n, en⟩ : ∃ n, n = L.length := ⟨_, rfl⟩
    obtain ⟨m, em⟩ : ∃ m, m = zs.length := ⟨_, rfl⟩
    have hmod := mod_any z n (by omega) (by omega)
    rw [← en] at eq hq hL ⊢
    rw [eq] at hmod
    rw [← em] at hlt hzl ⊢
    have ht0 : (0 : Int) ≤ turn := by omega
    have ht1 : (turn : Int) < m := by omega
    have hq0 : (0 : Int) ≤ q := by omega
    have hq1 : (q : Int) < n := by omega
    clear hsx hsc hx hcs e0 ez e1 ey en em hm0 hm1 eq HOw hO h hbeh hne hpos hfz
    go_enter Try.func34, Try.ntmps34
    go_wp2_with (go_at_call 43; refine (hmod _).mono ?_; rintro _ _ ⟨rfl, rfl⟩)
    go_ret
    exact ⟨rfl, HP.out _, HF.out _⟩
  · rw [if_neg hlt]
    obtain ⟨y, ey⟩ : ∃ y, y = behindX s.last L := ⟨_, rfl⟩
    rw [← ey] at hbeh ⊢
    obtain ⟨n, en⟩ : ∃ n, n = L.length := ⟨_, rfl⟩
    obtain ⟨m, em⟩ : ∃ m, m = zs.length := ⟨_, rfl⟩
    rw [← en] at hbeh hL ⊢
    rw [← em] at hlt hzl ⊢
    have ht1 : decide ((turn : Int) < m) = false := by simp; omega
    clear hsx hx hcs ey en em HOw hO h hne hpos hfz
    go_enter Try.func34, Try.ntmps34
    go_wp2_with (go_at_call 57; refine hbeh.mono ?_; rintro _ _ ⟨rfl, rfl⟩)
    go_ret
    exact ⟨rfl, HP.out _, HF.out _⟩
end
end Go.Proofs.Ytocaepjdjhideaa
