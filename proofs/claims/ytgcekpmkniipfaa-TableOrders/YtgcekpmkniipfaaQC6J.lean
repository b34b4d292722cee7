import Derived.Test.YtgcekpmkniipfaaQC5
namespace Go.Proofs.Ytgcekpmkniipfaa
open Go.RowKit (wrap32 wrap64)
set_option linter.unusedVariables false
set_option linter.unusedSimpArgs false

/-- Numbers that lie below B. -/
def IntsAt (w : World) (B : Nat) (v : Value) (zs : List Int) : Prop :=
  ∃ ad cap, v = .slice ad zs.length cap ∧ (zs ≠ [] → ∃ g o, ad = some ⟨g, o, none⟩ ∧ g < B ∧ ∀ i (h : i < zs.length), w.cell? ⟨g, o + i, none⟩ = some (vI zs[i]))
theorem IntsAt.fr {w w' : World} {B : Nat} {v : Value} {zs : List Int} (h : IntsAt w B v zs) {S : Nat → Prop} (f : Fr S w w') (hB : B ≤ w.heap.size) (hS : ∀ j, j < B → ¬ S j) : IntsAt w' B v zs := by
  obtain ⟨ad, cap, e, hx⟩ := h
  refine ⟨ad, cap, e, fun hne => ?_⟩
  obtain ⟨g, o, ea, hg, hcs⟩ := hx hne
  exact ⟨g, o, ea, hg, fun i hi => (f.cell (by omega) (hS g hg)).trans (hcs i hi)⟩
theorem OwnI.at {w : World} {B : Nat} {v : Value} {zs : List Nat} (h : OwnI w B v zs) : ∃ ad cap, v = .slice ad zs.length cap ∧ (zs ≠ [] → ∃ g, ad = some ⟨g, 0, none⟩ ∧ v.ownBlock = some g ∧ ∀ i (h : i < zs.length), w.cell? ⟨g, i, none⟩ = some (vI (zs[i] : Nat))) := by
  rcases h.2 with ⟨h2, h3⟩ | ⟨g, cap, cur, e, h3, h4, h5, h6, h7, h8⟩
  · exact ⟨none, 0, by rw [h2, h3], fun hne => absurd (List.eq_nil_of_length_eq_zero h3) hne⟩
  · refine ⟨_, cap, e, fun _ => ⟨g, rfl, by rw [e]; rfl, fun i hi => ?_⟩⟩
    rw [cell_of h4]
    have : cur[i]? = (zs.map (fun (z : Nat) => vI z))[i]? := by rw [← h8, List.getElem?_take, if_pos (by omega), Array.getElem?_toList]
    rw [this]
    simp [hi]
theorem OwnI.fr {S : Nat → Prop} {w w' : World} {B : Nat} {v : Value} {zs : List Nat} (h : OwnI w B v zs) (f : Fr S w w') (hS : ∀ g, v.ownBlock = some g → ¬ S g) : OwnI w' B v zs := ownsRow_fr h f hS

set_option maxRecDepth 100000 in
set_option maxHeartbeats 2000000 in
theorem behind_any (B : Nat) (last : Int) (av : Value) (L : List Nat) (w : World) (h : OwnI w B av L) (hne : L ≠ []) (hL : L.length ≤ 64) :
    Calls Try.prog 57 #[vI last, av] w fun e w' => e = .returned (vI (behindX last L : Nat)) ∧ w' = w := by
  obtain ⟨ad, cap, rfl, hx⟩ := h.at
  obtain ⟨g, rfl, -, hcs⟩ := hx hne
  have hpos : 0 < L.length := List.length_pos_iff.2 hne
  have HCS : Hd (∀ i (h : i < L.length), w.cell? ⟨g, i, none⟩ = some (vI (L[i] : Nat))) := hcs
  have c0 := hcs 0 hpos
  obtain ⟨n, en⟩ : ∃ n, n = L.length := ⟨_, rfl⟩
  have EN : Hd (n = L.length) := en
  have hn64 : n ≤ 64 := by omega
  have hn0 : 0 < n := by omega
  obtain ⟨l0, el0⟩ : ∃ l0 : Nat, l0 = L[0] := ⟨_, rfl⟩
  rw [← el0] at c0
  have EL0 : Hd (L.headD 0 = l0) := by
    show _ = _
    rw [el0]
    cases L with
    | nil => exact absurd rfl hne
    | cons a r => rfl
  rw [← en]
  clear h hx hcs en el0 hpos hL
  go_enter Try.func57, Try.ntmps57
  go_wp2_with fail
  go_loopw [9] (fun v wr => wr = w ∧ ∃ k : Nat, v = .int .i64 k ∧ k ≤ n ∧ Hd (∀ i (h : i < L.length), i < k → ¬ ((L[i] : Nat) : Int) > last)) (fun v _ => match v with | .int _ q => n - q.toNat | _ => 0)
  case atStart => exact ⟨rfl, 0, rfl, by omega, fun i _ h => by omega⟩
  case round =>
    obtain ⟨rfl, k, rfl, hk, HM⟩ := hrel
    by_cases hlt : k < n
    · have hkl : k < L.length := by rw [← EN.out]; exact hlt
      have ck := HCS.out k hkl
      have HF : Hd (((L[k] : Nat) : Int) > last → behindX last L = L[k]) := fun hgt => by
        unfold behindX
        have : L.find? (fun (i : Nat) => decide ((i : Int) > last)) = some L[k] := by
          rw [List.find?_eq_some_iff_getElem]
          exact ⟨by simpa using hgt, k, hkl, rfl, fun j hj => by simpa using HM.out j (by omega) hj⟩
        rw [this]; rfl
      have HN : Hd (¬ ((L[k] : Nat) : Int) > last → ∀ i (h : i < L.length), i < k + 1 → ¬ ((L[i] : Nat) : Int) > last) := fun hng i hi hik => by
        by_cases e : i = k
        · subst e; exact hng
        · exact HM.out i hi (by omega)
      obtain ⟨y, ey⟩ : ∃ y, y = L[k] := ⟨_, rfl⟩
      rw [← ey] at ck HF HN
      clear ey HM
      have hk3 : (k : Int) < n := by omega
      have hk0 : (0 : Int) ≤ k := by omega
      by_cases hgt : (y : Int) > last
      · have hg' : last < (y : Int) := hgt
        go_wp2_with fail
        go_ret
        exact ⟨by rw [HF.out hgt]; rfl, rfl⟩
      · have hd : decide (last < (y : Int)) = false := by simp; omega
        have hd2 : decide ((y : Int) > last) = false := by simp; omega
        go_wp2_with fail
        refine ⟨⟨trivial, k + 1, by simp, by omega, HN.out hgt⟩, by simp; omega⟩
    · have hdk : decide ((k : Int) < n) = false := by simp; omega
      have HE : Hd (behindX last L = l0) := by
        show _ = _
        unfold behindX
        have : L.find? (fun (i : Nat) => decide ((i : Int) > last)) = none := by
          rw [List.find?_eq_none]
          intro x hx
          obtain ⟨i, hi, rfl⟩ := List.getElem_of_mem hx
          simpa using HM.out i hi (by have := EN.out; omega)
        rw [this]
        exact EL0.out
      have hn0' : (0 : Int) < n := by omega
      clear hk HM
      go_wp2_with fail
      go_ret
      exact ⟨by rw [HE.out]; rfl, rfl⟩
end Go.Proofs.Ytgcekpmkniipfaa

namespace Go.Proofs.Ytgcekpmkniipfaa
open Go.RowKit (wrap32 wrap64)
set_option linter.unusedVariables false
set_option linter.unusedSimpArgs false

section
variable {w : World} {B pb cb tb : Nat} {g : Gh} {N : Nat} {a : Ab} {mv : Value} {cvs : List CV} {mvs : List MV} {s : St}
theorem Pl.last {E : Nat → Prop} (h : Pl w B pb cb tb g N a mv cvs mvs s E) (p : Int) : Pl (w.setCell ⟨pb, 10, none⟩ (vI p)) B pb cb tb g N a mv cvs mvs { s with last := p } E :=
  h.setPlay ((Fr.refl (fun j => j = pb) w).setCell _ _ (Or.inl rfl)) { s with last := p } (by rw [set_of h.play]; rfl) rfl rfl rfl

set_option maxRecDepth 100000 in
set_option maxHeartbeats 4000000 in
theorem pick_any (av sv : Value) (L : List Nat) (zs : List Int) (turn : Nat) (h : Pl w B pb cb tb g N a mv cvs mvs s (fun j => av.ownBlock = some j)) (hO : OwnI w B av L) (hne : L ≠ []) (hL : L.length ≤ 64) (hz : IntsAt w B sv zs) (hzl : zs.length ≤ 4000000000) (ht : turn ≤ 100000000000) :
    Calls Try.prog 34 #[.pointer (some ⟨pb, 0, none⟩), av, sv, vI turn] w fun e w' => e = .returned (vI (pickX s.last L zs turn : Nat)) ∧ Pl w' B pb cb tb g N a mv cvs mvs { s with last := (pickX s.last L zs turn : Nat) } (fun j => av.ownBlock = some j) ∧ Fr (fun j => j = pb) w w' := by
  have HP : Hd (∀ p : Int, Pl (w.setCell ⟨pb, 10, none⟩ (vI p)) B pb cb tb g N a mv cvs mvs { s with last := p } (fun j => av.ownBlock = some j)) := fun p => h.last p
  have HF : Hd (∀ p : Int, Fr (fun j => j = pb) w (w.setCell ⟨pb, 10, none⟩ (vI p))) := fun p => (Fr.refl (fun j => j = pb) w).setCell _ _ (Or.inl rfl)
  obtain ⟨-, -, p10, -, hfz⟩ := h.heads
  have z10 := hfz 10
  obtain ⟨sa, scap, rfl, hsx⟩ := hz
  have HOw := hO
  obtain ⟨ad, cap, eav, hx⟩ := hO.at
  obtain ⟨gb, rfl, -, hcs⟩ := hx hne
  have hbeh := behind_any B s.last av L w HOw hne hL
  unfold pickX
  subst eav
  have hpos : 0 < L.length := List.length_pos_iff.2 hne
  by_cases hlt : turn < zs.length
  · rw [if_pos hlt]
    obtain ⟨sg, so, rfl, hsg, hsc⟩ := hsx (by intro e; rw [e] at hlt; simp at hlt)
    have k0 := hsc turn hlt
    have e0 : zs.getD turn 0 = zs[turn] := by rw [List.getD_eq_getElem?_getD, List.getElem?_eq_getElem hlt]; rfl
    rw [e0]
    obtain ⟨z, ez⟩ : ∃ z, z = zs[turn] := ⟨_, rfl⟩
    rw [← ez] at k0 ⊢
    have hm0 : 0 ≤ z % (L.length : Int) := Int.emod_nonneg _ (by omega)
    have hm1 : z % (L.length : Int) < L.length := Int.emod_lt_of_pos _ (by omega)
    obtain ⟨q, eq⟩ := Int.eq_ofNat_of_zero_le hm0
    have hq : q < L.length := by omega
    have cq := hcs q hq
    have e1 : L.getD (z % (L.length : Int)).toNat 0 = L[q] := by rw [eq, List.getD_eq_getElem?_getD]; simp [hq]
    rw [e1]
    obtain ⟨y, ey⟩ : ∃ y, y = L[q] := ⟨_, rfl⟩
    rw [← ey] at cq ⊢
    obtain ⟨n, en⟩ : ∃ n, n = L.length := ⟨_, rfl⟩
    obtain ⟨m, em⟩ : ∃ m, m = zs.length := ⟨_, rfl⟩
    have hmod := mod_any z n (by omega) (by omega)
    rw [← en] at eq hq hL ⊢
    rw [eq] at hmod
    rw [← em] at hlt hzl ⊢
    have ht0 : (0 : Int) ≤ turn := by omega
    have ht1 : (turn : Int) < m := by omega
    have hq0 : (0 : Int) ≤ q := by omega
    have hq1 : (q : Int) < n := by omega
    clear hsx hsc hx hcs e0 ez e1 ey en em hm0 hm1 eq HOw hO h hbeh hne hpos hfz
    go_enter Try.func34, Try.ntmps34
    go_wp2_with (go_at_call 43; refine (hmod _).mono ?_; rintro _ _ ⟨rfl, rfl⟩)
    go_ret
    exact ⟨rfl, HP.out _, HF.out _⟩
  · rw [if_neg hlt]
    obtain ⟨y, ey⟩ : ∃ y, y = behindX s.last L := ⟨_, rfl⟩
    rw [← ey] at hbeh ⊢
    obtain ⟨n, en⟩ : ∃ n, n = L.length := ⟨_, rfl⟩
    obtain ⟨m, em⟩ : ∃ m, m = zs.length := ⟨_, rfl⟩
    rw [← en] at hbeh hL ⊢
    rw [← em] at hlt hzl ⊢
    have ht1 : decide ((turn : Int) < m) = false := by simp; omega
    clear hsx hx hcs ey en em HOw hO h hne hpos hfz
    go_enter Try.func34, Try.ntmps34
    go_wp2_with (go_at_call 57; refine hbeh.mono ?_; rintro _ _ ⟨rfl, rfl⟩)
    go_ret
    exact ⟨rfl, HP.out _, HF.out _⟩
end
end Go.Proofs.Ytgcekpmkniipfaa
