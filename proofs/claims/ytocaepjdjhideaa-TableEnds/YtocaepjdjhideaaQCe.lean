import Derived.Test.YtocaepjdjhideaaQCd
namespace Go.Proofs.Ytocaepjdjhideaa
open Go.RowKit (wrap32 wrap64)
set_option linter.unusedVariables false
set_option linter.unusedSimpArgs false

theorem costs_ge (l : List OpT) : l.length ≤ costs l := by
  induction l with
  | nil => simp [costs]
  | cons o r ih => rw [costs_cons, List.length_cons]; have := cost_ge o; omega
theorem len_mu1 {c : Cl} (h : ClOk c) : c.ops.length ≤ mu1 c + 10 := by
  have h8 := h.lk
  unfold mu1
  split
  · have := costs_ge c.ops; omega
  · split
    · have := costs_ge c.ops; omega
    · have := costs_ge c.ops.tail
      cases hc : c.ops with
      | nil => simp
      | cons o r => rw [hc] at this; simp at this; simp; omega
theorem mu1_le (s : St) {c : Cl} (h : c ∈ s.cls) : mu1 c ≤ mu s := by
  unfold mu
  have : mu1 c ∈ s.cls.map mu1 := List.mem_map.2 ⟨c, h, rfl⟩
  generalize s.cls.map mu1 = l at this
  generalize mu1 c = x at this
  induction l with
  | nil => cases this
  | cons y r ih =>
    rcases List.mem_cons.1 this with rfl | h
    · simp
    · have := ih h; simp; omega
theorem stepX_eq {s : St} {i : Nat} (hl : i < s.cls.length) {o : OpT} {r : List OpT} (hop : s.cls[i].ops = o :: r) : stepX s i =
    if s.cls[i].st = 0 then { s with ms := s.ms ++ [⟨i, true, o, rep0⟩], cls := s.cls.set i { s.cls[i] with st := 1 } }
    else if s.cls[i].st = 1 then actX s i s.cls[i] o
    else { s with ms := s.ms ++ [⟨i, false, o, s.cls[i].rp⟩], cls := s.cls.set i { s.cls[i] with st := 0, ops := fromK r } } := by
  have hg : s.cls.getD i cl0 = s.cls[i] := by rw [List.getD_eq_getElem?_getD]; simp [hl]
  unfold stepX
  simp only [hg, hop]

section
variable {w : World} {B pb cb tb : Nat} {g : Gh} {N : Nat} {a : Ab} {mv : Value} {cvs : List CV} {mvs : List MV} {s : St} {E : Nat → Prop}
theorem step_any (h : Pl w B pb cb tb g N a mv cvs mvs s E) (hs : StOk s) (i : Nat) (hi : i ∈ able s) (hn : s.cls.length ≤ 64) (hms : s.ms.length ≤ 100000000000) (hN : N < 100000000000) (hmu : mu s ≤ 100000000000) :
    Calls Try.prog 33 #[.pointer (some ⟨pb, 0, none⟩), vI i] w fun e w' => e = .returned (.tuple #[]) ∧ Left w B pb cb tb g N E (stepX s i) w' := by
  obtain ⟨hl, hc⟩ := able_mem hi
  have hok := hs s.cls[i] (List.getElem_mem hl)
  have hlen := len_mu1 hok
  have hmu1 := mu1_le s (List.getElem_mem hl)
  obtain ⟨o, r, hop⟩ : ∃ o r, s.cls[i].ops = o :: r := by
    cases hop : s.cls[i].ops with
    | nil => simp [canGo, hop] at hc
    | cons o r => exact ⟨o, r, rfl⟩
  rw [stepX_eq hl hop]
  have hk := hok.first o r hop
  rw [hop] at hlen
  have hr : r.length ≤ 900000000000 := by simp at hlen; omega
  by_cases h0 : s.cls[i].st = 0
  · rw [if_pos h0]
    exact step_begin h i hl hn o r hop h0 hms
  · rw [if_neg h0]
    by_cases h1 : s.cls[i].st = 1
    · rw [if_pos h1]
      exact step_act h i hl hn o r hop h1 hk (hok.keys o (by rw [hop]; simp)) hok.lk hN
    · rw [if_neg h1]
      have h2 : s.cls[i].st = 2 := by have := hok.st; omega
      exact step_end h i hl hn o r hop h2 hr hms
end
end Go.Proofs.Ytocaepjdjhideaa
