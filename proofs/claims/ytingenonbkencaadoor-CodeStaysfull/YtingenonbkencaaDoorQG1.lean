import Derived.Test.YtingenonbkencaaDoorQF2
import Derived.Test.YtingenonbkencaaDoorQF3J
namespace Go.Proofs.YtingenonbkencaaDoor
open Go.RowKit (wrap32 wrap64)
set_option linter.unusedVariables false
set_option linter.unusedSimpArgs false
structure HD where
  P : Int
  R : Int
  V : Int
  len : Int
def hdOf (s : WS) : HD := ⟨s.fP, s.fR, s.fV, s.len⟩
def headsX {b : Nat} (M : Mode b) : Nat → WS × M.σ → X (List HD × (WS × M.σ))
  | 0, x => .ok ([], x)
  | m + 1, x => match headX M x with
    | .error z => .error z
    | .ok y => match headsX M m y with
      | .error z => .error z
      | .ok (l, y') => .ok (hdOf y.1 :: l, y')
def contH {α : Type} (done : List HD) : X (List HD × α) → X (List HD × α)
  | .ok (vs, y) => .ok (done ++ vs, y)
  | .error z => .error z
theorem contH_nil {α : Type} (r : X (List HD × α)) : contH [] r = r := by cases r <;> simp [contH]
theorem contH_cons {b : Nat} (M : Mode b) (m : Nat) (done : List HD) (x y : WS × M.σ) (h : headX M x = .ok y) :
    contH done (headsX M (m + 1) x) = contH (done ++ [hdOf y.1]) (headsX M m y) := by
  simp only [headsX, h]
  cases headsX M m y with
  | error z => rfl
  | ok p => simp [contH]
structure KeptH (s s' : WS) : Prop where
  num : s'.num = s.num
  globals : s'.globals = s.globals
  funcs : s'.funcs = s.funcs
  fC : s'.fC = s.fC
  args : s'.args = s.args
  rets : s'.rets = s.rets
  count : s'.count = s.count
theorem KeptH.refl (s : WS) : KeptH s s := ⟨rfl, rfl, rfl, rfl, rfl, rfl, rfl⟩
theorem KeptH.trans {a b c : WS} (h : KeptH a b) (k : KeptH b c) : KeptH a c :=
  ⟨k.num.trans h.num, k.globals.trans h.globals, k.funcs.trans h.funcs, k.fC.trans h.fC, k.args.trans h.args, k.rets.trans h.rets, k.count.trans h.count⟩
theorem nextX_keptH {b : Nat} {M : Mode b} {o size : Nat} {x y : WS × M.σ} (ho : o = 149 ∨ o = 150 ∨ o = 151 ∨ o = 153) (h : nextX M o size x = .ok y) : KeptH x.1 y.1 := by
  obtain ⟨v, st, rfl⟩ := nextX_num h
  rcases ho with rfl | rfl | rfl | rfl <;> exact ⟨rfl, rfl, rfl, rfl, rfl, rfl, rfl⟩
theorem headOk_ok {s : WS} {p : Int} {u : Unit} (h : headOk s p = .ok u) : (0 ≤ s.fV ∧ s.fV ≤ 255) ∧ (0 ≤ s.fP ∧ s.fP ≤ (if s.fV < 8 then s.fV else 8)) ∧ (0 ≤ s.fR ∧ s.fR ≤ 4) ∧ s.len ≤ 4096 ∧ 0 < s.len := by
  unfold headOk at h
  by_cases a1 : 0 ≤ s.fV ∧ s.fV ≤ 255
  · rw [if_neg (Decidable.not_not.2 a1)] at h
    by_cases a2 : 0 ≤ s.fP ∧ s.fP ≤ (if s.fV < 8 then s.fV else 8)
    · rw [if_neg (Decidable.not_not.2 a2)] at h
      by_cases a3 : 0 ≤ s.fR ∧ s.fR ≤ 4
      · rw [if_neg (Decidable.not_not.2 a3)] at h
        by_cases a4 : s.len ≤ 4096
        · rw [if_neg (Decidable.not_not.2 a4)] at h
          by_cases a5 : 0 < s.len
          · exact ⟨a1, a2, a3, a4, a5⟩
          · rw [if_pos a5] at h; cases h
        · rw [if_pos a4] at h; cases h
      · rw [if_pos a3] at h; cases h
    · rw [if_pos a2] at h; cases h
  · rw [if_pos a1] at h; cases h
theorem headX_ok {b : Nat} {M : Mode b} {x y : WS × M.σ} (h : headX M x = .ok y) : KeptH x.1 y.1 ∧ (0 ≤ y.1.fV ∧ y.1.fV ≤ 255) ∧ (0 ≤ y.1.fP ∧ y.1.fP ≤ 8) ∧ (0 ≤ y.1.fR ∧ y.1.fR ≤ 4) ∧ 0 < y.1.len ∧ y.1.len ≤ 4096 := by
  simp only [headX, bind, Except.bind] at h
  split at h
  · cases h
  · rename_i y1 h1
    split at h
    · cases h
    · rename_i y2 h2
      split at h
      · cases h
      · rename_i y3 h3
        split at h
        · cases h
        · rename_i y4 h4
          split at h
          · cases h
          · rename_i u h5
            have k := (((nextX_keptH (by simp) h1).trans (nextX_keptH (by simp) h2)).trans (nextX_keptH (by simp) h3)).trans (nextX_keptH (by simp) h4)
            unfold locX at h
            split at h
            · cases h
              have a := headOk_ok h5
              refine ⟨⟨k.num, k.globals, k.funcs, k.fC, k.args, k.rets, k.count⟩, a.1, ?_, a.2.2.1, a.2.2.2.2, a.2.2.2.1⟩
              have e : (if y4.1.fV < 8 then y4.1.fV else 8) ≤ 8 := by split <;> omega
              exact ⟨a.2.1.1, Int.le_trans a.2.1.2 e⟩
            · cases h
theorem rows_apart {w : World} {B e1 e2 s1 s2 n1 n2 : Nat} {v1 v2 : Value} {x1 x2 : List Value} (h1 : w.ownsRow B e1 s1 v1 n1 x1) (h2 : w.ownsRow B e2 s2 v2 n2 x2) (he : e1 ≠ e2) : v1.ownBlock = none ∨ v1.ownBlock ≠ v2.ownBlock := by
  rcases h1.2 with ⟨rfl, -⟩ | ⟨g1, c1, cur1, rfl, -, hb1, -⟩
  · exact Or.inl rfl
  · rcases h2.2 with ⟨rfl, -⟩ | ⟨g2, c2, cur2, rfl, -, hb2, -⟩
    · exact Or.inr (by simp [Value.ownBlock])
    · refine Or.inr (fun e => he ?_)
      simp only [Value.ownBlock, Option.some.injEq] at e
      subst e
      rw [hb1] at hb2
      cases hb2
      rfl
theorem grown_fr {w w' : World} {row : Option Nat} (h : w.grownBy w' row) : Fr (fun k => row = some k) w w' :=
  ⟨h.os, h.tape, h.output, h.size, fun k hk hS => h.block k hk (fun e => hS e.symm)⟩
end Go.Proofs.YtingenonbkencaaDoor
