import Derived.Test.YtdkijecnnmncnaaGreatDoorQEaJ
import Derived.Test.YtdkijecnnmncnaaGreatDoorQUf
namespace Go.Proofs.YtdkijecnnmncnaaGreatDoor
open Go.RowKit (wrap32 wrap64)
set_option linter.unusedVariables false
set_option linter.unusedSimpArgs false
theorem above_lwr (x1 y1 x2 y2 : Value) (s t : PS) (P R : Int) (w : World) (h1 : IA w x1 s.H) (h2 : LA w y1 s.R) (h3 : IA w x2 t.H) (h4 : LA w y2 t.R) (hL : Lwr s t) (hf : fitsX s P R = true) (hP : P ≤ 8) (hR : R ≤ 4) :
 Calls Tryz.prog 14 #[.agg #[x1, y1], .agg #[x2, y2]] w fun e w' => e = .returned (.bool true) ∧ Fr (fun _ => False) w w' := by
 obtain ⟨l1, l2, l3, -, -⟩ := fits_len hf
 have e1 := hL.h
 have e2 := hL.r
 refine above_true x1 y1 x2 y2 s t w s.H.length h1 h2 h3 h4 rfl (by omega) (by omega) (by omega) (by omega) fun k hk => ?_
 have k1 : k < s.H.length := by omega
 have k2 : k < s.R.length := by omega
 have k3 : k < t.H.length := by omega
 have k4 : k < t.R.length := by omega
 have e1 : s.H.getD k 0 = s.H[k] := by simp [k1]
 have e2 : s.R.getD k [] = s.R[k] := by simp [k2]
 have e3 : t.H.getD k 0 = t.H[k] := by simp [k3]
 have e4 : t.R.getD k [] = t.R[k] := by simp [k4]
 rw [e1, e2, e3, e4]
 have hlen := l3 _ (List.getElem_mem k2)
 refine ⟨hL.hn k k3 k1, hL.rl k k4 k2, by omega, fun j hj => ?_⟩
 have hj' : j < t.R[k].length := by have := hL.rl k k4 k2; omega
 have e5 : s.R[k].getD j 0 = s.R[k][j] := by simp [hj]
 have e6 : t.R[k].getD j 0 = t.R[k][j] := by simp [hj']
 rw [e5, e6]
 exact hL.rn k k4 k2 j hj' hj
end Go.Proofs.YtdkijecnnmncnaaGreatDoor
