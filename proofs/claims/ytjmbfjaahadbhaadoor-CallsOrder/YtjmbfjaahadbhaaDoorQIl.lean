import Derived.Test.YtjmbfjaahadbhaaDoorQIf
set_option linter.unusedVariables false
set_option linter.unusedSimpArgs false
namespace Go.Proofs.YtjmbfjaahadbhaaDoor
open Go.RowKit (wrap32 wrap64)

/-- A list that was told, and lies there from then on. -/
def Lst (w : World) (g : Nat) (l : List Nat) : Prop := ∀ W, Fr (fun _ => False) w W → ∀ i x, l[i]? = some x → W.cell? ⟨g, i, none⟩ = some (vI (x : Nat))
theorem lst_of {w : World} {B : Nat} {v : Value} {l : List Nat} (h : IOwn w B v (zL l)) : ∃ a c, v = .slice a l.length c ∧ (0 < l.length → ∃ g, a = some ⟨g, 0, none⟩ ∧ Lst w g l) := by
  obtain ⟨a, c, e⟩ := iown_cap h
  rw [List.length_map] at e
  refine ⟨a, c, e, fun hl => ?_⟩
  obtain ⟨g, c2, e2, -, hc⟩ := iown_some h (by rw [List.length_map]; exact hl)
  rw [e] at e2
  injection e2 with e3 e4 e5
  refine ⟨g, e3, fun W f i x hx => ?_⟩
  have hi : i < l.length := by
    by_cases q : i < l.length
    · exact q
    · rw [List.getElem?_eq_none (by omega)] at hx; cases hx
  have hk : g < w.heap.size := (h.ge g (by rw [e, e3]; rfl)).2
  rw [f.cell hk (fun e => e), hc i (by rw [List.length_map]; exact hi)]
  rw [List.getElem?_eq_getElem hi] at hx
  injection hx with hx
  simp [hx]
end Go.Proofs.YtjmbfjaahadbhaaDoor
