import Derived.Test.YtihicdbplmdjiaaGreatQB7J
import Derived.OwnWalkIn
set_option linter.unusedVariables false
set_option linter.unusedSimpArgs false
namespace Go.Proofs.YtihicdbplmdjiaaGreat
open Go Go.RowKit

variable {F : Fence} {n : Nat} {P : Program} {ops : Array Oper} {md : Region.Mode} {C : World → Prop}

/-! ### the same within a round: no operation of the region defers -/
def NoDefer (o : Oper) : Prop := ∀ c, o.op ≠ .defer c
theorem quiet_round {o : Oper} {a : Act} {K : Act → Prop} {K' : Act → World → Prop} {Q' : Exit → Act → World → Prop} {w : World} (hnd : NoDefer o) (hw : C w) (h : ∀ a w', C w' → K a → K' a w')
    (ha : o.askedIn F P a C) (hh : o.quietIn F n P a C K) : o.wpIn F n P a w K' Q' := by
  obtain ⟨v, hq, hK⟩ := hh
  have hv := hq w hw
  refine ⟨ha w hw, ?_⟩
  rw [Oper.semAt_plain F _ _ hnd]
  unfold Oper.quietAtIn at hv
  cases er : (execOp a.eval o).run P w with
  | halt x w' => rw [er] at hv; exact hv.elim
  | ok x w' =>
    rw [er] at hv
    cases x with
    | value u =>
      obtain ⟨rfl, rfl⟩ := hv
      exact h _ _ hw hK
    | skip =>
      obtain ⟨rfl, rfl⟩ := hv
      exact h _ _ hw hK
    | enter f args =>
      obtain ⟨rfl, hd, hc⟩ := hv
      refine ⟨hd, hc.mono ?_⟩
      rintro e w2 ⟨rfl, hw2⟩
      exact h _ _ hw2 hK
    | _ => exact hv.elim
theorem qOp_round {i : Nat} {a : Act} {K : Act → Prop} {K' : Act → World → Prop} {Q' : Exit → Act → World → Prop} {w : World} (hnd : ∀ (i : Nat) o, ops[i]? = some o → NoDefer o) (hC : C w) (h : ∀ a w', C w' → K a → K' a w')
    (hh : qOpIn F n P ops C i K a) : wpOpIn F n P ops Q' i K' a w := by
  unfold qOpIn at hh
  unfold wpOpIn
  cases ho : ops[i]? with
  | none => simp only [ho] at hh ⊢; exact h _ _ hC hh
  | some o =>
    simp only [ho] at hh ⊢
    by_cases hw : Region.wanted o (yielded ops a.tmps) = true
    · simp only [hw, if_true] at hh ⊢; exact quiet_round (hnd i o ho) hC h hh.1 hh.2
    · simp only [hw] at hh ⊢; exact ⟨hh.1 w hC, h _ _ hC hh.2⟩
theorem any_round {T : Nat → Array Bool → Act → Prop} {Q' : Exit → Act → World → Prop} (hnd : ∀ (i : Nat) o, ops[i]? = some o → NoDefer o) (hT : ∀ fuel listed a, T fuel listed a → ∀ w, C w → wpAnyIn F n P md ops Q' fuel listed a w) : ∀ (fuel : Nat) (listed : Array Bool) (a : Act) (w : World), C w →
    wpAnyT F n P md ops C T fuel listed a → wpAnyIn F n P md ops Q' fuel listed a w
  | 0, _, _, w, hw, h => hT _ _ _ h w hw
  | fuel + 1, _, _, w, hw, h => by
    rcases h with h | ⟨h0, h⟩
    · exact hT _ _ _ h w hw
    · exact ⟨fun e => absurd e h0, fun i hi => qOp_round hnd hw (fun a' w' hw' => any_round hnd hT fuel _ a' w' hw') (h i hi)⟩
def noDeferB (l : List Oper) : Bool := l.all fun o => match o.op with | .defer _ => false | _ => true
theorem noDefer_of {l : List Oper} (h : noDeferB l = true) : ∀ (i : Nat) o, l.toArray[i]? = some o → NoDefer o := fun i o ho c e => by
  have hm : o ∈ l := List.mem_of_getElem? (by simpa using ho)
  have := List.all_eq_true.1 h o hm
  rw [e] at this
  cases this
/-- A region that draws its order, within a round. -/
theorem round_region_tail {id y : Nat} {Q : Exit → Act → World → Prop} {a : Act} {w : World} {l : List Oper} (hnd : noDeferB l = true) (hm : P.follows .mixedOrders = true) (hs : Region.noSelect l.toArray = true) (hc : chainB .any l.toArray y = true) (hy : y ≤ l.length)
    (hB : lexP .any l.toArray y 0 (Array.replicate l.length false) = true) (hr : Region.ready .any l.toArray (listedAfter y 0 (Array.replicate l.length false)) = [y]) (hC : C { w with drawn := w.drawn + 1 })
    (h : wpQuietIn F n P l.toArray C (fun a' => ∀ w', C w' → wpAnyIn F n P .any l.toArray Q (l.length - y) (listedAfter y 0 (Array.replicate l.length false)) a' w') (l.take y) a) : (Code.region id l.toArray true).wpIn F n P Q a w := by
  have hlt : (l.take y).length = y := by rw [List.length_take]; omega
  refine wpIn_region_any hm (any_round (T := fun fuel listed a' => Region.ready .any l.toArray listed = [y] ∧ ∀ w', C w' → wpAnyIn F n P .any l.toArray Q fuel listed a' w') (noDefer_of hnd) (fun _ _ _ h w' hw' => h.2 w' hw') _ _ _ _ hC ?_)
  have := wpAnyT_lex (F := F) (n := n) (P := P) (C := C) (md := .any) (ops := l.toArray) (f0 := l.length - y) (T := fun fuel listed a' => Region.ready .any l.toArray listed = [y] ∧ ∀ w', C w' → wpAnyIn F n P .any l.toArray Q fuel listed a' w') hs hc (fun _ _ _ h => h.1) (l.take y) 0 (Array.replicate l.length false) a (fun j hj => by rw [hlt] at hj; simp [List.getElem?_take, hj]) (by omega) (fun k ok _ hl => by rw [nothing_listed] at hl; cases hl) (by rw [hlt]; exact hB) (fun a' h' => by rw [hlt]; exact ⟨hr, h'⟩) h
  rw [hlt] at this
  have e : y + (l.length - y) = l.length := by omega
  rw [e] at this
  simpa using this
end Go.Proofs.YtihicdbplmdjiaaGreat
