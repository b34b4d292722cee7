import Derived.Test.YtkkfiipnpdlkeaaQE2
namespace Go.Proofs.Ytkkfiipnpdlkeaa
open Go.RowKit (wrap32 wrap64)
open Go.MuLone
set_option linter.unusedVariables false
set_option linter.unusedSimpArgs false

/-- What a call leaves. -/
def doX (kd tk : Int) (xs : List Int) : List Int := if kd = 1 then xs ++ [tk] else if kd = 2 then xs.dropLast else if kd = 3 then xs.tail else xs
theorem doX_len (kd tk : Int) (xs : List Int) : (doX kd tk xs).length ≤ xs.length + 1 := by
  unfold doX
  split
  · simp
  · split
    · simp; omega
    · split
      · simp; omega
      · omega

set_option maxRecDepth 100000 in
set_option maxHeartbeats 4000000 in
theorem does_any (w0 w : World) (N b g c : Nat) (tv : Value) (xs : List Int) (h : Pr w0 w N b g c tv xs xs) (kd on tk : Int) (hx : 2 * xs.length + 2 ≤ N) (hN : N ≤ 35184372088832) :
    Calls Try.prog 16 #[.pointer (some ⟨b, 0, none⟩), .pointer (some ⟨c, 0, none⟩), .agg #[vI kd, vI on, vI tk]] w fun e w' => e = .returned (.bool true) ∧ ∃ g' tv', Pr w0 w' N b g' c tv' (doX kd tk xs) (doX kd tk xs) ∧ Stp w (Ow b g c tv) w' (Ow b g' c tv') := by
  have HO : Hd (∀ j, Ow b g c tv j → j < w.heap.size) := fun j hj => (h.lt j hj).2
  have F1 : Fr (fun _ => False) w (w.alloc (.cells #[vI kd, vI on, vI tk] 40)) := (Fr.refl _ w).alloc _
  have H1 : Hd (Pr w0 (w.alloc (.cells #[vI kd, vI on, vI tk] 40)) N b g c tv xs xs) := h.frame F1 (fun _ _ h => h) (h.fr.trans F1)
  have S1 : Hd (Stp w (Ow b g c tv) (w.alloc (.cells #[vI kd, vI on, vI tk] 40)) (Ow b g c tv)) := ⟨F1.mono (fun _ _ h => h.elim), fun _ h => Or.inl h⟩
  have ho := heap_alloc_last w (.cells #[vI kd, vI on, vI tk] 40)
  have c0 : (w.alloc (.cells #[vI kd, vI on, vI tk] 40)).cell? ⟨w.heap.size, 0, none⟩ = some (vI kd) := by rw [cell_of ho]; rfl
  have c2 : (w.alloc (.cells #[vI kd, vI on, vI tk] 40)).cell? ⟨w.heap.size, 2, none⟩ = some (vI tk) := by rw [cell_of ho]; rfl
  have HC : Hd (∀ w' O', Stp (w.alloc (.cells #[vI kd, vI on, vI tk] 40)) (Ow b g c tv) w' O' → w'.cell? ⟨w.heap.size, 2, none⟩ = some (vI tk)) := fun w' O' hs =>
    (hs.fr.cell (heap_lt ho) (fun e => Nat.lt_irrefl _ (HO.out _ e))).trans c2
  have HX : Hd (2 * xs.length + 2 ≤ N) := hx
  have HN : Hd (N ≤ 35184372088832) := hN
  clear h hx hN F1 ho HO
  by_cases k1 : kd = 1
  · subst k1
    have e : doX 1 tk xs = xs ++ [tk] := rfl
    rw [e]
    clear e
    go_enter Try.func16, Try.ntmps16
    go_wp2_with (go_at_call 9; refine (H1.out.push tk (by have := HX.out; omega) (by have := HX.out; omega) HN.out).mono ?_; rintro _ w2 ⟨rfl, H2⟩; obtain ⟨g2, H2, S2⟩ := H2; have d2 := HC.out _ _ S2)
    refine (H2.fpush tk (by have := HX.out; have := HN.out; omega)).mono ?_
    rintro _ w3 ⟨rfl, tv3, H3, S3⟩
    go_wp2_with fail
    refine H3.len.mono ?_
    rintro _ w4 ⟨rfl, H4, S4⟩
    go_wp2_with (go_at_call 17; refine H4.flen.mono ?_; rintro _ _ ⟨rfl, rfl⟩)
    go_ret
    exact ⟨by simp, g2, tv3, H4, ((S1.out.trans S2).trans S3).trans S4⟩
  · by_cases k2 : kd = 2
    · subst k2
      have e : doX 2 tk xs = xs.dropLast := rfl
      rw [e]
      clear e
      go_enter Try.func16, Try.ntmps16
      go_wp2_with (go_at_call 12; refine (H1.out.pop HN.out).mono ?_; rintro _ w2 ⟨rfl, H2, S2⟩)
      refine (H2.fpop (by have := HX.out; have := HN.out; omega)).mono ?_
      rintro _ w3 ⟨rfl, tv3, H3, S3⟩
      go_wp2_with fail
      go_ret
      exact ⟨by simp, g, tv3, H3, (S1.out.trans S2).trans S3⟩
    · by_cases k3 : kd = 3
      · subst k3
        have e : doX 3 tk xs = xs.tail := rfl
        rw [e]
        clear e
        go_enter Try.func16, Try.ntmps16
        go_wp2_with (go_at_call 10; refine (H1.out.steal HN.out).mono ?_; rintro _ w2 ⟨rfl, H2, S2⟩)
        refine (H2.fsteal (by have := HX.out; have := HN.out; omega)).mono ?_
        rintro _ w3 ⟨rfl, tv3, H3, S3⟩
        go_wp2_with fail
        go_ret
        exact ⟨by simp, g, tv3, H3, (S1.out.trans S2).trans S3⟩
      · have e : doX kd tk xs = xs := by unfold doX; rw [if_neg k1, if_neg k2, if_neg k3]
        rw [e]
        clear e
        have b1 : (kd == 1) = false := by simpa using k1
        have b2 : (kd == 2) = false := by simpa using k2
        have b3 : (kd == 3) = false := by simpa using k3
        by_cases k6 : kd = 6
        · subst k6
          go_enter Try.func16, Try.ntmps16
          go_wp2_with (go_at_call 27; refine (nothing_any tk _).mono ?_; rintro _ _ ⟨rfl, rfl⟩)
          go_ret
          exact ⟨rfl, g, tv, H1.out, S1.out⟩
        · have b6 : (kd == 6) = false := by simpa using k6
          go_enter Try.func16, Try.ntmps16
          go_wp2_with (go_at_call 11; refine H1.out.len.mono ?_; rintro _ w4 ⟨rfl, H4, S4⟩)
          refine H4.flen.mono ?_
          rintro _ _ ⟨rfl, rfl⟩
          go_wp2_with fail
          go_ret
          exact ⟨by simp, g, tv, H4, S1.out.trans S4⟩
end Go.Proofs.Ytkkfiipnpdlkeaa
