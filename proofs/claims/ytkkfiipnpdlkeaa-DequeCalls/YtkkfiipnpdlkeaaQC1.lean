import Derived.Test.YtkkfiipnpdlkeaaQA9
namespace Go.Proofs.Ytkkfiipnpdlkeaa
open Go.RowKit (wrap32 wrap64)
open Go.MuLone
set_option linter.unusedVariables false
set_option linter.unusedSimpArgs false

/-- Two deques that share nothing, made since w0. -/
structure Two (w0 w : World) (N : Nat) (b1 g1 : Nat) (xs : List Int) (b2 g2 : Nat) (ys : List Int) : Prop where
  d1 : DN w0 w b1 xs N g1
  d2 : DN w0 w b2 ys N g2
  ap : (b1 ≠ b2 ∧ b1 ≠ g2) ∧ g1 ≠ b2 ∧ g1 ≠ g2
  fr : Fr (fun _ => False) w0 w
theorem Two.symm {w0 w : World} {N b1 g1 b2 g2 : Nat} {xs ys : List Int} (h : Two w0 w N b1 g1 xs b2 g2 ys) : Two w0 w N b2 g2 ys b1 g1 xs :=
  ⟨h.d2, h.d1, ⟨⟨fun e => h.ap.1.1 e.symm, fun e => h.ap.2.1 e.symm⟩, fun e => h.ap.1.2 e.symm, fun e => h.ap.2.2 e.symm⟩, h.fr⟩

theorem Two.push {w0 w : World} {N b1 g1 b2 g2 : Nat} {xs ys : List Int} (h : Two w0 w N b1 g1 xs b2 g2 ys) (x : Int) (hx : 2 * xs.length ≤ N) (hN0 : 1 ≤ N) (hN : N ≤ 35184372088832) :
    Calls Try.prog 9 #[.pointer (some ⟨b1, 0, none⟩), vI x] w fun e w' => e = .returned (.tuple #[]) ∧ ∃ g1', Two w0 w' N b1 g1' (xs ++ [x]) b2 g2 ys := by
  refine (push_dn w0 w b1 g1 xs x N hx hN0 hN h.d1 h.fr).mono ?_
  rintro _ w' ⟨rfl, ⟨g', hd, hg⟩, hf, hF⟩
  have hb2 := h.d2.dq.blt
  have hg2 := h.d2.dq.glt
  have ha := h.ap
  refine ⟨rfl, g', ⟨hd, h.d2.fr hf (by omega) (by omega), ⟨ha.1, ?_, ?_⟩, hF⟩⟩
  · rcases hg with rfl | hg
    · exact ha.2.1
    · omega
  · rcases hg with rfl | hg
    · exact ha.2.2
    · omega
theorem Two.pop {w0 w : World} {N b1 g1 b2 g2 : Nat} {xs ys : List Int} (h : Two w0 w N b1 g1 xs b2 g2 ys) (hN : N ≤ 35184372088832) :
    Calls Try.prog 12 #[.pointer (some ⟨b1, 0, none⟩)] w fun e w' => e = .returned (.tuple #[vI (popX xs).1, .bool (popX xs).2]) ∧ Two w0 w' N b1 g1 xs.dropLast b2 g2 ys := by
  refine (pop_dn w0 w b1 g1 xs N (by omega) h.d1 h.fr).mono ?_
  rintro _ w' ⟨rfl, hd, hf, hF⟩
  have ha := h.ap
  exact ⟨rfl, ⟨hd, h.d2.fr hf (by omega) (by omega), ha, hF⟩⟩
theorem Two.steal {w0 w : World} {N b1 g1 b2 g2 : Nat} {xs ys : List Int} (h : Two w0 w N b1 g1 xs b2 g2 ys) (hN : N ≤ 35184372088832) :
    Calls Try.prog 10 #[.pointer (some ⟨b1, 0, none⟩)] w fun e w' => e = .returned (.tuple #[vI (stealX xs).1, .bool (stealX xs).2]) ∧ Two w0 w' N b1 g1 xs.tail b2 g2 ys := by
  refine (steal_dn w0 w b1 g1 xs N (by omega) h.d1 h.fr).mono ?_
  rintro _ w' ⟨rfl, hd, hf, hF⟩
  have ha := h.ap
  exact ⟨rfl, ⟨hd, h.d2.fr hf (by omega) (by omega), ha, hF⟩⟩
theorem Two.len {w0 w : World} {N b1 g1 b2 g2 : Nat} {xs ys : List Int} (h : Two w0 w N b1 g1 xs b2 g2 ys) :
    Calls Try.prog 11 #[.pointer (some ⟨b1, 0, none⟩)] w fun e w' => e = .returned (vI xs.length) ∧ Two w0 w' N b1 g1 xs b2 g2 ys := by
  refine (len_dn w0 w b1 g1 xs N h.d1 h.fr).mono ?_
  rintro _ w' ⟨rfl, hd, hf, hF⟩
  have ha := h.ap
  exact ⟨rfl, ⟨hd, h.d2.fr hf (by omega) (by omega), ha, hF⟩⟩

/-- By Pop (near) or Steal. -/
def takeX (near : Bool) (l : List Int) : Int × Bool := if near then popX l else stealX l
def restX (near : Bool) (l : List Int) : List Int := if near then l.dropLast else l.tail

set_option maxRecDepth 100000 in
set_option maxHeartbeats 1000000 in
theorem take2_any {w0 w : World} {N b1 g1 b2 g2 : Nat} {xs ys : List Int} (h : Two w0 w N b1 g1 xs b2 g2 ys) (hN : N ≤ 35184372088832) (near : Bool) :
    Calls Try.prog 23 #[.pointer (some ⟨b1, 0, none⟩), .bool near] w fun e w' => e = .returned (.tuple #[vI (takeX near xs).1, .bool (takeX near xs).2]) ∧ Two w0 w' N b1 g1 (restX near xs) b2 g2 ys := by
  have H : Hd (Two w0 w N b1 g1 xs b2 g2 ys) := h
  have HN : Hd (N ≤ 35184372088832) := hN
  clear h hN
  cases near
  · show Calls Try.prog 23 _ w fun e w' => e = .returned (.tuple #[vI (stealX xs).1, .bool (stealX xs).2]) ∧ Two w0 w' N b1 g1 xs.tail b2 g2 ys
    go_enter Try.func23, Try.ntmps23
    go_wp2_with (go_at_call 10; refine (H.out.steal HN.out).mono ?_; rintro _ w3 ⟨rfl, H3⟩)
    go_ret2
    exact ⟨rfl, H3⟩
  · show Calls Try.prog 23 _ w fun e w' => e = .returned (.tuple #[vI (popX xs).1, .bool (popX xs).2]) ∧ Two w0 w' N b1 g1 xs.dropLast b2 g2 ys
    go_enter Try.func23, Try.ntmps23
    go_wp2_with (go_at_call 12; refine (H.out.pop HN.out).mono ?_; rintro _ w3 ⟨rfl, H3⟩)
    go_ret2
    exact ⟨rfl, H3⟩

/-- What is left when i of zs have come out. -/
def leftX (near : Bool) (zs : List Int) (i : Nat) : List Int := if near then (zs.drop i).reverse else zs.drop i
theorem take_left (near : Bool) (zs : List Int) (i : Nat) (h : i < zs.length) : takeX near (leftX near zs i) = (zs[i], true) ∧ restX near (leftX near zs i) = leftX near zs (i + 1) := by
  have e := List.drop_eq_getElem_cons h
  cases near
  · simp only [takeX, restX, leftX, Bool.false_eq_true, if_false]
    rw [e]
    exact ⟨rfl, rfl⟩
  · simp only [takeX, restX, leftX, if_true]
    rw [e, List.reverse_cons]
    exact ⟨by simp [popX], by simp⟩

set_option maxRecDepth 100000 in
set_option maxHeartbeats 2000000 in
theorem move_any (w0 w : World) (N b1 g1 b2 g2 : Nat) (near : Bool) (zs ys : List Int) (h : Two w0 w N b1 g1 (leftX near zs 0) b2 g2 ys) (hN0 : 1 ≤ N) (hN : N ≤ 35184372088832) (hl : 2 * (ys.length + zs.length) ≤ N) :
    Calls Try.prog 14 #[.pointer (some ⟨b1, 0, none⟩), .pointer (some ⟨b2, 0, none⟩), vI zs.length, .bool near] w fun e w' => e = .returned (.tuple #[]) ∧ ∃ g2', Two w0 w' N b1 g1 [] b2 g2' (ys ++ zs) := by
  have H0 : Hd (Two w0 w N b1 g1 (leftX near zs 0) b2 g2 ys) := h
  have HL : Hd (2 * (ys.length + zs.length) ≤ N) := hl
  have HN : Hd (N ≤ 35184372088832) := hN
  have HN0 : Hd (1 ≤ N) := hN0
  clear h hl hN hN0
  obtain ⟨n, hn⟩ : ∃ n, n = zs.length := ⟨_, rfl⟩
  have HZ : Hd (n = zs.length) := hn
  rw [← hn]
  clear hn
  go_enter Try.func14, Try.ntmps14
  go_wp2_with fail
  go_loopw [8] (fun v wr => ∃ i : Nat, v = .int .i64 i ∧ i ≤ n ∧ ∃ g2', Hd (Two w0 wr N b1 g1 (leftX near zs i) b2 g2' (ys ++ zs.take i))) (fun v _ => match v with | .int _ q => n - q.toNat | _ => 0)
  case atStart => exact ⟨0, rfl, by omega, g2, by show Two _ _ _ _ _ _ _ _ _; rw [List.take_zero, List.append_nil]; exact H0.out⟩
  case round =>
    obtain ⟨i, rfl, hi, g2', H⟩ := hrel
    clear H0
    by_cases hlt : i < n
    · have hlt' : (i : Int) < n := by omega
      have hz := HZ.out
      have hw : wrap64 ((i : Int) + 1) = ((i + 1 : Nat) : Int) := by rw [w64 (by omega) (by have := HL.out; have := HN.out; omega)]; omega
      have hzl : i < zs.length := by omega
      obtain ⟨x, hx⟩ : ∃ x, x = zs[i] := ⟨_, rfl⟩
      have HT : Hd (Calls Try.prog 23 #[.pointer (some ⟨b1, 0, none⟩), .bool near] wr fun e w' => e = .returned (.tuple #[vI x, .bool true]) ∧ Two w0 w' N b1 g1 (leftX near zs (i + 1)) b2 g2' (ys ++ zs.take i)) := by
        refine (take2_any H.out HN.out near).mono ?_
        rintro _ w' ⟨rfl, h2⟩
        rw [(take_left near zs i hzl).2] at h2
        rw [(take_left near zs i hzl).1, hx]
        exact ⟨rfl, h2⟩
      have HP : Hd (∀ w1, Two w0 w1 N b1 g1 (leftX near zs (i + 1)) b2 g2' (ys ++ zs.take i) → Calls Try.prog 9 #[.pointer (some ⟨b2, 0, none⟩), vI x] w1 fun e w' => e = .returned (.tuple #[]) ∧ ∃ g, Two w0 w' N b1 g1 (leftX near zs (i + 1)) b2 g (ys ++ zs.take (i + 1))) := by
        intro w1 h1
        refine (h1.symm.push x (by have := HL.out; simp; omega) HN0.out HN.out).mono ?_
        rintro _ w' ⟨rfl, g, h2⟩
        refine ⟨rfl, g, ?_⟩
        rw [List.take_succ_eq_append_getElem hzl, ← List.append_assoc, ← hx]
        exact h2.symm
      clear H hz hzl hx
      go_wp2_with (first
        | (go_at_call 23; refine HT.out.mono ?_; rintro _ w3 ⟨rfl, H3⟩)
        | (go_at_call 9; refine (HP.out _ H3).mono ?_; rintro _ w4 ⟨rfl, H4⟩))
      obtain ⟨g4, H4⟩ := H4
      refine ⟨⟨i + 1, by simp [hw], by omega, g4, H4⟩, by simp [hw]; omega⟩
    · have hlt' : decide (i < n) = false := by simp; omega
      have HI : Hd (i = n) := by show i = n; omega
      clear hi
      go_wp2_with fail
      go_end0
      refine ⟨rfl, g2', ?_⟩
      have hz := HZ.out
      have hii := HI.out
      have := H.out
      rw [List.take_of_length_le (by omega)] at this
      have e : leftX near zs i = [] := by unfold leftX; rw [List.drop_eq_nil_of_le (by omega)]; simp
      rw [e] at this
      exact this
end Go.Proofs.Ytkkfiipnpdlkeaa
