import Derived.Test.YtkkfiipnpdlkeaaQD3
namespace Go.Proofs.Ytkkfiipnpdlkeaa
open Go.RowKit (wrap32 wrap64)
open Go.MuLone
set_option linter.unusedVariables false
set_option linter.unusedSimpArgs false

/-- append by what its run is. -/
theorem wpList_append_run {P : Program} {w w' : World} {ops : Array Oper} {rest : List Oper} {o : Oper} {a : Act} {Q : Exit → Act → World → Prop} (hgd : o.guard = none) (s x : Operand) (t : TypeId)
    (ho : o.op = .call { callee := .builtin .append, args := #[s, x], argTypes := #[t, t] }) (v u v' : Value) (hs : a.eval s = v) (hx : a.eval x = u)
    (hrun : (Builtin.append_ #[t, t] o.type #[v, u]).run P w = .ok v' w') (h : wpList P ops Q rest (a.put o.dst v') w') : wpList P ops Q (o :: rest) a w := by
  refine wpList_plain hgd fun K hK => ?_
  unfold Oper.wp
  simp [execOp, ho, resolve, invoke, builtin, hs, hx, hrun, Result.andThen]
  exact hK _ _ h

/-- A deque, a slice that grows, and another that stays. -/
structure Q2 (w wr : World) (b N g : Nat) (ds : List Int) (rv : Value) (rs : List Int) (tv : Value) (xs : List Int) : Prop where
  on : On w wr b N g ds rv rs
  st : Wn wr w.heap.size tv xs
  ap : ∀ k, tv.ownBlock = some k → k ≠ b ∧ k ≠ g ∧ rv.ownBlock ≠ some k
theorem Q2.len {w wr : World} {b N g : Nat} {ds rs xs : List Int} {rv tv : Value} (h : Q2 w wr b N g ds rv rs tv xs) :
    Calls Try.prog 11 #[.pointer (some ⟨b, 0, none⟩)] wr fun e w' => e = .returned (vI ds.length) ∧ Q2 w w' b N g ds rv rs tv xs := by
  refine h.on.len.mono ?_
  rintro _ w' ⟨rfl, h1, hf⟩
  exact ⟨rfl, h1, h.st.fr hf (fun k e => by have := h.ap k e; omega), h.ap⟩
theorem Q2.steal {w wr : World} {b N g : Nat} {ds rs xs : List Int} {rv tv : Value} (h : Q2 w wr b N g ds rv rs tv xs) (hN : N ≤ 35184372088832) :
    Calls Try.prog 10 #[.pointer (some ⟨b, 0, none⟩)] wr fun e w' => e = .returned (.tuple #[vI (stealX ds).1, .bool (stealX ds).2]) ∧ Q2 w w' b N g ds.tail rv rs tv xs := by
  refine (h.on.steal hN).mono ?_
  rintro _ w' ⟨rfl, h1, hf⟩
  exact ⟨rfl, h1, h.st.fr hf (fun k e => by have := h.ap k e; omega), h.ap⟩
theorem Q2.append {w wr : World} {b N g : Nat} {ds rs xs : List Int} {rv tv : Value} (h : Q2 w wr b N g ds rv rs tv xs) (x : Int) (ty : TypeId) (hl : rs.length ≤ 17592186044416) :
    ∃ v' w', (Builtin.append_ #[30, 30] ty #[rv, .slice (some ⟨wr.heap.size, 0, none⟩) 1 1]).run Try.prog (wr.alloc (.cells #[vI x] 3)) = .ok v' w' ∧ Q2 w w' b N g ds v' (rs ++ [x]) tv xs := by
  obtain ⟨v', w', hr, h1, hf, hb⟩ := h.on.append x ty hl
  refine ⟨v', w', hr, h1, h.st.fr hf (fun k e => (h.ap k e).2.2), fun k e => ⟨(h.ap k e).1, (h.ap k e).2.1, fun e2 => ?_⟩⟩
  rcases hb k e2 with e3 | e3
  · exact (h.ap k e).2.2 e3
  · have := (h.st.lt k e).2
    omega

set_option maxRecDepth 100000 in
set_option maxHeartbeats 8000000 in
theorem once_any (v : Value) (zs : List Int) (w : World) (hv : IntsAt w w.heap.size v zs) (hl : zs.length ≤ 17592186043904) :
    Calls Try.prog 4 #[v] w fun e w' => e = .returned (.bool true) ∧ Fr (fun _ => False) w w' := by
  obtain ⟨a, cp, rfl, hc⟩ := hv
  have HC : Hd (zs ≠ [] → ∃ k o, a = some ⟨k, o, none⟩ ∧ k < w.heap.size ∧ ∀ j (h : j < zs.length), w.cell? ⟨k, o + j, none⟩ = some (vI zs[j])) := hc
  obtain ⟨N, hN⟩ : ∃ N, N = 2 * zs.length + 2 := ⟨_, rfl⟩
  have HN : Hd (N = 2 * zs.length + 2) := hN
  have HN1 : Hd (N ≤ 35184372088832) := by show N ≤ _; omega
  obtain ⟨n, hn⟩ : ∃ n, n = zs.length := ⟨_, rfl⟩
  have HZ : Hd (n = zs.length) := hn
  have HL : Hd (zs.length ≤ 17592186043904) := hl
  rw [← hn]
  clear hc hN hn hl
  have HW : Hd (Calls Try.prog 7 #[] w fun e w' => e = .returned (.bool true) ∧ Fr (fun _ => False) w w') := fixed_any w
  go_enter Try.func4, Try.ntmps4
  go_wp2_with fail
  refine HW.out.mono ?_
  rintro _ w1 ⟨rfl, F1⟩
  go_wp2_with fail
  refine (new_dn w w1 F1 N).mono ?_
  rintro _ w2 ⟨rfl, D2, -, F2⟩
  obtain ⟨b, hb⟩ : ∃ b, b = w1.heap.size := ⟨_, rfl⟩
  rw [← hb] at D2 ⊢
  have H0 : Hd (On w w2 b N b [] (.slice none 0 0) []) := ⟨D2, Wn.nil _ _, fun k e => (by cases e), F2⟩
  clear D2 F1 F2 hb HW
  go_wp2_with fail
  go_loopw [3, 5, 6, 7] (fun o pv tv iv wr => o = .bool true ∧ ∃ (i p g : Nat) (xs : List Int), pv = .int .i64 p ∧ iv = .int .i64 i ∧ i ≤ n ∧ p ≤ i ∧ xs.length ≤ p ∧ Hd (On w wr b N g xs tv xs)) (fun _ _ _ v _ => match v with | .int _ q => n - q.toNat | _ => 0)
  case atStart => exact ⟨rfl, 0, 0, b, [], rfl, rfl, by omega, by omega, by simp, H0.out⟩
  case round =>
    obtain ⟨rfl, i, p, g, xs, rfl, rfl, hi, hp, hx, H⟩ := hrel
    clear H0
    by_cases hlt : i < n
    · have hlt' : (i : Int) < n := by omega
      have hltd : decide (i < n) = true := by simpa using hlt
      have h0 : (0 : Int) ≤ i := by omega
      have hz := HZ.out
      have hll := HL.out
      have hw : wrap64 ((i : Int) + 1) = ((i + 1 : Nat) : Int) := by rw [w64 (by omega) (by omega)]; omega
      have hzl : i < zs.length := by omega
      obtain ⟨k, o, rfl, hk, hcell⟩ := HC.out (by rintro rfl; simp at hzl)
      have hci : wr.cell? ⟨k, o + i, none⟩ = some (vI zs[i]) := (H.out.fr.cell hk (fun h => h)).trans (hcell i hzl)
      obtain ⟨t, ht⟩ : ∃ t, t = zs[i] := ⟨_, rfl⟩
      rw [← ht] at hci
      have HX : Hd (xs.length ≤ 17592186044416) := by show xs.length ≤ _; omega
      have HP : Hd (p ≤ i ∧ xs.length ≤ p ∧ i + 1 ≤ n ∧ i < 17592186044416) := ⟨hp, hx, hlt, by omega⟩
      clear hz hll hzl ht hcell HC hi hp hx
      by_cases t0 : t = 0
      · subst t0
        rcases List.eq_nil_or_concat xs with rfl | ⟨ys, x, rfl⟩
        · obtain ⟨ta, tc, rfl, -⟩ := H.out.s.len
          go_wp2_with (first
            | (go_at_call 12; refine (H.out.pop HN1.out).mono ?_; rintro _ w4 ⟨rfl, H4, -⟩)
            | (go_at_call 11; refine H4.len.mono ?_; rintro _ w5 ⟨rfl, H5, -⟩))
          refine ⟨⟨rfl, i + 1, p, g, [], by rfl, by simp [hw], by omega, by have := HP.out; omega, by simp, H5⟩, by simp [hw]; omega⟩
        · rw [List.concat_eq_append] at H HX HP
          obtain ⟨tk, to, tc, htv⟩ := H.out.spot (by simp)
          obtain ⟨L, hL⟩ : ∃ L, L = (ys ++ [x]).length := ⟨_, rfl⟩
          rw [← hL] at htv
          subst htv
          obtain ⟨m, hm⟩ : ∃ m, m = ys.length := ⟨_, rfl⟩
          have hLm : L = m + 1 := by rw [hL, hm]; simp
          have hcap : L ≤ tc := H.out.cutNear.2.2.2
          have hL0 : (0 : Int) < L := by omega
          have hL1 : decide (0 < L) = true := by simp; omega
          have hxl : L ≤ 17592186044416 := by rw [hL]; exact HX.out
          have hwL : wrap64 ((L : Int) - 1) = (m : Int) := by rw [w64 (by omega) (by omega)]; omega
          have m0 : (0 : Int) ≤ m := by omega
          have m1 : (m : Int) < L := by omega
          have m2 : (m : Int) ≤ tc := by omega
          have HO : Hd (Calls Try.prog 12 #[.pointer (some ⟨b, 0, none⟩)] wr fun e w' => e = .returned (.tuple #[vI x, .bool true]) ∧ On w w' b N g ys (.slice (some ⟨tk, to, none⟩) m tc) ys ∧ w'.cell? ⟨tk, to + m, none⟩ = some (vI x)) := by
            refine (H.out.pop HN1.out).mono ?_
            rintro _ w' ⟨rfl, h4, -⟩
            rw [List.dropLast_concat] at h4
            have hcut := h4.cutNear
            rw [← hm] at hcut
            exact ⟨by simp [popX], hcut.1, hcut.2.1⟩
          have HLn : Hd (∀ w1, On w w1 b N g ys (.slice (some ⟨tk, to, none⟩) m tc) ys → Calls Try.prog 11 #[.pointer (some ⟨b, 0, none⟩)] w1 fun e w' => e = .returned (vI m) ∧ On w w' b N g ys (.slice (some ⟨tk, to, none⟩) m tc) ys) := by
            intro w1 h1
            refine h1.len.mono ?_
            rintro _ w' ⟨rfl, h5, -⟩
            exact ⟨by rw [hm], h5⟩
          have HM : Hd (m = ys.length) := hm
          have HP2 : Hd (p ≤ i ∧ ys.length ≤ p) := by have := HP.out; simp only [List.length_append, List.length_singleton] at this; exact ⟨by omega, by omega⟩
          clear H hL hm hLm hcap hxl HX HP
          go_wp2_with (first
            | (go_at_call 12; refine HO.out.mono ?_; rintro _ w4 ⟨rfl, H4, c4⟩)
            | (go_at_call 11; refine (HLn.out _ H4).mono ?_; rintro _ w5 ⟨rfl, H5⟩))
          refine ⟨⟨rfl, i + 1, p, g, ys, by rfl, by simp [hw], by omega, by have := HP2.out; omega, HP2.out.2, H5⟩, by simp [hw]; omega⟩
      · by_cases t1 : t = 1
        · subst t1
          cases xs with
          | nil =>
            obtain ⟨ta, tc, rfl, -⟩ := H.out.s.len
            go_wp2_with (first
              | (go_at_call 10; refine (H.out.steal HN1.out).mono ?_; rintro _ w4 ⟨rfl, H4, -⟩)
              | (go_at_call 11; refine H4.len.mono ?_; rintro _ w5 ⟨rfl, H5, -⟩))
            refine ⟨⟨rfl, i + 1, p, g, [], by rfl, by simp [hw], by omega, by have := HP.out; omega, by simp, H5⟩, by simp [hw]; omega⟩
          | cons x ys =>
            obtain ⟨tk, to, tc, htv⟩ := H.out.spot (by simp)
            obtain ⟨L, hL⟩ : ∃ L, L = (x :: ys).length := ⟨_, rfl⟩
            rw [← hL] at htv
            subst htv
            obtain ⟨m, hm⟩ : ∃ m, m = ys.length := ⟨_, rfl⟩
            have hLm : L = m + 1 := by rw [hL, hm]; simp
            have hcap : L ≤ tc := H.out.cutFar.2.2.2
            have hL0 : (0 : Int) < L := by omega
            have hL1 : decide (0 < L) = true := by simp; omega
            have hL2 : (1 : Int) ≤ L := by omega
            have hL3 : 1 ≤ L := by omega
            have HP2 : Hd (p ≤ i ∧ ys.length ≤ p) := by have := HP.out; simp only [List.length_cons] at this; exact ⟨by omega, by omega⟩
            by_cases htc : tc = 1
            · subst htc
              obtain rfl : L = 1 := by omega
              obtain rfl : ys = [] := List.eq_nil_of_length_eq_zero (by omega)
              have HO : Hd (Calls Try.prog 10 #[.pointer (some ⟨b, 0, none⟩)] wr fun e w' => e = .returned (.tuple #[vI x, .bool true]) ∧ On w w' b N g [] (.slice (some ⟨tk, to, none⟩) 0 0) [] ∧ w'.cell? ⟨tk, to, none⟩ = some (vI x)) := by
                refine (H.out.steal HN1.out).mono ?_
                rintro _ w' ⟨rfl, h4, -⟩
                have hcut := h4.cutFar
                exact ⟨rfl, hcut.1 _ rfl, hcut.2.1⟩
              have HLn : Hd (∀ w1, On w w1 b N g [] (.slice (some ⟨tk, to, none⟩) 0 0) [] → Calls Try.prog 11 #[.pointer (some ⟨b, 0, none⟩)] w1 fun e w' => e = .returned (vI 0) ∧ On w w' b N g [] (.slice (some ⟨tk, to, none⟩) 0 0) []) := by
                intro w1 h1
                refine h1.len.mono ?_
                rintro _ w' ⟨rfl, h5, -⟩
                exact ⟨rfl, h5⟩
              clear H hL hm hLm hcap hL0 hL1 hL2 hL3 HX HP
              go_wp2_with (first
                | (go_at_call 10; refine HO.out.mono ?_; rintro _ w4 ⟨rfl, H4, c4⟩)
                | (go_at_call 11; refine (HLn.out _ H4).mono ?_; rintro _ w5 ⟨rfl, H5⟩))
              refine ⟨⟨rfl, i + 1, p, g, [], by rfl, by simp [hw], by omega, by have := HP2.out; omega, by simp, H5⟩, by simp [hw]; omega⟩
            · have HO : Hd (Calls Try.prog 10 #[.pointer (some ⟨b, 0, none⟩)] wr fun e w' => e = .returned (.tuple #[vI x, .bool true]) ∧ On w w' b N g ys (.slice (some ⟨tk, to + 1, none⟩) (L - 1) (tc - 1)) ys ∧ w'.cell? ⟨tk, to, none⟩ = some (vI x)) := by
                refine (H.out.steal HN1.out).mono ?_
                rintro _ w' ⟨rfl, h4, -⟩
                have hcut := h4.cutFar
                have hc1 := hcut.1 (some ⟨tk, to + 1, none⟩) (by rw [if_neg htc])
                rw [show ys.length = L - 1 by omega] at hc1
                exact ⟨rfl, hc1, hcut.2.1⟩
              have HLn : Hd (∀ w1, On w w1 b N g ys (.slice (some ⟨tk, to + 1, none⟩) (L - 1) (tc - 1)) ys → Calls Try.prog 11 #[.pointer (some ⟨b, 0, none⟩)] w1 fun e w' => e = .returned (vI (L - 1 : Nat)) ∧ On w w' b N g ys (.slice (some ⟨tk, to + 1, none⟩) (L - 1) (tc - 1)) ys) := by
                intro w1 h1
                refine h1.len.mono ?_
                rintro _ w' ⟨rfl, h5, -⟩
                exact ⟨by rw [show ys.length = L - 1 by omega], h5⟩
              clear H hL hm hLm HX HP
              go_wp2_with (first
                | (go_at_call 10; refine HO.out.mono ?_; rintro _ w4 ⟨rfl, H4, c4⟩)
                | (go_at_call 11; refine (HLn.out _ H4).mono ?_; rintro _ w5 ⟨rfl, H5⟩))
              refine ⟨⟨rfl, i + 1, p, g, ys, by rfl, by simp [hw], by omega, by have := HP2.out; omega, HP2.out.2, H5⟩, by simp [hw]; omega⟩
        · have HE : Hd (On w wr b N g xs u6 xs) := H
          have hwp : wrap64 ((p : Int) + 1) = ((p + 1 : Nat) : Int) := by have := HP.out; rw [w64 (by omega) (by omega)]; omega
          have t0' : (t == 0) = false := by simpa using t0
          have t1' : (t == 1) = false := by simpa using t1
          obtain ⟨ta, tc, htv, -⟩ := H.out.s.len
          obtain ⟨L, hL⟩ : ∃ L, L = xs.length := ⟨_, rfl⟩
          rw [← hL] at htv
          subst htv
          obtain ⟨q, hq⟩ : ∃ q, q = p + 1 := ⟨_, rfl⟩
          rw [← hq] at hwp
          have HQ : Hd (∀ w1, w1 = wr → Calls Try.prog 9 #[.pointer (some ⟨b, 0, none⟩), vI q] w1 fun e w' => e = .returned (.tuple #[]) ∧ ∃ g' v' w'', (Builtin.append_ #[30, 30] 30 #[.slice ta L tc, .slice (some ⟨w'.heap.size, 0, none⟩) 1 1]).run Try.prog (w'.alloc (.cells #[vI q] 3)) = .ok v' w'' ∧ On w w'' b N g' (xs ++ [(q : Int)]) v' (xs ++ [(q : Int)])) := by
            rintro w1 rfl
            refine (H.out.push q (by have := HP.out; have := HN.out; have := HZ.out; omega) (by have := HN.out; omega) HN1.out).mono ?_
            rintro _ w' ⟨rfl, g', h4⟩
            obtain ⟨v', w'', hr, h5, -⟩ := h4.append q 30 HX.out
            exact ⟨rfl, g', v', w'', hr, h5⟩
          have HP2 : Hd (q ≤ i + 1 ∧ (xs ++ [(q : Int)]).length ≤ q) := by have := HP.out; refine ⟨by omega, ?_⟩; rw [List.length_append, List.length_singleton]; omega
          clear H HE hL HX HP hq
          go_wp2_with (first
            | (go_at_call 9; refine (HQ.out _ rfl).mono ?_; rintro _ w4 ⟨rfl, H4⟩; obtain ⟨g4, v4, w5, hr4, H5⟩ := H4)
            | (at_builtin; refine wpList_append_run rfl (.tmp 40) (.tmp 42) 30 rfl _ _ _ rfl rfl hr4 ?_))
          refine H5.len.mono ?_
          rintro _ w6 ⟨rfl, H6, -⟩
          obtain ⟨ta4, tc4, rfl, -⟩ := H6.s.len
          obtain ⟨M, hM⟩ : ∃ M, M = (xs ++ [(q : Int)]).length := ⟨_, rfl⟩
          have HH : Hd (On w w6 b N g4 (xs ++ [(q : Int)]) (.slice ta4 M tc4) (xs ++ [(q : Int)])) := by rw [hM]; exact H6
          rw [← hM]
          clear H5 H6 hM hr4 HQ
          go_wp2_with fail
          refine ⟨⟨rfl, i + 1, q, g4, xs ++ [(q : Int)], by rfl, by simp [hw], by omega, HP2.out.1, HP2.out.2, HH.out⟩, by simp [hw]; omega⟩
    · have hltd : decide (i < n) = false := by simp; omega
      have HX : Hd (xs.length ≤ p ∧ p ≤ 17592186044416) := by have := HZ.out; have := HL.out; exact ⟨hx, by omega⟩
      obtain ⟨ta, tc, htv, -⟩ := H.out.s.len
      have HT : Hd (u6 = .slice ta xs.length tc) := htv
      have H2 : Hd (Q2 w wr b N g xs (.slice none 0 0) [] u6 xs) := ⟨⟨H.out.d, Wn.nil _ _, fun k e => (by cases e), H.out.fr⟩, H.out.s, fun k e => ⟨(H.out.ap k e).1, (H.out.ap k e).2, fun e2 => by cases e2⟩⟩
      clear H hi hp hx HC htv
      go_wp2_with fail
      go_loopw [3, 12] (fun o rv wr => o = .bool true ∧ ∃ j : Nat, j ≤ xs.length ∧ (∃ ra rc, rv = .slice ra j rc) ∧ Hd (Q2 w wr b N g (xs.drop j) rv (xs.take j) u6 xs)) (fun _ rv _ => match rv with | .slice _ l _ => xs.length - l | _ => 0)
      case atStart => exact ⟨rfl, 0, by omega, ⟨none, 0, rfl⟩, H2.out⟩
      case round =>
        obtain ⟨rfl, j, hj, ⟨ra, rc, rfl⟩, H⟩ := hrel
        clear H2
        by_cases hjl : j < xs.length
        · obtain ⟨M, hM⟩ : ∃ M, M = xs.length - j := ⟨_, rfl⟩
          obtain ⟨x, hx⟩ : ∃ x, x = xs[j] := ⟨_, rfl⟩
          have hM0 : (0 : Int) < M := by omega
          have hM1 : decide (0 < M) = true := by simp; omega
          have hjp : (j : Int) ≤ p := by have := HX.out; omega
          have hjp1 : decide (j ≤ p) = true := by have := HX.out; simp; omega
          have HLn : Hd (Calls Try.prog 11 #[.pointer (some ⟨b, 0, none⟩)] wr fun e w' => e = .returned (vI M) ∧ Q2 w w' b N g (xs.drop j) (.slice ra j rc) (xs.take j) u6 xs) := by
            refine H.out.len.mono ?_
            rintro _ w' ⟨rfl, h1⟩
            exact ⟨by rw [List.length_drop, hM], h1⟩
          have HSt : Hd (∀ w1, Q2 w w1 b N g (xs.drop j) (.slice ra j rc) (xs.take j) u6 xs → Calls Try.prog 10 #[.pointer (some ⟨b, 0, none⟩)] w1 fun e w' => e = .returned (.tuple #[vI x, .bool true]) ∧ ∃ v' w'', (Builtin.append_ #[30, 30] 30 #[.slice ra j rc, .slice (some ⟨w'.heap.size, 0, none⟩) 1 1]).run Try.prog (w'.alloc (.cells #[vI x] 3)) = .ok v' w'' ∧ Q2 w w'' b N g (xs.drop (j + 1)) v' (xs.take (j + 1)) u6 xs) := by
            intro w1 h1
            refine (h1.steal HN1.out).mono ?_
            rintro _ w' ⟨rfl, h2⟩
            have e := List.drop_eq_getElem_cons hjl
            obtain ⟨v', w'', hr, h3⟩ := h2.append x 30 (by have := HX.out; rw [List.length_take]; omega)
            refine ⟨by rw [e, hx]; rfl, v', w'', hr, ?_⟩
            rw [e, List.tail_cons] at h3
            rw [List.take_succ_eq_append_getElem hjl, ← hx]
            exact h3
          clear H hM hx
          go_wp2_with (first
            | (go_at_call 11; refine HLn.out.mono ?_; rintro _ w7 ⟨rfl, H7⟩)
            | (go_at_call 10; refine (HSt.out _ H7).mono ?_; rintro _ w8 ⟨rfl, H8⟩; obtain ⟨v8, w9, hr8, H9⟩ := H8)
            | (at_builtin; refine wpList_append_run rfl (.tmp 108) (.tmp 110) 30 rfl _ _ _ rfl rfl hr8 ?_))
          obtain ⟨ra9, rc9, e9, -⟩ := H9.on.s.len
          have e10 : (xs.take (j + 1)).length = j + 1 := by rw [List.length_take]; omega
          rw [e10] at e9
          subst e9
          refine ⟨⟨rfl, j + 1, by omega, ⟨ra9, rc9, rfl⟩, H9⟩, ?_⟩
          show xs.length - (j + 1) < xs.length - j
          omega
        · obtain rfl : j = xs.length := by omega
          have HE : Hd (∀ w1, Q2 w w1 b N g (xs.drop xs.length) (.slice ra xs.length rc) (xs.take xs.length) u6 xs → Calls Try.prog 13 #[.slice ra xs.length rc, u6] w1 fun e w' => e = .returned (.bool true) ∧ Fr (fun _ => False) w w') := by
            intro w1 h1
            have i1 := h1.on.s.ints
            rw [List.take_length] at i1
            refine (eqInts_same _ _ xs w1.heap.size w1.heap.size w1 i1 h1.st.ints (Nat.le_refl _) (Nat.le_refl _) (by have := HX.out; omega)).mono ?_
            rintro _ w' ⟨rfl, hf⟩
            exact ⟨rfl, h1.on.fr.trans hf⟩
          have HLn : Hd (Calls Try.prog 11 #[.pointer (some ⟨b, 0, none⟩)] wr fun e w' => e = .returned (vI 0) ∧ Q2 w w' b N g (xs.drop xs.length) (.slice ra xs.length rc) (xs.take xs.length) u6 xs) := by
            refine H.out.len.mono ?_
            rintro _ w' ⟨rfl, h1⟩
            exact ⟨by rw [List.drop_length]; rfl, h1⟩
          clear H hj hjl
          obtain ⟨L, hL⟩ : ∃ L, L = xs.length := ⟨_, rfl⟩
          rw [← hL] at HE HLn ⊢
          clear hL
          go_wp2_with (first
            | (go_at_call 11; refine HLn.out.mono ?_; rintro _ w7 ⟨rfl, H7⟩)
            | (go_at_call 13; refine (HE.out _ H7).mono ?_; rintro _ w8 ⟨rfl, F8⟩))
          go_ret
          exact ⟨rfl, F8⟩
end Go.Proofs.Ytkkfiipnpdlkeaa
