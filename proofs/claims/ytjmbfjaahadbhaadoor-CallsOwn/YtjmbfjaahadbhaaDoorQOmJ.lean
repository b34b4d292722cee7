import Derived.Test.YtjmbfjaahadbhaaDoorQOgJ
import Derived.Test.YtjmbfjaahadbhaaDoorQHfJ
set_option linter.unusedVariables false
set_option linter.unusedSimpArgs false
namespace Go.Proofs.YtjmbfjaahadbhaaDoor
open Go.RowKit (wrap32 wrap64)

theorem cle_next {N d c : Nat} {of : Nat → Nat} {cl : Nat → List Nat} : cleX N (d + 1) of cl c = cleX N d of cl c ++ if (c != d && hitX N of cl c d) = true then [d] else [] := by
  unfold cleX
  rw [List.range_succ, List.filter_append]
  congr 1
  by_cases e : (c != d && hitX N of cl c d) = true
  · rw [if_pos e, List.filter_cons_of_pos (by simpa using e), List.filter_nil]
  · rw [if_neg e, List.filter_cons_of_neg (by simpa using e), List.filter_nil]
theorem clr_next {N d c : Nat} {of : Nat → Nat} {cl : Nat → List Nat} : clrX N (d + 1) of cl c = clrX N d of cl c ++ if (d != c && hitX N of cl d c) = true then [d] else [] := by
  unfold clrX
  rw [List.range_succ, List.filter_append]
  congr 1
  by_cases e : (d != c && hitX N of cl d c) = true
  · rw [if_pos e, List.filter_cons_of_pos (by simpa using e), List.filter_nil]
  · rw [if_neg e, List.filter_cons_of_neg (by simpa using e), List.filter_nil]
section
variable {w : World} {N n : Nat} {of : Nat → Nat} {cl : Nat → List Nat} {b lg lo lc wg wc ck co cc : Nat}
set_option maxRecDepth 100000 in
set_option maxHeartbeats 4000000 in
theorem dcallees_any (c : Nat) (h : Dv w N n of cl b lg lo lc wg wc ck co cc) (hc : c < n) (hcl : ∀ x, x < N → ∀ z ∈ cl x, z < N) (hll : ∀ x, x < N → (ddX (cl x)).length ≤ 1000000000) (hn : n ≤ 1000000) (hN : N ≤ 1000000) :
    Calls Tryd.prog 46 #[.pointer (some ⟨b, 0, none⟩), vI (c : Int)] w fun e w' => ∃ v', e = .returned v' ∧ IOwn w' w.heap.size v' (zL (cleX N n of cl c)) ∧ Fr (fun _ => False) w w' := by
  have HDV : Hd (Dv w N n of cl b lg lo lc wg wc ck co cc) := h
  have HB : Hd (w.heap[b]? = some (.cells #[.slice (some ⟨lg, lo, none⟩) n lc, .slice (some ⟨wg, 0, none⟩) N wc, .slice (some ⟨ck, co, none⟩) N cc] 76)) := h.box
  have HCA : Hd (∀ d, d < n → ∀ W, Fr (fun _ => False) w W → Calls Tryd.prog 65 #[.pointer (some ⟨b, 0, none⟩), vI (c : Nat), vI (d : Nat)] W fun e w' => e = .returned (.bool (hitX N of cl c d)) ∧ Fr (fun _ => False) W w') := fun d hd W f => rcalls_any c d (h.stay f) (by omega) hcl hll hn hN
  have HI0 : Hd (IOwn w w.heap.size (.slice none 0 0) (zL (cleX N 0 of cl c))) := World.ownsRow_nil _ _ _ _
  have HLN : Hd (∀ d, d ≤ n → (zL (cleX N d of cl c)).length ≤ 1000000) := fun d hd => by
    rw [List.length_map]
    have := (len_le (cleX_rise (N := N) (n := d) (of := of) (cl := cl) c) (fun x hx => (mem_cleX.1 hx).1)); omega
  have HF0 : Hd (Fr (fun _ => False) w w) := Fr.refl _ _
  have c0 : (0 : Int) ≤ c := by omega
  have c1 : (c : Int) < n := by omega
  have e1 : decide ((c : Int) ≥ 0) = true := by simp
  have e2 : decide ((0 : Int) ≤ c) = true := by simp
  have e3 : decide ((c : Int) < n) = true := by simp; omega
  clear h hcl hll
  go_enter Tryd.func46, Tryd.ntmps46
  go_wp2_with fail
  go_loopw [5, 6] (fun v5 v wx => ∃ d : Nat, v = .int .i64 d ∧ d ≤ n ∧ Hd (IOwn wx w.heap.size v5 (zL (cleX N d of cl c))) ∧ Hd (Fr (fun _ => False) w wx)) (fun _ v _ => match v with | .int _ q => n - q.toNat | _ => 0)
  case atStart => exact ⟨0, by simp, Nat.zero_le _, HI0.out, HF0.out⟩
  case round =>
    clear HF0 HI0
    obtain ⟨d, rfl, hd, HI, HF⟩ := hrel
    have b0 : wr.cell? ⟨b, 0, none⟩ = some (.slice (some ⟨lg, lo, none⟩) n lc) := by rw [cell_of0 (keepF HB.out HF.out)]; rfl
    by_cases hlt : d < n
    · have d1 : decide ((d : Int) < (n : Int)) = true := by simp; omega
      have HC := HCA.out d hlt wr HF.out
      have HNX : Hd (cleX N (d + 1) of cl c = cleX N d of cl c ++ if (c != d && hitX N of cl c d) = true then [d] else []) := cle_next
      have hln := HLN.out d hd
      have hd2 : d + 1 ≤ n := hlt
      generalize hitX N of cl c d = ht at *
      go_wp2_with fail
      refine Calls.mono HC ?_
      rintro e w1 ⟨rfl, hF1⟩
      have HF1 : Hd (Fr (fun _ => False) w w1) := HF.out.trans hF1
      have HI1 : Hd (IOwn w1 w.heap.size u5 (zL (cleX N d of cl c))) := HI.out.fr hF1 (fun _ _ e => e)
      clear HC hF1 HI HF b0 hlt
      cases ht with
      | false =>
        have HI2 : Hd (IOwn w1 w.heap.size u5 (zL (cleX N (d + 1) of cl c))) := by
          unfold Hd
          rw [HNX.out, if_neg (by simp), List.append_nil]
          exact HI1.out
        clear HI1 HNX
        go_wp2_with fail
        go_roundw
        case measure => simp; omega
        case rel => exact ⟨d + 1, by simp, by omega, HI2.out, HF1.out⟩
      | true =>
        by_cases e : d = c
        · have f1 : ((d : Int) == (c : Int)) = true := by simp [e]
          have f2 : ((d : Int) != (c : Int)) = false := by simp [e]
          have f3 : decide (d = c) = true := by simp [e]
          have HI2 : Hd (IOwn w1 w.heap.size u5 (zL (cleX N (d + 1) of cl c))) := by
            unfold Hd
            rw [HNX.out, if_neg (by simp [e]), List.append_nil]
            exact HI1.out
          clear HI1 HNX e
          go_wp2_with fail
          go_roundw
          case measure => simp; omega
          case rel => exact ⟨d + 1, by simp, by omega, HI2.out, HF1.out⟩
        · have f1 : ((d : Int) == (c : Int)) = false := by simp; omega
          have f2 : ((d : Int) != (c : Int)) = true := by simp; omega
          have f3 : decide (d = c) = false := by simp [e]
          have HNX2 : Hd (zL (cleX N (d + 1) of cl c) = zL (cleX N d of cl c) ++ [(d : Int)]) := by
            unfold Hd
            rw [HNX.out, if_pos (show (c != d && true) = true by simp; omega), zL_app]
          clear HNX e
          generalize zL (cleX N d of cl c) = l0 at *
          obtain ⟨va, vc, ev⟩ := iown_cap HI1.out
          subst ev
          obtain ⟨w2, hw2⟩ : ∃ w2, w2 = w1.alloc (.cells #[vI (d : Int)] 3) := ⟨_, rfl⟩
          have hF2 : Fr (fun _ => False) w1 w2 := by rw [hw2]; exact Fr.alloc (Fr.refl _ _) _
          have HW2 : Hd (w2 = w1.alloc (.cells #[vI (d : Int)] 3)) := hw2
          have HB2 : Hd (w2.heap[w1.heap.size]? = some (.cells #[vI (d : Int)] 3)) := by unfold Hd; rw [hw2]; exact heap_new0 w1 _
          have HI2 : Hd (IOwn w2 w.heap.size (.slice va l0.length vc) l0) := HI1.out.fr hF2 (fun _ _ e => e)
          have HF2 : Hd (Fr (fun _ => False) w w2) := HF1.out.trans hF2
          clear hF2 hw2 HI1 HF1
          go_wp2_with ((at_builtin; refine Hd.out ?_))
          unfold Hd
          rw [← HW2.out]
          refine wpList_int rfl (.tmp 40) (.tmp 42) rfl rfl rfl HI2.out rfl HB2.out (by omega) HF2.out.size ?_
          intro g6 cap6 w6 hown6 hfr6 hat6 hkp6
          have HI6 : Hd (IOwn w6 w.heap.size (.slice (some ⟨g6, 0, none⟩) (l0.length + 1) cap6) (zL (cleX N (d + 1) of cl c))) := by unfold Hd; rw [HNX2.out]; exact hown6
          have HF6 : Hd (Fr (fun _ => False) w w6) := HF2.out.then hfr6 (fun q hq e => by have := (HI2.out.ge q e).1; omega)
          clear hown6 hfr6 hat6 hkp6 HI2 HB2 HW2 HF2 HNX2
          go_wp2_with fail
          go_roundw
          case measure => simp; omega
          case rel => exact ⟨d + 1, by simp, by omega, HI6.out, HF6.out⟩
    · have d1 : decide ((d : Int) < (n : Int)) = false := by simp; omega
      have d1n : ¬ d < n := hlt
      have HI2 : Hd (IOwn wr w.heap.size u5 (zL (cleX N n of cl c))) := by
        have e : d = n := by omega
        rw [e] at HI
        exact HI
      clear hlt HI
      go_wp2_with fail
      go_ret
      exact ⟨_, rfl, HI2.out, HF.out⟩
set_option maxRecDepth 100000 in
set_option maxHeartbeats 4000000 in
theorem dcallers_any (c : Nat) (h : Dv w N n of cl b lg lo lc wg wc ck co cc) (hc : c < n) (hcl : ∀ x, x < N → ∀ z ∈ cl x, z < N) (hll : ∀ x, x < N → (ddX (cl x)).length ≤ 1000000000) (hn : n ≤ 1000000) (hN : N ≤ 1000000) :
    Calls Tryd.prog 47 #[.pointer (some ⟨b, 0, none⟩), vI (c : Int)] w fun e w' => ∃ v', e = .returned v' ∧ IOwn w' w.heap.size v' (zL (clrX N n of cl c)) ∧ Fr (fun _ => False) w w' := by
  have HDV : Hd (Dv w N n of cl b lg lo lc wg wc ck co cc) := h
  have HB : Hd (w.heap[b]? = some (.cells #[.slice (some ⟨lg, lo, none⟩) n lc, .slice (some ⟨wg, 0, none⟩) N wc, .slice (some ⟨ck, co, none⟩) N cc] 76)) := h.box
  have HCA : Hd (∀ d, d < n → ∀ W, Fr (fun _ => False) w W → Calls Tryd.prog 65 #[.pointer (some ⟨b, 0, none⟩), vI (d : Nat), vI (c : Nat)] W fun e w' => e = .returned (.bool (hitX N of cl d c)) ∧ Fr (fun _ => False) W w') := fun d hd W f => rcalls_any d c (h.stay f) (by omega) hcl hll hn hN
  have HI0 : Hd (IOwn w w.heap.size (.slice none 0 0) (zL (clrX N 0 of cl c))) := World.ownsRow_nil _ _ _ _
  have HLN : Hd (∀ d, d ≤ n → (zL (clrX N d of cl c)).length ≤ 1000000) := fun d hd => by
    rw [List.length_map]
    have := (len_le (clrX_rise (N := N) (n := d) (of := of) (cl := cl) c) (fun x hx => (mem_clrX.1 hx).1)); omega
  have HF0 : Hd (Fr (fun _ => False) w w) := Fr.refl _ _
  have c0 : (0 : Int) ≤ c := by omega
  have c1 : (c : Int) < n := by omega
  have e1 : decide ((c : Int) ≥ 0) = true := by simp
  have e2 : decide ((0 : Int) ≤ c) = true := by simp
  have e3 : decide ((c : Int) < n) = true := by simp; omega
  clear h hcl hll
  go_enter Tryd.func47, Tryd.ntmps47
  go_wp2_with fail
  go_loopw [5, 6] (fun v5 v wx => ∃ d : Nat, v = .int .i64 d ∧ d ≤ n ∧ Hd (IOwn wx w.heap.size v5 (zL (clrX N d of cl c))) ∧ Hd (Fr (fun _ => False) w wx)) (fun _ v _ => match v with | .int _ q => n - q.toNat | _ => 0)
  case atStart => exact ⟨0, by simp, Nat.zero_le _, HI0.out, HF0.out⟩
  case round =>
    clear HF0 HI0
    obtain ⟨d, rfl, hd, HI, HF⟩ := hrel
    have b0 : wr.cell? ⟨b, 0, none⟩ = some (.slice (some ⟨lg, lo, none⟩) n lc) := by rw [cell_of0 (keepF HB.out HF.out)]; rfl
    by_cases hlt : d < n
    · have d1 : decide ((d : Int) < (n : Int)) = true := by simp; omega
      have HC := HCA.out d hlt wr HF.out
      have HNX : Hd (clrX N (d + 1) of cl c = clrX N d of cl c ++ if (d != c && hitX N of cl d c) = true then [d] else []) := clr_next
      have hln := HLN.out d hd
      have hd2 : d + 1 ≤ n := hlt
      generalize hitX N of cl d c = ht at *
      go_wp2_with fail
      refine Calls.mono HC ?_
      rintro e w1 ⟨rfl, hF1⟩
      have HF1 : Hd (Fr (fun _ => False) w w1) := HF.out.trans hF1
      have HI1 : Hd (IOwn w1 w.heap.size u5 (zL (clrX N d of cl c))) := HI.out.fr hF1 (fun _ _ e => e)
      clear HC hF1 HI HF b0 hlt
      cases ht with
      | false =>
        have HI2 : Hd (IOwn w1 w.heap.size u5 (zL (clrX N (d + 1) of cl c))) := by
          unfold Hd
          rw [HNX.out, if_neg (by simp), List.append_nil]
          exact HI1.out
        clear HI1 HNX
        go_wp2_with fail
        go_roundw
        case measure => simp; omega
        case rel => exact ⟨d + 1, by simp, by omega, HI2.out, HF1.out⟩
      | true =>
        by_cases e : d = c
        · have f1 : ((d : Int) == (c : Int)) = true := by simp [e]
          have f2 : ((d : Int) != (c : Int)) = false := by simp [e]
          have f3 : decide (d = c) = true := by simp [e]
          have HI2 : Hd (IOwn w1 w.heap.size u5 (zL (clrX N (d + 1) of cl c))) := by
            unfold Hd
            rw [HNX.out, if_neg (by simp [e]), List.append_nil]
            exact HI1.out
          clear HI1 HNX e
          go_wp2_with fail
          go_roundw
          case measure => simp; omega
          case rel => exact ⟨d + 1, by simp, by omega, HI2.out, HF1.out⟩
        · have f1 : ((d : Int) == (c : Int)) = false := by simp; omega
          have f2 : ((d : Int) != (c : Int)) = true := by simp; omega
          have f3 : decide (d = c) = false := by simp [e]
          have HNX2 : Hd (zL (clrX N (d + 1) of cl c) = zL (clrX N d of cl c) ++ [(d : Int)]) := by
            unfold Hd
            rw [HNX.out, if_pos (show (d != c && true) = true by simp; omega), zL_app]
          clear HNX e
          generalize zL (clrX N d of cl c) = l0 at *
          obtain ⟨va, vc, ev⟩ := iown_cap HI1.out
          subst ev
          obtain ⟨w2, hw2⟩ : ∃ w2, w2 = w1.alloc (.cells #[vI (d : Int)] 3) := ⟨_, rfl⟩
          have hF2 : Fr (fun _ => False) w1 w2 := by rw [hw2]; exact Fr.alloc (Fr.refl _ _) _
          have HW2 : Hd (w2 = w1.alloc (.cells #[vI (d : Int)] 3)) := hw2
          have HB2 : Hd (w2.heap[w1.heap.size]? = some (.cells #[vI (d : Int)] 3)) := by unfold Hd; rw [hw2]; exact heap_new0 w1 _
          have HI2 : Hd (IOwn w2 w.heap.size (.slice va l0.length vc) l0) := HI1.out.fr hF2 (fun _ _ e => e)
          have HF2 : Hd (Fr (fun _ => False) w w2) := HF1.out.trans hF2
          clear hF2 hw2 HI1 HF1
          go_wp2_with ((at_builtin; refine Hd.out ?_))
          unfold Hd
          rw [← HW2.out]
          refine wpList_int rfl (.tmp 40) (.tmp 42) rfl rfl rfl HI2.out rfl HB2.out (by omega) HF2.out.size ?_
          intro g6 cap6 w6 hown6 hfr6 hat6 hkp6
          have HI6 : Hd (IOwn w6 w.heap.size (.slice (some ⟨g6, 0, none⟩) (l0.length + 1) cap6) (zL (clrX N (d + 1) of cl c))) := by unfold Hd; rw [HNX2.out]; exact hown6
          have HF6 : Hd (Fr (fun _ => False) w w6) := HF2.out.then hfr6 (fun q hq e => by have := (HI2.out.ge q e).1; omega)
          clear hown6 hfr6 hat6 hkp6 HI2 HB2 HW2 HF2 HNX2
          go_wp2_with fail
          go_roundw
          case measure => simp; omega
          case rel => exact ⟨d + 1, by simp, by omega, HI6.out, HF6.out⟩
    · have d1 : decide ((d : Int) < (n : Int)) = false := by simp; omega
      have d1n : ¬ d < n := hlt
      have HI2 : Hd (IOwn wr w.heap.size u5 (zL (clrX N n of cl c))) := by
        have e : d = n := by omega
        rw [e] at HI
        exact HI
      clear hlt HI
      go_wp2_with fail
      go_ret
      exact ⟨_, rfl, HI2.out, HF.out⟩
end

/-- What is told of one component, of the first k. -/
def tl4 (N n : Nat) (of : Nat → Nat) (cl : Nat → List Nat) (c : Nat) : List (List Int) := [zL (memX N of c), zL (cleX N n of cl c), zL (clrX N n of cl c), zL (memX N of c)]
def tlX (N n : Nat) (of : Nat → Nat) (cl : Nat → List Nat) (k : Nat) : List (List Int) := (List.range k).flatMap (tl4 N n of cl)
theorem tlX_next (N n : Nat) (of : Nat → Nat) (cl : Nat → List Nat) (k : Nat) : tlX N n of cl (k + 1) = tlX N n of cl k ++ [zL (memX N of k)] ++ [zL (cleX N n of cl k)] ++ [zL (clrX N n of cl k)] ++ [zL (memX N of k)] := by
  unfold tlX
  rw [List.range_succ, List.flatMap_append]
  simp [tl4]
theorem tlX_len (N n : Nat) (of : Nat → Nat) (cl : Nat → List Nat) : ∀ k, (tlX N n of cl k).length = 4 * k
  | 0 => rfl
  | k + 1 => by rw [tlX_next]; simp only [List.length_append, List.length_singleton, tlX_len N n of cl k]; omega
theorem tlX_each {N n : Nat} {of : Nat → Nat} {cl : Nat → List Nat} {k M : Nat} (hN : N ≤ M) (hn : n ≤ M) : ∀ l ∈ tlX N n of cl k, l.length ≤ M := by
  intro l hl
  unfold tlX at hl
  obtain ⟨c, -, hc⟩ := List.mem_flatMap.1 hl
  have h1 := (len_le (memX_rise (N := N) (of := of) c) (fun x hx => (mem_memX.1 hx).1))
  have h2 := (len_le (cleX_rise (N := N) (n := n) (of := of) (cl := cl) c) (fun x hx => (mem_cleX.1 hx).1))
  have h3 := (len_le (clrX_rise (N := N) (n := n) (of := of) (cl := cl) c) (fun x hx => (mem_clrX.1 hx).1))
  unfold tl4 at hc
  simp only [List.mem_cons, List.not_mem_nil, or_false] at hc
  rcases hc with rfl | rfl | rfl | rfl <;> (rw [List.length_map]; omega)
section
variable {w : World} {B b go gm ge gr N n : Nat} {mv ev rv : Nat → Value} {of : Nat → Nat} {cl : Nat → List Nat}
set_option maxRecDepth 100000 in
set_option maxHeartbeats 4000000 in
theorem told_any (h : GA w B b go gm ge gr N n mv ev rv of cl) (hn : n ≤ 1000000) (hN : N ≤ 1000000) :
    Calls Tryd.prog 28 #[.pointer (some ⟨b, 0, none⟩)] w fun e w' => ∃ v us, e = .returned v ∧ LOd w' w.heap.size v us (tlX N n of cl n) ∧ Fr (fun _ => False) w w' := by
  have HL : Hd (∀ W, Fr (fun _ => False) w W → Calls Tryd.prog 12 #[.pointer (some ⟨b, 0, none⟩)] W fun e w' => e = .returned (vI (n : Int)) ∧ w' = W) := fun W f => glen_any W (h.stay f) hn
  have HM : Hd (∀ i, i < n → ∀ W, Fr (fun _ => False) w W → Calls Tryd.prog 11 #[.pointer (some ⟨b, 0, none⟩), vI (i : Int)] W fun e w' => ∃ v', e = .returned v' ∧ IOwn w' W.heap.size v' (zL (memX N of i)) ∧ Fr (fun _ => False) W w') := fun i hi W f => members_any i (h.stay f) hi hn hN
  have HE : Hd (∀ i, i < n → ∀ W, Fr (fun _ => False) w W → Calls Tryd.prog 14 #[.pointer (some ⟨b, 0, none⟩), vI (i : Int)] W fun e w' => ∃ v', e = .returned v' ∧ IOwn w' W.heap.size v' (zL (cleX N n of cl i)) ∧ Fr (fun _ => False) W w') := fun i hi W f => callees_any i (h.stay f) hi hn hN
  have HR : Hd (∀ i, i < n → ∀ W, Fr (fun _ => False) w W → Calls Tryd.prog 15 #[.pointer (some ⟨b, 0, none⟩), vI (i : Int)] W fun e w' => ∃ v', e = .returned v' ∧ IOwn w' W.heap.size v' (zL (clrX N n of cl i)) ∧ Fr (fun _ => False) W w') := fun i hi W f => callers_any i (h.stay f) hi hn hN
  have HF0 : Hd (Fr (fun _ => False) w w) := Fr.refl _ _
  clear h
  go_enter Tryd.func28, Tryd.ntmps28
  go_wp2_with fail
  go_loopw [3, 4] (fun v3 v wx => ∃ (k : Nat) (us : List Value), v = .int .i64 k ∧ k ≤ n ∧ Hd (LOd wx w.heap.size v3 us (tlX N n of cl k) ∧ us.length = 4 * k) ∧ Hd (Fr (fun _ => False) w wx)) (fun _ v _ => match v with | .int _ q => n - q.toNat | _ => 0)
  case atStart => exact ⟨0, [], by simp, Nat.zero_le _, ⟨⟨⟨World.ownsRow_nil _ _ _ _, rfl, fun i hi => by simp at hi⟩, fun i j hi => by simp at hi⟩, rfl⟩, HF0.out⟩
  case round =>
    clear HF0
    obtain ⟨k, us, rfl, hk, HO, HF⟩ := hrel
    by_cases hlt : k < n
    · have d1 : decide ((k : Int) < (n : Int)) = true := by simp; omega
      have HLw := HL.out wr HF.out
      have HMk := HM.out k hlt
      have HEk := HE.out k hlt
      have HRk := HR.out k hlt
      have HNX := tlX_next N n of cl k
      obtain ⟨q4, hq4⟩ : ∃ q4, q4 = 4 * k := ⟨_, rfl⟩
      have hq4b : q4 ≤ 4000000 := by omega
      have HQ4 : Hd (q4 = 4 * k) := hq4
      obtain ⟨ra, rc, er⟩ := own_slice HO.out.1.row
      rw [HO.out.2, ← hq4] at er
      subst er
      have HO1 : Hd (LOd wr w.heap.size (.slice ra q4 rc) us (tlX N n of cl k) ∧ us.length = q4) := by rw [hq4] at HO ⊢; exact HO
      have HF1 : Hd (Fr (fun _ => False) w wr) := HF.out
      have HNXd : Hd (tlX N n of cl (k + 1) = tlX N n of cl k ++ [zL (memX N of k)] ++ [zL (cleX N n of cl k)] ++ [zL (clrX N n of cl k)] ++ [zL (memX N of k)]) := HNX
      have HLN : Hd ((tlX N n of cl (k + 1)).length = 4 * (k + 1)) := tlX_len N n of cl (k + 1)
      generalize zL (memX N of k) = lm at *
      generalize zL (cleX N n of cl k) = le at *
      generalize zL (clrX N n of cl k) = lr at *
      generalize tlX N n of cl k = T at *
      clear HO HF hq4 HNX
      go_wp2_with fail
      refine Calls.mono HLw ?_
      rintro e wr ⟨rfl, rfl⟩
      clear HLw
      go_wp2_with fail
      refine Calls.mono (HMk wr HF1.out) ?_
      rintro e wc1 ⟨uu1, rfl, hU1, hFc1⟩
      have HU1 : Hd (IOwn wc1 wr.heap.size uu1 (lm)) := hU1
      have HOc1 : Hd (LOd wc1 w.heap.size (.slice ra q4 rc) (us) (T) ∧ (us).length = q4) := ⟨HO1.out.1.stay hFc1, HO1.out.2⟩
      have HBD1 : Hd (∀ i (hi : i < (us).length) q, (us)[i].ownBlock = some q → q < wr.heap.size) := fun i hi q e => (HO1.out.1.toLOc.below hi e).2
      have HFc1 : Hd (Fr (fun _ => False) w wc1 ∧ w.heap.size ≤ wr.heap.size) := ⟨HF1.out.trans hFc1, HF1.out.size⟩
      clear hU1 hFc1 HO1 HF1
      obtain ⟨ua1, uc1, eu1⟩ := iown_cap HU1.out
      subst eu1
      obtain ⟨wz1, hwz1⟩ : ∃ wz1, wz1 = wc1.alloc (.cells #[(Value.slice ua1 (lm).length uc1)] 25) := ⟨_, rfl⟩
      have hFz1 : Fr (fun _ => False) wc1 wz1 := by rw [hwz1]; exact Fr.alloc (Fr.refl _ _) _
      have HWz1 : Hd (wz1 = wc1.alloc (.cells #[(Value.slice ua1 (lm).length uc1)] 25)) := hwz1
      have HBz1 : Hd (wz1.heap[wc1.heap.size]? = some (.cells #[(Value.slice ua1 (lm).length uc1)] 25)) := by unfold Hd; rw [hwz1]; exact heap_new0 wc1 _
      have HOz1 : Hd (LOd wz1 w.heap.size (.slice ra q4 rc) (us) (T) ∧ (us).length = q4) := ⟨HOc1.out.1.stay hFz1, HOc1.out.2⟩
      have HUz1 : Hd (IOwn wz1 w.heap.size (Value.slice ua1 (lm).length uc1) (lm)) := (HU1.out.fr hFz1 (fun _ _ e => e)).mono HFc1.out.2
      have HFz1 : Hd (Fr (fun _ => False) w wz1) := HFc1.out.1.trans hFz1
      clear hFz1 hwz1 HOc1
      go_wp2_with ((at_builtin; refine Hd.out ?_))
      unfold Hd
      rw [← HWz1.out]
      refine wpList_loc rfl (.tmp 11) (.tmp 15) rfl rfl rfl HOz1.out.1.toLOc HUz1.out HOz1.out.2 HBz1.out (by omega) HFz1.out.size ?_
      intro g1 cap1 w1 hown1 hfr1 hat1
      have HO2 : Hd (LOd w1 w.heap.size (.slice (some ⟨g1, 0, none⟩) (q4 + 1) cap1) (us ++ [(Value.slice ua1 (lm).length uc1)]) (T ++ [lm]) ∧ (us ++ [(Value.slice ua1 (lm).length uc1)]).length = q4 + 1) := ⟨HOz1.out.1.grown hown1 HU1.out HBD1.out, by rw [List.length_append, HOz1.out.2]; rfl⟩
      have HF2 : Hd (Fr (fun _ => False) w w1) := HFz1.out.then hfr1 (fun q hq e => by have := (World.ownsRow.lt HOz1.out.1.row q e).1; omega)
      obtain ⟨us1, hus1⟩ : ∃ z, z = (us ++ [(Value.slice ua1 (lm).length uc1)]) := ⟨_, rfl⟩
      rw [← hus1] at HO2
      clear hown1 hfr1 hat1 hus1 HUz1 HOz1 HBz1 HWz1 HFz1 HU1 HFc1 HBD1
      go_wp2_with fail
      refine Calls.mono (HEk w1 HF2.out) ?_
      rintro e wc2 ⟨uu2, rfl, hU2, hFc2⟩
      have HU2 : Hd (IOwn wc2 w1.heap.size uu2 (le)) := hU2
      have HOc2 : Hd (LOd wc2 w.heap.size (.slice (some ⟨g1, 0, none⟩) (q4 + 1) cap1) (us1) (T ++ [lm]) ∧ (us1).length = q4 + 1) := ⟨HO2.out.1.stay hFc2, HO2.out.2⟩
      have HBD2 : Hd (∀ i (hi : i < (us1).length) q, (us1)[i].ownBlock = some q → q < w1.heap.size) := fun i hi q e => (HO2.out.1.toLOc.below hi e).2
      have HFc2 : Hd (Fr (fun _ => False) w wc2 ∧ w.heap.size ≤ w1.heap.size) := ⟨HF2.out.trans hFc2, HF2.out.size⟩
      clear hU2 hFc2 HO2 HF2
      obtain ⟨ua2, uc2, eu2⟩ := iown_cap HU2.out
      subst eu2
      obtain ⟨wz2, hwz2⟩ : ∃ wz2, wz2 = wc2.alloc (.cells #[(Value.slice ua2 (le).length uc2)] 25) := ⟨_, rfl⟩
      have hFz2 : Fr (fun _ => False) wc2 wz2 := by rw [hwz2]; exact Fr.alloc (Fr.refl _ _) _
      have HWz2 : Hd (wz2 = wc2.alloc (.cells #[(Value.slice ua2 (le).length uc2)] 25)) := hwz2
      have HBz2 : Hd (wz2.heap[wc2.heap.size]? = some (.cells #[(Value.slice ua2 (le).length uc2)] 25)) := by unfold Hd; rw [hwz2]; exact heap_new0 wc2 _
      have HOz2 : Hd (LOd wz2 w.heap.size (.slice (some ⟨g1, 0, none⟩) (q4 + 1) cap1) (us1) (T ++ [lm]) ∧ (us1).length = q4 + 1) := ⟨HOc2.out.1.stay hFz2, HOc2.out.2⟩
      have HUz2 : Hd (IOwn wz2 w.heap.size (Value.slice ua2 (le).length uc2) (le)) := (HU2.out.fr hFz2 (fun _ _ e => e)).mono HFc2.out.2
      have HFz2 : Hd (Fr (fun _ => False) w wz2) := HFc2.out.1.trans hFz2
      clear hFz2 hwz2 HOc2
      go_wp2_with ((at_builtin; refine Hd.out ?_))
      unfold Hd
      rw [← HWz2.out]
      refine wpList_loc rfl (.tmp 17) (.tmp 21) rfl rfl rfl HOz2.out.1.toLOc HUz2.out HOz2.out.2 HBz2.out (by omega) HFz2.out.size ?_
      intro g2 cap2 w2 hown2 hfr2 hat2
      have HO3 : Hd (LOd w2 w.heap.size (.slice (some ⟨g2, 0, none⟩) (q4 + 1 + 1) cap2) (us1 ++ [(Value.slice ua2 (le).length uc2)]) (T ++ [lm] ++ [le]) ∧ (us1 ++ [(Value.slice ua2 (le).length uc2)]).length = q4 + 1 + 1) := ⟨HOz2.out.1.grown hown2 HU2.out HBD2.out, by rw [List.length_append, HOz2.out.2]; rfl⟩
      have HF3 : Hd (Fr (fun _ => False) w w2) := HFz2.out.then hfr2 (fun q hq e => by have := (World.ownsRow.lt HOz2.out.1.row q e).1; omega)
      obtain ⟨us2, hus2⟩ : ∃ z, z = (us1 ++ [(Value.slice ua2 (le).length uc2)]) := ⟨_, rfl⟩
      rw [← hus2] at HO3
      clear hown2 hfr2 hat2 hus2 HUz2 HOz2 HBz2 HWz2 HFz2 HU2 HFc2 HBD2
      go_wp2_with fail
      refine Calls.mono (HRk w2 HF3.out) ?_
      rintro e wc3 ⟨uu3, rfl, hU3, hFc3⟩
      have HU3 : Hd (IOwn wc3 w2.heap.size uu3 (lr)) := hU3
      have HOc3 : Hd (LOd wc3 w.heap.size (.slice (some ⟨g2, 0, none⟩) (q4 + 1 + 1) cap2) (us2) (T ++ [lm] ++ [le]) ∧ (us2).length = q4 + 1 + 1) := ⟨HO3.out.1.stay hFc3, HO3.out.2⟩
      have HBD3 : Hd (∀ i (hi : i < (us2).length) q, (us2)[i].ownBlock = some q → q < w2.heap.size) := fun i hi q e => (HO3.out.1.toLOc.below hi e).2
      have HFc3 : Hd (Fr (fun _ => False) w wc3 ∧ w.heap.size ≤ w2.heap.size) := ⟨HF3.out.trans hFc3, HF3.out.size⟩
      clear hU3 hFc3 HO3 HF3
      obtain ⟨ua3, uc3, eu3⟩ := iown_cap HU3.out
      subst eu3
      obtain ⟨wz3, hwz3⟩ : ∃ wz3, wz3 = wc3.alloc (.cells #[(Value.slice ua3 (lr).length uc3)] 25) := ⟨_, rfl⟩
      have hFz3 : Fr (fun _ => False) wc3 wz3 := by rw [hwz3]; exact Fr.alloc (Fr.refl _ _) _
      have HWz3 : Hd (wz3 = wc3.alloc (.cells #[(Value.slice ua3 (lr).length uc3)] 25)) := hwz3
      have HBz3 : Hd (wz3.heap[wc3.heap.size]? = some (.cells #[(Value.slice ua3 (lr).length uc3)] 25)) := by unfold Hd; rw [hwz3]; exact heap_new0 wc3 _
      have HOz3 : Hd (LOd wz3 w.heap.size (.slice (some ⟨g2, 0, none⟩) (q4 + 1 + 1) cap2) (us2) (T ++ [lm] ++ [le]) ∧ (us2).length = q4 + 1 + 1) := ⟨HOc3.out.1.stay hFz3, HOc3.out.2⟩
      have HUz3 : Hd (IOwn wz3 w.heap.size (Value.slice ua3 (lr).length uc3) (lr)) := (HU3.out.fr hFz3 (fun _ _ e => e)).mono HFc3.out.2
      have HFz3 : Hd (Fr (fun _ => False) w wz3) := HFc3.out.1.trans hFz3
      clear hFz3 hwz3 HOc3
      go_wp2_with ((at_builtin; refine Hd.out ?_))
      unfold Hd
      rw [← HWz3.out]
      refine wpList_loc rfl (.tmp 23) (.tmp 27) rfl rfl rfl HOz3.out.1.toLOc HUz3.out HOz3.out.2 HBz3.out (by omega) HFz3.out.size ?_
      intro g3 cap3 w3 hown3 hfr3 hat3
      have HO4 : Hd (LOd w3 w.heap.size (.slice (some ⟨g3, 0, none⟩) (q4 + 1 + 1 + 1) cap3) (us2 ++ [(Value.slice ua3 (lr).length uc3)]) (T ++ [lm] ++ [le] ++ [lr]) ∧ (us2 ++ [(Value.slice ua3 (lr).length uc3)]).length = q4 + 1 + 1 + 1) := ⟨HOz3.out.1.grown hown3 HU3.out HBD3.out, by rw [List.length_append, HOz3.out.2]; rfl⟩
      have HF4 : Hd (Fr (fun _ => False) w w3) := HFz3.out.then hfr3 (fun q hq e => by have := (World.ownsRow.lt HOz3.out.1.row q e).1; omega)
      obtain ⟨us3, hus3⟩ : ∃ z, z = (us2 ++ [(Value.slice ua3 (lr).length uc3)]) := ⟨_, rfl⟩
      rw [← hus3] at HO4
      clear hown3 hfr3 hat3 hus3 HUz3 HOz3 HBz3 HWz3 HFz3 HU3 HFc3 HBD3
      go_wp2_with fail
      refine Calls.mono (HMk w3 HF4.out) ?_
      rintro e wc4 ⟨uu4, rfl, hU4, hFc4⟩
      have HU4 : Hd (IOwn wc4 w3.heap.size uu4 (lm)) := hU4
      have HOc4 : Hd (LOd wc4 w.heap.size (.slice (some ⟨g3, 0, none⟩) (q4 + 1 + 1 + 1) cap3) (us3) (T ++ [lm] ++ [le] ++ [lr]) ∧ (us3).length = q4 + 1 + 1 + 1) := ⟨HO4.out.1.stay hFc4, HO4.out.2⟩
      have HBD4 : Hd (∀ i (hi : i < (us3).length) q, (us3)[i].ownBlock = some q → q < w3.heap.size) := fun i hi q e => (HO4.out.1.toLOc.below hi e).2
      have HFc4 : Hd (Fr (fun _ => False) w wc4 ∧ w.heap.size ≤ w3.heap.size) := ⟨HF4.out.trans hFc4, HF4.out.size⟩
      clear hU4 hFc4 HO4 HF4
      obtain ⟨ua4, uc4, eu4⟩ := iown_cap HU4.out
      subst eu4
      obtain ⟨wz4, hwz4⟩ : ∃ wz4, wz4 = wc4.alloc (.cells #[(Value.slice ua4 (lm).length uc4)] 25) := ⟨_, rfl⟩
      have hFz4 : Fr (fun _ => False) wc4 wz4 := by rw [hwz4]; exact Fr.alloc (Fr.refl _ _) _
      have HWz4 : Hd (wz4 = wc4.alloc (.cells #[(Value.slice ua4 (lm).length uc4)] 25)) := hwz4
      have HBz4 : Hd (wz4.heap[wc4.heap.size]? = some (.cells #[(Value.slice ua4 (lm).length uc4)] 25)) := by unfold Hd; rw [hwz4]; exact heap_new0 wc4 _
      have HOz4 : Hd (LOd wz4 w.heap.size (.slice (some ⟨g3, 0, none⟩) (q4 + 1 + 1 + 1) cap3) (us3) (T ++ [lm] ++ [le] ++ [lr]) ∧ (us3).length = q4 + 1 + 1 + 1) := ⟨HOc4.out.1.stay hFz4, HOc4.out.2⟩
      have HUz4 : Hd (IOwn wz4 w.heap.size (Value.slice ua4 (lm).length uc4) (lm)) := (HU4.out.fr hFz4 (fun _ _ e => e)).mono HFc4.out.2
      have HFz4 : Hd (Fr (fun _ => False) w wz4) := HFc4.out.1.trans hFz4
      clear hFz4 hwz4 HOc4
      go_wp2_with ((at_builtin; refine Hd.out ?_))
      unfold Hd
      rw [← HWz4.out]
      refine wpList_loc rfl (.tmp 29) (.tmp 33) rfl rfl rfl HOz4.out.1.toLOc HUz4.out HOz4.out.2 HBz4.out (by omega) HFz4.out.size ?_
      intro g4 cap4 w4 hown4 hfr4 hat4
      have HO5 : Hd (LOd w4 w.heap.size (.slice (some ⟨g4, 0, none⟩) (q4 + 1 + 1 + 1 + 1) cap4) (us3 ++ [(Value.slice ua4 (lm).length uc4)]) (T ++ [lm] ++ [le] ++ [lr] ++ [lm]) ∧ (us3 ++ [(Value.slice ua4 (lm).length uc4)]).length = q4 + 1 + 1 + 1 + 1) := ⟨HOz4.out.1.grown hown4 HU4.out HBD4.out, by rw [List.length_append, HOz4.out.2]; rfl⟩
      have HF5 : Hd (Fr (fun _ => False) w w4) := HFz4.out.then hfr4 (fun q hq e => by have := (World.ownsRow.lt HOz4.out.1.row q e).1; omega)
      obtain ⟨us4, hus4⟩ : ∃ z, z = (us3 ++ [(Value.slice ua4 (lm).length uc4)]) := ⟨_, rfl⟩
      rw [← hus4] at HO5
      clear hown4 hfr4 hat4 hus4 HUz4 HOz4 HBz4 HWz4 HFz4 HU4 HFc4 HBD4
      have HO6 : Hd (LOd w4 w.heap.size (.slice (some ⟨g4, 0, none⟩) (q4 + 1 + 1 + 1 + 1) cap4) us4 (tlX N n of cl (k + 1)) ∧ us4.length = 4 * (k + 1)) := by
        rw [HNXd.out]
        exact ⟨HO5.out.1, by rw [HO5.out.2]; have := HQ4.out; omega⟩
      clear HO5
      go_wp2_with fail
      go_roundw
      case measure => simp; omega
      case rel => exact ⟨k + 1, us4, by simp, by omega, HO6.out, HF5.out⟩
    · have d1 : decide ((k : Int) < (n : Int)) = false := by simp; omega
      have d1n : ¬ k < n := hlt
      have HLw := HL.out wr HF.out
      have HX : Hd (LOd wr w.heap.size u3 us (tlX N n of cl n)) := by
        have e : k = n := by omega
        have := HO.out.1
        rw [e] at this
        exact this
      clear hlt HO
      go_wp2_with fail
      refine Calls.mono HLw ?_
      rintro e wr ⟨rfl, rfl⟩
      clear HLw
      go_wp2_with fail
      go_ret
      exact ⟨_, us, rfl, HX.out, HF.out⟩
end

section
variable {w : World} {N n : Nat} {of : Nat → Nat} {cl : Nat → List Nat} {b lg lo lc wg wc ck co cc : Nat}
set_option maxRecDepth 100000 in
set_option maxHeartbeats 4000000 in
theorem dmust_any (h : Dv w N n of cl b lg lo lc wg wc ck co cc) (hcl : ∀ x, x < N → ∀ z ∈ cl x, z < N) (hll : ∀ x, x < N → (ddX (cl x)).length ≤ 1000000000) (hn : n ≤ 1000000) (hN : N ≤ 1000000) :
    Calls Tryd.prog 27 #[.pointer (some ⟨b, 0, none⟩)] w fun e w' => ∃ v us, e = .returned v ∧ LOc w' w.heap.size v us (tlX N n of cl n) ∧ Fr (fun _ => False) w w' := by
  have HL : Hd (∀ W, Fr (fun _ => False) w W → Calls Tryd.prog 44 #[.pointer (some ⟨b, 0, none⟩)] W fun e w' => e = .returned (vI (n : Int)) ∧ w' = W) := fun W f => rlen_any (h.stay f) hn
  have HM : Hd (∀ i, i < n → ∀ W, Fr (fun _ => False) w W → Calls Tryd.prog 45 #[.pointer (some ⟨b, 0, none⟩), vI (i : Int)] W fun e w' => ∃ v', e = .returned v' ∧ IOwn w' W.heap.size v' (zL (memX N of i)) ∧ Fr (fun _ => False) W w') := fun i hi W f => rmembers_any i (h.stay f) hi hn hN
  have HE : Hd (∀ i, i < n → ∀ W, Fr (fun _ => False) w W → Calls Tryd.prog 46 #[.pointer (some ⟨b, 0, none⟩), vI (i : Int)] W fun e w' => ∃ v', e = .returned v' ∧ IOwn w' W.heap.size v' (zL (cleX N n of cl i)) ∧ Fr (fun _ => False) W w') := fun i hi W f => dcallees_any i (h.stay f) hi hcl hll hn hN
  have HR : Hd (∀ i, i < n → ∀ W, Fr (fun _ => False) w W → Calls Tryd.prog 47 #[.pointer (some ⟨b, 0, none⟩), vI (i : Int)] W fun e w' => ∃ v', e = .returned v' ∧ IOwn w' W.heap.size v' (zL (clrX N n of cl i)) ∧ Fr (fun _ => False) W w') := fun i hi W f => dcallers_any i (h.stay f) hi hcl hll hn hN
  have HF0 : Hd (Fr (fun _ => False) w w) := Fr.refl _ _
  clear h hcl hll
  go_enter Tryd.func27, Tryd.ntmps27
  go_wp2_with fail
  go_loopw [3, 4] (fun v3 v wx => ∃ (k : Nat) (us : List Value), v = .int .i64 k ∧ k ≤ n ∧ Hd (LOc wx w.heap.size v3 us (tlX N n of cl k) ∧ us.length = 4 * k) ∧ Hd (Fr (fun _ => False) w wx)) (fun _ v _ => match v with | .int _ q => n - q.toNat | _ => 0)
  case atStart => exact ⟨0, [], by simp, Nat.zero_le _, ⟨⟨World.ownsRow_nil _ _ _ _, rfl, fun i hi => by simp at hi⟩, rfl⟩, HF0.out⟩
  case round =>
    clear HF0
    obtain ⟨k, us, rfl, hk, HO, HF⟩ := hrel
    by_cases hlt : k < n
    · have d1 : decide ((k : Int) < (n : Int)) = true := by simp; omega
      have HLw := HL.out wr HF.out
      have HMk := HM.out k hlt
      have HEk := HE.out k hlt
      have HRk := HR.out k hlt
      have HNX := tlX_next N n of cl k
      obtain ⟨q4, hq4⟩ : ∃ q4, q4 = 4 * k := ⟨_, rfl⟩
      have hq4b : q4 ≤ 4000000 := by omega
      have HQ4 : Hd (q4 = 4 * k) := hq4
      obtain ⟨ra, rc, er⟩ := own_slice HO.out.1.row
      rw [HO.out.2, ← hq4] at er
      subst er
      have HO1 : Hd (LOc wr w.heap.size (.slice ra q4 rc) us (tlX N n of cl k) ∧ us.length = q4) := by rw [hq4] at HO ⊢; exact HO
      have HF1 : Hd (Fr (fun _ => False) w wr) := HF.out
      have HNXd : Hd (tlX N n of cl (k + 1) = tlX N n of cl k ++ [zL (memX N of k)] ++ [zL (cleX N n of cl k)] ++ [zL (clrX N n of cl k)] ++ [zL (memX N of k)]) := HNX
      generalize zL (memX N of k) = lm at *
      generalize zL (cleX N n of cl k) = le at *
      generalize zL (clrX N n of cl k) = lr at *
      generalize tlX N n of cl k = T at *
      clear HO HF hq4 HNX
      go_wp2_with fail
      refine Calls.mono HLw ?_
      rintro e wr ⟨rfl, rfl⟩
      clear HLw
      go_wp2_with fail
      refine Calls.mono (HMk wr HF1.out) ?_
      rintro e wc1 ⟨uu1, rfl, hU1, hFc1⟩
      have HU1 : Hd (IOwn wc1 wr.heap.size uu1 (lm)) := hU1
      have HOc1 : Hd (LOc wc1 w.heap.size (.slice ra q4 rc) (us) (T) ∧ (us).length = q4) := ⟨HO1.out.1.stay hFc1, HO1.out.2⟩
      have HFc1 : Hd (Fr (fun _ => False) w wc1 ∧ w.heap.size ≤ wr.heap.size) := ⟨HF1.out.trans hFc1, HF1.out.size⟩
      clear hU1 hFc1 HO1 HF1
      obtain ⟨ua1, uc1, eu1⟩ := iown_cap HU1.out
      subst eu1
      obtain ⟨wz1, hwz1⟩ : ∃ wz1, wz1 = wc1.alloc (.cells #[(Value.slice ua1 (lm).length uc1)] 25) := ⟨_, rfl⟩
      have hFz1 : Fr (fun _ => False) wc1 wz1 := by rw [hwz1]; exact Fr.alloc (Fr.refl _ _) _
      have HWz1 : Hd (wz1 = wc1.alloc (.cells #[(Value.slice ua1 (lm).length uc1)] 25)) := hwz1
      have HBz1 : Hd (wz1.heap[wc1.heap.size]? = some (.cells #[(Value.slice ua1 (lm).length uc1)] 25)) := by unfold Hd; rw [hwz1]; exact heap_new0 wc1 _
      have HOz1 : Hd (LOc wz1 w.heap.size (.slice ra q4 rc) (us) (T) ∧ (us).length = q4) := ⟨HOc1.out.1.stay hFz1, HOc1.out.2⟩
      have HUz1 : Hd (IOwn wz1 w.heap.size (Value.slice ua1 (lm).length uc1) (lm)) := (HU1.out.fr hFz1 (fun _ _ e => e)).mono HFc1.out.2
      have HFz1 : Hd (Fr (fun _ => False) w wz1) := HFc1.out.1.trans hFz1
      clear hFz1 hwz1 HOc1
      go_wp2_with ((at_builtin; refine Hd.out ?_))
      unfold Hd
      rw [← HWz1.out]
      refine wpList_loc rfl (.tmp 15) (.tmp 17) rfl rfl rfl HOz1.out.1 HUz1.out HOz1.out.2 HBz1.out (by omega) HFz1.out.size ?_
      intro g1 cap1 w1 hown1 hfr1 hat1
      have HO2 : Hd (LOc w1 w.heap.size (.slice (some ⟨g1, 0, none⟩) (q4 + 1) cap1) (us ++ [(Value.slice ua1 (lm).length uc1)]) (T ++ [lm]) ∧ (us ++ [(Value.slice ua1 (lm).length uc1)]).length = q4 + 1) := ⟨hown1, by rw [List.length_append, HOz1.out.2]; rfl⟩
      have HF2 : Hd (Fr (fun _ => False) w w1) := HFz1.out.then hfr1 (fun q hq e => by have := (World.ownsRow.lt HOz1.out.1.row q e).1; omega)
      have HUm2 : Hd (IOwn w1 w.heap.size (.slice ua1 lm.length uc1) lm) := HUz1.out.fr hfr1 (fun q e e2 => own_apart HOz1.out.1.row HUz1.out (by decide) q e e2)
      obtain ⟨us1, hus1⟩ : ∃ z, z = (us ++ [(Value.slice ua1 (lm).length uc1)]) := ⟨_, rfl⟩
      rw [← hus1] at HO2
      clear hown1 hfr1 hat1 hus1 HUz1 HOz1 HBz1 HWz1 HFz1 HU1 HFc1
      go_wp2_with fail
      refine Calls.mono (HEk w1 HF2.out) ?_
      rintro e wc2 ⟨uu2, rfl, hU2, hFc2⟩
      have HU2 : Hd (IOwn wc2 w1.heap.size uu2 (le)) := hU2
      have HOc2 : Hd (LOc wc2 w.heap.size (.slice (some ⟨g1, 0, none⟩) (q4 + 1) cap1) (us1) (T ++ [lm]) ∧ (us1).length = q4 + 1) := ⟨HO2.out.1.stay hFc2, HO2.out.2⟩
      have HFc2 : Hd (Fr (fun _ => False) w wc2 ∧ w.heap.size ≤ w1.heap.size) := ⟨HF2.out.trans hFc2, HF2.out.size⟩
      have HUx2 : Hd (IOwn wc2 w.heap.size (.slice ua1 lm.length uc1) lm) := HUm2.out.fr hFc2 (fun _ _ e => e)
      clear hU2 hFc2 HO2 HF2
      obtain ⟨ua2, uc2, eu2⟩ := iown_cap HU2.out
      subst eu2
      obtain ⟨wz2, hwz2⟩ : ∃ wz2, wz2 = wc2.alloc (.cells #[(Value.slice ua2 (le).length uc2)] 25) := ⟨_, rfl⟩
      have hFz2 : Fr (fun _ => False) wc2 wz2 := by rw [hwz2]; exact Fr.alloc (Fr.refl _ _) _
      have HWz2 : Hd (wz2 = wc2.alloc (.cells #[(Value.slice ua2 (le).length uc2)] 25)) := hwz2
      have HBz2 : Hd (wz2.heap[wc2.heap.size]? = some (.cells #[(Value.slice ua2 (le).length uc2)] 25)) := by unfold Hd; rw [hwz2]; exact heap_new0 wc2 _
      have HOz2 : Hd (LOc wz2 w.heap.size (.slice (some ⟨g1, 0, none⟩) (q4 + 1) cap1) (us1) (T ++ [lm]) ∧ (us1).length = q4 + 1) := ⟨HOc2.out.1.stay hFz2, HOc2.out.2⟩
      have HUz2 : Hd (IOwn wz2 w.heap.size (Value.slice ua2 (le).length uc2) (le)) := (HU2.out.fr hFz2 (fun _ _ e => e)).mono HFc2.out.2
      have HFz2 : Hd (Fr (fun _ => False) w wz2) := HFc2.out.1.trans hFz2
      have HUy2 : Hd (IOwn wz2 w.heap.size (.slice ua1 lm.length uc1) lm) := HUx2.out.fr hFz2 (fun _ _ e => e)
      clear hFz2 hwz2 HOc2
      go_wp2_with ((at_builtin; refine Hd.out ?_))
      unfold Hd
      rw [← HWz2.out]
      refine wpList_loc rfl (.tmp 19) (.tmp 23) rfl rfl rfl HOz2.out.1 HUz2.out HOz2.out.2 HBz2.out (by omega) HFz2.out.size ?_
      intro g2 cap2 w2 hown2 hfr2 hat2
      have HO3 : Hd (LOc w2 w.heap.size (.slice (some ⟨g2, 0, none⟩) (q4 + 1 + 1) cap2) (us1 ++ [(Value.slice ua2 (le).length uc2)]) (T ++ [lm] ++ [le]) ∧ (us1 ++ [(Value.slice ua2 (le).length uc2)]).length = q4 + 1 + 1) := ⟨hown2, by rw [List.length_append, HOz2.out.2]; rfl⟩
      have HF3 : Hd (Fr (fun _ => False) w w2) := HFz2.out.then hfr2 (fun q hq e => by have := (World.ownsRow.lt HOz2.out.1.row q e).1; omega)
      have HUm3 : Hd (IOwn w2 w.heap.size (.slice ua1 lm.length uc1) lm) := HUy2.out.fr hfr2 (fun q e e2 => own_apart HOz2.out.1.row HUy2.out (by decide) q e e2)
      obtain ⟨us2, hus2⟩ : ∃ z, z = (us1 ++ [(Value.slice ua2 (le).length uc2)]) := ⟨_, rfl⟩
      rw [← hus2] at HO3
      clear hown2 hfr2 hat2 hus2 HUz2 HOz2 HBz2 HWz2 HFz2 HU2 HFc2 HUx2 HUy2 HUm2
      go_wp2_with fail
      refine Calls.mono (HRk w2 HF3.out) ?_
      rintro e wc3 ⟨uu3, rfl, hU3, hFc3⟩
      have HU3 : Hd (IOwn wc3 w2.heap.size uu3 (lr)) := hU3
      have HOc3 : Hd (LOc wc3 w.heap.size (.slice (some ⟨g2, 0, none⟩) (q4 + 1 + 1) cap2) (us2) (T ++ [lm] ++ [le]) ∧ (us2).length = q4 + 1 + 1) := ⟨HO3.out.1.stay hFc3, HO3.out.2⟩
      have HFc3 : Hd (Fr (fun _ => False) w wc3 ∧ w.heap.size ≤ w2.heap.size) := ⟨HF3.out.trans hFc3, HF3.out.size⟩
      have HUx3 : Hd (IOwn wc3 w.heap.size (.slice ua1 lm.length uc1) lm) := HUm3.out.fr hFc3 (fun _ _ e => e)
      clear hU3 hFc3 HO3 HF3
      obtain ⟨ua3, uc3, eu3⟩ := iown_cap HU3.out
      subst eu3
      obtain ⟨wz3, hwz3⟩ : ∃ wz3, wz3 = wc3.alloc (.cells #[(Value.slice ua3 (lr).length uc3)] 25) := ⟨_, rfl⟩
      have hFz3 : Fr (fun _ => False) wc3 wz3 := by rw [hwz3]; exact Fr.alloc (Fr.refl _ _) _
      have HWz3 : Hd (wz3 = wc3.alloc (.cells #[(Value.slice ua3 (lr).length uc3)] 25)) := hwz3
      have HBz3 : Hd (wz3.heap[wc3.heap.size]? = some (.cells #[(Value.slice ua3 (lr).length uc3)] 25)) := by unfold Hd; rw [hwz3]; exact heap_new0 wc3 _
      have HOz3 : Hd (LOc wz3 w.heap.size (.slice (some ⟨g2, 0, none⟩) (q4 + 1 + 1) cap2) (us2) (T ++ [lm] ++ [le]) ∧ (us2).length = q4 + 1 + 1) := ⟨HOc3.out.1.stay hFz3, HOc3.out.2⟩
      have HUz3 : Hd (IOwn wz3 w.heap.size (Value.slice ua3 (lr).length uc3) (lr)) := (HU3.out.fr hFz3 (fun _ _ e => e)).mono HFc3.out.2
      have HFz3 : Hd (Fr (fun _ => False) w wz3) := HFc3.out.1.trans hFz3
      have HUy3 : Hd (IOwn wz3 w.heap.size (.slice ua1 lm.length uc1) lm) := HUx3.out.fr hFz3 (fun _ _ e => e)
      clear hFz3 hwz3 HOc3
      go_wp2_with ((at_builtin; refine Hd.out ?_))
      unfold Hd
      rw [← HWz3.out]
      refine wpList_loc rfl (.tmp 25) (.tmp 29) rfl rfl rfl HOz3.out.1 HUz3.out HOz3.out.2 HBz3.out (by omega) HFz3.out.size ?_
      intro g3 cap3 w3 hown3 hfr3 hat3
      have HO4 : Hd (LOc w3 w.heap.size (.slice (some ⟨g3, 0, none⟩) (q4 + 1 + 1 + 1) cap3) (us2 ++ [(Value.slice ua3 (lr).length uc3)]) (T ++ [lm] ++ [le] ++ [lr]) ∧ (us2 ++ [(Value.slice ua3 (lr).length uc3)]).length = q4 + 1 + 1 + 1) := ⟨hown3, by rw [List.length_append, HOz3.out.2]; rfl⟩
      have HF4 : Hd (Fr (fun _ => False) w w3) := HFz3.out.then hfr3 (fun q hq e => by have := (World.ownsRow.lt HOz3.out.1.row q e).1; omega)
      have HUm4 : Hd (IOwn w3 w.heap.size (.slice ua1 lm.length uc1) lm) := HUy3.out.fr hfr3 (fun q e e2 => own_apart HOz3.out.1.row HUy3.out (by decide) q e e2)
      obtain ⟨us3, hus3⟩ : ∃ z, z = (us2 ++ [(Value.slice ua3 (lr).length uc3)]) := ⟨_, rfl⟩
      rw [← hus3] at HO4
      clear hown3 hfr3 hat3 hus3 HUz3 HOz3 HBz3 HWz3 HFz3 HU3 HFc3 HUx3 HUy3 HUm3
      have HU4 : Hd (IOwn w3 w.heap.size (.slice ua1 lm.length uc1) lm) := HUm4.out
      have HOc4 : Hd (LOc w3 w.heap.size (.slice (some ⟨g3, 0, none⟩) (q4 + 1 + 1 + 1) cap3) (us3) (T ++ [lm] ++ [le] ++ [lr]) ∧ (us3).length = q4 + 1 + 1 + 1) := HO4.out
      have HFc4 : Hd (Fr (fun _ => False) w w3 ∧ w.heap.size ≤ w.heap.size) := ⟨HF4.out, Nat.le_refl _⟩
      obtain ⟨wz4, hwz4⟩ : ∃ wz4, wz4 = w3.alloc (.cells #[(Value.slice ua1 (lm).length uc1)] 25) := ⟨_, rfl⟩
      have hFz4 : Fr (fun _ => False) w3 wz4 := by rw [hwz4]; exact Fr.alloc (Fr.refl _ _) _
      have HWz4 : Hd (wz4 = w3.alloc (.cells #[(Value.slice ua1 (lm).length uc1)] 25)) := hwz4
      have HBz4 : Hd (wz4.heap[w3.heap.size]? = some (.cells #[(Value.slice ua1 (lm).length uc1)] 25)) := by unfold Hd; rw [hwz4]; exact heap_new0 w3 _
      have HOz4 : Hd (LOc wz4 w.heap.size (.slice (some ⟨g3, 0, none⟩) (q4 + 1 + 1 + 1) cap3) (us3) (T ++ [lm] ++ [le] ++ [lr]) ∧ (us3).length = q4 + 1 + 1 + 1) := ⟨HOc4.out.1.stay hFz4, HOc4.out.2⟩
      have HUz4 : Hd (IOwn wz4 w.heap.size (Value.slice ua1 (lm).length uc1) (lm)) := (HU4.out.fr hFz4 (fun _ _ e => e)).mono HFc4.out.2
      have HFz4 : Hd (Fr (fun _ => False) w wz4) := HFc4.out.1.trans hFz4
      clear hFz4 hwz4 HOc4
      go_wp2_with ((at_builtin; refine Hd.out ?_))
      unfold Hd
      rw [← HWz4.out]
      refine wpList_loc rfl (.tmp 31) (.tmp 33) rfl rfl rfl HOz4.out.1 HUz4.out HOz4.out.2 HBz4.out (by omega) HFz4.out.size ?_
      intro g4 cap4 w4 hown4 hfr4 hat4
      have HO5 : Hd (LOc w4 w.heap.size (.slice (some ⟨g4, 0, none⟩) (q4 + 1 + 1 + 1 + 1) cap4) (us3 ++ [(Value.slice ua1 (lm).length uc1)]) (T ++ [lm] ++ [le] ++ [lr] ++ [lm]) ∧ (us3 ++ [(Value.slice ua1 (lm).length uc1)]).length = q4 + 1 + 1 + 1 + 1) := ⟨hown4, by rw [List.length_append, HOz4.out.2]; rfl⟩
      have HF5 : Hd (Fr (fun _ => False) w w4) := HFz4.out.then hfr4 (fun q hq e => by have := (World.ownsRow.lt HOz4.out.1.row q e).1; omega)
      obtain ⟨us4, hus4⟩ : ∃ z, z = (us3 ++ [(Value.slice ua1 (lm).length uc1)]) := ⟨_, rfl⟩
      rw [← hus4] at HO5
      clear hown4 hfr4 hat4 hus4 HUz4 HOz4 HBz4 HWz4 HFz4 HU4 HFc4 HUm4 HO4 HF4
      have HO6 : Hd (LOc w4 w.heap.size (.slice (some ⟨g4, 0, none⟩) (q4 + 1 + 1 + 1 + 1) cap4) us4 (tlX N n of cl (k + 1)) ∧ us4.length = 4 * (k + 1)) := by
        rw [HNXd.out]
        exact ⟨HO5.out.1, by rw [HO5.out.2]; have := HQ4.out; omega⟩
      clear HO5
      go_wp2_with fail
      go_roundw
      case measure => simp; omega
      case rel => exact ⟨k + 1, us4, by simp, by omega, HO6.out, HF5.out⟩
    · have d1 : decide ((k : Int) < (n : Int)) = false := by simp; omega
      have d1n : ¬ k < n := hlt
      have HLw := HL.out wr HF.out
      have HX : Hd (LOc wr w.heap.size u3 us (tlX N n of cl n)) := by
        have e : k = n := by omega
        have := HO.out.1
        rw [e] at this
        exact this
      clear hlt HO
      go_wp2_with fail
      refine Calls.mono HLw ?_
      rintro e wr ⟨rfl, rfl⟩
      clear HLw
      go_wp2_with fail
      go_ret
      exact ⟨_, us, rfl, HX.out, HF.out⟩
end
end Go.Proofs.YtjmbfjaahadbhaaDoor
