import Derived.Test.YtjmbfjaahadbhaaGreatDoorQOgJ
import Derived.Test.YtjmbfjaahadbhaaGreatDoorQIbJ
set_option linter.unusedVariables false
set_option linter.unusedSimpArgs false
namespace Go.Proofs.YtjmbfjaahadbhaaGreatDoor
open Go.RowKit (wrap32 wrap64)

theorem cle_next {N d c : Nat} {of : Nat → Nat} {cl : Nat → List Nat} : cleX N (d + 1) of cl c = cleX N d of cl c ++ if (c != d && hitX N of cl c d) = true then [d] else [] := by
  unfold cleX
  rw [List.range_succ, List.filter_append]
  congr 1
  by_cases e : (c != d && hitX N of cl c d) = true
  · rw [if_pos e, List.filter_cons_of_pos (by simpa using e), List.filter_nil]
  · rw [if_neg e, List.filter_cons_of_neg (by simpa using e), List.filter_nil]
theorem clr_next {N d c : Nat} {of : Nat → Nat} {cl : Nat → List Nat} : clrX N (d + 1) of cl c = clrX N d of cl c ++ if (d != c && hitX N of cl d c) = true then [d] else [] := by
  unfold clrX
  rw [List.range_succ, List.filter_append]
  congr 1
  by_cases e : (d != c && hitX N of cl d c) = true
  · rw [if_pos e, List.filter_cons_of_pos (by simpa using e), List.filter_nil]
  · rw [if_neg e, List.filter_cons_of_neg (by simpa using e), List.filter_nil]
section
variable {w : World} {N n : Nat} {of : Nat → Nat} {cl : Nat → List Nat} {b lg lo lc wg wc ck co cc : Nat}
set_option maxRecDepth 100000 in
set_option maxHeartbeats 4000000 in
theorem dcallees_any (c : Nat) (h : Dv w N n of cl b lg lo lc wg wc ck co cc) (hc : c < n) (hcl : ∀ x, x < N → ∀ z ∈ cl x, z < N) (hll : ∀ x, x < N → (ddX (cl x)).length ≤ 1000000000) (hn : n ≤ 1000000) (hN : N ≤ 1000000) :
    Calls Tryz.prog 34 #[.pointer (some ⟨b, 0, none⟩), vI (c : Int)] w fun e w' => ∃ v', e = .returned v' ∧ IOwn w' w.heap.size v' (zL (cleX N n of cl c)) ∧ Fr (fun _ => False) w w' := by
  have HDV : Hd (Dv w N n of cl b lg lo lc wg wc ck co cc) := h
  have HB : Hd (w.heap[b]? = some (.cells #[.slice (some ⟨lg, lo, none⟩) n lc, .slice (some ⟨wg, 0, none⟩) N wc, .slice (some ⟨ck, co, none⟩) N cc] 54)) := h.box
  have HCA : Hd (∀ d, d < n → ∀ W, Fr (fun _ => False) w W → Calls Tryz.prog 59 #[.pointer (some ⟨b, 0, none⟩), vI (c : Nat), vI (d : Nat)] W fun e w' => e = .returned (.bool (hitX N of cl c d)) ∧ Fr (fun _ => False) W w') := fun d hd W f => rcalls_any c d (h.stay f) (by omega) hcl hll hn hN
  have HI0 : Hd (IOwn w w.heap.size (.slice none 0 0) (zL (cleX N 0 of cl c))) := World.ownsRow_nil _ _ _ _
  have HLN : Hd (∀ d, d ≤ n → (zL (cleX N d of cl c)).length ≤ 1000000) := fun d hd => by
    rw [List.length_map]
    have := (len_le (cleX_rise (N := N) (n := d) (of := of) (cl := cl) c) (fun x hx => (mem_cleX.1 hx).1)); omega
  have HF0 : Hd (Fr (fun _ => False) w w) := Fr.refl _ _
  have c0 : (0 : Int) ≤ c := by omega
  have c1 : (c : Int) < n := by omega
  have e1 : decide ((c : Int) ≥ 0) = true := by simp
  have e2 : decide ((0 : Int) ≤ c) = true := by simp
  have e3 : decide ((c : Int) < n) = true := by simp; omega
  clear h hcl hll
  go_enter Tryz.func34, Tryz.ntmps34
  go_wp2_with fail
  go_loopw [5, 6] (fun v5 v wx => ∃ d : Nat, v = .int .i64 d ∧ d ≤ n ∧ Hd (IOwn wx w.heap.size v5 (zL (cleX N d of cl c))) ∧ Hd (Fr (fun _ => False) w wx)) (fun _ v _ => match v with | .int _ q => n - q.toNat | _ => 0)
  case atStart => exact ⟨0, by simp, Nat.zero_le _, HI0.out, HF0.out⟩
  case round =>
    clear HF0 HI0
    obtain ⟨d, rfl, hd, HI, HF⟩ := hrel
    have b0 : wr.cell? ⟨b, 0, none⟩ = some (.slice (some ⟨lg, lo, none⟩) n lc) := by rw [cell_of0 (keepF HB.out HF.out)]; rfl
    by_cases hlt : d < n
    · have d1 : decide ((d : Int) < (n : Int)) = true := by simp; omega
      have HC := HCA.out d hlt wr HF.out
      have HNX : Hd (cleX N (d + 1) of cl c = cleX N d of cl c ++ if (c != d && hitX N of cl c d) = true then [d] else []) := cle_next
      have hln := HLN.out d hd
      have hd2 : d + 1 ≤ n := hlt
      generalize hitX N of cl c d = ht at *
      go_wp2_with fail
      refine Calls.mono HC ?_
      rintro e w1 ⟨rfl, hF1⟩
      have HF1 : Hd (Fr (fun _ => False) w w1) := HF.out.trans hF1
      have HI1 : Hd (IOwn w1 w.heap.size u5 (zL (cleX N d of cl c))) := HI.out.fr hF1 (fun _ _ e => e)
      clear HC hF1 HI HF b0 hlt
      cases ht with
      | false =>
        have HI2 : Hd (IOwn w1 w.heap.size u5 (zL (cleX N (d + 1) of cl c))) := by
          unfold Hd
          rw [HNX.out, if_neg (by simp), List.append_nil]
          exact HI1.out
        clear HI1 HNX
        go_wp2_with fail
        go_roundw
        case measure => simp; omega
        case rel => exact ⟨d + 1, by simp, by omega, HI2.out, HF1.out⟩
      | true =>
        by_cases e : d = c
        · have f1 : ((d : Int) == (c : Int)) = true := by simp [e]
          have f2 : ((d : Int) != (c : Int)) = false := by simp [e]
          have f3 : decide (d = c) = true := by simp [e]
          have HI2 : Hd (IOwn w1 w.heap.size u5 (zL (cleX N (d + 1) of cl c))) := by
            unfold Hd
            rw [HNX.out, if_neg (by simp [e]), List.append_nil]
            exact HI1.out
          clear HI1 HNX e
          go_wp2_with fail
          go_roundw
          case measure => simp; omega
          case rel => exact ⟨d + 1, by simp, by omega, HI2.out, HF1.out⟩
        · have f1 : ((d : Int) == (c : Int)) = false := by simp; omega
          have f2 : ((d : Int) != (c : Int)) = true := by simp; omega
          have f3 : decide (d = c) = false := by simp [e]
          have HNX2 : Hd (zL (cleX N (d + 1) of cl c) = zL (cleX N d of cl c) ++ [(d : Int)]) := by
            unfold Hd
            rw [HNX.out, if_pos (show (c != d && true) = true by simp; omega), zL_app]
          clear HNX e
          generalize zL (cleX N d of cl c) = l0 at *
          obtain ⟨va, vc, ev⟩ := iown_cap HI1.out
          subst ev
          obtain ⟨w2, hw2⟩ : ∃ w2, w2 = w1.alloc (.cells #[vI (d : Int)] 3) := ⟨_, rfl⟩
          have hF2 : Fr (fun _ => False) w1 w2 := by rw [hw2]; exact Fr.alloc (Fr.refl _ _) _
          have HW2 : Hd (w2 = w1.alloc (.cells #[vI (d : Int)] 3)) := hw2
          have HB2 : Hd (w2.heap[w1.heap.size]? = some (.cells #[vI (d : Int)] 3)) := by unfold Hd; rw [hw2]; exact heap_new0 w1 _
          have HI2 : Hd (IOwn w2 w.heap.size (.slice va l0.length vc) l0) := HI1.out.fr hF2 (fun _ _ e => e)
          have HF2 : Hd (Fr (fun _ => False) w w2) := HF1.out.trans hF2
          clear hF2 hw2 HI1 HF1
          go_wp2_with ((at_builtin; refine Hd.out ?_))
          unfold Hd
          rw [← HW2.out]
          refine wpList_int rfl (.tmp 40) (.tmp 42) rfl rfl rfl HI2.out rfl HB2.out (by omega) HF2.out.size ?_
          intro g6 cap6 w6 hown6 hfr6 hat6 hkp6
          have HI6 : Hd (IOwn w6 w.heap.size (.slice (some ⟨g6, 0, none⟩) (l0.length + 1) cap6) (zL (cleX N (d + 1) of cl c))) := by unfold Hd; rw [HNX2.out]; exact hown6
          have HF6 : Hd (Fr (fun _ => False) w w6) := HF2.out.then hfr6 (fun q hq e => by have := (HI2.out.ge q e).1; omega)
          clear hown6 hfr6 hat6 hkp6 HI2 HB2 HW2 HF2 HNX2
          go_wp2_with fail
          go_roundw
          case measure => simp; omega
          case rel => exact ⟨d + 1, by simp, by omega, HI6.out, HF6.out⟩
    · have d1 : decide ((d : Int) < (n : Int)) = false := by simp; omega
      have d1n : ¬ d < n := hlt
      have HI2 : Hd (IOwn wr w.heap.size u5 (zL (cleX N n of cl c))) := by
        have e : d = n := by omega
        rw [e] at HI
        exact HI
      clear hlt HI
      go_wp2_with fail
      go_ret
      exact ⟨_, rfl, HI2.out, HF.out⟩
set_option maxRecDepth 100000 in
set_option maxHeartbeats 4000000 in
theorem dcallers_any (c : Nat) (h : Dv w N n of cl b lg lo lc wg wc ck co cc) (hc : c < n) (hcl : ∀ x, x < N → ∀ z ∈ cl x, z < N) (hll : ∀ x, x < N → (ddX (cl x)).length ≤ 1000000000) (hn : n ≤ 1000000) (hN : N ≤ 1000000) :
    Calls Tryz.prog 36 #[.pointer (some ⟨b, 0, none⟩), vI (c : Int)] w fun e w' => ∃ v', e = .returned v' ∧ IOwn w' w.heap.size v' (zL (clrX N n of cl c)) ∧ Fr (fun _ => False) w w' := by
  have HDV : Hd (Dv w N n of cl b lg lo lc wg wc ck co cc) := h
  have HB : Hd (w.heap[b]? = some (.cells #[.slice (some ⟨lg, lo, none⟩) n lc, .slice (some ⟨wg, 0, none⟩) N wc, .slice (some ⟨ck, co, none⟩) N cc] 54)) := h.box
  have HCA : Hd (∀ d, d < n → ∀ W, Fr (fun _ => False) w W → Calls Tryz.prog 59 #[.pointer (some ⟨b, 0, none⟩), vI (d : Nat), vI (c : Nat)] W fun e w' => e = .returned (.bool (hitX N of cl d c)) ∧ Fr (fun _ => False) W w') := fun d hd W f => rcalls_any d c (h.stay f) (by omega) hcl hll hn hN
  have HI0 : Hd (IOwn w w.heap.size (.slice none 0 0) (zL (clrX N 0 of cl c))) := World.ownsRow_nil _ _ _ _
  have HLN : Hd (∀ d, d ≤ n → (zL (clrX N d of cl c)).length ≤ 1000000) := fun d hd => by
    rw [List.length_map]
    have := (len_le (clrX_rise (N := N) (n := d) (of := of) (cl := cl) c) (fun x hx => (mem_clrX.1 hx).1)); omega
  have HF0 : Hd (Fr (fun _ => False) w w) := Fr.refl _ _
  have c0 : (0 : Int) ≤ c := by omega
  have c1 : (c : Int) < n := by omega
  have e1 : decide ((c : Int) ≥ 0) = true := by simp
  have e2 : decide ((0 : Int) ≤ c) = true := by simp
  have e3 : decide ((c : Int) < n) = true := by simp; omega
  clear h hcl hll
  go_enter Tryz.func36, Tryz.ntmps36
  go_wp2_with fail
  go_loopw [5, 6] (fun v5 v wx => ∃ d : Nat, v = .int .i64 d ∧ d ≤ n ∧ Hd (IOwn wx w.heap.size v5 (zL (clrX N d of cl c))) ∧ Hd (Fr (fun _ => False) w wx)) (fun _ v _ => match v with | .int _ q => n - q.toNat | _ => 0)
  case atStart => exact ⟨0, by simp, Nat.zero_le _, HI0.out, HF0.out⟩
  case round =>
    clear HF0 HI0
    obtain ⟨d, rfl, hd, HI, HF⟩ := hrel
    have b0 : wr.cell? ⟨b, 0, none⟩ = some (.slice (some ⟨lg, lo, none⟩) n lc) := by rw [cell_of0 (keepF HB.out HF.out)]; rfl
    by_cases hlt : d < n
    · have d1 : decide ((d : Int) < (n : Int)) = true := by simp; omega
      have HC := HCA.out d hlt wr HF.out
      have HNX : Hd (clrX N (d + 1) of cl c = clrX N d of cl c ++ if (d != c && hitX N of cl d c) = true then [d] else []) := clr_next
      have hln := HLN.out d hd
      have hd2 : d + 1 ≤ n := hlt
      generalize hitX N of cl d c = ht at *
      go_wp2_with fail
      refine Calls.mono HC ?_
      rintro e w1 ⟨rfl, hF1⟩
      have HF1 : Hd (Fr (fun _ => False) w w1) := HF.out.trans hF1
      have HI1 : Hd (IOwn w1 w.heap.size u5 (zL (clrX N d of cl c))) := HI.out.fr hF1 (fun _ _ e => e)
      clear HC hF1 HI HF b0 hlt
      cases ht with
      | false =>
        have HI2 : Hd (IOwn w1 w.heap.size u5 (zL (clrX N (d + 1) of cl c))) := by
          unfold Hd
          rw [HNX.out, if_neg (by simp), List.append_nil]
          exact HI1.out
        clear HI1 HNX
        go_wp2_with fail
        go_roundw
        case measure => simp; omega
        case rel => exact ⟨d + 1, by simp, by omega, HI2.out, HF1.out⟩
      | true =>
        by_cases e : d = c
        · have f1 : ((d : Int) == (c : Int)) = true := by simp [e]
          have f2 : ((d : Int) != (c : Int)) = false := by simp [e]
          have f3 : decide (d = c) = true := by simp [e]
          have HI2 : Hd (IOwn w1 w.heap.size u5 (zL (clrX N (d + 1) of cl c))) := by
            unfold Hd
            rw [HNX.out, if_neg (by simp [e]), List.append_nil]
            exact HI1.out
          clear HI1 HNX e
          go_wp2_with fail
          go_roundw
          case measure => simp; omega
          case rel => exact ⟨d + 1, by simp, by omega, HI2.out, HF1.out⟩
        · have f1 : ((d : Int) == (c : Int)) = false := by simp; omega
          have f2 : ((d : Int) != (c : Int)) = true := by simp; omega
          have f3 : decide (d = c) = false := by simp [e]
          have HNX2 : Hd (zL (clrX N (d + 1) of cl c) = zL (clrX N d of cl c) ++ [(d : Int)]) := by
            unfold Hd
            rw [HNX.out, if_pos (show (d != c && true) = true by simp; omega), zL_app]
          clear HNX e
          generalize zL (clrX N d of cl c) = l0 at *
          obtain ⟨va, vc, ev⟩ := iown_cap HI1.out
          subst ev
          obtain ⟨w2, hw2⟩ : ∃ w2, w2 = w1.alloc (.cells #[vI (d : Int)] 3) := ⟨_, rfl⟩
          have hF2 : Fr (fun _ => False) w1 w2 := by rw [hw2]; exact Fr.alloc (Fr.refl _ _) _
          have HW2 : Hd (w2 = w1.alloc (.cells #[vI (d : Int)] 3)) := hw2
          have HB2 : Hd (w2.heap[w1.heap.size]? = some (.cells #[vI (d : Int)] 3)) := by unfold Hd; rw [hw2]; exact heap_new0 w1 _
          have HI2 : Hd (IOwn w2 w.heap.size (.slice va l0.length vc) l0) := HI1.out.fr hF2 (fun _ _ e => e)
          have HF2 : Hd (Fr (fun _ => False) w w2) := HF1.out.trans hF2
          clear hF2 hw2 HI1 HF1
          go_wp2_with ((at_builtin; refine Hd.out ?_))
          unfold Hd
          rw [← HW2.out]
          refine wpList_int rfl (.tmp 40) (.tmp 42) rfl rfl rfl HI2.out rfl HB2.out (by omega) HF2.out.size ?_
          intro g6 cap6 w6 hown6 hfr6 hat6 hkp6
          have HI6 : Hd (IOwn w6 w.heap.size (.slice (some ⟨g6, 0, none⟩) (l0.length + 1) cap6) (zL (clrX N (d + 1) of cl c))) := by unfold Hd; rw [HNX2.out]; exact hown6
          have HF6 : Hd (Fr (fun _ => False) w w6) := HF2.out.then hfr6 (fun q hq e => by have := (HI2.out.ge q e).1; omega)
          clear hown6 hfr6 hat6 hkp6 HI2 HB2 HW2 HF2 HNX2
          go_wp2_with fail
          go_roundw
          case measure => simp; omega
          case rel => exact ⟨d + 1, by simp, by omega, HI6.out, HF6.out⟩
    · have d1 : decide ((d : Int) < (n : Int)) = false := by simp; omega
      have d1n : ¬ d < n := hlt
      have HI2 : Hd (IOwn wr w.heap.size u5 (zL (clrX N n of cl c))) := by
        have e : d = n := by omega
        rw [e] at HI
        exact HI
      clear hlt HI
      go_wp2_with fail
      go_ret
      exact ⟨_, rfl, HI2.out, HF.out⟩
end

/-! ### graphs of which nothing is written -/
theorem GrN.frS {S : Nat → Prop} {fs : List PF} {w w' w2 : World} {b n : Nat} {of : Nat → Nat} (h : GrN fs w w' b n of) (f : Fr S w' w2) (hS : ∀ q, w.heap.size ≤ q → ¬ S q) : GrN fs w w2 b n of := by
  obtain ⟨go, gm, ge, gr, mv, ev, rv, h1, h2, h3, h4, h5, h6⟩ := h
  have ke : ∀ {cg : Nat} {cv : Nat → Value} {cl : Nat → List Int}, w.heap.size ≤ cg → Cr w' w.heap.size cg n cv cl → Cr w2 w.heap.size cg n cv cl := fun hg h => h.fr f (hS _ hg) (fun i hi k e => hS k ((h.own i hi).ge k e).1)
  exact ⟨go, gm, ge, gr, mv, ev, rv, h1, h2, h3, h4, h5, ⟨(f.block b (heap_lt h6.blk) (hS b h1)).trans h6.blk, h6.rof.fr f (hS go h2), ke h3 h6.cm, ke h4 h6.ce, ke h5 h6.cr⟩⟩
theorem Dg.frS {S : Nat → Prop} {w w' : World} {N n : Nat} {of : Nat → Nat} {cl : Nat → List Nat} {B b : Nat} (h : Dg w N n of cl B b) (f : Fr S w w') (hS : ∀ q, B ≤ q → ¬ S q) : Dg w' N n of cl B b := by
  obtain ⟨lv, cv, wg, wc, us, cus, h1, h2, h3, h4, h5⟩ := h.told
  exact ⟨lv, cv, wg, wc, us, cus, (f.block b (heap_lt h1) (hS b h2)).trans h1, h2, h3.fr f (fun q e => hS q (h3.ge q e).1), h4.frS f hS, h5.frS f hS⟩
/-! ### whatever number is asked -/
def lsI (n : Nat) (f : Nat → List Nat) (c : Int) : List Int := if 0 ≤ c ∧ c < (n : Int) then zL (f c.toNat) else []
def ofI (N : Nat) (of : Nat → Nat) (c : Int) : Int := if 0 ≤ c ∧ c < (N : Int) then (of c.toNat : Int) else -1
theorem lsI_in {n : Nat} {f : Nat → List Nat} {i : Nat} (hi : i < n) : lsI n f (i : Int) = zL (f i) := by unfold lsI; rw [if_pos (by omega)]; rfl
theorem lsI_out {n : Nat} {f : Nat → List Nat} {c : Int} (h : ¬ (0 ≤ c ∧ c < (n : Int))) : lsI n f c = [] := by unfold lsI; rw [if_neg h]
theorem ofI_in {N : Nat} {of : Nat → Nat} {i : Nat} (hi : i < N) : ofI N of (i : Int) = (of i : Int) := by unfold ofI; rw [if_pos (by omega)]; rfl
theorem ofI_out {N : Nat} {of : Nat → Nat} {c : Int} (h : ¬ (0 ≤ c ∧ c < (N : Int))) : ofI N of c = -1 := by unfold ofI; rw [if_neg h]
theorem nat_or (c : Int) (n : Nat) : (∃ i : Nat, c = (i : Int) ∧ i < n) ∨ (c < 0 ∧ ¬ (0 ≤ c ∧ c < (n : Int))) ∨ ((0 ≤ c ∧ (n : Int) ≤ c) ∧ ¬ (0 ≤ c ∧ c < (n : Int))) := by
  by_cases h : c < 0
  · exact Or.inr (Or.inl ⟨h, by omega⟩)
  · by_cases h2 : c < (n : Int)
    · exact Or.inl ⟨c.toNat, by omega, by omega⟩
    · exact Or.inr (Or.inr ⟨by omega, by omega⟩)
section
variable {w : World} {B b go gm ge gr N n : Nat} {mv ev rv : Nat → Value} {of : Nat → Nat} {cl : Nat → List Nat}
set_option maxRecDepth 100000 in
set_option maxHeartbeats 1000000 in
theorem of_int (c : Int) (h : GA w B b go gm ge gr N n mv ev rv of cl) (hN : N ≤ 1000000) : Calls Tryz.prog 28 #[.pointer (some ⟨b, 0, none⟩), vI c] w fun e w' => e = .returned (vI (ofI N of c)) ∧ w' = w := by
  have c0 : w.cell? ⟨b, 0, none⟩ = some (.slice (some ⟨go, 0, none⟩) N N) := by rw [cell_of0 h.blk]; rfl
  rcases nat_or c N with ⟨i, rfl, hi⟩ | ⟨hc, hne⟩ | ⟨hc, hne⟩
  · rw [ofI_in hi]; exact of_any i h hi hN
  · rw [ofI_out hne]
    have d1 : decide (c < 0) = true := by simp; exact hc
    clear h hne
    go_enter Tryz.func28, Tryz.ntmps28
    go_wp2_with fail
    go_ret
    exact ⟨rfl, rfl⟩
  · rw [ofI_out hne]
    obtain ⟨hc0, hc1⟩ := hc
    have d1 : decide (c < 0) = false := by simp; exact hc0
    have d2 : decide (c ≥ (N : Int)) = true := by simp; exact hc1
    have d3 : decide ((N : Int) ≤ c) = true := by simp; exact hc1
    clear h hne
    go_enter Tryz.func28, Tryz.ntmps28
    go_wp2_with fail
    go_ret
    exact ⟨rfl, rfl⟩
set_option maxRecDepth 100000 in
set_option maxHeartbeats 1000000 in
theorem listOf_out {cg r : Nat} (c : Int) (w : World) (hne : c < 0 ∨ (0 ≤ c ∧ (r : Int) ≤ c)) : Calls Tryz.prog 57 #[.slice (some ⟨cg, 0, none⟩) r r, vI c] w fun e w' => e = .returned (.slice none 0 0) ∧ w' = w := by
  rcases hne with hc | ⟨hc0, hc1⟩
  · have d1 : decide (c < 0) = true := by simp; exact hc
    go_enter Tryz.func57, Tryz.ntmps57
    go_wp2_with fail
    go_ret
    exact ⟨rfl, rfl⟩
  · have d1 : decide (c < 0) = false := by simp; exact hc0
    have d2 : decide (c ≥ (r : Int)) = true := by simp; exact hc1
    have d3 : decide ((r : Int) ≤ c) = true := by simp; exact hc1
    go_enter Tryz.func57, Tryz.ntmps57
    go_wp2_with fail
    go_ret
    exact ⟨rfl, rfl⟩
set_option maxRecDepth 100000 in
set_option maxHeartbeats 1000000 in
theorem members_int (c : Int) (h : GA w B b go gm ge gr N n mv ev rv of cl) (hn : n ≤ 1000000) (hN : N ≤ 1000000) :
    Calls Tryz.prog 31 #[.pointer (some ⟨b, 0, none⟩), vI c] w fun e w' => ∃ v', e = .returned v' ∧ IOwn w' w.heap.size v' (lsI n (memX N of) c) ∧ Fr (fun _ => False) w w' := by
  have c1 : w.cell? ⟨b, 1, none⟩ = some (.slice (some ⟨gm, 0, none⟩) n n) := by rw [cell_of0 h.blk]; rfl
  have main : ¬ (0 ≤ c ∧ c < (n : Int)) → (c < 0 ∨ (0 ≤ c ∧ (n : Int) ≤ c)) → Calls Tryz.prog 31 #[.pointer (some ⟨b, 0, none⟩), vI c] w fun e w' => ∃ v', e = .returned v' ∧ IOwn w' w.heap.size v' (lsI n (memX N of) c) ∧ Fr (fun _ => False) w w' := fun hne hc => by
    rw [lsI_out hne]
    have HC : Hd (Calls Tryz.prog 57 #[.slice (some ⟨gm, 0, none⟩) n n, vI c] w fun e w' => e = .returned (.slice none 0 0) ∧ w' = w) := listOf_out c w hc
    clear h hne hc
    go_enter Tryz.func31, Tryz.ntmps31
    go_wp2_with fail
    refine Calls.mono HC.out ?_
    rintro e w1 ⟨rfl, rfl⟩
    clear HC c1
    go_wp2_with fail
    go_ret
    exact ⟨_, rfl, World.ownsRow_nil _ _ _ _, Fr.refl _ _⟩
  rcases nat_or c n with ⟨i, rfl, hi⟩ | ⟨hc, hne⟩ | ⟨hc, hne⟩
  · rw [lsI_in hi]; exact members_any i h hi hn hN
  · exact main hne (Or.inl hc)
  · exact main hne (Or.inr hc)
set_option maxRecDepth 100000 in
set_option maxHeartbeats 1000000 in
theorem callees_int (c : Int) (h : GA w B b go gm ge gr N n mv ev rv of cl) (hn : n ≤ 1000000) (hN : N ≤ 1000000) :
    Calls Tryz.prog 33 #[.pointer (some ⟨b, 0, none⟩), vI c] w fun e w' => ∃ v', e = .returned v' ∧ IOwn w' w.heap.size v' (lsI n (cleX N n of cl) c) ∧ Fr (fun _ => False) w w' := by
  have c1 : w.cell? ⟨b, 2, none⟩ = some (.slice (some ⟨ge, 0, none⟩) n n) := by rw [cell_of0 h.blk]; rfl
  have main : ¬ (0 ≤ c ∧ c < (n : Int)) → (c < 0 ∨ (0 ≤ c ∧ (n : Int) ≤ c)) → Calls Tryz.prog 33 #[.pointer (some ⟨b, 0, none⟩), vI c] w fun e w' => ∃ v', e = .returned v' ∧ IOwn w' w.heap.size v' (lsI n (cleX N n of cl) c) ∧ Fr (fun _ => False) w w' := fun hne hc => by
    rw [lsI_out hne]
    have HC : Hd (Calls Tryz.prog 57 #[.slice (some ⟨ge, 0, none⟩) n n, vI c] w fun e w' => e = .returned (.slice none 0 0) ∧ w' = w) := listOf_out c w hc
    clear h hne hc
    go_enter Tryz.func33, Tryz.ntmps33
    go_wp2_with fail
    refine Calls.mono HC.out ?_
    rintro e w1 ⟨rfl, rfl⟩
    clear HC c1
    go_wp2_with fail
    go_ret
    exact ⟨_, rfl, World.ownsRow_nil _ _ _ _, Fr.refl _ _⟩
  rcases nat_or c n with ⟨i, rfl, hi⟩ | ⟨hc, hne⟩ | ⟨hc, hne⟩
  · rw [lsI_in hi]; exact callees_any i h hi hn hN
  · exact main hne (Or.inl hc)
  · exact main hne (Or.inr hc)
set_option maxRecDepth 100000 in
set_option maxHeartbeats 1000000 in
theorem callers_int (c : Int) (h : GA w B b go gm ge gr N n mv ev rv of cl) (hn : n ≤ 1000000) (hN : N ≤ 1000000) :
    Calls Tryz.prog 35 #[.pointer (some ⟨b, 0, none⟩), vI c] w fun e w' => ∃ v', e = .returned v' ∧ IOwn w' w.heap.size v' (lsI n (clrX N n of cl) c) ∧ Fr (fun _ => False) w w' := by
  have c1 : w.cell? ⟨b, 3, none⟩ = some (.slice (some ⟨gr, 0, none⟩) n n) := by rw [cell_of0 h.blk]; rfl
  have main : ¬ (0 ≤ c ∧ c < (n : Int)) → (c < 0 ∨ (0 ≤ c ∧ (n : Int) ≤ c)) → Calls Tryz.prog 35 #[.pointer (some ⟨b, 0, none⟩), vI c] w fun e w' => ∃ v', e = .returned v' ∧ IOwn w' w.heap.size v' (lsI n (clrX N n of cl) c) ∧ Fr (fun _ => False) w w' := fun hne hc => by
    rw [lsI_out hne]
    have HC : Hd (Calls Tryz.prog 57 #[.slice (some ⟨gr, 0, none⟩) n n, vI c] w fun e w' => e = .returned (.slice none 0 0) ∧ w' = w) := listOf_out c w hc
    clear h hne hc
    go_enter Tryz.func35, Tryz.ntmps35
    go_wp2_with fail
    refine Calls.mono HC.out ?_
    rintro e w1 ⟨rfl, rfl⟩
    clear HC c1
    go_wp2_with fail
    go_ret
    exact ⟨_, rfl, World.ownsRow_nil _ _ _ _, Fr.refl _ _⟩
  rcases nat_or c n with ⟨i, rfl, hi⟩ | ⟨hc, hne⟩ | ⟨hc, hne⟩
  · rw [lsI_in hi]; exact callers_any i h hi hn hN
  · exact main hne (Or.inl hc)
  · exact main hne (Or.inr hc)
end
section
variable {w : World} {N n : Nat} {of : Nat → Nat} {cl : Nat → List Nat} {b lg lo lc wg wc ck co cc : Nat}
set_option maxRecDepth 100000 in
set_option maxHeartbeats 1000000 in
theorem rof_int (c : Int) (h : Dv w N n of cl b lg lo lc wg wc ck co cc) (hN : N ≤ 1000000) : Calls Tryz.prog 29 #[.pointer (some ⟨b, 0, none⟩), vI c] w fun e w' => e = .returned (vI (ofI N of c)) ∧ w' = w := by
  have c0 : w.cell? ⟨b, 1, none⟩ = some (.slice (some ⟨wg, 0, none⟩) N wc) := by rw [cell_of0 h.box]; rfl
  rcases nat_or c N with ⟨i, rfl, hi⟩ | ⟨hc, hne⟩ | ⟨hc, hne⟩
  · rw [ofI_in hi]
    have p0 := h.wh i hi
    have hi0 : (0 : Int) ≤ i := by omega
    have hi1 : (i : Int) < N := by omega
    have d1 : decide ((i : Int) < 0) = false := by simp
    have d2 : decide ((i : Int) ≥ N) = false := by simp; omega
    have d3 : decide ((N : Int) ≤ i) = false := by simp; omega
    clear h hi
    go_enter Tryz.func29, Tryz.ntmps29
    go_wp2_with fail
    go_ret
    exact ⟨rfl, rfl⟩
  · rw [ofI_out hne]
    have d1 : decide (c < 0) = true := by simp; exact hc
    clear h hne
    go_enter Tryz.func29, Tryz.ntmps29
    go_wp2_with fail
    go_ret
    exact ⟨rfl, rfl⟩
  · rw [ofI_out hne]
    obtain ⟨hc0, hc1⟩ := hc
    have d1 : decide (c < 0) = false := by simp; exact hc0
    have d2 : decide (c ≥ (N : Int)) = true := by simp; exact hc1
    have d3 : decide ((N : Int) ≤ c) = true := by simp; exact hc1
    clear h hne
    go_enter Tryz.func29, Tryz.ntmps29
    go_wp2_with fail
    go_ret
    exact ⟨rfl, rfl⟩
set_option maxRecDepth 100000 in
set_option maxHeartbeats 1000000 in
theorem rmembers_int (c : Int) (h : Dv w N n of cl b lg lo lc wg wc ck co cc) (hn : n ≤ 1000000) (hN : N ≤ 1000000) :
    Calls Tryz.prog 32 #[.pointer (some ⟨b, 0, none⟩), vI c] w fun e w' => ∃ v', e = .returned v' ∧ IOwn w' w.heap.size v' (lsI n (memX N of) c) ∧ Fr (fun _ => False) w w' := by
  have c1 : w.cell? ⟨b, 0, none⟩ = some (.slice (some ⟨lg, lo, none⟩) n lc) := by rw [cell_of0 h.box]; rfl
  rcases nat_or c n with ⟨i, rfl, hi⟩ | ⟨hc, hne⟩ | ⟨hc, hne⟩
  · rw [lsI_in hi]; exact rmembers_any i h hi hn hN
  · rw [lsI_out hne]
    have d1 : decide (c < 0) = true := by simp; exact hc
    clear h hne
    go_enter Tryz.func32, Tryz.ntmps32
    go_wp2_with fail
    go_ret
    exact ⟨_, rfl, World.ownsRow_nil _ _ _ _, Fr.refl _ _⟩
  · rw [lsI_out hne]
    obtain ⟨hc0, hc1⟩ := hc
    have d1 : decide (c < 0) = false := by simp; exact hc0
    have d2 : decide (c ≥ (n : Int)) = true := by simp; exact hc1
    have d3 : decide ((n : Int) ≤ c) = true := by simp; exact hc1
    clear h hne
    go_enter Tryz.func32, Tryz.ntmps32
    go_wp2_with fail
    go_ret
    exact ⟨_, rfl, World.ownsRow_nil _ _ _ _, Fr.refl _ _⟩
set_option maxRecDepth 100000 in
set_option maxHeartbeats 1000000 in
theorem dcallees_int (c : Int) (h : Dv w N n of cl b lg lo lc wg wc ck co cc) (hcl : ∀ x, x < N → ∀ z ∈ cl x, z < N) (hll : ∀ x, x < N → (ddX (cl x)).length ≤ 1000000000) (hn : n ≤ 1000000) (hN : N ≤ 1000000) :
    Calls Tryz.prog 34 #[.pointer (some ⟨b, 0, none⟩), vI c] w fun e w' => ∃ v', e = .returned v' ∧ IOwn w' w.heap.size v' (lsI n (cleX N n of cl) c) ∧ Fr (fun _ => False) w w' := by
  have c1 : w.cell? ⟨b, 0, none⟩ = some (.slice (some ⟨lg, lo, none⟩) n lc) := by rw [cell_of0 h.box]; rfl
  have main : ¬ (0 ≤ c ∧ c < (n : Int)) → (decide (c ≥ 0) = false ∨ (decide (c ≥ 0) = true ∧ decide (c < (n : Int)) = false)) → Calls Tryz.prog 34 #[.pointer (some ⟨b, 0, none⟩), vI c] w fun e w' => ∃ v', e = .returned v' ∧ IOwn w' w.heap.size v' (lsI n (cleX N n of cl) c) ∧ Fr (fun _ => False) w w' := fun hne hc => by
    rw [lsI_out hne]
    by_cases hn0 : 0 < n
    · have e0 : decide ((0 : Int) < (n : Int)) = true := by simp; omega
      have e1 : decide (0 < n) = true := by simp; omega
      rcases hc with hc | ⟨hc, hc2⟩
      · have hc' : decide (0 ≤ c) = false := hc
        clear h hne hcl hll
        go_enter Tryz.func34, Tryz.ntmps34
        go_wp2_with fail
        go_loopw [5, 6] (fun v5 v6 wx => v5 = .slice none 0 0 ∧ v6 = .int .i64 0 ∧ Hd (wx = w)) (fun _ _ _ => 0)
        case atStart => exact ⟨rfl, rfl, rfl⟩
        case round =>
          obtain ⟨rfl, rfl, HW⟩ := hrel
          have hw := HW.out
          subst hw
          go_wp2_with fail
          go_ret
          exact ⟨_, rfl, World.ownsRow_nil _ _ _ _, Fr.refl _ _⟩
      · have hc' : decide (0 ≤ c) = true := hc
        clear h hne hcl hll
        go_enter Tryz.func34, Tryz.ntmps34
        go_wp2_with fail
        go_loopw [5, 6] (fun v5 v6 wx => v5 = .slice none 0 0 ∧ v6 = .int .i64 0 ∧ Hd (wx = w)) (fun _ _ _ => 0)
        case atStart => exact ⟨rfl, rfl, rfl⟩
        case round =>
          obtain ⟨rfl, rfl, HW⟩ := hrel
          have hw := HW.out
          subst hw
          go_wp2_with fail
          go_ret
          exact ⟨_, rfl, World.ownsRow_nil _ _ _ _, Fr.refl _ _⟩
    · have e0 : decide ((0 : Int) < (n : Int)) = false := by simp; omega
      have e1 : decide (0 < n) = false := by simp; omega
      clear h hne hcl hll hc
      go_enter Tryz.func34, Tryz.ntmps34
      go_wp2_with fail
      go_loopw [5, 6] (fun v5 v6 wx => v5 = .slice none 0 0 ∧ v6 = .int .i64 0 ∧ Hd (wx = w)) (fun _ _ _ => 0)
      case atStart => exact ⟨rfl, rfl, rfl⟩
      case round =>
        obtain ⟨rfl, rfl, HW⟩ := hrel
        have hw := HW.out
        subst hw
        go_wp2_with fail
        go_ret
        exact ⟨_, rfl, World.ownsRow_nil _ _ _ _, Fr.refl _ _⟩
  rcases nat_or c n with ⟨i, rfl, hi⟩ | ⟨hc, hne⟩ | ⟨hc, hne⟩
  · rw [lsI_in hi]; exact dcallees_any i h hi hcl hll hn hN
  · exact main hne (Or.inl (by simp; exact hc))
  · exact main hne (Or.inr ⟨by simp; exact hc.1, by simp; exact hc.2⟩)
set_option maxRecDepth 100000 in
set_option maxHeartbeats 1000000 in
theorem dcallers_int (c : Int) (h : Dv w N n of cl b lg lo lc wg wc ck co cc) (hcl : ∀ x, x < N → ∀ z ∈ cl x, z < N) (hll : ∀ x, x < N → (ddX (cl x)).length ≤ 1000000000) (hn : n ≤ 1000000) (hN : N ≤ 1000000) :
    Calls Tryz.prog 36 #[.pointer (some ⟨b, 0, none⟩), vI c] w fun e w' => ∃ v', e = .returned v' ∧ IOwn w' w.heap.size v' (lsI n (clrX N n of cl) c) ∧ Fr (fun _ => False) w w' := by
  have c1 : w.cell? ⟨b, 0, none⟩ = some (.slice (some ⟨lg, lo, none⟩) n lc) := by rw [cell_of0 h.box]; rfl
  have main : ¬ (0 ≤ c ∧ c < (n : Int)) → (decide (c ≥ 0) = false ∨ (decide (c ≥ 0) = true ∧ decide (c < (n : Int)) = false)) → Calls Tryz.prog 36 #[.pointer (some ⟨b, 0, none⟩), vI c] w fun e w' => ∃ v', e = .returned v' ∧ IOwn w' w.heap.size v' (lsI n (clrX N n of cl) c) ∧ Fr (fun _ => False) w w' := fun hne hc => by
    rw [lsI_out hne]
    by_cases hn0 : 0 < n
    · have e0 : decide ((0 : Int) < (n : Int)) = true := by simp; omega
      have e1 : decide (0 < n) = true := by simp; omega
      rcases hc with hc | ⟨hc, hc2⟩
      · have hc' : decide (0 ≤ c) = false := hc
        clear h hne hcl hll
        go_enter Tryz.func36, Tryz.ntmps36
        go_wp2_with fail
        go_loopw [5, 6] (fun v5 v6 wx => v5 = .slice none 0 0 ∧ v6 = .int .i64 0 ∧ Hd (wx = w)) (fun _ _ _ => 0)
        case atStart => exact ⟨rfl, rfl, rfl⟩
        case round =>
          obtain ⟨rfl, rfl, HW⟩ := hrel
          have hw := HW.out
          subst hw
          go_wp2_with fail
          go_ret
          exact ⟨_, rfl, World.ownsRow_nil _ _ _ _, Fr.refl _ _⟩
      · have hc' : decide (0 ≤ c) = true := hc
        clear h hne hcl hll
        go_enter Tryz.func36, Tryz.ntmps36
        go_wp2_with fail
        go_loopw [5, 6] (fun v5 v6 wx => v5 = .slice none 0 0 ∧ v6 = .int .i64 0 ∧ Hd (wx = w)) (fun _ _ _ => 0)
        case atStart => exact ⟨rfl, rfl, rfl⟩
        case round =>
          obtain ⟨rfl, rfl, HW⟩ := hrel
          have hw := HW.out
          subst hw
          go_wp2_with fail
          go_ret
          exact ⟨_, rfl, World.ownsRow_nil _ _ _ _, Fr.refl _ _⟩
    · have e0 : decide ((0 : Int) < (n : Int)) = false := by simp; omega
      have e1 : decide (0 < n) = false := by simp; omega
      clear h hne hcl hll hc
      go_enter Tryz.func36, Tryz.ntmps36
      go_wp2_with fail
      go_loopw [5, 6] (fun v5 v6 wx => v5 = .slice none 0 0 ∧ v6 = .int .i64 0 ∧ Hd (wx = w)) (fun _ _ _ => 0)
      case atStart => exact ⟨rfl, rfl, rfl⟩
      case round =>
        obtain ⟨rfl, rfl, HW⟩ := hrel
        have hw := HW.out
        subst hw
        go_wp2_with fail
        go_ret
        exact ⟨_, rfl, World.ownsRow_nil _ _ _ _, Fr.refl _ _⟩
  rcases nat_or c n with ⟨i, rfl, hi⟩ | ⟨hc, hne⟩ | ⟨hc, hne⟩
  · rw [lsI_in hi]; exact dcallers_any i h hi hcl hll hn hN
  · exact main hne (Or.inl (by simp; exact hc))
  · exact main hne (Or.inr ⟨by simp; exact hc.1, by simp; exact hc.2⟩)
end
end Go.Proofs.YtjmbfjaahadbhaaGreatDoor
