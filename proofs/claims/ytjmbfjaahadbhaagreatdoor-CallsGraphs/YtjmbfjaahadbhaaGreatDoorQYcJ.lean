import Derived.Test.YtjmbfjaahadbhaaGreatDoorQOmJ
import Derived.Test.YtjmbfjaahadbhaaGreatDoorQHfJ
import Derived.Test.YtjmbfjaahadbhaaGreatDoorQLiJ
import Derived.Test.YtjmbfjaahadbhaaGreatDoorQRaJ
import Derived.Test.YtjmbfjaahadbhaaGreatDoorQGdJ
set_option linter.unusedVariables false
set_option linter.unusedSimpArgs false
namespace Go.Proofs.YtjmbfjaahadbhaaGreatDoor
open Go.RowKit (wrap32 wrap64)

theorem wsm (n : Int) (h : -9223372036854775808 ≤ n ∧ n ≤ 9223372036854775807) : IntKind.i64.wrap n = n := by rw [IntKind.wrap_i64]; omega
theorem lsI_len {n M : Nat} {f : Nat → List Nat} {c : Int} (h : ∀ i, i < n → (f i).length ≤ M) : (lsI n f c).length ≤ M := by
  unfold lsI
  by_cases e : 0 ≤ c ∧ c < (n : Int)
  · rw [if_pos e, List.length_map]; exact h _ (by omega)
  · rw [if_neg e]; exact Nat.zero_le _
/-- What both graphs tell, whatever number is asked. -/
def Ask1 (b bh : Nat) (o : Int) (m e r : List Int) (c : Int) (w : World) : Prop := ∀ W, Fr (fun _ => False) w W →
  Calls Tryz.prog 28 #[.pointer (some ⟨b, 0, none⟩), vI c] W (fun f w' => f = .returned (vI o) ∧ w' = W) ∧
  Calls Tryz.prog 29 #[.pointer (some ⟨bh, 0, none⟩), vI c] W (fun f w' => f = .returned (vI o) ∧ w' = W) ∧
  Calls Tryz.prog 31 #[.pointer (some ⟨b, 0, none⟩), vI c] W (fun f w' => ∃ v', f = .returned v' ∧ IOwn w' W.heap.size v' m ∧ Fr (fun _ => False) W w') ∧
  Calls Tryz.prog 32 #[.pointer (some ⟨bh, 0, none⟩), vI c] W (fun f w' => ∃ v', f = .returned v' ∧ IOwn w' W.heap.size v' m ∧ Fr (fun _ => False) W w') ∧
  Calls Tryz.prog 33 #[.pointer (some ⟨b, 0, none⟩), vI c] W (fun f w' => ∃ v', f = .returned v' ∧ IOwn w' W.heap.size v' e ∧ Fr (fun _ => False) W w') ∧
  Calls Tryz.prog 34 #[.pointer (some ⟨bh, 0, none⟩), vI c] W (fun f w' => ∃ v', f = .returned v' ∧ IOwn w' W.heap.size v' e ∧ Fr (fun _ => False) W w') ∧
  Calls Tryz.prog 35 #[.pointer (some ⟨b, 0, none⟩), vI c] W (fun f w' => ∃ v', f = .returned v' ∧ IOwn w' W.heap.size v' r ∧ Fr (fun _ => False) W w') ∧
  Calls Tryz.prog 36 #[.pointer (some ⟨bh, 0, none⟩), vI c] W (fun f w' => ∃ v', f = .returned v' ∧ IOwn w' W.heap.size v' r ∧ Fr (fun _ => False) W w') ∧
  m.length ≤ 1000000 ∧ e.length ≤ 1000000 ∧ r.length ≤ 1000000
def Ask (b bh : Nat) (o : Int → Int) (m e r : Int → List Int) (w : World) : Prop := ∀ c : Int, Ask1 b bh (o c) (m c) (e c) (r c) c w
theorem ask_of {w : World} {B b go gm ge gr N n : Nat} {mv ev rv : Nat → Value} {of : Nat → Nat} {cl : Nat → List Nat} {bh lg lo lc wg wc ck co cc : Nat} (hg : GA w B b go gm ge gr N n mv ev rv of cl) (h : Dv w N n of cl bh lg lo lc wg wc ck co cc) (hcl : ∀ x, x < N → ∀ z ∈ cl x, z < N) (hll : ∀ x, x < N → (ddX (cl x)).length ≤ 1000000000) (hn : n ≤ 1000000) (hN : N ≤ 1000000) :
    Ask b bh (ofI N of) (lsI n (memX N of)) (lsI n (cleX N n of cl)) (lsI n (clrX N n of cl)) w := fun c W f =>
  ⟨of_int c (hg.stay f) hN, rof_int c (h.stay f) hN, members_int c (hg.stay f) hn hN, rmembers_int c (h.stay f) hn hN, callees_int c (hg.stay f) hn hN, dcallees_int c (h.stay f) hcl hll hn hN, callers_int c (hg.stay f) hn hN, dcallers_int c (h.stay f) hcl hll hn hN,
    lsI_len (fun i _ => by have := (len_le (memX_rise (N := N) (of := of) i) (fun x hx => (mem_memX.1 hx).1)); omega), lsI_len (fun i _ => by have := (len_le (cleX_rise (N := N) (n := n) (of := of) (cl := cl) i) (fun x hx => (mem_cleX.1 hx).1)); omega), lsI_len (fun i _ => by have := (len_le (clrX_rise (N := N) (n := n) (of := of) (cl := cl) i) (fun x hx => (mem_clrX.1 hx).1)); omega)⟩
theorem eqI {w : World} {B B' : Nat} {v v' : Value} {l : List Int} (h : IOwn w B v l) (h' : IOwn w B' v' l) (hl : l.length ≤ 1000000) : Calls Tryz.prog 30 #[v, v'] w fun e w' => e = .returned (.bool true) ∧ Fr (fun _ => False) w w' := eqInts_same v v' l w h.ia h'.ia (by omega)
set_option maxRecDepth 100000 in
set_option maxHeartbeats 8000000 in
theorem likes_any {b bh N n wg wc : Nat} {lv cv : Value} {o : Int → Int} {m e r : Int → List Int} (w : World) (hA : Ask b bh o m e r w)
    (hL1 : ∀ W, Fr (fun _ => False) w W → Calls Tryz.prog 26 #[.pointer (some ⟨b, 0, none⟩)] W fun e w' => e = .returned (vI (n : Int)) ∧ w' = W) (hL2 : ∀ W, Fr (fun _ => False) w W → Calls Tryz.prog 27 #[.pointer (some ⟨bh, 0, none⟩)] W fun e w' => e = .returned (vI (n : Int)) ∧ w' = W)
    (hb : w.heap[bh]? = some (.cells #[lv, .slice (some ⟨wg, 0, none⟩) N wc, cv] 54)) (hN : N ≤ 1000000) (ov : Value) (l : List Int) (ho : IA w ov l) (hl : l.length ≤ 2147483647) :
    Calls Tryz.prog 12 #[.pointer (some ⟨b, 0, none⟩), .pointer (some ⟨bh, 0, none⟩), ov] w fun e w' => e = .returned (.bool true) ∧ Fr (fun _ => False) w w' := by
  obtain ⟨oa, oc, rfl, hoc⟩ := ho
  have HA : Hd (Ask b bh o m e r w) := hA
  have HL1 := hL1 w (Fr.refl _ _)
  have HL2 := hL2 w (Fr.refl _ _)
  have HOC : Hd (∀ (j : Nat) (hj : j < l.length), ∃ k q, oa = some ⟨k, q, none⟩ ∧ ∀ W, Fr (fun _ => False) w W → W.cell? ⟨k, q + j, none⟩ = some (vI l[j])) := fun j hj => by
    obtain ⟨k, q, e, hk, hc⟩ := hoc (fun e => by rw [e] at hj; simp at hj)
    exact ⟨k, q, e, fun W f => (f.cell hk (fun e => e)).trans (hc j hj)⟩
  have c1 : w.cell? ⟨bh, 1, none⟩ = some (.slice (some ⟨wg, 0, none⟩) N wc) := by rw [cell_of0 hb]; rfl
  have HF0 : Hd (Fr (fun _ => False) w w) := Fr.refl _ _
  clear hA hL1 hL2 hb hoc
  go_enter Tryz.func12, Tryz.ntmps12
  go_wp2_with fail
  refine Calls.mono HL1 ?_
  rintro _ w ⟨rfl, rfl⟩
  clear HL1
  go_wp2_with fail
  refine Calls.mono HL2 ?_
  rintro _ w ⟨rfl, rfl⟩
  clear HL2
  have x0 : IntKind.i64.wrap ((N : Int) + (l.length : Int)) = (N : Int) + (l.length : Int) := wsm _ (by omega)
  go_wp2_with fail
  go_loopw [8] (fun v wx => ∃ i : Int, v = .int .i64 i ∧ -1 ≤ i ∧ i ≤ (N : Int) + (l.length : Int) + 1 ∧ Hd (Fr (fun _ => False) w wx)) (fun v _ => match v with | .int _ q => ((N : Int) + (l.length : Int) + 2 - q).toNat | _ => 0)
  case atStart => exact ⟨-1, rfl, by omega, by omega, HF0.out⟩
  case round =>
    clear HF0 c1
    obtain ⟨i, rfl, hi0, hi1, HF⟩ := hrel
    by_cases hlt : i ≤ (N : Int) + (l.length : Int)
    · have d1 : decide (i ≤ (N : Int) + (l.length : Int)) = true := by simp; exact hlt
      have x1 : IntKind.i64.wrap (i + 1) = i + 1 := wsm _ (by omega)
      by_cases hgt : (N : Int) < i
      · have d2 : decide (i > (N : Int)) = true := by simp; exact hgt
        have d3 : decide ((N : Int) < i) = true := by simp; exact hgt
        have x2 : IntKind.i64.wrap (i - (N : Int)) = i - (N : Int) := wsm _ (by omega)
        have x3 : IntKind.i64.wrap (i - (N : Int) - 1) = i - (N : Int) - 1 := wsm _ (by omega)
        obtain ⟨j, hj⟩ : ∃ j : Nat, i - (N : Int) - 1 = (j : Int) := ⟨(i - (N : Int) - 1).toNat, by omega⟩
        have hjl : j < l.length := by omega
        obtain ⟨ok, oq, rfl, hcj⟩ := HOC.out j hjl
        have p0 := hcj wr HF.out
        have j0 : (0 : Int) ≤ j := by omega
        have j1 : (j : Int) < l.length := by omega
        have HB : Hd (i ≤ (N : Int) + (l.length : Int)) := hlt
        generalize l[j] = z at *
        clear hcj hgt hlt
        have HFi : Hd (Fr (fun _ => False) w wr) := HF.out
        clear HF
        go_wp2_with fail
        go_loopw [10] (fun v wx => ∃ t : Nat, v = .int .i64 t ∧ t ≤ 2 ∧ Hd (Fr (fun _ => False) w wx)) (fun v _ => match v with | .int _ q => 2 - q.toNat | _ => 0)
        case atStart => exact ⟨0, by simp, by omega, HFi.out⟩
        case round =>
          clear HFi
          obtain ⟨t, rfl, ht, HF⟩ := hrel
          by_cases hlt2 : t < 2
          · have d5 : decide ((t : Int) < 2) = true := by simp; omega
            have HS : Hd (Ask1 b bh (o z) (m z) (e z) (r z) z w) := HA.out z
            generalize o z = oz at *
            generalize m z = lm at *
            generalize e z = le at *
            generalize r z = lr at *
            have HQ := HS.out wr HF.out
            have HC1 := HQ.1
            have HC2 := HQ.2.1
            have HC3 := HQ.2.2.1
            clear HQ
            go_wp2_with fail
            refine Calls.mono HC1 ?_
            rintro _ wr ⟨rfl, rfl⟩
            clear HC1
            go_wp2_with fail
            refine Calls.mono HC2 ?_
            rintro _ wr ⟨rfl, rfl⟩
            clear HC2
            go_wp2_with fail
            refine Calls.mono HC3 ?_
            rintro _ wa ⟨va, rfl, hoa, hFa⟩
            have HFa : Hd (Fr (fun _ => False) w wa) := HF.out.trans hFa
            have HOa : Hd (IOwn wa wr.heap.size va lm) := hoa
            have HC4 := (HS.out wa HFa.out).2.2.2.1
            have HL := (HS.out wa HFa.out).2.2.2.2.2.2.2.2
            have HLL : Hd (lm.length ≤ 1000000 ∧ le.length ≤ 1000000 ∧ lr.length ≤ 1000000) := HL
            clear HC3 hoa hFa HF HL
            go_wp2_with fail
            refine Calls.mono HC4 ?_
            rintro _ wb ⟨vb, rfl, hob, hFb⟩
            have HFb : Hd (Fr (fun _ => False) w wb) := HFa.out.trans hFb
            have HE1 := eqI (HOa.out.fr hFb (fun _ _ e => e)) hob HLL.out.1
            clear HC4 hob hFb HFa HOa
            go_wp2_with fail
            refine Calls.mono HE1 ?_
            rintro _ wc2 ⟨rfl, hFc⟩
            have HFc : Hd (Fr (fun _ => False) w wc2) := HFb.out.trans hFc
            have HC5 := (HS.out wc2 HFc.out).2.2.2.2.1
            clear HE1 hFc HFb
            go_wp2_with fail
            refine Calls.mono HC5 ?_
            rintro _ wa ⟨va2, rfl, hoa, hFa⟩
            have HFa : Hd (Fr (fun _ => False) w wa) := HFc.out.trans hFa
            have HOa : Hd (IOwn wa wc2.heap.size va2 le) := hoa
            have HC6 := (HS.out wa HFa.out).2.2.2.2.2.1
            clear HC5 hoa hFa HFc
            go_wp2_with fail
            refine Calls.mono HC6 ?_
            rintro _ wb ⟨vb2, rfl, hob, hFb⟩
            have HFb : Hd (Fr (fun _ => False) w wb) := HFa.out.trans hFb
            have HE1 := eqI (HOa.out.fr hFb (fun _ _ e => e)) hob HLL.out.2.1
            clear HC6 hob hFb HFa HOa
            go_wp2_with fail
            refine Calls.mono HE1 ?_
            rintro _ wc3 ⟨rfl, hFc⟩
            have HFc : Hd (Fr (fun _ => False) w wc3) := HFb.out.trans hFc
            have HC7 := (HS.out wc3 HFc.out).2.2.2.2.2.2.1
            clear HE1 hFc HFb
            go_wp2_with fail
            refine Calls.mono HC7 ?_
            rintro _ wa ⟨va3, rfl, hoa, hFa⟩
            have HFa : Hd (Fr (fun _ => False) w wa) := HFc.out.trans hFa
            have HOa : Hd (IOwn wa wc3.heap.size va3 lr) := hoa
            have HC8 := (HS.out wa HFa.out).2.2.2.2.2.2.2.1
            clear HC7 hoa hFa HFc
            go_wp2_with fail
            refine Calls.mono HC8 ?_
            rintro _ wb ⟨vb3, rfl, hob, hFb⟩
            have HFb : Hd (Fr (fun _ => False) w wb) := HFa.out.trans hFb
            have HE1 := eqI (HOa.out.fr hFb (fun _ _ e => e)) hob HLL.out.2.2
            clear HC8 hob hFb HFa HOa
            go_wp2_with fail
            refine Calls.mono HE1 ?_
            rintro _ wc4 ⟨rfl, hFc⟩
            have HFc : Hd (Fr (fun _ => False) w wc4) := HFb.out.trans hFc
            have ht2 : t + 1 ≤ 2 := hlt2
            clear HE1 hFc HFb hlt2
            go_wp2_with fail
            go_roundw
            case measure => simp; omega
            case rel => exact ⟨t + 1, by simp, by omega, HFc.out⟩
          · have d5 : decide ((t : Int) < 2) = false := by simp; omega
            have HE : Hd (Fr (fun _ => False) w wr) := HF.out
            have hib := HB.out
            clear hlt2 HF
            go_wp2_with fail
            go_roundw
            case measure => simp; omega
            case rel => exact ⟨i + 1, rfl, by omega, by omega, HE.out⟩
      · have d2 : decide (i > (N : Int)) = false := by simp; omega
        have d3 : decide ((N : Int) < i) = false := by simp; omega
        have HB : Hd (i ≤ (N : Int) + (l.length : Int)) := hlt
        clear hgt hlt
        have HFi : Hd (Fr (fun _ => False) w wr) := HF.out
        clear HF
        go_wp2_with fail
        go_loopw [10] (fun v wx => ∃ t : Nat, v = .int .i64 t ∧ t ≤ 2 ∧ Hd (Fr (fun _ => False) w wx)) (fun v _ => match v with | .int _ q => 2 - q.toNat | _ => 0)
        case atStart => exact ⟨0, by simp, by omega, HFi.out⟩
        case round =>
          clear HFi
          obtain ⟨t, rfl, ht, HF⟩ := hrel
          by_cases hlt2 : t < 2
          · have d5 : decide ((t : Int) < 2) = true := by simp; omega
            have HS : Hd (Ask1 b bh (o i) (m i) (e i) (r i) i w) := HA.out i
            generalize o i = oz at *
            generalize m i = lm at *
            generalize e i = le at *
            generalize r i = lr at *
            have HQ := HS.out wr HF.out
            have HC1 := HQ.1
            have HC2 := HQ.2.1
            have HC3 := HQ.2.2.1
            clear HQ
            go_wp2_with fail
            refine Calls.mono HC1 ?_
            rintro _ wr ⟨rfl, rfl⟩
            clear HC1
            go_wp2_with fail
            refine Calls.mono HC2 ?_
            rintro _ wr ⟨rfl, rfl⟩
            clear HC2
            go_wp2_with fail
            refine Calls.mono HC3 ?_
            rintro _ wa ⟨va, rfl, hoa, hFa⟩
            have HFa : Hd (Fr (fun _ => False) w wa) := HF.out.trans hFa
            have HOa : Hd (IOwn wa wr.heap.size va lm) := hoa
            have HC4 := (HS.out wa HFa.out).2.2.2.1
            have HL := (HS.out wa HFa.out).2.2.2.2.2.2.2.2
            have HLL : Hd (lm.length ≤ 1000000 ∧ le.length ≤ 1000000 ∧ lr.length ≤ 1000000) := HL
            clear HC3 hoa hFa HF HL
            go_wp2_with fail
            refine Calls.mono HC4 ?_
            rintro _ wb ⟨vb, rfl, hob, hFb⟩
            have HFb : Hd (Fr (fun _ => False) w wb) := HFa.out.trans hFb
            have HE1 := eqI (HOa.out.fr hFb (fun _ _ e => e)) hob HLL.out.1
            clear HC4 hob hFb HFa HOa
            go_wp2_with fail
            refine Calls.mono HE1 ?_
            rintro _ wc2 ⟨rfl, hFc⟩
            have HFc : Hd (Fr (fun _ => False) w wc2) := HFb.out.trans hFc
            have HC5 := (HS.out wc2 HFc.out).2.2.2.2.1
            clear HE1 hFc HFb
            go_wp2_with fail
            refine Calls.mono HC5 ?_
            rintro _ wa ⟨va2, rfl, hoa, hFa⟩
            have HFa : Hd (Fr (fun _ => False) w wa) := HFc.out.trans hFa
            have HOa : Hd (IOwn wa wc2.heap.size va2 le) := hoa
            have HC6 := (HS.out wa HFa.out).2.2.2.2.2.1
            clear HC5 hoa hFa HFc
            go_wp2_with fail
            refine Calls.mono HC6 ?_
            rintro _ wb ⟨vb2, rfl, hob, hFb⟩
            have HFb : Hd (Fr (fun _ => False) w wb) := HFa.out.trans hFb
            have HE1 := eqI (HOa.out.fr hFb (fun _ _ e => e)) hob HLL.out.2.1
            clear HC6 hob hFb HFa HOa
            go_wp2_with fail
            refine Calls.mono HE1 ?_
            rintro _ wc3 ⟨rfl, hFc⟩
            have HFc : Hd (Fr (fun _ => False) w wc3) := HFb.out.trans hFc
            have HC7 := (HS.out wc3 HFc.out).2.2.2.2.2.2.1
            clear HE1 hFc HFb
            go_wp2_with fail
            refine Calls.mono HC7 ?_
            rintro _ wa ⟨va3, rfl, hoa, hFa⟩
            have HFa : Hd (Fr (fun _ => False) w wa) := HFc.out.trans hFa
            have HOa : Hd (IOwn wa wc3.heap.size va3 lr) := hoa
            have HC8 := (HS.out wa HFa.out).2.2.2.2.2.2.2.1
            clear HC7 hoa hFa HFc
            go_wp2_with fail
            refine Calls.mono HC8 ?_
            rintro _ wb ⟨vb3, rfl, hob, hFb⟩
            have HFb : Hd (Fr (fun _ => False) w wb) := HFa.out.trans hFb
            have HE1 := eqI (HOa.out.fr hFb (fun _ _ e => e)) hob HLL.out.2.2
            clear HC8 hob hFb HFa HOa
            go_wp2_with fail
            refine Calls.mono HE1 ?_
            rintro _ wc4 ⟨rfl, hFc⟩
            have HFc : Hd (Fr (fun _ => False) w wc4) := HFb.out.trans hFc
            have ht2 : t + 1 ≤ 2 := hlt2
            clear HE1 hFc HFb hlt2
            go_wp2_with fail
            go_roundw
            case measure => simp; omega
            case rel => exact ⟨t + 1, by simp, by omega, HFc.out⟩
          · have d5 : decide ((t : Int) < 2) = false := by simp; omega
            have HE : Hd (Fr (fun _ => False) w wr) := HF.out
            have hib := HB.out
            clear hlt2 HF
            go_wp2_with fail
            go_roundw
            case measure => simp; omega
            case rel => exact ⟨i + 1, rfl, by omega, by omega, HE.out⟩
    · have d1 : decide (i ≤ (N : Int) + (l.length : Int)) = false := by simp; omega
      have HE : Hd (Fr (fun _ => False) w wr) := HF.out
      clear hlt
      go_wp2_with fail
      go_ret
      exact ⟨rfl, HE.out⟩

/-! ### lists with marks behind them -/
def mks (m : Int) (k : Nat) : List Int := (List.range k).map (fun (i : Nat) => m - (i : Int))
theorem mks_len (m : Int) (k : Nat) : (mks m k).length = k := by simp [mks]
theorem mks_succ (m : Int) (k : Nat) : mks m (k + 1) = mks m k ++ [m - (k : Int)] := by simp [mks, List.range_succ]
theorem mks_get (m : Int) (n k : Nat) (h : k < n) : (mks m n)[k]? = some (m - (k : Int)) := by simp [mks, h]
/-- Numbers of one's own, with 64 marks behind. -/
def SpI (w : World) (B : Nat) (v : Value) (l : List Int) (m : Int) : Prop :=
  ∃ g cap, v = .slice (some ⟨g, 0, none⟩) l.length cap ∧ l.length + 64 ≤ cap ∧ IOwn w B (.slice (some ⟨g, 0, none⟩) (l.length + 64) cap) (l ++ mks m 64)
theorem SpI.fr {S : Nat → Prop} {w w' : World} {B : Nat} {v : Value} {l : List Int} {m : Int} (h : SpI w B v l m) (f : Fr S w w') (hS : ∀ k, v.ownBlock = some k → ¬ S k) : SpI w' B v l m := by
  obtain ⟨g, cap, rfl, hc, h⟩ := h
  exact ⟨g, cap, rfl, hc, h.fr f (fun k e => hS k e)⟩
theorem SpI.stay {w w' : World} {B : Nat} {v : Value} {l : List Int} {m : Int} (h : SpI w B v l m) (f : Fr (fun _ => False) w w') : SpI w' B v l m := h.fr f (fun _ _ e => e)
theorem SpI.mono {w : World} {B B' : Nat} {v : Value} {l : List Int} {m : Int} (h : SpI w B v l m) (hB : B' ≤ B) : SpI w B' v l m := by
  obtain ⟨g, cap, rfl, hc, h⟩ := h
  exact ⟨g, cap, rfl, hc, h.mono hB⟩
theorem SpI.ge {w : World} {B : Nat} {v : Value} {l : List Int} {m : Int} (h : SpI w B v l m) : ∀ k, v.ownBlock = some k → B ≤ k ∧ k < w.heap.size := by
  obtain ⟨g, cap, rfl, hc, h⟩ := h
  exact fun k e => h.ge k e
theorem SpI.cell {w : World} {B : Nat} {v : Value} {l : List Int} {m : Int} {g cap : Nat} (h : IOwn w B (.slice (some ⟨g, 0, none⟩) (l.length + 64) cap) (l ++ mks m 64)) {j : Nat} {z : Int} (hj : (l ++ mks m 64)[j]? = some z) : w.cell? ⟨g, j, none⟩ = some (vI z) := by
  obtain ⟨g', cap', e, -, hc⟩ := own_cell h (j := j) (u := vI z) (by rw [List.getElem?_map, hj]; rfl)
  simp at e
  obtain ⟨e1, -, -⟩ := e
  rw [e1]; exact hc
theorem SpI.ia {w : World} {B : Nat} {v : Value} {l : List Int} {m : Int} (h : SpI w B v l m) : IA w v l := by
  have hg := h.ge
  obtain ⟨g, cap, rfl, hc, h⟩ := h
  refine ⟨_, cap, rfl, fun _ => ⟨g, 0, rfl, (hg g rfl).2, fun j hj => ?_⟩⟩
  rw [Nat.zero_add]
  exact SpI.cell (v := .slice none 0 0) h (by rw [List.getElem?_append_left hj]; exact List.getElem?_eq_getElem hj)

set_option maxRecDepth 100000 in
set_option maxHeartbeats 1000000 in
theorem room_any (v : Value) (l : List Int) (m : Int) (w : World) (hl : IA w v l) (hn : l.length ≤ 3000000000) (hm : -1000 ≤ m) (hm0 : m ≤ 0) :
    Calls Tryz.prog 37 #[v, vI m] w fun e w' => ∃ v', e = .returned v' ∧ SpI w' w.heap.size v' l m ∧ Fr (fun _ => False) w w' := by
  obtain ⟨a, c, rfl, -⟩ := id hl
  obtain ⟨i3, hi3, hz3, hs3, hb3⟩ := info_parts (P := Tryz.prog) (e := 3) (z := .int .i64 0) (size := 1) (bytes := 8) (by kernel_rfl)
  have HL : Hd (IA w (.slice a l.length c) l) := hl
  clear hl
  go_enter Tryz.func37, Tryz.ntmps37
  go_wp2_with fail
  refine (show Calls Tryz.prog 58 #[.slice a l.length c] w _ from copyInts_any _ l w HL.out (by omega)).mono ?_
  rintro e w1 ⟨v1, rfl, hv1, hF1⟩
  have HV : Hd (IOwn w1 w.heap.size v1 (l ++ mks m 0)) := by unfold Hd; simpa [mks] using hv1
  have HF : Hd (Fr (fun _ => False) w w1) := hF1
  clear hv1 hF1
  go_wp2_with fail
  go_loopw [5, 6] (fun mv v wr => ∃ (k : Nat), v = .int .i64 k ∧ k ≤ 64 ∧ Hd (IOwn wr w.heap.size mv (l ++ mks m k)) ∧ Hd (Fr (fun _ => False) w wr)) (fun _ v _ => match v with | .int _ q => 64 - q.toNat | _ => 0)
  case atStart => exact ⟨0, rfl, by omega, HV.out, HF.out⟩
  case round =>
    clear HV HF
    obtain ⟨k, rfl, hk, HO, HF⟩ := hrel
    by_cases hlt : k < 64
    · have hk0 : (0 : Int) ≤ k := by omega
      have hk1 : (k : Int) < 64 := by omega
      have hsz := HF.out.size
      have hw : IntKind.i64.wrap (m - (k : Int)) = m - (k : Int) := by simp [IntKind.wrap, IntKind.bits, IntKind.signed]; omega
      have HO1 : Hd ((wr.alloc (.cells #[vI (m - (k : Int))] 3)).ownsRow w.heap.size 3 1 u5 (l ++ mks m k).length ((l ++ mks m k).map vI)) := World.ownsRow.alloc HO.out _
      have hnews : ∀ j u, [vI (m - (k : Int))][j]? = some u → (wr.alloc (.cells #[vI (m - (k : Int))] 3)).cell? ((⟨wr.heap.size, 0, none⟩ : Addr).add j) = some u :=
        World.news_of_block (cs := #[vI (m - (k : Int))]) (heap_new wr (.cells #[vI (m - (k : Int))] 3))
      have hbase : w.heap.size ≤ (wr.alloc (.cells #[vI (m - (k : Int))] 3)).heap.size := by simp; omega
      have hEl : (l ++ mks m k).length + 1 ≤ 3000000065 := by rw [List.length_append, mks_len]; omega
      obtain ⟨E, hE⟩ : ∃ E, E = l ++ mks m k := ⟨_, rfl⟩
      have HE : Hd (E ++ [m - (k : Int)] = l ++ mks m (k + 1)) := by unfold Hd; rw [hE, mks_succ, List.append_assoc]
      rw [← hE] at HO1 hEl HO
      clear hE
      go_wp2_with ((at_builtin; refine Hd.out ?_))
      unfold Hd
      refine wpList_append_lies _ rfl (.tmp 13) (.tmp 17) 25 rfl w.heap.size 3 i3 (.int .i64 0) 1 8 under64 hi3 hz3 hs3 hb3 rfl (by omega) u5 E.length _ rfl HO1.out ⟨wr.heap.size, 0, none⟩ 1 1 [vI (m - (k : Int))] rfl rfl hnews (by intro u hu; simp at hu; subst hu; rfl) (by omega) (by unfold maxLen; omega) (by omega) hbase (wr.heap.size + 1) (by simp) ?_
      intro g6 cap6 w6 hown6 hgrow6 hat6 hlt6
      have HO6 : Hd (IOwn w6 w.heap.size (.slice (some ⟨g6, 0, none⟩) (E.length + 1) cap6) (E ++ [m - (k : Int)])) := by unfold Hd IOwn; rw [List.map_append, List.length_append]; exact hown6
      have HF6 : Hd (Fr (fun _ => False) w w6) := grow_fr0 (HF.out.alloc _) hgrow6 (fun k hk => (HO.out.ge k hk).1)
      clear hown6 hgrow6 hat6 hlt6 HO HF HO1 hnews hbase
      go_wp2_with fail
      refine ⟨⟨k + 1, by simp, by omega, ?_, HF6.out⟩, by simp; omega⟩
      unfold Hd; rw [← HE.out]; exact HO6.out
    · have hke : k = 64 := by omega
      subst hke
      obtain ⟨g, cap, rfl, hcap⟩ : ∃ g cap, u5 = .slice (some ⟨g, 0, none⟩) (l.length + 64) cap ∧ l.length + 64 ≤ cap := by
        rcases HO.out.2 with ⟨-, h3⟩ | ⟨g, cap, cur, e, -, -, h5, -⟩
        · rw [List.length_append, mks_len] at h3; omega
        · rw [List.length_append, mks_len] at e h5; exact ⟨g, cap, e, h5⟩
      have HE : Hd (SpI wr w.heap.size (.slice (some ⟨g, 0, none⟩) l.length cap) l m) := ⟨g, cap, rfl, hcap, HO.out⟩
      have hn0 : (0 : Int) ≤ l.length := by omega
      have hn1 : (l.length : Int) ≤ cap := by omega
      go_wp2_with fail
      go_ret
      exact ⟨_, rfl, HE.out, HF.out⟩

set_option maxRecDepth 100000 in
set_option maxHeartbeats 1000000 in
theorem kept_any (v : Value) (l : List Int) (m : Int) (B : Nat) (w : World) (h : SpI w B v l m) (hn : l.length ≤ 3000000000) (hm : -1000 ≤ m) (hm0 : m ≤ 0) :
    Calls Tryz.prog 55 #[v, vI m] w fun e w' => e = .returned (.bool true) ∧ w' = w := by
  obtain ⟨g, cap, rfl, hcap, ho⟩ := h
  have HO : Hd (IOwn w B (.slice (some ⟨g, 0, none⟩) (l.length + 64) cap) (l ++ mks m 64)) := ho
  clear ho
  have hcl : ∀ k, k < 64 → w.cell? ⟨g, l.length + k, none⟩ = some (vI (m - (k : Int))) := fun k hk =>
    SpI.cell (v := .slice none 0 0) HO.out (by rw [List.getElem?_append_right (by omega), Nat.add_sub_cancel_left]; exact mks_get m 64 k hk)
  have HC : Hd _ := hcl
  clear hcl
  obtain ⟨n, hnl⟩ : ∃ n, n = l.length := ⟨_, rfl⟩
  rw [← hnl] at hn hcap HC ⊢
  clear hnl HO
  have hn0 : (0 : Int) ≤ (n : Int) + 64 := by omega
  have hn1 : (n : Int) + 64 ≤ cap := by omega
  have ht : ((n : Int) + 64).toNat = n + 64 := by omega
  go_enter Tryz.func55, Tryz.ntmps55
  go_wp2_with fail
  go_loopw [6] (fun v wr => ∃ (k : Nat), v = .int .i64 k ∧ k ≤ 64 ∧ wr = w) (fun v _ => match v with | .int _ q => 64 - q.toNat | _ => 0)
  case atStart => exact ⟨0, rfl, by omega, rfl⟩
  case round =>
    obtain ⟨k, rfl, hk, rfl⟩ := hrel
    by_cases hlt : k < 64
    · have hk0 : (0 : Int) ≤ (n : Int) + k := by omega
      have hk1 : (k : Int) < 64 := by omega
      have hk3 : (n : Int) + k < ((n + 64 : Nat) : Int) := by omega
      have ht2 : ((n : Int) + k).toNat = n + k := by omega
      have p0 := HC.out k hlt
      have hw : IntKind.i64.wrap (m - (k : Int)) = m - (k : Int) := by simp [IntKind.wrap, IntKind.bits, IntKind.signed]; omega
      go_wp2_with fail
      exact ⟨⟨k + 1, by simp, by omega, by trivial⟩, by simp; omega⟩
    · have hke : k = 64 := by omega
      subst hke
      go_wp2_with fail
      go_ret
      exact ⟨rfl, rfl⟩

end Go.Proofs.YtjmbfjaahadbhaaGreatDoor
