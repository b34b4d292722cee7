import Derived.Test.YtihicdbplmdjiaaQC3
namespace Go.Proofs.Ytihicdbplmdjiaa
open Go.RowKit (wrap32 wrap64)
set_option linter.unusedVariables false
set_option linter.unusedSimpArgs false

theorem waits_any (lv : Value) (mb : Nat) (cs : List Cl) (w : World) (h : CAt w lv cs) (hl : cs.length ≤ 64) :
    Calls Try.prog 42 #[pV lv mb] w fun e w' => ∃ v, e = .returned v ∧ RowAt w' v ((waitsX cs).map vS) ∧ Fr (fun _ => False) w w' :=
  callsIn_wide.1 (waits_in 6 (by omega) lv mb cs w h hl)
theorem waitsX_lt (cs : List Cl) : ∀ x ∈ waitsX cs, x < 18446744073709551616 := fun x hx => by
  obtain ⟨i, -, rfl⟩ := List.mem_map.1 hx
  exact setOf_lt _
theorem waitsX_len (cs : List Cl) : (waitsX cs).length = cs.length := by simp [waitsX]

/-! ### the order: again and again the least call that waits for none that is left -/
inductive Ord (ws : List Nat) : Nat → List Nat → Option (List Nat) → Prop
  | done (acc : List Nat) : Ord ws 0 acc (some acc)
  | stuck (left : Nat) (acc : List Nat) : left ≠ 0 → leastX left ws = none → Ord ws left acc none
  | step (left i : Nat) (acc : List Nat) (r : Option (List Nat)) : left ≠ 0 → leastX left ws = some i → Ord ws (dropS left i) (acc ++ [i]) r → Ord ws left acc r
theorem leastX_bit {s i : Nat} {ws : List Nat} (h : leastX s ws = some i) : s.testBit i = true ∧ i < ws.length := by
  unfold leastX at h
  have h1 := List.find?_some h
  have h2 := List.mem_of_find?_eq_some h
  unfold freeB at h1
  simp only [Bool.and_eq_true] at h1
  exact ⟨h1.1, List.mem_range.1 h2⟩
theorem dropS_less {s i : Nat} (hs : s < 18446744073709551616) (hi : i < 64) (hb : s.testBit i = true) : dropS s i < s := by
  rcases Nat.lt_or_ge (dropS s i) s with h | h
  · exact h
  · have e : dropS s i = s := Nat.le_antisymm Nat.and_le_left h
    have := dropS_bit (s := s) (i := i) i hs hi
    rw [e, hb] at this
    simp at this
theorem und25 : Try.prog.underlying 25 = some (.slice 3) := by kernel_rfl
theorem info3 : (Try.prog.info? 3).map (fun i => (i.zero, i.size, i.bytes)) = some (some (vI 0), 1, 8) := by kernel_rfl
theorem make25 (m : Nat) (hm : m ≤ 64) (W : World) : ∃ w', (Instr.makeSlice 25 (vI 0) (vI m)).run Try.prog W = .ok (.slice (some ⟨W.heap.size, 0, none⟩) 0 m) w' ∧ w' = W.alloc (.cells (madeCells #[vI 0] m) 3) := by
  obtain ⟨i, hi, hz, hs, hb⟩ := Go.Proofs.Ytihicdbplmdjiaa.info_parts info3
  have := Go.run_make (P := Try.prog) W 25 3 i (vI 0) und25 hi hz .i64 .i64 0 m (by omega) (by omega) (by rw [hb]; omega) (by omega)
  refine ⟨_, this, ?_⟩
  rw [hs, show (m : Int).toNat * 1 = m by omega]
  rfl
/-- How many of the first n are in a set. -/
def pc (s : Nat) : Nat → Nat
  | 0 => 0
  | n + 1 => pc s n + if s.testBit n then 1 else 0
theorem pc_drop {s i : Nat} (hs : s < 18446744073709551616) (hi : i < 64) (hb : s.testBit i = true) : ∀ n, pc (dropS s i) n + (if i < n then 1 else 0) = pc s n
  | 0 => by simp [pc]
  | n + 1 => by
    have ih := pc_drop hs hi hb n
    show pc (dropS s i) n + (if (dropS s i).testBit n = true then 1 else 0) + (if i < n + 1 then 1 else 0) = pc s n + (if s.testBit n = true then 1 else 0)
    rw [dropS_bit n hs hi]
    by_cases e : n = i
    · subst e
      rw [if_neg (show ¬ n < n by omega)] at ih
      rw [if_neg (by simp), if_pos (by omega), if_pos hb]
      omega
    · have e2 : (s.testBit n && !decide (n = i)) = s.testBit n := by simp [e]
      rw [e2]
      by_cases h : i < n
      · rw [if_pos h] at ih
        rw [if_pos (show i < n + 1 by omega)]
        omega
      · rw [if_neg h] at ih
        rw [if_neg (show ¬ i < n + 1 by omega)]
        omega
theorem pc_firsts (n : Nat) : ∀ k, k ≤ n → pc (2 ^ n - 1) k = k
  | 0, _ => rfl
  | k + 1, h => by
    show pc (2 ^ n - 1) k + (if (2 ^ n - 1).testBit k = true then 1 else 0) = k + 1
    rw [pc_firsts n k (by omega), firsts_bit, if_pos (decide_eq_true (by omega))]
/-- What order tells. -/
def OrdE (f : Mk) (cs : List Cl) (w w' : World) (lv : Value) (ok : Bool) : Prop :=
  ((possibleB f cs = false ∨ Ord (waitsX cs) (2 ^ cs.length - 1) [] none) ∧ lv = .slice none 0 0 ∧ ok = false) ∨
  ∃ acc, possibleB f cs = true ∧ Ord (waitsX cs) (2 ^ cs.length - 1) [] (some acc) ∧ ok = true ∧ w'.ownsRow w.heap.size 3 1 lv acc.length (acc.map (fun i => vI ((cs[i]?.map Cl.b).getD 0 : Nat)))
def OrdR (f : Mk) (cs : List Cl) (w : World) (e : Ending) (w' : World) : Prop := ∃ lv ok, e = .returned (.tuple #[lv, .bool ok]) ∧ Fr (fun _ => False) w w' ∧ OrdE f cs w w' lv ok

set_option maxRecDepth 100000 in
set_option maxHeartbeats 4000000 in
theorem order_any (lv : Value) (mb N : Nat) (cs : List Cl) (f : Mk) (w : World) (h : PAt w lv mb N cs f) (hl : cs.length ≤ 64) :
    Calls Try.prog 25 #[pV lv mb] w fun e w' => OrdR f cs w e w' := by
  have HP : Hd (∀ W, Fr (fun _ => False) w W → Calls Try.prog 41 #[pV lv mb] W fun e w' => e = .returned (.bool (possibleB f cs)) ∧ Fr (fun _ => False) W w') := fun W x => possible_any lv mb N cs f W (h.fr x) hl
  have HWt : Hd (∀ W, Fr (fun _ => False) w W → Calls Try.prog 42 #[pV lv mb] W fun e w' => ∃ v, e = .returned v ∧ RowAt w' v ((waitsX cs).map vS) ∧ Fr (fun _ => False) W w') := fun W x => waits_any lv mb cs W (h.cat.fr x) hl
  have HL : Hd (∀ (k : Nat) (hk : k < cs.length), ∃ g cap, lv = .slice (some ⟨g, 0, none⟩) cs.length cap ∧ cs[k].R.At w ∧ COk cs[k] ∧ ∀ W, Fr (fun _ => False) w W → ∀ j, j < 9 → W.cell? ⟨g, k * 9 + j, none⟩ = (c9 cs[k])[j]?) := fun k hk => h.cat.look k hk
  obtain ⟨ad, cap, rfl, -⟩ := h.cat
  unfold pV at *
  obtain ⟨n, en⟩ : ∃ n, n = cs.length := ⟨_, rfl⟩
  have EN : Hd (n = cs.length) := en
  rw [← en] at HP HWt hl ⊢
  obtain ⟨A, hA⟩ : ∃ A, A = possibleB f cs := ⟨_, rfl⟩
  have EA : Hd (A = possibleB f cs) := hA
  rw [← hA] at HP
  have HF : Hd (Fr (fun _ => False) w (w.alloc (.cells #[.slice ad n cap, .map (some mb)] 54))) := (Fr.refl _ w).alloc _
  have b1 := heap_alloc_last w (.cells #[.slice ad n cap, .map (some mb)] 54)
  obtain ⟨W, eW⟩ : ∃ W, W = (w.alloc (.cells #[.slice ad n cap, .map (some mb)] 54)) := ⟨_, rfl⟩
  rw [← eW] at HF b1
  clear h hA en
  go_enter Try.func25, Try.ntmps25
  go_upto_region 1 with fail
  rw [← eW]
  clear eW
  obtain ⟨bb, ebb⟩ : ∃ bb, bb = w.heap.size := ⟨_, rfl⟩
  rw [← ebb] at b1 ⊢
  have EBB : Hd (bb = w.heap.size ∧ bb < W.heap.size) := ⟨ebb, heap_lt b1⟩
  have HBX : Hd (∀ W2, Fr (fun _ => False) W W2 → W2.cell? ⟨bb, 0, none⟩ = some (.slice ad n cap) ∧ W2.cell? ⟨bb, 1, none⟩ = some (.map (some mb))) := fun W2 f => by
    have e1 := (f.block _ (heap_lt b1) (fun e => e)).trans b1
    exact ⟨cell_of e1 0, cell_of e1 1⟩
  obtain ⟨p0, p1⟩ := HBX.out W (Fr.refl _ W)
  clear ebb b1
  cases A
  · go_wp2_with (go_at_call 41; refine (HP.out _ HF.out).mono ?_; rintro _ w3 ⟨rfl, hf3⟩; have HF3 : Hd _ := hf3; clear hf3)
    go_ret2
    exact ⟨_, _, rfl, HF.out.trans HF3.out, Or.inl ⟨Or.inl EA.out.symm, rfl, rfl⟩⟩
  · go_upto_region 3 with (go_at_call 41; refine (HP.out _ HF.out).mono ?_; rintro _ w3 ⟨rfl, hf3⟩; have HF3 : Hd (Fr _ _ _) := hf3; clear hf3)
    clear p0 p1
    obtain ⟨p0, p1⟩ := HBX.out w3 HF3.out
    go_upto_region 4 with (go_at_call 42; refine (HWt.out _ (HF.out.trans HF3.out)).mono ?_; rintro _ w4 ⟨wv, rfl, hrow, hf4⟩; have HF4 : Hd (Fr _ _ _) := HF3.out.trans hf4; have HROW : Hd (RowAt w4 wv _) := hrow; clear hf4 hrow)
    clear p0 p1
    obtain ⟨p0, p1⟩ := HBX.out w4 HF4.out
    obtain ⟨w5, hmk, ew5⟩ := make25 n hl w4
    have HF5 : Hd (Fr (fun _ => False) w4 w5) := by rw [ew5]; exact (Fr.refl _ _).alloc _
    have HO5 : Hd (w5.ownsRow w4.heap.size 3 1 (.slice (some ⟨w4.heap.size, 0, none⟩) 0 n) 0 []) := by
      refine ⟨rfl, Or.inr ⟨w4.heap.size, n, madeCells #[vI 0] n, rfl, Nat.le_refl _, by rw [ew5]; exact heap_alloc_last _ _, Nat.zero_le _, by unfold maxLen; omega, by simp [Go.size_madeCells], by simp⟩⟩
    obtain ⟨ov, eov⟩ : ∃ ov, ov = Value.slice (some ⟨w4.heap.size, 0, none⟩) 0 n := ⟨_, rfl⟩
    rw [← eov] at hmk HO5
    clear ew5 eov
    go_upto_region 5 with fail
    clear hmk p0 p1
    obtain ⟨p0, p1⟩ := HBX.out w5 (HF4.out.trans HF5.out)
    have hfirst := firsts_any n w5 hl
    go_upto_region 6 with (go_at_call 43; refine hfirst.mono ?_; rintro _ w6 ⟨rfl, rfl⟩)
    clear hfirst p0 p1
    obtain ⟨M, eM⟩ : ∃ M, M = 2 ^ n - 1 := ⟨_, rfl⟩
    have HM : Hd (M = 2 ^ n - 1 ∧ M < 18446744073709551616) := ⟨eM, by rw [eM]; exact firsts_lt hl⟩
    have HM2 : Hd (pc M n = n ∧ ∀ j, M.testBit j = true → j < n) := ⟨by rw [eM]; exact pc_firsts n n (Nat.le_refl _), fun j hj => by rw [eM, firsts_bit] at hj; simpa using hj⟩
    rw [← eM]
    clear eM
    have HWL : Hd ((waitsX cs).length = n ∧ ∀ x ∈ waitsX cs, x < 18446744073709551616) := ⟨by rw [waitsX_len]; exact EN.out.symm, waitsX_lt cs⟩
    go_loopw [5, 6] (fun v5 v6 wr => ∃ (left : Nat) (acc : List Nat), v6 = vS left ∧ Hd (left < 18446744073709551616 ∧ (∀ j, left.testBit j = true → j < n) ∧ acc.length + pc left n = n ∧ wr.ownsRow w4.heap.size 3 1 v5 acc.length (acc.map (fun i => vI ((cs[i]?.map Cl.b).getD 0 : Nat))) ∧ Fr (fun _ => False) w4 wr ∧ ∀ r, Ord (waitsX cs) left acc r → Ord (waitsX cs) M [] r)) (fun _ v _ => match v with | .int _ q => q.toNat | _ => 0)
    case atStart => exact ⟨M, [], rfl, HM.out.2, HM2.out.2, by rw [List.length_nil, HM2.out.1, Nat.zero_add], HO5.out, HF5.out, fun r h => h⟩
    case round =>
      clear HO5 HF5
      obtain ⟨left, acc, rfl, HR⟩ := hrel
      obtain ⟨p0, p1⟩ := HBX.out wr (HF4.out.trans HR.out.2.2.2.2.1)
      by_cases h0 : left = 0
      · subst h0
        go_wp2_with fail
        go_ret2
        refine ⟨_, _, rfl, (HF.out.trans HF4.out).trans HR.out.2.2.2.2.1, Or.inr ⟨acc, EA.out.symm, ?_, rfl, ?_⟩⟩
        · rw [← EN.out, ← HM.out.1]
          exact HR.out.2.2.2.2.2 _ (Ord.done acc)
        · obtain ⟨q0, q1⟩ := HR.out.2.2.2.1
          have := (HF.out.trans HF4.out).size
          refine ⟨q0, ?_⟩
          rcases q1 with q1 | ⟨g', cap', cur, e1, k1, k2⟩
          · exact Or.inl q1
          · exact Or.inr ⟨g', cap', cur, e1, by omega, k2⟩
      · have h0i : ((left : Int) != 0) = true := by simpa using h0
        have h0j : ¬ (left : Int) = 0 := by omega
        have hlf : Calls Try.prog 44 #[vS left, wv] wr fun e w' => e = .returned (vI (leastI left (waitsX cs))) ∧ Fr (fun _ => False) wr w' :=
          leastFree_any left wv (waitsX cs) wr (HROW.out.fr HR.out.2.2.2.2.1 (fun _ _ _ e => e)) HR.out.1 HWL.out.2 (by rw [HWL.out.1]; exact hl)
        unfold leastI at hlf
        cases hlx : leastX left (waitsX cs) with
        | none =>
          rw [hlx] at hlf
          have HLX : Hd (leastX left (waitsX cs) = none) := hlx
          have HC : Hd (Calls Try.prog 44 #[vS left, wv] wr fun e w' => e = .returned (vI (-1)) ∧ Fr (fun _ => False) wr w') := hlf
          clear hlx hlf
          go_wp2_with (go_at_call 44; refine HC.out.mono ?_; rintro _ w7 ⟨rfl, hf7⟩; have HF7 : Hd _ := hf7; clear hf7)
          go_ret2
          refine ⟨_, _, rfl, ((HF.out.trans HF4.out).trans HR.out.2.2.2.2.1).trans HF7.out, Or.inl ⟨Or.inr ?_, rfl, rfl⟩⟩
          rw [← EN.out, ← HM.out.1]
          exact HR.out.2.2.2.2.2 _ (Ord.stuck left acc h0 HLX.out)
        | some i =>
          rw [hlx] at hlf
          have HLX : Hd (leastX left (waitsX cs) = some i) := hlx
          have HC : Hd (Calls Try.prog 44 #[vS left, wv] wr fun e w' => e = .returned (vI (i : Int)) ∧ Fr (fun _ => False) wr w') := hlf
          have hi : i < n := by have := (leastX_bit hlx).2; rw [HWL.out.1] at this; exact this
          have HI : Hd (left.testBit i = true ∧ i < n) := ⟨(leastX_bit hlx).1, hi⟩
          clear hlx hlf
          have hi0 : (0 : Int) ≤ i := by omega
          have hi1 : (i : Int) < n := by omega
          have hne : ¬ (i : Int) = -1 := by omega
          have hne2 : ((i : Int) == -1) = false := by simp
          have hic : i < cs.length := by rw [← EN.out]; exact hi
          obtain ⟨g, cap2, e, -, -, hcell⟩ := HL.out i hic
          obtain ⟨rfl, rfl⟩ : ad = some ⟨g, 0, none⟩ ∧ cap = cap2 := by injection e with a b c; exact ⟨a, c⟩
          clear e
          obtain ⟨bg, ebg⟩ : ∃ bg, bg = cs[i].b := ⟨_, rfl⟩
          have HBG : Hd ((cs[i]?.map Cl.b).getD 0 = bg) := by
            show (cs[i]?.map Cl.b).getD 0 = bg
            rw [List.getElem?_eq_getElem hic, ebg]
            try rfl
          have HCX : Hd (∀ W, Fr (fun _ => False) w W → W.cell? ⟨g, i * 9, none⟩ = some (vI bg)) := fun W f => by
            have := hcell W f 0 (by omega)
            unfold c9 at this
            rw [ebg]
            exact this
          clear hcell ebg hic
          go_upto_region 10 with (go_at_call 44; refine HC.out.mono ?_; rintro _ w7 ⟨rfl, hf7⟩; have HF7 : Hd (Fr _ _ _) := hf7; clear hf7)
          have hwo := without_any left i w7 HR.out.1 (by omega)
          go_upto_region 11 with (go_at_call 45; refine hwo.mono ?_; rintro _ w8 ⟨rfl, rfl⟩)
          clear hwo p0 p1 HC
          have HF8 : Hd (Fr (fun _ => False) w4 w8) := HR.out.2.2.2.2.1.trans HF7.out
          obtain ⟨p0, p1⟩ := HBX.out w8 (HF4.out.trans HF8.out)
          have x0 := HCX.out w8 ((HF.out.trans HF4.out).trans HF8.out)
          have HOW : Hd (w8.ownsRow w4.heap.size 3 1 u5 acc.length (acc.map (fun i => vI ((cs[i]?.map Cl.b).getD 0 : Nat)))) := ownsRow_fr HR.out.2.2.2.1 HF7.out (fun _ _ e => e)
          have hal : acc.length ≤ n := by have := HR.out.2.2.1; omega
          obtain ⟨g6, cap6, w9, hr9, hown9, hf9, -⟩ := app1 und25 info3 rfl (by omega) HOW.out #[vI bg] rfl (by intro u hu; simp at hu; subst hu; rfl) (by unfold maxLen; omega) (by omega) HF8.out.size
          have HA : Hd ((Builtin.append_ #[25, 25] 25 #[u5, .slice (some ⟨w8.heap.size, 0, none⟩) 1 1]).run Try.prog (w8.alloc (.cells #[vI bg] 3)) = .ok (.slice (some ⟨g6, 0, none⟩) (acc.length + 1) cap6) w9) := hr9
          have HE : Hd (w9.ownsRow w4.heap.size 3 1 (.slice (some ⟨g6, 0, none⟩) (acc.length + 1) cap6) (acc ++ [i]).length ((acc ++ [i]).map (fun i => vI ((cs[i]?.map Cl.b).getD 0 : Nat))) ∧ Fr (fun _ => False) w4 w9) := by
            refine ⟨?_, HF8.out.under hf9 (fun j hj => (World.ownsRow.lt HOW.out j hj).1)⟩
            rw [List.length_append, List.map_append, List.map_singleton, HBG.out]
            exact hown9
          have HD2 : Hd (dropS left i < left ∧ dropS left i < 18446744073709551616 ∧ pc (dropS left i) n + 1 = pc left n) := by
            refine ⟨dropS_less HR.out.1 (by omega) HI.out.1, dropS_lt i HR.out.1, ?_⟩
            have := pc_drop HR.out.1 (i := i) (by omega) HI.out.1 n
            rw [if_pos hi] at this
            exact this
          clear hr9 hown9 hf9 hal
          go_wp2_with (at_builtin; refine wpList_append_run rfl (.tmp 31) (.tmp 38) 25 rfl _ _ _ rfl rfl HA.out ?_)
          refine ⟨⟨dropS left i, acc ++ [i], rfl, HD2.out.2.1, fun j hj => ?_, ?_, HE.out.1, HE.out.2, fun r hr => ?_⟩, ?_⟩
          · rw [dropS_bit j HR.out.1 (by omega)] at hj
            simp only [Bool.and_eq_true] at hj
            exact HR.out.2.1 j hj.1
          · have := HR.out.2.2.1
            have := HD2.out.2.2
            rw [List.length_append]
            simp
            omega
          · exact HR.out.2.2.2.2.2 r (Ord.step left i acc r h0 HLX.out hr)
          · have := HD2.out.1
            simp
            omega
end Go.Proofs.Ytihicdbplmdjiaa

namespace Go.Proofs.Ytihicdbplmdjiaa
open Go.RowKit (wrap32 wrap64)
set_option linter.unusedVariables false
set_option linter.unusedSimpArgs false

theorem made_mem (q : Int) (c : Cl) : ∀ (cs : List Cl) (f : Mk), cs.foldl (fun f c => if makesB c then (fun q => if q = c.ky then some c else f q) else f) f q = some c → c ∈ cs ∨ f q = some c
  | [], f, h => Or.inr h
  | a :: cs, f, h => by
    rw [List.foldl_cons] at h
    rcases made_mem q c cs _ h with h1 | h1
    · exact Or.inl (List.mem_cons_of_mem _ h1)
    · by_cases hm : makesB a = true
      · rw [if_pos hm] at h1
        by_cases hq : q = a.ky
        · simp only [hq, if_true, Option.some.injEq] at h1
          exact Or.inl (by rw [h1]; exact List.mem_cons_self)
        · simp only [if_neg hq] at h1
          exact Or.inr h1
      · rw [if_neg hm] at h1
        exact Or.inr h1
theorem madeX_mem {cs : List Cl} {q : Int} {c : Cl} (h : madeX cs q = some c) : c ∈ cs := by
  rcases made_mem q c cs _ h with h | h
  · exact h
  · cases h
/-- What Order tells. -/
def OrderE (h : List Mo) (w w' : World) (lv : Value) (ok : Bool) (er : Int) : Prop :=
  (callsX h = none ∧ lv = .slice none 0 0 ∧ ok = false ∧ er = 230) ∨ ∃ cs, callsX h = some cs ∧ er = 0 ∧ OrdE (madeX cs) cs w w' lv ok
def OrderR (h : List Mo) (w : World) (e : Ending) (w' : World) : Prop := ∃ lv ok er, e = .returned (.tuple #[lv, .bool ok, vI er]) ∧ Fr (fun _ => False) w w' ∧ OrderE h w w' lv ok er

set_option maxHeartbeats 2000000 in
theorem order8_any (hv : Value) (h : List Mo) (w : World) (hh : HAt2 w hv h) : Calls Try.prog 8 #[hv] w fun e w' => OrderR h w e w' := by
  have hc := callsOf_any hv h w hh.1
  have HM : Hd (∀ m ∈ h, MOk m) := hh.2
  clear hh
  go_enter Try.func8, Try.ntmps8
  go_upto_region 2 with (go_at_call 23; refine hc.mono ?_; rintro _ w3 ⟨lv, ok, rfl, hf3, hE⟩; have HF3 : Hd (Fr _ _ _) := hf3; have HE : Hd (CsE _ _ _ _ _) := hE; clear hf3 hE)
  cases ok
  · go_wp2_with fail
    go_ret3
    refine ⟨_, _, _, rfl, HF3.out, Or.inl ⟨?_, rfl, rfl, rfl⟩⟩
    rcases HE.out with ⟨e, -⟩ | ⟨cs, -, e, -⟩
    · exact e
    · cases e
  · obtain ⟨cs, ecs, hown, hat⟩ : ∃ cs, callsX h = some cs ∧ COwn w3 w.heap.size lv cs ∧ ∀ c ∈ cs, c.R.At w := by
      rcases HE.out with ⟨-, e⟩ | ⟨cs, e, -, h1, h2⟩
      · cases e
      · exact ⟨cs, e, h1, h2⟩
    obtain ⟨hfine, hlen⟩ := calls_fine HM.out ecs
    have hcat : CAt w3 lv cs := hown.cat (fun c hc => ⟨(hat c hc).fr HF3.out, hfine c hc⟩)
    have hp := pastOf_any lv cs w3 hcat hlen
    have HCS : Hd (callsX h = some cs) := ecs
    have HO : Hd (∀ w4 mb N, Fr (fun _ => False) w3 w4 → MdM w4 mb N (madeX cs) → Calls Try.prog 25 #[.agg #[lv, .map (some mb)]] w4 fun e w' => OrdR (madeX cs) cs w4 e w') := fun w4 mb N f hm =>
      order_any lv mb N cs (madeX cs) w4 ⟨hcat.fr f, hm, fun q c hq => ((hat c (madeX_mem hq)).fr HF3.out).fr f⟩ hlen
    clear hcat hat hfine hown ecs hc hlen
    go_wp2_with ((first
      | (go_at_call 24; refine hp.mono ?_; rintro _ w4 ⟨mb, N, rfl, hf4, hm⟩; have HF4 : Hd (Fr _ _ _) := hf4; have HM4 : Hd (MdM _ _ _ _) := hm; clear hf4 hm)
      | (go_at_call 25; refine (HO.out _ _ _ HF4.out HM4.out).mono ?_; rintro _ w5 ⟨lv5, ok5, rfl, hf5, hE5⟩; have HF5 : Hd (Fr _ _ _) := hf5; have HE5 : Hd (OrdE _ _ _ _ _ _) := hE5; clear hf5 hE5)))
    go_ret3
    refine ⟨_, _, _, rfl, (HF3.out.trans HF4.out).trans HF5.out, Or.inr ⟨cs, HCS.out, rfl, ?_⟩⟩
    rcases HE5.out with h1 | ⟨acc, h1, h2, h3, q0, q1⟩
    · exact Or.inl h1
    · refine Or.inr ⟨acc, h1, h2, h3, q0, ?_⟩
      have := (HF3.out.trans HF4.out).size
      rcases q1 with q1 | ⟨g', cap', cur, e1, k1, k2⟩
      · exact Or.inl q1
      · exact Or.inr ⟨g', cap', cur, e1, by omega, k2⟩
end Go.Proofs.Ytihicdbplmdjiaa

namespace Go.Proofs.Ytihicdbplmdjiaa
set_option linter.unusedVariables false
set_option linter.unusedSimpArgs false

/-! ### the plain law of orders: what must stand ahead stands ahead -/
theorem withS_bit {s i : Nat} (hi : i < 64) (j : Nat) : (withS s i).testBit j = (s.testBit j || decide (j = i)) := by rw [withS_eq s hi, with_bit]
theorem fold_bit (j : Nat) : ∀ (xs : List Nat) (s : Nat), (∀ x ∈ xs, x < 64) → (xs.foldl withS s).testBit j = (s.testBit j || decide (j ∈ xs))
  | [], s, _ => by simp
  | x :: xs, s, h => by
    rw [List.foldl_cons, fold_bit j xs _ (fun y hy => h y (by simp [hy])), withS_bit (h x (by simp))]
    by_cases e : j = x
    · subst e; simp
    · simp [e]
theorem setOf_bit (xs : List Nat) (h : ∀ x ∈ xs, x < 64) (j : Nat) : (setOf xs).testBit j = decide (j ∈ xs) := by unfold setOf; rw [fold_bit j xs 0 h, Nat.zero_testBit, Bool.false_or]
theorem aheadTo_mem {cs : List Cl} {i j : Nat} (hi : i < cs.length) (hj : j < cs.length) : j ∈ aheadTo cs i cs.length ↔ j ≠ i ∧ precB cs[j] cs[i] = true := by
  unfold aheadTo
  rw [List.mem_filter, List.mem_range, List.getElem?_eq_getElem hj, List.getElem?_eq_getElem hi]
  simp [hj]
theorem aheadTo_lt {cs : List Cl} {i j : Nat} (h : j ∈ aheadTo cs i cs.length) : j < cs.length := by
  unfold aheadTo at h
  exact List.mem_range.1 (List.mem_filter.1 h).1
theorem waits_bit {cs : List Cl} (hl : cs.length ≤ 64) {i j : Nat} (hi : i < cs.length) (hj : j < cs.length) : ((waitsX cs).getD i 0).testBit j = (decide (j ≠ i) && precB cs[j] cs[i]) := by
  unfold waitsX
  rw [List.getD_eq_getElem?_getD, List.getElem?_map, List.getElem?_range hi]
  show (setOf (aheadTo cs i cs.length)).testBit j = _
  rw [setOf_bit _ (fun x hx => by have := aheadTo_lt hx; omega)]
  have := aheadTo_mem (i := i) hi hj
  by_cases h1 : j ≠ i <;> by_cases h2 : precB cs[j] cs[i] = true <;> simp_all
/-- Each call stands behind all that must stand ahead of it. -/
structure Good (cs : List Cl) (acc : List Nat) : Prop where
  lt : ∀ i ∈ acc, i < cs.length
  nodup : acc.Nodup
  ahead : ∀ (p : Nat) (hp : p < acc.length) (j : Nat) (hj : j < cs.length), j ≠ acc[p] → ∀ (hi : acc[p] < cs.length), precB cs[j] (cs[acc[p]]'hi) = true → j ∈ acc.take p
theorem ord_good {cs : List Cl} (hl : cs.length ≤ 64) {left : Nat} {acc : List Nat} {r : Option (List Nat)} (h : Ord (waitsX cs) left acc r) : left < 18446744073709551616 → (∀ j, left.testBit j = true → j < cs.length) → (∀ j, j < cs.length → (left.testBit j = true ↔ j ∉ acc)) → Good cs acc → ∀ acc', r = some acc' → Good cs acc' ∧ ∀ j, j < cs.length → j ∈ acc' := by
  induction h with
  | done acc =>
    intro _ _ hb hg acc' e
    cases e
    refine ⟨hg, fun j hj => ?_⟩
    have := (hb j hj)
    rw [Nat.zero_testBit] at this
    exact Classical.not_not.1 (fun x => by have := this.2 x; cases this)
  | stuck left acc h0 h1 => intro _ _ _ _ acc' e; cases e
  | step left i acc r h0 h1 h2 ih =>
    intro hlt hbn hb hg acc' e
    obtain ⟨hbi, hi⟩ := leastX_bit h1
    rw [waitsX_len] at hi
    have hfree : left &&& (waitsX cs).getD i 0 = 0 := by
      unfold leastX at h1
      have := List.find?_some h1
      unfold freeB at this
      simp only [Bool.and_eq_true, decide_eq_true_eq] at this
      exact this.2
    have hia : i ∉ acc := (hb i hi).1 hbi
    refine ih (dropS_lt i hlt) (fun j hj => ?_) (fun j hj => ?_) ⟨fun k hk => ?_, ?_, fun p hp j hj hne hpi hpr => ?_⟩ acc' e
    · rw [dropS_bit j hlt (by omega)] at hj
      simp only [Bool.and_eq_true] at hj
      exact hbn j hj.1
    · rw [dropS_bit j hlt (by omega), List.mem_append, List.mem_singleton]
      have := hb j hj
      by_cases e : j = i
      · simp [e]
      · simp only [Bool.and_eq_true, Bool.not_eq_true', decide_eq_false_iff_not]
        rw [this]
        simp [e]
    · rcases List.mem_append.1 hk with hk | hk
      · exact hg.lt k hk
      · rw [List.mem_singleton.1 hk]; exact hi
    · rw [List.nodup_append]
      exact ⟨hg.nodup, by simp, fun a ha b hb2 => by rw [List.mem_singleton.1 hb2]; exact fun e => hia (e ▸ ha)⟩
    · rw [List.length_append, List.length_singleton] at hp
      rcases Nat.lt_or_ge p acc.length with h3 | h3
      · have e1 : (acc ++ [i])[p]'(by simp; omega) = acc[p] := List.getElem_append_left h3
        rw [List.take_append_of_le_length (by omega)]
        exact hg.ahead p h3 j hj (by rw [← e1]; exact hne) (by rw [← e1]; exact hpi) (by simpa only [e1] using hpr)
      · have e0 : p = acc.length := by omega
        subst e0
        have e1 : (acc ++ [i])[acc.length]'(by simp) = i := by simp
        rw [List.take_append_of_le_length (Nat.le_refl _), List.take_of_length_le (Nat.le_refl _)]
        have hw := waits_bit hl hi hj
        have hpr2 : precB cs[j] cs[i] = true := by simpa only [e1] using hpr
        rw [hpr2, show decide (j ≠ i) = true from decide_eq_true (by rw [← e1]; exact hne)] at hw
        by_cases hja : j ∈ acc
        · exact hja
        · have hlj := (hb j hj).2 hja
          have : (left &&& (waitsX cs).getD i 0).testBit j = true := by rw [Nat.testBit_and, hlj, hw]; rfl
          rw [hfree, Nat.zero_testBit] at this
          cases this
theorem order_good {cs : List Cl} (hl : cs.length ≤ 64) {acc : List Nat} (h : Ord (waitsX cs) (2 ^ cs.length - 1) [] (some acc)) : Good cs acc ∧ ∀ j, j < cs.length → j ∈ acc :=
  ord_good hl h (firsts_lt hl) (fun j hj => by rw [firsts_bit] at hj; simpa using hj) (fun j hj => by rw [firsts_bit]; simp [hj]) ⟨by simp, by simp, fun p hp => absurd hp (by simp)⟩ acc rfl
end Go.Proofs.Ytihicdbplmdjiaa
