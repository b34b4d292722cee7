import Derived.Test.YtmdlebolmhnhaaaF1
namespace Go.Proofs.Ytmdlebolmhnhaaa
open Go.RowKit (wrap32 wrap64)
open Go.Maps (Keyed)
set_option linter.unusedVariables false
set_option linter.unusedSimpArgs false

/-- Numbers that came in. -/
def IntsIn (w : World) (v : Value) (zs : List Int) : Prop :=
  ∃ a c, v = .slice a zs.length c ∧ zs.length ≤ c ∧ (zs ≠ [] → ∃ k o, a = some ⟨k, o, none⟩ ∧ k < w.heap.size ∧ ∀ i (h : i < zs.length), w.cell? ⟨k, o + i, none⟩ = some (vI zs[i]))

/-- How many cells of each kind a frame makes. -/
def md5 (zs : List Int) (i : Nat) : Nat := (zs.getD i 0 % 5).toNat
theorem md5_lt (zs : List Int) (i : Nat) : md5 zs i < 5 := by unfold md5; omega
theorem mod5 (zs : List Int) (i : Nat) (h : i < zs.length) (w : World) : Calls Try.prog 13 #[vI zs[i], .int .i64 5] w fun e w' => e = .returned (vI (md5 zs i : Nat)) ∧ w' = w := by
  have := mod_any zs[i] 5 (by omega) (by omega) w
  have e : ((md5 zs i : Nat) : Int) = zs[i] % ((5 : Nat) : Int) := by
    unfold md5
    rw [List.getD_eq_getElem?_getD, List.getElem?_eq_getElem h]
    simp
    omega
  rw [e]
  exact this

theorem row_slice0 {w : World} {B : Nat} {v : Value} {n : Nat} {xs : List Value} (h : w.ownsRow B 3 1 v n xs) : ∃ ad cap, v = .slice ad n cap := by
  rcases h.2 with ⟨e, rfl⟩ | ⟨g, cap, cur, e, -⟩
  · exact ⟨_, _, e⟩
  · exact ⟨_, _, e⟩

theorem S_le (hp fr : Nat → Nat) (h1 : ∀ i, hp i < 5) (h2 : ∀ i, fr i < 5) : ∀ i, S hp fr i ≤ 8 * i
  | 0 => Nat.le_refl _
  | i + 1 => by
    have := S_le hp fr h1 h2 i
    have := h1 i
    have := h2 i
    simp only [S]
    omega

theorem Up.fine {hp fr : Nat → Nat} {i k : Nat} {a : Abs} (h : Up hp fr i k a) (hk : k ≤ hp i + fr i) {N : Nat} (hN : S hp fr (i + 1) ≤ N) (hi : i + 1 ≤ N) : Fine N a := by
  have hs : S hp fr (i + 1) = S hp fr i + (hp i + fr i) := rfl
  have hl := P_length hp fr i
  refine ⟨by rw [h.made]; omega, by rw [h.frs]; simp; omega, ?_, ?_⟩
  · rw [h.pss, List.length_append, grp_length]
    omega
  · rw [h.pss]
    intro p hp'
    rcases List.mem_append.1 hp' with h1 | h1
    · have := P_mem hp fr h1
      omega
    · have := grp_mem hp fr h1
      omega
theorem Dn.fine {hp fr : Nat → Nat} {n i : Nat} {a : Abs} (h : Dn hp fr n i a) (hi : i ≤ n) {N : Nat} (hN : S hp fr n ≤ N) (hn : n ≤ N) : Fine N a := by
  have hm := S_mono hp fr hi
  have hl := P_length hp fr i
  refine ⟨by rw [h.made]; exact hN, by rw [h.frs]; simp; omega, by rw [h.pss]; omega, ?_⟩
  rw [h.pss]
  intro p hp'
  have := P_mem hp fr hp'
  omega

set_option maxRecDepth 100000 in
set_option maxHeartbeats 4000000 in
theorem frames_lt (hv fv : Value) (zs ys : List Int) (w : World) (h1 : IntsIn w hv zs) (h2 : IntsIn w fv ys) (hz : zs.length ≤ 1000000000000) (hy : ys.length ≤ 1000000000000) (hlen : ys.length < zs.length) :
    Calls Try.prog 4 #[hv, fv] w fun e w' => e = .returned (.bool true) ∧ Fr (fun _ => False) w w' := by
  obtain ⟨a1, c1, rfl, hc1, hin1⟩ := h1
  obtain ⟨a2, c2, rfl, hc2, hin2⟩ := h2
  have HIN1 : Hd _ := hin1
  have HIN2 : Hd _ := hin2
  have hdec : decide ((ys.length : Int) < zs.length) = true := by simp; omega
  clear hin1 hin2
  go_enter Try.func4, Try.ntmps4
  go_wp2_with fail
  refine (fixed_any w).mono ?_
  rintro e w0 ⟨rfl, hF0⟩
  go_wp2_with fail
  refine (show Calls Try.prog 10 #[.int .i64 1] w0 _ from new_any 1 (by omega) w0).mono ?_
  rintro e w1 ⟨b, g1, rfl, hM1, hF1, hO1⟩
  have HM : Hd _ := hM1
  have HG : Hd _ := hF0.trans hF1
  have HO : Hd (OwnNew w.heap.size g1) := fun k hk => by have := hO1 k hk; have := hF0.size; omega
  clear hM1 hF0 hF1 hO1
  go_wp2_with fail
  go_loopw [8, 9, 10] (fun m tot v wr => ∃ (k : Nat) (A : Abs) (g : Gh), tot = .int .i64 (S (md5 zs) (md5 ys) k : Nat) ∧ v = .int .i64 k ∧ k ≤ ys.length ∧ Hd (wr.ownsRow w.heap.size 3 1 m k ((List.range k).map fun j => vI (S (md5 zs) (md5 ys) (j + 1) : Nat))) ∧ Hd (∀ j, m.ownBlock = some j → g.own j = 0) ∧ Hd (Mem wr b g A) ∧ Hd (Up0 (md5 zs) (md5 ys) k A) ∧ Hd (OwnNew w.heap.size g) ∧ Hd (Fr (fun _ => False) w wr)) (fun _ _ v _ => match v with | .int _ q => ys.length - q.toNat | _ => 0)
  case atStart => exact ⟨0, _, _, rfl, rfl, Nat.zero_le _, World.ownsRow_nil _ _ _ _, fun j e => (by cases e), HM.out, Up0.start 1, HO.out, HG.out⟩
  case round =>
    obtain ⟨k, A, g, rfl, rfl, hk, HRow, HRo, HMr, HUp, HOr, HGr⟩ := hrel
    clear HM HG HO
    by_cases hlt : k < ys.length
    · obtain ⟨pk1, po1, rfl, hpk1, hcs1⟩ := HIN1.out (List.ne_nil_of_length_pos (by omega))
      obtain ⟨pk2, po2, rfl, hpk2, hcs2⟩ := HIN2.out (List.ne_nil_of_length_pos (by omega))
      have hk1 : k < zs.length := by omega
      have hk2 : k < ys.length := by omega
      have hi0 : (0 : Int) ≤ k := by omega
      have hi1 : (k : Int) < zs.length := by omega
      have hi2 : (k : Int) < ys.length := by omega
      have hhp := md5_lt zs k
      have hfr := md5_lt ys k
      have hSk := S_le (md5 zs) (md5 ys) (md5_lt zs) (md5_lt ys) k
      have HC1 : Hd (∀ v, Fr (fun _ => False) w v → v.cell? ⟨pk1, po1 + k, none⟩ = some (vI zs[k])) := fun v hf => (hf.cell hpk1 (fun h => h)).trans (hcs1 k hk1)
      have HC2 : Hd (∀ v, Fr (fun _ => False) w v → v.cell? ⟨pk2, po2 + k, none⟩ = some (vI ys[k])) := fun v hf => (hf.cell hpk2 (fun h => h)).trans (hcs2 k hk2)
      have m1 := mod5 zs k hk1
      have m2 := mod5 ys k hk2
      have HS : Hd (S (md5 zs) (md5 ys) (k + 1) = S (md5 zs) (md5 ys) k + (md5 zs k + md5 ys k)) := rfl
      clear hcs1 hcs2
      generalize zs[k] = z at *
      generalize ys[k] = y at *
      go_wp2_with fail
      refine (push_any b g A wr HMr.out (by rw [HUp.out.frs]; simp; omega)).mono ?_
      rintro e w2 ⟨g2, rfl, hM2, hF2, hE2⟩
      have HM2 : Hd _ := hM2
      have HU2 : Hd _ := HUp.out.push
      have HG2 : Hd _ := HGr.out.anew hF2 HOr.out
      have HO2 : Hd (OwnNew w.heap.size g2) := HOr.out.ext hE2 HGr.out.size
      have HRow2 : Hd (w2.ownsRow w.heap.size 3 1 u8 k ((List.range k).map fun j => vI (S (md5 zs) (md5 ys) (j + 1) : Nat))) := ownsRow_fr HRow.out hF2 (fun j e => by have := HRo.out j e; simp [this])
      have HRo2 : Hd (∀ j, u8.ownBlock = some j → g2.own j = 0) := fun j e => (hE2 j (World.ownsRow.lt HRow.out j e).2).trans (HRo.out j e)
      clear hM2 hF2 hE2 HMr HUp HGr HOr HRow HRo
      go_wp2_with fail
      go_loopw [9, 12] (fun tot v wr2 => ∃ (t : Nat) (A2 : Abs) (g3 : Gh), tot = .int .i64 (S (md5 zs) (md5 ys) k + t : Nat) ∧ v = .int .i64 t ∧ t ≤ md5 zs k + md5 ys k ∧ Hd (wr2.ownsRow w.heap.size 3 1 u8 k ((List.range k).map fun j => vI (S (md5 zs) (md5 ys) (j + 1) : Nat))) ∧ Hd (∀ j, u8.ownBlock = some j → g3.own j = 0) ∧ Hd (Mem wr2 b g3 A2) ∧ Hd (Up (md5 zs) (md5 ys) k t A2) ∧ Hd (OwnNew w.heap.size g3) ∧ Hd (Fr (fun _ => False) w wr2)) (fun _ v _ => match v with | .int _ q => (md5 zs k + md5 ys k) - q.toNat | _ => 0)
      case atStart => exact ⟨0, _, _, rfl, rfl, Nat.zero_le _, HRow2.out, HRo2.out, HM2.out, HU2.out, HO2.out, HG2.out⟩
      case round =>
        obtain ⟨t, A2, g3, rfl, rfl, ht, HRow3, HRo3, HM3, HU3, HO3, HG3⟩ := hrel
        clear HRow2 HRo2 HM2 HU2 HO2 HG2
        have x1 := HC1.out wr HG3.out
        have x2 := HC2.out wr HG3.out
        by_cases htt : t < md5 zs k + md5 ys k
        · have dt : decide ((t : Int) < (md5 zs k : Int) + (md5 ys k : Int)) = true := by simp; omega
          have dt' : decide (t < md5 zs k + md5 ys k) = true := by simpa using htt
          go_wp2_with fail
          refine wp_region_still_tail 12 mixed (by kernel_rfl) ?_
          simp only [List.take_succ_cons, List.take_zero, List.drop_succ_cons, List.drop_zero]
          repeat still_step
          still_call (m1 _)
          repeat still_step
          still_call (m2 _)
          repeat still_step
          refine wpStill_nil ?_
          go_wp2_with fail
          refine (m1 _).mono ?_
          rintro e w' ⟨rfl, rfl⟩
          go_wp2_with fail
          have hSk1 := S_le (md5 zs) (md5 ys) (md5_lt zs) (md5_lt ys) (k + 1)
          have hfine : Fine 10000000000000 A2 := HU3.out.fine ht (by omega) (by omega)
          have e8 : (1 : Int) + (t : Int) % 8 = ((1 + t % 8 : Nat) : Int) := by omega
          rw [e8]
          have hfrs : A2.frs ≠ [] := by rw [HU3.out.frs]; simp
          refine (make_x b g3 A2 _ _ wr.drew HM3.out.drew hfine (by omega)).mono ?_
          rintro e w4 ⟨g4, rfl, hM4, hF4, hE4⟩
          have hX : makeX A2 ((1 + t % 8 : Nat) : Int) (decide (t < md5 zs k)) = (if decide (t < md5 zs k) then mkA A2 (1 + t % 8) else { mkA A2 (1 + t % 8) with pss := A2.pss ++ [A2.made + 1] }, ((A2.made + 1 : Nat) : Int), 0) := by
            unfold makeX
            rw [if_neg (by omega), if_neg hfrs, Int.toNat_natCast]
          rw [hX] at hM4 ⊢
          have HM4 : Hd _ := hM4
          have HU4 : Hd _ := HU3.out.make (1 + t % 8)
          have HG4 : Hd _ := HG3.out.drew.anew hF4 HO3.out
          have HO4 : Hd (OwnNew w.heap.size g4) := HO3.out.ext hE4 HG3.out.size
          have HRow4 : Hd (w4.ownsRow w.heap.size 3 1 u8 k ((List.range k).map fun j => vI (S (md5 zs) (md5 ys) (j + 1) : Nat))) := ownsRow_fr (w := wr.drew) HRow3.out hF4 (fun j e => by have := HRo3.out j e; simp [this])
          have HRo4 : Hd (∀ j, u8.ownBlock = some j → g4.own j = 0) := fun j e => (hE4 j (World.ownsRow.lt HRow3.out j e).2).trans (HRo3.out j e)
          have em : ((A2.made + 1 : Nat) : Int) = (S (md5 zs) (md5 ys) k : Int) + (t : Int) + 1 := by have := HU3.out.made; omega
          rw [em]
          clear hM4 hF4 hE4 hX HM3 HU3 HG3 HO3 HRow3 HRo3 em e8 hfine hfrs dt dt' x1 x2
          go_wp2_with fail
          refine ⟨⟨t + 1, _, g4, by simp; omega, by simp, by omega, HRow4.out, HRo4.out, HM4.out, HU4.out, HO4.out, HG4.out⟩, by simp; omega⟩
        · have hte : t = md5 zs k + md5 ys k := by omega
          have dt : decide ((t : Int) < (md5 zs k : Int) + (md5 ys k : Int)) = false := by simp; omega
          have dt' : decide (t < md5 zs k + md5 ys k) = false := by simpa using htt
          have HTE : Hd (t = md5 zs k + md5 ys k) := hte
          clear hte
          go_wp2_with fail
          refine wp_region_still_tail 12 mixed (by kernel_rfl) ?_
          simp only [List.take_succ_cons, List.take_zero, List.drop_succ_cons, List.drop_zero]
          repeat still_step
          still_call (m1 _)
          repeat still_step
          still_call (m2 _)
          repeat still_step
          refine wpStill_nil ?_
          obtain ⟨i3, hi, hz3, hs3, hb3⟩ := info_parts (P := Try.prog) (e := 3) (z := .int .i64 0) (size := 1) (bytes := 8) (by kernel_rfl)
          obtain ⟨tt, htt'⟩ : ∃ tt : Nat, tt = S (md5 zs) (md5 ys) k + t := ⟨_, rfl⟩
          have HT : Hd (tt = S (md5 zs) (md5 ys) k + t) := htt'
          have et : ((S (md5 zs) (md5 ys) k : Nat) : Int) + (t : Int) = (tt : Int) := by omega
          have HRowA : Hd ((wr.alloc (.cells #[vI tt] 3)).drew.ownsRow w.heap.size 3 1 u8 k ((List.range k).map fun j => vI (S (md5 zs) (md5 ys) (j + 1) : Nat))) := World.ownsRow.alloc HRow3.out (.cells #[vI tt] 3)
          have hnews : ∀ j u, [vI tt][j]? = some u → (wr.alloc (.cells #[vI tt] 3)).drew.cell? ((⟨wr.heap.size, 0, none⟩ : Addr).add j) = some u :=
            World.news_of_block (w := (wr.alloc (.cells #[vI tt] 3)).drew) (cs := #[vI tt]) (heap_alloc_last wr (.cells #[vI tt] 3))
          have hsw := HG3.out.size
          have hw1 : (wr.alloc (.cells #[vI tt] 3)).drew.heap.size = wr.heap.size + 1 := by simp
          have hbase : w.heap.size ≤ (wr.alloc (.cells #[vI tt] 3)).drew.heap.size := by rw [hw1]; omega
          have hmx : k + 1 ≤ maxLen := by unfold maxLen; omega
          clear htt'
          go_wp2_with ((at_builtin; refine wpList_append_lies _ rfl (.tmp 79) (.tmp 81) 39 rfl w.heap.size 3 i3 (.int .i64 0) 1 8 under39 hi hz3 hs3 hb3 rfl (by omega) u8 k _ rfl HRowA.out ⟨wr.heap.size, 0, none⟩ 1 1 [vI tt] rfl rfl hnews (by intro u hu; simp at hu; subst hu; rfl) (by omega) hmx (by omega) hbase (wr.heap.size + 1) hw1 ?_; intro g6 cap6 w6 hown6 hgrow6 hat6 hlt6))
          have hSn : S (md5 zs) (md5 ys) (k + 1) = tt := by rw [HS.out, HT.out, HTE.out]
          have hU : Up0 (md5 zs) (md5 ys) (k + 1) A2 := Up.done (by rw [← HTE.out]; exact HU3.out)
          have hF6 : Fr (fun j => u8.ownBlock = some j) (wr.alloc (.cells #[vI tt] 3)).drew w6 := grown_fr hgrow6
          have hFa : Fr (fun _ => False) wr (wr.alloc (.cells #[vI tt] 3)).drew := Fr.drew (Fr.alloc (Fr.refl _ wr) _)
          have hM6 : Mem w6 b g3 A2 := (HM3.out.keep hFa).fr hF6 (fun j hj e => hj (HRo3.out j e))
          have hG6 : Fr (fun _ => False) w w6 := (HG3.out.trans hFa).then hF6 (fun j hj e => by have := (World.ownsRow.lt HRow3.out j e).1; omega)
          refine ⟨⟨k + 1, A2, g3, by rw [hSn], by simp, by omega, ?_, ?_, hM6, hU, HO3.out, hG6⟩, by simp; omega⟩
          · unfold Hd
            rw [List.range_succ, List.map_append]
            simp only [List.map_cons, List.map_nil]
            rw [hSn]
            exact hown6
          · intro j e
            cases e
            rcases hat6 with h6 | h6
            · exact HRo3.out _ h6
            · by_cases h0 : g3.own g6 = 0
              · exact h0
              · have := HM3.out.olt _ h0
                omega
    · have hke : k = ys.length := by omega
      subst hke
      have HDn : Hd _ := HUp.out.turn
      go_wp2_with fail
      go_loopw [5, 15] (fun ok v wr3 => ∃ (j : Nat) (A3 : Abs) (g3 : Gh), ok = .bool true ∧ v = .int .i64 ((j : Int) - 1) ∧ j ≤ ys.length ∧ Hd (wr3.ownsRow w.heap.size 3 1 u8 (ys.length) ((List.range (ys.length)).map fun j => vI (S (md5 zs) (md5 ys) (j + 1) : Nat))) ∧ Hd (∀ j, u8.ownBlock = some j → g3.own j = 0) ∧ Hd (Mem wr3 b g3 A3) ∧ Hd (Dn (md5 zs) (md5 ys) (ys.length) j A3) ∧ Hd (OwnNew w.heap.size g3) ∧ Hd (Fr (fun _ => False) w wr3)) (fun _ v _ => match v with | .int _ q => (q + 1).toNat | _ => 0)
      case atStart => exact ⟨ys.length, _, _, rfl, rfl, Nat.le_refl _, HRow.out, HRo.out, HMr.out, HDn.out, HOr.out, HGr.out⟩
      case round =>
        obtain ⟨j, A3, g3, rfl, rfl, hj, HRow3, HRo3, HM3, HD3, HO3, HG3'⟩ := hrel
        clear HRow HRo HMr HUp HDn HOr HGr
        have hSN := S_le (md5 zs) (md5 ys) (md5_lt zs) (md5_lt ys) (ys.length)
        have HFine : Hd (Fine 10000000000000 A3) := HD3.out.fine hj (by omega) (by omega)
        by_cases hj0 : j = 0
        · subst hj0
          have hp0 : popX A3 = (A3, 30) := by unfold popX; rw [HD3.out.frs]; rfl
          go_wp2_with fail
          refine (pop_x b g3 A3 _ HM3.out HFine.out (by omega)).mono ?_
          rintro e w2 ⟨g4, rfl, hM4, hF4, hE4⟩
          rw [hp0]
          have HG4 : Hd _ := HG3'.out.anew hF4 HO3.out
          clear hM4 hF4 hE4 hp0
          go_wp2_with fail
          go_ret
          exact ⟨rfl, HG4.out⟩
        · obtain ⟨i, rfl⟩ : ∃ i, j = i + 1 := ⟨j - 1, by omega⟩
          obtain ⟨pk1, po1, rfl, hpk1, hcs1⟩ := HIN1.out (List.ne_nil_of_length_pos (by omega))
          obtain ⟨g8, cap8, hu8, hg8⟩ : ∃ g8 cap8, u8 = .slice (some ⟨g8, 0, none⟩) (ys.length) cap8 ∧ w.heap.size ≤ g8 := by
            rcases HRow3.out.2 with ⟨-, e0⟩ | ⟨g8, cap8, cur, e, hb, -⟩
            · omega
            · exact ⟨g8, cap8, e, hb⟩
          subst hu8
          have hi0 : (0 : Int) ≤ i := by omega
          have ei : ((i + 1 : Nat) : Int) - 1 = i := by omega
          obtain ⟨hp0, hD4⟩ := HD3.out.pop hj
          go_wp2_with fail
          refine (pop_x b g3 A3 _ HM3.out HFine.out (by omega)).mono ?_
          rintro e w3 ⟨g4, rfl, hM4, hF4, hE4⟩
          rw [hp0]
          have HM4 : Hd _ := hM4
          have HD4 : Hd _ := hD4
          have HG4 : Hd _ := HG3'.out.anew hF4 HO3.out
          have HO4 : Hd (OwnNew w.heap.size g4) := HO3.out.ext hE4 HG3'.out.size
          have HRow4 : Hd (w3.ownsRow w.heap.size 3 1 (.slice (some ⟨g8, 0, none⟩) (ys.length) cap8) (ys.length) ((List.range (ys.length)).map fun j => vI (S (md5 zs) (md5 ys) (j + 1) : Nat))) := ownsRow_fr HRow3.out hF4 (fun j e => by have := HRo3.out j e; simp [this])
          have HRo4 : Hd (∀ j, (Value.slice (some ⟨g8, 0, none⟩) (ys.length) cap8).ownBlock = some j → g4.own j = 0) := fun j e => (hE4 j (World.ownsRow.lt HRow3.out j e).2).trans (HRo3.out j e)
          have HG3 : Hd _ := HG4.out
          clear hM4 hF4 hE4 hp0 hD4 HRow3 HRo3 HM3 HD3 HO3 HG3' HFine ei
          by_cases hi00 : i = 0
          · subst hi00
            go_wp2_with fail
            go_loopw [18, 19] (fun wv v wr4 => ∃ (q wt : Nat), wv = .int .i64 wt ∧ v = .int .i64 q ∧ 0 ≤ q ∧ q ≤ ys.length ∧ Hd (wt + Hs (md5 zs) 0 = S (md5 zs) (md5 ys) 0 + Hs (md5 zs) q) ∧ wt ≤ 8 * q ∧ wr4 = w3) (fun _ v _ => match v with | .int _ q => ys.length - q.toNat | _ => 0)
            case atStart => exact ⟨0, S (md5 zs) (md5 ys) 0, by first | rfl | simp [S], rfl, Nat.le_refl _, by omega, rfl, S_le (md5 zs) (md5 ys) (md5_lt zs) (md5_lt ys) 0, rfl⟩
            case round =>
              obtain ⟨q, wt, rfl, rfl, hiq, hqN, HW, hwt, rfl⟩ := hrel
              by_cases hqq : q < ys.length
              · have hq1 : q < zs.length := by omega
                have y1 : wr.cell? ⟨pk1, po1 + q, none⟩ = some (vI zs[q]) := (HG3.out.cell hpk1 (fun h => h)).trans (hcs1 q hq1)
                have m1 := mod5 zs q hq1
                have hq5 := md5_lt zs q
                have hq0 : (0 : Int) ≤ q := by omega
                have hqz : (q : Int) < zs.length := by omega
                have HW2 : Hd (wt + md5 zs q + Hs (md5 zs) 0 = S (md5 zs) (md5 ys) 0 + Hs (md5 zs) (q + 1)) := by
                  unfold Hd
                  have e : Hs (md5 zs) (q + 1) = Hs (md5 zs) q + md5 zs q := rfl
                  have := HW.out
                  rw [e]
                  omega
                generalize zs[q] = z at *
                go_wp2_with fail
                refine (m1 _).mono ?_
                rintro e w' ⟨rfl, rfl⟩
                go_wp2_with fail
                exact ⟨⟨q + 1, wt + md5 zs q, by simp, by simp, by omega, by omega, HW2.out, by omega, by first | rfl | trivial⟩, by simp; omega⟩
              · have hqe : q = ys.length := by omega
                subst hqe
                have hcount : (liveX (popX A3).1).length = wt := by
                  have h1 := HD4.out.count (by omega)
                  have h2 := HW.out
                  omega
                have hlb : (liveX (popX A3).1).length ≤ 10000000000000 := by omega
                go_wp2_with fail
                refine (live_any b g4 _ wr HM4.out (by rw [HD4.out.made]; have := S_le (md5 zs) (md5 ys) (md5_lt zs) (md5_lt ys) (ys.length); omega)).mono ?_
                rintro e w5 ⟨lv, rfl, hlrow, hF5⟩
                obtain ⟨lad, lcap, hlv⟩ := row_slice0 hlrow
                subst hlv
                rw [hcount]
                have HM5 : Hd _ := HM4.out.keep hF5
                have HG5 : Hd _ := HG4.out.trans hF5
                have HRow5 : Hd (w5.ownsRow w.heap.size 3 1 (.slice (some ⟨g8, 0, none⟩) (ys.length) cap8) (ys.length) ((List.range (ys.length)).map fun j => vI (S (md5 zs) (md5 ys) (j + 1) : Nat))) := ownsRow_fr HRow4.out hF5 (fun _ _ h => h)
                clear hlrow hF5
                go_wp2_with fail
                exact ⟨⟨0, _, g4, by simp, by simp, by omega, HRow5.out, HRo4.out, HM5.out, HD4.out, HO4.out, HG5.out⟩, by simp <;> omega⟩
          · obtain ⟨m, rfl⟩ : ∃ m, i = m + 1 := ⟨i - 1, by omega⟩
            have hmc : w3.cell? ⟨g8, m, none⟩ = some (vI (S (md5 zs) (md5 ys) (m + 1) : Nat)) := by
              have := World.ownsRow.cells HRow4.out (g := g8) rfl m (vI (S (md5 zs) (md5 ys) (m + 1) : Nat)) (by rw [List.getElem?_map, List.getElem?_range (by omega)]; rfl)
              rwa [addr_add] at this
            have hm0 : (0 : Int) ≤ m := by omega
            have hm1 : (m : Int) < ys.length := by omega
            go_wp2_with fail
            go_loopw [18, 19] (fun wv v wr4 => ∃ (q wt : Nat), wv = .int .i64 wt ∧ v = .int .i64 q ∧ m + 1 ≤ q ∧ q ≤ ys.length ∧ Hd (wt + Hs (md5 zs) (m + 1) = S (md5 zs) (md5 ys) (m + 1) + Hs (md5 zs) q) ∧ wt ≤ 8 * q ∧ wr4 = w3) (fun _ v _ => match v with | .int _ q => ys.length - q.toNat | _ => 0)
            case atStart => exact ⟨m + 1, S (md5 zs) (md5 ys) (m + 1), by first | rfl | simp [S], rfl, Nat.le_refl _, by omega, rfl, S_le (md5 zs) (md5 ys) (md5_lt zs) (md5_lt ys) (m + 1), rfl⟩
            case round =>
              obtain ⟨q, wt, rfl, rfl, hiq, hqN, HW, hwt, rfl⟩ := hrel
              by_cases hqq : q < ys.length
              · have hq1 : q < zs.length := by omega
                have y1 : wr.cell? ⟨pk1, po1 + q, none⟩ = some (vI zs[q]) := (HG3.out.cell hpk1 (fun h => h)).trans (hcs1 q hq1)
                have m1 := mod5 zs q hq1
                have hq5 := md5_lt zs q
                have hq0 : (0 : Int) ≤ q := by omega
                have hqz : (q : Int) < zs.length := by omega
                have HW2 : Hd (wt + md5 zs q + Hs (md5 zs) (m + 1) = S (md5 zs) (md5 ys) (m + 1) + Hs (md5 zs) (q + 1)) := by
                  unfold Hd
                  have e : Hs (md5 zs) (q + 1) = Hs (md5 zs) q + md5 zs q := rfl
                  have := HW.out
                  rw [e]
                  omega
                generalize zs[q] = z at *
                go_wp2_with fail
                refine (m1 _).mono ?_
                rintro e w' ⟨rfl, rfl⟩
                go_wp2_with fail
                exact ⟨⟨q + 1, wt + md5 zs q, by simp, by simp, by omega, by omega, HW2.out, by omega, by first | rfl | trivial⟩, by simp; omega⟩
              · have hqe : q = ys.length := by omega
                subst hqe
                have hcount : (liveX (popX A3).1).length = wt := by
                  have h1 := HD4.out.count (by omega)
                  have h2 := HW.out
                  omega
                have hlb : (liveX (popX A3).1).length ≤ 10000000000000 := by omega
                go_wp2_with fail
                refine (live_any b g4 _ wr HM4.out (by rw [HD4.out.made]; have := S_le (md5 zs) (md5 ys) (md5_lt zs) (md5_lt ys) (ys.length); omega)).mono ?_
                rintro e w5 ⟨lv, rfl, hlrow, hF5⟩
                obtain ⟨lad, lcap, hlv⟩ := row_slice0 hlrow
                subst hlv
                rw [hcount]
                have HM5 : Hd _ := HM4.out.keep hF5
                have HG5 : Hd _ := HG4.out.trans hF5
                have HRow5 : Hd (w5.ownsRow w.heap.size 3 1 (.slice (some ⟨g8, 0, none⟩) (ys.length) cap8) (ys.length) ((List.range (ys.length)).map fun j => vI (S (md5 zs) (md5 ys) (j + 1) : Nat))) := ownsRow_fr HRow4.out hF5 (fun _ _ h => h)
                clear hlrow hF5
                go_wp2_with fail
                exact ⟨⟨m + 1, _, g4, by simp, by simp, by omega, HRow5.out, HRo4.out, HM5.out, HD4.out, HO4.out, HG5.out⟩, by simp <;> omega⟩

end Go.Proofs.Ytmdlebolmhnhaaa
