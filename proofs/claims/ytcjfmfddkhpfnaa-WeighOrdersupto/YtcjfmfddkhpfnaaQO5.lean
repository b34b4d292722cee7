import Derived.Test.YtcjfmfddkhpfnaaQO2
namespace Go.Proofs.Ytcjfmfddkhpfnaa
open Go.RowKit (wrap32 wrap64)
set_option linter.unusedVariables false
set_option linter.unusedSimpArgs false

theorem Os.headsM {w wr : World} {K hb mb xb n : Nat} {hev hrv mev mrv : Value} {E : List Ed} {R : List Int} {F : List Ed} {T : List Int} {x : Nat → Int} (h : Os w wr K hb mb xb n hev hrv mev mrv E R F T x) : wr.cell? ⟨mb, 1, none⟩ = some mev ∧ wr.cell? ⟨mb, 2, none⟩ = some mrv :=
  ⟨by rw [cell_of h.m]; rfl, by rw [cell_of h.m]; rfl⟩
/-- A row of weights that lies apart from a list that grows. -/
structure Zw (wr : World) (bv : Value) (n zb : Nat) (z : Nat → Int) : Prop where
  row : Row wr 3 zb n (fun i => vI (z i))
  ne : ∀ k, bv.ownBlock = some k → k ≠ zb
theorem Zw.stay {wr w' : World} {bv : Value} {n zb : Nat} {z : Nat → Int} (h : Zw wr bv n zb z) (f : Fr (fun _ => False) wr w') : Zw w' bv n zb z :=
  ⟨h.row.fr f (fun h => h), h.ne⟩
theorem Zw.grow {wr w6 : World} {bv : Value} {n zb : Nat} {z : Nat → Int} (h : Zw wr bv n zb z) {g6 m cap H : Nat} (hg : wr.grownBy w6 bv.ownBlock) (hat : bv.ownBlock = some g6 ∨ g6 = H) (hH : wr.heap.size ≤ H) : Zw w6 (.slice (some ⟨g6, 0, none⟩) m cap) n zb z :=
  ⟨h.row.fr (grown_fr hg) (fun e => h.ne _ e rfl), fun k e => by
    have e' : g6 = k := by simpa [Value.ownBlock] using e
    subst e'
    rcases hat with h1 | h1
    · exact h.ne _ h1
    · have := h.row.lt; omega⟩

theorem eg_getO {E : List Ed} {j : Nat} (h : j < E.length) : eg E j = E[j] := by
  unfold eg; rw [List.getD_eq_getElem?_getD, List.getElem?_eq_getElem h]; rfl

set_option maxRecDepth 100000 in
set_option maxHeartbeats 8000000 in
theorem orders_walk (l l2 : Int) (ev rv bv ev2 rv2 : Value) (es : List Ed) (rs bs : List Int) (fs : List Ed) (ts : List Int) (w : World) (hE : EdgesAt w.heap.size w ev es) (hR : IntsAt w.heap.size w rv rs) (hB : IntsAt w.heap.size w bv bs) (hF : EdgesAt w.heap.size w ev2 fs) (hT : IntsAt w.heap.size w rv2 ts)
    (hel : es.length ≤ 1048576) (hrl : rs.length ≤ 1048576) (hbl : bs.length ≤ 1048576) (hfl : fs.length ≤ 1048576) (htl : ts.length ≤ 1048576) :
    Calls Try.prog 6 #[.agg #[vI l, ev, rv], bv, .agg #[vI l2, ev2, rv2]] w fun e w' => e = .returned (.bool true) ∧ Fr (fun _ => False) w w' := by
  have HE : Hd (EdgesAt w.heap.size w ev es) := hE
  have HR : Hd (IntsAt w.heap.size w rv rs) := hR
  have HF : Hd (EdgesAt w.heap.size w ev2 fs) := hF
  have HT : Hd (IntsAt w.heap.size w rv2 ts) := hT
  obtain ⟨ba, bc, rfl, -, hbin⟩ := hB
  have HBI : Hd _ := hbin
  clear hE hR hF hT hbin
  have hG := right_of l es rs
  have hG2 := right_of l fs ts
  have hG3 := right_of l es ts
  have hG4 := right_of l (es ++ fs) rs
  have hG5 := right_of l es (rs ++ ts)
  obtain ⟨-, hn1, hn2⟩ := rN_is l
  obtain ⟨i27, hi27, hz27, hs27, hb27⟩ := info_parts (P := Try.prog) (e := 27) (z := .agg #[vI 0, vI 0, vI 0]) (size := 3) (bytes := 24) (by kernel_rfl)
  obtain ⟨i3, hi3, hz3, hs3, hb3⟩ := info_parts (P := Try.prog) (e := 3) (z := .int .i64 0) (size := 1) (bytes := 8) (by kernel_rfl)
  go_enter Try.func6, Try.ntmps6
  go_wp2_with fail
  refine (fixed_any _).mono ?_
  rintro e w1 ⟨rfl, hF1⟩
  have hbox1 : w1.heap[w.heap.size + 1]? = some (.cells #[vI l2, ev2, rv2] 34) := by
    have h1 := heap_alloc_last (w.alloc (.cells #[vI l, ev, rv] 34)) (.cells #[vI l2, ev2, rv2] 34)
    rw [show (w.alloc (.cells #[vI l, ev, rv] 34)).heap.size = w.heap.size + 1 by simp] at h1
    exact (hF1.block _ (heap_lt h1) (fun h => h)).trans h1
  have hbox : w1.heap[w.heap.size]? = some (.cells #[vI l, ev, rv] 34) := by
    have h1 := heap_alloc_last w (.cells #[vI l, ev, rv] 34)
    have f : Fr (fun _ => False) (w.alloc (.cells #[vI l, ev, rv] 34)) w1 := ((Fr.refl _ _).alloc _).trans hF1
    exact (f.block _ (heap_lt h1) (fun h => h)).trans h1
  have HF1 : Hd (Fr (fun _ => False) w w1) := (((Fr.refl _ w).alloc _).alloc _).trans hF1
  have b0 : w1.cell? ⟨w.heap.size, 0, none⟩ = some (vI l) := by rw [cell_of hbox]; rfl
  have b1 : w1.cell? ⟨w.heap.size, 1, none⟩ = some ev := by rw [cell_of hbox]; rfl
  have b2 : w1.cell? ⟨w.heap.size, 2, none⟩ = some rv := by rw [cell_of hbox]; rfl
  have HX0 : Hd (w1.heap[w.heap.size]? = some (.cells #[vI l, ev, rv] 34)) := hbox
  have HX1 : Hd (w1.heap[w.heap.size + 1]? = some (.cells #[vI l2, ev2, rv2] 34)) := hbox1
  have HG : Hd (RightG (rN l) (es.map (rE (rN l))) (rs.map (rR (rN l)))) := hG
  have HG2 : Hd (RightG (rN l) (fs.map (rE (rN l))) (ts.map (rR (rN l)))) := hG2
  have HG3 : Hd (RightG (rN l) (es.map (rE (rN l))) (ts.map (rR (rN l)))) := hG3
  have HG4 : Hd (RightG (rN l) (es.map (rE (rN l)) ++ fs.map (rE (rN l))) (rs.map (rR (rN l)))) := by rw [List.map_append] at hG4; exact hG4
  have HG5 : Hd (RightG (rN l) (es.map (rE (rN l))) (rs.map (rR (rN l)) ++ ts.map (rR (rN l)))) := by rw [List.map_append] at hG5; exact hG5
  clear hbox hbox1 hF1 hG hG2 hG3 hG4 hG5
  go_wp2_with fail
  refine (right_law l ev rv es rs w1 (HE.out.stay HF1.out) (HR.out.stay HF1.out) (by omega) (by omega)).mono ?_
  rintro e w2 ⟨hev, hrv, rfl, hoe, hoi, hap, hF2⟩
  clear b0 b1 b2
  have HEL : Hd ((es.map (rE (rN l))).length = es.length) := List.length_map _
  have HRL : Hd ((rs.map (rR (rN l))).length = rs.length) := List.length_map _
  have HFL : Hd ((fs.map (rE (rN l))).length = fs.length) := List.length_map _
  have HTL : Hd ((ts.map (rR (rN l))).length = ts.length) := List.length_map _
  have HRW : Hd (∀ (v : World) (a b : Value), EdgesAt v.heap.size v a fs → IntsAt v.heap.size v b ts → Calls Try.prog 14 #[.agg #[vI l, a, b]] v (RgEnds v (rN l) (fs.map (rE (rN l))) (ts.map (rR (rN l))))) := fun v a b h1 h2 => right_law l a b fs ts v h1 h2 (by omega) (by omega)
  generalize es.map (rE (rN l)) = E at *
  generalize rs.map (rR (rN l)) = R at *
  generalize fs.map (rE (rN l)) = F at *
  generalize ts.map (rR (rN l)) = T at *
  generalize rN l = n at *
  have hal : Fr (fun _ => False) w1 (w2.alloc (.cells #[vI n, hev, hrv] 34)) := hF2.trans ((Fr.refl _ w2).alloc _)
  have HF3 : Hd (Fr (fun _ => False) w (w2.alloc (.cells #[vI n, hev, hrv] 34))) := HF1.out.trans hal
  have hal2 : Fr (fun _ => False) w2 (w2.alloc (.cells #[vI n, hev, hrv] 34)) := (Fr.refl _ w2).alloc _
  have HE2 : Hd (EdgesAt (w2.alloc (.cells #[vI n, hev, hrv] 34)).heap.size (w2.alloc (.cells #[vI n, hev, hrv] 34)) hev E) := hoe.at.stay hal2
  have HR2 : Hd (IntsAt (w2.alloc (.cells #[vI n, hev, hrv] 34)).heap.size (w2.alloc (.cells #[vI n, hev, hrv] 34)) hrv R) := hoi.at.stay hal2
  have HH2 : Hd _ := heap_alloc_last w2 (.cells #[vI n, hev, hrv] 34)
  have q0 := (hal.block _ (heap_lt HX0.out) (fun h => h)).trans HX0.out
  have q1 := (hal.block _ (heap_lt HX1.out) (fun h => h)).trans HX1.out
  have b0 : (w2.alloc (.cells #[vI n, hev, hrv] 34)).cell? ⟨w.heap.size, 0, none⟩ = some (vI l) := by rw [cell_of q0]; rfl
  have b1 : (w2.alloc (.cells #[vI n, hev, hrv] 34)).cell? ⟨w.heap.size + 1, 1, none⟩ = some ev2 := by rw [cell_of q1]; rfl
  have b2 : (w2.alloc (.cells #[vI n, hev, hrv] 34)).cell? ⟨w.heap.size + 1, 2, none⟩ = some rv2 := by rw [cell_of q1]; rfl
  obtain ⟨ea, ec, rfl⟩ := hoe.shape
  obtain ⟨ra, rc, rfl⟩ := hoi.shape
  obtain ⟨fa, fc, hfa⟩ : ∃ a c, ev2 = .slice a fs.length c := by obtain ⟨a, c, e, -⟩ := HF.out; exact ⟨a, c, e⟩
  obtain ⟨ta, tc, hta⟩ : ∃ a c, rv2 = .slice a ts.length c := by obtain ⟨a, c, e, -⟩ := HT.out; exact ⟨a, c, e⟩
  subst hfa
  subst hta
  clear hoe hoi hap hF2 hal hal2 q0 q1 HX0 HX1 HF1
  go_wp2_with fail
  refine (HRW.out _ _ _ (HF.out.stay HF3.out) (HT.out.stay HF3.out)).mono ?_
  rintro e w5 ⟨mev, mrv, rfl, hoe, hoi, hap, hF5⟩
  have hal : Fr (fun _ => False) (w2.alloc (.cells #[vI n, .slice ea E.length ec, .slice ra R.length rc] 34)) (w5.alloc (.cells #[vI n, mev, mrv] 34)) := hF5.trans ((Fr.refl _ w5).alloc _)
  have hal2 : Fr (fun _ => False) w5 (w5.alloc (.cells #[vI n, mev, mrv] 34)) := (Fr.refl _ w5).alloc _
  have HF6 : Hd (Fr (fun _ => False) w (w5.alloc (.cells #[vI n, mev, mrv] 34))) := HF3.out.trans hal
  have HE6 : Hd (EdgesAt (w5.alloc (.cells #[vI n, mev, mrv] 34)).heap.size (w5.alloc (.cells #[vI n, mev, mrv] 34)) (.slice ea E.length ec) E) := HE2.out.stay hal
  have HR6 : Hd (IntsAt (w5.alloc (.cells #[vI n, mev, mrv] 34)).heap.size (w5.alloc (.cells #[vI n, mev, mrv] 34)) (.slice ra R.length rc) R) := HR2.out.stay hal
  have HM6 : Hd (EdgesAt (w5.alloc (.cells #[vI n, mev, mrv] 34)).heap.size (w5.alloc (.cells #[vI n, mev, mrv] 34)) mev F) := hoe.at.stay hal2
  have HN6 : Hd (IntsAt (w5.alloc (.cells #[vI n, mev, mrv] 34)).heap.size (w5.alloc (.cells #[vI n, mev, mrv] 34)) mrv T) := hoi.at.stay hal2
  have HH6 : Hd ((w5.alloc (.cells #[vI n, mev, mrv] 34)).heap[w2.heap.size]? = some (.cells #[vI n, .slice ea E.length ec, .slice ra R.length rc] 34)) := (hal.block _ (heap_lt HH2.out) (fun h => h)).trans HH2.out
  have HI6 : Hd _ := heap_alloc_last w5 (.cells #[vI n, mev, mrv] 34)
  have hx := cell_of HH6.out 0
  have hy := cell_of HH6.out 1
  have hz := cell_of HH6.out 2
  simp only [List.getElem?_toArray, List.getElem?_cons_zero, List.getElem?_cons_succ] at hx hy hz
  obtain ⟨fa', fc', rfl⟩ := hoe.shape
  obtain ⟨ta', tc', rfl⟩ := hoi.shape
  clear hoe hoi hap hF5 hal hal2 HE2 HR2 HH2 b0 b1 b2 HF3 HRW
  go_wp2_with fail
  refine (from_any n _ _ E R _ HE6.out HR6.out (by have := HEL.out; omega) (by have := HRL.out; omega)).mono ?_
  rintro e w4 ⟨hF4, ⟨hno, -⟩ | ⟨-, xb, x, rfl, hxb, hrow, hleast⟩⟩
  · exact absurd HG.out hno
  rw [Int.toNat_natCast] at hrow hleast ⊢
  have HOS : Hd (Os w w4 w4.heap.size w2.heap.size w5.heap.size xb n (.slice ea E.length ec) (.slice ra R.length rc) (.slice fa' F.length fc') (.slice ta' T.length tc') E R F T x) :=
    ⟨⟨(hF4.block _ (heap_lt HH6.out) (fun h => h)).trans HH6.out, HE6.out.stay hF4, HR6.out.stay hF4, hrow, ⟨Nat.lt_of_lt_of_le (heap_lt HH6.out) hF4.size, hrow.lt, (HF6.out.trans hF4).size, Nat.le_refl _⟩, HF6.out.trans hF4⟩,
      (hF4.block _ (heap_lt HI6.out) (fun h => h)).trans HI6.out, HM6.out.stay hF4, HN6.out.stay hF4, Nat.lt_of_lt_of_le (heap_lt HI6.out) hF4.size⟩
  have HL : Hd (Least n E R x) := hleast
  obtain ⟨hb, hhb⟩ : ∃ x, x = w2.heap.size := ⟨_, rfl⟩
  obtain ⟨mb, hmb⟩ : ∃ x, x = w5.heap.size := ⟨_, rfl⟩
  rw [← hhb, ← hmb] at HOS
  rw [← hhb, ← hmb]
  obtain ⟨K, hK⟩ : ∃ K, K = w4.heap.size := ⟨_, rfl⟩
  rw [← hK] at HOS
  clear hhb hmb hK hF4 hrow hleast hxb HE6 HR6 HM6 HN6 HH6 HI6 HF6 hx hy hz
  have hEb : E.length ≤ 1048576 := by have := HEL.out; omega
  have hRb : R.length ≤ 1048576 := by have := HRL.out; omega
  have hFb : F.length ≤ 1048576 := by have := HFL.out; omega
  have hTb : T.length ≤ 1048576 := by have := HTL.out; omega
  have HBC : Hd (∀ i (h : i < bs.length), ∃ k o, ba = some ⟨k, o, none⟩ ∧ ∀ v, Fr (fun _ => False) w v → v.cell? ⟨k, o + i, none⟩ = some (vI bs[i])) := fun i h => by
    obtain ⟨k, o, h1, h2, h3⟩ := HBI.out (by intro e; simp [e] at h)
    exact ⟨k, o, h1, fun v hv => (hv.cell h2 (fun h => h)).trans (h3 i h)⟩
  go_wp2_with fail
  go_loopw [12, 13, 14] (fun av bv iv wr => ∃ (k : Nat) (A : List Ed) (B : List Int), iv = .int .i64 k ∧ k ≤ bs.length ∧ Hd (A.length ≤ k ∧ B.length ≤ k ∧ (∀ e ∈ A, e ∈ E) ∧ (∀ r ∈ B, r ∈ R)) ∧ Hd (Ol w wr K hb mb xb n (.slice ea E.length ec) (.slice ra R.length rc) (.slice fa' F.length fc') (.slice ta' T.length tc') E R F T x av bv A B)) (fun _ _ v _ => match v with | .int _ q => bs.length - q.toNat | _ => 0)
  case atStart => exact ⟨0, [], [], rfl, Nat.zero_le _, ⟨Nat.le_refl _, Nat.le_refl _, fun e h => absurd h List.not_mem_nil, fun e h => absurd h List.not_mem_nil⟩, HOS.out, OwnE.nil _ _, OwnI.nil _ _, Apt.nil _⟩
  case round =>
    obtain ⟨k, A, B, rfl, hk, HAB, HO⟩ := hrel
    clear HOS
    obtain ⟨h0, h1, h2⟩ := HO.out.os.gs.heads
    by_cases hlt : k < bs.length
    · obtain ⟨bk, bo, hba, hbc⟩ := HBC.out k hlt
      subst hba
      by_cases hEz : E.length = 0
      · have hEz' : decide (0 < (E.length : Int)) = false := decide_eq_false (by omega)
        have hEn : ¬ (0 < E.length) := by omega
        clear h0 h1 h2 hEz
        by_cases hRz : R.length = 0
        · have hRz' : decide (0 < (R.length : Int)) = false := decide_eq_false (by omega)
          have hRn : ¬ (0 < R.length) := by omega
          clear hRz
          have HAB3 : Hd (A.length ≤ k + 1 ∧ B.length ≤ k + 1 ∧ (∀ e ∈ A, e ∈ E) ∧ (∀ r ∈ B, r ∈ R)) := by
            obtain ⟨p1, p2, p3, p4⟩ := HAB.out
            exact ⟨by omega, by omega, p3, p4⟩
          have gh2 : wr.cell? ⟨hb, 2, none⟩ = some (.slice ra R.length rc) := HO.out.os.gs.heads.2.2
          have gh1 : wr.cell? ⟨hb, 1, none⟩ = some (.slice ea E.length ec) := HO.out.os.gs.heads.2.1
          have hkk0 : (0 : Int) ≤ k := by omega
          have hkk1 : (k : Int) < bs.length := by omega
          go_wp2_with fail
          refine ⟨⟨k + 1, _, _, by simp, by omega, HAB3.out, HO.out⟩, by simp; omega⟩
        · have hRz' : decide (0 < (R.length : Int)) = true := decide_eq_true (by omega)
          have hrl0 : R ≠ [] := by intro e; simp [e] at hRz
          obtain ⟨rk, ro, hra, hrk, hrcs⟩ : ∃ k o, ra = some ⟨k, o, none⟩ ∧ k < K ∧ ∀ i (h : i < R.length), wr.cell? ⟨k, o + i, none⟩ = some (vI R[i]) := by
            obtain ⟨a, c, e1, -, e2⟩ := HO.out.os.gs.r
            cases e1
            exact e2 hrl0
          subst hra
          have dd0 := hbc wr HO.out.os.gs.fr
          obtain ⟨b1, hb1⟩ : ∃ b, bs[k] = b := ⟨_, rfl⟩
          rw [hb1] at dd0
          obtain ⟨j1, hj1⟩ : ∃ j : Nat, b1 % (R.length : Int) = j := ⟨(b1 % (R.length : Int)).toNat, by have := Int.emod_nonneg b1 (show (R.length : Int) ≠ 0 by omega); omega⟩
          have hj1l : j1 < R.length := by have := Int.emod_lt_of_pos b1 (show (0 : Int) < R.length by omega); omega
          have m1 : ∀ v : World, Calls Try.prog 10 #[vI b1, .int .i64 R.length] v fun e w' => e = .returned (vI (j1 : Nat)) ∧ w' = v := fun v => by
            have := mod_int b1 R.length (by omega) (by omega) v
            rw [hj1] at this
            exact this
          have ff0 := hrcs j1 hj1l
          have HMEM1 : Hd (R[j1] ∈ R) := List.getElem_mem hj1l
          obtain ⟨r0, hr0⟩ : ∃ e, R[j1] = e := ⟨_, rfl⟩
          rw [hr0] at ff0 HMEM1
          clear hr0 hrcs hj1
          have hjj0 : (0 : Int) ≤ j1 := by omega
          have hjj1 : (j1 : Int) < R.length := by omega
          have hkk0 : (0 : Int) ≤ k := by omega
          have hkk1 : (k : Int) < bs.length := by omega
          have hBl : B.length + 1 ≤ 1048577 := by have := HAB.out.2.1; omega
          have HOA1 : Hd (Ol w (wr.alloc (.cells #[vI r0] 3)).drew K hb mb xb n (.slice ea E.length ec) (.slice (some ⟨rk, ro, none⟩) R.length rc) (.slice fa' F.length fc') (.slice ta' T.length tc') E R F T x u12 u13 A B) := HO.out.stay (((Fr.refl _ wr).alloc _).drew)
          have HROW1 : Hd _ := HOA1.out.r
          have hnews1 : ∀ j u, [vI r0][j]? = some u → (wr.alloc (.cells #[vI r0] 3)).drew.cell? ((⟨wr.heap.size, 0, none⟩ : Addr).add j) = some u :=
            World.news_of_block (w := (wr.alloc (.cells #[vI r0] 3)).drew) (cs := #[vI r0]) (heap_alloc_last wr (.cells #[vI r0] 3))
          have hone1 : ∀ u ∈ [vI r0], u.oneCell' = true := by intro u hu; simp at hu; subst hu; rfl
          have hbase1 : K ≤ (wr.alloc (.cells #[vI r0] 3)).drew.heap.size := HOA1.out.os.gs.lt.2.2.2
          have hww1 : (wr.alloc (.cells #[vI r0] 3)).drew.heap.size = wr.heap.size + 1 := by simp
          have hmx1 : B.length + 1 ≤ maxLen := by unfold maxLen; omega
          have HKEY1 : Hd (∀ g6 cap wv, wv.ownsRow K 3 1 (.slice (some ⟨g6, 0, none⟩) (B.length + 1) cap) (B.length + 1) (B.map vI ++ [vI r0]) → (wr.alloc (.cells #[vI r0] 3)).drew.grownBy wv u13.ownBlock → (u13.ownBlock = some g6 ∨ g6 = wr.heap.size + 1) →
              Ol w wv K hb mb xb n (.slice ea E.length ec) (.slice (some ⟨rk, ro, none⟩) R.length rc) (.slice fa' F.length fc') (.slice ta' T.length tc') E R F T x u12 (.slice (some ⟨g6, 0, none⟩) (B.length + 1) cap) A (B ++ [r0]) ∧
              (wv.cell? ⟨hb, 2, none⟩ = some (.slice (some ⟨rk, ro, none⟩) R.length rc) ∧ wv.cell? ⟨bk, bo + k, none⟩ = some (vI b1) ∧ wv.cell? ⟨rk, ro + j1, none⟩ = some (vI r0))) := by
            intro g6 cap wv ho hg ha
            have q := HOA1.out.growI (z := r0) ho hg ha (by rw [hww1]; exact Nat.le_refl _)
            have f : Fr (fun _ => False) wr (wr.alloc (.cells #[vI r0] 3)).drew := ((Fr.refl _ wr).alloc _).drew
            have hlt : K ≤ wr.heap.size := HO.out.os.gs.lt.2.2.2
            have hkeep : ∀ o, wv.cell? ⟨rk, o, none⟩ = wr.cell? ⟨rk, o, none⟩ := fun o => ((grown_fr hg).cell (Nat.lt_of_lt_of_le (Nat.lt_of_lt_of_le hrk hlt) f.size) (fun e => by have := (HO.out.r.ge rk e).1; omega)).trans (f.cell (Nat.lt_of_lt_of_le hrk hlt) (fun h => h))
            refine ⟨q, q.os.gs.heads.2.2, ?_, (hkeep _).trans ff0⟩
            have := hbc wv q.os.gs.fr
            rw [hb1] at this
            exact this
          have HAB3 : Hd (A.length ≤ k + 1 ∧ (B ++ [r0]).length ≤ k + 1 ∧ (∀ e ∈ A, e ∈ E) ∧ (∀ r ∈ B ++ [r0], r ∈ R)) := by
            obtain ⟨p1, p2, p3, p4⟩ := HAB.out
            refine ⟨by omega, by simp; omega, p3, fun e he => ?_⟩
            rcases List.mem_append.1 he with h | h
            · exact p4 e h
            · rw [List.mem_singleton.1 h]; exact HMEM1.out
          have gh2 : wr.cell? ⟨hb, 2, none⟩ = some (.slice (some ⟨rk, ro, none⟩) R.length rc) := HO.out.os.gs.heads.2.2
          have gh1 : wr.cell? ⟨hb, 1, none⟩ = some (.slice ea E.length ec) := HO.out.os.gs.heads.2.1
          have dd1 : wr.drew.cell? ⟨bk, bo + k, none⟩ = some (vI b1) := dd0
          clear hb1 HO HOA1 HMEM1 hbc
          go_upto_region 13 with fail
          go_region_held3 (fun w' => w'.cell? ⟨hb, 2, none⟩ = some (.slice (some ⟨rk, ro, none⟩) R.length rc) ∧ w'.cell? ⟨bk, bo + k, none⟩ = some (vI b1) ∧ w'.cell? ⟨rk, ro + j1, none⟩ = some (vI r0)) (go_keep) ((
            first
              | (go_at_call 10
                 refine (m1 _).mono ?_
                 rintro e w2 ⟨rfl, rfl⟩)
              | (refine step_append_lies _ rfl (.tmp 77) (.tmp 90) 22 rfl K 3 i3 (.int .i64 0) 1 8 under22 hi3 hz3 hs3 hb3 rfl (by omega) u13 B.length _ (by simp [Act.eval, Act.put]) HROW1.out ⟨wr.heap.size, 0, none⟩ 1 1 [vI r0] (by simp [Act.eval, Act.put]) rfl hnews1 hone1 (by omega) hmx1 (by omega) hbase1 (wr.heap.size + 1) hww1 ?_
                 intro g7 cap7 w7 hown6 hgrow6 hat6 hlt6
                 obtain ⟨hkey, s5, s6, s7⟩ := HKEY1.out g7 cap7 w7 hown6 hgrow6 hat6
                 have HO7 : Hd (Ol w w7 K hb mb xb n (.slice ea E.length ec) (.slice (some ⟨rk, ro, none⟩) R.length rc) (.slice fa' F.length fc') (.slice ta' T.length tc') E R F T x u12 (.slice (some ⟨g7, 0, none⟩) (B.length + 1) cap7) A (B ++ [r0])) := hkey
                 clear hown6 hgrow6 hat6 hlt6 hkey)))
          clear m1 ff0 dd0 dd1 HKEY1 HROW1 hnews1 hone1 hbase1 hww1 gh1 gh2 s5 s6 s7
          go_wp2_with fail
          refine ⟨⟨k + 1, _, _, by simp, by omega, HAB3.out, HO7.out⟩, by simp; omega⟩
      · have hEz' : decide (0 < (E.length : Int)) = true := decide_eq_true (by omega)
        have hel0 : E ≠ [] := by intro e; simp [e] at hEz
        obtain ⟨ek, eo, hea, hek, hecs⟩ : ∃ k o, ea = some ⟨k, o, none⟩ ∧ k < K ∧ ∀ i (h : i < E.length), wr.cell? ⟨k, o + i * 3, none⟩ = some (vI E[i].1) ∧ wr.cell? ⟨k, o + i * 3 + 1, none⟩ = some (vI E[i].2.1) ∧ wr.cell? ⟨k, o + i * 3 + 2, none⟩ = some (vI E[i].2.2) := by
          obtain ⟨a, c, e1, -, e2⟩ := HO.out.os.gs.e
          cases e1
          exact e2 hel0
        subst hea
        have d0 := hbc wr HO.out.os.gs.fr
        obtain ⟨b0, hb0⟩ : ∃ b, bs[k] = b := ⟨_, rfl⟩
        rw [hb0] at d0
        obtain ⟨j, hj⟩ : ∃ j : Nat, b0 % (E.length : Int) = j := ⟨(b0 % (E.length : Int)).toNat, by have := Int.emod_nonneg b0 (show (E.length : Int) ≠ 0 by omega); omega⟩
        have hjl : j < E.length := by have := Int.emod_lt_of_pos b0 (show (0 : Int) < E.length by omega); omega
        have m0 : ∀ v : World, Calls Try.prog 10 #[vI b0, .int .i64 E.length] v fun e w' => e = .returned (vI (j : Nat)) ∧ w' = v := fun v => by
          have := mod_int b0 E.length (by omega) (by omega) v
          rw [hj] at this
          exact this
        obtain ⟨f0, f1, f2⟩ := hecs j hjl
        have HMEM : Hd (E[j] ∈ E) := List.getElem_mem hjl
        obtain ⟨e, he⟩ : ∃ e, E[j] = e := ⟨_, rfl⟩
        rw [he] at f0 f1 f2 HMEM
        clear he hecs hj
        obtain ⟨e0, e1, e2⟩ := e
        simp only at f0 f1 f2
        have hj0 : (0 : Int) ≤ j := by omega
        have hj1 : (j : Int) < E.length := by omega
        have hk0 : (0 : Int) ≤ k := by omega
        have hk1 : (k : Int) < bs.length := by omega
        have hAl : A.length + 1 ≤ 1048577 := by have := HAB.out.1; omega
        have HOA : Hd (Ol w (wr.alloc (.cells #[vI e0, vI e1, vI e2] 27)).drew K hb mb xb n (.slice (some ⟨ek, eo, none⟩) E.length ec) (.slice ra R.length rc) (.slice fa' F.length fc') (.slice ta' T.length tc') E R F T x u12 u13 A B) := HO.out.stay (((Fr.refl _ wr).alloc _).drew)
        have HROW : Hd _ := HOA.out.e
        have hnews : ∀ j u, [vI e0, vI e1, vI e2][j]? = some u → (wr.alloc (.cells #[vI e0, vI e1, vI e2] 27)).drew.cell? ((⟨wr.heap.size, 0, none⟩ : Addr).add j) = some u :=
          World.news_of_block (w := (wr.alloc (.cells #[vI e0, vI e1, vI e2] 27)).drew) (cs := #[vI e0, vI e1, vI e2]) (heap_alloc_last wr (.cells #[vI e0, vI e1, vI e2] 27))
        have hone : ∀ u ∈ [vI e0, vI e1, vI e2], u.oneCell' = true := by intro u hu; simp at hu; rcases hu with rfl | rfl | rfl <;> rfl
        have hbase : K ≤ (wr.alloc (.cells #[vI e0, vI e1, vI e2] 27)).drew.heap.size := HOA.out.os.gs.lt.2.2.2
        have hw1 : (wr.alloc (.cells #[vI e0, vI e1, vI e2] 27)).drew.heap.size = wr.heap.size + 1 := by simp
        have hmx : A.length + 1 ≤ maxLen := by unfold maxLen; omega
        have HKEY : Hd (∀ g6 cap w6, w6.ownsRow K 27 3 (.slice (some ⟨g6, 0, none⟩) (A.length + 1) cap) (A.length + 1) (eCells A ++ [vI e0, vI e1, vI e2]) → (wr.alloc (.cells #[vI e0, vI e1, vI e2] 27)).drew.grownBy w6 u12.ownBlock → (u12.ownBlock = some g6 ∨ g6 = wr.heap.size + 1) →
            Ol w w6 K hb mb xb n (.slice (some ⟨ek, eo, none⟩) E.length ec) (.slice ra R.length rc) (.slice fa' F.length fc') (.slice ta' T.length tc') E R F T x (.slice (some ⟨g6, 0, none⟩) (A.length + 1) cap) u13 (A ++ [(e0, e1, e2)]) B ∧
            (w6.cell? ⟨hb, 1, none⟩ = some (.slice (some ⟨ek, eo, none⟩) E.length ec) ∧ w6.cell? ⟨bk, bo + k, none⟩ = some (vI b0) ∧ w6.cell? ⟨ek, eo + j * 3, none⟩ = some (vI e0) ∧ w6.cell? ⟨ek, eo + j * 3 + 1, none⟩ = some (vI e1) ∧ w6.cell? ⟨ek, eo + j * 3 + 2, none⟩ = some (vI e2))) := by
          intro g6 cap w6 ho hg ha
          have q := HOA.out.growE (e := (e0, e1, e2)) ho hg ha (by rw [hw1]; exact Nat.le_refl _)
          have f : Fr (fun _ => False) wr (wr.alloc (.cells #[vI e0, vI e1, vI e2] 27)).drew := ((Fr.refl _ wr).alloc _).drew
          have hlt : K ≤ wr.heap.size := HO.out.os.gs.lt.2.2.2
          have hkeep : ∀ o, w6.cell? ⟨ek, o, none⟩ = wr.cell? ⟨ek, o, none⟩ := fun o => ((grown_fr hg).cell (Nat.lt_of_lt_of_le (Nat.lt_of_lt_of_le hek hlt) f.size) (fun e => by have := (HO.out.e.ge ek e).1; omega)).trans (f.cell (Nat.lt_of_lt_of_le hek hlt) (fun h => h))
          refine ⟨q, q.os.gs.heads.2.1, ?_, (hkeep _).trans f0, (hkeep _).trans f1, (hkeep _).trans f2⟩
          have := hbc w6 q.os.gs.fr
          rw [hb0] at this
          exact this
        have HAB2 : Hd ((A ++ [(e0, e1, e2)]).length ≤ k + 1 ∧ B.length ≤ k ∧ (∀ e ∈ A ++ [(e0, e1, e2)], e ∈ E) ∧ (∀ r ∈ B, r ∈ R)) := by
          obtain ⟨p1, p2, p3, p4⟩ := HAB.out
          refine ⟨by simp; omega, p2, fun e he => ?_, p4⟩
          rcases List.mem_append.1 he with h | h
          · exact p3 e h
          · rw [List.mem_singleton.1 h]; exact HMEM.out
        clear hb0 HO HOA HMEM HAB
        go_upto_region 11 with fail
        go_region_held3 (fun w' => w'.cell? ⟨hb, 1, none⟩ = some (.slice (some ⟨ek, eo, none⟩) E.length ec) ∧ w'.cell? ⟨bk, bo + k, none⟩ = some (vI b0) ∧ w'.cell? ⟨ek, eo + j * 3, none⟩ = some (vI e0) ∧ w'.cell? ⟨ek, eo + j * 3 + 1, none⟩ = some (vI e1) ∧ w'.cell? ⟨ek, eo + j * 3 + 2, none⟩ = some (vI e2)) (go_keep) ((
          first
            | (go_at_call 10
               refine (m0 _).mono ?_
               rintro e w2 ⟨rfl, rfl⟩)
            | (refine step_append_lies _ rfl (.tmp 58) (.tmp 71) 24 rfl K 27 i27 (.agg #[vI 0, vI 0, vI 0]) 3 24 under24 hi27 hz27 hs27 hb27 rfl (by omega) u12 A.length _ (by simp [Act.eval, Act.put]) HROW.out ⟨wr.heap.size, 0, none⟩ 1 1 [vI e0, vI e1, vI e2] (by simp [Act.eval, Act.put]) rfl hnews hone (by omega) hmx (by omega) hbase (wr.heap.size + 1) hw1 ?_
               intro g6 cap6 w6 hown6 hgrow6 hat6 hlt6
               obtain ⟨hkey, s0, s1, s2, s3, s4⟩ := HKEY.out g6 cap6 w6 hown6 hgrow6 hat6
               have HO6 : Hd (Ol w w6 K hb mb xb n (.slice (some ⟨ek, eo, none⟩) E.length ec) (.slice ra R.length rc) (.slice fa' F.length fc') (.slice ta' T.length tc') E R F T x (.slice (some ⟨g6, 0, none⟩) (A.length + 1) cap6) u13 (A ++ [(e0, e1, e2)]) B) := hkey
               clear hown6 hgrow6 hat6 hlt6 hkey)))
        clear m0 f0 f1 f2 d0 HKEY HROW hnews hone hbase hw1 s0 s1 s2 s3 s4 h0 h1 h2
        generalize A ++ [(e0, e1, e2)] = A2 at *
        generalize Value.slice (some ⟨g6, 0, none⟩) (A.length + 1) cap6 = av2 at *
        by_cases hRz : R.length = 0
        · have hRz' : decide (0 < (R.length : Int)) = false := decide_eq_false (by omega)
          have hRn : ¬ (0 < R.length) := by omega
          clear hRz
          have HAB3 : Hd (A2.length ≤ k + 1 ∧ B.length ≤ k + 1 ∧ (∀ e ∈ A2, e ∈ E) ∧ (∀ r ∈ B, r ∈ R)) := by
            obtain ⟨p1, p2, p3, p4⟩ := HAB2.out
            exact ⟨by omega, by omega, p3, p4⟩
          have gh2 : w6.cell? ⟨hb, 2, none⟩ = some (.slice ra R.length rc) := HO6.out.os.gs.heads.2.2
          have gh1 : w6.cell? ⟨hb, 1, none⟩ = some (.slice (some ⟨ek, eo, none⟩) E.length ec) := HO6.out.os.gs.heads.2.1
          have hkk0 : (0 : Int) ≤ k := by omega
          have hkk1 : (k : Int) < bs.length := by omega
          go_wp2_with fail
          refine ⟨⟨k + 1, _, _, by simp, by omega, HAB3.out, HO6.out⟩, by simp; omega⟩
        · have hRz' : decide (0 < (R.length : Int)) = true := decide_eq_true (by omega)
          have hrl0 : R ≠ [] := by intro e; simp [e] at hRz
          obtain ⟨rk, ro, hra, hrk, hrcs⟩ : ∃ k o, ra = some ⟨k, o, none⟩ ∧ k < K ∧ ∀ i (h : i < R.length), w6.cell? ⟨k, o + i, none⟩ = some (vI R[i]) := by
            obtain ⟨a, c, e1, -, e2⟩ := HO6.out.os.gs.r
            cases e1
            exact e2 hrl0
          subst hra
          have dd0 := hbc w6 HO6.out.os.gs.fr
          obtain ⟨b1, hb1⟩ : ∃ b, bs[k] = b := ⟨_, rfl⟩
          rw [hb1] at dd0
          obtain ⟨j1, hj1⟩ : ∃ j : Nat, b1 % (R.length : Int) = j := ⟨(b1 % (R.length : Int)).toNat, by have := Int.emod_nonneg b1 (show (R.length : Int) ≠ 0 by omega); omega⟩
          have hj1l : j1 < R.length := by have := Int.emod_lt_of_pos b1 (show (0 : Int) < R.length by omega); omega
          have m1 : ∀ v : World, Calls Try.prog 10 #[vI b1, .int .i64 R.length] v fun e w' => e = .returned (vI (j1 : Nat)) ∧ w' = v := fun v => by
            have := mod_int b1 R.length (by omega) (by omega) v
            rw [hj1] at this
            exact this
          have ff0 := hrcs j1 hj1l
          have HMEM1 : Hd (R[j1] ∈ R) := List.getElem_mem hj1l
          obtain ⟨r0, hr0⟩ : ∃ e, R[j1] = e := ⟨_, rfl⟩
          rw [hr0] at ff0 HMEM1
          clear hr0 hrcs hj1
          have hjj0 : (0 : Int) ≤ j1 := by omega
          have hjj1 : (j1 : Int) < R.length := by omega
          have hkk0 : (0 : Int) ≤ k := by omega
          have hkk1 : (k : Int) < bs.length := by omega
          have hBl : B.length + 1 ≤ 1048577 := by have := HAB2.out.2.1; omega
          have HOA1 : Hd (Ol w (w6.alloc (.cells #[vI r0] 3)).drew K hb mb xb n (.slice (some ⟨ek, eo, none⟩) E.length ec) (.slice (some ⟨rk, ro, none⟩) R.length rc) (.slice fa' F.length fc') (.slice ta' T.length tc') E R F T x av2 u13 A2 B) := HO6.out.stay (((Fr.refl _ w6).alloc _).drew)
          have HROW1 : Hd _ := HOA1.out.r
          have hnews1 : ∀ j u, [vI r0][j]? = some u → (w6.alloc (.cells #[vI r0] 3)).drew.cell? ((⟨w6.heap.size, 0, none⟩ : Addr).add j) = some u :=
            World.news_of_block (w := (w6.alloc (.cells #[vI r0] 3)).drew) (cs := #[vI r0]) (heap_alloc_last w6 (.cells #[vI r0] 3))
          have hone1 : ∀ u ∈ [vI r0], u.oneCell' = true := by intro u hu; simp at hu; subst hu; rfl
          have hbase1 : K ≤ (w6.alloc (.cells #[vI r0] 3)).drew.heap.size := HOA1.out.os.gs.lt.2.2.2
          have hww1 : (w6.alloc (.cells #[vI r0] 3)).drew.heap.size = w6.heap.size + 1 := by simp
          have hmx1 : B.length + 1 ≤ maxLen := by unfold maxLen; omega
          have HKEY1 : Hd (∀ g6 cap wv, wv.ownsRow K 3 1 (.slice (some ⟨g6, 0, none⟩) (B.length + 1) cap) (B.length + 1) (B.map vI ++ [vI r0]) → (w6.alloc (.cells #[vI r0] 3)).drew.grownBy wv u13.ownBlock → (u13.ownBlock = some g6 ∨ g6 = w6.heap.size + 1) →
              Ol w wv K hb mb xb n (.slice (some ⟨ek, eo, none⟩) E.length ec) (.slice (some ⟨rk, ro, none⟩) R.length rc) (.slice fa' F.length fc') (.slice ta' T.length tc') E R F T x av2 (.slice (some ⟨g6, 0, none⟩) (B.length + 1) cap) A2 (B ++ [r0]) ∧
              (wv.cell? ⟨hb, 2, none⟩ = some (.slice (some ⟨rk, ro, none⟩) R.length rc) ∧ wv.cell? ⟨bk, bo + k, none⟩ = some (vI b1) ∧ wv.cell? ⟨rk, ro + j1, none⟩ = some (vI r0))) := by
            intro g6 cap wv ho hg ha
            have q := HOA1.out.growI (z := r0) ho hg ha (by rw [hww1]; exact Nat.le_refl _)
            have f : Fr (fun _ => False) w6 (w6.alloc (.cells #[vI r0] 3)).drew := ((Fr.refl _ w6).alloc _).drew
            have hlt : K ≤ w6.heap.size := HO6.out.os.gs.lt.2.2.2
            have hkeep : ∀ o, wv.cell? ⟨rk, o, none⟩ = w6.cell? ⟨rk, o, none⟩ := fun o => ((grown_fr hg).cell (Nat.lt_of_lt_of_le (Nat.lt_of_lt_of_le hrk hlt) f.size) (fun e => by have := (HO6.out.r.ge rk e).1; omega)).trans (f.cell (Nat.lt_of_lt_of_le hrk hlt) (fun h => h))
            refine ⟨q, q.os.gs.heads.2.2, ?_, (hkeep _).trans ff0⟩
            have := hbc wv q.os.gs.fr
            rw [hb1] at this
            exact this
          have HAB3 : Hd (A2.length ≤ k + 1 ∧ (B ++ [r0]).length ≤ k + 1 ∧ (∀ e ∈ A2, e ∈ E) ∧ (∀ r ∈ B ++ [r0], r ∈ R)) := by
            obtain ⟨p1, p2, p3, p4⟩ := HAB2.out
            refine ⟨by omega, by simp; omega, p3, fun e he => ?_⟩
            rcases List.mem_append.1 he with h | h
            · exact p4 e h
            · rw [List.mem_singleton.1 h]; exact HMEM1.out
          have gh2 : w6.cell? ⟨hb, 2, none⟩ = some (.slice (some ⟨rk, ro, none⟩) R.length rc) := HO6.out.os.gs.heads.2.2
          have gh1 : w6.cell? ⟨hb, 1, none⟩ = some (.slice (some ⟨ek, eo, none⟩) E.length ec) := HO6.out.os.gs.heads.2.1
          have dd1 : w6.drew.cell? ⟨bk, bo + k, none⟩ = some (vI b1) := dd0
          clear hb1 HO6 HOA1 HMEM1 hbc
          go_upto_region 13 with fail
          go_region_held3 (fun w' => w'.cell? ⟨hb, 2, none⟩ = some (.slice (some ⟨rk, ro, none⟩) R.length rc) ∧ w'.cell? ⟨bk, bo + k, none⟩ = some (vI b1) ∧ w'.cell? ⟨rk, ro + j1, none⟩ = some (vI r0)) (go_keep) ((
            first
              | (go_at_call 10
                 refine (m1 _).mono ?_
                 rintro e w2 ⟨rfl, rfl⟩)
              | (refine step_append_lies _ rfl (.tmp 77) (.tmp 90) 22 rfl K 3 i3 (.int .i64 0) 1 8 under22 hi3 hz3 hs3 hb3 rfl (by omega) u13 B.length _ (by simp [Act.eval, Act.put]) HROW1.out ⟨w6.heap.size, 0, none⟩ 1 1 [vI r0] (by simp [Act.eval, Act.put]) rfl hnews1 hone1 (by omega) hmx1 (by omega) hbase1 (w6.heap.size + 1) hww1 ?_
                 intro g7 cap7 w7 hown6 hgrow6 hat6 hlt6
                 obtain ⟨hkey, s5, s6, s7⟩ := HKEY1.out g7 cap7 w7 hown6 hgrow6 hat6
                 have HO7 : Hd (Ol w w7 K hb mb xb n (.slice (some ⟨ek, eo, none⟩) E.length ec) (.slice (some ⟨rk, ro, none⟩) R.length rc) (.slice fa' F.length fc') (.slice ta' T.length tc') E R F T x av2 (.slice (some ⟨g7, 0, none⟩) (B.length + 1) cap7) A2 (B ++ [r0])) := hkey
                 clear hown6 hgrow6 hat6 hlt6 hkey)))
          clear m1 ff0 dd0 dd1 HKEY1 HROW1 hnews1 hone1 hbase1 hww1 gh1 gh2 s5 s6 s7
          go_wp2_with fail
          refine ⟨⟨k + 1, _, _, by simp, by omega, HAB3.out, HO7.out⟩, by simp; omega⟩
    · clear h0 h1 h2
      obtain ⟨h0, h1, h2⟩ := HO.out.os.gs.heads
      have HAB0 : Hd (A.length ≤ 1048576 ∧ B.length ≤ 1048576 ∧ (∀ e ∈ A, e ∈ E) ∧ (∀ r ∈ B, r ∈ R)) := by
        obtain ⟨p1, p2, p3, p4⟩ := HAB.out
        exact ⟨by omega, by omega, p3, p4⟩
      clear HAB HBC HBI hk
      have hwE : wrap64 ((E.length : Int) - 1) = (E.length : Int) - 1 := by unfold wrap64; omega
      go_wp2_with fail
      clear h0 h1 h2
      go_loopw [12, 15] (fun av iv wr => ∃ (q : Nat) (z : Int) (A2 : List Ed), iv = .int .i64 z ∧ Hd (z = (q : Int) - 1) ∧ q ≤ E.length ∧ Hd (A2.length + q ≤ 1048576 + E.length ∧ (∀ e ∈ A2, e ∈ E) ∧ ∀ j, q ≤ j → j < E.length → eg E j ∈ A2) ∧ Hd (Ol w wr K hb mb xb n (.slice ea E.length ec) (.slice ra R.length rc) (.slice fa' F.length fc') (.slice ta' T.length tc') E R F T x av u13 A2 B)) (fun _ v _ => match v with | .int _ q => (q + 1).toNat | _ => 0)
      case atStart => exact ⟨E.length, _, A, rfl, rfl, Nat.le_refl _, ⟨by have := HAB0.out.1; omega, HAB0.out.2.2.1, fun j h1 h2 => absurd h2 (by omega)⟩, HO.out⟩
      case round =>
        obtain ⟨q, z, A2, rfl, HZ, hq, HAB, HO⟩ := hrel
        obtain ⟨h0, h1, h2⟩ := HO.out.os.gs.heads
        by_cases hz : 0 ≤ z
        · obtain ⟨i, rfl⟩ : ∃ i : Nat, z = i := ⟨z.toNat, by omega⟩
          have hqi : q = i + 1 := by have := HZ.out; omega
          have hil : i < E.length := by omega
          have hwi : wrap64 ((i : Int) - 1) = (i : Int) - 1 := by unfold wrap64; omega
          have HQ : Hd (q = i + 1) := hqi
          clear hqi HZ hq hz
          obtain ⟨ek, eo, hea, hek, hecs⟩ : ∃ k o, ea = some ⟨k, o, none⟩ ∧ k < K ∧ ∀ i (h : i < E.length), wr.cell? ⟨k, o + i * 3, none⟩ = some (vI E[i].1) ∧ wr.cell? ⟨k, o + i * 3 + 1, none⟩ = some (vI E[i].2.1) ∧ wr.cell? ⟨k, o + i * 3 + 2, none⟩ = some (vI E[i].2.2) := by
            obtain ⟨a, c, e1, -, e2⟩ := HO.out.os.gs.e
            cases e1
            exact e2 (by intro e; simp [e] at hil)
          subst hea
          obtain ⟨d1, d2, d3⟩ := hecs i hil
          have HEG : Hd (eg E i = E[i]) := eg_getO hil
          obtain ⟨e, he⟩ : ∃ e, E[i] = e := ⟨_, rfl⟩
          rw [he] at d1 d2 d3 HEG
          have HMEM : Hd (e ∈ E) := by rw [← he]; exact List.getElem_mem hil
          clear he hecs
          obtain ⟨e0, e1, e2⟩ := e
          simp only at d1 d2 d3
          have hi0 : (0 : Int) ≤ i := by omega
          have hi1 : (i : Int) < E.length := by omega
          have hAl : A2.length + 1 ≤ 2097153 := by have := HAB.out.1; have := HQ.out; omega
          have HO1 : Hd ((wr.alloc (.cells #[vI e0, vI e1, vI e2] 27)).ownsRow K 27 3 u12 A2.length (eCells A2)) := World.ownsRow.alloc HO.out.e _
          have hnews : ∀ j u, [vI e0, vI e1, vI e2][j]? = some u → (wr.alloc (.cells #[vI e0, vI e1, vI e2] 27)).cell? ((⟨wr.heap.size, 0, none⟩ : Addr).add j) = some u :=
            World.news_of_block (cs := #[vI e0, vI e1, vI e2]) (heap_alloc_last wr (.cells #[vI e0, vI e1, vI e2] 27))
          have HOA : Hd _ := HO.out.stay ((Fr.refl _ wr).alloc (.cells #[vI e0, vI e1, vI e2] 27))
          have hbase : K ≤ (wr.alloc (.cells #[vI e0, vI e1, vI e2] 27)).heap.size := HOA.out.os.gs.lt.2.2.2
          go_wp2_with ((at_builtin; refine Hd.out ?_))
          unfold Hd
          refine wpList_append_lies _ rfl (.tmp 100) (.tmp 106) 24 rfl K 27 i27 (.agg #[vI 0, vI 0, vI 0]) 3 24 under24 hi27 hz27 hs27 hb27 rfl (by omega) u12 A2.length _ rfl HO1.out ⟨wr.heap.size, 0, none⟩ 1 1 [vI e0, vI e1, vI e2] rfl rfl hnews (by intro u hu; simp at hu; rcases hu with rfl | rfl | rfl <;> rfl) (by omega) (by unfold maxLen; omega) (by omega) hbase (wr.heap.size + 1) (by simp) ?_
          intro g6 cap6 w9 hown6 hgrow6 hat6 hlt6
          have HO6 : Hd _ := HOA.out.growE (e := (e0, e1, e2)) hown6 hgrow6 hat6 (by simp)
          have hfw : Fr (fun _ => False) wr (wr.alloc (.cells #[vI e0, vI e1, vI e2] 27)) := (Fr.refl _ wr).alloc _
          clear hown6 hgrow6 hat6 hlt6 HO HOA HO1 hnews hbase d1 d2 d3 hfw
          have HAB6 : Hd ((A2 ++ [(e0, e1, e2)]).length + i ≤ 1048576 + E.length ∧ (∀ e ∈ A2 ++ [(e0, e1, e2)], e ∈ E) ∧ ∀ j, i ≤ j → j < E.length → eg E j ∈ A2 ++ [(e0, e1, e2)]) := by
            obtain ⟨p1, p2, p3⟩ := HAB.out
            have := HQ.out
            refine ⟨by simp; omega, fun e he => ?_, fun j h1 h2 => ?_⟩
            · rcases List.mem_append.1 he with h | h
              · exact p2 e h
              · rw [List.mem_singleton.1 h]; exact HMEM.out
            · by_cases e : j = i
              · rw [e, show eg E i = _ from HEG.out]; simp
              · exact List.mem_append_left _ (p3 j (by omega) h2)
          clear HAB h0 h1 h2
          go_wp2_with fail
          refine ⟨⟨i, (i : Int) - 1, _, rfl, rfl, by omega, HAB6.out, HO6.out⟩, by simp <;> omega⟩
        · have HMA : Hd (A2.length ≤ 2097152 ∧ ∀ e, e ∈ A2 ↔ e ∈ E) := by
            obtain ⟨p1, p2, p3⟩ := HAB.out
            have := HZ.out
            refine ⟨by omega, fun e => ⟨p2 e, fun he => ?_⟩⟩
            obtain ⟨j, hj, rfl⟩ := List.getElem_of_mem he
            rw [← eg_getO hj]
            exact p3 j (by omega) hj
          have hwR : wrap64 ((R.length : Int) - 1) = (R.length : Int) - 1 := by unfold wrap64; omega
          have HAB1 : Hd (B.length ≤ 1048576 ∧ (∀ r ∈ B, r ∈ R)) := ⟨HAB0.out.2.1, HAB0.out.2.2.2⟩
          clear HAB HZ hq HAB0
          go_wp2_with fail
          clear h0 h1 h2
          go_loopw [13, 16] (fun bv iv wr => ∃ (q : Nat) (z : Int) (B2 : List Int), iv = .int .i64 z ∧ Hd (z = (q : Int) - 1) ∧ q ≤ R.length ∧ Hd (B2.length + q ≤ 1048576 + R.length ∧ (∀ e ∈ B2, e ∈ R) ∧ ∀ j r, q ≤ j → R[j]? = some r → r ∈ B2) ∧ Hd (Ol w wr K hb mb xb n (.slice ea E.length ec) (.slice ra R.length rc) (.slice fa' F.length fc') (.slice ta' T.length tc') E R F T x u12 bv A2 B2)) (fun _ v _ => match v with | .int _ q => (q + 1).toNat | _ => 0)
          case atStart => exact ⟨R.length, _, B, rfl, rfl, Nat.le_refl _, ⟨by have := HAB1.out.1; omega, HAB1.out.2, fun j r h1 h2 => absurd (List.getElem?_eq_some_iff.1 h2).1 (by omega)⟩, HO.out⟩
          case round =>
            obtain ⟨q, z, B2, rfl, HZ, hq, HAB, HO⟩ := hrel
            obtain ⟨h0, h1, h2⟩ := HO.out.os.gs.heads
            by_cases hz : 0 ≤ z
            · obtain ⟨i, rfl⟩ : ∃ i : Nat, z = i := ⟨z.toNat, by omega⟩
              have hqi : q = i + 1 := by have := HZ.out; omega
              have hil : i < R.length := by omega
              have hwi : wrap64 ((i : Int) - 1) = (i : Int) - 1 := by unfold wrap64; omega
              have HQ : Hd (q = i + 1) := hqi
              clear hqi HZ hq hz
              obtain ⟨ek, eo, hea, hek, hecs⟩ : ∃ k o, ra = some ⟨k, o, none⟩ ∧ k < K ∧ ∀ i (h : i < R.length), wr.cell? ⟨k, o + i, none⟩ = some (vI R[i]) := by
                obtain ⟨a, c, e1, -, e2⟩ := HO.out.os.gs.r
                cases e1
                exact e2 (by intro e; simp [e] at hil)
              subst hea
              have d1 := hecs i hil
              have HEG : Hd (R[i]? = some R[i]) := List.getElem?_eq_getElem hil
              obtain ⟨r0, he⟩ : ∃ e, R[i] = e := ⟨_, rfl⟩
              rw [he] at d1 HEG
              have HMEM : Hd (r0 ∈ R) := by rw [← he]; exact List.getElem_mem hil
              clear he hecs
              have hi0 : (0 : Int) ≤ i := by omega
              have hi1 : (i : Int) < R.length := by omega
              have hBl : B2.length + 1 ≤ 2097153 := by have := HAB.out.1; have := HQ.out; omega
              have HO1 : Hd ((wr.alloc (.cells #[vI r0] 3)).ownsRow K 3 1 u13 B2.length (B2.map vI)) := World.ownsRow.alloc HO.out.r _
              have hnews : ∀ j u, [vI r0][j]? = some u → (wr.alloc (.cells #[vI r0] 3)).cell? ((⟨wr.heap.size, 0, none⟩ : Addr).add j) = some u :=
                World.news_of_block (cs := #[vI r0]) (heap_alloc_last wr (.cells #[vI r0] 3))
              have HOA : Hd _ := HO.out.stay ((Fr.refl _ wr).alloc (.cells #[vI r0] 3))
              have hbase : K ≤ (wr.alloc (.cells #[vI r0] 3)).heap.size := HOA.out.os.gs.lt.2.2.2
              go_wp2_with ((at_builtin; refine Hd.out ?_))
              unfold Hd
              refine wpList_append_lies _ rfl (.tmp 116) (.tmp 122) 22 rfl K 3 i3 (.int .i64 0) 1 8 under22 hi3 hz3 hs3 hb3 rfl (by omega) u13 B2.length _ rfl HO1.out ⟨wr.heap.size, 0, none⟩ 1 1 [vI r0] rfl rfl hnews (by intro u hu; simp at hu; subst hu; rfl) (by omega) (by unfold maxLen; omega) (by omega) hbase (wr.heap.size + 1) (by simp) ?_
              intro g6 cap6 w9 hown6 hgrow6 hat6 hlt6
              have HO6 : Hd _ := HOA.out.growI (z := r0) hown6 hgrow6 hat6 (by simp)
              have hfw : Fr (fun _ => False) wr (wr.alloc (.cells #[vI r0] 3)) := (Fr.refl _ wr).alloc _
              clear hown6 hgrow6 hat6 hlt6 HO HOA HO1 hnews hbase d1 hfw
              have HAB6 : Hd ((B2 ++ [r0]).length + i ≤ 1048576 + R.length ∧ (∀ e ∈ B2 ++ [r0], e ∈ R) ∧ ∀ j r, i ≤ j → R[j]? = some r → r ∈ B2 ++ [r0]) := by
                obtain ⟨p1, p2, p3⟩ := HAB.out
                have := HQ.out
                refine ⟨by simp; omega, fun e he => ?_, fun j r h1 h2 => ?_⟩
                · rcases List.mem_append.1 he with h | h
                  · exact p2 e h
                  · rw [List.mem_singleton.1 h]; exact HMEM.out
                · by_cases e : j = i
                  · rw [e, show R[i]? = _ from HEG.out] at h2
                    cases h2
                    simp
                  · exact List.mem_append_left _ (p3 j r (by omega) h2)
              clear HAB h0 h1 h2
              go_wp2_with fail
              refine ⟨⟨i, (i : Int) - 1, _, rfl, rfl, by omega, HAB6.out, HO6.out⟩, by simp <;> omega⟩
            · have HMB : Hd (B2.length ≤ 2097152 ∧ ∀ r, r ∈ B2 ↔ r ∈ R) := by
                obtain ⟨p1, p2, p3⟩ := HAB.out
                have := HZ.out
                refine ⟨by omega, fun r => ⟨p2 r, fun hr => ?_⟩⟩
                obtain ⟨j, hj, rfl⟩ := List.getElem_of_mem hr
                exact p3 j _ (by omega) (List.getElem?_eq_getElem hj)
              clear HAB HZ hq HAB1
              have HGy : Hd (RightG n A2 B2) := ⟨HG.out.1, fun e he => HG.out.2.1 e ((HMA.out.2 e).1 he), fun r hr => HG.out.2.2 r ((HMB.out.2 r).1 hr)⟩
              go_wp2_with fail
              refine (from_any n _ _ A2 B2 wr HO.out.e.at HO.out.r.at (by have := HMA.out.1; omega) (by have := HMB.out.1; omega)).mono ?_
              rintro e w5 ⟨hF5, ⟨hno, -⟩ | ⟨-, yb, y, rfl, hyb, hrowy, hleasty⟩⟩
              · exact absurd HGy.out hno
              rw [Int.toNat_natCast] at hrowy hleasty ⊢
              have HO5 : Hd _ := HO.out.stay hF5
              have hyx := map_least HG.out (hleasty.same HMA.out.2 HMB.out.2) HL.out
              have HX5 : Hd (IntsAt w5.heap.size w5 (.slice (some ⟨xb, 0, none⟩) n n) ((List.range n).map x)) := HO5.out.os.gs.x.intsAt (Nat.le_refl _)
              have HY5 : Hd (IntsAt w5.heap.size w5 (.slice (some ⟨yb, 0, none⟩) n n) ((List.range n).map x)) := by rw [← hyx]; exact hrowy.intsAt (Nat.le_refl _)
              clear hF5 hyb hrowy hleasty hyx HO h0 h1 h2 HGy
              go_wp2_with fail
              refine (eqInts_any _ _ _ _ w5 HX5.out HY5.out (by simp; omega) (by simp; omega)).mono ?_
              rintro e w6 ⟨rfl, hF6⟩
              rw [decide_eq_true rfl]
              have HO6 : Hd _ := HO5.out.stay hF6
              obtain ⟨h0, h1, h2⟩ := HO6.out.os.gs.heads
              clear hF6 HO5 HX5 HY5
              go_wp2_with fail
              clear h0 h1 h2
              go_loopw [12, 20] (fun av iv wr => ∃ (i : Nat) (A3 : List Ed), iv = .int .i64 i ∧ i ≤ F.length ∧ Hd (A3.length ≤ 2097152 + i ∧ (∀ e ∈ A3, e ∈ E ∨ e ∈ F) ∧ (∀ e ∈ E, e ∈ A3) ∧ ∀ j, j < i → j < F.length → eg F j ∈ A3) ∧ Hd (Ol w wr K hb mb xb n (.slice ea E.length ec) (.slice ra R.length rc) (.slice fa' F.length fc') (.slice ta' T.length tc') E R F T x av u13 A3 B2)) (fun _ v _ => match v with | .int _ q => F.length - q.toNat | _ => 0)
              case atStart => exact ⟨0, A2, rfl, Nat.zero_le _, ⟨HMA.out.1, fun e h => Or.inl ((HMA.out.2 e).1 h), fun e h => (HMA.out.2 e).2 h, fun j h => absurd h (Nat.not_lt_zero _)⟩, HO6.out⟩
              case round =>
                obtain ⟨i, A3, rfl, hi, HAB, HO⟩ := hrel
                clear HO6
                obtain ⟨h0, h1, h2⟩ := HO.out.os.gs.heads
                obtain ⟨m1, m2⟩ := HO.out.os.headsM
                by_cases hil : i < F.length
                · obtain ⟨ek, eo, hea, hek, hecs⟩ : ∃ k o, fa' = some ⟨k, o, none⟩ ∧ k < K ∧ ∀ i (h : i < F.length), wr.cell? ⟨k, o + i * 3, none⟩ = some (vI F[i].1) ∧ wr.cell? ⟨k, o + i * 3 + 1, none⟩ = some (vI F[i].2.1) ∧ wr.cell? ⟨k, o + i * 3 + 2, none⟩ = some (vI F[i].2.2) := by
                    obtain ⟨a, c, e1, -, e2⟩ := HO.out.os.e
                    cases e1
                    exact e2 (by intro e; simp [e] at hil)
                  subst hea
                  obtain ⟨d1, d2, d3⟩ := hecs i hil
                  have HEG : Hd (eg F i = F[i]) := eg_getO hil
                  obtain ⟨e, he⟩ : ∃ e, F[i] = e := ⟨_, rfl⟩
                  rw [he] at d1 d2 d3 HEG
                  have HMEM : Hd (e ∈ F) := by rw [← he]; exact List.getElem_mem hil
                  clear he hecs
                  obtain ⟨e0, e1, e2⟩ := e
                  simp only at d1 d2 d3
                  have hi0 : (0 : Int) ≤ i := by omega
                  have hi1 : (i : Int) < F.length := by omega
                  have hAl : A3.length + 1 ≤ 3145729 := by have := HAB.out.1; omega
                  have HO1 : Hd ((wr.alloc (.cells #[vI e0, vI e1, vI e2] 27)).ownsRow K 27 3 u12 A3.length (eCells A3)) := World.ownsRow.alloc HO.out.e _
                  have hnews : ∀ j u, [vI e0, vI e1, vI e2][j]? = some u → (wr.alloc (.cells #[vI e0, vI e1, vI e2] 27)).cell? ((⟨wr.heap.size, 0, none⟩ : Addr).add j) = some u :=
                    World.news_of_block (cs := #[vI e0, vI e1, vI e2]) (heap_alloc_last wr (.cells #[vI e0, vI e1, vI e2] 27))
                  have HOA : Hd _ := HO.out.stay ((Fr.refl _ wr).alloc (.cells #[vI e0, vI e1, vI e2] 27))
                  have hbase : K ≤ (wr.alloc (.cells #[vI e0, vI e1, vI e2] 27)).heap.size := HOA.out.os.gs.lt.2.2.2
                  go_wp2_with ((at_builtin; refine Hd.out ?_))
                  unfold Hd
                  refine wpList_append_lies _ rfl (.tmp 164) (.tmp 170) 24 rfl K 27 i27 (.agg #[vI 0, vI 0, vI 0]) 3 24 under24 hi27 hz27 hs27 hb27 rfl (by omega) u12 A3.length _ rfl HO1.out ⟨wr.heap.size, 0, none⟩ 1 1 [vI e0, vI e1, vI e2] rfl rfl hnews (by intro u hu; simp at hu; rcases hu with rfl | rfl | rfl <;> rfl) (by omega) (by unfold maxLen; omega) (by omega) hbase (wr.heap.size + 1) (by simp) ?_
                  intro g6 cap6 w9 hown6 hgrow6 hat6 hlt6
                  have HO6 : Hd _ := HOA.out.growE (e := (e0, e1, e2)) hown6 hgrow6 hat6 (by simp)
                  have hfw : Fr (fun _ => False) wr (wr.alloc (.cells #[vI e0, vI e1, vI e2] 27)) := (Fr.refl _ wr).alloc _
                  clear hown6 hgrow6 hat6 hlt6 HO HOA HO1 hnews hbase d1 d2 d3 hfw
                  have HAB6 : Hd ((A3 ++ [(e0, e1, e2)]).length ≤ 2097152 + (i + 1) ∧ (∀ e ∈ A3 ++ [(e0, e1, e2)], e ∈ E ∨ e ∈ F) ∧ (∀ e ∈ E, e ∈ A3 ++ [(e0, e1, e2)]) ∧ ∀ j, j < i + 1 → j < F.length → eg F j ∈ A3 ++ [(e0, e1, e2)]) := by
                    obtain ⟨p1, p2, p3, p4⟩ := HAB.out
                    refine ⟨by simp; omega, fun e he => ?_, fun e he => List.mem_append_left _ (p3 e he), fun j h1 h2 => ?_⟩
                    · rcases List.mem_append.1 he with h | h
                      · exact p2 e h
                      · rw [List.mem_singleton.1 h]; exact Or.inr HMEM.out
                    · by_cases e : j = i
                      · rw [e, show eg F i = _ from HEG.out]; simp
                      · exact List.mem_append_left _ (p4 j (by omega) h2)
                  clear HAB h0 h1 h2 m1 m2
                  go_wp2_with fail
                  refine ⟨⟨i + 1, _, by simp, by omega, HAB6.out, HO6.out⟩, by simp; omega⟩
                · have HMZ : Hd (A3.length ≤ 3145728 ∧ ∀ e, e ∈ A3 ↔ e ∈ E ∨ e ∈ F) := by
                    obtain ⟨p1, p2, p3, p4⟩ := HAB.out
                    refine ⟨by omega, fun e => ⟨p2 e, fun he => ?_⟩⟩
                    rcases he with he | he
                    · exact p3 e he
                    · obtain ⟨j, hj, rfl⟩ := List.getElem_of_mem he
                      rw [← eg_getO hj]
                      exact p4 j (by omega) hj
                  clear HAB hi
                  have HGz : Hd (RightG n A3 B2) := ⟨HG.out.1, fun e he => ((HMZ.out.2 e).1 he).elim (HG.out.2.1 e) (HG2.out.2.1 e), fun r hr => HG.out.2.2 r ((HMB.out.2 r).1 hr)⟩
                  go_wp2_with fail
                  refine (from_any n _ _ A3 B2 wr HO.out.e.at HO.out.r.at (by have := HMZ.out.1; omega) (by have := HMB.out.1; omega)).mono ?_
                  rintro e w7 ⟨hF7, ⟨hno, -⟩ | ⟨-, zb, z', rfl, hzb, hrowz, hleastz⟩⟩
                  · exact absurd HGz.out hno
                  rw [Int.toNat_natCast] at hrowz hleastz ⊢
                  have HO7 : Hd _ := HO.out.stay hF7
                  have HZ7 : Hd (Zw w7 u13 n zb z') := ⟨hrowz, fun k e => by have := (HO.out.r.ge k e).2; omega⟩
                  have HZX : Hd (∀ i, i < n → z' i ≤ x i) := fun i hi => HL.out.mono HG.out HGz.out hleastz (fun j d r => ⟨d, Int.le_refl _, r.mem (fun e h => (HMZ.out.2 e).2 (Or.inl h)) (fun r h => (HMB.out.2 r).2 h)⟩) hi
                  have HE7 : Hd (EdgesAt w7.heap.size w7 (.slice ea E.length ec) E) := HO7.out.os.gs.e.wide HO7.out.os.gs.lt.2.2.2
                  have HT7 : Hd (IntsAt w7.heap.size w7 (.slice ta' T.length tc') T) := HO7.out.os.r.wide HO7.out.os.gs.lt.2.2.2
                  clear h0 h1 h2 m1 m2 hF7 hzb hrowz hleastz HO HGz
                  obtain ⟨h0, h1, h2⟩ := HO7.out.os.gs.heads
                  obtain ⟨m1, m2⟩ := HO7.out.os.headsM
                  go_wp2_with fail
                  refine (from_any n _ _ E T w7 HE7.out HT7.out (by omega) (by omega)).mono ?_
                  rintro e w8 ⟨hF8, ⟨hno, -⟩ | ⟨-, wb, wt, rfl, hwb, hroww, hleastw⟩⟩
                  · exact absurd HG3.out hno
                  rw [Int.toNat_natCast] at hroww hleastw ⊢
                  have HO8 : Hd _ := HO7.out.stay hF8
                  have HZ8 : Hd (Zw w8 u13 n zb z') := HZ7.out.stay hF8
                  have HW8 : Hd (Zw w8 u13 n wb wt) := ⟨hroww, fun k e => by have := (HO7.out.r.ge k e).2; omega⟩
                  have HLw : Hd (Least n E T wt) := hleastw
                  clear h0 h1 h2 m1 m2 hF8 hwb hroww hleastw HO7 HZ7 HE7 HT7
                  go_wp2_with fail
                  go_loopw [13, 23] (fun bv iv wr => ∃ (i : Nat) (B4 : List Int), iv = .int .i64 i ∧ i ≤ T.length ∧ Hd (B4.length ≤ 2097152 + i ∧ (∀ r ∈ B4, r ∈ R ∨ r ∈ T) ∧ (∀ r ∈ R, r ∈ B4) ∧ ∀ j r, j < i → T[j]? = some r → r ∈ B4) ∧ Hd (Ol w wr K hb mb xb n (.slice ea E.length ec) (.slice ra R.length rc) (.slice fa' F.length fc') (.slice ta' T.length tc') E R F T x u12 bv A3 B4) ∧ Hd (Zw wr bv n zb z') ∧ Hd (Zw wr bv n wb wt)) (fun _ v _ => match v with | .int _ q => T.length - q.toNat | _ => 0)
                  case atStart => exact ⟨0, B2, rfl, Nat.zero_le _, ⟨HMB.out.1, fun e h => Or.inl ((HMB.out.2 e).1 h), fun e h => (HMB.out.2 e).2 h, fun j r h => absurd h (Nat.not_lt_zero _)⟩, HO8.out, HZ8.out, HW8.out⟩
                  case round =>
                    obtain ⟨i, B4, rfl, hi, HAB, HO, HZA, HWA⟩ := hrel
                    clear HO8 HZ8 HW8
                    obtain ⟨h0, h1, h2⟩ := HO.out.os.gs.heads
                    obtain ⟨m1, m2⟩ := HO.out.os.headsM
                    by_cases hil : i < T.length
                    · obtain ⟨ek, eo, hea, hek, hecs⟩ : ∃ k o, ta' = some ⟨k, o, none⟩ ∧ k < K ∧ ∀ i (h : i < T.length), wr.cell? ⟨k, o + i, none⟩ = some (vI T[i]) := by
                        obtain ⟨a, c, e1, -, e2⟩ := HO.out.os.r
                        cases e1
                        exact e2 (by intro e; simp [e] at hil)
                      subst hea
                      have d1 := hecs i hil
                      have HEG : Hd (T[i]? = some T[i]) := List.getElem?_eq_getElem hil
                      obtain ⟨r0, he⟩ : ∃ e, T[i] = e := ⟨_, rfl⟩
                      rw [he] at d1 HEG
                      have HMEM : Hd (r0 ∈ T) := by rw [← he]; exact List.getElem_mem hil
                      clear he hecs
                      have hi0 : (0 : Int) ≤ i := by omega
                      have hi1 : (i : Int) < T.length := by omega
                      have hBl : B4.length + 1 ≤ 3145729 := by have := HAB.out.1; omega
                      have HO1 : Hd ((wr.alloc (.cells #[vI r0] 3)).ownsRow K 3 1 u13 B4.length (B4.map vI)) := World.ownsRow.alloc HO.out.r _
                      have hnews : ∀ j u, [vI r0][j]? = some u → (wr.alloc (.cells #[vI r0] 3)).cell? ((⟨wr.heap.size, 0, none⟩ : Addr).add j) = some u :=
                        World.news_of_block (cs := #[vI r0]) (heap_alloc_last wr (.cells #[vI r0] 3))
                      have HOA : Hd _ := HO.out.stay ((Fr.refl _ wr).alloc (.cells #[vI r0] 3))
                      have hbase : K ≤ (wr.alloc (.cells #[vI r0] 3)).heap.size := HOA.out.os.gs.lt.2.2.2
                      go_wp2_with ((at_builtin; refine Hd.out ?_))
                      unfold Hd
                      refine wpList_append_lies _ rfl (.tmp 197) (.tmp 203) 22 rfl K 3 i3 (.int .i64 0) 1 8 under22 hi3 hz3 hs3 hb3 rfl (by omega) u13 B4.length _ rfl HO1.out ⟨wr.heap.size, 0, none⟩ 1 1 [vI r0] rfl rfl hnews (by intro u hu; simp at hu; subst hu; rfl) (by omega) (by unfold maxLen; omega) (by omega) hbase (wr.heap.size + 1) (by simp) ?_
                      intro g6 cap6 w9 hown6 hgrow6 hat6 hlt6
                      have HO6 : Hd _ := HOA.out.growI (z := r0) hown6 hgrow6 hat6 (by simp)
                      have hfw : Fr (fun _ => False) wr (wr.alloc (.cells #[vI r0] 3)) := (Fr.refl _ wr).alloc _
                      have HZ6 : Hd _ := (HZA.out.stay hfw).grow (m := B4.length + 1) (cap := cap6) hgrow6 hat6 (by simp)
                      have HW6 : Hd _ := (HWA.out.stay hfw).grow (m := B4.length + 1) (cap := cap6) hgrow6 hat6 (by simp)
                      clear hown6 hgrow6 hat6 hlt6 HO HOA HO1 hnews hbase d1 hfw
                      have HAB6 : Hd ((B4 ++ [r0]).length ≤ 2097152 + (i + 1) ∧ (∀ r ∈ B4 ++ [r0], r ∈ R ∨ r ∈ T) ∧ (∀ r ∈ R, r ∈ B4 ++ [r0]) ∧ ∀ j r, j < i + 1 → T[j]? = some r → r ∈ B4 ++ [r0]) := by
                        obtain ⟨p1, p2, p3, p4⟩ := HAB.out
                        refine ⟨by simp; omega, fun e he => ?_, fun e he => List.mem_append_left _ (p3 e he), fun j r h1 h2 => ?_⟩
                        · rcases List.mem_append.1 he with h | h
                          · exact p2 e h
                          · rw [List.mem_singleton.1 h]; exact Or.inr HMEM.out
                        · by_cases e : j = i
                          · rw [e, show T[i]? = _ from HEG.out] at h2
                            cases h2
                            simp
                          · exact List.mem_append_left _ (p4 j r (by omega) h2)
                      clear HAB h0 h1 h2 m1 m2 HZA HWA
                      go_wp2_with fail
                      refine ⟨⟨i + 1, _, by simp, by omega, HAB6.out, HO6.out, HZ6.out, HW6.out⟩, by simp; omega⟩
                    · have HMU : Hd (B4.length ≤ 3145728 ∧ ∀ r, r ∈ B4 ↔ r ∈ R ∨ r ∈ T) := by
                        obtain ⟨p1, p2, p3, p4⟩ := HAB.out
                        refine ⟨by omega, fun e => ⟨p2 e, fun he => ?_⟩⟩
                        rcases he with he | he
                        · exact p3 e he
                        · obtain ⟨j, hj, rfl⟩ := List.getElem_of_mem he
                          exact p4 j _ (by omega) (List.getElem?_eq_getElem hj)
                      clear HAB hi
                      have HGu : Hd (RightG n E B4) := ⟨HG.out.1, HG.out.2.1, fun r hr => ((HMU.out.2 r).1 hr).elim (HG.out.2.2 r) (HG3.out.2.2 r)⟩
                      have HEU : Hd (EdgesAt wr.heap.size wr (.slice ea E.length ec) E) := HO.out.os.gs.e.wide HO.out.os.gs.lt.2.2.2
                      go_wp2_with fail
                      refine (from_any n _ _ E B4 wr HEU.out HO.out.r.at (by omega) (by have := HMU.out.1; omega)).mono ?_
                      rintro e w9 ⟨hF9, ⟨hno, -⟩ | ⟨-, ub, u, rfl, hub, hrowu, hleastu⟩⟩
                      · exact absurd HGu.out hno
                      rw [Int.toNat_natCast] at hrowu hleastu ⊢
                      have HRS : Hd (Fr (fun _ => False) w w9 ∧ Row w9 3 xb n (fun i => vI (x i)) ∧ Row w9 3 zb n (fun i => vI (z' i)) ∧ Row w9 3 wb n (fun i => vI (wt i)) ∧ Row w9 3 ub n (fun i => vI (u i))) :=
                        ⟨HO.out.os.gs.fr.trans hF9, (HO.out.os.stay hF9).gs.x, (HZA.out.stay hF9).row, (HWA.out.stay hF9).row, hrowu⟩
                      have HUX : Hd (∀ i, i < n → u i = meetX (x i) (wt i)) := fun i hi => meet_least HGu.out HG.out HG3.out (HMU.out.2) hleastu HL.out HLw.out hi
                      clear h0 h1 h2 m1 m2 hF9 hub hrowu hleastu HO HZA HWA HEU HGu HMU
                      go_wp2_with fail
                      go_loopw [26] (fun iv wr => ∃ (i : Nat), iv = .int .i64 i ∧ i ≤ n ∧ Hd (Fr (fun _ => False) w wr ∧ Row wr 3 xb n (fun i => vI (x i)) ∧ Row wr 3 zb n (fun i => vI (z' i)) ∧ Row wr 3 wb n (fun i => vI (wt i)) ∧ Row wr 3 ub n (fun i => vI (u i)))) (fun v _ => match v with | .int _ q => n - q.toNat | _ => 0)
                      case atStart => exact ⟨0, rfl, Nat.zero_le _, HRS.out⟩
                      case round =>
                        obtain ⟨i, rfl, hi, HS⟩ := hrel
                        clear HRS
                        by_cases hil : i < n
                        · have cx := HS.out.2.1.cell hil
                          have cz := HS.out.2.2.1.cell hil
                          have cw := HS.out.2.2.2.1.cell hil
                          have cu := HS.out.2.2.2.2.cell hil
                          have t0 : decide (x i < z' i) = false := by have := HZX.out i hil; simp; omega
                          simp only [show u i = _ from HUX.out i hil] at cu
                          generalize x i = xa at cx cu t0
                          generalize z' i = za at cz t0
                          generalize wt i = wa at cw cu
                          have hi0 : (0 : Int) ≤ i := by omega
                          have hi1 : (i : Int) < n := by omega
                          go_wp2_with fail
                          refine wp_region_still_tail 24 mixed (by kernel_rfl) ?_
                          simp only [List.take_succ_cons, List.take_zero, List.drop_succ_cons, List.drop_zero]
                          repeat still_step
                          still_call (meet_any xa wa _)
                          repeat still_step
                          refine wpStill_nil ?_
                          go_wp2_with fail
                          refine ⟨⟨i + 1, by simp, by omega, HS.out.1.trans (Fr.drew (Fr.refl _ _)), HS.out.2.1.fr (Fr.drew (Fr.refl (fun _ => False) _)) (fun h => h), HS.out.2.2.1.fr (Fr.drew (Fr.refl (fun _ => False) _)) (fun h => h), HS.out.2.2.2.1.fr (Fr.drew (Fr.refl (fun _ => False) _)) (fun h => h), HS.out.2.2.2.2.fr (Fr.drew (Fr.refl (fun _ => False) _)) (fun h => h)⟩, by simp; omega⟩
                        · go_wp2_with fail
                          go_ret
                          exact ⟨rfl, HS.out.1⟩

end Go.Proofs.Ytcjfmfddkhpfnaa
