import Derived.Test.YtcjfmfddkhpfnaaQE1
namespace Go.Proofs.Ytcjfmfddkhpfnaa
open Go.RowKit (wrap32 wrap64)
set_option linter.unusedVariables false
set_option linter.unusedSimpArgs false

structure Tg (w wr : World) (K gb xb rb n : Nat) (hev hrv dv : Value) (E : List Ed) (R : List Int) (x : Nat → Int) (bs : List Bool) (g : Nat → Bool) : Prop where
  gs : Gs w wr K gb xb n hev hrv E R x
  ob : OwnB wr K dv bs
  row : Row wr 57 rb (n * 6) (fun p => .bool (g p))
  ne : ∀ j, dv.ownBlock = some j → j ≠ rb
  ge : K ≤ rb
theorem Tg.stay {w wr w' : World} {K gb xb rb n : Nat} {hev hrv dv : Value} {E : List Ed} {R : List Int} {x : Nat → Int} {bs : List Bool} {g : Nat → Bool} (h : Tg w wr K gb xb rb n hev hrv dv E R x bs g) (f : Fr (fun _ => False) wr w') : Tg w w' K gb xb rb n hev hrv dv E R x bs g :=
  ⟨h.gs.stay f, h.ob.fr f (fun _ _ h => h), h.row.fr f (fun h => h), h.ne, h.ge⟩
theorem Tg.set {w wr : World} {K gb xb rb n : Nat} {hev hrv dv : Value} {E : List Ed} {R : List Int} {x : Nat → Int} {bs : List Bool} {g : Nat → Bool} (h : Tg w wr K gb xb rb n hev hrv dv E R x bs g) (p : Nat) : Tg w (wr.setCell ⟨rb, p, none⟩ (.bool true)) K gb xb rb n hev hrv dv E R x bs (upd g p true) := by
  have f : Fr (fun k => k = rb) wr (wr.setCell ⟨rb, p, none⟩ (.bool true)) := Fr.setCell (S := fun k => k = rb) (Fr.refl _ wr) ⟨rb, p, none⟩ _ (Or.inl rfl)
  exact ⟨h.gs.keep f (fun k hk e => by have := h.ge; omega), h.ob.fr f (fun j hj e => h.ne j hj e), h.row.setB p true, h.ne, h.ge⟩

def dnB (x : Nat → Int) (k : Nat) : List Bool := (List.range k).map fun i => x i == 9
theorem dnB_len (x : Nat → Int) (k : Nat) : (dnB x k).length = k := by simp [dnB]
theorem dnB_succ (x : Nat → Int) (k : Nat) : dnB x (k + 1) = dnB x k ++ [x k == 9] := by simp [dnB, List.range_succ]

theorem eg_get2 {E : List Ed} {j : Nat} (h : j < E.length) : eg E j = E[j] := by
  unfold eg; rw [List.getD_eq_getElem?_getD, List.getElem?_eq_getElem h]; rfl

set_option maxRecDepth 100000 in
set_option maxHeartbeats 4000000 in
theorem tight_any (n xb : Nat) (hn1 : 1 ≤ n) (hn2 : n ≤ 40) (ea ra : Option Addr) (ec rc : Nat) (E : List Ed) (R : List Int) (x : Nat → Int) (w : World) (hE : EdgesAt w.heap.size w (.slice ea E.length ec) E) (hR : IntsAt w.heap.size w (.slice ra R.length rc) R) (hX : Row w 3 xb n (fun i => vI (x i)))
    (hG : RightG n E R) (hL : Least n E R x) (hEb : E.length ≤ 5864062014634) (hRb : R.length ≤ 17592186043904) :
    Calls Try.prog 15 #[.agg #[vI n, .slice ea E.length ec, .slice ra R.length rc], .slice (some ⟨xb, 0, none⟩) n n] w fun e w' => e = .returned (.bool true) ∧ Fr (fun _ => False) w w' := by
  have HG : Hd (RightG n E R) := hG
  have HL : Hd (Least n E R x) := hL
  have hal : Fr (fun _ => False) w (w.alloc (.cells #[vI n, .slice ea E.length ec, .slice ra R.length rc] 34)) := (Fr.refl _ w).alloc _
  have HGS : Hd (Gs w (w.alloc (.cells #[vI n, .slice ea E.length ec, .slice ra R.length rc] 34)) (w.heap.size + 1) w.heap.size xb n (.slice ea E.length ec) (.slice ra R.length rc) E R x) := by
    refine ⟨heap_alloc_last w _, ?_, ?_, hX.fr hal (fun h => h), ⟨by omega, by have := hX.lt; omega, by omega, by simp⟩, hal⟩
    · exact (hE.fr hal (Nat.le_refl _) (fun _ _ h => h)).wide (by omega)
    · exact (hR.fr hal (Nat.le_refl _) (fun _ _ h => h)).wide (by omega)
  obtain ⟨i4, hi4, hz4, hs4, hb4⟩ := info_parts (P := Try.prog) (e := 4) (z := .bool false) (size := 1) (bytes := 1) (by kernel_rfl)
  clear hG hL hE hR hX hal
  go_enter Try.func15, Try.ntmps15
  go_wp2_with fail
  obtain ⟨gb, hgb⟩ : ∃ gb, gb = w.heap.size := ⟨_, rfl⟩
  obtain ⟨K, hK⟩ : ∃ K, K = w.heap.size + 1 := ⟨_, rfl⟩
  rw [← hK, ← hgb] at HGS
  rw [← hgb]
  clear hgb
  have HK : Hd (K = w.heap.size + 1) := hK
  clear hK
  go_loopw [5, 6] (fun dv iv wr => ∃ (k : Nat), iv = .int .i64 k ∧ k ≤ n ∧ Hd (OwnB wr K dv (dnB x k)) ∧ Hd (Gs w wr K gb xb n (.slice ea E.length ec) (.slice ra R.length rc) E R x)) (fun _ v _ => match v with | .int _ q => n - q.toNat | _ => 0)
  case atStart => exact ⟨0, rfl, Nat.zero_le _, OwnB.nil _ _, HGS.out⟩
  case round =>
    obtain ⟨k, rfl, hk, HO, HS⟩ := hrel
    clear HGS
    by_cases hlt : k < n
    · have c0 := HS.out.x.cell (i := k) hlt
      have HT : Hd (dnB x (k + 1) = dnB x k ++ [x k == 9]) := dnB_succ x k
      have hil := dnB_len x k
      obtain ⟨I, hI⟩ : ∃ I, I = dnB x k := ⟨_, rfl⟩
      rw [← hI] at HO HT hil
      have HIL : Hd (I.length = k) := hil
      obtain ⟨b, hb⟩ : ∃ b, (x k == 9) = b := ⟨_, rfl⟩
      rw [hb] at HT
      have hIb : I.length ≤ 40 := by omega
      clear hI hil
      generalize x k = xk at c0 hb
      have hk0 : (0 : Int) ≤ k := by omega
      have hk1 : (k : Int) < n := by omega
      have hkw := HS.out.lt.2.2.2
      have HO1 : Hd ((wr.alloc (.cells #[.bool b] 4)).ownsRow K 4 1 u5 I.length (I.map fun b => .bool b)) := World.ownsRow.alloc HO.out _
      have hnews : ∀ j u, [Value.bool b][j]? = some u → (wr.alloc (.cells #[.bool b] 4)).cell? ((⟨wr.heap.size, 0, none⟩ : Addr).add j) = some u :=
        World.news_of_block (cs := #[.bool b]) (heap_alloc_last wr (.cells #[.bool b] 4))
      have hbase : K ≤ (wr.alloc (.cells #[.bool b] 4)).heap.size := by simp; omega
      go_wp2_with ((at_builtin; refine Hd.out ?_))
      unfold Hd
      refine wpList_append_lies _ rfl (.tmp 21) (.tmp 27) 55 rfl K 4 i4 (.bool false) 1 1 under55 hi4 hz4 hs4 hb4 rfl (by omega) u5 I.length _ rfl HO1.out ⟨wr.heap.size, 0, none⟩ 1 1 [.bool b] rfl rfl hnews (by intro u hu; simp at hu; subst hu; rfl) (by omega) (by unfold maxLen; omega) (by omega) hbase (wr.heap.size + 1) (by simp) ?_
      intro g6 cap6 w9 hown6 hgrow6 hat6 hlt6
      have HO6 : Hd (OwnB w9 K (.slice (some ⟨g6, 0, none⟩) (I.length + 1) cap6) (I ++ [b])) := OwnB.of hown6
      have hfa : Fr (fun _ => False) wr (wr.alloc (.cells #[.bool b] 4)) := (Fr.refl _ wr).alloc _
      have HS6 : Hd _ := (HS.out.stay hfa).keep (grown_fr hgrow6) (fun j hj e => by have := (HO.out.ge j e).1; omega)
      clear hown6 hgrow6 hat6 hlt6 HO HS HO1 hnews hbase c0 hfa hb
      go_wp2_with fail
      refine ⟨⟨k + 1, by simp, by omega, ?_, HS6.out⟩, by simp; omega⟩
      unfold Hd; rw [HT.out]; exact HO6.out
    · have hke : k = n := by omega
      have HO2 : Hd (OwnB wr K u5 (dnB x n)) := by have := HO.out; rw [hke] at this; exact this
      have hmk := make_six n (by omega) wr
      have hfa : Fr (fun _ => False) wr (wr.alloc (.cells (z6 n) 57)) := (Fr.refl _ wr).alloc _
      have HT0 : Hd (Tg w (wr.alloc (.cells (z6 n) 57)) K gb xb wr.heap.size n (.slice ea E.length ec) (.slice ra R.length rc) u5 E R x (dnB x n) (fun _ => false)) :=
        ⟨HS.out.stay hfa, HO2.out.fr hfa (fun _ _ h => h), z6_row _ n _ (heap_alloc_last wr _), fun j hj e => by have := (HO2.out.ge j hj).2; omega, HS.out.lt.2.2.2⟩
      clear HO HS HO2 hfa hke
      go_wp2_with fail
      obtain ⟨rb, hrb⟩ : ∃ rb, rb = wr.heap.size := ⟨_, rfl⟩
      rw [← hrb] at HT0 ⊢
      clear hrb hmk
      go_loopw [8] (fun iv wr => ∃ (k : Nat) (g : Nat → Bool), iv = .int .i64 k ∧ k ≤ R.length ∧ Hd (Rooted g (R.take k)) ∧ Hd (Tg w wr K gb xb rb n (.slice ea E.length ec) (.slice ra R.length rc) u5 E R x (dnB x n) g)) (fun v _ => match v with | .int _ q => R.length - q.toNat | _ => 0)
      case atStart => exact ⟨0, _, rfl, Nat.zero_le _, fun r hr => by simp at hr, HT0.out⟩
      case round =>
        obtain ⟨q, g, rfl, hq, HRt, HT⟩ := hrel
        clear HT0
        obtain ⟨h0, h1, h2⟩ := HT.out.gs.heads
        by_cases hql : q < R.length
        · obtain ⟨rk, ro, hra, hrk, hrcs⟩ : ∃ k o, ra = some ⟨k, o, none⟩ ∧ k < K ∧ ∀ i (h : i < R.length), wr.cell? ⟨k, o + i, none⟩ = some (vI R[i]) := by
            obtain ⟨a, c, e1, -, e2⟩ := HT.out.gs.r
            cases e1
            exact e2 (by intro e; simp [e] at hql)
          subst hra
          have hrr := HG.out.2.2 _ (List.getElem_mem hql)
          obtain ⟨aN, haN⟩ : ∃ aN : Nat, R[q] = aN := ⟨R[q].toNat, by omega⟩
          have d0 := hrcs q hql
          rw [haN] at d0 hrr
          have haN' : aN < n := by omega
          have HR2 : Hd (Rooted (upd g (at6 aN 1) true) (R.take (q + 1))) := by
            intro r hr
            rw [List.take_add_one, List.getElem?_eq_getElem hql, haN] at hr
            rcases List.mem_append.1 hr with h | h
            · exact HRt.out.set _ r h
            · simp at h
              subst h
              rw [Int.toNat_natCast, upd_same]
          have HT2 : Hd (Tg w (wr.setCell ⟨rb, aN * 6 + 1, none⟩ (.bool true)) K gb xb rb n (.slice ea E.length ec) (.slice (some ⟨rk, ro, none⟩) R.length rc) u5 E R x (dnB x n) (upd g (at6 aN 1) true)) := HT.out.set _
          have z0 := HT.out.row.frozen (aN * 6 + 1)
          have c0 := HT.out.row.cell (i := aN * 6 + 1) (by omega)
          generalize g (aN * 6 + 1) = g0 at c0
          have hq0 : (0 : Int) ≤ q := by omega
          have hq1 : (q : Int) < R.length := by omega
          have ha0 : (0 : Int) ≤ aN := by omega
          have ha1 : (aN : Int) < n := by omega
          clear hrcs haN hrr HT HRt
          go_wp2_with fail
          refine ⟨⟨q + 1, _, by simp, by omega, HR2.out, HT2.out⟩, by simp; omega⟩
        · have HRt2 : Hd (Rooted g R) := by have := HRt.out; rw [List.take_of_length_le (by omega)] at this; exact this
          clear HRt
          go_wp2_with fail
          go_loopg [9] (2 * cntF g (n * 6) + 1) (fun kk mv wr => ∃ (g : Nat → Bool) (b : Bool), mv = .bool b ∧ Hd (Rooted g R) ∧ Hd (Tg w wr K gb xb rb n (.slice ea E.length ec) (.slice ra R.length rc) u5 E R x (dnB x n) g) ∧ Hd (b = false → ∀ e ∈ E, Cl g e 5) ∧ Hd (2 * cntF g (n * 6) + (if b then 1 else 0) ≤ kk))
          case atStart => exact ⟨g, true, rfl, HRt2.out, HT.out, (fun h => by cases h), Nat.le_refl _⟩
          case round =>
            obtain ⟨g, b, rfl, HRt, HTg, HCl, HM⟩ := hrel
            clear HRt2 HT h0 h1 h2
            cases b with
            | true =>
              have HM1 : Hd (2 * cntF g (n * 6) + 1 ≤ gk) := HM.out
              clear HCl HM
              go_wp2_with fail
              go_loopw [9, 10] (fun mv iv wr => ∃ (i : Nat) (g2 : Nat → Bool) (b : Bool), mv = .bool b ∧ iv = .int .i64 i ∧ i ≤ E.length ∧ Hd (Rooted g2 R) ∧ Hd (Tg w wr K gb xb rb n (.slice ea E.length ec) (.slice ra R.length rc) u5 E R x (dnB x n) g2) ∧ Hd (b = false → g2 = g ∧ ∀ j, j < i → Cl g (eg E j) 5) ∧ Hd (cntF g2 (n * 6) + (if b then 1 else 0) ≤ cntF g (n * 6))) (fun _ v _ => match v with | .int _ q => E.length - q.toNat | _ => 0)
              case atStart => exact ⟨0, g, false, rfl, rfl, Nat.zero_le _, HRt.out, HTg.out, (fun _ => ⟨rfl, fun j hj => absurd hj (Nat.not_lt_zero j)⟩), Nat.le_refl _⟩
              case round =>
                obtain ⟨i, g2, b, rfl, rfl, hi, HR2, HT2, HC2, HN2⟩ := hrel
                obtain ⟨h0, h1, h2⟩ := HT2.out.gs.heads
                by_cases hil : i < E.length
                · obtain ⟨ek, eo, hea, hek, hecs⟩ : ∃ k o, ea = some ⟨k, o, none⟩ ∧ k < K ∧ ∀ i (h : i < E.length), wr.cell? ⟨k, o + i * 3, none⟩ = some (vI E[i].1) ∧ wr.cell? ⟨k, o + i * 3 + 1, none⟩ = some (vI E[i].2.1) ∧ wr.cell? ⟨k, o + i * 3 + 2, none⟩ = some (vI E[i].2.2) := by
                    obtain ⟨a, c, e1, -, e2⟩ := HT2.out.gs.e
                    cases e1
                    exact e2 (by intro e; simp [e] at hil)
                  subst hea
                  obtain ⟨d1, d2, d3⟩ := hecs i hil
                  have hre := HG.out.2.1 _ (List.getElem_mem hil)
                  obtain ⟨aN, sN, heq, haN, hsN⟩ := mem_nat hre
                  have HEG : Hd (eg E i = ((aN : Int), (sN : Int), E[i].2.2)) := by unfold Hd; rw [eg_get2 hil]; exact heq
                  have hfk := hre.2.2
                  rw [show E[i].1 = (aN : Int) from congrArg Prod.fst heq] at d1
                  rw [show E[i].2.1 = (sN : Int) from congrArg (fun e : Ed => e.2.1) heq] at d2
                  obtain ⟨kk, hkk⟩ : ∃ kk, E[i].2.2 = kk := ⟨_, rfl⟩
                  rw [hkk] at d3 HEG hfk
                  clear hecs hre heq hkk
                  have hi0 : (0 : Int) ≤ i := by omega
                  have hi1 : (i : Int) < E.length := by omega
                  have HTA : Hd _ := HT2.out.stay ((Fr.refl _ wr).alloc (.cells #[vI aN, vI sN, vI kk] 27))
                  have HVB : Hd _ := heap_alloc_last wr (.cells #[vI aN, vI sN, vI kk] 27)
                  have hvr : wr.heap.size ≠ rb := by have := HT2.out.row.lt; omega
                  have HPL : Hd (∀ j : Nat, j < 5 → ∃ q : Nat, q < 5 ∧ plusX ((j : Int) - 1) kk = (q : Int) - 1) := fun j hj => plus_at hfk hj
                  clear HT2
                  go_wp2_with fail
                  obtain ⟨vb, hvb⟩ : ∃ vb, vb = wr.heap.size := ⟨_, rfl⟩
                  rw [← hvb] at HVB hvr ⊢
                  generalize wr.alloc (.cells #[vI aN, vI sN, vI kk] 27) = wa at *
                  clear hvb h0 h1 h2 d1 d2 d3
                  go_loopw [9, 12] (fun mv dv wr => ∃ (j : Nat) (g3 : Nat → Bool) (b : Bool), mv = .bool b ∧ dv = .int .i64 ((j : Int) - 1) ∧ j ≤ 5 ∧ Hd (Rooted g3 R) ∧ Hd (Tg w wr K gb xb rb n (.slice (some ⟨ek, eo, none⟩) E.length ec) (.slice ra R.length rc) u5 E R x (dnB x n) g3) ∧ Hd (b = false → g3 = g ∧ (∀ j, j < i → Cl g (eg E j) 5) ∧ Cl g (eg E i) j) ∧ Hd (cntF g3 (n * 6) + (if b then 1 else 0) ≤ cntF g (n * 6)) ∧ Hd (wr.heap[vb]? = some (.cells #[vI aN, vI sN, vI kk] 27))) (fun _ v _ => match v with | .int _ q => 5 - (q + 1).toNat | _ => 0)
                  case atStart => exact ⟨0, g2, b, rfl, rfl, Nat.zero_le _, HR2.out, HTA.out, (fun h => ⟨(HC2.out h).1, (HC2.out h).2, fun j hj => absurd hj (Nat.not_lt_zero j)⟩), HN2.out, HVB.out⟩
                  case round =>
                    obtain ⟨j, g3, b3, rfl, rfl, hj, HR3, HT3, HC3, HN3, HV3⟩ := hrel
                    clear HR2 HTA HC2 HN2 HVB
                    have v0 : wr.cell? ⟨vb, 0, none⟩ = some (vI aN) := by rw [cell_of HV3.out]; rfl
                    have v1 : wr.cell? ⟨vb, 1, none⟩ = some (vI sN) := by rw [cell_of HV3.out]; rfl
                    have v2 : wr.cell? ⟨vb, 2, none⟩ = some (vI kk) := by rw [cell_of HV3.out]; rfl
                    have ha0 : (0 : Int) ≤ aN := by omega
                    have ha1 : (aN : Int) < n := by omega
                    have hs0 : (0 : Int) ≤ sN := by omega
                    have hs1 : (sN : Int) < n := by omega
                    by_cases hj5 : j < 5
                    · have t0 : decide ((j : Int) - 1 ≤ 3) = true := by simp; omega
                      have c0 := HT3.out.row.cell (i := aN * 6 + j) (by omega)
                      have hj0 : (0 : Int) ≤ j := by omega
                      have hj6 : (j : Int) < 6 := by omega
                      have hw0 : wrap64 ((j : Int) - 1 + 1) = j := by unfold wrap64; omega
                      have hw0' : (j : Int) - 1 + 1 = j := by omega
                      have HAT : Hd (g3 (at6 aN j) = g3 (aN * 6 + j)) := rfl
                      obtain ⟨q, hq5, hpq⟩ := HPL.out j hj5
                      have HCE : Hd (∀ (G : Nat → Bool), Cl G (eg E i) j → (G (at6 aN j) = true → G (at6 sN q) = true) → Cl G (eg E i) (j + 1)) := by
                        intro G h1 h2 j' hj' hg'
                        rw [HEG.out] at h1 hg' ⊢
                        by_cases e : j' = j
                        · subst e
                          simp only [Int.toNat_natCast] at hg' ⊢
                          rw [hpq, show ((q : Int) - 1 + 1).toNat = q by omega]
                          exact h2 hg'
                        · exact h1 j' (by omega) hg'
                      by_cases hg0 : g3 (aN * 6 + j) = true
                      · rw [hg0] at c0
                        have c1 := HT3.out.row.cell (i := sN * 6 + q) (by omega)
                        have z1 := HT3.out.row.frozen (sN * 6 + q)
                        have hq0 : (0 : Int) ≤ q := by omega
                        have hq6 : (q : Int) < 6 := by omega
                        have hwq : wrap64 ((q : Int) - 1 + 1) = q := by unfold wrap64; omega
                        have hwq' : (q : Int) - 1 + 1 = q := by omega
                        have t1 : decide ((q : Int) - 1 < -1) = false := by simp; omega
                        have t2 : decide (3 < (q : Int) - 1) = false := by simp; omega
                        have mp : ∀ v : World, Calls Try.prog 11 #[.int .i64 ((j : Int) - 1), vI kk] v fun e w' => e = .returned (vI ((q : Int) - 1)) ∧ w' = v := fun v => by
                          have := plus_any ((j : Int) - 1) kk v
                          rw [hpq] at this
                          exact this
                        clear hpq HPL
                        by_cases hg1 : g3 (sN * 6 + q) = true
                        · rw [hg1] at c1
                          have HC6 : Hd (b3 = false → g3 = g ∧ (∀ j, j < i → Cl g (eg E j) 5) ∧ Cl g (eg E i) (j + 1)) := fun hb => by
                            obtain ⟨q1, q2, q3⟩ := HC3.out hb
                            refine ⟨q1, q2, HCE.out g q3 (fun _ => ?_)⟩
                            rw [← q1]
                            exact hg1
                          clear HC3 hg0 hg1 HAT HCE
                          go_wp2_with fail
                          refine (mp _).mono ?_
                          rintro e w6 ⟨rfl, rfl⟩
                          go_wp2_with fail
                          refine ⟨⟨j + 1, g3, b3, rfl, by simp, by omega, HR3.out, HT3.out, HC6.out, HN3.out, HV3.out⟩, by simp; omega⟩
                        · have hg1' : g3 (sN * 6 + q) = false := by simpa using hg1
                          rw [hg1'] at c1
                          have hcn := cntF_set (g := g3) (m := n * 6) (p := sN * 6 + q) (by omega) hg1'
                          have HN6 : Hd (cntF (upd g3 (sN * 6 + q) true) (n * 6) + (if true then 1 else 0) ≤ cntF g (n * 6)) := by
                            have := HN3.out
                            unfold Hd
                            simp
                            omega
                          have HT6 : Hd _ := HT3.out.set (sN * 6 + q)
                          have HR6 : Hd _ := HR3.out.set (sN * 6 + q)
                          have HV6 : Hd ((wr.setCell ⟨rb, sN * 6 + q, none⟩ (.bool true)).heap[vb]? = some (.cells #[vI aN, vI sN, vI kk] 27)) := by
                            have f : Fr (fun k => k = rb) wr (wr.setCell ⟨rb, sN * 6 + q, none⟩ (.bool true)) := Fr.setCell (S := fun k => k = rb) (Fr.refl _ wr) ⟨rb, sN * 6 + q, none⟩ _ (Or.inl rfl)
                            exact (f.block vb (heap_lt HV3.out) hvr).trans HV3.out
                          clear HC3 hg0 hg1 hg1' HAT HCE hcn HN3
                          go_wp2_with fail
                          refine (mp _).mono ?_
                          rintro e w6 ⟨rfl, rfl⟩
                          go_wp2_with fail
                          refine ⟨⟨j + 1, _, true, rfl, by simp, by omega, HR6.out, HT6.out, (fun h => by cases h), HN6.out, HV6.out⟩, by simp; omega⟩
                      · have hg0' : g3 (aN * 6 + j) = false := by simpa using hg0
                        rw [hg0'] at c0
                        have HC6 : Hd (b3 = false → g3 = g ∧ (∀ j, j < i → Cl g (eg E j) 5) ∧ Cl g (eg E i) (j + 1)) := fun hb => by
                          obtain ⟨q1, q2, q3⟩ := HC3.out hb
                          refine ⟨q1, q2, HCE.out g q3 (fun h => ?_)⟩
                          rw [← q1] at h
                          exact absurd h hg0
                        clear HC3 hg0 hg0' HAT HCE hpq HPL
                        go_wp2_with fail
                        refine ⟨⟨j + 1, g3, b3, rfl, by simp, by omega, HR3.out, HT3.out, HC6.out, HN3.out, HV3.out⟩, by simp; omega⟩
                    · have hje : j = 5 := by omega
                      have t0 : decide ((j : Int) - 1 ≤ 3) = false := by simp; omega
                      have HC6 : Hd (b3 = false → g3 = g ∧ ∀ j', j' < i + 1 → Cl g (eg E j') 5) := fun hb => by
                        obtain ⟨q1, q2, q3⟩ := HC3.out hb
                        refine ⟨q1, fun j' hj' => ?_⟩
                        by_cases e : j' = i
                        · rw [e, ← hje]; exact q3
                        · exact q2 j' (by omega)
                      clear HC3 hje v0 v1 v2
                      go_wp2_with fail
                      refine ⟨⟨i + 1, g3, b3, rfl, by simp, by omega, HR3.out, HT3.out, HC6.out, HN3.out⟩, by simp; omega⟩
                · have HC4 : Hd (b = false → g2 = g ∧ ∀ e ∈ E, Cl g e 5) := fun hb => by
                    obtain ⟨q1, q2⟩ := HC2.out hb
                    refine ⟨q1, fun e he => ?_⟩
                    obtain ⟨j, hj, rfl⟩ := List.getElem_of_mem he
                    rw [← eg_get2 hj]
                    exact q2 j (by omega)
                  go_wp2_with fail
                  go_roundg (2 * cntF g2 (n * 6) + (if b then 1 else 0))
                  case measure =>
                    have h1 := HM1.out
                    have h2 := HN2.out
                    cases b
                    · obtain ⟨q1, -⟩ := HC4.out rfl
                      subst q1
                      simp at h2 ⊢
                      omega
                    · simp at h2 ⊢
                      omega
                  case rel =>
                    refine ⟨g2, b, rfl, HR2.out, HT2.out, fun hb => ?_, Nat.le_refl _⟩
                    obtain ⟨q1, q2⟩ := HC4.out hb
                    rw [q1]
                    exact q2
            | false =>
              have HC5 : Hd (∀ e ∈ E, Cl g e 5) := HCl.out rfl
              clear HCl HM
              have HWR : Hd (∀ i, i < n → x i = 9 ∨ (∃ q : Nat, q < 5 ∧ x i = (q : Int) - 1 ∧ g (i * 6 + q) = true)) := by
                intro i hi
                rcases HL.out.way i hi with h | h
                · exact Or.inl h
                · have hf := (h.right HG.out).2
                  have hg := closed_reach HG.out HRt.out HC5.out h
                  simp [flowsX] at hf
                  refine Or.inr ⟨(x i + 1).toNat, by omega, by omega, ?_⟩
                  rw [Int.toNat_natCast] at hg
                  exact hg
              clear HC5 HRt
              obtain ⟨da, dc, rfl, hdc⟩ := HTg.out.ob.at
              rw [dnB_len] at *
              obtain ⟨db, hda, hdb1, hdb2, hdcs⟩ := hdc (by intro e; have := dnB_len x n; rw [e] at this; simp at this; omega)
              subst hda
              have HDC : Hd (∀ v : World, OwnB v K (.slice (some ⟨db, 0, none⟩) n dc) (dnB x n) → ∀ i, i < n → v.cell? ⟨db, i, none⟩ = some (.bool (x i == 9))) := fun v hv i hi => by
                obtain ⟨a, c, e1, e2⟩ := hv.at
                obtain ⟨g', e3, -, -, e4⟩ := e2 (by intro e; have := dnB_len x n; rw [e] at this; simp at this; omega)
                rw [dnB_len] at e1
                cases e1
                cases e3
                rw [e4 i (by rw [dnB_len]; exact hi)]
                simp [dnB]
              clear hdcs hdc hdb1 hdb2
              go_wp2_with fail
              go_loopw [14] (fun iv wr => ∃ (i : Nat), iv = .int .i64 i ∧ i ≤ n ∧ Hd (Tg w wr K gb xb rb n (.slice ea E.length ec) (.slice ra R.length rc) (.slice (some ⟨db, 0, none⟩) n dc) E R x (dnB x n) g)) (fun v _ => match v with | .int _ q => n - q.toNat | _ => 0)
              case atStart => exact ⟨0, rfl, Nat.zero_le _, HTg.out⟩
              case round =>
                obtain ⟨i, rfl, hi, HT7⟩ := hrel
                clear HTg
                by_cases hin : i < n
                · have c0 := HDC.out wr HT7.out.ob i hin
                  have c1 := HT7.out.gs.x.cell (i := i) hin
                  have hi0 : (0 : Int) ≤ i := by omega
                  have hi1 : (i : Int) < n := by omega
                  rcases HWR.out i hin with h9 | ⟨q, hq, hxq, hg⟩
                  · rw [h9] at c0 c1
                    have t9 : ((9 : Int) == 9) = true := rfl
                    rw [t9] at c0
                    go_wp2_with fail
                    go_quiet (fail)
                    go_wp2_with fail
                    refine ⟨⟨i + 1, by simp, by omega, HT7.out.stay (Fr.drewN (Fr.refl (fun _ => False) _) _)⟩, by simp; omega⟩
                  · rw [hxq] at c0 c1
                    have t9 : (((q : Int) - 1) == 9) = false := by rw [beq_eq_false_iff_ne]; omega
                    rw [t9] at c0
                    have c2 := HT7.out.row.cell (i := i * 6 + q) (by omega)
                    rw [hg] at c2
                    have t1 : decide ((q : Int) - 1 < -1) = false := by simp; omega
                    have t2 : decide (3 < (q : Int) - 1) = false := by simp; omega
                    have hq0 : (0 : Int) ≤ q := by omega
                    have hq6 : (q : Int) < 6 := by omega
                    have hwq : wrap64 ((q : Int) - 1 + 1) = q := by unfold wrap64; omega
                    have hwq2 : IntKind.i64.wrap ((q : Int) - 1 + 1) = q := by simp [IntKind.wrap, IntKind.bits, IntKind.signed]; omega
                    have hwq' : (q : Int) - 1 + 1 = q := by omega
                    clear hxq hg
                    go_wp2_with fail
                    go_quiet (fail)
                    go_wp2_with fail
                    refine ⟨⟨i + 1, by simp, by omega, HT7.out.stay (Fr.drewN (Fr.refl (fun _ => False) _) _)⟩, by simp; omega⟩
                · go_wp2_with fail
                  go_ret
                  exact ⟨rfl, HT7.out.gs.fr⟩

end Go.Proofs.Ytcjfmfddkhpfnaa
