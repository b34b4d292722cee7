import Derived.Test.YtcjfmfddkhpfnaaQC1
import Derived.Test.YtcjfmfddkhpfnaaQG1
namespace Go.Proofs.Ytcjfmfddkhpfnaa
open Go.RowKit (wrap32 wrap64)
set_option linter.unusedVariables false
set_option linter.unusedSimpArgs false

/-- Of the first edges those into a location. -/
def inF (E : List Ed) (a q : Nat) : List Ed := (E.take q).filter fun e => e.1 == (a : Int)
theorem inF_yes {E : List Ed} {a q : Nat} {e : Ed} (h : E[q]? = some e) (ha : e.1 = (a : Int)) : inF E a (q + 1) = inF E a q ++ [e] := by
  unfold inF; rw [List.take_add_one, h, List.filter_append]; simp [ha]
theorem inF_no {E : List Ed} {a q : Nat} {e : Ed} (h : E[q]? = some e) (ha : e.1 ≠ (a : Int)) : inF E a (q + 1) = inF E a q := by
  unfold inF; rw [List.take_add_one, h, List.filter_append]; simp [ha]
theorem inF_le (E : List Ed) (a q : Nat) : (inF E a q).length ≤ E.length := by
  unfold inF
  have h1 := List.length_filter_le (fun e : Ed => e.1 == (a : Int)) (E.take q)
  have h2 : (E.take q).length ≤ E.length := by rw [List.length_take]; omega
  omega
theorem inF_mem {E : List Ed} {a q : Nat} {e : Ed} (h : e ∈ inF E a q) : e ∈ E ∧ e.1 = (a : Int) := by
  unfold inF at h
  obtain ⟨h1, h2⟩ := List.mem_filter.1 h
  exact ⟨List.mem_of_mem_take h1, by simpa using h2⟩

set_option maxRecDepth 100000 in
set_option maxHeartbeats 4000000 in
theorem ways_walk (l : Int) (ev rv pv : Value) (es : List Ed) (rs ps : List Int) (w : World) (hE : EdgesAt w.heap.size w ev es) (hR : IntsAt w.heap.size w rv rs) (hP : IntsAt w.heap.size w pv ps) (hel : es.length ≤ 5864062014634) (hrl : rs.length ≤ 17592186043904) (hpl : ps.length ≤ 17592186043904) :
    Calls Try.prog 4 #[.agg #[vI l, ev, rv], pv] w fun e w' => e = .returned (.bool true) ∧ Fr (fun _ => False) w w' := by
  have HE : Hd (EdgesAt w.heap.size w ev es) := hE
  have HR : Hd (IntsAt w.heap.size w rv rs) := hR
  have HP : Hd (IntsAt w.heap.size w pv ps) := hP
  obtain ⟨pa, pc, rfl, -, hpin⟩ := hP
  have HPI : Hd _ := hpin
  clear hpin hE hR
  have hG := right_of l es rs
  obtain ⟨-, hn1, hn2⟩ := rN_is l
  obtain ⟨i27, hi27, hz27, hs27, hb27⟩ := info_parts (P := Try.prog) (e := 27) (z := .agg #[vI 0, vI 0, vI 0]) (size := 3) (bytes := 24) (by kernel_rfl)
  go_enter Try.func4, Try.ntmps4
  go_wp2_with fail
  refine (fixed_any _).mono ?_
  rintro e w1 ⟨rfl, hF1⟩
  have hbox := box_kept hF1
  have HF1 : Hd (Fr (fun _ => False) w w1) := ((Fr.refl _ w).alloc _).trans hF1
  have b0 : w1.cell? ⟨w.heap.size, 0, none⟩ = some (vI l) := by rw [cell_of hbox]; rfl
  have b1 : w1.cell? ⟨w.heap.size, 1, none⟩ = some ev := by rw [cell_of hbox]; rfl
  have b2 : w1.cell? ⟨w.heap.size, 2, none⟩ = some rv := by rw [cell_of hbox]; rfl
  have HG : Hd (RightG (rN l) (es.map (rE (rN l))) (rs.map (rR (rN l)))) := hG
  clear hbox hF1 hG
  go_wp2_with fail
  refine (right_law l ev rv es rs w1 (HE.out.stay HF1.out) (HR.out.stay HF1.out) hel hrl).mono ?_
  rintro e w2 ⟨hev, hrv, rfl, hoe, hoi, hap, hF2⟩
  have HEL : Hd ((es.map (rE (rN l))).length = es.length) := List.length_map _
  have HRL : Hd ((rs.map (rR (rN l))).length = rs.length) := List.length_map _
  generalize es.map (rE (rN l)) = E at *
  generalize rs.map (rR (rN l)) = R at *
  generalize rN l = n at *
  have hal : Fr (fun _ => False) w2 (w2.alloc (.cells #[vI n, hev, hrv] 34)) := (Fr.refl _ w2).alloc _
  have HE2 : Hd (EdgesAt (w2.alloc (.cells #[vI n, hev, hrv] 34)).heap.size (w2.alloc (.cells #[vI n, hev, hrv] 34)) hev E) := hoe.at.stay hal
  have HR2 : Hd (IntsAt (w2.alloc (.cells #[vI n, hev, hrv] 34)).heap.size (w2.alloc (.cells #[vI n, hev, hrv] 34)) hrv R) := hoi.at.stay hal
  have HH2 : Hd _ := heap_alloc_last w2 (.cells #[vI n, hev, hrv] 34)
  have HF2 : Hd (Fr (fun _ => False) w (w2.alloc (.cells #[vI n, hev, hrv] 34))) := (HF1.out.trans hF2).trans hal
  obtain ⟨ea, ec, rfl⟩ := hoe.shape
  obtain ⟨ra, rc, rfl⟩ := hoi.shape
  clear hoe hoi hap hF2 hal b0 b1 b2 HF1
  go_wp2_with fail
  refine (from_any n _ _ E R _ HE2.out HR2.out (by have := HEL.out; omega) (by have := HRL.out; omega)).mono ?_
  rintro e w4 ⟨hF4, ⟨hno, -⟩ | ⟨-, xb, x, rfl, hxb, hrow, hleast⟩⟩
  · exact absurd HG.out hno
  rw [Int.toNat_natCast] at hrow hleast ⊢
  have HGS : Hd (Gs w w4 w4.heap.size w2.heap.size xb n (.slice ea E.length ec) (.slice ra R.length rc) E R x) :=
    ⟨(hF4.block _ (heap_lt HH2.out) (fun h => h)).trans HH2.out, HE2.out.stay hF4, HR2.out.stay hF4, hrow, ⟨Nat.lt_of_lt_of_le (heap_lt HH2.out) hF4.size, hrow.lt, (HF2.out.trans hF4).size, Nat.le_refl _⟩, HF2.out.trans hF4⟩
  have HL : Hd (Least n E R x) := hleast
  have hEb : E.length ≤ 5864062014634 := by have := HEL.out; omega
  obtain ⟨hb, hhb⟩ : ∃ x, x = w2.heap.size := ⟨_, rfl⟩
  rw [← hhb] at HGS ⊢
  clear hhb hF4 hrow hleast hxb HE2 HR2 HH2 HF2
  obtain ⟨h0, h1, h2⟩ := HGS.out.heads
  by_cases hRz : R.length = 0
  · have hRz' : ((R.length : Int) == 0) = true := by simp [hRz]
    go_wp2_with fail
    go_ret
    exact ⟨rfl, HGS.out.fr⟩
  have hRz' : ((R.length : Int) == 0) = false := by rw [beq_eq_false_iff_ne]; omega
  by_cases hPz : ps.length = 0
  · have hPz' : ((ps.length : Int) == 0) = true := by simp [hPz]
    go_wp2_with fail
    go_ret
    exact ⟨rfl, HGS.out.fr⟩
  have hPz' : ((ps.length : Int) == 0) = false := by rw [beq_eq_false_iff_ne]; omega
  obtain ⟨pk, po, rfl, hpk, hpcs⟩ := HPI.out (by intro e; simp [e] at hPz)
  have HPC : Hd (∀ v, Fr (fun _ => False) w v → ∀ i (h : i < ps.length), v.cell? ⟨pk, po + i, none⟩ = some (vI ps[i])) := fun v hv i h => (hv.cell hpk (fun h => h)).trans (hpcs i h)
  clear hpcs HPI
  obtain ⟨rk, ro, hra, hrk, hrcs⟩ : ∃ k o, ra = some ⟨k, o, none⟩ ∧ k < w4.heap.size ∧ ∀ i (h : i < R.length), w4.cell? ⟨k, o + i, none⟩ = some (vI R[i]) := by
    obtain ⟨a, c, e1, -, e2⟩ := HGS.out.r
    cases e1
    exact e2 (by intro e; simp [e] at hRz)
  subst hra
  have hp0 : 0 < ps.length := by omega
  have hR0 : 0 < R.length := by omega
  obtain ⟨p0, hp0e⟩ : ∃ p0, ps[0] = p0 := ⟨_, rfl⟩
  have c0 : w4.cell? ⟨pk, po, none⟩ = some (vI p0) := by have := HPC.out w4 HGS.out.fr 0 hp0; rw [hp0e] at this; exact this
  obtain ⟨j0, hj0⟩ : ∃ j0 : Nat, p0 % (R.length : Int) = j0 := ⟨(p0 % (R.length : Int)).toNat, by have := Int.emod_nonneg p0 (show (R.length : Int) ≠ 0 by omega); omega⟩
  have hj0l : j0 < R.length := by have := Int.emod_lt_of_pos p0 (show (0 : Int) < R.length by omega); omega
  have hrR := HG.out.2.2 _ (List.getElem_mem hj0l)
  obtain ⟨aN, haN⟩ : ∃ aN : Nat, R[j0] = aN := ⟨R[j0].toNat, by omega⟩
  have c1 : w4.cell? ⟨rk, ro + j0, none⟩ = some (vI aN) := by rw [hrcs j0 hj0l, haN]
  have hmem : (aN : Int) ∈ R := by rw [← haN]; exact List.getElem_mem hj0l
  have haN' : aN < n := by omega
  have HW0 : Hd (Reach E R aN 0) := .root hmem
  have hx0 := HL.out.root aN hmem
  have hx0' : decide (0 < x aN) = false := by simp; omega
  have c2 := HGS.out.x.cell (i := aN) haN'
  have m0 : ∀ v : World, Calls Try.prog 10 #[vI p0, .int .i64 R.length] v fun e w' => e = .returned (vI (j0 : Nat)) ∧ w' = v := fun v => by
    have := mod_int p0 R.length (by omega) (by have := HRL.out; omega) v
    rw [hj0] at this
    exact this
  have hj0i : (0 : Int) ≤ j0 := by omega
  have hj0j : (j0 : Int) < R.length := by omega
  have ha0i : (0 : Int) ≤ aN := by omega
  have ha0j : (aN : Int) < n := by omega
  have hp0i : (0 : Int) < ps.length := by omega
  generalize x aN = xa at c2 hx0'
  clear hp0e hj0 hrR haN hmem hx0 hrcs
  go_wp2_with fail
  refine wp_region_still_tail 11 mixed (by kernel_rfl) ?_
  simp only [List.take_succ_cons, List.take_zero, List.drop_succ_cons, List.drop_zero]
  repeat still_step
  still_call (m0 _)
  repeat still_step
  refine wpStill_nil ?_
  have HGD : Hd _ := HGS.out.stay (Fr.drew (Fr.refl _ w4))
  have c2' : w4.drew.cell? ⟨xb, aN, none⟩ = some (vI xa) := c2
  have hKK : w4.drew.heap.size = w4.heap.size := rfl
  clear HGS c0 c1 h0 h1 h2 m0
  go_wp2_with fail
  obtain ⟨K, hK⟩ : ∃ K, K = w4.heap.size := ⟨_, rfl⟩
  rw [← hK] at HGD
  generalize w4.drew = w5 at *
  clear hKK hK c2 c2' hrk
  go_loopw [9, 10, 11] (fun av dv iv wr => ∃ (a k : Nat) (d : Int), av = .int .i64 a ∧ dv = .int .i64 d ∧ iv = .int .i64 k ∧ a < n ∧ 1 ≤ k ∧ k ≤ ps.length ∧ Hd (Reach E R a d) ∧ Hd (Gs w wr K hb xb n (.slice ea E.length ec) (.slice (some ⟨rk, ro, none⟩) R.length rc) E R x)) (fun _ _ v _ => match v with | .int _ q => ps.length - q.toNat | _ => 0)
  case atStart => exact ⟨aN, 1, 0, rfl, rfl, rfl, haN', Nat.le_refl _, by omega, HW0.out, HGD.out⟩
  case round =>
    obtain ⟨a, k, d, rfl, rfl, rfl, ha, hk1, hkl, HW, HS⟩ := hrel
    clear HGD HW0
    by_cases hlt : k < ps.length
    · go_wp2_with fail
      have hw5 : w.heap.size ≤ K := HS.out.lt.2.2.1
      go_loopw [12, 13] (fun tv qv wr => ∃ (q : Nat), qv = .int .i64 q ∧ q ≤ E.length ∧ Hd (OwnE wr K tv (inF E a q)) ∧ Hd (Gs w wr K hb xb n (.slice ea E.length ec) (.slice (some ⟨rk, ro, none⟩) R.length rc) E R x)) (fun _ v _ => match v with | .int _ q => E.length - q.toNat | _ => 0)
      case atStart => exact ⟨0, rfl, Nat.zero_le _, OwnE.nil _ _, HS.out⟩
      case round =>
        obtain ⟨q, rfl, hq, HO, HS⟩ := hrel
        obtain ⟨h0, h1, h2⟩ := HS.out.heads
        by_cases hqlt : q < E.length
        · obtain ⟨ek, eo, hea, hek, hecs⟩ : ∃ k o, ea = some ⟨k, o, none⟩ ∧ k < K ∧ ∀ i (h : i < E.length), wr.cell? ⟨k, o + i * 3, none⟩ = some (vI E[i].1) ∧ wr.cell? ⟨k, o + i * 3 + 1, none⟩ = some (vI E[i].2.1) ∧ wr.cell? ⟨k, o + i * 3 + 2, none⟩ = some (vI E[i].2.2) := by
            obtain ⟨a, c, e1, -, e2⟩ := HS.out.e
            cases e1
            exact e2 (by intro e; simp [e] at hqlt)
          subst hea
          obtain ⟨d0, d1, d2⟩ := hecs q hqlt
          have HQ : Hd (E[q]? = some E[q]) := List.getElem?_eq_getElem hqlt
          obtain ⟨e, he⟩ : ∃ e, E[q] = e := ⟨_, rfl⟩
          rw [he] at d0 d1 d2 HQ
          clear he hecs
          obtain ⟨e0, e1, e2⟩ := e
          simp only at d0 d1 d2
          have hq0 : (0 : Int) ≤ q := by omega
          have hq1 : (q : Int) < E.length := by omega
          by_cases hea : e0 = a
          · have HT : Hd (inF E a (q + 1) = inF E a q ++ [((a : Int), e1, e2)]) := by rw [hea] at HQ; exact inF_yes HQ.out rfl
            subst hea
            have hil := inF_le E a q
            obtain ⟨I, hI⟩ : ∃ I, I = inF E a q := ⟨_, rfl⟩
            rw [← hI] at HO HT hil
            clear hI
            have HEl : Hd (E.length ≤ 5864062014634) := by have := HEL.out; unfold Hd; omega
            have hIb : I.length + 1 ≤ 5864062014635 := by have := HEl.out; omega
            have hsz : K ≤ wr.heap.size := HS.out.lt.2.2.2
            have HO1 : Hd ((wr.alloc (.cells #[vI (a : Int), vI e1, vI e2] 27)).ownsRow K 27 3 u12 I.length (eCells I)) := World.ownsRow.alloc HO.out _
            have hnews : ∀ j u, [vI (a : Int), vI e1, vI e2][j]? = some u → (wr.alloc (.cells #[vI (a : Int), vI e1, vI e2] 27)).cell? ((⟨wr.heap.size, 0, none⟩ : Addr).add j) = some u :=
              World.news_of_block (cs := #[vI (a : Int), vI e1, vI e2]) (heap_alloc_last wr (.cells #[vI (a : Int), vI e1, vI e2] 27))
            have hbase : K ≤ (wr.alloc (.cells #[vI (a : Int), vI e1, vI e2] 27)).heap.size := by simp; omega
            go_wp2_with ((at_builtin; refine Hd.out ?_))
            unfold Hd
            refine wpList_append_lies _ rfl (.tmp 87) (.tmp 93) 24 rfl K 27 i27 (.agg #[vI 0, vI 0, vI 0]) 3 24 under24 hi27 hz27 hs27 hb27 rfl (by omega) u12 I.length _ rfl HO1.out ⟨wr.heap.size, 0, none⟩ 1 1 [vI (a : Int), vI e1, vI e2] rfl rfl hnews (by intro u hu; simp at hu; rcases hu with rfl | rfl | rfl <;> rfl) (by omega) (by unfold maxLen; omega) (by omega) hbase (wr.heap.size + 1) (by simp) ?_
            intro g6 cap6 w6 hown6 hgrow6 hat6 hlt6
            have HO6 : Hd (OwnE w6 K (.slice (some ⟨g6, 0, none⟩) (I.length + 1) cap6) (I ++ [((a : Int), e1, e2)])) := OwnE.of (e := ((a : Int), e1, e2)) hown6
            have HS6 : Hd _ := (HS.out.stay ((Fr.refl _ wr).alloc (.cells #[vI (a : Int), vI e1, vI e2] 27))).keep (grown_fr hgrow6) (fun j hj e => by have := (HO.out.ge j e).1; omega)
            clear hown6 hgrow6 hat6 hlt6 HO HS HO1 hnews hbase h0 h1 h2 d0 d1 d2
            go_wp2_with fail
            refine ⟨⟨q + 1, by simp, by omega, ?_, HS6.out⟩, by simp; omega⟩
            unfold Hd; rw [HT.out]; exact HO6.out
          · have hea' : (e0 == (a : Int)) = false := by rw [beq_eq_false_iff_ne]; exact hea
            have HT : Hd (inF E a (q + 1) = inF E a q) := inF_no HQ.out hea
            go_wp2_with fail
            refine ⟨⟨q + 1, by simp, by omega, ?_, HS.out⟩, by simp; omega⟩
            unfold Hd; rw [HT.out]; exact HO.out
        · have HIM : Hd (∀ e ∈ inF E a q, e ∈ E ∧ e.1 = (a : Int)) := fun e h => inF_mem h
          have hil := inF_le E a q
          generalize inF E a q = I at *
          obtain ⟨ia, ic, rfl⟩ := HO.out.shape
          have HEl : Hd (E.length ≤ 5864062014634) := by have := HEL.out; unfold Hd; omega
          have hIb : I.length ≤ 5864062014635 := by have := HEl.out; omega
          by_cases hIz : I.length = 0
          · have hIz' : ((I.length : Int) == 0) = true := by simp [hIz]
            go_wp2_with fail
            go_ret
            exact ⟨rfl, HS.out.fr⟩
          have hIz' : ((I.length : Int) == 0) = false := by rw [beq_eq_false_iff_ne]; omega
          obtain ⟨ik, io, hia, hik, hics⟩ : ∃ k o, ia = some ⟨k, o, none⟩ ∧ k < wr.heap.size ∧ ∀ i (h : i < I.length), wr.cell? ⟨k, o + i * 3, none⟩ = some (vI I[i].1) ∧ wr.cell? ⟨k, o + i * 3 + 1, none⟩ = some (vI I[i].2.1) ∧ wr.cell? ⟨k, o + i * 3 + 2, none⟩ = some (vI I[i].2.2) := by
            obtain ⟨a, c, e1, -, e2⟩ := HO.out.at
            cases e1
            exact e2 (by intro e; simp [e] at hIz)
          subst hia
          have d0 := HPC.out wr HS.out.fr k hlt
          obtain ⟨p1, hp1⟩ : ∃ p1, ps[k] = p1 := ⟨_, rfl⟩
          rw [hp1] at d0
          obtain ⟨j1, hj1⟩ : ∃ j1 : Nat, p1 % (I.length : Int) = j1 := ⟨(p1 % (I.length : Int)).toNat, by have := Int.emod_nonneg p1 (show (I.length : Int) ≠ 0 by omega); omega⟩
          have hj1l : j1 < I.length := by have := Int.emod_lt_of_pos p1 (show (0 : Int) < I.length by omega); omega
          have m1 : ∀ v : World, Calls Try.prog 10 #[vI p1, .int .i64 I.length] v fun e w' => e = .returned (vI (j1 : Nat)) ∧ w' = v := fun v => by
            have := mod_int p1 I.length (by omega) (by omega) v
            rw [hj1] at this
            exact this
          obtain ⟨f0, f1, f2⟩ := hics j1 hj1l
          obtain ⟨hmE, hmd⟩ := HIM.out _ (List.getElem_mem hj1l)
          have hre := HG.out.2.1 _ hmE
          obtain ⟨sN, hsN⟩ : ∃ sN : Nat, I[j1].2.1 = sN := ⟨I[j1].2.1.toNat, by have := hre.2.1; omega⟩
          have hsn : sN < n := by have := hre.2.1; omega
          have HW2 : Hd (Reach E R sN (plusX d I[j1].2.2)) := by
            have := Reach.step (e := I[j1]) hmE (by rw [hmd]; exact HW.out)
            rw [hsN] at this
            exact this
          rw [hmd] at f0
          rw [hsN] at f1
          obtain ⟨kk, hkk⟩ : ∃ kk, I[j1].2.2 = kk := ⟨_, rfl⟩
          rw [hkk] at f2 HW2
          have hle := HL.out.le HG.out HW2.out
          rw [Int.toNat_natCast] at hle
          have HSA : Hd _ := HS.out.stay ((Fr.refl _ wr).alloc (.cells #[vI (a : Int), vI sN, vI kk] 27))
          have c5 := HSA.out.x.cell (i := sN) hsn
          have hk0 : (0 : Int) ≤ k := by omega
          have hk2 : (k : Int) < ps.length := by omega
          have hj0' : (0 : Int) ≤ j1 := by omega
          have hj1' : (j1 : Int) < I.length := by omega
          have hs0' : (0 : Int) ≤ sN := by omega
          have hs1' : (sN : Int) < n := by omega
          have hdec : decide (plusX d kk < x sN) = false := by simp; omega
          generalize x sN = xs at c5 hdec
          clear hp1 hj1 hics hmE hmd hre hsN hkk hle HIM HW
          go_wp2_with fail
          refine (m1 _).mono ?_
          rintro e w6 ⟨rfl, rfl⟩
          go_wp2_with fail
          refine (plus_any d kk _).mono ?_
          rintro e w7 ⟨rfl, rfl⟩
          generalize plusX d kk = dd at *
          go_wp2_with fail
          refine ⟨⟨sN, k + 1, dd, rfl, rfl, by simp, hsn, by omega, by omega, HW2.out, HSA.out⟩, by simp; omega⟩
    · go_wp2_with fail
      go_ret
      exact ⟨rfl, HS.out.fr⟩

end Go.Proofs.Ytcjfmfddkhpfnaa
