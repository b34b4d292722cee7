import Derived.Test.YtmdlebolmhnhaaaI0
namespace Go.Proofs.Ytmdlebolmhnhaaa
open Go.RowKit (wrap32 wrap64)
open Go.Maps (Keyed)
set_option linter.unusedVariables false
set_option linter.unusedSimpArgs false

set_option maxRecDepth 100000 in
set_option maxHeartbeats 2000000 in
/-- act, of a field that is written, a pointer. -/
theorem act_storeP (w0 : World) (b : Nat) (g : Gh) (a : Abs) (lb d : Nat) (av : Value) (E : List Ent) (o : ActR) (w : World) (h : Both w0 w b g a lb d av E) (hq : Sq a d (ms E)) {N : Nat} (hf : Fine N a) (hN : N + 1 ≤ 2000000000000) (h4 : o.kind = 5) (hh : o.heap = true) :
    Calls Try.prog 22 #[ptr lb, actV o] w (ActEnds w0 b lb N) := by
  have hmd : a.made = E.length := by have := hq.made; simpa [ms] using this
  have hE : E.length ≤ N := by have := hf.made; omega
  have hFA : Fr (fun _ => False) w (w.alloc (.cells (actC o) 55)) := Fr.alloc (Fr.refl _ w) _
  have HB : Hd _ := h.keep hFA
  have HQ : Hd _ := hq
  have HF : Hd _ := hf
  have A1 := heap_alloc_last w (.cells (actC o) 55)
  obtain ⟨k0, n0, hp0, f0, x0⟩ := o
  obtain rfl : k0 = 5 := h4
  obtain rfl : hp0 = true := hh
  clear h hq hf hmd hFA
  go_enter Try.func22, Try.ntmps22
  go_wp2_with fail
  generalize w.alloc (.cells (actC ⟨5, n0, true, f0, x0⟩) 55) = w1 at *
  obtain ⟨ob, hob⟩ : ∃ ob, ob = w.heap.size := ⟨_, rfl⟩
  rw [← hob] at A1 ⊢
  clear hob
  refine (show Calls Try.prog 33 #[ptr lb] w1 _ from there_any w0 b g a lb d av E w1 HB.out (by omega)).mono ?_
  rintro e w2 ⟨v1, rfl, hr1, hF1⟩
  have HB2 : Hd _ := HB.out.keep hF1
  have A2 := (hF1.block ob (heap_lt A1) (fun h => h)).trans A1
  have hmem := @thereL_mem E
  have hln := thereL_len (ms E) E.length
  obtain ⟨ts, hts⟩ : ∃ ts, thereL (ms E) E.length = ts := ⟨_, rfl⟩
  rw [hts] at hr1 hmem hln
  obtain ⟨la, lc, rfl, hla⟩ := row_shape hr1
  have HL : Hd _ := hr1
  have HMEM : Hd _ := @hmem
  clear hr1 hF1 A1 HB hts hmem
  have p0 : w2.cell? ⟨ob, 0, none⟩ = some (vI 5) := by rw [cell_of A2]; rfl
  have p1 : w2.cell? ⟨ob, 1, none⟩ = some (vI n0) := by rw [cell_of A2]; rfl
  have p2 : w2.cell? ⟨ob, 2, none⟩ = some (.bool true) := by rw [cell_of A2]; rfl
  have p3 : w2.cell? ⟨ob, 3, none⟩ = some (vI f0) := by rw [cell_of A2]; rfl
  have p4 : w2.cell? ⟨ob, 4, none⟩ = some (vI x0) := by rw [cell_of A2]; rfl
  have hobl : ob < w2.heap.size := heap_lt A2
  obtain ⟨c0, c1, c2⟩ := HB2.out.led.heads
  clear A2
  by_cases ht : ts.length = 0
  · rw [ht]
    go_wp2_with fail
    go_ret
    exact ⟨rfl, g, a, d, av, E, HB2.out, HQ.out, HF.out.mono (Nat.le_succ N)⟩
  · obtain ⟨m, hm, hml⟩ := mod_lt n0 ts.length (by omega)
    obtain ⟨c, r, hc, hcE, hr, hrt⟩ := HMEM.out hml
    obtain ⟨lg, rfl⟩ := hla (by omega)
    obtain ⟨ad, cap, rfl, had⟩ := row_shape HB2.out.led.row
    obtain ⟨ab, rfl⟩ := had (by omega)
    have l0 : w2.cell? ⟨lg, m, none⟩ = some (vI c) := row_cell HL.out (by rw [List.getElem?_map, hc]; rfl)
    have hm0 : (0 : Int) ≤ m := by omega
    have hm1 : (m : Int) < ts.length := by omega
    have hc0 : (0 : Int) ≤ c := by omega
    have hc1 : (c : Int) < E.length := by omega
    have hpos : decide ((0 : Int) < (ts.length : Int)) = true := by simp; omega
    obtain ⟨fa, fc, hfv, hfa⟩ := row_shape (HB2.out.led.fld c r hr)
    have hfl := HQ.out.flen c r.m (ms_get hr)
    obtain ⟨fb, rfl⟩ := hfa (by omega)
    obtain ⟨q0, q1, -⟩ := HB2.out.led.cells rfl hr
    rw [hfv] at q1
    obtain ⟨f, hfm, hfl2⟩ := mod_lt f0 r.m.fields.length (by omega)
    have modf : ∀ w : World, Calls Try.prog 13 #[vI f0, .int .i64 r.m.fields.length] w fun e w' => e = .returned (vI f) ∧ w' = w := fun w => by
      have := mod_big f0 r.m.fields.length (by omega) (by omega) w
      rw [hfm] at this
      exact this
    have HFV : Hd _ := hfv
    have HR : Hd _ := hr
    have HRT : Hd _ := hrt
    have HM : Hd _ := hm
    have HQ0 : Hd _ := q0
    have HQ1 : Hd _ := q1
    have hlbw : lb < w2.heap.size := heap_lt HB2.out.led.blk
    clear hr hrt hc hla had hfv hfm q0
    go_wp2_with fail
    refine (show Calls Try.prog 13 #[vI n0, .int .i64 (ts.length : Int)] w2 _ from mod_big n0 ts.length (by omega) (by omega) w2).mono ?_
    rintro e w3 ⟨rfl, rfl⟩
    rw [show n0 % (ts.length : Int) = m from HM.out]
    go_wp2_with fail
    refine wp_region_still_tail 12 mixed (by kernel_rfl) ?_
    simp only [List.take_succ_cons, List.take_zero, List.drop_succ_cons, List.drop_zero]
    repeat still_step
    still_call (modf _)
    repeat still_step
    refine wpStill_nil ?_
    go_wp2_with fail
    have hFa : Fr (fun _ => False) w3 (w3.alloc (.cells #[vI 1, vI x0] 32)).drew := (Fr.alloc (Fr.refl _ w3) _).drew
    have HBa : Hd _ := HB2.out.keep hFa
    have Aa : (w3.alloc (.cells #[vI 1, vI x0] 32)).drew.heap[w3.heap.size]? = some (.cells #[vI 1, vI x0] 32) := heap_alloc_last w3 _
    have pa4 : (w3.alloc (.cells #[vI 1, vI x0] 32)).drew.cell? ⟨ob, 4, none⟩ = some (vI x0) := (hFa.cell hobl (fun h => h)).trans p4
    obtain ⟨xm, hxm, hxl⟩ := mod_lt x0 E.length (by omega)
    have modx : ∀ w : World, Calls Try.prog 13 #[vI x0, .int .i64 E.length] w fun e w' => e = .returned (vI xm) ∧ w' = w := fun w => by
      have := mod_big x0 E.length (by omega) (by omega) w
      rw [hxm] at this
      exact this
    have HRIGHT : Hd (rightB a.made (2, (1 + (xm : Int))) = true) := by
      unfold Hd
      have h1 := HQ.out.made
      have h2 : (ms E).length = E.length := by simp [ms]
      simp [rightB]
      omega
    clear hFa hxm
    generalize (w3.alloc (.cells #[vI 1, vI x0] 32)).drew = wa at *
    obtain ⟨a0, a1, a2⟩ := HBa.out.led.heads
    have u0 : wa.cell? ⟨w3.heap.size, 0, none⟩ = some (vI 1) := by rw [cell_of Aa]; rfl
    have u1 : wa.cell? ⟨w3.heap.size, 1, none⟩ = some (vI x0) := by rw [cell_of Aa]; rfl
    have k0 : wa.frozen? ⟨w3.heap.size, 0, none⟩ = false := frozen_of Aa 0
    have k1 : wa.frozen? ⟨w3.heap.size, 1, none⟩ = false := frozen_of Aa 1
    have HB4 : Hd (Both w0 (set2 wa w3.heap.size 0 (2, (1 + (xm : Int)))).drew b g a lb d (.slice (some ⟨ab, 0, none⟩) E.length cap) E) := (HBa.out.other (set2_fr wa w3.heap.size 0 (2, (1 + (xm : Int)))) (fun k hk => by
      subst hk
      refine ⟨fun hlb => by have := (HB2.out.led.lt hlb).2; omega, ?_, HB2.out.fr.size⟩
      by_cases h0 : g.own w3.heap.size = 0
      · exact h0
      · have := HB2.out.mem.olt _ h0; omega)).keep (Fr.drew (Fr.refl _ _))
    have A4 : (set2 wa w3.heap.size 0 (2, (1 + (xm : Int)))).drew.heap[w3.heap.size]? = some (.cells #[vI 2, vI (1 + (xm : Int))] 32) := by
      have := set_of (set_of Aa 0 (vI 2)) 1 (vI (1 + (xm : Int)))
      exact this
    clear Aa c0 c1 c2
    refine wp_region_still_tail 10 mixed (by kernel_rfl) ?_
    simp only [List.take_succ_cons, List.take_zero, List.drop_succ_cons, List.drop_zero]
    repeat still_step
    still_call (modx _)
    repeat still_step
    refine wpStill_nil ?_
    go_wp2_with fail
    generalize (set2 wa w3.heap.size 0 (2, (1 + (xm : Int)))).drew = w4 at *
    clear a0 a1 a2 u0 u1 k0 k1 pa4
    have c0 : True := trivial
    have c1 : True := trivial
    have c2 : True := trivial
    obtain ⟨vb, hvb⟩ : ∃ vb, vb = w3.heap.size := ⟨_, rfl⟩
    rw [← hvb] at A4 ⊢
    have hfbv : fb < vb := by rw [hvb]; exact (HB2.out.led.lt (Or.inr (Or.inr ⟨c, r, HR.out, by rw [show r.fv = _ from HFV.out]; rfl⟩))).2
    clear hvb
    clear c0 c1 c2 p0 p1 p2 p3 p4 l0 q1 HQ0 HQ1
    obtain ⟨c0, c1, c2⟩ := HB4.out.led.heads
    obtain ⟨q0, q1, -⟩ := HB4.out.led.cells rfl HR.out
    rw [show r.fv = _ from HFV.out] at q1
    have v0 : w4.cell? ⟨vb, 0, none⟩ = some (vI 2) := by rw [cell_of A4]; rfl
    have v1 : w4.cell? ⟨vb, 1, none⟩ = some (vI (1 + (xm : Int))) := by rw [cell_of A4]; rfl
    have hrow := HB4.out.led.fld c r HR.out
    rw [show r.fv = _ from HFV.out] at hrow
    have g0 : w4.cell? ⟨fb, f * 2, none⟩ = some (vI r.m.fields[f].1) := row_cell hrow (by rw [Nat.mul_comm]; exact flat_fst _ f hfl2)
    have g1 : w4.cell? ⟨fb, f * 2 + 1, none⟩ = some (vI r.m.fields[f].2) := row_cell hrow (by rw [Nat.mul_comm]; exact flat_snd _ f hfl2)
    obtain ⟨cur, hcur⟩ := row_block hrow
    have y0 : w4.frozen? ⟨fb, f * 2, none⟩ = false := frozen_of hcur _
    have y1 : w4.frozen? ⟨fb, f * 2 + 1, none⟩ = false := frozen_of hcur _
    have hf0 : (0 : Int) ≤ f := by omega
    have hf1 : (f : Int) < r.m.fields.length := by omega
    have HB5 : Hd (Both w0 (set2 w4 fb (f * 2) (2, (1 + (xm : Int)))).drew b g a lb d (.slice (some ⟨ab, 0, none⟩) E.length cap) (E.set c { r with m := { r.m with fields := r.m.fields.set f (2, (1 + (xm : Int))) } })) := (HB4.out.field HR.out HFV.out hfl2 (2, (1 + (xm : Int)))).keep (Fr.drew (Fr.refl _ _))
    have A5 : (set2 w4 fb (f * 2) (2, (1 + (xm : Int)))).drew.heap[vb]? = some (.cells #[vI 2, vI (1 + (xm : Int))] 32) := ((set2_fr w4 fb (f * 2) (2, (1 + (xm : Int)))).block vb (heap_lt A4) (fun e => by omega)).trans A4
    have HA5 : Hd _ := A5
    have HG0 : Hd _ := g0
    generalize r.m.fields[f] = old at *
    clear hrow hcur A4 A5 q0
    refine wp_region_still_tail 11 mixed (by kernel_rfl) ?_
    simp only [List.take_succ_cons, List.take_zero, List.drop_succ_cons, List.drop_zero]
    repeat still_step
    refine wpStill_nil ?_
    go_wp2_with fail
    generalize (set2 w4 fb (f * 2) (2, (1 + (xm : Int)))).drew = w5 at *
    clear c0 c1 c2 q1 v0 v1 g0 g1 y0 y1
    obtain ⟨c0, c1, c2⟩ := HB5.out.led.heads
    have hget : (E.set c { r with m := { r.m with fields := r.m.fields.set f (2, (1 + (xm : Int))) } })[c]? = some { r with m := { r.m with fields := r.m.fields.set f (2, (1 + (xm : Int))) } } := List.getElem?_set_self hcE
    have q0 := (HB5.out.led.cells (by rw [List.length_set]) hget).1
    have hnum := HB5.out.led.num c _ hget
    simp only at q0 hnum
    rw [hnum] at q0
    have v0 : w5.cell? ⟨vb, 0, none⟩ = some (vI 2) := by rw [cell_of HA5.out]; rfl
    have v1 : w5.cell? ⟨vb, 1, none⟩ = some (vI (1 + (xm : Int))) := by rw [cell_of HA5.out]; rfl
    obtain ⟨hs0, hsq⟩ := HQ.out.store (ms_get HR.out) HRT.out hfl2 (x := (2, (1 + (xm : Int)))) HRIGHT.out
    have HS0 : Hd _ := hs0
    have HSQ : Hd _ := hsq
    have hst := store_any b g a (2, ((c + 1 : Nat) : Int)) f (2, (1 + (xm : Int))) w5.drew HB5.out.mem.drew (by have := HF.out.made; omega)
    have HST : Hd _ := hst
    have HFI : Hd _ := HF.out.storeS (2, ((c + 1 : Nat) : Int)) f (2, (1 + (xm : Int)))
    have hci : ((c + 1 : Nat) : Int) = (c : Int) + 1 := by omega
    rw [hci] at HST HS0 HSQ HFI q0
    clear hget hnum hs0 hsq hst hci
    refine wp_region_still_tail 15 mixed (by kernel_rfl) ?_
    simp only [List.take_succ_cons, List.take_zero, List.drop_succ_cons, List.drop_zero]
    repeat still_step
    refine wpStill_nil ?_
    go_wp2_with fail
    refine (show Calls Try.prog 14 #[ptr b, vv (2, (c : Int) + 1), vI f, vv (2, (1 + (xm : Int)))] w5.drew _ from HST.out).mono ?_
    rintro e w6 ⟨rfl, hM6, hF6⟩
    rw [show (storeX a (2, (c : Int) + 1) (f : Int) (2, (1 + (xm : Int)))).2 = 0 from HS0.out]
    have HB6 : Hd _ := (HB5.out.keep (Fr.drew (Fr.refl _ w5))).call hM6 hF6 (Ext.refl _ _)
    clear hM6 hF6
    go_wp2_with fail
    go_ret
    refine ⟨rfl, g, _, d, _, _, HB6.out, ?_, HFI.out⟩
    rw [ms_set]
    exact HSQ.out

end Go.Proofs.Ytmdlebolmhnhaaa
