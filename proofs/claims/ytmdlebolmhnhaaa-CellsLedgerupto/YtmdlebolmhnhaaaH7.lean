import Derived.Test.YtmdlebolmhnhaaaH6
namespace Go.Proofs.Ytmdlebolmhnhaaa
open Go.RowKit (wrap32 wrap64)
open Go.Maps (Keyed)
set_option linter.unusedVariables false
set_option linter.unusedSimpArgs false

theorem cell_ltH {w : World} {k o : Nat} {u : Value} (h : w.cell? ⟨k, o, none⟩ = some u) : k < w.heap.size := by
  unfold World.cell? at h
  rcases Nat.lt_or_ge k w.heap.size with hk | hk
  · exact hk
  · simp [Array.getElem?_eq_none hk] at h

/-- A result's place that was made ahead of the call. -/
theorem res_after {wb w2 : World} (h : Fr (fun _ => False) (wb.alloc (.cells #[vI 0, vI 0] 32)).drew w2) : w2.cell? ⟨wb.heap.size, 0, none⟩ = some (vI 0) ∧ w2.cell? ⟨wb.heap.size, 1, none⟩ = some (vI 0) ∧ w2.frozen? ⟨wb.heap.size, 0, none⟩ = false ∧ w2.frozen? ⟨wb.heap.size, 1, none⟩ = false := by
  have B : w2.heap[wb.heap.size]? = some (.cells #[vI 0, vI 0] 32) := (h.block wb.heap.size (by simp) (fun h => h)).trans (heap_alloc_last wb _)
  exact ⟨by rw [cell_of B]; rfl, by rw [cell_of B]; rfl, frozen_of B 0, frozen_of B 1⟩
theorem res_B {wb w2 : World} (h : Fr (fun _ => False) wb.drew w2) (x : Val) : ∃ w3 rb, w2.alloc (.cells #[vI x.1, vI x.2] 32) = w3 ∧ w2.heap.size = rb ∧ Hd (Fr (fun _ => False) wb w3 ∧ w3.cell? ⟨rb, 0, none⟩ = some (vI x.1) ∧ w3.cell? ⟨rb, 1, none⟩ = some (vI x.2)) := by
  have V3 := heap_alloc_last w2 (.cells #[vI x.1, vI x.2] 32)
  exact ⟨_, _, rfl, rfl, Fr.alloc ((Fr.drew (Fr.refl _ wb)).trans h) _, by rw [cell_of V3]; rfl, by rw [cell_of V3]; rfl⟩
theorem res_A {wb w2 : World} (h : Fr (fun _ => False) (wb.alloc (.cells #[vI 0, vI 0] 32)).drew w2) (x : Val) : ∃ w3 rb, (w2.setCell ⟨wb.heap.size, 0, none⟩ (vI x.1)).setCell ⟨wb.heap.size, 1, none⟩ (vI x.2) = w3 ∧ wb.heap.size = rb ∧ Hd (Fr (fun _ => False) wb w3 ∧ w3.cell? ⟨rb, 0, none⟩ = some (vI x.1) ∧ w3.cell? ⟨rb, 1, none⟩ = some (vI x.2)) := by
  have B : w2.heap[wb.heap.size]? = some (.cells #[vI 0, vI 0] 32) := (h.block wb.heap.size (by simp) (fun h => h)).trans (heap_alloc_last wb _)
  have V3 := set_of (set_of B 0 (vI x.1)) 1 (vI x.2)
  refine ⟨_, _, rfl, rfl, ?_, by rw [cell_of V3]; rfl, by rw [cell_of V3]; rfl⟩
  exact Fr.setCell (Fr.setCell ((Fr.alloc (Fr.refl _ wb) _).drew.trans h) _ _ (Or.inr (Nat.le_refl _))) _ _ (Or.inr (Nat.le_refl _))
theorem fr_resB {w1 wb w2 : World} (h : Fr (fun _ => False) w1 wb) (h2 : Fr (fun _ => False) wb.drew w2) (o : Obj) : Fr (fun _ => False) w1 (w2.alloc o) := Fr.alloc (h.drew.trans h2) o
theorem fr_resA {w1 wb w2 : World} (h : Fr (fun _ => False) w1 wb) (h2 : Fr (fun _ => False) (wb.alloc (.cells #[vI 0, vI 0] 32)).drew w2) (u v : Value) : Fr (fun _ => False) w1 ((w2.setCell ⟨wb.heap.size, 0, none⟩ u).setCell ⟨wb.heap.size, 1, none⟩ v) :=
  Fr.setCell (Fr.setCell (((Fr.alloc h _).drew).trans h2) _ _ (Or.inr h.size)) _ _ (Or.inr h.size)

theorem Sq.right {a : Abs} {d : Nat} {L : List MadeR} (h : Sq a d L) {i : Nat} (hi : i < L.length) : rightB a.made (2, ((i + 1 : Nat) : Int)) = true := by
  have := h.made
  simp [rightB]
  omega

theorem Sq.load {a : Abs} {d : Nat} {L : List MadeR} (h : Sq a d L) {i : Nat} {m : MadeR} (hm : L[i]? = some m) (f : Int) :
    loadX a (2, ((i + 1 : Nat) : Int)) f = if m.there then (if 0 ≤ f ∧ f < m.fields.length then (m.fields.getD f.toNat (0, 0), 0) else ((0, 0), 33)) else ((0, 0), 32) := by
  have hr := h.right (List.getElem?_eq_some_iff.1 hm).1
  unfold loadX
  rw [hr, if_neg (by simp), if_neg (by simp)]
  simp only [Int.toNat_natCast, h.cell i m hm]
  cases m.there <;> rfl

set_option maxRecDepth 100000 in
set_option maxHeartbeats 4000000 in
/-- square: the memory tells what the ledger has. -/
theorem square_any (w0 : World) (b : Nat) (g : Gh) (a : Abs) (lb d : Nat) (av : Value) (E : List Ent) (w : World) (h : Both w0 w b g a lb d av E) (hq : Sq a d (ms E)) {N : Nat} (hf : Fine N a) (hN : N ≤ 2000000000000) :
    Calls Try.prog 23 #[ptr lb] w fun e w' => e = .returned (.bool true) ∧ Fr (fun _ => False) w w' := by
  have hmd : a.made = E.length := by have := hq.made; simpa [ms] using this
  have hE : E.length ≤ N := by have := hf.made; omega
  have hma : a.made ≤ 2000000000000 := by omega
  obtain ⟨c0, c1, c2⟩ := h.led.heads
  obtain ⟨ad, cap, rfl, had⟩ := row_shape h.led.row
  have HB : Hd _ := h
  have HQ : Hd _ := hq
  clear h hq hf hmd
  go_enter Try.func23, Try.ntmps23
  go_wp2_with fail
  refine (show Calls Try.prog 19 #[ptr b] w _ from live_any b g a w HB.out.mem (by omega)).mono ?_
  rintro e w1 ⟨v1, rfl, hr1, hF1⟩
  have HF1 : Hd _ := hF1
  have HB1 : Hd _ := HB.out.keep hF1
  rw [HQ.out.live] at hr1
  simp only [ms, List.length_map] at hr1
  obtain ⟨ts, hts⟩ : ∃ ts, thereL (List.map (·.m) E) E.length = ts := ⟨_, rfl⟩
  have HTS : Hd (thereL (ms E) E.length = ts) := hts
  rw [hts] at hr1
  clear hts hF1 c0 c1 c2 HB
  obtain ⟨la, lc, rfl, hla⟩ := row_shape hr1
  have HL : Hd _ := hr1
  have htl : ts.length ≤ E.length := by rw [← HTS.out]; exact thereL_len _ _
  clear hr1
  go_wp2_with fail
  go_loopw [4, 5] (fun u v wr => ∃ (i kk : Nat), u = .int .i64 kk ∧ v = .int .i64 i ∧ i ≤ E.length ∧ Hd (kk = (thereL (ms E) i).length) ∧ Hd (Fr (fun _ => False) w1 wr)) (fun _ v _ => match v with | .int _ q => E.length - q.toNat | _ => 0)
  case atStart => exact ⟨0, 0, rfl, rfl, Nat.zero_le _, rfl, Fr.refl _ _⟩
  case round =>
    obtain ⟨i, kk, rfl, rfl, hi, HK, HF⟩ := hrel
    have HBi : Hd _ := HB1.out.keep HF.out
    obtain ⟨c0, c1, c2⟩ := HBi.out.led.heads
    by_cases hlt : i < E.length
    · obtain ⟨ab, rfl⟩ := had (by omega)
      obtain ⟨r, hr⟩ : ∃ r, E[i]? = some r := ⟨_, List.getElem?_eq_getElem hlt⟩
      obtain ⟨q0, q1, q2, q3, q4⟩ := HBi.out.led.cells rfl hr
      have HLD : Hd (∀ f, loadX a (2, r.num) f = if r.m.there then (if 0 ≤ f ∧ f < r.m.fields.length then (r.m.fields.getD f.toNat (0, 0), 0) else ((0, 0), 33)) else ((0, 0), 32)) := fun f => by rw [HBi.out.led.num i r hr]; exact HQ.out.load (ms_get hr) f
      have HTB : Hd _ := thereB_ms hr
      have hi0 : (0 : Int) ≤ i := by omega
      have hi1 : (i : Int) < E.length := by omega
      have HR : Hd _ := hr
      obtain ⟨z, hz⟩ : ∃ z, r.num = z := ⟨_, rfl⟩
      have HZ : Hd _ := hz
      rw [hz] at q0 HLD
      clear had hr hz
      have hlbw : lb < wr.heap.size := heap_lt HBi.out.led.blk
      obtain ⟨fa, fc, hfv, hfa⟩ := row_shape (HBi.out.led.fld i r HR.out)
      have hfl := HQ.out.flen i r.m (ms_get HR.out)
      obtain ⟨fb, rfl⟩ := hfa (by omega)
      have HFV : Hd _ := hfv
      rw [hfv] at q1
      clear hfv hfa
      cases ht : r.m.there
      · rw [ht] at q4 HLD
        have HT : Hd _ := ht
        clear ht
        obtain ⟨A1, A2, A3, hFB⟩ := alloc2 wr (.cells #[vI z, .slice (some ⟨fb, 0, none⟩) r.m.fields.length fc, vI r.m.depth, .bool r.m.heap, .bool false] 76) (.cells #[vI 2, vI z] 32)
        have HBb : Hd _ := HBi.out.keep hFB
        have HFb : Hd _ := HF.out.trans hFB
        have hlen : wr.heap.size + 1 < ((wr.alloc (.cells #[vI z, .slice (some ⟨fb, 0, none⟩) r.m.fields.length fc, vI r.m.depth, .bool r.m.heap, .bool false] 76)).alloc (.cells #[vI 2, vI z] 32)).heap.size := by rw [A3]; omega
        go_wp2_with fail
        generalize (wr.alloc (.cells #[vI z, .slice (some ⟨fb, 0, none⟩) r.m.fields.length fc, vI r.m.depth, .bool r.m.heap, .bool false] 76)).alloc (.cells #[vI 2, vI z] 32) = wb at *
        clear A3 hFB c0 c1 c2 q0 q1 q2 q3 q4
        obtain ⟨c0, c1, c2⟩ := HBb.out.led.heads
        have m0 : wb.cell? ⟨wr.heap.size + 1, 0, none⟩ = some (vI 2) := by rw [cell_of A2]; rfl
        have m1 : wb.cell? ⟨wr.heap.size + 1, 1, none⟩ = some (vI z) := by rw [cell_of A2]; rfl
        have e0 : wb.cell? ⟨wr.heap.size, 0, none⟩ = some (vI z) := by rw [cell_of A1]; rfl
        have e1 : wb.cell? ⟨wr.heap.size, 1, none⟩ = some (.slice (some ⟨fb, 0, none⟩) r.m.fields.length fc) := by rw [cell_of A1]; rfl
        obtain ⟨cb, hcb⟩ : ∃ cb, cb = wr.heap.size := ⟨_, rfl⟩
        have HCB : Hd (wr.heap.size ≤ cb) := Nat.le_of_eq hcb.symm
        rw [← hcb] at m0 m1 e0 e1 hlen A1 A2 ⊢
        have HA1 : Hd _ := A1
        have HA2 : Hd _ := A2
        clear hcb A1 A2
        have HL0 : Hd (loadX a (2, z) 0 = ((0, 0), 32)) := HLD.out 0
        have hlb2 : lb < wb.heap.size := heap_lt HBb.out.led.blk
        have ne1 : wb.heap.size ≠ lb := by omega
        have ne2 : wb.heap.size ≠ cb + 1 := by omega
        clear c1 c2 e0 e1
        go_region_held3 (fun w' => w'.cell? ⟨lb, 0, none⟩ = some (ptr b) ∧ w'.cell? ⟨cb + 1, 0, none⟩ = some (vI 2) ∧ w'.cell? ⟨cb + 1, 1, none⟩ = some (vI z)) (go_keep) ((
            go_at_call 16
            first
              | (refine (show Calls Try.prog 16 #[ptr b, vv (2, z), vI 0] wb.drew _ from load_any b g a (2, z) 0 _ HBb.out.mem.drew (by omega)).mono ?_
                 rintro e w2 ⟨rfl, hF2⟩
                 rw [show loadX a (2, z) 0 = ((0, 0), 32) from HL0.out]
                 have hG2 : Fr (fun _ => False) wb w2 := (Fr.drew (Fr.refl _ wb)).trans hF2
                 have s0 := (hG2.cell hlb2 (fun h => h)).trans c0
                 have s1 := (hG2.cell hlen (fun h => h)).trans m0
                 have s2 := (hG2.cell hlen (fun h => h)).trans m1
                 have HF2 : Hd _ := hF2
                 clear hF2
                 clear hG2)
              | (refine (show Calls Try.prog 16 #[ptr b, vv (2, z), vI 0] (wb.alloc (.cells #[vI 0, vI 0] 32)).drew _ from load_any b g a (2, z) 0 _ (HBb.out.mem.alloc _).drew (by omega)).mono ?_
                 rintro e w2 ⟨rfl, hF2⟩
                 rw [show loadX a (2, z) 0 = ((0, 0), 32) from HL0.out]
                 have hG2 : Fr (fun _ => False) wb w2 := ((Fr.alloc (Fr.refl _ wb) _).drew).trans hF2
                 have s0 := (hG2.cell hlb2 (fun h => h)).trans c0
                 have s1 := (hG2.cell hlen (fun h => h)).trans m0
                 have s2 := (hG2.cell hlen (fun h => h)).trans m1
                 obtain ⟨y0, y1, z0, z1⟩ := res_after hF2
                 have HF2 : Hd _ := hF2
                 clear hF2
                 clear hG2)))
        all_goals
          go_wp2_with fail
          refine ⟨⟨i + 1, kk, by simp, by simp, by omega, ?_, ?_⟩, by simp; omega⟩
          · unfold Hd
            rw [thereL_not (HTB.out.trans HT.out)]
            exact HK.out
          · first
              | exact fr_resB HFb.out HF2.out _
              | exact fr_resA HFb.out HF2.out _ _
      · rw [ht] at q4 HLD
        have HT : Hd _ := ht
        clear ht
        have hat := thereL_at (ms E) (n := E.length) hlt (HTB.out.trans HT.out)
        rw [show thereL (ms E) E.length = ts from HTS.out, ← show kk = _ from HK.out] at hat
        have hkl : kk < ts.length := (List.getElem?_eq_some_iff.1 hat).1
        obtain ⟨lg, rfl⟩ := hla (by omega)
        have hlc : w1.cell? ⟨lg, kk, none⟩ = some (vI z) := by
          refine row_cell HL.out ?_
          rw [List.getElem?_map, List.getElem?_map, hat, ← HZ.out, HBi.out.led.num i r HR.out]
          rfl
        have lw := (HF.out.cell (cell_ltH hlc) (fun h => h)).trans hlc
        have HLW : Hd (lg < wr.heap.size ∧ wr.cell? ⟨lg, kk, none⟩ = some (vI z)) := ⟨cell_ltH lw, lw⟩
        have hk0 : (0 : Int) ≤ kk := by omega
        have hk1 : (kk : Int) < ts.length := by omega
        have dk : decide ((ts.length : Int) ≤ (kk : Int)) = false := by simp; omega
        have dk2 : decide (ts.length ≤ kk) = false := by simp; omega
        have HKS : Hd (kk + 1 = (thereL (ms E) (i + 1)).length) := by
          unfold Hd
          rw [(thereL_map_snoc (HTB.out.trans HT.out)).2, ← show kk = _ from HK.out]
        clear hat hlc lw hla
        obtain ⟨A1, A2, A3, hFB⟩ := alloc2 wr (.cells #[vI z, .slice (some ⟨fb, 0, none⟩) r.m.fields.length fc, vI r.m.depth, .bool r.m.heap, .bool true] 76) (.cells #[vI 2, vI z] 32)
        have HLB : Hd (((wr.alloc (.cells #[vI z, .slice (some ⟨fb, 0, none⟩) r.m.fields.length fc, vI r.m.depth, .bool r.m.heap, .bool true] 76)).alloc (.cells #[vI 2, vI z] 32)).cell? ⟨lg, kk, none⟩ = some (vI z)) := (hFB.cell HLW.out.1 (fun h => h)).trans HLW.out.2
        have HBb : Hd _ := HBi.out.keep hFB
        have HFb : Hd _ := HF.out.trans hFB
        have hlen : wr.heap.size + 1 < ((wr.alloc (.cells #[vI z, .slice (some ⟨fb, 0, none⟩) r.m.fields.length fc, vI r.m.depth, .bool r.m.heap, .bool true] 76)).alloc (.cells #[vI 2, vI z] 32)).heap.size := by rw [A3]; omega
        go_wp2_with fail
        generalize (wr.alloc (.cells #[vI z, .slice (some ⟨fb, 0, none⟩) r.m.fields.length fc, vI r.m.depth, .bool r.m.heap, .bool true] 76)).alloc (.cells #[vI 2, vI z] 32) = wb at *
        clear A3 hFB c0 c1 c2 q0 q1 q2 q3 q4
        obtain ⟨c0, c1, c2⟩ := HBb.out.led.heads
        have m0 : wb.cell? ⟨wr.heap.size + 1, 0, none⟩ = some (vI 2) := by rw [cell_of A2]; rfl
        have m1 : wb.cell? ⟨wr.heap.size + 1, 1, none⟩ = some (vI z) := by rw [cell_of A2]; rfl
        have e0 : wb.cell? ⟨wr.heap.size, 0, none⟩ = some (vI z) := by rw [cell_of A1]; rfl
        have e1 : wb.cell? ⟨wr.heap.size, 1, none⟩ = some (.slice (some ⟨fb, 0, none⟩) r.m.fields.length fc) := by rw [cell_of A1]; rfl
        obtain ⟨cb, hcb⟩ : ∃ cb, cb = wr.heap.size := ⟨_, rfl⟩
        have HCB : Hd (wr.heap.size ≤ cb) := Nat.le_of_eq hcb.symm
        rw [← hcb] at m0 m1 e0 e1 hlen A1 A2 ⊢
        have HA1 : Hd _ := A1
        have HA2 : Hd _ := A2
        clear hcb A1 A2
        have lk : wb.cell? ⟨lg, kk, none⟩ = some (vI z) := HLB.out
        refine wp_region_still_tail 12 mixed (by kernel_rfl) ?_
        simp only [List.take_succ_cons, List.take_zero, List.drop_succ_cons, List.drop_zero]
        repeat still_step
        refine wpStill_nil ?_
        go_wp2_with fail
        clear lk
        have HFc : Hd _ := HFb.out.drew
        have HBc : Hd _ := HBb.out.keep (Fr.drew (Fr.refl _ wb))
        have HA1' : Hd (wb.drew.heap[cb]? = some (.cells #[vI z, .slice (some ⟨fb, 0, none⟩) r.m.fields.length fc, vI r.m.depth, .bool r.m.heap, .bool true] 76)) := HA1.out
        have HA2' : Hd (wb.drew.heap[cb + 1]? = some (.cells #[vI 2, vI z] 32)) := HA2.out
        have hlen' : cb + 1 < wb.drew.heap.size := hlen
        clear HFb HBb HA1 HA2 c0 c1 c2 m0 m1 e0 e1 hlen HLB
        generalize wb.drew = wc at *
        go_loopw [10] (fun v wr2 => ∃ f : Nat, v = .int .i64 f ∧ f ≤ r.m.fields.length ∧ Hd (Fr (fun _ => False) wc wr2)) (fun v _ => match v with | .int _ q => r.m.fields.length - q.toNat | _ => 0)
        case atStart => exact ⟨0, rfl, Nat.zero_le _, Fr.refl _ _⟩
        case round =>
          obtain ⟨f, rfl, hf, HFf⟩ := hrel
          have HBf : Hd _ := HBc.out.keep HFf.out
          obtain ⟨c0, c1, c2⟩ := HBf.out.led.heads
          have B1 := (HFf.out.block cb (by omega) (fun h => h)).trans HA1'.out
          have B2 := (HFf.out.block (cb + 1) (by omega) (fun h => h)).trans HA2'.out
          have m0 : wr.cell? ⟨cb + 1, 0, none⟩ = some (vI 2) := by rw [cell_of B2]; rfl
          have m1 : wr.cell? ⟨cb + 1, 1, none⟩ = some (vI z) := by rw [cell_of B2]; rfl
          have e1 : wr.cell? ⟨cb, 1, none⟩ = some (.slice (some ⟨fb, 0, none⟩) r.m.fields.length fc) := by rw [cell_of B1]; rfl
          have HB1c : Hd _ := B1
          clear B1 B2
          by_cases hfl2 : f < r.m.fields.length
          · have hrow := HBf.out.led.fld i r HR.out
            rw [show r.fv = _ from HFV.out] at hrow
            have g0 : wr.cell? ⟨fb, f * 2, none⟩ = some (vI r.m.fields[f].1) := row_cell hrow (by rw [Nat.mul_comm]; exact flat_fst _ f hfl2)
            have g1 : wr.cell? ⟨fb, f * 2 + 1, none⟩ = some (vI r.m.fields[f].2) := row_cell hrow (by rw [Nat.mul_comm]; exact flat_snd _ f hfl2)
            have hl0 : loadX a (2, z) (f : Int) = (r.m.fields[f], 0) := by
              rw [HLD.out]
              simp only [↓reduceIte]
              rw [if_pos (by omega), Int.toNat_natCast, List.getD_eq_getElem?_getD, List.getElem?_eq_getElem hfl2]
              rfl
            have HL0 : Hd _ := hl0
            have hf0 : (0 : Int) ≤ f := by omega
            have hf1 : (f : Int) < r.m.fields.length := by omega
            generalize r.m.fields[f] = x at *
            clear hrow hl0
            have HG0 : Hd _ := g0
            have HG1 : Hd _ := g1
            have HB1f : Hd _ := HB1c.out
            have hlb2 : lb < wr.heap.size := heap_lt HBf.out.led.blk
            have hcb2 : cb + 1 < wr.heap.size := Nat.lt_of_lt_of_le hlen' HFf.out.size
            have ne1 : wr.heap.size ≠ lb := by omega
            have ne2 : wr.heap.size ≠ cb + 1 := by omega
            have ne3 : wr.heap.size ≠ cb := by omega
            clear c1 c2 g0 g1
            go_wp2_with fail
            clear e1
            go_region_held3 (fun w' => w'.cell? ⟨lb, 0, none⟩ = some (ptr b) ∧ w'.cell? ⟨cb + 1, 0, none⟩ = some (vI 2) ∧ w'.cell? ⟨cb + 1, 1, none⟩ = some (vI z)) (go_keep) ((
                go_at_call 16
                first
                  | (refine (show Calls Try.prog 16 #[ptr b, vv (2, z), vI f] wr.drew _ from load_any b g a (2, z) f _ HBf.out.mem.drew (by omega)).mono ?_
                     rintro e w2 ⟨rfl, hF2⟩
                     rw [show loadX a (2, z) (f : Int) = (x, 0) from HL0.out]
                     have hG2 : Fr (fun _ => False) wr w2 := (Fr.drew (Fr.refl _ wr)).trans hF2
                     have s0 := (hG2.cell hlb2 (fun h => h)).trans c0
                     have s1 := (hG2.cell hcb2 (fun h => h)).trans m0
                     have s2 := (hG2.cell hcb2 (fun h => h)).trans m1
                     obtain ⟨w3, rb, hw3, hrb, HRS⟩ := res_B hF2 x
                     have HW3 : Hd _ := hw3
                     have HRB : Hd _ := hrb
                     clear hF2 hw3 hrb
                     clear hG2)
                  | (refine (show Calls Try.prog 16 #[ptr b, vv (2, z), vI f] (wr.alloc (.cells #[vI 0, vI 0] 32)).drew _ from load_any b g a (2, z) f _ (HBf.out.mem.alloc _).drew (by omega)).mono ?_
                     rintro e w2 ⟨rfl, hF2⟩
                     rw [show loadX a (2, z) (f : Int) = (x, 0) from HL0.out]
                     have hG2 : Fr (fun _ => False) wr w2 := ((Fr.alloc (Fr.refl _ wr) _).drew).trans hF2
                     have s0 := (hG2.cell hlb2 (fun h => h)).trans c0
                     have s1 := (hG2.cell hcb2 (fun h => h)).trans m0
                     have s2 := (hG2.cell hcb2 (fun h => h)).trans m1
                     obtain ⟨y0, y1, z0, z1⟩ := res_after hF2
                     obtain ⟨w3, rb, hw3, hrb, HRS⟩ := res_A hF2 x
                     have HW3 : Hd _ := hw3
                     have HRB : Hd _ := hrb
                     clear hF2 hw3 hrb
                     clear hG2)))
            all_goals
              go_wp2_with fail
              rw [HW3.out]
              rw [HRB.out]
              obtain ⟨hF3, v0, v1⟩ := HRS.out
              have n0 := (hF3.cell (cell_ltH HG0.out) (fun h => h)).trans HG0.out
              have n1 := (hF3.cell (cell_ltH HG1.out) (fun h => h)).trans HG1.out
              have n2 : w3.cell? ⟨cb, 1, none⟩ = some (.slice (some ⟨fb, 0, none⟩) r.m.fields.length fc) := by
                rw [hF3.cell (heap_lt HB1f.out) (fun h => h), cell_of HB1f.out]; rfl
              have HFn : Hd _ := HFf.out.trans hF3
              clear hF3 HRS HW3 HRB m0 m1 c0
              try clear y0 y1 z0 z1
              refine wp_region_still_tail 10 mixed (by kernel_rfl) ?_
              simp only [List.take_succ_cons, List.take_zero, List.drop_succ_cons, List.drop_zero]
              repeat still_step
              refine wpStill_nil ?_
              go_wp2_with fail
              refine ⟨⟨f + 1, by simp, by omega, HFn.out.drew⟩, by simp; omega⟩
          · have hfe : f = r.m.fields.length := by omega
            subst hfe
            have hl0 : loadX a (2, z) (r.m.fields.length : Int) = ((0, 0), 33) := by
              rw [HLD.out]
              simp only [↓reduceIte]
              rw [if_neg (by omega)]
            have HL0 : Hd _ := hl0
            clear hl0
            have hlb2 : lb < wr.heap.size := heap_lt HBf.out.led.blk
            have hcb2 : cb + 1 < wr.heap.size := Nat.lt_of_lt_of_le hlen' HFf.out.size
            have ne1 : wr.heap.size ≠ lb := by omega
            have ne2 : wr.heap.size ≠ cb + 1 := by omega
            have ne3 : wr.heap.size ≠ cb := by omega
            have hcb3 : cb < wr.heap.size := by omega
            clear c1 c2
            go_wp2_with fail
            go_region_held3 (fun w' => w'.cell? ⟨lb, 0, none⟩ = some (ptr b) ∧ w'.cell? ⟨cb + 1, 0, none⟩ = some (vI 2) ∧ w'.cell? ⟨cb + 1, 1, none⟩ = some (vI z) ∧ w'.cell? ⟨cb, 1, none⟩ = some (.slice (some ⟨fb, 0, none⟩) r.m.fields.length fc)) (go_keep) ((
                go_at_call 16
                first
                  | (refine (show Calls Try.prog 16 #[ptr b, vv (2, z), vI r.m.fields.length] wr.drew _ from load_any b g a (2, z) r.m.fields.length _ HBf.out.mem.drew (by omega)).mono ?_
                     rintro e w2 ⟨rfl, hF2⟩
                     rw [show loadX a (2, z) (r.m.fields.length : Int) = ((0, 0), 33) from HL0.out]
                     have hG2 : Fr (fun _ => False) wr w2 := (Fr.drew (Fr.refl _ wr)).trans hF2
                     have s0 := (hG2.cell hlb2 (fun h => h)).trans c0
                     have s1 := (hG2.cell hcb2 (fun h => h)).trans m0
                     have s2 := (hG2.cell hcb2 (fun h => h)).trans m1
                     have s3 := (hG2.cell hcb3 (fun h => h)).trans e1
                     have HF2 : Hd _ := hF2
                     clear hF2
                     clear hG2)
                  | (refine (show Calls Try.prog 16 #[ptr b, vv (2, z), vI r.m.fields.length] (wr.alloc (.cells #[vI 0, vI 0] 32)).drew _ from load_any b g a (2, z) r.m.fields.length _ (HBf.out.mem.alloc _).drew (by omega)).mono ?_
                     rintro e w2 ⟨rfl, hF2⟩
                     rw [show loadX a (2, z) (r.m.fields.length : Int) = ((0, 0), 33) from HL0.out]
                     have hG2 : Fr (fun _ => False) wr w2 := ((Fr.alloc (Fr.refl _ wr) _).drew).trans hF2
                     have s0 := (hG2.cell hlb2 (fun h => h)).trans c0
                     have s1 := (hG2.cell hcb2 (fun h => h)).trans m0
                     have s2 := (hG2.cell hcb2 (fun h => h)).trans m1
                     have s3 := (hG2.cell hcb3 (fun h => h)).trans e1
                     obtain ⟨y0, y1, z0, z1⟩ := res_after hF2
                     have HF2 : Hd _ := hF2
                     clear hF2
                     clear hG2)))
            all_goals
              go_wp2_with fail
              refine ⟨⟨i + 1, kk + 1, by simp, by simp, by omega, HKS.out, ?_⟩, by simp; omega⟩
              first
                | exact fr_resB (HFc.out.trans HFf.out) HF2.out _
                | exact fr_resA (HFc.out.trans HFf.out) HF2.out _ _
    · have hie : i = E.length := by omega
      subst hie
      have hkt : kk = ts.length := by rw [show kk = _ from HK.out, show thereL (ms E) E.length = ts from HTS.out]
      subst hkt
      go_wp2_with fail
      go_ret
      exact ⟨rfl, HF1.out.trans HF.out⟩

end Go.Proofs.Ytmdlebolmhnhaaa
