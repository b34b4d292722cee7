import Derived.Test.YtmdlebolmhnhaabT4J
namespace Go.Proofs.Ytmdlebolmhnhaab
open Go.RowKit (wrap32 wrap64)
open Go.Maps (Keyed)
set_option linter.unusedVariables false
set_option linter.unusedSimpArgs false

theorem cell_ltD {w : World} {k o : Nat} {u : Value} (h : w.cell? ⟨k, o, none⟩ = some u) : k < w.heap.size := by
  unfold World.cell? at h
  rcases Nat.lt_or_ge k w.heap.size with hk | hk
  · exact hk
  · simp [Array.getElem?_eq_none hk] at h

theorem IntsAt.shapeR {n0 : Nat} {w : World} {sv : Value} {zs : List Int} (h : IntsAt n0 w sv zs) : ∃ a c, sv = .slice a zs.length c ∧ (zs ≠ [] → ∃ k o, a = some ⟨k, o, none⟩ ∧ k < n0 ∧ ∀ j (hj : j < zs.length), w.cell? ⟨k, o + j, none⟩ = some (vI zs[j])) := by
  rcases h with ⟨a, c, rfl, rfl⟩ | ⟨b, off, cap, rfl, hb, hc⟩
  · exact ⟨a, c, rfl, fun h => absurd rfl h⟩
  · refine ⟨_, _, rfl, fun _ => ⟨b, off, rfl, hb, fun j hj => ?_⟩⟩
    rw [hc j hj, List.getElem?_eq_getElem hj]
    rfl

set_option maxRecDepth 100000 in
set_option maxHeartbeats 4000000 in
theorem rdrop_any (b : Nat) (g : RG) (a : RA) (sv : Value) (zs : List Int) (w : World) (h : RMem w b g a) (hI : IntsAt w.heap.size w sv zs) (hso : zs ≠ [] → ∀ j, sv.ownBlock = some j → g.own j = 0) (hlen : a.cells.length ≤ 16000000) (hzl : zs.length ≤ 100000000) :
    Calls Try.prog 33 #[rptr b, sv] w fun e w' => e = .returned (vI (rdropX a zs).2) ∧ RMem w' b g (rdropX a zs).1 ∧ Fr (fun j => g.own j ≠ 0) w w' := by
  obtain ⟨sa, sc, rfl, hsv⟩ := IntsAt.shapeR hI
  obtain ⟨cad, ccap, hcv, -, hcad⟩ := row_shape h.cls
  have HM : Hd _ := h
  have HSV : Hd _ := hsv
  have HSO : Hd _ := hso
  have HCV : Hd _ := hcv
  obtain ⟨c0, c1, c2⟩ := h.heads
  rw [hcv] at c2
  clear h hI hsv hso hcv c0 c1
  go_enter Try.func33, Try.ntmps33
  go_wp2_with fail
  go_loopw [5] (fun v wr => ∃ k : Nat, v = .int .i64 k ∧ k ≤ zs.length ∧ Hd (∀ j (hj : j < zs.length), j < k → wasR a zs[j] = true) ∧ Hd (Fr (fun _ => False) w wr)) (fun v _ => match v with | .int _ q => zs.length - q.toNat | _ => 0)
  case atStart => exact ⟨0, rfl, Nat.zero_le _, fun j _ h => absurd h (by omega), Fr.refl _ _⟩
  case round =>
    obtain ⟨k, rfl, hk, HW, HF⟩ := hrel
    have hMk := HM.out.keep HF.out
    have k2 := hMk.heads.2.2
    rw [HCV.out] at k2
    clear hMk
    by_cases hlt : k < zs.length
    · obtain ⟨pb, po, rfl, hpb, hcs⟩ := HSV.out (by intro e; simp [e] at hlt)
      have p0 := (HF.out.cell hpb (fun h => h)).trans (hcs k hlt)
      obtain ⟨z, hz⟩ : ∃ z, zs[k] = z := ⟨_, rfl⟩
      have HZ : Hd _ := hz
      rw [hz] at p0
      have hk0 : (0 : Int) ≤ k := by omega
      have hk1 : (k : Int) < zs.length := by omega
      clear hz hcs c2
      by_cases h1 : z < 1
      · have d1 : decide (z < 1) = true := by simpa using h1
        have HX : Hd (rdropX a zs = (a, 1)) := by
          have hall : zs.all (wasR a) = false := by
            cases hh : zs.all (wasR a)
            · rfl
            · have := List.all_eq_true.1 hh zs[k] (List.getElem_mem hlt)
              rw [show zs[k] = z from HZ.out] at this
              simp [wasR] at this
              omega
          unfold Hd rdropX rmayX
          rw [if_pos hall]
          rfl
        go_wp2_with fail
        go_quiet (fail)
        go_wp2_with fail
        go_ret
        rw [HX.out]
        exact ⟨rfl, (HM.out.keep HF.out).keep ((Fr.refl _ wr).drewN _), (HF.out.drewN _).mono (fun _ _ h => h.elim)⟩
      · have d1 : decide (z < 1) = false := by simpa using h1
        by_cases h2 : (a.cells.length : Int) < z
        · have d2 : decide ((a.cells.length : Int) < z) = true := by simpa using h2
          have HX : Hd (rdropX a zs = (a, 1)) := by
            have hall : zs.all (wasR a) = false := by
              cases hh : zs.all (wasR a)
              · rfl
              · have := List.all_eq_true.1 hh zs[k] (List.getElem_mem hlt)
                rw [show zs[k] = z from HZ.out] at this
                simp [wasR] at this
                omega
            unfold Hd rdropX rmayX
            rw [if_pos hall]
            rfl
          go_wp2_with fail
          go_quiet (fail)
          go_wp2_with fail
          go_ret
          rw [HX.out]
          exact ⟨rfl, (HM.out.keep HF.out).keep ((Fr.refl _ wr).drewN _), (HF.out.drewN _).mono (fun _ _ h => h.elim)⟩
        · have d2 : decide ((a.cells.length : Int) < z) = false := by simpa using h2
          go_wp2_with fail
          go_quiet (fail)
          go_wp2_with fail
          refine ⟨⟨k + 1, by simp, by omega, fun j hj hjk => ?_, HF.out.drewN _⟩, by simp; omega⟩
          by_cases hjk' : j = k
          · subst hjk'
            rw [show zs[j] = z from HZ.out]
            simp [wasR]
            omega
          · exact HW.out j hj (by omega)
    · have hke : k = zs.length := by omega
      subst hke
      have HALL : Hd (zs.all (wasR a) = true) := by
        refine List.all_eq_true.2 (fun z hz => ?_)
        obtain ⟨j, hj, rfl⟩ := List.getElem_of_mem hz
        exact HW.out j hj hj
      obtain ⟨wt, hmk, hrowt, hFt⟩ := makeInts a.cells.length hlen wr
      have HRT : Hd (wt.ownsRow wr.heap.size 3 1 (.slice (some ⟨wr.heap.size, 0, none⟩) a.cells.length a.cells.length) a.cells.length ((timesL zs a.cells.length 0).map vI)) := by rw [timesL_zero]; exact hrowt
      have HFT : Hd _ := HF.out.trans hFt
      obtain ⟨tb, htb⟩ : ∃ tb, tb = wr.heap.size := ⟨_, rfl⟩
      have HTB : Hd (w.heap.size ≤ tb) := by rw [htb]; exact HF.out.size
      clear hrowt hFt HW c2
      go_wp2_with fail
      rw [← htb] at HRT ⊢
      clear htb
      go_loopw [7] (fun v wr2 => ∃ k : Nat, v = .int .i64 k ∧ k ≤ zs.length ∧ Hd (∀ j, j < k → badR a zs j = false) ∧ Hd (Fr (fun _ => False) w wr2) ∧ Hd (wr2.ownsRow w.heap.size 3 1 (.slice (some ⟨tb, 0, none⟩) a.cells.length a.cells.length) a.cells.length ((timesL zs a.cells.length k).map vI))) (fun v _ => match v with | .int _ q => zs.length - q.toNat | _ => 0)
      case atStart => exact ⟨0, rfl, Nat.zero_le _, fun j h => absurd h (by omega), HFT.out, World.ownsRow.mono HRT.out HTB.out⟩
      case round =>
        obtain ⟨k, rfl, hk, HW, HF2, HR2⟩ := hrel
        clear HRT HFT k2
        have hMk := HM.out.keep HF2.out
        have k2 := hMk.heads.2.2
        rw [HCV.out] at k2
        by_cases hlt : k < zs.length
        · obtain ⟨pb, po, rfl, hpb, hcs⟩ := HSV.out (by intro e; simp [e] at hlt)
          have p0 := (HF2.out.cell hpb (fun h => h)).trans (hcs k hlt)
          have hwz := List.all_eq_true.1 HALL.out zs[k] (List.getElem_mem hlt)
          obtain ⟨i, hi⟩ : ∃ i : Nat, zs[k] = (i : Int) + 1 := ⟨(zs[k] - 1).toNat, by simp [wasR] at hwz; omega⟩
          have hil : i < a.cells.length := by rw [hi] at hwz; simp [wasR] at hwz; omega
          rw [hi] at p0
          obtain ⟨c, hc⟩ : ∃ c, a.cells[i]? = some c := ⟨_, List.getElem?_eq_getElem hil⟩
          obtain ⟨cb, cp, u2, hcv', -, -, -, q2, -⟩ := hMk.cellAt hc
          rw [HCV.out] at hcv'
          cases hcv'
          obtain ⟨tv, htv⟩ : ∃ tv : Int, tv = if (i : Int) + 1 ∈ zs.take k then 1 else 0 := ⟨_, rfl⟩
          have t0 : wr.cell? ⟨tb, i, none⟩ = some (vI tv) := row_cell HR2.out (by rw [List.getElem?_map, timesL_get zs _ k i hil, ← htv]; rfl)
          obtain ⟨cur, hcur⟩ := row_block HR2.out
          have tz : wr.frozen? ⟨tb, i, none⟩ = false := frozen_of hcur i
          have htv01 : 0 ≤ tv ∧ tv ≤ 1 := by rw [htv]; split <;> omega
          have hFx := setCell_fr wr tb i (vI (tv + 1))
          have htbo : g.own tb = 0 := by
            by_cases hz0 : g.own tb = 0
            · exact hz0
            · have := HM.out.olt tb hz0; have := HTB.out; omega
          have HMx : Hd _ := hMk.fr' hFx (fun j hj e => hj (by rw [e]; exact htbo))
          have HFx : Hd _ := HF2.out.then hFx (fun j hj e => by have := HTB.out; omega)
          have HRx : Hd _ := row_set HR2.out i (vI (tv + 1))
          have x1 : (wr.setCell ⟨tb, i, none⟩ (vI (tv + 1))).cell? ⟨tb, i, none⟩ = some (vI (tv + 1)) := row_cell HRx.out (List.getElem?_set_self (by simp [timesL, hil]))
          have hpbt : pb ≠ tb := by have := HTB.out; omega
          have xp := (hFx.cell (cell_ltD p0) hpbt).trans p0
          have xq := (hFx.cell (cell_ltD q2) (fun e => by have h4 := HM.out.oc cb (by rw [HCV.out]; rfl); rw [e, htbo] at h4; omega)).trans q2
          have xk := HMx.out.heads.2.2
          rw [HCV.out] at xk
          have HBAD : Hd (badR a zs k = (!c.there || (zs.take k).contains ((i : Int) + 1))) := by
            unfold Hd badR rthereB
            have e : zs.getD k 0 = (i : Int) + 1 := by rw [List.getD_eq_getElem?_getD, List.getElem?_eq_getElem hlt, hi]; rfl
            rw [e, show ((i : Int) + 1).toNat - 1 = i by omega, hc]
            rfl
          have HTV : Hd _ := htv
          have HI : Hd (zs[k] = (i : Int) + 1) := hi
          have hk0 : (0 : Int) ≤ k := by omega
          have hk1 : (k : Int) < zs.length := by omega
          have hi0 : (0 : Int) ≤ i := by omega
          have hi1 : (i : Int) < a.cells.length := by omega
          have hib : i < 16000000 := by omega
          clear hcs hwz hi hc hcur hFx htv hcad hMk
          go_wp2_with fail
          generalize wr.setCell ⟨tb, i, none⟩ (.int .i64 (tv + 1)) = wx at *
          clear p0 q2 k2 t0 tz
          cases ht : c.there
          · rw [ht] at xq HBAD
            clear ht
            have HX : Hd (rdropX a zs = (a, 32)) := by
              have hany : (List.range zs.length).any (badR a zs) = true := List.any_eq_true.2 ⟨k, List.mem_range.2 hlt, by rw [HBAD.out]; simp⟩
              have hmay : rmayX a zs = 32 := by
                unfold rmayX
                rw [HALL.out, if_neg (by simp), if_pos hany]
              unfold Hd rdropX
              rw [hmay, if_neg (by decide)]
            go_quiet (fail)
            go_wp2_with fail
            go_ret
            rw [HX.out]
            exact ⟨rfl, HMx.out.keep ((Fr.refl _ wx).drewN _), (HFx.out.drewN _).mono (fun _ _ h => h.elim)⟩
          · rw [ht] at xq HBAD
            clear ht
            by_cases hin : (i : Int) + 1 ∈ zs.take k
            · obtain rfl : tv = 1 := by rw [show tv = _ from HTV.out, if_pos hin]
              have HX : Hd (rdropX a zs = (a, 32)) := by
                have hany : (List.range zs.length).any (badR a zs) = true := List.any_eq_true.2 ⟨k, List.mem_range.2 hlt, by rw [HBAD.out]; simp [hin]⟩
                have hmay : rmayX a zs = 32 := by
                  unfold rmayX
                  rw [HALL.out, if_neg (by simp), if_pos hany]
                unfold Hd rdropX
                rw [hmay, if_neg (by decide)]
              go_quiet (fail)
              go_wp2_with fail
              go_ret
              rw [HX.out]
              exact ⟨rfl, HMx.out.keep ((Fr.refl _ wx).drewN _), (HFx.out.drewN _).mono (fun _ _ h => h.elim)⟩
            · obtain rfl : tv = 0 := by rw [show tv = _ from HTV.out, if_neg hin]
              have HNB : Hd (badR a zs k = false) := by
                unfold Hd
                rw [HBAD.out]
                simp [hin]
              go_quiet (fail)
              go_wp2_with fail
              refine ⟨⟨k + 1, by simp, by omega, fun j hj => ?_, HFx.out.drewN _, ?_⟩, by simp; omega⟩
              · by_cases hjk : j = k
                · subst hjk; exact HNB.out
                · exact HW.out j (by omega)
              · have := HRx.out
                rw [show (0 : Int) + 1 = 1 by omega, timesL_step zs _ k i hlt HI.out] at this
                exact ownsRow_fr this ((Fr.refl (fun _ => False) wx).drewN _) (fun _ _ h => h)
        · have hke : k = zs.length := by omega
          subst hke
          have HX : Hd (rdropX a zs = ({ a with cells := dropAll zs a.cells }, 0)) := by
            have hany : ¬ (List.range zs.length).any (badR a zs) = true := fun e => by
              obtain ⟨j, hj, hb⟩ := List.any_eq_true.1 e
              rw [HW.out j (List.mem_range.1 hj)] at hb
              cases hb
            have hmay : rmayX a zs = 0 := by
              unfold rmayX
              rw [HALL.out, if_neg (by simp), if_neg hany]
            unfold Hd rdropX
            rw [hmay, if_pos rfl]
          have HM0 : Hd (RMem wr b g { a with cells := dropAll (zs.take 0) a.cells }) := hMk
          have HF0 : Hd (Fr (fun j => g.own j ≠ 0) w wr) := HF2.out.mono (fun _ _ h => h.elim)
          clear hMk HW HR2 HF2 k2
          go_wp2_with fail
          go_loopw [8] (fun v wr3 => ∃ k : Nat, v = .int .i64 k ∧ k ≤ zs.length ∧ Hd (RMem wr3 b g { a with cells := dropAll (zs.take k) a.cells }) ∧ Hd (Fr (fun j => g.own j ≠ 0) w wr3)) (fun v _ => match v with | .int _ q => zs.length - q.toNat | _ => 0)
          case atStart => exact ⟨0, rfl, Nat.zero_le _, HM0.out, HF0.out⟩
          case round =>
            obtain ⟨k, rfl, hk, HMk, HFk⟩ := hrel
            clear HM0 HF0
            by_cases hlt : k < zs.length
            · obtain ⟨pb, po, rfl, hpb, hcs⟩ := HSV.out (by intro e; simp [e] at hlt)
              have hpo : g.own pb = 0 := HSO.out (by intro e; simp [e] at hlt) pb rfl
              have p0 := (HFk.out.cell hpb (fun e => e hpo)).trans (hcs k hlt)
              have hwz := List.all_eq_true.1 HALL.out zs[k] (List.getElem_mem hlt)
              obtain ⟨i, hi⟩ : ∃ i : Nat, zs[k] = (i : Int) + 1 := ⟨(zs[k] - 1).toNat, by simp [wasR] at hwz; omega⟩
              have hil' : i < a.cells.length := by rw [hi] at hwz; simp [wasR] at hwz; omega
              rw [hi] at p0
              have hsn := dropAll_snoc zs a.cells k hlt
              rw [hi] at hsn
              obtain ⟨cs, hcs'⟩ : ∃ cs, dropAll (zs.take k) a.cells = cs := ⟨_, rfl⟩
              have hcl : cs.length = a.cells.length := by rw [← hcs']; exact dropAll_len _ _
              rw [hcs'] at HMk hsn
              have hil : i < cs.length := by omega
              obtain ⟨c, hc⟩ : ∃ c, cs[i]? = some c := ⟨_, List.getElem?_eq_getElem hil⟩
              have hst : dropStep cs ((i : Int) + 1) = cs.set i { c with there := false } := by
                unfold dropStep
                rw [show ((i : Int) + 1).toNat - 1 = i by omega, hc]
              have HSN : Hd (dropAll (zs.take (k + 1)) a.cells = cs.set i { c with there := false }) := hsn.trans hst
              obtain ⟨cb, cp, u2, hcv', -, -, -, q2, -⟩ := HMk.out.cellAt hc
              have k2 := HMk.out.heads.2.2
              rw [hcv'] at k2
              simp only at k2
              have hrw := HMk.out.cls
              rw [hcv'] at hrw
              obtain ⟨cur, hcur⟩ := row_block hrw
              have z4 : wr.frozen? ⟨cb, i * 3 + 2, none⟩ = false := frozen_of hcur _
              have HGO : Hd _ := HMk.out.goes hcv' hc
              have hk0 : (0 : Int) ≤ k := by omega
              have hk1 : (k : Int) < zs.length := by omega
              have hi0 : (0 : Int) ≤ i := by omega
              have hi1 : (i : Int) < cs.length := by omega
              have hib : i < 16000000 := by omega
              clear hcs hwz hi hsn hcs' hcl hst hcv' hrw hcur hcad hc hpo
              go_wp2_with fail
              go_region
              go_wp2_with fail
              refine ⟨⟨k + 1, by simp, by omega, ?_, (HFk.out.trans HGO.out.2).drew⟩, by simp; omega⟩
              unfold Hd
              rw [HSN.out]
              exact HGO.out.1.keep (Fr.drew (Fr.refl _ _))
            · have hke : k = zs.length := by omega
              subst hke
              go_wp2_with fail
              go_ret
              rw [HX.out]
              have hfin := HMk.out
              rw [List.take_length] at hfin
              exact ⟨rfl, hfin, HFk.out⟩

end Go.Proofs.Ytmdlebolmhnhaab
