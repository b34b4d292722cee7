import Derived.Test.YtmdlebolmhnhaabY2
import Derived.Deep.RegionHeld3
namespace Go.Proofs.Ytmdlebolmhnhaab
open Go.RowKit (wrap32 wrap64)
open Go.Maps (Keyed)
set_option linter.unusedVariables false
set_option linter.unusedSimpArgs false

/-- One number turned. -/
def fx (z : Int) : Int := bits .xor .i64 z 1

theorem row_prefix {w : World} {B g n m cap : Nat} {xs ys : List Value} (h : w.ownsRow B 3 1 (.slice (some ⟨g, 0, none⟩) (n + m) cap) (n + m) (xs ++ ys)) (hx : xs.length = n) : w.ownsRow B 3 1 (.slice (some ⟨g, 0, none⟩) n cap) n xs := by
  obtain ⟨-, h2⟩ := h
  refine ⟨by omega, ?_⟩
  rcases h2 with ⟨e, -⟩ | ⟨g1, cap1, cur, e, k1, k2, k3, k4, k5, k6⟩
  · cases e
  · cases e
    refine Or.inr ⟨_, _, cur, rfl, k1, k2, by omega, k4, k5, ?_⟩
    have e : (cur.toList.take ((n + m) * 1)).take (n * 1) = xs := by
      rw [k6]
      exact List.take_left' (by omega)
    rw [List.take_take] at e
    rw [← e]
    congr 1
    omega

theorem fx_set (zs ms : List Int) (k : Nat) (h : k < zs.length) : (((zs.take k).map fx ++ zs.drop k ++ ms).map vI).set k (vI (fx zs[k])) = ((zs.take (k + 1)).map fx ++ zs.drop (k + 1) ++ ms).map vI := by
  have hl : ((zs.take k).map fx).length = k := by simp; omega
  have e : (zs.take (k + 1)).map fx = (zs.take k).map fx ++ [fx zs[k]] := by
    rw [List.take_add_one, List.getElem?_eq_getElem h, List.map_append]
    rfl
  rw [e, List.drop_eq_getElem_cons h, ← List.map_set, List.append_assoc]
  generalize zs[k] = x
  generalize zs.drop (k + 1) = D
  generalize (zs.take k).map fx = T at *
  rw [List.set_append, hl]
  simp

theorem fx_get (zs ms : List Int) (k : Nat) (h : k < zs.length) : (((zs.take k).map fx ++ zs.drop k ++ ms).map vI)[k]? = some (vI zs[k]) := by
  rw [List.getElem?_map, List.append_assoc, List.getElem?_append_right (by simp; omega)]
  have : k - ((zs.take k).map fx).length = 0 := by simp; omega
  rw [this, List.getElem?_append_left (by simp; omega)]
  simp [List.getElem?_eq_getElem h]


set_option maxRecDepth 100000 in
set_option maxHeartbeats 4000000 in
theorem again0 (w0 w : World) (wb : Nat) (pb rb : Nat → Nat) (pg : Nat → Gh) (rg : Nat → RG) (pa : Nat → Abs) (ra : Nat → RA) (lv mv : Value) (us us' : List (Value × List Int)) (h : Wd w0 w wb pb rb pg rg pa ra lv mv us us') (N : Nat) (hN : N ≤ 2000000) (hrel : Rel (pa 0) (ra 0)) (hb : RB N (ra 0))
    (zs ms : List Int) (g cap : Nat) (hl : w.ownsRow w0.heap.size 3 1 (.slice (some ⟨g, 0, none⟩) (zs.length + ms.length) cap) (zs.length + ms.length) ((zs ++ ms).map vI)) (hfree : Own0 wb pg rg g ∧ ¬ LsB lv us g ∧ ¬ LsB mv us' g) (hz : zs.length ≤ 2000000) (ob : Nat) (x : Obj) (hT : Pt ob x wb pg rg lv mv us us' w) (hgo : g ≠ ob) :
    Calls Try.prog 34 #[ptr wb, .slice (some ⟨g, 0, none⟩) zs.length cap, vI 0] w fun e w' => e = .returned (.bool true) ∧ ∃ pg' rg', Wd w0 w' wb pb rb pg' rg' (at1 pa 0 (dropX (pa 0) (zs.map fx)).1) (at1 ra 0 (rdropX (ra 0) (zs.map fx)).1) lv mv us us' ∧ Rel (dropX (pa 0) (zs.map fx)).1 (rdropX (ra 0) (zs.map fx)).1 ∧ RB N (rdropX (ra 0) (zs.map fx)).1 ∧
      w'.ownsRow w0.heap.size 3 1 (.slice (some ⟨g, 0, none⟩) (zs.length + ms.length) cap) (zs.length + ms.length) ((zs.map fx ++ ms).map vI) ∧ Own0 wb pg' rg' g ∧ Pt ob x wb pg' rg' lv mv us us' w' := by
  have HQ : Hd _ := h
  have HL : Hd _ := hl
  have HFREE : Hd _ := hfree
  have HRL : Hd _ := hrel
  have HRB : Hd _ := hb
  have HT : Hd _ := hT
  have hg0 : w0.heap.size ≤ g := (World.ownsRow.lt hl g rfl).1
  have hgw : g < w.heap.size := (World.ownsRow.lt hl g rfl).2
  clear h hl hfree hrel hb hT
  go_enter Try.func34, Try.ntmps34
  go_wp2_with fail
  go_loopw [7] (fun v wr => ∃ (k : Nat), v = .int .i64 k ∧ k ≤ zs.length ∧ Hd (Fr (fun j => j = g) w wr) ∧ Hd (wr.ownsRow w0.heap.size 3 1 (.slice (some ⟨g, 0, none⟩) (zs.length + ms.length) cap) (zs.length + ms.length) (((zs.take k).map fx ++ zs.drop k ++ ms).map vI))) (fun v _ => match v with | .int _ q => zs.length - q.toNat | _ => 0)
  case atStart => exact ⟨0, rfl, Nat.zero_le _, Fr.refl _ _, by unfold Hd; simp only [List.take_zero, List.map_nil, List.nil_append, List.drop_zero]; exact HL.out⟩
  case round =>
    obtain ⟨k, rfl, hk, HF, HR⟩ := hrel
    by_cases hlt : k < zs.length
    · have p0 := row_cell HR.out (fx_get zs ms k hlt)
      obtain ⟨cur, hcur⟩ := row_block HR.out
      have z0 := frozen_of hcur k
      have HR2 : Hd _ := row_set HR.out k (vI (fx zs[k]))
      have HF2 : Hd _ := HF.out.setCell ⟨g, k, none⟩ (vI (fx zs[k])) (Or.inl rfl)
      have HFS : Hd _ := fx_set zs ms k hlt
      have hk0 : (0 : Int) ≤ k := by omega
      have hk1 : (k : Int) < zs.length := by omega
      clear hcur
      go_wp2_with fail
      refine ⟨⟨k + 1, by simp, by omega, HF2.out, ?_⟩, by simp; omega⟩
      have hr2 := HR2.out
      rw [HFS.out] at hr2
      exact hr2
    · have hke : k = zs.length := by omega
      subst hke
      have HW : Hd (Wd w0 wr wb pb rb pg rg pa ra lv mv us us') := (HQ.out.q.fr' HF.out (fun j e => by subst e; exact ⟨HFREE.out.1, HFREE.out.2.1, HFREE.out.2.2, hg0⟩)).wd HQ.out.same
      have HR0 : Hd (wr.ownsRow w0.heap.size 3 1 (.slice (some ⟨g, 0, none⟩) (zs.length + ms.length) cap) (zs.length + ms.length) ((zs.map fx ++ ms).map vI)) := by
        have := HR.out
        simp only [List.take_length, List.drop_length, List.append_nil] at this
        exact this
      have hgr : g < wr.heap.size := Nat.lt_of_lt_of_le hgw HF.out.size
      have HT1 : Hd _ := (HT.out.write HF.out (fun e => hgo e.symm)).keep (Fr.drew (Fr.refl _ wr))
      clear HR HQ HL HF HT
      obtain ⟨ys, hys⟩ : ∃ ys : List Int, ys = zs.map fx := ⟨_, rfl⟩
      have hyl : zs.length = ys.length := by rw [hys]; simp
      have HO1 : Hd (Own0 wb pg rg g) := HFREE.out.1
      clear HFREE hlt hk
      have HYS : Hd _ := hys
      have HYL : Hd _ := hyl
      rw [← hys] at HR0
      clear hys hyl hgw
      have HI : Hd (IntsAt wr.drew.heap.size wr.drew (.slice (some ⟨g, 0, none⟩) zs.length cap) ys) := by
        have h1 := HR0.out
        rw [List.map_append] at h1
        have h2 := row_prefix h1 (by rw [List.length_map]; exact HYL.out.symm)
        rw [show zs.length = ys.length from HYL.out] at h2 ⊢
        exact IntsAt.of_row (B := w0.heap.size) (World.ownsRow.drew h2)
      have HWd : Hd _ := HW.out.keep (Fr.drew (Fr.refl _ wr))
      obtain ⟨c0, c1, c2, c3, -, -⟩ := HW.out.heads
      clear c0 c1 c2 c3
      have hyl2 : ys.length ≤ 2000000 := by have : zs.length = ys.length := HYL.out; omega
      have HG0 : Hd ((pg 0).own g = 0 ∧ (rg 0).own g = 0) := HO1.out.2 0 (by omega)
      obtain ⟨c0, c1, c2, c3, -, -⟩ := HWd.out.heads
      go_upto_region 5 with fail
      go_region_held3 (fun w' => w'.cell? ⟨wb, 2, none⟩ = some (rptr (rb 0))) (go_keep) ((
        first
          | (go_at_call 45
             refine (show Calls Try.prog 45 #[.slice (some ⟨g, 0, none⟩) zs.length cap] wr.drew _ from copyInts_any _ ys wr.drew HI.out (by omega)).mono ?_
             rintro e w2 ⟨cv, rfl, hr2, hF2⟩
             have HW2 : Hd _ := HWd.out.keep hF2
             have HT2 : Hd _ := HT1.out.keep hF2
             obtain ⟨-, -, s2, s3, -, -⟩ := HW2.out.heads
             have HC2 : Hd (IntsAt w2.heap.size w2 cv ys) := IntsAt.of_row hr2
             have HN2 : Hd (∀ j, cv.ownBlock = some j → (rg 0).own j = 0) := fun j e => HWd.out.zero.2 0 (by omega) j (World.ownsRow.lt hr2 j e).1
             have HR2 : Hd _ := ownsRow_fr (World.ownsRow.drew HR0.out) hF2 (fun _ _ e => e)
             clear hr2 hF2)
          | (go_at_call 33
             refine (show Calls Try.prog 33 #[rptr (rb 0), cv] w2 _ from rdrop_any (rb 0) (rg 0) (ra 0) cv ys w2 (HW2.out.rm 0 (by omega)) HC2.out (fun _ => HN2.out) (by have := HRB.out.cells; omega) (by omega)).mono ?_
             rintro e w4 ⟨rfl, hM4, hF4⟩
             have HW4 : Hd _ := HW2.out.rcall (i := 0) (by omega) hM4 hF4 (fun _ _ => rfl)
             have HT4 : Hd _ := HT2.out.rcall (i := 0) (g2 := rg 0) (by omega) hF4 (fun _ _ => rfl)
             obtain ⟨-, -, t2, t3, -, -⟩ := HW4.out.heads
             have HR4 : Hd _ := ownsRow_fr HR2.out hF4 (fun j e e2 => by cases e; exact e2 HG0.out.2)
             clear hM4 hF4)))
      clear c0 c1 c2 c3 s2 s3 t2 t3 HW2 HR2 HC2 HN2 HI HW HWd HR0
      have hg4 : g < w4.heap.size := (World.ownsRow.lt HR4.out g rfl).2
      have HI4 : Hd (IntsAt w4.heap.size w4 (.slice (some ⟨g, 0, none⟩) ys.length cap) ys) := by
        have h1 := HR4.out
        rw [List.map_append] at h1
        have h2 := row_prefix h1 (by rw [List.length_map]; exact HYL.out.symm)
        rw [show zs.length = ys.length from HYL.out] at h2
        exact IntsAt.of_row h2
      have HD : Hd (Calls Try.prog 32 #[ptr (pb 0), .slice (some ⟨g, 0, none⟩) ys.length cap] w4 (fun e w' => ∃ g', e = .returned (vI (dropX (pa 0) ys).2) ∧ Mem w' (pb 0) g' (dropX (pa 0) ys).1 ∧ Fr (fun j => (pg 0).own j ≠ 0) w4 w' ∧ Ext w4.heap.size (pg 0) g')) := drop_any (pb 0) (pg 0) (pa 0) (some ⟨g, 0, none⟩) cap ys w4 (HW4.out.pm 0 (by omega)) HI4.out (fun _ j e => by cases e; exact HG0.out.1) (by omega) (HRL.out.fine HRB.out) (by omega)
      rw [← HYL.out] at HD
      obtain ⟨c0, c1, -, -, -, -⟩ := HW4.out.heads
      go_wp2_with fail
      refine HD.out.mono ?_
      rintro e w5 ⟨g5, rfl, hM5, hF5, hE5⟩
      have HW5 : Hd _ := HW4.out.pcall (i := 0) (by omega) hM5 hF5 hE5
      have HT5 : Hd _ := HT4.out.pcall (i := 0) (by omega) hF5 hE5
      have HR5 : Hd _ := ownsRow_fr HR4.out hF5 (fun j e e2 => by cases e; exact e2 HG0.out.1)
      have HO5 : Hd (Own0 wb (at1 pg 0 g5) (at1 rg 0 (rg 0)) g) := by
        refine ⟨HO1.out.1, fun i hi => ⟨?_, ?_⟩⟩
        · by_cases e : i = 0
          · subst e; rw [at1_self, hE5 g hg4]; exact HG0.out.1
          · rw [at1_ne _ _ e]; exact (HO1.out.2 i hi).1
        · by_cases e : i = 0
          · subst e; rw [at1_self]; exact HG0.out.2
          · rw [at1_ne _ _ e]; exact (HO1.out.2 i hi).2
      clear hM5 hF5 hE5 HD HI4 HW4 HR4 c0 c1
      obtain ⟨he, hr⟩ := HRL.out.drop ys
      rw [he]
      have HR6 : Hd _ := hr
      clear he hr
      go_wp2_with fail
      go_ret
      have hys : ys = zs.map fx := HYS.out
      rw [← hys]
      exact ⟨by simp, _, _, HW5.out, HR6.out, HRB.out.drop ys, HR5.out, HO5.out, HT5.out⟩

set_option maxRecDepth 100000 in
set_option maxHeartbeats 4000000 in
theorem again1 (w0 w : World) (wb : Nat) (pb rb : Nat → Nat) (pg : Nat → Gh) (rg : Nat → RG) (pa : Nat → Abs) (ra : Nat → RA) (lv mv : Value) (us us' : List (Value × List Int)) (h : Wd w0 w wb pb rb pg rg pa ra lv mv us us') (N : Nat) (hN : N ≤ 2000000) (hrel : Rel (pa 1) (ra 1)) (hb : RB N (ra 1))
    (zs ms : List Int) (g cap : Nat) (hl : w.ownsRow w0.heap.size 3 1 (.slice (some ⟨g, 0, none⟩) (zs.length + ms.length) cap) (zs.length + ms.length) ((zs ++ ms).map vI)) (hfree : Own0 wb pg rg g ∧ ¬ LsB lv us g ∧ ¬ LsB mv us' g) (hz : zs.length ≤ 2000000) (ob : Nat) (x : Obj) (hT : Pt ob x wb pg rg lv mv us us' w) (hgo : g ≠ ob) :
    Calls Try.prog 34 #[ptr wb, .slice (some ⟨g, 0, none⟩) zs.length cap, vI 1] w fun e w' => e = .returned (.bool true) ∧ ∃ pg' rg', Wd w0 w' wb pb rb pg' rg' (at1 pa 1 (dropX (pa 1) (zs.map fx)).1) (at1 ra 1 (rdropX (ra 1) (zs.map fx)).1) lv mv us us' ∧ Rel (dropX (pa 1) (zs.map fx)).1 (rdropX (ra 1) (zs.map fx)).1 ∧ RB N (rdropX (ra 1) (zs.map fx)).1 ∧
      w'.ownsRow w0.heap.size 3 1 (.slice (some ⟨g, 0, none⟩) (zs.length + ms.length) cap) (zs.length + ms.length) ((zs.map fx ++ ms).map vI) ∧ Own0 wb pg' rg' g ∧ Pt ob x wb pg' rg' lv mv us us' w' := by
  have HQ : Hd _ := h
  have HL : Hd _ := hl
  have HFREE : Hd _ := hfree
  have HRL : Hd _ := hrel
  have HRB : Hd _ := hb
  have HT : Hd _ := hT
  have hg0 : w0.heap.size ≤ g := (World.ownsRow.lt hl g rfl).1
  have hgw : g < w.heap.size := (World.ownsRow.lt hl g rfl).2
  clear h hl hfree hrel hb hT
  go_enter Try.func34, Try.ntmps34
  go_wp2_with fail
  go_loopw [7] (fun v wr => ∃ (k : Nat), v = .int .i64 k ∧ k ≤ zs.length ∧ Hd (Fr (fun j => j = g) w wr) ∧ Hd (wr.ownsRow w0.heap.size 3 1 (.slice (some ⟨g, 0, none⟩) (zs.length + ms.length) cap) (zs.length + ms.length) (((zs.take k).map fx ++ zs.drop k ++ ms).map vI))) (fun v _ => match v with | .int _ q => zs.length - q.toNat | _ => 0)
  case atStart => exact ⟨0, rfl, Nat.zero_le _, Fr.refl _ _, by unfold Hd; simp only [List.take_zero, List.map_nil, List.nil_append, List.drop_zero]; exact HL.out⟩
  case round =>
    obtain ⟨k, rfl, hk, HF, HR⟩ := hrel
    by_cases hlt : k < zs.length
    · have p0 := row_cell HR.out (fx_get zs ms k hlt)
      obtain ⟨cur, hcur⟩ := row_block HR.out
      have z0 := frozen_of hcur k
      have HR2 : Hd _ := row_set HR.out k (vI (fx zs[k]))
      have HF2 : Hd _ := HF.out.setCell ⟨g, k, none⟩ (vI (fx zs[k])) (Or.inl rfl)
      have HFS : Hd _ := fx_set zs ms k hlt
      have hk0 : (0 : Int) ≤ k := by omega
      have hk1 : (k : Int) < zs.length := by omega
      clear hcur
      go_wp2_with fail
      refine ⟨⟨k + 1, by simp, by omega, HF2.out, ?_⟩, by simp; omega⟩
      have hr2 := HR2.out
      rw [HFS.out] at hr2
      exact hr2
    · have hke : k = zs.length := by omega
      subst hke
      have HW : Hd (Wd w0 wr wb pb rb pg rg pa ra lv mv us us') := (HQ.out.q.fr' HF.out (fun j e => by subst e; exact ⟨HFREE.out.1, HFREE.out.2.1, HFREE.out.2.2, hg0⟩)).wd HQ.out.same
      have HR0 : Hd (wr.ownsRow w0.heap.size 3 1 (.slice (some ⟨g, 0, none⟩) (zs.length + ms.length) cap) (zs.length + ms.length) ((zs.map fx ++ ms).map vI)) := by
        have := HR.out
        simp only [List.take_length, List.drop_length, List.append_nil] at this
        exact this
      have hgr : g < wr.heap.size := Nat.lt_of_lt_of_le hgw HF.out.size
      have HT1 : Hd _ := (HT.out.write HF.out (fun e => hgo e.symm)).keep (Fr.drew (Fr.refl _ wr))
      clear HR HQ HL HF HT
      obtain ⟨ys, hys⟩ : ∃ ys : List Int, ys = zs.map fx := ⟨_, rfl⟩
      have hyl : zs.length = ys.length := by rw [hys]; simp
      have HO1 : Hd (Own0 wb pg rg g) := HFREE.out.1
      clear HFREE hlt hk
      have HYS : Hd _ := hys
      have HYL : Hd _ := hyl
      rw [← hys] at HR0
      clear hys hyl hgw
      have HI : Hd (IntsAt wr.drew.heap.size wr.drew (.slice (some ⟨g, 0, none⟩) zs.length cap) ys) := by
        have h1 := HR0.out
        rw [List.map_append] at h1
        have h2 := row_prefix h1 (by rw [List.length_map]; exact HYL.out.symm)
        rw [show zs.length = ys.length from HYL.out] at h2 ⊢
        exact IntsAt.of_row (B := w0.heap.size) (World.ownsRow.drew h2)
      have HWd : Hd _ := HW.out.keep (Fr.drew (Fr.refl _ wr))
      obtain ⟨c0, c1, c2, c3, -, -⟩ := HW.out.heads
      clear c0 c1 c2 c3
      have hyl2 : ys.length ≤ 2000000 := by have : zs.length = ys.length := HYL.out; omega
      have HG0 : Hd ((pg 1).own g = 0 ∧ (rg 1).own g = 0) := HO1.out.2 1 (by omega)
      obtain ⟨c0, c1, c2, c3, -, -⟩ := HWd.out.heads
      go_upto_region 5 with fail
      go_region_held3 (fun w' => w'.cell? ⟨wb, 3, none⟩ = some (rptr (rb 1))) (go_keep) ((
        first
          | (go_at_call 45
             refine (show Calls Try.prog 45 #[.slice (some ⟨g, 0, none⟩) zs.length cap] wr.drew _ from copyInts_any _ ys wr.drew HI.out (by omega)).mono ?_
             rintro e w2 ⟨cv, rfl, hr2, hF2⟩
             have HW2 : Hd _ := HWd.out.keep hF2
             have HT2 : Hd _ := HT1.out.keep hF2
             obtain ⟨-, -, s2, s3, -, -⟩ := HW2.out.heads
             have HC2 : Hd (IntsAt w2.heap.size w2 cv ys) := IntsAt.of_row hr2
             have HN2 : Hd (∀ j, cv.ownBlock = some j → (rg 1).own j = 0) := fun j e => HWd.out.zero.2 1 (by omega) j (World.ownsRow.lt hr2 j e).1
             have HR2 : Hd _ := ownsRow_fr (World.ownsRow.drew HR0.out) hF2 (fun _ _ e => e)
             clear hr2 hF2)
          | (go_at_call 33
             refine (show Calls Try.prog 33 #[rptr (rb 1), cv] w2 _ from rdrop_any (rb 1) (rg 1) (ra 1) cv ys w2 (HW2.out.rm 1 (by omega)) HC2.out (fun _ => HN2.out) (by have := HRB.out.cells; omega) (by omega)).mono ?_
             rintro e w4 ⟨rfl, hM4, hF4⟩
             have HW4 : Hd _ := HW2.out.rcall (i := 1) (by omega) hM4 hF4 (fun _ _ => rfl)
             have HT4 : Hd _ := HT2.out.rcall (i := 1) (g2 := rg 1) (by omega) hF4 (fun _ _ => rfl)
             obtain ⟨-, -, t2, t3, -, -⟩ := HW4.out.heads
             have HR4 : Hd _ := ownsRow_fr HR2.out hF4 (fun j e e2 => by cases e; exact e2 HG0.out.2)
             clear hM4 hF4)))
      clear c0 c1 c2 c3 s2 s3 t2 t3 HW2 HR2 HC2 HN2 HI HW HWd HR0
      have hg4 : g < w4.heap.size := (World.ownsRow.lt HR4.out g rfl).2
      have HI4 : Hd (IntsAt w4.heap.size w4 (.slice (some ⟨g, 0, none⟩) ys.length cap) ys) := by
        have h1 := HR4.out
        rw [List.map_append] at h1
        have h2 := row_prefix h1 (by rw [List.length_map]; exact HYL.out.symm)
        rw [show zs.length = ys.length from HYL.out] at h2
        exact IntsAt.of_row h2
      have HD : Hd (Calls Try.prog 32 #[ptr (pb 1), .slice (some ⟨g, 0, none⟩) ys.length cap] w4 (fun e w' => ∃ g', e = .returned (vI (dropX (pa 1) ys).2) ∧ Mem w' (pb 1) g' (dropX (pa 1) ys).1 ∧ Fr (fun j => (pg 1).own j ≠ 0) w4 w' ∧ Ext w4.heap.size (pg 1) g')) := drop_any (pb 1) (pg 1) (pa 1) (some ⟨g, 0, none⟩) cap ys w4 (HW4.out.pm 1 (by omega)) HI4.out (fun _ j e => by cases e; exact HG0.out.1) (by omega) (HRL.out.fine HRB.out) (by omega)
      rw [← HYL.out] at HD
      obtain ⟨c0, c1, -, -, -, -⟩ := HW4.out.heads
      go_wp2_with fail
      refine HD.out.mono ?_
      rintro e w5 ⟨g5, rfl, hM5, hF5, hE5⟩
      have HW5 : Hd _ := HW4.out.pcall (i := 1) (by omega) hM5 hF5 hE5
      have HT5 : Hd _ := HT4.out.pcall (i := 1) (by omega) hF5 hE5
      have HR5 : Hd _ := ownsRow_fr HR4.out hF5 (fun j e e2 => by cases e; exact e2 HG0.out.1)
      have HO5 : Hd (Own0 wb (at1 pg 1 g5) (at1 rg 1 (rg 1)) g) := by
        refine ⟨HO1.out.1, fun i hi => ⟨?_, ?_⟩⟩
        · by_cases e : i = 1
          · subst e; rw [at1_self, hE5 g hg4]; exact HG0.out.1
          · rw [at1_ne _ _ e]; exact (HO1.out.2 i hi).1
        · by_cases e : i = 1
          · subst e; rw [at1_self]; exact HG0.out.2
          · rw [at1_ne _ _ e]; exact (HO1.out.2 i hi).2
      clear hM5 hF5 hE5 HD HI4 HW4 HR4 c0 c1
      obtain ⟨he, hr⟩ := HRL.out.drop ys
      rw [he]
      have HR6 : Hd _ := hr
      clear he hr
      go_wp2_with fail
      go_ret
      have hys : ys = zs.map fx := HYS.out
      rw [← hys]
      exact ⟨by simp, _, _, HW5.out, HR6.out, HRB.out.drop ys, HR5.out, HO5.out, HT5.out⟩

end Go.Proofs.Ytmdlebolmhnhaab
