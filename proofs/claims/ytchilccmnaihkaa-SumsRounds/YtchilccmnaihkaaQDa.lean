import Derived.Test.YtchilccmnaihkaaQBaJ
namespace Go.Proofs.Ytchilccmnaihkaa
open Go.RowKit (wrap32 wrap64)
set_option linter.unusedVariables false
set_option linter.unusedSimpArgs false

theorem grow_keepT {wr w6 : World} {v : Value} {B n H e sz : Nat} {xs : List Value} {cs : Array Value} {t : TypeId} (ho : wr.ownsRow B e sz v n xs) (hg : wr.grownBy w6 v.ownBlock) (hc : wr.heap[H]? = some (.cells cs t)) (ht : t ≠ e) : w6.heap[H]? = some (.cells cs t) := by
  refine ((grown_fr hg).block H (heap_lt hc) (fun e' => ?_)).trans hc
  rcases ho.2 with ⟨rfl, -⟩ | ⟨g, cap, cur, rfl, -, h2, -⟩
  · cases e'
  · cases e'
    rw [h2] at hc
    cases hc
    exact ht rfl

set_option maxRecDepth 100000 in
set_option maxHeartbeats 8000000 in
theorem rounds_any (tv : Value) (ts : List T3) (at' by' : Int) (w : World) (h : ThA w tv ts) (hfit : ∀ x ∈ ts, x.la.length ≤ 17592186043904) (hz : ts.length ≤ 1600000000000) (hb0 : 0 ≤ by') (hb1 : by' ≤ 255) :
    Calls Try.prog 5 #[tv, vI at', vB by'] w fun e w' => e = .returned (.bool true) ∧ Fr (fun _ => False) w w' := by
  obtain ⟨ta, tc, rfl, hin⟩ := h
  have HT : Hd (ts ≠ [] → _) := hin
  have HFT : Hd (∀ x ∈ ts, x.la.length ≤ 17592186043904) := hfit
  clear hin hfit
  obtain ⟨i28, hi28, hz28, hs28, hb28⟩ := info_parts (P := Try.prog) (e := 28) (z := .agg #[.int .i64 0, .int .i64 0, .int .i64 0, .slice none 0 0]) (size := 4) (bytes := 48) (by kernel_rfl)
  obtain ⟨i31, hi31, hz31, hs31, hb31⟩ := info_parts (P := Try.prog) (e := 31) (z := .agg #[.slice none 0 0, .slice none 0 0]) (size := 2) (bytes := 48) (by kernel_rfl)
  obtain ⟨i5, hi5, hz5, hs5, hb5⟩ := info_parts (P := Try.prog) (e := 5) (z := .int .u8 0) (size := 1) (bytes := 1) (by kernel_rfl)
  go_enter Try.func5, Try.ntmps5
  go_wp2_with fail
  refine (show Calls Try.prog 7 #[] w _ from fixed_any w).mono ?_
  rintro e w1 ⟨rfl, hF1⟩
  have HF1 : Hd (Fr (fun _ => False) w w1) := hF1
  clear hF1
  go_wp2_with fail
  go_loopw [8, 9, 10] (fun fv sv v wr => ∃ (k : Nat) (fs : List PH) (ss : List PS) (sh : List (Nat × Nat)) (Q : Nat → Prop), v = .int .i64 k ∧ k ≤ ts.length ∧ fs.length = k ∧ Hd (Bun w wr fv sv fs ss sh Q)) (fun _ _ v _ => match v with | .int _ q => ts.length - q.toNat | _ => 0)
  case atStart => exact ⟨0, [], [], [], fun _ => False, rfl, Nat.zero_le _, rfl, ⟨FOwn.nil _ _, SR.nil _ _ (fun _ h => h.elim), fun _ _ h => h, ⟨rfl, fun j h => by simp at h⟩, Fit.nil, HF1.out⟩⟩
  case round =>
    clear HF1
    obtain ⟨k, fs, ss, sh, Q, rfl, hk, hfl, HB⟩ := hrel
    have HFL : Hd (fs.length = k) := hfl
    have hflz : fs.length ≤ 1600000000000 := by omega
    clear hfl
    by_cases hlt : k < ts.length
    · obtain ⟨pk, po, rfl, hpk, hcs⟩ := HT.out (by intro e; simp [e] at hlt)
      obtain ⟨av, bv, cv, d0, d1, d2, -, -, ia, -, -⟩ := hcs k hlt
      have q0 := (HB.out.fr.cell hpk (fun h => h)).trans d0
      have q1 := (HB.out.fr.cell hpk (fun h => h)).trans d1
      have q2 := (HB.out.fr.cell hpk (fun h => h)).trans d2
      have hla : ts[k].la.length ≤ 17592186043904 := HFT.out _ (List.getElem_mem hlt)
      have IAa : Hd (∀ W, Fr (fun _ => False) wr W → IA W av ts[k].la) := fun W f => (ia.stay HB.out.fr).stay f
      obtain ⟨aa, ac, rfl, -⟩ := ia
      generalize ts[k].p = p at *
      generalize ts[k].r = r at *
      generalize ts[k].la = la at *
      obtain ⟨P, hP⟩ : ∃ P : Nat, modX p 9 = P := ⟨(modX p 9).toNat, by have := modX_bound p 9 (by omega); omega⟩
      obtain ⟨R, hR⟩ : ∃ R : Nat, modX r 5 = R := ⟨(modX r 5).toNat, by have := modX_bound r 5 (by omega); omega⟩
      have hP8 : P ≤ 8 := by have := modX_bound p 9 (by omega); omega
      have hR4 : R ≤ 4 := by have := modX_bound r 5 (by omega); omega
      have HP : Hd (modX p 9 = P) := hP
      have HR : Hd (modX r 5 = R) := hR
      have hk0 : (0 : Int) ≤ k := by omega
      have hk1 : (k : Int) < ts.length := by omega
      have hpl : pk < wr.heap.size := Nat.lt_of_lt_of_le hpk HB.out.fr.size
      have n0 : pk ≠ wr.heap.size := by omega
      have n1 : pk ≠ wr.heap.size + 1 := by omega
      have m0 : wr.heap.size ≠ pk := by omega
      have m1 : wr.heap.size + 1 ≠ pk := by omega
      clear hcs d0 d1 d2 hP hR
      go_wp2_with fail
      have KFF : Hd ((wr.alloc zeroF).drew.heap[wr.heap.size]? = some zeroF) := heap_new wr zeroF
      have KSS : Hd ((wr.alloc nil2).drew.heap[wr.heap.size]? = some nil2) := heap_new wr nil2
      have KFSF : Hd (((wr.alloc zeroF).alloc nil2).drew.heap[wr.heap.size]? = some zeroF) := keepA (heap_new wr zeroF) nil2
      have KFSS : Hd (((wr.alloc zeroF).alloc nil2).drew.heap[wr.heap.size + 1]? = some nil2) := by have := heap_new (wr.alloc zeroF) nil2; rw [World.size_alloc] at this; exact this
      have KSFS : Hd (((wr.alloc nil2).alloc zeroF).drew.heap[wr.heap.size]? = some nil2) := keepA (heap_new wr nil2) zeroF
      have KSFF : Hd (((wr.alloc nil2).alloc zeroF).drew.heap[wr.heap.size + 1]? = some zeroF) := by have := heap_new (wr.alloc nil2) zeroF; rw [World.size_alloc] at this; exact this
      go_cut [11, 12] (fun x y wx => Hd (Two wr wx P R x y))
      case first =>
        go_region_held3 (fun w' => w'.cell? ⟨pk, po + k * 5, none⟩ = some (vI p) ∧ w'.cell? ⟨pk, po + k * 5 + 1, none⟩ = some (vI r) ∧ w'.cell? ⟨pk, po + k * 5 + 2, none⟩ = some (.slice aa la.length ac)) (go_keep) ((
          go_at_call 8
          first
            | (refine (show Calls Try.prog 8 #[vI p, vI r, .slice aa la.length ac] wr.drew _ from shaped_q p r P R _ la wr.drew (IAa.out _ (by first | exact Fr.drew (Fr.refl _ _) | exact Fr.drew (Fr.alloc (Fr.refl _ _) _) | exact Fr.drew (Fr.alloc (Fr.alloc (Fr.refl _ _) _) _))) hla HP.out HR.out).mono ?_
               rintro e w2 ⟨s, ha, hc, ra, rc, rfl, hsa, hrt, hf2⟩
               have hFX : Fr (fun _ => False) wr wr.drew := by first | exact Fr.drew (Fr.refl _ _) | exact Fr.drew (Fr.alloc (Fr.refl _ _) _) | exact Fr.drew (Fr.alloc (Fr.alloc (Fr.refl _ _) _) _)
               have hG2 : Fr (fun _ => False) wr w2 := hFX.trans hf2
               have s0 := (hG2.cell hpl (fun h => h)).trans q0
               have s1 := (hG2.cell hpl (fun h => h)).trans q1
               have s2 := (hG2.cell hpl (fun h => h)).trans q2
               have HG2 : Hd (Fr (fun _ => False) wr w2) := hG2
               have HSA : Hd (SAq (fun j => wr.heap.size + 0 ≤ j) w2 (.agg #[.slice ha P hc, .slice ra P rc]) s) := by
                 have h9 := hsa
                 exact h9.mono (fun j hj => by simp at hj; omega)
               have HRT : Hd (PS.Right P R s) := hrt
               clear hf2 hG2 hsa hrt hFX)
            | (refine (show Calls Try.prog 8 #[vI p, vI r, .slice aa la.length ac] (wr.alloc zeroF).drew _ from shaped_q p r P R _ la (wr.alloc zeroF).drew (IAa.out _ (by first | exact Fr.drew (Fr.refl _ _) | exact Fr.drew (Fr.alloc (Fr.refl _ _) _) | exact Fr.drew (Fr.alloc (Fr.alloc (Fr.refl _ _) _) _))) hla HP.out HR.out).mono ?_
               rintro e w2 ⟨s, ha, hc, ra, rc, rfl, hsa, hrt, hf2⟩
               have hFX : Fr (fun _ => False) wr (wr.alloc zeroF).drew := by first | exact Fr.drew (Fr.refl _ _) | exact Fr.drew (Fr.alloc (Fr.refl _ _) _) | exact Fr.drew (Fr.alloc (Fr.alloc (Fr.refl _ _) _) _)
               have hG2 : Fr (fun _ => False) wr w2 := hFX.trans hf2
               have s0 := (hG2.cell hpl (fun h => h)).trans q0
               have s1 := (hG2.cell hpl (fun h => h)).trans q1
               have s2 := (hG2.cell hpl (fun h => h)).trans q2
               have HG2 : Hd (Fr (fun _ => False) wr w2) := hG2
               have HSA : Hd (SAq (fun j => wr.heap.size + 1 ≤ j) w2 (.agg #[.slice ha P hc, .slice ra P rc]) s) := by
                 have h9 := hsa
                 exact h9.mono (fun j hj => by simp at hj; omega)
               have HRT : Hd (PS.Right P R s) := hrt
               have bF : w2.heap[wr.heap.size]? = some zeroF := keepF KFF.out hf2
               have lF : wr.heap.size < w2.heap.size := heap_lt bF
               have eF1 : wr.heap.size ≠ w2.heap.size := by omega
               have eF2 : w2.heap.size ≠ wr.heap.size := by omega
               have eF3 : wr.heap.size ≠ w2.heap.size + 1 := by omega
               have eF4 : w2.heap.size + 1 ≠ wr.heap.size := by omega
               have HBF : Hd (w2.heap[wr.heap.size]? = some zeroF) := bF
               have cF0 : w2.cell? ⟨wr.heap.size, 0, none⟩ = some (vI 0) := by rw [cell_of bF]; rfl
               have zF0 := frozen_of bF 0
               have cF1 : w2.cell? ⟨wr.heap.size, 1, none⟩ = some (vI 0) := by rw [cell_of bF]; rfl
               have zF1 := frozen_of bF 1
               have cF2 : w2.cell? ⟨wr.heap.size, 2, none⟩ = some (vI 0) := by rw [cell_of bF]; rfl
               have zF2 := frozen_of bF 2
               have cF3 : w2.cell? ⟨wr.heap.size, 3, none⟩ = some (.slice none 0 0) := by rw [cell_of bF]; rfl
               have zF3 := frozen_of bF 3
               clear bF
               clear hf2 hG2 hsa hrt hFX)
            | (refine (show Calls Try.prog 8 #[vI p, vI r, .slice aa la.length ac] (wr.alloc nil2).drew _ from shaped_q p r P R _ la (wr.alloc nil2).drew (IAa.out _ (by first | exact Fr.drew (Fr.refl _ _) | exact Fr.drew (Fr.alloc (Fr.refl _ _) _) | exact Fr.drew (Fr.alloc (Fr.alloc (Fr.refl _ _) _) _))) hla HP.out HR.out).mono ?_
               rintro e w2 ⟨s, ha, hc, ra, rc, rfl, hsa, hrt, hf2⟩
               have hFX : Fr (fun _ => False) wr (wr.alloc nil2).drew := by first | exact Fr.drew (Fr.refl _ _) | exact Fr.drew (Fr.alloc (Fr.refl _ _) _) | exact Fr.drew (Fr.alloc (Fr.alloc (Fr.refl _ _) _) _)
               have hG2 : Fr (fun _ => False) wr w2 := hFX.trans hf2
               have s0 := (hG2.cell hpl (fun h => h)).trans q0
               have s1 := (hG2.cell hpl (fun h => h)).trans q1
               have s2 := (hG2.cell hpl (fun h => h)).trans q2
               have HG2 : Hd (Fr (fun _ => False) wr w2) := hG2
               have HSA : Hd (SAq (fun j => wr.heap.size + 1 ≤ j) w2 (.agg #[.slice ha P hc, .slice ra P rc]) s) := by
                 have h9 := hsa
                 exact h9.mono (fun j hj => by simp at hj; omega)
               have HRT : Hd (PS.Right P R s) := hrt
               have bS : w2.heap[wr.heap.size]? = some nil2 := keepF KSS.out hf2
               have lS : wr.heap.size < w2.heap.size := heap_lt bS
               have eS1 : wr.heap.size ≠ w2.heap.size := by omega
               have eS2 : w2.heap.size ≠ wr.heap.size := by omega
               have eS3 : wr.heap.size ≠ w2.heap.size + 1 := by omega
               have eS4 : w2.heap.size + 1 ≠ wr.heap.size := by omega
               have HBS : Hd (w2.heap[wr.heap.size]? = some nil2) := bS
               have cS0 : w2.cell? ⟨wr.heap.size, 0, none⟩ = some (.slice none 0 0) := by rw [cell_of bS]; rfl
               have zS0 := frozen_of bS 0
               have cS1 : w2.cell? ⟨wr.heap.size, 1, none⟩ = some (.slice none 0 0) := by rw [cell_of bS]; rfl
               have zS1 := frozen_of bS 1
               clear bS
               clear hf2 hG2 hsa hrt hFX)
            | (refine (show Calls Try.prog 8 #[vI p, vI r, .slice aa la.length ac] ((wr.alloc zeroF).alloc nil2).drew _ from shaped_q p r P R _ la ((wr.alloc zeroF).alloc nil2).drew (IAa.out _ (by first | exact Fr.drew (Fr.refl _ _) | exact Fr.drew (Fr.alloc (Fr.refl _ _) _) | exact Fr.drew (Fr.alloc (Fr.alloc (Fr.refl _ _) _) _))) hla HP.out HR.out).mono ?_
               rintro e w2 ⟨s, ha, hc, ra, rc, rfl, hsa, hrt, hf2⟩
               have hFX : Fr (fun _ => False) wr ((wr.alloc zeroF).alloc nil2).drew := by first | exact Fr.drew (Fr.refl _ _) | exact Fr.drew (Fr.alloc (Fr.refl _ _) _) | exact Fr.drew (Fr.alloc (Fr.alloc (Fr.refl _ _) _) _)
               have hG2 : Fr (fun _ => False) wr w2 := hFX.trans hf2
               have s0 := (hG2.cell hpl (fun h => h)).trans q0
               have s1 := (hG2.cell hpl (fun h => h)).trans q1
               have s2 := (hG2.cell hpl (fun h => h)).trans q2
               have HG2 : Hd (Fr (fun _ => False) wr w2) := hG2
               have HSA : Hd (SAq (fun j => wr.heap.size + 2 ≤ j) w2 (.agg #[.slice ha P hc, .slice ra P rc]) s) := by
                 have h9 := hsa
                 exact h9.mono (fun j hj => by simp at hj; omega)
               have HRT : Hd (PS.Right P R s) := hrt
               have bF : w2.heap[wr.heap.size]? = some zeroF := keepF KFSF.out hf2
               have lF : wr.heap.size < w2.heap.size := heap_lt bF
               have eF1 : wr.heap.size ≠ w2.heap.size := by omega
               have eF2 : w2.heap.size ≠ wr.heap.size := by omega
               have eF3 : wr.heap.size ≠ w2.heap.size + 1 := by omega
               have eF4 : w2.heap.size + 1 ≠ wr.heap.size := by omega
               have HBF : Hd (w2.heap[wr.heap.size]? = some zeroF) := bF
               have cF0 : w2.cell? ⟨wr.heap.size, 0, none⟩ = some (vI 0) := by rw [cell_of bF]; rfl
               have zF0 := frozen_of bF 0
               have cF1 : w2.cell? ⟨wr.heap.size, 1, none⟩ = some (vI 0) := by rw [cell_of bF]; rfl
               have zF1 := frozen_of bF 1
               have cF2 : w2.cell? ⟨wr.heap.size, 2, none⟩ = some (vI 0) := by rw [cell_of bF]; rfl
               have zF2 := frozen_of bF 2
               have cF3 : w2.cell? ⟨wr.heap.size, 3, none⟩ = some (.slice none 0 0) := by rw [cell_of bF]; rfl
               have zF3 := frozen_of bF 3
               clear bF
               have bS : w2.heap[wr.heap.size + 1]? = some nil2 := keepF KFSS.out hf2
               have lS : wr.heap.size + 1 < w2.heap.size := heap_lt bS
               have eS1 : wr.heap.size + 1 ≠ w2.heap.size := by omega
               have eS2 : w2.heap.size ≠ wr.heap.size + 1 := by omega
               have eS3 : wr.heap.size + 1 ≠ w2.heap.size + 1 := by omega
               have eS4 : w2.heap.size + 1 ≠ wr.heap.size + 1 := by omega
               have HBS : Hd (w2.heap[wr.heap.size + 1]? = some nil2) := bS
               have cS0 : w2.cell? ⟨wr.heap.size + 1, 0, none⟩ = some (.slice none 0 0) := by rw [cell_of bS]; rfl
               have zS0 := frozen_of bS 0
               have cS1 : w2.cell? ⟨wr.heap.size + 1, 1, none⟩ = some (.slice none 0 0) := by rw [cell_of bS]; rfl
               have zS1 := frozen_of bS 1
               clear bS
               clear hf2 hG2 hsa hrt hFX)
            | (refine (show Calls Try.prog 8 #[vI p, vI r, .slice aa la.length ac] ((wr.alloc nil2).alloc zeroF).drew _ from shaped_q p r P R _ la ((wr.alloc nil2).alloc zeroF).drew (IAa.out _ (by first | exact Fr.drew (Fr.refl _ _) | exact Fr.drew (Fr.alloc (Fr.refl _ _) _) | exact Fr.drew (Fr.alloc (Fr.alloc (Fr.refl _ _) _) _))) hla HP.out HR.out).mono ?_
               rintro e w2 ⟨s, ha, hc, ra, rc, rfl, hsa, hrt, hf2⟩
               have hFX : Fr (fun _ => False) wr ((wr.alloc nil2).alloc zeroF).drew := by first | exact Fr.drew (Fr.refl _ _) | exact Fr.drew (Fr.alloc (Fr.refl _ _) _) | exact Fr.drew (Fr.alloc (Fr.alloc (Fr.refl _ _) _) _)
               have hG2 : Fr (fun _ => False) wr w2 := hFX.trans hf2
               have s0 := (hG2.cell hpl (fun h => h)).trans q0
               have s1 := (hG2.cell hpl (fun h => h)).trans q1
               have s2 := (hG2.cell hpl (fun h => h)).trans q2
               have HG2 : Hd (Fr (fun _ => False) wr w2) := hG2
               have HSA : Hd (SAq (fun j => wr.heap.size + 2 ≤ j) w2 (.agg #[.slice ha P hc, .slice ra P rc]) s) := by
                 have h9 := hsa
                 exact h9.mono (fun j hj => by simp at hj; omega)
               have HRT : Hd (PS.Right P R s) := hrt
               have bS : w2.heap[wr.heap.size]? = some nil2 := keepF KSFS.out hf2
               have lS : wr.heap.size < w2.heap.size := heap_lt bS
               have eS1 : wr.heap.size ≠ w2.heap.size := by omega
               have eS2 : w2.heap.size ≠ wr.heap.size := by omega
               have eS3 : wr.heap.size ≠ w2.heap.size + 1 := by omega
               have eS4 : w2.heap.size + 1 ≠ wr.heap.size := by omega
               have HBS : Hd (w2.heap[wr.heap.size]? = some nil2) := bS
               have cS0 : w2.cell? ⟨wr.heap.size, 0, none⟩ = some (.slice none 0 0) := by rw [cell_of bS]; rfl
               have zS0 := frozen_of bS 0
               have cS1 : w2.cell? ⟨wr.heap.size, 1, none⟩ = some (.slice none 0 0) := by rw [cell_of bS]; rfl
               have zS1 := frozen_of bS 1
               clear bS
               have bF : w2.heap[wr.heap.size + 1]? = some zeroF := keepF KSFF.out hf2
               have lF : wr.heap.size + 1 < w2.heap.size := heap_lt bF
               have eF1 : wr.heap.size + 1 ≠ w2.heap.size := by omega
               have eF2 : w2.heap.size ≠ wr.heap.size + 1 := by omega
               have eF3 : wr.heap.size + 1 ≠ w2.heap.size + 1 := by omega
               have eF4 : w2.heap.size + 1 ≠ wr.heap.size + 1 := by omega
               have HBF : Hd (w2.heap[wr.heap.size + 1]? = some zeroF) := bF
               have cF0 : w2.cell? ⟨wr.heap.size + 1, 0, none⟩ = some (vI 0) := by rw [cell_of bF]; rfl
               have zF0 := frozen_of bF 0
               have cF1 : w2.cell? ⟨wr.heap.size + 1, 1, none⟩ = some (vI 0) := by rw [cell_of bF]; rfl
               have zF1 := frozen_of bF 1
               have cF2 : w2.cell? ⟨wr.heap.size + 1, 2, none⟩ = some (vI 0) := by rw [cell_of bF]; rfl
               have zF2 := frozen_of bF 2
               have cF3 : w2.cell? ⟨wr.heap.size + 1, 3, none⟩ = some (.slice none 0 0) := by rw [cell_of bF]; rfl
               have zF3 := frozen_of bF 3
               clear bF
               clear hf2 hG2 hsa hrt hFX)))
        all_goals
          go_wp2_with fail
          go_meet
          unfold Hd
          first
            | with_reducible exact two_a HG2.out HSA.out HRT.out
            | with_reducible exact two_b HG2.out HSA.out HRT.out
            | with_reducible exact two_c HG2.out HBF.out HSA.out HRT.out
            | with_reducible exact two_e HG2.out HBS.out HSA.out HRT.out
            | with_reducible exact two_x HG2.out HBF.out HBS.out (le0 _) (le1 _) (Nat.lt_add_of_pos_right (by decide)) (Nat.lt_succ_self _) (Nat.ne_of_lt (Nat.lt_succ_self _)) HSA.out HRT.out
            | with_reducible exact two_x HG2.out HBF.out HBS.out (le1 _) (le0 _) (Nat.lt_succ_self _) (Nat.lt_add_of_pos_right (by decide)) (Nat.ne_of_gt (Nat.lt_succ_self _)) HSA.out HRT.out
      case rest =>
        obtain ⟨XF, XS, s, ha, hc, ra, rc, rfl, rfl, bF, bS, hsa, hrt, hfx, -, -⟩ := hcut
        obtain ⟨Q1, hQ1⟩ : ∃ Q1 : Nat → Prop, Q1 = fun j => Q j ∨ (wr.heap.size ≤ j ∧ j < wc.heap.size) := ⟨_, rfl⟩
        have HB1 : Hd (Bun w wc u8 u9 fs ss sh Q1) := by rw [hQ1]; exact HB.out.since hfx
        have HSA : Hd (SAq Q1 wc (.agg #[.slice ha P hc, .slice ra P rc]) s) := by rw [hQ1]; exact hsa.lt.mono (fun j => Or.inr)
        have HRT : Hd (PS.Right P R s) := hrt
        have HBS : Hd (wc.heap[XS]? = some (.cells #[.slice ha P hc, .slice ra P rc] 31)) := bS
        have f0 : wc.cell? ⟨XF, 0, none⟩ = some (vI P) := by rw [cell_of bF]; rfl
        have f1 : wc.cell? ⟨XF, 1, none⟩ = some (vI R) := by rw [cell_of bF]; rfl
        have f2 : wc.cell? ⟨XF, 2, none⟩ = some (vI 0) := by rw [cell_of bF]; rfl
        have f3 : wc.cell? ⟨XF, 3, none⟩ = some (.slice none 0 0) := by rw [cell_of bF]; rfl
        have fa : Fr (fun _ => False) wc (wc.alloc (fB P R)) := Fr.alloc (Fr.refl _ _) _
        have HBz : Hd (Bun w (wc.alloc (fB P R)) u8 u9 fs ss sh Q1) := HB1.out.keep fa
        have HSz : Hd (SAq Q1 (wc.alloc (fB P R)) (.agg #[.slice ha P hc, .slice ra P rc]) s) := HSA.out.fr fa (fun _ _ e => e)
        have HBSz : Hd ((wc.alloc (fB P R)).heap[XS]? = some (.cells #[.slice ha P hc, .slice ra P rc] 31)) := keepF HBS.out fa
        have hnews : ∀ j u, [vI P, vI R, vI 0, Value.slice none 0 0][j]? = some u → (wc.alloc (fB P R)).cell? ((⟨wc.heap.size, 0, none⟩ : Addr).add j) = some u :=
          World.news_of_block (cs := #[vI P, vI R, vI 0, .slice none 0 0]) (heap_new wc (fB P R))
        have hbase : w.heap.size ≤ (wc.alloc (fB P R)).heap.size := HBz.out.fr.size
        clear bF bS hsa hrt hfx hQ1 fa q0 q1 q2 hpl n0 n1 m0 m1 KFF KSS KFSF KFSS KSFS KSFF HB HB1 HSA HBS IAa HP HR hla
        go_wp2_with ((at_builtin; refine Hd.out ?_))
        unfold Hd
        refine wpList_append_lies _ rfl (.tmp 57) (.tmp 59) 45 rfl w.heap.size 28 i28 (.agg #[.int .i64 0, .int .i64 0, .int .i64 0, .slice none 0 0]) 4 48 under45 hi28 hz28 hs28 hb28 rfl (by omega) u8 fs.length _ rfl HBz.out.f ⟨wc.heap.size, 0, none⟩ 1 1 [vI P, vI R, vI 0, .slice none 0 0] rfl rfl hnews (by intro u hu; simp at hu; rcases hu with rfl | rfl | rfl | rfl <;> rfl) (by omega) (by unfold maxLen; omega) (by omega) hbase (wc.heap.size + 1) (by simp) ?_
        intro g6 cap6 w6 hown hgrow hat hg6
        have HB6 : Hd (Bun1 w w6 (.slice (some ⟨g6, 0, none⟩) (fs.length + 1) cap6) u9 fs ss sh Q1 P R (.slice ha P hc) (.slice ra P rc) s) := HBz.out.grow HSz.out HRT.out hP8 hR4 hown hgrow (by rw [World.size_alloc]; exact hat)
        have HBS6 : Hd (w6.heap[XS]? = some (.cells #[.slice ha P hc, .slice ra P rc] 31)) := grow_keepT HBz.out.f hgrow HBSz.out (by decide)
        have s0 : w6.cell? ⟨XS, 0, none⟩ = some (.slice ha P hc) := by rw [cell_of HBS6.out]; rfl
        have s1 : w6.cell? ⟨XS, 1, none⟩ = some (.slice ra P rc) := by rw [cell_of HBS6.out]; rfl
        have fa : Fr (fun _ => False) w6 (w6.alloc (.cells #[.slice ha P hc, .slice ra P rc] 31)) := Fr.alloc (Fr.refl _ _) _
        have HBy : Hd (Bun1 w (w6.alloc (.cells #[.slice ha P hc, .slice ra P rc] 31)) (.slice (some ⟨g6, 0, none⟩) (fs.length + 1) cap6) u9 fs ss sh Q1 P R (.slice ha P hc) (.slice ra P rc) s) := HB6.out.keep fa
        obtain ⟨vs, e1, e2, e3, e4, e5⟩ := id HBy.out.sr
        have HE1 : Hd _ := e1
        have HE2 : Hd _ := e2
        have HE3 : Hd _ := e3
        have HE5 : Hd _ := e5
        have hvl : vs.length ≤ 1600000000000 := by rw [e1]; have h8 := HBz.out.fit.len; have h9 := HBz.out.shp.len; omega
        have hnews2 : ∀ j u, [Value.slice ha P hc, Value.slice ra P rc][j]? = some u → (w6.alloc (.cells #[.slice ha P hc, .slice ra P rc] 31)).cell? ((⟨w6.heap.size, 0, none⟩ : Addr).add j) = some u :=
          World.news_of_block (cs := #[.slice ha P hc, .slice ra P rc]) (heap_new w6 (.cells #[.slice ha P hc, .slice ra P rc] 31))
        have hbase2 : w.heap.size ≤ (w6.alloc (.cells #[.slice ha P hc, .slice ra P rc] 31)).heap.size := HBy.out.fr.size
        clear hown hgrow hat hg6 f0 f1 f2 f3 fa HBz HSz HBSz hnews hbase HB6 e1 e2 e3 e4 e5 HRT
        go_wp2_with ((at_builtin; refine Hd.out ?_))
        unfold Hd
        refine wpList_append_lies _ rfl (.tmp 61) (.tmp 63) 46 rfl w.heap.size 31 i31 (.agg #[.slice none 0 0, .slice none 0 0]) 2 48 under46 hi31 hz31 hs31 hb31 rfl (by omega) u9 vs.length _ rfl HE2.out ⟨w6.heap.size, 0, none⟩ 1 1 [.slice ha P hc, .slice ra P rc] rfl rfl hnews2 (by intro u hu; simp at hu; rcases hu with rfl | rfl <;> rfl) (by omega) (by unfold maxLen; omega) (by omega) hbase2 (w6.heap.size + 1) (by simp) ?_
        intro g7 cap7 w7 hown hgrow hat hg7
        have HB7 : Hd (Bun w w7 (.slice (some ⟨g6, 0, none⟩) (fs.length + 1) cap6) (.slice (some ⟨g7, 0, none⟩) (vs.length + 1) cap7) (fs ++ [hB P R]) (ss ++ [s]) (sh ++ [(P, R)]) Q1) := HBy.out.grow HE1.out HE3.out HE5.out hown hgrow (by rw [World.size_alloc]; exact hat)
        clear hown hgrow hat hg7 hnews2 hbase2 HE1 HE2 HE3 HE5 HBy HBS6 s0 s1
        go_wp2_with fail
        exact ⟨⟨k + 1, fs ++ [hB P R], ss ++ [s], sh ++ [(P, R)], Q1, by simp, by omega, by rw [List.length_append, HFL.out]; rfl, HB7.out⟩, by simp; omega⟩
    · have hke : k = ts.length := by omega
      subst hke
      obtain ⟨L, hLd⟩ : ∃ L, L = encB ss := ⟨_, rfl⟩
      have HFs : Hd (∀ W, Fr (fun _ => False) wr W → FsA W u8 fs) := fun W f => HB.out.f.fsa.stay f
      have HSs : Hd (∀ W, Fr (fun _ => False) wr W → SsA W u9 ss) := fun W f => HB.out.sr.ssa.stay f
      have HSH : Hd (Shp fs sh) := HB.out.shp
      have HFI : Hd (Fit sh ss) := HB.out.fit
      have HFTS : Hd (∀ s ∈ ss, s.Fits) := HB.out.fit.fits HB.out.shp.bd
      have HE : Hd (encE fs ss = 0) := enc_ok HB.out.shp HB.out.fit
      have HLn : Hd (L.length = totT sh) := by unfold Hd; rw [hLd]; exact HB.out.fit.enc.1
      have HLo : Hd (∀ x ∈ L, okN x = true) := by unfold Hd; rw [hLd]; exact HB.out.fit.enc.2
      have HLb : Hd (∀ x ∈ L, 0 ≤ x ∧ x ≤ 255) := fun x hx => okN_byte (HLo.out x hx)
      have HBK : Hd (ssT sh L = ss) := by have h9 := HB.out.fit.back []; rw [List.append_nil] at h9; unfold Hd; rw [hLd]; exact h9
      have HDE : Hd (decT sh L = true) := by unfold Hd; rw [hLd]; exact HB.out.fit.dec
      have hsl : ss.length = fs.length := by rw [HB.out.fit.len, HB.out.shp.len]
      have hLz : L.length ≤ 64000000000000 := by
        have h8 := tot_bd sh HB.out.shp.bd
        have h9 := HB.out.shp.len
        have h7 := HLn.out
        omega
      have HFw : Hd (Fr (fun _ => False) w wr) := HB.out.fr
      have hss : ss.length ≤ 2000000000000 := by omega
      have hfs : fs.length ≤ 2900000000000 := by omega
      obtain ⟨n, hn⟩ : ∃ n, n = L.length := ⟨_, rfl⟩
      have HN : Hd (n = L.length) := hn
      have hnz : n ≤ 64000000000000 := by omega
      have HLd : Hd (L = encB ss) := hLd
      clear HB hLd hn
      go_wp2_with fail
      refine (show Calls Try.prog 15 #[u8, u9] wr _ from encode_any u8 u9 fs ss wr (HFs.out _ (Fr.refl _ _)) (HSs.out _ (Fr.refl _ _)) (by omega) hss HFTS.out).mono ?_
      rintro e w2 ⟨bv, rfl, hbo, hF2⟩
      rw [HE.out]
      have hbo := hbo HE.out
      rw [← HLd.out] at hbo
      obtain ⟨ba, bc, ebv, hbcap⟩ := own_cap hbo
      rw [← HN.out] at ebv hbcap
      have HBC : Hd (∀ W, Fr (fun _ => False) w2 W → BC W (.slice ba n bc) L) := fun W f => by rw [← ebv]; exact hbo.bc.stay f
      have HF2 : Hd (Fr (fun _ => False) wr w2) := hF2
      subst ebv
      clear hbo hF2
      go_wp2_with fail
      refine (show Calls Try.prog 16 #[u8, .slice ba n bc] w2 _ from decode_any u8 _ fs sh L w2 (HFs.out _ HF2.out) HSH.out hfs (HBC.out _ (Fr.refl _ _)) (by omega) HLb.out).mono ?_
      rintro e w3 ⟨hF3, (⟨hd, v, Q3, rfl, hsr, hq⟩ | ⟨hd, rfl⟩)⟩
      rotate_left
      · rw [HDE.out] at hd; cases hd
      rw [HBK.out] at hsr
      have HV : Hd (SsA w3 v ss) := hsr.ssa
      have HF3 : Hd (Fr (fun _ => False) w2 w3) := hF3
      clear hF3 hd hsr hq
      go_wp2_with fail
      refine (show Calls Try.prog 17 #[u9, v] w3 _ from eqSums_same u9 v ss w3 (HSs.out _ (HF2.out.trans HF3.out)) HV.out (by omega) HFTS.out).mono ?_
      rintro e w4 ⟨rfl, hF4⟩
      have HF4 : Hd (Fr (fun _ => False) w2 w4) := HF3.out.trans hF4
      clear hF4 HV HF3
      go_wp2_with fail
      refine (show Calls Try.prog 18 #[.slice ba n bc] w4 _ from copyBytes_any _ L w4 (HBC.out _ HF4.out).ba (by omega)).mono ?_
      rintro e w5 ⟨cv, rfl, hco, hF5⟩
      have HF5 : Hd (Fr (fun _ => False) w2 w5) := HF4.out.trans hF5
      have HCO : Hd (BOwn (w5.alloc (.cells #[vB by'] 5)) w4.heap.size cv L) := hco.fr (Fr.alloc (Fr.refl (fun _ => False) _) _) (fun _ _ e => e)
      have hnews : ∀ j u, [vB by'][j]? = some u → (w5.alloc (.cells #[vB by'] 5)).cell? ((⟨w5.heap.size, 0, none⟩ : Addr).add j) = some u :=
        World.news_of_block (cs := #[vB by']) (heap_new w5 (.cells #[vB by'] 5))
      have hbase : w4.heap.size ≤ (w5.alloc (.cells #[vB by'] 5)).heap.size := by have := hF5.size; simp; omega
      clear hco hF5
      go_wp2_with ((at_builtin; refine Hd.out ?_))
      unfold Hd
      refine wpList_append_lies _ rfl (.tmp 96) (.tmp 98) 42 rfl w4.heap.size 5 i5 (.int .u8 0) 1 1 under42 hi5 hz5 hs5 hb5 rfl (by omega) cv L.length _ rfl HCO.out ⟨w5.heap.size, 0, none⟩ 1 1 [vB by'] rfl rfl hnews (by intro u hu; simp at hu; subst hu; rfl) (by omega) (by unfold maxLen; omega) (by omega) hbase (w5.heap.size + 1) (by simp) ?_
      intro g6 cap6 w6 hown hgrow hat hg6
      have HC6 : Hd (BC w6 (.slice (some ⟨g6, 0, none⟩) (L.length + 1) cap6) (L ++ [by'])) := by
        have h9 : BOwn w6 w4.heap.size (.slice (some ⟨g6, 0, none⟩) (L.length + 1) cap6) (L ++ [by']) := by unfold BOwn; rw [List.map_append, List.length_append]; exact hown
        exact h9.bc
      have HF6 : Hd (Fr (fun _ => False) w2 w6) := (HF5.out.alloc _).then (grown_fr hgrow) (fun j hj e => by have := (HCO.out.ge j e).1; have := HF4.out.size; omega)
      clear hown hgrow hat hg6 hnews hbase HCO HF5 HF4
      go_wp2_with fail
      refine (show Calls Try.prog 16 #[u8, .slice (some ⟨g6, 0, none⟩) (L.length + 1) cap6] w6 _ from decode_any u8 _ fs sh (L ++ [by']) w6 (HFs.out _ (HF2.out.trans HF6.out)) HSH.out hfs HC6.out (by simp; omega) (fun x hx => by rcases List.mem_append.1 hx with q | q; exact HLb.out x q; simp at q; subst q; exact ⟨hb0, hb1⟩)).mono ?_
      rintro e w7 ⟨hF7, (⟨hd, v7, Q7, rfl, -, -⟩ | ⟨hd, rfl⟩)⟩
      · rw [dec_more by' HLn.out] at hd; cases hd
      have HF7 : Hd (Fr (fun _ => False) w2 w7) := HF6.out.trans hF7
      clear hF7 hd HF6 HC6
      by_cases hn0 : n = 0
      · subst hn0
        go_wp2_with fail
        go_ret
        exact ⟨rfl, (HFw.out.trans HF2.out).trans HF7.out⟩
      · obtain ⟨m, rfl⟩ : ∃ m, n = m + 1 := ⟨n - 1, by omega⟩
        have hne : (((m + 1 : Nat) : Int) == 0) = false := by simp; omega
        have hm1 : wrap64 (((m + 1 : Nat) : Int) - 1) = (m : Int) := by rw [w64 (by omega) (by omega)]; omega
        have hm2 : (0 : Int) ≤ m := by omega
        have hm3 : (m : Int) ≤ bc := by omega
        go_wp2_with fail
        have HBCm : Hd (BC w7 (.slice ba m bc) (L.take (L.length - 1))) := by
          have h9 := HBC.out w7 HF7.out
          have h8 := HN.out
          have h7 := BC.take (a := ba) (c := bc) (l := L) (by rw [← h8]; exact h9) m (by omega)
          rw [show L.length - 1 = m by omega]; exact h7
        refine (show Calls Try.prog 16 #[u8, .slice ba m bc] w7 _ from decode_any u8 _ fs sh (L.take (L.length - 1)) w7 (HFs.out _ (HF2.out.trans HF7.out)) HSH.out hfs HBCm.out (by simp; omega) (fun x hx => HLb.out x (List.mem_of_mem_take hx))).mono ?_
        rintro e w8 ⟨hF8, (⟨hd, v8, Q8, rfl, -, -⟩ | ⟨hd, rfl⟩)⟩
        · rw [dec_less HLn.out (by have := HN.out; omega)] at hd; cases hd
        have HF8 : Hd (Fr (fun _ => False) w2 w8) := HF7.out.trans hF8
        clear hF8 hd HF7 HBCm
        go_wp2_with fail
        refine (show Calls Try.prog 18 #[.slice ba (m + 1 : Nat) bc] w8 _ from copyBytes_any _ L w8 (HBC.out _ HF8.out).ba (by omega)).mono ?_
        rintro e w9 ⟨cv, rfl, hco, hF9⟩
        obtain ⟨g9, cap9, ecv, hg9, -⟩ := own_cell hco (j := 0) (u := vB (L[0]'(by have := HN.out; omega))) (by rw [List.getElem?_map, List.getElem?_eq_getElem (by have := HN.out; omega)]; rfl)
        have hge := (hco.ge g9 (by rw [ecv]; rfl)).1
        have HCO : Hd (BOwn w9 w8.heap.size cv L) := hco
        have ecv2 : cv = .slice (some ⟨g9, 0, none⟩) (m + 1) cap9 := by rw [ecv, ← HN.out]
        have HF9 : Hd (Fr (fun _ => False) w8 w9) := hF9
        have HEC : Hd (cv = .slice (some ⟨g9, 0, none⟩) L.length cap9) := ecv
        clear ecv hco hF9
        subst ecv2
        go_wp2_with fail
        refine (show Calls Try.prog 14 #[vI at', vI ((m + 1 : Nat) : Int)] w9 _ from mod_big at' ((m + 1 : Nat) : Int) (by omega) (by omega) w9).mono ?_
        rintro e w10 ⟨rfl, rfl⟩
        obtain ⟨K, hK⟩ : ∃ K : Nat, modX at' ((m + 1 : Nat) : Int) = K := ⟨(modX at' ((m + 1 : Nat) : Int)).toNat, by have := modX_bound at' ((m + 1 : Nat) : Int) (by omega); omega⟩
        have hKm : K < m + 1 := by have := modX_bound at' ((m + 1 : Nat) : Int) (by omega); omega
        rw [hK]
        have hKL : K < L.length := by have := HN.out; omega
        obtain ⟨g', cap', e', -, hcK⟩ := own_cell HCO.out (j := K) (u := vB (L[K]'hKL)) (by rw [List.getElem?_map, List.getElem?_eq_getElem hKL]; rfl)
        have eg : g' = g9 := by injection e' with q1 q2 q3; injection q1 with q1; injection q1 with q1 _ _; exact q1.symm
        subst eg
        clear e'
        have hfzK : w10.frozen? ⟨g', K, none⟩ = false := by
          rcases HCO.out.2 with ⟨q1, -⟩ | ⟨g3, cap3, cur, q1, -, q2, -⟩
          · cases q1
          · have eg : g' = g3 := by injection q1 with q1 q2 q3; injection q1 with q1; injection q1 with q1 _ _
            rw [eg]; exact frozen_of q2 K
        have HCS : Hd (BC (w10.setCell ⟨g', K, none⟩ (vB by')) (.slice (some ⟨g', 0, none⟩) (m + 1) cap9) (L.set K by')) := HCO.out.set hKL HEC.out by'
        have HFS : Hd (Fr (fun _ => False) w8 (w10.setCell ⟨g', K, none⟩ (vB by'))) := HF9.out.then (setCell_fr w10 g' K _) (fun j hj e => by omega)
        have hK0 : (0 : Int) ≤ K := by omega
        have hK1 : (K : Int) < ((m + 1 : Nat) : Int) := by omega
        clear hge hK HCO HEC HF9
        go_wp2_with fail
        generalize w10.setCell ⟨g', K, none⟩ (vB by') = wy at *
        have HFc0 : Hd (Fr (fun _ => False) wr wy) := (HF2.out.trans HF8.out).trans HFS.out
        refine (show Calls Try.prog 16 #[u8, .slice (some ⟨g', 0, none⟩) (m + 1) cap9] wy _ from decode_any u8 _ fs sh (L.set K by') wy (HFs.out _ HFc0.out) HSH.out hfs HCS.out (by simp; omega) (fun x hx => by rcases List.mem_or_eq_of_mem_set hx with q | q; exact HLb.out x q; subst q; exact ⟨hb0, hb1⟩)).mono ?_
        rintro e w11 ⟨hF11, (⟨hd, nv, Q11, rfl, hsr, hq⟩ | ⟨hd, rfl⟩)⟩
        · have hok : okN by' = true := by rw [← dec_set by' HLn.out HLo.out hKL]; exact hd
          have hdt : okT (L.set K by') (totT sh) = true := by simp only [decT, Bool.and_eq_true] at hd; exact hd.1
          have HFI2 : Hd (Fit sh (ssT sh (L.set K by'))) := ssT_fit hdt
          have HFT2 : Hd (∀ s ∈ ssT sh (L.set K by'), s.Fits) := HFI2.out.fits HSH.out.bd
          have HE2 : Hd (encE fs (ssT sh (L.set K by')) = 0) := enc_ok HSH.out HFI2.out
          have HEB : Hd (encB (ssT sh (L.set K by')) = L.set K by') := by
            unfold Hd
            rw [ssT_enc (okT_le hdt)]
            exact List.take_of_length_le (by have := HLn.out; simp; omega)
          have hsl2 : (ssT sh (L.set K by')).length ≤ 2000000000000 := by rw [ssT_len]; have := HSH.out.len; omega
          have HNV : Hd (SsA w11 nv (ssT sh (L.set K by'))) := hsr.ssa
          have HFc : Hd (Fr (fun _ => False) wy w11) := hF11
          have HF11 : Hd (Fr (fun _ => False) wr w11) := HFc0.out.trans hF11
          have hmay : by' ≤ 3 ∨ by' = 9 := by simp [okN] at hok; omega
          clear hd hok hdt hsr hq hF11 HFI2 HLn HLo HLb HDE HBK HLd HFTS HFI HSs HBC HE
          rcases hmay with h3 | rfl
          · have hd3 : decide (by' ≤ 3) = true := by simpa using h3
            go_wp2_with fail
            refine (show Calls Try.prog 15 #[u8, nv] w11 _ from encode_any u8 nv fs (ssT sh (L.set K by')) w11 (HFs.out _ HF11.out) HNV.out (by omega) hsl2 HFT2.out).mono ?_
            rintro e w12 ⟨av, rfl, hav, hF12⟩
            rw [HE2.out]
            have hav := hav HE2.out
            rw [HEB.out] at hav
            obtain ⟨xa, xc, exv, -⟩ := own_cap hav
            rw [List.length_set, ← HN.out] at exv
            have HAV : Hd (BA w12 av (L.set K by')) := hav.ba
            have HCV : Hd (BA w12 (.slice (some ⟨g', 0, none⟩) (m + 1) cap9) (L.set K by')) := (HCS.out.stay (HFc.out.trans hF12)).ba
            have HF12 : Hd (Fr (fun _ => False) w w12) := (HFw.out.trans HF11.out).trans hF12
            clear hav hF12
            subst exv
            go_wp2_with fail
            refine (show Calls Try.prog 19 #[.slice xa (m + 1) xc, .slice (some ⟨g', 0, none⟩) (m + 1) cap9] w12 _ from eqBytes_any _ _ (L.set K by') (L.set K by') w12 HAV.out HCV.out (by simp; omega) (by simp; omega)).mono ?_
            rintro e w13 ⟨rfl, hF13⟩
            rw [(all2_eq eqB_iff).2 rfl]
            have HFz : Hd (Fr (fun _ => False) w w13) := HF12.out.trans hF13
            clear hF13
            go_wp2_with fail
            go_ret
            exact ⟨rfl, HFz.out⟩
          · go_wp2_with fail
            refine (show Calls Try.prog 15 #[u8, nv] w11 _ from encode_any u8 nv fs (ssT sh (L.set K 9)) w11 (HFs.out _ HF11.out) HNV.out (by omega) hsl2 HFT2.out).mono ?_
            rintro e w12 ⟨av, rfl, hav, hF12⟩
            rw [HE2.out]
            have hav := hav HE2.out
            rw [HEB.out] at hav
            obtain ⟨xa, xc, exv, -⟩ := own_cap hav
            rw [List.length_set, ← HN.out] at exv
            have HAV : Hd (BA w12 av (L.set K 9)) := hav.ba
            have HCV : Hd (BA w12 (.slice (some ⟨g', 0, none⟩) (m + 1) cap9) (L.set K 9)) := (HCS.out.stay (HFc.out.trans hF12)).ba
            have HF12 : Hd (Fr (fun _ => False) w w12) := (HFw.out.trans HF11.out).trans hF12
            clear hav hF12
            subst exv
            go_wp2_with fail
            refine (show Calls Try.prog 19 #[.slice xa (m + 1) xc, .slice (some ⟨g', 0, none⟩) (m + 1) cap9] w12 _ from eqBytes_any _ _ (L.set K 9) (L.set K 9) w12 HAV.out HCV.out (by simp; omega) (by simp; omega)).mono ?_
            rintro e w13 ⟨rfl, hF13⟩
            rw [(all2_eq eqB_iff).2 rfl]
            have HFz : Hd (Fr (fun _ => False) w w13) := HF12.out.trans hF13
            clear hF13
            go_wp2_with fail
            go_ret
            exact ⟨rfl, HFz.out⟩
        · have hno : okN by' = false := by rw [← dec_set by' HLn.out HLo.out hKL]; exact hd
          have h3 : ¬ by' ≤ 3 := by simp [okN] at hno; omega
          have h9 : ¬ by' = 9 := by simp [okN] at hno; omega
          have hd3 : decide (by' ≤ 3) = false := by simpa using h3
          have hd9 : (by' == 9) = false := by simpa using h9
          have HFc : Hd (Fr (fun _ => False) wy w11) := hF11
          have HF11 : Hd (Fr (fun _ => False) wr w11) := HFc0.out.trans hF11
          have HQN : Hd (all2 rightP fs [] = false) := by
            unfold Hd
            cases hfse : fs with
            | nil =>
              have q1 := HLn.out
              have q2 := HSH.out.len
              rw [hfse] at q2
              have q3 : sh = [] := List.eq_nil_of_length_eq_zero q2.symm
              rw [q3] at q1
              simp [totT] at q1
              rw [q1] at hKL
              simp at hKL
            | cons => rfl
          clear hd hno hF11
          go_wp2_with fail
          refine (show Calls Try.prog 15 #[u8, .slice none 0 0] w11 _ from encode_no u8 _ fs [] w11 (HFs.out _ HF11.out) ⟨none, 0, rfl, fun h => absurd rfl h⟩ (by omega) (by simp) (fun s h => by simp at h) HSH.out.all HQN.out).mono ?_
          rintro e w12 ⟨rfl, hF12⟩
          have HCV : Hd (BA w12 (.slice (some ⟨g', 0, none⟩) (m + 1) cap9) (L.set K by')) := (HCS.out.stay (HFc.out.trans hF12)).ba
          have HF12 : Hd (Fr (fun _ => False) w w12) := (HFw.out.trans HF11.out).trans hF12
          clear hF12
          go_wp2_with fail
          refine (show Calls Try.prog 19 #[.slice none 0 0, .slice (some ⟨g', 0, none⟩) (m + 1) cap9] w12 _ from eqBytes_any _ _ [] (L.set K by') w12 ⟨none, 0, rfl, fun h => absurd rfl h⟩ HCV.out (by simp) (by simp; omega)).mono ?_
          rintro e w13 ⟨rfl, hF13⟩
          generalize all2 eqB [] (L.set K by') = bb at *
          have HFz : Hd (Fr (fun _ => False) w w13) := HF12.out.trans hF13
          clear hF13
          go_wp2_with fail
          go_ret
          exact ⟨rfl, HFz.out⟩

end Go.Proofs.Ytchilccmnaihkaa
