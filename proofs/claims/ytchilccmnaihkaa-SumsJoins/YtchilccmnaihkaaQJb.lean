import Derived.Test.YtchilccmnaihkaaQJa
namespace Go.Proofs.Ytchilccmnaihkaa
open Go.RowKit (wrap32 wrap64)
set_option linter.unusedVariables false
set_option linter.unusedSimpArgs false

theorem box_keep {wz w6 : World} {z : Value} {N X : Nat} {o : Obj} (hg : wz.grownBy w6 z.ownBlock) (hz : ∀ j, z.ownBlock = some j → j < N) (hX : N ≤ X) (hb : wz.heap[X]? = some o) : w6.heap[X]? = some o :=
  ((grown_fr hg).block X (heap_lt hb) (fun e => by have := hz X e; omega)).trans hb

set_option maxRecDepth 100000 in
set_option maxHeartbeats 16000000 in
theorem joins_any (tv tw : Value) (ts tz : List T3) (w : World) (h : ThA w tv ts) (h' : ThA w tw tz) (hfit : ∀ x ∈ ts, x.la.length ≤ 17592186043904) (hfit' : ∀ x ∈ tz, x.lb.length ≤ 17592186043904) (hz : ts.length + tz.length ≤ 3200000000000) :
    Calls Try.prog 6 #[tv, tw] w fun e w' => e = .returned (.bool true) ∧ Fr (fun _ => False) w w' := by
  obtain ⟨ta, tc, rfl, hin⟩ := h
  obtain ⟨ta', tc', rfl, hin'⟩ := h'
  have HT : Hd (ts ≠ [] → _) := hin
  have HT2 : Hd (tz ≠ [] → _) := hin'
  have HFT : Hd (∀ x ∈ ts, x.la.length ≤ 17592186043904) := hfit
  have HFT2 : Hd (∀ x ∈ tz, x.lb.length ≤ 17592186043904) := hfit'
  clear hin hfit hin' hfit'
  obtain ⟨i28, hi28, hz28, hs28, hb28⟩ := info_parts (P := Try.prog) (e := 28) (z := .agg #[.int .i64 0, .int .i64 0, .int .i64 0, .slice none 0 0]) (size := 4) (bytes := 48) (by kernel_rfl)
  obtain ⟨i31, hi31, hz31, hs31, hb31⟩ := info_parts (P := Try.prog) (e := 31) (z := .agg #[.slice none 0 0, .slice none 0 0]) (size := 2) (bytes := 48) (by kernel_rfl)
  obtain ⟨i5, hi5, hz5, hs5, hb5⟩ := info_parts (P := Try.prog) (e := 5) (z := .int .u8 0) (size := 1) (bytes := 1) (by kernel_rfl)
  go_enter Try.func6, Try.ntmps6
  go_wp2_with fail
  refine (show Calls Try.prog 7 #[] w _ from fixed_any w).mono ?_
  rintro e w1 ⟨rfl, hF1⟩
  have HF1 : Hd (Fr (fun _ => False) w w1) := hF1
  clear hF1
  go_wp2_with fail
  go_loopw [6, 8, 9, 11, 12] (fun fu fc su sc v wr => ∃ (k : Nat) (fX : List PH) (sX : List PS) (hX : List (Nat × Nat)) (Q : Nat → Prop), v = .int .i64 k ∧ k ≤ ts.length ∧ fX.length = k ∧ Hd (Tri w wr fu su fc sc (.slice none 0 0) (.slice none 0 0) fX sX hX fX sX hX [] [] [] Q)) (fun _ _ _ _ v _ => match v with | .int _ q => ts.length - q.toNat | _ => 0)
  case atStart =>
    have b0 : Bun w w1 (.slice none 0 0) (.slice none 0 0) [] [] [] (fun _ => False) := ⟨FOwn.nil _ _, SR.nil _ _ (fun _ h => h.elim), fun _ _ h => h, ⟨rfl, fun j h => (by simp at h)⟩, Fit.nil, HF1.out⟩
    exact ⟨0, [], [], [], fun _ => False, rfl, Nat.zero_le _, rfl, ⟨b0, b0, b0, Off.nil _, Off.nil _, Off.nil _, Off.nil _, Off.nil _, Off.nil _⟩⟩
  case round =>
    clear HF1
    obtain ⟨k, fX, sX, hX, Q, rfl, hk, hfl, HB⟩ := hrel
    have HFLk : Hd (fX.length = k) := hfl
    have HFLa : Hd (fX.length ≤ 3200000000000) := by unfold Hd; omega
    have HFLb : Hd (fX.length ≤ 3200000000000) := HFLa.out
    clear hfl
    by_cases hlt : k < ts.length
    · obtain ⟨pk, po, rfl, hpk, hcs⟩ := HT.out (by intro e; simp [e] at hlt)
      obtain ⟨av, bv, cv, d0, d1, d2, -, -, ia, -, -⟩ := hcs k hlt
      have q0 := (HB.out.x.fr.cell hpk (fun h => h)).trans d0
      have q1 := (HB.out.x.fr.cell hpk (fun h => h)).trans d1
      have q2 := (HB.out.x.fr.cell hpk (fun h => h)).trans d2
      have hla : ts[k].la.length ≤ 17592186043904 := HFT.out _ (List.getElem_mem hlt)
      have IAa : Hd (∀ W, Fr (fun _ => False) wr W → IA W av ts[k].la) := fun W f => (ia.stay HB.out.x.fr).stay f
      obtain ⟨aa, ac, rfl, -⟩ := ia
      generalize ts[k].p = p at *
      generalize ts[k].r = r at *
      generalize ts[k].la = la at *
      obtain ⟨P, hP⟩ : ∃ P : Nat, modX p 9 = P := ⟨(modX p 9).toNat, by have := modX_bound p 9 (by omega); omega⟩
      obtain ⟨R, hR⟩ : ∃ R : Nat, modX r 5 = R := ⟨(modX r 5).toNat, by have := modX_bound r 5 (by omega); omega⟩
      have hP8 : P ≤ 8 := by have := modX_bound p 9 (by omega); omega
      have hR4 : R ≤ 4 := by have := modX_bound r 5 (by omega); omega
      have HP : Hd (modX p 9 = P) := hP
      have HR : Hd (modX r 5 = R) := hR
      have hk0 : (0 : Int) ≤ k := by omega
      have hk1 : (k : Int) < ts.length := by omega
      have hpl : pk < wr.heap.size := Nat.lt_of_lt_of_le hpk HB.out.x.fr.size
      have n0 : pk ≠ wr.heap.size := by omega
      have n1 : pk ≠ wr.heap.size + 1 := by omega
      have m0 : wr.heap.size ≠ pk := by omega
      have m1 : wr.heap.size + 1 ≠ pk := by omega
      clear hcs d0 d1 d2 hP hR
      go_wp2_with fail
      have KFF : Hd ((wr.alloc zeroF).drew.heap[wr.heap.size]? = some zeroF) := heap_new wr zeroF
      have KSS : Hd ((wr.alloc nil2).drew.heap[wr.heap.size]? = some nil2) := heap_new wr nil2
      have KFSF : Hd (((wr.alloc zeroF).alloc nil2).drew.heap[wr.heap.size]? = some zeroF) := keepA (heap_new wr zeroF) nil2
      have KFSS : Hd (((wr.alloc zeroF).alloc nil2).drew.heap[wr.heap.size + 1]? = some nil2) := by have := heap_new (wr.alloc zeroF) nil2; rw [World.size_alloc] at this; exact this
      have KSFS : Hd (((wr.alloc nil2).alloc zeroF).drew.heap[wr.heap.size]? = some nil2) := keepA (heap_new wr nil2) zeroF
      have KSFF : Hd (((wr.alloc nil2).alloc zeroF).drew.heap[wr.heap.size + 1]? = some zeroF) := by have := heap_new (wr.alloc nil2) zeroF; rw [World.size_alloc] at this; exact this
      go_cut [13, 14] (fun x y wx => Hd (Two wr wx P R x y))
      case first =>
        go_region_held3 (fun w' => w'.cell? ⟨pk, po + k * 5, none⟩ = some (vI p) ∧ w'.cell? ⟨pk, po + k * 5 + 1, none⟩ = some (vI r) ∧ w'.cell? ⟨pk, po + k * 5 + 2, none⟩ = some (.slice aa la.length ac)) (go_keep) ((
          go_at_call 8
          first
            | (refine (show Calls Try.prog 8 #[vI p, vI r, .slice aa la.length ac] wr.drew _ from shaped_q p r P R _ la wr.drew (IAa.out _ (by first | exact Fr.drew (Fr.refl _ _) | exact Fr.drew (Fr.alloc (Fr.refl _ _) _) | exact Fr.drew (Fr.alloc (Fr.alloc (Fr.refl _ _) _) _))) hla HP.out HR.out).mono ?_
               rintro e w2 ⟨s, ha, hc, ra, rc, rfl, hsa, hrt, hf2⟩
               have hFX : Fr (fun _ => False) wr wr.drew := by first | exact Fr.drew (Fr.refl _ _) | exact Fr.drew (Fr.alloc (Fr.refl _ _) _) | exact Fr.drew (Fr.alloc (Fr.alloc (Fr.refl _ _) _) _)
               have hG2 : Fr (fun _ => False) wr w2 := hFX.trans hf2
               have s0 := (hG2.cell hpl (fun h => h)).trans q0
               have s1 := (hG2.cell hpl (fun h => h)).trans q1
               have s2 := (hG2.cell hpl (fun h => h)).trans q2
               have HG2 : Hd (Fr (fun _ => False) wr w2) := hG2
               have HSA : Hd (SAq (fun j => wr.heap.size + 0 ≤ j) w2 (.agg #[.slice ha P hc, .slice ra P rc]) s) := by
                 have h9 := hsa
                 exact h9.mono (fun j hj => by simp at hj; omega)
               have HRT : Hd (PS.Right P R s) := hrt
               clear hf2 hG2 hsa hrt hFX)
            | (refine (show Calls Try.prog 8 #[vI p, vI r, .slice aa la.length ac] (wr.alloc zeroF).drew _ from shaped_q p r P R _ la (wr.alloc zeroF).drew (IAa.out _ (by first | exact Fr.drew (Fr.refl _ _) | exact Fr.drew (Fr.alloc (Fr.refl _ _) _) | exact Fr.drew (Fr.alloc (Fr.alloc (Fr.refl _ _) _) _))) hla HP.out HR.out).mono ?_
               rintro e w2 ⟨s, ha, hc, ra, rc, rfl, hsa, hrt, hf2⟩
               have hFX : Fr (fun _ => False) wr (wr.alloc zeroF).drew := by first | exact Fr.drew (Fr.refl _ _) | exact Fr.drew (Fr.alloc (Fr.refl _ _) _) | exact Fr.drew (Fr.alloc (Fr.alloc (Fr.refl _ _) _) _)
               have hG2 : Fr (fun _ => False) wr w2 := hFX.trans hf2
               have s0 := (hG2.cell hpl (fun h => h)).trans q0
               have s1 := (hG2.cell hpl (fun h => h)).trans q1
               have s2 := (hG2.cell hpl (fun h => h)).trans q2
               have HG2 : Hd (Fr (fun _ => False) wr w2) := hG2
               have HSA : Hd (SAq (fun j => wr.heap.size + 1 ≤ j) w2 (.agg #[.slice ha P hc, .slice ra P rc]) s) := by
                 have h9 := hsa
                 exact h9.mono (fun j hj => by simp at hj; omega)
               have HRT : Hd (PS.Right P R s) := hrt
               have bF : w2.heap[wr.heap.size]? = some zeroF := keepF KFF.out hf2
               have lF : wr.heap.size < w2.heap.size := heap_lt bF
               have eF1 : wr.heap.size ≠ w2.heap.size := by omega
               have eF2 : w2.heap.size ≠ wr.heap.size := by omega
               have eF3 : wr.heap.size ≠ w2.heap.size + 1 := by omega
               have eF4 : w2.heap.size + 1 ≠ wr.heap.size := by omega
               have HBF : Hd (w2.heap[wr.heap.size]? = some zeroF) := bF
               have cF0 : w2.cell? ⟨wr.heap.size, 0, none⟩ = some (vI 0) := by rw [cell_of bF]; rfl
               have zF0 := frozen_of bF 0
               have cF1 : w2.cell? ⟨wr.heap.size, 1, none⟩ = some (vI 0) := by rw [cell_of bF]; rfl
               have zF1 := frozen_of bF 1
               have cF2 : w2.cell? ⟨wr.heap.size, 2, none⟩ = some (vI 0) := by rw [cell_of bF]; rfl
               have zF2 := frozen_of bF 2
               have cF3 : w2.cell? ⟨wr.heap.size, 3, none⟩ = some (.slice none 0 0) := by rw [cell_of bF]; rfl
               have zF3 := frozen_of bF 3
               clear bF
               clear hf2 hG2 hsa hrt hFX)
            | (refine (show Calls Try.prog 8 #[vI p, vI r, .slice aa la.length ac] (wr.alloc nil2).drew _ from shaped_q p r P R _ la (wr.alloc nil2).drew (IAa.out _ (by first | exact Fr.drew (Fr.refl _ _) | exact Fr.drew (Fr.alloc (Fr.refl _ _) _) | exact Fr.drew (Fr.alloc (Fr.alloc (Fr.refl _ _) _) _))) hla HP.out HR.out).mono ?_
               rintro e w2 ⟨s, ha, hc, ra, rc, rfl, hsa, hrt, hf2⟩
               have hFX : Fr (fun _ => False) wr (wr.alloc nil2).drew := by first | exact Fr.drew (Fr.refl _ _) | exact Fr.drew (Fr.alloc (Fr.refl _ _) _) | exact Fr.drew (Fr.alloc (Fr.alloc (Fr.refl _ _) _) _)
               have hG2 : Fr (fun _ => False) wr w2 := hFX.trans hf2
               have s0 := (hG2.cell hpl (fun h => h)).trans q0
               have s1 := (hG2.cell hpl (fun h => h)).trans q1
               have s2 := (hG2.cell hpl (fun h => h)).trans q2
               have HG2 : Hd (Fr (fun _ => False) wr w2) := hG2
               have HSA : Hd (SAq (fun j => wr.heap.size + 1 ≤ j) w2 (.agg #[.slice ha P hc, .slice ra P rc]) s) := by
                 have h9 := hsa
                 exact h9.mono (fun j hj => by simp at hj; omega)
               have HRT : Hd (PS.Right P R s) := hrt
               have bS : w2.heap[wr.heap.size]? = some nil2 := keepF KSS.out hf2
               have lS : wr.heap.size < w2.heap.size := heap_lt bS
               have eS1 : wr.heap.size ≠ w2.heap.size := by omega
               have eS2 : w2.heap.size ≠ wr.heap.size := by omega
               have eS3 : wr.heap.size ≠ w2.heap.size + 1 := by omega
               have eS4 : w2.heap.size + 1 ≠ wr.heap.size := by omega
               have HBS : Hd (w2.heap[wr.heap.size]? = some nil2) := bS
               have cS0 : w2.cell? ⟨wr.heap.size, 0, none⟩ = some (.slice none 0 0) := by rw [cell_of bS]; rfl
               have zS0 := frozen_of bS 0
               have cS1 : w2.cell? ⟨wr.heap.size, 1, none⟩ = some (.slice none 0 0) := by rw [cell_of bS]; rfl
               have zS1 := frozen_of bS 1
               clear bS
               clear hf2 hG2 hsa hrt hFX)
            | (refine (show Calls Try.prog 8 #[vI p, vI r, .slice aa la.length ac] ((wr.alloc zeroF).alloc nil2).drew _ from shaped_q p r P R _ la ((wr.alloc zeroF).alloc nil2).drew (IAa.out _ (by first | exact Fr.drew (Fr.refl _ _) | exact Fr.drew (Fr.alloc (Fr.refl _ _) _) | exact Fr.drew (Fr.alloc (Fr.alloc (Fr.refl _ _) _) _))) hla HP.out HR.out).mono ?_
               rintro e w2 ⟨s, ha, hc, ra, rc, rfl, hsa, hrt, hf2⟩
               have hFX : Fr (fun _ => False) wr ((wr.alloc zeroF).alloc nil2).drew := by first | exact Fr.drew (Fr.refl _ _) | exact Fr.drew (Fr.alloc (Fr.refl _ _) _) | exact Fr.drew (Fr.alloc (Fr.alloc (Fr.refl _ _) _) _)
               have hG2 : Fr (fun _ => False) wr w2 := hFX.trans hf2
               have s0 := (hG2.cell hpl (fun h => h)).trans q0
               have s1 := (hG2.cell hpl (fun h => h)).trans q1
               have s2 := (hG2.cell hpl (fun h => h)).trans q2
               have HG2 : Hd (Fr (fun _ => False) wr w2) := hG2
               have HSA : Hd (SAq (fun j => wr.heap.size + 2 ≤ j) w2 (.agg #[.slice ha P hc, .slice ra P rc]) s) := by
                 have h9 := hsa
                 exact h9.mono (fun j hj => by simp at hj; omega)
               have HRT : Hd (PS.Right P R s) := hrt
               have bF : w2.heap[wr.heap.size]? = some zeroF := keepF KFSF.out hf2
               have lF : wr.heap.size < w2.heap.size := heap_lt bF
               have eF1 : wr.heap.size ≠ w2.heap.size := by omega
               have eF2 : w2.heap.size ≠ wr.heap.size := by omega
               have eF3 : wr.heap.size ≠ w2.heap.size + 1 := by omega
               have eF4 : w2.heap.size + 1 ≠ wr.heap.size := by omega
               have HBF : Hd (w2.heap[wr.heap.size]? = some zeroF) := bF
               have cF0 : w2.cell? ⟨wr.heap.size, 0, none⟩ = some (vI 0) := by rw [cell_of bF]; rfl
               have zF0 := frozen_of bF 0
               have cF1 : w2.cell? ⟨wr.heap.size, 1, none⟩ = some (vI 0) := by rw [cell_of bF]; rfl
               have zF1 := frozen_of bF 1
               have cF2 : w2.cell? ⟨wr.heap.size, 2, none⟩ = some (vI 0) := by rw [cell_of bF]; rfl
               have zF2 := frozen_of bF 2
               have cF3 : w2.cell? ⟨wr.heap.size, 3, none⟩ = some (.slice none 0 0) := by rw [cell_of bF]; rfl
               have zF3 := frozen_of bF 3
               clear bF
               have bS : w2.heap[wr.heap.size + 1]? = some nil2 := keepF KFSS.out hf2
               have lS : wr.heap.size + 1 < w2.heap.size := heap_lt bS
               have eS1 : wr.heap.size + 1 ≠ w2.heap.size := by omega
               have eS2 : w2.heap.size ≠ wr.heap.size + 1 := by omega
               have eS3 : wr.heap.size + 1 ≠ w2.heap.size + 1 := by omega
               have eS4 : w2.heap.size + 1 ≠ wr.heap.size + 1 := by omega
               have HBS : Hd (w2.heap[wr.heap.size + 1]? = some nil2) := bS
               have cS0 : w2.cell? ⟨wr.heap.size + 1, 0, none⟩ = some (.slice none 0 0) := by rw [cell_of bS]; rfl
               have zS0 := frozen_of bS 0
               have cS1 : w2.cell? ⟨wr.heap.size + 1, 1, none⟩ = some (.slice none 0 0) := by rw [cell_of bS]; rfl
               have zS1 := frozen_of bS 1
               clear bS
               clear hf2 hG2 hsa hrt hFX)
            | (refine (show Calls Try.prog 8 #[vI p, vI r, .slice aa la.length ac] ((wr.alloc nil2).alloc zeroF).drew _ from shaped_q p r P R _ la ((wr.alloc nil2).alloc zeroF).drew (IAa.out _ (by first | exact Fr.drew (Fr.refl _ _) | exact Fr.drew (Fr.alloc (Fr.refl _ _) _) | exact Fr.drew (Fr.alloc (Fr.alloc (Fr.refl _ _) _) _))) hla HP.out HR.out).mono ?_
               rintro e w2 ⟨s, ha, hc, ra, rc, rfl, hsa, hrt, hf2⟩
               have hFX : Fr (fun _ => False) wr ((wr.alloc nil2).alloc zeroF).drew := by first | exact Fr.drew (Fr.refl _ _) | exact Fr.drew (Fr.alloc (Fr.refl _ _) _) | exact Fr.drew (Fr.alloc (Fr.alloc (Fr.refl _ _) _) _)
               have hG2 : Fr (fun _ => False) wr w2 := hFX.trans hf2
               have s0 := (hG2.cell hpl (fun h => h)).trans q0
               have s1 := (hG2.cell hpl (fun h => h)).trans q1
               have s2 := (hG2.cell hpl (fun h => h)).trans q2
               have HG2 : Hd (Fr (fun _ => False) wr w2) := hG2
               have HSA : Hd (SAq (fun j => wr.heap.size + 2 ≤ j) w2 (.agg #[.slice ha P hc, .slice ra P rc]) s) := by
                 have h9 := hsa
                 exact h9.mono (fun j hj => by simp at hj; omega)
               have HRT : Hd (PS.Right P R s) := hrt
               have bS : w2.heap[wr.heap.size]? = some nil2 := keepF KSFS.out hf2
               have lS : wr.heap.size < w2.heap.size := heap_lt bS
               have eS1 : wr.heap.size ≠ w2.heap.size := by omega
               have eS2 : w2.heap.size ≠ wr.heap.size := by omega
               have eS3 : wr.heap.size ≠ w2.heap.size + 1 := by omega
               have eS4 : w2.heap.size + 1 ≠ wr.heap.size := by omega
               have HBS : Hd (w2.heap[wr.heap.size]? = some nil2) := bS
               have cS0 : w2.cell? ⟨wr.heap.size, 0, none⟩ = some (.slice none 0 0) := by rw [cell_of bS]; rfl
               have zS0 := frozen_of bS 0
               have cS1 : w2.cell? ⟨wr.heap.size, 1, none⟩ = some (.slice none 0 0) := by rw [cell_of bS]; rfl
               have zS1 := frozen_of bS 1
               clear bS
               have bF : w2.heap[wr.heap.size + 1]? = some zeroF := keepF KSFF.out hf2
               have lF : wr.heap.size + 1 < w2.heap.size := heap_lt bF
               have eF1 : wr.heap.size + 1 ≠ w2.heap.size := by omega
               have eF2 : w2.heap.size ≠ wr.heap.size + 1 := by omega
               have eF3 : wr.heap.size + 1 ≠ w2.heap.size + 1 := by omega
               have eF4 : w2.heap.size + 1 ≠ wr.heap.size + 1 := by omega
               have HBF : Hd (w2.heap[wr.heap.size + 1]? = some zeroF) := bF
               have cF0 : w2.cell? ⟨wr.heap.size + 1, 0, none⟩ = some (vI 0) := by rw [cell_of bF]; rfl
               have zF0 := frozen_of bF 0
               have cF1 : w2.cell? ⟨wr.heap.size + 1, 1, none⟩ = some (vI 0) := by rw [cell_of bF]; rfl
               have zF1 := frozen_of bF 1
               have cF2 : w2.cell? ⟨wr.heap.size + 1, 2, none⟩ = some (vI 0) := by rw [cell_of bF]; rfl
               have zF2 := frozen_of bF 2
               have cF3 : w2.cell? ⟨wr.heap.size + 1, 3, none⟩ = some (.slice none 0 0) := by rw [cell_of bF]; rfl
               have zF3 := frozen_of bF 3
               clear bF
               clear hf2 hG2 hsa hrt hFX)))
        all_goals
          go_wp2_with fail
          go_meet
          unfold Hd
          first
            | with_reducible exact two_a HG2.out HSA.out HRT.out
            | with_reducible exact two_b HG2.out HSA.out HRT.out
            | with_reducible exact two_c HG2.out HBF.out HSA.out HRT.out
            | with_reducible exact two_e HG2.out HBS.out HSA.out HRT.out
            | with_reducible exact two_x HG2.out HBF.out HBS.out (le0 _) (le1 _) (Nat.lt_add_of_pos_right (by decide)) (Nat.lt_succ_self _) (Nat.ne_of_lt (Nat.lt_succ_self _)) HSA.out HRT.out
            | with_reducible exact two_x HG2.out HBF.out HBS.out (le1 _) (le0 _) (Nat.lt_succ_self _) (Nat.lt_add_of_pos_right (by decide)) (Nat.ne_of_gt (Nat.lt_succ_self _)) HSA.out HRT.out
      case rest =>
        obtain ⟨XF, XS, s, ha, hc, ra, rc, rfl, rfl, bF, bS, hsa, hrt, hfx, hx1, hx2⟩ := hcut
        obtain ⟨Q1, hQ1⟩ : ∃ Q1 : Nat → Prop, Q1 = fun j => Q j ∨ (wr.heap.size ≤ j ∧ j < wc.heap.size) := ⟨_, rfl⟩
        have HBa : Hd (Tri w wc u6 u9 u8 u11 (.slice none 0 0) (.slice none 0 0) fX sX hX fX sX hX [] [] [] Q1) := by rw [hQ1]; exact HB.out.since hfx
        have HSAa : Hd (SAq Q1 wc (.agg #[.slice ha P hc, .slice ra P rc]) s) := by rw [hQ1]; exact hsa.lt.mono (fun j => Or.inr)
        have HRT : Hd (PS.Right P R s) := hrt
        have HXFa : Hd (wc.heap[XF]? = some (fB P R)) := bF
        have HXSa : Hd (wc.heap[XS]? = some (.cells #[.slice ha P hc, .slice ra P rc] 31)) := bS
        have HXX : Hd (wr.heap.size ≤ XF ∧ wr.heap.size ≤ XS) := ⟨hx1, hx2⟩
        have HLT : Hd ((∀ j, u6.ownBlock = some j → j < wr.heap.size) ∧ (∀ j, u9.ownBlock = some j → j < wr.heap.size) ∧ (∀ j, u8.ownBlock = some j → j < wr.heap.size) ∧ (∀ j, u11.ownBlock = some j → j < wr.heap.size)) := ⟨fun j e => (HB.out.x.f.ge j e).2, fun j e => (HB.out.x.sr.ge j e).2, fun j e => (HB.out.c.f.ge j e).2, fun j e => (HB.out.c.sr.ge j e).2⟩
        clear bF bS hsa hrt hfx hQ1 hx1 hx2 q0 q1 q2 hpl n0 n1 m0 m1 KFF KSS KFSF KFSS KSFS KSFF HB IAa HP HR hla
        have fa : Fr (fun _ => False) wc (wc.alloc (fB P R)) := Fr.alloc (Fr.refl _ _) _
        have f0 : wc.cell? ⟨XF, 0, none⟩ = some (vI P) := by rw [cell_of HXFa.out]; rfl
        have f1 : wc.cell? ⟨XF, 1, none⟩ = some (vI R) := by rw [cell_of HXFa.out]; rfl
        have f2 : wc.cell? ⟨XF, 2, none⟩ = some (vI 0) := by rw [cell_of HXFa.out]; rfl
        have f3 : wc.cell? ⟨XF, 3, none⟩ = some (.slice none 0 0) := by rw [cell_of HXFa.out]; rfl
        have HBz : Hd (Tri w (wc.alloc (fB P R)) u6 u9 u8 u11 (.slice none 0 0) (.slice none 0 0) fX sX hX fX sX hX [] [] [] Q1) := HBa.out.keep fa
        have HSz : Hd (SAq Q1 (wc.alloc (fB P R)) (.agg #[.slice ha P hc, .slice ra P rc]) s) := HSAa.out.fr fa (fun _ _ e => e)
        have HXFz : Hd ((wc.alloc (fB P R)).heap[XF]? = some (fB P R)) := keepF HXFa.out fa
        have HXSz : Hd ((wc.alloc (fB P R)).heap[XS]? = some (.cells #[.slice ha P hc, .slice ra P rc] 31)) := keepF HXSa.out fa
        have hnews : ∀ j u, [vI P, vI R, vI 0, Value.slice none 0 0][j]? = some u → (wc.alloc (fB P R)).cell? ((⟨wc.heap.size, 0, none⟩ : Addr).add j) = some u :=
          World.news_of_block (cs := #[vI P, vI R, vI 0, .slice none 0 0]) (heap_new wc (fB P R))
        have hbase : w.heap.size ≤ (wc.alloc (fB P R)).heap.size := HBz.out.x.fr.size
        have hfl : fX.length ≤ 3200000000000 := HFLa.out
        clear fa HBa HSAa HXFa HXSa
        go_wp2_with ((at_builtin; refine Hd.out ?_))
        unfold Hd
        refine wpList_append_lw _ rfl (.tmp 55) (.tmp 57) 45 rfl w.heap.size 28 i28 (.agg #[.int .i64 0, .int .i64 0, .int .i64 0, .slice none 0 0]) 4 48 under45 hi28 hz28 hs28 hb28 rfl (by omega) u6 fX.length _ rfl HBz.out.x.f ⟨wc.heap.size, 0, none⟩ 1 1 [vI P, vI R, vI 0, .slice none 0 0] rfl rfl hnews (by intro u hu; simp at hu; rcases hu with rfl | rfl | rfl | rfl <;> rfl) (by omega) (by unfold maxLen; omega) (by omega) hbase (wc.heap.size + 1) (by simp) ?_
        intro ga6 capa6 wa6 hown hgrow hat hg6
        have HB6 : Hd (Tr1 w wa6 (.slice (some ⟨ga6, 0, none⟩) (fX.length + 1) capa6) u9 u8 u11 (.slice none 0 0) (.slice none 0 0) fX sX hX fX sX hX [] [] [] Q1 P R (.slice ha P hc) (.slice ra P rc) s) := HBz.out.g1 HSz.out HRT.out hP8 hR4 hown hgrow (by rw [World.size_alloc]; exact hat)
        have HXF6 : Hd (wa6.heap[XF]? = some (fB P R)) := box_keep hgrow HLT.out.1 HXX.out.1 HXFz.out
        have HXS6 : Hd (wa6.heap[XS]? = some (.cells #[.slice ha P hc, .slice ra P rc] 31)) := box_keep hgrow HLT.out.1 HXX.out.2 HXSz.out
        have s0 : wa6.cell? ⟨XS, 0, none⟩ = some (.slice ha P hc) := by rw [cell_of HXS6.out]; rfl
        have s1 : wa6.cell? ⟨XS, 1, none⟩ = some (.slice ra P rc) := by rw [cell_of HXS6.out]; rfl
        have fa : Fr (fun _ => False) wa6 (wa6.alloc (.cells #[.slice ha P hc, .slice ra P rc] 31)) := Fr.alloc (Fr.refl _ _) _
        have HBy : Hd (Tr1 w (wa6.alloc (.cells #[.slice ha P hc, .slice ra P rc] 31)) (.slice (some ⟨ga6, 0, none⟩) (fX.length + 1) capa6) u9 u8 u11 (.slice none 0 0) (.slice none 0 0) fX sX hX fX sX hX [] [] [] Q1 P R (.slice ha P hc) (.slice ra P rc) s) := HB6.out.keep fa
        have HXFy : Hd ((wa6.alloc (.cells #[.slice ha P hc, .slice ra P rc] 31)).heap[XF]? = some (fB P R)) := keepF HXF6.out fa
        have HXSy : Hd ((wa6.alloc (.cells #[.slice ha P hc, .slice ra P rc] 31)).heap[XS]? = some (.cells #[.slice ha P hc, .slice ra P rc] 31)) := keepF HXS6.out fa
        obtain ⟨vs, e1, e2, e3, e4, e5⟩ := id HBy.out.x.sr
        have HE1 : Hd _ := e1
        have HE2 : Hd _ := e2
        have HE3 : Hd _ := e3
        have HE5 : Hd _ := e5
        have hvl : vs.length ≤ 3200000000000 := by rw [e1]; have h8 := HBz.out.x.fit.len; have h9 := HBz.out.x.shp.len; omega
        clear hown hgrow hat hg6 hnews hbase
        have hnews : ∀ j u, [Value.slice ha P hc, Value.slice ra P rc][j]? = some u → (wa6.alloc (.cells #[.slice ha P hc, .slice ra P rc] 31)).cell? ((⟨wa6.heap.size, 0, none⟩ : Addr).add j) = some u :=
          World.news_of_block (cs := #[.slice ha P hc, .slice ra P rc]) (heap_new wa6 (.cells #[.slice ha P hc, .slice ra P rc] 31))
        have hbase : w.heap.size ≤ (wa6.alloc (.cells #[.slice ha P hc, .slice ra P rc] 31)).heap.size := HBy.out.x.fr.size
        clear f0 f1 f2 f3 fa HBz HSz HXFz HXSz HB6 HXF6 HXS6 e1 e2 e3 e4 e5 hfl
        go_wp2_with ((at_builtin; refine Hd.out ?_))
        unfold Hd
        refine wpList_append_lw _ rfl (.tmp 59) (.tmp 61) 46 rfl w.heap.size 31 i31 (.agg #[.slice none 0 0, .slice none 0 0]) 2 48 under46 hi31 hz31 hs31 hb31 rfl (by omega) u9 vs.length _ rfl HE2.out ⟨wa6.heap.size, 0, none⟩ 1 1 [.slice ha P hc, .slice ra P rc] rfl rfl hnews (by intro u hu; simp at hu; rcases hu with rfl | rfl <;> rfl) (by omega) (by unfold maxLen; omega) (by omega) hbase (wa6.heap.size + 1) (by simp) ?_
        intro ga7 capa7 wa7 hown hgrow hat hg7
        obtain ⟨hb7, hs7⟩ := HBy.out.g2 HE1.out HE3.out HE5.out hown hgrow (by rw [World.size_alloc]; exact hat)
        have HXF7 : Hd (wa7.heap[XF]? = some (fB P R)) := box_keep hgrow HLT.out.2.1 HXX.out.1 HXFy.out
        have HXS7 : Hd (wa7.heap[XS]? = some (.cells #[.slice ha P hc, .slice ra P rc] 31)) := box_keep hgrow HLT.out.2.1 HXX.out.2 HXSy.out
        have HB7 : Hd _ := hb7
        have HSA7 : Hd _ := hs7
        clear hb7 hs7 hown hgrow hat hg7 hnews hbase HE1 HE2 HE3 HE5 HBy HXFy HXSy s0 s1
        have HBb : Hd (Tri w wa7 u8 u11 (.slice (some ⟨ga6, 0, none⟩) (fX.length + 1) capa6) (.slice (some ⟨ga7, 0, none⟩) (vs.length + 1) capa7) (.slice none 0 0) (.slice none 0 0) fX sX hX (fX ++ [hB P R]) (sX ++ [s]) (hX ++ [(P, R)]) [] [] [] Q1) := HB7.out.swap
        have HSAb : Hd (SAq Q1 wa7 (.agg #[.slice ha P hc, .slice ra P rc]) s) := HSA7.out
        have HXFb : Hd (wa7.heap[XF]? = some (fB P R)) := HXF7.out
        have HXSb : Hd (wa7.heap[XS]? = some (.cells #[.slice ha P hc, .slice ra P rc] 31)) := HXS7.out
        clear HB7 HSA7 HXF7 HXS7
        obtain ⟨vl, hvl'⟩ : ∃ n, n = vs.length := ⟨_, rfl⟩
        rw [← hvl'] at HBb ⊢
        clear hvl hvl' vs
        have fa : Fr (fun _ => False) wa7 (wa7.alloc (fB P R)) := Fr.alloc (Fr.refl _ _) _
        have f0 : wa7.cell? ⟨XF, 0, none⟩ = some (vI P) := by rw [cell_of HXFb.out]; rfl
        have f1 : wa7.cell? ⟨XF, 1, none⟩ = some (vI R) := by rw [cell_of HXFb.out]; rfl
        have f2 : wa7.cell? ⟨XF, 2, none⟩ = some (vI 0) := by rw [cell_of HXFb.out]; rfl
        have f3 : wa7.cell? ⟨XF, 3, none⟩ = some (.slice none 0 0) := by rw [cell_of HXFb.out]; rfl
        have HBz : Hd (Tri w (wa7.alloc (fB P R)) u8 u11 (.slice (some ⟨ga6, 0, none⟩) (fX.length + 1) capa6) (.slice (some ⟨ga7, 0, none⟩) (vl + 1) capa7) (.slice none 0 0) (.slice none 0 0) fX sX hX (fX ++ [hB P R]) (sX ++ [s]) (hX ++ [(P, R)]) [] [] [] Q1) := HBb.out.keep fa
        have HSz : Hd (SAq Q1 (wa7.alloc (fB P R)) (.agg #[.slice ha P hc, .slice ra P rc]) s) := HSAb.out.fr fa (fun _ _ e => e)
        have HXFz : Hd ((wa7.alloc (fB P R)).heap[XF]? = some (fB P R)) := keepF HXFb.out fa
        have HXSz : Hd ((wa7.alloc (fB P R)).heap[XS]? = some (.cells #[.slice ha P hc, .slice ra P rc] 31)) := keepF HXSb.out fa
        have hnews : ∀ j u, [vI P, vI R, vI 0, Value.slice none 0 0][j]? = some u → (wa7.alloc (fB P R)).cell? ((⟨wa7.heap.size, 0, none⟩ : Addr).add j) = some u :=
          World.news_of_block (cs := #[vI P, vI R, vI 0, .slice none 0 0]) (heap_new wa7 (fB P R))
        have hbase : w.heap.size ≤ (wa7.alloc (fB P R)).heap.size := HBz.out.x.fr.size
        have hfl : fX.length ≤ 3200000000000 := HFLb.out
        clear fa HBb HSAb HXFb HXSb
        go_wp2_with ((at_builtin; refine Hd.out ?_))
        unfold Hd
        refine wpList_append_lw _ rfl (.tmp 63) (.tmp 65) 45 rfl w.heap.size 28 i28 (.agg #[.int .i64 0, .int .i64 0, .int .i64 0, .slice none 0 0]) 4 48 under45 hi28 hz28 hs28 hb28 rfl (by omega) u8 fX.length _ rfl HBz.out.x.f ⟨wa7.heap.size, 0, none⟩ 1 1 [vI P, vI R, vI 0, .slice none 0 0] rfl rfl hnews (by intro u hu; simp at hu; rcases hu with rfl | rfl | rfl | rfl <;> rfl) (by omega) (by unfold maxLen; omega) (by omega) hbase (wa7.heap.size + 1) (by simp) ?_
        intro gb6 capb6 wb6 hown hgrow hat hg6
        have HB6 : Hd (Tr1 w wb6 (.slice (some ⟨gb6, 0, none⟩) (fX.length + 1) capb6) u11 (.slice (some ⟨ga6, 0, none⟩) (fX.length + 1) capa6) (.slice (some ⟨ga7, 0, none⟩) (vl + 1) capa7) (.slice none 0 0) (.slice none 0 0) fX sX hX (fX ++ [hB P R]) (sX ++ [s]) (hX ++ [(P, R)]) [] [] [] Q1 P R (.slice ha P hc) (.slice ra P rc) s) := HBz.out.g1 HSz.out HRT.out hP8 hR4 hown hgrow (by rw [World.size_alloc]; exact hat)
        have HXF6 : Hd (wb6.heap[XF]? = some (fB P R)) := box_keep hgrow HLT.out.2.2.1 HXX.out.1 HXFz.out
        have HXS6 : Hd (wb6.heap[XS]? = some (.cells #[.slice ha P hc, .slice ra P rc] 31)) := box_keep hgrow HLT.out.2.2.1 HXX.out.2 HXSz.out
        have s0 : wb6.cell? ⟨XS, 0, none⟩ = some (.slice ha P hc) := by rw [cell_of HXS6.out]; rfl
        have s1 : wb6.cell? ⟨XS, 1, none⟩ = some (.slice ra P rc) := by rw [cell_of HXS6.out]; rfl
        have fa : Fr (fun _ => False) wb6 (wb6.alloc (.cells #[.slice ha P hc, .slice ra P rc] 31)) := Fr.alloc (Fr.refl _ _) _
        have HBy : Hd (Tr1 w (wb6.alloc (.cells #[.slice ha P hc, .slice ra P rc] 31)) (.slice (some ⟨gb6, 0, none⟩) (fX.length + 1) capb6) u11 (.slice (some ⟨ga6, 0, none⟩) (fX.length + 1) capa6) (.slice (some ⟨ga7, 0, none⟩) (vl + 1) capa7) (.slice none 0 0) (.slice none 0 0) fX sX hX (fX ++ [hB P R]) (sX ++ [s]) (hX ++ [(P, R)]) [] [] [] Q1 P R (.slice ha P hc) (.slice ra P rc) s) := HB6.out.keep fa
        have HXFy : Hd ((wb6.alloc (.cells #[.slice ha P hc, .slice ra P rc] 31)).heap[XF]? = some (fB P R)) := keepF HXF6.out fa
        have HXSy : Hd ((wb6.alloc (.cells #[.slice ha P hc, .slice ra P rc] 31)).heap[XS]? = some (.cells #[.slice ha P hc, .slice ra P rc] 31)) := keepF HXS6.out fa
        obtain ⟨vs, e1, e2, e3, e4, e5⟩ := id HBy.out.x.sr
        have HE1 : Hd _ := e1
        have HE2 : Hd _ := e2
        have HE3 : Hd _ := e3
        have HE5 : Hd _ := e5
        have hvl : vs.length ≤ 3200000000000 := by rw [e1]; have h8 := HBz.out.x.fit.len; have h9 := HBz.out.x.shp.len; omega
        clear hown hgrow hat hg6 hnews hbase
        have hnews : ∀ j u, [Value.slice ha P hc, Value.slice ra P rc][j]? = some u → (wb6.alloc (.cells #[.slice ha P hc, .slice ra P rc] 31)).cell? ((⟨wb6.heap.size, 0, none⟩ : Addr).add j) = some u :=
          World.news_of_block (cs := #[.slice ha P hc, .slice ra P rc]) (heap_new wb6 (.cells #[.slice ha P hc, .slice ra P rc] 31))
        have hbase : w.heap.size ≤ (wb6.alloc (.cells #[.slice ha P hc, .slice ra P rc] 31)).heap.size := HBy.out.x.fr.size
        clear f0 f1 f2 f3 fa HBz HSz HXFz HXSz HB6 HXF6 HXS6 e1 e2 e3 e4 e5 hfl
        go_wp2_with ((at_builtin; refine Hd.out ?_))
        unfold Hd
        refine wpList_append_lw _ rfl (.tmp 67) (.tmp 69) 46 rfl w.heap.size 31 i31 (.agg #[.slice none 0 0, .slice none 0 0]) 2 48 under46 hi31 hz31 hs31 hb31 rfl (by omega) u11 vs.length _ rfl HE2.out ⟨wb6.heap.size, 0, none⟩ 1 1 [.slice ha P hc, .slice ra P rc] rfl rfl hnews (by intro u hu; simp at hu; rcases hu with rfl | rfl <;> rfl) (by omega) (by unfold maxLen; omega) (by omega) hbase (wb6.heap.size + 1) (by simp) ?_
        intro gb7 capb7 wb7 hown hgrow hat hg7
        obtain ⟨hb7, hs7⟩ := HBy.out.g2 HE1.out HE3.out HE5.out hown hgrow (by rw [World.size_alloc]; exact hat)
        have HXF7 : Hd (wb7.heap[XF]? = some (fB P R)) := box_keep hgrow HLT.out.2.2.2 HXX.out.1 HXFy.out
        have HXS7 : Hd (wb7.heap[XS]? = some (.cells #[.slice ha P hc, .slice ra P rc] 31)) := box_keep hgrow HLT.out.2.2.2 HXX.out.2 HXSy.out
        have HB7 : Hd _ := hb7
        have HSA7 : Hd _ := hs7
        clear hb7 hs7 hown hgrow hat hg7 hnews hbase HE1 HE2 HE3 HE5 HBy HXFy HXSy s0 s1
        have HBf : Hd (Tri w wb7 (.slice (some ⟨ga6, 0, none⟩) (fX.length + 1) capa6) (.slice (some ⟨ga7, 0, none⟩) (vl + 1) capa7) (.slice (some ⟨gb6, 0, none⟩) (fX.length + 1) capb6) (.slice (some ⟨gb7, 0, none⟩) (vs.length + 1) capb7) (.slice none 0 0) (.slice none 0 0) (fX ++ [hB P R]) (sX ++ [s]) (hX ++ [(P, R)]) (fX ++ [hB P R]) (sX ++ [s]) (hX ++ [(P, R)]) [] [] [] Q1) := HB7.out.swap
        clear HB7
        go_wp2_with fail
        exact ⟨⟨k + 1, fX ++ [hB P R], sX ++ [s], hX ++ [(P, R)], Q1, by simp, by omega, by rw [List.length_append, HFLk.out]; rfl, HBf.out⟩, by simp; omega⟩
    · have hke : k = ts.length := by omega
      have HLA : Hd (fX.length = ts.length) := HFLk.out.trans hke
      have HBt : Hd (Tri w wr (.slice none 0 0) (.slice none 0 0) u8 u11 u6 u9 [] [] [] (fX ++ []) (sX ++ []) (hX ++ []) fX sX hX Q) := by unfold Hd; rw [List.append_nil, List.append_nil, List.append_nil]; exact HB.out.turn
      clear HB HFLk HFLa HFLb
      generalize fX = fA at *
      generalize sX = sA at *
      generalize hX = hA at *
      subst hke
      go_wp2_with fail
      go_loopw [7, 8, 10, 11, 15] (fun fu fc su sc v wr => ∃ (k : Nat) (fX : List PH) (sX : List PS) (hX : List (Nat × Nat)) (Q : Nat → Prop), v = .int .i64 k ∧ k ≤ tz.length ∧ fX.length = k ∧ Hd (Tri w wr fu su fc sc u6 u9 fX sX hX (fA ++ fX) (sA ++ sX) (hA ++ hX) fA sA hA Q)) (fun _ _ _ _ v _ => match v with | .int _ q => tz.length - q.toNat | _ => 0)
      case atStart => exact ⟨0, [], [], [], Q, rfl, Nat.zero_le _, rfl, HBt.out⟩
      case round =>
        clear HBt Q
        obtain ⟨k, fX, sX, hX, Q, rfl, hk, hfl, HB⟩ := hrel
        have HFLk : Hd (fX.length = k) := hfl
        have HFLa : Hd (fX.length ≤ 3200000000000) := by unfold Hd; omega
        have HFLb : Hd ((fA ++ fX).length ≤ 3200000000000) := by unfold Hd; rw [List.length_append, HLA.out]; omega
        clear hfl
        by_cases hlt : k < tz.length
        · obtain ⟨pk, po, rfl, hpk, hcs⟩ := HT2.out (by intro e; simp [e] at hlt)
          obtain ⟨bv, av, cv, d0, d1, -, d2, -, -, ia, -⟩ := hcs k hlt
          have q0 := (HB.out.x.fr.cell hpk (fun h => h)).trans d0
          have q1 := (HB.out.x.fr.cell hpk (fun h => h)).trans d1
          have q2 := (HB.out.x.fr.cell hpk (fun h => h)).trans d2
          have hla : tz[k].lb.length ≤ 17592186043904 := HFT2.out _ (List.getElem_mem hlt)
          have IAa : Hd (∀ W, Fr (fun _ => False) wr W → IA W av tz[k].lb) := fun W f => (ia.stay HB.out.x.fr).stay f
          obtain ⟨aa, ac, rfl, -⟩ := ia
          generalize tz[k].p = p at *
          generalize tz[k].r = r at *
          generalize tz[k].lb = la at *
          obtain ⟨P, hP⟩ : ∃ P : Nat, modX p 9 = P := ⟨(modX p 9).toNat, by have := modX_bound p 9 (by omega); omega⟩
          obtain ⟨R, hR⟩ : ∃ R : Nat, modX r 5 = R := ⟨(modX r 5).toNat, by have := modX_bound r 5 (by omega); omega⟩
          have hP8 : P ≤ 8 := by have := modX_bound p 9 (by omega); omega
          have hR4 : R ≤ 4 := by have := modX_bound r 5 (by omega); omega
          have HP : Hd (modX p 9 = P) := hP
          have HR : Hd (modX r 5 = R) := hR
          have hk0 : (0 : Int) ≤ k := by omega
          have hk1 : (k : Int) < tz.length := by omega
          have hpl : pk < wr.heap.size := Nat.lt_of_lt_of_le hpk HB.out.x.fr.size
          have n0 : pk ≠ wr.heap.size := by omega
          have n1 : pk ≠ wr.heap.size + 1 := by omega
          have m0 : wr.heap.size ≠ pk := by omega
          have m1 : wr.heap.size + 1 ≠ pk := by omega
          clear hcs d0 d1 d2 hP hR
          go_wp2_with fail
          have KFF : Hd ((wr.alloc zeroF).drew.heap[wr.heap.size]? = some zeroF) := heap_new wr zeroF
          have KSS : Hd ((wr.alloc nil2).drew.heap[wr.heap.size]? = some nil2) := heap_new wr nil2
          have KFSF : Hd (((wr.alloc zeroF).alloc nil2).drew.heap[wr.heap.size]? = some zeroF) := keepA (heap_new wr zeroF) nil2
          have KFSS : Hd (((wr.alloc zeroF).alloc nil2).drew.heap[wr.heap.size + 1]? = some nil2) := by have := heap_new (wr.alloc zeroF) nil2; rw [World.size_alloc] at this; exact this
          have KSFS : Hd (((wr.alloc nil2).alloc zeroF).drew.heap[wr.heap.size]? = some nil2) := keepA (heap_new wr nil2) zeroF
          have KSFF : Hd (((wr.alloc nil2).alloc zeroF).drew.heap[wr.heap.size + 1]? = some zeroF) := by have := heap_new (wr.alloc nil2) zeroF; rw [World.size_alloc] at this; exact this
          go_cut [16, 17] (fun x y wx => Hd (Two wr wx P R x y))
          case first =>
            go_region_held3 (fun w' => w'.cell? ⟨pk, po + k * 5, none⟩ = some (vI p) ∧ w'.cell? ⟨pk, po + k * 5 + 1, none⟩ = some (vI r) ∧ w'.cell? ⟨pk, po + k * 5 + 3, none⟩ = some (.slice aa la.length ac)) (go_keep) ((
              go_at_call 8
              first
                | (refine (show Calls Try.prog 8 #[vI p, vI r, .slice aa la.length ac] wr.drew _ from shaped_q p r P R _ la wr.drew (IAa.out _ (by first | exact Fr.drew (Fr.refl _ _) | exact Fr.drew (Fr.alloc (Fr.refl _ _) _) | exact Fr.drew (Fr.alloc (Fr.alloc (Fr.refl _ _) _) _))) hla HP.out HR.out).mono ?_
                   rintro e w2 ⟨s, ha, hc, ra, rc, rfl, hsa, hrt, hf2⟩
                   have hFX : Fr (fun _ => False) wr wr.drew := by first | exact Fr.drew (Fr.refl _ _) | exact Fr.drew (Fr.alloc (Fr.refl _ _) _) | exact Fr.drew (Fr.alloc (Fr.alloc (Fr.refl _ _) _) _)
                   have hG2 : Fr (fun _ => False) wr w2 := hFX.trans hf2
                   have s0 := (hG2.cell hpl (fun h => h)).trans q0
                   have s1 := (hG2.cell hpl (fun h => h)).trans q1
                   have s2 := (hG2.cell hpl (fun h => h)).trans q2
                   have HG2 : Hd (Fr (fun _ => False) wr w2) := hG2
                   have HSA : Hd (SAq (fun j => wr.heap.size + 0 ≤ j) w2 (.agg #[.slice ha P hc, .slice ra P rc]) s) := by
                     have h9 := hsa
                     exact h9.mono (fun j hj => by simp at hj; omega)
                   have HRT : Hd (PS.Right P R s) := hrt
                   clear hf2 hG2 hsa hrt hFX)
                | (refine (show Calls Try.prog 8 #[vI p, vI r, .slice aa la.length ac] (wr.alloc zeroF).drew _ from shaped_q p r P R _ la (wr.alloc zeroF).drew (IAa.out _ (by first | exact Fr.drew (Fr.refl _ _) | exact Fr.drew (Fr.alloc (Fr.refl _ _) _) | exact Fr.drew (Fr.alloc (Fr.alloc (Fr.refl _ _) _) _))) hla HP.out HR.out).mono ?_
                   rintro e w2 ⟨s, ha, hc, ra, rc, rfl, hsa, hrt, hf2⟩
                   have hFX : Fr (fun _ => False) wr (wr.alloc zeroF).drew := by first | exact Fr.drew (Fr.refl _ _) | exact Fr.drew (Fr.alloc (Fr.refl _ _) _) | exact Fr.drew (Fr.alloc (Fr.alloc (Fr.refl _ _) _) _)
                   have hG2 : Fr (fun _ => False) wr w2 := hFX.trans hf2
                   have s0 := (hG2.cell hpl (fun h => h)).trans q0
                   have s1 := (hG2.cell hpl (fun h => h)).trans q1
                   have s2 := (hG2.cell hpl (fun h => h)).trans q2
                   have HG2 : Hd (Fr (fun _ => False) wr w2) := hG2
                   have HSA : Hd (SAq (fun j => wr.heap.size + 1 ≤ j) w2 (.agg #[.slice ha P hc, .slice ra P rc]) s) := by
                     have h9 := hsa
                     exact h9.mono (fun j hj => by simp at hj; omega)
                   have HRT : Hd (PS.Right P R s) := hrt
                   have bF : w2.heap[wr.heap.size]? = some zeroF := keepF KFF.out hf2
                   have lF : wr.heap.size < w2.heap.size := heap_lt bF
                   have eF1 : wr.heap.size ≠ w2.heap.size := by omega
                   have eF2 : w2.heap.size ≠ wr.heap.size := by omega
                   have eF3 : wr.heap.size ≠ w2.heap.size + 1 := by omega
                   have eF4 : w2.heap.size + 1 ≠ wr.heap.size := by omega
                   have HBF : Hd (w2.heap[wr.heap.size]? = some zeroF) := bF
                   have cF0 : w2.cell? ⟨wr.heap.size, 0, none⟩ = some (vI 0) := by rw [cell_of bF]; rfl
                   have zF0 := frozen_of bF 0
                   have cF1 : w2.cell? ⟨wr.heap.size, 1, none⟩ = some (vI 0) := by rw [cell_of bF]; rfl
                   have zF1 := frozen_of bF 1
                   have cF2 : w2.cell? ⟨wr.heap.size, 2, none⟩ = some (vI 0) := by rw [cell_of bF]; rfl
                   have zF2 := frozen_of bF 2
                   have cF3 : w2.cell? ⟨wr.heap.size, 3, none⟩ = some (.slice none 0 0) := by rw [cell_of bF]; rfl
                   have zF3 := frozen_of bF 3
                   clear bF
                   clear hf2 hG2 hsa hrt hFX)
                | (refine (show Calls Try.prog 8 #[vI p, vI r, .slice aa la.length ac] (wr.alloc nil2).drew _ from shaped_q p r P R _ la (wr.alloc nil2).drew (IAa.out _ (by first | exact Fr.drew (Fr.refl _ _) | exact Fr.drew (Fr.alloc (Fr.refl _ _) _) | exact Fr.drew (Fr.alloc (Fr.alloc (Fr.refl _ _) _) _))) hla HP.out HR.out).mono ?_
                   rintro e w2 ⟨s, ha, hc, ra, rc, rfl, hsa, hrt, hf2⟩
                   have hFX : Fr (fun _ => False) wr (wr.alloc nil2).drew := by first | exact Fr.drew (Fr.refl _ _) | exact Fr.drew (Fr.alloc (Fr.refl _ _) _) | exact Fr.drew (Fr.alloc (Fr.alloc (Fr.refl _ _) _) _)
                   have hG2 : Fr (fun _ => False) wr w2 := hFX.trans hf2
                   have s0 := (hG2.cell hpl (fun h => h)).trans q0
                   have s1 := (hG2.cell hpl (fun h => h)).trans q1
                   have s2 := (hG2.cell hpl (fun h => h)).trans q2
                   have HG2 : Hd (Fr (fun _ => False) wr w2) := hG2
                   have HSA : Hd (SAq (fun j => wr.heap.size + 1 ≤ j) w2 (.agg #[.slice ha P hc, .slice ra P rc]) s) := by
                     have h9 := hsa
                     exact h9.mono (fun j hj => by simp at hj; omega)
                   have HRT : Hd (PS.Right P R s) := hrt
                   have bS : w2.heap[wr.heap.size]? = some nil2 := keepF KSS.out hf2
                   have lS : wr.heap.size < w2.heap.size := heap_lt bS
                   have eS1 : wr.heap.size ≠ w2.heap.size := by omega
                   have eS2 : w2.heap.size ≠ wr.heap.size := by omega
                   have eS3 : wr.heap.size ≠ w2.heap.size + 1 := by omega
                   have eS4 : w2.heap.size + 1 ≠ wr.heap.size := by omega
                   have HBS : Hd (w2.heap[wr.heap.size]? = some nil2) := bS
                   have cS0 : w2.cell? ⟨wr.heap.size, 0, none⟩ = some (.slice none 0 0) := by rw [cell_of bS]; rfl
                   have zS0 := frozen_of bS 0
                   have cS1 : w2.cell? ⟨wr.heap.size, 1, none⟩ = some (.slice none 0 0) := by rw [cell_of bS]; rfl
                   have zS1 := frozen_of bS 1
                   clear bS
                   clear hf2 hG2 hsa hrt hFX)
                | (refine (show Calls Try.prog 8 #[vI p, vI r, .slice aa la.length ac] ((wr.alloc zeroF).alloc nil2).drew _ from shaped_q p r P R _ la ((wr.alloc zeroF).alloc nil2).drew (IAa.out _ (by first | exact Fr.drew (Fr.refl _ _) | exact Fr.drew (Fr.alloc (Fr.refl _ _) _) | exact Fr.drew (Fr.alloc (Fr.alloc (Fr.refl _ _) _) _))) hla HP.out HR.out).mono ?_
                   rintro e w2 ⟨s, ha, hc, ra, rc, rfl, hsa, hrt, hf2⟩
                   have hFX : Fr (fun _ => False) wr ((wr.alloc zeroF).alloc nil2).drew := by first | exact Fr.drew (Fr.refl _ _) | exact Fr.drew (Fr.alloc (Fr.refl _ _) _) | exact Fr.drew (Fr.alloc (Fr.alloc (Fr.refl _ _) _) _)
                   have hG2 : Fr (fun _ => False) wr w2 := hFX.trans hf2
                   have s0 := (hG2.cell hpl (fun h => h)).trans q0
                   have s1 := (hG2.cell hpl (fun h => h)).trans q1
                   have s2 := (hG2.cell hpl (fun h => h)).trans q2
                   have HG2 : Hd (Fr (fun _ => False) wr w2) := hG2
                   have HSA : Hd (SAq (fun j => wr.heap.size + 2 ≤ j) w2 (.agg #[.slice ha P hc, .slice ra P rc]) s) := by
                     have h9 := hsa
                     exact h9.mono (fun j hj => by simp at hj; omega)
                   have HRT : Hd (PS.Right P R s) := hrt
                   have bF : w2.heap[wr.heap.size]? = some zeroF := keepF KFSF.out hf2
                   have lF : wr.heap.size < w2.heap.size := heap_lt bF
                   have eF1 : wr.heap.size ≠ w2.heap.size := by omega
                   have eF2 : w2.heap.size ≠ wr.heap.size := by omega
                   have eF3 : wr.heap.size ≠ w2.heap.size + 1 := by omega
                   have eF4 : w2.heap.size + 1 ≠ wr.heap.size := by omega
                   have HBF : Hd (w2.heap[wr.heap.size]? = some zeroF) := bF
                   have cF0 : w2.cell? ⟨wr.heap.size, 0, none⟩ = some (vI 0) := by rw [cell_of bF]; rfl
                   have zF0 := frozen_of bF 0
                   have cF1 : w2.cell? ⟨wr.heap.size, 1, none⟩ = some (vI 0) := by rw [cell_of bF]; rfl
                   have zF1 := frozen_of bF 1
                   have cF2 : w2.cell? ⟨wr.heap.size, 2, none⟩ = some (vI 0) := by rw [cell_of bF]; rfl
                   have zF2 := frozen_of bF 2
                   have cF3 : w2.cell? ⟨wr.heap.size, 3, none⟩ = some (.slice none 0 0) := by rw [cell_of bF]; rfl
                   have zF3 := frozen_of bF 3
                   clear bF
                   have bS : w2.heap[wr.heap.size + 1]? = some nil2 := keepF KFSS.out hf2
                   have lS : wr.heap.size + 1 < w2.heap.size := heap_lt bS
                   have eS1 : wr.heap.size + 1 ≠ w2.heap.size := by omega
                   have eS2 : w2.heap.size ≠ wr.heap.size + 1 := by omega
                   have eS3 : wr.heap.size + 1 ≠ w2.heap.size + 1 := by omega
                   have eS4 : w2.heap.size + 1 ≠ wr.heap.size + 1 := by omega
                   have HBS : Hd (w2.heap[wr.heap.size + 1]? = some nil2) := bS
                   have cS0 : w2.cell? ⟨wr.heap.size + 1, 0, none⟩ = some (.slice none 0 0) := by rw [cell_of bS]; rfl
                   have zS0 := frozen_of bS 0
                   have cS1 : w2.cell? ⟨wr.heap.size + 1, 1, none⟩ = some (.slice none 0 0) := by rw [cell_of bS]; rfl
                   have zS1 := frozen_of bS 1
                   clear bS
                   clear hf2 hG2 hsa hrt hFX)
                | (refine (show Calls Try.prog 8 #[vI p, vI r, .slice aa la.length ac] ((wr.alloc nil2).alloc zeroF).drew _ from shaped_q p r P R _ la ((wr.alloc nil2).alloc zeroF).drew (IAa.out _ (by first | exact Fr.drew (Fr.refl _ _) | exact Fr.drew (Fr.alloc (Fr.refl _ _) _) | exact Fr.drew (Fr.alloc (Fr.alloc (Fr.refl _ _) _) _))) hla HP.out HR.out).mono ?_
                   rintro e w2 ⟨s, ha, hc, ra, rc, rfl, hsa, hrt, hf2⟩
                   have hFX : Fr (fun _ => False) wr ((wr.alloc nil2).alloc zeroF).drew := by first | exact Fr.drew (Fr.refl _ _) | exact Fr.drew (Fr.alloc (Fr.refl _ _) _) | exact Fr.drew (Fr.alloc (Fr.alloc (Fr.refl _ _) _) _)
                   have hG2 : Fr (fun _ => False) wr w2 := hFX.trans hf2
                   have s0 := (hG2.cell hpl (fun h => h)).trans q0
                   have s1 := (hG2.cell hpl (fun h => h)).trans q1
                   have s2 := (hG2.cell hpl (fun h => h)).trans q2
                   have HG2 : Hd (Fr (fun _ => False) wr w2) := hG2
                   have HSA : Hd (SAq (fun j => wr.heap.size + 2 ≤ j) w2 (.agg #[.slice ha P hc, .slice ra P rc]) s) := by
                     have h9 := hsa
                     exact h9.mono (fun j hj => by simp at hj; omega)
                   have HRT : Hd (PS.Right P R s) := hrt
                   have bS : w2.heap[wr.heap.size]? = some nil2 := keepF KSFS.out hf2
                   have lS : wr.heap.size < w2.heap.size := heap_lt bS
                   have eS1 : wr.heap.size ≠ w2.heap.size := by omega
                   have eS2 : w2.heap.size ≠ wr.heap.size := by omega
                   have eS3 : wr.heap.size ≠ w2.heap.size + 1 := by omega
                   have eS4 : w2.heap.size + 1 ≠ wr.heap.size := by omega
                   have HBS : Hd (w2.heap[wr.heap.size]? = some nil2) := bS
                   have cS0 : w2.cell? ⟨wr.heap.size, 0, none⟩ = some (.slice none 0 0) := by rw [cell_of bS]; rfl
                   have zS0 := frozen_of bS 0
                   have cS1 : w2.cell? ⟨wr.heap.size, 1, none⟩ = some (.slice none 0 0) := by rw [cell_of bS]; rfl
                   have zS1 := frozen_of bS 1
                   clear bS
                   have bF : w2.heap[wr.heap.size + 1]? = some zeroF := keepF KSFF.out hf2
                   have lF : wr.heap.size + 1 < w2.heap.size := heap_lt bF
                   have eF1 : wr.heap.size + 1 ≠ w2.heap.size := by omega
                   have eF2 : w2.heap.size ≠ wr.heap.size + 1 := by omega
                   have eF3 : wr.heap.size + 1 ≠ w2.heap.size + 1 := by omega
                   have eF4 : w2.heap.size + 1 ≠ wr.heap.size + 1 := by omega
                   have HBF : Hd (w2.heap[wr.heap.size + 1]? = some zeroF) := bF
                   have cF0 : w2.cell? ⟨wr.heap.size + 1, 0, none⟩ = some (vI 0) := by rw [cell_of bF]; rfl
                   have zF0 := frozen_of bF 0
                   have cF1 : w2.cell? ⟨wr.heap.size + 1, 1, none⟩ = some (vI 0) := by rw [cell_of bF]; rfl
                   have zF1 := frozen_of bF 1
                   have cF2 : w2.cell? ⟨wr.heap.size + 1, 2, none⟩ = some (vI 0) := by rw [cell_of bF]; rfl
                   have zF2 := frozen_of bF 2
                   have cF3 : w2.cell? ⟨wr.heap.size + 1, 3, none⟩ = some (.slice none 0 0) := by rw [cell_of bF]; rfl
                   have zF3 := frozen_of bF 3
                   clear bF
                   clear hf2 hG2 hsa hrt hFX)))
            all_goals
              go_wp2_with fail
              go_meet
              unfold Hd
              first
                | with_reducible exact two_a HG2.out HSA.out HRT.out
                | with_reducible exact two_b HG2.out HSA.out HRT.out
                | with_reducible exact two_c HG2.out HBF.out HSA.out HRT.out
                | with_reducible exact two_e HG2.out HBS.out HSA.out HRT.out
                | with_reducible exact two_x HG2.out HBF.out HBS.out (le0 _) (le1 _) (Nat.lt_add_of_pos_right (by decide)) (Nat.lt_succ_self _) (Nat.ne_of_lt (Nat.lt_succ_self _)) HSA.out HRT.out
                | with_reducible exact two_x HG2.out HBF.out HBS.out (le1 _) (le0 _) (Nat.lt_succ_self _) (Nat.lt_add_of_pos_right (by decide)) (Nat.ne_of_gt (Nat.lt_succ_self _)) HSA.out HRT.out
          case rest =>
            obtain ⟨XF, XS, s, ha, hc, ra, rc, rfl, rfl, bF, bS, hsa, hrt, hfx, hx1, hx2⟩ := hcut
            obtain ⟨Q1, hQ1⟩ : ∃ Q1 : Nat → Prop, Q1 = fun j => Q j ∨ (wr.heap.size ≤ j ∧ j < wc.heap.size) := ⟨_, rfl⟩
            have HBa : Hd (Tri w wc u7 u10 u8 u11 u6 u9 fX sX hX (fA ++ fX) (sA ++ sX) (hA ++ hX) fA sA hA Q1) := by rw [hQ1]; exact HB.out.since hfx
            have HSAa : Hd (SAq Q1 wc (.agg #[.slice ha P hc, .slice ra P rc]) s) := by rw [hQ1]; exact hsa.lt.mono (fun j => Or.inr)
            have HRT : Hd (PS.Right P R s) := hrt
            have HXFa : Hd (wc.heap[XF]? = some (fB P R)) := bF
            have HXSa : Hd (wc.heap[XS]? = some (.cells #[.slice ha P hc, .slice ra P rc] 31)) := bS
            have HXX : Hd (wr.heap.size ≤ XF ∧ wr.heap.size ≤ XS) := ⟨hx1, hx2⟩
            have HLT : Hd ((∀ j, u7.ownBlock = some j → j < wr.heap.size) ∧ (∀ j, u10.ownBlock = some j → j < wr.heap.size) ∧ (∀ j, u8.ownBlock = some j → j < wr.heap.size) ∧ (∀ j, u11.ownBlock = some j → j < wr.heap.size)) := ⟨fun j e => (HB.out.x.f.ge j e).2, fun j e => (HB.out.x.sr.ge j e).2, fun j e => (HB.out.c.f.ge j e).2, fun j e => (HB.out.c.sr.ge j e).2⟩
            clear bF bS hsa hrt hfx hQ1 hx1 hx2 q0 q1 q2 hpl n0 n1 m0 m1 KFF KSS KFSF KFSS KSFS KSFF HB IAa HP HR hla
            have fa : Fr (fun _ => False) wc (wc.alloc (fB P R)) := Fr.alloc (Fr.refl _ _) _
            have f0 : wc.cell? ⟨XF, 0, none⟩ = some (vI P) := by rw [cell_of HXFa.out]; rfl
            have f1 : wc.cell? ⟨XF, 1, none⟩ = some (vI R) := by rw [cell_of HXFa.out]; rfl
            have f2 : wc.cell? ⟨XF, 2, none⟩ = some (vI 0) := by rw [cell_of HXFa.out]; rfl
            have f3 : wc.cell? ⟨XF, 3, none⟩ = some (.slice none 0 0) := by rw [cell_of HXFa.out]; rfl
            have HBz : Hd (Tri w (wc.alloc (fB P R)) u7 u10 u8 u11 u6 u9 fX sX hX (fA ++ fX) (sA ++ sX) (hA ++ hX) fA sA hA Q1) := HBa.out.keep fa
            have HSz : Hd (SAq Q1 (wc.alloc (fB P R)) (.agg #[.slice ha P hc, .slice ra P rc]) s) := HSAa.out.fr fa (fun _ _ e => e)
            have HXFz : Hd ((wc.alloc (fB P R)).heap[XF]? = some (fB P R)) := keepF HXFa.out fa
            have HXSz : Hd ((wc.alloc (fB P R)).heap[XS]? = some (.cells #[.slice ha P hc, .slice ra P rc] 31)) := keepF HXSa.out fa
            have hnews : ∀ j u, [vI P, vI R, vI 0, Value.slice none 0 0][j]? = some u → (wc.alloc (fB P R)).cell? ((⟨wc.heap.size, 0, none⟩ : Addr).add j) = some u :=
              World.news_of_block (cs := #[vI P, vI R, vI 0, .slice none 0 0]) (heap_new wc (fB P R))
            have hbase : w.heap.size ≤ (wc.alloc (fB P R)).heap.size := HBz.out.x.fr.size
            have hfl : fX.length ≤ 3200000000000 := HFLa.out
            clear fa HBa HSAa HXFa HXSa
            go_wp2_with ((at_builtin; refine Hd.out ?_))
            unfold Hd
            refine wpList_append_lw _ rfl (.tmp 96) (.tmp 98) 45 rfl w.heap.size 28 i28 (.agg #[.int .i64 0, .int .i64 0, .int .i64 0, .slice none 0 0]) 4 48 under45 hi28 hz28 hs28 hb28 rfl (by omega) u7 fX.length _ rfl HBz.out.x.f ⟨wc.heap.size, 0, none⟩ 1 1 [vI P, vI R, vI 0, .slice none 0 0] rfl rfl hnews (by intro u hu; simp at hu; rcases hu with rfl | rfl | rfl | rfl <;> rfl) (by omega) (by unfold maxLen; omega) (by omega) hbase (wc.heap.size + 1) (by simp) ?_
            intro ga6 capa6 wa6 hown hgrow hat hg6
            have HB6 : Hd (Tr1 w wa6 (.slice (some ⟨ga6, 0, none⟩) (fX.length + 1) capa6) u10 u8 u11 u6 u9 fX sX hX (fA ++ fX) (sA ++ sX) (hA ++ hX) fA sA hA Q1 P R (.slice ha P hc) (.slice ra P rc) s) := HBz.out.g1 HSz.out HRT.out hP8 hR4 hown hgrow (by rw [World.size_alloc]; exact hat)
            have HXF6 : Hd (wa6.heap[XF]? = some (fB P R)) := box_keep hgrow HLT.out.1 HXX.out.1 HXFz.out
            have HXS6 : Hd (wa6.heap[XS]? = some (.cells #[.slice ha P hc, .slice ra P rc] 31)) := box_keep hgrow HLT.out.1 HXX.out.2 HXSz.out
            have s0 : wa6.cell? ⟨XS, 0, none⟩ = some (.slice ha P hc) := by rw [cell_of HXS6.out]; rfl
            have s1 : wa6.cell? ⟨XS, 1, none⟩ = some (.slice ra P rc) := by rw [cell_of HXS6.out]; rfl
            have fa : Fr (fun _ => False) wa6 (wa6.alloc (.cells #[.slice ha P hc, .slice ra P rc] 31)) := Fr.alloc (Fr.refl _ _) _
            have HBy : Hd (Tr1 w (wa6.alloc (.cells #[.slice ha P hc, .slice ra P rc] 31)) (.slice (some ⟨ga6, 0, none⟩) (fX.length + 1) capa6) u10 u8 u11 u6 u9 fX sX hX (fA ++ fX) (sA ++ sX) (hA ++ hX) fA sA hA Q1 P R (.slice ha P hc) (.slice ra P rc) s) := HB6.out.keep fa
            have HXFy : Hd ((wa6.alloc (.cells #[.slice ha P hc, .slice ra P rc] 31)).heap[XF]? = some (fB P R)) := keepF HXF6.out fa
            have HXSy : Hd ((wa6.alloc (.cells #[.slice ha P hc, .slice ra P rc] 31)).heap[XS]? = some (.cells #[.slice ha P hc, .slice ra P rc] 31)) := keepF HXS6.out fa
            obtain ⟨vs, e1, e2, e3, e4, e5⟩ := id HBy.out.x.sr
            have HE1 : Hd _ := e1
            have HE2 : Hd _ := e2
            have HE3 : Hd _ := e3
            have HE5 : Hd _ := e5
            have hvl : vs.length ≤ 3200000000000 := by rw [e1]; have h8 := HBz.out.x.fit.len; have h9 := HBz.out.x.shp.len; omega
            clear hown hgrow hat hg6 hnews hbase
            have hnews : ∀ j u, [Value.slice ha P hc, Value.slice ra P rc][j]? = some u → (wa6.alloc (.cells #[.slice ha P hc, .slice ra P rc] 31)).cell? ((⟨wa6.heap.size, 0, none⟩ : Addr).add j) = some u :=
              World.news_of_block (cs := #[.slice ha P hc, .slice ra P rc]) (heap_new wa6 (.cells #[.slice ha P hc, .slice ra P rc] 31))
            have hbase : w.heap.size ≤ (wa6.alloc (.cells #[.slice ha P hc, .slice ra P rc] 31)).heap.size := HBy.out.x.fr.size
            clear f0 f1 f2 f3 fa HBz HSz HXFz HXSz HB6 HXF6 HXS6 e1 e2 e3 e4 e5 hfl
            go_wp2_with ((at_builtin; refine Hd.out ?_))
            unfold Hd
            refine wpList_append_lw _ rfl (.tmp 100) (.tmp 102) 46 rfl w.heap.size 31 i31 (.agg #[.slice none 0 0, .slice none 0 0]) 2 48 under46 hi31 hz31 hs31 hb31 rfl (by omega) u10 vs.length _ rfl HE2.out ⟨wa6.heap.size, 0, none⟩ 1 1 [.slice ha P hc, .slice ra P rc] rfl rfl hnews (by intro u hu; simp at hu; rcases hu with rfl | rfl <;> rfl) (by omega) (by unfold maxLen; omega) (by omega) hbase (wa6.heap.size + 1) (by simp) ?_
            intro ga7 capa7 wa7 hown hgrow hat hg7
            obtain ⟨hb7, hs7⟩ := HBy.out.g2 HE1.out HE3.out HE5.out hown hgrow (by rw [World.size_alloc]; exact hat)
            have HXF7 : Hd (wa7.heap[XF]? = some (fB P R)) := box_keep hgrow HLT.out.2.1 HXX.out.1 HXFy.out
            have HXS7 : Hd (wa7.heap[XS]? = some (.cells #[.slice ha P hc, .slice ra P rc] 31)) := box_keep hgrow HLT.out.2.1 HXX.out.2 HXSy.out
            have HB7 : Hd _ := hb7
            have HSA7 : Hd _ := hs7
            clear hb7 hs7 hown hgrow hat hg7 hnews hbase HE1 HE2 HE3 HE5 HBy HXFy HXSy s0 s1
            have HBb : Hd (Tri w wa7 u8 u11 (.slice (some ⟨ga6, 0, none⟩) (fX.length + 1) capa6) (.slice (some ⟨ga7, 0, none⟩) (vs.length + 1) capa7) u6 u9 (fA ++ fX) (sA ++ sX) (hA ++ hX) (fX ++ [hB P R]) (sX ++ [s]) (hX ++ [(P, R)]) fA sA hA Q1) := HB7.out.swap
            have HSAb : Hd (SAq Q1 wa7 (.agg #[.slice ha P hc, .slice ra P rc]) s) := HSA7.out
            have HXFb : Hd (wa7.heap[XF]? = some (fB P R)) := HXF7.out
            have HXSb : Hd (wa7.heap[XS]? = some (.cells #[.slice ha P hc, .slice ra P rc] 31)) := HXS7.out
            clear HB7 HSA7 HXF7 HXS7
            obtain ⟨vl, hvl'⟩ : ∃ n, n = vs.length := ⟨_, rfl⟩
            rw [← hvl'] at HBb ⊢
            clear hvl hvl' vs
            have fa : Fr (fun _ => False) wa7 (wa7.alloc (fB P R)) := Fr.alloc (Fr.refl _ _) _
            have f0 : wa7.cell? ⟨XF, 0, none⟩ = some (vI P) := by rw [cell_of HXFb.out]; rfl
            have f1 : wa7.cell? ⟨XF, 1, none⟩ = some (vI R) := by rw [cell_of HXFb.out]; rfl
            have f2 : wa7.cell? ⟨XF, 2, none⟩ = some (vI 0) := by rw [cell_of HXFb.out]; rfl
            have f3 : wa7.cell? ⟨XF, 3, none⟩ = some (.slice none 0 0) := by rw [cell_of HXFb.out]; rfl
            have HBz : Hd (Tri w (wa7.alloc (fB P R)) u8 u11 (.slice (some ⟨ga6, 0, none⟩) (fX.length + 1) capa6) (.slice (some ⟨ga7, 0, none⟩) (vl + 1) capa7) u6 u9 (fA ++ fX) (sA ++ sX) (hA ++ hX) (fX ++ [hB P R]) (sX ++ [s]) (hX ++ [(P, R)]) fA sA hA Q1) := HBb.out.keep fa
            have HSz : Hd (SAq Q1 (wa7.alloc (fB P R)) (.agg #[.slice ha P hc, .slice ra P rc]) s) := HSAb.out.fr fa (fun _ _ e => e)
            have HXFz : Hd ((wa7.alloc (fB P R)).heap[XF]? = some (fB P R)) := keepF HXFb.out fa
            have HXSz : Hd ((wa7.alloc (fB P R)).heap[XS]? = some (.cells #[.slice ha P hc, .slice ra P rc] 31)) := keepF HXSb.out fa
            have hnews : ∀ j u, [vI P, vI R, vI 0, Value.slice none 0 0][j]? = some u → (wa7.alloc (fB P R)).cell? ((⟨wa7.heap.size, 0, none⟩ : Addr).add j) = some u :=
              World.news_of_block (cs := #[vI P, vI R, vI 0, .slice none 0 0]) (heap_new wa7 (fB P R))
            have hbase : w.heap.size ≤ (wa7.alloc (fB P R)).heap.size := HBz.out.x.fr.size
            have hfl : (fA ++ fX).length ≤ 3200000000000 := HFLb.out
            clear fa HBb HSAb HXFb HXSb
            go_wp2_with ((at_builtin; refine Hd.out ?_))
            unfold Hd
            refine wpList_append_lw _ rfl (.tmp 104) (.tmp 106) 45 rfl w.heap.size 28 i28 (.agg #[.int .i64 0, .int .i64 0, .int .i64 0, .slice none 0 0]) 4 48 under45 hi28 hz28 hs28 hb28 rfl (by omega) u8 (fA ++ fX).length _ rfl HBz.out.x.f ⟨wa7.heap.size, 0, none⟩ 1 1 [vI P, vI R, vI 0, .slice none 0 0] rfl rfl hnews (by intro u hu; simp at hu; rcases hu with rfl | rfl | rfl | rfl <;> rfl) (by omega) (by unfold maxLen; omega) (by omega) hbase (wa7.heap.size + 1) (by simp) ?_
            intro gb6 capb6 wb6 hown hgrow hat hg6
            have HB6 : Hd (Tr1 w wb6 (.slice (some ⟨gb6, 0, none⟩) ((fA ++ fX).length + 1) capb6) u11 (.slice (some ⟨ga6, 0, none⟩) (fX.length + 1) capa6) (.slice (some ⟨ga7, 0, none⟩) (vl + 1) capa7) u6 u9 (fA ++ fX) (sA ++ sX) (hA ++ hX) (fX ++ [hB P R]) (sX ++ [s]) (hX ++ [(P, R)]) fA sA hA Q1 P R (.slice ha P hc) (.slice ra P rc) s) := HBz.out.g1 HSz.out HRT.out hP8 hR4 hown hgrow (by rw [World.size_alloc]; exact hat)
            have HXF6 : Hd (wb6.heap[XF]? = some (fB P R)) := box_keep hgrow HLT.out.2.2.1 HXX.out.1 HXFz.out
            have HXS6 : Hd (wb6.heap[XS]? = some (.cells #[.slice ha P hc, .slice ra P rc] 31)) := box_keep hgrow HLT.out.2.2.1 HXX.out.2 HXSz.out
            have s0 : wb6.cell? ⟨XS, 0, none⟩ = some (.slice ha P hc) := by rw [cell_of HXS6.out]; rfl
            have s1 : wb6.cell? ⟨XS, 1, none⟩ = some (.slice ra P rc) := by rw [cell_of HXS6.out]; rfl
            have fa : Fr (fun _ => False) wb6 (wb6.alloc (.cells #[.slice ha P hc, .slice ra P rc] 31)) := Fr.alloc (Fr.refl _ _) _
            have HBy : Hd (Tr1 w (wb6.alloc (.cells #[.slice ha P hc, .slice ra P rc] 31)) (.slice (some ⟨gb6, 0, none⟩) ((fA ++ fX).length + 1) capb6) u11 (.slice (some ⟨ga6, 0, none⟩) (fX.length + 1) capa6) (.slice (some ⟨ga7, 0, none⟩) (vl + 1) capa7) u6 u9 (fA ++ fX) (sA ++ sX) (hA ++ hX) (fX ++ [hB P R]) (sX ++ [s]) (hX ++ [(P, R)]) fA sA hA Q1 P R (.slice ha P hc) (.slice ra P rc) s) := HB6.out.keep fa
            have HXFy : Hd ((wb6.alloc (.cells #[.slice ha P hc, .slice ra P rc] 31)).heap[XF]? = some (fB P R)) := keepF HXF6.out fa
            have HXSy : Hd ((wb6.alloc (.cells #[.slice ha P hc, .slice ra P rc] 31)).heap[XS]? = some (.cells #[.slice ha P hc, .slice ra P rc] 31)) := keepF HXS6.out fa
            obtain ⟨vs, e1, e2, e3, e4, e5⟩ := id HBy.out.x.sr
            have HE1 : Hd _ := e1
            have HE2 : Hd _ := e2
            have HE3 : Hd _ := e3
            have HE5 : Hd _ := e5
            have hvl : vs.length ≤ 3200000000000 := by rw [e1]; have h8 := HBz.out.x.fit.len; have h9 := HBz.out.x.shp.len; omega
            clear hown hgrow hat hg6 hnews hbase
            have hnews : ∀ j u, [Value.slice ha P hc, Value.slice ra P rc][j]? = some u → (wb6.alloc (.cells #[.slice ha P hc, .slice ra P rc] 31)).cell? ((⟨wb6.heap.size, 0, none⟩ : Addr).add j) = some u :=
              World.news_of_block (cs := #[.slice ha P hc, .slice ra P rc]) (heap_new wb6 (.cells #[.slice ha P hc, .slice ra P rc] 31))
            have hbase : w.heap.size ≤ (wb6.alloc (.cells #[.slice ha P hc, .slice ra P rc] 31)).heap.size := HBy.out.x.fr.size
            clear f0 f1 f2 f3 fa HBz HSz HXFz HXSz HB6 HXF6 HXS6 e1 e2 e3 e4 e5 hfl
            go_wp2_with ((at_builtin; refine Hd.out ?_))
            unfold Hd
            refine wpList_append_lw _ rfl (.tmp 108) (.tmp 110) 46 rfl w.heap.size 31 i31 (.agg #[.slice none 0 0, .slice none 0 0]) 2 48 under46 hi31 hz31 hs31 hb31 rfl (by omega) u11 vs.length _ rfl HE2.out ⟨wb6.heap.size, 0, none⟩ 1 1 [.slice ha P hc, .slice ra P rc] rfl rfl hnews (by intro u hu; simp at hu; rcases hu with rfl | rfl <;> rfl) (by omega) (by unfold maxLen; omega) (by omega) hbase (wb6.heap.size + 1) (by simp) ?_
            intro gb7 capb7 wb7 hown hgrow hat hg7
            obtain ⟨hb7, hs7⟩ := HBy.out.g2 HE1.out HE3.out HE5.out hown hgrow (by rw [World.size_alloc]; exact hat)
            have HXF7 : Hd (wb7.heap[XF]? = some (fB P R)) := box_keep hgrow HLT.out.2.2.2 HXX.out.1 HXFy.out
            have HXS7 : Hd (wb7.heap[XS]? = some (.cells #[.slice ha P hc, .slice ra P rc] 31)) := box_keep hgrow HLT.out.2.2.2 HXX.out.2 HXSy.out
            have HB7 : Hd _ := hb7
            have HSA7 : Hd _ := hs7
            clear hb7 hs7 hown hgrow hat hg7 hnews hbase HE1 HE2 HE3 HE5 HBy HXFy HXSy s0 s1
            have HBf : Hd (Tri w wb7 (.slice (some ⟨ga6, 0, none⟩) (fX.length + 1) capa6) (.slice (some ⟨ga7, 0, none⟩) (vl + 1) capa7) (.slice (some ⟨gb6, 0, none⟩) (fA.length + fX.length + 1) capb6) (.slice (some ⟨gb7, 0, none⟩) (vs.length + 1) capb7) u6 u9 (fX ++ [hB P R]) (sX ++ [s]) (hX ++ [(P, R)]) (fA ++ (fX ++ [hB P R])) (sA ++ (sX ++ [s])) (hA ++ (hX ++ [(P, R)])) fA sA hA Q1) := by
              have h9 := HB7.out.swap
              rw [List.append_assoc, List.append_assoc, List.append_assoc, List.length_append] at h9
              exact h9
            clear HB7
            go_wp2_with fail
            exact ⟨⟨k + 1, fX ++ [hB P R], sX ++ [s], hX ++ [(P, R)], Q1, by simp, by omega, by rw [List.length_append, HFLk.out]; rfl, HBf.out⟩, by simp; omega⟩
        · have hke : k = tz.length := by omega
          subst hke
          have HsA : Hd (∀ W, Fr (fun _ => False) wr W → FsA W u6 fA ∧ SsA W u9 sA) := fun W f => ⟨HB.out.o.f.fsa.stay f, HB.out.o.sr.ssa.stay f⟩
          have HsX : Hd (∀ W, Fr (fun _ => False) wr W → FsA W u7 fX ∧ SsA W u10 sX) := fun W f => ⟨HB.out.x.f.fsa.stay f, HB.out.x.sr.ssa.stay f⟩
          have HsC : Hd (∀ W, Fr (fun _ => False) wr W → FsA W u8 (fA ++ fX) ∧ SsA W u11 (sA ++ sX)) := fun W f => ⟨HB.out.c.f.fsa.stay f, HB.out.c.sr.ssa.stay f⟩
          have HeA : Hd (encE fA sA = 0) := enc_ok HB.out.o.shp HB.out.o.fit
          have HeX : Hd (encE fX sX = 0) := enc_ok HB.out.x.shp HB.out.x.fit
          have HeC : Hd (encE (fA ++ fX) (sA ++ sX) = 0) := enc_ok HB.out.c.shp HB.out.c.fit
          have HfA : Hd (∀ s ∈ sA, s.Fits) := HB.out.o.fit.fits HB.out.o.shp.bd
          have HfX : Hd (∀ s ∈ sX, s.Fits) := HB.out.x.fit.fits HB.out.x.shp.bd
          have HfC : Hd (∀ s ∈ sA ++ sX, s.Fits) := HB.out.c.fit.fits HB.out.c.shp.bd
          have HSH : Hd (Shp (fA ++ fX) (hA ++ hX)) := HB.out.c.shp
          have HLC : Hd (encB (sA ++ sX) = encB sA ++ encB sX) := encB_append _ _
          have HDE : Hd (decT (hA ++ hX) (encB sA ++ encB sX) = true) := by unfold Hd; rw [← HLC.out]; exact HB.out.c.fit.dec
          have HBK : Hd (ssT (hA ++ hX) (encB sA ++ encB sX) = sA ++ sX) := by have h9 := HB.out.c.fit.back []; rw [List.append_nil, HLC.out] at h9; exact h9
          have HLb : Hd (∀ x ∈ encB sA ++ encB sX, 0 ≤ x ∧ x ≤ 255) := fun x hx => okN_byte (HB.out.c.fit.enc.2 x (by rw [HLC.out]; exact hx))
          have hlA : sA.length = fA.length := by rw [HB.out.o.fit.len, HB.out.o.shp.len]
          have hlX : sX.length = fX.length := by rw [HB.out.x.fit.len, HB.out.x.shp.len]
          have hlz : (encB sA).length + (encB sX).length ≤ 128000000000000 := by
            have h8 := tot_bd (hA ++ hX) HB.out.c.shp.bd
            have h9 := HB.out.c.shp.len
            have h7 := HB.out.c.fit.enc.1
            have h6 := HFLb.out
            rw [HLC.out, List.length_append] at h7
            omega
          have hfA : fA.length + fX.length ≤ 3200000000000 := by have h9 := HFLb.out; rw [List.length_append] at h9; exact h9
          have HFw : Hd (Fr (fun _ => False) w wr) := HB.out.x.fr
          have HSL : Hd (sA.length = fA.length ∧ sX.length = fX.length) := ⟨hlA, hlX⟩
          clear HB hlA hlX HFLk HFLa HFLb HLA
          obtain ⟨LA, hLA⟩ : ∃ L, encB sA = L := ⟨_, rfl⟩
          obtain ⟨LX, hLX⟩ : ∃ L, encB sX = L := ⟨_, rfl⟩
          rw [hLA, hLX] at HLC HDE HBK HLb hlz
          have HQA : Hd (encB sA = LA) := hLA
          have HQX : Hd (encB sX = LX) := hLX
          clear hLA hLX
          obtain ⟨nA, hnA⟩ : ∃ n, n = LA.length := ⟨_, rfl⟩
          obtain ⟨nX, hnX⟩ : ∃ n, n = LX.length := ⟨_, rfl⟩
          have HNA : Hd (nA = LA.length) := hnA
          have HNX : Hd (nX = LX.length) := hnX
          have hnz : nA + nX ≤ 128000000000000 := by omega
          clear hnA hnX
          go_wp2_with fail
          refine (show Calls Try.prog 15 #[u6, u9] wr _ from encode_any u6 u9 fA sA wr (HsA.out _ (Fr.refl _ _)).1 (HsA.out _ (Fr.refl _ _)).2 (by omega) (by have := HSL.out; omega) HfA.out).mono ?_
          rintro e w2 ⟨av, rfl, hao, hF2⟩
          rw [HeA.out]
          have hao := hao HeA.out
          rw [HQA.out] at hao
          obtain ⟨aa, ac, eav, hacap⟩ := own_cap hao
          rw [← HNA.out] at eav hacap
          have HBA : Hd (∀ W, Fr (fun _ => False) w2 W → BC W (.slice aa nA ac) LA) := fun W f => by rw [← eav]; exact hao.bc.stay f
          have HF2 : Hd (Fr (fun _ => False) wr w2) := hF2
          subst eav
          clear hao hF2
          go_wp2_with fail
          refine (show Calls Try.prog 15 #[u7, u10] w2 _ from encode_any u7 u10 fX sX w2 (HsX.out _ HF2.out).1 (HsX.out _ HF2.out).2 (by omega) (by have := HSL.out; omega) HfX.out).mono ?_
          rintro e w3 ⟨bv, rfl, hbo, hF3⟩
          rw [HeX.out]
          have hbo := hbo HeX.out
          rw [HQX.out] at hbo
          obtain ⟨ba, bc, ebv, hbcap⟩ := own_cap hbo
          rw [← HNX.out] at ebv hbcap
          have HBX : Hd (∀ W, Fr (fun _ => False) w3 W → BC W (.slice ba nX bc) LX) := fun W f => by rw [← ebv]; exact hbo.bc.stay f
          have HF3 : Hd (Fr (fun _ => False) w2 w3) := hF3
          subst ebv
          clear hbo hF3
          go_wp2_with fail
          refine (show Calls Try.prog 15 #[u8, u11] w3 _ from encode_any u8 u11 (fA ++ fX) (sA ++ sX) w3 (HsC.out _ (HF2.out.trans HF3.out)).1 (HsC.out _ (HF2.out.trans HF3.out)).2 (by rw [List.length_append]; omega) (by rw [List.length_append]; have := HSL.out; omega) HfC.out).mono ?_
          rintro e w4 ⟨cv, rfl, hco, hF4⟩
          rw [HeC.out]
          have hco := hco HeC.out
          rw [HLC.out] at hco
          obtain ⟨ca, cc, ecv, hccap⟩ := own_cap hco
          rw [List.length_append, ← HNA.out, ← HNX.out] at ecv hccap
          have HBCc : Hd (∀ W, Fr (fun _ => False) w4 W → BA W (.slice ca (nA + nX) cc) (LA ++ LX)) := fun W f => by rw [← ecv]; exact (hco.bc.stay f).ba
          have HF4 : Hd (Fr (fun _ => False) w2 w4) := HF3.out.trans hF4
          have HBX4 : Hd (BC w4 (.slice ba nX bc) LX) := HBX.out _ hF4
          subst ecv
          clear hco hF4 HF3 HBX
          go_wp2_with fail
          refine (show Calls Try.prog 18 #[.slice aa nA ac] w4 _ from copyBytes_any _ LA w4 (HBA.out _ HF4.out).ba (by omega)).mono ?_
          rintro e w5 ⟨dv, rfl, hdo, hF5⟩
          have HDO : Hd (BOwn w5 w4.heap.size dv LA) := hdo
          have HF5 : Hd (Fr (fun _ => False) w4 w5) := hF5
          clear hdo hF5
          go_wp2_with fail
          obtain ⟨wo, hwo⟩ : ∃ W, W = wr := ⟨_, rfl⟩
          subst hwo
          go_loopw [24, 25] (fun dw v wr => ∃ (k : Nat), v = .int .i64 k ∧ k ≤ nX ∧ Hd (BOwn wr w4.heap.size dw (LA ++ LX.take k)) ∧ Hd (Fr (fun _ => False) w4 wr)) (fun _ v _ => match v with | .int _ q => nX - q.toNat | _ => 0)
          case atStart => exact ⟨0, rfl, Nat.zero_le _, by unfold Hd; rw [List.take_zero, List.append_nil]; exact HDO.out, HF5.out⟩
          case round =>
            clear HDO HF5
            obtain ⟨k, rfl, hk, HO, HF⟩ := hrel
            by_cases hlt : k < nX
            · have hltL : k < LX.length := by have := HNX.out; omega
              obtain ⟨a9, c9, e9, -, hin9⟩ := HBX4.out
              obtain ⟨pk, po, ea9, hpk, hcs⟩ := hin9 (by intro e; simp [e] at hltL)
              have eba : ba = some ⟨pk, po, none⟩ := by injection e9 with q1 _ _; rw [q1]; exact ea9
              subst eba
              have p0 := (HF.out.cell (o := po + k) hpk (fun h => h)).trans (hcs k hltL)
              have HT9 : Hd (LA ++ LX.take (k + 1) = (LA ++ LX.take k) ++ [LX[k]]) := by unfold Hd; rw [take_snoc LX k hltL, List.append_assoc]
              have HTL : Hd ((LA ++ LX.take k).length = nA + k) := by unfold Hd; rw [List.length_append, List.length_take, ← HNA.out]; omega
              obtain ⟨e, he⟩ : ∃ e, LX[k] = e := ⟨_, rfl⟩
              rw [he] at p0 HT9
              obtain ⟨E, hE⟩ : ∃ E, E = LA ++ LX.take k := ⟨_, rfl⟩
              rw [← hE] at HO HT9 HTL
              clear he hE hcs hin9 e9 ea9
              have hk0 : (0 : Int) ≤ k := by omega
              have hk1 : (k : Int) < nX := by omega
              have hsz := HF.out.size
              have HO1 : Hd ((wr.alloc (.cells #[vB e] 5)).ownsRow w4.heap.size 5 1 u24 E.length (E.map vB)) := World.ownsRow.alloc HO.out _
              have hnews : ∀ j u, [vB e][j]? = some u → (wr.alloc (.cells #[vB e] 5)).cell? ((⟨wr.heap.size, 0, none⟩ : Addr).add j) = some u :=
                World.news_of_block (cs := #[vB e]) (heap_new wr (.cells #[vB e] 5))
              have hbase : w4.heap.size ≤ (wr.alloc (.cells #[vB e] 5)).heap.size := by simp; omega
              have hEl : E.length + 1 ≤ 128000000000001 := by have := HTL.out; omega
              go_wp2_with ((at_builtin; refine Hd.out ?_))
              unfold Hd
              refine wpList_append_lies _ rfl (.tmp 138) (.tmp 143) 42 rfl w4.heap.size 5 i5 (.int .u8 0) 1 1 under42 hi5 hz5 hs5 hb5 rfl (by omega) u24 E.length _ rfl HO1.out ⟨wr.heap.size, 0, none⟩ 1 1 [vB e] rfl rfl hnews (by intro u hu; simp at hu; subst hu; rfl) (by omega) (by unfold maxLen; omega) (by omega) hbase (wr.heap.size + 1) (by simp) ?_
              intro g6 cap6 w6 hown6 hgrow6 hat6 hlt6
              have HO6 : Hd (BOwn w6 w4.heap.size (.slice (some ⟨g6, 0, none⟩) (E.length + 1) cap6) (E ++ [e])) := by unfold Hd BOwn; rw [List.map_append, List.length_append]; exact hown6
              have HF6 : Hd (Fr (fun _ => False) w4 w6) := grow_fr0 (HF.out.alloc _) hgrow6 (fun k hk => (HO.out.ge k hk).1)
              clear hown6 hgrow6 hat6 hlt6 HO HF HO1 hnews hbase p0
              go_wp2_with fail
              refine ⟨⟨k + 1, by simp, by omega, ?_, HF6.out⟩, by simp; omega⟩
              unfold Hd; rw [HT9.out]; exact HO6.out
            · have hkx : k = nX := by omega
              have HO2 : Hd (BOwn wr w4.heap.size u24 (LA ++ LX)) := by have h9 := HO.out; rw [List.take_of_length_le (by have := HNX.out; omega)] at h9; exact h9
              obtain ⟨da, dc, edv, -⟩ := own_cap HO2.out
              rw [List.length_append, ← HNA.out, ← HNX.out] at edv
              have HDC : Hd (∀ W, Fr (fun _ => False) wr W → BC W (.slice da (nA + nX) dc) (LA ++ LX)) := fun W f => by rw [← edv]; exact HO2.out.bc.stay f
              subst edv
              have HFq : Hd (Fr (fun _ => False) wo wr) := (HF2.out.trans HF4.out).trans HF.out
              have HCq : Hd (∀ W, Fr (fun _ => False) wr W → BA W (.slice ca (nA + nX) cc) (LA ++ LX)) := fun W f => HBCc.out W (HF.out.trans f)
              clear HO HO2 HF HBCc HF2 HF4 HBX4 HBA
              subst hkx
              go_wp2_with fail
              refine (show Calls Try.prog 16 #[u8, .slice da (nA + k) dc] wr _ from decode_any u8 _ (fA ++ fX) (hA ++ hX) (LA ++ LX) wr (HsC.out _ HFq.out).1 HSH.out (by rw [List.length_append]; omega) (HDC.out _ (Fr.refl _ _)) (by rw [List.length_append]; omega) HLb.out).mono ?_
              rintro e w7 ⟨hF7, (⟨hd, v7, Q7, rfl, hsr, -⟩ | ⟨hd, rfl⟩)⟩
              rotate_left
              · rw [HDE.out] at hd; cases hd
              rw [HBK.out] at hsr
              have HV : Hd (∀ W, Fr (fun _ => False) w7 W → SsA W v7 (sA ++ sX)) := fun W f => hsr.ssa.stay f
              have HF7 : Hd (Fr (fun _ => False) wr w7) := hF7
              clear hF7 hd hsr
              go_wp2_with fail
              refine (show Calls Try.prog 19 #[.slice ca (nA + k) cc, .slice da (nA + k) dc] w7 _ from eqBytes_any _ _ (LA ++ LX) (LA ++ LX) w7 (HCq.out _ HF7.out) (HDC.out _ HF7.out).ba (by rw [List.length_append]; omega) (by rw [List.length_append]; omega)).mono ?_
              rintro e w8 ⟨rfl, hF8⟩
              rw [(all2_eq eqB_iff).2 rfl]
              have HF8 : Hd (Fr (fun _ => False) w7 w8) := hF8
              clear hF8
              go_wp2_with fail
              refine (show Calls Try.prog 17 #[v7, u11] w8 _ from eqSums_same v7 u11 (sA ++ sX) w8 (HV.out _ HF8.out) (HsC.out _ ((HFq.out.trans HF7.out).trans HF8.out)).2 (by rw [List.length_append]; have := HSL.out; omega) HfC.out).mono ?_
              rintro e w9 ⟨rfl, hF9⟩
              have HFz : Hd (Fr (fun _ => False) w w9) := (((HFw.out.trans HFq.out).trans HF7.out).trans HF8.out).trans hF9
              clear hF9
              go_wp2_with fail
              go_ret
              exact ⟨rfl, HFz.out⟩

end Go.Proofs.Ytchilccmnaihkaa
