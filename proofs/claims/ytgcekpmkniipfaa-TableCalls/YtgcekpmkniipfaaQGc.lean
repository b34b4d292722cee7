import Derived.Test.YtgcekpmkniipfaaQGf
namespace Go.Proofs.Ytgcekpmkniipfaa
open Go.RowKit (wrap32 wrap64)
set_option linter.unusedVariables false
set_option linter.unusedSimpArgs false

def StepsAt (w : World) (B : Nat) (v : Value) (st : List (Int × OpT)) : Prop :=
  ∃ ad cap, v = .slice ad st.length cap ∧ (st ≠ [] → ∃ g o, ad = some ⟨g, o, none⟩ ∧ g < B ∧ ∀ i (h : i < st.length), w.cell? ⟨g, o + i * 4, none⟩ = some (vI st[i].1) ∧ w.cell? ⟨g, o + i * 4 + 1, none⟩ = some (vI st[i].2.1) ∧ w.cell? ⟨g, o + i * 4 + 2, none⟩ = some (vI st[i].2.2.1) ∧ w.cell? ⟨g, o + i * 4 + 3, none⟩ = some (.string st[i].2.2.2))

theorem and_one (z : Int) : bits .and .i64 z 1 = z % 2 := by
  show IntKind.i64.wrap ((BitVec.ofInt 64 z &&& BitVec.ofInt 64 1).toNat : Int) = _
  have h1 : (BitVec.ofInt 64 1).toNat = 1 := by decide
  rw [BitVec.toNat_and, h1, Nat.and_one_is_mod, BitVec.toNat_ofInt, i64w (by omega) (by omega)]
  have : ((2 ^ 64 : Nat) : Int) = 18446744073709551616 := by decide
  rw [this]
  omega

theorem keepA {w : World} {b o : Nat} {v : Value} (z : Obj) (h : w.cell? ⟨b, o, none⟩ = some v) : (w.alloc z).cell? ⟨b, o, none⟩ = some v := by
  have hk : b < w.heap.size := by
    rcases Nat.lt_or_ge b w.heap.size with hk | hk
    · exact hk
    · unfold World.cell? at h
      simp [Array.getElem?_eq_none hk] at h
  exact (((Fr.refl (fun _ => False) w).alloc z).cell hk (fun h => h)).trans h
theorem meas {i n : Nat} (h : i < n) : n - ((i : Int) + 1).toNat < n - (i : Int).toNat := by omega
theorem cast1 (i : Nat) : Value.int .i64 ((i : Int) + 1) = Value.int .i64 ((i + 1 : Nat) : Int) := by simp
theorem set4 {w' : World} {b : Nat} {t : TypeId} {z0 z1 z2 z3 : Value} (h : w'.heap[b]? = some (.cells #[z0, z1, z2, z3] t)) (v0 v1 v2 v3 : Value) :
    ((((w'.setCell ⟨b, 0, none⟩ v0).setCell ⟨b, 1, none⟩ v1).setCell ⟨b, 2, none⟩ v2).setCell ⟨b, 3, none⟩ v3).heap[b]? = some (.cells #[v0, v1, v2, v3] t) ∧ Fr (fun j => j = b) w' ((((w'.setCell ⟨b, 0, none⟩ v0).setCell ⟨b, 1, none⟩ v1).setCell ⟨b, 2, none⟩ v2).setCell ⟨b, 3, none⟩ v3) :=
  ⟨set_of (set_of (set_of (set_of h 0 v0) 1 v1) 2 v2) 3 v3, ((((Fr.refl (fun j => j = b) w').setCell _ _ (Or.inl rfl)).setCell _ _ (Or.inl rfl)).setCell _ _ (Or.inl rfl)).setCell _ _ (Or.inl rfl)⟩
theorem c4of {w' : World} {b : Nat} {t : TypeId} {z0 z1 z2 z3 : Value} (h : w'.heap[b]? = some (.cells #[z0, z1, z2, z3] t)) :
    (w'.cell? ⟨b, 0, none⟩ = some z0 ∧ w'.cell? ⟨b, 1, none⟩ = some z1 ∧ w'.cell? ⟨b, 2, none⟩ = some z2 ∧ w'.cell? ⟨b, 3, none⟩ = some z3) ∧ w'.frozen? ⟨b, 0, none⟩ = false ∧ w'.frozen? ⟨b, 1, none⟩ = false ∧ w'.frozen? ⟨b, 2, none⟩ = false ∧ w'.frozen? ⟨b, 3, none⟩ = false :=
  ⟨⟨cell_of h 0, cell_of h 1, cell_of h 2, cell_of h 3⟩, frozen_of h 0, frozen_of h 1, frozen_of h 2, frozen_of h 3⟩

set_option maxRecDepth 100000 in
set_option maxHeartbeats 8000000 in
theorem calls_any (w : World) (sv : Value) (st : List (Int × OpT)) (h : StepsAt w w.heap.size sv st) (hst : ∀ x ∈ st, In64 x.1 ∧ In64 x.2.1 ∧ In64 x.2.2.1) :
    Calls Try.prog 5 #[sv] w fun e w' => e = .returned (.bool true) ∧ Fr (fun _ => False) w w' := by
  obtain ⟨ad, cap, rfl, hx⟩ := h
  obtain ⟨n, en⟩ : ∃ n, n = st.length := ⟨_, rfl⟩
  rw [← en]
  have HX : Hd (st.length = n ∧ (st ≠ [] → ∃ g o, ad = some ⟨g, o, none⟩ ∧ g < w.heap.size ∧ ∀ i (h : i < st.length), w.cell? ⟨g, o + i * 4, none⟩ = some (vI st[i].1) ∧ w.cell? ⟨g, o + i * 4 + 1, none⟩ = some (vI st[i].2.1) ∧ w.cell? ⟨g, o + i * 4 + 2, none⟩ = some (vI st[i].2.2.1) ∧ w.cell? ⟨g, o + i * 4 + 3, none⟩ = some (.string st[i].2.2.2))) := ⟨en.symm, hx⟩
  have HST : Hd (∀ x ∈ st, In64 x.1 ∧ In64 x.2.1 ∧ In64 x.2.2.1) := hst
  clear hx hst en
  go_enter Try.func5, Try.ntmps5
  go_wp2_with fail
  refine (Long_any n w).mono ?_
  rintro _ w0 ⟨rfl, e0⟩
  subst w0
  by_cases hn : n > 2147483647
  · have hd : decide ((n : Int) > 2147483647) = true := by simp; omega
    have hd2 : decide ((n : Int) < 2147483647) = false := by simp; omega
    go_wp2_with fail
    go_ret
    exact ⟨rfl, Fr.refl _ _⟩
  · have hd : decide ((n : Int) > 2147483647) = false := by simp; omega
    rw [hd]
    clear hd
    go_wp2_with fail
    refine (lives_any _).mono ?_
    rintro _ w1 ⟨rfl, hF1⟩
    go_wp2_with fail
    refine (new_any w1).mono ?_
    rintro _ w2 ⟨rfl, hT2, hF2⟩
    go_wp2_with fail
    refine (new_any w2).mono ?_
    rintro _ w3 ⟨rfl, hT3, hF3⟩
    obtain ⟨own, hMs⟩ := Ms.start hF1 hT2 hF2 hT3 hF3
    have HR : Hd (Rs w (begun w3 w1.heap.size w2.heap.size) w1.heap.size w2.heap.size (w3.heap.size + 1) (w3.heap.size + 1 + 1) (w3.heap.size + 1 + 1 + 1 + 1) [(w3.heap.size, pA w1.heap.size w2.heap.size 51), (w3.heap.size + 1 + 1 + 1, pA (w3.heap.size + 1) (w3.heap.size + 1 + 1) 55)] 0 0) := ⟨own, _, _, _, _, _, _, _, _, hMs, rfl, rfl, rfl, rfl⟩
    clear hF1 hT2 hF2 hT3 hF3 hMs
    obtain ⟨b1, eb1⟩ : ∃ b1, b1 = w1.heap.size := ⟨_, rfl⟩
    obtain ⟨b2, eb2⟩ : ∃ b2, b2 = w2.heap.size := ⟨_, rfl⟩
    rw [← eb1, ← eb2] at HR ⊢
    clear eb1 eb2
    go_upto_region 10 with fail
    rw [show ((((w3.alloc (.cells #[.pointer (some ⟨b1, 0, none⟩), .pointer (some ⟨b2, 0, none⟩)] 51)).alloc (.cells #[.slice none 0 0, .slice none 0 0] 54)).alloc (.cells #[.slice none 0 0, .slice none 0 0] 54)).alloc (.cells #[.pointer (some ⟨w3.heap.size + 1, 0, none⟩), .pointer (some ⟨w3.heap.size + 1 + 1, 0, none⟩)] 55)).alloc (.cells #[.slice none 0 0, .slice none 0 0, .int .i64 0] 59) = begun w3 b1 b2 from rfl]
    obtain ⟨V, eV⟩ : ∃ V, V = begun w3 b1 b2 := ⟨_, rfl⟩
    rw [← eV] at HR ⊢
    obtain ⟨kb, ekb⟩ : ∃ kb, kb = w3.heap.size + 1 + 1 + 1 + 1 := ⟨_, rfl⟩
    obtain ⟨bb, ebb⟩ : ∃ bb, bb = w3.heap.size + 1 + 1 + 1 := ⟨_, rfl⟩
    obtain ⟨c2, ec2⟩ : ∃ c2, c2 = w3.heap.size + 1 + 1 := ⟨_, rfl⟩
    obtain ⟨c1, ec1⟩ : ∃ c1, c1 = w3.heap.size + 1 := ⟨_, rfl⟩
    obtain ⟨ba, eba⟩ : ∃ ba, ba = w3.heap.size := ⟨_, rfl⟩
    rw [← ekb, ← ebb, ← ec2, ← ec1, ← eba] at HR
    rw [← ekb, ← ebb, ← ec2, ← ec1, ← eba]
    clear ekb ebb ec2 ec1 eba eV
    go_loopw [3, 7] (fun v3 v7 wr => ∃ i sum : Nat, v3 = .bool true ∧ v7 = .int .i64 i ∧ i ≤ n ∧ sum ≤ 9000000000 ∧ Hd (Rs w wr b1 b2 c1 c2 kb [(ba, pA b1 b2 51), (bb, pA c1 c2 55)] i sum)) (fun _ v _ => match v with | .int _ q => n - q.toNat | _ => 0)
    case atStart => exact ⟨0, 0, rfl, rfl, by omega, by omega, HR.out⟩
    case round =>
      clear HR
      obtain ⟨i, sum, rfl, rfl, hin, hsum, HM⟩ := hrel
      have hi0 : (0 : Int) ≤ i := by omega
      by_cases hlt : i < n
      · have hi4 : (i : Int) < n := by omega
        have hil : i < st.length := by have := HX.out.1; omega
        obtain ⟨g, o, rfl, hg, hcs⟩ := HX.out.2 (by intro e; rw [e] at hil; simp at hil)
        obtain ⟨k0, k1, k2, k3⟩ := hcs i hil
        have hfr := HM.out.fr
        rw [← hfr.cell hg (fun h => h)] at k0 k1 k2 k3
        obtain ⟨r1, r2, r3⟩ := HST.out st[i] (List.getElem_mem hil)
        obtain ⟨⟨pl, kd, ky, x⟩, ex⟩ : ∃ x, x = st[i] := ⟨_, rfl⟩
        rw [← ex] at k0 k1 k2 k3 r1 r2 r3
        simp only at k0 k1 k2 k3 r1 r2 r3
        obtain ⟨W, eW⟩ : ∃ W, W = wr.alloc (.cells #[vI kd, vI ky, .string x] 23) := ⟨_, rfl⟩
        obtain ⟨ob, eob⟩ : ∃ ob, ob = wr.heap.size := ⟨_, rfl⟩
        have H1 : Hd (Rs w W b1 b2 c1 c2 kb [(ob, .cells #[vI kd, vI ky, .string x] 23), (ba, pA b1 b2 51), (bb, pA c1 c2 55)] i sum) := by rw [eW, eob]; exact HM.out.box _
        have j0 : W.cell? ⟨g, o + i * 4, none⟩ = some (vI pl) := by rw [eW, ((Fr.refl (fun _ => False) wr).alloc _).cell (Nat.lt_of_lt_of_le hg hfr.size) (fun h => h)]; exact k0
        have EW : Hd (W = wr.alloc (.cells #[vI kd, vI ky, .string x] 23) ∧ ob = wr.heap.size) := ⟨eW, eob⟩
        have HK : Hd (In64 ky) := r3
        have hand := and_one pl
        have y0 : W.cell? ⟨ob, 0, none⟩ = some (vI kd) := cell_of (H1.out.get (List.mem_cons_self)) 0
        have y1 : W.cell? ⟨ob, 1, none⟩ = some (vI ky) := cell_of (H1.out.get (List.mem_cons_self)) 1
        have y2 : W.cell? ⟨ob, 2, none⟩ = some (.string x) := cell_of (H1.out.get (List.mem_cons_self)) 2
        have ks : W.cell? ⟨kb, 2, none⟩ = some (vI sum) := H1.out.kept
        have z0 : W.cell? ⟨ba, 0, none⟩ = some (.pointer (some ⟨b1, 0, none⟩)) := cell_of (H1.out.get (b := ba) (o := pA b1 b2 51) (by simp)) 0
        have z1 : W.cell? ⟨ba, 1, none⟩ = some (.pointer (some ⟨b2, 0, none⟩)) := cell_of (H1.out.get (b := ba) (o := pA b1 b2 51) (by simp)) 1
        have z2 : W.cell? ⟨bb, 0, none⟩ = some (.pointer (some ⟨c1, 0, none⟩)) := cell_of (H1.out.get (b := bb) (o := pA c1 c2 55) (by simp)) 0
        have z3 : W.cell? ⟨bb, 1, none⟩ = some (.pointer (some ⟨c2, 0, none⟩)) := cell_of (H1.out.get (b := bb) (o := pA c1 c2 55) (by simp)) 1
        clear ex hcs r1 r2 r3 hfr eW eob HM hil
        go_upto_region 13 with fail
        rw [show wr.alloc (.cells #[vI kd, vI ky, .string x] 23) = W from EW.out.1.symm, ← EW.out.2]
        clear EW k0 k1 k2 k3
        have HEND : Hd (Rs w W b1 b2 c1 c2 kb [(ba, pA b1 b2 51), (bb, pA c1 c2 55)] (i + 1) sum) := (H1.out.drop (fun y hy => List.mem_cons_of_mem _ hy)).next
        by_cases hb : kd < 1
        · have d1 : decide (kd < 1) = true := by simpa using hb
          clear H1 z0 z1 z2 z3
          rcases Int.emod_two_eq pl with e2 | e2
          all_goals rw [e2] at hand
          all_goals go_wp2_with fail
          all_goals exact ⟨⟨i + 1, sum, by simp, by simp, by omega, hsum, HEND⟩, by simp; omega⟩
        · have d1 : decide (kd < 1) = false := by simpa using hb
          by_cases hb2 : kd > 3
          · have d2 : decide (kd > 3) = true := by simpa using hb2
            have d3 : decide (3 < kd) = true := by simpa using hb2
            clear H1 z0 z1 z2 z3
            rcases Int.emod_two_eq pl with e2 | e2
            all_goals rw [e2] at hand
            all_goals go_wp2_with fail
            all_goals exact ⟨⟨i + 1, sum, by simp, by simp, by omega, hsum, HEND⟩, by simp; omega⟩
          · have d2 : decide (kd > 3) = false := by simpa using hb2
            have d3 : decide (3 < kd) = false := by simpa using hb2
            have hkd : kd = 1 ∨ kd = 2 ∨ kd = 3 := by omega
            have hw1 : IntKind.i64.wrap 1 = 1 := by decide
            have hw0 : IntKind.i64.wrap 0 = 0 := by decide
            rcases Int.emod_two_eq pl with e2 | e2
            · rw [e2] at hand
              have HS : Hd (Rs w W.drew b1 b2 c1 c2 kb [(ob, .cells #[vI kd, vI ky, .string x] 23), (ba, pA b1 b2 51), (bb, pA c1 c2 55)] i sum) := (H1.out.quiet ((Fr.refl (fun _ => False) W).drew))
              clear H1 HEND
              by_cases hq : kd = 3 ∧ sum < 100000
              · have q1 : (kd == 3) = true := by simpa using hq.1
                have q2 : decide ((sum : Int) < 100000) = true := by simp; omega
                have hcall := HS.out.asks (by omega) (by omega)
                clear HS
                go_wp2_with fail
                refine wp_region_still_tail 15 mixed (by kernel_rfl) ?_
                simp only [List.take_succ_cons, List.take_zero, List.drop_succ_cons, List.drop_zero]
                repeat still_step
                refine wpStill_nil ?_
                go_wp2_with fail
                refine hcall.mono ?_
                rintro _ w5 ⟨rfl, sum', h5, hs5⟩
                have H5 : Hd (Rs w w5 b1 b2 c1 c2 kb [(ba, pA b1 b2 51), (bb, pA c1 c2 55)] (i + 1) sum') := (h5.drop (fun y hy => List.mem_cons_of_mem _ hy))
                clear h5 hcall y0 y1 y2 ks z0 z1 z2 z3 j0
                go_wp2_with fail
                exact ⟨⟨i + 1, sum', by simp, by simp, by omega, by omega, H5⟩, by simp; omega⟩
              · have hcall := HS.out.does (by omega) kd ky x hkd HK.out
                have hcallB := HS.out.doesBox (by omega) kd ky x hkd HK.out (.cells #[.bool false, .string ⟨#[]⟩, .slice none 0 0, .slice none 0 0] 43)
                have HKD : Hd (kd = 1 ∨ kd = 2 ∨ kd = 3) := hkd
                have HQ : ((kd == 3) = true ∧ decide ((sum : Int) < 100000) = false) ∨ (kd == 3) = false := by
                  by_cases q1 : kd = 3
                  · exact Or.inl ⟨by simpa using q1, by simp; omega⟩
                  · exact Or.inr (by simpa using q1)
                clear HS
                have HS0 : (fun w' : World => w'.cell? ⟨ba, 0, none⟩ = some (.pointer (some ⟨b1, 0, none⟩)) ∧ w'.cell? ⟨ba, 1, none⟩ = some (.pointer (some ⟨b2, 0, none⟩)) ∧ w'.cell? ⟨ob, 0, none⟩ = some (vI kd) ∧ w'.cell? ⟨ob, 1, none⟩ = some (vI ky) ∧ w'.cell? ⟨ob, 2, none⟩ = some (.string x)) W.drew := ⟨z0, z1, y0, y1, y2⟩
                rcases HQ with ⟨q1, q2⟩ | q1
                · go_upto_region 17 with fail
                  go_cut [10] (fun x10 wx => ∃ (rb : Nat) (ok : Bool) (val : ByteArray) (ka : Option Addr) (kn kc : Nat) (va : Option Addr) (vn vc : Nat), x10 = .pointer (some ⟨rb, 0, none⟩) ∧ Hd (Rh w wx b1 b2 c1 c2 kb ((rb, .cells #[.bool ok, .string val, .slice ka kn kc, .slice va vn vc] 43) :: [(ob, .cells #[vI kd, vI ky, .string x] 23), (ba, pA b1 b2 51), (bb, pA c1 c2 55)]) i sum (kd, ky, x) ok val (.slice ka kn kc) (.slice va vn vc)))
                  case first =>
                    refine wp_region_T (S := (fun w' : World => w'.cell? ⟨ba, 0, none⟩ = some (.pointer (some ⟨b1, 0, none⟩)) ∧ w'.cell? ⟨ba, 1, none⟩ = some (.pointer (some ⟨b2, 0, none⟩)) ∧ w'.cell? ⟨ob, 0, none⟩ = some (vI kd) ∧ w'.cell? ⟨ob, 1, none⟩ = some (vI ky) ∧ w'.cell? ⟨ob, 2, none⟩ = some (.string x))) (t := 6) mixed ?_
                    refine wpAnyT_takeAt (i := 0) 89 (v := ?_) rfl rfl (by kernel_rfl) (by kernel_rfl) (by kernel_rfl) (by kernel_rfl) (fun _ _ _ h => h) (Or.inl ⟨by rfl, fun w hSw => (by obtain ⟨g0, g1, g2, g3, g4⟩ := hSw; go_simp; try with_reducible rfl)⟩) HS0 ?_
                    simp only [Act.put, List.setIfInBounds_toArray, List.set_cons_zero, List.set_cons_succ]
                    refine wpAnyT_takeAt (i := 1) 90 (v := ?_) rfl rfl (by kernel_rfl) (by kernel_rfl) (by kernel_rfl) (by kernel_rfl) (fun _ _ _ h => h) (Or.inl ⟨by rfl, fun w hSw => (by obtain ⟨g0, g1, g2, g3, g4⟩ := hSw; go_simp; try with_reducible rfl)⟩) HS0 ?_
                    simp only [Act.put, List.setIfInBounds_toArray, List.set_cons_zero, List.set_cons_succ]
                    refine wpAnyT_takeAt (i := 2) 91 (v := ?_) rfl rfl (by kernel_rfl) (by kernel_rfl) (by kernel_rfl) (by kernel_rfl) (fun _ _ _ h => h) (Or.inl ⟨by rfl, fun w hSw => (by obtain ⟨g0, g1, g2, g3, g4⟩ := hSw; go_simp; try with_reducible rfl)⟩) HS0 ?_
                    simp only [Act.put, List.setIfInBounds_toArray, List.set_cons_zero, List.set_cons_succ]
                    refine wpAnyT_takeAt (i := 3) 92 (v := ?_) rfl rfl (by kernel_rfl) (by kernel_rfl) (by kernel_rfl) (by kernel_rfl) (fun _ _ _ h => h) (Or.inl ⟨by rfl, fun w hSw => (by obtain ⟨g0, g1, g2, g3, g4⟩ := hSw; go_simp; try with_reducible rfl)⟩) HS0 ?_
                    simp only [Act.put, List.setIfInBounds_toArray, List.set_cons_zero, List.set_cons_succ]
                    refine wpAnyT_two (i := 4) (j := 5) rfl rfl (by kernel_rfl) ?_ ?_
                    · intro K' HK'
                      go_simp
                      go_at_call 17
                      refine hcall.mono ?_
                      rintro _ w5 ⟨ok, val, ka, kn, kc, va, vn, vc, rfl, hRh⟩
                      have HG5 : Hd (∀ b o, (b, o) ∈ [(ob, .cells #[vI kd, vI ky, .string x] 23), (ba, pA b1 b2 51), (bb, pA c1 c2 55)] → w5.heap[b]? = some o) := fun b o hx => hRh.get hx
                      have HS5 : (fun w' : World => w'.cell? ⟨ba, 0, none⟩ = some (.pointer (some ⟨b1, 0, none⟩)) ∧ w'.cell? ⟨ba, 1, none⟩ = some (.pointer (some ⟨b2, 0, none⟩)) ∧ w'.cell? ⟨ob, 0, none⟩ = some (vI kd) ∧ w'.cell? ⟨ob, 1, none⟩ = some (vI ky) ∧ w'.cell? ⟨ob, 2, none⟩ = some (.string x)) w5 := ⟨cell_of (HG5.out ba (pA b1 b2 51) (by simp)) 0, cell_of (HG5.out ba (pA b1 b2 51) (by simp)) 1, cell_of (HG5.out ob (.cells #[vI kd, vI ky, .string x] 23) (by simp)) 0, cell_of (HG5.out ob (.cells #[vI kd, vI ky, .string x] 23) (by simp)) 1, cell_of (HG5.out ob (.cells #[vI kd, vI ky, .string x] 23) (by simp)) 2⟩
                      refine HK'.out _ _ (fun _ => HS5) ?_
                      clear HK'
                      try simp only [Act.put, List.setIfInBounds_toArray, List.set_cons_zero, List.set_cons_succ]
                      refine wpAnyT_one (i := 5) rfl (by kernel_rfl) ?_
                      intro K' HK'
                      go_simp
                      have HS6 : (fun w' : World => w'.cell? ⟨ba, 0, none⟩ = some (.pointer (some ⟨b1, 0, none⟩)) ∧ w'.cell? ⟨ba, 1, none⟩ = some (.pointer (some ⟨b2, 0, none⟩)) ∧ w'.cell? ⟨ob, 0, none⟩ = some (vI kd) ∧ w'.cell? ⟨ob, 1, none⟩ = some (vI ky) ∧ w'.cell? ⟨ob, 2, none⟩ = some (.string x)) (w5.alloc (.cells #[.bool false, .string ⟨#[]⟩, .slice none 0 0, .slice none 0 0] 43)) := by obtain ⟨g0, g1, g2, g3, g4⟩ := HS5; exact ⟨keepA _ g0, keepA _ g1, keepA _ g2, keepA _ g3, keepA _ g4⟩
                      refine HK'.out _ _ (fun _ => HS6) ?_
                      clear HK'
                      try simp only [Act.put, List.setIfInBounds_toArray, List.set_cons_zero, List.set_cons_succ]
                      refine wpAnyT_one (i := 6) rfl (by kernel_rfl) ?_
                      intro K' HK'
                      go_simp
                      refine HK'.out _ _ (fun h => absurd rfl h) ?_
                      clear HK'
                      try simp only [Act.put, List.setIfInBounds_toArray, List.set_cons_zero, List.set_cons_succ]
                      refine wpAnyT_done (by kernel_rfl) ?_ _
                      go_wp2_with fail
                      go_meet
                      exact ⟨_, ok, val, ka, kn, kc, va, vn, vc, rfl, hRh.box _⟩
                    · intro K' HK'
                      go_simp
                      have HS6 : (fun w' : World => w'.cell? ⟨ba, 0, none⟩ = some (.pointer (some ⟨b1, 0, none⟩)) ∧ w'.cell? ⟨ba, 1, none⟩ = some (.pointer (some ⟨b2, 0, none⟩)) ∧ w'.cell? ⟨ob, 0, none⟩ = some (vI kd) ∧ w'.cell? ⟨ob, 1, none⟩ = some (vI ky) ∧ w'.cell? ⟨ob, 2, none⟩ = some (.string x)) (W.drew.alloc (.cells #[.bool false, .string ⟨#[]⟩, .slice none 0 0, .slice none 0 0] 43)) := by obtain ⟨g0, g1, g2, g3, g4⟩ := HS0; exact ⟨keepA _ g0, keepA _ g1, keepA _ g2, keepA _ g3, keepA _ g4⟩
                      refine HK'.out _ _ (fun _ => HS6) ?_
                      clear HK'
                      try simp only [Act.put, List.setIfInBounds_toArray, List.set_cons_zero, List.set_cons_succ]
                      refine wpAnyT_one (i := 4) rfl (by kernel_rfl) ?_
                      intro K' HK'
                      go_simp
                      go_at_call 17
                      refine hcallB.mono ?_
                      rintro _ w5 ⟨ok, val, ka, kn, kc, va, vn, vc, rfl, hz5, hG5, hRh⟩
                      have HS5 : (fun w' : World => w'.cell? ⟨ba, 0, none⟩ = some (.pointer (some ⟨b1, 0, none⟩)) ∧ w'.cell? ⟨ba, 1, none⟩ = some (.pointer (some ⟨b2, 0, none⟩)) ∧ w'.cell? ⟨ob, 0, none⟩ = some (vI kd) ∧ w'.cell? ⟨ob, 1, none⟩ = some (vI ky) ∧ w'.cell? ⟨ob, 2, none⟩ = some (.string x)) w5 := ⟨cell_of (hG5 ba (pA b1 b2 51) (by simp)) 0, cell_of (hG5 ba (pA b1 b2 51) (by simp)) 1, cell_of (hG5 ob (.cells #[vI kd, vI ky, .string x] 23) (by simp)) 0, cell_of (hG5 ob (.cells #[vI kd, vI ky, .string x] 23) (by simp)) 1, cell_of (hG5 ob (.cells #[vI kd, vI ky, .string x] 23) (by simp)) 2⟩
                      obtain ⟨⟨f0, f1, f2, f3⟩, f4, f5, f6, f7⟩ := c4of (show w5.heap[W.heap.size]? = some (.cells #[.bool false, .string ⟨#[]⟩, .slice none 0 0, .slice none 0 0] 43) from hz5)
                      refine HK'.out _ _ (fun _ => HS5) ?_
                      clear HK'
                      try simp only [Act.put, List.setIfInBounds_toArray, List.set_cons_zero, List.set_cons_succ]
                      refine wpAnyT_one (i := 6) rfl (by kernel_rfl) ?_
                      intro K' HK'
                      go_simp
                      obtain ⟨h6a, h6b⟩ := set4 (show w5.heap[W.heap.size]? = some (.cells #[.bool false, .string ⟨#[]⟩, .slice none 0 0, .slice none 0 0] 43) from hz5) (.bool ok) (.string val) (.slice ka kn kc) (.slice va vn vc)
                      have HR6 := hRh _ _ h6b h6a
                      generalize ((((w5.setCell ⟨W.heap.size, 0, none⟩ (.bool ok)).setCell ⟨W.heap.size, 1, none⟩ (.string val)).setCell ⟨W.heap.size, 2, none⟩ (.slice ka kn kc)).setCell ⟨W.heap.size, 3, none⟩ (.slice va vn vc)) = W6 at HR6 ⊢
                      clear hRh h6a h6b hz5 hG5 HS5 HS6 f0 f1 f2 f3 f4 f5 f6 f7
                      refine HK'.out _ _ (fun h => absurd rfl h) ?_
                      clear HK'
                      try simp only [Act.put, List.setIfInBounds_toArray, List.set_cons_zero, List.set_cons_succ]
                      refine wpAnyT_done (by kernel_rfl) ?_ _
                      go_wp2_with fail
                      go_meet
                      exact ⟨_, ok, val, ka, kn, kc, va, vn, vc, rfl, HR6⟩
                  case rest =>
                    obtain ⟨rb, ok, val, ka, kn, kc, va, vn, vc, rfl, HH⟩ := hcut
                    clear hcall hcallB HS0 z0 z1 z2 z3 y0 y1 y2 ks j0
                    have HH1 : Hd (Rh w wc.drew b1 b2 c1 c2 kb ((rb, .cells #[.bool ok, .string val, .slice ka kn kc, .slice va vn vc] 43) :: [(ob, .cells #[vI kd, vI ky, .string x] 23), (ba, pA b1 b2 51), (bb, pA c1 c2 55)]) i sum (kd, ky, x) ok val (.slice ka kn kc) (.slice va vn vc)) := HH.out.quiet (Fr.refl (fun _ => False) wc).drew
                    clear HH
                    have hcall := HH1.out.done (by omega) HKD.out
                    have hcallB := HH1.out.doneBox (by omega) HKD.out (.cells #[.bool false, .string ⟨#[]⟩, .slice none 0 0, .slice none 0 0] 43)
                    have HG0 : Hd (∀ b o, (b, o) ∈ ((rb, .cells #[.bool ok, .string val, .slice ka kn kc, .slice va vn vc] 43) :: [(ob, .cells #[vI kd, vI ky, .string x] 23), (ba, pA b1 b2 51), (bb, pA c1 c2 55)]) → wc.drew.heap[b]? = some o) := fun b o hx => HH1.out.get hx
                    have HS0 : (fun w' : World => w'.cell? ⟨bb, 0, none⟩ = some (.pointer (some ⟨c1, 0, none⟩)) ∧ w'.cell? ⟨bb, 1, none⟩ = some (.pointer (some ⟨c2, 0, none⟩)) ∧ w'.cell? ⟨ob, 0, none⟩ = some (vI kd) ∧ w'.cell? ⟨ob, 1, none⟩ = some (vI ky) ∧ w'.cell? ⟨ob, 2, none⟩ = some (.string x)) wc.drew := ⟨cell_of (HG0.out bb (pA c1 c2 55) (by simp)) 0, cell_of (HG0.out bb (pA c1 c2 55) (by simp)) 1, cell_of (HG0.out ob (.cells #[vI kd, vI ky, .string x] 23) (by simp)) 0, cell_of (HG0.out ob (.cells #[vI kd, vI ky, .string x] 23) (by simp)) 1, cell_of (HG0.out ob (.cells #[vI kd, vI ky, .string x] 23) (by simp)) 2⟩
                    obtain ⟨z2, z3, y0, y1, y2⟩ := HS0
                    have HS0 : (fun w' : World => w'.cell? ⟨bb, 0, none⟩ = some (.pointer (some ⟨c1, 0, none⟩)) ∧ w'.cell? ⟨bb, 1, none⟩ = some (.pointer (some ⟨c2, 0, none⟩)) ∧ w'.cell? ⟨ob, 0, none⟩ = some (vI kd) ∧ w'.cell? ⟨ob, 1, none⟩ = some (vI ky) ∧ w'.cell? ⟨ob, 2, none⟩ = some (.string x)) wc.drew := ⟨z2, z3, y0, y1, y2⟩
                    clear HH1
                    go_upto_region 18 with fail
                    go_cut [11] (fun x11 wx => ∃ (sb : Nat) (ka' : Option Addr) (kn' kc' : Nat) (va' : Option Addr) (vn' vc' : Nat), x11 = .pointer (some ⟨sb, 0, none⟩) ∧ Hd (Rs w wx b1 b2 c1 c2 kb ((sb, .cells #[.bool ok, .string val, .slice ka' kn' kc', .slice va' vn' vc'] 43) :: (rb, .cells #[.bool ok, .string val, .slice ka kn kc, .slice va vn vc] 43) :: [(ob, .cells #[vI kd, vI ky, .string x] 23), (ba, pA b1 b2 51), (bb, pA c1 c2 55)]) (i + 1) sum ∧ ∀ W, Fr (fun _ => False) wx W → Calls Try.prog 19 #[.agg #[.bool ok, .string val, .slice ka kn kc, .slice va vn vc], .agg #[.bool ok, .string val, .slice ka' kn' kc', .slice va' vn' vc']] W fun e w'' => e = .returned (.bool true) ∧ Fr (fun _ => False) W w''))
                    case first =>
                      refine wp_region_T (S := (fun w' : World => w'.cell? ⟨bb, 0, none⟩ = some (.pointer (some ⟨c1, 0, none⟩)) ∧ w'.cell? ⟨bb, 1, none⟩ = some (.pointer (some ⟨c2, 0, none⟩)) ∧ w'.cell? ⟨ob, 0, none⟩ = some (vI kd) ∧ w'.cell? ⟨ob, 1, none⟩ = some (vI ky) ∧ w'.cell? ⟨ob, 2, none⟩ = some (.string x))) (t := 6) mixed ?_
                      refine wpAnyT_takeAt (i := 0) 94 (v := ?_) rfl rfl (by kernel_rfl) (by kernel_rfl) (by kernel_rfl) (by kernel_rfl) (fun _ _ _ h => h) (Or.inl ⟨by rfl, fun w hSw => (by obtain ⟨g0, g1, g2, g3, g4⟩ := hSw; go_simp; try with_reducible rfl)⟩) HS0 ?_
                      simp only [Act.put, List.setIfInBounds_toArray, List.set_cons_zero, List.set_cons_succ]
                      refine wpAnyT_takeAt (i := 1) 95 (v := ?_) rfl rfl (by kernel_rfl) (by kernel_rfl) (by kernel_rfl) (by kernel_rfl) (fun _ _ _ h => h) (Or.inl ⟨by rfl, fun w hSw => (by obtain ⟨g0, g1, g2, g3, g4⟩ := hSw; go_simp; try with_reducible rfl)⟩) HS0 ?_
                      simp only [Act.put, List.setIfInBounds_toArray, List.set_cons_zero, List.set_cons_succ]
                      refine wpAnyT_takeAt (i := 2) 96 (v := ?_) rfl rfl (by kernel_rfl) (by kernel_rfl) (by kernel_rfl) (by kernel_rfl) (fun _ _ _ h => h) (Or.inl ⟨by rfl, fun w hSw => (by obtain ⟨g0, g1, g2, g3, g4⟩ := hSw; go_simp; try with_reducible rfl)⟩) HS0 ?_
                      simp only [Act.put, List.setIfInBounds_toArray, List.set_cons_zero, List.set_cons_succ]
                      refine wpAnyT_takeAt (i := 3) 97 (v := ?_) rfl rfl (by kernel_rfl) (by kernel_rfl) (by kernel_rfl) (by kernel_rfl) (fun _ _ _ h => h) (Or.inl ⟨by rfl, fun w hSw => (by obtain ⟨g0, g1, g2, g3, g4⟩ := hSw; go_simp; try with_reducible rfl)⟩) HS0 ?_
                      simp only [Act.put, List.setIfInBounds_toArray, List.set_cons_zero, List.set_cons_succ]
                      refine wpAnyT_two (i := 4) (j := 5) rfl rfl (by kernel_rfl) ?_ ?_
                      · intro K' HK'
                        go_simp
                        go_at_call 18
                        refine hcall.mono ?_
                        rintro _ w5 ⟨ka', kn', kc', va', vn', vc', rfl, hRh⟩
                        have HG5 : Hd (∀ b o, (b, o) ∈ ((rb, .cells #[.bool ok, .string val, .slice ka kn kc, .slice va vn vc] 43) :: [(ob, .cells #[vI kd, vI ky, .string x] 23), (ba, pA b1 b2 51), (bb, pA c1 c2 55)]) → w5.heap[b]? = some o) := fun b o hx => hRh.1.get hx
                        have HS5 : (fun w' : World => w'.cell? ⟨bb, 0, none⟩ = some (.pointer (some ⟨c1, 0, none⟩)) ∧ w'.cell? ⟨bb, 1, none⟩ = some (.pointer (some ⟨c2, 0, none⟩)) ∧ w'.cell? ⟨ob, 0, none⟩ = some (vI kd) ∧ w'.cell? ⟨ob, 1, none⟩ = some (vI ky) ∧ w'.cell? ⟨ob, 2, none⟩ = some (.string x)) w5 := ⟨cell_of (HG5.out bb (pA c1 c2 55) (by simp)) 0, cell_of (HG5.out bb (pA c1 c2 55) (by simp)) 1, cell_of (HG5.out ob (.cells #[vI kd, vI ky, .string x] 23) (by simp)) 0, cell_of (HG5.out ob (.cells #[vI kd, vI ky, .string x] 23) (by simp)) 1, cell_of (HG5.out ob (.cells #[vI kd, vI ky, .string x] 23) (by simp)) 2⟩
                        refine HK'.out _ _ (fun _ => HS5) ?_
                        clear HK'
                        try simp only [Act.put, List.setIfInBounds_toArray, List.set_cons_zero, List.set_cons_succ]
                        refine wpAnyT_one (i := 5) rfl (by kernel_rfl) ?_
                        intro K' HK'
                        go_simp
                        have HS6 : (fun w' : World => w'.cell? ⟨bb, 0, none⟩ = some (.pointer (some ⟨c1, 0, none⟩)) ∧ w'.cell? ⟨bb, 1, none⟩ = some (.pointer (some ⟨c2, 0, none⟩)) ∧ w'.cell? ⟨ob, 0, none⟩ = some (vI kd) ∧ w'.cell? ⟨ob, 1, none⟩ = some (vI ky) ∧ w'.cell? ⟨ob, 2, none⟩ = some (.string x)) (w5.alloc (.cells #[.bool false, .string ⟨#[]⟩, .slice none 0 0, .slice none 0 0] 43)) := by obtain ⟨g0, g1, g2, g3, g4⟩ := HS5; exact ⟨keepA _ g0, keepA _ g1, keepA _ g2, keepA _ g3, keepA _ g4⟩
                        refine HK'.out _ _ (fun _ => HS6) ?_
                        clear HK'
                        try simp only [Act.put, List.setIfInBounds_toArray, List.set_cons_zero, List.set_cons_succ]
                        refine wpAnyT_one (i := 6) rfl (by kernel_rfl) ?_
                        intro K' HK'
                        go_simp
                        refine HK'.out _ _ (fun h => absurd rfl h) ?_
                        clear HK'
                        try simp only [Act.put, List.setIfInBounds_toArray, List.set_cons_zero, List.set_cons_succ]
                        refine wpAnyT_done (by kernel_rfl) ?_ _
                        go_wp2_with fail
                        go_meet
                        exact ⟨_, ka', kn', kc', va', vn', vc', rfl, ⟨hRh.1.box _, fun W hW => hRh.2 W (((Fr.refl (fun _ => False) w5).alloc _).trans hW)⟩⟩
                      · intro K' HK'
                        go_simp
                        have HS6 : (fun w' : World => w'.cell? ⟨bb, 0, none⟩ = some (.pointer (some ⟨c1, 0, none⟩)) ∧ w'.cell? ⟨bb, 1, none⟩ = some (.pointer (some ⟨c2, 0, none⟩)) ∧ w'.cell? ⟨ob, 0, none⟩ = some (vI kd) ∧ w'.cell? ⟨ob, 1, none⟩ = some (vI ky) ∧ w'.cell? ⟨ob, 2, none⟩ = some (.string x)) (wc.drew.alloc (.cells #[.bool false, .string ⟨#[]⟩, .slice none 0 0, .slice none 0 0] 43)) := by obtain ⟨g0, g1, g2, g3, g4⟩ := HS0; exact ⟨keepA _ g0, keepA _ g1, keepA _ g2, keepA _ g3, keepA _ g4⟩
                        refine HK'.out _ _ (fun _ => HS6) ?_
                        clear HK'
                        try simp only [Act.put, List.setIfInBounds_toArray, List.set_cons_zero, List.set_cons_succ]
                        refine wpAnyT_one (i := 4) rfl (by kernel_rfl) ?_
                        intro K' HK'
                        go_simp
                        go_at_call 18
                        refine hcallB.mono ?_
                        rintro _ w5 ⟨ka', kn', kc', va', vn', vc', rfl, hz5, hG5, hRh⟩
                        have HS5 : (fun w' : World => w'.cell? ⟨bb, 0, none⟩ = some (.pointer (some ⟨c1, 0, none⟩)) ∧ w'.cell? ⟨bb, 1, none⟩ = some (.pointer (some ⟨c2, 0, none⟩)) ∧ w'.cell? ⟨ob, 0, none⟩ = some (vI kd) ∧ w'.cell? ⟨ob, 1, none⟩ = some (vI ky) ∧ w'.cell? ⟨ob, 2, none⟩ = some (.string x)) w5 := ⟨cell_of (hG5 bb (pA c1 c2 55) (by simp)) 0, cell_of (hG5 bb (pA c1 c2 55) (by simp)) 1, cell_of (hG5 ob (.cells #[vI kd, vI ky, .string x] 23) (by simp)) 0, cell_of (hG5 ob (.cells #[vI kd, vI ky, .string x] 23) (by simp)) 1, cell_of (hG5 ob (.cells #[vI kd, vI ky, .string x] 23) (by simp)) 2⟩
                        obtain ⟨⟨f0, f1, f2, f3⟩, f4, f5, f6, f7⟩ := c4of (show w5.heap[wc.heap.size]? = some (.cells #[.bool false, .string ⟨#[]⟩, .slice none 0 0, .slice none 0 0] 43) from hz5)
                        refine HK'.out _ _ (fun _ => HS5) ?_
                        clear HK'
                        try simp only [Act.put, List.setIfInBounds_toArray, List.set_cons_zero, List.set_cons_succ]
                        refine wpAnyT_one (i := 6) rfl (by kernel_rfl) ?_
                        intro K' HK'
                        go_simp
                        obtain ⟨h6a, h6b⟩ := set4 (show w5.heap[wc.heap.size]? = some (.cells #[.bool false, .string ⟨#[]⟩, .slice none 0 0, .slice none 0 0] 43) from hz5) (.bool ok) (.string val) (.slice ka' kn' kc') (.slice va' vn' vc')
                        have HR6 := hRh _ _ h6b h6a
                        generalize ((((w5.setCell ⟨wc.heap.size, 0, none⟩ (.bool ok)).setCell ⟨wc.heap.size, 1, none⟩ (.string val)).setCell ⟨wc.heap.size, 2, none⟩ (.slice ka' kn' kc')).setCell ⟨wc.heap.size, 3, none⟩ (.slice va' vn' vc')) = W6 at HR6 ⊢
                        clear hRh h6a h6b hz5 hG5 HS5 HS6 f0 f1 f2 f3 f4 f5 f6 f7
                        refine HK'.out _ _ (fun h => absurd rfl h) ?_
                        clear HK'
                        try simp only [Act.put, List.setIfInBounds_toArray, List.set_cons_zero, List.set_cons_succ]
                        refine wpAnyT_done (by kernel_rfl) ?_ _
                        go_wp2_with fail
                        go_meet
                        exact ⟨_, ka', kn', kc', va', vn', vc', rfl, HR6⟩
                    case rest =>
                      obtain ⟨sb, ka', kn', kc', va', vn', vc', rfl, HH⟩ := hcut
                      clear hcall hcallB HS0 HG0 z2 z3 y0 y1 y2
                      have HG0 : Hd (∀ b o, (b, o) ∈ ((sb, .cells #[.bool ok, .string val, .slice ka' kn' kc', .slice va' vn' vc'] 43) :: (rb, .cells #[.bool ok, .string val, .slice ka kn kc, .slice va vn vc] 43) :: [(ob, .cells #[vI kd, vI ky, .string x] 23), (ba, pA b1 b2 51), (bb, pA c1 c2 55)]) → wc.heap[b]? = some o) := fun b o hx => HH.out.1.get hx
                      obtain ⟨⟨f0, f1, f2, f3⟩, -⟩ := c4of (HG0.out rb (.cells #[.bool ok, .string val, .slice ka kn kc, .slice va vn vc] 43) (List.mem_cons_of_mem _ List.mem_cons_self))
                      obtain ⟨⟨f4, f5, f6, f7⟩, -⟩ := c4of (HG0.out sb (.cells #[.bool ok, .string val, .slice ka' kn' kc', .slice va' vn' vc'] 43) List.mem_cons_self)
                      go_wp2_with fail
                      refine (HH.out.2 _ (Fr.refl _ _)).mono ?_
                      rintro _ w6 ⟨rfl, hF6⟩
                      have H5 : Hd (Rs w w6 b1 b2 c1 c2 kb [(ba, pA b1 b2 51), (bb, pA c1 c2 55)] (i + 1) sum) := ((HH.out.1.quiet hF6).drop (fun y hy => List.mem_cons_of_mem _ (List.mem_cons_of_mem _ (List.mem_cons_of_mem _ hy))))
                      clear HH HG0 f0 f1 f2 f3 f4 f5 f6 f7 hF6
                      go_wp2_with fail
                      exact ⟨⟨i + 1, sum, rfl, cast1 i, hlt, hsum, H5⟩, meas hlt⟩
                · go_upto_region 17 with fail
                  go_cut [10] (fun x10 wx => ∃ (rb : Nat) (ok : Bool) (val : ByteArray) (ka : Option Addr) (kn kc : Nat) (va : Option Addr) (vn vc : Nat), x10 = .pointer (some ⟨rb, 0, none⟩) ∧ Hd (Rh w wx b1 b2 c1 c2 kb ((rb, .cells #[.bool ok, .string val, .slice ka kn kc, .slice va vn vc] 43) :: [(ob, .cells #[vI kd, vI ky, .string x] 23), (ba, pA b1 b2 51), (bb, pA c1 c2 55)]) i sum (kd, ky, x) ok val (.slice ka kn kc) (.slice va vn vc)))
                  case first =>
                    refine wp_region_T (S := (fun w' : World => w'.cell? ⟨ba, 0, none⟩ = some (.pointer (some ⟨b1, 0, none⟩)) ∧ w'.cell? ⟨ba, 1, none⟩ = some (.pointer (some ⟨b2, 0, none⟩)) ∧ w'.cell? ⟨ob, 0, none⟩ = some (vI kd) ∧ w'.cell? ⟨ob, 1, none⟩ = some (vI ky) ∧ w'.cell? ⟨ob, 2, none⟩ = some (.string x))) (t := 6) mixed ?_
                    refine wpAnyT_takeAt (i := 0) 89 (v := ?_) rfl rfl (by kernel_rfl) (by kernel_rfl) (by kernel_rfl) (by kernel_rfl) (fun _ _ _ h => h) (Or.inl ⟨by rfl, fun w hSw => (by obtain ⟨g0, g1, g2, g3, g4⟩ := hSw; go_simp; try with_reducible rfl)⟩) HS0 ?_
                    simp only [Act.put, List.setIfInBounds_toArray, List.set_cons_zero, List.set_cons_succ]
                    refine wpAnyT_takeAt (i := 1) 90 (v := ?_) rfl rfl (by kernel_rfl) (by kernel_rfl) (by kernel_rfl) (by kernel_rfl) (fun _ _ _ h => h) (Or.inl ⟨by rfl, fun w hSw => (by obtain ⟨g0, g1, g2, g3, g4⟩ := hSw; go_simp; try with_reducible rfl)⟩) HS0 ?_
                    simp only [Act.put, List.setIfInBounds_toArray, List.set_cons_zero, List.set_cons_succ]
                    refine wpAnyT_takeAt (i := 2) 91 (v := ?_) rfl rfl (by kernel_rfl) (by kernel_rfl) (by kernel_rfl) (by kernel_rfl) (fun _ _ _ h => h) (Or.inl ⟨by rfl, fun w hSw => (by obtain ⟨g0, g1, g2, g3, g4⟩ := hSw; go_simp; try with_reducible rfl)⟩) HS0 ?_
                    simp only [Act.put, List.setIfInBounds_toArray, List.set_cons_zero, List.set_cons_succ]
                    refine wpAnyT_takeAt (i := 3) 92 (v := ?_) rfl rfl (by kernel_rfl) (by kernel_rfl) (by kernel_rfl) (by kernel_rfl) (fun _ _ _ h => h) (Or.inl ⟨by rfl, fun w hSw => (by obtain ⟨g0, g1, g2, g3, g4⟩ := hSw; go_simp; try with_reducible rfl)⟩) HS0 ?_
                    simp only [Act.put, List.setIfInBounds_toArray, List.set_cons_zero, List.set_cons_succ]
                    refine wpAnyT_two (i := 4) (j := 5) rfl rfl (by kernel_rfl) ?_ ?_
                    · intro K' HK'
                      go_simp
                      go_at_call 17
                      refine hcall.mono ?_
                      rintro _ w5 ⟨ok, val, ka, kn, kc, va, vn, vc, rfl, hRh⟩
                      have HG5 : Hd (∀ b o, (b, o) ∈ [(ob, .cells #[vI kd, vI ky, .string x] 23), (ba, pA b1 b2 51), (bb, pA c1 c2 55)] → w5.heap[b]? = some o) := fun b o hx => hRh.get hx
                      have HS5 : (fun w' : World => w'.cell? ⟨ba, 0, none⟩ = some (.pointer (some ⟨b1, 0, none⟩)) ∧ w'.cell? ⟨ba, 1, none⟩ = some (.pointer (some ⟨b2, 0, none⟩)) ∧ w'.cell? ⟨ob, 0, none⟩ = some (vI kd) ∧ w'.cell? ⟨ob, 1, none⟩ = some (vI ky) ∧ w'.cell? ⟨ob, 2, none⟩ = some (.string x)) w5 := ⟨cell_of (HG5.out ba (pA b1 b2 51) (by simp)) 0, cell_of (HG5.out ba (pA b1 b2 51) (by simp)) 1, cell_of (HG5.out ob (.cells #[vI kd, vI ky, .string x] 23) (by simp)) 0, cell_of (HG5.out ob (.cells #[vI kd, vI ky, .string x] 23) (by simp)) 1, cell_of (HG5.out ob (.cells #[vI kd, vI ky, .string x] 23) (by simp)) 2⟩
                      refine HK'.out _ _ (fun _ => HS5) ?_
                      clear HK'
                      try simp only [Act.put, List.setIfInBounds_toArray, List.set_cons_zero, List.set_cons_succ]
                      refine wpAnyT_one (i := 5) rfl (by kernel_rfl) ?_
                      intro K' HK'
                      go_simp
                      have HS6 : (fun w' : World => w'.cell? ⟨ba, 0, none⟩ = some (.pointer (some ⟨b1, 0, none⟩)) ∧ w'.cell? ⟨ba, 1, none⟩ = some (.pointer (some ⟨b2, 0, none⟩)) ∧ w'.cell? ⟨ob, 0, none⟩ = some (vI kd) ∧ w'.cell? ⟨ob, 1, none⟩ = some (vI ky) ∧ w'.cell? ⟨ob, 2, none⟩ = some (.string x)) (w5.alloc (.cells #[.bool false, .string ⟨#[]⟩, .slice none 0 0, .slice none 0 0] 43)) := by obtain ⟨g0, g1, g2, g3, g4⟩ := HS5; exact ⟨keepA _ g0, keepA _ g1, keepA _ g2, keepA _ g3, keepA _ g4⟩
                      refine HK'.out _ _ (fun _ => HS6) ?_
                      clear HK'
                      try simp only [Act.put, List.setIfInBounds_toArray, List.set_cons_zero, List.set_cons_succ]
                      refine wpAnyT_one (i := 6) rfl (by kernel_rfl) ?_
                      intro K' HK'
                      go_simp
                      refine HK'.out _ _ (fun h => absurd rfl h) ?_
                      clear HK'
                      try simp only [Act.put, List.setIfInBounds_toArray, List.set_cons_zero, List.set_cons_succ]
                      refine wpAnyT_done (by kernel_rfl) ?_ _
                      go_wp2_with fail
                      go_meet
                      exact ⟨_, ok, val, ka, kn, kc, va, vn, vc, rfl, hRh.box _⟩
                    · intro K' HK'
                      go_simp
                      have HS6 : (fun w' : World => w'.cell? ⟨ba, 0, none⟩ = some (.pointer (some ⟨b1, 0, none⟩)) ∧ w'.cell? ⟨ba, 1, none⟩ = some (.pointer (some ⟨b2, 0, none⟩)) ∧ w'.cell? ⟨ob, 0, none⟩ = some (vI kd) ∧ w'.cell? ⟨ob, 1, none⟩ = some (vI ky) ∧ w'.cell? ⟨ob, 2, none⟩ = some (.string x)) (W.drew.alloc (.cells #[.bool false, .string ⟨#[]⟩, .slice none 0 0, .slice none 0 0] 43)) := by obtain ⟨g0, g1, g2, g3, g4⟩ := HS0; exact ⟨keepA _ g0, keepA _ g1, keepA _ g2, keepA _ g3, keepA _ g4⟩
                      refine HK'.out _ _ (fun _ => HS6) ?_
                      clear HK'
                      try simp only [Act.put, List.setIfInBounds_toArray, List.set_cons_zero, List.set_cons_succ]
                      refine wpAnyT_one (i := 4) rfl (by kernel_rfl) ?_
                      intro K' HK'
                      go_simp
                      go_at_call 17
                      refine hcallB.mono ?_
                      rintro _ w5 ⟨ok, val, ka, kn, kc, va, vn, vc, rfl, hz5, hG5, hRh⟩
                      have HS5 : (fun w' : World => w'.cell? ⟨ba, 0, none⟩ = some (.pointer (some ⟨b1, 0, none⟩)) ∧ w'.cell? ⟨ba, 1, none⟩ = some (.pointer (some ⟨b2, 0, none⟩)) ∧ w'.cell? ⟨ob, 0, none⟩ = some (vI kd) ∧ w'.cell? ⟨ob, 1, none⟩ = some (vI ky) ∧ w'.cell? ⟨ob, 2, none⟩ = some (.string x)) w5 := ⟨cell_of (hG5 ba (pA b1 b2 51) (by simp)) 0, cell_of (hG5 ba (pA b1 b2 51) (by simp)) 1, cell_of (hG5 ob (.cells #[vI kd, vI ky, .string x] 23) (by simp)) 0, cell_of (hG5 ob (.cells #[vI kd, vI ky, .string x] 23) (by simp)) 1, cell_of (hG5 ob (.cells #[vI kd, vI ky, .string x] 23) (by simp)) 2⟩
                      obtain ⟨⟨f0, f1, f2, f3⟩, f4, f5, f6, f7⟩ := c4of (show w5.heap[W.heap.size]? = some (.cells #[.bool false, .string ⟨#[]⟩, .slice none 0 0, .slice none 0 0] 43) from hz5)
                      refine HK'.out _ _ (fun _ => HS5) ?_
                      clear HK'
                      try simp only [Act.put, List.setIfInBounds_toArray, List.set_cons_zero, List.set_cons_succ]
                      refine wpAnyT_one (i := 6) rfl (by kernel_rfl) ?_
                      intro K' HK'
                      go_simp
                      obtain ⟨h6a, h6b⟩ := set4 (show w5.heap[W.heap.size]? = some (.cells #[.bool false, .string ⟨#[]⟩, .slice none 0 0, .slice none 0 0] 43) from hz5) (.bool ok) (.string val) (.slice ka kn kc) (.slice va vn vc)
                      have HR6 := hRh _ _ h6b h6a
                      generalize ((((w5.setCell ⟨W.heap.size, 0, none⟩ (.bool ok)).setCell ⟨W.heap.size, 1, none⟩ (.string val)).setCell ⟨W.heap.size, 2, none⟩ (.slice ka kn kc)).setCell ⟨W.heap.size, 3, none⟩ (.slice va vn vc)) = W6 at HR6 ⊢
                      clear hRh h6a h6b hz5 hG5 HS5 HS6 f0 f1 f2 f3 f4 f5 f6 f7
                      refine HK'.out _ _ (fun h => absurd rfl h) ?_
                      clear HK'
                      try simp only [Act.put, List.setIfInBounds_toArray, List.set_cons_zero, List.set_cons_succ]
                      refine wpAnyT_done (by kernel_rfl) ?_ _
                      go_wp2_with fail
                      go_meet
                      exact ⟨_, ok, val, ka, kn, kc, va, vn, vc, rfl, HR6⟩
                  case rest =>
                    obtain ⟨rb, ok, val, ka, kn, kc, va, vn, vc, rfl, HH⟩ := hcut
                    clear hcall hcallB HS0 z0 z1 z2 z3 y0 y1 y2 ks j0
                    have HH1 : Hd (Rh w wc.drew b1 b2 c1 c2 kb ((rb, .cells #[.bool ok, .string val, .slice ka kn kc, .slice va vn vc] 43) :: [(ob, .cells #[vI kd, vI ky, .string x] 23), (ba, pA b1 b2 51), (bb, pA c1 c2 55)]) i sum (kd, ky, x) ok val (.slice ka kn kc) (.slice va vn vc)) := HH.out.quiet (Fr.refl (fun _ => False) wc).drew
                    clear HH
                    have hcall := HH1.out.done (by omega) HKD.out
                    have hcallB := HH1.out.doneBox (by omega) HKD.out (.cells #[.bool false, .string ⟨#[]⟩, .slice none 0 0, .slice none 0 0] 43)
                    have HG0 : Hd (∀ b o, (b, o) ∈ ((rb, .cells #[.bool ok, .string val, .slice ka kn kc, .slice va vn vc] 43) :: [(ob, .cells #[vI kd, vI ky, .string x] 23), (ba, pA b1 b2 51), (bb, pA c1 c2 55)]) → wc.drew.heap[b]? = some o) := fun b o hx => HH1.out.get hx
                    have HS0 : (fun w' : World => w'.cell? ⟨bb, 0, none⟩ = some (.pointer (some ⟨c1, 0, none⟩)) ∧ w'.cell? ⟨bb, 1, none⟩ = some (.pointer (some ⟨c2, 0, none⟩)) ∧ w'.cell? ⟨ob, 0, none⟩ = some (vI kd) ∧ w'.cell? ⟨ob, 1, none⟩ = some (vI ky) ∧ w'.cell? ⟨ob, 2, none⟩ = some (.string x)) wc.drew := ⟨cell_of (HG0.out bb (pA c1 c2 55) (by simp)) 0, cell_of (HG0.out bb (pA c1 c2 55) (by simp)) 1, cell_of (HG0.out ob (.cells #[vI kd, vI ky, .string x] 23) (by simp)) 0, cell_of (HG0.out ob (.cells #[vI kd, vI ky, .string x] 23) (by simp)) 1, cell_of (HG0.out ob (.cells #[vI kd, vI ky, .string x] 23) (by simp)) 2⟩
                    obtain ⟨z2, z3, y0, y1, y2⟩ := HS0
                    have HS0 : (fun w' : World => w'.cell? ⟨bb, 0, none⟩ = some (.pointer (some ⟨c1, 0, none⟩)) ∧ w'.cell? ⟨bb, 1, none⟩ = some (.pointer (some ⟨c2, 0, none⟩)) ∧ w'.cell? ⟨ob, 0, none⟩ = some (vI kd) ∧ w'.cell? ⟨ob, 1, none⟩ = some (vI ky) ∧ w'.cell? ⟨ob, 2, none⟩ = some (.string x)) wc.drew := ⟨z2, z3, y0, y1, y2⟩
                    clear HH1
                    go_upto_region 18 with fail
                    go_cut [11] (fun x11 wx => ∃ (sb : Nat) (ka' : Option Addr) (kn' kc' : Nat) (va' : Option Addr) (vn' vc' : Nat), x11 = .pointer (some ⟨sb, 0, none⟩) ∧ Hd (Rs w wx b1 b2 c1 c2 kb ((sb, .cells #[.bool ok, .string val, .slice ka' kn' kc', .slice va' vn' vc'] 43) :: (rb, .cells #[.bool ok, .string val, .slice ka kn kc, .slice va vn vc] 43) :: [(ob, .cells #[vI kd, vI ky, .string x] 23), (ba, pA b1 b2 51), (bb, pA c1 c2 55)]) (i + 1) sum ∧ ∀ W, Fr (fun _ => False) wx W → Calls Try.prog 19 #[.agg #[.bool ok, .string val, .slice ka kn kc, .slice va vn vc], .agg #[.bool ok, .string val, .slice ka' kn' kc', .slice va' vn' vc']] W fun e w'' => e = .returned (.bool true) ∧ Fr (fun _ => False) W w''))
                    case first =>
                      refine wp_region_T (S := (fun w' : World => w'.cell? ⟨bb, 0, none⟩ = some (.pointer (some ⟨c1, 0, none⟩)) ∧ w'.cell? ⟨bb, 1, none⟩ = some (.pointer (some ⟨c2, 0, none⟩)) ∧ w'.cell? ⟨ob, 0, none⟩ = some (vI kd) ∧ w'.cell? ⟨ob, 1, none⟩ = some (vI ky) ∧ w'.cell? ⟨ob, 2, none⟩ = some (.string x))) (t := 6) mixed ?_
                      refine wpAnyT_takeAt (i := 0) 94 (v := ?_) rfl rfl (by kernel_rfl) (by kernel_rfl) (by kernel_rfl) (by kernel_rfl) (fun _ _ _ h => h) (Or.inl ⟨by rfl, fun w hSw => (by obtain ⟨g0, g1, g2, g3, g4⟩ := hSw; go_simp; try with_reducible rfl)⟩) HS0 ?_
                      simp only [Act.put, List.setIfInBounds_toArray, List.set_cons_zero, List.set_cons_succ]
                      refine wpAnyT_takeAt (i := 1) 95 (v := ?_) rfl rfl (by kernel_rfl) (by kernel_rfl) (by kernel_rfl) (by kernel_rfl) (fun _ _ _ h => h) (Or.inl ⟨by rfl, fun w hSw => (by obtain ⟨g0, g1, g2, g3, g4⟩ := hSw; go_simp; try with_reducible rfl)⟩) HS0 ?_
                      simp only [Act.put, List.setIfInBounds_toArray, List.set_cons_zero, List.set_cons_succ]
                      refine wpAnyT_takeAt (i := 2) 96 (v := ?_) rfl rfl (by kernel_rfl) (by kernel_rfl) (by kernel_rfl) (by kernel_rfl) (fun _ _ _ h => h) (Or.inl ⟨by rfl, fun w hSw => (by obtain ⟨g0, g1, g2, g3, g4⟩ := hSw; go_simp; try with_reducible rfl)⟩) HS0 ?_
                      simp only [Act.put, List.setIfInBounds_toArray, List.set_cons_zero, List.set_cons_succ]
                      refine wpAnyT_takeAt (i := 3) 97 (v := ?_) rfl rfl (by kernel_rfl) (by kernel_rfl) (by kernel_rfl) (by kernel_rfl) (fun _ _ _ h => h) (Or.inl ⟨by rfl, fun w hSw => (by obtain ⟨g0, g1, g2, g3, g4⟩ := hSw; go_simp; try with_reducible rfl)⟩) HS0 ?_
                      simp only [Act.put, List.setIfInBounds_toArray, List.set_cons_zero, List.set_cons_succ]
                      refine wpAnyT_two (i := 4) (j := 5) rfl rfl (by kernel_rfl) ?_ ?_
                      · intro K' HK'
                        go_simp
                        go_at_call 18
                        refine hcall.mono ?_
                        rintro _ w5 ⟨ka', kn', kc', va', vn', vc', rfl, hRh⟩
                        have HG5 : Hd (∀ b o, (b, o) ∈ ((rb, .cells #[.bool ok, .string val, .slice ka kn kc, .slice va vn vc] 43) :: [(ob, .cells #[vI kd, vI ky, .string x] 23), (ba, pA b1 b2 51), (bb, pA c1 c2 55)]) → w5.heap[b]? = some o) := fun b o hx => hRh.1.get hx
                        have HS5 : (fun w' : World => w'.cell? ⟨bb, 0, none⟩ = some (.pointer (some ⟨c1, 0, none⟩)) ∧ w'.cell? ⟨bb, 1, none⟩ = some (.pointer (some ⟨c2, 0, none⟩)) ∧ w'.cell? ⟨ob, 0, none⟩ = some (vI kd) ∧ w'.cell? ⟨ob, 1, none⟩ = some (vI ky) ∧ w'.cell? ⟨ob, 2, none⟩ = some (.string x)) w5 := ⟨cell_of (HG5.out bb (pA c1 c2 55) (by simp)) 0, cell_of (HG5.out bb (pA c1 c2 55) (by simp)) 1, cell_of (HG5.out ob (.cells #[vI kd, vI ky, .string x] 23) (by simp)) 0, cell_of (HG5.out ob (.cells #[vI kd, vI ky, .string x] 23) (by simp)) 1, cell_of (HG5.out ob (.cells #[vI kd, vI ky, .string x] 23) (by simp)) 2⟩
                        refine HK'.out _ _ (fun _ => HS5) ?_
                        clear HK'
                        try simp only [Act.put, List.setIfInBounds_toArray, List.set_cons_zero, List.set_cons_succ]
                        refine wpAnyT_one (i := 5) rfl (by kernel_rfl) ?_
                        intro K' HK'
                        go_simp
                        have HS6 : (fun w' : World => w'.cell? ⟨bb, 0, none⟩ = some (.pointer (some ⟨c1, 0, none⟩)) ∧ w'.cell? ⟨bb, 1, none⟩ = some (.pointer (some ⟨c2, 0, none⟩)) ∧ w'.cell? ⟨ob, 0, none⟩ = some (vI kd) ∧ w'.cell? ⟨ob, 1, none⟩ = some (vI ky) ∧ w'.cell? ⟨ob, 2, none⟩ = some (.string x)) (w5.alloc (.cells #[.bool false, .string ⟨#[]⟩, .slice none 0 0, .slice none 0 0] 43)) := by obtain ⟨g0, g1, g2, g3, g4⟩ := HS5; exact ⟨keepA _ g0, keepA _ g1, keepA _ g2, keepA _ g3, keepA _ g4⟩
                        refine HK'.out _ _ (fun _ => HS6) ?_
                        clear HK'
                        try simp only [Act.put, List.setIfInBounds_toArray, List.set_cons_zero, List.set_cons_succ]
                        refine wpAnyT_one (i := 6) rfl (by kernel_rfl) ?_
                        intro K' HK'
                        go_simp
                        refine HK'.out _ _ (fun h => absurd rfl h) ?_
                        clear HK'
                        try simp only [Act.put, List.setIfInBounds_toArray, List.set_cons_zero, List.set_cons_succ]
                        refine wpAnyT_done (by kernel_rfl) ?_ _
                        go_wp2_with fail
                        go_meet
                        exact ⟨_, ka', kn', kc', va', vn', vc', rfl, ⟨hRh.1.box _, fun W hW => hRh.2 W (((Fr.refl (fun _ => False) w5).alloc _).trans hW)⟩⟩
                      · intro K' HK'
                        go_simp
                        have HS6 : (fun w' : World => w'.cell? ⟨bb, 0, none⟩ = some (.pointer (some ⟨c1, 0, none⟩)) ∧ w'.cell? ⟨bb, 1, none⟩ = some (.pointer (some ⟨c2, 0, none⟩)) ∧ w'.cell? ⟨ob, 0, none⟩ = some (vI kd) ∧ w'.cell? ⟨ob, 1, none⟩ = some (vI ky) ∧ w'.cell? ⟨ob, 2, none⟩ = some (.string x)) (wc.drew.alloc (.cells #[.bool false, .string ⟨#[]⟩, .slice none 0 0, .slice none 0 0] 43)) := by obtain ⟨g0, g1, g2, g3, g4⟩ := HS0; exact ⟨keepA _ g0, keepA _ g1, keepA _ g2, keepA _ g3, keepA _ g4⟩
                        refine HK'.out _ _ (fun _ => HS6) ?_
                        clear HK'
                        try simp only [Act.put, List.setIfInBounds_toArray, List.set_cons_zero, List.set_cons_succ]
                        refine wpAnyT_one (i := 4) rfl (by kernel_rfl) ?_
                        intro K' HK'
                        go_simp
                        go_at_call 18
                        refine hcallB.mono ?_
                        rintro _ w5 ⟨ka', kn', kc', va', vn', vc', rfl, hz5, hG5, hRh⟩
                        have HS5 : (fun w' : World => w'.cell? ⟨bb, 0, none⟩ = some (.pointer (some ⟨c1, 0, none⟩)) ∧ w'.cell? ⟨bb, 1, none⟩ = some (.pointer (some ⟨c2, 0, none⟩)) ∧ w'.cell? ⟨ob, 0, none⟩ = some (vI kd) ∧ w'.cell? ⟨ob, 1, none⟩ = some (vI ky) ∧ w'.cell? ⟨ob, 2, none⟩ = some (.string x)) w5 := ⟨cell_of (hG5 bb (pA c1 c2 55) (by simp)) 0, cell_of (hG5 bb (pA c1 c2 55) (by simp)) 1, cell_of (hG5 ob (.cells #[vI kd, vI ky, .string x] 23) (by simp)) 0, cell_of (hG5 ob (.cells #[vI kd, vI ky, .string x] 23) (by simp)) 1, cell_of (hG5 ob (.cells #[vI kd, vI ky, .string x] 23) (by simp)) 2⟩
                        obtain ⟨⟨f0, f1, f2, f3⟩, f4, f5, f6, f7⟩ := c4of (show w5.heap[wc.heap.size]? = some (.cells #[.bool false, .string ⟨#[]⟩, .slice none 0 0, .slice none 0 0] 43) from hz5)
                        refine HK'.out _ _ (fun _ => HS5) ?_
                        clear HK'
                        try simp only [Act.put, List.setIfInBounds_toArray, List.set_cons_zero, List.set_cons_succ]
                        refine wpAnyT_one (i := 6) rfl (by kernel_rfl) ?_
                        intro K' HK'
                        go_simp
                        obtain ⟨h6a, h6b⟩ := set4 (show w5.heap[wc.heap.size]? = some (.cells #[.bool false, .string ⟨#[]⟩, .slice none 0 0, .slice none 0 0] 43) from hz5) (.bool ok) (.string val) (.slice ka' kn' kc') (.slice va' vn' vc')
                        have HR6 := hRh _ _ h6b h6a
                        generalize ((((w5.setCell ⟨wc.heap.size, 0, none⟩ (.bool ok)).setCell ⟨wc.heap.size, 1, none⟩ (.string val)).setCell ⟨wc.heap.size, 2, none⟩ (.slice ka' kn' kc')).setCell ⟨wc.heap.size, 3, none⟩ (.slice va' vn' vc')) = W6 at HR6 ⊢
                        clear hRh h6a h6b hz5 hG5 HS5 HS6 f0 f1 f2 f3 f4 f5 f6 f7
                        refine HK'.out _ _ (fun h => absurd rfl h) ?_
                        clear HK'
                        try simp only [Act.put, List.setIfInBounds_toArray, List.set_cons_zero, List.set_cons_succ]
                        refine wpAnyT_done (by kernel_rfl) ?_ _
                        go_wp2_with fail
                        go_meet
                        exact ⟨_, ka', kn', kc', va', vn', vc', rfl, HR6⟩
                    case rest =>
                      obtain ⟨sb, ka', kn', kc', va', vn', vc', rfl, HH⟩ := hcut
                      clear hcall hcallB HS0 HG0 z2 z3 y0 y1 y2
                      have HG0 : Hd (∀ b o, (b, o) ∈ ((sb, .cells #[.bool ok, .string val, .slice ka' kn' kc', .slice va' vn' vc'] 43) :: (rb, .cells #[.bool ok, .string val, .slice ka kn kc, .slice va vn vc] 43) :: [(ob, .cells #[vI kd, vI ky, .string x] 23), (ba, pA b1 b2 51), (bb, pA c1 c2 55)]) → wc.heap[b]? = some o) := fun b o hx => HH.out.1.get hx
                      obtain ⟨⟨f0, f1, f2, f3⟩, -⟩ := c4of (HG0.out rb (.cells #[.bool ok, .string val, .slice ka kn kc, .slice va vn vc] 43) (List.mem_cons_of_mem _ List.mem_cons_self))
                      obtain ⟨⟨f4, f5, f6, f7⟩, -⟩ := c4of (HG0.out sb (.cells #[.bool ok, .string val, .slice ka' kn' kc', .slice va' vn' vc'] 43) List.mem_cons_self)
                      go_wp2_with fail
                      refine (HH.out.2 _ (Fr.refl _ _)).mono ?_
                      rintro _ w6 ⟨rfl, hF6⟩
                      have H5 : Hd (Rs w w6 b1 b2 c1 c2 kb [(ba, pA b1 b2 51), (bb, pA c1 c2 55)] (i + 1) sum) := ((HH.out.1.quiet hF6).drop (fun y hy => List.mem_cons_of_mem _ (List.mem_cons_of_mem _ (List.mem_cons_of_mem _ hy))))
                      clear HH HG0 f0 f1 f2 f3 f4 f5 f6 f7 hF6
                      go_wp2_with fail
                      exact ⟨⟨i + 1, sum, rfl, cast1 i, hlt, hsum, H5⟩, meas hlt⟩
            · rw [e2] at hand
              have HS : Hd (Rs w W.drew b2 b1 c2 c1 kb [(ob, .cells #[vI kd, vI ky, .string x] 23), (ba, pA b1 b2 51), (bb, pA c1 c2 55)] i sum) := (H1.out.quiet ((Fr.refl (fun _ => False) W).drew)).swap
              clear H1 HEND
              by_cases hq : kd = 3 ∧ sum < 100000
              · have q1 : (kd == 3) = true := by simpa using hq.1
                have q2 : decide ((sum : Int) < 100000) = true := by simp; omega
                have hcall := HS.out.asks (by omega) (by omega)
                clear HS
                go_wp2_with fail
                refine wp_region_still_tail 15 mixed (by kernel_rfl) ?_
                simp only [List.take_succ_cons, List.take_zero, List.drop_succ_cons, List.drop_zero]
                repeat still_step
                refine wpStill_nil ?_
                go_wp2_with fail
                refine hcall.mono ?_
                rintro _ w5 ⟨rfl, sum', h5, hs5⟩
                have H5 : Hd (Rs w w5 b1 b2 c1 c2 kb [(ba, pA b1 b2 51), (bb, pA c1 c2 55)] (i + 1) sum') := (h5.swap.drop (fun y hy => List.mem_cons_of_mem _ hy))
                clear h5 hcall y0 y1 y2 ks z0 z1 z2 z3 j0
                go_wp2_with fail
                exact ⟨⟨i + 1, sum', by simp, by simp, by omega, by omega, H5⟩, by simp; omega⟩
              · have hcall := HS.out.does (by omega) kd ky x hkd HK.out
                have hcallB := HS.out.doesBox (by omega) kd ky x hkd HK.out (.cells #[.bool false, .string ⟨#[]⟩, .slice none 0 0, .slice none 0 0] 43)
                have HKD : Hd (kd = 1 ∨ kd = 2 ∨ kd = 3) := hkd
                have HQ : ((kd == 3) = true ∧ decide ((sum : Int) < 100000) = false) ∨ (kd == 3) = false := by
                  by_cases q1 : kd = 3
                  · exact Or.inl ⟨by simpa using q1, by simp; omega⟩
                  · exact Or.inr (by simpa using q1)
                clear HS
                have HS0 : (fun w' : World => w'.cell? ⟨ba, 0, none⟩ = some (.pointer (some ⟨b1, 0, none⟩)) ∧ w'.cell? ⟨ba, 1, none⟩ = some (.pointer (some ⟨b2, 0, none⟩)) ∧ w'.cell? ⟨ob, 0, none⟩ = some (vI kd) ∧ w'.cell? ⟨ob, 1, none⟩ = some (vI ky) ∧ w'.cell? ⟨ob, 2, none⟩ = some (.string x)) W.drew := ⟨z0, z1, y0, y1, y2⟩
                rcases HQ with ⟨q1, q2⟩ | q1
                · go_upto_region 17 with fail
                  go_cut [10] (fun x10 wx => ∃ (rb : Nat) (ok : Bool) (val : ByteArray) (ka : Option Addr) (kn kc : Nat) (va : Option Addr) (vn vc : Nat), x10 = .pointer (some ⟨rb, 0, none⟩) ∧ Hd (Rh w wx b2 b1 c2 c1 kb ((rb, .cells #[.bool ok, .string val, .slice ka kn kc, .slice va vn vc] 43) :: [(ob, .cells #[vI kd, vI ky, .string x] 23), (ba, pA b1 b2 51), (bb, pA c1 c2 55)]) i sum (kd, ky, x) ok val (.slice ka kn kc) (.slice va vn vc)))
                  case first =>
                    refine wp_region_T (S := (fun w' : World => w'.cell? ⟨ba, 0, none⟩ = some (.pointer (some ⟨b1, 0, none⟩)) ∧ w'.cell? ⟨ba, 1, none⟩ = some (.pointer (some ⟨b2, 0, none⟩)) ∧ w'.cell? ⟨ob, 0, none⟩ = some (vI kd) ∧ w'.cell? ⟨ob, 1, none⟩ = some (vI ky) ∧ w'.cell? ⟨ob, 2, none⟩ = some (.string x))) (t := 6) mixed ?_
                    refine wpAnyT_takeAt (i := 0) 89 (v := ?_) rfl rfl (by kernel_rfl) (by kernel_rfl) (by kernel_rfl) (by kernel_rfl) (fun _ _ _ h => h) (Or.inl ⟨by rfl, fun w hSw => (by obtain ⟨g0, g1, g2, g3, g4⟩ := hSw; go_simp; try with_reducible rfl)⟩) HS0 ?_
                    simp only [Act.put, List.setIfInBounds_toArray, List.set_cons_zero, List.set_cons_succ]
                    refine wpAnyT_takeAt (i := 1) 90 (v := ?_) rfl rfl (by kernel_rfl) (by kernel_rfl) (by kernel_rfl) (by kernel_rfl) (fun _ _ _ h => h) (Or.inl ⟨by rfl, fun w hSw => (by obtain ⟨g0, g1, g2, g3, g4⟩ := hSw; go_simp; try with_reducible rfl)⟩) HS0 ?_
                    simp only [Act.put, List.setIfInBounds_toArray, List.set_cons_zero, List.set_cons_succ]
                    refine wpAnyT_takeAt (i := 2) 91 (v := ?_) rfl rfl (by kernel_rfl) (by kernel_rfl) (by kernel_rfl) (by kernel_rfl) (fun _ _ _ h => h) (Or.inl ⟨by rfl, fun w hSw => (by obtain ⟨g0, g1, g2, g3, g4⟩ := hSw; go_simp; try with_reducible rfl)⟩) HS0 ?_
                    simp only [Act.put, List.setIfInBounds_toArray, List.set_cons_zero, List.set_cons_succ]
                    refine wpAnyT_takeAt (i := 3) 92 (v := ?_) rfl rfl (by kernel_rfl) (by kernel_rfl) (by kernel_rfl) (by kernel_rfl) (fun _ _ _ h => h) (Or.inl ⟨by rfl, fun w hSw => (by obtain ⟨g0, g1, g2, g3, g4⟩ := hSw; go_simp; try with_reducible rfl)⟩) HS0 ?_
                    simp only [Act.put, List.setIfInBounds_toArray, List.set_cons_zero, List.set_cons_succ]
                    refine wpAnyT_two (i := 4) (j := 5) rfl rfl (by kernel_rfl) ?_ ?_
                    · intro K' HK'
                      go_simp
                      go_at_call 17
                      refine hcall.mono ?_
                      rintro _ w5 ⟨ok, val, ka, kn, kc, va, vn, vc, rfl, hRh⟩
                      have HG5 : Hd (∀ b o, (b, o) ∈ [(ob, .cells #[vI kd, vI ky, .string x] 23), (ba, pA b1 b2 51), (bb, pA c1 c2 55)] → w5.heap[b]? = some o) := fun b o hx => hRh.get hx
                      have HS5 : (fun w' : World => w'.cell? ⟨ba, 0, none⟩ = some (.pointer (some ⟨b1, 0, none⟩)) ∧ w'.cell? ⟨ba, 1, none⟩ = some (.pointer (some ⟨b2, 0, none⟩)) ∧ w'.cell? ⟨ob, 0, none⟩ = some (vI kd) ∧ w'.cell? ⟨ob, 1, none⟩ = some (vI ky) ∧ w'.cell? ⟨ob, 2, none⟩ = some (.string x)) w5 := ⟨cell_of (HG5.out ba (pA b1 b2 51) (by simp)) 0, cell_of (HG5.out ba (pA b1 b2 51) (by simp)) 1, cell_of (HG5.out ob (.cells #[vI kd, vI ky, .string x] 23) (by simp)) 0, cell_of (HG5.out ob (.cells #[vI kd, vI ky, .string x] 23) (by simp)) 1, cell_of (HG5.out ob (.cells #[vI kd, vI ky, .string x] 23) (by simp)) 2⟩
                      refine HK'.out _ _ (fun _ => HS5) ?_
                      clear HK'
                      try simp only [Act.put, List.setIfInBounds_toArray, List.set_cons_zero, List.set_cons_succ]
                      refine wpAnyT_one (i := 5) rfl (by kernel_rfl) ?_
                      intro K' HK'
                      go_simp
                      have HS6 : (fun w' : World => w'.cell? ⟨ba, 0, none⟩ = some (.pointer (some ⟨b1, 0, none⟩)) ∧ w'.cell? ⟨ba, 1, none⟩ = some (.pointer (some ⟨b2, 0, none⟩)) ∧ w'.cell? ⟨ob, 0, none⟩ = some (vI kd) ∧ w'.cell? ⟨ob, 1, none⟩ = some (vI ky) ∧ w'.cell? ⟨ob, 2, none⟩ = some (.string x)) (w5.alloc (.cells #[.bool false, .string ⟨#[]⟩, .slice none 0 0, .slice none 0 0] 43)) := by obtain ⟨g0, g1, g2, g3, g4⟩ := HS5; exact ⟨keepA _ g0, keepA _ g1, keepA _ g2, keepA _ g3, keepA _ g4⟩
                      refine HK'.out _ _ (fun _ => HS6) ?_
                      clear HK'
                      try simp only [Act.put, List.setIfInBounds_toArray, List.set_cons_zero, List.set_cons_succ]
                      refine wpAnyT_one (i := 6) rfl (by kernel_rfl) ?_
                      intro K' HK'
                      go_simp
                      refine HK'.out _ _ (fun h => absurd rfl h) ?_
                      clear HK'
                      try simp only [Act.put, List.setIfInBounds_toArray, List.set_cons_zero, List.set_cons_succ]
                      refine wpAnyT_done (by kernel_rfl) ?_ _
                      go_wp2_with fail
                      go_meet
                      exact ⟨_, ok, val, ka, kn, kc, va, vn, vc, rfl, hRh.box _⟩
                    · intro K' HK'
                      go_simp
                      have HS6 : (fun w' : World => w'.cell? ⟨ba, 0, none⟩ = some (.pointer (some ⟨b1, 0, none⟩)) ∧ w'.cell? ⟨ba, 1, none⟩ = some (.pointer (some ⟨b2, 0, none⟩)) ∧ w'.cell? ⟨ob, 0, none⟩ = some (vI kd) ∧ w'.cell? ⟨ob, 1, none⟩ = some (vI ky) ∧ w'.cell? ⟨ob, 2, none⟩ = some (.string x)) (W.drew.alloc (.cells #[.bool false, .string ⟨#[]⟩, .slice none 0 0, .slice none 0 0] 43)) := by obtain ⟨g0, g1, g2, g3, g4⟩ := HS0; exact ⟨keepA _ g0, keepA _ g1, keepA _ g2, keepA _ g3, keepA _ g4⟩
                      refine HK'.out _ _ (fun _ => HS6) ?_
                      clear HK'
                      try simp only [Act.put, List.setIfInBounds_toArray, List.set_cons_zero, List.set_cons_succ]
                      refine wpAnyT_one (i := 4) rfl (by kernel_rfl) ?_
                      intro K' HK'
                      go_simp
                      go_at_call 17
                      refine hcallB.mono ?_
                      rintro _ w5 ⟨ok, val, ka, kn, kc, va, vn, vc, rfl, hz5, hG5, hRh⟩
                      have HS5 : (fun w' : World => w'.cell? ⟨ba, 0, none⟩ = some (.pointer (some ⟨b1, 0, none⟩)) ∧ w'.cell? ⟨ba, 1, none⟩ = some (.pointer (some ⟨b2, 0, none⟩)) ∧ w'.cell? ⟨ob, 0, none⟩ = some (vI kd) ∧ w'.cell? ⟨ob, 1, none⟩ = some (vI ky) ∧ w'.cell? ⟨ob, 2, none⟩ = some (.string x)) w5 := ⟨cell_of (hG5 ba (pA b1 b2 51) (by simp)) 0, cell_of (hG5 ba (pA b1 b2 51) (by simp)) 1, cell_of (hG5 ob (.cells #[vI kd, vI ky, .string x] 23) (by simp)) 0, cell_of (hG5 ob (.cells #[vI kd, vI ky, .string x] 23) (by simp)) 1, cell_of (hG5 ob (.cells #[vI kd, vI ky, .string x] 23) (by simp)) 2⟩
                      obtain ⟨⟨f0, f1, f2, f3⟩, f4, f5, f6, f7⟩ := c4of (show w5.heap[W.heap.size]? = some (.cells #[.bool false, .string ⟨#[]⟩, .slice none 0 0, .slice none 0 0] 43) from hz5)
                      refine HK'.out _ _ (fun _ => HS5) ?_
                      clear HK'
                      try simp only [Act.put, List.setIfInBounds_toArray, List.set_cons_zero, List.set_cons_succ]
                      refine wpAnyT_one (i := 6) rfl (by kernel_rfl) ?_
                      intro K' HK'
                      go_simp
                      obtain ⟨h6a, h6b⟩ := set4 (show w5.heap[W.heap.size]? = some (.cells #[.bool false, .string ⟨#[]⟩, .slice none 0 0, .slice none 0 0] 43) from hz5) (.bool ok) (.string val) (.slice ka kn kc) (.slice va vn vc)
                      have HR6 := hRh _ _ h6b h6a
                      generalize ((((w5.setCell ⟨W.heap.size, 0, none⟩ (.bool ok)).setCell ⟨W.heap.size, 1, none⟩ (.string val)).setCell ⟨W.heap.size, 2, none⟩ (.slice ka kn kc)).setCell ⟨W.heap.size, 3, none⟩ (.slice va vn vc)) = W6 at HR6 ⊢
                      clear hRh h6a h6b hz5 hG5 HS5 HS6 f0 f1 f2 f3 f4 f5 f6 f7
                      refine HK'.out _ _ (fun h => absurd rfl h) ?_
                      clear HK'
                      try simp only [Act.put, List.setIfInBounds_toArray, List.set_cons_zero, List.set_cons_succ]
                      refine wpAnyT_done (by kernel_rfl) ?_ _
                      go_wp2_with fail
                      go_meet
                      exact ⟨_, ok, val, ka, kn, kc, va, vn, vc, rfl, HR6⟩
                  case rest =>
                    obtain ⟨rb, ok, val, ka, kn, kc, va, vn, vc, rfl, HH⟩ := hcut
                    clear hcall hcallB HS0 z0 z1 z2 z3 y0 y1 y2 ks j0
                    have HH1 : Hd (Rh w wc.drew b2 b1 c2 c1 kb ((rb, .cells #[.bool ok, .string val, .slice ka kn kc, .slice va vn vc] 43) :: [(ob, .cells #[vI kd, vI ky, .string x] 23), (ba, pA b1 b2 51), (bb, pA c1 c2 55)]) i sum (kd, ky, x) ok val (.slice ka kn kc) (.slice va vn vc)) := HH.out.quiet (Fr.refl (fun _ => False) wc).drew
                    clear HH
                    have hcall := HH1.out.done (by omega) HKD.out
                    have hcallB := HH1.out.doneBox (by omega) HKD.out (.cells #[.bool false, .string ⟨#[]⟩, .slice none 0 0, .slice none 0 0] 43)
                    have HG0 : Hd (∀ b o, (b, o) ∈ ((rb, .cells #[.bool ok, .string val, .slice ka kn kc, .slice va vn vc] 43) :: [(ob, .cells #[vI kd, vI ky, .string x] 23), (ba, pA b1 b2 51), (bb, pA c1 c2 55)]) → wc.drew.heap[b]? = some o) := fun b o hx => HH1.out.get hx
                    have HS0 : (fun w' : World => w'.cell? ⟨bb, 0, none⟩ = some (.pointer (some ⟨c1, 0, none⟩)) ∧ w'.cell? ⟨bb, 1, none⟩ = some (.pointer (some ⟨c2, 0, none⟩)) ∧ w'.cell? ⟨ob, 0, none⟩ = some (vI kd) ∧ w'.cell? ⟨ob, 1, none⟩ = some (vI ky) ∧ w'.cell? ⟨ob, 2, none⟩ = some (.string x)) wc.drew := ⟨cell_of (HG0.out bb (pA c1 c2 55) (by simp)) 0, cell_of (HG0.out bb (pA c1 c2 55) (by simp)) 1, cell_of (HG0.out ob (.cells #[vI kd, vI ky, .string x] 23) (by simp)) 0, cell_of (HG0.out ob (.cells #[vI kd, vI ky, .string x] 23) (by simp)) 1, cell_of (HG0.out ob (.cells #[vI kd, vI ky, .string x] 23) (by simp)) 2⟩
                    obtain ⟨z2, z3, y0, y1, y2⟩ := HS0
                    have HS0 : (fun w' : World => w'.cell? ⟨bb, 0, none⟩ = some (.pointer (some ⟨c1, 0, none⟩)) ∧ w'.cell? ⟨bb, 1, none⟩ = some (.pointer (some ⟨c2, 0, none⟩)) ∧ w'.cell? ⟨ob, 0, none⟩ = some (vI kd) ∧ w'.cell? ⟨ob, 1, none⟩ = some (vI ky) ∧ w'.cell? ⟨ob, 2, none⟩ = some (.string x)) wc.drew := ⟨z2, z3, y0, y1, y2⟩
                    clear HH1
                    go_upto_region 18 with fail
                    go_cut [11] (fun x11 wx => ∃ (sb : Nat) (ka' : Option Addr) (kn' kc' : Nat) (va' : Option Addr) (vn' vc' : Nat), x11 = .pointer (some ⟨sb, 0, none⟩) ∧ Hd (Rs w wx b2 b1 c2 c1 kb ((sb, .cells #[.bool ok, .string val, .slice ka' kn' kc', .slice va' vn' vc'] 43) :: (rb, .cells #[.bool ok, .string val, .slice ka kn kc, .slice va vn vc] 43) :: [(ob, .cells #[vI kd, vI ky, .string x] 23), (ba, pA b1 b2 51), (bb, pA c1 c2 55)]) (i + 1) sum ∧ ∀ W, Fr (fun _ => False) wx W → Calls Try.prog 19 #[.agg #[.bool ok, .string val, .slice ka kn kc, .slice va vn vc], .agg #[.bool ok, .string val, .slice ka' kn' kc', .slice va' vn' vc']] W fun e w'' => e = .returned (.bool true) ∧ Fr (fun _ => False) W w''))
                    case first =>
                      refine wp_region_T (S := (fun w' : World => w'.cell? ⟨bb, 0, none⟩ = some (.pointer (some ⟨c1, 0, none⟩)) ∧ w'.cell? ⟨bb, 1, none⟩ = some (.pointer (some ⟨c2, 0, none⟩)) ∧ w'.cell? ⟨ob, 0, none⟩ = some (vI kd) ∧ w'.cell? ⟨ob, 1, none⟩ = some (vI ky) ∧ w'.cell? ⟨ob, 2, none⟩ = some (.string x))) (t := 6) mixed ?_
                      refine wpAnyT_takeAt (i := 0) 94 (v := ?_) rfl rfl (by kernel_rfl) (by kernel_rfl) (by kernel_rfl) (by kernel_rfl) (fun _ _ _ h => h) (Or.inl ⟨by rfl, fun w hSw => (by obtain ⟨g0, g1, g2, g3, g4⟩ := hSw; go_simp; try with_reducible rfl)⟩) HS0 ?_
                      simp only [Act.put, List.setIfInBounds_toArray, List.set_cons_zero, List.set_cons_succ]
                      refine wpAnyT_takeAt (i := 1) 95 (v := ?_) rfl rfl (by kernel_rfl) (by kernel_rfl) (by kernel_rfl) (by kernel_rfl) (fun _ _ _ h => h) (Or.inl ⟨by rfl, fun w hSw => (by obtain ⟨g0, g1, g2, g3, g4⟩ := hSw; go_simp; try with_reducible rfl)⟩) HS0 ?_
                      simp only [Act.put, List.setIfInBounds_toArray, List.set_cons_zero, List.set_cons_succ]
                      refine wpAnyT_takeAt (i := 2) 96 (v := ?_) rfl rfl (by kernel_rfl) (by kernel_rfl) (by kernel_rfl) (by kernel_rfl) (fun _ _ _ h => h) (Or.inl ⟨by rfl, fun w hSw => (by obtain ⟨g0, g1, g2, g3, g4⟩ := hSw; go_simp; try with_reducible rfl)⟩) HS0 ?_
                      simp only [Act.put, List.setIfInBounds_toArray, List.set_cons_zero, List.set_cons_succ]
                      refine wpAnyT_takeAt (i := 3) 97 (v := ?_) rfl rfl (by kernel_rfl) (by kernel_rfl) (by kernel_rfl) (by kernel_rfl) (fun _ _ _ h => h) (Or.inl ⟨by rfl, fun w hSw => (by obtain ⟨g0, g1, g2, g3, g4⟩ := hSw; go_simp; try with_reducible rfl)⟩) HS0 ?_
                      simp only [Act.put, List.setIfInBounds_toArray, List.set_cons_zero, List.set_cons_succ]
                      refine wpAnyT_two (i := 4) (j := 5) rfl rfl (by kernel_rfl) ?_ ?_
                      · intro K' HK'
                        go_simp
                        go_at_call 18
                        refine hcall.mono ?_
                        rintro _ w5 ⟨ka', kn', kc', va', vn', vc', rfl, hRh⟩
                        have HG5 : Hd (∀ b o, (b, o) ∈ ((rb, .cells #[.bool ok, .string val, .slice ka kn kc, .slice va vn vc] 43) :: [(ob, .cells #[vI kd, vI ky, .string x] 23), (ba, pA b1 b2 51), (bb, pA c1 c2 55)]) → w5.heap[b]? = some o) := fun b o hx => hRh.1.get hx
                        have HS5 : (fun w' : World => w'.cell? ⟨bb, 0, none⟩ = some (.pointer (some ⟨c1, 0, none⟩)) ∧ w'.cell? ⟨bb, 1, none⟩ = some (.pointer (some ⟨c2, 0, none⟩)) ∧ w'.cell? ⟨ob, 0, none⟩ = some (vI kd) ∧ w'.cell? ⟨ob, 1, none⟩ = some (vI ky) ∧ w'.cell? ⟨ob, 2, none⟩ = some (.string x)) w5 := ⟨cell_of (HG5.out bb (pA c1 c2 55) (by simp)) 0, cell_of (HG5.out bb (pA c1 c2 55) (by simp)) 1, cell_of (HG5.out ob (.cells #[vI kd, vI ky, .string x] 23) (by simp)) 0, cell_of (HG5.out ob (.cells #[vI kd, vI ky, .string x] 23) (by simp)) 1, cell_of (HG5.out ob (.cells #[vI kd, vI ky, .string x] 23) (by simp)) 2⟩
                        refine HK'.out _ _ (fun _ => HS5) ?_
                        clear HK'
                        try simp only [Act.put, List.setIfInBounds_toArray, List.set_cons_zero, List.set_cons_succ]
                        refine wpAnyT_one (i := 5) rfl (by kernel_rfl) ?_
                        intro K' HK'
                        go_simp
                        have HS6 : (fun w' : World => w'.cell? ⟨bb, 0, none⟩ = some (.pointer (some ⟨c1, 0, none⟩)) ∧ w'.cell? ⟨bb, 1, none⟩ = some (.pointer (some ⟨c2, 0, none⟩)) ∧ w'.cell? ⟨ob, 0, none⟩ = some (vI kd) ∧ w'.cell? ⟨ob, 1, none⟩ = some (vI ky) ∧ w'.cell? ⟨ob, 2, none⟩ = some (.string x)) (w5.alloc (.cells #[.bool false, .string ⟨#[]⟩, .slice none 0 0, .slice none 0 0] 43)) := by obtain ⟨g0, g1, g2, g3, g4⟩ := HS5; exact ⟨keepA _ g0, keepA _ g1, keepA _ g2, keepA _ g3, keepA _ g4⟩
                        refine HK'.out _ _ (fun _ => HS6) ?_
                        clear HK'
                        try simp only [Act.put, List.setIfInBounds_toArray, List.set_cons_zero, List.set_cons_succ]
                        refine wpAnyT_one (i := 6) rfl (by kernel_rfl) ?_
                        intro K' HK'
                        go_simp
                        refine HK'.out _ _ (fun h => absurd rfl h) ?_
                        clear HK'
                        try simp only [Act.put, List.setIfInBounds_toArray, List.set_cons_zero, List.set_cons_succ]
                        refine wpAnyT_done (by kernel_rfl) ?_ _
                        go_wp2_with fail
                        go_meet
                        exact ⟨_, ka', kn', kc', va', vn', vc', rfl, ⟨hRh.1.box _, fun W hW => hRh.2 W (((Fr.refl (fun _ => False) w5).alloc _).trans hW)⟩⟩
                      · intro K' HK'
                        go_simp
                        have HS6 : (fun w' : World => w'.cell? ⟨bb, 0, none⟩ = some (.pointer (some ⟨c1, 0, none⟩)) ∧ w'.cell? ⟨bb, 1, none⟩ = some (.pointer (some ⟨c2, 0, none⟩)) ∧ w'.cell? ⟨ob, 0, none⟩ = some (vI kd) ∧ w'.cell? ⟨ob, 1, none⟩ = some (vI ky) ∧ w'.cell? ⟨ob, 2, none⟩ = some (.string x)) (wc.drew.alloc (.cells #[.bool false, .string ⟨#[]⟩, .slice none 0 0, .slice none 0 0] 43)) := by obtain ⟨g0, g1, g2, g3, g4⟩ := HS0; exact ⟨keepA _ g0, keepA _ g1, keepA _ g2, keepA _ g3, keepA _ g4⟩
                        refine HK'.out _ _ (fun _ => HS6) ?_
                        clear HK'
                        try simp only [Act.put, List.setIfInBounds_toArray, List.set_cons_zero, List.set_cons_succ]
                        refine wpAnyT_one (i := 4) rfl (by kernel_rfl) ?_
                        intro K' HK'
                        go_simp
                        go_at_call 18
                        refine hcallB.mono ?_
                        rintro _ w5 ⟨ka', kn', kc', va', vn', vc', rfl, hz5, hG5, hRh⟩
                        have HS5 : (fun w' : World => w'.cell? ⟨bb, 0, none⟩ = some (.pointer (some ⟨c1, 0, none⟩)) ∧ w'.cell? ⟨bb, 1, none⟩ = some (.pointer (some ⟨c2, 0, none⟩)) ∧ w'.cell? ⟨ob, 0, none⟩ = some (vI kd) ∧ w'.cell? ⟨ob, 1, none⟩ = some (vI ky) ∧ w'.cell? ⟨ob, 2, none⟩ = some (.string x)) w5 := ⟨cell_of (hG5 bb (pA c1 c2 55) (by simp)) 0, cell_of (hG5 bb (pA c1 c2 55) (by simp)) 1, cell_of (hG5 ob (.cells #[vI kd, vI ky, .string x] 23) (by simp)) 0, cell_of (hG5 ob (.cells #[vI kd, vI ky, .string x] 23) (by simp)) 1, cell_of (hG5 ob (.cells #[vI kd, vI ky, .string x] 23) (by simp)) 2⟩
                        obtain ⟨⟨f0, f1, f2, f3⟩, f4, f5, f6, f7⟩ := c4of (show w5.heap[wc.heap.size]? = some (.cells #[.bool false, .string ⟨#[]⟩, .slice none 0 0, .slice none 0 0] 43) from hz5)
                        refine HK'.out _ _ (fun _ => HS5) ?_
                        clear HK'
                        try simp only [Act.put, List.setIfInBounds_toArray, List.set_cons_zero, List.set_cons_succ]
                        refine wpAnyT_one (i := 6) rfl (by kernel_rfl) ?_
                        intro K' HK'
                        go_simp
                        obtain ⟨h6a, h6b⟩ := set4 (show w5.heap[wc.heap.size]? = some (.cells #[.bool false, .string ⟨#[]⟩, .slice none 0 0, .slice none 0 0] 43) from hz5) (.bool ok) (.string val) (.slice ka' kn' kc') (.slice va' vn' vc')
                        have HR6 := hRh _ _ h6b h6a
                        generalize ((((w5.setCell ⟨wc.heap.size, 0, none⟩ (.bool ok)).setCell ⟨wc.heap.size, 1, none⟩ (.string val)).setCell ⟨wc.heap.size, 2, none⟩ (.slice ka' kn' kc')).setCell ⟨wc.heap.size, 3, none⟩ (.slice va' vn' vc')) = W6 at HR6 ⊢
                        clear hRh h6a h6b hz5 hG5 HS5 HS6 f0 f1 f2 f3 f4 f5 f6 f7
                        refine HK'.out _ _ (fun h => absurd rfl h) ?_
                        clear HK'
                        try simp only [Act.put, List.setIfInBounds_toArray, List.set_cons_zero, List.set_cons_succ]
                        refine wpAnyT_done (by kernel_rfl) ?_ _
                        go_wp2_with fail
                        go_meet
                        exact ⟨_, ka', kn', kc', va', vn', vc', rfl, HR6⟩
                    case rest =>
                      obtain ⟨sb, ka', kn', kc', va', vn', vc', rfl, HH⟩ := hcut
                      clear hcall hcallB HS0 HG0 z2 z3 y0 y1 y2
                      have HG0 : Hd (∀ b o, (b, o) ∈ ((sb, .cells #[.bool ok, .string val, .slice ka' kn' kc', .slice va' vn' vc'] 43) :: (rb, .cells #[.bool ok, .string val, .slice ka kn kc, .slice va vn vc] 43) :: [(ob, .cells #[vI kd, vI ky, .string x] 23), (ba, pA b1 b2 51), (bb, pA c1 c2 55)]) → wc.heap[b]? = some o) := fun b o hx => HH.out.1.get hx
                      obtain ⟨⟨f0, f1, f2, f3⟩, -⟩ := c4of (HG0.out rb (.cells #[.bool ok, .string val, .slice ka kn kc, .slice va vn vc] 43) (List.mem_cons_of_mem _ List.mem_cons_self))
                      obtain ⟨⟨f4, f5, f6, f7⟩, -⟩ := c4of (HG0.out sb (.cells #[.bool ok, .string val, .slice ka' kn' kc', .slice va' vn' vc'] 43) List.mem_cons_self)
                      go_wp2_with fail
                      refine (HH.out.2 _ (Fr.refl _ _)).mono ?_
                      rintro _ w6 ⟨rfl, hF6⟩
                      have H5 : Hd (Rs w w6 b1 b2 c1 c2 kb [(ba, pA b1 b2 51), (bb, pA c1 c2 55)] (i + 1) sum) := ((HH.out.1.quiet hF6).swap.drop (fun y hy => List.mem_cons_of_mem _ (List.mem_cons_of_mem _ (List.mem_cons_of_mem _ hy))))
                      clear HH HG0 f0 f1 f2 f3 f4 f5 f6 f7 hF6
                      go_wp2_with fail
                      exact ⟨⟨i + 1, sum, rfl, cast1 i, hlt, hsum, H5⟩, meas hlt⟩
                · go_upto_region 17 with fail
                  go_cut [10] (fun x10 wx => ∃ (rb : Nat) (ok : Bool) (val : ByteArray) (ka : Option Addr) (kn kc : Nat) (va : Option Addr) (vn vc : Nat), x10 = .pointer (some ⟨rb, 0, none⟩) ∧ Hd (Rh w wx b2 b1 c2 c1 kb ((rb, .cells #[.bool ok, .string val, .slice ka kn kc, .slice va vn vc] 43) :: [(ob, .cells #[vI kd, vI ky, .string x] 23), (ba, pA b1 b2 51), (bb, pA c1 c2 55)]) i sum (kd, ky, x) ok val (.slice ka kn kc) (.slice va vn vc)))
                  case first =>
                    refine wp_region_T (S := (fun w' : World => w'.cell? ⟨ba, 0, none⟩ = some (.pointer (some ⟨b1, 0, none⟩)) ∧ w'.cell? ⟨ba, 1, none⟩ = some (.pointer (some ⟨b2, 0, none⟩)) ∧ w'.cell? ⟨ob, 0, none⟩ = some (vI kd) ∧ w'.cell? ⟨ob, 1, none⟩ = some (vI ky) ∧ w'.cell? ⟨ob, 2, none⟩ = some (.string x))) (t := 6) mixed ?_
                    refine wpAnyT_takeAt (i := 0) 89 (v := ?_) rfl rfl (by kernel_rfl) (by kernel_rfl) (by kernel_rfl) (by kernel_rfl) (fun _ _ _ h => h) (Or.inl ⟨by rfl, fun w hSw => (by obtain ⟨g0, g1, g2, g3, g4⟩ := hSw; go_simp; try with_reducible rfl)⟩) HS0 ?_
                    simp only [Act.put, List.setIfInBounds_toArray, List.set_cons_zero, List.set_cons_succ]
                    refine wpAnyT_takeAt (i := 1) 90 (v := ?_) rfl rfl (by kernel_rfl) (by kernel_rfl) (by kernel_rfl) (by kernel_rfl) (fun _ _ _ h => h) (Or.inl ⟨by rfl, fun w hSw => (by obtain ⟨g0, g1, g2, g3, g4⟩ := hSw; go_simp; try with_reducible rfl)⟩) HS0 ?_
                    simp only [Act.put, List.setIfInBounds_toArray, List.set_cons_zero, List.set_cons_succ]
                    refine wpAnyT_takeAt (i := 2) 91 (v := ?_) rfl rfl (by kernel_rfl) (by kernel_rfl) (by kernel_rfl) (by kernel_rfl) (fun _ _ _ h => h) (Or.inl ⟨by rfl, fun w hSw => (by obtain ⟨g0, g1, g2, g3, g4⟩ := hSw; go_simp; try with_reducible rfl)⟩) HS0 ?_
                    simp only [Act.put, List.setIfInBounds_toArray, List.set_cons_zero, List.set_cons_succ]
                    refine wpAnyT_takeAt (i := 3) 92 (v := ?_) rfl rfl (by kernel_rfl) (by kernel_rfl) (by kernel_rfl) (by kernel_rfl) (fun _ _ _ h => h) (Or.inl ⟨by rfl, fun w hSw => (by obtain ⟨g0, g1, g2, g3, g4⟩ := hSw; go_simp; try with_reducible rfl)⟩) HS0 ?_
                    simp only [Act.put, List.setIfInBounds_toArray, List.set_cons_zero, List.set_cons_succ]
                    refine wpAnyT_two (i := 4) (j := 5) rfl rfl (by kernel_rfl) ?_ ?_
                    · intro K' HK'
                      go_simp
                      go_at_call 17
                      refine hcall.mono ?_
                      rintro _ w5 ⟨ok, val, ka, kn, kc, va, vn, vc, rfl, hRh⟩
                      have HG5 : Hd (∀ b o, (b, o) ∈ [(ob, .cells #[vI kd, vI ky, .string x] 23), (ba, pA b1 b2 51), (bb, pA c1 c2 55)] → w5.heap[b]? = some o) := fun b o hx => hRh.get hx
                      have HS5 : (fun w' : World => w'.cell? ⟨ba, 0, none⟩ = some (.pointer (some ⟨b1, 0, none⟩)) ∧ w'.cell? ⟨ba, 1, none⟩ = some (.pointer (some ⟨b2, 0, none⟩)) ∧ w'.cell? ⟨ob, 0, none⟩ = some (vI kd) ∧ w'.cell? ⟨ob, 1, none⟩ = some (vI ky) ∧ w'.cell? ⟨ob, 2, none⟩ = some (.string x)) w5 := ⟨cell_of (HG5.out ba (pA b1 b2 51) (by simp)) 0, cell_of (HG5.out ba (pA b1 b2 51) (by simp)) 1, cell_of (HG5.out ob (.cells #[vI kd, vI ky, .string x] 23) (by simp)) 0, cell_of (HG5.out ob (.cells #[vI kd, vI ky, .string x] 23) (by simp)) 1, cell_of (HG5.out ob (.cells #[vI kd, vI ky, .string x] 23) (by simp)) 2⟩
                      refine HK'.out _ _ (fun _ => HS5) ?_
                      clear HK'
                      try simp only [Act.put, List.setIfInBounds_toArray, List.set_cons_zero, List.set_cons_succ]
                      refine wpAnyT_one (i := 5) rfl (by kernel_rfl) ?_
                      intro K' HK'
                      go_simp
                      have HS6 : (fun w' : World => w'.cell? ⟨ba, 0, none⟩ = some (.pointer (some ⟨b1, 0, none⟩)) ∧ w'.cell? ⟨ba, 1, none⟩ = some (.pointer (some ⟨b2, 0, none⟩)) ∧ w'.cell? ⟨ob, 0, none⟩ = some (vI kd) ∧ w'.cell? ⟨ob, 1, none⟩ = some (vI ky) ∧ w'.cell? ⟨ob, 2, none⟩ = some (.string x)) (w5.alloc (.cells #[.bool false, .string ⟨#[]⟩, .slice none 0 0, .slice none 0 0] 43)) := by obtain ⟨g0, g1, g2, g3, g4⟩ := HS5; exact ⟨keepA _ g0, keepA _ g1, keepA _ g2, keepA _ g3, keepA _ g4⟩
                      refine HK'.out _ _ (fun _ => HS6) ?_
                      clear HK'
                      try simp only [Act.put, List.setIfInBounds_toArray, List.set_cons_zero, List.set_cons_succ]
                      refine wpAnyT_one (i := 6) rfl (by kernel_rfl) ?_
                      intro K' HK'
                      go_simp
                      refine HK'.out _ _ (fun h => absurd rfl h) ?_
                      clear HK'
                      try simp only [Act.put, List.setIfInBounds_toArray, List.set_cons_zero, List.set_cons_succ]
                      refine wpAnyT_done (by kernel_rfl) ?_ _
                      go_wp2_with fail
                      go_meet
                      exact ⟨_, ok, val, ka, kn, kc, va, vn, vc, rfl, hRh.box _⟩
                    · intro K' HK'
                      go_simp
                      have HS6 : (fun w' : World => w'.cell? ⟨ba, 0, none⟩ = some (.pointer (some ⟨b1, 0, none⟩)) ∧ w'.cell? ⟨ba, 1, none⟩ = some (.pointer (some ⟨b2, 0, none⟩)) ∧ w'.cell? ⟨ob, 0, none⟩ = some (vI kd) ∧ w'.cell? ⟨ob, 1, none⟩ = some (vI ky) ∧ w'.cell? ⟨ob, 2, none⟩ = some (.string x)) (W.drew.alloc (.cells #[.bool false, .string ⟨#[]⟩, .slice none 0 0, .slice none 0 0] 43)) := by obtain ⟨g0, g1, g2, g3, g4⟩ := HS0; exact ⟨keepA _ g0, keepA _ g1, keepA _ g2, keepA _ g3, keepA _ g4⟩
                      refine HK'.out _ _ (fun _ => HS6) ?_
                      clear HK'
                      try simp only [Act.put, List.setIfInBounds_toArray, List.set_cons_zero, List.set_cons_succ]
                      refine wpAnyT_one (i := 4) rfl (by kernel_rfl) ?_
                      intro K' HK'
                      go_simp
                      go_at_call 17
                      refine hcallB.mono ?_
                      rintro _ w5 ⟨ok, val, ka, kn, kc, va, vn, vc, rfl, hz5, hG5, hRh⟩
                      have HS5 : (fun w' : World => w'.cell? ⟨ba, 0, none⟩ = some (.pointer (some ⟨b1, 0, none⟩)) ∧ w'.cell? ⟨ba, 1, none⟩ = some (.pointer (some ⟨b2, 0, none⟩)) ∧ w'.cell? ⟨ob, 0, none⟩ = some (vI kd) ∧ w'.cell? ⟨ob, 1, none⟩ = some (vI ky) ∧ w'.cell? ⟨ob, 2, none⟩ = some (.string x)) w5 := ⟨cell_of (hG5 ba (pA b1 b2 51) (by simp)) 0, cell_of (hG5 ba (pA b1 b2 51) (by simp)) 1, cell_of (hG5 ob (.cells #[vI kd, vI ky, .string x] 23) (by simp)) 0, cell_of (hG5 ob (.cells #[vI kd, vI ky, .string x] 23) (by simp)) 1, cell_of (hG5 ob (.cells #[vI kd, vI ky, .string x] 23) (by simp)) 2⟩
                      obtain ⟨⟨f0, f1, f2, f3⟩, f4, f5, f6, f7⟩ := c4of (show w5.heap[W.heap.size]? = some (.cells #[.bool false, .string ⟨#[]⟩, .slice none 0 0, .slice none 0 0] 43) from hz5)
                      refine HK'.out _ _ (fun _ => HS5) ?_
                      clear HK'
                      try simp only [Act.put, List.setIfInBounds_toArray, List.set_cons_zero, List.set_cons_succ]
                      refine wpAnyT_one (i := 6) rfl (by kernel_rfl) ?_
                      intro K' HK'
                      go_simp
                      obtain ⟨h6a, h6b⟩ := set4 (show w5.heap[W.heap.size]? = some (.cells #[.bool false, .string ⟨#[]⟩, .slice none 0 0, .slice none 0 0] 43) from hz5) (.bool ok) (.string val) (.slice ka kn kc) (.slice va vn vc)
                      have HR6 := hRh _ _ h6b h6a
                      generalize ((((w5.setCell ⟨W.heap.size, 0, none⟩ (.bool ok)).setCell ⟨W.heap.size, 1, none⟩ (.string val)).setCell ⟨W.heap.size, 2, none⟩ (.slice ka kn kc)).setCell ⟨W.heap.size, 3, none⟩ (.slice va vn vc)) = W6 at HR6 ⊢
                      clear hRh h6a h6b hz5 hG5 HS5 HS6 f0 f1 f2 f3 f4 f5 f6 f7
                      refine HK'.out _ _ (fun h => absurd rfl h) ?_
                      clear HK'
                      try simp only [Act.put, List.setIfInBounds_toArray, List.set_cons_zero, List.set_cons_succ]
                      refine wpAnyT_done (by kernel_rfl) ?_ _
                      go_wp2_with fail
                      go_meet
                      exact ⟨_, ok, val, ka, kn, kc, va, vn, vc, rfl, HR6⟩
                  case rest =>
                    obtain ⟨rb, ok, val, ka, kn, kc, va, vn, vc, rfl, HH⟩ := hcut
                    clear hcall hcallB HS0 z0 z1 z2 z3 y0 y1 y2 ks j0
                    have HH1 : Hd (Rh w wc.drew b2 b1 c2 c1 kb ((rb, .cells #[.bool ok, .string val, .slice ka kn kc, .slice va vn vc] 43) :: [(ob, .cells #[vI kd, vI ky, .string x] 23), (ba, pA b1 b2 51), (bb, pA c1 c2 55)]) i sum (kd, ky, x) ok val (.slice ka kn kc) (.slice va vn vc)) := HH.out.quiet (Fr.refl (fun _ => False) wc).drew
                    clear HH
                    have hcall := HH1.out.done (by omega) HKD.out
                    have hcallB := HH1.out.doneBox (by omega) HKD.out (.cells #[.bool false, .string ⟨#[]⟩, .slice none 0 0, .slice none 0 0] 43)
                    have HG0 : Hd (∀ b o, (b, o) ∈ ((rb, .cells #[.bool ok, .string val, .slice ka kn kc, .slice va vn vc] 43) :: [(ob, .cells #[vI kd, vI ky, .string x] 23), (ba, pA b1 b2 51), (bb, pA c1 c2 55)]) → wc.drew.heap[b]? = some o) := fun b o hx => HH1.out.get hx
                    have HS0 : (fun w' : World => w'.cell? ⟨bb, 0, none⟩ = some (.pointer (some ⟨c1, 0, none⟩)) ∧ w'.cell? ⟨bb, 1, none⟩ = some (.pointer (some ⟨c2, 0, none⟩)) ∧ w'.cell? ⟨ob, 0, none⟩ = some (vI kd) ∧ w'.cell? ⟨ob, 1, none⟩ = some (vI ky) ∧ w'.cell? ⟨ob, 2, none⟩ = some (.string x)) wc.drew := ⟨cell_of (HG0.out bb (pA c1 c2 55) (by simp)) 0, cell_of (HG0.out bb (pA c1 c2 55) (by simp)) 1, cell_of (HG0.out ob (.cells #[vI kd, vI ky, .string x] 23) (by simp)) 0, cell_of (HG0.out ob (.cells #[vI kd, vI ky, .string x] 23) (by simp)) 1, cell_of (HG0.out ob (.cells #[vI kd, vI ky, .string x] 23) (by simp)) 2⟩
                    obtain ⟨z2, z3, y0, y1, y2⟩ := HS0
                    have HS0 : (fun w' : World => w'.cell? ⟨bb, 0, none⟩ = some (.pointer (some ⟨c1, 0, none⟩)) ∧ w'.cell? ⟨bb, 1, none⟩ = some (.pointer (some ⟨c2, 0, none⟩)) ∧ w'.cell? ⟨ob, 0, none⟩ = some (vI kd) ∧ w'.cell? ⟨ob, 1, none⟩ = some (vI ky) ∧ w'.cell? ⟨ob, 2, none⟩ = some (.string x)) wc.drew := ⟨z2, z3, y0, y1, y2⟩
                    clear HH1
                    go_upto_region 18 with fail
                    go_cut [11] (fun x11 wx => ∃ (sb : Nat) (ka' : Option Addr) (kn' kc' : Nat) (va' : Option Addr) (vn' vc' : Nat), x11 = .pointer (some ⟨sb, 0, none⟩) ∧ Hd (Rs w wx b2 b1 c2 c1 kb ((sb, .cells #[.bool ok, .string val, .slice ka' kn' kc', .slice va' vn' vc'] 43) :: (rb, .cells #[.bool ok, .string val, .slice ka kn kc, .slice va vn vc] 43) :: [(ob, .cells #[vI kd, vI ky, .string x] 23), (ba, pA b1 b2 51), (bb, pA c1 c2 55)]) (i + 1) sum ∧ ∀ W, Fr (fun _ => False) wx W → Calls Try.prog 19 #[.agg #[.bool ok, .string val, .slice ka kn kc, .slice va vn vc], .agg #[.bool ok, .string val, .slice ka' kn' kc', .slice va' vn' vc']] W fun e w'' => e = .returned (.bool true) ∧ Fr (fun _ => False) W w''))
                    case first =>
                      refine wp_region_T (S := (fun w' : World => w'.cell? ⟨bb, 0, none⟩ = some (.pointer (some ⟨c1, 0, none⟩)) ∧ w'.cell? ⟨bb, 1, none⟩ = some (.pointer (some ⟨c2, 0, none⟩)) ∧ w'.cell? ⟨ob, 0, none⟩ = some (vI kd) ∧ w'.cell? ⟨ob, 1, none⟩ = some (vI ky) ∧ w'.cell? ⟨ob, 2, none⟩ = some (.string x))) (t := 6) mixed ?_
                      refine wpAnyT_takeAt (i := 0) 94 (v := ?_) rfl rfl (by kernel_rfl) (by kernel_rfl) (by kernel_rfl) (by kernel_rfl) (fun _ _ _ h => h) (Or.inl ⟨by rfl, fun w hSw => (by obtain ⟨g0, g1, g2, g3, g4⟩ := hSw; go_simp; try with_reducible rfl)⟩) HS0 ?_
                      simp only [Act.put, List.setIfInBounds_toArray, List.set_cons_zero, List.set_cons_succ]
                      refine wpAnyT_takeAt (i := 1) 95 (v := ?_) rfl rfl (by kernel_rfl) (by kernel_rfl) (by kernel_rfl) (by kernel_rfl) (fun _ _ _ h => h) (Or.inl ⟨by rfl, fun w hSw => (by obtain ⟨g0, g1, g2, g3, g4⟩ := hSw; go_simp; try with_reducible rfl)⟩) HS0 ?_
                      simp only [Act.put, List.setIfInBounds_toArray, List.set_cons_zero, List.set_cons_succ]
                      refine wpAnyT_takeAt (i := 2) 96 (v := ?_) rfl rfl (by kernel_rfl) (by kernel_rfl) (by kernel_rfl) (by kernel_rfl) (fun _ _ _ h => h) (Or.inl ⟨by rfl, fun w hSw => (by obtain ⟨g0, g1, g2, g3, g4⟩ := hSw; go_simp; try with_reducible rfl)⟩) HS0 ?_
                      simp only [Act.put, List.setIfInBounds_toArray, List.set_cons_zero, List.set_cons_succ]
                      refine wpAnyT_takeAt (i := 3) 97 (v := ?_) rfl rfl (by kernel_rfl) (by kernel_rfl) (by kernel_rfl) (by kernel_rfl) (fun _ _ _ h => h) (Or.inl ⟨by rfl, fun w hSw => (by obtain ⟨g0, g1, g2, g3, g4⟩ := hSw; go_simp; try with_reducible rfl)⟩) HS0 ?_
                      simp only [Act.put, List.setIfInBounds_toArray, List.set_cons_zero, List.set_cons_succ]
                      refine wpAnyT_two (i := 4) (j := 5) rfl rfl (by kernel_rfl) ?_ ?_
                      · intro K' HK'
                        go_simp
                        go_at_call 18
                        refine hcall.mono ?_
                        rintro _ w5 ⟨ka', kn', kc', va', vn', vc', rfl, hRh⟩
                        have HG5 : Hd (∀ b o, (b, o) ∈ ((rb, .cells #[.bool ok, .string val, .slice ka kn kc, .slice va vn vc] 43) :: [(ob, .cells #[vI kd, vI ky, .string x] 23), (ba, pA b1 b2 51), (bb, pA c1 c2 55)]) → w5.heap[b]? = some o) := fun b o hx => hRh.1.get hx
                        have HS5 : (fun w' : World => w'.cell? ⟨bb, 0, none⟩ = some (.pointer (some ⟨c1, 0, none⟩)) ∧ w'.cell? ⟨bb, 1, none⟩ = some (.pointer (some ⟨c2, 0, none⟩)) ∧ w'.cell? ⟨ob, 0, none⟩ = some (vI kd) ∧ w'.cell? ⟨ob, 1, none⟩ = some (vI ky) ∧ w'.cell? ⟨ob, 2, none⟩ = some (.string x)) w5 := ⟨cell_of (HG5.out bb (pA c1 c2 55) (by simp)) 0, cell_of (HG5.out bb (pA c1 c2 55) (by simp)) 1, cell_of (HG5.out ob (.cells #[vI kd, vI ky, .string x] 23) (by simp)) 0, cell_of (HG5.out ob (.cells #[vI kd, vI ky, .string x] 23) (by simp)) 1, cell_of (HG5.out ob (.cells #[vI kd, vI ky, .string x] 23) (by simp)) 2⟩
                        refine HK'.out _ _ (fun _ => HS5) ?_
                        clear HK'
                        try simp only [Act.put, List.setIfInBounds_toArray, List.set_cons_zero, List.set_cons_succ]
                        refine wpAnyT_one (i := 5) rfl (by kernel_rfl) ?_
                        intro K' HK'
                        go_simp
                        have HS6 : (fun w' : World => w'.cell? ⟨bb, 0, none⟩ = some (.pointer (some ⟨c1, 0, none⟩)) ∧ w'.cell? ⟨bb, 1, none⟩ = some (.pointer (some ⟨c2, 0, none⟩)) ∧ w'.cell? ⟨ob, 0, none⟩ = some (vI kd) ∧ w'.cell? ⟨ob, 1, none⟩ = some (vI ky) ∧ w'.cell? ⟨ob, 2, none⟩ = some (.string x)) (w5.alloc (.cells #[.bool false, .string ⟨#[]⟩, .slice none 0 0, .slice none 0 0] 43)) := by obtain ⟨g0, g1, g2, g3, g4⟩ := HS5; exact ⟨keepA _ g0, keepA _ g1, keepA _ g2, keepA _ g3, keepA _ g4⟩
                        refine HK'.out _ _ (fun _ => HS6) ?_
                        clear HK'
                        try simp only [Act.put, List.setIfInBounds_toArray, List.set_cons_zero, List.set_cons_succ]
                        refine wpAnyT_one (i := 6) rfl (by kernel_rfl) ?_
                        intro K' HK'
                        go_simp
                        refine HK'.out _ _ (fun h => absurd rfl h) ?_
                        clear HK'
                        try simp only [Act.put, List.setIfInBounds_toArray, List.set_cons_zero, List.set_cons_succ]
                        refine wpAnyT_done (by kernel_rfl) ?_ _
                        go_wp2_with fail
                        go_meet
                        exact ⟨_, ka', kn', kc', va', vn', vc', rfl, ⟨hRh.1.box _, fun W hW => hRh.2 W (((Fr.refl (fun _ => False) w5).alloc _).trans hW)⟩⟩
                      · intro K' HK'
                        go_simp
                        have HS6 : (fun w' : World => w'.cell? ⟨bb, 0, none⟩ = some (.pointer (some ⟨c1, 0, none⟩)) ∧ w'.cell? ⟨bb, 1, none⟩ = some (.pointer (some ⟨c2, 0, none⟩)) ∧ w'.cell? ⟨ob, 0, none⟩ = some (vI kd) ∧ w'.cell? ⟨ob, 1, none⟩ = some (vI ky) ∧ w'.cell? ⟨ob, 2, none⟩ = some (.string x)) (wc.drew.alloc (.cells #[.bool false, .string ⟨#[]⟩, .slice none 0 0, .slice none 0 0] 43)) := by obtain ⟨g0, g1, g2, g3, g4⟩ := HS0; exact ⟨keepA _ g0, keepA _ g1, keepA _ g2, keepA _ g3, keepA _ g4⟩
                        refine HK'.out _ _ (fun _ => HS6) ?_
                        clear HK'
                        try simp only [Act.put, List.setIfInBounds_toArray, List.set_cons_zero, List.set_cons_succ]
                        refine wpAnyT_one (i := 4) rfl (by kernel_rfl) ?_
                        intro K' HK'
                        go_simp
                        go_at_call 18
                        refine hcallB.mono ?_
                        rintro _ w5 ⟨ka', kn', kc', va', vn', vc', rfl, hz5, hG5, hRh⟩
                        have HS5 : (fun w' : World => w'.cell? ⟨bb, 0, none⟩ = some (.pointer (some ⟨c1, 0, none⟩)) ∧ w'.cell? ⟨bb, 1, none⟩ = some (.pointer (some ⟨c2, 0, none⟩)) ∧ w'.cell? ⟨ob, 0, none⟩ = some (vI kd) ∧ w'.cell? ⟨ob, 1, none⟩ = some (vI ky) ∧ w'.cell? ⟨ob, 2, none⟩ = some (.string x)) w5 := ⟨cell_of (hG5 bb (pA c1 c2 55) (by simp)) 0, cell_of (hG5 bb (pA c1 c2 55) (by simp)) 1, cell_of (hG5 ob (.cells #[vI kd, vI ky, .string x] 23) (by simp)) 0, cell_of (hG5 ob (.cells #[vI kd, vI ky, .string x] 23) (by simp)) 1, cell_of (hG5 ob (.cells #[vI kd, vI ky, .string x] 23) (by simp)) 2⟩
                        obtain ⟨⟨f0, f1, f2, f3⟩, f4, f5, f6, f7⟩ := c4of (show w5.heap[wc.heap.size]? = some (.cells #[.bool false, .string ⟨#[]⟩, .slice none 0 0, .slice none 0 0] 43) from hz5)
                        refine HK'.out _ _ (fun _ => HS5) ?_
                        clear HK'
                        try simp only [Act.put, List.setIfInBounds_toArray, List.set_cons_zero, List.set_cons_succ]
                        refine wpAnyT_one (i := 6) rfl (by kernel_rfl) ?_
                        intro K' HK'
                        go_simp
                        obtain ⟨h6a, h6b⟩ := set4 (show w5.heap[wc.heap.size]? = some (.cells #[.bool false, .string ⟨#[]⟩, .slice none 0 0, .slice none 0 0] 43) from hz5) (.bool ok) (.string val) (.slice ka' kn' kc') (.slice va' vn' vc')
                        have HR6 := hRh _ _ h6b h6a
                        generalize ((((w5.setCell ⟨wc.heap.size, 0, none⟩ (.bool ok)).setCell ⟨wc.heap.size, 1, none⟩ (.string val)).setCell ⟨wc.heap.size, 2, none⟩ (.slice ka' kn' kc')).setCell ⟨wc.heap.size, 3, none⟩ (.slice va' vn' vc')) = W6 at HR6 ⊢
                        clear hRh h6a h6b hz5 hG5 HS5 HS6 f0 f1 f2 f3 f4 f5 f6 f7
                        refine HK'.out _ _ (fun h => absurd rfl h) ?_
                        clear HK'
                        try simp only [Act.put, List.setIfInBounds_toArray, List.set_cons_zero, List.set_cons_succ]
                        refine wpAnyT_done (by kernel_rfl) ?_ _
                        go_wp2_with fail
                        go_meet
                        exact ⟨_, ka', kn', kc', va', vn', vc', rfl, HR6⟩
                    case rest =>
                      obtain ⟨sb, ka', kn', kc', va', vn', vc', rfl, HH⟩ := hcut
                      clear hcall hcallB HS0 HG0 z2 z3 y0 y1 y2
                      have HG0 : Hd (∀ b o, (b, o) ∈ ((sb, .cells #[.bool ok, .string val, .slice ka' kn' kc', .slice va' vn' vc'] 43) :: (rb, .cells #[.bool ok, .string val, .slice ka kn kc, .slice va vn vc] 43) :: [(ob, .cells #[vI kd, vI ky, .string x] 23), (ba, pA b1 b2 51), (bb, pA c1 c2 55)]) → wc.heap[b]? = some o) := fun b o hx => HH.out.1.get hx
                      obtain ⟨⟨f0, f1, f2, f3⟩, -⟩ := c4of (HG0.out rb (.cells #[.bool ok, .string val, .slice ka kn kc, .slice va vn vc] 43) (List.mem_cons_of_mem _ List.mem_cons_self))
                      obtain ⟨⟨f4, f5, f6, f7⟩, -⟩ := c4of (HG0.out sb (.cells #[.bool ok, .string val, .slice ka' kn' kc', .slice va' vn' vc'] 43) List.mem_cons_self)
                      go_wp2_with fail
                      refine (HH.out.2 _ (Fr.refl _ _)).mono ?_
                      rintro _ w6 ⟨rfl, hF6⟩
                      have H5 : Hd (Rs w w6 b1 b2 c1 c2 kb [(ba, pA b1 b2 51), (bb, pA c1 c2 55)] (i + 1) sum) := ((HH.out.1.quiet hF6).swap.drop (fun y hy => List.mem_cons_of_mem _ (List.mem_cons_of_mem _ (List.mem_cons_of_mem _ hy))))
                      clear HH HG0 f0 f1 f2 f3 f4 f5 f6 f7 hF6
                      go_wp2_with fail
                      exact ⟨⟨i + 1, sum, rfl, cast1 i, hlt, hsum, H5⟩, meas hlt⟩
      · have hd : decide (i < n) = false := by simp; omega
        have z0 : wr.cell? ⟨ba, 0, none⟩ = some (.pointer (some ⟨b1, 0, none⟩)) := cell_of (HM.out.get (b := ba) (o := pA b1 b2 51) (by simp)) 0
        have z1 : wr.cell? ⟨ba, 1, none⟩ = some (.pointer (some ⟨b2, 0, none⟩)) := cell_of (HM.out.get (b := ba) (o := pA b1 b2 51) (by simp)) 1
        have z2 : wr.cell? ⟨bb, 0, none⟩ = some (.pointer (some ⟨c1, 0, none⟩)) := cell_of (HM.out.get (b := bb) (o := pA c1 c2 55) (by simp)) 0
        have z3 : wr.cell? ⟨bb, 1, none⟩ = some (.pointer (some ⟨c2, 0, none⟩)) := cell_of (HM.out.get (b := bb) (o := pA c1 c2 55) (by simp)) 1
        have hcall := HM.out.asks (by omega) (by omega)
        clear HM
        go_wp2_with fail
        refine hcall.mono ?_
        rintro _ w5 ⟨rfl, sum', h5, hs5⟩
        have hcall2 := h5.ends (by omega) (by omega)
        clear hcall z0 z1 z2 z3 h5
        go_wp2_with fail
        refine hcall2.mono ?_
        rintro _ w6 ⟨rfl, hg6, hcall3⟩
        have z0 : w6.cell? ⟨ba, 0, none⟩ = some (.pointer (some ⟨b1, 0, none⟩)) := cell_of (hg6 ba (pA b1 b2 51) (by simp)) 0
        have z1 : w6.cell? ⟨ba, 1, none⟩ = some (.pointer (some ⟨b2, 0, none⟩)) := cell_of (hg6 ba (pA b1 b2 51) (by simp)) 1
        have z2 : w6.cell? ⟨bb, 0, none⟩ = some (.pointer (some ⟨c1, 0, none⟩)) := cell_of (hg6 bb (pA c1 c2 55) (by simp)) 0
        have z3 : w6.cell? ⟨bb, 1, none⟩ = some (.pointer (some ⟨c2, 0, none⟩)) := cell_of (hg6 bb (pA c1 c2 55) (by simp)) 1
        clear hcall2 hg6
        go_wp2_with fail
        refine hcall3.mono ?_
        rintro _ w7 ⟨rfl, hF7⟩
        clear hcall3 z0 z1 z2 z3
        go_wp2_with fail
        go_ret
        exact ⟨rfl, hF7⟩
end Go.Proofs.Ytgcekpmkniipfaa
