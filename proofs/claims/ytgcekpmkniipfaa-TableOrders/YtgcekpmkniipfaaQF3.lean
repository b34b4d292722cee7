import Derived.Test.YtgcekpmkniipfaaQF2
namespace Go.Proofs.Ytgcekpmkniipfaa
open Go.RowKit (wrap32 wrap64)
set_option linter.unusedVariables false
set_option linter.unusedSimpArgs false

set_option maxRecDepth 100000 in
set_option maxHeartbeats 4000000 in
theorem ahead_any (w : World) (A C : CallT) (ka : Option Addr) (kn kc : Nat) (va : Option Addr) (vn vc : Nat) (ka' : Option Addr) (kn' kc' : Nat) (va' : Option Addr) (vn' vc' : Nat) (B : Nat)
    (hk : RowAt w B (.slice ka kn kc) (kCells A.rp.L)) (hk' : RowAt w B (.slice ka' kn' kc') (kCells C.rp.L)) (hB : B ≤ w.heap.size) (hl : A.rp.L.length ≤ 4000000000) (hl' : C.rp.L.length ≤ 4000000000) :
    Calls Try.prog 22 #[callV A (.slice ka kn kc) (.slice va vn vc), callV C (.slice ka' kn' kc') (.slice va' vn' vc')] w fun e w' => e = .returned (.bool (aheadB A C)) ∧ Fr (fun _ => False) w w' := by
  have hfa := ((Fr.refl (fun _ => False) w).alloc (.cells (callC A (.slice ka kn kc) (.slice va vn vc)) 47)).alloc (.cells (callC C (.slice ka' kn' kc') (.slice va' vn' vc')) 47)
  have hb1 : ((w.alloc (.cells (callC A (.slice ka kn kc) (.slice va vn vc)) 47)).alloc (.cells (callC C (.slice ka' kn' kc') (.slice va' vn' vc')) 47)).heap[w.heap.size]? = some (.cells (callC A (.slice ka kn kc) (.slice va vn vc)) 47) := by
    rw [Go.RowKit.Below.heap_alloc _ _ _ (by simp)]; exact heap_alloc_last w _
  have hb2 : ((w.alloc (.cells (callC A (.slice ka kn kc) (.slice va vn vc)) 47)).alloc (.cells (callC C (.slice ka' kn' kc') (.slice va' vn' vc')) 47)).heap[w.heap.size + 1]? = some (.cells (callC C (.slice ka' kn' kc') (.slice va' vn' vc')) 47) := by
    have := heap_alloc_last (w.alloc (.cells (callC A (.slice ka kn kc) (.slice va vn vc)) 47)) (.cells (callC C (.slice ka' kn' kc') (.slice va' vn' vc')) 47)
    rw [show (w.alloc (.cells (callC A (.slice ka kn kc) (.slice va vn vc)) 47)).heap.size = w.heap.size + 1 by simp] at this
    exact this
  obtain ⟨W, eW⟩ : ∃ W, W = ((w.alloc (.cells (callC A (.slice ka kn kc) (.slice va vn vc)) 47)).alloc (.cells (callC C (.slice ka' kn' kc') (.slice va' vn' vc')) 47)) := ⟨_, rfl⟩
  rw [← eW] at hfa hb1 hb2
  have hS : ∀ key W2, Fr (fun _ => False) W W2 → Calls Try.prog 41 #[callV C (.slice ka' kn' kc') (.slice va' vn' vc'), vI key] W2 fun e w' => e = .returned (.bool (seesB C key)) ∧ Fr (fun _ => False) W2 w' := fun key W2 h => sees_any W2 C ka' kn' kc' va' vn' vc' key B (hk'.fr (hfa.trans h) hB (fun _ _ h => h)) (Nat.le_trans hB (hfa.trans h).size) hl'
  have hM : ∀ key W2, Fr (fun _ => False) W W2 → Calls Try.prog 42 #[callV A (.slice ka kn kc) (.slice va vn vc), vI key] W2 fun e w' => e = .returned (.bool (missB A key)) ∧ Fr (fun _ => False) W2 w' := fun key W2 h => misses_any W2 A ka kn kc va vn vc key B (hk.fr (hfa.trans h) hB (fun _ _ h => h)) (Nat.le_trans hB (hfa.trans h).size) hl
  have hS1 := hS A.op.2.1 W (Fr.refl _ _)
  obtain ⟨sb, esb⟩ : ∃ sb, sb = seesB C A.op.2.1 := ⟨_, rfl⟩
  obtain ⟨mb, emb⟩ : ∃ mb, mb = missB A C.op.2.1 := ⟨_, rfl⟩
  rw [← esb] at hS1
  have hM1 : ∀ W2, Fr (fun _ => False) W W2 → Calls Try.prog 42 #[callV A (.slice ka kn kc) (.slice va vn vc), vI C.op.2.1] W2 fun e w' => e = .returned (.bool mb) ∧ Fr (fun _ => False) W2 w' := fun W2 h => by rw [emb]; exact hM C.op.2.1 W2 h
  have hab : aheadB A C = (decide (A.tt < C.fr) || ((A.op.1 == 1 && A.rp.ok) && sb) || ((C.op.1 == 1 && C.rp.ok) && mb)) := by rw [esb, emb]; rfl
  rw [hab]
  have HFA : Hd (Fr (fun _ => False) w W) := hfa
  have HB1 : Hd (W.heap[w.heap.size]? = some (.cells (callC A (.slice ka kn kc) (.slice va vn vc)) 47)) := hb1
  have HB2 : Hd (W.heap[w.heap.size + 1]? = some (.cells (callC C (.slice ka' kn' kc') (.slice va' vn' vc')) 47)) := hb2
  have EW : Hd (W = ((w.alloc (.cells (callC A (.slice ka kn kc) (.slice va vn vc)) 47)).alloc (.cells (callC C (.slice ka' kn' kc') (.slice va' vn' vc')) 47))) := eW
  clear hab esb emb hS hM hk hk' hB hl hl' hfa hb1 hb2 eW
  obtain ⟨fr, tt, ⟨kd, ky, vs⟩, ⟨ok, val, L⟩⟩ := A
  obtain ⟨fr', tt', ⟨kd', ky', vs'⟩, ⟨ok', val', L'⟩⟩ := C
  simp only at hS1 hM1 ⊢
  obtain ⟨b, eb⟩ : ∃ b, b = w.heap.size := ⟨_, rfl⟩
  have EB : Hd (b = w.heap.size) := eb
  rw [← eb] at HB1 HB2
  clear eb
  have c0 : W.cell? ⟨b, 0, none⟩ = some (vI fr) := cell_of HB1.out 0
  have c1 : W.cell? ⟨b, 1, none⟩ = some (vI tt) := cell_of HB1.out 1
  have c2 : W.cell? ⟨b, 2, none⟩ = some (vI kd) := cell_of HB1.out 2
  have c3 : W.cell? ⟨b, 3, none⟩ = some (vI ky) := cell_of HB1.out 3
  have c5 : W.cell? ⟨b, 5, none⟩ = some (.bool ok) := cell_of HB1.out 5
  have e0 : W.cell? ⟨b + 1, 0, none⟩ = some (vI fr') := cell_of HB2.out 0
  have e1 : W.cell? ⟨b + 1, 1, none⟩ = some (vI tt') := cell_of HB2.out 1
  have e2 : W.cell? ⟨b + 1, 2, none⟩ = some (vI kd') := cell_of HB2.out 2
  have e3 : W.cell? ⟨b + 1, 3, none⟩ = some (vI ky') := cell_of HB2.out 3
  have e4 : W.cell? ⟨b + 1, 4, none⟩ = some (.string vs') := cell_of HB2.out 4
  have e5 : W.cell? ⟨b + 1, 5, none⟩ = some (.bool ok') := cell_of HB2.out 5
  have e6 : W.cell? ⟨b + 1, 6, none⟩ = some (.string val') := cell_of HB2.out 6
  have e7 : W.cell? ⟨b + 1, 7, none⟩ = some (.slice ka' kn' kc') := cell_of HB2.out 7
  have e8 : W.cell? ⟨b + 1, 8, none⟩ = some (.slice va' vn' vc') := cell_of HB2.out 8
  have HBK : Hd (∀ W2, Fr (fun _ => False) W W2 → W2.cell? ⟨b, 0, none⟩ = some (vI fr) ∧ W2.cell? ⟨b, 1, none⟩ = some (vI tt) ∧ W2.cell? ⟨b, 2, none⟩ = some (vI kd) ∧ W2.cell? ⟨b, 3, none⟩ = some (vI ky) ∧ W2.cell? ⟨b, 4, none⟩ = some (.string vs) ∧ W2.cell? ⟨b, 5, none⟩ = some (.bool ok) ∧ W2.cell? ⟨b, 6, none⟩ = some (.string val) ∧ W2.cell? ⟨b, 7, none⟩ = some (.slice ka kn kc) ∧ W2.cell? ⟨b, 8, none⟩ = some (.slice va vn vc) ∧ W2.cell? ⟨b + 1, 2, none⟩ = some (vI kd') ∧ W2.cell? ⟨b + 1, 3, none⟩ = some (vI ky') ∧ W2.cell? ⟨b + 1, 5, none⟩ = some (.bool ok')) := fun W2 h => by
    have k1 := fun o => h.cell (o := o) (heap_lt HB1.out) (fun h => h)
    have k2 := fun o => h.cell (o := o) (heap_lt HB2.out) (fun h => h)
    exact ⟨(k1 0).trans (cell_of HB1.out 0), (k1 1).trans (cell_of HB1.out 1), (k1 2).trans (cell_of HB1.out 2), (k1 3).trans (cell_of HB1.out 3), (k1 4).trans (cell_of HB1.out 4), (k1 5).trans (cell_of HB1.out 5), (k1 6).trans (cell_of HB1.out 6), (k1 7).trans (cell_of HB1.out 7), (k1 8).trans (cell_of HB1.out 8), (k2 2).trans (cell_of HB2.out 2), (k2 3).trans (cell_of HB2.out 3), (k2 5).trans (cell_of HB2.out 5)⟩
  clear HB1 HB2
  -- the tail: from region 6 on, whatever world
  go_enter Try.func22, Try.ntmps22
  go_upto_region 1 with fail
  rw [show ((w.alloc (.cells #[vI fr, vI tt, vI kd, vI ky, .string vs, .bool ok, .string val, .slice ka kn kc, .slice va vn vc] 47)).alloc (.cells #[vI fr', vI tt', vI kd', vI ky', .string vs', .bool ok', .string val', .slice ka' kn' kc', .slice va' vn' vc'] 47)) = W from EW.out.symm, ← EB.out]
  clear EW EB
  by_cases hc : tt < fr'
  · have hd : decide (tt < fr') = true := by simp [hc]
    have hi : (tt : Int) < fr' := by omega
    clear hS1 hM1
    go_wp2_with fail
    go_ret
    exact ⟨by first | rfl | (rw [hd]; rfl) | (simp [hd]; done), HFA.out⟩
  · have hd : decide (tt < fr') = false := by simp; omega
    have hd2 : decide ((tt : Int) < fr') = false := by simp; omega
    have tail : ∀ (W2 : World), Fr (fun _ => False) W W2 → Hd ((kd' == 1 && ok') = false ∨ (kd' == 1 && ok') = true) := fun W2 h => by show _ ∨ _; cases (kd' == 1 && ok') <;> simp
    clear tail
    cases hmade : (kd == 1) with
    | false =>
      cases hm2 : (kd' == 1) with
      | false =>
        clear hS1 hM1
        go_wp2_with fail
        go_ret
        exact ⟨by first | rfl | (simp; done) | (simp [hd, hmade, hm2]; done) | (rw [hmade]; simp; done) | (rw [hmade, hm2]; simp; done) | (rw [hmade]; rfl) | (rw [hmade, hm2]; rfl), HFA.out⟩
      | true =>
        cases hok2 : ok' with
        | false =>
          subst hok2
          clear hS1 hM1
          go_wp2_with fail
          go_ret
          exact ⟨by first | rfl | (simp; done) | (simp [hd, hmade, hm2]; done) | (rw [hmade]; simp; done) | (rw [hmade, hm2]; simp; done) | (rw [hmade]; rfl) | (rw [hmade, hm2]; rfl), HFA.out⟩
        | true =>
          subst hok2
          obtain ⟨-, -, -, -, c4, -, c6, c7, c8, -⟩ := HBK.out W (Fr.refl _ _)
          have hM2 := hM1 W (Fr.refl _ _)
          clear hS1 hM1
          go_wp2_with fail
          refine hM2.mono ?_
          rintro _ w2 ⟨rfl, hf2⟩
          have HF2 : Hd (Fr (fun _ => False) w w2) := HFA.out.trans hf2
          clear hM2 hf2 HFA HBK c0 c1 c2 c3 c4 c5 c6 c7 c8 e0 e1 e2 e3 e4 e5 e6 e7 e8
          go_wp2_with fail
          go_ret
          exact ⟨by first | rfl | (simp; done) | (simp [hd, hmade, hm2]; done) | (rw [hmade]; simp; done) | (rw [hmade, hm2]; simp; done) | (rw [hmade]; rfl) | (rw [hmade, hm2]; rfl), HF2.out⟩
    | true =>
      cases hok : ok with
      | false =>
        subst hok
        cases hm2 : (kd' == 1) with
        | false =>
          clear hS1 hM1
          go_wp2_with fail
          go_ret
          exact ⟨by first | rfl | (simp; done) | (simp [hd, hmade, hm2]; done) | (rw [hmade]; simp; done) | (rw [hmade, hm2]; simp; done) | (rw [hmade]; rfl) | (rw [hmade, hm2]; rfl), HFA.out⟩
        | true =>
          cases hok2 : ok' with
          | false =>
            subst hok2
            clear hS1 hM1
            go_wp2_with fail
            go_ret
            exact ⟨by first | rfl | (simp; done) | (simp [hd, hmade, hm2]; done) | (rw [hmade]; simp; done) | (rw [hmade, hm2]; simp; done) | (rw [hmade]; rfl) | (rw [hmade, hm2]; rfl), HFA.out⟩
          | true =>
            subst hok2
            obtain ⟨-, -, -, -, c4, -, c6, c7, c8, -⟩ := HBK.out W (Fr.refl _ _)
            have hM2 := hM1 W (Fr.refl _ _)
            clear hS1 hM1
            go_wp2_with fail
            refine hM2.mono ?_
            rintro _ w2 ⟨rfl, hf2⟩
            have HF2 : Hd (Fr (fun _ => False) w w2) := HFA.out.trans hf2
            clear hM2 hf2 HFA HBK c0 c1 c2 c3 c4 c5 c6 c7 c8 e0 e1 e2 e3 e4 e5 e6 e7 e8
            go_wp2_with fail
            go_ret
            exact ⟨by first | rfl | (simp; done) | (simp [hd, hmade, hm2]; done) | (rw [hmade]; simp; done) | (rw [hmade, hm2]; simp; done) | (rw [hmade]; rfl) | (rw [hmade, hm2]; rfl), HF2.out⟩
      | true =>
        subst hok
        go_wp2_with fail
        refine hS1.mono ?_
        rintro _ w1 ⟨rfl, hf1⟩
        have HF1 : Hd (Fr (fun _ => False) w w1) := HFA.out.trans hf1
        obtain ⟨a0, a1, a2, a3, a4, a5, a6, a7, a8, b2, b3, b5⟩ := HBK.out w1 hf1
        have hM2 := hM1 w1 hf1
        clear hS1 hM1 hf1 HFA HBK c0 c1 c2 c3 c5 e0 e1 e2 e3 e4 e5 e6 e7 e8
        cases sb with
        | true =>
          clear hM2
          go_wp2_with fail
          go_ret
          exact ⟨by first | rfl | (simp; done) | (rw [hmade]; simp; done) | (rw [hmade]; rfl), HF1.out⟩
        | false =>
          cases hm2 : (kd' == 1) with
          | false =>
            clear hM2
            go_wp2_with fail
            go_ret
            exact ⟨by first | rfl | (simp; done) | (simp [hd, hmade, hm2]; done) | (rw [hmade]; simp; done) | (rw [hmade, hm2]; simp; done) | (rw [hmade]; rfl) | (rw [hmade, hm2]; rfl), HF1.out⟩
          | true =>
            cases hok2 : ok' with
            | false =>
              subst hok2
              clear hM2
              go_wp2_with fail
              go_ret
              exact ⟨by first | rfl | (simp; done) | (simp [hd, hmade, hm2]; done) | (rw [hmade]; simp; done) | (rw [hmade, hm2]; simp; done) | (rw [hmade]; rfl) | (rw [hmade, hm2]; rfl), HF1.out⟩
            | true =>
              subst hok2
              go_wp2_with fail
              refine hM2.mono ?_
              rintro _ w2 ⟨rfl, hf2⟩
              have HF2 : Hd (Fr (fun _ => False) w w2) := HF1.out.trans hf2
              clear hM2 hf2 HF1 a0 a1 a2 a3 a4 a5 a6 a7 a8 b2 b3 b5
              go_wp2_with fail
              go_ret
              exact ⟨by first | rfl | (simp; done) | (simp [hd, hmade, hm2]; done) | (rw [hmade]; simp; done) | (rw [hmade, hm2]; simp; done) | (rw [hmade]; rfl) | (rw [hmade, hm2]; rfl), HF2.out⟩
end Go.Proofs.Ytgcekpmkniipfaa
