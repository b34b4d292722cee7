import Derived.Test.YtgcekpmkniipfaaQF2
import Derived.Test.YtgcekpmkniipfaaQE6J
namespace Go.Proofs.Ytgcekpmkniipfaa
open Go.RowKit (wrap32 wrap64)
set_option linter.unusedVariables false
set_option linter.unusedSimpArgs false

set_option maxRecDepth 100000 in
set_option maxHeartbeats 4000000 in
theorem ahead_any (w : World) (A C : CallT) (ka : Option Addr) (kn kc : Nat) (va : Option Addr) (vn vc : Nat) (ka' : Option Addr) (kn' kc' : Nat) (va' : Option Addr) (vn' vc' : Nat) (B : Nat)
    (hk : RowAt w B (.slice ka kn kc) (kCells A.rp.L)) (hk' : RowAt w B (.slice ka' kn' kc') (kCells C.rp.L)) (hB : B ≤ w.heap.size) (hl : A.rp.L.length ≤ 4000000000) (hl' : C.rp.L.length ≤ 4000000000) :
    Calls Try.prog 22 #[callV A (.slice ka kn kc) (.slice va vn vc), callV C (.slice ka' kn' kc') (.slice va' vn' vc')] w fun e w' => e = .returned (.bool (aheadB A C)) ∧ Fr (fun _ => False) w w' := by
  have hfa := ((Fr.refl (fun _ => False) w).alloc (.cells (callC A (.slice ka kn kc) (.slice va vn vc)) 47)).alloc (.cells (callC C (.slice ka' kn' kc') (.slice va' vn' vc')) 47)
  have hb1 : ((w.alloc (.cells (callC A (.slice ka kn kc) (.slice va vn vc)) 47)).alloc (.cells (callC C (.slice ka' kn' kc') (.slice va' vn' vc')) 47)).heap[w.heap.size]? = some (.cells (callC A (.slice ka kn kc) (.slice va vn vc)) 47) := by
    rw [Go.RowKit.Below.heap_alloc _ _ _ (by simp)]; exact heap_alloc_last w _
  have hb2 : ((w.alloc (.cells (callC A (.slice ka kn kc) (.slice va vn vc)) 47)).alloc (.cells (callC C (.slice ka' kn' kc') (.slice va' vn' vc')) 47)).heap[w.heap.size + 1]? = some (.cells (callC C (.slice ka' kn' kc') (.slice va' vn' vc')) 47) := by
    have := heap_alloc_last (w.alloc (.cells (callC A (.slice ka kn kc) (.slice va vn vc)) 47)) (.cells (callC C (.slice ka' kn' kc') (.slice va' vn' vc')) 47)
    rw [show (w.alloc (.cells (callC A (.slice ka kn kc) (.slice va vn vc)) 47)).heap.size = w.heap.size + 1 by simp] at this
    exact this
  obtain ⟨W, eW⟩ : ∃ W, W = ((w.alloc (.cells (callC A (.slice ka kn kc) (.slice va vn vc)) 47)).alloc (.cells (callC C (.slice ka' kn' kc') (.slice va' vn' vc')) 47)) := ⟨_, rfl⟩
  rw [← eW] at hfa hb1 hb2
  have hS : ∀ key W2, Fr (fun _ => False) W W2 → Calls Try.prog 41 #[callV C (.slice ka' kn' kc') (.slice va' vn' vc'), vI key] W2 fun e w' => e = .returned (.bool (seesB C key)) ∧ Fr (fun _ => False) W2 w' := fun key W2 h => sees_any W2 C ka' kn' kc' va' vn' vc' key B (hk'.fr (hfa.trans h) hB (fun _ _ h => h)) (Nat.le_trans hB (hfa.trans h).size) hl'
  have hM : ∀ key W2, Fr (fun _ => False) W W2 → Calls Try.prog 42 #[callV A (.slice ka kn kc) (.slice va vn vc), vI key] W2 fun e w' => e = .returned (.bool (missB A key)) ∧ Fr (fun _ => False) W2 w' := fun key W2 h => misses_any W2 A ka kn kc va vn vc key B (hk.fr (hfa.trans h) hB (fun _ _ h => h)) (Nat.le_trans hB (hfa.trans h).size) hl
  have hS1 := hS A.op.2.1 W (Fr.refl _ _)
  obtain ⟨sb, esb⟩ : ∃ sb, sb = seesB C A.op.2.1 := ⟨_, rfl⟩
  obtain ⟨mb, emb⟩ : ∃ mb, mb = missB A C.op.2.1 := ⟨_, rfl⟩
  rw [← esb] at hS1
  have hM1 : ∀ W2, Fr (fun _ => False) W W2 → Calls Try.prog 42 #[callV A (.slice ka kn kc) (.slice va vn vc), vI C.op.2.1] W2 fun e w' => e = .returned (.bool mb) ∧ Fr (fun _ => False) W2 w' := fun W2 h => by rw [emb]; exact hM C.op.2.1 W2 h
  have hab : aheadB A C = (decide (A.tt < C.fr) || ((A.op.1 == 1 && A.rp.ok) && sb) || ((C.op.1 == 1 && C.rp.ok) && mb)) := by rw [esb, emb]; rfl
  rw [hab]
  have HFA : Hd (Fr (fun _ => False) w W) := hfa
  have HB1 : Hd (W.heap[w.heap.size]? = some (.cells (callC A (.slice ka kn kc) (.slice va vn vc)) 47)) := hb1
  have HB2 : Hd (W.heap[w.heap.size + 1]? = some (.cells (callC C (.slice ka' kn' kc') (.slice va' vn' vc')) 47)) := hb2
  have EW : Hd (W = ((w.alloc (.cells (callC A (.slice ka kn kc) (.slice va vn vc)) 47)).alloc (.cells (callC C (.slice ka' kn' kc') (.slice va' vn' vc')) 47))) := eW
  clear hab esb emb hS hM hk hk' hB hl hl' hfa hb1 hb2 eW
  obtain ⟨fr, tt, ⟨kd, ky, vs⟩, ⟨ok, val, L⟩⟩ := A
  obtain ⟨fr', tt', ⟨kd', ky', vs'⟩, ⟨ok', val', L'⟩⟩ := C
  simp only at hS1 hM1 ⊢
  obtain ⟨b, eb⟩ : ∃ b, b = w.heap.size := ⟨_, rfl⟩
  have EB : Hd (b = w.heap.size) := eb
  rw [← eb] at HB1 HB2
  clear eb
  have c0 : W.cell? ⟨b, 0, none⟩ = some (vI fr) := cell_of HB1.out 0
  have c1 : W.cell? ⟨b, 1, none⟩ = some (vI tt) := cell_of HB1.out 1
  have c2 : W.cell? ⟨b, 2, none⟩ = some (vI kd) := cell_of HB1.out 2
  have c3 : W.cell? ⟨b, 3, none⟩ = some (vI ky) := cell_of HB1.out 3
  have c5 : W.cell? ⟨b, 5, none⟩ = some (.bool ok) := cell_of HB1.out 5
  have e0 : W.cell? ⟨b + 1, 0, none⟩ = some (vI fr') := cell_of HB2.out 0
  have e1 : W.cell? ⟨b + 1, 1, none⟩ = some (vI tt') := cell_of HB2.out 1
  have e2 : W.cell? ⟨b + 1, 2, none⟩ = some (vI kd') := cell_of HB2.out 2
  have e3 : W.cell? ⟨b + 1, 3, none⟩ = some (vI ky') := cell_of HB2.out 3
  have e4 : W.cell? ⟨b + 1, 4, none⟩ = some (.string vs') := cell_of HB2.out 4
  have e5 : W.cell? ⟨b + 1, 5, none⟩ = some (.bool ok') := cell_of HB2.out 5
  have e6 : W.cell? ⟨b + 1, 6, none⟩ = some (.string val') := cell_of HB2.out 6
  have e7 : W.cell? ⟨b + 1, 7, none⟩ = some (.slice ka' kn' kc') := cell_of HB2.out 7
  have e8 : W.cell? ⟨b + 1, 8, none⟩ = some (.slice va' vn' vc') := cell_of HB2.out 8
  have HBK : Hd (∀ W2, Fr (fun _ => False) W W2 → W2.cell? ⟨b, 0, none⟩ = some (vI fr) ∧ W2.cell? ⟨b, 1, none⟩ = some (vI tt) ∧ W2.cell? ⟨b, 2, none⟩ = some (vI kd) ∧ W2.cell? ⟨b, 3, none⟩ = some (vI ky) ∧ W2.cell? ⟨b, 4, none⟩ = some (.string vs) ∧ W2.cell? ⟨b, 5, none⟩ = some (.bool ok) ∧ W2.cell? ⟨b, 6, none⟩ = some (.string val) ∧ W2.cell? ⟨b, 7, none⟩ = some (.slice ka kn kc) ∧ W2.cell? ⟨b, 8, none⟩ = some (.slice va vn vc) ∧ W2.cell? ⟨b + 1, 2, none⟩ = some (vI kd') ∧ W2.cell? ⟨b + 1, 3, none⟩ = some (vI ky') ∧ W2.cell? ⟨b + 1, 5, none⟩ = some (.bool ok')) := fun W2 h => by
    have k1 := fun o => h.cell (o := o) (heap_lt HB1.out) (fun h => h)
    have k2 := fun o => h.cell (o := o) (heap_lt HB2.out) (fun h => h)
    exact ⟨(k1 0).trans (cell_of HB1.out 0), (k1 1).trans (cell_of HB1.out 1), (k1 2).trans (cell_of HB1.out 2), (k1 3).trans (cell_of HB1.out 3), (k1 4).trans (cell_of HB1.out 4), (k1 5).trans (cell_of HB1.out 5), (k1 6).trans (cell_of HB1.out 6), (k1 7).trans (cell_of HB1.out 7), (k1 8).trans (cell_of HB1.out 8), (k2 2).trans (cell_of HB2.out 2), (k2 3).trans (cell_of HB2.out 3), (k2 5).trans (cell_of HB2.out 5)⟩
  clear HB1 HB2
  -- the tail: from region 6 on, whatever world
  go_enter Try.func22, Try.ntmps22
  go_upto_region 1 with fail
  rw [show ((w.alloc (.cells #[vI fr, vI tt, vI kd, vI ky, .string vs, .bool ok, .string val, .slice ka kn kc, .slice va vn vc] 47)).alloc (.cells #[vI fr', vI tt', vI kd', vI ky', .string vs', .bool ok', .string val', .slice ka' kn' kc', .slice va' vn' vc'] 47)) = W from EW.out.symm, ← EB.out]
  clear EW EB
  by_cases hc : tt < fr'
  · have hd : decide (tt < fr') = true := by simp [hc]
    have hi : (tt : Int) < fr' := by omega
    clear hS1 hM1
    go_wp2_with fail
    go_ret
    exact ⟨by first | rfl | (rw [hd]; rfl) | (simp [hd]; done), HFA.out⟩
  · have hd : decide (tt < fr') = false := by simp; omega
    have hd2 : decide ((tt : Int) < fr') = false := by simp; omega
    have tail : ∀ (W2 : World), Fr (fun _ => False) W W2 → Hd ((kd' == 1 && ok') = false ∨ (kd' == 1 && ok') = true) := fun W2 h => by show _ ∨ _; cases (kd' == 1 && ok') <;> simp
    clear tail
    cases hmade : (kd == 1) with
    | false =>
      cases hm2 : (kd' == 1) with
      | false =>
        clear hS1 hM1
        go_wp2_with fail
        go_ret
        exact ⟨by first | rfl | (simp; done) | (simp [hd, hmade, hm2]; done) | (rw [hmade]; simp; done) | (rw [hmade, hm2]; simp; done) | (rw [hmade]; rfl) | (rw [hmade, hm2]; rfl), HFA.out⟩
      | true =>
        cases hok2 : ok' with
        | false =>
          subst hok2
          clear hS1 hM1
          go_wp2_with fail
          go_ret
          exact ⟨by first | rfl | (simp; done) | (simp [hd, hmade, hm2]; done) | (rw [hmade]; simp; done) | (rw [hmade, hm2]; simp; done) | (rw [hmade]; rfl) | (rw [hmade, hm2]; rfl), HFA.out⟩
        | true =>
          subst hok2
          obtain ⟨-, -, -, -, c4, -, c6, c7, c8, -⟩ := HBK.out W (Fr.refl _ _)
          have hM2 := hM1 W (Fr.refl _ _)
          clear hS1 hM1
          go_wp2_with fail
          refine hM2.mono ?_
          rintro _ w2 ⟨rfl, hf2⟩
          have HF2 : Hd (Fr (fun _ => False) w w2) := HFA.out.trans hf2
          clear hM2 hf2 HFA HBK c0 c1 c2 c3 c4 c5 c6 c7 c8 e0 e1 e2 e3 e4 e5 e6 e7 e8
          go_wp2_with fail
          go_ret
          exact ⟨by first | rfl | (simp; done) | (simp [hd, hmade, hm2]; done) | (rw [hmade]; simp; done) | (rw [hmade, hm2]; simp; done) | (rw [hmade]; rfl) | (rw [hmade, hm2]; rfl), HF2.out⟩
    | true =>
      cases hok : ok with
      | false =>
        subst hok
        cases hm2 : (kd' == 1) with
        | false =>
          clear hS1 hM1
          go_wp2_with fail
          go_ret
          exact ⟨by first | rfl | (simp; done) | (simp [hd, hmade, hm2]; done) | (rw [hmade]; simp; done) | (rw [hmade, hm2]; simp; done) | (rw [hmade]; rfl) | (rw [hmade, hm2]; rfl), HFA.out⟩
        | true =>
          cases hok2 : ok' with
          | false =>
            subst hok2
            clear hS1 hM1
            go_wp2_with fail
            go_ret
            exact ⟨by first | rfl | (simp; done) | (simp [hd, hmade, hm2]; done) | (rw [hmade]; simp; done) | (rw [hmade, hm2]; simp; done) | (rw [hmade]; rfl) | (rw [hmade, hm2]; rfl), HFA.out⟩
          | true =>
            subst hok2
            obtain ⟨-, -, -, -, c4, -, c6, c7, c8, -⟩ := HBK.out W (Fr.refl _ _)
            have hM2 := hM1 W (Fr.refl _ _)
            clear hS1 hM1
            go_wp2_with fail
            refine hM2.mono ?_
            rintro _ w2 ⟨rfl, hf2⟩
            have HF2 : Hd (Fr (fun _ => False) w w2) := HFA.out.trans hf2
            clear hM2 hf2 HFA HBK c0 c1 c2 c3 c4 c5 c6 c7 c8 e0 e1 e2 e3 e4 e5 e6 e7 e8
            go_wp2_with fail
            go_ret
            exact ⟨by first | rfl | (simp; done) | (simp [hd, hmade, hm2]; done) | (rw [hmade]; simp; done) | (rw [hmade, hm2]; simp; done) | (rw [hmade]; rfl) | (rw [hmade, hm2]; rfl), HF2.out⟩
      | true =>
        subst hok
        go_wp2_with fail
        refine hS1.mono ?_
        rintro _ w1 ⟨rfl, hf1⟩
        have HF1 : Hd (Fr (fun _ => False) w w1) := HFA.out.trans hf1
        obtain ⟨a0, a1, a2, a3, a4, a5, a6, a7, a8, b2, b3, b5⟩ := HBK.out w1 hf1
        have hM2 := hM1 w1 hf1
        clear hS1 hM1 hf1 HFA HBK c0 c1 c2 c3 c5 e0 e1 e2 e3 e4 e5 e6 e7 e8
        cases sb with
        | true =>
          clear hM2
          go_wp2_with fail
          go_ret
          exact ⟨by first | rfl | (simp; done) | (rw [hmade]; simp; done) | (rw [hmade]; rfl), HF1.out⟩
        | false =>
          cases hm2 : (kd' == 1) with
          | false =>
            clear hM2
            go_wp2_with fail
            go_ret
            exact ⟨by first | rfl | (simp; done) | (simp [hd, hmade, hm2]; done) | (rw [hmade]; simp; done) | (rw [hmade, hm2]; simp; done) | (rw [hmade]; rfl) | (rw [hmade, hm2]; rfl), HF1.out⟩
          | true =>
            cases hok2 : ok' with
            | false =>
              subst hok2
              clear hM2
              go_wp2_with fail
              go_ret
              exact ⟨by first | rfl | (simp; done) | (simp [hd, hmade, hm2]; done) | (rw [hmade]; simp; done) | (rw [hmade, hm2]; simp; done) | (rw [hmade]; rfl) | (rw [hmade, hm2]; rfl), HF1.out⟩
            | true =>
              subst hok2
              go_wp2_with fail
              refine hM2.mono ?_
              rintro _ w2 ⟨rfl, hf2⟩
              have HF2 : Hd (Fr (fun _ => False) w w2) := HF1.out.trans hf2
              clear hM2 hf2 HF1 a0 a1 a2 a3 a4 a5 a6 a7 a8 b2 b3 b5
              go_wp2_with fail
              go_ret
              exact ⟨by first | rfl | (simp; done) | (simp [hd, hmade, hm2]; done) | (rw [hmade]; simp; done) | (rw [hmade, hm2]; simp; done) | (rw [hmade]; rfl) | (rw [hmade, hm2]; rfl), HF2.out⟩
end Go.Proofs.Ytgcekpmkniipfaa

namespace Go.Proofs.Ytgcekpmkniipfaa
open Go.RowKit (wrap32 wrap64)
set_option linter.unusedVariables false
set_option linter.unusedSimpArgs false

theorem info48 : (Try.prog.info? 48).map (fun i => (i.zero, i.size, i.bytes)) = some (some (.slice none 0 0), 1, 24) := by kernel_rfl
theorem und34 : Try.prog.underlying 34 = some (.slice 48) := by kernel_rfl
def mostX (n : Nat) : Nat := 400 / n + 1
def SoE (w wr : World) (cl : List (List OpT)) (n i : Nat) (v3 : Value) (us : List Value) : Prop := us.length = i ∧ wr.ownsRow w.heap.size 48 1 v3 i us ∧ (∀ j (h : j < us.length) (h2 : j < cl.length), OpsAt w w.heap.size us[j] (cl[j].take (mostX n))) ∧ Fr (fun _ => False) w wr
def someX (cl : List (List OpT)) : List (List OpT) := cl.map (fun l => l.take (mostX cl.length))

set_option maxRecDepth 100000 in
set_option maxHeartbeats 4000000 in
theorem some_any (w : World) (v : Value) (cl : List (List OpT)) (h : ClsAt w w.heap.size v cl) (hn : cl.length ≤ 2147483647) (hlen : ∀ l ∈ cl, l.length ≤ 2147483647) :
    Calls Try.prog 21 #[v] w fun e w' => ∃ v', e = .returned v' ∧ ClsAt w' w'.heap.size v' (someX cl) ∧ Fr (fun _ => False) w w' := by
  obtain ⟨i48, hi48, hz48, hs48, hb48⟩ := info_parts info48
  obtain ⟨ad, cap, rfl, hx⟩ := h
  have HX : Hd (cl ≠ [] → ∃ g o, ad = some ⟨g, o, none⟩ ∧ g < w.heap.size ∧ ∀ i (h : i < cl.length), ∃ u, w.cell? ⟨g, o + i, none⟩ = some u ∧ OpsAt w w.heap.size u cl[i]) := hx
  have HL : Hd (∀ l ∈ cl, l.length ≤ 2147483647) := hlen
  obtain ⟨n, en⟩ : ∃ n, n = cl.length := ⟨_, rfl⟩
  have EN : Hd (n = cl.length) := en
  rw [← en] at hn ⊢
  clear hx hlen en
  go_enter Try.func21, Try.ntmps21
  go_wp2_with fail
  go_loopw [3, 4, 5, 6] (fun v3 v4 _ _ wr => ∃ (i : Nat) (us : List Value), v4 = .int .i64 i ∧ i ≤ n ∧ Hd (SoE w wr cl n i v3 us)) (fun _ v _ _ _ => match v with | .int _ q => n - q.toNat | _ => 0)
  case atStart => exact ⟨0, [], rfl, by omega, rfl, World.ownsRow_nil _ _ _ _, fun j h => by simp at h, Fr.refl _ _⟩
  case round =>
    obtain ⟨i, us, rfl, hi, HM⟩ := hrel
    by_cases hlt : i < n
    · have hil : i < cl.length := by rw [← EN.out]; exact hlt
      obtain ⟨g, o, rfl, hg, hcs⟩ := HX.out (by intro e; rw [e] at hil; simp at hil)
      obtain ⟨u, hu, hO⟩ := hcs i hil
      obtain ⟨hul, hrow, hall, hF⟩ := HM.out
      have du := (hF.cell hg (fun h => h)).trans hu
      have hll := HL.out cl[i] (List.getElem_mem hil)
      -- what is appended
      have key : ∀ u', OpsAt w w.heap.size u' (cl[i].take (mostX n)) → (∃ a m c, u' = .slice a m c) → ∃ g6 cap6 w6, (Builtin.append_ #[34, 34] 34 #[u3, .slice (some ⟨wr.heap.size, 0, none⟩) 1 1]).run Try.prog (wr.alloc (.cells #[u'] 48)) = .ok (.slice (some ⟨g6, 0, none⟩) (i + 1) cap6) w6 ∧ SoE w w6 cl n (i + 1) (.slice (some ⟨g6, 0, none⟩) (i + 1) cap6) (us ++ [u']) := by
        rintro u' hO' ⟨a', m', c', e'⟩
        obtain ⟨g6, cap6, w6, hr, hown, hgr, -, -⟩ := run_append_lies (P := Try.prog) (w := wr.alloc (.cells #[u'] 48)) 34 34 w.heap.size 48 i48 (.slice none 0 0) 1 24 und34 hi48 hz48 hs48 hb48 rfl (by omega) u3 i us (World.ownsRow.alloc hrow _) ⟨wr.heap.size, 0, none⟩ 1 1 [u'] rfl (one_new wr u' 48) (by intro x hx; rw [List.mem_singleton.1 hx, e']; rfl) (by omega) (by unfold maxLen; omega) (by omega) (by have := hF.size; simp; omega) _ rfl
        refine ⟨g6, cap6, w6, hr, by simp [hul], hown, fun j hj h2 => ?_, (hF.alloc _).under (grown_fr hgr) (fun j hj => (World.ownsRow.lt hrow j hj).1)⟩
        by_cases e : j < us.length
        · rw [List.getElem_append_left e]; exact hall j e h2
        · have ej : j = i := by simp at hj; omega
          subst ej
          have : (us ++ [u'])[j] = u' := by simp [hul]
          rw [this]; exact hO'
      obtain ⟨ua, uc, eu, huc, hux⟩ := hO
      have hO : OpsAt w w.heap.size u cl[i] := ⟨ua, uc, eu, huc, hux⟩
      have hi0 : (0 : Int) ≤ i := by omega
      have hi3 : (i : Int) < n := by omega
      have hn0 : ((n : Int) == 0) = false := by simp; omega
      have hn00 : ¬ n = 0 := by omega
      obtain ⟨q, eq⟩ : ∃ q, q = 400 / n := ⟨_, rfl⟩
      have hqb : q ≤ 400 := by rw [eq]; exact Nat.div_le_self _ _
      have hq : (400 : Int) / (n : Int) = (q : Int) := by
        have e1 : (400 : Int) / (n : Int) = ((400 / n : Nat) : Int) := by rw [Int.natCast_ediv]; rfl
        rw [e1, ← eq]
      have hmx : mostX n = q + 1 := by rw [eq]; rfl
      clear eq
      by_cases hbig : mostX n < cl[i].length
      · have hne : cl[i] ≠ [] := by intro e; rw [e] at hbig; simp at hbig
        obtain ⟨ug, uo, rfl, hug, hucs⟩ := hux hne
        have hO' : OpsAt w w.heap.size (.slice (some ⟨ug, uo, none⟩) (mostX n) uc) (cl[i].take (mostX n)) := by
          have hlt' : (cl[i].take (mostX n)).length = mostX n := by rw [List.length_take]; omega
          refine ⟨_, uc, by rw [hlt'], by omega, fun _ => ⟨ug, uo, rfl, hug, fun j hj => ?_⟩⟩
          have hj' : j < cl[i].length := by omega
          have := hucs j hj'
          rw [List.getElem_take]; exact this
        obtain ⟨g6, cap6, w6, hr, hend⟩ := key _ hO' ⟨_, _, _, rfl⟩
        have HA : Hd ((Builtin.append_ #[34, 34] 34 #[u3, .slice (some ⟨wr.heap.size, 0, none⟩) 1 1]).run Try.prog (wr.alloc (.cells #[.slice (some ⟨ug, uo, none⟩) (mostX n) uc] 48)) = .ok (.slice (some ⟨g6, 0, none⟩) (i + 1) cap6) w6) := hr
        have HE : Hd (SoE w w6 cl n (i + 1) (.slice (some ⟨g6, 0, none⟩) (i + 1) cap6) (us ++ [.slice (some ⟨ug, uo, none⟩) (mostX n) uc])) := hend
        subst eu
        obtain ⟨ln, eln⟩ : ∃ ln, ln = cl[i].length := ⟨_, rfl⟩
        rw [← eln] at du hbig hll huc
        rw [hmx] at HA hbig HE
        have hb1 : (q : Int) + 1 < ln := by omega
        have hb2 : (q : Int) + 1 ≤ uc := by omega
        have hb3 : (0 : Int) ≤ (q : Int) + 1 := by omega
        clear key hcs hux hucs hO hO' hr hend HM hul hrow hall hF hu eln hne hmx
        go_wp2_with (at_builtin; refine wpList_append_run rfl (.tmp 28) (.tmp 30) 34 rfl _ _ _ rfl rfl HA.out ?_)
        exact ⟨⟨i + 1, _, by simp, by omega, HE.out⟩, by simp; omega⟩
      · have et : cl[i].take (mostX n) = cl[i] := List.take_of_length_le (by omega)
        obtain ⟨g6, cap6, w6, hr, hend⟩ := key u (by rw [et]; exact hO) ⟨_, _, _, eu⟩
        subst eu
        have HA : Hd ((Builtin.append_ #[34, 34] 34 #[u3, .slice (some ⟨wr.heap.size, 0, none⟩) 1 1]).run Try.prog (wr.alloc (.cells #[.slice ua cl[i].length uc] 48)) = .ok (.slice (some ⟨g6, 0, none⟩) (i + 1) cap6) w6) := hr
        have HE : Hd (SoE w w6 cl n (i + 1) (.slice (some ⟨g6, 0, none⟩) (i + 1) cap6) (us ++ [.slice ua cl[i].length uc])) := hend
        obtain ⟨ln, eln⟩ : ∃ ln, ln = cl[i].length := ⟨_, rfl⟩
        rw [← eln] at du hbig hll huc HA HE
        rw [hmx] at hbig
        have hb1 : decide ((q : Int) + 1 < ln) = false := by simp; omega
        have hb2 : decide (q + 1 < ln) = false := by simp; omega
        clear key hcs hux hO hr hend HM hul hrow hall hF hu eln hmx et
        go_wp2_with (at_builtin; refine wpList_append_run rfl (.tmp 28) (.tmp 30) 34 rfl _ _ _ rfl rfl HA.out ?_)
        exact ⟨⟨i + 1, _, by simp, by omega, HE.out⟩, by simp; omega⟩
    · have hd : decide (i < n) = false := by simp; omega
      have ein : i = cl.length := by have := EN.out; omega
      have HE : Hd (ClsAt wr wr.heap.size u3 (someX cl) ∧ Fr (fun _ => False) w wr) := by
        obtain ⟨hul, hrow, hall, hF⟩ := HM.out
        refine ⟨?_, hF⟩
        obtain ⟨a, c, e, hx⟩ := RowAt.own hrow
        refine ⟨a, c, by rw [e]; unfold someX; congr 1; simp; omega, fun hne => ?_⟩
        have hpos : 0 < cl.length := by
          rcases Nat.eq_zero_or_pos cl.length with e0 | e0
          · exact absurd (by unfold someX; rw [List.eq_nil_of_length_eq_zero e0]; rfl) hne
          · exact e0
        obtain ⟨g, o, ea, hg, hcs⟩ := hx (by intro e0; rw [e0] at hul; simp at hul; omega)
        refine ⟨g, o, ea, hg, fun j hj => ?_⟩
        have hj' : j < cl.length := by have hsl : (someX cl).length = cl.length := by simp [someX]
                                       omega
        have hj2 : j < us.length := by omega
        refine ⟨us[j], hcs j hj2, ?_⟩
        have e2 : (someX cl)[j] = cl[j].take (mostX n) := by rw [EN.out]; simp [someX]
        rw [e2]
        exact ((hall j hj2 hj').fr hF (Nat.le_refl _) (fun _ _ h => h)).mono hF.size
      clear HM
      go_wp2_with fail
      go_ret
      exact ⟨_, rfl, HE.out.1, HE.out.2⟩
end Go.Proofs.Ytgcekpmkniipfaa
