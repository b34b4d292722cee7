import Derived.Test.YtihicdbplmdjiaaQNb
namespace Go.Proofs.Ytihicdbplmdjiaa
open Go.RowKit (wrap32 wrap64)
set_option linter.unusedVariables false
set_option linter.unusedSimpArgs false

theorem rplB_self (r : Rpl) : rplB r r = true := rplB_iff.2 rfl
set_option maxRecDepth 100000 in
set_option maxHeartbeats 4000000 in
/-- EqMoment, of two alike. -/
theorem eqMoment_any (c : Int) (beg : Bool) (kd ky : Int) (v : ByteArray) (r : Rpl) (k1 u1 k2 u2 : Value) (w : World) (h1 : RV.At w ⟨r, k1, u1⟩) (h2 : RV.At w ⟨r, k2, u2⟩) (hk : r.keys.length ≤ 4000000000) (hv : r.vals.length ≤ 4000000000) :
    Calls Try.prog 53 #[.agg #[vI c, .bool beg, vI kd, vI ky, .string v, .bool r.ok, .string r.val, k1, u1], .agg #[vI c, .bool beg, vI kd, vI ky, .string v, .bool r.ok, .string r.val, k2, u2]] w fun e w' => e = .returned (.bool true) ∧ Fr (fun _ => False) w w' := by
  have HEQ : Hd (∀ W, Fr (fun _ => False) w W → Calls Try.prog 33 #[.agg #[.bool r.ok, .string r.val, k1, u1], .agg #[.bool r.ok, .string r.val, k2, u2]] W fun e w' => e = .returned (.bool true) ∧ Fr (fun _ => False) W w') := fun W f => by
    have := eqReply_any ⟨r, k1, u1⟩ ⟨r, k2, u2⟩ W (h1.fr f) (h2.fr f) hk hk hv hv
    rw [rplB_self] at this
    exact this
  obtain ⟨ok, val, ks, vs⟩ := r
  obtain ⟨ka, kc, e1⟩ := row_slice h1.1
  obtain ⟨va, vc, e2⟩ := row_slice h1.2
  obtain ⟨ka2, kc2, e3⟩ := row_slice h2.1
  obtain ⟨va2, vc2, e4⟩ := row_slice h2.2
  simp only at e1 e2 e3 e4 HEQ ⊢
  subst e1 e2 e3 e4
  obtain ⟨W, eW⟩ : ∃ W, W = ((w.alloc (.cells #[vI c, .bool beg, vI kd, vI ky, .string v, .bool ok, .string val, .slice ka (ks.map vI).length kc, .slice va (vs.map Value.string).length vc] 30)).alloc (.cells #[vI c, .bool beg, vI kd, vI ky, .string v, .bool ok, .string val, .slice ka2 (ks.map vI).length kc2, .slice va2 (vs.map Value.string).length vc2] 30)) := ⟨_, rfl⟩
  have f1 : Fr (fun _ => False) w W := by rw [eW]; exact ((Fr.refl _ w).alloc _).alloc _
  have b1 : W.heap[w.heap.size]? = some (.cells #[vI c, .bool beg, vI kd, vI ky, .string v, .bool ok, .string val, .slice ka (ks.map vI).length kc, .slice va (vs.map Value.string).length vc] 30) := by
    rw [eW, Go.RowKit.Below.heap_alloc _ _ _ (by simp)]; exact heap_alloc_last w _
  have b2 : W.heap[w.heap.size + 1]? = some (.cells #[vI c, .bool beg, vI kd, vI ky, .string v, .bool ok, .string val, .slice ka2 (ks.map vI).length kc2, .slice va2 (vs.map Value.string).length vc2] 30) := by
    rw [eW]
    have := heap_alloc_last (w.alloc (.cells #[vI c, .bool beg, vI kd, vI ky, .string v, .bool ok, .string val, .slice ka (ks.map vI).length kc, .slice va (vs.map Value.string).length vc] 30)) (.cells #[vI c, .bool beg, vI kd, vI ky, .string v, .bool ok, .string val, .slice ka2 (ks.map vI).length kc2, .slice va2 (vs.map Value.string).length vc2] 30)
    rwa [show (w.alloc (.cells #[vI c, .bool beg, vI kd, vI ky, .string v, .bool ok, .string val, .slice ka (ks.map vI).length kc, .slice va (vs.map Value.string).length vc] 30)).heap.size = w.heap.size + 1 by simp] at this
  have hq := HEQ.out W f1
  have HF : Hd (Fr (fun _ => False) w W) := f1
  clear HEQ h1 h2 hk hv
  obtain ⟨nk, enk⟩ : ∃ nk, nk = (ks.map vI).length := ⟨_, rfl⟩
  obtain ⟨nv, env⟩ : ∃ nv, nv = (vs.map Value.string).length := ⟨_, rfl⟩
  rw [← enk, ← env] at eW b1 b2 hq ⊢
  clear enk env f1
  go_enter Try.func53, Try.ntmps53
  go_upto_region 1 with fail
  rw [← eW]
  clear eW
  obtain ⟨p0, p1, p2, p3, p4, p5, p6, p7, p8⟩ := nine b1
  obtain ⟨q0, q1, q2, q3, q4, q5, q6, q7, q8⟩ := nine b2
  obtain ⟨bb, ebb⟩ : ∃ bb, bb = w.heap.size := ⟨_, rfl⟩
  rw [← ebb] at p0 p1 p2 p3 p4 p5 p6 p7 p8 q0 q1 q2 q3 q4 q5 q6 q7 q8 ⊢
  clear b1 b2 ebb
  have hbb : (beg == beg) = true := by simp
  have hcc : ((c : Int) == c) = true := by simp
  go_wp2_with (go_at_call 33; refine hq.mono ?_; rintro _ w3 ⟨rfl, hf3⟩; have HF3 : Hd (Fr _ _ _) := hf3; clear hf3)
  go_ret
  exact ⟨by simp, HF.out.trans HF3.out⟩
set_option maxRecDepth 100000 in
set_option maxHeartbeats 4000000 in
/-- EqHistory, of two alike. -/
theorem eqHistory_any (iv hv : Value) (his hs : List Mo) (w : World) (hi : HAt w iv his) (hh : HAt w hv hs) (hl : hs.length ≤ 4000000000) (hL : ∀ m ∈ hs, m.R.r.keys.length ≤ 4000000000 ∧ m.R.r.vals.length ≤ 4000000000) (hpl : his.map Mo.pl = hs.map Mo.pl) :
    Calls Try.prog 36 #[iv, hv] w fun e w' => e = .returned (.bool true) ∧ Fr (fun _ => False) w w' := by
  have hlen : his.length = hs.length := by simpa using congrArg List.length hpl
  obtain ⟨ad, cap, rfl, h1, h2⟩ := hi
  obtain ⟨ad', cap', rfl, h1', h2'⟩ := hh
  have HX : Hd (∀ i (hi : i < his.length), ∃ g o, ad = some ⟨g, o, none⟩ ∧ ∀ W, Fr (fun _ => False) w W → ∀ j, j < 9 → W.cell? ⟨g, o + i * 9 + j, none⟩ = (m9 his[i])[j]?) := fun i hi => by
    obtain ⟨g, o, ea, hc⟩ := h1 (fun e => by rw [e] at hi; simp at hi)
    refine ⟨g, o, ea, fun W f j hj => (f.cell ?_ (fun e => e)).trans (hc i hi j hj)⟩
    have := hc i hi j hj
    rw [List.getElem?_eq_getElem (by exact hj)] at this
    exact cell_lt this
  have HX' : Hd (∀ i (hi : i < hs.length), ∃ g o, ad' = some ⟨g, o, none⟩ ∧ ∀ W, Fr (fun _ => False) w W → ∀ j, j < 9 → W.cell? ⟨g, o + i * 9 + j, none⟩ = (m9 hs[i])[j]?) := fun i hi => by
    obtain ⟨g, o, ea, hc⟩ := h1' (fun e => by rw [e] at hi; simp at hi)
    refine ⟨g, o, ea, fun W f j hj => (f.cell ?_ (fun e => e)).trans (hc i hi j hj)⟩
    have := hc i hi j hj
    rw [List.getElem?_eq_getElem (by exact hj)] at this
    exact cell_lt this
  have HM : Hd ((∀ m ∈ his, m.R.At w) ∧ (∀ m ∈ hs, m.R.At w ∧ m.R.r.keys.length ≤ 4000000000 ∧ m.R.r.vals.length ≤ 4000000000) ∧ his.map Mo.pl = hs.map Mo.pl) := ⟨fun m hm => (h2 m hm).1, fun m hm => ⟨(h2' m hm).1, hL m hm⟩, hpl⟩
  obtain ⟨n, en⟩ : ∃ n, n = hs.length := ⟨_, rfl⟩
  have EN : Hd (n = hs.length ∧ n = his.length) := ⟨en, by omega⟩
  rw [show his.length = n by omega]
  rw [← en] at hl ⊢
  clear h1 h2 h1' h2' en hL hpl hlen
  have hnn : ((n : Int) == (n : Int)) = true := by simp
  go_enter Try.func36, Try.ntmps36
  go_upto_region 4 with fail
  go_loopw [5] (fun v wr => ∃ k : Nat, v = vI k ∧ k ≤ n ∧ Hd (Fr (fun _ => False) w wr)) (fun v _ => match v with | .int _ q => n - q.toNat | _ => 0)
  case atStart => exact ⟨0, rfl, by omega, Fr.refl _ _⟩
  case round =>
    obtain ⟨k, rfl, hk, HR⟩ := hrel
    by_cases hlt : k < n
    · have k0 : (0 : Int) ≤ k := by omega
      have k1 : (k : Int) < n := by omega
      have hki : k < his.length := by have := EN.out.2; omega
      have hkh : k < hs.length := by have := EN.out.1; omega
      obtain ⟨g, o, rfl, hc⟩ := HX.out k hki
      obtain ⟨g', o', rfl, hc'⟩ := HX'.out k hkh
      have hpk : (his[k]).pl = (hs[k]).pl := by
        have := congrArg (fun l => l[k]?) HM.out.2.2
        simpa [List.getElem?_eq_getElem hki, List.getElem?_eq_getElem hkh] using this
      have hm1 := HM.out.1 _ (List.getElem_mem hki)
      have hm2 := HM.out.2.1 _ (List.getElem_mem hkh)
      obtain ⟨m, em⟩ : ∃ m, m = his[k] := ⟨_, rfl⟩
      obtain ⟨m', em'⟩ : ∃ m, m = hs[k] := ⟨_, rfl⟩
      rw [← em] at hc hm1 hpk
      rw [← em'] at hc' hm2 hpk
      obtain ⟨c, beg, kd, ky, v, ⟨r, k1', u1'⟩⟩ := m
      obtain ⟨c', beg', kd', ky', v', ⟨r', k2', u2'⟩⟩ := m'
      unfold Mo.pl at hpk
      simp only [Prod.mk.injEq] at hpk
      obtain ⟨rfl, rfl, rfl, rfl, rfl, rfl⟩ := hpk
      obtain ⟨ka, kc, ek⟩ := row_slice hm1.1
      obtain ⟨va, vc, ev⟩ := row_slice hm1.2
      obtain ⟨ka2, kc2, ek2⟩ := row_slice hm2.1.1
      obtain ⟨va2, vc2, ev2⟩ := row_slice hm2.1.2
      simp only [List.length_map] at ek ev ek2 ev2
      have HY : Hd (∀ W, Fr (fun _ => False) wr W → Calls Try.prog 53 #[.agg #[vI c, .bool beg, vI kd, vI ky, .string v, .bool r.ok, .string r.val, k1', u1'], .agg #[vI c, .bool beg, vI kd, vI ky, .string v, .bool r.ok, .string r.val, k2', u2']] W fun e w' => e = .returned (.bool true) ∧ Fr (fun _ => False) W w') := fun W f =>
        eqMoment_any c beg kd ky v r k1' u1' k2' u2' W (hm1.fr (HR.out.trans f)) (hm2.1.fr (HR.out.trans f)) hm2.2.1 hm2.2.2
      have HCX : Hd (∀ W, Fr (fun _ => False) wr W → ∀ j, j < 9 → W.cell? ⟨g, o + k * 9 + j, none⟩ = (m9 ⟨c, beg, kd, ky, v, ⟨r, k1', u1'⟩⟩)[j]?) := fun W f => hc W (HR.out.trans f)
      have HCY : Hd (∀ W, Fr (fun _ => False) wr W → ∀ j, j < 9 → W.cell? ⟨g', o' + k * 9 + j, none⟩ = (m9 ⟨c, beg, kd, ky, v, ⟨r, k2', u2'⟩⟩)[j]?) := fun W f => hc' W (HR.out.trans f)
      unfold m9 at HCX HCY
      simp only at HCX HCY
      subst ek ev ek2 ev2
      clear em em' hc hc' hm1 hm2 hki hkh
      go_upto_region 6 with fail
      refine wp_region_held_drew (S := fun W2 => Fr (fun _ => False) wr W2) (by kernel_rfl) ((Fr.refl _ wr).drew) (fun hHeld => ?_)
      refine heldTake (i := 0) 18 (v := ?_) rfl rfl (by kernel_rfl) (by kernel_rfl) (by kernel_rfl) (fun _ _ _ h => h) (by kernel_rfl) (fun w hSw => (by have k0 := HCX.out w hSw 0 (by omega); have k1 := HCX.out w hSw 1 (by omega); have k2 := HCX.out w hSw 2 (by omega); have k3 := HCX.out w hSw 3 (by omega); have k4 := HCX.out w hSw 4 (by omega); have k5 := HCX.out w hSw 5 (by omega); have k6 := HCX.out w hSw 6 (by omega); have k7 := HCX.out w hSw 7 (by omega); have k8 := HCX.out w hSw 8 (by omega); have i0 := HCY.out w hSw 0 (by omega); have i1 := HCY.out w hSw 1 (by omega); have i2 := HCY.out w hSw 2 (by omega); have i3 := HCY.out w hSw 3 (by omega); have i4 := HCY.out w hSw 4 (by omega); have i5 := HCY.out w hSw 5 (by omega); have i6 := HCY.out w hSw 6 (by omega); have i7 := HCY.out w hSw 7 (by omega); have i8 := HCY.out w hSw 8 (by omega); simp only [List.getElem?_cons_zero, List.getElem?_cons_succ, Nat.add_zero] at k0 k1 k2 k3 k4 k5 k6 k7 k8 i0 i1 i2 i3 i4 i5 i6 i7 i8; go_simp; try with_reducible rfl)) hHeld ?_
      simp only [Act.put, List.setIfInBounds_toArray, List.set_cons_zero, List.set_cons_succ]
      refine heldTake (i := 1) 19 (v := ?_) rfl rfl (by kernel_rfl) (by kernel_rfl) (by kernel_rfl) (fun _ _ _ h => h) (by kernel_rfl) (fun w hSw => (by have k0 := HCX.out w hSw 0 (by omega); have k1 := HCX.out w hSw 1 (by omega); have k2 := HCX.out w hSw 2 (by omega); have k3 := HCX.out w hSw 3 (by omega); have k4 := HCX.out w hSw 4 (by omega); have k5 := HCX.out w hSw 5 (by omega); have k6 := HCX.out w hSw 6 (by omega); have k7 := HCX.out w hSw 7 (by omega); have k8 := HCX.out w hSw 8 (by omega); have i0 := HCY.out w hSw 0 (by omega); have i1 := HCY.out w hSw 1 (by omega); have i2 := HCY.out w hSw 2 (by omega); have i3 := HCY.out w hSw 3 (by omega); have i4 := HCY.out w hSw 4 (by omega); have i5 := HCY.out w hSw 5 (by omega); have i6 := HCY.out w hSw 6 (by omega); have i7 := HCY.out w hSw 7 (by omega); have i8 := HCY.out w hSw 8 (by omega); simp only [List.getElem?_cons_zero, List.getElem?_cons_succ, Nat.add_zero] at k0 k1 k2 k3 k4 k5 k6 k7 k8 i0 i1 i2 i3 i4 i5 i6 i7 i8; go_simp; try with_reducible rfl)) hHeld ?_
      simp only [Act.put, List.setIfInBounds_toArray, List.set_cons_zero, List.set_cons_succ]
      refine heldTake (i := 2) 20 (v := ?_) rfl rfl (by kernel_rfl) (by kernel_rfl) (by kernel_rfl) (fun _ _ _ h => h) (by kernel_rfl) (fun w hSw => (by have k0 := HCX.out w hSw 0 (by omega); have k1 := HCX.out w hSw 1 (by omega); have k2 := HCX.out w hSw 2 (by omega); have k3 := HCX.out w hSw 3 (by omega); have k4 := HCX.out w hSw 4 (by omega); have k5 := HCX.out w hSw 5 (by omega); have k6 := HCX.out w hSw 6 (by omega); have k7 := HCX.out w hSw 7 (by omega); have k8 := HCX.out w hSw 8 (by omega); have i0 := HCY.out w hSw 0 (by omega); have i1 := HCY.out w hSw 1 (by omega); have i2 := HCY.out w hSw 2 (by omega); have i3 := HCY.out w hSw 3 (by omega); have i4 := HCY.out w hSw 4 (by omega); have i5 := HCY.out w hSw 5 (by omega); have i6 := HCY.out w hSw 6 (by omega); have i7 := HCY.out w hSw 7 (by omega); have i8 := HCY.out w hSw 8 (by omega); simp only [List.getElem?_cons_zero, List.getElem?_cons_succ, Nat.add_zero] at k0 k1 k2 k3 k4 k5 k6 k7 k8 i0 i1 i2 i3 i4 i5 i6 i7 i8; go_simp; try with_reducible rfl)) hHeld ?_
      simp only [Act.put, List.setIfInBounds_toArray, List.set_cons_zero, List.set_cons_succ]
      refine heldTake (i := 3) 21 (v := ?_) rfl rfl (by kernel_rfl) (by kernel_rfl) (by kernel_rfl) (fun _ _ _ h => h) (by kernel_rfl) (fun w hSw => (by have k0 := HCX.out w hSw 0 (by omega); have k1 := HCX.out w hSw 1 (by omega); have k2 := HCX.out w hSw 2 (by omega); have k3 := HCX.out w hSw 3 (by omega); have k4 := HCX.out w hSw 4 (by omega); have k5 := HCX.out w hSw 5 (by omega); have k6 := HCX.out w hSw 6 (by omega); have k7 := HCX.out w hSw 7 (by omega); have k8 := HCX.out w hSw 8 (by omega); have i0 := HCY.out w hSw 0 (by omega); have i1 := HCY.out w hSw 1 (by omega); have i2 := HCY.out w hSw 2 (by omega); have i3 := HCY.out w hSw 3 (by omega); have i4 := HCY.out w hSw 4 (by omega); have i5 := HCY.out w hSw 5 (by omega); have i6 := HCY.out w hSw 6 (by omega); have i7 := HCY.out w hSw 7 (by omega); have i8 := HCY.out w hSw 8 (by omega); simp only [List.getElem?_cons_zero, List.getElem?_cons_succ, Nat.add_zero] at k0 k1 k2 k3 k4 k5 k6 k7 k8 i0 i1 i2 i3 i4 i5 i6 i7 i8; go_simp; try with_reducible rfl)) hHeld ?_
      simp only [Act.put, List.setIfInBounds_toArray, List.set_cons_zero, List.set_cons_succ]
      refine heldTake (i := 4) 22 (v := ?_) rfl rfl (by kernel_rfl) (by kernel_rfl) (by kernel_rfl) (fun _ _ _ h => h) (by kernel_rfl) (fun w hSw => (by have k0 := HCX.out w hSw 0 (by omega); have k1 := HCX.out w hSw 1 (by omega); have k2 := HCX.out w hSw 2 (by omega); have k3 := HCX.out w hSw 3 (by omega); have k4 := HCX.out w hSw 4 (by omega); have k5 := HCX.out w hSw 5 (by omega); have k6 := HCX.out w hSw 6 (by omega); have k7 := HCX.out w hSw 7 (by omega); have k8 := HCX.out w hSw 8 (by omega); have i0 := HCY.out w hSw 0 (by omega); have i1 := HCY.out w hSw 1 (by omega); have i2 := HCY.out w hSw 2 (by omega); have i3 := HCY.out w hSw 3 (by omega); have i4 := HCY.out w hSw 4 (by omega); have i5 := HCY.out w hSw 5 (by omega); have i6 := HCY.out w hSw 6 (by omega); have i7 := HCY.out w hSw 7 (by omega); have i8 := HCY.out w hSw 8 (by omega); simp only [List.getElem?_cons_zero, List.getElem?_cons_succ, Nat.add_zero] at k0 k1 k2 k3 k4 k5 k6 k7 k8 i0 i1 i2 i3 i4 i5 i6 i7 i8; go_simp; try with_reducible rfl)) hHeld ?_
      simp only [Act.put, List.setIfInBounds_toArray, List.set_cons_zero, List.set_cons_succ]
      refine heldTake (i := 5) 23 (v := ?_) rfl rfl (by kernel_rfl) (by kernel_rfl) (by kernel_rfl) (fun _ _ _ h => h) (by kernel_rfl) (fun w hSw => (by have k0 := HCX.out w hSw 0 (by omega); have k1 := HCX.out w hSw 1 (by omega); have k2 := HCX.out w hSw 2 (by omega); have k3 := HCX.out w hSw 3 (by omega); have k4 := HCX.out w hSw 4 (by omega); have k5 := HCX.out w hSw 5 (by omega); have k6 := HCX.out w hSw 6 (by omega); have k7 := HCX.out w hSw 7 (by omega); have k8 := HCX.out w hSw 8 (by omega); have i0 := HCY.out w hSw 0 (by omega); have i1 := HCY.out w hSw 1 (by omega); have i2 := HCY.out w hSw 2 (by omega); have i3 := HCY.out w hSw 3 (by omega); have i4 := HCY.out w hSw 4 (by omega); have i5 := HCY.out w hSw 5 (by omega); have i6 := HCY.out w hSw 6 (by omega); have i7 := HCY.out w hSw 7 (by omega); have i8 := HCY.out w hSw 8 (by omega); simp only [List.getElem?_cons_zero, List.getElem?_cons_succ, Nat.add_zero] at k0 k1 k2 k3 k4 k5 k6 k7 k8 i0 i1 i2 i3 i4 i5 i6 i7 i8; go_simp; try with_reducible rfl)) hHeld ?_
      simp only [Act.put, List.setIfInBounds_toArray, List.set_cons_zero, List.set_cons_succ]
      refine heldTake (i := 6) 24 (v := ?_) rfl rfl (by kernel_rfl) (by kernel_rfl) (by kernel_rfl) (fun _ _ _ h => h) (by kernel_rfl) (fun w hSw => (by have k0 := HCX.out w hSw 0 (by omega); have k1 := HCX.out w hSw 1 (by omega); have k2 := HCX.out w hSw 2 (by omega); have k3 := HCX.out w hSw 3 (by omega); have k4 := HCX.out w hSw 4 (by omega); have k5 := HCX.out w hSw 5 (by omega); have k6 := HCX.out w hSw 6 (by omega); have k7 := HCX.out w hSw 7 (by omega); have k8 := HCX.out w hSw 8 (by omega); have i0 := HCY.out w hSw 0 (by omega); have i1 := HCY.out w hSw 1 (by omega); have i2 := HCY.out w hSw 2 (by omega); have i3 := HCY.out w hSw 3 (by omega); have i4 := HCY.out w hSw 4 (by omega); have i5 := HCY.out w hSw 5 (by omega); have i6 := HCY.out w hSw 6 (by omega); have i7 := HCY.out w hSw 7 (by omega); have i8 := HCY.out w hSw 8 (by omega); simp only [List.getElem?_cons_zero, List.getElem?_cons_succ, Nat.add_zero] at k0 k1 k2 k3 k4 k5 k6 k7 k8 i0 i1 i2 i3 i4 i5 i6 i7 i8; go_simp; try with_reducible rfl)) hHeld ?_
      simp only [Act.put, List.setIfInBounds_toArray, List.set_cons_zero, List.set_cons_succ]
      refine heldTake (i := 7) 25 (v := ?_) rfl rfl (by kernel_rfl) (by kernel_rfl) (by kernel_rfl) (fun _ _ _ h => h) (by kernel_rfl) (fun w hSw => (by have k0 := HCX.out w hSw 0 (by omega); have k1 := HCX.out w hSw 1 (by omega); have k2 := HCX.out w hSw 2 (by omega); have k3 := HCX.out w hSw 3 (by omega); have k4 := HCX.out w hSw 4 (by omega); have k5 := HCX.out w hSw 5 (by omega); have k6 := HCX.out w hSw 6 (by omega); have k7 := HCX.out w hSw 7 (by omega); have k8 := HCX.out w hSw 8 (by omega); have i0 := HCY.out w hSw 0 (by omega); have i1 := HCY.out w hSw 1 (by omega); have i2 := HCY.out w hSw 2 (by omega); have i3 := HCY.out w hSw 3 (by omega); have i4 := HCY.out w hSw 4 (by omega); have i5 := HCY.out w hSw 5 (by omega); have i6 := HCY.out w hSw 6 (by omega); have i7 := HCY.out w hSw 7 (by omega); have i8 := HCY.out w hSw 8 (by omega); simp only [List.getElem?_cons_zero, List.getElem?_cons_succ, Nat.add_zero] at k0 k1 k2 k3 k4 k5 k6 k7 k8 i0 i1 i2 i3 i4 i5 i6 i7 i8; go_simp; try with_reducible rfl)) hHeld ?_
      simp only [Act.put, List.setIfInBounds_toArray, List.set_cons_zero, List.set_cons_succ]
      refine heldOne (i := 8) rfl (by kernel_rfl) (fun K hK => ?_)
      go_simp
      go_wp2_with ((go_at_call 53; refine Calls.mono (HY.out _ hHeld) ?_; rintro e w8 ⟨rfl, hF8⟩; have hHeld2 : Fr (fun _ => False) wr w8 := hHeld.trans hF8; clear hF8 hHeld))
      refine hK.out _ _ hHeld2 ?_
      clear hK K
      have hHeld := hHeld2
      clear hHeld2
      refine heldTake (i := 9) 6 (v := ?_) rfl rfl (by kernel_rfl) (by kernel_rfl) (by kernel_rfl) (fun _ _ _ h => h) (by kernel_rfl) (fun w hSw => (by have k0 := HCX.out w hSw 0 (by omega); have k1 := HCX.out w hSw 1 (by omega); have k2 := HCX.out w hSw 2 (by omega); have k3 := HCX.out w hSw 3 (by omega); have k4 := HCX.out w hSw 4 (by omega); have k5 := HCX.out w hSw 5 (by omega); have k6 := HCX.out w hSw 6 (by omega); have k7 := HCX.out w hSw 7 (by omega); have k8 := HCX.out w hSw 8 (by omega); have i0 := HCY.out w hSw 0 (by omega); have i1 := HCY.out w hSw 1 (by omega); have i2 := HCY.out w hSw 2 (by omega); have i3 := HCY.out w hSw 3 (by omega); have i4 := HCY.out w hSw 4 (by omega); have i5 := HCY.out w hSw 5 (by omega); have i6 := HCY.out w hSw 6 (by omega); have i7 := HCY.out w hSw 7 (by omega); have i8 := HCY.out w hSw 8 (by omega); simp only [List.getElem?_cons_zero, List.getElem?_cons_succ, Nat.add_zero] at k0 k1 k2 k3 k4 k5 k6 k7 k8 i0 i1 i2 i3 i4 i5 i6 i7 i8; go_simp; try with_reducible rfl)) hHeld ?_
      simp only [Act.put, List.setIfInBounds_toArray, List.set_cons_zero, List.set_cons_succ]
      refine wpAnyH_done (by kernel_rfl) ?_ _
      have HG : Hd (Fr (fun _ => False) wr w8) := hHeld
      clear hHeld HY HCX HCY
      go_wp2_with fail
      exact ⟨⟨k + 1, by simp, by omega, HR.out.trans HG.out⟩, by simp; omega⟩
    · have k2 : ¬ (k : Int) < n := by omega
      go_wp2_with fail
      go_ret
      exact ⟨rfl, HR.out⟩
end Go.Proofs.Ytihicdbplmdjiaa
