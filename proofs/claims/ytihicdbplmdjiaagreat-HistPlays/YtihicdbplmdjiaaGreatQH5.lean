import Derived.Test.YtihicdbplmdjiaaGreatQLbJ
import Derived.Carry
set_option linter.unusedVariables false
set_option linter.unusedSimpArgs false
namespace Go.Proofs.YtihicdbplmdjiaaGreat
open Go.RowKit (wrap32 wrap64)

set_option maxRecDepth 100000 in
set_option maxHeartbeats 4000000 in
/-- The document's Calls of any history. -/
theorem rcalls_any (hv : Value) (h : List Mo) (w : World) (hh : HAt w hv h) (hl : h.length ≤ 4000000000) :
    Calls Tryz.prog 19 #[hv] w fun e w' => RcR h w e w' := by
  obtain ⟨ad, cap, rfl, h1, h2⟩ := hh
  have HX : Hd (∀ i (hi : i < h.length), ∃ g o, ad = some ⟨g, o, none⟩ ∧ ∀ W, Fr (fun _ => False) w W → ∀ j, j < 9 → W.cell? ⟨g, o + i * 9 + j, none⟩ = (m9 h[i])[j]?) := fun i hi => by
    obtain ⟨g, o, ea, hc⟩ := h1 (fun e => by rw [e] at hi; simp at hi)
    refine ⟨g, o, ea, fun W f j hj => (f.cell ?_ (fun e => e)).trans (hc i hi j hj)⟩
    have := hc i hi j hj
    rw [List.getElem?_eq_getElem (by exact hj)] at this
    exact cell_lt this
  have HM : Hd (∀ m ∈ h, m.R.At w ∧ m.R.r.keys.length ≤ 1000000000000000000 ∧ In64 m.c) := h2
  obtain ⟨n, en⟩ : ∃ n, n = h.length := ⟨_, rfl⟩
  have EN : Hd (n = h.length) := en
  rw [← en] at hl ⊢
  clear h1 h2 en
  go_enter Tryz.func19, Tryz.ntmps19
  go_wp2_with fail
  go_loopw [4, 5] (fun v4 v5 wr => ∃ k q : Nat, v5 = vI k ∧ v4 = vI q ∧ k ≤ n ∧ q ≤ k ∧ Hd (q = (begins h k).length ∧ Fr (fun _ => False) w wr)) (fun _ v _ => match v with | .int _ q => n - q.toNat | _ => 0)
  case atStart => exact ⟨0, 0, rfl, rfl, by omega, by omega, rfl, Fr.refl _ _⟩
  case round =>
    obtain ⟨k, q, rfl, rfl, hk, hq, HR⟩ := hrel
    by_cases hlt : k < n
    · have k0 : (0 : Int) ≤ k := by omega
      have k1 : (k : Int) < n := by omega
      have hkl : k < h.length := by rw [← EN.out]; exact hlt
      obtain ⟨g, o, rfl, hc0⟩ := HX.out k hkl
      have x1 := hc0 wr HR.out.2 1 (by omega)
      have HB : Hd (begAt h k = h[k].beg) := begAt_of (List.getElem?_eq_getElem hkl)
      obtain ⟨m, em⟩ : ∃ m, m = h[k] := ⟨_, rfl⟩
      rw [← em] at x1 HB
      unfold m9 at x1
      simp only [List.getElem?_cons_zero, List.getElem?_cons_succ, Nat.add_zero] at x1
      obtain ⟨beg, ebeg⟩ : ∃ b, b = m.beg := ⟨_, rfl⟩
      rw [← ebeg] at x1 HB
      clear hc0 em ebeg hkl
      cases beg
      · go_wp2_with fail
        refine ⟨⟨k + 1, q, by simp, rfl, by omega, by omega, ?_, HR.out.2⟩, by simp; omega⟩
        rw [begins_snoc, show begAt h k = _ from HB.out]; simpa using HR.out.1
      · go_wp2_with fail
        refine ⟨⟨k + 1, q + 1, by simp, by simp, by omega, by omega, ?_, HR.out.2⟩, by simp; omega⟩
        rw [begins_snoc, show begAt h k = _ from HB.out]; simpa using HR.out.1
    · have hkn : k = h.length := by have := EN.out; omega
      have HQ : Hd (q = (begins h h.length).length) := by rw [← hkn]; exact HR.out.1
      by_cases hmany : (64 : Int) < q
      · go_wp2_with fail
        go_ret2
        exact ⟨_, _, rfl, HR.out.2, Or.inl ⟨none_many (by have := HQ.out; omega), rfl⟩⟩
      · have HW0 : Hd (Fr (fun _ => False) w wr) := HR.out.2
        have k2 : ¬ (k : Int) < n := by omega
        clear HR hkn hlt hk hq
        go_upto_region 12 with fail
        go_loopw [6, 7, 8] (fun v6 v7 v8 w1 => ∃ i e : Nat, ∃ cs : List Cl, v8 = vI i ∧ v7 = vI e ∧ i ≤ n ∧ e ≤ i ∧ Hd (e = (endsOf h i).length ∧ Fr (fun _ => False) w w1 ∧ ROwn w1 w.heap.size v6 cs ∧ cs.map Cl.b = begins h i ∧ ∀ c ∈ cs, Right h c.b c)) (fun _ _ v _ => match v with | .int _ q => n - q.toNat | _ => 0)
        case atStart => exact ⟨0, 0, [], rfl, rfl, by omega, by omega, rfl, HW0.out, World.ownsRow_nil _ _ _ _, rfl, by simp⟩
        case round =>
          clear HW0
          obtain ⟨i, e, cs, rfl, rfl, hi, he, HR⟩ := hrel
          have HCL : Hd (cs.length ≤ i) := by
            have h1 := congrArg List.length HR.out.2.2.2.1
            have h2 := both_len h i
            simp only [List.length_map] at h1
            show cs.length ≤ i
            omega
          by_cases hlt : i < n
          · have i0 : (0 : Int) ≤ i := by omega
            have i1 : (i : Int) < n := by omega
            have hil : i < h.length := by rw [← EN.out]; exact hlt
            obtain ⟨g, o, rfl, hc0⟩ := HX.out i hil
            have hc := hc0 wr HR.out.2.1
            have HGL : Hd (g < w.heap.size) := by
              have := hc0 w (Fr.refl _ w) 1 (by omega)
              rw [List.getElem?_eq_getElem (by exact (show 1 < 9 by omega))] at this
              exact cell_lt this
            obtain ⟨m, em⟩ : ∃ m, m = h[i] := ⟨_, rfl⟩
            have HMK : Hd (h[i]? = some m ∧ m.R.At w ∧ m.R.r.keys.length ≤ 1000000000000000000 ∧ In64 m.c) := ⟨by rw [List.getElem?_eq_getElem hil, em], by rw [em]; exact HM.out _ (List.getElem_mem hil)⟩
            rw [← em] at hc
            unfold m9 at hc
            have x0 := hc 0 (by omega)
            have x1 := hc 1 (by omega)
            have x2 := hc 2 (by omega)
            have x3 := hc 3 (by omega)
            have x4 := hc 4 (by omega)
            have x5 := hc 5 (by omega)
            have x6 := hc 6 (by omega)
            have x7 := hc 7 (by omega)
            have x8 := hc 8 (by omega)
            simp only [List.getElem?_cons_zero, List.getElem?_cons_succ, Nat.add_zero] at x0 x1 x2 x3 x4 x5 x6 x7 x8
            obtain ⟨c, beg, kd, ky, v, ⟨⟨ok, val, ks, vs⟩, kv, vv⟩⟩ := m
            clear em hc hc0 hil
            obtain ⟨ka, kc, ek⟩ := row_slice HMK.out.2.1.1
            obtain ⟨va, vc, ev⟩ := row_slice HMK.out.2.1.2
            simp only [List.length_map] at ek ev
            subst ek ev
            simp only at x0 x1 x2 x3 x4 x5 x6 x7 x8
            go_upto_region 15 with fail
            clear x0 x1 x2 x3 x4 x5 x6 x7 x8
            obtain ⟨W, eW⟩ : ∃ W, W = (wr.alloc (Obj.cells #[.int .i64 c, .bool beg, .int .i64 kd, .int .i64 ky, .string v, .bool ok, .string val, .slice ka ks.length kc, .slice va vs.length vc] 41)) := ⟨_, rfl⟩
            have hb := heap_alloc_last wr (Obj.cells #[.int .i64 c, .bool beg, .int .i64 kd, .int .i64 ky, .string v, .bool ok, .string val, .slice ka ks.length kc, .slice va vs.length vc] 41)
            have hf := (Fr.refl (fun _ => False) wr).alloc (Obj.cells #[.int .i64 c, .bool beg, .int .i64 kd, .int .i64 ky, .string v, .bool ok, .string val, .slice ka ks.length kc, .slice va vs.length vc] 41)
            rw [← eW] at hb hf ⊢
            obtain ⟨pm, epm⟩ : ∃ pm, pm = wr.heap.size := ⟨_, rfl⟩
            have HW : Hd (Fr (fun _ => False) w W ∧ ROwn W w.heap.size u6 cs ∧ (∀ j, u6.ownBlock = some j → j ≠ pm) ∧ w.heap.size ≤ pm) := by
              obtain ⟨q1, q2, q3, q4, q5⟩ := HR.out
              exact ⟨q2.trans hf, q3.fr hf (fun _ _ e => e), fun j hj => by have := (World.ownsRow.lt q3 j hj).2; omega, by have := q2.size; omega⟩
            rw [← epm] at hb ⊢
            have HB : Hd (W.heap[pm]? = some (Obj.cells #[.int .i64 c, .bool beg, .int .i64 kd, .int .i64 ky, .string v, .bool ok, .string val, .slice ka ks.length kc, .slice va vs.length vc] 41)) := hb
            have HP : Hd (e = (endsOf h i).length ∧ cs.map Cl.b = begins h i ∧ ∀ c ∈ cs, Right h c.b c) := ⟨HR.out.1, HR.out.2.2.2⟩
            clear eW epm hf HR
            obtain ⟨y0, y1, y2, y3, y4, y5, y6, y7, y8⟩ := nine hb
            clear hb
            cases beg
            · go_wp2_with fail
              refine ⟨⟨i + 1, e + 1, cs, by simp, by simp, by omega, by omega, ?_, HW.out.1, HW.out.2.1, ?_, HP.out.2.2⟩, by simp; omega⟩
              · rw [endsOf_snoc, begAt_of HMK.out.1]; simpa using HP.out.1
              · rw [begins_snoc, begAt_of HMK.out.1]; simpa using HP.out.2.1
            · have HBf : Hd (∀ W2, Fr (fun _ => False) W W2 → W2.heap[pm]? = some (Obj.cells #[.int .i64 c, .bool true, .int .i64 kd, .int .i64 ky, .string v, .bool ok, .string val, .slice ka ks.length kc, .slice va vs.length vc] 41)) := fun W2 f => (f.block pm (heap_lt HB.out) (fun e => e)).trans HB.out
              have HO : Hd (∀ W2, Fr (fun _ => False) W W2 → Calls Tryz.prog 40 #[opV kd ky v] W2 fun e w' => e = .returned (.bool (rightOpB kd ky v)) ∧ Fr (fun _ => False) W2 w') := fun W2 _ => rop_any kd ky v W2
              have HZ : Hd (∀ W2, Fr (fun _ => False) W W2 → Calls Tryz.prog 41 #[.agg #[.bool ok, .string val, .slice ka ks.length kc, .slice va vs.length vc]] W2 fun e w' => e = .returned (.bool (isZeroB ⟨ok, val, ks, vs⟩)) ∧ Fr (fun _ => False) W2 w') := fun W2 f =>
                rzero_any ⟨⟨ok, val, ks, vs⟩, .slice ka ks.length kc, .slice va vs.length vc⟩ W2 (HMK.out.2.1.fr (HW.out.1.trans f))
              obtain ⟨bo, ebo⟩ : ∃ b, b = rightOpB kd ky v := ⟨_, rfl⟩
              obtain ⟨bz, ebz⟩ : ∃ b, b = isZeroB ⟨ok, val, ks, vs⟩ := ⟨_, rfl⟩
              rw [← ebo] at HO
              rw [← ebz] at HZ
              have HE : Hd (bo = rightOpB kd ky v ∧ bz = isZeroB ⟨ok, val, ks, vs⟩) := ⟨ebo, ebz⟩
              have HN0 : Hd ((bo && bz) = false → callsX h = none) := fun hx => none_begin HMK.out.1 rfl (by rw [← ebo, ← ebz]; exact hx)
              clear ebo ebz HB
              unfold opV at HO
              have HG : Hd (Fr (fun _ => False) W W) := Fr.refl _ _
              cases bo
              · clear HZ
                go_wp2_with ((go_at_call 40; refine (HO.out _ HG.out).mono ?_); (rintro _ w3 ⟨rfl, hf3⟩; replace HG : Hd (Fr _ _ _) := HG.out.trans hf3; clear hf3; obtain ⟨y0, y1, y2, y3, y4, y5, y6, y7, y8⟩ := nine (HBf.out _ HG.out)))
                go_ret2
                exact ⟨_, _, rfl, HW.out.1.trans HG.out, Or.inl ⟨HN0.out rfl, rfl⟩⟩
              · cases bz
                · go_wp2_with ((first | (go_at_call 40; refine (HO.out _ HG.out).mono ?_) | (go_at_call 41; refine (HZ.out _ HG.out).mono ?_)); (rintro _ w3 ⟨rfl, hf3⟩; replace HG : Hd (Fr _ _ _) := HG.out.trans hf3; clear hf3; obtain ⟨y0, y1, y2, y3, y4, y5, y6, y7, y8⟩ := nine (HBf.out _ HG.out)))
                  go_ret2
                  exact ⟨_, _, rfl, HW.out.1.trans HG.out, Or.inl ⟨HN0.out rfl, rfl⟩⟩
                · go_upto_region 19 with ((first | (go_at_call 40; refine (HO.out _ HG.out).mono ?_) | (go_at_call 41; refine (HZ.out _ HG.out).mono ?_)); (rintro _ w3 ⟨rfl, hf3⟩; replace HG : Hd (Fr _ _ _) := HG.out.trans hf3; clear hf3; obtain ⟨y0, y1, y2, y3, y4, y5, y6, y7, y8⟩ := nine (HBf.out _ HG.out)))
                  clear HO HZ HN0
                  go_upto_region 21 with fail
                  clear y0 y1 y2 y3 y4 y5 y6 y7 y8
                  obtain ⟨W4, eW4⟩ : ∃ W4, W4 = (w3.alloc (Obj.cells #[vI i, vI (-1), vI kd, vI ky, .string v, .bool false, .string ⟨#[]⟩, .slice none 0 0, .slice none 0 0] 70)) := ⟨_, rfl⟩
                  have hb4 := heap_alloc_last w3 (Obj.cells #[vI i, vI (-1), vI kd, vI ky, .string v, .bool false, .string ⟨#[]⟩, .slice none 0 0, .slice none 0 0] 70)
                  have hf4 : Fr (fun _ => False) W W4 := by rw [eW4]; exact HG.out.trans ((Fr.refl (fun _ => False) w3).alloc _)
                  rw [← eW4] at hb4 ⊢
                  obtain ⟨pc, epc⟩ : ∃ pc, pc = w3.heap.size := ⟨_, rfl⟩
                  have HP4 : Hd (Fr (fun _ => False) W W4 ∧ pm ≠ pc ∧ w.heap.size ≤ pc ∧ W.heap.size ≤ pc ∧ pc < W4.heap.size ∧ (∀ j, u6.ownBlock = some j → j ≠ pc)) := by
                    have h1 := heap_lt (HBf.out w3 HG.out)
                    have h2 := HG.out.size
                    have h3 := HW.out.1.size
                    have h4 := heap_lt hb4
                    exact ⟨hf4, by omega, by omega, by omega, by omega, fun j hj => by have := (World.ownsRow.lt HW.out.2.1 j hj).2; omega⟩
                  rw [← epc] at hb4 ⊢
                  have HB4 : Hd (W4.heap[pc]? = some (Obj.cells #[vI i, vI (-1), vI kd, vI ky, .string v, .bool false, .string ⟨#[]⟩, .slice none 0 0, .slice none 0 0] 70)) := hb4
                  clear hf4 hb4 epc eW4 HG
                  go_loopw [11] (fun v11 w5 => ∃ k : Nat, ∃ x : Int, ∃ r : RV, v11 = vI k ∧ i < k ∧ k ≤ n ∧ Hd (Fr (fun j => j = pc) W4 w5 ∧ w5.heap[pc]? = some (.cells #[vI i, vI x, vI kd, vI ky, .string v, .bool r.r.ok, .string r.r.val, r.kv, r.vv] 70) ∧ ((x = -1 ∧ r = rv0 ∧ NoM h c i k) ∨ ∃ e : Nat, x = e ∧ Right h i ⟨i, e, kd, ky, v, r⟩))) (fun v _ => match v with | .int _ q => n - q.toNat | _ => 0)
                  case atStart => exact ⟨i + 1, -1, rv0, by simp, by omega, by omega, Fr.refl _ _, HB4.out, Or.inl ⟨rfl, rfl, fun j h1 h2 => by omega⟩⟩
                  case round =>
                    clear HB4
                    obtain ⟨k, x, r, rfl, hik, hk, HR⟩ := hrel
                    obtain ⟨y0, y1, y2, y3, y4, y5, y6, y7, y8⟩ := nine HR.out.2.1
                    rcases HR.out.2.2 with ⟨rfl, rfl, hno⟩ | ⟨e2, rfl, hright⟩
                    · by_cases hkn : k < n
                      · have k0 : (0 : Int) ≤ k := by omega
                        have k1 : (k : Int) < n := by omega
                        have hkl : k < h.length := by rw [← EN.out]; exact hkn
                        have HNO : Hd (NoM h c i k) := hno
                        obtain ⟨g', o', eg, hc0⟩ := HX.out k hkl
                        cases eg
                        have hfr : Fr (fun _ => False) w wr := (HW.out.1.trans HP4.out.1).under HR.out.1 (fun j e => by have := HP4.out.2.2.1; omega)
                        have hc := hc0 wr hfr
                        obtain ⟨m, em⟩ : ∃ m, m = h[k] := ⟨_, rfl⟩
                        have HMK2 : Hd (h[k]? = some m ∧ m.R.At w ∧ m.R.r.keys.length ≤ 1000000000000000000 ∧ Fr (fun _ => False) w wr) := ⟨by rw [List.getElem?_eq_getElem hkl, em], by rw [em]; exact (HM.out _ (List.getElem_mem hkl)).1, by rw [em]; exact (HM.out _ (List.getElem_mem hkl)).2.1, hfr⟩
                        rw [← em] at hc
                        unfold m9 at hc
                        have z0 := hc 0 (by omega)
                        have z1 := hc 1 (by omega)
                        have z2 := hc 2 (by omega)
                        have z3 := hc 3 (by omega)
                        have z4 := hc 4 (by omega)
                        have z5 := hc 5 (by omega)
                        have z6 := hc 6 (by omega)
                        have z7 := hc 7 (by omega)
                        have z8 := hc 8 (by omega)
                        simp only [List.getElem?_cons_zero, List.getElem?_cons_succ, Nat.add_zero] at z0 z1 z2 z3 z4 z5 z6 z7 z8
                        have hbm := (HR.out.1.block pm (by have := heap_lt (HBf.out W4 HP4.out.1); exact this) HP4.out.2.1).trans (HBf.out W4 HP4.out.1)
                        obtain ⟨m0, m1, m2, m3, m4, m5, m6, m7, m8⟩ := nine hbm
                        obtain ⟨c', beg', kd', ky', v', ⟨⟨ok', val', ks', vs'⟩, kv', vv'⟩⟩ := m
                        clear em hc hc0 hkl hfr hbm
                        obtain ⟨ka', kc', ek'⟩ := row_slice HMK2.out.2.1.1
                        obtain ⟨va', vc', ev'⟩ := row_slice HMK2.out.2.1.2
                        simp only [List.length_map] at ek' ev'
                        subst ek' ev'
                        simp only at z0 z1 z2 z3 z4 z5 z6 z7 z8
                        by_cases hcc : c' = c
                        · subst hcc
                          have HEN : Hd ((!beg' && sameM ⟨c', true, kd, ky, v, ⟨⟨ok, val, ks, vs⟩, .slice ka ks.length kc, .slice va vs.length vc⟩⟩ ⟨c', beg', kd', ky', v', ⟨⟨ok', val', ks', vs'⟩, .slice ka' ks'.length kc', .slice va' vs'.length vc'⟩⟩ && rightReplyB kd ⟨ok', val', ks', vs'⟩) = false → callsX h = none) := fun hx => none_end HMK.out.1 rfl hik HMK2.out.1 rfl hno hx
                          clear hno
                          cases beg'
                          · by_cases hd1 : kd' = kd
                            · subst hd1
                              by_cases hd2 : ky' = ky
                              · subst hd2
                                by_cases hd3 : v'.toList = v.toList
                                · have HCW : Hd (∀ w, Fr (fun _ => False) wr w → (w.cell? ⟨g, o + k * 9 + 1, none⟩ = some (.bool false) ∧ w.cell? ⟨g, o + k * 9 + 2, none⟩ = some (vI kd') ∧ w.cell? ⟨g, o + k * 9 + 3, none⟩ = some (vI ky') ∧ w.cell? ⟨g, o + k * 9 + 4, none⟩ = some (.string v') ∧ w.cell? ⟨g, o + k * 9 + 5, none⟩ = some (.bool ok') ∧ w.cell? ⟨g, o + k * 9 + 6, none⟩ = some (.string val') ∧ w.cell? ⟨g, o + k * 9 + 7, none⟩ = some (.slice ka' ks'.length kc') ∧ w.cell? ⟨g, o + k * 9 + 8, none⟩ = some (.slice va' vs'.length vc')) ∧ w.cell? ⟨pm, 2, none⟩ = some (vI kd') ∧ w.cell? ⟨pm, 3, none⟩ = some (vI ky') ∧ w.cell? ⟨pm, 4, none⟩ = some (.string v)) := fun w f => by
                                    have hg := cell_lt z1
                                    have hp := cell_lt m1
                                    exact ⟨⟨(f.cell hg (fun e => e)).trans z1, (f.cell hg (fun e => e)).trans z2, (f.cell hg (fun e => e)).trans z3, (f.cell hg (fun e => e)).trans z4, (f.cell hg (fun e => e)).trans z5, (f.cell hg (fun e => e)).trans z6, (f.cell hg (fun e => e)).trans z7, (f.cell hg (fun e => e)).trans z8⟩, (f.cell hp (fun e => e)).trans m2, (f.cell hp (fun e => e)).trans m3, (f.cell hp (fun e => e)).trans m4⟩
                                  have HY : Hd (∀ W2, Fr (fun _ => False) wr W2 → Calls Tryz.prog 42 #[.agg #[vI kd', vI ky', .string v], .agg #[.bool ok', .string val', .slice ka' ks'.length kc', .slice va' vs'.length vc']] W2 fun e w' => e = .returned (.bool (rightReplyB kd' ⟨ok', val', ks', vs'⟩)) ∧ Fr (fun _ => False) W2 w') := fun W2 f =>
                                    rreply_any kd' ky' v ⟨⟨ok', val', ks', vs'⟩, .slice ka' ks'.length kc', .slice va' vs'.length vc'⟩ W2 (HMK2.out.2.1.fr (HMK2.out.2.2.2.trans f)) HMK2.out.2.2.1
                                  obtain ⟨br, ebr⟩ : ∃ b, b = rightReplyB kd' ⟨ok', val', ks', vs'⟩ := ⟨_, rfl⟩
                                  rw [← ebr] at HY
                                  have HBR : Hd (br = rightReplyB kd' ⟨ok', val', ks', vs'⟩) := ebr
                                  have HEN2 : Hd (br = false → callsX h = none) := fun hx => HEN.out (by rw [← ebr, hx]; simp)
                                  have HSM : Hd (sameM ⟨c', true, kd', ky', v, ⟨⟨ok, val, ks, vs⟩, .slice ka ks.length kc, .slice va vs.length vc⟩⟩ ⟨c', false, kd', ky', v', ⟨⟨ok', val', ks', vs'⟩, .slice ka' ks'.length kc', .slice va' vs'.length vc'⟩⟩ = true) := by simp [Hd, sameM, hd3]
                                  clear HEN ebr HX HM
                                  go_upto_region 23 with fail
                                  go_quiet (fail)
                                  go_upto_region 24 with fail
                                  clear y0 y1 y2 y3 y4 y5 y6 y7 y8 z0 z1 z2 z3 z4 z5 z6 z7 z8 m0 m1 m2 m3 m4 m5 m6 m7 m8
                                  refine wp_region_held_drew (S := fun W2 => Fr (fun _ => False) wr W2) (by kernel_rfl) ((fr_drewN wr _).drew) (fun hHeld => ?_)
                                  refine heldTake (i := 0) 77 (v := ?_) rfl rfl (by kernel_rfl) (by kernel_rfl) (by kernel_rfl) (fun _ _ _ h => h) (by kernel_rfl) (fun w hSw => (by obtain ⟨⟨z1, z2, z3, z4, z5, z6, z7, z8⟩, m2, m3, m4⟩ := HCW.out w hSw; go_simp; try with_reducible rfl)) hHeld ?_
                                  simp only [Act.put, List.setIfInBounds_toArray, List.set_cons_zero, List.set_cons_succ]
                                  refine heldTake (i := 1) 78 (v := ?_) rfl rfl (by kernel_rfl) (by kernel_rfl) (by kernel_rfl) (fun _ _ _ h => h) (by kernel_rfl) (fun w hSw => (by obtain ⟨⟨z1, z2, z3, z4, z5, z6, z7, z8⟩, m2, m3, m4⟩ := HCW.out w hSw; go_simp; try with_reducible rfl)) hHeld ?_
                                  simp only [Act.put, List.setIfInBounds_toArray, List.set_cons_zero, List.set_cons_succ]
                                  refine heldTake (i := 2) 79 (v := ?_) rfl rfl (by kernel_rfl) (by kernel_rfl) (by kernel_rfl) (fun _ _ _ h => h) (by kernel_rfl) (fun w hSw => (by obtain ⟨⟨z1, z2, z3, z4, z5, z6, z7, z8⟩, m2, m3, m4⟩ := HCW.out w hSw; go_simp; try with_reducible rfl)) hHeld ?_
                                  simp only [Act.put, List.setIfInBounds_toArray, List.set_cons_zero, List.set_cons_succ]
                                  refine heldTake (i := 3) 80 (v := ?_) rfl rfl (by kernel_rfl) (by kernel_rfl) (by kernel_rfl) (fun _ _ _ h => h) (by kernel_rfl) (fun w hSw => (by obtain ⟨⟨z1, z2, z3, z4, z5, z6, z7, z8⟩, m2, m3, m4⟩ := HCW.out w hSw; go_simp; try with_reducible rfl)) hHeld ?_
                                  simp only [Act.put, List.setIfInBounds_toArray, List.set_cons_zero, List.set_cons_succ]
                                  refine heldTake (i := 4) 81 (v := ?_) rfl rfl (by kernel_rfl) (by kernel_rfl) (by kernel_rfl) (fun _ _ _ h => h) (by kernel_rfl) (fun w hSw => (by obtain ⟨⟨z1, z2, z3, z4, z5, z6, z7, z8⟩, m2, m3, m4⟩ := HCW.out w hSw; go_simp; try with_reducible rfl)) hHeld ?_
                                  simp only [Act.put, List.setIfInBounds_toArray, List.set_cons_zero, List.set_cons_succ]
                                  refine heldTake (i := 5) 82 (v := ?_) rfl rfl (by kernel_rfl) (by kernel_rfl) (by kernel_rfl) (fun _ _ _ h => h) (by kernel_rfl) (fun w hSw => (by obtain ⟨⟨z1, z2, z3, z4, z5, z6, z7, z8⟩, m2, m3, m4⟩ := HCW.out w hSw; go_simp; try with_reducible rfl)) hHeld ?_
                                  simp only [Act.put, List.setIfInBounds_toArray, List.set_cons_zero, List.set_cons_succ]
                                  refine heldTake (i := 6) 83 (v := ?_) rfl rfl (by kernel_rfl) (by kernel_rfl) (by kernel_rfl) (fun _ _ _ h => h) (by kernel_rfl) (fun w hSw => (by obtain ⟨⟨z1, z2, z3, z4, z5, z6, z7, z8⟩, m2, m3, m4⟩ := HCW.out w hSw; go_simp; try with_reducible rfl)) hHeld ?_
                                  simp only [Act.put, List.setIfInBounds_toArray, List.set_cons_zero, List.set_cons_succ]
                                  refine heldTake (i := 7) 84 (v := ?_) rfl rfl (by kernel_rfl) (by kernel_rfl) (by kernel_rfl) (fun _ _ _ h => h) (by kernel_rfl) (fun w hSw => (by obtain ⟨⟨z1, z2, z3, z4, z5, z6, z7, z8⟩, m2, m3, m4⟩ := HCW.out w hSw; go_simp; try with_reducible rfl)) hHeld ?_
                                  simp only [Act.put, List.setIfInBounds_toArray, List.set_cons_zero, List.set_cons_succ]
                                  refine heldTake (i := 8) 85 (v := ?_) rfl rfl (by kernel_rfl) (by kernel_rfl) (by kernel_rfl) (fun _ _ _ h => h) (by kernel_rfl) (fun w hSw => (by obtain ⟨⟨z1, z2, z3, z4, z5, z6, z7, z8⟩, m2, m3, m4⟩ := HCW.out w hSw; go_simp; try with_reducible rfl)) hHeld ?_
                                  simp only [Act.put, List.setIfInBounds_toArray, List.set_cons_zero, List.set_cons_succ]
                                  refine heldTake (i := 9) 86 (v := ?_) rfl rfl (by kernel_rfl) (by kernel_rfl) (by kernel_rfl) (fun _ _ _ h => h) (by kernel_rfl) (fun w hSw => (by obtain ⟨⟨z1, z2, z3, z4, z5, z6, z7, z8⟩, m2, m3, m4⟩ := HCW.out w hSw; go_simp; try with_reducible rfl)) hHeld ?_
                                  simp only [Act.put, List.setIfInBounds_toArray, List.set_cons_zero, List.set_cons_succ]
                                  refine heldTake (i := 10) 87 (v := ?_) rfl rfl (by kernel_rfl) (by kernel_rfl) (by kernel_rfl) (fun _ _ _ h => h) (by kernel_rfl) (fun w hSw => (by obtain ⟨⟨z1, z2, z3, z4, z5, z6, z7, z8⟩, m2, m3, m4⟩ := HCW.out w hSw; go_simp; try with_reducible rfl)) hHeld ?_
                                  simp only [Act.put, List.setIfInBounds_toArray, List.set_cons_zero, List.set_cons_succ]
                                  refine heldTake (i := 11) 88 (v := ?_) rfl rfl (by kernel_rfl) (by kernel_rfl) (by kernel_rfl) (fun _ _ _ h => h) (by kernel_rfl) (fun w hSw => (by obtain ⟨⟨z1, z2, z3, z4, z5, z6, z7, z8⟩, m2, m3, m4⟩ := HCW.out w hSw; go_simp; try with_reducible rfl)) hHeld ?_
                                  simp only [Act.put, List.setIfInBounds_toArray, List.set_cons_zero, List.set_cons_succ]
                                  refine heldTake (i := 12) 89 (v := ?_) rfl rfl (by kernel_rfl) (by kernel_rfl) (by kernel_rfl) (fun _ _ _ h => h) (by kernel_rfl) (fun w hSw => (by obtain ⟨⟨z1, z2, z3, z4, z5, z6, z7, z8⟩, m2, m3, m4⟩ := HCW.out w hSw; go_simp; try with_reducible rfl)) hHeld ?_
                                  simp only [Act.put, List.setIfInBounds_toArray, List.set_cons_zero, List.set_cons_succ]
                                  refine heldTake (i := 13) 90 (v := ?_) rfl rfl (by kernel_rfl) (by kernel_rfl) (by kernel_rfl) (fun _ _ _ h => h) (by kernel_rfl) (fun w hSw => (by obtain ⟨⟨z1, z2, z3, z4, z5, z6, z7, z8⟩, m2, m3, m4⟩ := HCW.out w hSw; go_simp; try with_reducible rfl)) hHeld ?_
                                  simp only [Act.put, List.setIfInBounds_toArray, List.set_cons_zero, List.set_cons_succ]
                                  refine heldTake (i := 14) 91 (v := ?_) rfl rfl (by kernel_rfl) (by kernel_rfl) (by kernel_rfl) (fun _ _ _ h => h) (by kernel_rfl) (fun w hSw => (by obtain ⟨⟨z1, z2, z3, z4, z5, z6, z7, z8⟩, m2, m3, m4⟩ := HCW.out w hSw; go_simp; try with_reducible rfl)) hHeld ?_
                                  simp only [Act.put, List.setIfInBounds_toArray, List.set_cons_zero, List.set_cons_succ]
                                  refine heldTake (i := 15) 92 (v := ?_) rfl rfl (by kernel_rfl) (by kernel_rfl) (by kernel_rfl) (fun _ _ _ h => h) (by kernel_rfl) (fun w hSw => (by obtain ⟨⟨z1, z2, z3, z4, z5, z6, z7, z8⟩, m2, m3, m4⟩ := HCW.out w hSw; go_simp; try with_reducible rfl)) hHeld ?_
                                  simp only [Act.put, List.setIfInBounds_toArray, List.set_cons_zero, List.set_cons_succ]
                                  refine heldTake (i := 16) 93 (v := ?_) rfl rfl (by kernel_rfl) (by kernel_rfl) (by kernel_rfl) (fun _ _ _ h => h) (by kernel_rfl) (fun w hSw => (by obtain ⟨⟨z1, z2, z3, z4, z5, z6, z7, z8⟩, m2, m3, m4⟩ := HCW.out w hSw; go_simp; try with_reducible rfl)) hHeld ?_
                                  simp only [Act.put, List.setIfInBounds_toArray, List.set_cons_zero, List.set_cons_succ]
                                  refine heldTake (i := 17) 94 (v := ?_) rfl rfl (by kernel_rfl) (by kernel_rfl) (by kernel_rfl) (fun _ _ _ h => h) (by kernel_rfl) (fun w hSw => (by obtain ⟨⟨z1, z2, z3, z4, z5, z6, z7, z8⟩, m2, m3, m4⟩ := HCW.out w hSw; go_simp; try with_reducible rfl)) hHeld ?_
                                  simp only [Act.put, List.setIfInBounds_toArray, List.set_cons_zero, List.set_cons_succ]
                                  refine heldTake (i := 18) 95 (v := ?_) rfl rfl (by kernel_rfl) (by kernel_rfl) (by kernel_rfl) (fun _ _ _ h => h) (by kernel_rfl) (fun w hSw => (by obtain ⟨⟨z1, z2, z3, z4, z5, z6, z7, z8⟩, m2, m3, m4⟩ := HCW.out w hSw; go_simp; try with_reducible rfl)) hHeld ?_
                                  simp only [Act.put, List.setIfInBounds_toArray, List.set_cons_zero, List.set_cons_succ]
                                  refine heldTake (i := 19) 96 (v := ?_) rfl rfl (by kernel_rfl) (by kernel_rfl) (by kernel_rfl) (fun _ _ _ h => h) (by kernel_rfl) (fun w hSw => (by obtain ⟨⟨z1, z2, z3, z4, z5, z6, z7, z8⟩, m2, m3, m4⟩ := HCW.out w hSw; go_simp; try with_reducible rfl)) hHeld ?_
                                  simp only [Act.put, List.setIfInBounds_toArray, List.set_cons_zero, List.set_cons_succ]
                                  refine heldTake (i := 20) 97 (v := ?_) rfl rfl (by kernel_rfl) (by kernel_rfl) (by kernel_rfl) (fun _ _ _ h => h) (by kernel_rfl) (fun w hSw => (by obtain ⟨⟨z1, z2, z3, z4, z5, z6, z7, z8⟩, m2, m3, m4⟩ := HCW.out w hSw; go_simp; try with_reducible rfl)) hHeld ?_
                                  simp only [Act.put, List.setIfInBounds_toArray, List.set_cons_zero, List.set_cons_succ]
                                  refine heldTake (i := 21) 98 (v := ?_) rfl rfl (by kernel_rfl) (by kernel_rfl) (by kernel_rfl) (fun _ _ _ h => h) (by kernel_rfl) (fun w hSw => (by obtain ⟨⟨z1, z2, z3, z4, z5, z6, z7, z8⟩, m2, m3, m4⟩ := HCW.out w hSw; go_simp; try with_reducible rfl)) hHeld ?_
                                  simp only [Act.put, List.setIfInBounds_toArray, List.set_cons_zero, List.set_cons_succ]
                                  refine heldTake (i := 22) 99 (v := ?_) rfl rfl (by kernel_rfl) (by kernel_rfl) (by kernel_rfl) (fun _ _ _ h => h) (by kernel_rfl) (fun w hSw => (by obtain ⟨⟨z1, z2, z3, z4, z5, z6, z7, z8⟩, m2, m3, m4⟩ := HCW.out w hSw; go_simp; try with_reducible rfl)) hHeld ?_
                                  simp only [Act.put, List.setIfInBounds_toArray, List.set_cons_zero, List.set_cons_succ]
                                  refine heldOne (i := 23) rfl (by kernel_rfl) (fun K hK => ?_)
                                  go_simp
                                  go_wp2_with ((go_at_call 42; refine Calls.mono (HY.out _ hHeld) ?_; rintro e w8 ⟨rfl, hF8⟩; have hHeld2 : Fr (fun _ => False) wr w8 := hHeld.trans hF8; clear hF8 hHeld))
                                  refine hK.out _ _ hHeld2 ?_
                                  clear hK K
                                  have hHeld := hHeld2
                                  clear hHeld2
                                  refine heldTake (i := 24) 101 (v := ?_) rfl rfl (by kernel_rfl) (by kernel_rfl) (by kernel_rfl) (fun _ _ _ h => h) (by kernel_rfl) (fun w hSw => (by obtain ⟨⟨z1, z2, z3, z4, z5, z6, z7, z8⟩, m2, m3, m4⟩ := HCW.out w hSw; go_simp; try with_reducible rfl)) hHeld ?_
                                  simp only [Act.put, List.setIfInBounds_toArray, List.set_cons_zero, List.set_cons_succ]
                                  refine heldTake (i := 25) 102 (v := ?_) rfl rfl (by kernel_rfl) (by kernel_rfl) (by kernel_rfl) (fun _ _ _ h => h) (by kernel_rfl) (fun w hSw => (by obtain ⟨⟨z1, z2, z3, z4, z5, z6, z7, z8⟩, m2, m3, m4⟩ := HCW.out w hSw; go_simp; try with_reducible rfl)) hHeld ?_
                                  simp only [Act.put, List.setIfInBounds_toArray, List.set_cons_zero, List.set_cons_succ]
                                  refine wpAnyH_done (by kernel_rfl) ?_ _
                                  have HG : Hd (Fr (fun _ => False) wr w8) := hHeld
                                  clear hHeld HY
                                  cases br
                                  · go_wp2_with fail
                                    go_ret2
                                    exact ⟨_, _, rfl, HMK2.out.2.2.2.trans HG.out, Or.inl ⟨HEN2.out (by simp), rfl⟩⟩
                                  · clear HEN2
                                    obtain ⟨⟨z1, z2, z3, z4, z5, z6, z7, z8⟩, m2, m3, m4⟩ := HCW.out w8 HG.out
                                    have hbc := (HG.out.block pc (heap_lt HR.out.2.1) (fun e => e)).trans HR.out.2.1
                                    obtain ⟨y0, y1, y2, y3, y4, y5, y6, y7, y8⟩ := nine hbc
                                    have f1 := frozen_of hbc 1
                                    have f5 := frozen_of hbc 5
                                    have f6 := frozen_of hbc 6
                                    have f7 := frozen_of hbc 7
                                    have f8 := frozen_of hbc 8
                                    have hnn : ¬ (g = pc) := fun e => by have := HGL.out; have := HP4.out.2.2.1; omega
                                    go_wp2_with fail
                                    refine ⟨⟨k + 1, (k : Int), ⟨⟨ok', val', ks', vs'⟩, .slice ka' ks'.length kc', .slice va' vs'.length vc'⟩, by simp, by omega, by omega, ?_, five_set hbc _ _ _ _ _, Or.inr ⟨k, rfl, right_of HMK.out.1 rfl HE.out.1.symm HE.out.2.symm hik HMK2.out.1 rfl HNO.out rfl HSM.out HBR.out.symm⟩⟩, by simp; omega⟩
                                    refine (HR.out.1.trans (HG.out.mono (fun _ _ e => e.elim))).trans ?_
                                    refine Fr.setCell ?_ _ _ (Or.inl rfl)
                                    refine Fr.setCell ?_ _ _ (Or.inl rfl)
                                    refine Fr.setCell ?_ _ _ (Or.inl rfl)
                                    refine Fr.setCell ?_ _ _ (Or.inl rfl)
                                    refine Fr.setCell ?_ _ _ (Or.inl rfl)
                                    exact Fr.refl _ _
                                · go_upto_region 23 with fail
                                  go_quiet (fail)
                                  go_upto_region 24 with fail
                                  go_quiet (fail)
                                  go_wp2_with fail
                                  go_ret2
                                  exact ⟨_, _, rfl, HMK2.out.2.2.2.trans (fr_drewN _ _), Or.inl ⟨HEN.out (by simp [sameM, hd3]), rfl⟩⟩
                              · go_upto_region 23 with fail
                                go_quiet (fail)
                                go_upto_region 24 with fail
                                go_quiet (fail)
                                go_wp2_with fail
                                go_ret2
                                exact ⟨_, _, rfl, HMK2.out.2.2.2.trans (fr_drewN _ _), Or.inl ⟨HEN.out (by simp [sameM, hd2]), rfl⟩⟩
                            · go_upto_region 23 with fail
                              go_quiet (fail)
                              go_upto_region 24 with fail
                              go_quiet (fail)
                              go_wp2_with fail
                              go_ret2
                              exact ⟨_, _, rfl, HMK2.out.2.2.2.trans (fr_drewN _ _), Or.inl ⟨HEN.out (by simp [sameM, hd1]), rfl⟩⟩
                          · go_upto_region 23 with fail
                            go_quiet (fail)
                            go_upto_region 24 with fail
                            go_quiet (fail)
                            go_wp2_with fail
                            go_ret2
                            exact ⟨_, _, rfl, HMK2.out.2.2.2.trans (fr_drewN _ _), Or.inl ⟨HEN.out (by simp), rfl⟩⟩
                        · go_upto_region 23 with fail
                          go_quiet (fail)
                          go_wp2_with fail
                          exact ⟨⟨k + 1, -1, rv0, by simp, by omega, by omega, HR.out.1.trans ((fr_drewN wr _).mono (fun _ _ e => e.elim)), ((fr_drewN wr _).block pc (heap_lt HR.out.2.1) (fun e => e)).trans HR.out.2.1, Or.inl ⟨rfl, rfl, HNO.out.more HMK2.out.1 hcc⟩⟩, by simp; omega⟩
                      · have HNO : Hd (NoM h c i k) := hno
                        have hkh : k = h.length := by have := EN.out; omega
                        have k2 : ¬ (k : Int) < n := by omega
                        have HFR : Hd (Fr (fun _ => False) w wr) := (HW.out.1.trans HP4.out.1).under HR.out.1 (fun j e => by have := HP4.out.2.2.1; omega)
                        have HNN : Hd (callsX h = none) := none_open HMK.out.1 rfl (by rw [← hkh]; exact hno)
                        clear hno hkh
                        go_wp2_with fail
                        go_ret2
                        exact ⟨_, _, rfl, HFR.out, Or.inl ⟨HNN.out, rfl⟩⟩
                    · have HRT : Hd (Right h i ⟨i, e2, kd, ky, v, r⟩) := hright
                      have hrs : (∃ a n q, r.kv = .slice a n q) ∧ (∃ a n q, r.vv = .slice a n q) := by
                        obtain ⟨m, m', q⟩ := hright
                        have := HM.out m' (List.mem_of_getElem? q.e)
                        have hR : r = m'.R := q.R
                        obtain ⟨a1, q1, e1⟩ := row_slice this.1.1
                        obtain ⟨a2, q2, e3⟩ := row_slice this.1.2
                        exact ⟨⟨_, _, _, by rw [hR]; exact e1⟩, ⟨_, _, _, by rw [hR]; exact e3⟩⟩
                      have e0 : (0 : Int) ≤ e2 := by omega
                      have e1 : ¬ ((e2 : Int) < 0) := by omega
                      obtain ⟨a6, c6, ev6⟩ := HW.out.2.1.val
                      subst ev6
                      have HOW : Hd (ROwn wr w.heap.size (.slice a6 cs.length c6) cs ∧ Fr (fun _ => False) w wr) := ⟨(HW.out.2.1.fr HP4.out.1 (fun _ _ e => e)).fr HR.out.1 (fun j hj e => HP4.out.2.2.2.2.2 j hj e), (HW.out.1.trans HP4.out.1).under HR.out.1 (fun j e => by have := HP4.out.2.2.1; omega)⟩
                      obtain ⟨g6, cap6, w6, hr6, hown6, hf6, -⟩ := HOW.out.1.app HOW.out.2.size ⟨i, e2, kd, ky, v, r⟩ hrs.1 hrs.2 (by have := HCL.out; omega)
                      have HA : Hd ((Builtin.append_ #[63, 63] 63 #[.slice a6 cs.length c6, .slice (some ⟨wr.heap.size, 0, none⟩) 1 1]).run Tryz.prog (wr.alloc (.cells #[vI i, vI e2, vI kd, vI ky, .string v, .bool r.r.ok, .string r.r.val, r.kv, r.vv] 70)) = .ok (.slice (some ⟨g6, 0, none⟩) (cs.length + 1) cap6) w6) := hr6
                      have HW6 : Hd (Fr (fun _ => False) w w6 ∧ ROwn w6 w.heap.size (.slice (some ⟨g6, 0, none⟩) (cs.length + 1) cap6) (cs ++ [⟨i, e2, kd, ky, v, r⟩])) := ⟨HOW.out.2.under hf6 (fun j e => (World.ownsRow.lt HOW.out.1 j e).1), hown6⟩
                      have HNX : Hd (e = (endsOf h (i + 1)).length ∧ (cs ++ [(⟨i, e2, kd, ky, v, r⟩ : Cl)]).map Cl.b = begins h (i + 1) ∧ ∀ c ∈ cs ++ [(⟨i, e2, kd, ky, v, r⟩ : Cl)], Right h c.b c) := by
                        refine ⟨?_, ?_, fun c hc => ?_⟩
                        · rw [endsOf_snoc, begAt_of HMK.out.1]; simpa using HP.out.1
                        · rw [begins_snoc, begAt_of HMK.out.1, List.map_append, HP.out.2.1]; simp
                        · rcases List.mem_append.1 hc with hc | hc
                          · exact HP.out.2.2 c hc
                          · rw [List.mem_singleton.1 hc]; exact HRT.out
                      have hcl0 : cs.length ≤ 4000000000 := by have := HCL.out; omega
                      clear hr6 hown6 hf6 hrs hright HX HM HP HRT
                      by_cases hkn : (k : Int) < n
                      · go_wp2_with (at_builtin; refine wpList_append_run rfl (.tmp 114) (.tmp 116) 63 rfl _ _ _ rfl rfl HA.out ?_)
                        exact ⟨⟨i + 1, e, _, by simp, rfl, by omega, by omega, HNX.out.1, HW6.out.1, HW6.out.2, HNX.out.2⟩, by simp; omega⟩
                      · go_wp2_with (at_builtin; refine wpList_append_run rfl (.tmp 114) (.tmp 116) 63 rfl _ _ _ rfl rfl HA.out ?_)
                        exact ⟨⟨i + 1, e, _, by simp, rfl, by omega, by omega, HNX.out.1, HW6.out.1, HW6.out.2, HNX.out.2⟩, by simp; omega⟩
          · have hin : i = h.length := by have := EN.out; omega
            have i2 : ¬ (i : Int) < n := by omega
            have HF : Hd (e = (endsOf h h.length).length ∧ Fr (fun _ => False) w wr ∧ ROwn wr w.heap.size u6 cs ∧ cs.map Cl.b = begins h h.length ∧ ∀ c ∈ cs, Right h c.b c) := by rw [← hin]; exact HR.out
            obtain ⟨a6, c6, ev6⟩ := HR.out.2.2.1.val
            subst ev6
            clear HR hin hlt
            have hq64 : q ≤ 64 := by omega
            by_cases hen : e = cs.length
            · have h3 : ((e : Int) == (cs.length : Int)) = true := by simp; omega
              go_wp2_with fail
              go_ret2
              have hok : RefOk h cs := ⟨by have := HQ.out; omega, HF.out.2.2.2.1, HF.out.2.2.2.2, by rw [← HF.out.1, hen]⟩
              exact ⟨_, _, rfl, HF.out.2.1, Or.inr ⟨cs, ref_calls hok, by simp, HF.out.2.2.1, calls_at hok (fun m hm => (HM.out m hm).1)⟩⟩
            · have h3 : ((e : Int) == (cs.length : Int)) = false := by simp; omega
              go_wp2_with fail
              go_ret2
              exact ⟨_, _, rfl, HF.out.2.1, Or.inl ⟨none_ends HF.out.2.2.2.1 (fun x => hen (HF.out.1.trans x)), by simp⟩⟩
end Go.Proofs.YtihicdbplmdjiaaGreat
