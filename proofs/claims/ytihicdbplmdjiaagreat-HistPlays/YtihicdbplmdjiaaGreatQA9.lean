import Derived.Test.YtihicdbplmdjiaaGreatQA8
import Derived.Carry
import Derived.Test.YtihicdbplmdjiaaGreatQH0J
set_option linter.unusedVariables false
set_option linter.unusedSimpArgs false
namespace Go.Proofs.YtihicdbplmdjiaaGreat
open Go.RowKit (wrap32 wrap64)

theorem fr_drewN (w : World) (n : Nat) : Fr (fun _ => False) w (w.drewN n) := ⟨rfl, rfl, rfl, Nat.le_refl _, fun _ _ _ => rfl⟩
/-- What callsOf tells. -/
def CsE (h : List Mo) (w w' : World) (lv : Value) (ok : Bool) : Prop :=
  (callsX h = none ∧ ok = false) ∨ ∃ cs, callsX h = some cs ∧ ok = true ∧ COwn w' w.heap.size lv cs ∧ ∀ c ∈ cs, c.R.At w
def CsR (h : List Mo) (w : World) (e : Ending) (w' : World) : Prop := ∃ lv ok, e = .returned (.tuple #[lv, .bool ok]) ∧ Fr (fun _ => False) w w' ∧ CsE h w w' lv ok
set_option maxRecDepth 100000 in
set_option maxHeartbeats 4000000 in
theorem callsOf_any (hv : Value) (h : List Mo) (w : World) (hh : HAt w hv h) :
    Calls Tryz.prog 15 #[hv] w fun e w' => CsR h w e w' := by
  have hh0 := hh
  obtain ⟨ad, cap, rfl, h1, h2⟩ := hh
  have HX : Hd (∀ i (hi : i < h.length), ∃ g o, ad = some ⟨g, o, none⟩ ∧ ∀ W, Fr (fun _ => False) w W → ∀ j, j < 9 → W.cell? ⟨g, o + i * 9 + j, none⟩ = (m9 h[i])[j]?) := fun i hi => by
    obtain ⟨g, o, ea, hc⟩ := h1 (fun e => by rw [e] at hi; simp at hi)
    refine ⟨g, o, ea, fun W f j hj => (f.cell ?_ (fun e => e)).trans (hc i hi j hj)⟩
    have := hc i hi j hj
    rw [List.getElem?_eq_getElem (by exact hj)] at this
    exact cell_lt this
  have HM : Hd (∀ m ∈ h, m.R.At w ∧ m.R.r.keys.length ≤ 1000000000000000000 ∧ In64 m.c) := h2
  obtain ⟨n, en⟩ : ∃ n, n = h.length := ⟨_, rfl⟩
  have EN : Hd (n = h.length) := en
  rw [← en]
  clear h1 h2 en hh0
  by_cases hbig : (128 : Int) < n
  · have HE : Hd (callsX h = none) := by
      show callsX h = none
      unfold callsX
      rw [if_pos (by have := EN.out; omega)]
    go_enter Tryz.func15, Tryz.ntmps15
    go_wp2_with fail
    go_ret2
    exact ⟨_, _, rfl, Fr.refl _ _, Or.inl ⟨HE.out, rfl⟩⟩
  · have hmm := @Go.RowKit.run_makeMap Tryz.prog
    have HF0 : Hd (Fr (fun _ => False) w (w.alloc (.map #[] 0)) ∧ OpM (w.alloc (.map #[] 0)) w.heap.size 0 []) := ⟨(Fr.refl _ w).alloc _, OpM.made w⟩
    obtain ⟨mb, emb⟩ : ∃ mb, mb = w.heap.size := ⟨_, rfl⟩
    rw [← emb] at HF0
    have EMB : Hd (mb = w.heap.size) := emb
    go_enter Tryz.func15, Tryz.ntmps15
    go_upto_region 5 with fail
    obtain ⟨W0, eW0⟩ : ∃ W0, W0 = w.alloc (.map #[] 0) := ⟨_, rfl⟩
    rw [← eW0] at HF0 ⊢
    rw [← emb]
    clear emb eW0 hmm
    go_wp2_with fail
    go_loopw [4, 16] (fun v4 v16 wr => ∃ k : Nat, ∃ s : St, v16 = vI k ∧ k ≤ n ∧ Hd (runO h k = some s ∧ Fr (fun _ => False) w wr ∧ (∃ N, N ≤ k ∧ OpM wr mb N s.op) ∧ COwn wr (mb + 1) v4 s.cs ∧ ∀ c ∈ s.cs, c.R.At w)) (fun _ v _ => match v with | .int _ q => n - q.toNat | _ => 0)
    case atStart => exact ⟨0, ⟨[], []⟩, rfl, by omega, rfl, HF0.out.1, ⟨0, by omega, HF0.out.2⟩, World.ownsRow_nil _ _ _ _, by simp⟩
    case round =>
      clear HF0
      obtain ⟨k, s, rfl, hk, HR⟩ := hrel
      by_cases hlt : k < n
      · have k0 : (0 : Int) ≤ k := by omega
        have k1 : (k : Int) < n := by omega
        have hkl : k < h.length := by rw [← EN.out]; exact hlt
        obtain ⟨g, o, rfl, hc0⟩ := HX.out k hkl
        have hc := hc0 wr HR.out.2.1
        obtain ⟨m, em⟩ : ∃ m, m = h[k] := ⟨_, rfl⟩
        have HMK : Hd (h[k]? = some m ∧ m.R.At w ∧ m.R.r.keys.length ≤ 1000000000000000000 ∧ In64 m.c) := ⟨by rw [List.getElem?_eq_getElem hkl, em], by rw [em]; exact HM.out _ (List.getElem_mem hkl)⟩
        rw [← em] at hc
        unfold m9 at hc
        have x0 := hc 0 (by omega)
        have x1 := hc 1 (by omega)
        have x2 := hc 2 (by omega)
        have x3 := hc 3 (by omega)
        have x4 := hc 4 (by omega)
        have x5 := hc 5 (by omega)
        have x6 := hc 6 (by omega)
        have x7 := hc 7 (by omega)
        have x8 := hc 8 (by omega)
        simp only [List.getElem?_cons_zero, List.getElem?_cons_succ, Nat.add_zero] at x0 x1 x2 x3 x4 x5 x6 x7 x8
        obtain ⟨c, beg, kd, ky, v, ⟨⟨ok, val, ks, vs⟩, kv, vv⟩⟩ := m
        clear em hc hc0 hkl
        obtain ⟨ka, kc, ek⟩ := row_slice HMK.out.2.1.1
        obtain ⟨va, vc, ev⟩ := row_slice HMK.out.2.1.2
        simp only [List.length_map] at ek ev
        subst ek ev
        simp only at x0 x1 x2 x3 x4 x5 x6 x7 x8
        go_upto_region 8 with fail
        obtain ⟨W, eW⟩ : ∃ W, W = (wr.alloc (Obj.cells #[.int .i64 c, .bool beg, .int .i64 kd, .int .i64 ky, .string v, .bool ok, .string val, .slice ka ks.length kc, .slice va vs.length vc] 41)) := ⟨_, rfl⟩
        have hb := heap_alloc_last wr (Obj.cells #[.int .i64 c, .bool beg, .int .i64 kd, .int .i64 ky, .string v, .bool ok, .string val, .slice ka ks.length kc, .slice va vs.length vc] 41)
        have hf := (Fr.refl (fun _ => False) wr).alloc (Obj.cells #[.int .i64 c, .bool beg, .int .i64 kd, .int .i64 ky, .string v, .bool ok, .string val, .slice ka ks.length kc, .slice va vs.length vc] 41)
        rw [← eW] at hb hf ⊢
        have HW : Hd (runO h k = some s ∧ Fr (fun _ => False) w W ∧ (∃ N, N ≤ k ∧ OpM W mb N s.op) ∧ COwn W (mb + 1) u4 s.cs ∧ ∀ c ∈ s.cs, c.R.At w) := by
          obtain ⟨q1, q2, ⟨N, q3, q4⟩, q5, q6⟩ := HR.out
          exact ⟨q1, q2.trans hf, ⟨N, q3, q4.fr hf (fun e => e)⟩, q5.fr hf (fun _ _ e => e), q6⟩
        obtain ⟨pm, epm⟩ : ∃ pm, pm = wr.heap.size := ⟨_, rfl⟩
        have HPM : Hd (mb ≠ pm ∧ (∀ j, u4.ownBlock = some j → j ≠ pm)) := by
          obtain ⟨q1, q2, ⟨N, q3, q4⟩, q5, q6⟩ := HR.out
          have := q4.lt
          exact ⟨by omega, fun j hj => by have := (World.ownsRow.lt q5 j hj).2; omega⟩
        rw [← epm] at hb ⊢
        have HB : Hd (W.heap[pm]? = some (Obj.cells #[.int .i64 c, .bool beg, .int .i64 kd, .int .i64 ky, .string v, .bool ok, .string val, .slice ka ks.length kc, .slice va vs.length vc] 41)) := hb
        clear eW epm hf HR
        obtain ⟨y0, y1, y2, y3, y4, y5, y6, y7, y8⟩ := nine hb
        clear hb
        obtain ⟨a4, c4, ev4⟩ := HW.out.2.2.2.1.val
        subst ev4
        have HO : Hd (∀ W2, Fr (fun _ => False) W W2 → Calls Tryz.prog 29 #[opV kd ky v] W2 fun e w' => e = .returned (.bool (rightOpB kd ky v)) ∧ Fr (fun _ => False) W2 w') := fun W2 _ => rightOp_any kd ky v W2
        have HZ : Hd (∀ W2, Fr (fun _ => False) W W2 → Calls Tryz.prog 30 #[.agg #[.bool ok, .string val, .slice ka ks.length kc, .slice va vs.length vc]] W2 fun e w' => e = .returned (.bool (isZeroB ⟨ok, val, ks, vs⟩)) ∧ Fr (fun _ => False) W2 w') := fun W2 f =>
          isZero_any ⟨⟨ok, val, ks, vs⟩, .slice ka ks.length kc, .slice va vs.length vc⟩ W2 (HMK.out.2.1.fr (HW.out.2.1.trans f))
        have HY : Hd (∀ W2, Fr (fun _ => False) W W2 → Calls Tryz.prog 31 #[vI kd, .agg #[.bool ok, .string val, .slice ka ks.length kc, .slice va vs.length vc]] W2 fun e w' => e = .returned (.bool (rightReplyB kd ⟨ok, val, ks, vs⟩)) ∧ Fr (fun _ => False) W2 w') := fun W2 f =>
          rightReply_any kd ⟨⟨ok, val, ks, vs⟩, .slice ka ks.length kc, .slice va vs.length vc⟩ W2 (HMK.out.2.1.fr (HW.out.2.1.trans f)) HMK.out.2.2.1
        have HST : Hd (∀ e, stepO k ⟨c, beg, kd, ky, v, ⟨⟨ok, val, ks, vs⟩, .slice ka ks.length kc, .slice va vs.length vc⟩⟩ s = none → e = none → callsX h = e) := by
          intro e h1 h2
          subst h2
          have h3 := runO_step HW.out.1 HMK.out.1
          rw [h1] at h3
          have h4 := runO_none h3 (h.length - (k + 1))
          rw [show k + 1 + (h.length - (k + 1)) = h.length by have := EN.out; omega] at h4
          unfold callsX
          split
          · rfl
          · rw [h4]; rfl
        obtain ⟨bo, ebo⟩ : ∃ b, b = rightOpB kd ky v := ⟨_, rfl⟩
        obtain ⟨bz, ebz⟩ : ∃ b, b = isZeroB ⟨ok, val, ks, vs⟩ := ⟨_, rfl⟩
        obtain ⟨br, ebr⟩ : ∃ b, b = rightReplyB kd ⟨ok, val, ks, vs⟩ := ⟨_, rfl⟩
        rw [← ebo] at HO
        rw [← ebz] at HZ
        rw [← ebr] at HY
        have HE : Hd (bo = rightOpB kd ky v ∧ bz = isZeroB ⟨ok, val, ks, vs⟩ ∧ br = rightReplyB kd ⟨ok, val, ks, vs⟩) := ⟨ebo, ebz, ebr⟩
        clear ebo ebz ebr
        unfold opV at HO
        cases hlk : s.op.lookup c with
        | none =>
          have hq := OpM.out (HW.out.2.2.1.choose_spec.2) HMK.out.2.2.2 hlk
          have HLK : Hd (s.op.lookup c = none) := hlk
          clear hlk
          cases beg
          · have HN : Hd (callsX h = none) := HST.out _ (by unfold stepO; rw [show (s.op.lookup c) = none from HLK.out]; rfl) rfl
            clear HO HZ HY
            go_wp2_with fail
            go_quiet (fail)
            go_wp2_with fail
            go_ret2
            exact ⟨_, _, rfl, HW.out.2.1.trans (fr_drewN _ _), Or.inl ⟨HN.out, rfl⟩⟩
          · have HBf : Hd (∀ W2, Fr (fun _ => False) W W2 → W2.heap[pm]? = some (Obj.cells #[.int .i64 c, .bool true, .int .i64 kd, .int .i64 ky, .string v, .bool ok, .string val, .slice ka ks.length kc, .slice va vs.length vc] 41)) := fun W2 f => (f.block pm (heap_lt HB.out) (fun e => e)).trans HB.out
            clear HB HY
            have HG : Hd (Fr (fun _ => False) W W) := Fr.refl _ _
            cases bo
            · have HN : Hd (callsX h = none) := HST.out _ (by unfold stepO; rw [show (s.op.lookup c) = none from HLK.out]; simp only; rw [← HE.out.1]; simp) rfl
              clear HZ
              go_upto_region 13 with ((go_at_call 29; refine (HO.out _ HG.out).mono ?_); (rintro _ w3 ⟨rfl, hf3⟩; replace HG : Hd (Fr _ _ _) := HG.out.trans hf3; clear hf3; obtain ⟨y0, y1, y2, y3, y4, y5, y6, y7, y8⟩ := nine (HBf.out _ HG.out)))
              go_quiet (fail)
              go_wp2_with fail
              go_ret2
              exact ⟨_, _, rfl, (HW.out.2.1.trans HG.out).trans (fr_drewN _ _), Or.inl ⟨HN.out, rfl⟩⟩
            · cases bz
              · have HN : Hd (callsX h = none) := HST.out _ (by unfold stepO; rw [show (s.op.lookup c) = none from HLK.out]; simp only; rw [← HE.out.2.1]; simp) rfl
                go_upto_region 13 with ((first | (go_at_call 29; refine (HO.out _ HG.out).mono ?_) | (go_at_call 30; refine (HZ.out _ HG.out).mono ?_)); (rintro _ w3 ⟨rfl, hf3⟩; replace HG : Hd (Fr _ _ _) := HG.out.trans hf3; clear hf3; obtain ⟨y0, y1, y2, y3, y4, y5, y6, y7, y8⟩ := nine (HBf.out _ HG.out)))
                go_quiet (fail)
                go_wp2_with fail
                go_ret2
                exact ⟨_, _, rfl, (HW.out.2.1.trans HG.out).trans (fr_drewN _ _), Or.inl ⟨HN.out, rfl⟩⟩
              · go_upto_region 11 with ((first | (go_at_call 29; refine (HO.out _ HG.out).mono ?_) | (go_at_call 30; refine (HZ.out _ HG.out).mono ?_)); (rintro _ w3 ⟨rfl, hf3⟩; replace HG : Hd (Fr _ _ _) := HG.out.trans hf3; clear hf3; obtain ⟨y0, y1, y2, y3, y4, y5, y6, y7, y8⟩ := nine (HBf.out _ HG.out)))
                clear HO HZ HST hq
                have HM3 : Hd (∃ N, N ≤ k ∧ OpM w3 mb N s.op) := by
                  obtain ⟨N, q3, q4⟩ := HW.out.2.2.1
                  exact ⟨N, q3, q4.fr HG.out (fun e => e)⟩
                have hlen := (stOk_run h k s HW.out.1).len
                obtain ⟨N, hN, hM3⟩ := HM3.out
                obtain ⟨w5, hup, hM5, hf5⟩ := hM3.begin_ HMK.out.2.2.2 HLK.out s.cs.length (by omega) (by omega)
                have HW5 : Hd (Fr (fun _ => False) w w5 ∧ OpM w5 mb (N + 1) ((c, s.cs.length) :: s.op) ∧ COwn w5 (mb + 1) (.slice a4 s.cs.length c4) s.cs) := by
                  obtain ⟨q1, q2, -, q5, q6⟩ := HW.out
                  refine ⟨(q2.trans HG.out).under hf5 (fun j e => by have := EMB.out; omega), hM5, (q5.fr HG.out (fun _ _ e => e)).fr hf5 (fun j hj e => ?_)⟩
                  have := (World.ownsRow.lt q5 j hj).1
                  omega
                have hbx : w5.heap[pm]? = _ := (hf5.block pm (heap_lt (HBf.out _ HG.out)) (fun e => HPM.out.1 e.symm)).trans (HBf.out _ HG.out)
                obtain ⟨z0, z1, z2, z3, z4, z5, z6, z7, z8⟩ := nine hbx
                have HNK : Hd (N + 1 ≤ k + 1) := by show N + 1 ≤ k + 1; omega
                clear HM3 hM3 hM5 hf5 hbx hN
                obtain ⟨g6, cap6, w6, hr6, hown6, hf6, -⟩ := HW5.out.2.2.app (by have := HW5.out.2.1.lt; omega) (begun k ⟨c, true, kd, ky, v, ⟨⟨ok, val, ks, vs⟩, .slice ka ks.length kc, .slice va vs.length vc⟩⟩) ⟨_, _, _, rfl⟩ ⟨_, _, _, rfl⟩ (by omega)
                have HA : Hd ((Builtin.append_ #[53, 53] 53 #[.slice a4 s.cs.length c4, .slice (some ⟨w5.heap.size, 0, none⟩) 1 1]).run Tryz.prog (w5.alloc (.cells #[vI k, vI 0, vI kd, vI ky, .string v, .bool false, .string ⟨#[]⟩, .slice none 0 0, .slice none 0 0] 87)) = .ok (.slice (some ⟨g6, 0, none⟩) (s.cs.length + 1) cap6) w6) := hr6
                have HW6 : Hd (Fr (fun _ => False) w w6 ∧ OpM w6 mb (N + 1) ((c, s.cs.length) :: s.op) ∧ COwn w6 (mb + 1) (.slice (some ⟨g6, 0, none⟩) (s.cs.length + 1) cap6) (s.cs ++ [begun k ⟨c, true, kd, ky, v, ⟨⟨ok, val, ks, vs⟩, .slice ka ks.length kc, .slice va vs.length vc⟩⟩])) := by
                  obtain ⟨q1, q2, q3⟩ := HW5.out
                  refine ⟨q1.under hf6 (fun j e => by have := (World.ownsRow.lt q3 j e).1; have := EMB.out; omega), q2.fr hf6 (fun e => by have := (World.ownsRow.lt q3 _ e).1; omega), hown6⟩
                have HS : Hd (stepO k ⟨c, true, kd, ky, v, ⟨⟨ok, val, ks, vs⟩, .slice ka ks.length kc, .slice va vs.length vc⟩⟩ s = some ⟨s.cs ++ [begun k ⟨c, true, kd, ky, v, ⟨⟨ok, val, ks, vs⟩, .slice ka ks.length kc, .slice va vs.length vc⟩⟩], (c, s.cs.length) :: s.op⟩) := by
                  show stepO _ _ _ = _
                  unfold stepO
                  rw [show (s.op.lookup c) = none from HLK.out]
                  simp only
                  rw [← HE.out.1, ← HE.out.2.1]
                  simp
                clear hr6 hown6 hf6 hlen
                go_wp2_with (at_builtin; refine wpList_append_run rfl (.tmp 50) (.tmp 55) 53 rfl _ _ _ rfl rfl HA.out ?_)
                refine ⟨⟨k + 1, _, by simp, by omega, (runO_step HW.out.1 HMK.out.1).trans HS.out, HW6.out.1, ⟨_, HNK.out, HW6.out.2.1⟩, HW6.out.2.2, fun c0 hc0 => ?_⟩, by simp; omega⟩
                rcases List.mem_append.1 hc0 with e | e
                · exact HW.out.2.2.2.2 c0 e
                · rw [List.mem_singleton.1 e]
                  exact rv0_at w
        | some i =>
          have hq := OpM.in_ (HW.out.2.2.1.choose_spec.2) HMK.out.2.2.2 hlk
          have HLK : Hd (s.op.lookup c = some i) := hlk
          have hic : i < s.cs.length := (stOk_run h k s HW.out.1).idx _ (lookup_mem hlk)
          clear hlk HO HZ
          cases beg
          · obtain ⟨c0, ec0⟩ : ∃ c0, s.cs[i]? = some c0 := ⟨_, List.getElem?_eq_getElem hic⟩
            have HC0 : Hd (s.cs[i]? = some c0) := ec0
            obtain ⟨g4, cap4, e4, hg4, hg4s, hfz, hcs⟩ := HW.out.2.2.2.1.cells (fun e => by rw [e] at hic; simp at hic)
            cases e4
            have hcs := hcs i hic
            have hc0e : s.cs[i] = c0 := by
              have := List.getElem?_eq_getElem hic
              rw [this] at ec0
              exact Option.some.inj ec0
            rw [hc0e] at hcs
            unfold c9 at hcs
            have z0 := hcs 0 (by omega)
            have z2 := hcs 2 (by omega)
            have z3 := hcs 3 (by omega)
            have z4 := hcs 4 (by omega)
            simp only [List.getElem?_cons_zero, List.getElem?_cons_succ, Nat.add_zero] at z0 z2 z3 z4
            have hi1 : (i : Int) < s.cs.length := by omega
            have hi0 : (0 : Int) ≤ i := by omega
            have HCE : Hd (s.cs[i]? = some c0 ∧ i < s.cs.length) := ⟨ec0, hic⟩
            obtain ⟨b0, en0, kd0, ky0, v0, R0⟩ := c0
            simp only at z0 z2 z3 z4
            clear hcs hc0e ec0 hic
            by_cases hk1 : kd = kd0
            · subst hk1
              by_cases hk2 : ky = ky0
              · subst hk2
                by_cases hk3 : v.toList = v0.toList
                · have HCW : Hd (∀ w, Fr (fun _ => False) W w → (w.cell? ⟨pm, 1, none⟩ = some (.bool false) ∧ w.cell? ⟨pm, 2, none⟩ = some (vI kd) ∧ w.cell? ⟨pm, 3, none⟩ = some (vI ky) ∧ w.cell? ⟨pm, 4, none⟩ = some (.string v) ∧ w.cell? ⟨pm, 5, none⟩ = some (.bool ok) ∧ w.cell? ⟨pm, 6, none⟩ = some (.string val) ∧ w.cell? ⟨pm, 7, none⟩ = some (.slice ka ks.length kc) ∧ w.cell? ⟨pm, 8, none⟩ = some (.slice va vs.length vc)) ∧ w.cell? ⟨g4, i * 9 + 2, none⟩ = some (vI kd) ∧ w.cell? ⟨g4, i * 9 + 3, none⟩ = some (vI ky) ∧ w.cell? ⟨g4, i * 9 + 4, none⟩ = some (.string v0)) := fun w f => by
                    have hp := cell_lt y1
                    exact ⟨⟨(f.cell hp (fun e => e)).trans y1, (f.cell hp (fun e => e)).trans y2, (f.cell hp (fun e => e)).trans y3, (f.cell hp (fun e => e)).trans y4, (f.cell hp (fun e => e)).trans y5, (f.cell hp (fun e => e)).trans y6, (f.cell hp (fun e => e)).trans y7, (f.cell hp (fun e => e)).trans y8⟩, (f.cell hg4s (fun e => e)).trans z2, (f.cell hg4s (fun e => e)).trans z3, (f.cell hg4s (fun e => e)).trans z4⟩
                  have HN : Hd (br = false → callsX h = none) := fun hbr => HST.out _ (by unfold stepO; rw [show (s.op.lookup c) = some i from HLK.out]; simp only; rw [HCE.out.1]; simp [← HE.out.2.2, hbr]) rfl
                  have HST2 : Hd (br = true → stepO k ⟨c, false, kd, ky, v, ⟨⟨ok, val, ks, vs⟩, .slice ka ks.length kc, .slice va vs.length vc⟩⟩ s = some ⟨s.cs.set i ⟨b0, k, kd, ky, v0, ⟨⟨ok, val, ks, vs⟩, .slice ka ks.length kc, .slice va vs.length vc⟩⟩, s.op.filter (fun p => p.1 != c)⟩) := fun hbr => by
                    unfold stepO
                    rw [show (s.op.lookup c) = some i from HLK.out]
                    simp only
                    rw [HCE.out.1]
                    simp [← HE.out.2.2, hbr, sameOp, hk3, Cl.ended]
                  clear HST HE HM HX
                  go_upto_region 13 with fail
                  clear y0 y1 y2 y3 y4 y5 y6 y7 y8 z0 z2 z3 z4 hq
                  refine wp_region_held_drew (S := fun W2 => Fr (fun _ => False) W W2) (by kernel_rfl) ((Fr.refl _ W).drew) (fun hHeld => ?_)
                  refine heldTake (i := 0) 58 (v := ?_) rfl rfl (by kernel_rfl) (by kernel_rfl) (by kernel_rfl) (fun _ _ _ h => h) (by kernel_rfl) (fun w hSw => (by obtain ⟨⟨y1, y2, y3, y4, y5, y6, y7, y8⟩, z2, z3, z4⟩ := HCW.out w hSw; go_simp; try with_reducible rfl)) hHeld ?_
                  simp only [Act.put, List.setIfInBounds_toArray, List.set_cons_zero, List.set_cons_succ]
                  refine heldTake (i := 1) 59 (v := ?_) rfl rfl (by kernel_rfl) (by kernel_rfl) (by kernel_rfl) (fun _ _ _ h => h) (by kernel_rfl) (fun w hSw => (by obtain ⟨⟨y1, y2, y3, y4, y5, y6, y7, y8⟩, z2, z3, z4⟩ := HCW.out w hSw; go_simp; try with_reducible rfl)) hHeld ?_
                  simp only [Act.put, List.setIfInBounds_toArray, List.set_cons_zero, List.set_cons_succ]
                  refine heldTake (i := 2) 60 (v := ?_) rfl rfl (by kernel_rfl) (by kernel_rfl) (by kernel_rfl) (fun _ _ _ h => h) (by kernel_rfl) (fun w hSw => (by obtain ⟨⟨y1, y2, y3, y4, y5, y6, y7, y8⟩, z2, z3, z4⟩ := HCW.out w hSw; go_simp; try with_reducible rfl)) hHeld ?_
                  simp only [Act.put, List.setIfInBounds_toArray, List.set_cons_zero, List.set_cons_succ]
                  refine heldTake (i := 3) 61 (v := ?_) rfl rfl (by kernel_rfl) (by kernel_rfl) (by kernel_rfl) (fun _ _ _ h => h) (by kernel_rfl) (fun w hSw => (by obtain ⟨⟨y1, y2, y3, y4, y5, y6, y7, y8⟩, z2, z3, z4⟩ := HCW.out w hSw; go_simp; try with_reducible rfl)) hHeld ?_
                  simp only [Act.put, List.setIfInBounds_toArray, List.set_cons_zero, List.set_cons_succ]
                  refine heldTake (i := 4) 62 (v := ?_) rfl rfl (by kernel_rfl) (by kernel_rfl) (by kernel_rfl) (fun _ _ _ h => h) (by kernel_rfl) (fun w hSw => (by obtain ⟨⟨y1, y2, y3, y4, y5, y6, y7, y8⟩, z2, z3, z4⟩ := HCW.out w hSw; go_simp; try with_reducible rfl)) hHeld ?_
                  simp only [Act.put, List.setIfInBounds_toArray, List.set_cons_zero, List.set_cons_succ]
                  refine heldTake (i := 5) 63 (v := ?_) rfl rfl (by kernel_rfl) (by kernel_rfl) (by kernel_rfl) (fun _ _ _ h => h) (by kernel_rfl) (fun w hSw => (by obtain ⟨⟨y1, y2, y3, y4, y5, y6, y7, y8⟩, z2, z3, z4⟩ := HCW.out w hSw; go_simp; try with_reducible rfl)) hHeld ?_
                  simp only [Act.put, List.setIfInBounds_toArray, List.set_cons_zero, List.set_cons_succ]
                  refine heldTake (i := 6) 64 (v := ?_) rfl rfl (by kernel_rfl) (by kernel_rfl) (by kernel_rfl) (fun _ _ _ h => h) (by kernel_rfl) (fun w hSw => (by obtain ⟨⟨y1, y2, y3, y4, y5, y6, y7, y8⟩, z2, z3, z4⟩ := HCW.out w hSw; go_simp; try with_reducible rfl)) hHeld ?_
                  simp only [Act.put, List.setIfInBounds_toArray, List.set_cons_zero, List.set_cons_succ]
                  refine heldTake (i := 7) 65 (v := ?_) rfl rfl (by kernel_rfl) (by kernel_rfl) (by kernel_rfl) (fun _ _ _ h => h) (by kernel_rfl) (fun w hSw => (by obtain ⟨⟨y1, y2, y3, y4, y5, y6, y7, y8⟩, z2, z3, z4⟩ := HCW.out w hSw; go_simp; try with_reducible rfl)) hHeld ?_
                  simp only [Act.put, List.setIfInBounds_toArray, List.set_cons_zero, List.set_cons_succ]
                  refine heldTake (i := 8) 66 (v := ?_) rfl rfl (by kernel_rfl) (by kernel_rfl) (by kernel_rfl) (fun _ _ _ h => h) (by kernel_rfl) (fun w hSw => (by obtain ⟨⟨y1, y2, y3, y4, y5, y6, y7, y8⟩, z2, z3, z4⟩ := HCW.out w hSw; go_simp; try with_reducible rfl)) hHeld ?_
                  simp only [Act.put, List.setIfInBounds_toArray, List.set_cons_zero, List.set_cons_succ]
                  refine heldTake (i := 9) 67 (v := ?_) rfl rfl (by kernel_rfl) (by kernel_rfl) (by kernel_rfl) (fun _ _ _ h => h) (by kernel_rfl) (fun w hSw => (by obtain ⟨⟨y1, y2, y3, y4, y5, y6, y7, y8⟩, z2, z3, z4⟩ := HCW.out w hSw; go_simp; try with_reducible rfl)) hHeld ?_
                  simp only [Act.put, List.setIfInBounds_toArray, List.set_cons_zero, List.set_cons_succ]
                  refine heldTake (i := 10) 68 (v := ?_) rfl rfl (by kernel_rfl) (by kernel_rfl) (by kernel_rfl) (fun _ _ _ h => h) (by kernel_rfl) (fun w hSw => (by obtain ⟨⟨y1, y2, y3, y4, y5, y6, y7, y8⟩, z2, z3, z4⟩ := HCW.out w hSw; go_simp; try with_reducible rfl)) hHeld ?_
                  simp only [Act.put, List.setIfInBounds_toArray, List.set_cons_zero, List.set_cons_succ]
                  refine heldTake (i := 11) 69 (v := ?_) rfl rfl (by kernel_rfl) (by kernel_rfl) (by kernel_rfl) (fun _ _ _ h => h) (by kernel_rfl) (fun w hSw => (by obtain ⟨⟨y1, y2, y3, y4, y5, y6, y7, y8⟩, z2, z3, z4⟩ := HCW.out w hSw; go_simp; try with_reducible rfl)) hHeld ?_
                  simp only [Act.put, List.setIfInBounds_toArray, List.set_cons_zero, List.set_cons_succ]
                  refine heldTake (i := 12) 70 (v := ?_) rfl rfl (by kernel_rfl) (by kernel_rfl) (by kernel_rfl) (fun _ _ _ h => h) (by kernel_rfl) (fun w hSw => (by obtain ⟨⟨y1, y2, y3, y4, y5, y6, y7, y8⟩, z2, z3, z4⟩ := HCW.out w hSw; go_simp; try with_reducible rfl)) hHeld ?_
                  simp only [Act.put, List.setIfInBounds_toArray, List.set_cons_zero, List.set_cons_succ]
                  refine heldTake (i := 13) 71 (v := ?_) rfl rfl (by kernel_rfl) (by kernel_rfl) (by kernel_rfl) (fun _ _ _ h => h) (by kernel_rfl) (fun w hSw => (by obtain ⟨⟨y1, y2, y3, y4, y5, y6, y7, y8⟩, z2, z3, z4⟩ := HCW.out w hSw; go_simp; try with_reducible rfl)) hHeld ?_
                  simp only [Act.put, List.setIfInBounds_toArray, List.set_cons_zero, List.set_cons_succ]
                  refine heldTake (i := 14) 72 (v := ?_) rfl rfl (by kernel_rfl) (by kernel_rfl) (by kernel_rfl) (fun _ _ _ h => h) (by kernel_rfl) (fun w hSw => (by obtain ⟨⟨y1, y2, y3, y4, y5, y6, y7, y8⟩, z2, z3, z4⟩ := HCW.out w hSw; go_simp; try with_reducible rfl)) hHeld ?_
                  simp only [Act.put, List.setIfInBounds_toArray, List.set_cons_zero, List.set_cons_succ]
                  refine heldTake (i := 15) 73 (v := ?_) rfl rfl (by kernel_rfl) (by kernel_rfl) (by kernel_rfl) (fun _ _ _ h => h) (by kernel_rfl) (fun w hSw => (by obtain ⟨⟨y1, y2, y3, y4, y5, y6, y7, y8⟩, z2, z3, z4⟩ := HCW.out w hSw; go_simp; try with_reducible rfl)) hHeld ?_
                  simp only [Act.put, List.setIfInBounds_toArray, List.set_cons_zero, List.set_cons_succ]
                  refine heldTake (i := 16) 74 (v := ?_) rfl rfl (by kernel_rfl) (by kernel_rfl) (by kernel_rfl) (fun _ _ _ h => h) (by kernel_rfl) (fun w hSw => (by obtain ⟨⟨y1, y2, y3, y4, y5, y6, y7, y8⟩, z2, z3, z4⟩ := HCW.out w hSw; go_simp; try with_reducible rfl)) hHeld ?_
                  simp only [Act.put, List.setIfInBounds_toArray, List.set_cons_zero, List.set_cons_succ]
                  refine heldTake (i := 17) 75 (v := ?_) rfl rfl (by kernel_rfl) (by kernel_rfl) (by kernel_rfl) (fun _ _ _ h => h) (by kernel_rfl) (fun w hSw => (by obtain ⟨⟨y1, y2, y3, y4, y5, y6, y7, y8⟩, z2, z3, z4⟩ := HCW.out w hSw; go_simp; try with_reducible rfl)) hHeld ?_
                  simp only [Act.put, List.setIfInBounds_toArray, List.set_cons_zero, List.set_cons_succ]
                  refine heldTake (i := 18) 76 (v := ?_) rfl rfl (by kernel_rfl) (by kernel_rfl) (by kernel_rfl) (fun _ _ _ h => h) (by kernel_rfl) (fun w hSw => (by obtain ⟨⟨y1, y2, y3, y4, y5, y6, y7, y8⟩, z2, z3, z4⟩ := HCW.out w hSw; go_simp; try with_reducible rfl)) hHeld ?_
                  simp only [Act.put, List.setIfInBounds_toArray, List.set_cons_zero, List.set_cons_succ]
                  refine heldTake (i := 19) 77 (v := ?_) rfl rfl (by kernel_rfl) (by kernel_rfl) (by kernel_rfl) (fun _ _ _ h => h) (by kernel_rfl) (fun w hSw => (by obtain ⟨⟨y1, y2, y3, y4, y5, y6, y7, y8⟩, z2, z3, z4⟩ := HCW.out w hSw; go_simp; try with_reducible rfl)) hHeld ?_
                  simp only [Act.put, List.setIfInBounds_toArray, List.set_cons_zero, List.set_cons_succ]
                  refine heldTake (i := 20) 78 (v := ?_) rfl rfl (by kernel_rfl) (by kernel_rfl) (by kernel_rfl) (fun _ _ _ h => h) (by kernel_rfl) (fun w hSw => (by obtain ⟨⟨y1, y2, y3, y4, y5, y6, y7, y8⟩, z2, z3, z4⟩ := HCW.out w hSw; go_simp; try with_reducible rfl)) hHeld ?_
                  simp only [Act.put, List.setIfInBounds_toArray, List.set_cons_zero, List.set_cons_succ]
                  refine heldTake (i := 21) 79 (v := ?_) rfl rfl (by kernel_rfl) (by kernel_rfl) (by kernel_rfl) (fun _ _ _ h => h) (by kernel_rfl) (fun w hSw => (by obtain ⟨⟨y1, y2, y3, y4, y5, y6, y7, y8⟩, z2, z3, z4⟩ := HCW.out w hSw; go_simp; try with_reducible rfl)) hHeld ?_
                  simp only [Act.put, List.setIfInBounds_toArray, List.set_cons_zero, List.set_cons_succ]
                  refine heldOne (i := 22) rfl (by kernel_rfl) (fun K hK => ?_)
                  go_simp
                  go_wp2_with ((go_at_call 31; refine Calls.mono (HY.out _ hHeld) ?_; rintro e w8 ⟨rfl, hF8⟩; have hHeld2 : Fr (fun _ => False) W w8 := hHeld.trans hF8; clear hF8 hHeld))
                  refine hK.out _ _ hHeld2 ?_
                  clear hK K
                  have hHeld := hHeld2
                  clear hHeld2
                  refine heldTake (i := 23) 81 (v := ?_) rfl rfl (by kernel_rfl) (by kernel_rfl) (by kernel_rfl) (fun _ _ _ h => h) (by kernel_rfl) (fun w hSw => (by obtain ⟨⟨y1, y2, y3, y4, y5, y6, y7, y8⟩, z2, z3, z4⟩ := HCW.out w hSw; go_simp; try with_reducible rfl)) hHeld ?_
                  simp only [Act.put, List.setIfInBounds_toArray, List.set_cons_zero, List.set_cons_succ]
                  refine heldTake (i := 24) 57 (v := ?_) rfl rfl (by kernel_rfl) (by kernel_rfl) (by kernel_rfl) (fun _ _ _ h => h) (by kernel_rfl) (fun w hSw => (by obtain ⟨⟨y1, y2, y3, y4, y5, y6, y7, y8⟩, z2, z3, z4⟩ := HCW.out w hSw; go_simp; try with_reducible rfl)) hHeld ?_
                  simp only [Act.put, List.setIfInBounds_toArray, List.set_cons_zero, List.set_cons_succ]
                  refine wpAnyH_done (by kernel_rfl) ?_ _
                  have HG : Hd (Fr (fun _ => False) W w8) := hHeld
                  clear hHeld HY
                  cases br
                  · go_wp2_with fail
                    go_ret2
                    exact ⟨_, _, rfl, HW.out.2.1.trans HG.out, Or.inl ⟨HN.out (by simp), rfl⟩⟩
                  · clear HN
                    obtain ⟨⟨y1, y2, y3, y4, y5, y6, y7, y8⟩, z2, z3, z4⟩ := HCW.out w8 HG.out
                    have hfz8 : ∀ o, w8.frozen? ⟨g4, o, none⟩ = false := fun o => (HG.out.frozen hg4s (fun e => e)).trans (hfz o)
                    have f1 := hfz8 (i * 9 + 1)
                    have f5 := hfz8 (i * 9 + 5)
                    have f6 := hfz8 (i * 9 + 6)
                    have f7 := hfz8 (i * 9 + 7)
                    have f8 := hfz8 (i * 9 + 8)
                    have HHI : Hd (mb + 1 ≤ g4 ∧ g4 < W.heap.size) := ⟨hg4, hg4s⟩
                    have hne : g4 ≠ pm := HPM.out.2 g4 rfl
                    have zz : ∀ j, j < 9 → ∃ x, w8.cell? ⟨g4, i * 9 + j, none⟩ = some x := fun j hj => by
                      have h1 := (HG.out.cell hg4s (fun e => e)).trans (hcs i HCE.out.2 j hj)
                      rw [h1, List.getElem?_eq_getElem (by exact hj)]
                      exact ⟨_, rfl⟩
                    obtain ⟨x1, q1⟩ := zz 1 (by omega)
                    obtain ⟨x5, q5⟩ := zz 5 (by omega)
                    obtain ⟨x6, q6⟩ := zz 6 (by omega)
                    obtain ⟨x7, q7⟩ := zz 7 (by omega)
                    obtain ⟨x8, q8⟩ := zz 8 (by omega)
                    clear zz hfz8 hfz hcs hg4 hg4s HCW y1 y2 y3 y4 z2 z3 z4
                    go_wp2_with fail
                    go_region
                    obtain ⟨W9, eW9, hf9, hO9⟩ := ended_all (HW.out.2.2.2.1.fr HG.out (fun _ _ e => e)) i b0 en0 kd ky v0 R0 HCE.out.1 k ok val ks vs (.slice ka ks.length kc) (.slice va vs.length vc)
                    have hb9 := (hf9.block pm (by have := cell_lt y5; exact this) (fun e => hne e.symm)).trans ((HG.out.block pm (heap_lt HB.out) (fun e => e)).trans HB.out)
                    have w0 := (nine hb9).1
                    obtain ⟨N, hN, hM⟩ := HW.out.2.2.1
                    have hM9 := (hM.fr HG.out (fun e => e)).fr hf9 (fun e => by have := HHI.out.1; omega)
                    have hok := stOk_run h k s HW.out.1
                    obtain ⟨w10, hdel, hM10, hf10⟩ := hM9.end_ HMK.out.2.2.2 HLK.out hok.nodup 0
                    have HD : Hd ((Builtin.delete_ #[82, 3] 0 #[.map (some mb), vI c]).run Tryz.prog W9.drew = .ok (.tuple #[]) w10) := hdel
                    have HW10 : Hd (Fr (fun _ => False) w w10 ∧ (∃ N, N ≤ k + 1 ∧ OpM w10 mb N (s.op.filter (fun p => p.1 != c))) ∧ COwn w10 (mb + 1) (.slice (some ⟨g4, 0, none⟩) s.cs.length c4) (s.cs.set i ⟨b0, k, kd, ky, v0, ⟨⟨ok, val, ks, vs⟩, .slice ka ks.length kc, .slice va vs.length vc⟩⟩)) := by
                      refine ⟨((HW.out.2.1.trans HG.out).under hf9 (fun j e => by have := HHI.out.1; have := EMB.out; omega)).under hf10 (fun j e => by have := EMB.out; omega), ⟨N, by omega, hM10⟩, hO9.fr hf10 (fun j hj e => ?_)⟩
                      have := (World.ownsRow.lt hO9 j hj).1
                      omega
                    have HLS : Hd (s.cs.length = (s.cs.set i ⟨b0, k, kd, ky, v0, ⟨⟨ok, val, ks, vs⟩, .slice ka ks.length kc, .slice va vs.length vc⟩⟩).length) := by simp [Hd]
                    rw [← eW9]
                    clear eW9 hf9 hO9 hb9 hM9 hdel hM10 hf10 hok hM hN f1 f5 f6 f7 f8 q1 q5 q6 q7 q8 y5 y6 y7 y8 hne
                    go_wp2_with (at_delete; refine wpList_delete_run rfl (.tmp 93) (.tmp 95) 82 3 rfl _ _ _ rfl rfl HD.out ?_)
                    refine ⟨⟨k + 1, _, by simp, by omega, (runO_step HW.out.1 HMK.out.1).trans (HST2.out (by simp)), HW10.out.1, HW10.out.2.1, HW10.out.2.2, fun c0 hc0 => ?_⟩, by simp; omega⟩
                    rcases List.mem_or_eq_of_mem_set hc0 with e | rfl
                    · exact HW.out.2.2.2.2 c0 e
                    · exact HMK.out.2.1
                · have HN : Hd (callsX h = none) := HST.out _ (by unfold stepO; rw [show (s.op.lookup c) = some i from HLK.out]; simp only; rw [HCE.out.1]; simp [sameOp, hk3]) rfl
                  clear HY
                  go_upto_region 13 with fail
                  go_quiet (fail)
                  go_wp2_with fail
                  go_ret2
                  exact ⟨_, _, rfl, HW.out.2.1.trans (fr_drewN _ _), Or.inl ⟨HN.out, rfl⟩⟩
              · have HN : Hd (callsX h = none) := HST.out _ (by unfold stepO; rw [show (s.op.lookup c) = some i from HLK.out]; simp only; rw [HCE.out.1]; simp [sameOp, hk2]) rfl
                clear HY
                go_upto_region 13 with fail
                go_quiet (fail)
                go_wp2_with fail
                go_ret2
                exact ⟨_, _, rfl, HW.out.2.1.trans (fr_drewN _ _), Or.inl ⟨HN.out, rfl⟩⟩
            · have HN : Hd (callsX h = none) := HST.out _ (by unfold stepO; rw [show (s.op.lookup c) = some i from HLK.out]; simp only; rw [HCE.out.1]; simp [sameOp, hk1]) rfl
              clear HY
              go_upto_region 13 with fail
              go_quiet (fail)
              go_wp2_with fail
              go_ret2
              exact ⟨_, _, rfl, HW.out.2.1.trans (fr_drewN _ _), Or.inl ⟨HN.out, rfl⟩⟩
          · have HN : Hd (callsX h = none) := HST.out _ (by unfold stepO; rw [show (s.op.lookup c) = some i from HLK.out]; simp only; split <;> simp) rfl
            go_upto_region 13 with fail
            go_quiet (fail)
            go_wp2_with fail
            go_ret2
            exact ⟨_, _, rfl, HW.out.2.1.trans (fr_drewN _ _), Or.inl ⟨HN.out, rfl⟩⟩
      · have hkn : k = h.length := by have := EN.out; omega
        have HE : Hd (callsX h = if s.op = [] then some s.cs else none) := by
          show callsX h = _
          unfold callsX
          rw [if_neg (by have := EN.out; omega), ← hkn, HR.out.1]
          rfl
        obtain ⟨N, hN, hM⟩ := HR.out.2.2.1
        have HL : Hd ((Builtin.len_ #[82] 3 #[.map (some mb)]).run Tryz.prog wr = .ok (vI (s.op.length : Int)) wr) := hM.len 3
        obtain ⟨a4, c4, ev4⟩ := HR.out.2.2.2.1.val
        subst ev4
        obtain ⟨m, em⟩ : ∃ m, m = s.op.length := ⟨_, rfl⟩
        have HEM : Hd (m = s.op.length) := em
        rw [← em] at HL
        have hCF : Hd (COwn wr w.heap.size (.slice a4 s.cs.length c4) s.cs) := by
          obtain ⟨q0, q1⟩ := HR.out.2.2.2.1
          have := EMB.out
          refine ⟨q0, ?_⟩
          rcases q1 with q1 | ⟨g', cap', cur, e1, k1, k2⟩
          · exact Or.inl q1
          · exact Or.inr ⟨g', cap', cur, e1, by omega, k2⟩
        clear hkn hM hN em
        by_cases hm : m = 0
        · subst hm
          go_wp2_with (at_len; refine wpList_len_run rfl (.tmp 98) 82 rfl _ _ rfl HL.out ?_)
          go_ret2
          refine ⟨_, _, rfl, HR.out.2.1, Or.inr ⟨s.cs, ?_, rfl, hCF.out, HR.out.2.2.2.2⟩⟩
          have : s.op = [] := List.eq_nil_of_length_eq_zero HEM.out.symm
          rw [show callsX h = _ from HE.out, if_pos this]
        · have hm2 : ¬ (m : Int) = 0 := by omega
          have hm3 : ((m : Int) == 0) = false := by simpa using hm
          go_wp2_with (at_len; refine wpList_len_run rfl (.tmp 98) 82 rfl _ _ rfl HL.out ?_)
          go_ret2
          refine ⟨_, _, rfl, HR.out.2.1, Or.inl ⟨?_, rfl⟩⟩
          rw [show callsX h = _ from HE.out, if_neg (fun e => hm (by rw [HEM.out, e]; rfl))]
end Go.Proofs.YtihicdbplmdjiaaGreat
