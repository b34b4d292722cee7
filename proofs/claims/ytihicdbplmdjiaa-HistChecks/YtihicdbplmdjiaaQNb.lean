import Derived.Test.YtihicdbplmdjiaaQMfJ
import Derived.Carry
namespace Go.Proofs.Ytihicdbplmdjiaa
open Go.RowKit (wrap32 wrap64)
set_option linter.unusedVariables false
set_option linter.unusedSimpArgs false

theorem app_k {w : World} {B n : Nat} {v : Value} {xs : List Value} {z : Int} (h : w.ownsRow B 3 1 v n xs) (hB : B ≤ w.heap.size) (hn : n ≤ 4000000000) :
    ∃ g cap w2, (Builtin.append_ #[25, 25] 25 #[v, .slice (some ⟨w.heap.size, 0, none⟩) 1 1]).run Try.prog (w.alloc (.cells #[vI z] 3)) = .ok (.slice (some ⟨g, 0, none⟩) (n + 1) cap) w2 ∧ w2.ownsRow B 3 1 (.slice (some ⟨g, 0, none⟩) (n + 1) cap) (n + 1) (xs ++ [vI z]) ∧ Fr (fun j => v.ownBlock = some j) w w2 := by
  obtain ⟨g, cap, w2, hr, hown, hgr, hw⟩ := app1 und25 info3 rfl (by omega) h #[vI z] rfl (by intro u hu; simp at hu; rw [hu]; rfl) (by unfold maxLen; omega) (by omega) hB
  exact ⟨g, cap, w2, hr, hown, hgr⟩
theorem app_s {w : World} {B n : Nat} {v : Value} {xs : List Value} {x : ByteArray} (h : w.ownsRow B 9 1 v n xs) (hB : B ≤ w.heap.size) (hn : n ≤ 4000000000) :
    ∃ g cap w2, (Builtin.append_ #[26, 26] 26 #[v, .slice (some ⟨w.heap.size, 0, none⟩) 1 1]).run Try.prog (w.alloc (.cells #[.string x] 9)) = .ok (.slice (some ⟨g, 0, none⟩) (n + 1) cap) w2 ∧ w2.ownsRow B 9 1 (.slice (some ⟨g, 0, none⟩) (n + 1) cap) (n + 1) (xs ++ [.string x]) ∧ Fr (fun j => v.ownBlock = some j) w w2 := by
  obtain ⟨g, cap, w2, hr, hown, hgr, hw⟩ := app1 under28 info9 rfl (by omega) h #[.string x] rfl (by intro u hu; simp at hu; rw [hu]; rfl) (by unfold maxLen; omega) (by omega) hB
  exact ⟨g, cap, w2, hr, hown, hgr⟩
theorem own_some {w : World} {B e s n : Nat} {v : Value} {xs : List Value} (h : w.ownsRow B e s v n xs) (hn : n ≠ 0) : ∃ g cap, v = .slice (some ⟨g, 0, none⟩) n cap ∧ n ≤ cap ∧ B ≤ g := by
  rcases h.2 with ⟨-, e2⟩ | ⟨g, cap, cur, e, b1, b2, b3, -⟩
  · exact absurd e2 hn
  · exact ⟨g, cap, e, b3, b1⟩
set_option maxRecDepth 100000 in
set_option maxHeartbeats 4000000 in
/-- spare. -/
theorem spare_any (hv : Value) (h : List Mo) (w : World) (hh : HAt w hv h) (hl : h.length ≤ 3000000000) (hL : ∀ m ∈ h, m.R.r.keys.length ≤ 3000000000 ∧ m.R.r.vals.length ≤ 3000000000) :
    Calls Try.prog 19 #[hv] w fun e w' => ∃ lv, e = .returned lv ∧ Fr (fun _ => False) w w' ∧ SpH w' w.heap.size lv h := by
  obtain ⟨ad, cap, rfl, h1, h2⟩ := hh
  have HX : Hd (∀ i (hi : i < h.length), ∃ g o, ad = some ⟨g, o, none⟩ ∧ ∀ W, Fr (fun _ => False) w W → ∀ j, j < 9 → W.cell? ⟨g, o + i * 9 + j, none⟩ = (m9 h[i])[j]?) := fun i hi => by
    obtain ⟨g, o, ea, hc⟩ := h1 (fun e => by rw [e] at hi; simp at hi)
    refine ⟨g, o, ea, fun W f j hj => (f.cell ?_ (fun e => e)).trans (hc i hi j hj)⟩
    have := hc i hi j hj
    rw [List.getElem?_eq_getElem (by exact hj)] at this
    exact cell_lt this
  have HM : Hd (∀ m ∈ h, m.R.At w ∧ m.R.r.keys.length ≤ 3000000000 ∧ m.R.r.vals.length ≤ 3000000000) := fun m hm => ⟨(h2 m hm).1, hL m hm⟩
  obtain ⟨n, en⟩ : ∃ n, n = h.length := ⟨_, rfl⟩
  have EN : Hd (n = h.length) := en
  rw [← en] at hl ⊢
  clear h1 h2 en hL
  go_enter Try.func19, Try.ntmps19
  go_upto_region 3 with fail
  go_loopw [3, 4] (fun v3 v4 wr => ∃ k : Nat, ∃ ms : List Mo, v4 = vI k ∧ k ≤ n ∧ ms.length = k ∧ Hd (Fr (fun _ => False) w wr ∧ MsOwn wr w.heap.size v3 ms ∧ SpM wr w.heap.size h ms)) (fun _ v _ => match v with | .int _ q => n - q.toNat | _ => 0)
  case atStart => exact ⟨0, [], rfl, by omega, rfl, Fr.refl _ _, World.ownsRow_nil _ _ _ _, fun k m' e => by simp at e⟩
  case round =>
    obtain ⟨k, ms, rfl, hk, hms, HR⟩ := hrel
    by_cases hlt : k < n
    · have k0 : (0 : Int) ≤ k := by omega
      have k1 : (k : Int) < n := by omega
      have hkl : k < h.length := by rw [← EN.out]; exact hlt
      obtain ⟨g, o, rfl, hc0⟩ := HX.out k hkl
      have hc := hc0 wr HR.out.1
      obtain ⟨m, em⟩ : ∃ m, m = h[k] := ⟨_, rfl⟩
      have HMK : Hd (h[k]? = some m ∧ m.R.At wr ∧ m.R.r.keys.length ≤ 3000000000 ∧ m.R.r.vals.length ≤ 3000000000) := ⟨by rw [List.getElem?_eq_getElem hkl, em], by rw [em]; exact ⟨(HM.out _ (List.getElem_mem hkl)).1.fr HR.out.1, (HM.out _ (List.getElem_mem hkl)).2⟩⟩
      rw [← em] at hc
      unfold m9 at hc
      have x0 := hc 0 (by omega)
      have x1 := hc 1 (by omega)
      have x2 := hc 2 (by omega)
      have x3 := hc 3 (by omega)
      have x4 := hc 4 (by omega)
      have x5 := hc 5 (by omega)
      have x6 := hc 6 (by omega)
      have x7 := hc 7 (by omega)
      have x8 := hc 8 (by omega)
      simp only [List.getElem?_cons_zero, List.getElem?_cons_succ, Nat.add_zero] at x0 x1 x2 x3 x4 x5 x6 x7 x8
      clear em hc hc0 hkl
      obtain ⟨c, beg, kd, ky, v, ⟨⟨ok, val, ks, vs⟩, kv, vv⟩⟩ := m
      obtain ⟨ka, kc, ek⟩ := row_slice HMK.out.2.1.1
      obtain ⟨va, vc, ev⟩ := row_slice HMK.out.2.1.2
      simp only [List.length_map] at ek ev
      subst ek ev
      simp only at x0 x1 x2 x3 x4 x5 x6 x7 x8
      go_upto_region 6 with fail
      clear x0 x1 x2 x3 x4 x5 x6 x7 x8
      obtain ⟨nk, enk⟩ : ∃ nk, nk = ks.length := ⟨_, rfl⟩
      obtain ⟨nv, env⟩ : ∃ nv, nv = vs.length := ⟨_, rfl⟩
      have HNK : Hd (nk = ks.length ∧ nv = vs.length) := ⟨enk, env⟩
      have HMK2 : Hd (h[k]? = some ⟨c, beg, kd, ky, v, ⟨⟨ok, val, ks, vs⟩, .slice ka nk kc, .slice va nv vc⟩⟩ ∧ RowAt wr (.slice ka nk kc) (ks.map vI) ∧ RowAt wr (.slice va nv vc) (vs.map Value.string) ∧ nk ≤ 3000000000 ∧ nv ≤ 3000000000) := by
        rw [enk, env]
        exact ⟨HMK.out.1, HMK.out.2.1.1, HMK.out.2.1.2, HMK.out.2.2.1, HMK.out.2.2.2⟩
      rw [← enk, ← env]
      clear HMK enk env
      obtain ⟨W, eW⟩ : ∃ W, W = (wr.alloc (Obj.cells #[.int .i64 c, .bool beg, .int .i64 kd, .int .i64 ky, .string v, .bool ok, .string val, .slice ka nk kc, .slice va nv vc] 30)) := ⟨_, rfl⟩
      have hb := heap_alloc_last wr (Obj.cells #[.int .i64 c, .bool beg, .int .i64 kd, .int .i64 ky, .string v, .bool ok, .string val, .slice ka nk kc, .slice va nv vc] 30)
      have hf : Fr (fun _ => False) wr W := by rw [eW]; exact (Fr.refl _ wr).alloc _
      rw [← eW] at hb ⊢
      obtain ⟨pm, epm⟩ : ∃ pm, pm = wr.heap.size := ⟨_, rfl⟩
      rw [← epm] at hb ⊢
      have HB : Hd (W.heap[pm]? = some (Obj.cells #[.int .i64 c, .bool beg, .int .i64 kd, .int .i64 ky, .string v, .bool ok, .string val, .slice ka nk kc, .slice va nv vc] 30)) := hb
      have HFW : Hd (Fr (fun _ => False) wr W ∧ pm = wr.heap.size ∧ pm < W.heap.size) := ⟨hf, epm, heap_lt hb⟩
      clear eW epm hf
      obtain ⟨y0, y1, y2, y3, y4, y5, y6, y7, y8⟩ := nine hb
      clear hb
      have hci := copyInts_any (.slice ka nk kc) ks W.heap.size W (ra_rowB (HMK2.out.2.1.fr HFW.out.1 (fun _ _ _ e => e))) (Nat.le_refl _) (by have := HMK2.out.2.2.2.1; have := HNK.out.1; omega)
      go_upto_region 9 with (go_at_call 31; refine hci.mono ?_; rintro _ w3 ⟨kv1, rfl, ho3, hf3⟩; have HK3 : Hd (w3.ownsRow W.heap.size 3 1 kv1 ks.length (ks.map vI) ∧ Fr (fun _ => False) W w3) := ⟨ho3, hf3⟩; clear ho3 hf3)
      clear hci y0 y1 y2 y3 y4 y5 y6 y7 y8
      obtain ⟨y0, y1, y2, y3, y4, y5, y6, y7, y8⟩ := nine ((HK3.out.2.block pm (heap_lt HB.out) (fun e => e)).trans HB.out)
      have hcs := copyStrings_any (.slice va nv vc) vs w3.heap.size w3 (ra_rowB (HMK2.out.2.2.1.fr (HFW.out.1.trans HK3.out.2) (fun _ _ _ e => e))) (Nat.le_refl _) (by have := HMK2.out.2.2.2.2; have := HNK.out.2; omega)
      go_upto_region 10 with (go_at_call 34; refine hcs.mono ?_; rintro _ w4 ⟨vv1, rfl, ho4, hf4⟩; have HV4 : Hd (w4.ownsRow w3.heap.size 9 1 vv1 vs.length (vs.map Value.string) ∧ Fr (fun _ => False) w3 w4) := ⟨ho4, hf4⟩; clear ho4 hf4)
      clear hcs y0 y1 y2 y3 y4 y5 y6 y7 y8
      have HI0 : Hd (Fr (fun _ => False) W w4 ∧ w4.ownsRow W.heap.size 3 1 kv1 nk (ks.map vI ++ mkK 0) ∧ w4.ownsRow W.heap.size 9 1 vv1 nv (vs.map Value.string ++ mkV 0)) := by
        refine ⟨HK3.out.2.trans HV4.out.2, ?_, ?_⟩
        · have := ownsRow_fr HK3.out.1 HV4.out.2 (fun _ _ e => e)
          rw [← HNK.out.1] at this
          simpa [mkK] using this
        · have := World.ownsRow.mono HV4.out.1 HK3.out.2.size
          rw [← HNK.out.2] at this
          simpa [mkV] using this
      clear HK3 HV4
      go_upto_region 11 with fail
      go_loopw [8, 9, 10] (fun v8 v9 v10 w5 => ∃ j : Nat, v10 = vI j ∧ j ≤ 64 ∧ Hd (Fr (fun _ => False) W w5 ∧ w5.ownsRow W.heap.size 3 1 v8 (nk + j) (ks.map vI ++ mkK j) ∧ w5.ownsRow W.heap.size 9 1 v9 (nv + j) (vs.map Value.string ++ mkV j))) (fun _ _ v _ => match v with | .int _ q => 64 - q.toNat | _ => 0)
      case atStart => exact ⟨0, rfl, by omega, HI0.out⟩
      case round =>
        clear HI0
        obtain ⟨j, rfl, hj, HJ⟩ := hrel
        by_cases hj64 : j < 64
        · have j0 : (0 : Int) ≤ j := by omega
          have j1 : (j : Int) < 64 := by omega
          obtain ⟨g1, c1, w6, hr6, ho6, hf6⟩ := app_k (z := -21 - (j : Int)) HJ.out.2.1 HJ.out.1.size (by have := HMK2.out.2.2.2.1; omega)
          have hv6 : w6.ownsRow W.heap.size 9 1 u9 (nv + j) (vs.map Value.string ++ mkV j) := ownsRow_fr HJ.out.2.2 hf6 (fun q hq e => own_ne HJ.out.2.1 HJ.out.2.2 (by decide) q e hq)
          have hff : Fr (fun _ => False) W w6 := HJ.out.1.under hf6 (fun q hq => (World.ownsRow.lt HJ.out.2.1 q hq).1)
          obtain ⟨g2, c2, w7, hr7, ho7, hf7⟩ := app_s (x := spB) hv6 hff.size (by have := HMK2.out.2.2.2.2; omega)
          have HA1 : Hd ((Builtin.append_ #[25, 25] 25 #[u8, .slice (some ⟨wr.heap.size, 0, none⟩) 1 1]).run Try.prog (wr.alloc (.cells #[vI (-21 - (j : Int))] 3)) = .ok (.slice (some ⟨g1, 0, none⟩) (nk + j + 1) c1) w6) := hr6
          have HA2 : Hd ((Builtin.append_ #[26, 26] 26 #[u9, .slice (some ⟨w6.heap.size, 0, none⟩) 1 1]).run Try.prog (w6.alloc (.cells #[.string spB] 9)) = .ok (.slice (some ⟨g2, 0, none⟩) (nv + j + 1) c2) w7) := hr7
          have HN : Hd (Fr (fun _ => False) W w7 ∧ w7.ownsRow W.heap.size 3 1 (.slice (some ⟨g1, 0, none⟩) (nk + j + 1) c1) (nk + (j + 1)) (ks.map vI ++ mkK (j + 1)) ∧ w7.ownsRow W.heap.size 9 1 (.slice (some ⟨g2, 0, none⟩) (nv + j + 1) c2) (nv + (j + 1)) (vs.map Value.string ++ mkV (j + 1))) := by
            refine ⟨hff.under hf7 (fun q hq => (World.ownsRow.lt hv6 q hq).1), ?_, ?_⟩
            · have := ownsRow_fr ho6 hf7 (fun q hq e => own_ne ho6 hv6 (by decide) q hq e)
              rw [mkK_succ, ← List.append_assoc]; exact this
            · rw [mkV_succ, ← List.append_assoc]; exact ho7
          clear hr6 ho6 hf6 hv6 hff hr7 ho7 hf7
          go_upto_region 14 with (at_builtin; refine wpList_append_run rfl (.tmp 42) (.tmp 45) 25 rfl _ _ _ rfl rfl HA1.out ?_)
          go_wp2_with (at_builtin; refine wpList_append_run rfl (.tmp 47) (.tmp 48) 26 rfl _ _ _ rfl rfl HA2.out ?_)
          exact ⟨⟨j + 1, by simp, by omega, HN.out⟩, by simp; omega⟩
        · have hj2 : j = 64 := by omega
          subst hj2
          obtain ⟨gk, ck, rfl, hck, hgk⟩ := own_some HJ.out.2.1 (by omega)
          obtain ⟨gv, cv, rfl, hcv, hgv⟩ := own_some HJ.out.2.2 (by omega)
          have q0 : (0 : Int) ≤ nk := by omega
          have q1 : (nk : Int) ≤ ck := by omega
          have q2 : (0 : Int) ≤ nv := by omega
          have q3 : (nv : Int) ≤ cv := by omega
          have hbm := (HJ.out.1.block pm (heap_lt HB.out) (fun e => e)).trans HB.out
          obtain ⟨y0, y1, y2, y3, y4, y5, y6, y7, y8⟩ := nine hbm
          have f7 := frozen_of hbm 7
          have f8 := frozen_of hbm 8
          have hb9 := set_of (set_of hbm 7 (.slice (some ⟨gk, 0, none⟩) nk ck)) 8 (.slice (some ⟨gv, 0, none⟩) nv cv)
          have hf9 : Fr (fun q => q = pm) wr ((wr.setCell ⟨pm, 7, none⟩ (.slice (some ⟨gk, 0, none⟩) nk ck)).setCell ⟨pm, 8, none⟩ (.slice (some ⟨gv, 0, none⟩) nv cv)) := by
            refine Fr.setCell ?_ _ _ (Or.inl rfl)
            refine Fr.setCell ?_ _ _ (Or.inl rfl)
            exact Fr.refl _ _
          have H30 : Hd (∀ q, q = pm → ∃ cs, wr.heap[q]? = some (.cells cs 30)) := fun q e => by subst e; exact ⟨_, hbm⟩
          clear hck hcv hgk hgv
          go_upto_region 17 with fail
          clear y0 y1 y2 y3 y4 y5 y6 y7 y8 f7 f8 hbm
          obtain ⟨W9, eW9⟩ : ∃ W9, W9 = ((wr.setCell ⟨pm, 7, none⟩ (.slice (some ⟨gk, 0, none⟩) nk ck)).setCell ⟨pm, 8, none⟩ (.slice (some ⟨gv, 0, none⟩) nv cv)) := ⟨_, rfl⟩
          rw [← eW9] at hb9 hf9 ⊢
          clear eW9
          have hb9 : W9.heap[pm]? = some (.cells #[.int .i64 c, .bool beg, .int .i64 kd, .int .i64 ky, .string v, .bool ok, .string val, .slice (some ⟨gk, 0, none⟩) nk ck, .slice (some ⟨gv, 0, none⟩) nv cv] 30) := hb9
          obtain ⟨y0, y1, y2, y3, y4, y5, y6, y7, y8⟩ := nine hb9
          have hout : MsOwn W9 w.heap.size u3 ms := by
            refine ((HR.out.2.1.fr HFW.out.1 (fun _ _ e => e)).fr HJ.out.1 (fun _ _ e => e)).fr hf9 (fun q hq e => ?_)
            have := (World.ownsRow.lt HR.out.2.1 q hq).2
            have := HFW.out.2.1
            omega
          have hspm : SpM W9 w.heap.size h ms := ((HR.out.2.2.fr HFW.out.1 (fun _ e => e.elim)).fr HJ.out.1 (fun _ e => e.elim)).fr hf9 H30.out
          have hspl : SpL W9 w.heap.size (.slice (some ⟨gk, 0, none⟩) nk ck) (.slice (some ⟨gv, 0, none⟩) nv cv) ⟨ok, val, ks, vs⟩ := by
            have h1 : SpL wr W.heap.size (.slice (some ⟨gk, 0, none⟩) nk ck) (.slice (some ⟨gv, 0, none⟩) nv cv) ⟨ok, val, ks, vs⟩ := ⟨gk, ck, gv, cv, by rw [HNK.out.1], by rw [HNK.out.2], by have := HJ.out.2.1; rw [HNK.out.1] at this; exact this, by have := HJ.out.2.2; rw [HNK.out.2] at this; exact this⟩
            exact (h1.fr hf9 H30.out).mono (by have := HR.out.1.size; have := HFW.out.1.size; omega)
          have hfW9 : Fr (fun _ => False) w W9 := ((HR.out.1.trans HFW.out.1).trans HJ.out.1).under hf9 (fun q e => by have := HR.out.1.size; have := HFW.out.2.1; omega)
          obtain ⟨g10, c10, w10, hr10, ho10, hf10, -⟩ := hout.app hfW9.size ⟨c, beg, kd, ky, v, ⟨⟨ok, val, ks, vs⟩, .slice (some ⟨gk, 0, none⟩) nk ck, .slice (some ⟨gv, 0, none⟩) nv cv⟩⟩ ⟨_, _, _, rfl⟩ ⟨_, _, _, rfl⟩ (by omega)
          rw [hms] at hr10 ho10
          have HA : Hd ((Builtin.append_ #[22, 22] 22 #[u3, .slice (some ⟨W9.heap.size, 0, none⟩) 1 1]).run Try.prog (W9.alloc (.cells #[vI c, .bool beg, vI kd, vI ky, .string v, .bool ok, .string val, .slice (some ⟨gk, 0, none⟩) nk ck, .slice (some ⟨gv, 0, none⟩) nv cv] 30)) = .ok (.slice (some ⟨g10, 0, none⟩) (k + 1) c10) w10) := hr10
          have HN : Hd (Fr (fun _ => False) w w10 ∧ MsOwn w10 w.heap.size (.slice (some ⟨g10, 0, none⟩) (k + 1) c10) (ms ++ [⟨c, beg, kd, ky, v, ⟨⟨ok, val, ks, vs⟩, .slice (some ⟨gk, 0, none⟩) nk ck, .slice (some ⟨gv, 0, none⟩) nv cv⟩⟩]) ∧ SpM w10 w.heap.size h (ms ++ [⟨c, beg, kd, ky, v, ⟨⟨ok, val, ks, vs⟩, .slice (some ⟨gk, 0, none⟩) nk ck, .slice (some ⟨gv, 0, none⟩) nv cv⟩⟩])) := by
            refine ⟨hfW9.under hf10 (fun q hq => (World.ownsRow.lt hout q hq).1), ho10, fun q m' hq => ?_⟩
            by_cases hql : q < ms.length
            · rw [List.getElem?_append_left hql] at hq
              exact (hspm.fr hf10 (ms_own30 hout)) q m' hq
            · have hqe : q = ms.length := by
                have := (List.getElem?_eq_some_iff.1 hq).1
                simp at this; omega
              subst hqe
              have hm' : m' = ⟨c, beg, kd, ky, v, ⟨⟨ok, val, ks, vs⟩, .slice (some ⟨gk, 0, none⟩) nk ck, .slice (some ⟨gv, 0, none⟩) nv cv⟩⟩ := by simpa using hq.symm
              subst hm'
              exact ⟨_, by rw [hms]; exact HMK2.out.1, ⟨_, _, rfl⟩, hspl.fr hf10 (ms_own30 hout)⟩
          clear hb9 hf9 H30 hout hspm hspl hfW9 hr10 ho10 hf10
          go_wp2_with (at_builtin; refine wpList_append_run rfl (.tmp 60) (.tmp 62) 22 rfl _ _ _ rfl rfl HA.out ?_)
          exact ⟨⟨k + 1, _, by simp, by omega, by rw [List.length_append, hms]; rfl, HN.out⟩, by simp; omega⟩
    · have hkn : k = n := by omega
      have k2 : ¬ (k : Int) < n := by omega
      have HR2 : Hd (Fr (fun _ => False) w wr ∧ MsOwn wr w.heap.size u3 (ms ++ mkMs 0) ∧ SpM wr w.heap.size h ms ∧ ms.length = n) := ⟨HR.out.1, by simpa [mkMs] using HR.out.2.1, HR.out.2.2, by omega⟩
      clear HR HX HM hk hms
      go_upto_region 19 with fail
      go_loopw [3, 11] (fun v3 v11 w5 => ∃ j : Nat, v11 = vI j ∧ j ≤ 64 ∧ Hd (Fr (fun _ => False) w w5 ∧ MsOwn w5 w.heap.size v3 (ms ++ mkMs j) ∧ SpM w5 w.heap.size h ms ∧ ms.length = n)) (fun _ v _ => match v with | .int _ q => 64 - q.toNat | _ => 0)
      case atStart => exact ⟨0, rfl, by omega, HR2.out⟩
      case round =>
        clear HR2
        obtain ⟨j, rfl, hj, HJ⟩ := hrel
        have hlen : (ms ++ mkMs j).length = n + j := by rw [List.length_append, mkMs_len, HJ.out.2.2.2]
        by_cases hj64 : j < 64
        · have j0 : (0 : Int) ≤ j := by omega
          have j1 : (j : Int) < 64 := by omega
          obtain ⟨g10, c10, w10, hr10, ho10, hf10, -⟩ := HJ.out.2.1.app HJ.out.1.size (mkMo j) ⟨_, _, _, rfl⟩ ⟨_, _, _, rfl⟩ (by omega)
          rw [hlen] at hr10 ho10
          have HA : Hd ((Builtin.append_ #[22, 22] 22 #[u3, .slice (some ⟨wr.heap.size, 0, none⟩) 1 1]).run Try.prog (wr.alloc (.cells #[vI (-22 - (j : Int)), .bool false, vI 0, vI 0, .string ⟨#[]⟩, .bool false, .string ⟨#[]⟩, .slice none 0 0, .slice none 0 0] 30)) = .ok (.slice (some ⟨g10, 0, none⟩) (n + j + 1) c10) w10) := hr10
          have HN : Hd (Fr (fun _ => False) w w10 ∧ MsOwn w10 w.heap.size (.slice (some ⟨g10, 0, none⟩) (n + j + 1) c10) (ms ++ mkMs (j + 1)) ∧ SpM w10 w.heap.size h ms ∧ ms.length = n) := by
            refine ⟨HJ.out.1.under hf10 (fun q hq => (World.ownsRow.lt HJ.out.2.1 q hq).1), ?_, HJ.out.2.2.1.fr hf10 (ms_own30 HJ.out.2.1), HJ.out.2.2.2⟩
            rw [mkMs_succ, ← List.append_assoc]; exact ho10
          clear hr10 ho10 hf10 hlen
          go_wp2_with (at_builtin; refine wpList_append_run rfl (.tmp 68) (.tmp 72) 22 rfl _ _ _ rfl rfl HA.out ?_)
          exact ⟨⟨j + 1, by simp, by omega, HN.out⟩, by simp; omega⟩
        · have hj2 : j = 64 := by omega
          subst hj2
          have hown := HJ.out.2.1
          unfold MsOwn at hown
          rw [hlen] at hown
          obtain ⟨gk, ck, rfl, hck, hgk⟩ := own_some hown (by omega)
          have q0 : (0 : Int) ≤ n := by omega
          have q1 : (n : Int) ≤ ck := by omega
          have HF : Hd (Fr (fun _ => False) w wr ∧ SpH wr w.heap.size (.slice (some ⟨gk, 0, none⟩) n ck) h) := by
            refine ⟨HJ.out.1, gk, ck, ms, by rw [EN.out], ?_, by rw [HJ.out.2.2.2]; exact EN.out, HJ.out.2.2.1⟩
            have := HJ.out.2.1
            rw [EN.out] at this; exact this
          clear hown hck hgk hlen
          go_wp2_with fail
          go_ret
          exact ⟨_, rfl, HF.out.1, HF.out.2⟩
end Go.Proofs.Ytihicdbplmdjiaa
