import Derived.Test.YtngbakjalmgciaaGreatQNbJ
import Derived.StillTailTactics
namespace Go.Proofs.YtngbakjalmgciaaGreat
open Go.RowKit (wrap32 wrap64)
set_option linter.unusedVariables false
set_option linter.unusedSimpArgs false

set_option maxRecDepth 100000 in
set_option maxHeartbeats 4000000 in
theorem eqHist_same (w : World) (B1 B2 : Nat) (v1 v2 : Value) (ms : List MomT) (h1 : HsAt w B1 v1 ms) (h2 : HsAt w B2 v2 ms) (hn : ms.length ≤ 100000000000) (hr : ∀ m ∈ ms, m.rp.L.length ≤ 4000000000) :
    Calls Tryz.prog 10 #[v1, v2] w fun e w' => e = .returned (.bool true) ∧ Fr (fun _ => False) w w' := by
  have HH : Hd (∀ W, Fr (fun _ => False) w W → HsAt W B1 v1 ms ∧ HsAt W B2 v2 ms) := fun W f => ⟨h1.fr f (fun _ _ _ e => e), h2.fr f (fun _ _ _ e => e)⟩
  have HR : Hd (∀ m ∈ ms, m.rp.L.length ≤ 4000000000) := hr
  obtain ⟨a1, c1, rfl, -⟩ := h1.cells
  obtain ⟨a2, c2, rfl, -⟩ := h2.cells
  obtain ⟨n, en⟩ : ∃ n, n = ms.length := ⟨_, rfl⟩
  have EN : Hd (n = ms.length) := en
  rw [← en] at hn HH ⊢
  have HF0 : Hd (Fr (fun _ => False) w w) := Fr.refl _ _
  clear h1 h2 hr en
  go_enter Tryz.func10, Tryz.ntmps10
  go_wp2_with fail
  go_loopw [5] (fun v5 wr => ∃ k : Nat, v5 = .int .i64 k ∧ k ≤ n ∧ Hd (Fr (fun _ => False) w wr)) (fun v _ => match v with | .int _ q => n - q.toNat | _ => 0)
  case atStart => exact ⟨0, rfl, by omega, HF0.out⟩
  case round =>
    clear HF0
    obtain ⟨k, rfl, hk, HF⟩ := hrel
    by_cases hlt : k < n
    · have d1 : decide ((k : Int) < (n : Int)) = true := by simp; omega
      have k0 : (0 : Int) ≤ k := by omega
      have k1 : (k : Int) < n := by omega
      have hkm : k < ms.length := by rw [← EN.out]; exact hlt
      obtain ⟨q1, q2⟩ := HH.out wr.drew HF.out.drew
      obtain ⟨b1, e1, ee1, hx1⟩ := q1.cells
      obtain ⟨b2, e2, ee2, hx2⟩ := q2.cells
      obtain ⟨g1, ea1, -, -, hc1⟩ := hx1 (fun e => by rw [e] at hkm; simp at hkm)
      obtain ⟨g2, ea2, -, -, hc2⟩ := hx2 (fun e => by rw [e] at hkm; simp at hkm)
      obtain ⟨ka, kn, kc, va, vn, vc, r1, p1⟩ := hc1 k hkm
      obtain ⟨la, ln, lc, ua, un, uc, r2, p2⟩ := hc2 k hkm
      have f1 : a1 = some ⟨g1, 0, none⟩ := by injection ee1 with e _ _; rw [e, ea1]
      have f2 : a2 = some ⟨g2, 0, none⟩ := by injection ee2 with e _ _; rw [e, ea2]
      have HC := eqMoment_same wr.drew ms[k] ka va la ua kn kc vn vc ln lc un uc r1 r2 (HR.out _ (List.getElem_mem hkm))
      unfold momV at HC
      generalize ms[k] = m at *
      obtain ⟨c, bg, ⟨kd, ky, v⟩, R⟩ := m
      simp only at p1 p2 HC
      have x0 := p1 0 (by omega)
      have x1 := p1 1 (by omega)
      have x2 := p1 2 (by omega)
      have x3 := p1 3 (by omega)
      have x4 := p1 4 (by omega)
      have x5 := p1 5 (by omega)
      have x6 := p1 6 (by omega)
      have x7 := p1 7 (by omega)
      have x8 := p1 8 (by omega)
      have y0 := p2 0 (by omega)
      have y1 := p2 1 (by omega)
      have y2 := p2 2 (by omega)
      have y3 := p2 3 (by omega)
      have y4 := p2 4 (by omega)
      have y5 := p2 5 (by omega)
      have y6 := p2 6 (by omega)
      have y7 := p2 7 (by omega)
      have y8 := p2 8 (by omega)
      simp only [Nat.add_zero, List.getElem?_toArray, List.getElem?_cons_zero, List.getElem?_cons_succ] at x0 x1 x2 x3 x4 x5 x6 x7 x8 y0 y1 y2 y3 y4 y5 y6 y7 y8
      have HFd : Hd (Fr (fun _ => False) w wr.drew) := HF.out.drew
      subst f1
      subst f2
      clear p1 p2 hc1 hc2 hx1 hx2 q1 q2 ee1 ee2 ea1 ea2 r1 r2 hkm
      go_wp2_with fail
      refine wp_region_still_tail 8 mixed (by kernel_rfl) ?_
      simp only [List.take_succ_cons, List.take_zero, List.drop_succ_cons, List.drop_zero]
      repeat still_step
      refine wpStill_nil ?_
      go_wp2_with fail
      refine HC.mono ?_
      rintro _ w2 ⟨rfl, hf2⟩
      have HF2 : Hd (Fr (fun _ => False) w w2) := HFd.out.trans hf2
      clear hf2 HC
      go_wp2_with fail
      exact ⟨⟨k + 1, by simp, by omega, HF2.out⟩, by simp; omega⟩
    · have d1 : decide ((k : Int) < (n : Int)) = false := by simp; omega
      have d1n : ¬ k < n := hlt
      go_wp2_with fail
      go_ret
      exact ⟨rfl, HF.out⟩
end Go.Proofs.YtngbakjalmgciaaGreat

namespace Go.Proofs.YtngbakjalmgciaaGreat
open Go.RowKit (wrap32 wrap64)
set_option linter.unusedVariables false
set_option linter.unusedSimpArgs false

/-- One element more onto a row of one's own. -/
theorem app1 {t e : TypeId} {z : Value} {size bytes : Nat} (ht : Tryz.prog.underlying t = some (.slice e)) (hi : (Tryz.prog.info? e).map (fun i => (i.zero, i.size, i.bytes)) = some (some z, size, bytes)) (hzs : z.cells.size = size) (hs0 : 0 < size)
    {w : World} {B n : Nat} {v : Value} {xs : List Value} (h : w.ownsRow B e size v n xs) (cs : Array Value) (hcs : cs.size = size) (h1 : ∀ u ∈ cs.toList, u.oneCell' = true) (hm : n + 1 ≤ maxLen) (hb : (n + 1) * bytes ≤ 140737488355328) (hB : B ≤ w.heap.size) :
    ∃ g cap w2, (Builtin.append_ #[t, t] t #[v, .slice (some ⟨w.heap.size, 0, none⟩) 1 1]).run Tryz.prog (w.alloc (.cells cs e)) = .ok (.slice (some ⟨g, 0, none⟩) (n + 1) cap) w2 ∧ w2.ownsRow B e size (.slice (some ⟨g, 0, none⟩) (n + 1) cap) (n + 1) (xs ++ cs.toList) ∧ Fr (fun j => v.ownBlock = some j) w w2 ∧ (v.ownBlock = some g ∨ g = w.heap.size + 1) := by
  obtain ⟨i, hi, hz, hs, hby⟩ := info_parts hi
  obtain ⟨g, cap, w2, hr, hown, hgr, hw, -⟩ := run_append_lies (P := Tryz.prog) (w := w.alloc (.cells cs e)) t t B e i z size bytes ht hi hz hs hby hzs hs0 v n xs (World.ownsRow.alloc h _) ⟨w.heap.size, 0, none⟩ 1 1 cs.toList (by simp [hcs]) (World.news_of_block (heap_alloc_last w _)) h1 (by omega) hm hb (by simp; omega) _ rfl
  exact ⟨g, cap, w2, hr, hown, ((Fr.refl _ w).alloc _).trans (grown_fr hgr), by rcases hw with e | e; exact Or.inl e; right; rw [e]; simp⟩
set_option maxRecDepth 100000 in
set_option maxHeartbeats 2000000 in
theorem copyOps_any (v : Value) (ops : List OpT) (w : World) (h : OpsAt w w.heap.size v ops) (hn : ops.length ≤ 2147483647) :
    Calls Tryz.prog 21 #[v] w fun e w' => ∃ v', e = .returned v' ∧ OpsOwn w' w.heap.size v' ops ∧ Fr (fun _ => False) w w' := by
  obtain ⟨ad, cap, rfl, -, hx⟩ := h
  have HX : Hd (∀ k (hk : k < ops.length), ∃ g o, ad = some ⟨g, o, none⟩ ∧ ∀ W, Fr (fun _ => False) w W → W.cell? ⟨g, o + k * 3, none⟩ = some (vI ops[k].1) ∧ W.cell? ⟨g, o + k * 3 + 1, none⟩ = some (vI ops[k].2.1) ∧ W.cell? ⟨g, o + k * 3 + 2, none⟩ = some (.string ops[k].2.2)) := fun k hk => by
    obtain ⟨g, o, e, hg, hc⟩ := hx (fun e => by rw [e] at hk; simp at hk)
    obtain ⟨c0, c1, c2⟩ := hc k hk
    exact ⟨g, o, e, fun W f => ⟨(f.cell hg (fun e => e)).trans c0, (f.cell hg (fun e => e)).trans c1, (f.cell hg (fun e => e)).trans c2⟩⟩
  obtain ⟨n, en⟩ : ∃ n, n = ops.length := ⟨_, rfl⟩
  have EN : Hd (n = ops.length) := en
  rw [← en] at hn ⊢
  clear hx en
  go_enter Tryz.func21, Tryz.ntmps21
  go_wp2_with fail
  go_loopw [3, 4] (fun v3 v wx => ∃ k : Nat, v = .int .i64 k ∧ k ≤ n ∧ Hd (wx.ownsRow w.heap.size 31 3 v3 k ((ops.take k).flatMap opC) ∧ Fr (fun _ => False) w wx)) (fun _ v _ => match v with | .int _ q => n - q.toNat | _ => 0)
  case atStart => exact ⟨0, by simp, Nat.zero_le _, World.ownsRow_nil _ _ _ _, Fr.refl _ _⟩
  case round =>
    obtain ⟨k, rfl, hk, HO⟩ := hrel
    by_cases hlt : k < n
    · have d1 : decide ((k : Int) < (n : Int)) = true := by simp; omega
      have k0 : (0 : Int) ≤ k := by omega
      have k1 : (k : Int) < n := by omega
      have hkl : k < ops.length := by rw [← EN.out]; exact hlt
      obtain ⟨g, o, rfl, hc⟩ := HX.out k hkl
      obtain ⟨c0, c1, c2⟩ := hc wr HO.out.2
      have et : (ops.take (k + 1)).flatMap opC = (ops.take k).flatMap opC ++ opC ops[k] := by rw [List.take_add_one, List.getElem?_eq_getElem hkl, List.flatMap_append]; simp
      generalize ops[k] = op at *
      obtain ⟨kd, ky, x⟩ := op
      simp only at c0 c1 c2
      obtain ⟨g6, cap6, w2, hr, hown, hf, -⟩ := app1 underOps infoOp rfl (by omega) HO.out.1 #[vI kd, vI ky, .string x] rfl (by intro u hu; simp at hu; rcases hu with rfl | rfl | rfl <;> rfl) (by unfold maxLen; omega) (by omega) HO.out.2.size
      have HA : Hd ((Builtin.append_ #[32, 32] 32 #[u3, .slice (some ⟨wr.heap.size, 0, none⟩) 1 1]).run Tryz.prog (wr.alloc (.cells #[vI kd, vI ky, .string x] 31)) = .ok (.slice (some ⟨g6, 0, none⟩) (k + 1) cap6) w2) := hr
      have HE : Hd (w2.ownsRow w.heap.size 31 3 (.slice (some ⟨g6, 0, none⟩) (k + 1) cap6) (k + 1) ((ops.take (k + 1)).flatMap opC) ∧ Fr (fun _ => False) w w2) := by
        refine ⟨?_, HO.out.2.under hf (fun j hj => (World.ownsRow.lt HO.out.1 j hj).1)⟩
        rw [et]; exact hown
      clear hc hkl et hr hown hf HO
      go_wp2_with (at_builtin; refine wpList_append_run rfl (.tmp 11) (.tmp 16) 32 rfl _ _ _ rfl rfl HA.out ?_)
      exact ⟨⟨k + 1, by simp, by omega, HE.out⟩, by simp; omega⟩
    · have d1 : decide ((k : Int) < (n : Int)) = false := by simp; omega
      have d1n : ¬ k < n := hlt
      have HE : Hd (OpsOwn wr w.heap.size u3 ops ∧ Fr (fun _ => False) w wr) := by
        have e : k = ops.length := by have := EN.out; omega
        have := HO.out
        rw [List.take_of_length_le (by omega), e] at this
        exact this
      clear hlt HO
      go_wp2_with fail
      go_ret
      exact ⟨_, rfl, HE.out⟩
/-- An answer as it lies in a row of answers. -/
def r4 (x : MV) : List Value := [.bool x.m.rp.ok, .string x.m.rp.val, x.kv, x.vv]
theorem infoR : (Tryz.prog.info? 42).map (fun i => (i.zero, i.size, i.bytes)) = some (some (.agg #[.bool false, .string ⟨#[]⟩, .slice none 0 0, .slice none 0 0]), 4, 72) := by kernel_rfl
theorem underR : Tryz.prog.underlying 37 = some (.slice 42) := by kernel_rfl
set_option maxRecDepth 100000 in
set_option maxHeartbeats 2000000 in
theorem replies_any (w : World) (B : Nat) (mv : Value) (mvs : List MV) (h : w.ownsRow B 44 9 mv mvs.length ((mvs.map m9).flatten)) (hsh : ∀ x ∈ mvs, ∃ ka kn kc va vn vc, x.kv = .slice ka kn kc ∧ x.vv = .slice va vn vc) (hn : mvs.length ≤ 10000000000) :
    Calls Tryz.prog 13 #[mv] w fun e w' => ∃ v', e = .returned v' ∧ w'.ownsRow w.heap.size 42 4 v' mvs.length ((mvs.map r4).flatten) ∧ Fr (fun _ => False) w w' := by
  obtain ⟨ad, cap, rfl⟩ := row_val h
  have HX : Hd (∀ k (hk : k < mvs.length), ∃ g, ad = some ⟨g, 0, none⟩ ∧ ∀ W, Fr (fun _ => False) w W → ∀ j, j < 9 → W.cell? ⟨g, k * 9 + j, none⟩ = (m9 mvs[k])[j]?) := fun k hk => by
    rcases h.2 with ⟨e1, e2⟩ | ⟨g, cap', cur, e, b1, b2, b3, b4, b5, b6⟩
    · omega
    · injection e with e _ _
      refine ⟨g, e, fun W f j hj => ?_⟩
      have hlen : ∀ r ∈ mvs.map m9, r.length = 9 := fun r hr => by obtain ⟨o, -, rfl⟩ := List.mem_map.1 hr; rfl
      rw [f.cell (heap_lt b2) (fun e => e), cell_of b2]
      have e1 : cur[k * 9 + j]? = ((mvs.map m9).flatten)[k * 9 + j]? := by rw [← b6, List.getElem?_take, if_pos (by omega), Array.getElem?_toList]
      rw [e1, flat_get hlen k j (by simpa using hk) hj, List.getElem_map]
  have HSH : Hd (∀ x ∈ mvs, ∃ ka kn kc va vn vc, x.kv = .slice ka kn kc ∧ x.vv = .slice va vn vc) := hsh
  obtain ⟨n, en⟩ : ∃ n, n = mvs.length := ⟨_, rfl⟩
  have EN : Hd (n = mvs.length) := en
  rw [← en] at hn ⊢
  clear h hsh en
  go_enter Tryz.func13, Tryz.ntmps13
  go_wp2_with fail
  go_loopw [3, 4] (fun v3 v wx => ∃ k : Nat, v = .int .i64 k ∧ k ≤ n ∧ Hd (wx.ownsRow w.heap.size 42 4 v3 k (((mvs.take k).map r4).flatten) ∧ Fr (fun _ => False) w wx)) (fun _ v _ => match v with | .int _ q => n - q.toNat | _ => 0)
  case atStart => exact ⟨0, by simp, Nat.zero_le _, World.ownsRow_nil _ _ _ _, Fr.refl _ _⟩
  case round =>
    obtain ⟨k, rfl, hk, HO⟩ := hrel
    by_cases hlt : k < n
    · have d1 : decide ((k : Int) < (n : Int)) = true := by simp; omega
      have k0 : (0 : Int) ≤ k := by omega
      have k1 : (k : Int) < n := by omega
      have hkl : k < mvs.length := by rw [← EN.out]; exact hlt
      obtain ⟨g, rfl, hc⟩ := HX.out k hkl
      have hcw := hc wr HO.out.2
      obtain ⟨ka, kn, kc, va, vn, vc, ek, ev⟩ := HSH.out mvs[k] (List.getElem_mem hkl)
      have c5 := hcw 5 (by omega)
      have c6 := hcw 6 (by omega)
      have c7 := hcw 7 (by omega)
      have c8 := hcw 8 (by omega)
      have et : ((mvs.take (k + 1)).map r4).flatten = ((mvs.take k).map r4).flatten ++ r4 mvs[k] := by rw [List.take_add_one, List.getElem?_eq_getElem hkl, List.map_append, List.flatten_append]; simp
      generalize mvs[k] = x at *
      obtain ⟨kv, vv, ⟨c, bg, op, R⟩⟩ := x
      simp only at ek ev
      subst ek ev
      simp only [m9, List.getElem?_cons_zero, List.getElem?_cons_succ] at c5 c6 c7 c8
      obtain ⟨g6, cap6, w2, hr, hown, hf, -⟩ := app1 underR infoR rfl (by omega) HO.out.1 #[.bool R.ok, .string R.val, .slice ka kn kc, .slice va vn vc] rfl (by intro u hu; simp at hu; rcases hu with rfl | rfl | rfl | rfl <;> rfl) (by unfold maxLen; omega) (by omega) HO.out.2.size
      have HA : Hd ((Builtin.append_ #[37, 37] 37 #[u3, .slice (some ⟨wr.heap.size, 0, none⟩) 1 1]).run Tryz.prog (wr.alloc (.cells #[.bool R.ok, .string R.val, .slice ka kn kc, .slice va vn vc] 42)) = .ok (.slice (some ⟨g6, 0, none⟩) (k + 1) cap6) w2) := hr
      have HE : Hd (w2.ownsRow w.heap.size 42 4 (.slice (some ⟨g6, 0, none⟩) (k + 1) cap6) (k + 1) (((mvs.take (k + 1)).map r4).flatten) ∧ Fr (fun _ => False) w w2) := by
        refine ⟨?_, HO.out.2.under hf (fun j hj => (World.ownsRow.lt HO.out.1 j hj).1)⟩
        rw [et]; exact hown
      clear hc hcw hkl et hr hown hf HO
      go_wp2_with (at_builtin; refine wpList_append_run rfl (.tmp 11) (.tmp 17) 37 rfl _ _ _ rfl rfl HA.out ?_)
      exact ⟨⟨k + 1, by simp, by omega, HE.out⟩, by simp; omega⟩
    · have d1 : decide ((k : Int) < (n : Int)) = false := by simp; omega
      have d1n : ¬ k < n := hlt
      have HE : Hd (wr.ownsRow w.heap.size 42 4 u3 n ((mvs.map r4).flatten) ∧ Fr (fun _ => False) w wr) := by
        have e : k = n := by omega
        have := HO.out
        rw [List.take_of_length_le (by have := EN.out; omega), e] at this
        exact this
      clear hlt HO
      go_wp2_with fail
      go_ret
      exact ⟨_, rfl, HE.out⟩
end Go.Proofs.YtngbakjalmgciaaGreat
