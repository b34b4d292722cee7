import Derived.Test.YtngbakjalmgciaaGreatQE7J
import Derived.Test.YtngbakjalmgciaaGreatQC7J
import Derived.BigQuiet
import Derived.BigRegion
import Derived.StillTail
import Derived.StillTailTactics
namespace Go.Proofs.YtngbakjalmgciaaGreat
open Go.RowKit (wrap32 wrap64)
set_option linter.unusedVariables false
set_option linter.unusedSimpArgs false

theorem Fr.thn {S S' : Nat → Prop} {a b c : World} (h : Fr S a b) (k : Fr S' b c) (hs : ∀ j, j < a.heap.size → S' j → S j) : Fr S a c :=
  ⟨k.os.trans h.os, k.tape.trans h.tape, k.output.trans h.output, Nat.le_trans h.size k.size, fun j hj hS => (k.block j (Nat.lt_of_lt_of_le hj h.size) (fun e => hS (hs j hj e))).trans (h.block j hj hS)⟩
/-! ### the document's right -/
def opC (o : OpT) : List Value := [vI o.1, vI o.2.1, .string o.2.2]
/-- Calls in a row of one's own. -/
def OpsOwn (w : World) (B : Nat) (v : Value) (ops : List OpT) : Prop := w.ownsRow B 31 3 v ops.length (ops.flatMap opC)
theorem infoOp : (Tryz.prog.info? 31).map (fun i => (i.zero, i.size, i.bytes)) = some (some (.agg #[vI 0, vI 0, .string ⟨#[]⟩]), 3, 32) := by kernel_rfl
theorem underOps : Tryz.prog.underlying 32 = some (.slice 31) := by kernel_rfl
set_option maxRecDepth 100000 in
set_option maxHeartbeats 2000000 in
theorem right_any (v : Value) (ops : List OpT) (w : World) (h : OpsAt w w.heap.size v ops) (hn : ops.length ≤ 2147483647) :
    Calls Tryz.prog 26 #[v] w fun e w' => ∃ v', e = .returned v' ∧ OpsOwn w' w.heap.size v' (ops.filter (fun o => known o.1)) ∧ Fr (fun _ => False) w w' := by
  obtain ⟨ad, cap, rfl, -, hx⟩ := h
  have HX : Hd (∀ k (hk : k < ops.length), ∃ g o, ad = some ⟨g, o, none⟩ ∧ ∀ W, Fr (fun _ => False) w W → W.cell? ⟨g, o + k * 3, none⟩ = some (vI ops[k].1) ∧ W.cell? ⟨g, o + k * 3 + 1, none⟩ = some (vI ops[k].2.1) ∧ W.cell? ⟨g, o + k * 3 + 2, none⟩ = some (.string ops[k].2.2)) := fun k hk => by
    obtain ⟨g, o, e, hg, hc⟩ := hx (fun e => by rw [e] at hk; simp at hk)
    obtain ⟨c0, c1, c2⟩ := hc k hk
    exact ⟨g, o, e, fun W f => ⟨(f.cell hg (fun e => e)).trans c0, (f.cell hg (fun e => e)).trans c1, (f.cell hg (fun e => e)).trans c2⟩⟩
  have HO0 : Hd (OpsOwn w w.heap.size (.slice none 0 0) []) := World.ownsRow_nil _ _ _ _
  have HF0 : Hd (Fr (fun _ => False) w w) := Fr.refl _ _
  obtain ⟨n, en⟩ : ∃ n, n = ops.length := ⟨_, rfl⟩
  have EN : Hd (n = ops.length) := en
  rw [← en] at hn ⊢
  clear hx en
  go_enter Tryz.func26, Tryz.ntmps26
  go_wp2_with fail
  go_loopw [3, 4] (fun v3 v wx => ∃ k : Nat, v = .int .i64 k ∧ k ≤ n ∧ Hd (OpsOwn wx w.heap.size v3 ((ops.take k).filter (fun o => known o.1))) ∧ Hd (Fr (fun _ => False) w wx)) (fun _ v _ => match v with | .int _ q => n - q.toNat | _ => 0)
  case atStart => exact ⟨0, by simp, Nat.zero_le _, HO0.out, HF0.out⟩
  case round =>
    clear HO0 HF0
    obtain ⟨k, rfl, hk, HO, HF⟩ := hrel
    by_cases hlt : k < n
    · have d1 : decide ((k : Int) < (n : Int)) = true := by simp; omega
      have k0 : (0 : Int) ≤ k := by omega
      have k1 : (k : Int) < n := by omega
      have hkl : k < ops.length := by rw [← EN.out]; exact hlt
      obtain ⟨g, o, rfl, hc⟩ := HX.out k hkl
      obtain ⟨c0, c1, c2⟩ := hc wr HF.out
      have HTK : Hd ((ops.take (k + 1)).filter (fun o => known o.1) = (ops.take k).filter (fun o => known o.1) ++ if known ops[k].1 = true then [ops[k]] else []) := by
        unfold Hd
        rw [List.take_add_one, List.getElem?_eq_getElem hkl, List.filter_append]
        congr 1
        by_cases e : known ops[k].1 = true
        · rw [if_pos e]; simp [e]
        · rw [if_neg e]; simp [e]
      have hll : ((ops.take k).filter (fun o => known o.1)).length ≤ 2147483647 := by
        have h1 := List.length_filter_le (fun o : OpT => known o.1) (ops.take k)
        rw [List.length_take] at h1
        omega
      generalize ops[k] = op at *
      obtain ⟨kd, ky, x⟩ := op
      simp only at c0 c1 c2 HTK
      by_cases hkn : known kd = true
      · have hr : kd = 1 ∨ kd = 2 ∨ kd = 3 := by simp only [known, Bool.or_eq_true, beq_iff_eq] at hkn; omega
        have e1 : decide (kd ≥ 1) = true := by simp; omega
        have e1' : decide (1 ≤ kd) = true := by simp; omega
        have e2 : decide (kd ≤ 3) = true := by simp; omega
        have HT2 : Hd ((ops.take (k + 1)).filter (fun o => known o.1) = (ops.take k).filter (fun o => known o.1) ++ [(kd, ky, x)]) := by unfold Hd; rw [HTK.out, if_pos hkn]
        obtain ⟨L, eL⟩ : ∃ L, L = (ops.take k).filter (fun o => known o.1) := ⟨_, rfl⟩
        rw [← eL] at HO HT2 hll
        obtain ⟨wz, hwz⟩ : ∃ wz, wz = wr.alloc (.cells #[vI kd, vI ky, .string x] 31) := ⟨_, rfl⟩
        have HWZ : Hd (wz = wr.alloc (.cells #[vI kd, vI ky, .string x] 31)) := hwz
        have hFz : Fr (fun _ => False) wr wz := by rw [hwz]; exact Fr.alloc (Fr.refl _ _) _
        have HO1 : Hd (wz.ownsRow w.heap.size 31 3 u3 L.length (L.flatMap opC)) := ownsRow_fr HO.out hFz (fun _ _ e => e)
        have hnews : Hd (∀ j u, [vI kd, vI ky, Value.string x][j]? = some u → wz.cell? ((⟨wr.heap.size, 0, none⟩ : Addr).add j) = some u) := by
          unfold Hd
          rw [hwz]
          exact World.news_of_block (cs := #[vI kd, vI ky, .string x]) (heap_alloc_last wr _)
        have HFz : Hd (Fr (fun _ => False) w wz) := HF.out.trans hFz
        obtain ⟨ua, uc, eu⟩ : ∃ a c, u3 = .slice a L.length c := by
          rcases HO.out.2 with ⟨h2, h3⟩ | ⟨g, cap, cur, e, -⟩
          · exact ⟨none, 0, by rw [h2, h3]⟩
          · exact ⟨_, _, e⟩
        subst eu
        clear hkn hr HTK hwz hFz eL HO hc hkl hlt
        obtain ⟨i3, hi3, hz3, hs3, hb3⟩ := info_parts infoOp
        go_wp2_with ((at_builtin; refine Hd.out ?_))
        unfold Hd
        rw [← HWZ.out]
        refine wpList_append_lies _ rfl (.tmp 25) (.tmp 30) 32 rfl w.heap.size 31 i3 (.agg #[vI 0, vI 0, .string ⟨#[]⟩]) 3 32 underOps hi3 hz3 hs3 hb3 rfl (by omega) (.slice ua L.length uc) L.length _ rfl HO1.out ⟨wr.heap.size, 0, none⟩ 1 1 [vI kd, vI ky, .string x] rfl rfl hnews.out (by intro u hu; simp at hu; rcases hu with rfl | rfl | rfl <;> rfl) (by omega) (by unfold maxLen; omega) (by omega) HFz.out.size wz.heap.size rfl ?_
        intro g6 cap6 w6 hown6 hgrow6 hat6 hlt6
        have HO6 : Hd (OpsOwn w6 w.heap.size (.slice (some ⟨g6, 0, none⟩) (L.length + 1) cap6) ((ops.take (k + 1)).filter (fun o => known o.1))) := by
          unfold Hd OpsOwn
          rw [HT2.out, List.length_append, List.flatMap_append]
          simpa [opC] using hown6
        have HF6 : Hd (Fr (fun _ => False) w w6) := HFz.out.thn (grown_fr hgrow6) (fun q hq e => by have := (World.ownsRow.lt HO1.out q e).1; omega)
        have hk2 : k + 1 ≤ n := by omega
        clear hown6 hgrow6 hat6 hlt6 hi3 hz3 hs3 hb3 HO1 HWZ hnews HFz HT2
        go_wp2_with fail
        exact ⟨⟨k + 1, by simp, by omega, HO6.out, HF6.out⟩, by simp; omega⟩
      · have hr : kd < 1 ∨ 3 < kd := by simp only [known, Bool.or_eq_true, beq_iff_eq] at hkn; omega
        have HO6 : Hd (OpsOwn wr w.heap.size u3 ((ops.take (k + 1)).filter (fun o => known o.1))) := by
          unfold Hd
          rw [HTK.out, if_neg hkn, List.append_nil]
          exact HO.out
        clear hkn HTK HO hc hkl
        rcases hr with hr | hr
        · have e1 : decide (kd ≥ 1) = false := by simp; omega
          have e1' : decide (1 ≤ kd) = false := by simp; omega
          go_wp2_with fail
          exact ⟨⟨k + 1, by simp, by omega, HO6.out, HF.out⟩, by simp; omega⟩
        · have e1 : decide (kd ≥ 1) = true := by simp; omega
          have e1' : decide (1 ≤ kd) = true := by simp; omega
          have e2 : decide (kd ≤ 3) = false := by simp; omega
          go_wp2_with fail
          exact ⟨⟨k + 1, by simp, by omega, HO6.out, HF.out⟩, by simp; omega⟩
    · have d1 : decide ((k : Int) < (n : Int)) = false := by simp; omega
      have d1n : ¬ k < n := hlt
      have HE : Hd (OpsOwn wr w.heap.size u3 (ops.filter (fun o => known o.1))) := by
        have := HO.out
        rw [List.take_of_length_le (by have := EN.out; omega)] at this
        exact this
      clear hlt HO
      go_wp2_with fail
      go_ret
      exact ⟨_, rfl, HE.out, HF.out⟩
end Go.Proofs.YtngbakjalmgciaaGreat

namespace Go.Proofs.YtngbakjalmgciaaGreat
open Go.RowKit (wrap32 wrap64)
set_option linter.unusedVariables false
set_option linter.unusedSimpArgs false

/-! ### the document's can -/
def canB (held : Nat → Int) (ops : List OpT) (at' : Nat) (begun : Bool) (locked : Nat) (done : Bool) : Bool :=
  match ops[at']? with
  | none => false
  | some o => if (!begun || done) = true then true else if o.1 ≠ 3 then decide (held (strp o.2.1) < 0) else decide (locked = 8) || decide (held locked < 0)
/-- A client and the scene, as can reads them. -/
def Cn (w : World) (sb cb : Nat) (held : Nat → Int) (ov : Value) (at' : Nat) (begun : Bool) (locked : Nat) (done : Bool) : Prop :=
  w.cell? ⟨cb, 0, none⟩ = some ov ∧ w.cell? ⟨cb, 1, none⟩ = some (vI (at' : Nat)) ∧ w.cell? ⟨cb, 2, none⟩ = some (.bool begun) ∧ w.cell? ⟨cb, 3, none⟩ = some (vI (locked : Nat)) ∧ w.cell? ⟨cb, 4, none⟩ = some (.bool done) ∧ ∀ j, j < 8 → w.cell? ⟨sb, 1 + j, none⟩ = some (vI (held j))
set_option maxRecDepth 100000 in
set_option maxHeartbeats 2000000 in
theorem can_any {sb cb : Nat} {held : Nat → Int} {ov : Value} {ops : List OpT} {at' : Nat} {begun : Bool} {locked : Nat} {done : Bool} (w : World) (h : ∀ W, Fr (fun _ => False) w W → Cn W sb cb held ov at' begun locked done) (ho : OpsAt w w.heap.size ov ops) (hn : ops.length ≤ 2147483647) (ha : at' ≤ 2147483647) (hl : locked ≤ 8) :
    Calls Tryz.prog 44 #[.pointer (some ⟨sb, 0, none⟩), .pointer (some ⟨cb, 0, none⟩)] w fun e w' => e = .returned (.bool (canB held ops at' begun locked done)) ∧ Fr (fun _ => False) w w' := by
  obtain ⟨ad, cap, rfl, -, hx⟩ := ho
  have HX : Hd (∀ k (hk : k < ops.length), ∃ g o, ad = some ⟨g, o, none⟩ ∧ ∀ W, Fr (fun _ => False) w W → W.cell? ⟨g, o + k * 3, none⟩ = some (vI ops[k].1) ∧ W.cell? ⟨g, o + k * 3 + 1, none⟩ = some (vI ops[k].2.1) ∧ W.cell? ⟨g, o + k * 3 + 2, none⟩ = some (.string ops[k].2.2)) := fun k hk => by
    obtain ⟨g, o, e, hg, hc⟩ := hx (fun e => by rw [e] at hk; simp at hk)
    obtain ⟨c0, c1, c2⟩ := hc k hk
    exact ⟨g, o, e, fun W f => ⟨(f.cell hg (fun e => e)).trans c0, (f.cell hg (fun e => e)).trans c1, (f.cell hg (fun e => e)).trans c2⟩⟩
  have HC : Hd (∀ W, Fr (fun _ => False) w W → Cn W sb cb held (.slice ad ops.length cap) at' begun locked done) := h
  obtain ⟨n, en⟩ : ∃ n, n = ops.length := ⟨_, rfl⟩
  have EN : Hd (n = ops.length) := en
  obtain ⟨r, er⟩ : ∃ r, r = canB held ops at' begun locked done := ⟨_, rfl⟩
  have ER : Hd (r = canB held ops at' begun locked done) := er
  rw [← er]
  rw [← en] at hn HC
  have HW : Hd (∀ nq, Fr (fun _ => False) w (w.drewN nq)) := fun nq => (Fr.refl _ w).drewN nq
  obtain ⟨c0, c1, c2, c3, c4, -⟩ := HC.out w (Fr.refl _ _)
  clear h hx en er
  by_cases hlt : at' < n
  · have d1 : decide ((at' : Int) ≥ (n : Int)) = false := by simp; omega
    have d1' : decide ((n : Int) ≤ (at' : Int)) = false := by simp; omega
    obtain ⟨g, o, rfl, hc⟩ := HX.out at' (by rw [← EN.out]; exact hlt)
    have HO : Hd (∀ W, Fr (fun _ => False) w W → W.cell? ⟨g, o + at' * 3, none⟩ = some (vI (ops[at']'(by rw [← EN.out]; exact hlt)).1) ∧ W.cell? ⟨g, o + at' * 3 + 1, none⟩ = some (vI (ops[at']'(by rw [← EN.out]; exact hlt)).2.1) ∧ W.cell? ⟨g, o + at' * 3 + 2, none⟩ = some (.string (ops[at']'(by rw [← EN.out]; exact hlt)).2.2)) := hc
    have HR : Hd (ops[at']? = some (ops[at']'(by rw [← EN.out]; exact hlt))) := List.getElem?_eq_getElem _
    generalize (ops[at']'(by rw [← EN.out]; exact hlt)) = op at *
    obtain ⟨kd, ky, x⟩ := op
    unfold canB at ER
    rw [HR.out] at ER
    have a0 : (0 : Int) ≤ at' := by omega
    have a1 : (at' : Int) < n := by omega
    clear hc
    go_enter Tryz.func44, Tryz.ntmps44
    go_wp2_with fail
    go_quiet (fail)
    have HF1 : Hd (Fr (fun _ => False) w (w.drewN nq)) := HW.out nq
    generalize w.drewN nq = w1 at *
    obtain ⟨c0, c1, c2, c3, c4, -⟩ := HC.out w1 HF1.out
    clear d1 d1'
    by_cases hbd : begun = false ∨ done = true
    · have HR2 : Hd (r = true) := by
        unfold Hd
        rw [ER.out]
        rcases hbd with e | e <;> simp [e]
      clear ER
      rcases hbd with rfl | rfl
      · go_wp2_with fail
        go_ret
        exact ⟨by rw [HR2.out]; rfl, HF1.out⟩
      · cases begun with
        | false =>
          go_wp2_with fail
          go_ret
          exact ⟨by rw [HR2.out]; rfl, HF1.out⟩
        | true =>
          go_wp2_with fail
          go_ret
          exact ⟨by rw [HR2.out]; rfl, HF1.out⟩
    · obtain ⟨rfl, rfl⟩ : begun = true ∧ done = false := by cases begun <;> cases done <;> simp_all
      obtain ⟨o0, o1, o2⟩ := HO.out w1 HF1.out
      have hz : Fr (fun _ => False) w ((w1.alloc (.cells #[.int .i64 0, .int .i64 0, .string ⟨#[]⟩] 31)).drew) := (Fr.alloc HF1.out _).drew
      obtain ⟨z0, z1, -, -, -, -⟩ := HC.out _ hz
      obtain ⟨y0, y1, y2⟩ := HO.out _ hz
      obtain ⟨v0, v1, -, -, -, -⟩ := HC.out _ HF1.out.drew
      obtain ⟨t0, t1, t2⟩ := HO.out _ HF1.out.drew
      go_upto_region 5 with fail
      go_region
      obtain ⟨w2, hw2⟩ : ∃ w2, w2 = (w1.alloc (.cells #[vI kd, vI ky, .string x] 31)).drew := ⟨_, rfl⟩
      obtain ⟨Y, hY⟩ : ∃ Y, Y = w1.heap.size := ⟨_, rfl⟩
      have HF2 : Hd (Fr (fun _ => False) w w2) := by unfold Hd; rw [hw2]; exact (Fr.alloc HF1.out _).drew
      have hb2 : w2.heap[Y]? = some (.cells #[vI kd, vI ky, .string x] 31) := by rw [hw2, hY]; exact heap_alloc_last w1 _
      have y0 : w2.cell? ⟨Y, 0, none⟩ = some (vI kd) := by rw [cell_of hb2]; rfl
      have y1 : w2.cell? ⟨Y, 1, none⟩ = some (vI ky) := by rw [cell_of hb2]; rfl
      obtain ⟨-, -, -, p3, -, hh⟩ := HC.out w2 HF2.out
      rw [← hw2, ← hY]
      clear hw2 hY hb2 z0 z1 v0 v1 t0 t1 t2 hz c0 c1 c2 c3 c4
      by_cases k3 : kd = 3
      · subst k3
        have HR2 : Hd (r = (decide (locked = 8) || decide (held locked < 0))) := by
          unfold Hd
          rw [ER.out]
          simp
        clear ER
        have HW2 : Hd (∀ nq, Fr (fun _ => False) w (w2.drewN nq)) := fun nq => HF2.out.drewN nq
        by_cases l8 : locked = 8
        · subst l8
          go_wp2_with fail
          go_quiet (fail)
          go_wp2_with fail
          go_ret
          exact ⟨by rw [HR2.out]; rfl, HW2.out _⟩
        · have l1 : ((locked : Int) == 8) = false := by simp; omega
          have l2 : decide (locked = 8) = false := by simp; exact l8
          have hl8 : locked < 8 := by omega
          have q0 := hh locked hl8
          have j0 : (0 : Int) ≤ locked := by omega
          have j1 : (locked : Int) < 8 := by omega
          go_wp2_with fail
          go_quiet (fail)
          go_wp2_with fail
          go_ret
          exact ⟨by rw [HR2.out, l2]; simp, HW2.out _⟩
      · have k3' : (kd == 3) = false := by simp [k3]
        have k3n : (kd != 3) = true := by simp [k3]
        have HR2 : Hd (r = decide (held (strp ky) < 0)) := by
          unfold Hd
          rw [ER.out]
          simp [k3]
        clear ER
        have HW2 : Hd (∀ nq, Fr (fun _ => False) w (w2.drewN nq)) := fun nq => HF2.out.drewN nq
        have hs8 : strp ky < 8 := by unfold strp; omega
        have q0 := hh (strp ky) hs8
        have j0 : (0 : Int) ≤ (strp ky : Nat) := by omega
        have j1 : ((strp ky : Nat) : Int) < 8 := by omega
        have HCS : Calls Tryz.prog 56 #[vI ky] w2.drew fun e w' => e = .returned (vI (strp ky : Nat)) ∧ w' = w2.drew := rstripe_any ky w2.drew
        generalize strp ky = sk at *
        have y0d : w2.drew.cell? ⟨Y, 0, none⟩ = some (vI kd) := y0
        have y1d : w2.drew.cell? ⟨Y, 1, none⟩ = some (vI ky) := y1
        have q0d : w2.drew.cell? ⟨sb, 1 + sk, none⟩ = some (vI (held sk)) := q0
        have HF3 : Hd (Fr (fun _ => False) w w2.drew) := HF2.out.drew
        go_wp2_with fail
        refine wp_region_still_tail 9 mixed (by kernel_rfl) ?_
        simp only [List.take_succ_cons, List.take_zero, List.drop_succ_cons, List.drop_zero]
        repeat still_step
        still_call HCS
        repeat still_step
        refine wpStill_nil ?_
        go_wp2_with fail
        go_ret
        exact ⟨by rw [HR2.out]; rfl, HF3.out⟩
  · have d1 : decide ((at' : Int) ≥ (n : Int)) = true := by simp; omega
    have d1' : decide ((n : Int) ≤ (at' : Int)) = true := by simp; omega
    have HR : Hd (r = false) := by
      unfold Hd
      rw [ER.out]
      unfold canB
      rw [List.getElem?_eq_none (by have := EN.out; omega)]
    go_enter Tryz.func44, Tryz.ntmps44
    go_wp2_with fail
    go_quiet (fail)
    go_wp2_with fail
    go_ret
    exact ⟨by rw [HR.out]; rfl, HW.out _⟩
end Go.Proofs.YtngbakjalmgciaaGreat
