import Derived.Test.YtmdlebolmhnhaaaD4
namespace Go.Proofs.Ytmdlebolmhnhaaa
open Go.RowKit (wrap32 wrap64)
open Go.Maps (Keyed)
set_option linter.unusedVariables false
set_option linter.unusedSimpArgs false

/-- Calls that came in. -/
def OpsIn (w : World) (v : Value) (os : List OpR) : Prop :=
  ∃ a c, v = .slice a os.length c ∧ os.length ≤ c ∧ (os ≠ [] → ∃ k o, a = some ⟨k, o, none⟩ ∧ k < w.heap.size ∧ ∀ i (h : i < os.length) (j : Nat), j < 9 → w.cell? ⟨k, o + i * 9 + j, none⟩ = (opC os[i])[j]?)

/-- Two memories that share nothing. -/
def Apart (g g' : Gh) : Prop := ∀ k, g.own k ≠ 0 → g'.own k = 0
theorem Apart.symm {g g' : Gh} (h : Apart g g') : Apart g' g := fun k hk => by
  by_cases h0 : g.own k = 0
  · exact h0
  · exact absurd (h k h0) hk
/-- A call of the one: the other stays, and they share nothing again. -/
theorem Mem.other {w w' : World} {b b' : Nat} {g g2 g' : Gh} {a' : Abs} (h' : Mem w b' g' a') (ap : Apart g g') (f : Fr (fun j => g.own j ≠ 0) w w') (x : Ext w.heap.size g g2) : Mem w' b' g' a' ∧ Apart g2 g' := by
  refine ⟨h'.fr f (fun k hk hk' => hk (ap k hk')), fun k hk => ?_⟩
  by_cases h0 : g'.own k = 0
  · exact h0
  · have := h'.olt k h0
    rw [x k this] at hk
    exact absurd (ap k hk) h0

set_option maxRecDepth 100000 in
set_option maxHeartbeats 4000000 in
theorem places_walk (pv : Value) (os : List OpR) (w : World) (h : OpsIn w pv os) (hx : os.length ≤ 9000000000000) :
    Calls Try.prog 5 #[pv] w fun e w' => e = .returned (.bool true) ∧ Fr (fun _ => False) w w' := by
  obtain ⟨a0, c0, rfl, hc0, hin⟩ := h
  have HIN : Hd _ := hin
  clear hin
  go_enter Try.func5, Try.ntmps5
  go_wp2_with fail
  refine (fixed_any w).mono ?_
  rintro e w0 ⟨rfl, hF0⟩
  go_wp2_with fail
  refine (show Calls Try.prog 10 #[.int .i64 2] w0 _ from new_any 2 (by omega) w0).mono ?_
  rintro e w1 ⟨b1, g1, rfl, hM1, hF1, hO1⟩
  have hG1 := hF0.trans hF1
  have hO1' : OwnNew w.heap.size g1 := fun k hk => by have := hO1 k hk; have := hF0.size; omega
  clear hF0 hF1 hO1
  go_wp2_with fail
  refine (show Calls Try.prog 10 #[.int .i64 2] w1 _ from new_any 2 (by omega) w1).mono ?_
  rintro e w2 ⟨b2, g2, rfl, hM2, hF2, hO2⟩
  have hM1' := hM1.keep hF2
  have hap : Apart g1 g2 := fun k hk => by
    by_cases h0 : g2.own k = 0
    · exact h0
    · have := hM1.olt k hk; have := hO2 k h0; omega
  have hO2' : OwnNew w.heap.size g2 := fun k hk => by have := hO2 k hk; have := hG1.size; omega
  have hG2 := hG1.trans hF2
  have hs2 := hG2.size
  clear hG1 hF2 hO2 hM1
  go_wp2_with fail
  refine (push_any b1 g1 (newX 2) w2 hM1' (by simp [newX])).mono ?_
  rintro e w3 ⟨g3, rfl, hM3, hF3, hE3⟩
  obtain ⟨hM2', hap3⟩ := hM2.other (b := b1) hap hF3 hE3
  have hG3 := hG2.anew hF3 hO1'
  have hO3 := hO1'.ext hE3 hs2
  have hs3 := hG3.size
  clear hG2 hF3 hE3 hM1' hM2 hO1' hap
  go_wp2_with fail
  refine (push_any b2 g2 (newX 2) w3 hM2' (by simp [newX])).mono ?_
  rintro e w4 ⟨g4, rfl, hM4, hF4, hE4⟩
  obtain ⟨hM3', hap4⟩ := hM3.other (b := b2) hap3.symm hF4 hE4
  have hG4 := hG3.anew hF4 hO2'
  have hO4 := hO2'.ext hE4 hs3
  clear hG3 hF4 hE4 hM3 hM2' hO2' hap3
  have HF : Hd (Fine 2 (pushX (newX 2))) := ⟨by simp [pushX, newX], by simp [pushX, newX], by simp [pushX, newX], by simp [pushX, newX]⟩
  have HP : Hd (Pl (pushX (newX 2)) (pushX (newX 2))) := ⟨rfl, rfl, rfl, rfl, fun i h1 h2 => by simp [pushX, newX] at h2; omega⟩
  have HM1 : Hd _ := hM3'
  have HM2 : Hd _ := hM4
  have HA : Hd _ := hap4.symm
  have HO1 : Hd _ := hO3
  have HO2 : Hd _ := hO4
  have HG : Hd _ := hG4
  clear hM3' hM4 hap4 hO3 hO4 hG4 hs2 hs3
  go_wp2_with fail
  go_loopw [3, 6] (fun ok v wr => ∃ (k : Nat) (A B : Abs) (ga gb : Gh), ok = .bool true ∧ v = .int .i64 k ∧ k ≤ os.length ∧ Hd (Mem wr b1 ga A) ∧ Hd (Mem wr b2 gb B) ∧ Hd (Apart ga gb) ∧ Hd (Pl A B) ∧ Hd (Fine (k + 2) A) ∧ Hd (Fine (k + 2) B) ∧ Hd (OwnNew w.heap.size ga) ∧ Hd (OwnNew w.heap.size gb) ∧ Hd (Fr (fun _ => False) w wr)) (fun _ v _ => match v with | .int _ q => os.length - q.toNat | _ => 0)
  case atStart => exact ⟨0, _, _, _, _, rfl, rfl, Nat.zero_le _, HM1.out, HM2.out, HA.out, HP.out, HF.out, HF.out, HO1.out, HO2.out, HG.out⟩
  case round =>
    obtain ⟨k, A, B, ga, gb, rfl, rfl, hk, HMa, HMb, HAp, HPl, HFa, HFb, HOa, HOb, HGr⟩ := hrel
    clear HM1 HM2 HA HP HF HO1 HO2 HG
    by_cases hlt : k < os.length
    · obtain ⟨pk, po, rfl, hpk, hcs⟩ := HIN.out (by intro e; simp [e] at hlt)
      have hgr := HGr.out
      have hcell : ∀ j, j < 9 → wr.cell? ⟨pk, po + k * 9 + j, none⟩ = (opC os[k])[j]? := fun j hj => (hgr.cell hpk (fun h => h)).trans (hcs k hlt j hj)
      obtain ⟨o, ho⟩ : ∃ o, os[k] = o := ⟨_, rfl⟩
      rw [ho] at hcell
      have p0 : wr.cell? ⟨pk, po + k * 9, none⟩ = some (vI o.kind) := hcell 0 (by omega)
      have p1 : wr.cell? ⟨pk, po + k * 9 + 1, none⟩ = some (vI o.on) := hcell 1 (by omega)
      have p2 : wr.cell? ⟨pk, po + k * 9 + 2, none⟩ = some (vI o.n) := hcell 2 (by omega)
      have p3 : wr.cell? ⟨pk, po + k * 9 + 3, none⟩ = some (.bool o.heap) := hcell 3 (by omega)
      have p4 : wr.cell? ⟨pk, po + k * 9 + 4, none⟩ = some (vI o.v.1) := hcell 4 (by omega)
      have p5 : wr.cell? ⟨pk, po + k * 9 + 5, none⟩ = some (vI o.v.2) := hcell 5 (by omega)
      have p6 : wr.cell? ⟨pk, po + k * 9 + 6, none⟩ = some (vI o.w.1) := hcell 6 (by omega)
      have p7 : wr.cell? ⟨pk, po + k * 9 + 7, none⟩ = some (vI o.w.2) := hcell 7 (by omega)
      have p8 : wr.cell? ⟨pk, po + k * 9 + 8, none⟩ = some o.cells := hcell 8 (by omega)
      clear hcell hcs hgr ho
      have hk0 : (0 : Int) ≤ k := by omega
      have hk1 : (k : Int) < os.length := by omega
      by_cases h9 : o.kind = 9
      · have q9 := eqb_true h9
        go_wp2_with fail
        refine ⟨⟨k + 1, A, B, ga, gb, by simp, by simp, by omega, HMa.out.alloc _, HMb.out.alloc _, HAp.out, HPl.out, HFa.out.mono (by omega), HFb.out.mono (by omega), HOa.out, HOb.out, Fr.alloc HGr.out _⟩, by simp; omega⟩
      by_cases h10 : o.kind = 10
      · have q9 := eqb_false h9
        have q10 := eqb_true h10
        go_wp2_with fail
        refine ⟨⟨k + 1, A, B, ga, gb, by simp, by simp, by omega, HMa.out.alloc _, HMb.out.alloc _, HAp.out, HPl.out, HFa.out.mono (by omega), HFb.out.mono (by omega), HOa.out, HOb.out, Fr.alloc HGr.out _⟩, by simp; omega⟩
      have q9 := eqb_false h9
      have q10 := eqb_false h10
      go_wp2_with fail
      have O1 := heap_alloc_last wr (.cells (opC o) 44)
      have hF1 : Fr (fun _ => False) wr (wr.alloc (.cells (opC o) 44)) := Fr.alloc (Fr.refl _ wr) _
      obtain ⟨ob, hob⟩ : ∃ ob, ob = wr.heap.size := ⟨_, rfl⟩
      have oa : ga.own ob = 0 := by
        by_cases h0 : ga.own ob = 0
        · exact h0
        · have := HMa.out.olt _ h0; omega
      have obb : gb.own ob = 0 := by
        by_cases h0 : gb.own ob = 0
        · exact h0
        · have := HMb.out.olt _ h0; omega
      have hwo : w.heap.size ≤ ob := by rw [hob]; exact HGr.out.size
      rw [← hob] at O1 ⊢
      generalize wr.alloc (.cells (opC o) 44) = w1' at *
      have hMa := HMa.out.keep hF1
      have hMb := HMb.out.keep hF1
      have hG1 := HGr.out.trans hF1
      have hsz1 := hG1.size
      clear hF1 hob p0 p1 p2 p3 p4 p5 p6 p7 p8
      refine (show Calls Try.prog 20 #[ptr b1, opV o] w1' _ from one_any b1 ga A o w1' hMa HFa.out (by omega) h9 h10).mono ?_
      rintro e w2' ⟨ga', rfl, hMa2, hF2, hE2⟩
      obtain ⟨hMb2, hap2⟩ := hMb.other (b := b1) HAp.out hF2 hE2
      have O2 := (hF2.block _ (heap_lt O1) (fun e => e oa)).trans O1
      have oa2 : ga'.own ob = 0 := (hE2 _ (heap_lt O1)).trans oa
      have hG2 := hG1.anew hF2 HOa.out
      have hOa2 := HOa.out.ext hE2 hsz1
      have HAL : Hd _ := HPl.out.one o
      have HFa2 : Hd (Fine (k + 1 + 2) (oneX A o).1) := HFa.out.one o
      clear hMa hMb hF2 hE2 O1 oa hG1 HMa HMb HAp HGr HPl HFa HOa hsz1
      generalize oneX A o = ra at *
      obtain ⟨A', na, va, ea⟩ := ra
      simp only at hMa2
      have hF3 : Fr (fun j => j = ob) w2' (w2'.setCell ⟨ob, 3, none⟩ (.bool true)) := Fr.setCell (S := fun j => j = ob) (Fr.refl _ _) _ _ (Or.inl rfl)
      have V4 := heap_alloc_last (w2'.setCell ⟨ob, 3, none⟩ (.bool true)) (.cells #[vI va.1, vI va.2] 32)
      have hs3 : (w2'.setCell ⟨ob, 3, none⟩ (.bool true)).heap.size = w2'.heap.size := by simp
      rw [hs3] at V4
      have hF4 : Fr (fun j => j = ob) w2' ((w2'.setCell ⟨ob, 3, none⟩ (.bool true)).alloc (.cells #[vI va.1, vI va.2] 32)) := Fr.alloc hF3 _
      have HV4 : Hd _ := V4
      have HF4 : Hd _ := hF4
      clear V4 hF3 hF4 hs3
      have lo2 := heap_lt O2
      have c3 : w2'.cell? ⟨ob, 3, none⟩ = some (.bool o.heap) := by rw [cell_of O2]; rfl
      have y3 : w2'.frozen? ⟨ob, 3, none⟩ = false := frozen_of O2 3
      have c0' : w2'.cell? ⟨ob, 0, none⟩ = some (vI o.kind) := by rw [cell_of O2]; rfl
      have c1' : w2'.cell? ⟨ob, 1, none⟩ = some (vI o.on) := by rw [cell_of O2]; rfl
      have c2' : w2'.cell? ⟨ob, 2, none⟩ = some (vI o.n) := by rw [cell_of O2]; rfl
      have c4' : w2'.cell? ⟨ob, 4, none⟩ = some (vI o.v.1) := by rw [cell_of O2]; rfl
      have c5' : w2'.cell? ⟨ob, 5, none⟩ = some (vI o.v.2) := by rw [cell_of O2]; rfl
      have c6' : w2'.cell? ⟨ob, 6, none⟩ = some (vI o.w.1) := by rw [cell_of O2]; rfl
      have c7' : w2'.cell? ⟨ob, 7, none⟩ = some (vI o.w.2) := by rw [cell_of O2]; rfl
      have c8' : w2'.cell? ⟨ob, 8, none⟩ = some o.cells := by rw [cell_of O2]; rfl
      go_wp2_with fail
      obtain ⟨vb, hvb⟩ : ∃ vb, vb = w2'.heap.size := ⟨_, rfl⟩
      have hvl : w.heap.size ≤ vb := by rw [hvb]; exact hG2.size
      have va0 : ga'.own vb = 0 := by
        by_cases h0 : ga'.own vb = 0
        · exact h0
        · have := hMa2.olt _ h0; omega
      have vb0 : gb.own vb = 0 := by
        by_cases h0 : gb.own vb = 0
        · exact h0
        · have := hMb2.olt _ h0; omega
      rw [← hvb] at HV4 ⊢
      generalize (w2'.setCell ⟨ob, 3, none⟩ (.bool true)).alloc (.cells #[vI va.1, vI va.2] 32) = w4' at *
      have hMa4 := hMa2.fr HF4.out (fun k hk e => hk (by rw [e]; exact oa2))
      have hMb4 := hMb2.fr HF4.out (fun k hk e => hk (by rw [e]; exact obb))
      have hG4 := hG2.then HF4.out (fun j hj e => by omega)
      have hsz4 := hG4.size
      clear HF4 hMa2 hMb2 hG2 hvb c0' c1' c2' c3 c4' c5' c6' c7' c8' y3 lo2 O2
      refine (show Calls Try.prog 20 #[ptr b2, opV { o with heap := true }] w4' _ from one_any b2 gb B { o with heap := true } w4' hMb4 HFb.out (by omega) h9 h10).mono ?_
      rintro e w5' ⟨gb', rfl, hMb5, hF5, hE5⟩
      obtain ⟨hMa5, hap5⟩ := hMa4.other (b := b2) hap2.symm hF5 hE5
      have V5 := (hF5.block _ (heap_lt HV4.out) (fun e => e vb0)).trans HV4.out
      have hG5 := hG4.anew hF5 HOb.out
      have hOb5 := HOb.out.ext hE5 hsz4
      have HFb5 : Hd (Fine (k + 1 + 2) (oneX B { o with heap := true }).1) := HFb.out.one _
      clear hMa4 hMb4 hF5 hE5 HV4 hG4 HFb HOb hap2 hsz4
      generalize oneX B { o with heap := true } = rb at *
      obtain ⟨B', nb, vb', eb⟩ := rb
      simp only at hMb5
      obtain ⟨he32, hor⟩ := HAL.out
      simp only at he32 hor
      have beb := eqb_false he32
      have lv5 := heap_lt V5
      have x0 : w5'.cell? ⟨vb, 0, none⟩ = some (vI va.1) := by rw [cell_of V5]; rfl
      have x1 : w5'.cell? ⟨vb, 1, none⟩ = some (vI va.2) := by rw [cell_of V5]; rfl
      have HMa5 : Hd _ := hMa5.alloc (.cells #[vI vb'.1, vI vb'.2] 32)
      have HMb5 : Hd _ := hMb5.alloc (.cells #[vI vb'.1, vI vb'.2] 32)
      have HG5 : Hd _ := Fr.alloc hG5 (.cells #[vI vb'.1, vI vb'.2] 32)
      have HAp5 : Hd _ := hap5.symm
      have HOa5 : Hd _ := hOa2
      have HOb5 : Hd _ := hOb5
      clear hMa5 hMb5 hG5 hap5 hOa2 hOb5 HAL V5
      rcases hor with rfl | ⟨rfl, rfl, rfl, hne, hpl⟩
      · go_wp2_with fail
        go_ret
        exact ⟨rfl, HG5.out⟩
      · have HPl5 : Hd _ := hpl
        clear hpl
        go_wp2_with fail
        refine ⟨⟨k + 1, A', B', ga', gb', by simp, by simp, by omega, HMa5.out, HMb5.out, HAp5.out, HPl5.out, HFa2.out, HFb5.out, HOa5.out, HOb5.out, HG5.out⟩, by simp; omega⟩
    · have hke : k = os.length := by omega
      subst hke
      go_wp2_with fail
      go_ret
      exact ⟨rfl, HGr.out⟩
end Go.Proofs.Ytmdlebolmhnhaaa
