import Derived.Test.YtmdlebolmhnhaaaE4
import Derived.Test.YtmdlebolmhnhaaaD5
namespace Go.Proofs.Ytmdlebolmhnhaaa
open Go.RowKit (wrap32 wrap64)
open Go.Maps (Keyed)
set_option linter.unusedVariables false
set_option linter.unusedSimpArgs false

/-- The lists of calls that came in. -/
def OpsL (w : World) (os : List OpR) (zss : Nat → List Int) : Prop :=
  ∀ i (h : i < os.length), os[i].cl = (zss i).length ∧ IntsAt w.heap.size w os[i].cells (zss i) ∧ (zss i).length ≤ 17592186043904

theorem IntsAt.ownless {w : World} {sv : Value} {zs : List Int} (h : IntsAt w.heap.size w sv zs) {g : Gh} (hO : OwnNew w.heap.size g) : zs ≠ [] → ∀ j, sv.ownBlock = some j → g.own j = 0 := by
  intro hne j hj
  rcases h with ⟨-, -, -, e⟩ | ⟨k, o, c, rfl, hlt, -⟩
  · exact absurd e hne
  · cases hj
    by_cases h0 : g.own k = 0
    · exact h0
    · have := hO k h0; omega

theorem liveX_len (a : Abs) : (liveX a).length ≤ a.made + 1 := by
  unfold liveX liveN
  rw [List.length_map]
  exact Nat.le_trans (List.length_filter_le _ _) (by simp)
theorem ans_len {N : Nat} {a : Abs} (h : Fine N a) (o : OpR) (zs : List Int) (hN : N + 1 ≤ 10000000000000) : (ansX a o zs).list.length ≤ 10000000000000 := by
  have := h.made
  have := liveX_len a
  unfold ansX
  split
  · simp only; omega
  split
  · simp
  · simp

set_option maxRecDepth 100000 in
set_option maxHeartbeats 4000000 in
theorem refuses_walk (pv : Value) (os : List OpR) (zss : Nat → List Int) (w : World) (h : OpsIn w pv os) (hL : OpsL w os zss) (hx : os.length ≤ 9000000000000) :
    Calls Try.prog 6 #[pv] w fun e w' => e = .returned (.bool true) ∧ Fr (fun _ => False) w w' := by
  obtain ⟨a0, c0, rfl, hc0, hin⟩ := h
  have HIN : Hd _ := hin
  have HL : Hd _ := hL
  clear hin hL
  go_enter Try.func6, Try.ntmps6
  go_wp2_with fail
  refine (fixed_any w).mono ?_
  rintro e w0 ⟨rfl, hF0⟩
  go_wp2_with fail
  refine (show Calls Try.prog 10 #[.int .i64 2] w0 _ from new_any 2 (by omega) w0).mono ?_
  rintro e w1 ⟨b1, g1, rfl, hM1, hF1, hO1⟩
  have hG1 := hF0.trans hF1
  have hO1' : OwnNew w.heap.size g1 := fun k hk => by have := hO1 k hk; have := hF0.size; omega
  clear hF0 hF1 hO1
  go_wp2_with fail
  refine (show Calls Try.prog 10 #[.int .i64 2] w1 _ from new_any 2 (by omega) w1).mono ?_
  rintro e w2 ⟨b2, g2, rfl, hM2, hF2, hO2⟩
  have hM1' := hM1.keep hF2
  have hap : Apart g1 g2 := fun k hk => by
    by_cases h0 : g2.own k = 0
    · exact h0
    · have := hM1.olt k hk; have := hO2 k h0; omega
  have hO2' : OwnNew w.heap.size g2 := fun k hk => by have := hO2 k hk; have := hG1.size; omega
  have hG2 := hG1.trans hF2
  have hs2 := hG2.size
  clear hG1 hF2 hO2 hM1
  go_wp2_with fail
  refine (push_any b1 g1 (newX 2) w2 hM1' (by simp [newX])).mono ?_
  rintro e w3 ⟨g3, rfl, hM3, hF3, hE3⟩
  obtain ⟨hM2', hap3⟩ := hM2.other (b := b1) hap hF3 hE3
  have hG3 := hG2.anew hF3 hO1'
  have hO3 := hO1'.ext hE3 hs2
  have hs3 := hG3.size
  clear hG2 hF3 hE3 hM1' hM2 hO1' hap
  go_wp2_with fail
  refine (push_any b2 g2 (newX 2) w3 hM2' (by simp [newX])).mono ?_
  rintro e w4 ⟨g4, rfl, hM4, hF4, hE4⟩
  obtain ⟨hM3', hap4⟩ := hM3.other (b := b2) hap3.symm hF4 hE4
  have hG4 := hG3.anew hF4 hO2'
  have hO4 := hO2'.ext hE4 hs3
  clear hG3 hF4 hE4 hM3 hM2' hO2' hap3
  have HF : Hd (Fine 2 (pushX (newX 2))) := ⟨by simp [pushX, newX], by simp [pushX, newX], by simp [pushX, newX], by simp [pushX, newX]⟩
  have HM1 : Hd _ := hM3'
  have HM2 : Hd _ := hM4
  have HA : Hd _ := hap4.symm
  have HO1 : Hd _ := hO3
  have HO2 : Hd _ := hO4
  have HG : Hd _ := hG4
  clear hM3' hM4 hap4 hO3 hO4 hG4 hs2 hs3
  go_wp2_with fail
  go_loopw [3, 6, 7] (fun ok m v wr => ∃ (k md : Nat) (A : Abs) (ga gb : Gh), ok = .bool true ∧ m = .int .i64 md ∧ v = .int .i64 k ∧ k ≤ os.length ∧ md ≤ k + 2 ∧ Hd (Mem wr b1 ga A) ∧ Hd (Mem wr b2 gb A) ∧ Hd (Apart ga gb) ∧ Hd (Fine (k + 2) A) ∧ Hd (OwnNew w.heap.size ga) ∧ Hd (OwnNew w.heap.size gb) ∧ Hd (Fr (fun _ => False) w wr)) (fun _ _ v _ => match v with | .int _ q => os.length - q.toNat | _ => 0)
  case atStart => exact ⟨0, 0, _, _, _, rfl, rfl, rfl, Nat.zero_le _, by omega, HM1.out, HM2.out, HA.out, HF.out, HO1.out, HO2.out, HG.out⟩
  case round =>
    obtain ⟨k, md, A, ga, gb, rfl, rfl, rfl, hk, hmd, HMa, HMb, HAp, HFa, HOa, HOb, HGr⟩ := hrel
    clear HM1 HM2 HA HF HO1 HO2 HG
    by_cases hlt : k < os.length
    · obtain ⟨pk, po, rfl, hpk, hcs⟩ := HIN.out (by intro e; simp [e] at hlt)
      have hgr := HGr.out
      have HCS : Hd (∀ v, Fr (fun _ => False) w v → ∀ j, j < 9 → v.cell? ⟨pk, po + k * 9 + j, none⟩ = (opC os[k])[j]?) := fun v hv j hj => (hv.cell hpk (fun h => h)).trans (hcs k hlt j hj)
      obtain ⟨hcl, hI, hzl⟩ := HL.out k hlt
      obtain ⟨o, ho⟩ : ∃ o, os[k] = o := ⟨_, rfl⟩
      rw [ho] at HCS hcl hI
      generalize zss k = zs at *
      have HI : Hd _ := hI
      have p0 : wr.cell? ⟨pk, po + k * 9, none⟩ = some (vI o.kind) := HCS.out wr hgr 0 (by omega)
      have p1 : wr.cell? ⟨pk, po + k * 9 + 1, none⟩ = some (vI o.on) := HCS.out wr hgr 1 (by omega)
      have p2 : wr.cell? ⟨pk, po + k * 9 + 2, none⟩ = some (vI o.n) := HCS.out wr hgr 2 (by omega)
      have p3 : wr.cell? ⟨pk, po + k * 9 + 3, none⟩ = some (.bool o.heap) := HCS.out wr hgr 3 (by omega)
      have p4 : wr.cell? ⟨pk, po + k * 9 + 4, none⟩ = some (vI o.v.1) := HCS.out wr hgr 4 (by omega)
      have p5 : wr.cell? ⟨pk, po + k * 9 + 5, none⟩ = some (vI o.v.2) := HCS.out wr hgr 5 (by omega)
      have p6 : wr.cell? ⟨pk, po + k * 9 + 6, none⟩ = some (vI o.w.1) := HCS.out wr hgr 6 (by omega)
      have p7 : wr.cell? ⟨pk, po + k * 9 + 7, none⟩ = some (vI o.w.2) := HCS.out wr hgr 7 (by omega)
      have p8 : wr.cell? ⟨pk, po + k * 9 + 8, none⟩ = some o.cells := HCS.out wr hgr 8 (by omega)
      clear hcs hgr ho hI
      have hk0 : (0 : Int) ≤ k := by omega
      have hk1 : (k : Int) < os.length := by omega
      go_wp2_with fail
      clear p0 p1 p2 p3 p4 p5 p6 p7 p8
      refine (show Calls Try.prog 20 #[ptr b1, opV o] wr _ from one_all b1 ga A o zs wr HMa.out (IntsAt.fr HI.out HGr.out (fun _ _ h => h)) hcl (IntsAt.ownless HI.out HOa.out) hzl HFa.out (by omega)).mono ?_
      rintro e w2 ⟨ga', lv, rfl, hLI, hLo, hMa2, hF2, hE2⟩
      obtain ⟨hMb2, hap2⟩ := HMb.out.other (b := b1) HAp.out hF2 hE2
      have hG2 := HGr.out.anew hF2 HOa.out
      have hOa2 := HOa.out.ext hE2 HGr.out.size
      have HFa2 : Hd (Fine (k + 1 + 2) (ansX A o zs).abs) := HFa.out.ans o zs
      obtain ⟨nn, hnn, hnb⟩ := ans_n HFa.out o zs
      have HREF : Hd _ := @ans_refused A o zs
      have hlen : (ansX A o zs).list.length ≤ 10000000000000 := ans_len HFa.out o zs (by omega)
      obtain ⟨r, hr⟩ : ∃ r, ansX A o zs = r := ⟨_, rfl⟩
      have HANS : Hd _ := hr
      rw [hr] at HREF HFa2 hLI hnn hMa2 hlen ⊢
      clear hr
      obtain ⟨A', n', v', er, li⟩ := r
      simp only at hLI hnn hMa2 HREF HFa2 hlen
      subst hnn
      obtain ⟨vb, hvb⟩ : ∃ vb, vb = w2.heap.size := ⟨_, rfl⟩
      have V3 := heap_alloc_last w2 (.cells #[vI v'.1, vI v'.2] 32)
      have hF3 : Fr (fun _ => False) w2 (w2.alloc (.cells #[vI v'.1, vI v'.2] 32)) := Fr.alloc (Fr.refl _ w2) _
      have hwv : w.heap.size ≤ vb := by rw [hvb]; exact hG2.size
      have vb0 : gb.own vb = 0 := by
        by_cases h0 : gb.own vb = 0
        · exact h0
        · have := hMb2.olt _ h0; omega
      have lvb : ∀ j, lv.ownBlock = some j → gb.own j = 0 := fun j hj => by
        by_cases h0 : gb.own j = 0
        · exact h0
        · have := HMb.out.olt _ h0; have := (hLo j hj).1; omega
      have HLB : Hd _ := lvb
      have HLI3 : Hd _ := IntsAt.fr hLI hF3 (fun _ _ h => h)
      have HMa3 : Hd _ := hMa2.keep hF3
      have HMb3 : Hd _ := hMb2.keep hF3
      have HG3 : Hd _ := hG2.trans hF3
      have HOa3 : Hd (OwnNew w.heap.size ga') := hOa2
      have HAp3 : Hd (Apart ga' gb) := hap2
      obtain ⟨la, lc, rfl, -⟩ := hLI.shape
      clear hF2 hE2 hLI hMa2 hMb2 hG2 hOa2 hap2 hF3 lvb hLo HMa HMb HGr HAp HOa
      by_cases he : er = 0
      · subst he
        have p0 : (w2.alloc (.cells #[vI v'.1, vI v'.2] 32)).cell? ⟨pk, po + k * 9, none⟩ = some (vI o.kind) := HCS.out _ HG3.out 0 (by omega)
        have p1 : (w2.alloc (.cells #[vI v'.1, vI v'.2] 32)).cell? ⟨pk, po + k * 9 + 1, none⟩ = some (vI o.on) := HCS.out _ HG3.out 1 (by omega)
        have p2 : (w2.alloc (.cells #[vI v'.1, vI v'.2] 32)).cell? ⟨pk, po + k * 9 + 2, none⟩ = some (vI o.n) := HCS.out _ HG3.out 2 (by omega)
        have p3 : (w2.alloc (.cells #[vI v'.1, vI v'.2] 32)).cell? ⟨pk, po + k * 9 + 3, none⟩ = some (.bool o.heap) := HCS.out _ HG3.out 3 (by omega)
        have p4 : (w2.alloc (.cells #[vI v'.1, vI v'.2] 32)).cell? ⟨pk, po + k * 9 + 4, none⟩ = some (vI o.v.1) := HCS.out _ HG3.out 4 (by omega)
        have p5 : (w2.alloc (.cells #[vI v'.1, vI v'.2] 32)).cell? ⟨pk, po + k * 9 + 5, none⟩ = some (vI o.v.2) := HCS.out _ HG3.out 5 (by omega)
        have p6 : (w2.alloc (.cells #[vI v'.1, vI v'.2] 32)).cell? ⟨pk, po + k * 9 + 6, none⟩ = some (vI o.w.1) := HCS.out _ HG3.out 6 (by omega)
        have p7 : (w2.alloc (.cells #[vI v'.1, vI v'.2] 32)).cell? ⟨pk, po + k * 9 + 7, none⟩ = some (vI o.w.2) := HCS.out _ HG3.out 7 (by omega)
        have p8 : (w2.alloc (.cells #[vI v'.1, vI v'.2] 32)).cell? ⟨pk, po + k * 9 + 8, none⟩ = some o.cells := HCS.out _ HG3.out 8 (by omega)
        go_wp2_with fail
        clear p0 p1 p2 p3 p4 p5 p6 p7 p8
        rw [← hvb] at V3 ⊢
        generalize w2.alloc (.cells #[vI v'.1, vI v'.2] 32) = w3 at *
        clear hvb
        have hwl3 := heap_lt V3
        refine (show Calls Try.prog 20 #[ptr b2, opV o] w3 _ from one_all b2 gb A o zs w3 HMb3.out (IntsAt.fr HI.out HG3.out (fun _ _ h => h)) hcl (IntsAt.ownless HI.out HOb.out) hzl HFa.out (by omega)).mono ?_
        rw [show ansX A o zs = _ from HANS.out]
        rintro e w4 ⟨gb', lv2, rfl, hLI2, hLo2, hMb4, hF4, hE4⟩
        obtain ⟨hMa4, hap4⟩ := HMa3.out.other (b := b2) (Apart.symm HAp3.out) hF4 hE4
        have hG4 := HG3.out.anew hF4 HOb.out
        have hOb4 := HOb.out.ext hE4 HG3.out.size
        have V4 := (hF4.block _ hwl3 (fun e => e vb0)).trans V3
        have hF5 : Fr (fun _ => False) w4 (w4.alloc (.cells #[vI v'.1, vI v'.2] 32)) := Fr.alloc (Fr.refl _ w4) _
        have HL1 : Hd _ := IntsAt.fr (IntsAt.fr HLI3.out hF4 (fun j hj h => h (HLB.out j hj))) hF5 (fun _ _ h => h)
        have HL2 : Hd _ := IntsAt.fr hLI2 hF5 (fun _ _ h => h)
        have HMa5 : Hd _ := hMa4.keep hF5
        have HMb5 : Hd _ := hMb4.keep hF5
        have HG5 : Hd _ := hG4.trans hF5
        have HAp5 : Hd (Apart ga' gb') := Apart.symm hap4
        have HOb5 : Hd (OwnNew w.heap.size gb') := hOb4
        have V5 := (hF5.block _ (heap_lt V4) (fun e => e)).trans V4
        have W5 := heap_alloc_last w4 (.cells #[vI v'.1, vI v'.2] 32)
        obtain ⟨ub, hub⟩ : ∃ ub, ub = w4.heap.size := ⟨_, rfl⟩
        obtain ⟨la2, lc2, rfl, -⟩ := hLI2.shape
        simp only at *
        clear hLI2 hLo2 hMb4 hF4 hE4 hMa4 hap4 hG4 hOb4 hF5 V3 V4 HMa3 HMb3 HG3 HAp3 HLI3 HLB
        go_wp2_with fail
        rw [← hub] at W5 ⊢
        generalize w4.alloc (.cells #[vI v'.1, vI v'.2] 32) = w5 at *
        clear hub
        refine (eqInts_same _ _ li w5 HL1.out HL2.out hlen).mono ?_
        rintro e w6 ⟨rfl, hF6⟩
        have HMa6 : Hd _ := HMa5.out.keep hF6
        have HMb6 : Hd _ := HMb5.out.keep hF6
        have HG6 : Hd _ := HG5.out.trans hF6
        have V6 := (hF6.block _ (heap_lt V5) (fun e => e)).trans V5
        have W6 := (hF6.block _ (heap_lt W5) (fun e => e)).trans W5
        have x0 : w6.cell? ⟨vb, 0, none⟩ = some (vI v'.1) := by rw [cell_of V6]; rfl
        have x1 : w6.cell? ⟨vb, 1, none⟩ = some (vI v'.2) := by rw [cell_of V6]; rfl
        have y0 : w6.cell? ⟨ub, 0, none⟩ = some (vI v'.1) := by rw [cell_of W6]; rfl
        have y1 : w6.cell? ⟨ub, 1, none⟩ = some (vI v'.2) := by rw [cell_of W6]; rfl
        clear HMa5 HMb5 HG5 V5 W5 hF6 V6 W6 HL1 HL2
        by_cases hmx : md < nn
        · have dm : decide ((md : Int) < (nn : Int)) = true := by simpa using hmx
          go_wp2_with fail
          refine ⟨⟨k + 1, nn, A', ga', gb', by simp, by simp, by simp, by omega, by omega, HMa6.out, HMb6.out, HAp5.out, HFa2.out, HOa3.out, HOb5.out, HG6.out⟩, by simp; omega⟩
        · have dm : decide ((md : Int) < (nn : Int)) = false := by simpa using hmx
          go_wp2_with fail
          refine ⟨⟨k + 1, md, A', ga', gb', by simp, by simp, by simp, by omega, by omega, HMa6.out, HMb6.out, HAp5.out, HFa2.out, HOa3.out, HOb5.out, HG6.out⟩, by simp; omega⟩
      · obtain ⟨rfl, h2, h3, -, rfl⟩ := Ans.mk.inj (HREF.out he)
        obtain rfl : nn = 0 := by omega
        subst h3
        have qe := eqb_false he
        go_wp2_with fail
        refine ⟨⟨k + 1, md, A', ga', gb, by simp, by simp, by simp, by omega, by omega, HMa3.out, HMb3.out, HAp3.out, HFa2.out, HOa3.out, HOb.out, HG3.out⟩, by simp; omega⟩
    · have hke : k = os.length := by omega
      subst hke
      have hmade := HFa.out.made
      clear HIN HL HFa HAp
      go_wp2_with fail
      go_loopw [3, 17] (fun ok c wr2 => ∃ t : Nat, ok = .bool true ∧ c = .int .i64 t ∧ t ≤ md + 1 ∧ Hd (Mem wr2 b1 ga A) ∧ Hd (Mem wr2 b2 gb A) ∧ Hd (Fr (fun _ => False) w wr2)) (fun _ v _ => match v with | .int _ q => md + 1 - q.toNat | _ => 0)
      case atStart => exact ⟨0, rfl, rfl, by omega, HMa.out, HMb.out, HGr.out⟩
      case round =>
        obtain ⟨t, rfl, rfl, ht, HMa2, HMb2, HG2⟩ := hrel
        clear HMa HMb HGr
        by_cases htl : t ≤ md
        · have dt : decide ((t : Int) ≤ (md : Int)) = true := by simpa using htl
          go_wp2_with fail
          go_loopw [3, 18] (fun ok c wr3 => ∃ f : Nat, ok = .bool true ∧ c = .int .i64 f ∧ f ≤ 8 ∧ Hd (Mem wr3 b1 ga A) ∧ Hd (Mem wr3 b2 gb A) ∧ Hd (Fr (fun _ => False) w wr3)) (fun _ v _ => match v with | .int _ q => 8 - q.toNat | _ => 0)
          case atStart => exact ⟨0, rfl, rfl, by omega, HMa2.out, HMb2.out, HG2.out⟩
          case round =>
            obtain ⟨f, rfl, rfl, hf8, HMa3, HMb3, HG3⟩ := hrel
            clear HMa2 HMb2 HG2
            by_cases hfl : f < 8
            · have df : decide ((f : Int) < 8) = true := by simp; omega
              go_wp2_with fail
              refine (show Calls Try.prog 16 #[ptr b1, vv (2, (t : Int)), vI (f : Int)] wr _ from load_any b1 ga A (2, (t : Int)) (f : Int) wr HMa3.out (by omega)).mono ?_
              rintro e w1 ⟨rfl, hF1⟩
              obtain ⟨lx, hlx⟩ : ∃ lx, loadX A (2, (t : Int)) (f : Int) = lx := ⟨_, rfl⟩
              have HX : Hd _ := hlx
              rw [hlx]
              clear hlx
              obtain ⟨y, er⟩ := lx
              have hF2 : Fr (fun _ => False) w1 (w1.alloc (.cells #[vI y.1, vI y.2] 32)) := Fr.alloc (Fr.refl _ w1) _
              have HMb4 : Hd _ := (HMb3.out.keep hF1).keep hF2
              have HMa4 : Hd _ := (HMa3.out.keep hF1).keep hF2
              have HG4 : Hd _ := (HG3.out.trans hF1).trans hF2
              have V2 := heap_alloc_last w1 (.cells #[vI y.1, vI y.2] 32)
              obtain ⟨vb, hvb⟩ : ∃ vb, vb = w1.heap.size := ⟨_, rfl⟩
              clear hF1 hF2 HMa3 HMb3 HG3
              go_wp2_with fail
              rw [← hvb] at V2 ⊢
              generalize w1.alloc (.cells #[vI y.1, vI y.2] 32) = w2 at *
              clear hvb
              refine (show Calls Try.prog 16 #[ptr b2, vv (2, (t : Int)), vI (f : Int)] w2 _ from load_any b2 gb A (2, (t : Int)) (f : Int) w2 HMb4.out (by omega)).mono ?_
              rw [show loadX A (2, (t : Int)) (f : Int) = _ from HX.out]
              rintro e w3 ⟨rfl, hF3⟩
              have hF5 : Fr (fun _ => False) w3 (w3.alloc (.cells #[vI y.1, vI y.2] 32)) := Fr.alloc (Fr.refl _ w3) _
              have HMb5 : Hd _ := (HMb4.out.keep hF3).keep hF5
              have HMa5 : Hd _ := (HMa4.out.keep hF3).keep hF5
              have HG5 : Hd _ := (HG4.out.trans hF3).trans hF5
              have V5 := (hF5.block _ (Nat.lt_of_lt_of_le (heap_lt V2) hF3.size) (fun e => e)).trans ((hF3.block _ (heap_lt V2) (fun e => e)).trans V2)
              have x0 : (w3.alloc (.cells #[vI y.1, vI y.2] 32)).cell? ⟨vb, 0, none⟩ = some (vI y.1) := by rw [cell_of V5]; rfl
              have x1 : (w3.alloc (.cells #[vI y.1, vI y.2] 32)).cell? ⟨vb, 1, none⟩ = some (vI y.2) := by rw [cell_of V5]; rfl
              clear hF3 hF5 HMa4 HMb4 HG4 V2 V5
              go_wp2_with fail
              exact ⟨⟨f + 1, by simp, by simp, by omega, HMa5.out, HMb5.out, HG5.out⟩, by simp; omega⟩
            · obtain rfl : f = 8 := by omega
              go_wp2_with fail
              exact ⟨⟨t + 1, by simp, by simp; try omega, by omega, HMa3.out, HMb3.out, HG3.out⟩, by simp; try omega⟩
        · have dt : decide ((t : Int) ≤ (md : Int)) = false := by simpa using htl
          go_wp2_with fail
          clear dt htl ht
          go_loopw [3, 23] (fun ok c wr3 => ∃ t : Nat, ok = .bool true ∧ c = .int .i64 t ∧ t ≤ 2 ∧ Hd (Mem wr3 b1 ga A) ∧ Hd (Mem wr3 b2 gb A) ∧ Hd (Fr (fun _ => False) w wr3)) (fun _ v _ => match v with | .int _ q => 2 - q.toNat | _ => 0)
          case atStart => exact ⟨0, rfl, rfl, by omega, HMa2.out, HMb2.out, HG2.out⟩
          case round =>
            obtain ⟨t, rfl, rfl, ht, HMa3, HMb3, HG3⟩ := hrel
            clear HMa2 HMb2 HG2
            by_cases htl : t < 2
            · have df : decide ((t : Int) < 2) = true := by simp; omega
              go_wp2_with fail
              refine (show Calls Try.prog 17 #[ptr b1, vI (t : Int)] wr _ from global_any b1 ga A (t : Int) wr HMa3.out).mono ?_
              rintro e w1 ⟨rfl, hF1⟩
              obtain ⟨lx, hlx⟩ : ∃ lx, globalX A (t : Int) = lx := ⟨_, rfl⟩
              have HX : Hd _ := hlx
              rw [hlx]
              clear hlx
              obtain ⟨y, er⟩ := lx
              have hF2 : Fr (fun _ => False) w1 (w1.alloc (.cells #[vI y.1, vI y.2] 32)) := Fr.alloc (Fr.refl _ w1) _
              have HMb4 : Hd _ := (HMb3.out.keep hF1).keep hF2
              have HMa4 : Hd _ := (HMa3.out.keep hF1).keep hF2
              have HG4 : Hd _ := (HG3.out.trans hF1).trans hF2
              have V2 := heap_alloc_last w1 (.cells #[vI y.1, vI y.2] 32)
              obtain ⟨vb, hvb⟩ : ∃ vb, vb = w1.heap.size := ⟨_, rfl⟩
              clear hF1 hF2 HMa3 HMb3 HG3
              go_wp2_with fail
              rw [← hvb] at V2 ⊢
              generalize w1.alloc (.cells #[vI y.1, vI y.2] 32) = w2 at *
              clear hvb
              refine (show Calls Try.prog 17 #[ptr b2, vI (t : Int)] w2 _ from global_any b2 gb A (t : Int) w2 HMb4.out).mono ?_
              rw [show globalX A (t : Int) = _ from HX.out]
              rintro e w3 ⟨rfl, hF3⟩
              have hF5 : Fr (fun _ => False) w3 (w3.alloc (.cells #[vI y.1, vI y.2] 32)) := Fr.alloc (Fr.refl _ w3) _
              have HMb5 : Hd _ := (HMb4.out.keep hF3).keep hF5
              have HMa5 : Hd _ := (HMa4.out.keep hF3).keep hF5
              have HG5 : Hd _ := (HG4.out.trans hF3).trans hF5
              have V5 := (hF5.block _ (Nat.lt_of_lt_of_le (heap_lt V2) hF3.size) (fun e => e)).trans ((hF3.block _ (heap_lt V2) (fun e => e)).trans V2)
              have x0 : (w3.alloc (.cells #[vI y.1, vI y.2] 32)).cell? ⟨vb, 0, none⟩ = some (vI y.1) := by rw [cell_of V5]; rfl
              have x1 : (w3.alloc (.cells #[vI y.1, vI y.2] 32)).cell? ⟨vb, 1, none⟩ = some (vI y.2) := by rw [cell_of V5]; rfl
              clear hF3 hF5 HMa4 HMb4 HG4 V2 V5
              go_wp2_with fail
              exact ⟨⟨t + 1, by simp, by simp, by omega, HMa5.out, HMb5.out, HG5.out⟩, by simp; omega⟩
            · obtain rfl : t = 2 := by omega
              go_wp2_with fail
              refine (live_any b1 ga A wr HMa3.out (by omega)).mono ?_
              rintro e w1 ⟨v1, rfl, hr1, hF1⟩
              have HL1 : Hd _ := IntsAt.of_row hr1
              have HMb4 : Hd _ := HMb3.out.keep hF1
              have HG4 : Hd _ := HG3.out.trans hF1
              clear hr1 hF1 HMb3 HMa3 HG3
              go_wp2_with fail
              refine (live_any b2 gb A w1 HMb4.out (by omega)).mono ?_
              rintro e w2 ⟨v2, rfl, hr2, hF2⟩
              have HL2 : Hd _ := IntsAt.of_row hr2
              have HL1' : Hd _ := IntsAt.fr HL1.out hF2 (fun _ _ h => h)
              have HG5 : Hd _ := HG4.out.trans hF2
              clear hr2 hF2 HL1 HMb4 HG4
              go_wp2_with fail
              have hll := liveX_len A
              refine (eqInts_same v1 v2 (liveX A) w2 HL1'.out HL2.out (by omega)).mono ?_
              rintro e w3 ⟨rfl, hF3⟩
              go_wp2_with fail
              go_ret
              exact ⟨rfl, HG5.out.trans hF3⟩

end Go.Proofs.Ytmdlebolmhnhaaa
