import Derived.Test.YtjmbfjaahadbhaaDoorQNe
import Derived.Test.YtjmbfjaahadbhaaDoorQIl
import Derived.Test.YtjmbfjaahadbhaaDoorQUa
import Derived.Test.YtjmbfjaahadbhaaDoorQH0
import Derived.Test.YtjmbfjaahadbhaaDoorQIw
set_option linter.unusedVariables false
set_option linter.unusedSimpArgs false
namespace Go.Proofs.YtjmbfjaahadbhaaDoor
open Go.RowKit (wrap32 wrap64)

/-! ### each function in just one component -/
/-- How many functions the components ahead of c have. -/
def cntX (N : Nat) (of : Nat → Nat) (c : Nat) : Nat := (List.range N).countP (fun f => decide (of f < c))
theorem cntX_zero (N : Nat) (of : Nat → Nat) : cntX N of 0 = 0 := by unfold cntX; rw [List.countP_eq_zero]; intro a _; simp
theorem cntX_next (N : Nat) (of : Nat → Nat) (c : Nat) : cntX N of (c + 1) = cntX N of c + (memX N of c).length := by
  unfold cntX memX
  rw [← List.countP_eq_length_filter]
  generalize List.range N = l
  induction l with
  | nil => rfl
  | cons x l ih =>
    rw [List.countP_cons, List.countP_cons, List.countP_cons, ih]
    by_cases h1 : of x < c
    · have h2 : of x < c + 1 := by omega
      have h3 : ¬ of x = c := by omega
      simp [h1, h2, h3]
      omega
    · by_cases h3 : of x = c
      · have h2 : of x < c + 1 := by omega
        simp [h1, h2, h3]
        omega
      · have h2 : ¬ of x < c + 1 := by omega
        simp [h1, h2, h3]
theorem cntX_all {N n : Nat} {of : Nat → Nat} (h : ∀ x, x < N → of x < n) : cntX N of n = N := by
  unfold cntX
  have : (List.range N).countP (fun f => decide (of f < n)) = (List.range N).length := by
    rw [List.countP_eq_length]
    intro a ha
    rw [List.mem_range] at ha
    simp [h a ha]
  rw [this, List.length_range]
theorem cntX_le (N : Nat) (of : Nat → Nat) (c : Nat) : cntX N of c ≤ N := by
  unfold cntX
  have := List.countP_le_length (p := fun f => decide (of f < c)) (l := List.range N)
  rwa [List.length_range] at this
/-- Who reaches whom, row by row. -/
structure LOb (N : Nat) (cl : Nat → List Nat) (w : World) (B : Nat) (v : Value) (us : List Value) : Prop where
  row : w.ownsRow B 56 1 v us.length us
  each : ∀ i (h : i < us.length), ∃ sn : Nat → Bool, OB w B us[i] N sn ∧ ∀ x, x < N → (sn x = true ↔ Rch cl i x)
theorem LOb.stay {N : Nat} {cl : Nat → List Nat} {w w' : World} {B : Nat} {v : Value} {us : List Value} (h : LOb N cl w B v us) (f : Fr (fun _ => False) w w') : LOb N cl w' B v us :=
  ⟨ownsRow_frL h.row f (fun _ _ e => e), fun i hi => by
    obtain ⟨sn, h1, h2⟩ := h.each i hi
    exact ⟨sn, h1.stay f, h2⟩⟩
theorem LOb.grow {N : Nat} {cl : Nat → List Nat} {w w6 : World} {B g cap : Nat} {v x : Value} {us : List Value} {sn : Nat → Bool} (h : LOb N cl w B v us) (hx : OB w B x N sn) (hsn : ∀ y, y < N → (sn y = true ↔ Rch cl us.length y)) (hg : w.grownBy w6 v.ownBlock) (ho : w6.ownsRow B 56 1 (.slice (some ⟨g, 0, none⟩) (us.length + 1) cap) (us.length + 1) (us ++ [x])) :
    LOb N cl w6 B (.slice (some ⟨g, 0, none⟩) (us.length + 1) cap) (us ++ [x]) := by
  have f := grown_frL hg
  have ke : ∀ y s, OB w B y N s → OB w6 B y N s := fun y s hy => hy.fr f (fun j e e2 => own_apart h.row hy (by decide) j e e2)
  refine ⟨by rw [List.length_append]; exact ho, fun i hi => ?_⟩
  rw [List.length_append, List.length_singleton] at hi
  by_cases e : i < us.length
  · rw [List.getElem_append_left e]
    obtain ⟨s, h1, h2⟩ := h.each i e
    exact ⟨s, ke _ _ h1, h2⟩
  · have ei : i = us.length := by omega
    subst ei
    rw [List.getElem_append_right (Nat.le_refl _)]
    simp only [Nat.sub_self, List.getElem_cons_zero]
    exact ⟨sn, ke _ _ hx, hsn⟩
/-- Read. -/
theorem LOb.at {N : Nat} {cl : Nat → List Nat} {w : World} {B : Nat} {v : Value} {us : List Value} (h : LOb N cl w B v us) (hN : us.length = N) {i : Nat} (hi : i < N) :
    ∃ g c gi ci, ∃ sn : Nat → Bool, v = .slice (some ⟨g, 0, none⟩) N c ∧ (∀ W, Fr (fun _ => False) w W → W.cell? ⟨g, i, none⟩ = some (.slice (some ⟨gi, 0, none⟩) N ci) ∧ ∀ x, x < N → W.cell? ⟨gi, x, none⟩ = some (.bool (sn x))) ∧ ∀ x, x < N → (sn x = true ↔ Rch cl i x) := by
  have hi' : i < us.length := by rw [hN]; exact hi
  obtain ⟨g, cap, e, -, hl⟩ := World.ownsRow.form h.row (by omega)
  obtain ⟨sn, h1, h2⟩ := h.each i hi'
  obtain ⟨gi, ci, e2, -, hl2⟩ := h1.some (by omega)
  obtain ⟨g', cap', e', -, hc⟩ := own_cell h.row (j := i) (u := us[i]) (List.getElem?_eq_getElem hi')
  rw [e] at e'
  cases e'
  rw [hN] at e
  rw [e2] at h1 hc
  refine ⟨g, cap, gi, ci, sn, e, fun W f => ⟨(f.cell hl (fun e => e)).trans hc, fun x hx => (f.cell hl2 (fun e => e)).trans (h1.cell hx)⟩, h2⟩
theorem IB.up {n0 n1 : Nat} {w : World} {v : Value} {l : List Int} (h : IB n0 w v l) (hn : n0 ≤ n1) : IB n1 w v l := by
  obtain ⟨a, c, e, h⟩ := h
  refine ⟨a, c, e, fun hne => ?_⟩
  obtain ⟨k, o, e, hk, h⟩ := h hne
  exact ⟨k, o, e, by omega, h⟩
theorem LB.up {n0 n1 : Nat} {w : World} {v : Value} {ls : List (List Int)} (h : LB n0 w v ls) (hn : n0 ≤ n1) : LB n1 w v ls := by
  obtain ⟨a, c, e, h⟩ := h
  refine ⟨a, c, e, fun hne => ?_⟩
  obtain ⟨k, o, e, hk, h⟩ := h hne
  refine ⟨k, o, e, by omega, fun i hi => ?_⟩
  obtain ⟨u, u1, u2⟩ := h i hi
  exact ⟨u, u1, u2.up hn⟩
theorem under55 : Tryd.prog.underlying 55 = some (.slice 56) := by kernel_rfl
set_option maxRecDepth 100000 in
set_option maxHeartbeats 16000000 in
theorem rings_any (G : Int) (fs : List PF) (fv : Value) (w : World) (h : FA w fv fs) (hn : FineP fs) (hT : Tab w) (h0 : 0 < w.heap.size) :
    Calls Tryd.prog 5 #[.agg #[vI G, fv]] w fun e w' => e = .returned (.bool true) ∧ Fr (fun _ => False) w w' := by
  obtain ⟨a0, cp0, efv, -⟩ := id h
  subst efv
  obtain ⟨wa, hwa⟩ : ∃ wa, wa = w.alloc (.cells #[vI G, .slice a0 fs.length cp0] 24) := ⟨_, rfl⟩
  obtain ⟨H, hH⟩ : ∃ H, H = w.heap.size := ⟨_, rfl⟩
  have HH : Hd (H = w.heap.size) := hH
  have hFa : Fr (fun _ => False) w wa := by rw [hwa]; exact Fr.alloc (Fr.refl _ w) _
  have hba : wa.heap[H]? = some (.cells #[vI G, .slice a0 fs.length cp0] 24) := by rw [hwa, hH]; exact heap_new0 w _
  have HWA : Hd (wa = w.alloc (.cells #[vI G, .slice a0 fs.length cp0] 24)) := hwa
  have HBA : Hd (wa.heap[H]? = some (.cells #[vI G, .slice a0 fs.length cp0] 24)) := hba
  have HFA : Hd (Fr (fun _ => False) w wa) := hFa
  have HFP : Hd (FA w (.slice a0 fs.length cp0) fs ∧ FineP fs ∧ Tab w ∧ 0 < w.heap.size) := ⟨h, hn, hT, h0⟩
  have HLG : Hd (Calls Tryd.prog 16 #[.agg #[vI G, .slice a0 fs.length cp0]] wa fun e w' => ∃ b, e = .returned (.bool b) ∧ Fr (fun _ => False) wa w' ∧ (b = false → fs.length ≤ 2147483647 ∧ ∀ f ∈ fs, SmC 2147483647 f.code)) := long_any G _ fs wa (h.stay hFa) hn
  have c0 : wa.cell? ⟨H, 0, none⟩ = some (vI G) := by rw [cell_of0 hba]; rfl
  have c1 : wa.cell? ⟨H, 1, none⟩ = some (.slice a0 fs.length cp0) := by rw [cell_of0 hba]; rfl
  clear h hn hT h0 hwa hH hFa hba
  go_enter Tryd.func5, Tryd.ntmps5
  go_upto_region 1 with fail
  rw [← HWA.out, ← HH.out]
  clear HWA
  go_wp2_with fail
  refine Calls.mono HLG.out ?_
  rintro e w1 ⟨lg, rfl, hF1, -⟩
  have HF1 : Hd (Fr (fun _ => False) w w1) := HFA.out.trans hF1
  have HB1 : Hd (w1.heap[H]? = some (.cells #[vI G, .slice a0 fs.length cp0] 24)) := keepF HBA.out hF1
  clear hF1 HLG c0 c1 HFA HBA
  cases lg with
  | true =>
    go_wp2_with fail
    go_ret
    exact ⟨rfl, HF1.out⟩
  | false =>
  go_wp2_with fail
  refine (lives_any w1 (HFP.out.2.2.1.fr HF1.out (fun e => e)) (Nat.lt_of_lt_of_le HFP.out.2.2.2 HF1.out.size)).mono ?_
  rintro e w2 ⟨rfl, hF2⟩
  have HF2 : Hd (Fr (fun _ => False) w w2) := HF1.out.trans hF2
  have HB2 : Hd (w2.heap[H]? = some (.cells #[vI G, .slice a0 fs.length cp0] 24)) := keepF HB1.out hF2
  have c0 : w2.cell? ⟨H, 0, none⟩ = some (vI G) := by rw [cell_of0 HB2.out]; rfl
  have c1 : w2.cell? ⟨H, 1, none⟩ = some (.slice a0 fs.length cp0) := by rw [cell_of0 HB2.out]; rfl
  have HGR : Hd (Calls Tryd.prog 19 #[.agg #[vI G, .slice a0 fs.length cp0]] w2 (GhE G fs w2)) := graph_any G fs _ w2 (HFP.out.1.stay HF2.out) HFP.out.2.1 (HFP.out.2.2.1.fr HF2.out (fun e => e)) (Nat.lt_of_lt_of_le HFP.out.2.2.2 HF2.out.size)
  clear hF2 HF1 HB1
  go_wp2_with fail
  refine Calls.mono HGR.out ?_
  rintro e w3 ⟨hF3, hcase⟩
  have HF3 : Hd (Fr (fun _ => False) w w3) := HF2.out.trans hF3
  have HB3 : Hd (w3.heap[H]? = some (.cells #[vI G, .slice a0 fs.length cp0] 24)) := keepF HB2.out hF3
  clear hF3 HGR HF2 HB2 c0 c1
  rcases hcase with ⟨-, rfl⟩ | ⟨hck, b, n, of, rfl, hgr, hgp, hnN⟩
  · go_wp2_with fail
    go_ret
    exact ⟨rfl, HF3.out⟩
  obtain ⟨go, gm, ge, gr, mv, ev, rv, -, -, -, -, -, hga⟩ := hgr
  obtain ⟨hN1, hN2⟩ := check_len hck
  obtain ⟨hok, hcl⟩ := check_calls hck
  have HGP : Hd (Gp fs.length (clX fs) n of) := hgp
  have HCL : Hd (∀ W, Fr (fun _ => False) w3 W → Calls Tryd.prog 24 #[.agg #[vI G, .slice a0 fs.length cp0]] W (ClE fs W)) := fun W fW => called_any G _ fs W (HFP.out.1.stay (HF3.out.trans fW)) hok (by omega) (fun f hf => by have := hcl f hf; omega)
  have HLT : Hd (∀ x, x < fs.length → ∀ z ∈ clX fs x, z < fs.length) := fun x hx => clX_lt hok hx
  have HLL : Hd (∀ x, x < fs.length → (clX fs x).length ≤ 1000000000) := fun x hx => by
    have k1 := clX_len hx
    have k2 := hcl _ (List.getElem_mem hx)
    omega
  have HGA : Hd (∀ W, Fr (fun _ => False) w3 W → GA W w2.heap.size b go gm ge gr fs.length n mv ev rv of (clX fs)) := fun W fW => hga.stay fW
  have HBX : Hd (∀ W, Fr (fun _ => False) w3 W → W.cell? ⟨H, 0, none⟩ = some (vI G) ∧ W.cell? ⟨H, 1, none⟩ = some (.slice a0 fs.length cp0)) := fun W fW => by
    have := keepF HB3.out fW
    exact ⟨by rw [cell_of0 this]; rfl, by rw [cell_of0 this]; rfl⟩
  have HR3 : Hd (Fr (fun _ => False) w3 w3 ∧ cntX fs.length of 0 = 0) := ⟨Fr.refl _ _, cntX_zero _ _⟩
  clear hck hgp hga hok hcl HFP HB3
  generalize hNN : fs.length = N at *
  have HNN : Hd (fs.length = N) := hNN
  clear hNN
  go_wp2_with fail
  go_loopw [7, 8] (fun v7 v wx => ∃ c : Nat, v = .int .i64 c ∧ v7 = .int .i64 (cntX N of c : Nat) ∧ c ≤ n ∧ Hd (Fr (fun _ => False) w3 wx)) (fun _ v _ => match v with | .int _ q => n - q.toNat | _ => 0)
  case atStart => exact ⟨0, rfl, by rw [HR3.out.2]; rfl, Nat.zero_le _, HR3.out.1⟩
  case round =>
    clear HR3
    obtain ⟨c, rfl, rfl, hcn, HF⟩ := hrel
    have HLN : Hd (Calls Tryd.prog 12 #[.pointer (some ⟨b, 0, none⟩)] wr fun e w' => e = .returned (vI (n : Int)) ∧ w' = wr) := glen_any wr (HGA.out wr HF.out) (by omega)
    by_cases hlt : c < n
    · have d1 : decide ((c : Int) < (n : Int)) = true := by simp; omega
      have HMB : Hd (Calls Tryd.prog 11 #[.pointer (some ⟨b, 0, none⟩), vI (c : Int)] wr fun e w' => ∃ v', e = .returned v' ∧ IOwn w' wr.heap.size v' (zL (memX N of c)) ∧ Fr (fun _ => False) wr w') := members_any c (HGA.out wr HF.out) hlt (by omega) (by omega)
      have HLTC : Hd (c < n) := hlt
      have HCX : Hd (cntX N of (c + 1) = cntX N of c + (memX N of c).length ∧ cntX N of (c + 1) ≤ N) := ⟨cntX_next N of c, cntX_le N of _⟩
      clear hlt
      obtain ⟨C, hC⟩ : ∃ C, C = cntX N of c := ⟨_, rfl⟩
      rw [← hC] at HCX ⊢
      clear hC
      go_wp2_with fail
      refine Calls.mono HLN.out ?_
      rintro e w5 ⟨rfl, rfl⟩
      clear HLN
      go_wp2_with fail
      refine Calls.mono HMB.out ?_
      rintro e w7 ⟨vd, rfl, hod, hF7⟩
      obtain ⟨da, dc, evd, hld⟩ := lst_of hod
      subst evd
      have HLD : Hd (0 < (memX N of c).length → ∃ g, da = some ⟨g, 0, none⟩ ∧ Lst w7 g (memX N of c)) := hld
      have HF7 : Hd (Fr (fun _ => False) w3 w7) := HF.out.trans hF7
      have hdl : (memX N of c).length ≤ 1000000 := by
        have := len_le (memX_rise (N := N) (of := of) c) (fun x hx => (mem_memX.1 hx).1)
        omega
      clear hod hF7 hld HMB HF
      have HF70 : Hd (Fr (fun _ => False) w7 w7) := Fr.refl _ _
      go_wp2_with fail
      go_loopw [10] (fun v wx => ∃ i : Nat, v = .int .i64 i ∧ i ≤ (memX N of c).length ∧ Hd (Fr (fun _ => False) w7 wx)) (fun v _ => match v with | .int _ q => (memX N of c).length - q.toNat | _ => 0)
      case atStart => exact ⟨0, by simp, Nat.zero_le _, HF70.out⟩
      case round =>
        clear HF70
        obtain ⟨i, rfl, hil, HF⟩ := hrel
        by_cases hlti : i < (memX N of c).length
        · have d2 : decide ((i : Int) < ((memX N of c).length : Int)) = true := by simp; omega
          obtain ⟨g, eda, hlst⟩ := HLD.out (by omega)
          subst eda
          obtain ⟨x, hx⟩ : ∃ x, (memX N of c)[i]? = some x := ⟨_, List.getElem?_eq_getElem hlti⟩
          obtain ⟨hxN, hxc⟩ := mem_memX.1 (List.mem_of_getElem? hx)
          have HC13 : Hd (∀ W, Fr (fun _ => False) w7 W → Calls Tryd.prog 13 #[.pointer (some ⟨b, 0, none⟩), vI (x : Int)] W fun e w' => e = .returned (vI (c : Int)) ∧ w' = W) := fun W fW => by
            have := of_any x (HGA.out W (HF7.out.trans fW)) hxN (by omega)
            rw [hxc] at this
            exact this
          have HP : Hd (∀ W, Fr (fun _ => False) w7 W → W.cell? ⟨g, i, none⟩ = some (vI (x : Nat)) ∧ W.cell? ⟨H, 1, none⟩ = some (.slice a0 N cp0)) := fun W fW => ⟨hlst W fW i x hx, (HBX.out W (HF7.out.trans fW)).2⟩
          have i0 : (0 : Int) ≤ i := by omega
          have i1 : (i : Int) < ((memX N of c).length : Int) := by omega
          have x0 : decide ((x : Int) < 0) = false := by simp
          have x1 : decide ((x : Int) ≥ (N : Int)) = false := by simp; omega
          have x1' : decide ((N : Int) ≤ (x : Int)) = false := by simp; omega
          have x1n : ¬ N ≤ x := by omega
          have cc : ((c : Int) != (c : Int)) = false := by simp
          have HIX : Hd (i < (memX N of c).length) := hlti
          have HRS : Hd (∀ j y, j < i → (memX N of c)[j]? = some y → y < x) := fun j y hj hy => by
            rw [List.getElem?_eq_getElem hlti] at hx
            injection hx with hx
            have hj2 : j < (memX N of c).length := by omega
            rw [List.getElem?_eq_getElem hj2] at hy
            injection hy with hy
            have := (List.pairwise_iff_getElem.1 (memX_rise (N := N) (of := of) c)) j i hj2 hlti hj
            rw [hx, hy] at this
            exact this
          have HLS : Hd (Lst w7 g (memX N of c)) := hlst
          clear hlst hx hlti hxc hxN
          by_cases hi0 : i = 0
          · have z0 : decide ((i : Int) > 0) = false := by simp [hi0]
            have z0' : decide ((0 : Int) < (i : Int)) = false := by simp [hi0]
            have z0n : ¬ 0 < i := by omega
            clear hi0
            go_upto_region 15 with fail
            refine wp_region_held_drew (S := fun W => Fr (fun _ => False) w7 W) (by kernel_rfl) (HF.out.drew) (fun hHeld => ?_)
            refine heldTake (i := 0) 56 (v := ?_) rfl rfl (by kernel_rfl) (by kernel_rfl) (by kernel_rfl) (fun _ _ _ h => h) (by kernel_rfl) (fun w hSw => (by obtain ⟨q0, q1⟩ := HP.out w hSw; go_simp; try with_reducible rfl)) hHeld ?_
            simp only [Act.put, List.setIfInBounds_toArray, List.set_cons_zero, List.set_cons_succ]
            refine heldTake (i := 1) 57 (v := ?_) rfl rfl (by kernel_rfl) (by kernel_rfl) (by kernel_rfl) (fun _ _ _ h => h) (by kernel_rfl) (fun w hSw => (by obtain ⟨q0, q1⟩ := HP.out w hSw; go_simp; try with_reducible rfl)) hHeld ?_
            simp only [Act.put, List.setIfInBounds_toArray, List.set_cons_zero, List.set_cons_succ]
            refine heldTake (i := 2) 58 (v := ?_) rfl rfl (by kernel_rfl) (by kernel_rfl) (by kernel_rfl) (fun _ _ _ h => h) (by kernel_rfl) (fun w hSw => (by obtain ⟨q0, q1⟩ := HP.out w hSw; go_simp; try with_reducible rfl)) hHeld ?_
            simp only [Act.put, List.setIfInBounds_toArray, List.set_cons_zero, List.set_cons_succ]
            refine heldTake (i := 3) 59 (v := ?_) rfl rfl (by kernel_rfl) (by kernel_rfl) (by kernel_rfl) (fun _ _ _ h => h) (by kernel_rfl) (fun w hSw => (by obtain ⟨q0, q1⟩ := HP.out w hSw; go_simp; try with_reducible rfl)) hHeld ?_
            simp only [Act.put, List.setIfInBounds_toArray, List.set_cons_zero, List.set_cons_succ]
            refine heldTake (i := 4) 60 (v := ?_) rfl rfl (by kernel_rfl) (by kernel_rfl) (by kernel_rfl) (fun _ _ _ h => h) (by kernel_rfl) (fun w hSw => (by obtain ⟨q0, q1⟩ := HP.out w hSw; go_simp; try with_reducible rfl)) hHeld ?_
            simp only [Act.put, List.setIfInBounds_toArray, List.set_cons_zero, List.set_cons_succ]
            refine heldTake (i := 5) 61 (v := ?_) rfl rfl (by kernel_rfl) (by kernel_rfl) (by kernel_rfl) (fun _ _ _ h => h) (by kernel_rfl) (fun w hSw => (by obtain ⟨q0, q1⟩ := HP.out w hSw; go_simp; try with_reducible rfl)) hHeld ?_
            simp only [Act.put, List.setIfInBounds_toArray, List.set_cons_zero, List.set_cons_succ]
            refine heldTake (i := 6) 62 (v := ?_) rfl rfl (by kernel_rfl) (by kernel_rfl) (by kernel_rfl) (fun _ _ _ h => h) (by kernel_rfl) (fun w hSw => (by obtain ⟨q0, q1⟩ := HP.out w hSw; go_simp; try with_reducible rfl)) hHeld ?_
            simp only [Act.put, List.setIfInBounds_toArray, List.set_cons_zero, List.set_cons_succ]
            refine heldTake (i := 7) 63 (v := ?_) rfl rfl (by kernel_rfl) (by kernel_rfl) (by kernel_rfl) (fun _ _ _ h => h) (by kernel_rfl) (fun w hSw => (by obtain ⟨q0, q1⟩ := HP.out w hSw; go_simp; try with_reducible rfl)) hHeld ?_
            simp only [Act.put, List.setIfInBounds_toArray, List.set_cons_zero, List.set_cons_succ]
            refine heldTake (i := 8) 64 (v := ?_) rfl rfl (by kernel_rfl) (by kernel_rfl) (by kernel_rfl) (fun _ _ _ h => h) (by kernel_rfl) (fun w hSw => (by obtain ⟨q0, q1⟩ := HP.out w hSw; go_simp; try with_reducible rfl)) hHeld ?_
            simp only [Act.put, List.setIfInBounds_toArray, List.set_cons_zero, List.set_cons_succ]
            refine heldTake (i := 9) 65 (v := ?_) rfl rfl (by kernel_rfl) (by kernel_rfl) (by kernel_rfl) (fun _ _ _ h => h) (by kernel_rfl) (fun w hSw => (by obtain ⟨q0, q1⟩ := HP.out w hSw; go_simp; try with_reducible rfl)) hHeld ?_
            simp only [Act.put, List.setIfInBounds_toArray, List.set_cons_zero, List.set_cons_succ]
            refine heldTake (i := 10) 66 (v := ?_) rfl rfl (by kernel_rfl) (by kernel_rfl) (by kernel_rfl) (fun _ _ _ h => h) (by kernel_rfl) (fun w hSw => (by obtain ⟨q0, q1⟩ := HP.out w hSw; go_simp; try with_reducible rfl)) hHeld ?_
            simp only [Act.put, List.setIfInBounds_toArray, List.set_cons_zero, List.set_cons_succ]
            refine heldTake (i := 11) 67 (v := ?_) rfl rfl (by kernel_rfl) (by kernel_rfl) (by kernel_rfl) (fun _ _ _ h => h) (by kernel_rfl) (fun w hSw => (by obtain ⟨q0, q1⟩ := HP.out w hSw; go_simp; try with_reducible rfl)) hHeld ?_
            simp only [Act.put, List.setIfInBounds_toArray, List.set_cons_zero, List.set_cons_succ]
            refine heldTake (i := 12) 68 (v := ?_) rfl rfl (by kernel_rfl) (by kernel_rfl) (by kernel_rfl) (fun _ _ _ h => h) (by kernel_rfl) (fun w hSw => (by obtain ⟨q0, q1⟩ := HP.out w hSw; go_simp; try with_reducible rfl)) hHeld ?_
            simp only [Act.put, List.setIfInBounds_toArray, List.set_cons_zero, List.set_cons_succ]
            refine heldTake (i := 13) 69 (v := ?_) rfl rfl (by kernel_rfl) (by kernel_rfl) (by kernel_rfl) (fun _ _ _ h => h) (by kernel_rfl) (fun w hSw => (by obtain ⟨q0, q1⟩ := HP.out w hSw; go_simp; try with_reducible rfl)) hHeld ?_
            simp only [Act.put, List.setIfInBounds_toArray, List.set_cons_zero, List.set_cons_succ]
            refine heldTake (i := 14) 70 (v := ?_) rfl rfl (by kernel_rfl) (by kernel_rfl) (by kernel_rfl) (fun _ _ _ h => h) (by kernel_rfl) (fun w hSw => (by obtain ⟨q0, q1⟩ := HP.out w hSw; go_simp; try with_reducible rfl)) hHeld ?_
            simp only [Act.put, List.setIfInBounds_toArray, List.set_cons_zero, List.set_cons_succ]
            refine heldTake (i := 15) 71 (v := ?_) rfl rfl (by kernel_rfl) (by kernel_rfl) (by kernel_rfl) (fun _ _ _ h => h) (by kernel_rfl) (fun w hSw => (by obtain ⟨q0, q1⟩ := HP.out w hSw; go_simp; try with_reducible rfl)) hHeld ?_
            simp only [Act.put, List.setIfInBounds_toArray, List.set_cons_zero, List.set_cons_succ]
            refine heldTake (i := 16) 72 (v := ?_) rfl rfl (by kernel_rfl) (by kernel_rfl) (by kernel_rfl) (fun _ _ _ h => h) (by kernel_rfl) (fun w hSw => (by obtain ⟨q0, q1⟩ := HP.out w hSw; go_simp; try with_reducible rfl)) hHeld ?_
            simp only [Act.put, List.setIfInBounds_toArray, List.set_cons_zero, List.set_cons_succ]
            refine heldTake (i := 17) 73 (v := ?_) rfl rfl (by kernel_rfl) (by kernel_rfl) (by kernel_rfl) (fun _ _ _ h => h) (by kernel_rfl) (fun w hSw => (by obtain ⟨q0, q1⟩ := HP.out w hSw; go_simp; try with_reducible rfl)) hHeld ?_
            simp only [Act.put, List.setIfInBounds_toArray, List.set_cons_zero, List.set_cons_succ]
            refine heldTake (i := 18) 74 (v := ?_) rfl rfl (by kernel_rfl) (by kernel_rfl) (by kernel_rfl) (fun _ _ _ h => h) (by kernel_rfl) (fun w hSw => (by obtain ⟨q0, q1⟩ := HP.out w hSw; go_simp; try with_reducible rfl)) hHeld ?_
            simp only [Act.put, List.setIfInBounds_toArray, List.set_cons_zero, List.set_cons_succ]
            refine heldTake (i := 19) 75 (v := ?_) rfl rfl (by kernel_rfl) (by kernel_rfl) (by kernel_rfl) (fun _ _ _ h => h) (by kernel_rfl) (fun w hSw => (by obtain ⟨q0, q1⟩ := HP.out w hSw; go_simp; try with_reducible rfl)) hHeld ?_
            simp only [Act.put, List.setIfInBounds_toArray, List.set_cons_zero, List.set_cons_succ]
            refine heldTake (i := 20) 76 (v := ?_) rfl rfl (by kernel_rfl) (by kernel_rfl) (by kernel_rfl) (fun _ _ _ h => h) (by kernel_rfl) (fun w hSw => (by obtain ⟨q0, q1⟩ := HP.out w hSw; go_simp; try with_reducible rfl)) hHeld ?_
            simp only [Act.put, List.setIfInBounds_toArray, List.set_cons_zero, List.set_cons_succ]
            refine heldTake (i := 22) 78 (v := ?_) rfl rfl (by kernel_rfl) (by kernel_rfl) (by kernel_rfl) (fun _ _ _ h => h) (by kernel_rfl) (fun w hSw => (by obtain ⟨q0, q1⟩ := HP.out w hSw; go_simp; try with_reducible rfl)) hHeld ?_
            simp only [Act.put, List.setIfInBounds_toArray, List.set_cons_zero, List.set_cons_succ]
            refine heldOne (i := 21) rfl (by kernel_rfl) (fun K hK => ?_)
            go_simp
            go_wp2_with ((go_at_call 13; refine Calls.mono (HC13.out _ hHeld) ?_; rintro e w8 ⟨rfl, rfl⟩))
            refine hK.out _ _ hHeld ?_
            clear hK K
            refine heldTake (i := 23) 79 (v := ?_) rfl rfl (by kernel_rfl) (by kernel_rfl) (by kernel_rfl) (fun _ _ _ h => h) (by kernel_rfl) (fun w hSw => (by obtain ⟨q0, q1⟩ := HP.out w hSw; go_simp; try with_reducible rfl)) hHeld ?_
            simp only [Act.put, List.setIfInBounds_toArray, List.set_cons_zero, List.set_cons_succ]
            refine heldTake (i := 24) 80 (v := ?_) rfl rfl (by kernel_rfl) (by kernel_rfl) (by kernel_rfl) (fun _ _ _ h => h) (by kernel_rfl) (fun w hSw => (by obtain ⟨q0, q1⟩ := HP.out w hSw; go_simp; try with_reducible rfl)) hHeld ?_
            simp only [Act.put, List.setIfInBounds_toArray, List.set_cons_zero, List.set_cons_succ]
            refine heldTake (i := 25) 81 (v := ?_) rfl rfl (by kernel_rfl) (by kernel_rfl) (by kernel_rfl) (fun _ _ _ h => h) (by kernel_rfl) (fun w hSw => (by obtain ⟨q0, q1⟩ := HP.out w hSw; go_simp; try with_reducible rfl)) hHeld ?_
            simp only [Act.put, List.setIfInBounds_toArray, List.set_cons_zero, List.set_cons_succ]
            refine heldTake (i := 26) 82 (v := ?_) rfl rfl (by kernel_rfl) (by kernel_rfl) (by kernel_rfl) (fun _ _ _ h => h) (by kernel_rfl) (fun w hSw => (by obtain ⟨q0, q1⟩ := HP.out w hSw; go_simp; try with_reducible rfl)) hHeld ?_
            simp only [Act.put, List.setIfInBounds_toArray, List.set_cons_zero, List.set_cons_succ]
            refine heldTake (i := 27) 83 (v := ?_) rfl rfl (by kernel_rfl) (by kernel_rfl) (by kernel_rfl) (fun _ _ _ h => h) (by kernel_rfl) (fun w hSw => (by obtain ⟨q0, q1⟩ := HP.out w hSw; go_simp; try with_reducible rfl)) hHeld ?_
            simp only [Act.put, List.setIfInBounds_toArray, List.set_cons_zero, List.set_cons_succ]
            refine heldTake (i := 28) 84 (v := ?_) rfl rfl (by kernel_rfl) (by kernel_rfl) (by kernel_rfl) (fun _ _ _ h => h) (by kernel_rfl) (fun w hSw => (by obtain ⟨q0, q1⟩ := HP.out w hSw; go_simp; try with_reducible rfl)) hHeld ?_
            simp only [Act.put, List.setIfInBounds_toArray, List.set_cons_zero, List.set_cons_succ]
            refine heldPass (i := 29) 85 rfl rfl (by kernel_rfl) (by kernel_rfl) (by kernel_rfl) (fun _ _ _ h => h) (by kernel_rfl) hHeld ?_
            simp only [Act.put, List.setIfInBounds_toArray, List.set_cons_zero, List.set_cons_succ]
            refine heldPass (i := 30) 86 rfl rfl (by kernel_rfl) (by kernel_rfl) (by kernel_rfl) (fun _ _ _ h => h) (by kernel_rfl) hHeld ?_
            simp only [Act.put, List.setIfInBounds_toArray, List.set_cons_zero, List.set_cons_succ]
            refine heldPass (i := 31) 87 rfl rfl (by kernel_rfl) (by kernel_rfl) (by kernel_rfl) (fun _ _ _ h => h) (by kernel_rfl) hHeld ?_
            simp only [Act.put, List.setIfInBounds_toArray, List.set_cons_zero, List.set_cons_succ]
            refine heldPass (i := 32) 88 rfl rfl (by kernel_rfl) (by kernel_rfl) (by kernel_rfl) (fun _ _ _ h => h) (by kernel_rfl) hHeld ?_
            simp only [Act.put, List.setIfInBounds_toArray, List.set_cons_zero, List.set_cons_succ]
            refine heldPass (i := 33) 89 rfl rfl (by kernel_rfl) (by kernel_rfl) (by kernel_rfl) (fun _ _ _ h => h) (by kernel_rfl) hHeld ?_
            simp only [Act.put, List.setIfInBounds_toArray, List.set_cons_zero, List.set_cons_succ]
            refine heldPass (i := 34) 90 rfl rfl (by kernel_rfl) (by kernel_rfl) (by kernel_rfl) (fun _ _ _ h => h) (by kernel_rfl) hHeld ?_
            simp only [Act.put, List.setIfInBounds_toArray, List.set_cons_zero, List.set_cons_succ]
            refine heldPass (i := 35) 91 rfl rfl (by kernel_rfl) (by kernel_rfl) (by kernel_rfl) (fun _ _ _ h => h) (by kernel_rfl) hHeld ?_
            simp only [Act.put, List.setIfInBounds_toArray, List.set_cons_zero, List.set_cons_succ]
            refine heldPass (i := 36) 92 rfl rfl (by kernel_rfl) (by kernel_rfl) (by kernel_rfl) (fun _ _ _ h => h) (by kernel_rfl) hHeld ?_
            simp only [Act.put, List.setIfInBounds_toArray, List.set_cons_zero, List.set_cons_succ]
            refine heldPass (i := 37) 93 rfl rfl (by kernel_rfl) (by kernel_rfl) (by kernel_rfl) (fun _ _ _ h => h) (by kernel_rfl) hHeld ?_
            simp only [Act.put, List.setIfInBounds_toArray, List.set_cons_zero, List.set_cons_succ]
            refine heldPass (i := 38) 94 rfl rfl (by kernel_rfl) (by kernel_rfl) (by kernel_rfl) (fun _ _ _ h => h) (by kernel_rfl) hHeld ?_
            simp only [Act.put, List.setIfInBounds_toArray, List.set_cons_zero, List.set_cons_succ]
            refine heldTake (i := 39) 95 (v := ?_) rfl rfl (by kernel_rfl) (by kernel_rfl) (by kernel_rfl) (fun _ _ _ h => h) (by kernel_rfl) (fun w hSw => (by obtain ⟨q0, q1⟩ := HP.out w hSw; go_simp; try with_reducible rfl)) hHeld ?_
            simp only [Act.put, List.setIfInBounds_toArray, List.set_cons_zero, List.set_cons_succ]
            refine heldTake (i := 40) 96 (v := ?_) rfl rfl (by kernel_rfl) (by kernel_rfl) (by kernel_rfl) (fun _ _ _ h => h) (by kernel_rfl) (fun w hSw => (by obtain ⟨q0, q1⟩ := HP.out w hSw; go_simp; try with_reducible rfl)) hHeld ?_
            simp only [Act.put, List.setIfInBounds_toArray, List.set_cons_zero, List.set_cons_succ]
            refine wpAnyH_done (by kernel_rfl) ?_ _
            clear HC13 HP
            have HF8 : Hd (Fr (fun _ => False) w7 _) := hHeld
            clear hHeld
            go_wp2_with fail
            go_roundw
            case measure => simp; omega
            case rel => exact ⟨i + 1, by simp, by omega, HF8.out⟩
          · have z0 : decide ((i : Int) > 0) = true := by simp; omega
            have z0' : decide ((0 : Int) < (i : Int)) = true := by simp; omega
            have z0n : 0 < i := by omega
            obtain ⟨M, hM⟩ : ∃ M : Nat, M = i - 1 := ⟨_, rfl⟩
            obtain ⟨y, hy⟩ : ∃ y, (memX N of c)[M]? = some y := ⟨_, List.getElem?_eq_getElem (by have := HIX.out; omega)⟩
            have hyx : y < x := HRS.out M y (by omega) hy
            have HP1 : Hd (∀ W, Fr (fun _ => False) w7 W → W.cell? ⟨g, M, none⟩ = some (vI (y : Nat))) := fun W fW => HLS.out W fW M y hy
            have qM : IntKind.i64.wrap ((i : Int) - 1) = (M : Int) := by rw [wrap_small _ (by omega) (by omega)]; omega
            have qM' : (i : Int) - 1 = (M : Int) := by omega
            have qMw : IntKind.i64.wrap (M : Int) = (M : Int) := wrap_small _ (by omega) (by omega)
            have M0 : (0 : Int) ≤ M := by omega
            have M1 : (M : Int) < ((memX N of c).length : Int) := by have := HIX.out; omega
            have y1 : decide ((y : Int) ≥ (x : Int)) = false := by simp; omega
            have y1' : decide ((x : Int) ≤ (y : Int)) = false := by simp; omega
            have y1n : ¬ x ≤ y := by omega
            clear hi0 hy hyx hM
            go_upto_region 15 with fail
            refine wp_region_held_drew (S := fun W => Fr (fun _ => False) w7 W) (by kernel_rfl) (HF.out.drew) (fun hHeld => ?_)
            refine heldTake (i := 0) 56 (v := ?_) rfl rfl (by kernel_rfl) (by kernel_rfl) (by kernel_rfl) (fun _ _ _ h => h) (by kernel_rfl) (fun w hSw => (by obtain ⟨q0, q1⟩ := HP.out w hSw; have q2 := HP1.out w hSw; go_simp; try with_reducible rfl)) hHeld ?_
            simp only [Act.put, List.setIfInBounds_toArray, List.set_cons_zero, List.set_cons_succ]
            refine heldTake (i := 1) 57 (v := ?_) rfl rfl (by kernel_rfl) (by kernel_rfl) (by kernel_rfl) (fun _ _ _ h => h) (by kernel_rfl) (fun w hSw => (by obtain ⟨q0, q1⟩ := HP.out w hSw; have q2 := HP1.out w hSw; go_simp; try with_reducible rfl)) hHeld ?_
            simp only [Act.put, List.setIfInBounds_toArray, List.set_cons_zero, List.set_cons_succ]
            refine heldTake (i := 2) 58 (v := ?_) rfl rfl (by kernel_rfl) (by kernel_rfl) (by kernel_rfl) (fun _ _ _ h => h) (by kernel_rfl) (fun w hSw => (by obtain ⟨q0, q1⟩ := HP.out w hSw; have q2 := HP1.out w hSw; go_simp; try with_reducible rfl)) hHeld ?_
            simp only [Act.put, List.setIfInBounds_toArray, List.set_cons_zero, List.set_cons_succ]
            refine heldTake (i := 3) 59 (v := ?_) rfl rfl (by kernel_rfl) (by kernel_rfl) (by kernel_rfl) (fun _ _ _ h => h) (by kernel_rfl) (fun w hSw => (by obtain ⟨q0, q1⟩ := HP.out w hSw; have q2 := HP1.out w hSw; go_simp; try with_reducible rfl)) hHeld ?_
            simp only [Act.put, List.setIfInBounds_toArray, List.set_cons_zero, List.set_cons_succ]
            refine heldTake (i := 4) 60 (v := ?_) rfl rfl (by kernel_rfl) (by kernel_rfl) (by kernel_rfl) (fun _ _ _ h => h) (by kernel_rfl) (fun w hSw => (by obtain ⟨q0, q1⟩ := HP.out w hSw; have q2 := HP1.out w hSw; go_simp; try with_reducible rfl)) hHeld ?_
            simp only [Act.put, List.setIfInBounds_toArray, List.set_cons_zero, List.set_cons_succ]
            refine heldTake (i := 5) 61 (v := ?_) rfl rfl (by kernel_rfl) (by kernel_rfl) (by kernel_rfl) (fun _ _ _ h => h) (by kernel_rfl) (fun w hSw => (by obtain ⟨q0, q1⟩ := HP.out w hSw; have q2 := HP1.out w hSw; go_simp; try with_reducible rfl)) hHeld ?_
            simp only [Act.put, List.setIfInBounds_toArray, List.set_cons_zero, List.set_cons_succ]
            refine heldTake (i := 6) 62 (v := ?_) rfl rfl (by kernel_rfl) (by kernel_rfl) (by kernel_rfl) (fun _ _ _ h => h) (by kernel_rfl) (fun w hSw => (by obtain ⟨q0, q1⟩ := HP.out w hSw; have q2 := HP1.out w hSw; go_simp; try with_reducible rfl)) hHeld ?_
            simp only [Act.put, List.setIfInBounds_toArray, List.set_cons_zero, List.set_cons_succ]
            refine heldTake (i := 7) 63 (v := ?_) rfl rfl (by kernel_rfl) (by kernel_rfl) (by kernel_rfl) (fun _ _ _ h => h) (by kernel_rfl) (fun w hSw => (by obtain ⟨q0, q1⟩ := HP.out w hSw; have q2 := HP1.out w hSw; go_simp; try with_reducible rfl)) hHeld ?_
            simp only [Act.put, List.setIfInBounds_toArray, List.set_cons_zero, List.set_cons_succ]
            refine heldTake (i := 8) 64 (v := ?_) rfl rfl (by kernel_rfl) (by kernel_rfl) (by kernel_rfl) (fun _ _ _ h => h) (by kernel_rfl) (fun w hSw => (by obtain ⟨q0, q1⟩ := HP.out w hSw; have q2 := HP1.out w hSw; go_simp; try with_reducible rfl)) hHeld ?_
            simp only [Act.put, List.setIfInBounds_toArray, List.set_cons_zero, List.set_cons_succ]
            refine heldTake (i := 9) 65 (v := ?_) rfl rfl (by kernel_rfl) (by kernel_rfl) (by kernel_rfl) (fun _ _ _ h => h) (by kernel_rfl) (fun w hSw => (by obtain ⟨q0, q1⟩ := HP.out w hSw; have q2 := HP1.out w hSw; go_simp; try with_reducible rfl)) hHeld ?_
            simp only [Act.put, List.setIfInBounds_toArray, List.set_cons_zero, List.set_cons_succ]
            refine heldTake (i := 10) 66 (v := ?_) rfl rfl (by kernel_rfl) (by kernel_rfl) (by kernel_rfl) (fun _ _ _ h => h) (by kernel_rfl) (fun w hSw => (by obtain ⟨q0, q1⟩ := HP.out w hSw; have q2 := HP1.out w hSw; go_simp; try with_reducible rfl)) hHeld ?_
            simp only [Act.put, List.setIfInBounds_toArray, List.set_cons_zero, List.set_cons_succ]
            refine heldTake (i := 11) 67 (v := ?_) rfl rfl (by kernel_rfl) (by kernel_rfl) (by kernel_rfl) (fun _ _ _ h => h) (by kernel_rfl) (fun w hSw => (by obtain ⟨q0, q1⟩ := HP.out w hSw; have q2 := HP1.out w hSw; go_simp; try with_reducible rfl)) hHeld ?_
            simp only [Act.put, List.setIfInBounds_toArray, List.set_cons_zero, List.set_cons_succ]
            refine heldTake (i := 12) 68 (v := ?_) rfl rfl (by kernel_rfl) (by kernel_rfl) (by kernel_rfl) (fun _ _ _ h => h) (by kernel_rfl) (fun w hSw => (by obtain ⟨q0, q1⟩ := HP.out w hSw; have q2 := HP1.out w hSw; go_simp; try with_reducible rfl)) hHeld ?_
            simp only [Act.put, List.setIfInBounds_toArray, List.set_cons_zero, List.set_cons_succ]
            refine heldTake (i := 13) 69 (v := ?_) rfl rfl (by kernel_rfl) (by kernel_rfl) (by kernel_rfl) (fun _ _ _ h => h) (by kernel_rfl) (fun w hSw => (by obtain ⟨q0, q1⟩ := HP.out w hSw; have q2 := HP1.out w hSw; go_simp; try with_reducible rfl)) hHeld ?_
            simp only [Act.put, List.setIfInBounds_toArray, List.set_cons_zero, List.set_cons_succ]
            refine heldTake (i := 14) 70 (v := ?_) rfl rfl (by kernel_rfl) (by kernel_rfl) (by kernel_rfl) (fun _ _ _ h => h) (by kernel_rfl) (fun w hSw => (by obtain ⟨q0, q1⟩ := HP.out w hSw; have q2 := HP1.out w hSw; go_simp; try with_reducible rfl)) hHeld ?_
            simp only [Act.put, List.setIfInBounds_toArray, List.set_cons_zero, List.set_cons_succ]
            refine heldTake (i := 15) 71 (v := ?_) rfl rfl (by kernel_rfl) (by kernel_rfl) (by kernel_rfl) (fun _ _ _ h => h) (by kernel_rfl) (fun w hSw => (by obtain ⟨q0, q1⟩ := HP.out w hSw; have q2 := HP1.out w hSw; go_simp; try with_reducible rfl)) hHeld ?_
            simp only [Act.put, List.setIfInBounds_toArray, List.set_cons_zero, List.set_cons_succ]
            refine heldTake (i := 16) 72 (v := ?_) rfl rfl (by kernel_rfl) (by kernel_rfl) (by kernel_rfl) (fun _ _ _ h => h) (by kernel_rfl) (fun w hSw => (by obtain ⟨q0, q1⟩ := HP.out w hSw; have q2 := HP1.out w hSw; go_simp; try with_reducible rfl)) hHeld ?_
            simp only [Act.put, List.setIfInBounds_toArray, List.set_cons_zero, List.set_cons_succ]
            refine heldTake (i := 17) 73 (v := ?_) rfl rfl (by kernel_rfl) (by kernel_rfl) (by kernel_rfl) (fun _ _ _ h => h) (by kernel_rfl) (fun w hSw => (by obtain ⟨q0, q1⟩ := HP.out w hSw; have q2 := HP1.out w hSw; go_simp; try with_reducible rfl)) hHeld ?_
            simp only [Act.put, List.setIfInBounds_toArray, List.set_cons_zero, List.set_cons_succ]
            refine heldTake (i := 18) 74 (v := ?_) rfl rfl (by kernel_rfl) (by kernel_rfl) (by kernel_rfl) (fun _ _ _ h => h) (by kernel_rfl) (fun w hSw => (by obtain ⟨q0, q1⟩ := HP.out w hSw; have q2 := HP1.out w hSw; go_simp; try with_reducible rfl)) hHeld ?_
            simp only [Act.put, List.setIfInBounds_toArray, List.set_cons_zero, List.set_cons_succ]
            refine heldTake (i := 19) 75 (v := ?_) rfl rfl (by kernel_rfl) (by kernel_rfl) (by kernel_rfl) (fun _ _ _ h => h) (by kernel_rfl) (fun w hSw => (by obtain ⟨q0, q1⟩ := HP.out w hSw; have q2 := HP1.out w hSw; go_simp; try with_reducible rfl)) hHeld ?_
            simp only [Act.put, List.setIfInBounds_toArray, List.set_cons_zero, List.set_cons_succ]
            refine heldTake (i := 20) 76 (v := ?_) rfl rfl (by kernel_rfl) (by kernel_rfl) (by kernel_rfl) (fun _ _ _ h => h) (by kernel_rfl) (fun w hSw => (by obtain ⟨q0, q1⟩ := HP.out w hSw; have q2 := HP1.out w hSw; go_simp; try with_reducible rfl)) hHeld ?_
            simp only [Act.put, List.setIfInBounds_toArray, List.set_cons_zero, List.set_cons_succ]
            refine heldTake (i := 22) 78 (v := ?_) rfl rfl (by kernel_rfl) (by kernel_rfl) (by kernel_rfl) (fun _ _ _ h => h) (by kernel_rfl) (fun w hSw => (by obtain ⟨q0, q1⟩ := HP.out w hSw; have q2 := HP1.out w hSw; go_simp; try with_reducible rfl)) hHeld ?_
            simp only [Act.put, List.setIfInBounds_toArray, List.set_cons_zero, List.set_cons_succ]
            refine heldOne (i := 21) rfl (by kernel_rfl) (fun K hK => ?_)
            go_simp
            go_wp2_with ((go_at_call 13; refine Calls.mono (HC13.out _ hHeld) ?_; rintro e w8 ⟨rfl, rfl⟩))
            refine hK.out _ _ hHeld ?_
            clear hK K
            refine heldTake (i := 23) 79 (v := ?_) rfl rfl (by kernel_rfl) (by kernel_rfl) (by kernel_rfl) (fun _ _ _ h => h) (by kernel_rfl) (fun w hSw => (by obtain ⟨q0, q1⟩ := HP.out w hSw; have q2 := HP1.out w hSw; go_simp; try with_reducible rfl)) hHeld ?_
            simp only [Act.put, List.setIfInBounds_toArray, List.set_cons_zero, List.set_cons_succ]
            refine heldTake (i := 24) 80 (v := ?_) rfl rfl (by kernel_rfl) (by kernel_rfl) (by kernel_rfl) (fun _ _ _ h => h) (by kernel_rfl) (fun w hSw => (by obtain ⟨q0, q1⟩ := HP.out w hSw; have q2 := HP1.out w hSw; go_simp; try with_reducible rfl)) hHeld ?_
            simp only [Act.put, List.setIfInBounds_toArray, List.set_cons_zero, List.set_cons_succ]
            refine heldTake (i := 25) 81 (v := ?_) rfl rfl (by kernel_rfl) (by kernel_rfl) (by kernel_rfl) (fun _ _ _ h => h) (by kernel_rfl) (fun w hSw => (by obtain ⟨q0, q1⟩ := HP.out w hSw; have q2 := HP1.out w hSw; go_simp; try with_reducible rfl)) hHeld ?_
            simp only [Act.put, List.setIfInBounds_toArray, List.set_cons_zero, List.set_cons_succ]
            refine heldTake (i := 26) 82 (v := ?_) rfl rfl (by kernel_rfl) (by kernel_rfl) (by kernel_rfl) (fun _ _ _ h => h) (by kernel_rfl) (fun w hSw => (by obtain ⟨q0, q1⟩ := HP.out w hSw; have q2 := HP1.out w hSw; go_simp; try with_reducible rfl)) hHeld ?_
            simp only [Act.put, List.setIfInBounds_toArray, List.set_cons_zero, List.set_cons_succ]
            refine heldTake (i := 27) 83 (v := ?_) rfl rfl (by kernel_rfl) (by kernel_rfl) (by kernel_rfl) (fun _ _ _ h => h) (by kernel_rfl) (fun w hSw => (by obtain ⟨q0, q1⟩ := HP.out w hSw; have q2 := HP1.out w hSw; go_simp; try with_reducible rfl)) hHeld ?_
            simp only [Act.put, List.setIfInBounds_toArray, List.set_cons_zero, List.set_cons_succ]
            refine heldTake (i := 28) 84 (v := ?_) rfl rfl (by kernel_rfl) (by kernel_rfl) (by kernel_rfl) (fun _ _ _ h => h) (by kernel_rfl) (fun w hSw => (by obtain ⟨q0, q1⟩ := HP.out w hSw; have q2 := HP1.out w hSw; go_simp; try with_reducible rfl)) hHeld ?_
            simp only [Act.put, List.setIfInBounds_toArray, List.set_cons_zero, List.set_cons_succ]
            refine heldTake (i := 29) 85 (v := ?_) rfl rfl (by kernel_rfl) (by kernel_rfl) (by kernel_rfl) (fun _ _ _ h => h) (by kernel_rfl) (fun w hSw => (by obtain ⟨q0, q1⟩ := HP.out w hSw; have q2 := HP1.out w hSw; go_simp; try with_reducible rfl)) hHeld ?_
            simp only [Act.put, List.setIfInBounds_toArray, List.set_cons_zero, List.set_cons_succ]
            refine heldTake (i := 30) 86 (v := ?_) rfl rfl (by kernel_rfl) (by kernel_rfl) (by kernel_rfl) (fun _ _ _ h => h) (by kernel_rfl) (fun w hSw => (by obtain ⟨q0, q1⟩ := HP.out w hSw; have q2 := HP1.out w hSw; go_simp; try with_reducible rfl)) hHeld ?_
            simp only [Act.put, List.setIfInBounds_toArray, List.set_cons_zero, List.set_cons_succ]
            refine heldTake (i := 31) 87 (v := ?_) rfl rfl (by kernel_rfl) (by kernel_rfl) (by kernel_rfl) (fun _ _ _ h => h) (by kernel_rfl) (fun w hSw => (by obtain ⟨q0, q1⟩ := HP.out w hSw; have q2 := HP1.out w hSw; go_simp; try with_reducible rfl)) hHeld ?_
            simp only [Act.put, List.setIfInBounds_toArray, List.set_cons_zero, List.set_cons_succ]
            refine heldTake (i := 32) 88 (v := ?_) rfl rfl (by kernel_rfl) (by kernel_rfl) (by kernel_rfl) (fun _ _ _ h => h) (by kernel_rfl) (fun w hSw => (by obtain ⟨q0, q1⟩ := HP.out w hSw; have q2 := HP1.out w hSw; go_simp; try with_reducible rfl)) hHeld ?_
            simp only [Act.put, List.setIfInBounds_toArray, List.set_cons_zero, List.set_cons_succ]
            refine heldTake (i := 33) 89 (v := ?_) rfl rfl (by kernel_rfl) (by kernel_rfl) (by kernel_rfl) (fun _ _ _ h => h) (by kernel_rfl) (fun w hSw => (by obtain ⟨q0, q1⟩ := HP.out w hSw; have q2 := HP1.out w hSw; go_simp; try with_reducible rfl)) hHeld ?_
            simp only [Act.put, List.setIfInBounds_toArray, List.set_cons_zero, List.set_cons_succ]
            refine heldTake (i := 34) 90 (v := ?_) rfl rfl (by kernel_rfl) (by kernel_rfl) (by kernel_rfl) (fun _ _ _ h => h) (by kernel_rfl) (fun w hSw => (by obtain ⟨q0, q1⟩ := HP.out w hSw; have q2 := HP1.out w hSw; go_simp; try with_reducible rfl)) hHeld ?_
            simp only [Act.put, List.setIfInBounds_toArray, List.set_cons_zero, List.set_cons_succ]
            refine heldTake (i := 35) 91 (v := ?_) rfl rfl (by kernel_rfl) (by kernel_rfl) (by kernel_rfl) (fun _ _ _ h => h) (by kernel_rfl) (fun w hSw => (by obtain ⟨q0, q1⟩ := HP.out w hSw; have q2 := HP1.out w hSw; go_simp; try with_reducible rfl)) hHeld ?_
            simp only [Act.put, List.setIfInBounds_toArray, List.set_cons_zero, List.set_cons_succ]
            refine heldTake (i := 36) 92 (v := ?_) rfl rfl (by kernel_rfl) (by kernel_rfl) (by kernel_rfl) (fun _ _ _ h => h) (by kernel_rfl) (fun w hSw => (by obtain ⟨q0, q1⟩ := HP.out w hSw; have q2 := HP1.out w hSw; go_simp; try with_reducible rfl)) hHeld ?_
            simp only [Act.put, List.setIfInBounds_toArray, List.set_cons_zero, List.set_cons_succ]
            refine heldTake (i := 37) 93 (v := ?_) rfl rfl (by kernel_rfl) (by kernel_rfl) (by kernel_rfl) (fun _ _ _ h => h) (by kernel_rfl) (fun w hSw => (by obtain ⟨q0, q1⟩ := HP.out w hSw; have q2 := HP1.out w hSw; go_simp; try with_reducible rfl)) hHeld ?_
            simp only [Act.put, List.setIfInBounds_toArray, List.set_cons_zero, List.set_cons_succ]
            refine heldTake (i := 38) 94 (v := ?_) rfl rfl (by kernel_rfl) (by kernel_rfl) (by kernel_rfl) (fun _ _ _ h => h) (by kernel_rfl) (fun w hSw => (by obtain ⟨q0, q1⟩ := HP.out w hSw; have q2 := HP1.out w hSw; go_simp; try with_reducible rfl)) hHeld ?_
            simp only [Act.put, List.setIfInBounds_toArray, List.set_cons_zero, List.set_cons_succ]
            refine heldTake (i := 39) 95 (v := ?_) rfl rfl (by kernel_rfl) (by kernel_rfl) (by kernel_rfl) (fun _ _ _ h => h) (by kernel_rfl) (fun w hSw => (by obtain ⟨q0, q1⟩ := HP.out w hSw; have q2 := HP1.out w hSw; go_simp; try with_reducible rfl)) hHeld ?_
            simp only [Act.put, List.setIfInBounds_toArray, List.set_cons_zero, List.set_cons_succ]
            refine heldTake (i := 40) 96 (v := ?_) rfl rfl (by kernel_rfl) (by kernel_rfl) (by kernel_rfl) (fun _ _ _ h => h) (by kernel_rfl) (fun w hSw => (by obtain ⟨q0, q1⟩ := HP.out w hSw; have q2 := HP1.out w hSw; go_simp; try with_reducible rfl)) hHeld ?_
            simp only [Act.put, List.setIfInBounds_toArray, List.set_cons_zero, List.set_cons_succ]
            refine wpAnyH_done (by kernel_rfl) ?_ _
            clear HC13 HP HP1
            have HF8 : Hd (Fr (fun _ => False) w7 _) := hHeld
            clear hHeld
            go_wp2_with fail
            go_roundw
            case measure => simp; omega
            case rel => exact ⟨i + 1, by simp, by omega, HF8.out⟩
        · have d2 : decide ((i : Int) < ((memX N of c).length : Int)) = false := by simp; omega
          have d2n : ¬ i < (memX N of c).length := hlti
          obtain ⟨X2, hX2⟩ : ∃ X2, X2 = cntX N of (c + 1) := ⟨_, rfl⟩
          have qC : (C : Int) + ((memX N of c).length : Int) = (X2 : Int) := by have := HCX.out.1; omega
          have hXb : X2 ≤ 65535 := by have := HCX.out.2; omega
          have qCw : wrap64 (X2 : Int) = (X2 : Int) := w64s (X2 : Int) (by omega) (by omega)
          have HXE : Hd (X2 = cntX N of (c + 1)) := hX2
          have HF8 : Hd (Fr (fun _ => False) w3 wr) := HF7.out.trans HF.out
          clear hlti HF HLD hX2 HCX
          go_wp2_with fail
          go_roundw
          case measure => have := HLTC.out; simp; omega
          case rel => exact ⟨c + 1, by simp, by rw [← HXE.out], by have := HLTC.out; omega, HF8.out⟩
    · have d1 : decide ((c : Int) < (n : Int)) = false := by simp; omega
      have d1n : ¬ c < n := hlt
      have hcC : cntX N of c = N := by
        have : c = n := by omega
        rw [this]
        exact cntX_all HGP.out.lt
      rw [hcC]
      have HC24 : Hd (Calls Tryd.prog 24 #[.agg #[vI G, .slice a0 N cp0]] wr (ClE fs wr)) := HCL.out wr HF.out
      obtain ⟨c0, c1⟩ := HBX.out wr HF.out
      have nn : ((N : Int) != (N : Int)) = false := by simp
      clear hlt hcC HCL
      go_wp2_with fail
      refine Calls.mono HLN.out ?_
      rintro e w5 ⟨rfl, rfl⟩
      clear HLN
      go_wp2_with fail
      refine Calls.mono HC24.out ?_
      rintro e wg ⟨lv, rfl, hlb, hFg⟩
      have hlb2 : LB wg.heap.size wg lv (zLs N (clX fs)) := by have := hlb; rw [HNN.out] at this; exact this
      obtain ⟨ck, co, cc, elv⟩ := hlb2.some (by omega)
      subst elv
      have HGP2 : Hd (Rg N (clX fs) n of) := HGP.out.toRg
      have HFG : Hd (Fr (fun _ => False) w3 wg) := HF.out.trans hFg
      have HLB : Hd (∀ W, Fr (fun _ => False) wg W → LB W.heap.size W (.slice (some ⟨ck, co, none⟩) N cc) (zLs N (clX fs))) := fun W fW => (hlb2.fr (Nat.le_refl _) fW (fun _ _ e => e)).up fW.size
      have HOF : Hd (∀ x, x < N → ∀ W, Fr (fun _ => False) wg W → Calls Tryd.prog 13 #[.pointer (some ⟨b, 0, none⟩), vI (x : Int)] W fun e w' => e = .returned (vI (of x : Nat)) ∧ w' = W) := fun x hx W fW => of_any x (HGA.out W (HFG.out.trans fW)) hx (by omega)
      have HBG : Hd (∀ W, Fr (fun _ => False) wg W → W.cell? ⟨H, 1, none⟩ = some (.slice a0 N cp0)) := fun W fW => (HBX.out W (HFG.out.trans fW)).2
      have HEN : Hd (∀ W, Fr (fun _ => False) wg W → Fr (fun _ => False) w W) := fun W fW => (HF3.out.trans HFG.out).trans fW
      have HS0 : Hd (LOb N (clX fs) wg wg.heap.size (.slice none 0 0) [] ∧ Fr (fun _ => False) wg wg) := ⟨⟨World.ownsRow_nil _ _ _ _, fun i hi => by simp at hi⟩, Fr.refl _ _⟩
      generalize clX fs = cl at *
      clear hlb hlb2 hFg HC24 c0 c1 HF HGA HBX HGP HF3 HFG d1 d1n nn hcn
      go_wp2_with fail
      go_loopw [12, 13] (fun v12 v wx => ∃ (k : Nat) (us : List Value), v = .int .i64 k ∧ k ≤ N ∧ Hd (us.length = k ∧ LOb N cl wx wg.heap.size v12 us ∧ Fr (fun _ => False) wg wx)) (fun _ v _ => match v with | .int _ q => N - q.toNat | _ => 0)
      case atStart => exact ⟨0, [], by simp, Nat.zero_le _, rfl, HS0.out⟩
      case round =>
        clear HS0
        obtain ⟨k, us, rfl, hk, HS⟩ := hrel
        have c1 := HBG.out wr HS.out.2.2
        by_cases hlt : k < N
        · have d1 : decide ((k : Int) < (N : Int)) = true := by simp; omega
          have HRE : Hd (Calls Tryd.prog 25 #[.slice (some ⟨ck, co, none⟩) N cc, vI (k : Int)] wr (RcE N cl k wr)) := reached_any wr (HLB.out wr HS.out.2.2) HLT.out HLL.out (by omega) hlt
          have hul := HS.out.1
          obtain ⟨ra, rc, er⟩ := own_slice HS.out.2.1.row
          rw [hul] at er
          subst er
          clear hul
          go_wp2_with fail
          refine Calls.mono HRE.out ?_
          rintro e w5 ⟨vr, sn, rfl, hob, hsn, hF5⟩
          have HOB : Hd (OB w5 wg.heap.size vr N sn) := World.ownsRow.mono hob HS.out.2.2.size
          have HSN : Hd (∀ x, x < N → (sn x = true ↔ Rch cl k x)) := hsn
          have HS5 : Hd (us.length = k ∧ LOb N cl w5 wg.heap.size (.slice ra k rc) us ∧ Fr (fun _ => False) wg w5) := ⟨HS.out.1, HS.out.2.1.stay hF5, HS.out.2.2.trans hF5⟩
          clear hob hsn hF5 HRE HS c1
          have hCz : Fr (fun _ => False) w5 (w5.alloc (.cells #[vr] 56)) := Fr.alloc (Fr.refl _ w5) _
          have HFz : Hd (Fr (fun _ => False) w5 (w5.alloc (.cells #[vr] 56))) := hCz
          have HLz : Hd (LOb N cl (w5.alloc (.cells #[vr] 56)) wg.heap.size (.slice ra k rc) us) := HS5.out.2.1.stay hCz
          have HOz : Hd (OB (w5.alloc (.cells #[vr] 56)) wg.heap.size vr N sn) := HOB.out.stay hCz
          have HRW : Hd ((w5.alloc (.cells #[vr] 56)).ownsRow wg.heap.size 56 1 (.slice ra k rc) k us) := by have := HLz.out.row; rw [HS5.out.1] at this; exact this
          have HNW : Hd (∀ j' u, [vr][j']? = some u → (w5.alloc (.cells #[vr] 56)).cell? ((⟨w5.heap.size, 0, none⟩ : Addr).add j') = some u) := World.news_of_block (w := w5.alloc (.cells #[vr] 56)) (cs := #[vr]) (heap_new0 w5 _)
          have HBS : Hd (wg.heap.size ≤ (w5.alloc (.cells #[vr] 56)).heap.size) := by have := HS5.out.2.2.size; have := hCz.size; unfold Hd; omega
          have HGE : Hd (∀ q, (Value.slice ra k rc).ownBlock = some q → wg.heap.size ≤ q) := fun q e => (World.ownsRow.lt HRW.out q e).1
          obtain ⟨sa, sc, es⟩ := own_slice HOB.out
          subst es
          clear hCz
          go_wp2_with ((at_builtin; refine Hd.out ?_))
          unfold Hd
          obtain ⟨i3, hi3, hz3, hs3, hb3⟩ := info_parts (P := Tryd.prog) (e := 56) (z := .slice none 0 0) (size := 1) (bytes := 24) (by kernel_rfl)
          refine wpList_append_lies _ rfl (.tmp 118) (.tmp 120) 55 rfl wg.heap.size 56 i3 (.slice none 0 0) 1 24 under55 hi3 hz3 hs3 hb3 rfl (by omega) (.slice ra k rc) k _ rfl HRW.out ⟨w5.heap.size, 0, none⟩ 1 1 [.slice sa N sc] rfl rfl HNW.out (by intro u hu; rw [List.mem_singleton] at hu; rw [hu]; rfl) (by omega) (by unfold maxLen; omega) (by omega) HBS.out (w5.heap.size + 1) (by simp) ?_
          intro g6 cap6 w6 hown6 hgrow6 hat6 hlt6
          clear hi3 hz3 hs3 hb3
          have HS6 : Hd ((us ++ [Value.slice sa N sc]).length = k + 1 ∧ LOb N cl w6 wg.heap.size (.slice (some ⟨g6, 0, none⟩) (k + 1) cap6) (us ++ [.slice sa N sc]) ∧ Fr (fun _ => False) wg w6) := by
            refine ⟨by rw [List.length_append, HS5.out.1]; rfl, ?_, (HS5.out.2.2.trans HFz.out).then (grown_frL hgrow6) (fun q hq e => by have := HGE.out q e; omega)⟩
            have k1 := HLz.out.grow (g := g6) (cap := cap6) HOz.out (by rw [HS5.out.1]; exact HSN.out) hgrow6 (by rw [HS5.out.1]; exact hown6)
            rw [HS5.out.1] at k1
            exact k1
          clear hown6 hgrow6 hat6 hlt6 HRW HNW HBS HFz HLz HOz HOB HS5
          go_wp2_with fail
          go_roundw
          case measure => simp; omega
          case rel => exact ⟨k + 1, _, by simp, by omega, HS6.out⟩
        · have d1 : decide ((k : Int) < (N : Int)) = false := by simp; omega
          have d1n : ¬ k < N := hlt
          have hul : us.length = N := by have := HS.out.1; omega
          have HRD : Hd (∀ i, i < N → ∃ g c gi ci, ∃ sn : Nat → Bool, u12 = .slice (some ⟨g, 0, none⟩) N c ∧ (∀ W, Fr (fun _ => False) wr W → W.cell? ⟨g, i, none⟩ = some (.slice (some ⟨gi, 0, none⟩) N ci) ∧ ∀ x, x < N → W.cell? ⟨gi, x, none⟩ = some (.bool (sn x))) ∧ ∀ x, x < N → (sn x = true ↔ Rch cl i x)) := fun i hi => HS.out.2.1.at hul hi
          obtain ⟨wk, hwk⟩ : ∃ wk, wk = wr := ⟨_, rfl⟩
          rw [← hwk] at HRD c1 HS ⊢
          have HFK : Hd (Fr (fun _ => False) wg wk ∧ Fr (fun _ => False) wk wk) := ⟨HS.out.2.2, Fr.refl _ _⟩
          clear hlt hul HS hk hwk
          go_wp2_with fail
          go_loopw [15] (fun v wx => ∃ f : Nat, v = .int .i64 f ∧ f ≤ N ∧ Hd (Fr (fun _ => False) wk wx)) (fun v _ => match v with | .int _ q => N - q.toNat | _ => 0)
          case atStart => exact ⟨0, by simp, Nat.zero_le _, HFK.out.2⟩
          case round =>
            clear c1 d1 d1n
            obtain ⟨f, rfl, hf, HF⟩ := hrel
            have c1 := HBG.out wr (HFK.out.1.trans HF.out)
            by_cases hlt : f < N
            · have d1 : decide ((f : Int) < (N : Int)) = true := by simp; omega
              have HLF : Hd (f < N) := hlt
              have f1 : (f : Int) < N := by omega
              clear hlt
              go_wp2_with fail
              go_loopw [16] (fun v wx => ∃ h : Nat, v = .int .i64 h ∧ h ≤ N ∧ Hd (Fr (fun _ => False) wk wx)) (fun v _ => match v with | .int _ q => N - q.toNat | _ => 0)
              case atStart => exact ⟨0, by simp, Nat.zero_le _, HF.out⟩
              case round =>
                clear c1 HF
                obtain ⟨h, rfl, hh, HF⟩ := hrel
                have c1 := HBG.out wr (HFK.out.1.trans HF.out)
                by_cases hlt : h < N
                · have d2 : decide ((h : Int) < (N : Int)) = true := by simp; omega
                  obtain ⟨g, cap, gf, cf, snf, ev, hf1, hf2⟩ := HRD.out f HLF.out
                  obtain ⟨g', cap', gh, ch, snh, ev', hh1, hh2⟩ := HRD.out h hlt
                  have e3 : Value.slice (some ⟨g, 0, none⟩) N cap = .slice (some ⟨g', 0, none⟩) N cap' := ev.symm.trans ev'
                  cases e3
                  subst ev
                  clear ev'
                  obtain ⟨p1, p2⟩ := hf1 wr HF.out
                  obtain ⟨p3, p4⟩ := hh1 wr HF.out
                  have p2h := p2 h hlt
                  have p4f := p4 f HLF.out
                  have rf := hf2 h hlt
                  have rh := hh2 f HLF.out
                  have heq := HGP2.out.eq f h HLF.out hlt
                  have hdn := HGP2.out.dn f h HLF.out hlt
                  have HO1 : Hd (Calls Tryd.prog 13 #[.pointer (some ⟨b, 0, none⟩), vI (f : Int)] wr fun e w' => e = .returned (vI (of f : Nat)) ∧ w' = wr) := HOF.out f HLF.out wr (HFK.out.1.trans HF.out)
                  have HO2 : Hd (Calls Tryd.prog 13 #[.pointer (some ⟨b, 0, none⟩), vI (h : Int)] wr fun e w' => e = .returned (vI (of h : Nat)) ∧ w' = wr) := HOF.out h hlt wr (HFK.out.1.trans HF.out)
                  have f0 : (0 : Int) ≤ f := by omega
                  have h0' : (0 : Int) ≤ h := by omega
                  have h1' : (h : Int) < N := by omega
                  clear hf1 hf2 hh1 hh2 p2 p4
                  generalize of f = A at *
                  generalize of h = B at *
                  rw [← rf, ← rh] at heq
                  rw [← rf] at hdn
                  clear rf rh
                  have hAB : A ≤ 1000000 ∨ True := Or.inr trivial
                  clear hAB
                  cases ea : snf h with
                  | false =>
                    rw [ea] at p2h heq hdn
                    have t1 : ((A : Int) == (B : Int)) = false := by
                      have : ¬ A = B := fun e => by have := (heq.1 e).1; cases this
                      simp; omega
                    have t2 : ¬ A = B := fun e => by have := (heq.1 e).1; cases this
                    clear heq hdn ea hlt
                    go_wp2_with fail
                    refine Calls.mono HO1.out ?_
                    rintro e w5 ⟨rfl, rfl⟩
                    go_wp2_with fail
                    refine Calls.mono HO2.out ?_
                    rintro e w6 ⟨rfl, rfl⟩
                    clear HO1 HO2
                    go_wp2_with fail
                    go_roundw
                    case measure => simp; omega
                    case rel => exact ⟨h + 1, by simp, by omega, HF.out⟩
                  | true =>
                    rw [ea] at p2h heq hdn
                    have hle : B ≤ A := hdn rfl
                    have t3 : decide ((B : Int) > (A : Int)) = false := by simp; omega
                    have t3' : decide ((A : Int) < (B : Int)) = false := by simp; omega
                    have t3n : ¬ A < B := by omega
                    cases eb : snh f with
                    | false =>
                      rw [eb] at p4f heq
                      have t1 : ((A : Int) == (B : Int)) = false := by
                        have : ¬ A = B := fun e => by have := (heq.1 e).2; cases this
                        simp; omega
                      have t2 : ¬ A = B := fun e => by have := (heq.1 e).2; cases this
                      clear heq hdn ea eb hlt hle
                      go_wp2_with fail
                      refine Calls.mono HO1.out ?_
                      rintro e w5 ⟨rfl, rfl⟩
                      go_wp2_with fail
                      refine Calls.mono HO2.out ?_
                      rintro e w6 ⟨rfl, rfl⟩
                      go_wp2_with fail
                      refine Calls.mono HO2.out ?_
                      rintro e w7 ⟨rfl, rfl⟩
                      go_wp2_with fail
                      refine Calls.mono HO1.out ?_
                      rintro e w8 ⟨rfl, rfl⟩
                      clear HO1 HO2
                      go_wp2_with fail
                      go_roundw
                      case measure => simp; omega
                      case rel => exact ⟨h + 1, by simp, by omega, HF.out⟩
                    | true =>
                      rw [eb] at p4f heq
                      have hab : A = B := heq.2 ⟨rfl, rfl⟩
                      clear heq hdn ea eb hlt hle t3 t3' t3n
                      subst hab
                      have t1 : ((A : Int) == (A : Int)) = true := by simp
                      have t3 : decide ((A : Int) > (A : Int)) = false := by simp
                      have t3' : decide ((A : Int) < (A : Int)) = false := by simp
                      have t3n : ¬ A < A := by omega
                      go_wp2_with fail
                      refine Calls.mono HO1.out ?_
                      rintro e w5 ⟨rfl, rfl⟩
                      go_wp2_with fail
                      refine Calls.mono HO2.out ?_
                      rintro e w6 ⟨rfl, rfl⟩
                      go_wp2_with fail
                      refine Calls.mono HO2.out ?_
                      rintro e w7 ⟨rfl, rfl⟩
                      go_wp2_with fail
                      refine Calls.mono HO1.out ?_
                      rintro e w8 ⟨rfl, rfl⟩
                      clear HO1 HO2
                      go_wp2_with fail
                      go_roundw
                      case measure => simp; omega
                      case rel => exact ⟨h + 1, by simp, by omega, HF.out⟩
                · have d2 : decide ((h : Int) < (N : Int)) = false := by simp; omega
                  have d2n : ¬ h < N := hlt
                  clear hlt
                  go_wp2_with fail
                  go_roundw
                  case measure => have := HLF.out; simp; omega
                  case rel => exact ⟨f + 1, by simp, by have := HLF.out; omega, HF.out⟩
            · have d1 : decide ((f : Int) < (N : Int)) = false := by simp; omega
              have d1n : ¬ f < N := hlt
              have HEND : Hd (Fr (fun _ => False) w wr) := HEN.out wr (HFK.out.1.trans HF.out)
              clear hlt
              go_wp2_with fail
              go_ret
              exact ⟨rfl, HEND.out⟩
end Go.Proofs.YtjmbfjaahadbhaaDoor
