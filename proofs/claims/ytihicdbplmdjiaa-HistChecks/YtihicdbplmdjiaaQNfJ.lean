import Derived.Test.YtihicdbplmdjiaaQNdJ
import Derived.Carry
namespace Go.Proofs.Ytihicdbplmdjiaa
open Go.RowKit (wrap32 wrap64)
set_option linter.unusedVariables false
set_option linter.unusedSimpArgs false

set_option maxRecDepth 100000 in
set_option maxHeartbeats 4000000 in
/-- owns. -/
theorem owns_any (iv wv : Value) (his : List Mo) (os : List Int) (w : World) (hi : HAt2 w iv his) (hw : RowAt w wv (os.map vI)) (ho : OrdIs his os) (hl : os.length ≤ 64) :
    Calls Try.prog 18 #[iv, wv] w fun e w' => e = .returned (.bool true) ∧ Fr (fun _ => False) w w' := by
  have HOR : Hd (∀ W, Fr (fun _ => False) w W → Calls Try.prog 8 #[iv] W fun e w' => ∃ lv ok er, e = .returned (.tuple #[lv, .bool ok, vI er]) ∧ Fr (fun _ => False) W w' ∧ w'.ownsRow W.heap.size 3 1 lv os.length (os.map vI)) := fun W f => by
    refine (order8_any iv his W (hi.fr f)).mono ?_
    rintro _ w' ⟨lv, ok, er, rfl, hf, hE⟩
    exact ⟨lv, ok, er, rfl, hf, ho.own hE⟩
  have LV : Hd (∀ W, Calls Try.prog 10 #[] W fun e w' => e = .returned (.bool true) ∧ Fr (fun _ => False) W w') := lives_any
  have HEQ : Hd (∀ (W : World) (v1 v2 : Value), RowAt W v1 (os.map vI) → RowAt W v2 (os.map vI) → Calls Try.prog 14 #[v1, v2] W fun e w' => e = .returned (.bool true) ∧ Fr (fun _ => False) W w') := fun W v1 v2 q1 q2 => by
    have := eqInts_any v1 v2 os os W q1 q2 (by omega) (by omega)
    rw [show decide (os = os) = true by simp] at this
    exact this
  have HWV : Hd (RowAt w wv (os.map vI)) := hw
  obtain ⟨n, en⟩ : ∃ n, n = os.length := ⟨_, rfl⟩
  have EN : Hd (n = os.length) := en
  rw [← en] at HOR hl
  clear hi hw ho en
  go_enter Try.func18, Try.ntmps18
  go_upto_region 2 with (go_at_call 8; refine (HOR.out _ (Fr.refl _ w)).mono ?_; rintro _ w1 ⟨av, ok1, er1, rfl, hf1, hA⟩; have HF1 : Hd (Fr (fun _ => False) w w1) := hf1; have HA : Hd (w1.ownsRow w.heap.size 3 1 av n (os.map vI)) := hA; clear hf1 hA)
  go_upto_region 3 with (go_at_call 8; refine (HOR.out _ HF1.out).mono ?_; rintro _ w2 ⟨nv, ok2, er2, rfl, hf2, hN⟩; have HF2 : Hd (Fr (fun _ => False) w1 w2) := hf2; have HN : Hd (w2.ownsRow w1.heap.size 3 1 nv n (os.map vI)) := hN; clear hf2 hN)
  go_upto_region 4 with (go_at_call 10; refine (LV.out _).mono ?_; rintro _ w3 ⟨rfl, hf3⟩; have HF3 : Hd (Fr (fun _ => False) w2 w3) := hf3; clear hf3)
  go_upto_region 5 with (go_at_call 8; refine (HOR.out _ (HF1.out.trans (HF2.out.trans HF3.out))).mono ?_; rintro _ w4 ⟨bv, ok4, er4, rfl, hf4, hB⟩; have HF4 : Hd (Fr (fun _ => False) w3 w4) := hf4; have HBv : Hd (w4.ownsRow w3.heap.size 3 1 bv n (os.map vI)) := hB; clear hf4 hB)
  have hra : ∀ {W : World} {B : Nat} {v : Value}, W.ownsRow B 3 1 v n (os.map vI) → RowAt W v (os.map vI) := fun h => ownsRow_ra h (by rw [List.length_map]; exact EN.out)
  have HRA : Hd (∀ {W : World} {B : Nat} {v : Value}, W.ownsRow B 3 1 v n (os.map vI) → RowAt W v (os.map vI)) := hra
  have HR4 : Hd (RowAt w4 av (os.map vI) ∧ RowAt w4 nv (os.map vI) ∧ RowAt w4 bv (os.map vI) ∧ RowAt w4 wv (os.map vI) ∧ Fr (fun _ => False) w w4 ∧ w4.ownsRow w.heap.size 3 1 av n (os.map vI)) := by
    have f14 := (HF2.out.trans HF3.out).trans HF4.out
    exact ⟨hra (ownsRow_fr HA.out f14 (fun _ _ e => e)), (hra HN.out).fr (HF3.out.trans HF4.out) (fun _ _ _ e => e), hra HBv.out, HWV.out.fr (HF1.out.trans f14) (fun _ _ _ e => e), HF1.out.trans f14, ownsRow_fr HA.out f14 (fun _ _ e => e)⟩
  -- where the other lists lie
  have HLOC : Hd ((∀ q, av.ownBlock = some q → w.heap.size ≤ q ∧ q < w1.heap.size) ∧ (∀ q, nv.ownBlock = some q → w1.heap.size ≤ q ∧ q < w4.heap.size) ∧ (∀ q, bv.ownBlock = some q → w1.heap.size ≤ q ∧ q < w4.heap.size)) := by
    have s2 := HF2.out.size
    have s3 := HF3.out.size
    have s4 := HF4.out.size
    exact ⟨fun q e => World.ownsRow.lt HA.out q e, fun q e => by have := World.ownsRow.lt HN.out q e; omega, fun q e => by have := World.ownsRow.lt HBv.out q e; omega⟩
  clear hra HA HN HBv HF1 HF2 HF3 HF4 LV
  have HG : Hd (Fr (fun _ => False) w4 w4) := Fr.refl _ _
  go_upto_region 9 with (go_at_call 14; refine (HEQ.out _ _ _ (by first | exact HR4.out.1.fr HG.out (fun _ _ _ e => e) | exact HR4.out.2.1.fr HG.out (fun _ _ _ e => e) | exact HR4.out.2.2.1.fr HG.out (fun _ _ _ e => e)) (HR4.out.2.2.2.1.fr HG.out (fun _ _ _ e => e))).mono ?_; rintro _ w5 ⟨rfl, hf5⟩; replace HG : Hd (Fr _ _ _) := HG.out.trans hf5; clear hf5)
  have HL0 : Hd (Fr (fun q => av.ownBlock = some q) w4 w5 ∧ w5.ownsRow w.heap.size 3 1 av (n + 0) (os.map vI ++ mkF 0) ∧ (∀ q, av.ownBlock = some q → av.ownBlock = some q ∨ w4.heap.size ≤ q) ∧ w5.ownsRow w.heap.size 3 1 av n (os.map vI)) := by
    have := ownsRow_fr HR4.out.2.2.2.2.2 HG.out (fun _ _ e => e)
    exact ⟨HG.out.mono (fun _ _ e => e.elim), by simpa [mkF] using this, fun q e => Or.inl e, this⟩
  have HSZ : Hd (w.heap.size ≤ w4.heap.size) := HR4.out.2.2.2.2.1.size
  clear HG
  go_loopw [15, 16] (fun v15 v16 wr => ∃ j : Nat, v16 = vI j ∧ j ≤ 64 ∧ Hd (Fr (fun q => av.ownBlock = some q) w4 wr ∧ wr.ownsRow w.heap.size 3 1 v15 (n + j) (os.map vI ++ mkF j) ∧ (∀ q, v15.ownBlock = some q → av.ownBlock = some q ∨ w4.heap.size ≤ q) ∧ wr.ownsRow w.heap.size 3 1 av n (os.map vI))) (fun _ v _ => match v with | .int _ q => 64 - q.toNat | _ => 0)
  case atStart => exact ⟨0, rfl, by omega, HL0.out⟩
  case round =>
    clear HL0
    obtain ⟨j, rfl, hj, HJ⟩ := hrel
    by_cases hj64 : j < 64
    · have j0 : (0 : Int) ≤ j := by omega
      have j1 : (j : Int) < 64 := by omega
      obtain ⟨g1, c1, w6, hr6, ho6, ha6, hf6, hg6⟩ := app_keeps (z := -24 - (j : Int)) HJ.out.2.1 HJ.out.2.2.2 (by omega) (by have := HJ.out.1.size; have := HSZ.out; omega) (by omega)
      have HA : Hd ((Builtin.append_ #[25, 25] 25 #[u15, .slice (some ⟨wr.heap.size, 0, none⟩) 1 1]).run Try.prog (wr.alloc (.cells #[vI (-24 - (j : Int))] 3)) = .ok (.slice (some ⟨g1, 0, none⟩) (n + j + 1) c1) w6) := hr6
      have HN : Hd (Fr (fun q => av.ownBlock = some q) w4 w6 ∧ w6.ownsRow w.heap.size 3 1 (.slice (some ⟨g1, 0, none⟩) (n + j + 1) c1) (n + (j + 1)) (os.map vI ++ mkF (j + 1)) ∧ (∀ q, (Value.slice (some ⟨g1, 0, none⟩) (n + j + 1) c1).ownBlock = some q → av.ownBlock = some q ∨ w4.heap.size ≤ q) ∧ w6.ownsRow w.heap.size 3 1 av n (os.map vI)) := by
        refine ⟨⟨hf6.os.trans HJ.out.1.os, hf6.tape.trans HJ.out.1.tape, hf6.output.trans HJ.out.1.output, Nat.le_trans HJ.out.1.size hf6.size, fun q hq hne => ?_⟩, ?_, fun q hq => ?_, ha6⟩
        · refine (hf6.block q (Nat.lt_of_lt_of_le hq HJ.out.1.size) (fun e => ?_)).trans (HJ.out.1.block q hq hne)
          rcases HJ.out.2.2.1 q e with e2 | e2
          · exact hne e2
          · omega
        · rw [mkF_succ, ← List.append_assoc]; exact ho6
        · have hqg : q = g1 := by simpa [Value.ownBlock] using hq.symm
          subst hqg
          rcases hg6 with e | e
          · exact HJ.out.2.2.1 q e
          · right; have := HJ.out.1.size; omega
      clear hr6 ho6 ha6 hf6 hg6
      go_wp2_with (at_builtin; refine wpList_append_run rfl (.tmp 66) (.tmp 69) 25 rfl _ _ _ rfl rfl HA.out ?_)
      exact ⟨⟨j + 1, by simp, by omega, HN.out⟩, by simp; omega⟩
    · have hj2 : j = 64 := by omega
      subst hj2
      have j2 : ¬ ((64 : Nat) : Int) < 64 := by omega
      obtain ⟨gf, cf, rfl, hcf, -⟩ := own_some HJ.out.2.1 (by omega)
      obtain ⟨aa, ac, eav⟩ : ∃ a c, av = .slice a n c := row_val HJ.out.2.2.2
      have HK0 : Hd (Fr (fun q => av.ownBlock = some q) w4 wr ∧ (∃ xs, xs.length = n ∧ wr.ownsRow w.heap.size 3 1 (.slice (some ⟨gf, 0, none⟩) (n + 64) cf) (n + 64) (xs ++ mkF 64)) ∧ (∀ q, (Value.slice (some ⟨gf, 0, none⟩) (n + 64) cf).ownBlock = some q → av.ownBlock = some q ∨ w4.heap.size ≤ q) ∧ ∃ ys, wr.ownsRow w.heap.size 3 1 av n ys) := ⟨HJ.out.1, ⟨os.map vI, by rw [List.length_map]; exact EN.out.symm, HJ.out.2.1⟩, HJ.out.2.2.1, _, HJ.out.2.2.2⟩
      have HCF : Hd (n + 64 ≤ cf) := hcf
      subst eav
      clear HJ hcf
      go_upto_region 13 with fail
      go_loopw [17] (fun v17 wr => ∃ i : Nat, v17 = vI i ∧ i ≤ n ∧ Hd (Fr (fun q => (Value.slice aa n ac).ownBlock = some q) w4 wr ∧ (∃ xs, xs.length = n ∧ wr.ownsRow w.heap.size 3 1 (.slice (some ⟨gf, 0, none⟩) (n + 64) cf) (n + 64) (xs ++ mkF 64)) ∧ (∀ q, (Value.slice (some ⟨gf, 0, none⟩) (n + 64) cf).ownBlock = some q → (Value.slice aa n ac).ownBlock = some q ∨ w4.heap.size ≤ q) ∧ ∃ ys, wr.ownsRow w.heap.size 3 1 (.slice aa n ac) n ys)) (fun v _ => match v with | .int _ q => n - q.toNat | _ => 0)
      case atStart => exact ⟨0, rfl, by omega, HK0.out⟩
      case round =>
        clear HK0
        obtain ⟨i, rfl, hi, HK⟩ := hrel
        by_cases hin : i < n
        · have i0 : (0 : Int) ≤ i := by omega
          have i1 : (i : Int) < n := by omega
          obtain ⟨k1, ⟨xs, k2, k3⟩, k4, ys, k5⟩ := HK.out
          obtain ⟨ga, ca, ea, -, hga⟩ := own_some k5 (by omega)
          cases ea
          obtain ⟨c1, c2⟩ := row_cell k5 i hin
          have hys : ys.length = n := by have := k5.1; omega
          rw [List.getElem?_eq_getElem (by omega)] at c1
          have HN : Hd (Fr (fun q => (Value.slice (some ⟨ga, 0, none⟩) n ac).ownBlock = some q) w4 (wr.setCell ⟨ga, i, none⟩ (vI (-23))) ∧ (∃ xs, xs.length = n ∧ (wr.setCell ⟨ga, i, none⟩ (vI (-23))).ownsRow w.heap.size 3 1 (.slice (some ⟨gf, 0, none⟩) (n + 64) cf) (n + 64) (xs ++ mkF 64)) ∧ (∀ q, (Value.slice (some ⟨gf, 0, none⟩) (n + 64) cf).ownBlock = some q → (Value.slice (some ⟨ga, 0, none⟩) n ac).ownBlock = some q ∨ w4.heap.size ≤ q) ∧ ∃ ys, (wr.setCell ⟨ga, i, none⟩ (vI (-23))).ownsRow w.heap.size 3 1 (.slice (some ⟨ga, 0, none⟩) n ac) n ys) := by
            refine ⟨k1.setCell _ _ (Or.inl rfl), ?_, k4, _, own_put k5 i hin _⟩
            by_cases hgg : gf = ga
            · subst hgg
              refine ⟨xs.set i (vI (-23)), by rw [List.length_set]; exact k2, ?_⟩
              have := own_put k3 i (by omega) (vI (-23))
              rwa [List.set_append_left _ _ (by omega)] at this
            · refine ⟨xs, k2, ownsRow_fr k3 (S := fun q => q = ga) ((Fr.refl _ wr).setCell _ _ (Or.inl rfl)) (fun q e e2 => hgg ?_)⟩
              have : gf = q := by simpa [Value.ownBlock] using e
              omega
          obtain ⟨y, ey⟩ : ∃ y, y = ys[i]'(by omega) := ⟨_, rfl⟩
          rw [← ey] at c1
          clear HK k1 k2 k3 k4 k5 hga ey
          go_wp2_with fail
          exact ⟨⟨i + 1, by simp, by omega, HN.out⟩, by simp; omega⟩
        · have i2 : ¬ (i : Int) < n := by omega
          obtain ⟨k1, ⟨xs, k2, k3⟩, -, -⟩ := HK.out
          obtain ⟨W5, eW5⟩ : ∃ W5, W5 = wr := ⟨_, rfl⟩
          rw [← eW5] at k1 k3
          have HC3 : Hd (∀ j, j < 64 → ∀ W, Fr (fun _ => False) W5 W → W.cell? ⟨gf, n + j, none⟩ = some (vI (-24 - (j : Int)))) := fun j hj W f => by
            have h1 := (row_cell k3 (n + j) (by omega)).1
            rw [List.getElem?_append_right (by omega), k2, show n + j - n = j by omega] at h1
            have h2 : (mkF 64)[j]? = some (vI (-24 - (j : Int))) := by unfold mkF; rw [List.getElem?_map, List.getElem?_range hj]; rfl
            rw [h2] at h1
            exact (f.cell (cell_lt h1) (fun e => e)).trans h1
          have hfw : Fr (fun _ => False) w W5 := HR4.out.2.2.2.2.1.under k1 (fun q e => (HLOC.out.1 q e).1)
          have HR5 : Hd (RowAt W5 nv (os.map vI) ∧ RowAt W5 bv (os.map vI) ∧ RowAt W5 wv (os.map vI) ∧ Fr (fun _ => False) w W5) := by
            refine ⟨HR4.out.2.1.fr k1 (fun q e _ e2 => ?_), HR4.out.2.2.1.fr k1 (fun q e _ e2 => ?_), HWV.out.fr hfw (fun _ _ _ e => e), hfw⟩
            · have := (HLOC.out.1 q e2).2; have := (HLOC.out.2.1 q e).1; omega
            · have := (HLOC.out.1 q e2).2; have := (HLOC.out.2.2 q e).1; omega
          rw [← eW5]
          clear HK k1 k2 k3 hfw eW5 HR4 HLOC HWV HSZ
          have q5 : (n : Int) + 64 ≤ cf := by have := HCF.out; omega
          go_upto_region 17 with fail
          go_loopw [18] (fun v18 w2 => ∃ j : Nat, v18 = vI j ∧ j ≤ 64 ∧ Hd (Fr (fun _ => False) W5 w2)) (fun v _ => match v with | .int _ q => 64 - q.toNat | _ => 0)
          case atStart => exact ⟨0, rfl, by omega, Fr.refl _ _⟩
          case round =>
            obtain ⟨j, rfl, hj, HW⟩ := hrel
            by_cases hj64 : j < 64
            · have j0 : (0 : Int) ≤ j := by omega
              have j1 : (j : Int) < 64 := by omega
              have c1 := HC3.out j hj64 wr HW.out
              have c2 : wr.cell? ⟨gf, ((n : Int) + j).toNat, none⟩ = some (vI (-24 - (j : Int))) := by rw [show ((n : Int) + j).toNat = n + j by omega]; exact c1
              have r0 : (0 : Int) ≤ (n : Int) + j := by omega
              have r1 : (n : Int) + j < (n : Int) + 64 := by omega
              have hee : ((-24 - (j : Int)) == (-24 - (j : Int))) = true := by simp
              go_wp2_with fail
              exact ⟨⟨j + 1, by simp, by omega, HW.out⟩, by simp; omega⟩
            · have j2 : ¬ (j : Int) < 64 := by omega
              have HG : Hd (Fr (fun _ => False) W5 wr) := HW.out
              clear HW HC3
              go_upto_region 23 with (go_at_call 14; refine (HEQ.out _ _ _ (by first | exact HR5.out.1.fr HG.out (fun _ _ _ e => e) | exact HR5.out.2.1.fr HG.out (fun _ _ _ e => e)) (HR5.out.2.2.1.fr HG.out (fun _ _ _ e => e))).mono ?_; rintro _ w8 ⟨rfl, hf8⟩; replace HG : Hd (Fr _ _ _) := HG.out.trans hf8; clear hf8)
              go_upto_region 24 with (go_at_call 8; refine (HOR.out _ (HR5.out.2.2.2.trans HG.out)).mono ?_; rintro _ w9 ⟨cv, ok9, er9, rfl, hf9, hC⟩; replace HG : Hd (Fr _ _ _) := HG.out.trans hf9; have HCv : Hd (RowAt w9 cv (os.map vI)) := HRA.out hC; clear hf9 hC)
              have HG9 : Hd (Fr (fun _ => False) w9 w9) := Fr.refl _ _
              go_wp2_with (go_at_call 14; refine (HEQ.out _ _ _ (by first | exact HCv.out.fr HG9.out (fun _ _ _ e => e) | exact HR5.out.1.fr HG.out (fun _ _ _ e => e) | exact HR5.out.2.1.fr HG.out (fun _ _ _ e => e)) (HR5.out.2.2.1.fr HG.out (fun _ _ _ e => e))).mono ?_; rintro _ w8 ⟨rfl, hf8⟩; replace HG : Hd (Fr _ _ _) := HG.out.trans hf8; replace HG9 : Hd (Fr _ _ _) := HG9.out.trans hf8; clear hf8)
              go_ret
              exact ⟨by simp, HR5.out.2.2.2.trans HG.out⟩
end Go.Proofs.Ytihicdbplmdjiaa

namespace Go.Proofs.Ytihicdbplmdjiaa
open Go.RowKit (wrap32 wrap64)
set_option linter.unusedVariables false
set_option linter.unusedSimpArgs false

/-! ### the small history -/
def rvA : RV := ⟨⟨true, aB, [], []⟩, .slice none 0 0, .slice none 0 0⟩
def sp (c : Int) (b : Bool) (R : RV) : Mo := ⟨c, b, 1, 1, aB, R⟩
def sl (c : Int) (b : Bool) (R : RV) : Mo := ⟨c, b, 2, 1, ⟨#[]⟩, R⟩
def smH : List Mo := [sl 0 true rv0, sp 1 true rv0, sl 2 true rv0, sl 2 false rv0, sp 1 false rv1, sl 0 false rvA]
def smC : List Cl := [⟨0, 5, 2, 1, ⟨#[]⟩, rvA⟩, ⟨1, 4, 1, 1, aB, rv1⟩, ⟨2, 3, 2, 1, ⟨#[]⟩, rv0⟩]
theorem rsl : rightOpB 2 1 ⟨#[]⟩ = true := by unfold rightOpB; simp [em0]
theorem rpA : rightReplyB 2 rvA.r = true := by unfold rightReplyB noKeysB rvA; simp
theorem sm_mem {m : Mo} (h : m ∈ smH) : m = sl 0 true rv0 ∨ m = sp 1 true rv0 ∨ m = sl 2 true rv0 ∨ m = sl 2 false rv0 ∨ m = sp 1 false rv1 ∨ m = sl 0 false rvA := by simpa [smH] using h
theorem sm_ref : RefOk smH smC := by
  refine ⟨by decide, rfl, fun c hc => ?_, rfl⟩
  have hc : c = ⟨0, 5, 2, 1, ⟨#[]⟩, rvA⟩ ∨ c = ⟨1, 4, 1, 1, aB, rv1⟩ ∨ c = ⟨2, 3, 2, 1, ⟨#[]⟩, rv0⟩ := by simpa [smC] using hc
  rcases hc with rfl | rfl | rfl
  · refine ⟨sl 0 true rv0, sl 0 false rvA, ⟨rfl, rfl, rfl, rsl, zero0, rfl, rfl, rfl, by decide, rfl, rfl, fun j h1 h2 x hx => ?_, rfl, by simp [sameOp, sl], rpA, rfl⟩⟩
    have h1' : 0 < j := h1
    have h2' : j < 5 := h2
    rcases (show j = 1 ∨ j = 2 ∨ j = 3 ∨ j = 4 by omega) with rfl | rfl | rfl | rfl
    · have : x = sp 1 true rv0 := by simpa [smH] using hx.symm
      subst this; show (1 : Int) ≠ 0; decide
    · have : x = sl 2 true rv0 := by simpa [smH] using hx.symm
      subst this; show (2 : Int) ≠ 0; decide
    · have : x = sl 2 false rv0 := by simpa [smH] using hx.symm
      subst this; show (2 : Int) ≠ 0; decide
    · have : x = sp 1 false rv1 := by simpa [smH] using hx.symm
      subst this; show (1 : Int) ≠ 0; decide
  · refine ⟨sp 1 true rv0, sp 1 false rv1, ⟨rfl, rfl, rfl, ro1, zero0, rfl, rfl, rfl, by decide, rfl, rfl, fun j h1 h2 x hx => ?_, rfl, by simp [sameOp, sp], rp1, rfl⟩⟩
    have h1' : 1 < j := h1
    have h2' : j < 4 := h2
    rcases (show j = 2 ∨ j = 3 by omega) with rfl | rfl
    · have : x = sl 2 true rv0 := by simpa [smH] using hx.symm
      subst this; show (2 : Int) ≠ 1; decide
    · have : x = sl 2 false rv0 := by simpa [smH] using hx.symm
      subst this; show (2 : Int) ≠ 1; decide
  · refine ⟨sl 2 true rv0, sl 2 false rv0, ⟨rfl, rfl, rfl, rsl, zero0, rfl, rfl, rfl, by decide, rfl, rfl, fun j h1 h2 x hx => ?_, rfl, by simp [sameOp, sl], reply0, rfl⟩⟩
    have h1' : 2 < j := h1
    have h2' : j < 3 := h2
    omega
theorem sm_waits : waitsX smC = [2, 4, 0] := by decide
theorem sm_ord : Ord [2, 4, 0] 7 [] (some [2, 1, 0]) := by
  refine Ord.step 7 2 [] _ (by decide) (by decide) ?_
  rw [show dropS 7 2 = 3 by decide]
  refine Ord.step 3 1 _ _ (by decide) (by decide) ?_
  rw [show dropS 3 1 = 1 by decide]
  refine Ord.step 1 0 _ _ (by decide) (by decide) ?_
  rw [show dropS 1 0 = 0 by decide]
  exact Ord.done _
theorem sm_possible : possibleB (madeX smC) smC = true := by
  unfold possibleB
  rw [List.all_eq_true]
  intro c hc
  have hc : c = ⟨0, 5, 2, 1, ⟨#[]⟩, rvA⟩ ∨ c = ⟨1, 4, 1, 1, aB, rv1⟩ ∨ c = ⟨2, 3, 2, 1, ⟨#[]⟩, rv0⟩ := by simpa [smC] using hc
  have hm : madeX smC 1 = some ⟨1, 4, 1, 1, aB, rv1⟩ := rfl
  rcases hc with rfl | rfl | rfl
  · unfold canTellB hasB
    simp only [hm]
    simp [rvA]
  · unfold canTellB
    simp [hm]
  · unfold canTellB
    simp [rv0]
theorem sm_is : OrdIs smH [2, 1, 0] :=
  Or.inr ⟨smC, ref_calls sm_ref, Or.inr ⟨[2, 1, 0], sm_possible, by rw [sm_waits]; exact sm_ord, rfl⟩⟩
theorem sm_hat {w : World} {g : Nat} (hb : w.heap[g]? = some (.cells (smH.map m9).flatten.toArray 30)) : HAt2 w (.slice (some ⟨g, 0, none⟩) 6 6) smH := by
  have hc : ∀ m ∈ smH, (m.c = 0 ∨ m.c = 1 ∨ m.c = 2) ∧ m.ky = 1 ∧ m.R.At w ∧ m.R.r.keys = [] := by
    intro m hm
    have h0 : rv0.At w ∧ rv0.r.keys = [] := ⟨rv0_at w, rfl⟩
    have h1 : rv1.At w ∧ rv1.r.keys = [] := ⟨⟨RowAt.nil w, RowAt.nil w⟩, rfl⟩
    have h2 : rvA.At w ∧ rvA.r.keys = [] := ⟨⟨RowAt.nil w, RowAt.nil w⟩, rfl⟩
    rcases sm_mem hm with rfl | rfl | rfl | rfl | rfl | rfl
    · exact ⟨Or.inl rfl, rfl, h0⟩
    · exact ⟨Or.inr (Or.inl rfl), rfl, h0⟩
    · exact ⟨Or.inr (Or.inr rfl), rfl, h0⟩
    · exact ⟨Or.inr (Or.inr rfl), rfl, h0⟩
    · exact ⟨Or.inr (Or.inl rfl), rfl, h1⟩
    · exact ⟨Or.inl rfl, rfl, h2⟩
  refine ⟨⟨some ⟨g, 0, none⟩, 6, rfl, fun _ => ⟨g, 0, rfl, fun i hi j hj => ?_⟩, fun m hm => ⟨(hc m hm).2.2.1, by rw [(hc m hm).2.2.2]; simp, ?_⟩⟩, fun m hm => ⟨by rw [(hc m hm).2.2.2]; simp, ?_, by rw [(hc m hm).2.2.2]; simp⟩⟩
  · rw [cell_of hb, Nat.zero_add, List.getElem?_toArray]
    rw [flat_get (fun r hr => by obtain ⟨m, -, rfl⟩ := List.mem_map.1 hr; rfl) i j (by simpa using hi) hj, List.getElem_map]
  · rcases (hc m hm).1 with e | e | e <;> rw [e] <;> exact ⟨by decide, by decide⟩
  · rw [(hc m hm).2.1]; exact ⟨by decide, by decide⟩
set_option maxRecDepth 100000 in
set_option maxHeartbeats 4000000 in
/-- small. -/
theorem small_any (w : World) : Calls Try.prog 17 #[] w fun e w' => ∃ sv ov, e = .returned (.tuple #[sv, ov]) ∧ Fr (fun _ => False) w w' ∧ HAt2 w' sv smH ∧ RowAt w' ov ([2, 1, 0].map vI) := by
  go_enter Try.func17, Try.ntmps17
  go_wp2_with fail
  obtain ⟨W, eW⟩ : ∃ W, W = ((w.alloc (.cells #[vI 1, vI 1, .string aB] 24)).alloc (.cells #[vI 2, vI 1, .string ⟨#[]⟩] 24)) := ⟨_, rfl⟩
  have hf : Fr (fun _ => False) w W := by rw [eW]; exact ((Fr.refl _ w).alloc _).alloc _
  have hz : W.heap.size = w.heap.size + 1 + 1 := by rw [eW]; simp
  have hb1 := heap_alloc_last W (.cells (smH.map m9).flatten.toArray 30)
  have hz2 : (W.alloc (.cells (smH.map m9).flatten.toArray 30)).heap.size = w.heap.size + 1 + 1 + 1 := by simp [hz]
  have hf2 : Fr (fun _ => False) (W.alloc (.cells (smH.map m9).flatten.toArray 30)) ((W.alloc (.cells (smH.map m9).flatten.toArray 30)).alloc (.cells #[vI 2, vI 1, vI 0] 3)) := (Fr.refl _ _).alloc _
  have hb2 := heap_alloc_last (W.alloc (.cells (smH.map m9).flatten.toArray 30)) (.cells #[vI 2, vI 1, vI 0] 3)
  rw [hz] at hb1
  rw [hz2] at hb2
  have HF : Hd (Fr (fun _ => False) w ((W.alloc (.cells (smH.map m9).flatten.toArray 30)).alloc (.cells #[vI 2, vI 1, vI 0] 3)) ∧ HAt2 ((W.alloc (.cells (smH.map m9).flatten.toArray 30)).alloc (.cells #[vI 2, vI 1, vI 0] 3)) (.slice (some ⟨w.heap.size + 1 + 1, 0, none⟩) 6 6) smH ∧ RowAt ((W.alloc (.cells (smH.map m9).flatten.toArray 30)).alloc (.cells #[vI 2, vI 1, vI 0] 3)) (.slice (some ⟨w.heap.size + 1 + 1 + 1, 0, none⟩) 3 3) ([2, 1, 0].map vI)) := by
    refine ⟨hf.trans ((((Fr.refl _ W).alloc _)).trans hf2), sm_hat ((hf2.block _ (heap_lt hb1) (fun e => e)).trans hb1), some ⟨_, 0, none⟩, 3, rfl, fun _ => ⟨_, 0, rfl, fun i hi => ?_⟩⟩
    rw [cell_of hb2, Nat.zero_add]
    have hi : i < 3 := hi
    rcases (show i = 0 ∨ i = 1 ∨ i = 2 by omega) with rfl | rfl | rfl <;> rfl
  rw [eW] at HF
  clear hf hz hb1 hz2 hf2 hb2 eW
  go_ret2
  exact ⟨_, _, rfl, HF.out⟩
end Go.Proofs.Ytihicdbplmdjiaa
