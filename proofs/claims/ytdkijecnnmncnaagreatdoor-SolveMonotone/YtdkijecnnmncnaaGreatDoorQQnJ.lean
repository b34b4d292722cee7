import Derived.Test.YtdkijecnnmncnaaGreatDoorQQlJ
import Derived.Test.YtdkijecnnmncnaaGreatDoorQEjJ
import Derived.Test.YtdkijecnnmncnaaGreatDoorQFiJ
namespace Go.Proofs.YtdkijecnnmncnaaGreatDoor
open Go.RowKit (wrap32 wrap64)
set_option linter.unusedVariables false
set_option linter.unusedSimpArgs false
set_option maxRecDepth 100000
set_option maxHeartbeats 2000000
theorem i64w (n : Int) : Value.int IntKind.i64 (IntKind.i64.wrap n) = vI (wrap64 n) := by rw [IntKind.wrap_i64 n]; first | done | rfl | (unfold wrap64; rfl)
def flocX (R V : Int) (cs : List PI) : Int := if 0 ≤ R ∧ 0 ≤ V then wrap64 (cellX R V + (newsX cs : Nat)) else 0
theorem news_any (v : Value) (cs : List PI) (w : World) (h : CA w v cs) (hn : cs.length ≤ 1599289640354) :
 Calls Tryz.prog 167 #[v] w fun e w' => e = .returned (vI (newsX cs : Nat)) ∧ Fr (fun _ => False) w w' := by
 obtain ⟨a, c, rfl, h0⟩ := h
 have H0 : Hd (cs ≠ [] → _) := h0
 clear h0
 go_enter Tryz.func167, Tryz.ntmps167
 go_wp2_with fail
 go_loopw [3, 8] (fun nv v wr => ∃ (n k : Nat), nv = .int .i64 n ∧ v = .int .i64 k ∧ k ≤ cs.length ∧ n ≤ k ∧ Hd (n = newsX (cs.take k)) ∧ Hd (Fr (fun _ => False) w wr)) (fun _ v _ => match v with | .int _ q => cs.length - q.toNat | _ => 0)
 case atStart => exact ⟨0, 0, rfl, rfl, Nat.zero_le _, Nat.le_refl _, rfl, Fr.refl _ _⟩
 case round =>
  obtain ⟨n, k, rfl, rfl, hk, hnk, HN, HF⟩ := hrel
  by_cases hlt : k < cs.length
  ·obtain ⟨ck, co, rfl, hck, hcs⟩ := H0.out (by intro e; simp [e] at hlt)
   obtain ⟨av, rv, c0, c1, c2, c3, c4, c5, c6, ia, ir⟩ := hcs k hlt
   have m1 := fun o => HF.out.cell (o := o) hck (fun h => h)
   have c0 := (m1 _).trans c0
   have c1 := (m1 _).trans c1
   have c2 := (m1 _).trans c2
   have c3 := (m1 _).trans c3
   have c4 := (m1 _).trans c4
   have c5 := (m1 _).trans c5
   have c6 := (m1 _).trans c6
   have HT : Hd (cs.take (k + 1) = cs.take k ++ [cs[k]]) := by unfold Hd; rw [List.take_add_one, List.getElem?_eq_getElem hlt]; rfl
   generalize cs[k] = ci at *
   obtain ⟨aa, ac, rfl, -⟩ := ia
   obtain ⟨ra, rc, rfl, -⟩ := ir
   have hk0 : (0 : Int) ≤ k := by omega
   have hk1 : (k : Int) < cs.length := by omega
   clear hcs m1
   by_cases h6 : ci.op = 6
   ·have d6 : (ci.op == 6) = true := by simpa using h6
    have HN2 : Hd (n + 1 = newsX (cs.take (k + 1))) := by unfold Hd; rw [HT.out, newsX_snoc, if_pos h6, HN.out]
    clear h6
    go_wp2_with fail
    exact ⟨⟨n + 1, k + 1, by simp, by simp, by omega, by omega, HN2.out, HF.out.alloc _⟩, by simp; omega⟩
   ·have d6 : (ci.op == 6) = false := by simpa using h6
    have HN2 : Hd (n = newsX (cs.take (k + 1))) := by unfold Hd; rw [HT.out, newsX_snoc, if_neg h6, ← HN.out]; rfl
    clear h6
    go_wp2_with fail
    exact ⟨⟨n, k + 1, rfl, by simp, by omega, by omega, HN2.out, HF.out.alloc _⟩, by simp; omega⟩
  ·have hke : k = cs.length := by omega
   have HE : Hd (n = newsX cs) := by have := HN.out; rw [hke, List.take_length] at this; exact this
   have hdk : decide ((k : Int) < cs.length) = false := by simp; omega
   clear hke
   go_wp2_with fail
   go_ret
   exact ⟨by rw [← HE.out]; rfl, HF.out⟩
theorem locations_any (f : PF) (cv : Value) (w : World) (h : CA w cv f.code) (hn : f.code.length ≤ 1599289640354) :
 Calls Tryz.prog 127 #[.agg #[vI f.P, vI f.R, vI f.V, cv]] w fun e w' => e = .returned (vI (flocX f.R f.V f.code)) ∧ Fr (fun _ => False) w w' := by
 obtain ⟨a, c, rfl, -⟩ := id h
 obtain ⟨wa, hwa⟩ : ∃ wa, wa = w.alloc (.cells #[vI f.P, vI f.R, vI f.V, .slice a f.code.length c] 45) := ⟨_, rfl⟩
 have hb : wa.heap[w.heap.size]? = some (.cells #[vI f.P, vI f.R, vI f.V, .slice a f.code.length c] 45) := by rw [hwa]; exact heap_new0 w _
 have HWA : Hd (wa = w.alloc (.cells #[vI f.P, vI f.R, vI f.V, .slice a f.code.length c] 45)) := hwa
 obtain ⟨H, hH⟩ : ∃ H, H = w.heap.size := ⟨_, rfl⟩
 have HH : Hd (H = w.heap.size) := hH
 rw [← hH] at hb
 have hFa : Fr (fun _ => False) w wa := by rw [hwa]; exact Fr.alloc (Fr.refl _ w) _
 have c0 : wa.cell? ⟨H, 0, none⟩ = some (vI f.P) := by rw [cell_of0 hb]; rfl
 have c1 : wa.cell? ⟨H, 1, none⟩ = some (vI f.R) := by rw [cell_of0 hb]; rfl
 have c2 : wa.cell? ⟨H, 2, none⟩ = some (vI f.V) := by rw [cell_of0 hb]; rfl
 have c3 : wa.cell? ⟨H, 3, none⟩ = some (.slice a f.code.length c) := by rw [cell_of0 hb]; rfl
 obtain ⟨wb, hwb⟩ : ∃ wb, wb = wa.alloc (.cells #[vI f.P, vI f.R, vI f.V, .slice a f.code.length c] 45) := ⟨_, rfl⟩
 have HWB : Hd (wb = wa.alloc (.cells #[vI f.P, vI f.R, vI f.V, .slice a f.code.length c] 45)) := hwb
 have hFb : Fr (fun _ => False) wa wb := by rw [hwb]; exact Fr.alloc (Fr.refl _ wa) _
 have HF : Hd (Fr (fun _ => False) w wb) := hFa.trans hFb
 have HB : Hd (wb.heap[H]? = some (.cells #[vI f.P, vI f.R, vI f.V, .slice a f.code.length c] 45)) := (hFb.block H (heap_lt0 hb) (fun e => e)).trans hb
 have HC : Hd (CA wb (.slice a f.code.length c) f.code) := h.stay (hFa.trans hFb)
 clear hwa hH hb hwb hFb hFa h
 go_enter Tryz.func127, Tryz.ntmps127
 go_upto_region 1 with fail
 rw [← HWA.out, ← HH.out]
 clear HWA
 go_wp2_with fail
 refine (show Calls Tryz.prog 166 #[.agg #[vI f.P, vI f.R, vI f.V, .slice a f.code.length c]] wa _ from numbered_any f.P f.R f.V a _ c wa).mono ?_
 rintro e w1 ⟨rfl, rfl⟩
 rw [← HWB.out]
 clear HWB c0 c1 c2 c3
 by_cases hnm : 0 ≤ f.R ∧ 0 ≤ f.V
 ·have d0 : decide (0 ≤ f.R ∧ 0 ≤ f.V) = true := by simpa using hnm
  rw [d0]
  have HX : Hd (flocX f.R f.V f.code = wrap64 (cellX f.R f.V + (newsX f.code : Nat))) := if_pos hnm
  clear d0 hnm
  have HS : Hd (∀ wx, Fr (fun _ => False) wb wx → wx.cell? ⟨H, 0, none⟩ = some (vI f.P) ∧ wx.cell? ⟨H, 1, none⟩ = some (vI f.R) ∧ wx.cell? ⟨H, 2, none⟩ = some (vI f.V) ∧ wx.cell? ⟨H, 3, none⟩ = some (.slice a f.code.length c)) := fun wx hx => by
   have hb := (hx.block H (heap_lt0 HB.out) (fun e => e)).trans HB.out
   exact ⟨by rw [cell_of0 hb]; rfl, by rw [cell_of0 hb]; rfl, by rw [cell_of0 hb]; rfl, by rw [cell_of0 hb]; rfl⟩
  obtain ⟨s0, s1, s2, s3⟩ := HS.out wb (Fr.refl _ wb)
  go_upto_region 3 with fail
  go_cut [2] (fun x2 wx => x2 = vI (wrap64 (cellX f.R f.V + (newsX f.code : Nat))) ∧ Hd (Fr (fun _ => False) wb wx))
  case first =>
   go_region_with ((
    first
     |(go_at_call 124
       first
        |(refine (show Calls Tryz.prog 124 #[.agg #[vI f.P, vI f.R, vI f.V, .slice a f.code.length c]] wb.drew _ from firstCell_any f.P f.R f.V a _ c wb.drew).mono ?_
          rintro e w3 ⟨rfl, hw3⟩
          have HF3 : Hd (Fr (fun _ => False) wb w3) := by unfold Hd; rw [hw3]; exact Fr.alloc (Fr.drew (Fr.refl _ wb)) _
          obtain ⟨s0, s1, s2, s3⟩ := HS.out w3 HF3.out
          clear hw3)
        |(refine (show Calls Tryz.prog 124 #[.agg #[vI f.P, vI f.R, vI f.V, .slice a f.code.length c]] w4 _ from firstCell_any f.P f.R f.V a _ c w4).mono ?_
          rintro e w3 ⟨rfl, hw3⟩
          have HF3 : Hd (Fr (fun _ => False) wb w3) := by unfold Hd; rw [hw3]; exact HF4.out.alloc _
          obtain ⟨s0, s1, s2, s3⟩ := HS.out w3 HF3.out
          clear hw3))
     |(go_at_call 167
       first
        |(refine (show Calls Tryz.prog 167 #[.slice a f.code.length c] wb.drew _ from news_any _ f.code wb.drew (HC.out.stay (Fr.drew (Fr.refl _ wb))) hn).mono ?_
          rintro e w4 ⟨rfl, hF4⟩
          have HF4 : Hd (Fr (fun _ => False) wb w4) := (Fr.drew (Fr.refl _ wb)).trans hF4
          obtain ⟨s0, s1, s2, s3⟩ := HS.out w4 HF4.out
          clear hF4)
        |(refine (show Calls Tryz.prog 167 #[.slice a f.code.length c] w3 _ from news_any _ f.code w3 (HC.out.stay HF3.out) hn).mono ?_
          rintro e w4 ⟨rfl, hF4⟩
          have HF4 : Hd (Fr (fun _ => False) wb w4) := HF3.out.trans hF4
          obtain ⟨s0, s1, s2, s3⟩ := HS.out w4 HF4.out
          clear hF4))))
   all_goals
    go_wp2_with fail
    go_meet
    first
     | exact ⟨i64w _, HF4.out⟩
     | exact ⟨i64w _, HF3.out⟩
     | exact ⟨rfl, HF4.out⟩
     | exact ⟨rfl, HF3.out⟩
  case rest =>
   obtain ⟨rfl, HFx⟩ := hcut
   go_wp2_with fail
   go_ret
   exact ⟨by rw [HX.out]; rfl, HF.out.trans HFx.out⟩
 ·have d0 : decide (0 ≤ f.R ∧ 0 ≤ f.V) = false := by simpa using hnm
  rw [d0]
  have HX : Hd (flocX f.R f.V f.code = 0) := if_neg hnm
  clear d0 hnm
  go_wp2_with fail
  go_ret
  exact ⟨by rw [HX.out]; rfl, HF.out⟩
end Go.Proofs.YtdkijecnnmncnaaGreatDoor
namespace Go.Proofs.YtdkijecnnmncnaaGreatDoor
open Go.RowKit Go.Shelf
set_option linter.unusedVariables false
set_option linter.unusedSimpArgs false
def locN (f : PF) : Nat := (1 + f.R + f.V).toNat + newsX f.code
theorem edg_edr {fs : List PF} {ss : List PS} {f : PF} (hf : FunR fs f) (ht : toldX fs ss f.code = true) (hls : ss.length = fs.length) : EdR (locN f) f.R.toNat (edgX ss f) := by
 have hR := hf.R
 have hV := hf.V
 have hl := hf.len
 have hn := newsX_le f.code
 refine ⟨by unfold locN; omega, by unfold locN; omega, fun x hx => ?_⟩
 have h := (edg_all hf ht hls).1 x hx
 have e1 := h.s1
 have e2 := h.s2
 have e3 := h.d1
 have e4 := h.d2
 have e5 := h.k1
 have e6 := h.k2
 refine ⟨⟨⟨e3, ?_⟩, ⟨?_, ?_⟩, ?_⟩, ?_⟩
 ·unfold locN; omega
 ·omega
 ·unfold locN; omega
 ·simp [flowsX, e5, e6]
 ·omega
theorem floc_is {fs : List PF} {f : PF} (hf : FunR fs f) : flocX f.R f.V f.code = (locN f : Nat) := by
 have hR := hf.R
 have hV := hf.V
 have hl := hf.len
 have hn := newsX_le f.code
 unfold flocX locN
 rw [if_pos ⟨hR.1, hV.1⟩, cellX_is hR hV]
 unfold wrap64
 omega
theorem Emb.has {l m : List Ed} (h : Emb l m) : ∀ y ∈ m, ∃ x ∈ l, mt x y := by
 induction h with
 | nil l => intro y hy; cases hy
 | skip _ ih =>
   intro y hy
   obtain ⟨x, h1, h2⟩ := ih y hy
   exact ⟨x, List.mem_cons_of_mem _ h1, h2⟩
 | @take x y l m e _ ih =>
   intro z hz
   rcases List.mem_cons.1 hz with rfl | hz
   ·exact ⟨x, List.mem_cons_self, e⟩
   ·obtain ⟨x, h1, h2⟩ := ih z hz
    exact ⟨x, List.mem_cons_of_mem _ h1, h2⟩
def sumX (P R V : Int) (y : Nat → Int) (z : Nat → Nat → Int) : PS :=
 ⟨(List.range P.toNat).map fun (i : Nat) => max (y (varX R V i).toNat) 0, (List.range P.toNat).map fun (i : Nat) => (List.range R.toNat).map fun (j : Nat) => max (z j (varX R V i).toNat) 0⟩
theorem sumX_lwr {P R V : Int} {y y' : Nat → Int} {z z' : Nat → Nat → Int} {n : Nat} (hv : ∀ i : Nat, (i : Int) < P → (varX R V i).toNat < n) (h1 : ∀ l, l < n → y' l ≤ y l) (h2 : ∀ j, j < R.toNat → ∀ l, l < n → z' j l ≤ z j l) : Lwr (sumX P R V y' z') (sumX P R V y z) := by
 refine ⟨by simp [sumX], fun i h h' => ?_, by simp [sumX], fun i h h' => by simp [sumX], fun i h h' j k k' => ?_⟩
 ·simp only [sumX, List.getElem_map, List.getElem_range]
  have := h1 _ (hv i (by simp [sumX] at h; omega))
  omega
 ·simp only [sumX, List.getElem_map, List.getElem_range]
  have := h2 j (by simp [sumX] at k; omega) _ (hv i (by simp [sumX] at h; omega))
  omega
theorem sumX_same {P R V : Int} {y y' : Nat → Int} {z z' : Nat → Nat → Int} {n : Nat} (hv : ∀ i : Nat, (i : Int) < P → (varX R V i).toNat < n) (h1 : ∀ l, l < n → y l = y' l) (h2 : ∀ j, j < R.toNat → ∀ l, l < n → z j l = z' j l) : sumX P R V y z = sumX P R V y' z' := by
 unfold sumX
 congr 1
 ·refine List.map_congr_left fun i hi => ?_
  have := List.mem_range.1 hi
  rw [h1 _ (hv i (by omega))]
 ·refine List.map_congr_left fun i hi => ?_
  have := List.mem_range.1 hi
  refine List.map_congr_left fun j hj => ?_
  rw [h2 j (List.mem_range.1 hj) _ (hv i (by omega))]
theorem sumX_fits {P R V : Int} {y : Nat → Int} {z : Nat → Nat → Int} {n : Nat} (hP : 0 ≤ P) (hR : 0 ≤ R) (hv : ∀ i : Nat, (i : Int) < P → (varX R V i).toNat < n) (h1 : ∀ l, l < n → y l = 9 ∨ (-1 ≤ y l ∧ y l ≤ 3)) (h2 : ∀ j, j < R.toNat → ∀ l, l < n → z j l = 9 ∨ (-1 ≤ z j l ∧ z j l ≤ 3)) : fitsX (sumX P R V y z) P R = true := by
 have hd : ∀ d : Int, (d = 9 ∨ (-1 ≤ d ∧ d ≤ 3)) → derOk (max d 0) = true := fun d h => by
  unfold derOk
  rcases h with rfl | ⟨h1, h2⟩
  ·decide
  ·have : 0 ≤ max d 0 ∧ max d 0 ≤ 3 := by omega
   simp [this]
 unfold fitsX dersX sumX
 simp only [Bool.and_eq_true, decide_eq_true_eq, List.all_eq_true]
 refine ⟨by simp; omega, ⟨by simp; omega, fun d h => ?_⟩, fun l h => ?_⟩
 ·obtain ⟨i, hi, rfl⟩ := List.mem_map.1 h
  have := List.mem_range.1 hi
  exact hd _ (h1 _ (hv i (by omega)))
 ·obtain ⟨i, hi, rfl⟩ := List.mem_map.1 h
  have := List.mem_range.1 hi
  refine ⟨by simp; omega, fun d h => ?_⟩
  obtain ⟨j, hj, rfl⟩ := List.mem_map.1 h
  exact hd _ (h2 j (List.mem_range.1 hj) _ (hv i (by omega)))
theorem var_loc {fs : List PF} {f : PF} (hf : FunR fs f) (hPV : f.P ≤ f.V) (i : Nat) (hi : (i : Int) < f.P) : (varX f.R f.V i).toNat < locN f := by
 have hR := hf.R
 have hV := hf.V
 rw [varX_is hR hV ⟨by omega, by omega⟩]
 unfold locN
 omega
def meetS (a b : PS) : PS := ⟨List.zipWith min a.H b.H, List.zipWith (List.zipWith min) a.R b.R⟩
theorem meetS_lwr {P R : Int} {a b : PS} (ha : fitsX a P R = true) (hb : fitsX b P R = true) : Lwr (meetS a b) a := by
 obtain ⟨a1, a2, a3, -, -⟩ := fits_len ha
 obtain ⟨b1, b2, b3, -, -⟩ := fits_len hb
 refine ⟨by simp [meetS]; omega, fun i h h' => ?_, by simp [meetS]; omega, fun i h h' => ?_, fun i h h' j k k' => ?_⟩
 ·simp only [meetS, List.getElem_zipWith]
  omega
 ·have e1 := a3 _ (List.getElem_mem h)
  have hb' : i < b.R.length := by omega
  have e2 := b3 _ (List.getElem_mem hb')
  simp only [meetS, List.getElem_zipWith, List.length_zipWith]
  omega
 ·simp only [meetS, List.getElem_zipWith]
  omega
theorem derOk_min {x y : Int} (h1 : derOk x = true) (h2 : derOk y = true) : derOk (min x y) = true := by
 rcases Int.le_total x y with h | h
 ·rw [Int.min_eq_left h]; exact h1
 ·rw [Int.min_eq_right h]; exact h2
theorem zip_der : ∀ {a b : List Int}, (∀ d ∈ a, derOk d = true) → (∀ d ∈ b, derOk d = true) → ∀ d ∈ List.zipWith min a b, derOk d = true
 | [], _, _, _, d, h => by cases h
 | _ :: _, [], _, _, d, h => by cases h
 | x :: a, y :: b, h1, h2, d, h => by
   rw [List.zipWith_cons_cons] at h
   rcases List.mem_cons.1 h with rfl | h
   ·exact derOk_min (h1 _ List.mem_cons_self) (h2 _ List.mem_cons_self)
   ·exact zip_der (fun d hd => h1 d (List.mem_cons_of_mem _ hd)) (fun d hd => h2 d (List.mem_cons_of_mem _ hd)) d h
theorem meetS_fits {P R : Int} {a b : PS} (ha : fitsX a P R = true) (hb : fitsX b P R = true) : fitsX (meetS a b) P R = true := by
 obtain ⟨a1, a2, a3, a4, a5⟩ := fits_len ha
 obtain ⟨b1, b2, b3, b4, b5⟩ := fits_len hb
 unfold fitsX dersX meetS
 simp only [Bool.and_eq_true, decide_eq_true_eq, List.all_eq_true]
 refine ⟨by simp; omega, ⟨by simp; omega, zip_der a4 b4⟩, fun l h => ?_⟩
 obtain ⟨i, hi, rfl⟩ := List.getElem_of_mem h
 have i1 : i < a.R.length := by simp at hi; omega
 have i2 : i < b.R.length := by simp at hi; omega
 rw [List.getElem_zipWith]
 have e1 := a3 _ (List.getElem_mem i1)
 have e2 := b3 _ (List.getElem_mem i2)
 exact ⟨by simp; omega, zip_der (a5 _ (List.getElem_mem i1)) (b5 _ (List.getElem_mem i2))⟩
end Go.Proofs.YtdkijecnnmncnaaGreatDoor
namespace Go.Proofs.YtdkijecnnmncnaaGreatDoor
open Go.RowKit Go.Shelf
set_option linter.unusedVariables false
set_option linter.unusedSimpArgs false
def livF : PF := ⟨1, 1, 2, [⟨5, 1, 0, 0, 0, [], []⟩, ⟨15, 0, 0, 0, 0, [1], []⟩]⟩
def livE : List Ed := [(3, 2, -1), (1, 3, 0)]
theorem livF_edges (ss : List PS) : edgX ss livF = livE := by
 kernel_rfl
theorem livE_edr : EdR 4 1 livE := by
 refine ⟨by omega, by omega, fun x hx => ?_⟩
 unfold livE at hx
 simp only [List.mem_cons, List.not_mem_nil, or_false] at hx
 rcases hx with rfl | rfl
 ·exact ⟨⟨⟨by decide, by decide⟩, ⟨by decide, by decide⟩, by decide⟩, by decide⟩
 ·exact ⟨⟨⟨by decide, by decide⟩, ⟨by decide, by decide⟩, by decide⟩, by decide⟩
def livX : Nat → Int | 0 => 0 | 1 => 0 | 2 => -1 | 3 => 0 | _ => 9
def livO : Nat → Bool | 2 => true | _ => false
def livY : Nat → Int | 0 => 0 | 2 => 0 | _ => 9
def livZ : Nat → Int | 1 => 0 | 2 => -1 | 3 => 0 | _ => 9
theorem liv_edge (x : Nat → Int) (h1 : x 2 ≤ plusX (x 3) (-1)) (h2 : x 3 ≤ plusX (x 1) 0) : ∀ (d s : Nat) (k : Int), ((d : Int), (s : Int), k) ∈ livE → x s ≤ plusX (x d) k := by
 intro d s k h
 unfold livE at h
 simp only [List.mem_cons, List.not_mem_nil, or_false, Prod.mk.injEq] at h
 rcases h with ⟨e1, e2, rfl⟩ | ⟨e1, e2, rfl⟩
 ·obtain rfl : d = 3 := by omega
  obtain rfl : s = 2 := by omega
  exact h1
 ·obtain rfl : d = 1 := by omega
  obtain rfl : s = 3 := by omega
  exact h2
theorem liv_way3 {rs : List Int} (h : (1 : Int) ∈ rs) : Reach livE rs 3 0 := Reach.step (e := (1, 3, 0)) (d := 0) (by decide) (.root h)
theorem liv_way2 {rs : List Int} (h : (1 : Int) ∈ rs) : Reach livE rs 2 (-1) := by
 have h := Reach.step (e := (3, 2, -1)) (d := 0) (show (3, 2, -1) ∈ livE by decide) (liv_way3 h)
 have e : plusX 0 (-1) = -1 := by decide
 rw [e] at h
 exact h
theorem liv_sol : SolX 4 1 livE livO livY (fun _ => livZ) := by
 refine ⟨⟨livX, ⟨fun r hr => ?_, liv_edge _ (by decide) (by decide), fun i hi => ?_⟩, fun l hl => ?_⟩, ⟨fun r hr => ?_, liv_edge _ (by decide) (by decide), fun i hi => ?_⟩, fun j hj => ⟨fun r hr => ?_, liv_edge _ (by decide) (by decide), fun i hi => ?_⟩⟩
 ·have := mem_rootsX.1 hr
  have : r = 0 ∨ r = 1 := by omega
  rcases this with rfl | rfl <;> decide
 ·have : i = 0 ∨ i = 1 ∨ i = 2 ∨ i = 3 := by omega
  rcases this with rfl | rfl | rfl | rfl
  ·exact Or.inr (.root (mem_rootsX.2 (by decide)))
  ·exact Or.inr (.root (mem_rootsX.2 (by decide)))
  ·exact Or.inr (liv_way2 (mem_rootsX.2 (by decide)))
  ·exact Or.inr (liv_way3 (mem_rootsX.2 (by decide)))
 ·have : l = 0 ∨ l = 1 ∨ l = 2 ∨ l = 3 := by omega
  rcases this with rfl | rfl | rfl | rfl <;> decide
 ·rcases mem_heapsX.1 hr with e | ⟨j, h1, h2, e⟩
  ·obtain rfl : r = 0 := by omega
   decide
  ·have : j = 0 ∨ j = 1 ∨ j = 2 ∨ j = 3 := by omega
   rcases this with rfl | rfl | rfl | rfl
   ·cases h2
   ·cases h2
   ·obtain rfl : r = 2 := by omega
    decide
   ·cases h2
 ·have : i = 0 ∨ i = 1 ∨ i = 2 ∨ i = 3 := by omega
  rcases this with rfl | rfl | rfl | rfl
  ·exact Or.inr (.root (mem_heapsX.2 (Or.inl rfl)))
  ·exact Or.inl rfl
  ·exact Or.inr (.root (mem_heapsX.2 (Or.inr ⟨2, by omega, rfl, rfl⟩)))
  ·exact Or.inl rfl
 ·obtain rfl : j = 0 := by omega
  have := List.mem_singleton.1 hr
  obtain rfl : r = 1 := by omega
  decide
 ·obtain rfl : j = 0 := by omega
  have : i = 0 ∨ i = 1 ∨ i = 2 ∨ i = 3 := by omega
  rcases this with rfl | rfl | rfl | rfl
  ·exact Or.inl rfl
  ·exact Or.inr (.root (List.mem_singleton.2 rfl))
  ·exact Or.inr (liv_way2 (List.mem_singleton.2 rfl))
  ·exact Or.inr (liv_way3 (List.mem_singleton.2 rfl))
theorem liv_is {esc : Nat → Bool} {y : Nat → Int} {z : Nat → Nat → Int} (h : SolX 4 1 livE esc y z) : (List.range 4).map esc = [false, false, true, false] ∧ sumX 1 1 2 y z = ⟨[0], [[0]]⟩ := by
 obtain ⟨h1, h2, h3⟩ := h.unique livE_edr liv_sol
 constructor
 ·have e : (List.range 4).map esc = (List.range 4).map livO := List.map_congr_left fun i hi => h1 i (List.mem_range.1 hi)
  rw [e]
  rfl
 ·rw [sumX_same (P := 1) (R := 1) (V := 2) (n := 4) (fun i hi => by
   obtain rfl : i = 0 := by omega
   have : varX 1 2 ((0 : Nat) : Int) = 2 := by kernel_rfl
   rw [this]
   decide) h2 (fun j hj l hl => h3 j (by omega) l hl)]
  kernel_rfl
theorem liv_alone : checkP 0 (aloneP [livF] livF) = 0 := by kernel_rfl
theorem liv_told (ss : List PS) : toldX [livF] ss livF.code = true := by kernel_rfl
end Go.Proofs.YtdkijecnnmncnaaGreatDoor
namespace Go.Proofs.YtdkijecnnmncnaaGreatDoor
open Go.RowKit Go.Shelf
set_option linter.unusedVariables false
set_option linter.unusedSimpArgs false
noncomputable def wtX (es : List Ed) (rs : List Int) (i : Nat) : Int := open Classical in
 if Reach es rs i (-1) then -1 else if Reach es rs i 0 then 0 else if Reach es rs i 1 then 1 else if Reach es rs i 2 then 2 else if Reach es rs i 3 then 3 else 9
theorem wtX_way (es : List Ed) (rs : List Int) (i : Nat) : wtX es rs i = 9 ∨ Reach es rs i (wtX es rs i) := by
 unfold wtX
 split
 ·exact Or.inr ‹_›
 ·split
  ·exact Or.inr ‹_›
  ·split
   ·exact Or.inr ‹_›
   ·split
    ·exact Or.inr ‹_›
    ·split
     ·exact Or.inr ‹_›
     ·exact Or.inl rfl
theorem wtX_le {es : List Ed} {rs : List Int} {i : Nat} {d : Int} (h : Reach es rs i d) (hd : flowsX d = true) : wtX es rs i ≤ d := by
 simp only [flowsX, decide_eq_true_eq] at hd
 have hc : d = -1 ∨ d = 0 ∨ d = 1 ∨ d = 2 ∨ d = 3 := by omega
 unfold wtX
 split
 ·omega
 ·split
  ·rcases hc with rfl | rfl | rfl | rfl | rfl <;> first | omega | contradiction
  ·split
   ·rcases hc with rfl | rfl | rfl | rfl | rfl <;> first | omega | contradiction
   ·split
    ·rcases hc with rfl | rfl | rfl | rfl | rfl <;> first | omega | contradiction
    ·split
     ·rcases hc with rfl | rfl | rfl | rfl | rfl <;> first | omega | contradiction
     ·rcases hc with rfl | rfl | rfl | rfl | rfl <;> contradiction
theorem wtX_top {n : Int} {es : List Ed} {rs : List Int} (hG : RightG n es rs) (i : Nat) : wtX es rs i = 9 ∨ flowsX (wtX es rs i) = true := by
 rcases wtX_way es rs i with h | h
 ·exact Or.inl h
 ·exact Or.inr (h.right hG).2
theorem wtX_least {n : Nat} {es : List Ed} {rs : List Int} (hG : RightG n es rs) : Least n es rs (wtX es rs) := by
 refine ⟨fun r hr => wtX_le (.root hr) (by decide), fun d s k h => ?_, fun i _ => wtX_way es rs i⟩
 rcases wtX_way es rs d with e | r
 ·have e9 : plusX (wtX es rs d) k = 9 := by rw [e]; simp [plusX, flowsX]
  rw [e9]
  rcases wtX_top hG s with e | e
  ·omega
  ·simp only [flowsX, decide_eq_true_eq] at e; omega
 ·have r' := Reach.step h r
  exact wtX_le r' (r'.right hG).2
noncomputable def escF (ss : List PS) (f : PF) (l : Nat) : Bool := decide (wtX (edgX ss f) (rootsX f.R.toNat) l = -1)
noncomputable def heapF (ss : List PS) (f : PF) : Nat → Int := wtX (edgX ss f) (heapsX (locN f) (escF ss f))
noncomputable def resF (ss : List PS) (f : PF) (j : Nat) : Nat → Int := wtX (edgX ss f) [1 + (j : Int)]
noncomputable def solF (ss : List PS) (f : PF) : PS := sumX f.P f.R f.V (heapF ss f) (resF ss f)
section
variable {fs : List PF} {ss ss' : List PS} {f : PF}
theorem solF_sol (hf : FunR fs f) (ht : toldX fs ss f.code = true) (hls : ss.length = fs.length) : SolX (locN f) f.R.toNat (edgX ss f) (escF ss f) (heapF ss f) (resF ss f) := by
 have hE := edg_edr hf ht hls
 exact ⟨⟨_, wtX_least hE.roots, fun l hl => rfl⟩, wtX_least (hE.heaps _), fun j hj => wtX_least (hE.res hj)⟩
theorem SolX.is (hf : FunR fs f) (hPV : f.P ≤ f.V) (ht : toldX fs ss f.code = true) (hls : ss.length = fs.length) {esc : Nat → Bool} {y : Nat → Int} {z : Nat → Nat → Int} (h : SolX (locN f) f.R.toNat (edgX ss f) esc y z) :
 (∀ l, l < locN f → esc l = escF ss f l) ∧ sumX f.P f.R f.V y z = solF ss f := by
 obtain ⟨h1, h2, h3⟩ := h.unique (edg_edr hf ht hls) (solF_sol hf ht hls)
 exact ⟨h1, sumX_same (var_loc hf hPV) h2 h3⟩
theorem solF_fits (hf : FunR fs f) (hPV : f.P ≤ f.V) (ht : toldX fs ss f.code = true) (hls : ss.length = fs.length) : fitsX (solF ss f) f.P f.R = true := by
 have hE := edg_edr hf ht hls
 have h := solF_sol hf ht hls
 exact sumX_fits hf.P.1 hf.R.1 (var_loc hf hPV) (fun l hl => h.heap.val (hE.heaps _) hl) fun j hj l hl => (h.res j hj).val (hE.res hj) hl
theorem solF_mono (hf : FunR fs f) (hPV : f.P ≤ f.V) (ht : toldX fs ss f.code = true) (ht' : toldX fs ss' f.code = true) (hls : ss.length = fs.length) (hls' : ss'.length = fs.length) (hlw : ∀ q (h : q < ss.length) (h' : q < ss'.length), Lwr ss'[q] ss[q]) :
 (∀ l, l < locN f → escF ss f l = true → escF ss' f l = true) ∧ Lwr (solF ss' f) (solF ss f) := by
 obtain ⟨h1, h2, h3⟩ := (solF_sol hf ht hls).mono (edg_edr hf ht hls) (edg_edr hf ht' hls') (solF_sol hf ht' hls') (Nat.le_refl _) (edgX_emb hf ht hls (by omega) hlw).has
 exact ⟨h1, sumX_lwr (var_loc hf hPV) h2 h3⟩
end
end Go.Proofs.YtdkijecnnmncnaaGreatDoor
namespace Go.Proofs.YtdkijecnnmncnaaGreatDoor
open Go.RowKit Go.Shelf
set_option linter.unusedVariables false
set_option linter.unusedSimpArgs false
def dPF : PF := ⟨0, 0, 0, []⟩
abbrev fn (fs : List PF) (m : Nat) : PF := fs.getD m dPF
abbrev sm (ss : List PS) (m : Nat) : PS := ss.getD m dPS
noncomputable def stp (fs : List PF) (ss : List PS) (m : Nat) : List PS := ss.set m (solF ss (fn fs m))
section
variable {fs : List PF} {ms : List Nat} {ss t : List PS} {m : Nat}
noncomputable def goX (fs : List PF) (l : List Nat) (ss : List PS) : List PS := l.foldl (stp fs) ss
theorem go_still : ∀ l : List Nat, (∀ m ∈ l, stp fs ss m = ss) → goX fs l ss = ss
 | [], _ => rfl
 | m :: l, h => by
   show goX fs l (stp fs ss m) = ss
   rw [h m List.mem_cons_self]
   exact go_still l fun q hq => h q (List.mem_cons_of_mem _ hq)
end
end Go.Proofs.YtdkijecnnmncnaaGreatDoor
namespace Go.Proofs.YtdkijecnnmncnaaGreatDoor
open Go.RowKit Go.Shelf
set_option linter.unusedVariables false
set_option linter.unusedSimpArgs false
theorem head_pv {b : Nat} {s : WS} {y : WS × Unit} (h : headX (leaving b) (s, ()) = .ok y) : s.fP ≤ s.fV := by
 rw [headX_then] at h
 obtain ⟨y1, h1, h⟩ := thenX_ok h
 obtain ⟨y2, h2, h⟩ := thenX_ok h
 obtain ⟨y3, h3, h⟩ := thenX_ok h
 obtain ⟨y4, h4, h⟩ := thenX_ok h
 obtain ⟨u, h5, -⟩ := thenX_ok h
 cases (L_next 149 1 s ()).symm.trans h1
 cases (L_next 150 1 _ ()).symm.trans h2
 cases (L_next 151 1 _ ()).symm.trans h3
 cases (L_next 153 2 _ ()).symm.trans h4
 obtain ⟨g1, g2, g3, g4, g5⟩ := headOk_ok h5
 have e : ∀ a : Int, (if a < 8 then a else 8) ≤ a := fun a => by split <;> omega
 exact Int.le_trans g2.2 (e _)
theorem check_pv {G : Int} {f : PF} {r : List PF} (h : checkP G (f :: r) = 0) : f.P ≤ f.V := by
 have ht := told_overP 0 G (f :: r) (WS.start nilS)
 unfold checkP at h
 cases ha : answerP G (f :: r) with
 | error z =>
   rw [ha] at h
   exact absurd h (ht z ha)
 | ok y =>
   have ha : overP 0 G (f :: r) (WS.start nilS) = .ok y := ha
   obtain ⟨x1, h1, h2⟩ := thenX_ok ha
   obtain ⟨x2, h3, h4⟩ := thenX_ok h2
   obtain ⟨x3, h5, h6⟩ := thenX_ok h4
   obtain ⟨x4, h7, h8⟩ := thenX_ok h5
   exact head_pv h7
theorem alone_pv {G : Int} {fs : List PF} {f : PF} (h : checkP G (aloneP fs f) = 0) : f.P ≤ f.V := check_pv (f := { f with code := renC fs.length 1 f.code }) (r := headsF fs f.code) h
theorem EdgOk.sol {G : Int} {fs : List PF} {m : Nat} {ss : List PS} (h : EdgOk G fs m ss) : ∃ hm : m < fs.length, FunR fs fs[m] ∧ fs[m].P ≤ fs[m].V ∧ toldX fs ss fs[m].code = true ∧ ss.length = fs.length := by
 obtain ⟨i, e, hi, h1, h2, h3⟩ := h
 obtain rfl : m = i := by omega
 exact ⟨hi, right_ok h2, alone_pv h2, h3, h1⟩
end Go.Proofs.YtdkijecnnmncnaaGreatDoor
namespace Go.Proofs.YtdkijecnnmncnaaGreatDoor
open Go.RowKit (wrap32 wrap64)
set_option linter.unusedVariables false
set_option linter.unusedSimpArgs false
theorem rFuncs_ok {G : Int} {FS : List PF} : ∀ (hs : List PF) (L : Int), L + 1 ≤ 1048576 → (rFuncs G FS hs L 0).2 = 0 → ∀ f ∈ hs, ∀ j (h : j < f.code.length), InsOk G FS f.R f.V f.code.length f.code[j] ((j : Int) == (f.code.length : Int) - 1)
 | [], _, _, _, f, hf => by cases hf
 | g :: hs, L, hL, h, f, hf => by
   have e1 : rFuncs G FS (g :: hs) L 0 = rFuncs G FS hs (rCode G FS g.R g.V g.code.length 0 g.code L 0).1 (rCode G FS g.R g.V g.code.length 0 g.code L 0).2 := by simp [rFuncs]
   rw [e1] at h
   obtain ⟨c1, c2⟩ := @rCode_iff G FS g.R g.V g.code.length g.code 0 L hL
   by_cases hz : (rCode G FS g.R g.V g.code.length 0 g.code L 0).2 = 0
   ·obtain ⟨k1, k2⟩ := c1.1 hz
    rw [hz, c2 hz] at h
    rcases List.mem_cons.1 hf with rfl | hf
    ·intro j hj
     have := k1 j hj
     rw [Nat.zero_add] at this
     exact this
    ·exact rFuncs_ok hs _ k2 h f hf
   ·rw [rFuncs_ne _ _ _ _ hz] at h
    exact absurd h hz
theorem check_alone {G : Int} {fs : List PF} (h : checkP G fs = 0) : ∀ f ∈ fs, checkP G (aloneP fs f) = 0 := by
 intro f hf
 rw [alone_iff]
 rw [checkP_eq] at h
 unfold rAll rHd at h
 by_cases he : rE1 G fs.length = 0
 ·rw [he] at h
  obtain ⟨r1, r2⟩ := rHeads_iff fs 0 (by omega)
  by_cases hz : (rHeads fs 0 0).2 = 0
  ·obtain ⟨q1, q2⟩ := r1.1 hz
   rw [hz, r2 hz] at h
   unfold rE1 rE0 at he
   rw [mustE_iff (by decide), mustE_iff (by decide)] at he
   simp only [Bool.and_eq_true, decide_eq_true_eq, and_true] at he
   refine ⟨he.2, q1 f hf, fun j hj => ⟨rFuncs_ok fs _ q2 h f hf j hj, fun h11 g hg => ?_⟩⟩
   have := q1 g (List.mem_of_getElem? hg)
   exact ⟨this.1, by omega, by omega⟩
  ·rw [rFuncs_ne _ _ _ _ hz] at h
   exact absurd h hz
 ·rw [rHeads_ne _ _ he] at h
  rw [rFuncs_ne _ _ _ _ he] at h
  exact absurd h he
theorem check_len {G : Int} {fs : List PF} (h : checkP G fs = 0) : 1 ≤ fs.length ∧ fs.length ≤ 65535 := by
 rw [checkP_eq] at h
 unfold rAll rHd at h
 by_cases he : rE1 G fs.length = 0
 ·unfold rE1 rE0 at he
  rw [mustE_iff (by decide), mustE_iff (by decide)] at he
  simp only [Bool.and_eq_true, decide_eq_true_eq, and_true] at he
  omega
 ·rw [rHeads_ne _ _ he] at h
  rw [rFuncs_ne _ _ _ _ he] at h
  exact absurd h he
theorem FA.each {w : World} {v : Value} {fs : List PF} {n : Nat} (h : FA w v fs) (hn : fs.length = n) : ∃ a c, v = .slice a n c ∧ ∀ i (hi : i < fs.length), ∃ k o cv, a = some ⟨k, o, none⟩ ∧ k < w.heap.size ∧ w.cell? ⟨k, o + i * 4, none⟩ = some (vI fs[i].P) ∧ w.cell? ⟨k, o + i * 4 + 1, none⟩ = some (vI fs[i].R) ∧ w.cell? ⟨k, o + i * 4 + 2, none⟩ = some (vI fs[i].V) ∧ w.cell? ⟨k, o + i * 4 + 3, none⟩ = some cv ∧ CA w cv fs[i].code := by
 obtain ⟨a, c, e, h⟩ := h
 refine ⟨a, c, by rw [e, hn], fun i hi => ?_⟩
 obtain ⟨k, o, e1, e2, e3⟩ := h (by intro e; simp [e] at hi)
 obtain ⟨cv, h1, h2, h3, h4, h5⟩ := e3 i hi
 exact ⟨k, o, cv, e1, e2, h1, h2, h3, h4, h5⟩
theorem SsA.each {w : World} {v : Value} {ss : List PS} {n : Nat} (h : SsA w v ss) (hn : ss.length = n) : ∃ a c, v = .slice a n c ∧ ∀ i (hi : i < ss.length), ∃ k o hv rv, a = some ⟨k, o, none⟩ ∧ k < w.heap.size ∧ w.cell? ⟨k, o + i * 2, none⟩ = some hv ∧ w.cell? ⟨k, o + i * 2 + 1, none⟩ = some rv ∧ IA w hv ss[i].H ∧ LA w rv ss[i].R := by
 obtain ⟨a, c, e, h⟩ := h
 refine ⟨a, c, by rw [e, hn], fun i hi => ?_⟩
 obtain ⟨k, o, e1, e2, e3⟩ := h (by intro e; simp [e] at hi)
 obtain ⟨hv, rv, h1, h2, h3, h4⟩ := e3 i hi
 exact ⟨k, o, hv, rv, e1, e2, h1, h2, h3, h4⟩
structure RgtP (fs : List PF) (ss : List PS) : Prop where
 len : ss.length = fs.length
 fit : ∀ i (h : i < ss.length) (h' : i < fs.length), fitsX ss[i] fs[i].P fs[i].R = true
theorem RgtP.told {fs : List PF} {ss : List PS} (h : RgtP fs ss) {G : Int} {f : PF} (hc : checkP G (aloneP fs f) = 0) : toldX fs ss f.code = true := by
 unfold toldX
 rw [List.all_eq_true]
 intro c hcc
 unfold fitI
 split
 ·rename_i h11
  obtain ⟨q, hq, hqf, -⟩ := (right_ok hc).call c hcc h11
  have hqs : q < ss.length := by rw [h.len]; exact hqf
  rw [hq]
  simpa [hqf, hqs] using h.fit q hqs hqf
 ·rfl
theorem RgtP.edg {fs : List PF} {ss : List PS} (h : RgtP fs ss) {G : Int} (hc : checkP G fs = 0) {i : Nat} (hi : i < fs.length) : EdgOk G fs i ss := by
 have := check_alone hc fs[i] (List.getElem_mem hi)
 exact ⟨i, rfl, hi, h.len, this, h.told this⟩
end Go.Proofs.YtdkijecnnmncnaaGreatDoor
