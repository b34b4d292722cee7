import Derived.Test.YtfgkilpahomenaaQBa
import Derived.Test.YtfgkilpahomenaaQAg
namespace Go.Proofs.Ytfgkilpahomenaa
open Go.RowKit (wrap32 wrap64)
set_option linter.unusedVariables false
set_option linter.unusedSimpArgs false

/-- A summary of its own, list by list. -/
structure SO (w : World) (B : Nat) (hv rv : Value) (us : List Value) (s : PS) : Prop where
  oh : IOwn w B hv s.heap
  lo : LO w B rv us s.res
  ap : ∀ i (h : i < us.length), ∀ k, us[i].ownBlock = some k → hv.ownBlock ≠ some k
theorem SO.keep {w w' : World} {B : Nat} {hv rv : Value} {us : List Value} {s : PS} (h : SO w B hv rv us s) (f : Fr (fun _ => False) w w') : SO w' B hv rv us s := ⟨h.oh.fr f (fun _ _ e => e), h.lo.keep f, h.ap⟩
theorem SO.sa {w : World} {B : Nat} {hv rv : Value} {us : List Value} {s : PS} (h : SO w B hv rv us s) : SA w (.agg #[hv, rv]) s := ⟨hv, rv, rfl, h.oh.ia, h.lo.la⟩
theorem LO.fr {S : Nat → Prop} {w w' : World} {B : Nat} {rv : Value} {us : List Value} {ls : List (List Int)} (h : LO w B rv us ls) (f : Fr S w w') (hS : ∀ k, B ≤ k → ¬ S k) : LO w' B rv us ls :=
  ⟨ownsRow_fr h.row f (fun k e => hS k (World.ownsRow.lt h.row k e).1), h.ul, fun i hi hk => (h.each i hi hk).fr f (fun k e => hS k ((h.each i hi hk).ge k e).1), h.apart⟩

theorem LO.mono {w : World} {B B' : Nat} {rv : Value} {us : List Value} {ls : List (List Int)} (h : LO w B rv us ls) (hB : B' ≤ B) : LO w B' rv us ls := ⟨World.ownsRow.mono h.row hB, h.ul, fun i hi hk => (h.each i hi hk).mono hB, h.apart⟩
set_option maxRecDepth 100000 in
set_option maxHeartbeats 4000000 in
theorem copySummary_any (v : Value) (s : PS) (w : World) (hs : SA w v s) (fs : s.Fits) (hr : s.res.length ≤ 1000000000000) : Calls Try.prog 13 #[v] w fun e w' => ∃ hv rv us, e = .returned (.agg #[hv, rv]) ∧ SO w' (w.heap.size + 2) hv rv us s ∧ Fr (fun _ => False) w w' := by
  obtain ⟨x1, y1, rfl, h1, h2⟩ := hs
  obtain ⟨a1, b1, e1, -⟩ := id h1
  obtain ⟨a2, b2, e2, -⟩ := id h2
  obtain ⟨wa, hwa⟩ : ∃ wa, wa = (w.alloc (.cells #[x1, y1] 31)).alloc nil2 := ⟨_, rfl⟩
  have hF : Fr (fun _ => False) w wa := by rw [hwa]; exact Fr.alloc (Fr.alloc (Fr.refl _ w) _) _
  obtain ⟨H, hH⟩ : ∃ H, H = w.heap.size := ⟨_, rfl⟩
  have b1' : wa.heap[H]? = some (.cells #[x1, y1] 31) := by rw [hwa, hH]; exact keepA (heap_new w _) _
  have b2' : wa.heap[H + 1]? = some nil2 := by
    have := heap_new (w.alloc (.cells #[x1, y1] 31)) nil2
    rw [World.size_alloc] at this
    rw [hwa, hH]; exact this
  have hsz : wa.heap.size = H + 2 := by rw [hwa, hH]; simp
  have HWA : Hd (wa = (w.alloc (.cells #[x1, y1] 31)).alloc nil2) := hwa
  have HSZ : Hd (wa.heap.size = H + 2) := hsz
  have HF : Hd (Fr (fun _ => False) w wa) := hF
  have HH : Hd (H = w.heap.size) := hH
  have B2 : Hd (wa.heap[H + 1]? = some nil2) := b2'
  have HI1 : Hd (∀ W, Fr (fun _ => False) wa W → IA W x1 s.heap) := fun W f => h1.stay (hF.trans f)
  have HI2 : Hd (∀ W, Fr (fun _ => False) wa W → LA W y1 s.res) := fun W f => h2.stay (hF.trans f)
  have FS : Hd s.Fits := fs
  have c0 : wa.cell? ⟨H, 0, none⟩ = some x1 := by rw [cell_of b1']; rfl
  have c1 : wa.cell? ⟨H, 1, none⟩ = some y1 := by rw [cell_of b1']; rfl
  have d0 : wa.cell? ⟨H + 1, 0, none⟩ = some (.slice none 0 0) := by rw [cell_of b2']; rfl
  have d1 : wa.cell? ⟨H + 1, 1, none⟩ = some (.slice none 0 0) := by rw [cell_of b2']; rfl
  have z0 := frozen_of b2' 0
  have z1 := frozen_of b2' 1
  have hHl : H < wa.heap.size := heap_lt b1'
  have hHl1 : H + 1 < wa.heap.size := heap_lt b2'
  subst e1; subst e2
  clear h1 h2 hF hwa hH b1' b2' fs hsz
  go_enter Try.func13, Try.ntmps13
  go_upto_region 1 with fail
  rw [← HWA.out, ← HH.out]
  clear HWA
  go_region_held3 (fun w' => w'.cell? ⟨H, 0, none⟩ = some (.slice a1 s.heap.length b1) ∧ w'.cell? ⟨H, 1, none⟩ = some (.slice a2 s.res.length b2)) (go_keep) ((
    first
      | (go_at_call 29
         refine (show Calls Try.prog 29 #[.slice a1 s.heap.length b1] _ _ from copyInts_any _ s.heap _ (by first | exact HI1.out _ (Fr.drew (Fr.refl _ _)) | exact HI1.out _ HGb.out) FS.out.h).mono ?_
         rintro e wx ⟨hv, rfl, hxo, hfx⟩
         obtain ⟨xa, xc, ehv⟩ := own_slice hxo
         subst ehv
         have HGa : Hd (Fr (fun _ => False) wa wx) := by first | exact (Fr.drew (Fr.refl _ _)).trans hfx | exact HGb.out.trans hfx
         have HOa : Hd _ := hxo
         have s0 := (HGa.out.cell hHl (fun h => h)).trans c0
         have s1 := (HGa.out.cell hHl (fun h => h)).trans c1
         have s2 := (HGa.out.cell hHl1 (fun h => h)).trans d0
         have s3 := (HGa.out.cell hHl1 (fun h => h)).trans d1
         have s4 := frozen_of (keepF B2.out HGa.out) 0
         have s5 := frozen_of (keepF B2.out HGa.out) 1
         have HFXa : Hd _ := hfx
         clear hxo hfx)
      | (go_at_call 30
         refine (show Calls Try.prog 30 #[.slice a2 s.res.length b2] _ _ from copyLists_any _ s.res _ (by first | exact HI2.out _ (Fr.drew (Fr.refl _ _)) | exact HI2.out _ HGa.out) hr FS.out.l).mono ?_
         rintro e wy ⟨rv, us, rfl, hyo, hfy⟩
         obtain ⟨ya, yc, erv⟩ := own_slice hyo.row
         subst erv
         have HGb : Hd (Fr (fun _ => False) wa wy) := by first | exact (Fr.drew (Fr.refl _ _)).trans hfy | exact HGa.out.trans hfy
         have HOb : Hd _ := hyo
         have t0 := (HGb.out.cell hHl (fun h => h)).trans c0
         have t1 := (HGb.out.cell hHl (fun h => h)).trans c1
         have t2 := (HGb.out.cell hHl1 (fun h => h)).trans d0
         have t3 := (HGb.out.cell hHl1 (fun h => h)).trans d1
         have t4 := frozen_of (keepF B2.out HGb.out) 0
         have t5 := frozen_of (keepF B2.out HGb.out) 1
         have HFXb : Hd _ := hfy
         clear hyo hfy)))
  have f : Fr (fun j => j = H + 1) wy ((wy.setCell ⟨H + 1, 0, none⟩ (.slice xa s.heap.length xc)).setCell ⟨H + 1, 1, none⟩ (.slice ya us.length yc)) := (setCell_fr wy (H + 1) 0 _).trans (setCell_fr _ (H + 1) 1 _)
  have HZ : Hd (((wy.setCell ⟨H + 1, 0, none⟩ (.slice xa s.heap.length xc)).setCell ⟨H + 1, 1, none⟩ (.slice ya us.length yc)).heap[H + 1]? = some (.cells #[.slice xa s.heap.length xc, .slice ya us.length yc] 31)) := set_of (set_of (keepF B2.out HGb.out) 0 _) 1 _
  have hO1 : IOwn wx wa.heap.size (.slice xa s.heap.length xc) s.heap := HOa.out
  have hL1 : LO wy wx.heap.size (.slice ya us.length yc) us s.res := HOb.out
  have hFxy : Fr (fun _ => False) wx wy := HFXb.out
  have hsx : wa.heap.size ≤ wx.heap.size := HGa.out.size
  have hsz := HSZ.out
  have HSO : Hd (SO ((wy.setCell ⟨H + 1, 0, none⟩ (.slice xa s.heap.length xc)).setCell ⟨H + 1, 1, none⟩ (.slice ya us.length yc)) (w.heap.size + 2) (.slice xa s.heap.length xc) (.slice ya us.length yc) us s) := by
    have hw := HH.out
    have h1 : IOwn wy (w.heap.size + 2) (.slice xa s.heap.length xc) s.heap := (hO1.fr hFxy (fun _ _ e => e)).mono (by omega)
    refine ⟨h1.fr f (fun j e e2 => by have := (h1.ge j e).1; omega), (hL1.mono (by omega)).fr f (fun j hj e => by omega), fun i hi j e e2 => ?_⟩
    have h2 := ((hL1.each i hi (by have := hL1.ul; omega)).ge j e).1
    have h3 := (hO1.ge j e2).2
    omega
  have HFz : Hd (Fr (fun _ => False) w ((wy.setCell ⟨H + 1, 0, none⟩ (.slice xa s.heap.length xc)).setCell ⟨H + 1, 1, none⟩ (.slice ya us.length yc))) := (HF.out.trans HGb.out).then f (fun j hj e => by have := HH.out; omega)
  clear f hO1 hL1 hFxy hsx hsz s0 s1 s2 s3 s4 s5 t0 t1 t2 t3 t4 t5 c0 c1 d0 d1 z0 z1
  go_wp2_with fail
  generalize (wy.setCell ⟨H + 1, 0, none⟩ (.slice xa s.heap.length xc)).setCell ⟨H + 1, 1, none⟩ (.slice ya us.length yc) = wz at *
  have e0 : wz.cell? ⟨H + 1, 0, none⟩ = some (.slice xa s.heap.length xc) := by rw [cell_of HZ.out]; rfl
  have e1 : wz.cell? ⟨H + 1, 1, none⟩ = some (.slice ya us.length yc) := by rw [cell_of HZ.out]; rfl
  refine bodyPost_ret (v := .agg #[.slice xa s.heap.length xc, .slice ya us.length yc]) ?_ rfl ⟨_, _, us, rfl, HSO.out, HFz.out⟩
  rw [results_cell (p := 2) (ty := 31) Try.results13]
  simp [go_sem, e0, e1]

end Go.Proofs.Ytfgkilpahomenaa

namespace Go.Proofs.Ytfgkilpahomenaa
open Go.RowKit (wrap32 wrap64)
set_option linter.unusedVariables false
set_option linter.unusedSimpArgs false

set_option maxRecDepth 100000 in
set_option maxHeartbeats 2000000 in
theorem meet_no (v1 v2 : Value) (a b : PS) (w : World) (ha : SA w v1 a) (hb : SA w v2 b) (fa : a.Fits) (fb : b.Fits) (hp : a.pair b = false) :
    Calls Try.prog 12 #[v1, v2] w fun e w' => e = .returned (.tuple #[.agg #[.slice none 0 0, .slice none 0 0], vI 90]) ∧ Fr (fun _ => False) w w' := by
  obtain ⟨x1, y1, rfl, h1, h2⟩ := ha
  obtain ⟨x2, y2, rfl, h3, h4⟩ := hb
  obtain ⟨a1, b1, e1, -⟩ := id h1
  obtain ⟨a2, b2, e2, hl2⟩ := id h2
  obtain ⟨a3, b3, e3, -⟩ := id h3
  obtain ⟨a4, b4, e4, hl4⟩ := id h4
  obtain ⟨wa, hwa⟩ : ∃ wa, wa = ((w.alloc (.cells #[x1, y1] 31)).alloc (.cells #[x2, y2] 31)).alloc nil2 := ⟨_, rfl⟩
  have hF : Fr (fun _ => False) w wa := by rw [hwa]; exact Fr.alloc (Fr.alloc (Fr.alloc (Fr.refl _ w) _) _) _
  obtain ⟨H, hH⟩ : ∃ H, H = w.heap.size := ⟨_, rfl⟩
  have b1' : wa.heap[H]? = some (.cells #[x1, y1] 31) := by rw [hwa, hH]; exact keepA (keepA (heap_new w _) _) _
  have b2' : wa.heap[H + 1]? = some (.cells #[x2, y2] 31) := by
    have := heap_new (w.alloc (.cells #[x1, y1] 31)) (.cells #[x2, y2] 31)
    rw [World.size_alloc] at this
    rw [hwa, hH]; exact keepA this _
  have b3' : wa.heap[H + 2]? = some nil2 := by
    have := heap_new ((w.alloc (.cells #[x1, y1] 31)).alloc (.cells #[x2, y2] 31)) nil2
    rw [World.size_alloc, World.size_alloc] at this
    rw [hwa, hH]; exact this
  have hsz : wa.heap.size = H + 3 := by rw [hwa, hH]; simp
  have HSZ : Hd (wa.heap.size = H + 3) := hsz
  have HWA : Hd (wa = ((w.alloc (.cells #[x1, y1] 31)).alloc (.cells #[x2, y2] 31)).alloc nil2) := hwa
  have HF : Hd (Fr (fun _ => False) w wa) := hF
  have HH : Hd (H = w.heap.size) := hH
  have B1 : Hd (wa.heap[H]? = some (.cells #[x1, y1] 31)) := b1'
  have B2 : Hd (wa.heap[H + 1]? = some (.cells #[x2, y2] 31)) := b2'
  have B3 : Hd (wa.heap[H + 2]? = some nil2) := b3'
  have G1 : Hd (IA wa x1 a.heap) := h1.stay hF
  have G2 : Hd (LA wa y1 a.res) := h2.stay hF
  have G3 : Hd (IA wa x2 b.heap) := h3.stay hF
  have G4 : Hd (LA wa y2 b.res) := h4.stay hF
  have FA : Hd a.Fits := fa
  have FB : Hd b.Fits := fb
  have HL2 : Hd (a.res ≠ [] → _) := hl2
  have HL4 : Hd (b.res ≠ [] → _) := hl4
  have HPN : Hd ((all2 pairB a.heap b.heap && all2 (all2 pairB) a.res b.res) = false) := hp
  have c0 : wa.cell? ⟨H, 0, none⟩ = some x1 := by rw [cell_of b1']; rfl
  have d0 : wa.cell? ⟨H + 1, 0, none⟩ = some x2 := by rw [cell_of b2']; rfl
  subst e1; subst e2; subst e3; subst e4
  clear h1 h2 h3 h4 hl2 hl4 hF hwa hH b1' b2' b3' fa fb hp hsz HL2 HL4
  go_enter Try.func12, Try.ntmps12
  go_upto_region 1 with fail
  rw [← HWA.out, ← HH.out]
  clear HWA
  go_wp2_with fail
  refine (show Calls Try.prog 27 #[.slice a1 a.heap.length b1, .slice a3 b.heap.length b3] wa _ from paired_any _ _ _ _ wa G1.out G3.out FA.out.h FB.out.h).mono ?_
  rintro e w1 ⟨rfl, hF1⟩
  have B1' : Hd _ := keepF B1.out hF1
  have B2' : Hd _ := keepF B2.out hF1
  have B3' : Hd (w1.heap[H + 2]? = some nil2) := keepF B3.out hF1
  have HF' : Hd (Fr (fun _ => False) w w1) := HF.out.trans hF1
  have G2' : Hd (LA w1 (.slice a2 a.res.length b2) a.res) := LA.stay G2.out hF1
  have G4' : Hd (LA w1 (.slice a4 b.res.length b4) b.res) := LA.stay G4.out hF1
  have E2 : Hd (∀ W, Fr (fun _ => False) w1 W → W.cell? ⟨H + 2, 0, none⟩ = some (.slice none 0 0) ∧ W.cell? ⟨H + 2, 1, none⟩ = some (.slice none 0 0) ∧ W.frozen? ⟨H + 2, 0, none⟩ = false ∧ W.frozen? ⟨H + 2, 1, none⟩ = false ∧ ((W.setCell ⟨H + 2, 0, none⟩ (.slice none 0 0)).setCell ⟨H + 2, 1, none⟩ (.slice none 0 0)).heap[H + 2]? = some nil2 ∧ Fr (fun _ => False) w ((W.setCell ⟨H + 2, 0, none⟩ (.slice none 0 0)).setCell ⟨H + 2, 1, none⟩ (.slice none 0 0))) := fun W f => by
    have b := keepF B3'.out f
    refine ⟨by rw [cell_of b]; rfl, by rw [cell_of b]; rfl, frozen_of b 0, frozen_of b 1, set_of (set_of b 0 _) 1 _, ?_⟩
    exact (HF'.out.trans f).then ((setCell_fr W (H + 2) 0 _).trans (setCell_fr _ (H + 2) 1 _)) (fun j hj e => by have := HH.out; omega)
  clear hF1 c0 d0
  cases hq : all2 pairB a.heap b.heap with
  | false =>
    obtain ⟨y0, y1, z0, z1, k0, k1⟩ := E2.out w1 (Fr.refl _ _)
    have K0 : Hd _ := k0
    have K1 : Hd _ := k1
    clear hq k0 k1
    go_wp2_with fail
    clear y0 y1 z0 z1
    generalize (w1.setCell ⟨H + 2, 0, none⟩ (.slice none 0 0)).setCell ⟨H + 2, 1, none⟩ (.slice none 0 0) = wz at *
    have e0 : wz.cell? ⟨H + 2, 0, none⟩ = some (.slice none 0 0) := by rw [cell_of K0.out]; rfl
    have e1 : wz.cell? ⟨H + 2, 1, none⟩ = some (.slice none 0 0) := by rw [cell_of K0.out]; rfl
    refine bodyPost_ret (v := .tuple #[.agg #[.slice none 0 0, .slice none 0 0], vI 90]) ?_ rfl ⟨rfl, K1.out⟩
    simp [results, Try.results12, go_sem, e0, e1]
  | true =>
    have HQ2 : Hd (all2 (all2 pairB) a.res b.res = false) := by have := HPN.out; rw [hq] at this; unfold Hd; simpa using this
    have c1 : w1.cell? ⟨H, 1, none⟩ = some (.slice a2 a.res.length b2) := by rw [cell_of B1'.out]; rfl
    have d1 : w1.cell? ⟨H + 1, 1, none⟩ = some (.slice a4 b.res.length b4) := by rw [cell_of B2'.out]; rfl
    clear hq
    go_wp2_with fail
    refine (show Calls Try.prog 22 #[.slice a2 a.res.length b2, .slice a4 b.res.length b4, .func (.func 27) #[] #[]] w1 _ from equalL27 _ _ _ _ w1 G2'.out G4'.out FA.out.r FB.out.r FA.out.l FB.out.l).mono ?_
    rintro e w2 ⟨rfl, hF2⟩
    rw [HQ2.out]
    obtain ⟨y0, y1, z0, z1, k0, k1⟩ := E2.out w2 hF2
    have K0 : Hd _ := k0
    have K1 : Hd _ := k1
    clear hF2 k0 k1 c1 d1
    go_wp2_with fail
    clear y0 y1 z0 z1
    generalize (w2.setCell ⟨H + 2, 0, none⟩ (.slice none 0 0)).setCell ⟨H + 2, 1, none⟩ (.slice none 0 0) = wz at *
    have e0 : wz.cell? ⟨H + 2, 0, none⟩ = some (.slice none 0 0) := by rw [cell_of K0.out]; rfl
    have e1 : wz.cell? ⟨H + 2, 1, none⟩ = some (.slice none 0 0) := by rw [cell_of K0.out]; rfl
    refine bodyPost_ret (v := .tuple #[.agg #[.slice none 0 0, .slice none 0 0], vI 90]) ?_ rfl ⟨rfl, K1.out⟩
    simp [results, Try.results12, go_sem, e0, e1]

/-- What Meet tells of any two summaries. -/
theorem meet_err (v1 v2 : Value) (a b : PS) (w : World) (ha : SA w v1 a) (hb : SA w v2 b) (fa : a.Fits) (fb : b.Fits) (hr : a.res.length ≤ 1000000000000) :
    Calls Try.prog 12 #[v1, v2] w fun e w' => ∃ xa xn xc ya yn yc, e = .returned (.tuple #[.agg #[.slice xa xn xc, .slice ya yn yc], vI (if a.pair b = true then 0 else 90)]) ∧ Fr (fun _ => False) w w' := by
  cases hp : a.pair b with
  | false =>
    refine (meet_no v1 v2 a b w ha hb fa fb hp).mono ?_
    rintro e w' ⟨rfl, h⟩
    exact ⟨_, _, _, _, _, _, rfl, h⟩
  | true =>
    have h2 := hp
    simp only [PS.pair, Bool.and_eq_true] at h2
    refine (meet_yes v1 v2 a b w ha hb fa fb h2.1 h2.2 hr).mono ?_
    rintro e w' ⟨v, rfl, h1, h⟩
    obtain ⟨hv, rv, rfl, ⟨a1, c1, rfl, -⟩, a2, c2, rfl, -⟩ := h1
    exact ⟨_, _, _, _, _, _, rfl, h⟩

/-! ### one number another, one more, one list less -/
theorem all_set {l : List Int} {i : Nat} {x : Int} (hi : i < l.length) (h : ∀ y ∈ l, okN y = true) : (l.set i x).all okN = okN x := by
  rw [Bool.eq_iff_iff, List.all_eq_true]
  constructor
  · intro k; exact k x (List.mem_set hi x)
  · intro k y hy
    rcases List.mem_or_eq_of_mem_set hy with h1 | h1
    · exact h y h1
    · rw [h1]; exact k
theorem all2_self {p : Int → Int → Bool} (hp : ∀ x, p x x = okN x) (l : List Int) : all2 p l l = l.all okN := by
  induction l with
  | nil => rfl
  | cons x l ih => simp [all2, hp, ih]
theorem all2_okR {l m : List Int} (hl : l.length = m.length) (hm : ∀ y ∈ m, okN y = true) : all2 pairB l m = l.all okN := by
  rw [Bool.eq_iff_iff, all2_iff, List.all_eq_true]
  constructor
  · rintro ⟨-, h⟩ x hx
    obtain ⟨i, hi, rfl⟩ := List.getElem_of_mem hx
    have := h i hi (by omega)
    simp only [pairB, Bool.and_eq_true] at this
    exact this.1
  · intro h
    exact ⟨hl, fun i hi hk => by simp [pairB, h _ (List.getElem_mem hi), hm _ (List.getElem_mem hk)]⟩

end Go.Proofs.Ytfgkilpahomenaa

namespace Go.Proofs.Ytfgkilpahomenaa
open Go.RowKit (wrap32 wrap64)
set_option linter.unusedVariables false
set_option linter.unusedSimpArgs false

structure PS.Shaped (P R : Nat) (t : PS) : Prop where
  hl : t.heap.length = P
  rl : t.res.length = P
  ll : ∀ l ∈ t.res, l.length = R
def PS.okAll (t : PS) : Bool := t.heap.all okN && t.res.all (·.all okN)
theorem PS.Shaped.fits {P R : Nat} {t : PS} (h : t.Shaped P R) (hp : P ≤ 8) (hr : R ≤ 4) : t.Fits := ⟨by have := h.hl; omega, by have := h.rl; omega, fun l hl => by have := h.ll l hl; omega⟩
theorem PS.Shaped.right {P R : Nat} {t : PS} (h : t.Shaped P R) : t.right P R = t.okAll := by
  rw [Bool.eq_iff_iff]
  simp only [PS.right, PS.okAll, rightListB, Bool.and_eq_true, decide_eq_true_eq, List.all_eq_true]
  constructor
  · rintro ⟨⟨⟨-, h2⟩, -⟩, h4⟩; exact ⟨h2, fun l hl => (h4 l hl).2⟩
  · rintro ⟨h1, h2⟩; exact ⟨⟨⟨by rw [h.hl], h1⟩, by rw [h.rl]⟩, fun l hl => ⟨by rw [h.ll l hl], h2 l hl⟩⟩
theorem PS.Shaped.pair {P R : Nat} {t s : PS} (h : t.Shaped P R) (k : PS.Right P R s) : t.pair s = t.okAll := by
  rw [PS.pair, PS.okAll, all2_okR (h.hl.trans k.hl.symm) k.ho]
  congr 1
  rw [Bool.eq_iff_iff, all2_iff, List.all_eq_true]
  constructor
  · rintro ⟨-, h2⟩ l hl
    obtain ⟨i, hi, rfl⟩ := List.getElem_of_mem hl
    have := h2 i hi (by have := h.rl; have := k.rl; omega)
    rw [all2_okR ((h.ll _ hl).trans (k.ro _ (List.getElem_mem _)).1.symm) (k.ro _ (List.getElem_mem _)).2] at this
    exact this
  · intro h2
    refine ⟨h.rl.trans k.rl.symm, fun i hi hk => ?_⟩
    rw [all2_okR ((h.ll _ (List.getElem_mem hi)).trans (k.ro _ (List.getElem_mem hk)).1.symm) (k.ro _ (List.getElem_mem hk)).2]
    exact h2 _ (List.getElem_mem hi)
theorem leB_self (x : Int) : leB x x = okN x := by simp [leB]
theorem PS.above_self (t : PS) : t.above t = t.okAll := by
  rw [PS.above, PS.okAll, all2_self leB_self]
  congr 1
  generalize t.res = ls
  induction ls with
  | nil => rfl
  | cons l ls ih => simp only [all2, List.all_cons, ih, all2_self leB_self]
theorem PS.setH {P R : Nat} {s : PS} (h : PS.Right P R s) {i : Nat} (hi : i < s.heap.length) (x : Int) : PS.Shaped P R ⟨s.heap.set i x, s.res⟩ ∧ PS.okAll ⟨s.heap.set i x, s.res⟩ = okN x := by
  refine ⟨⟨by simp [h.hl], h.rl, fun l hl => (h.ro l hl).1⟩, ?_⟩
  unfold PS.okAll
  rw [all_set hi h.ho, List.all_eq_true.2 (fun l hl => List.all_eq_true.2 (h.ro l hl).2), Bool.and_true]
theorem PS.setR {P R : Nat} {s : PS} (h : PS.Right P R s) {i j : Nat} (hi : i < s.res.length) (hj : j < s.res[i].length) (x : Int) : PS.Shaped P R ⟨s.heap, s.res.set i (s.res[i].set j x)⟩ ∧ PS.okAll ⟨s.heap, s.res.set i (s.res[i].set j x)⟩ = okN x := by
  have hri := h.ro _ (List.getElem_mem hi)
  refine ⟨⟨h.hl, by simp [h.rl], fun l hl => ?_⟩, ?_⟩
  · rcases List.mem_or_eq_of_mem_set hl with h1 | h1
    · exact (h.ro l h1).1
    · rw [h1]; simp [hri.1]
  · unfold PS.okAll
    rw [List.all_eq_true.2 h.ho, Bool.true_and, Bool.eq_iff_iff, List.all_eq_true]
    constructor
    · intro k
      have := k _ (List.mem_set hi (s.res[i].set j x))
      rwa [all_set hj hri.2] at this
    · intro k l hl
      rcases List.mem_or_eq_of_mem_set hl with h1 | h1
      · exact List.all_eq_true.2 (h.ro l h1).2
      · rw [h1, all_set hj hri.2]; exact k
/-- One number more in a list. -/
theorem PS.more {P R : Nat} {s : PS} (h : PS.Right P R s) {i : Nat} (hi : i < s.res.length) : s.pair ⟨s.heap, s.res.set i (s.res[i] ++ [0])⟩ = false ∧ s.above ⟨s.heap, s.res.set i (s.res[i] ++ [0])⟩ = false ∧ PS.right P R ⟨s.heap, s.res.set i (s.res[i] ++ [0])⟩ = false := by
  have hb : ∀ p : Int → Int → Bool, all2 (all2 p) s.res (s.res.set i (s.res[i] ++ [0])) = false := fun p => by
    refine all2_bad hi (by simpa using hi) ?_
    rw [List.getElem_set_self]
    exact all2_short (by simp)
  refine ⟨by rw [PS.pair, hb, Bool.and_false], by rw [PS.above, hb, Bool.and_false], ?_⟩
  rw [Bool.eq_false_iff]
  intro e
  simp only [PS.right, rightListB, Bool.and_eq_true, decide_eq_true_eq, List.all_eq_true] at e
  have := (e.2 _ (List.mem_set hi (s.res[i] ++ [0]))).1
  have h2 := (h.ro _ (List.getElem_mem hi)).1
  simp [h2] at this
  omega
/-- One list less. -/
theorem PS.less {P R : Nat} {s : PS} (h : PS.Right P R s) (hP : 0 < P) : PS.pair ⟨s.heap, s.res.take (P - 1)⟩ s = false ∧ PS.above ⟨s.heap, s.res.take (P - 1)⟩ s = false ∧ PS.right P R ⟨s.heap, s.res.take (P - 1)⟩ = false := by
  have hl : (s.res.take (P - 1)).length ≠ s.res.length := by rw [List.length_take, h.rl]; omega
  refine ⟨by rw [PS.pair, all2_short hl, Bool.and_false], by rw [PS.above, all2_short hl, Bool.and_false], ?_⟩
  rw [Bool.eq_false_iff]
  intro e
  simp only [PS.right, Bool.and_eq_true, decide_eq_true_eq] at e
  have := e.1.2
  rw [List.length_take, h.rl] at this
  omega

/-! ### writing into a copy -/
theorem LO.fr2 {S : Nat → Prop} {w w' : World} {B : Nat} {rv : Value} {us : List Value} {ls : List (List Int)} (h : LO w B rv us ls) (f : Fr S w w') (h1 : ∀ k, rv.ownBlock = some k → ¬ S k) (h2 : ∀ i (hi : i < us.length), ∀ k, us[i].ownBlock = some k → ¬ S k) : LO w' B rv us ls :=
  ⟨ownsRow_fr h.row f h1, h.ul, fun i hi hk => (h.each i hi hk).fr f (h2 i hi), h.apart⟩
theorem IOwn.at {w : World} {B : Nat} {v : Value} {l : List Int} (h : IOwn w B v l) {i : Nat} (hi : i < l.length) : ∃ g c cs, v = .slice (some ⟨g, 0, none⟩) l.length c ∧ B ≤ g ∧ w.heap[g]? = some (.cells cs 3) ∧ w.cell? ⟨g, i, none⟩ = some (vI l[i]) := by
  obtain ⟨g, c, e, -, hc⟩ := own_cell h (j := i) (u := vI l[i]) (by simp [List.getElem?_eq_getElem hi])
  rcases h.2 with ⟨e1, -⟩ | ⟨g', cap, cur, e1, k1, k2, -⟩
  · rw [e1] at e; cases e
  · rw [e1] at e
    cases e
    exact ⟨g, _, cur, e1, k1, k2, hc⟩
theorem IOwn.set {w : World} {B : Nat} {v : Value} {l : List Int} (h : IOwn w B v l) {i g c : Nat} (hi : i < l.length) (hv : v = .slice (some ⟨g, 0, none⟩) l.length c) (x : Int) : IA (w.setCell ⟨g, i, none⟩ (vI x)) v (l.set i x) := by
  refine ⟨some ⟨g, 0, none⟩, c, by rw [List.length_set]; exact hv, fun _ => ⟨g, 0, rfl, ?_, fun j hj => ?_⟩⟩
  · have := (h.ge g (by rw [hv]; rfl)).2
    have f := setCell_fr w g i (vI x)
    exact Nat.lt_of_lt_of_le this f.size
  · have hj' : j < l.length := by simpa using hj
    obtain ⟨g', c', cs, e, -, hb, hc⟩ := h.at hj'
    rw [hv] at e
    cases e
    rw [Nat.zero_add, cell_of (set_of hb i (vI x))]
    rw [cell_of hb] at hc
    have hjs := (Array.getElem?_eq_some_iff.1 hc).1
    by_cases e : i = j
    · subst e
      simp [hjs]
    · rw [Array.getElem?_setIfInBounds_ne e, hc, List.getElem_set_ne e]

theorem SO.setH {w : World} {B : Nat} {hv rv : Value} {us : List Value} {s : PS} (h : SO w B hv rv us s) {i : Nat} (hi : i < s.heap.length) :
    ∃ g c z, hv = .slice (some ⟨g, 0, none⟩) s.heap.length c ∧ B ≤ g ∧ w.cell? ⟨g, i, none⟩ = some (vI z) ∧ w.frozen? ⟨g, i, none⟩ = false ∧ ∀ x : Int, SA (w.setCell ⟨g, i, none⟩ (vI x)) (.agg #[hv, rv]) ⟨s.heap.set i x, s.res⟩ := by
  obtain ⟨g, c, cs, e, hB, hb, hc⟩ := h.oh.at hi
  refine ⟨g, c, _, e, hB, hc, frozen_of hb i, fun x => ⟨hv, rv, rfl, h.oh.set hi e x, ?_⟩⟩
  refine LO.la (B := B) (us := us) (h.lo.fr2 (setCell_fr w g i _) (fun k hk e2 => ?_) (fun j hj k hk e2 => ?_))
  · subst e2
    exact own_apart h.lo.row h.oh (by decide) k (by rw [e]; rfl) hk
  · subst e2
    exact h.ap j hj k hk (by rw [e]; rfl)
end Go.Proofs.Ytfgkilpahomenaa

namespace Go.Proofs.Ytfgkilpahomenaa
open Go.RowKit (wrap32 wrap64)
set_option linter.unusedVariables false
set_option linter.unusedSimpArgs false

theorem LO.at {w : World} {B : Nat} {rv : Value} {us : List Value} {ls : List (List Int)} (h : LO w B rv us ls) {i : Nat} (hi : i < us.length) : ∃ g c cs, rv = .slice (some ⟨g, 0, none⟩) us.length c ∧ B ≤ g ∧ w.heap[g]? = some (.cells cs 22) ∧ ∀ m (hm : m < us.length), w.cell? ⟨g, m, none⟩ = some us[m] := by
  obtain ⟨g, c, e, -, -⟩ := own_cell h.row (j := i) (u := us[i]) (List.getElem?_eq_getElem hi)
  rcases h.row.2 with ⟨e1, -⟩ | ⟨g', cap, cur, e1, k1, k2, -⟩
  · rw [e1] at e; cases e
  · rw [e1] at e
    cases e
    refine ⟨g, _, cur, e1, k1, k2, fun m hm => ?_⟩
    obtain ⟨g2, c2, e2, -, hc⟩ := own_cell h.row (j := m) (u := us[m]) (List.getElem?_eq_getElem hm)
    rw [e1] at e2
    cases e2
    exact hc

theorem SO.setR {w : World} {B : Nat} {hv rv : Value} {us : List Value} {s : PS} (h : SO w B hv rv us s) {i j : Nat} (hi : i < s.res.length) (hj : j < s.res[i].length) :
    ∃ rg rc ug uc z, rv = .slice (some ⟨rg, 0, none⟩) s.res.length rc ∧ B ≤ ug ∧ w.cell? ⟨rg, i, none⟩ = some (.slice (some ⟨ug, 0, none⟩) s.res[i].length uc) ∧ w.cell? ⟨ug, j, none⟩ = some (vI z) ∧ w.frozen? ⟨ug, j, none⟩ = false ∧ ∀ x : Int, SA (w.setCell ⟨ug, j, none⟩ (vI x)) (.agg #[hv, rv]) ⟨s.heap, s.res.set i (s.res[i].set j x)⟩ := by
  have hul := h.lo.ul
  have hiu : i < us.length := by omega
  obtain ⟨rg, rc, cs, e, hB, hb, hcc⟩ := h.lo.at hiu
  have hui := h.lo.each i hiu hi
  obtain ⟨ug, uc, cu, eu, hBu, hbu, hcu⟩ := hui.at hj
  have hne : rg ≠ ug := fun e2 => by subst e2; rw [hb] at hbu; injection (Option.some.inj hbu) with _ e3; exact absurd e3 (by decide)
  refine ⟨rg, rc, ug, uc, _, by rw [← hul]; exact e, hBu, by rw [hcc i hiu, eu], hcu, frozen_of hbu j, fun x => ⟨hv, rv, rfl, ?_, ?_⟩⟩
  · exact (h.oh.fr (setCell_fr w ug j _) (fun k hk e2 => by subst e2; exact h.ap i hiu k (by rw [eu]; rfl) hk)).ia
  · have f := setCell_fr w ug j (vI x)
    refine ⟨some ⟨rg, 0, none⟩, rc, by rw [List.length_set, ← hul]; exact e, fun _ => ⟨rg, 0, rfl, Nat.lt_of_lt_of_le (heap_lt hb) f.size, fun m hm => ?_⟩⟩
    have hm' : m < s.res.length := by simpa using hm
    have hmu : m < us.length := by omega
    refine ⟨us[m], by rw [Nat.zero_add, f.cell (heap_lt hb) hne]; exact hcc m hmu, ?_⟩
    by_cases em : i = m
    · subst em
      rw [List.getElem_set_self]
      exact hui.set hj eu x
    · rw [List.getElem_set_ne em]
      exact ((h.lo.each m hmu hm').fr f (fun k hk e2 => by subst e2; exact h.lo.apart m i hmu hiu (Ne.symm em) k hk (by rw [eu]; rfl))).ia

theorem SO.app {w w6 : World} {B g6 cap6 : Nat} {hv rv : Value} {us : List Value} {s : PS} (h : SO w B hv rv us s) {i rg rc : Nat} (hi : i < s.res.length) (hiu : i < us.length) (er : rv = .slice (some ⟨rg, 0, none⟩) us.length rc) (hg : w.grownBy w6 us[i].ownBlock) (ho : w6.ownsRow B 3 1 (.slice (some ⟨g6, 0, none⟩) (s.res[i].length + 1) cap6) (s.res[i].length + 1) (s.res[i].map vI ++ [vI 0])) :
    SA (w6.setCell ⟨rg, i, none⟩ (.slice (some ⟨g6, 0, none⟩) (s.res[i].length + 1) cap6)) (.agg #[hv, rv]) ⟨s.heap, s.res.set i (s.res[i] ++ [0])⟩ ∧ w6.cell? ⟨rg, i, none⟩ = some us[i] ∧ w6.frozen? ⟨rg, i, none⟩ = false ∧ B ≤ rg := by
  have hul := h.lo.ul
  have f := grown_fr hg
  have hui := h.lo.each i hiu hi
  have hO6 : IOwn w6 B (.slice (some ⟨g6, 0, none⟩) (s.res[i].length + 1) cap6) (s.res[i] ++ [0]) := by unfold IOwn; rw [List.map_append, List.length_append]; exact ho
  obtain ⟨rg', rc', cs, e, hB, hb, hcc⟩ := h.lo.at hiu
  rw [er] at e
  cases e
  have hrow6 := ownsRow_fr h.lo.row f (fun k hk e2 => own_apart h.lo.row hui (by decide) k e2 hk)
  have hb6 : w6.heap[rg]? = some (.cells cs 22) := (f.block rg (heap_lt hb) (fun e2 => own_apart h.lo.row hui (by decide) rg e2 (by rw [er]; rfl))).trans hb
  have f2 := setCell_fr w6 rg i (.slice (some ⟨g6, 0, none⟩) (s.res[i].length + 1) cap6)
  have apt : ∀ (u : Value) (l : List Int), IOwn w6 B u l → ∀ k, u.ownBlock = some k → ¬ k = rg := fun u l hu k hk e2 => by
    subst e2
    exact own_apart hrow6 hu (by decide) k hk (by rw [er]; rfl)
  have hi6 : w6.cell? ⟨rg, i, none⟩ = some us[i] := by rw [cell_of hb6, ← cell_of hb]; exact hcc i hiu
  refine ⟨⟨hv, rv, rfl, ?_, ?_⟩, hi6, frozen_of hb6 i, hB⟩
  · have h1 := h.oh.fr f (fun k hk e2 => h.ap i hiu k e2 hk)
    exact (h1.fr f2 (apt _ _ h1)).ia
  · refine ⟨some ⟨rg, 0, none⟩, rc, by rw [List.length_set, ← hul]; exact er, fun _ => ⟨rg, 0, rfl, Nat.lt_of_lt_of_le (heap_lt hb6) f2.size, fun m hm => ?_⟩⟩
    have hm' : m < s.res.length := by simpa using hm
    have hmu : m < us.length := by omega
    have hcm : w6.cell? ⟨rg, m, none⟩ = some us[m] := by rw [cell_of hb6, ← cell_of hb]; exact hcc m hmu
    rw [cell_of hb6] at hcm hi6
    rw [Nat.zero_add, cell_of (set_of hb6 i _)]
    by_cases em : i = m
    · subst em
      have hsz := (Array.getElem?_eq_some_iff.1 hcm).1
      refine ⟨.slice (some ⟨g6, 0, none⟩) (s.res[i].length + 1) cap6, by simp [hsz], ?_⟩
      rw [List.getElem_set_self]
      exact (hO6.fr f2 (apt _ _ hO6)).ia
    · refine ⟨us[m], by rw [Array.getElem?_setIfInBounds_ne em]; exact hcm, ?_⟩
      rw [List.getElem_set_ne em]
      have h1 := (h.lo.each m hmu hm').fr f (fun k hk e2 => h.lo.apart m i hmu hiu (Ne.symm em) k hk e2)
      exact (h1.fr f2 (apt _ _ h1)).ia
/-- The lists ahead of the last. -/
theorem LA.cut {w : World} {a : Option Addr} {n c : Nat} {ls : List (List Int)} (h : LA w (.slice a n c) ls) (m : Nat) (hm : m ≤ n) (c' : Nat) : LA w (.slice a m c') (ls.take m) := by
  obtain ⟨a', c2, e, hc⟩ := h
  injection e with e1 e2 e3
  subst e1
  subst e2
  refine ⟨a, c', by rw [List.length_take, Nat.min_eq_left hm], fun hne => ?_⟩
  obtain ⟨k, o, rfl, hk, hcc⟩ := hc (by intro e; rw [e] at hne; simp at hne)
  refine ⟨k, o, rfl, hk, fun j hj => ?_⟩
  have hj' : j < ls.length := by rw [List.length_take] at hj; omega
  obtain ⟨u, h1, h2⟩ := hcc j hj'
  exact ⟨u, h1, by rw [List.getElem_take]; exact h2⟩

end Go.Proofs.Ytfgkilpahomenaa

namespace Go.Proofs.Ytfgkilpahomenaa
open Go.RowKit (wrap32 wrap64)
set_option linter.unusedVariables false
set_option linter.unusedSimpArgs false

/-- A local summary, whatever it says. -/
structure LocS (W : World) (X : Nat) (x y : Value) (s : PS) : Prop where
  blk : W.heap[X]? = some (.cells #[x, y] 31)
  sa : SA W (.agg #[x, y]) s
theorem LocS.keep {W W' : World} {X : Nat} {x y : Value} {s : PS} (h : LocS W X x y s) (f : Fr (fun _ => False) W W') : LocS W' X x y s := ⟨keepF h.blk f, h.sa.stay f⟩
theorem LocS.up {W W' : World} {X : Nat} {x y : Value} {s : PS} (h : LocS W X x y s) {B : Nat} (hB : W.heap.size ≤ B) (f : Fr (fun k => B ≤ k) W W') : LocS W' X x y s :=
  ⟨(f.block X (heap_lt h.blk) (by have := heap_lt h.blk; omega)).trans h.blk, ((h.sa.q (Q := fun k => k < B) (fun k hk => by omega)).fr f (fun k hk => by omega)).sa⟩
theorem LocS.x {W : World} {X : Nat} {x y : Value} {s : PS} (h : LocS W X x y s) : W.cell? ⟨X, 0, none⟩ = some x := by rw [cell_of h.blk]; rfl
theorem LocS.y {W : World} {X : Nat} {x y : Value} {s : PS} (h : LocS W X x y s) : W.cell? ⟨X, 1, none⟩ = some y := by rw [cell_of h.blk]; rfl
abbrev fBox (P R : Nat) : Obj := .cells #[vI P, vI R, vI 0, .slice none 0 0] 28
/-- A block of another type stays as a row of numbers grows. -/
theorem grow_keep3 {wr w6 : World} {v : Value} {B n H : Nat} {xs : List Value} {cs : Array Value} {t : TypeId} (ho : wr.ownsRow B 3 1 v n xs) (hg : wr.grownBy w6 v.ownBlock) (hc : wr.heap[H]? = some (.cells cs t)) (ht : t ≠ 3) : w6.heap[H]? = some (.cells cs t) := by
  refine ((grown_fr hg).block H (heap_lt hc) (fun e => ?_)).trans hc
  rcases ho.2 with ⟨e1, -⟩ | ⟨g, cap, cur, e1, -, k2, -⟩
  · rw [e1] at e; cases e
  · rw [e1] at e
    cases e
    rw [hc] at k2
    injection (Option.some.inj k2) with _ e3
    exact ht e3
theorem SA.pair_form {w : World} {x y : Value} {s : PS} (h : SA w (.agg #[x, y]) s) : (∃ a c, x = .slice a s.heap.length c) ∧ ∃ a c, y = .slice a s.res.length c := by
  obtain ⟨hv, rv, e, ⟨a1, c1, rfl, -⟩, a2, c2, rfl, -⟩ := h
  injection e with e
  have e0 : x = .slice a1 s.heap.length c1 := by have := congrArg (fun a => a[0]?) e; simpa using this
  have e1 : y = .slice a2 s.res.length c2 := by have := congrArg (fun a => a[1]?) e; simpa using this
  exact ⟨⟨_, _, e0⟩, _, _, e1⟩

theorem box_ne {W : World} {X g i : Nat} {a1 a2 : Option Addr} {n1 n2 c1 c2 : Nat} {z : Int} (h : W.heap[X]? = some (.cells #[.slice a1 n1 c1, .slice a2 n2 c2] 31)) (k : W.cell? ⟨g, i, none⟩ = some (vI z)) : X ≠ g := fun e => by
  subst e
  rw [cell_of h] at k
  rcases i with _ | _ | i <;> simp at k
theorem encE_one {P R : Nat} {t : PS} (h : t.Shaped P R) (hP : P ≤ 8) (hR : R ≤ 4) : encE [⟨P, R, 0, none, 0, 0⟩] [t] = if t.okAll = true then 0 else 90 := by
  unfold encE
  rw [if_pos (by simp [shapeB]; omega)]
  simp only [all2, rightP, h.right, Bool.and_true]
theorem checkE_of {P R : Nat} {t : PS} (hP : P ≤ 8) (hR : R ≤ 4) : checkE P R t = if t.right P R = true then 0 else 90 := by
  unfold checkE
  rw [if_pos (by simp [shapeB]; omega)]


end Go.Proofs.Ytfgkilpahomenaa
