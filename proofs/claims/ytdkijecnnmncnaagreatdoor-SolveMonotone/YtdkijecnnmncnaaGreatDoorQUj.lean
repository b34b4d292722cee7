import Derived.Test.YtdkijecnnmncnaaGreatDoorQLlJ
namespace Go.Proofs.YtdkijecnnmncnaaGreatDoor
open Go.RowKit (wrap32 wrap64)
set_option linter.unusedVariables false
set_option linter.unusedSimpArgs false
set_option maxRecDepth 100000
set_option maxHeartbeats 2000000
theorem iown_set {w : World} {B g cap : Nat} {l : List Int} (h : IOwn w B (.slice (some ⟨g, 0, none⟩) l.length cap) l) (k : Nat) (d : Int) : IOwn (w.setCell ⟨g, k, none⟩ (vI d)) B (.slice (some ⟨g, 0, none⟩) l.length cap) (l.set k d) := by
 have := (row_set (j := k) h (vI d)).1
 unfold IOwn
 rw [List.length_set, List.map_set]
 exact this
theorem SO.setH {w : World} {B g cap : Nat} {hv rv : Value} {us : List Value} {s : PS} (h : SO w B hv rv us s) (e : hv = .slice (some ⟨g, 0, none⟩) s.H.length cap) (k : Nat) (d : Int) : SO (w.setCell ⟨g, k, none⟩ (vI d)) B hv rv us ⟨s.H.set k d, s.R⟩ := by
 have f := setCell_fr w g k (vI d)
 have hg : hv.ownBlock = some g := by rw [e]; rfl
 refine ⟨?_, ⟨ownsRow_frL h.lo.row f (fun j ej e2 => ?_), h.lo.ul, fun i hi hk => (h.lo.each i hi hk).fr f (fun j ej e2 => ?_), h.lo.apart⟩, h.ap⟩
 ·subst e
  exact iown_set h.oh k d
 ·subst e2
  exact own_apart h.lo.row h.oh (by decide) j hg ej
 ·subst e2
  exact h.ap i hi j ej hg
theorem SO.setR {w : World} {B g cap k : Nat} {hv rv : Value} {us : List Value} {s : PS} (h : SO w B hv rv us s) (hk : k < us.length) (hk' : k < s.R.length) (e : us[k] = .slice (some ⟨g, 0, none⟩) s.R[k].length cap) (j : Nat) (d : Int) : SO (w.setCell ⟨g, j, none⟩ (vI d)) B hv rv us ⟨s.H, s.R.set k (s.R[k].set j d)⟩ := by
 have f := setCell_fr w g j (vI d)
 have hg : us[k].ownBlock = some g := by rw [e]; rfl
 refine ⟨h.oh.fr f (fun j ej e2 => ?_), ⟨ownsRow_frL h.lo.row f (fun j ej e2 => ?_), by rw [List.length_set]; exact h.lo.ul, fun i hi hi' => ?_, h.lo.apart⟩, h.ap⟩
 ·subst e2
  exact h.ap k hk j hg ej
 ·subst e2
  exact own_apart h.lo.row (h.lo.each k hk hk') (by decide) j hg ej
 ·have hi2 : i < s.R.length := by simpa using hi'
  by_cases ei : i = k
  ·subst ei
   have e1 : (s.R.set i (s.R[i].set j d))[i] = s.R[i].set j d := List.getElem_set_self _
   show IOwn _ _ _ ((s.R.set i (s.R[i].set j d))[i])
   rw [e1, e]
   have := h.lo.each i hi hi2
   rw [e] at this
   exact iown_set this j d
  ·have e1 : (s.R.set k (s.R[k].set j d))[i] = s.R[i] := List.getElem_set_ne (Ne.symm ei) _
   show IOwn _ _ _ ((s.R.set k (s.R[k].set j d))[i])
   rw [e1]
   exact (h.lo.each i hi hi2).fr f (fun q eq e2 => by subst e2; exact h.lo.apart i k hi hk ei q eq hg)
def mixH (a b : List Int) (k : Nat) : List Int := (List.range a.length).map fun i => if i < k then min (a.getD i 0) (b.getD i 0) else a.getD i 0
theorem mixH_len (a b : List Int) (k : Nat) : (mixH a b k).length = a.length := by simp [mixH]
theorem mixH_get {a b : List Int} {k i : Nat} (hi : i < (mixH a b k).length) : (mixH a b k)[i] = if i < k then min (a.getD i 0) (b.getD i 0) else a.getD i 0 := by simp [mixH]
theorem mixH_zero (a b : List Int) : mixH a b 0 = a := by
 refine List.ext_getElem (mixH_len a b 0) fun i h1 h2 => ?_
 rw [mixH_get, if_neg (Nat.not_lt_zero _)]
 simp [h2]
theorem mixH_set {a b : List Int} {k : Nat} : (mixH a b k).set k (min (a.getD k 0) (b.getD k 0)) = mixH a b (k + 1) := by
 refine List.ext_getElem (by rw [List.length_set, mixH_len, mixH_len]) fun i h1 h2 => ?_
 rw [List.getElem_set, mixH_get (k := k + 1)]
 by_cases e : k = i
 ·subst e
  rw [if_pos rfl, if_pos (Nat.lt_succ_self k)]
 ·rw [if_neg e, mixH_get]
  by_cases hi : i < k
  ·rw [if_pos hi, if_pos (by omega)]
  ·rw [if_neg hi, if_neg (by omega)]
theorem mixH_all {a b : List Int} (h : a.length = b.length) : mixH a b a.length = List.zipWith min a b := by
 refine List.ext_getElem (by rw [mixH_len, List.length_zipWith]; omega) fun i h1 h2 => ?_
 have h3 : i < a.length := by rw [mixH_len] at h1; exact h1
 have h4 : i < b.length := by omega
 rw [mixH_get, if_pos h3, List.getElem_zipWith]
 simp [h3, h4]
def mixR (a b : List (List Int)) (k j : Nat) : List (List Int) := (List.range a.length).map fun i => if i < k then List.zipWith min (a.getD i []) (b.getD i []) else if i = k then mixH (a.getD i []) (b.getD i []) j else a.getD i []
theorem mixR_len (a b : List (List Int)) (k j : Nat) : (mixR a b k j).length = a.length := by simp [mixR]
theorem mixR_get {a b : List (List Int)} {k j i : Nat} (hi : i < (mixR a b k j).length) : (mixR a b k j)[i] = if i < k then List.zipWith min (a.getD i []) (b.getD i []) else if i = k then mixH (a.getD i []) (b.getD i []) j else a.getD i [] := by simp [mixR]
theorem mixR_at {a b : List (List Int)} {k j : Nat} (hi : k < (mixR a b k j).length) : (mixR a b k j)[k] = mixH (a.getD k []) (b.getD k []) j := by rw [mixR_get, if_neg (Nat.lt_irrefl k), if_pos rfl]
theorem mixR_zero (a b : List (List Int)) : mixR a b 0 0 = a := by
 refine List.ext_getElem (mixR_len a b 0 0) fun i h1 h2 => ?_
 rw [mixR_get, if_neg (Nat.not_lt_zero _)]
 split
 ·rename_i e; subst e; rw [mixH_zero]; simp [h2]
 ·simp [h2]
theorem mixR_set {a b : List (List Int)} {k j : Nat} (hk : k < (mixR a b k j).length) : (mixR a b k j).set k ((mixR a b k j)[k].set j (min ((a.getD k []).getD j 0) ((b.getD k []).getD j 0))) = mixR a b k (j + 1) := by
 refine List.ext_getElem (by rw [List.length_set, mixR_len, mixR_len]) fun i h1 h2 => ?_
 rw [List.getElem_set]
 by_cases e : k = i
 ·subst e
  rw [if_pos rfl, mixR_at, mixH_set, mixR_at]
 ·rw [if_neg e, mixR_get, mixR_get]
  by_cases e2 : i < k
  ·rw [if_pos e2, if_pos e2]
  ·rw [if_neg e2, if_neg e2, if_neg (fun h => e h.symm), if_neg (fun h => e h.symm)]
theorem mixR_next {a b : List (List Int)} {k : Nat} (h : (a.getD k []).length = (b.getD k []).length) : mixR a b k (a.getD k []).length = mixR a b (k + 1) 0 := by
 refine List.ext_getElem (by rw [mixR_len, mixR_len]) fun i h1 h2 => ?_
 rw [mixR_get, mixR_get]
 by_cases e : i < k
 ·rw [if_pos e, if_pos (by omega)]
 ·by_cases e2 : i = k
  ·subst e2
   rw [if_neg e, if_pos rfl, if_pos (by omega), mixH_all h]
  ·rw [if_neg e, if_neg e2, if_neg (by omega)]
   split
   ·rw [mixH_zero]
   ·rfl
theorem mixR_all {a b : List (List Int)} (h : a.length = b.length) : mixR a b a.length 0 = List.zipWith (List.zipWith min) a b := by
 refine List.ext_getElem (by rw [mixR_len, List.length_zipWith]; omega) fun i h1 h2 => ?_
 have h3 : i < a.length := by rw [mixR_len] at h1; exact h1
 have h4 : i < b.length := by omega
 rw [mixR_get, if_pos h3, List.getElem_zipWith]
 simp [h3, h4]
theorem meet_any (x1 y1 x2 y2 : Value) (s t : PS) (P R : Int) (w : World) (h1 : IA w x1 s.H) (h2 : LA w y1 s.R) (h3 : IA w x2 t.H) (h4 : LA w y2 t.R) (hs : fitsX s P R = true) (ht : fitsX t P R = true) (hP : P ≤ 8) (hR : R ≤ 4) :
 Calls Tryz.prog 12 #[.agg #[x1, y1], .agg #[x2, y2]] w fun e w' => ∃ hv rv us, e = .returned (.agg #[hv, rv]) ∧ SO w' w.heap.size hv rv us (meetS s t) ∧ Fr (fun _ => False) w w' := by
 obtain ⟨l1, l2, l3, -, -⟩ := fits_len hs
 obtain ⟨m1, m2, m3, -, -⟩ := fits_len ht
 obtain ⟨n, hn⟩ : ∃ n, s.H.length = n := ⟨_, rfl⟩
 have n2 : s.R.length = n := by omega
 have n3 : t.H.length = n := by omega
 have n4 : t.R.length = n := by omega
 have hnb : n ≤ 8 := by omega
 have HRL : Hd (∀ k, k < n → (s.R.getD k []).length ≤ 4 ∧ (s.R.getD k []).length = (t.R.getD k []).length) := fun k hk => by
  have k2 : k < s.R.length := by omega
  have k4 : k < t.R.length := by omega
  have e2 : s.R.getD k [] = s.R[k] := by simp [k2]
  have e4 : t.R.getD k [] = t.R[k] := by simp [k4]
  rw [e2, e4]
  have := l3 _ (List.getElem_mem k2)
  have := m3 _ (List.getElem_mem k4)
  omega
 obtain ⟨a1, c1, rfl, g1⟩ := h1.at hn
 obtain ⟨a2, c2, rfl, g2⟩ := h2.at n2
 obtain ⟨a3, c3, rfl, g3⟩ := h3.at n3
 obtain ⟨a4, c4, rfl, g4⟩ := h4.at n4
 have G1 : Hd (∀ i, i < n → ∃ k o, a1 = some ⟨k, o, none⟩ ∧ k < w.heap.size ∧ w.cell? ⟨k, o + i, none⟩ = some (vI (s.H.getD i 0))) := g1
 have G2 : Hd (∀ i, i < n → ∃ k o u, a2 = some ⟨k, o, none⟩ ∧ k < w.heap.size ∧ w.cell? ⟨k, o + i, none⟩ = some u ∧ IA w u (s.R.getD i [])) := g2
 have G3 : Hd (∀ i, i < n → ∃ k o, a3 = some ⟨k, o, none⟩ ∧ k < w.heap.size ∧ w.cell? ⟨k, o + i, none⟩ = some (vI (t.H.getD i 0))) := g3
 have G4 : Hd (∀ i, i < n → ∃ k o u, a4 = some ⟨k, o, none⟩ ∧ k < w.heap.size ∧ w.cell? ⟨k, o + i, none⟩ = some u ∧ IA w u (t.R.getD i [])) := g4
 obtain ⟨wa, hwa⟩ : ∃ wa, wa = ((w.alloc (.cells #[.slice a1 n c1, .slice a2 n c2] 33)).alloc (.cells #[.slice a3 n c3, .slice a4 n c4] 33)).alloc nil2 := ⟨_, rfl⟩
 have HWA : Hd (wa = ((w.alloc (.cells #[.slice a1 n c1, .slice a2 n c2] 33)).alloc (.cells #[.slice a3 n c3, .slice a4 n c4] 33)).alloc nil2) := hwa
 obtain ⟨H, hH⟩ : ∃ H, H = w.heap.size := ⟨_, rfl⟩
 have HH : Hd (H = w.heap.size) := hH
 have hb1 : wa.heap[H]? = some (.cells #[.slice a1 n c1, .slice a2 n c2] 33) := by rw [hwa, hH]; exact keepA (keepA (heap_new0 w _) _) _
 have hb2 : wa.heap[H + 1]? = some (.cells #[.slice a3 n c3, .slice a4 n c4] 33) := by rw [hwa, hH]; exact keepA (heap_new1 w _ _) _
 have hb3 : wa.heap[H + 2]? = some nil2 := by
  rw [hwa, hH]
  have := heap_new1 (w.alloc (.cells #[.slice a1 n c1, .slice a2 n c2] 33)) (.cells #[.slice a3 n c3, .slice a4 n c4] 33) nil2
  rw [World.size_alloc] at this
  exact this
 have hFA : Fr (fun _ => False) w wa := by rw [hwa]; exact Fr.alloc (Fr.alloc (Fr.alloc (Fr.refl _ w) _) _) _
 have HFA : Hd (Fr (fun _ => False) w wa) := hFA
 have HCP : Hd (Calls Tryz.prog 43 #[.agg #[.slice a1 n c1, .slice a2 n c2]] wa fun e w' => ∃ hv rv us, e = .returned (.agg #[hv, rv]) ∧ SO w' (wa.heap.size + 2) hv rv us s ∧ Fr (fun _ => False) wa w') :=
  copySummary_any _ _ s wa (h1.stay hFA) (h2.stay hFA) (by omega) (by omega) (fun l hl => by have := l3 l hl; omega)
 have HSZ : Hd (wa.heap.size = H + 3) := by unfold Hd; rw [hwa, hH]; simp
 have q0 : wa.cell? ⟨H, 0, none⟩ = some (.slice a1 n c1) := by rw [cell_of0 hb1]; rfl
 have q1 : wa.cell? ⟨H, 1, none⟩ = some (.slice a2 n c2) := by rw [cell_of0 hb1]; rfl
 have HBA : Hd (wa.heap[H]? = some (.cells #[.slice a1 n c1, .slice a2 n c2] 33)) := hb1
 have HBB : Hd (wa.heap[H + 1]? = some (.cells #[.slice a3 n c3, .slice a4 n c4] 33)) := hb2
 have HBN : Hd (wa.heap[H + 2]? = some nil2) := hb3
 have dn : ((n : Int) != (n : Int)) = false := by simp
 have HNS : Hd (s.H.length = n ∧ s.R.length = n ∧ t.H.length = n ∧ t.R.length = n) := ⟨hn, n2, n3, n4⟩
 clear hwa hH hb1 hb2 hb3 hFA g1 g2 g3 g4 h1 h2 h3 h4 hs ht l1 l2 l3 m1 m2 m3 hn n2 n3 n4
 go_enter Tryz.func12, Tryz.ntmps12
 go_upto_region 1 with fail
 rw [← HWA.out, ← HH.out]
 clear HWA
 go_wp2_with fail
 refine HCP.out.mono ?_
 rintro e w1 ⟨hv, rv, us, rfl, hSO, hF1⟩
 obtain ⟨ha, hc, ehv⟩ := own_slice hSO.oh
 obtain ⟨ra, rc, erv⟩ := own_slice hSO.lo.row
 have hul := hSO.lo.ul
 rw [HNS.out.1] at ehv
 rw [hul, HNS.out.2.1] at erv
 subst ehv erv
 have HS1 : Hd (SO (w1.alloc (.cells #[.slice ha n hc, .slice ra n rc] 33)) (H + 3) (.slice ha n hc) (.slice ra n rc) us ⟨mixH s.H t.H 0, mixR s.R t.R 0 0⟩) := by
  unfold Hd
  rw [mixH_zero, mixR_zero]
  exact (hSO.keep (Fr.alloc (Fr.refl _ w1) _)).mono (by have := HSZ.out; omega)
 have HX : Hd ((w1.alloc (.cells #[.slice ha n hc, .slice ra n rc] 33)).heap[w1.heap.size]? = some (.cells #[.slice ha n hc, .slice ra n rc] 33)) := heap_new0 w1 _
 have HF1 : Hd (Fr (fun _ => False) wa (w1.alloc (.cells #[.slice ha n hc, .slice ra n rc] 33))) := hF1.alloc _
 have HUL : Hd (us.length = n) := by unfold Hd; rw [hul]; exact HNS.out.2.1
 have HXG : Hd (H + 3 ≤ w1.heap.size) := by have := HSZ.out; have := hF1.size; unfold Hd; omega
 clear hSO hF1 hul HCP q0 q1
 go_upto_region 2 with fail
 obtain ⟨X, hX⟩ : ∃ X, X = w1.heap.size := ⟨_, rfl⟩
 rw [← hX] at HX HXG ⊢
 clear hX
 generalize w1.alloc (.cells #[.slice ha n hc, .slice ra n rc] 33) = wz at *
 have HST : Hd (∀ (wx : World), wx.heap[H]? = some (.cells #[.slice a1 n c1, .slice a2 n c2] 33) → wx.heap[H + 1]? = some (.cells #[.slice a3 n c3, .slice a4 n c4] 33) → wx.heap[X]? = some (.cells #[.slice ha n hc, .slice ra n rc] 33) → wx.cell? ⟨H, 0, none⟩ = some (.slice a1 n c1) ∧ wx.cell? ⟨H, 1, none⟩ = some (.slice a2 n c2) ∧ wx.cell? ⟨H + 1, 0, none⟩ = some (.slice a3 n c3) ∧ wx.cell? ⟨H + 1, 1, none⟩ = some (.slice a4 n c4) ∧ wx.cell? ⟨X, 0, none⟩ = some (.slice ha n hc) ∧ wx.cell? ⟨X, 1, none⟩ = some (.slice ra n rc)) := fun wx e1 e2 e3 =>
  ⟨by rw [cell_of0 e1]; rfl, by rw [cell_of0 e1]; rfl, by rw [cell_of0 e2]; rfl, by rw [cell_of0 e2]; rfl, by rw [cell_of0 e3]; rfl, by rw [cell_of0 e3]; rfl⟩
 have HA1 : Hd (wz.heap[H]? = some (.cells #[.slice a1 n c1, .slice a2 n c2] 33)) := keepF HBA.out HF1.out
 have HB1 : Hd (wz.heap[H + 1]? = some (.cells #[.slice a3 n c3, .slice a4 n c4] 33)) := keepF HBB.out HF1.out
 have HN1 : Hd (wz.heap[H + 2]? = some nil2) := keepF HBN.out HF1.out
 have HFw : Hd (Fr (fun _ => False) w wz) := HFA.out.trans HF1.out
 obtain ⟨q0, q1, q2, q3, q4, q5⟩ := HST.out wz HA1.out HB1.out HX.out
 clear HBA HBB HBN HF1 HFA HSZ
 go_wp2_with fail
 clear q0 q1 q2 q3 q4 q5
 go_loopw [6] (fun v wr => ∃ (k : Nat), v = .int .i64 k ∧ k ≤ n ∧ Hd (SO wr (H + 3) (.slice ha n hc) (.slice ra n rc) us ⟨mixH s.H t.H k, mixR s.R t.R 0 0⟩) ∧ Hd (wr.heap[H]? = some (.cells #[.slice a1 n c1, .slice a2 n c2] 33)) ∧ Hd (wr.heap[H + 1]? = some (.cells #[.slice a3 n c3, .slice a4 n c4] 33)) ∧ Hd (wr.heap[H + 2]? = some nil2) ∧ Hd (wr.heap[X]? = some (.cells #[.slice ha n hc, .slice ra n rc] 33)) ∧ Hd (Fr (fun _ => False) w wr)) (fun v _ => match v with | .int _ q => n - q.toNat | _ => 0)
 case atStart => exact ⟨0, rfl, Nat.zero_le _, HS1.out, HA1.out, HB1.out, HN1.out, HX.out, HFw.out⟩
 case round =>
  clear HS1 HA1 HB1 HN1 HX HFw
  obtain ⟨k, rfl, hk, HS, HA, HB, HN, HX, HF⟩ := hrel
  obtain ⟨q0, q1, q2, q3, q4, q5⟩ := HST.out wr HA.out HB.out HX.out
  by_cases hlt : k < n
  ·have hlen : k < (mixH s.H t.H k).length := by rw [mixH_len, HNS.out.1]; exact hlt
   obtain ⟨gh, cap, eg, hgB, hgl⟩ := World.ownsRow.form HS.out.oh (by simp only; omega)
   simp only at eg
   rw [mixH_len, HNS.out.1] at eg
   injection eg with eg1 eg2 eg3
   subst eg1 eg3
   clear eg2
   obtain ⟨k1, o1, rfl, kl1, p1⟩ := G1.out k hlt
   obtain ⟨k3, o3, rfl, kl3, p3⟩ := G3.out k hlt
   have p1 := (HF.out.cell kl1 (fun e => e)).trans p1
   have p3 := (HF.out.cell kl3 (fun e => e)).trans p3
   have pc : wr.cell? ⟨gh, k, none⟩ = some (vI ((mixH s.H t.H k)[k])) := by
    obtain ⟨g', cap', e', -, hcell⟩ := own_cell HS.out.oh (j := k) (u := vI ((mixH s.H t.H k)[k])) (by rw [List.getElem?_map, List.getElem?_eq_getElem hlen]; rfl)
    obtain rfl : gh = g' := Option.some.inj (congrArg Value.ownBlock e')
    exact hcell
   have pz : wr.frozen? ⟨gh, k, none⟩ = false := by
    have h9 := HS.out.oh
    unfold IOwn at h9
    simp only [mixH_len, HNS.out.1] at h9
    exact (row_set (j := k) h9 (vI 0)).2
   have nX : X ≠ gh := fun e => by
    subst e
    rcases HS.out.oh.2 with ⟨e2, -⟩ | ⟨g', cap', cur, e2, -, e3, -⟩
    ·cases e2
    ·obtain rfl : X = g' := Option.some.inj (congrArg Value.ownBlock e2)
     rw [HX.out] at e3
     injection (Option.some.inj e3) with _ e4
     exact absurd e4 (by decide)
   have nX2 : gh ≠ X := fun e => nX e.symm
   have n3 : gh ≠ H := by omega
   have n4 : H ≠ gh := by omega
   have n5 : gh ≠ H + 1 := by omega
   have n6 : H + 1 ≠ gh := by omega
   have n7 : gh ≠ k1 := by have := HH.out; omega
   have n8 : k1 ≠ gh := by omega
   have n9 : gh ≠ k3 := by have := HH.out; omega
   have n10 : k3 ≠ gh := by omega
   have hw' : w.heap.size ≤ gh := by have := HH.out; omega
   obtain ⟨z1, hz1⟩ : ∃ z1, z1 = s.H.getD k 0 := ⟨_, rfl⟩
   obtain ⟨z3, hz3⟩ : ∃ z3, z3 = t.H.getD k 0 := ⟨_, rfl⟩
   have HS2 : Hd (SO (wr.setCell ⟨gh, k, none⟩ (vI (min z1 z3))) (H + 3) (.slice (some ⟨gh, 0, none⟩) n hc) (.slice ra n rc) us ⟨mixH s.H t.H (k + 1), mixR s.R t.R 0 0⟩) := by
    have := HS.out.setH (g := gh) (cap := hc) (by simp only [mixH_len, HNS.out.1]) k (min z1 z3)
    rw [hz1, hz3] at this ⊢
    simp only [mixH_set] at this
    exact this
   have f := setCell_fr wr gh k (vI (min z1 z3))
   have HA2 : Hd ((wr.setCell ⟨gh, k, none⟩ (vI (min z1 z3))).heap[H]? = some (.cells #[.slice (some ⟨k1, o1, none⟩) n c1, .slice a2 n c2] 33)) := (f.block H (heap_lt0 HA.out) n4).trans HA.out
   have HB2 : Hd ((wr.setCell ⟨gh, k, none⟩ (vI (min z1 z3))).heap[H + 1]? = some (.cells #[.slice (some ⟨k3, o3, none⟩) n c3, .slice a4 n c4] 33)) := (f.block (H + 1) (heap_lt0 HB.out) n6).trans HB.out
   have HN2 : Hd ((wr.setCell ⟨gh, k, none⟩ (vI (min z1 z3))).heap[H + 2]? = some nil2) := (f.block (H + 2) (heap_lt0 HN.out) (by omega)).trans HN.out
   have HX2 : Hd ((wr.setCell ⟨gh, k, none⟩ (vI (min z1 z3))).heap[X]? = some (.cells #[.slice (some ⟨gh, 0, none⟩) n hc, .slice ra n rc] 33)) := (f.block X (heap_lt0 HX.out) nX).trans HX.out
   have HF2 : Hd (Fr (fun _ => False) w (wr.setCell ⟨gh, k, none⟩ (vI (min z1 z3)))) := HF.out.setCell _ _ (Or.inr hw')
   rw [← hz1] at p1
   rw [← hz3] at p3
   generalize (mixH s.H t.H k)[k] = zo at *
   have hk0 : (0 : Int) ≤ k := by omega
   have hk1 : (k : Int) < n := by omega
   clear f hz1 hz3 hlen HS HA HB HN HX HF hgB hgl kl1 kl3
   go_upto_region 7 with fail
   go_region_held3 (fun w' => w'.cell? ⟨X, 0, none⟩ = some (.slice (some ⟨gh, 0, none⟩) n hc) ∧ w'.cell? ⟨H, 0, none⟩ = some (.slice (some ⟨k1, o1, none⟩) n c1) ∧ w'.cell? ⟨H + 1, 0, none⟩ = some (.slice (some ⟨k3, o3, none⟩) n c3) ∧ w'.cell? ⟨k1, o1 + k, none⟩ = some (vI z1) ∧ w'.cell? ⟨k3, o3 + k, none⟩ = some (vI z3)) (go_keep) (fail)
   all_goals
    have hmin : (if z3 < z1 then z3 else z1) = min z1 z3 := by split <;> omega
    rw [hmin]
    have hd : Fr (fun _ => False) (wr.setCell ⟨gh, k, none⟩ (vI (min z1 z3))) (wr.setCell ⟨gh, k, none⟩ (vI (min z1 z3))).drew := Fr.drew (Fr.refl _ _)
    have HS3 : Hd (SO (wr.setCell ⟨gh, k, none⟩ (vI (min z1 z3))).drew (H + 3) (.slice (some ⟨gh, 0, none⟩) n hc) (.slice ra n rc) us ⟨mixH s.H t.H (k + 1), mixR s.R t.R 0 0⟩) := HS2.out.keep hd
    have HA3 : Hd ((wr.setCell ⟨gh, k, none⟩ (vI (min z1 z3))).drew.heap[H]? = some (.cells #[.slice (some ⟨k1, o1, none⟩) n c1, .slice a2 n c2] 33)) := HA2
    have HB3 : Hd ((wr.setCell ⟨gh, k, none⟩ (vI (min z1 z3))).drew.heap[H + 1]? = some (.cells #[.slice (some ⟨k3, o3, none⟩) n c3, .slice a4 n c4] 33)) := HB2
    have HN3 : Hd ((wr.setCell ⟨gh, k, none⟩ (vI (min z1 z3))).drew.heap[H + 2]? = some nil2) := HN2
    have HX3 : Hd ((wr.setCell ⟨gh, k, none⟩ (vI (min z1 z3))).drew.heap[X]? = some (.cells #[.slice (some ⟨gh, 0, none⟩) n hc, .slice ra n rc] 33)) := HX2
    have HF3 : Hd (Fr (fun _ => False) w (wr.setCell ⟨gh, k, none⟩ (vI (min z1 z3))).drew) := HF2.out.trans hd
    clear HS2 HA2 HB2 HN2 HX2 HF2 hd hmin
    generalize (wr.setCell ⟨gh, k, none⟩ (vI (min z1 z3))).drew = W at *
    go_wp2_with fail
    exact ⟨⟨k + 1, by simp, by omega, HS3.out, HA3.out, HB3.out, HN3.out, HX3.out, HF3.out⟩, by simp; omega⟩
  ·have hke : k = n := by omega
   subst hke
   have dk : decide ((k : Int) < (k : Int)) = false := by simp
   generalize hnn : k = n at *
   clear hnn
   go_wp2_with fail
   clear q0 q1 q2 q3 q4 q5
   go_loopw [7] (fun v wr => ∃ (i : Nat), v = .int .i64 i ∧ i ≤ n ∧ Hd (SO wr (H + 3) (.slice ha n hc) (.slice ra n rc) us ⟨mixH s.H t.H n, mixR s.R t.R i 0⟩) ∧ Hd (wr.heap[H]? = some (.cells #[.slice a1 n c1, .slice a2 n c2] 33)) ∧ Hd (wr.heap[H + 1]? = some (.cells #[.slice a3 n c3, .slice a4 n c4] 33)) ∧ Hd (wr.heap[H + 2]? = some nil2) ∧ Hd (wr.heap[X]? = some (.cells #[.slice ha n hc, .slice ra n rc] 33)) ∧ Hd (Fr (fun _ => False) w wr)) (fun v _ => match v with | .int _ q => n - q.toNat | _ => 0)
   case atStart => exact ⟨0, rfl, Nat.zero_le _, HS.out, HA.out, HB.out, HN.out, HX.out, HF.out⟩
   case round =>
    clear HS HA HB HN HX HF
    obtain ⟨i, rfl, hi, HS, HA, HB, HN, HX, HF⟩ := hrel
    obtain ⟨q0, q1, q2, q3, q4, q5⟩ := HST.out wr HA.out HB.out HX.out
    by_cases hlt : i < n
    ·have hiU : i < us.length := by have := HUL.out; omega
     obtain ⟨gr, cap, er, hrB, hrl⟩ := World.ownsRow.form HS.out.lo.row (by omega)
     injection er with er1 er2 er3
     subst er1 er3
     clear er2
     obtain ⟨k2, o2, u2, rfl, kl2, p2, i2⟩ := G2.out i hlt
     obtain ⟨k4, o4, u4, rfl, kl4, p4, i4⟩ := G4.out i hlt
     obtain ⟨hm4, hmm⟩ := HRL.out i hlt
     obtain ⟨m, hm⟩ : ∃ m, (s.R.getD i []).length = m := ⟨_, rfl⟩
     obtain ⟨b2, d2, rfl, g2⟩ := i2.at hm
     obtain ⟨b4, d4, rfl, g4⟩ := i4.at (n := m) (by rw [← hmm]; exact hm)
     have M2 : Hd (∀ j, j < m → ∃ k o, b2 = some ⟨k, o, none⟩ ∧ k < w.heap.size ∧ w.cell? ⟨k, o + j, none⟩ = some (vI ((s.R.getD i []).getD j 0))) := g2
     have M4 : Hd (∀ j, j < m → ∃ k o, b4 = some ⟨k, o, none⟩ ∧ k < w.heap.size ∧ w.cell? ⟨k, o + j, none⟩ = some (vI ((t.R.getD i []).getD j 0))) := g4
     have P2 : Hd (∀ wx, Fr (fun _ => False) w wx → wx.cell? ⟨k2, o2 + i, none⟩ = some (.slice b2 m d2)) := fun wx hx => (hx.cell kl2 (fun e => e)).trans p2
     have P4 : Hd (∀ wx, Fr (fun _ => False) w wx → wx.cell? ⟨k4, o4 + i, none⟩ = some (.slice b4 m d4)) := fun wx hx => (hx.cell kl4 (fun e => e)).trans p4
     have hRi : ∀ j, i < (mixR s.R t.R i j).length := fun j => by rw [mixR_len, HNS.out.2.1]; exact hlt
     have HML : Hd (∀ j, ((mixR s.R t.R i j)[i]'(hRi j)).length = m) := fun j => by rw [mixR_at, mixH_len]; exact hm
     obtain ⟨ua, uc, eu⟩ : ∃ ua uc, us[i] = .slice ua m uc := by
      obtain ⟨ua, uc, eu⟩ := own_slice (HS.out.lo.each i hiU (hRi 0))
      exact ⟨ua, uc, by rw [eu, HML.out 0]⟩
     have PU : Hd (∀ (wx : World) j, SO wx (H + 3) (.slice ha n hc) (.slice (some ⟨gr, 0, none⟩) n rc) us ⟨mixH s.H t.H n, mixR s.R t.R i j⟩ → wx.cell? ⟨gr, i, none⟩ = some (.slice ua m uc)) := fun wx j hso => by
      obtain ⟨g', cap', e', -, hcell⟩ := own_cell hso.lo.row (j := i) (u := .slice ua m uc) (by rw [List.getElem?_eq_getElem hiU, eu])
      obtain rfl : gr = g' := Option.some.inj (congrArg Value.ownBlock e')
      exact hcell
     have HEU : Hd (us[i] = .slice ua m uc) := eu
     have hi0 : (0 : Int) ≤ i := by omega
     have hi1 : (i : Int) < n := by omega
     have HNX : Hd (mixR s.R t.R i m = mixR s.R t.R (i + 1) 0) := by have := mixR_next (a := s.R) (b := t.R) (k := i) hmm; rw [hm] at this; exact this
     have HRB : Hd (H + 3 ≤ gr) := hrB
     clear g2 g4 i2 i4 p2 p4 eu hmm kl2 kl4 hrB hrl
     go_wp2_with fail
     clear q0 q1 q2 q3 q4 q5
     go_loopw [8] (fun v wr => ∃ (j : Nat), v = .int .i64 j ∧ j ≤ m ∧ Hd (SO wr (H + 3) (.slice ha n hc) (.slice (some ⟨gr, 0, none⟩) n rc) us ⟨mixH s.H t.H n, mixR s.R t.R i j⟩) ∧ Hd (wr.heap[H]? = some (.cells #[.slice a1 n c1, .slice (some ⟨k2, o2, none⟩) n c2] 33)) ∧ Hd (wr.heap[H + 1]? = some (.cells #[.slice a3 n c3, .slice (some ⟨k4, o4, none⟩) n c4] 33)) ∧ Hd (wr.heap[H + 2]? = some nil2) ∧ Hd (wr.heap[X]? = some (.cells #[.slice ha n hc, .slice (some ⟨gr, 0, none⟩) n rc] 33)) ∧ Hd (Fr (fun _ => False) w wr)) (fun v _ => match v with | .int _ q => m - q.toNat | _ => 0)
     case atStart => exact ⟨0, rfl, Nat.zero_le _, HS.out, HA.out, HB.out, HN.out, HX.out, HF.out⟩
     case round =>
      clear HS HA HB HN HX HF
      obtain ⟨j, rfl, hj, HS, HA, HB, HN, HX, HF⟩ := hrel
      obtain ⟨q0, q1, q2, q3, q4, q5⟩ := HST.out wr HA.out HB.out HX.out
      have p2 := P2.out wr HF.out
      have p4 := P4.out wr HF.out
      have pu := PU.out wr j HS.out
      by_cases hjm : j < m
      ·have hjl : j < ((mixR s.R t.R i j)[i]'(hRi j)).length := by rw [HML.out j]; exact hjm
       have hown := HS.out.lo.each i hiU (hRi j)
       obtain ⟨gu, cap, eg, hgB, hgl⟩ := World.ownsRow.form hown (by rw [HML.out j]; omega)
       rw [HEU.out, HML.out j] at eg
       injection eg with eg1 eg2 eg3
       subst eg1 eg3
       clear eg2
       obtain ⟨e2, f2, rfl, el2, r2⟩ := M2.out j hjm
       obtain ⟨e4, f4, rfl, el4, r4⟩ := M4.out j hjm
       have r2 := (HF.out.cell el2 (fun e => e)).trans r2
       have r4 := (HF.out.cell el4 (fun e => e)).trans r4
       have pc : wr.cell? ⟨gu, j, none⟩ = some (vI (((mixR s.R t.R i j)[i]'(hRi j))[j])) := by
        obtain ⟨g', cap', e', -, hcell⟩ := own_cell hown (j := j) (u := vI (((mixR s.R t.R i j)[i]'(hRi j))[j])) (by rw [List.getElem?_map, List.getElem?_eq_getElem hjl]; rfl)
        rw [HEU.out] at e'
        obtain rfl : gu = g' := Option.some.inj (congrArg Value.ownBlock e')
        exact hcell
       have pz : wr.frozen? ⟨gu, j, none⟩ = false := by
        rw [HEU.out] at hown
        unfold IOwn at hown
        rw [HML.out j] at hown
        exact (row_set (j := j) hown (vI 0)).2
       have hty : ∀ (b : Nat) (cs : Array Value) (ty : TypeId), wr.heap[b]? = some (.cells cs ty) → ty ≠ 3 → b ≠ gu := fun b cs ty hb hne e => by
        subst e
        rcases hown.2 with ⟨e2, -⟩ | ⟨g', cap', cur, e2, -, e3, -⟩
        ·rw [HEU.out] at e2; cases e2
        ·rw [HEU.out] at e2
         obtain rfl : b = g' := Option.some.inj (congrArg Value.ownBlock e2)
         rw [hb] at e3
         injection (Option.some.inj e3) with _ e4
         exact hne e4
       have nX : X ≠ gu := hty X _ _ HX.out (by decide)
       have nX2 : gu ≠ X := fun e => nX e.symm
       have nR : gr ≠ gu := fun e => own_apart HS.out.lo.row hown (by decide) gu (by rw [HEU.out]; rfl) (by rw [e]; rfl)
       have nR2 : gu ≠ gr := fun e => nR e.symm
       have hw' : w.heap.size ≤ gu := by have := HH.out; omega
       have hHg : H + 3 ≤ gu := hgB
       have n3 : gu ≠ H := by omega
       have n4 : H ≠ gu := by omega
       have n5 : gu ≠ H + 1 := by omega
       have n6 : H + 1 ≠ gu := by omega
       have n7 : gu ≠ k2 := fun e => by
        have := World.block_lt_of_cell? _ _ (P2.out w (Fr.refl _ w))
        simp only at this
        omega
       have n8 : k2 ≠ gu := fun e => n7 e.symm
       have n9 : gu ≠ k4 := fun e => by
        have := World.block_lt_of_cell? _ _ (P4.out w (Fr.refl _ w))
        simp only at this
        omega
       have n10 : k4 ≠ gu := fun e => n9 e.symm
       have n11 : gu ≠ e2 := by omega
       have n12 : e2 ≠ gu := by omega
       have n13 : gu ≠ e4 := by omega
       have n14 : e4 ≠ gu := by omega
       obtain ⟨z2, hz2⟩ : ∃ z2, z2 = (s.R.getD i []).getD j 0 := ⟨_, rfl⟩
       obtain ⟨z4, hz4⟩ : ∃ z4, z4 = (t.R.getD i []).getD j 0 := ⟨_, rfl⟩
       have HS2 : Hd (SO (wr.setCell ⟨gu, j, none⟩ (vI (min z2 z4))) (H + 3) (.slice ha n hc) (.slice (some ⟨gr, 0, none⟩) n rc) us ⟨mixH s.H t.H n, mixR s.R t.R i (j + 1)⟩) := by
        have := HS.out.setR (g := gu) (cap := uc) (k := i) hiU (hRi j) (by rw [HEU.out]; simp only [HML.out j]) j (min z2 z4)
        rw [hz2, hz4] at this ⊢
        simp only [mixR_set] at this
        exact this
       have f := setCell_fr wr gu j (vI (min z2 z4))
       have HA2 : Hd ((wr.setCell ⟨gu, j, none⟩ (vI (min z2 z4))).heap[H]? = some (.cells #[.slice a1 n c1, .slice (some ⟨k2, o2, none⟩) n c2] 33)) := (f.block H (heap_lt0 HA.out) n4).trans HA.out
       have HB2 : Hd ((wr.setCell ⟨gu, j, none⟩ (vI (min z2 z4))).heap[H + 1]? = some (.cells #[.slice a3 n c3, .slice (some ⟨k4, o4, none⟩) n c4] 33)) := (f.block (H + 1) (heap_lt0 HB.out) n6).trans HB.out
       have HN2 : Hd ((wr.setCell ⟨gu, j, none⟩ (vI (min z2 z4))).heap[H + 2]? = some nil2) := (f.block (H + 2) (heap_lt0 HN.out) (by omega)).trans HN.out
       have HX2 : Hd ((wr.setCell ⟨gu, j, none⟩ (vI (min z2 z4))).heap[X]? = some (.cells #[.slice ha n hc, .slice (some ⟨gr, 0, none⟩) n rc] 33)) := (f.block X (heap_lt0 HX.out) nX).trans HX.out
       have HF2 : Hd (Fr (fun _ => False) w (wr.setCell ⟨gu, j, none⟩ (vI (min z2 z4)))) := HF.out.setCell _ _ (Or.inr hw')
       rw [← hz2] at r2
       rw [← hz4] at r4
       generalize ((mixR s.R t.R i j)[i]'(hRi j))[j] = zo at *
       have hj0 : (0 : Int) ≤ j := by omega
       have hj1 : (j : Int) < m := by omega
       clear f hz2 hz4 hjl HS HA HB HN HX HF hgB hgl el2 el4 hown hty hHg
       go_upto_region 14 with fail
       go_region_held3 (fun w' => w'.cell? ⟨X, 1, none⟩ = some (.slice (some ⟨gr, 0, none⟩) n rc) ∧ w'.cell? ⟨gr, i, none⟩ = some (.slice (some ⟨gu, 0, none⟩) m uc) ∧ w'.cell? ⟨H, 1, none⟩ = some (.slice (some ⟨k2, o2, none⟩) n c2) ∧ w'.cell? ⟨k2, o2 + i, none⟩ = some (.slice (some ⟨e2, f2, none⟩) m d2) ∧ w'.cell? ⟨e2, f2 + j, none⟩ = some (vI z2) ∧ w'.cell? ⟨H + 1, 1, none⟩ = some (.slice (some ⟨k4, o4, none⟩) n c4) ∧ w'.cell? ⟨k4, o4 + i, none⟩ = some (.slice (some ⟨e4, f4, none⟩) m d4) ∧ w'.cell? ⟨e4, f4 + j, none⟩ = some (vI z4)) (go_keep) (fail)
       all_goals
        have hmin : (if z4 < z2 then z4 else z2) = min z2 z4 := by split <;> omega
        rw [hmin]
        have hd : Fr (fun _ => False) (wr.setCell ⟨gu, j, none⟩ (vI (min z2 z4))) (wr.setCell ⟨gu, j, none⟩ (vI (min z2 z4))).drew := Fr.drew (Fr.refl _ _)
        have HS3 : Hd (SO (wr.setCell ⟨gu, j, none⟩ (vI (min z2 z4))).drew (H + 3) (.slice ha n hc) (.slice (some ⟨gr, 0, none⟩) n rc) us ⟨mixH s.H t.H n, mixR s.R t.R i (j + 1)⟩) := HS2.out.keep hd
        have HA3 : Hd ((wr.setCell ⟨gu, j, none⟩ (vI (min z2 z4))).drew.heap[H]? = some (.cells #[.slice a1 n c1, .slice (some ⟨k2, o2, none⟩) n c2] 33)) := HA2
        have HB3 : Hd ((wr.setCell ⟨gu, j, none⟩ (vI (min z2 z4))).drew.heap[H + 1]? = some (.cells #[.slice a3 n c3, .slice (some ⟨k4, o4, none⟩) n c4] 33)) := HB2
        have HN3 : Hd ((wr.setCell ⟨gu, j, none⟩ (vI (min z2 z4))).drew.heap[H + 2]? = some nil2) := HN2
        have HX3 : Hd ((wr.setCell ⟨gu, j, none⟩ (vI (min z2 z4))).drew.heap[X]? = some (.cells #[.slice ha n hc, .slice (some ⟨gr, 0, none⟩) n rc] 33)) := HX2
        have HF3 : Hd (Fr (fun _ => False) w (wr.setCell ⟨gu, j, none⟩ (vI (min z2 z4))).drew) := HF2.out.trans hd
        clear HS2 HA2 HB2 HN2 HX2 HF2 hd hmin
        generalize (wr.setCell ⟨gu, j, none⟩ (vI (min z2 z4))).drew = W at *
        go_wp2_with fail
        exact ⟨⟨j + 1, by simp, by omega, HS3.out, HA3.out, HB3.out, HN3.out, HX3.out, HF3.out⟩, by simp; omega⟩
      ·have hje : j = m := by omega
       have dj : decide ((j : Int) < m) = false := by simp; omega
       have HS2 : Hd (SO wr (H + 3) (.slice ha n hc) (.slice (some ⟨gr, 0, none⟩) n rc) us ⟨mixH s.H t.H n, mixR s.R t.R (i + 1) 0⟩) := by
        have := HS.out
        rw [hje, HNX.out] at this
        exact this
       clear hje HS
       go_wp2_with fail
       exact ⟨⟨i + 1, by simp, by omega, HS2.out, HA.out, HB.out, HN.out, HX.out, HF.out⟩, by simp; omega⟩
    ·have hie : i = n := by omega
     have di : decide ((i : Int) < n) = false := by simp; omega
     have HS2 : Hd (SO wr (H + 3) (.slice ha n hc) (.slice ra n rc) us (meetS s t)) := by
      have := HS.out
      rw [hie] at this
      have e1 := mixH_all (a := s.H) (b := t.H) (by have := HNS.out; omega)
      have e2 := mixR_all (a := s.R) (b := t.R) (by have := HNS.out; omega)
      rw [HNS.out.1] at e1
      rw [HNS.out.2.1] at e2
      rw [e1, e2] at this
      exact this
     have y0 : wr.cell? ⟨H + 2, 0, none⟩ = some (.slice none 0 0) := by rw [cell_of0 HN.out]; rfl
     have y1 : wr.cell? ⟨H + 2, 1, none⟩ = some (.slice none 0 0) := by rw [cell_of0 HN.out]; rfl
     have z0 := frozen_of HN.out 0
     have z1 := frozen_of HN.out 1
     have HZ0 : Hd (((wr.setCell ⟨H + 2, 0, none⟩ (.slice ha n hc)).setCell ⟨H + 2, 1, none⟩ (.slice ra n rc)).heap[H + 2]? = some (.cells #[.slice ha n hc, .slice ra n rc] 33)) := set_of (set_of HN.out 0 _) 1 _
     have f : Fr (fun j => j = H + 2) wr ((wr.setCell ⟨H + 2, 0, none⟩ (.slice ha n hc)).setCell ⟨H + 2, 1, none⟩ (.slice ra n rc)) := (setCell_fr wr (H + 2) 0 _).trans (setCell_fr _ (H + 2) 1 _)
     have HFz : Hd (Fr (fun _ => False) w ((wr.setCell ⟨H + 2, 0, none⟩ (.slice ha n hc)).setCell ⟨H + 2, 1, none⟩ (.slice ra n rc))) := HF.out.then f (fun j hj e => by have := HH.out; omega)
     have HSZ : Hd (SO ((wr.setCell ⟨H + 2, 0, none⟩ (.slice ha n hc)).setCell ⟨H + 2, 1, none⟩ (.slice ra n rc)) w.heap.size (.slice ha n hc) (.slice ra n rc) us (meetS s t)) := by
      have hb := HS2.out
      refine (hb.other f (fun k e e2 => ?_) (fun k e e2 => ?_) (fun i hi k e e2 => ?_)).mono (by have := HH.out; omega)
      ·have := (hb.oh.ge k e).1; omega
      ·have := (World.ownsRow.lt hb.lo.row k e).1; omega
      ·have := ((hb.lo.each i hi (by rw [← hb.lo.ul]; exact hi)).ge k e).1; omega
     clear f hie HS HS2
     go_wp2_with fail
     generalize (wr.setCell ⟨H + 2, 0, none⟩ (.slice ha n hc)).setCell ⟨H + 2, 1, none⟩ (.slice ra n rc) = wy at *
     have e0 : wy.cell? ⟨H + 2, 0, none⟩ = some (.slice ha n hc) := by rw [cell_of0 HZ0.out]; rfl
     have e1 : wy.cell? ⟨H + 2, 1, none⟩ = some (.slice ra n rc) := by rw [cell_of0 HZ0.out]; rfl
     refine bodyPost_ret (v := .agg #[.slice ha n hc, .slice ra n rc]) ?_ rfl ⟨_, _, us, rfl, HSZ.out, HFz.out⟩
     rw [results_cell (p := 4) (ty := 33) Tryz.results12]
     simp [go_sem, e0, e1]
end Go.Proofs.YtdkijecnnmncnaaGreatDoor
