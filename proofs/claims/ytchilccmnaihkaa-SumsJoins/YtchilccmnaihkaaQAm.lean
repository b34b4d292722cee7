import Derived.Test.YtchilccmnaihkaaQA9J
namespace Go.Proofs.Ytchilccmnaihkaa
open Go.RowKit (wrap32 wrap64)
set_option linter.unusedVariables false
set_option linter.unusedSimpArgs false

theorem minL_len (a b : List Int) (h : a.length = b.length) : (minL a b).length = a.length := by simp [minL, h]
theorem lesser_l (v1 v2 : Value) (a b : List Int) {n : Nat} (w : World) (hn : a.length = n) (hb : b.length = n) (h1 : IA w v1 a) (h2 : IA w v2 b) (hz : n ≤ 17592186043904) :
    Calls Try.prog 28 #[v1, v2] w fun e w' => ∃ g, e = .returned (.slice (some ⟨g, 0, none⟩) (minL a b).length (minL a b).length) ∧ w.heap.size ≤ g ∧ w'.heap[g]? = some (minsO (minL a b)) ∧ Fr (fun _ => False) w w' := by
  have h := lesser_any v1 v2 a b w h1 h2 (by omega) (by omega)
  rw [← minL_len a b (by omega)] at h
  exact h

def mlX (a b : PS) (i : Nat) : List Int := minL (a.res.getD i []) (b.res.getD i [])

set_option maxRecDepth 100000 in
set_option maxHeartbeats 4000000 in
theorem meet_yes (v1 v2 : Value) (a b : PS) (w : World) (ha : SA w v1 a) (hb : SA w v2 b) (fa : a.Fits) (fb : b.Fits) (hp1 : all2 pairB a.heap b.heap = true) (hp2 : all2 (all2 pairB) a.res b.res = true) (hqs : a.res.length ≤ 1000000000000) :
    Calls Try.prog 12 #[v1, v2] w fun e w' => ∃ v, e = .returned (.tuple #[v, vI 0]) ∧ SAq (fun j => w.heap.size ≤ j) w' v (a.meet b) ∧ Fr (fun _ => False) w w' := by
  obtain ⟨x1, y1, rfl, h1, h2⟩ := ha
  obtain ⟨x2, y2, rfl, h3, h4⟩ := hb
  obtain ⟨a1, b1, e1, -⟩ := id h1
  obtain ⟨a2, b2, e2, hl2⟩ := id h2
  obtain ⟨a3, b3, e3, -⟩ := id h3
  obtain ⟨a4, b4, e4, hl4⟩ := id h4
  obtain ⟨wa, hwa⟩ : ∃ wa, wa = ((w.alloc (.cells #[x1, y1] 31)).alloc (.cells #[x2, y2] 31)).alloc nil2 := ⟨_, rfl⟩
  have hF : Fr (fun _ => False) w wa := by rw [hwa]; exact Fr.alloc (Fr.alloc (Fr.alloc (Fr.refl _ w) _) _) _
  obtain ⟨H, hH⟩ : ∃ H, H = w.heap.size := ⟨_, rfl⟩
  have b1' : wa.heap[H]? = some (.cells #[x1, y1] 31) := by rw [hwa, hH]; exact keepA (keepA (heap_new w _) _) _
  have b2' : wa.heap[H + 1]? = some (.cells #[x2, y2] 31) := by
    have := heap_new (w.alloc (.cells #[x1, y1] 31)) (.cells #[x2, y2] 31)
    rw [World.size_alloc] at this
    rw [hwa, hH]; exact keepA this _
  have b3' : wa.heap[H + 2]? = some nil2 := by
    have := heap_new ((w.alloc (.cells #[x1, y1] 31)).alloc (.cells #[x2, y2] 31)) nil2
    rw [World.size_alloc, World.size_alloc] at this
    rw [hwa, hH]; exact this
  have hsz : wa.heap.size = H + 3 := by rw [hwa, hH]; simp
  have HSZ : Hd (wa.heap.size = H + 3) := hsz
  have HWA : Hd (wa = ((w.alloc (.cells #[x1, y1] 31)).alloc (.cells #[x2, y2] 31)).alloc nil2) := hwa
  have HF : Hd (Fr (fun _ => False) w wa) := hF
  have HH : Hd (H = w.heap.size) := hH
  have B1 : Hd (wa.heap[H]? = some (.cells #[x1, y1] 31)) := b1'
  have B2 : Hd (wa.heap[H + 1]? = some (.cells #[x2, y2] 31)) := b2'
  have B3 : Hd (wa.heap[H + 2]? = some nil2) := b3'
  have G1 : Hd (IA wa x1 a.heap) := h1.stay hF
  have G2 : Hd (LA wa y1 a.res) := h2.stay hF
  have G3 : Hd (IA wa x2 b.heap) := h3.stay hF
  have G4 : Hd (LA wa y2 b.res) := h4.stay hF
  have FA : Hd a.Fits := fa
  have FB : Hd b.Fits := fb
  have P1 : Hd (all2 pairB a.heap b.heap = true) := hp1
  have P2 : Hd (all2 (all2 pairB) a.res b.res = true) := hp2
  have HL2 : Hd (a.res ≠ [] → _) := hl2
  have HL4 : Hd (b.res ≠ [] → _) := hl4
  obtain ⟨n, hn⟩ : ∃ n, a.heap.length = n := ⟨_, rfl⟩
  have hnb : b.heap.length = n := by rw [← all2_len hp1]; exact hn
  obtain ⟨q, hq⟩ : ∃ q, a.res.length = q := ⟨_, rfl⟩
  have hqb : b.res.length = q := by rw [← all2_len hp2]; exact hq
  have hnz : n ≤ 17592186043904 := by rw [← hn]; exact fa.h
  have hqz : q ≤ 1000000000000 := by rw [← hq]; exact hqs
  have HN : Hd (a.heap.length = n) := hn
  have HNB : Hd (b.heap.length = n) := hnb
  have HQ : Hd (a.res.length = q) := hq
  have HQB : Hd (b.res.length = q) := hqb
  rw [hn] at e1
  rw [hq] at e2
  rw [hnb] at e3
  rw [hqb] at e4
  have c0 : wa.cell? ⟨H, 0, none⟩ = some x1 := by rw [cell_of b1']; rfl
  have c1 : wa.cell? ⟨H, 1, none⟩ = some y1 := by rw [cell_of b1']; rfl
  have d0 : wa.cell? ⟨H + 1, 0, none⟩ = some x2 := by rw [cell_of b2']; rfl
  have d1 : wa.cell? ⟨H + 1, 1, none⟩ = some y2 := by rw [cell_of b2']; rfl
  have hHl : H < wa.heap.size := heap_lt b1'
  have hHl1 : H + 1 < wa.heap.size := heap_lt b2'
  subst e1; subst e2; subst e3; subst e4
  clear h1 h2 h3 h4 hl2 hl4 hF hwa hH b1' b2' b3' fa fb hp1 hp2 hn hnb hq hqb hqs hsz
  go_enter Try.func12, Try.ntmps12
  go_upto_region 1 with fail
  rw [← HWA.out, ← HH.out]
  clear HWA
  go_wp2_with fail
  refine (show Calls Try.prog 27 #[.slice a1 n b1, .slice a3 n b3] wa _ from paired_any _ _ _ _ wa G1.out G3.out FA.out.h FB.out.h).mono ?_
  rintro e w1 ⟨rfl, hF1⟩
  rw [P1.out]
  have G2' : Hd (LA w1 (.slice a2 q b2) a.res) := LA.stay G2.out hF1
  have G4' : Hd (LA w1 (.slice a4 q b4) b.res) := LA.stay G4.out hF1
  have G1' : Hd (IA w1 (.slice a1 n b1) a.heap) := IA.stay G1.out hF1
  have G3' : Hd (IA w1 (.slice a3 n b3) b.heap) := IA.stay G3.out hF1
  have B1' : Hd _ := keepF B1.out hF1
  have B2' : Hd _ := keepF B2.out hF1
  have B3' : Hd _ := keepF B3.out hF1
  have HF' : Hd (Fr (fun _ => False) w w1) := HF.out.trans hF1
  have HSZ' : Hd (H + 3 ≤ w1.heap.size) := by have h9 := HSZ.out; have := hF1.size; unfold Hd; omega
  clear hF1 c0 c1 d0 d1 B1 B2 B3 G1 G2 G3 G4 HF hHl hHl1 HSZ
  have c1 : w1.cell? ⟨H, 1, none⟩ = some (.slice a2 q b2) := by rw [cell_of B1'.out]; rfl
  have d1 : w1.cell? ⟨H + 1, 1, none⟩ = some (.slice a4 q b4) := by rw [cell_of B2'.out]; rfl
  go_wp2_with fail
  refine (show Calls Try.prog 22 #[.slice a2 q b2, .slice a4 q b4, .func (.func 27) #[] #[]] w1 _ from equalL27 _ _ _ _ w1 G2'.out G4'.out FA.out.r FB.out.r FA.out.l FB.out.l).mono ?_
  rintro e wa ⟨rfl, hF1⟩
  rw [P2.out]
  have HSZ : Hd (H + 3 ≤ wa.heap.size) := Nat.le_trans HSZ'.out hF1.size
  have LES : Hd (∀ W, Fr (fun _ => False) wa W → IA W (.slice a1 n b1) a.heap ∧ IA W (.slice a3 n b3) b.heap) := fun W f => ⟨IA.stay G1'.out (hF1.trans f), IA.stay G3'.out (hF1.trans f)⟩
  have B1 : Hd (wa.heap[H]? = some (.cells #[.slice a1 n b1, .slice a2 q b2] 31)) := keepF B1'.out hF1
  have B2 : Hd (wa.heap[H + 1]? = some (.cells #[.slice a3 n b3, .slice a4 q b4] 31)) := keepF B2'.out hF1
  have B3 : Hd (wa.heap[H + 2]? = some nil2) := keepF B3'.out hF1
  have HF : Hd (Fr (fun _ => False) w wa) := HF'.out.trans hF1
  clear hF1 c1 d1 B1' B2' B3' G1' G2' G3' G4' HF' HSZ'
  have c0 : wa.cell? ⟨H, 0, none⟩ = some (.slice a1 n b1) := by rw [cell_of B1.out]; rfl
  have c1 : wa.cell? ⟨H, 1, none⟩ = some (.slice a2 q b2) := by rw [cell_of B1.out]; rfl
  have d0 : wa.cell? ⟨H + 1, 0, none⟩ = some (.slice a3 n b3) := by rw [cell_of B2.out]; rfl
  have hHl : H < wa.heap.size := heap_lt B1.out
  have hHl1 : H + 1 < wa.heap.size := heap_lt B2.out
  obtain ⟨l, hll⟩ : ∃ l, l = minL a.heap b.heap := ⟨_, rfl⟩
  have HLL : Hd (l = minL a.heap b.heap) := hll
  clear hll
  have hm := make29 q hqz
  go_upto_region 3 with fail
  have K1 : Hd ((wa.alloc nil2).drew.heap[wa.heap.size]? = some nil2) := heap_new wa nil2
  have K2 : Hd ((wa.alloc (nils q)).drew.heap[wa.heap.size]? = some (nils q)) := heap_new wa (nils q)
  have K3 : Hd (((wa.alloc nil2).alloc (nils q)).drew.heap[wa.heap.size]? = some nil2) := keepA (heap_new wa nil2) (nils q)
  have K4 : Hd (((wa.alloc nil2).alloc (nils q)).drew.heap[wa.heap.size + 1]? = some (nils q)) := by have := heap_new (wa.alloc nil2) (nils q); rw [World.size_alloc] at this; exact this
  have K5 : Hd (((wa.alloc (nils q)).alloc nil2).drew.heap[wa.heap.size + 1]? = some nil2) := by have := heap_new (wa.alloc (nils q)) nil2; rw [World.size_alloc] at this; exact this
  have K6 : Hd (((wa.alloc (nils q)).alloc nil2).drew.heap[wa.heap.size]? = some (nils q)) := keepA (heap_new wa (nils q)) nil2
  have ne1 : wa.heap.size ≠ H := by omega
  have ne2 : wa.heap.size + 1 ≠ H := by omega
  have ne3 : H ≠ wa.heap.size := by omega
  have ne4 : H ≠ wa.heap.size + 1 := by omega
  have ne5 : wa.heap.size ≠ H + 1 := by omega
  have ne6 : wa.heap.size + 1 ≠ H + 1 := by omega
  have ne7 : H + 1 ≠ wa.heap.size := by omega
  have ne8 : H + 1 ≠ wa.heap.size + 1 := by omega
  go_cut [6] (fun x3 wx => Hd (L3 wa wx l q x3))
  case first =>
    go_region_held3 (fun w' => w'.cell? ⟨H, 0, none⟩ = some (.slice a1 n b1) ∧ w'.cell? ⟨H + 1, 0, none⟩ = some (.slice a3 n b3) ∧ w'.cell? ⟨H, 1, none⟩ = some (.slice a2 q b2)) (go_keep) ((
      go_at_call 28
      first
        | (refine (show Calls Try.prog 28 #[.slice a1 n b1, .slice a3 n b3] wa.drew _ from lesser_l _ _ _ _ wa.drew HN.out HNB.out (LES.out _ (by first | exact Fr.refl _ _ | exact Fr.drew (Fr.refl _ _) | exact Fr.drew (Fr.alloc (Fr.refl _ _) _) | exact Fr.drew (Fr.alloc (Fr.alloc (Fr.refl _ _) _) _))).1 (LES.out _ (by first | exact Fr.refl _ _ | exact Fr.drew (Fr.refl _ _) | exact Fr.drew (Fr.alloc (Fr.refl _ _) _) | exact Fr.drew (Fr.alloc (Fr.alloc (Fr.refl _ _) _) _))).2 hnz).mono ?_
           rintro e w2 ⟨g, rfl, hge, hgn, hF2⟩
           have hFX : Fr (fun _ => False) wa wa.drew := by first | exact Fr.refl _ _ | exact Fr.drew (Fr.refl _ _) | exact Fr.drew (Fr.alloc (Fr.refl _ _) _) | exact Fr.drew (Fr.alloc (Fr.alloc (Fr.refl _ _) _) _)
           have hG2 : Fr (fun _ => False) wa w2 := hFX.trans hF2
           have s0 := (hG2.cell hHl (fun h => h)).trans c0
           have s1 := (hG2.cell hHl1 (fun h => h)).trans d0
           have s2 := (hG2.cell hHl (fun h => h)).trans c1
           rw [← HLL.out] at hgn ⊢
           have HG2 : Hd (Fr (fun _ => False) wa w2) := hG2
           have HGN : Hd (w2.heap[g]? = some (minsO l)) := hgn
           have HGE : Hd (wa.heap.size ≤ g) := Nat.le_trans hFX.size hge
           clear hF2 hG2 hgn hge hFX)
        | (refine (show Calls Try.prog 28 #[.slice a1 n b1, .slice a3 n b3] (wa.alloc nil2).drew _ from lesser_l _ _ _ _ (wa.alloc nil2).drew HN.out HNB.out (LES.out _ (by first | exact Fr.refl _ _ | exact Fr.drew (Fr.refl _ _) | exact Fr.drew (Fr.alloc (Fr.refl _ _) _) | exact Fr.drew (Fr.alloc (Fr.alloc (Fr.refl _ _) _) _))).1 (LES.out _ (by first | exact Fr.refl _ _ | exact Fr.drew (Fr.refl _ _) | exact Fr.drew (Fr.alloc (Fr.refl _ _) _) | exact Fr.drew (Fr.alloc (Fr.alloc (Fr.refl _ _) _) _))).2 hnz).mono ?_
           rintro e w2 ⟨g, rfl, hge, hgn, hF2⟩
           have hFX : Fr (fun _ => False) wa (wa.alloc nil2).drew := by first | exact Fr.refl _ _ | exact Fr.drew (Fr.refl _ _) | exact Fr.drew (Fr.alloc (Fr.refl _ _) _) | exact Fr.drew (Fr.alloc (Fr.alloc (Fr.refl _ _) _) _)
           have hG2 : Fr (fun _ => False) wa w2 := hFX.trans hF2
           have s0 := (hG2.cell hHl (fun h => h)).trans c0
           have s1 := (hG2.cell hHl1 (fun h => h)).trans d0
           have s2 := (hG2.cell hHl (fun h => h)).trans c1
           rw [← HLL.out] at hgn ⊢
           have HG2 : Hd (Fr (fun _ => False) wa w2) := hG2
           have HGN : Hd (w2.heap[g]? = some (minsO l)) := hgn
           have HGE : Hd (wa.heap.size ≤ g) := Nat.le_trans hFX.size hge
           have bX := keepF K1.out hF2
           have y0 : w2.cell? ⟨wa.heap.size, 0, none⟩ = some (.slice none 0 0) := by rw [cell_of bX]; rfl
           have y1 : w2.cell? ⟨wa.heap.size, 1, none⟩ = some (.slice none 0 0) := by rw [cell_of bX]; rfl
           have z0 := frozen_of bX 0
           have z1 := frozen_of bX 1
           have HBX : Hd (w2.heap[wa.heap.size]? = some nil2) := bX
           have lX : wa.heap.size < w2.heap.size := heap_lt bX
           have nX1 : wa.heap.size ≠ w2.heap.size := by omega
           have nX2 : w2.heap.size ≠ wa.heap.size := by omega
           clear bX
           clear hF2 hG2 hgn hge hFX)
        | (refine (show Calls Try.prog 28 #[.slice a1 n b1, .slice a3 n b3] (wa.alloc (nils q)).drew _ from lesser_l _ _ _ _ (wa.alloc (nils q)).drew HN.out HNB.out (LES.out _ (by first | exact Fr.refl _ _ | exact Fr.drew (Fr.refl _ _) | exact Fr.drew (Fr.alloc (Fr.refl _ _) _) | exact Fr.drew (Fr.alloc (Fr.alloc (Fr.refl _ _) _) _))).1 (LES.out _ (by first | exact Fr.refl _ _ | exact Fr.drew (Fr.refl _ _) | exact Fr.drew (Fr.alloc (Fr.refl _ _) _) | exact Fr.drew (Fr.alloc (Fr.alloc (Fr.refl _ _) _) _))).2 hnz).mono ?_
           rintro e w2 ⟨g, rfl, hge, hgn, hF2⟩
           have hFX : Fr (fun _ => False) wa (wa.alloc (nils q)).drew := by first | exact Fr.refl _ _ | exact Fr.drew (Fr.refl _ _) | exact Fr.drew (Fr.alloc (Fr.refl _ _) _) | exact Fr.drew (Fr.alloc (Fr.alloc (Fr.refl _ _) _) _)
           have hG2 : Fr (fun _ => False) wa w2 := hFX.trans hF2
           have s0 := (hG2.cell hHl (fun h => h)).trans c0
           have s1 := (hG2.cell hHl1 (fun h => h)).trans d0
           have s2 := (hG2.cell hHl (fun h => h)).trans c1
           rw [← HLL.out] at hgn ⊢
           have HG2 : Hd (Fr (fun _ => False) wa w2) := hG2
           have HGN : Hd (w2.heap[g]? = some (minsO l)) := hgn
           have HGE : Hd (wa.heap.size ≤ g) := Nat.le_trans hFX.size hge
           have HBM : Hd (w2.heap[wa.heap.size]? = some (nils q)) := keepF K2.out hF2
           clear hF2 hG2 hgn hge hFX)
        | (refine (show Calls Try.prog 28 #[.slice a1 n b1, .slice a3 n b3] ((wa.alloc nil2).alloc (nils q)).drew _ from lesser_l _ _ _ _ ((wa.alloc nil2).alloc (nils q)).drew HN.out HNB.out (LES.out _ (by first | exact Fr.refl _ _ | exact Fr.drew (Fr.refl _ _) | exact Fr.drew (Fr.alloc (Fr.refl _ _) _) | exact Fr.drew (Fr.alloc (Fr.alloc (Fr.refl _ _) _) _))).1 (LES.out _ (by first | exact Fr.refl _ _ | exact Fr.drew (Fr.refl _ _) | exact Fr.drew (Fr.alloc (Fr.refl _ _) _) | exact Fr.drew (Fr.alloc (Fr.alloc (Fr.refl _ _) _) _))).2 hnz).mono ?_
           rintro e w2 ⟨g, rfl, hge, hgn, hF2⟩
           have hFX : Fr (fun _ => False) wa ((wa.alloc nil2).alloc (nils q)).drew := by first | exact Fr.refl _ _ | exact Fr.drew (Fr.refl _ _) | exact Fr.drew (Fr.alloc (Fr.refl _ _) _) | exact Fr.drew (Fr.alloc (Fr.alloc (Fr.refl _ _) _) _)
           have hG2 : Fr (fun _ => False) wa w2 := hFX.trans hF2
           have s0 := (hG2.cell hHl (fun h => h)).trans c0
           have s1 := (hG2.cell hHl1 (fun h => h)).trans d0
           have s2 := (hG2.cell hHl (fun h => h)).trans c1
           rw [← HLL.out] at hgn ⊢
           have HG2 : Hd (Fr (fun _ => False) wa w2) := hG2
           have HGN : Hd (w2.heap[g]? = some (minsO l)) := hgn
           have HGE : Hd (wa.heap.size ≤ g) := Nat.le_trans hFX.size hge
           have bX := keepF K3.out hF2
           have y0 : w2.cell? ⟨wa.heap.size, 0, none⟩ = some (.slice none 0 0) := by rw [cell_of bX]; rfl
           have y1 : w2.cell? ⟨wa.heap.size, 1, none⟩ = some (.slice none 0 0) := by rw [cell_of bX]; rfl
           have z0 := frozen_of bX 0
           have z1 := frozen_of bX 1
           have HBX : Hd (w2.heap[wa.heap.size]? = some nil2) := bX
           have lX : wa.heap.size < w2.heap.size := heap_lt bX
           have nX1 : wa.heap.size ≠ w2.heap.size := by omega
           have nX2 : w2.heap.size ≠ wa.heap.size := by omega
           clear bX
           have HBM : Hd (w2.heap[wa.heap.size + 1]? = some (nils q)) := keepF K4.out hF2
           clear hF2 hG2 hgn hge hFX)
        | (refine (show Calls Try.prog 28 #[.slice a1 n b1, .slice a3 n b3] ((wa.alloc (nils q)).alloc nil2).drew _ from lesser_l _ _ _ _ ((wa.alloc (nils q)).alloc nil2).drew HN.out HNB.out (LES.out _ (by first | exact Fr.refl _ _ | exact Fr.drew (Fr.refl _ _) | exact Fr.drew (Fr.alloc (Fr.refl _ _) _) | exact Fr.drew (Fr.alloc (Fr.alloc (Fr.refl _ _) _) _))).1 (LES.out _ (by first | exact Fr.refl _ _ | exact Fr.drew (Fr.refl _ _) | exact Fr.drew (Fr.alloc (Fr.refl _ _) _) | exact Fr.drew (Fr.alloc (Fr.alloc (Fr.refl _ _) _) _))).2 hnz).mono ?_
           rintro e w2 ⟨g, rfl, hge, hgn, hF2⟩
           have hFX : Fr (fun _ => False) wa ((wa.alloc (nils q)).alloc nil2).drew := by first | exact Fr.refl _ _ | exact Fr.drew (Fr.refl _ _) | exact Fr.drew (Fr.alloc (Fr.refl _ _) _) | exact Fr.drew (Fr.alloc (Fr.alloc (Fr.refl _ _) _) _)
           have hG2 : Fr (fun _ => False) wa w2 := hFX.trans hF2
           have s0 := (hG2.cell hHl (fun h => h)).trans c0
           have s1 := (hG2.cell hHl1 (fun h => h)).trans d0
           have s2 := (hG2.cell hHl (fun h => h)).trans c1
           rw [← HLL.out] at hgn ⊢
           have HG2 : Hd (Fr (fun _ => False) wa w2) := hG2
           have HGN : Hd (w2.heap[g]? = some (minsO l)) := hgn
           have HGE : Hd (wa.heap.size ≤ g) := Nat.le_trans hFX.size hge
           have bX := keepF K5.out hF2
           have y0 : w2.cell? ⟨wa.heap.size + 1, 0, none⟩ = some (.slice none 0 0) := by rw [cell_of bX]; rfl
           have y1 : w2.cell? ⟨wa.heap.size + 1, 1, none⟩ = some (.slice none 0 0) := by rw [cell_of bX]; rfl
           have z0 := frozen_of bX 0
           have z1 := frozen_of bX 1
           have HBX : Hd (w2.heap[wa.heap.size + 1]? = some nil2) := bX
           have lX : wa.heap.size + 1 < w2.heap.size := heap_lt bX
           have nX1 : wa.heap.size + 1 ≠ w2.heap.size := by omega
           have nX2 : w2.heap.size ≠ wa.heap.size + 1 := by omega
           clear bX
           have HBM : Hd (w2.heap[wa.heap.size]? = some (nils q)) := keepF K6.out hF2
           clear hF2 hG2 hgn hge hFX)))
    all_goals
      go_wp2_with fail
      go_meet
      first
        | exact L3.o1 HG2.out HGN.out HGE.out
        | exact L3.o2 HG2.out HGN.out HGE.out
        | exact L3.last HG2.out HGN.out HBM.out HGE.out (Nat.le_refl _)
        | exact L3.set HG2.out HBX.out HGN.out HBM.out (Nat.le_succ _) HGE.out (Nat.le_refl _)
        | exact L3.o5 HG2.out HBX.out HGN.out (Nat.le_refl _) HGE.out
        | exact L3.set HG2.out HBX.out HGN.out HBM.out (Nat.le_refl _) HGE.out (Nat.le_succ _)
  case rest =>
    obtain ⟨X, g1, g2, rfl, hX, hg1, hg2, bX, bg1, bg2, hFx⟩ := hcut
    have HFw : Hd (Fr (fun _ => False) w wc) := HF.out.trans hFx
    have HX : Hd (wc.heap[X]? = some (.cells #[.slice (some ⟨g1, 0, none⟩) l.length l.length, .slice (some ⟨g2, 0, none⟩) q q] 31)) := bX
    have HG1 : Hd (wc.heap[g1]? = some (minsO l)) := bg1
    have HR : Hd (Rws wc 22 1 g2 q (fun _ => [.slice none 0 0])) := ⟨_, bg2, by simp, fun i o hi ho => by
      obtain rfl : o = 0 := by omega
      rw [Nat.mul_one, Nat.add_zero]
      simp [Array.getElem?_replicate, hi]⟩
    have HB1 : Hd (wc.heap[H]? = some (.cells #[.slice a1 n b1, .slice a2 q b2] 31)) := keepF B1.out hFx
    have HB2 : Hd (wc.heap[H + 1]? = some (.cells #[.slice a3 n b3, .slice a4 q b4] 31)) := keepF B2.out hFx
    have HB3 : Hd (wc.heap[H + 2]? = some nil2) := keepF B3.out hFx
    have x1 : wc.cell? ⟨X, 1, none⟩ = some (.slice (some ⟨g2, 0, none⟩) q q) := by rw [cell_of bX]; rfl
    have HGT : Hd (H + 3 ≤ X ∧ H + 3 ≤ g1 ∧ H + 3 ≤ g2) := by have := HSZ.out; unfold Hd; omega
    clear bX bg1 bg2 hFx ne1 ne2 ne3 ne4 ne5 ne6 ne7 ne8 hHl hHl1 c0 c1 d0 hm K1 K2 K3 K4 K5 K6 hX hg1 hg2 B1 B2 B3 HF HSZ LES
    go_wp2_with fail
    clear x1
    go_loopw [36] (fun v wr => ∃ (k : Nat) (gs : Nat → Nat), v = .int .i64 k ∧ k ≤ q ∧ Hd (Rws wr 22 1 g2 q (fun i => [if i < k then .slice (some ⟨gs i, 0, none⟩) (mlX a b i).length (mlX a b i).length else .slice none 0 0])) ∧ Hd (∀ i, i < k → wr.heap[gs i]? = some (minsO (mlX a b i))) ∧ Hd (∀ i, i < k → H ≤ gs i) ∧ Hd (wr.heap[X]? = some (.cells #[.slice (some ⟨g1, 0, none⟩) l.length l.length, .slice (some ⟨g2, 0, none⟩) q q] 31)) ∧ Hd (wr.heap[g1]? = some (minsO l)) ∧ Hd (wr.heap[H]? = some (.cells #[.slice a1 n b1, .slice a2 q b2] 31)) ∧ Hd (wr.heap[H + 1]? = some (.cells #[.slice a3 n b3, .slice a4 q b4] 31)) ∧ Hd (wr.heap[H + 2]? = some nil2) ∧ Hd (Fr (fun _ => False) w wr)) (fun v _ => match v with | .int _ z => q - z.toNat | _ => 0)
    case atStart => exact ⟨0, fun _ => 0, rfl, Nat.zero_le _, HR.out.congr (fun i _ => by simp), fun i hi => absurd hi (Nat.not_lt_zero _), fun i hi => absurd hi (Nat.not_lt_zero _), HX.out, HG1.out, HB1.out, HB2.out, HB3.out, HFw.out⟩
    case round =>
      clear HR HX HG1 HB1 HB2 HB3 HFw
      obtain ⟨k, gs, rfl, hk, HR, HGS, HGB, HX, HG1, HB1, HB2, HB3, HF⟩ := hrel
      by_cases hlt : k < q
      · have hla : k < a.res.length := by rw [HQ.out]; exact hlt
        have hlb : k < b.res.length := by rw [HQB.out]; exact hlt
        obtain ⟨ra, ro, rfl, hra, g1'⟩ := HL2.out (by intro e; simp [e] at hla)
        obtain ⟨rb, rbo, rfl, hrb, g2'⟩ := HL4.out (by intro e; simp [e] at hlb)
        obtain ⟨u1, p1, i1⟩ := g1' k hla
        obtain ⟨u2, p2, i2⟩ := g2' k hlb
        have t1 := (HF.out.cell hra (fun h => h)).trans p1
        have t2 := (HF.out.cell hrb (fun h => h)).trans p2
        have I1 : Hd (∀ W, Fr (fun _ => False) wr W → IA W u1 a.res[k]) := fun W f => i1.stay (HF.out.trans f)
        have I2 : Hd (∀ W, Fr (fun _ => False) wr W → IA W u2 b.res[k]) := fun W f => i2.stay (HF.out.trans f)
        have hlen : a.res[k].length = b.res[k].length := all2_len ((all2_iff.1 P2.out).2 k hla hlb)
        have hza : a.res[k].length ≤ 17592186043904 := FA.out.l _ (List.getElem_mem hla)
        have HML : Hd (mlX a b k = minL a.res[k] b.res[k]) := by
          unfold Hd mlX
          rw [List.getD_eq_getElem?_getD, List.getD_eq_getElem?_getD, List.getElem?_eq_getElem hla, List.getElem?_eq_getElem hlb]; rfl
        generalize a.res[k] = za at *
        generalize b.res[k] = zb at *
        obtain ⟨m, hm⟩ : ∃ m, za.length = m := ⟨_, rfl⟩
        have hmb : zb.length = m := by rw [← hlen]; exact hm
        have HM : Hd (za.length = m) := hm
        have HMB : Hd (zb.length = m) := hmb
        have hmz : m ≤ 17592186043904 := by rw [← hm]; exact hza
        obtain ⟨x1, y1, e1, -⟩ := I1.out wr (Fr.refl _ _)
        obtain ⟨x2, y2, e2, -⟩ := I2.out wr (Fr.refl _ _)
        rw [hm] at e1
        rw [hmb] at e2
        subst e1; subst e2
        have hk0 : (0 : Int) ≤ k := by omega
        have hk1 : (k : Int) < q := by omega
        have x1' : wr.cell? ⟨X, 1, none⟩ = some (.slice (some ⟨g2, 0, none⟩) q q) := by rw [cell_of HX.out]; rfl
        have h1 : wr.cell? ⟨H, 1, none⟩ = some (.slice (some ⟨ra, ro, none⟩) q b2) := by rw [cell_of HB1.out]; rfl
        have h2 : wr.cell? ⟨H + 1, 1, none⟩ = some (.slice (some ⟨rb, rbo, none⟩) q b4) := by rw [cell_of HB2.out]; rfl
        have q0 := HR.out.cell (i := k) (o := 0) hlt (by omega)
        rw [Nat.mul_one, Nat.add_zero, if_neg (Nat.lt_irrefl k)] at q0
        have q1 : wr.cell? ⟨g2, k, none⟩ = some (.slice none 0 0) := q0
        have hXl := heap_lt HX.out
        have hHl := heap_lt HB1.out
        have hHl1 := heap_lt HB2.out
        have hgl := HR.out.lt
        have hral : ra < wr.heap.size := Nat.lt_of_lt_of_le hra HF.out.size
        have hrbl : rb < wr.heap.size := Nat.lt_of_lt_of_le hrb HF.out.size
        have n1 : X ≠ g2 := fun e => by subst e; obtain ⟨cs, hc, -⟩ := HR.out; injection (Option.some.inj (HX.out.symm.trans hc)) with _ e; exact absurd e (by decide)
        have n2 : H ≠ g2 := by have := HGT.out; omega
        have n3 : H + 1 ≠ g2 := by have := HGT.out; omega
        have n5 : H + 2 ≠ g2 := by have := HGT.out; omega
        have n4 : g1 ≠ g2 := fun e => by subst e; obtain ⟨cs, hc, -⟩ := HR.out; injection (Option.some.inj (HG1.out.symm.trans hc)) with _ e; exact absurd e (by decide)
        have hgh := HGT.out
        have hHw := HH.out
        have m1 : g2 ≠ X := fun e => n1 e.symm
        have m2 : g2 ≠ H := fun e => n2 e.symm
        have m3 : g2 ≠ H + 1 := fun e => n3 e.symm
        have n6 : ra ≠ g2 := by omega
        have n7 : rb ≠ g2 := by omega
        have m6 : g2 ≠ ra := by omega
        have m7 : g2 ≠ rb := by omega
        clear hgh hHw
        clear q0 g1' g2' i1 i2 p1 p2 hm hmb hlen hza hla hlb
        go_wp2_with fail
        go_region_held3 (fun w' => w'.cell? ⟨X, 1, none⟩ = some (.slice (some ⟨g2, 0, none⟩) q q) ∧ w'.cell? ⟨H, 1, none⟩ = some (.slice (some ⟨ra, ro, none⟩) q b2) ∧ w'.cell? ⟨H + 1, 1, none⟩ = some (.slice (some ⟨rb, rbo, none⟩) q b4) ∧ w'.cell? ⟨ra, ro + k, none⟩ = some (.slice x1 m y1) ∧ w'.cell? ⟨rb, rbo + k, none⟩ = some (.slice x2 m y2)) (go_keep) ((
          go_at_call 28
          refine (show Calls Try.prog 28 #[.slice x1 m y1, .slice x2 m y2] wr.drew _ from lesser_l _ _ za zb wr.drew HM.out HMB.out (I1.out _ (Fr.drew (Fr.refl _ _))) (I2.out _ (Fr.drew (Fr.refl _ _))) hmz).mono ?_
          rintro e w2 ⟨g, rfl, hge, hgn, hF2⟩
          have hG2 : Fr (fun _ => False) wr w2 := (Fr.drew (Fr.refl _ wr)).trans hF2
          have s1 := (hG2.cell hXl (fun h => h)).trans x1'
          have s2 := (hG2.cell hHl (fun h => h)).trans h1
          have s3 := (hG2.cell hHl1 (fun h => h)).trans h2
          have s4 := (hG2.cell hral (fun h => h)).trans t1
          have s5 := (hG2.cell hrbl (fun h => h)).trans t2
          have s6 := (hG2.cell hgl (fun h => h)).trans q1
          have HR2 : Hd (Rws w2 22 1 g2 q (fun i => [if i < k then .slice (some ⟨gs i, 0, none⟩) (mlX a b i).length (mlX a b i).length else .slice none 0 0])) := HR.out.fr hG2 (fun e => e)
          have z2 := HR2.out.frozen k
          rw [← HML.out] at hgn ⊢
          have HG2 : Hd (Fr (fun _ => False) wr w2) := hG2
          have HGN : Hd (w2.heap[g]? = some (minsO (mlX a b k))) := hgn
          have HGG : Hd (H ≤ g) := by have h9 : wr.heap.size ≤ g := hge; unfold Hd; omega
          clear hF2 hG2 hgn hge))
        have f := setCell_fr w2 g2 k (.slice (some ⟨g, 0, none⟩) (mlX a b k).length (mlX a b k).length)
        have ng : ∀ j (z : List Int), w2.heap[j]? = some (minsO z) → j ≠ g2 := fun j z hj e => by subst e; obtain ⟨cs, hc, -⟩ := HR2.out; injection (Option.some.inj (hj.symm.trans hc)) with _ e; exact absurd e (by decide)
        have HRz : Hd (Rws (w2.setCell ⟨g2, k, none⟩ (.slice (some ⟨g, 0, none⟩) (mlX a b k).length (mlX a b k).length)) 22 1 g2 q (fun i => [if i < k + 1 then .slice (some ⟨at1 gs k g i, 0, none⟩) (mlX a b i).length (mlX a b i).length else .slice none 0 0])) := by
          have := HR2.out.set1 (i := k) (o := 0) hlt (by omega) rfl (.slice (some ⟨g, 0, none⟩) (mlX a b k).length (mlX a b k).length)
          rw [Nat.mul_one, Nat.add_zero] at this
          refine this.congr (fun i _ => ?_)
          by_cases e : i = k
          · subst e; rw [at1_self, at1_self, if_pos (Nat.lt_succ_self i)]; rfl
          · rw [at1_ne _ _ e, at1_ne _ _ e]
            by_cases hi : i < k
            · rw [if_pos hi, if_pos (by omega)]
            · rw [if_neg hi, if_neg (by omega)]
        have HGz : Hd (∀ i, i < k + 1 → (w2.setCell ⟨g2, k, none⟩ (.slice (some ⟨g, 0, none⟩) (mlX a b k).length (mlX a b k).length)).heap[at1 gs k g i]? = some (minsO (mlX a b i))) := fun i hi => by
          by_cases e : i = k
          · subst e; rw [at1_self]; exact (f.block g (heap_lt HGN.out) (ng g _ HGN.out)).trans HGN.out
          · rw [at1_ne _ _ e]
            have := keepF (HGS.out i (by omega)) HG2.out
            exact (f.block _ (heap_lt this) (ng _ _ this)).trans this
        have HGBz : Hd (∀ i, i < k + 1 → H ≤ at1 gs k g i) := fun i hi => by
          by_cases e : i = k
          · subst e; rw [at1_self]; exact HGG.out
          · rw [at1_ne _ _ e]; exact HGB.out i (by omega)
        have kp : ∀ j (o : Obj), wr.heap[j]? = some o → j ≠ g2 → (w2.setCell ⟨g2, k, none⟩ (.slice (some ⟨g, 0, none⟩) (mlX a b k).length (mlX a b k).length)).heap[j]? = some o := fun j o hj hne => by
          have := keepF hj HG2.out
          exact (f.block _ (heap_lt this) hne).trans this
        have HXz : Hd _ := kp X _ HX.out n1
        have HG1z : Hd _ := kp g1 _ HG1.out n4
        have HB1z : Hd _ := kp H _ HB1.out n2
        have HB2z : Hd _ := kp (H + 1) _ HB2.out n3
        have HB3z : Hd _ := kp (H + 2) _ HB3.out n5
        have HFz : Hd (Fr (fun _ => False) w (w2.setCell ⟨g2, k, none⟩ (.slice (some ⟨g, 0, none⟩) (mlX a b k).length (mlX a b k).length))) := (HF.out.trans HG2.out).then f (fun j hj e => by have := HGT.out; have := HH.out; omega)
        clear kp ng f s1 s2 s3 s4 s5 s6 z2 x1' h1 h2 q1 t1 t2 hXl hHl hHl1 hgl hral hrbl
        go_wp2_with fail
        exact ⟨⟨k + 1, at1 gs k g, by simp, by omega, HRz.out, HGz.out, HGBz.out, HXz.out, HG1z.out, HB1z.out, HB2z.out, HB3z.out, HFz.out⟩, by simp; omega⟩
      · have hke : k = q := by omega
        subst hke
        have x0 : wr.cell? ⟨X, 0, none⟩ = some (.slice (some ⟨g1, 0, none⟩) l.length l.length) := by rw [cell_of HX.out]; rfl
        have x1 : wr.cell? ⟨X, 1, none⟩ = some (.slice (some ⟨g2, 0, none⟩) k k) := by rw [cell_of HX.out]; rfl
        have y0 : wr.cell? ⟨H + 2, 0, none⟩ = some (.slice none 0 0) := by rw [cell_of HB3.out]; rfl
        have y1 : wr.cell? ⟨H + 2, 1, none⟩ = some (.slice none 0 0) := by rw [cell_of HB3.out]; rfl
        have z0 := frozen_of HB3.out 0
        have z1 := frozen_of HB3.out 1
        have HZ : Hd (((wr.setCell ⟨H + 2, 0, none⟩ (.slice (some ⟨g1, 0, none⟩) l.length l.length)).setCell ⟨H + 2, 1, none⟩ (.slice (some ⟨g2, 0, none⟩) k k)).heap[H + 2]? = some (.cells #[.slice (some ⟨g1, 0, none⟩) l.length l.length, .slice (some ⟨g2, 0, none⟩) k k] 31)) := set_of (set_of HB3.out 0 _) 1 _
        have f : Fr (fun j => j = H + 2) wr ((wr.setCell ⟨H + 2, 0, none⟩ (.slice (some ⟨g1, 0, none⟩) l.length l.length)).setCell ⟨H + 2, 1, none⟩ (.slice (some ⟨g2, 0, none⟩) k k)) := (setCell_fr wr (H + 2) 0 _).trans (setCell_fr _ (H + 2) 1 _)
        have HFz : Hd (Fr (fun _ => False) w ((wr.setCell ⟨H + 2, 0, none⟩ (.slice (some ⟨g1, 0, none⟩) l.length l.length)).setCell ⟨H + 2, 1, none⟩ (.slice (some ⟨g2, 0, none⟩) k k))) := HF.out.then f (fun j hj e => by have := HH.out; omega)
        have HI : Hd (IAq (fun j => w.heap.size ≤ j) ((wr.setCell ⟨H + 2, 0, none⟩ (.slice (some ⟨g1, 0, none⟩) l.length l.length)).setCell ⟨H + 2, 1, none⟩ (.slice (some ⟨g2, 0, none⟩) k k)) (.slice (some ⟨g1, 0, none⟩) l.length l.length) (minL a.heap b.heap)) := by
          unfold Hd
          rw [← HLL.out]
          exact mins_iaq ((f.block g1 (heap_lt HG1.out) (by have := HGT.out; omega)).trans HG1.out) (by have := HGT.out; have := HH.out; omega)
        have hrz : (List.zipWith minL a.res b.res).length = k := by simp [HQ.out, HQB.out]
        have HL : Hd (LAq (fun j => w.heap.size ≤ j) ((wr.setCell ⟨H + 2, 0, none⟩ (.slice (some ⟨g1, 0, none⟩) l.length l.length)).setCell ⟨H + 2, 1, none⟩ (.slice (some ⟨g2, 0, none⟩) k k)) (.slice (some ⟨g2, 0, none⟩) k k) (List.zipWith minL a.res b.res)) := by
          unfold Hd
          have hRz := HR.out.fr f (by have := HGT.out; omega)
          refine ⟨_, k, by rw [hrz], fun _ => ⟨g2, 0, rfl, by have := HGT.out; have := HH.out; omega, hRz.lt, fun j hj => ?_⟩⟩
          have hj' : j < k := by rw [hrz] at hj; exact hj
          have hc := hRz.cell (i := j) (o := 0) hj' (by omega)
          rw [Nat.mul_one, Nat.add_zero, if_pos hj'] at hc
          refine ⟨.slice (some ⟨gs j, 0, none⟩) (mlX a b j).length (mlX a b j).length, by rw [Nat.zero_add]; exact hc, ?_⟩
          have hja : j < a.res.length := by rw [HQ.out]; exact hj'
          have hjb : j < b.res.length := by rw [HQB.out]; exact hj'
          rw [show (List.zipWith minL a.res b.res)[j] = mlX a b j by
            unfold mlX
            rw [List.getElem_zipWith, List.getD_eq_getElem?_getD, List.getD_eq_getElem?_getD, List.getElem?_eq_getElem hja, List.getElem?_eq_getElem hjb]; rfl]
          have hg := HGS.out j hj'
          exact mins_iaq (hq := by have := HGB.out j hj'; have := HH.out; omega) ((f.block (gs j) (heap_lt hg) (fun e => by
            rw [e, HB3.out] at hg
            injection (Option.some.inj hg) with _ e; exact absurd e (by decide))).trans hg)
        clear f HR HGS HX HG1 HB1 HB2 HB3 HF hrz
        go_wp2_with fail
        generalize (wr.setCell ⟨H + 2, 0, none⟩ (.slice (some ⟨g1, 0, none⟩) l.length l.length)).setCell ⟨H + 2, 1, none⟩ (.slice (some ⟨g2, 0, none⟩) k k) = wz at *
        have e0 : wz.cell? ⟨H + 2, 0, none⟩ = some (.slice (some ⟨g1, 0, none⟩) l.length l.length) := by rw [cell_of HZ.out]; rfl
        have e1 : wz.cell? ⟨H + 2, 1, none⟩ = some (.slice (some ⟨g2, 0, none⟩) k k) := by rw [cell_of HZ.out]; rfl
        refine bodyPost_ret (v := .tuple #[.agg #[.slice (some ⟨g1, 0, none⟩) l.length l.length, .slice (some ⟨g2, 0, none⟩) k k], vI 0]) ?_ rfl ⟨_, rfl, ⟨_, _, rfl, HI.out, HL.out⟩, HFz.out⟩
        simp [results, Try.results12, go_sem, e0, e1]

end Go.Proofs.Ytchilccmnaihkaa
