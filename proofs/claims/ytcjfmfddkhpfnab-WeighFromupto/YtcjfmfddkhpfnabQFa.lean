import Derived.Test.YtcjfmfddkhpfnabQFeJ
namespace Go.Proofs.Ytcjfmfddkhpfnab
open Go.RowKit (wrap32 wrap64)
set_option linter.unusedVariables false
set_option linter.unusedSimpArgs false

/-- What booked holds. -/
structure Bk (w0 : World) (eb : Nat) (d : Int) (L : List (Value × List Int)) (w : World) : Prop where
  e : w.heap[eb]? = some (.cells #[vI 0, vI 1, vI d] 39)
  eH : w0.heap.size ≤ eb
  own : ∀ p ∈ L, OwnI w w0.heap.size p.1 p.2 ∧ p.1.ownBlock ≠ some eb
  ap : L.Pairwise fun p q => Apt p.1 q.1
  fr : Fr (fun _ => False) w0 w

section
variable {w0 w w' : World} {eb : Nat} {d : Int} {L : List (Value × List Int)}
theorem Bk.keep (h : Bk w0 eb d L w) (f : Fr (fun _ => False) w w') : Bk w0 eb d L w' where
  e := (f.block eb (heap_lt h.e) (fun e => e)).trans h.e
  eH := h.eH
  own := fun p hp => ⟨(h.own p hp).1.fr f (fun _ _ e => e), (h.own p hp).2⟩
  ap := h.ap
  fr := h.fr.trans f
theorem Bk.add (h : Bk w0 eb d L w) (f : Fr (fun _ => False) w w') {v : Value} {zs : List Int} (hv : OwnI w' w.heap.size v zs) : Bk w0 eb d (L ++ [(v, zs)]) w' := by
  have k := h.keep f
  refine { k with own := fun p hp => ?_, ap := ?_ }
  · rcases List.mem_append.1 hp with hp | hp
    · exact k.own p hp
    · simp at hp; subst hp
      exact ⟨World.ownsRow.mono hv h.fr.size, fun e => by have := (hv.ge eb e).1; have := heap_lt h.e; omega⟩
  · rw [List.pairwise_append]
    refine ⟨h.ap, by simp, fun p hp q hq j e1 e2 => ?_⟩
    simp at hq; subst hq
    have := ((h.own p hp).1.ge j e1).2
    have := (hv.ge j e2).1
    omega
theorem Bk.edges (h : Bk w0 eb d L w) : EdgesAt w.heap.size w (.slice (some ⟨eb, 0, none⟩) 1 1) [(0, 1, d)] := edges_lit w eb [(0, 1, d)] h.e
theorem Bk.turn {x : Value} {zs zs' : List Int} (h : Bk w0 eb d ((x, zs) :: L) w) (f : Fr (fun j => x.ownBlock = some j) w w') (hx : OwnI w' w0.heap.size x zs') : Bk w0 eb d ((x, zs') :: L) w' where
  e := (f.block eb (heap_lt h.e) (fun e => (h.own (x, zs) (by simp)).2 e)).trans h.e
  eH := h.eH
  own := fun p hp => by
    rcases List.mem_cons.1 hp with rfl | hp
    · exact ⟨hx, (h.own (x, zs) (by simp)).2⟩
    · exact ⟨(h.own p (List.mem_cons_of_mem _ hp)).1.fr f (fun j e e2 => (List.pairwise_cons.1 h.ap).1 p hp j e2 e), (h.own p (List.mem_cons_of_mem _ hp)).2⟩
  ap := by
    rw [List.pairwise_cons]
    exact ⟨(List.pairwise_cons.1 h.ap).1, (List.pairwise_cons.1 h.ap).2⟩
  fr := h.fr.then f (fun j hj e => by have := ((h.own (x, zs) (by simp)).1.ge j e).1; omega)
theorem Bk.drop {p : Value × List Int} (h : Bk w0 eb d (p :: L) w) : Bk w0 eb d L w :=
  { h with own := fun q hq => h.own q (List.mem_cons_of_mem _ hq), ap := (List.pairwise_cons.1 h.ap).2 }
end

theorem root_lit (w : World) : IntsAt (w.alloc (.cells #[vI 0] 3)).heap.size (w.alloc (.cells #[vI 0] 3)) (.slice (some ⟨w.heap.size, 0, none⟩) 1 1) [0] := ints_lit _ _ [0] (heap_alloc_last w _)
/-- From of the small graph, with the root laid down ahead. -/
theorem from_bk {w0 w : World} {eb : Nat} {d : Int} {L : List (Value × List Int)} (hd : d = 1 ∨ d = 2) (h : Bk w0 eb d L w) :
    Calls Try.prog 8 #[.int .i64 2, .slice (some ⟨eb, 0, none⟩) 1 1, .slice (some ⟨w.heap.size, 0, none⟩) 1 1] (w.alloc (.cells #[vI 0] 3)) fun e w' => ∃ v, e = .returned (.tuple #[v, vI 0]) ∧ Bk w0 eb d (L ++ [(v, [0, d])]) w' := by
  have h1 := h.keep ((Fr.refl _ w).alloc (.cells #[vI 0] 3))
  refine (from_as (fromR_two hd) _ _ _ h1.edges (root_lit w) (by simp) (by simp)).mono ?_
  rintro e w' ⟨v, rfl, hO, hF⟩
  exact ⟨v, rfl, h1.add hF hO⟩

theorem ownI_lit (w : World) (zs : List Int) (hz : zs.length ≤ 1048576) : OwnI (w.alloc (.cells (zs.map vI).toArray 3)) w.heap.size (.slice (some ⟨w.heap.size, 0, none⟩) zs.length zs.length) zs :=
  ⟨by simp, Or.inr ⟨w.heap.size, zs.length, _, rfl, Nat.le_refl _, heap_alloc_last w _, Nat.le_refl _, by unfold maxLen; omega, by simp, by simp [List.take_of_length_le]⟩⟩
theorem own_is {w : World} {B : Nat} {v : Value} {zs : List Int} (h : OwnI w B v zs) {n : Nat} (hn : zs.length = n) (hz : 0 < n) : ∃ g c, v = .slice (some ⟨g, 0, none⟩) n c := by
  subst hn
  rcases h.2 with ⟨h2, h3⟩ | ⟨g, cap', cur, e, h3⟩
  · omega
  · exact ⟨g, cap', e⟩
theorem setCell_fr' (w : World) (g k : Nat) (v : Value) (n cap : Nat) : Fr (fun j => (Value.slice (some ⟨g, 0, none⟩) n cap).ownBlock = some j) w (w.setCell ⟨g, k, none⟩ v) := Fr.setCell (Fr.refl _ w) _ _ (Or.inl rfl)

set_option maxRecDepth 100000 in
set_option maxHeartbeats 4000000 in
theorem booked_any (w : World) : Calls Try.prog 5 #[] w fun e w' => e = .returned (.bool true) ∧ Fr (fun _ => False) w w' := by
  have HB0 : Hd (Bk w w.heap.size 2 [] (w.alloc (.cells #[vI 0, vI 1, vI 2] 39))) := ⟨heap_alloc_last w _, Nat.le_refl _, fun p hp => by simp at hp, List.Pairwise.nil, (Fr.refl _ w).alloc _⟩
  have hsz : (w.alloc (.cells #[vI 0, vI 1, vI 2] 39)).heap.size = w.heap.size + 1 := by simp
  go_enter Try.func5, Try.ntmps5
  go_wp2_with fail
  obtain ⟨eb, heb⟩ : ∃ x, x = w.heap.size := ⟨_, rfl⟩
  rw [← heb] at HB0
  generalize hw0 : w.alloc (.cells #[vI 0, vI 1, vI 2] 39) = w0 at *
  rw [← hsz, ← heb]
  clear hsz hw0 heb
  refine (show Calls Try.prog 8 #[.int .i64 2, .slice (some ⟨eb, 0, none⟩) 1 1, .slice (some ⟨w0.heap.size, 0, none⟩) 1 1] (w0.alloc (.cells #[vI 0] 3)) _ from from_bk (Or.inr rfl) HB0.out).mono ?_
  rintro e w1 ⟨xv, rfl, h1⟩
  have HB1 : Hd (Bk w eb 2 [(xv, [0, 2])] w1) := h1
  clear h1 HB0
  go_wp2_with fail
  refine (show Calls Try.prog 8 #[.int .i64 2, .slice (some ⟨eb, 0, none⟩) 1 1, .slice (some ⟨w1.heap.size, 0, none⟩) 1 1] (w1.alloc (.cells #[vI 0] 3)) _ from from_bk (Or.inr rfl) HB1.out).mono ?_
  rintro e w2 ⟨yv, rfl, h1⟩
  have HB2 : Hd (Bk w eb 2 [(xv, [0, 2]), (yv, [0, 2])] w2) := h1
  clear h1 HB1
  go_wp2_with fail
  have hF3a : Fr (fun _ => False) w2 (w2.alloc (.cells #[vI 0] 3)) := (Fr.refl _ w2).alloc _
  have HB2a : Hd (Bk w eb 2 [(xv, [0, 2]), (yv, [0, 2])] (w2.alloc (.cells #[vI 0] 3))) := HB2.out.keep hF3a
  clear hF3a HB2
  refine (show Calls Try.prog 8 #[.int .i64 1, .slice none 0 0, .slice (some ⟨w2.heap.size, 0, none⟩) 1 1] (w2.alloc (.cells #[vI 0] 3)) _ from from_own 1 _ _ [] [0] _ ⟨none, 0, rfl, Nat.le_refl _, fun h => absurd rfl h⟩ (root_lit w2) (by simp) (by simp)).mono ?_
  rintro e w3 ⟨dv, dz, de, rfl, -, -, hF⟩
  have HB3 : Hd (Bk w eb 2 [(xv, [0, 2]), (yv, [0, 2])] w3) := HB2a.out.keep hF
  clear hF HB2a
  go_wp2_with fail
  refine (show Calls Try.prog 8 #[.int .i64 2, .slice (some ⟨eb, 0, none⟩) 1 1, .slice (some ⟨w3.heap.size, 0, none⟩) 1 1] (w3.alloc (.cells #[vI 0] 3)) _ from from_bk (Or.inr rfl) HB3.out).mono ?_
  rintro e w4 ⟨zv, rfl, h1⟩
  have HB4 : Hd (Bk w eb 2 [(xv, [0, 2]), (yv, [0, 2]), (zv, [0, 2])] w4) := h1
  clear h1 HB3
  have hF5 : Fr (fun _ => False) w4 (w4.alloc (.cells #[vI 0, vI 2] 3)) := (Fr.refl _ w4).alloc _
  have HB5 : Hd (Bk w eb 2 [(xv, [0, 2]), (yv, [0, 2]), (zv, [0, 2]), (.slice (some ⟨w4.heap.size, 0, none⟩) 2 2, [0, 2])] (w4.alloc (.cells #[vI 0, vI 2] 3))) := HB4.out.add hF5 (ownI_lit w4 [0, 2] (by simp))
  clear hF5 HB4
  go_wp2_with fail
  obtain ⟨uv, huv⟩ : ∃ uv, uv = Value.slice (some ⟨w4.heap.size, 0, none⟩) 2 2 := ⟨_, rfl⟩
  rw [← huv] at HB5 ⊢
  generalize w4.alloc (.cells #[vI 0, vI 2] 3) = w5 at *
  clear huv
  refine (show Calls Try.prog 9 #[xv, uv] w5 _ from eqInts_any _ _ [0, 2] [0, 2] w5 (HB5.out.own (xv, [0, 2]) (by simp)).1.at (HB5.out.own (uv, [0, 2]) (by simp)).1.at (by simp) (by simp)).mono ?_
  rintro e w6 ⟨rfl, hF⟩
  rw [decide_eq_true rfl]
  have HB6 : Hd (Bk w eb 2 [(xv, [0, 2]), (yv, [0, 2]), (zv, [0, 2]), (uv, [0, 2])] w6) := HB5.out.keep hF
  clear hF HB5
  go_wp2_with fail
  refine (show Calls Try.prog 9 #[yv, uv] w6 _ from eqInts_any _ _ [0, 2] [0, 2] w6 (HB6.out.own (yv, [0, 2]) (by simp)).1.at (HB6.out.own (uv, [0, 2]) (by simp)).1.at (by simp) (by simp)).mono ?_
  rintro e w7 ⟨rfl, hF⟩
  rw [decide_eq_true rfl]
  have HB7 : Hd (Bk w eb 2 [(xv, [0, 2]), (yv, [0, 2]), (zv, [0, 2]), (uv, [0, 2])] w7) := HB6.out.keep hF
  clear hF HB6
  go_wp2_with fail
  refine (show Calls Try.prog 9 #[zv, uv] w7 _ from eqInts_any _ _ [0, 2] [0, 2] w7 (HB7.out.own (zv, [0, 2]) (by simp)).1.at (HB7.out.own (uv, [0, 2]) (by simp)).1.at (by simp) (by simp)).mono ?_
  rintro e w8 ⟨rfl, hF⟩
  rw [decide_eq_true rfl]
  have HB8 : Hd (Bk w eb 2 [(xv, [0, 2]), (yv, [0, 2]), (zv, [0, 2]), (uv, [0, 2])] w8) := HB7.out.keep hF
  clear hF HB7
  obtain ⟨xg, xc, rfl⟩ := own_is (n := 2) (HB8.out.own (xv, [0, 2]) (by simp)).1 rfl (by omega)
  go_wp2_with fail
  go_loopw [10] (fun v wr => ∃ (k : Nat) (Z : List Int), v = .int .i64 k ∧ k ≤ 2 ∧ Hd (Z.length = 2) ∧ Hd (Bk w eb 2 [(.slice (some ⟨xg, 0, none⟩) 2 xc, Z), (yv, [0, 2]), (zv, [0, 2]), (uv, [0, 2])] wr)) (fun v _ => match v with | .int _ q => 2 - q.toNat | _ => 0)
  case atStart => exact ⟨0, [0, 2], rfl, Nat.zero_le _, rfl, HB8.out⟩
  case round =>
    clear HB8
    obtain ⟨k, Z, rfl, hk, HZ, HB⟩ := hrel
    by_cases hlt : k < 2
    · have hO := (HB.out.own (.slice (some ⟨xg, 0, none⟩) 2 xc, Z) (by simp)).1
      obtain ⟨z, hz0, p0, hz⟩ := hO.cells HZ.out hlt
      have z0 := hz k
      have HB1 : Hd _ := HB.out.turn (setCell_fr' wr xg k (vI 77) 2 xc) (hO.set HZ.out k 77)
      have hk0 : (0 : Int) ≤ k := by omega
      have hk1 : (k : Int) < 2 := by omega
      clear hz hz0 hO
      go_wp2_with fail
      exact ⟨⟨k + 1, _, by simp, by omega, by unfold Hd; rw [List.length_set]; exact HZ.out, HB1.out⟩, by simp; omega⟩
    · have hke : k = 2 := by omega
      subst hke
      generalize wr = w8 at *
      have HB8 : Hd (Bk w eb 2 [(yv, [0, 2]), (zv, [0, 2]), (uv, [0, 2])] w8) := HB.out.drop
      clear HB
      go_wp2_with fail
      refine (show Calls Try.prog 9 #[yv, uv] w8 _ from eqInts_any _ _ [0, 2] [0, 2] w8 (HB8.out.own (yv, [0, 2]) (by simp)).1.at (HB8.out.own (uv, [0, 2]) (by simp)).1.at (by simp) (by simp)).mono ?_
      rintro e w9 ⟨rfl, hF⟩
      rw [decide_eq_true rfl]
      have HB9 : Hd (Bk w eb 2 [(yv, [0, 2]), (zv, [0, 2]), (uv, [0, 2])] w9) := HB8.out.keep hF
      clear hF HB8
      go_wp2_with fail
      refine (show Calls Try.prog 9 #[zv, uv] w9 _ from eqInts_any _ _ [0, 2] [0, 2] w9 (HB9.out.own (zv, [0, 2]) (by simp)).1.at (HB9.out.own (uv, [0, 2]) (by simp)).1.at (by simp) (by simp)).mono ?_
      rintro e w10 ⟨rfl, hF⟩
      rw [decide_eq_true rfl]
      have HB10 : Hd (Bk w eb 2 [(yv, [0, 2]), (zv, [0, 2]), (uv, [0, 2])] w10) := HB9.out.keep hF
      clear hF HB9
      obtain ⟨yg, yc, rfl⟩ := own_is (n := 2) (HB10.out.own (yv, [0, 2]) (by simp)).1 rfl (by omega)
      go_wp2_with fail
      go_loopw [12] (fun v wr => ∃ (k : Nat) (Z : List Int), v = .int .i64 k ∧ k ≤ 2 ∧ Hd (Z.length = 2) ∧ Hd (Bk w eb 2 [(.slice (some ⟨yg, 0, none⟩) 2 yc, Z), (zv, [0, 2]), (uv, [0, 2])] wr)) (fun v _ => match v with | .int _ q => 2 - q.toNat | _ => 0)
      case atStart => exact ⟨0, [0, 2], rfl, Nat.zero_le _, rfl, HB10.out⟩
      case round =>
        clear HB10
        obtain ⟨k, Z, rfl, hk, HZ, HB⟩ := hrel
        by_cases hlt : k < 2
        · have hO := (HB.out.own (.slice (some ⟨yg, 0, none⟩) 2 yc, Z) (by simp)).1
          obtain ⟨z, hz0, p0, hz⟩ := hO.cells HZ.out hlt
          have z0 := hz k
          have HB1 : Hd _ := HB.out.turn (setCell_fr' wr yg k (vI 78) 2 yc) (hO.set HZ.out k 78)
          have hk0 : (0 : Int) ≤ k := by omega
          have hk1 : (k : Int) < 2 := by omega
          clear hz hz0 hO
          go_wp2_with fail
          exact ⟨⟨k + 1, _, by simp, by omega, by unfold Hd; rw [List.length_set]; exact HZ.out, HB1.out⟩, by simp; omega⟩
        · have hke : k = 2 := by omega
          subst hke
          generalize wr = w10 at *
          have HB10 : Hd (Bk w eb 2 [(zv, [0, 2]), (uv, [0, 2])] w10) := HB.out.drop
          clear HB
          go_wp2_with fail
          refine (show Calls Try.prog 9 #[zv, uv] w10 _ from eqInts_any _ _ [0, 2] [0, 2] w10 (HB10.out.own (zv, [0, 2]) (by simp)).1.at (HB10.out.own (uv, [0, 2]) (by simp)).1.at (by simp) (by simp)).mono ?_
          rintro e w11 ⟨rfl, hF⟩
          rw [decide_eq_true rfl]
          have HB11 : Hd (Bk w eb 2 [(zv, [0, 2]), (uv, [0, 2])] w11) := HB10.out.keep hF
          clear hF HB10
          have p2 : w11.cell? ⟨eb, 2, none⟩ = some (vI 2) := by rw [cell_of HB11.out.e]; rfl
          have z2 := frozen_of HB11.out.e 2
          have HB12 : Hd (Bk w eb 1 [] (w11.setCell ⟨eb, 2, none⟩ (vI 1))) := ⟨set_of HB11.out.e 2 (vI 1), HB11.out.eH, fun p hp => by simp at hp, List.Pairwise.nil, HB11.out.fr.setCell _ _ (Or.inr HB11.out.eH)⟩
          clear HB11
          go_wp2_with fail
          have hs12 : w11.heap.size = (w11.setCell ⟨eb, 2, none⟩ (vI 1)).heap.size := by simp
          rw [hs12]
          clear hs12 p2 z2
          generalize w11.setCell ⟨eb, 2, none⟩ (vI 1) = w12 at *
          refine (show Calls Try.prog 8 #[.int .i64 2, .slice (some ⟨eb, 0, none⟩) 1 1, .slice (some ⟨w12.heap.size, 0, none⟩) 1 1] (w12.alloc (.cells #[vI 0] 3)) _ from from_bk (Or.inl rfl) HB12.out).mono ?_
          rintro e w13 ⟨av, rfl, h1⟩
          have HB13 : Hd (Bk w eb 1 [(av, [0, 1])] w13) := h1
          clear h1 HB12
          have hF5 : Fr (fun _ => False) w13 (w13.alloc (.cells #[vI 0, vI 1] 3)) := (Fr.refl _ w13).alloc _
          have HB14 : Hd (Bk w eb 1 [(av, [0, 1]), (.slice (some ⟨w13.heap.size, 0, none⟩) 2 2, [0, 1])] (w13.alloc (.cells #[vI 0, vI 1] 3))) := HB13.out.add hF5 (ownI_lit w13 [0, 1] (by simp))
          clear hF5 HB13
          go_wp2_with fail
          obtain ⟨bv, hbv⟩ : ∃ bv, bv = Value.slice (some ⟨w13.heap.size, 0, none⟩) 2 2 := ⟨_, rfl⟩
          rw [← hbv] at HB14 ⊢
          generalize w13.alloc (.cells #[vI 0, vI 1] 3) = w14 at *
          clear hbv
          refine (show Calls Try.prog 9 #[av, bv] w14 _ from eqInts_any _ _ [0, 1] [0, 1] w14 (HB14.out.own (av, [0, 1]) (by simp)).1.at (HB14.out.own (bv, [0, 1]) (by simp)).1.at (by simp) (by simp)).mono ?_
          rintro e w15 ⟨rfl, hF⟩
          rw [decide_eq_true rfl]
          have HF15 : Hd (Fr (fun _ => False) w w15) := HB14.out.fr.trans hF
          clear hF HB14
          go_wp2_with fail
          go_ret
          exact ⟨rfl, HF15.out⟩

end Go.Proofs.Ytcjfmfddkhpfnab
