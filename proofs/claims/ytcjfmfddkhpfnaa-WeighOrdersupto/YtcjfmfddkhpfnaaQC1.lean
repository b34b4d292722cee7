import Derived.Test.YtcjfmfddkhpfnaaQC0J
import Derived.Deep.DeepCutAuto
import Derived.Deep.Onto
namespace Go.Proofs.Ytcjfmfddkhpfnaa
open Go.RowKit (wrap32 wrap64)
set_option linter.unusedVariables false
set_option linter.unusedSimpArgs false

set_option maxRecDepth 100000 in
set_option maxHeartbeats 4000000 in
theorem right_law (l : Int) (ev rv : Value) (es : List Ed) (rs : List Int) (w : World) (hE : EdgesAt w.heap.size w ev es) (hR : IntsAt w.heap.size w rv rs) (hel : es.length ≤ 5864062014634) (hrl : rs.length ≤ 17592186043904) :
    Calls Try.prog 14 #[.agg #[vI l, ev, rv]] w (RgEnds w (rN l) (es.map (rE (rN l))) (rs.map (rR (rN l)))) := by
  obtain ⟨ea, ec, rfl, -, hein⟩ := hE
  obtain ⟨ra, rc, rfl, -, hrin⟩ := hR
  have HE : Hd _ := hein
  have HR : Hd _ := hrin
  clear hein hrin
  obtain ⟨i27, hi27, hz27, hs27, hb27⟩ := info_parts (P := Try.prog) (e := 27) (z := .agg #[vI 0, vI 0, vI 0]) (size := 3) (bytes := 24) (by kernel_rfl)
  obtain ⟨i3, hi3, hz3, hs3, hb3⟩ := info_parts (P := Try.prog) (e := 3) (z := .int .i64 0) (size := 1) (bytes := 8) (by kernel_rfl)
  have hm40 : ∀ v : World, Calls Try.prog 10 #[vI l, .int .i64 40] v fun e w' => e = .returned (vI (l % 40)) ∧ w' = v := fun v => mod_any l 40 (by omega) (by omega) v
  have hn40 := rN_is l
  generalize rN l = n at *
  obtain ⟨hnl, hn1, hn2⟩ := hn40
  have hq40 : l % 40 + 1 = (n : Int) := hnl.symm
  have hw40 : wrap64 (1 + l % 40) = n := by unfold wrap64; omega
  have hw40' : (1 : Int) + l % 40 = n := by omega
  clear hnl
  have hm5 : ∀ (x : Int) (v : World), Calls Try.prog 10 #[vI x, .int .i64 5] v fun e w' => e = .returned (vI (x % 5)) ∧ w' = v := fun x v => mod_any x 5 (by omega) (by omega) v
  have hmn : ∀ (x : Int) (v : World), Calls Try.prog 10 #[vI x, .int .i64 n] v fun e w' => e = .returned (vI (x % n)) ∧ w' = v := fun x v => mod_any x n (by omega) (by omega) v
  have HM5 : Hd _ := hm5
  have HMN : Hd _ := hmn
  clear hm5 hmn
  go_enter Try.func14, Try.ntmps14
  go_wp2_with fail
  refine (hm40 _).mono ?_
  rintro e w1 ⟨rfl, rfl⟩
  have HB0 : Hd (Rg w (((w.alloc (.cells #[vI l, .slice ea es.length ec, .slice ra rs.length rc] 34)).alloc (.cells #[vI 0, .slice none 0 0, .slice none 0 0] 34)).alloc (.cells #[vI n, .slice none 0 0, .slice none 0 0] 34)) w.heap.size (w.heap.size + 1) (w.heap.size + 1 + 1) l (.slice ea es.length ec) (.slice ra rs.length rc) n (.slice none 0 0) (.slice none 0 0) [] []) := by
    refine ⟨?_, ?_, ?_, OwnE.nil _ _, OwnI.nil _ _, Apt.nil _, by omega, ((Fr.refl _ w).alloc _ |>.alloc _).alloc _⟩
    · exact ((((Fr.refl (fun _ => False) _).alloc _).alloc _).block _ (heap_lt (heap_alloc_last w _)) (fun h => h)).trans (heap_alloc_last w _)
    · have h1 := heap_alloc_last (w.alloc (.cells #[vI l, .slice ea es.length ec, .slice ra rs.length rc] 34)) (.cells #[vI 0, .slice none 0 0, .slice none 0 0] 34)
      rw [show (w.alloc (.cells #[vI l, .slice ea es.length ec, .slice ra rs.length rc] 34)).heap.size = w.heap.size + 1 by simp] at h1
      exact (((Fr.refl (fun _ => False) _).alloc _).block _ (heap_lt h1) (fun h => h)).trans h1
    · have h1 := heap_alloc_last ((w.alloc (.cells #[vI l, .slice ea es.length ec, .slice ra rs.length rc] 34)).alloc (.cells #[vI 0, .slice none 0 0, .slice none 0 0] 34)) (.cells #[vI n, .slice none 0 0, .slice none 0 0] 34)
      rw [show ((w.alloc (.cells #[vI l, .slice ea es.length ec, .slice ra rs.length rc] 34)).alloc (.cells #[vI 0, .slice none 0 0, .slice none 0 0] 34)).heap.size = w.heap.size + 1 + 1 by simp] at h1
      exact h1
  go_wp2_with fail
  obtain ⟨gb, hgb⟩ : ∃ x, x = w.heap.size := ⟨_, rfl⟩
  obtain ⟨rb, hrb⟩ : ∃ x, x = w.heap.size + 1 := ⟨_, rfl⟩
  obtain ⟨hb, hhb⟩ : ∃ x, x = w.heap.size + 1 + 1 := ⟨_, rfl⟩
  rw [← hhb, ← hrb] at HB0 ⊢
  rw [← hgb] at HB0 ⊢
  have HGB : Hd (gb = w.heap.size ∧ rb = w.heap.size + 1 ∧ hb = w.heap.size + 1 + 1) := ⟨hgb, hrb, hhb⟩
  clear hgb hrb hhb hm40 hw40 hw40' hq40
  go_loopw [5] (fun v wr => ∃ (k : Nat) (hev : Value), v = .int .i64 k ∧ k ≤ es.length ∧ Hd (Rg w wr gb rb hb l (.slice ea es.length ec) (.slice ra rs.length rc) n hev (.slice none 0 0) ((es.map (rE n)).take k) [])) (fun v _ => match v with | .int _ q => es.length - q.toNat | _ => 0)
  case atStart => exact ⟨0, _, rfl, Nat.zero_le _, HB0.out⟩
  case round =>
    obtain ⟨k, hev, rfl, hk, HB⟩ := hrel
    clear HB0
    have c1 : wr.cell? ⟨gb, 1, none⟩ = some (.slice ea es.length ec) := by rw [cell_of HB.out.g]; rfl
    by_cases hlt : k < es.length
    · obtain ⟨pk, po, rfl, hpk, hcs⟩ := HE.out (by intro e; simp [e] at hlt)
      obtain ⟨d0, d1, d2⟩ := hcs k hlt
      have p0 := (HB.out.fr.cell (o := po + k * 3) hpk (fun h => h)).trans d0
      have p1 := (HB.out.fr.cell (o := po + k * 3 + 1) hpk (fun h => h)).trans d1
      have p2 := (HB.out.fr.cell (o := po + k * 3 + 2) hpk (fun h => h)).trans d2
      clear hcs d0 d1 d2
      have HT : Hd ((es.map (rE n)).take (k + 1) = (es.map (rE n)).take k ++ [rE n es[k]]) := by
        unfold Hd; rw [List.take_add_one, List.getElem?_map, List.getElem?_eq_getElem hlt]; rfl
      have HTL : Hd (((es.map (rE n)).take k).length = k) := by unfold Hd; rw [List.length_take, List.length_map]; omega
      obtain ⟨e, he⟩ : ∃ e, es[k] = e := ⟨_, rfl⟩
      rw [he] at p0 p1 p2 HT
      clear he
      obtain ⟨e0, e1, e2⟩ := e
      simp only at p0 p1 p2
      obtain ⟨E, hE⟩ : ∃ E, E = (es.map (rE n)).take k := ⟨_, rfl⟩
      rw [← hE] at HB HT HTL
      clear hE
      have HRE : Hd (rE n (e0, e1, e2) = (e0 % n, e1 % n, e2 % 5 - 1)) := rfl
      have hk0 : (0 : Int) ≤ k := by omega
      have hk1 : (k : Int) < es.length := by omega
      have h5a : IntKind.i64.wrap (e2 % 5 - 1) = e2 % 5 - 1 := by simp [IntKind.wrap, IntKind.bits, IntKind.signed]; omega
      have HBA : Hd _ := HB.out.keep ((Fr.refl _ wr).alloc (.cells #[vI e0, vI e1, vI e2] 27))
      have HV0 : Hd _ := heap_alloc_last wr (.cells #[vI e0, vI e1, vI e2] 27)
      go_upto_region 7 with fail
      obtain ⟨vb, hvb⟩ : ∃ vb, vb = wr.heap.size := ⟨_, rfl⟩
      rw [← hvb] at HV0 ⊢
      have HNV : Hd (hev.ownBlock ≠ some vb) := fun e => by have := (HB.out.oe.ge vb e).2; omega
      have hvh : vb ≠ hb := by have := heap_lt HB.out.h; omega
      have hvh' : hb ≠ vb := fun e => hvh e.symm
      clear hvb p0 p1 p2 HB c1
      generalize wr.alloc (.cells #[vI e0, vI e1, vI e2] 27) = wa at *
      have b0 : wa.cell? ⟨vb, 0, none⟩ = some (vI e0) := by rw [cell_of HV0.out]; rfl
      have b1 : wa.cell? ⟨vb, 1, none⟩ = some (vI e1) := by rw [cell_of HV0.out]; rfl
      have b2 : wa.cell? ⟨vb, 2, none⟩ = some (vI e2) := by rw [cell_of HV0.out]; rfl
      have h1 : wa.cell? ⟨hb, 1, none⟩ = some hev := by rw [cell_of HBA.out.h]; rfl
      have HBD : Hd (Rg w (wa.alloc (.cells #[vI (e0 % (n : Int)), vI (e1 % (n : Int)), vI (e2 % 5 - 1)] 27)).drew gb rb hb l (.slice (some ⟨pk, po, none⟩) es.length ec) (.slice ra rs.length rc) n hev (.slice none 0 0) E []) := HBA.out.keep (((Fr.refl _ wa).alloc _).drew)
      have hnews : ∀ j u, [vI (e0 % (n : Int)), vI (e1 % (n : Int)), vI (e2 % 5 - 1)][j]? = some u → (wa.alloc (.cells #[vI (e0 % (n : Int)), vI (e1 % (n : Int)), vI (e2 % 5 - 1)] 27)).drew.cell? ((⟨wa.heap.size, 0, none⟩ : Addr).add j) = some u :=
        World.news_of_block (w := (wa.alloc (.cells #[vI (e0 % (n : Int)), vI (e1 % (n : Int)), vI (e2 % 5 - 1)] 27)).drew) (cs := #[vI (e0 % (n : Int)), vI (e1 % (n : Int)), vI (e2 % 5 - 1)]) (heap_alloc_last wa (.cells #[vI (e0 % (n : Int)), vI (e1 % (n : Int)), vI (e2 % 5 - 1)] 27))
      have hone : ∀ u ∈ [vI (e0 % (n : Int)), vI (e1 % (n : Int)), vI (e2 % 5 - 1)], u.oneCell' = true := by intro u hu; simp at hu; rcases hu with rfl | rfl | rfl <;> rfl
      have hbase : hb + 1 ≤ (wa.alloc (.cells #[vI (e0 % (n : Int)), vI (e1 % (n : Int)), vI (e2 % 5 - 1)] 27)).drew.heap.size := by have := heap_lt HBA.out.h; simp; omega
      have hw1 : (wa.alloc (.cells #[vI (e0 % (n : Int)), vI (e1 % (n : Int)), vI (e2 % 5 - 1)] 27)).drew.heap.size = wa.heap.size + 1 := by simp
      have hEl : E.length + 1 ≤ 5864062014634 := by have := HTL.out; omega
      have hmx : E.length + 1 ≤ maxLen := by unfold maxLen; omega
      have HROW : Hd _ := HBD.out.oe
      have HKEY : Hd (∀ g6 cap w6, w6.ownsRow (hb + 1) 27 3 (.slice (some ⟨g6, 0, none⟩) (E.length + 1) cap) (E.length + 1) (eCells E ++ [vI (e0 % (n : Int)), vI (e1 % (n : Int)), vI (e2 % 5 - 1)]) → (wa.alloc (.cells #[vI (e0 % (n : Int)), vI (e1 % (n : Int)), vI (e2 % 5 - 1)] 27)).drew.grownBy w6 hev.ownBlock → (hev.ownBlock = some g6 ∨ g6 = wa.heap.size + 1) →
          (w6.cell? ⟨hb, 1, none⟩ = some hev ∧ w6.frozen? ⟨hb, 1, none⟩ = false) ∧ Rg w (w6.setCell ⟨hb, 1, none⟩ (.slice (some ⟨g6, 0, none⟩) (E.length + 1) cap)) gb rb hb l (.slice (some ⟨pk, po, none⟩) es.length ec) (.slice ra rs.length rc) n (.slice (some ⟨g6, 0, none⟩) (E.length + 1) cap) (.slice none 0 0) (E ++ [(e0 % (n : Int), e1 % (n : Int), e2 % 5 - 1)]) []) := by
        intro g6 cap w6 ho hg ha
        obtain ⟨q1, q2⟩ := HBD.out.growE (e := (e0 % (n : Int), e1 % (n : Int), e2 % 5 - 1)) ho hg ha (by rw [hw1]; exact Nat.le_refl _)
        exact ⟨⟨by rw [cell_of q1]; rfl, frozen_of q1 1⟩, q2⟩
      clear HBA HBD HV0
      have h1' : (wa.alloc (.cells #[vI (e0 % (n : Int)), vI (e1 % (n : Int)), vI (e2 % 5 - 1)] 27)).drew.cell? ⟨hb, 1, none⟩ = some hev := by
        have f : Fr (fun _ => False) wa (wa.alloc (.cells #[vI (e0 % (n : Int)), vI (e1 % (n : Int)), vI (e2 % 5 - 1)] 27)).drew := ((Fr.refl _ wa).alloc _).drew
        exact (f.cell (World.block_lt_of_cell? wa _ h1) (fun h => h)).trans h1
      have HS0 : (fun w' : World => w'.cell? ⟨vb, 0, none⟩ = some (vI e0) ∧ w'.cell? ⟨vb, 1, none⟩ = some (vI e1) ∧ w'.cell? ⟨vb, 2, none⟩ = some (vI e2) ∧ w'.cell? ⟨hb, 1, none⟩ = some hev) wa.drew := ⟨b0, b1, b2, h1⟩
      refine wp_region_T (S := fun w' : World => w'.cell? ⟨vb, 0, none⟩ = some (vI e0) ∧ w'.cell? ⟨vb, 1, none⟩ = some (vI e1) ∧ w'.cell? ⟨vb, 2, none⟩ = some (vI e2) ∧ w'.cell? ⟨hb, 1, none⟩ = some hev) (t := 18) mixed ?_
      refine wpAnyT_takeAt (i := 0) 26 (v := ?_) rfl rfl (by kernel_rfl) (by kernel_rfl) (by kernel_rfl) (by kernel_rfl) (fun _ _ _ h => h) (Or.inl ⟨by rfl, fun w hSw => (by obtain ⟨q0, q1, q2, q3⟩ := hSw; go_simp; try with_reducible rfl)⟩) HS0 ?_
      simp only [Act.put, List.setIfInBounds_toArray, List.set_cons_zero, List.set_cons_succ]
      refine wpAnyT_takeAt (i := 1) 27 (v := ?_) rfl rfl (by kernel_rfl) (by kernel_rfl) (by kernel_rfl) (by kernel_rfl) (fun _ _ _ h => h) (Or.inl ⟨by rfl, fun w hSw => (by obtain ⟨q0, q1, q2, q3⟩ := hSw; go_simp; try with_reducible rfl)⟩) HS0 ?_
      simp only [Act.put, List.setIfInBounds_toArray, List.set_cons_zero, List.set_cons_succ]
      refine wpAnyT_takeAt (i := 2) 28 (v := ?_) rfl rfl (by kernel_rfl) (by kernel_rfl) (by kernel_rfl) (by kernel_rfl) (fun _ _ _ h => h) (Or.inl ⟨by rfl, fun w hSw => (by obtain ⟨q0, q1, q2, q3⟩ := hSw; go_simp; try with_reducible rfl)⟩) HS0 ?_
      simp only [Act.put, List.setIfInBounds_toArray, List.set_cons_zero, List.set_cons_succ]
      refine wpAnyT_takeAt (i := 3) 29 (v := ?_) rfl rfl (by kernel_rfl) (by kernel_rfl) (by kernel_rfl) (by kernel_rfl) (fun _ _ _ h => h) (Or.inl ⟨by rfl, fun w hSw => (by obtain ⟨q0, q1, q2, q3⟩ := hSw; go_simp; try with_reducible rfl)⟩) HS0 ?_
      simp only [Act.put, List.setIfInBounds_toArray, List.set_cons_zero, List.set_cons_succ]
      refine wpAnyT_takeAt (i := 4) 30 (v := ?_) rfl rfl (by kernel_rfl) (by kernel_rfl) (by kernel_rfl) (by kernel_rfl) (fun _ _ _ h => h) (Or.inl ⟨by rfl, fun w hSw => (by obtain ⟨q0, q1, q2, q3⟩ := hSw; go_simp; try with_reducible rfl)⟩) HS0 ?_
      simp only [Act.put, List.setIfInBounds_toArray, List.set_cons_zero, List.set_cons_succ]
      refine wpAnyT_takeAt (i := 6) 32 (v := ?_) rfl rfl (by kernel_rfl) (by kernel_rfl) (by kernel_rfl) (by kernel_rfl) (fun _ _ _ h => h) (Or.inl ⟨by rfl, fun w hSw => (by obtain ⟨q0, q1, q2, q3⟩ := hSw; go_simp; try with_reducible rfl)⟩) HS0 ?_
      simp only [Act.put, List.setIfInBounds_toArray, List.set_cons_zero, List.set_cons_succ]
      refine wpAnyT_takeAt (i := 7) 33 (v := ?_) rfl rfl (by kernel_rfl) (by kernel_rfl) (by kernel_rfl) (by kernel_rfl) (fun _ _ _ h => h) (Or.inl ⟨by rfl, fun w hSw => (by obtain ⟨q0, q1, q2, q3⟩ := hSw; go_simp; try with_reducible rfl)⟩) HS0 ?_
      simp only [Act.put, List.setIfInBounds_toArray, List.set_cons_zero, List.set_cons_succ]
      refine wpAnyT_takeAt (i := 8) 34 (v := ?_) rfl rfl (by kernel_rfl) (by kernel_rfl) (by kernel_rfl) (by kernel_rfl) (fun _ _ _ h => h) (Or.inl ⟨by rfl, fun w hSw => (by obtain ⟨q0, q1, q2, q3⟩ := hSw; go_simp; try with_reducible rfl)⟩) HS0 ?_
      simp only [Act.put, List.setIfInBounds_toArray, List.set_cons_zero, List.set_cons_succ]
      refine wpAnyT_takeAt (i := 10) 36 (v := ?_) rfl rfl (by kernel_rfl) (by kernel_rfl) (by kernel_rfl) (by kernel_rfl) (fun _ _ _ h => h) (Or.inl ⟨by rfl, fun w hSw => (by obtain ⟨q0, q1, q2, q3⟩ := hSw; go_simp; try with_reducible rfl)⟩) HS0 ?_
      simp only [Act.put, List.setIfInBounds_toArray, List.set_cons_zero, List.set_cons_succ]
      refine wpAnyT_takeAt (i := 11) 37 (v := ?_) rfl rfl (by kernel_rfl) (by kernel_rfl) (by kernel_rfl) (by kernel_rfl) (fun _ _ _ h => h) (Or.inl ⟨by rfl, fun w hSw => (by obtain ⟨q0, q1, q2, q3⟩ := hSw; go_simp; try with_reducible rfl)⟩) HS0 ?_
      simp only [Act.put, List.setIfInBounds_toArray, List.set_cons_zero, List.set_cons_succ]
      refine wpAnyT_one (i := 5) rfl (by kernel_rfl) ?_
      intro K' HK
      go_simp
      refine (mod_int _ _ (by omega) (by omega) _).mono ?_
      rintro e w2 ⟨rfl, rfl⟩
      refine HK.out _ _ (fun _ => HS0) ?_
      clear HK
      refine wpAnyT_one (i := 9) rfl (by kernel_rfl) ?_
      intro K' HK
      go_simp
      refine (mod_int _ _ (by omega) (by omega) _).mono ?_
      rintro e w2 ⟨rfl, rfl⟩
      refine HK.out _ _ (fun _ => HS0) ?_
      clear HK
      refine wpAnyT_one (i := 12) rfl (by kernel_rfl) ?_
      intro K' HK
      go_simp
      refine (mod_int _ _ (by omega) (by omega) _).mono ?_
      rintro e w2 ⟨rfl, rfl⟩
      refine HK.out _ _ (fun _ => HS0) ?_
      clear HK
      refine wpAnyT_takeAt (i := 13) 39 (v := ?_) rfl rfl (by kernel_rfl) (by kernel_rfl) (by kernel_rfl) (by kernel_rfl) (fun _ _ _ h => h) (Or.inl ⟨by rfl, fun w hSw => (by obtain ⟨q0, q1, q2, q3⟩ := hSw; go_simp; try with_reducible rfl)⟩) HS0 ?_
      simp only [Act.put, List.setIfInBounds_toArray, List.set_cons_zero, List.set_cons_succ]
      refine wpAnyT_takeAt (i := 14) 40 (v := ?_) rfl rfl (by kernel_rfl) (by kernel_rfl) (by kernel_rfl) (by kernel_rfl) (fun _ _ _ h => h) (Or.inl ⟨by rfl, fun w hSw => (by obtain ⟨q0, q1, q2, q3⟩ := hSw; go_simp; try with_reducible rfl)⟩) HS0 ?_
      simp only [Act.put, List.setIfInBounds_toArray, List.set_cons_zero, List.set_cons_succ]
      refine wpAnyT_one (i := 15) rfl (by kernel_rfl) ?_
      intro K' HK
      go_simp
      have HS1 : (fun w' : World => w'.cell? ⟨vb, 0, none⟩ = some (vI e0) ∧ w'.cell? ⟨vb, 1, none⟩ = some (vI e1) ∧ w'.cell? ⟨vb, 2, none⟩ = some (vI e2) ∧ w'.cell? ⟨hb, 1, none⟩ = some hev) (wa.alloc (.cells #[vI (e0 % (n : Int)), vI (e1 % (n : Int)), vI (e2 % 5 - 1)] 27)).drew := by
        have f : Fr (fun _ => False) wa (wa.alloc (.cells #[vI (e0 % (n : Int)), vI (e1 % (n : Int)), vI (e2 % 5 - 1)] 27)).drew := ((Fr.refl _ wa).alloc _).drew
        have hvl : vb < wa.heap.size := World.block_lt_of_cell? wa _ b0
        exact ⟨(f.cell hvl (fun h => h)).trans b0, (f.cell hvl (fun h => h)).trans b1, (f.cell hvl (fun h => h)).trans b2, h1'⟩
      refine HK.out _ _ (fun _ => HS1) ?_
      clear HK
      refine wpAnyT_one (i := 16) rfl (by kernel_rfl) ?_
      intro K' HK
      refine step_append_lies _ rfl (.tmp 27) (.tmp 41) 24 rfl (hb + 1) 27 i27 (.agg #[vI 0, vI 0, vI 0]) 3 24 under24 hi27 hz27 hs27 hb27 rfl (by omega) hev E.length _ (by simp [Act.eval, Act.put]) HROW.out ⟨wa.heap.size, 0, none⟩ 1 1 [vI (e0 % (n : Int)), vI (e1 % (n : Int)), vI (e2 % 5 - 1)] (by simp [Act.eval, Act.put]) rfl hnews hone (by omega) hmx (by omega) hbase (wa.heap.size + 1) hw1 ?_
      intro g6 cap6 w6 hown6 hgrow6 hat6 hlt6
      obtain ⟨⟨t1, y1⟩, hkey⟩ := HKEY.out g6 cap6 w6 hown6 hgrow6 hat6
      have HS2 : (fun w' : World => w'.cell? ⟨vb, 0, none⟩ = some (vI e0) ∧ w'.cell? ⟨vb, 1, none⟩ = some (vI e1) ∧ w'.cell? ⟨vb, 2, none⟩ = some (vI e2) ∧ w'.cell? ⟨hb, 1, none⟩ = some hev) w6 := by
        have f : Fr (fun _ => False) wa (wa.alloc (.cells #[vI (e0 % (n : Int)), vI (e1 % (n : Int)), vI (e2 % 5 - 1)] 27)).drew := ((Fr.refl _ wa).alloc _).drew
        have hvl : vb < wa.heap.size := World.block_lt_of_cell? wa _ b0
        have k6 : ∀ o, w6.cell? ⟨vb, o, none⟩ = wa.cell? ⟨vb, o, none⟩ := fun o => ((grown_fr hgrow6).cell (Nat.lt_of_lt_of_le hvl f.size) HNV.out).trans (f.cell hvl (fun h => h))
        exact ⟨(k6 0).trans b0, (k6 1).trans b1, (k6 2).trans b2, t1⟩
      have HB3 : Hd (Rg w (w6.setCell ⟨hb, 1, none⟩ (.slice (some ⟨g6, 0, none⟩) (E.length + 1) cap6)) gb rb hb l (.slice (some ⟨pk, po, none⟩) es.length ec) (.slice ra rs.length rc) n (.slice (some ⟨g6, 0, none⟩) (E.length + 1) cap6) (.slice none 0 0) ((es.map (rE n)).take (k + 1)) []) := by
        unfold Hd; rw [HT.out, show rE n (e0, e1, e2) = (e0 % (n : Int), e1 % (n : Int), e2 % 5 - 1) from HRE.out]; exact hkey
      clear hown6 hgrow6 hat6 hlt6 hkey
      refine HK.out _ _ (fun _ => HS2) ?_
      clear HK
      simp only [Act.put, List.setIfInBounds_toArray, List.set_cons_zero, List.set_cons_succ]
      refine wpAnyT_takeAt (i := 17) 43 (v := ?_) rfl rfl (by kernel_rfl) (by kernel_rfl) (by kernel_rfl) (by kernel_rfl) (fun _ _ _ h => h) (Or.inl ⟨by rfl, fun w hSw => (by obtain ⟨q0, q1, q2, q3⟩ := hSw; go_simp; try with_reducible rfl)⟩) HS2 ?_
      simp only [Act.put, List.setIfInBounds_toArray, List.set_cons_zero, List.set_cons_succ]
      refine wpAnyT_one (i := 18) rfl (by kernel_rfl) ?_
      intro K' HK
      go_simp
      refine HK.out _ _ (fun h => absurd rfl h) ?_
      refine wpAnyT_done (by kernel_rfl) ?_ _
      clear HK HKEY HROW hnews hone hbase hw1 b0 b1 b2 h1 h5a h1' HS0 HS1 HS2 t1 y1
      go_wp2_with fail
      refine ⟨⟨k + 1, _, by simp, by omega, HB3.out⟩, by simp; omega⟩
    · have hke : k = es.length := by omega
      have HB1 : Hd (Rg w wr gb rb hb l (.slice ea es.length ec) (.slice ra rs.length rc) n hev (.slice none 0 0) (es.map (rE n)) ((rs.map (rR n)).take 0)) := by
        have := HB.out
        rw [hke, List.take_of_length_le (by simp)] at this
        exact this
      clear HB
      subst hke
      go_wp2_with fail
      clear c1
      go_loopw [7] (fun v wr => ∃ (k : Nat) (hrv : Value), v = .int .i64 k ∧ k ≤ rs.length ∧ Hd (Rg w wr gb rb hb l (.slice ea es.length ec) (.slice ra rs.length rc) n hev hrv (es.map (rE n)) ((rs.map (rR n)).take k))) (fun v _ => match v with | .int _ q => rs.length - q.toNat | _ => 0)
      case atStart => exact ⟨0, _, rfl, Nat.zero_le _, HB1.out⟩
      case round =>
        obtain ⟨k, hrv, rfl, hk, HB⟩ := hrel
        clear HB1
        have c1 : wr.cell? ⟨gb, 2, none⟩ = some (.slice ra rs.length rc) := by rw [cell_of HB.out.g]; rfl
        by_cases hlt : k < rs.length
        · obtain ⟨pk, po, rfl, hpk, hcs⟩ := HR.out (by intro e; simp [e] at hlt)
          have p0 := (HB.out.fr.cell (o := po + k) hpk (fun h => h)).trans (hcs k hlt)
          clear hcs
          have HT : Hd ((rs.map (rR n)).take (k + 1) = (rs.map (rR n)).take k ++ [rR n rs[k]]) := by
            unfold Hd; rw [List.take_add_one, List.getElem?_map, List.getElem?_eq_getElem hlt]; rfl
          have HTL : Hd (((rs.map (rR n)).take k).length = k) := by unfold Hd; rw [List.length_take, List.length_map]; omega
          obtain ⟨r0, he⟩ : ∃ e, rs[k] = e := ⟨_, rfl⟩
          rw [he] at p0 HT
          clear he
          obtain ⟨E, hE⟩ : ∃ E, E = (rs.map (rR n)).take k := ⟨_, rfl⟩
          rw [← hE] at HB HT HTL
          clear hE
          have HRE : Hd (rR n r0 = r0 % n) := rfl
          have hk0 : (0 : Int) ≤ k := by omega
          have hk1 : (k : Int) < rs.length := by omega
          have h1 : wr.cell? ⟨hb, 2, none⟩ = some hrv := by rw [cell_of HB.out.h]; rfl
          have HBD : Hd (Rg w (wr.alloc (.cells #[vI (r0 % (n : Int))] 3)).drew gb rb hb l (.slice ea es.length ec) (.slice (some ⟨pk, po, none⟩) rs.length rc) n hev hrv (es.map (rE n)) E) := HB.out.keep (((Fr.refl _ wr).alloc _).drew)
          have hnews : ∀ j u, [vI (r0 % (n : Int))][j]? = some u → (wr.alloc (.cells #[vI (r0 % (n : Int))] 3)).drew.cell? ((⟨wr.heap.size, 0, none⟩ : Addr).add j) = some u :=
            World.news_of_block (w := (wr.alloc (.cells #[vI (r0 % (n : Int))] 3)).drew) (cs := #[vI (r0 % (n : Int))]) (heap_alloc_last wr (.cells #[vI (r0 % (n : Int))] 3))
          have hone : ∀ u ∈ [vI (r0 % (n : Int))], u.oneCell' = true := by intro u hu; simp at hu; subst hu; rfl
          have hbase : hb + 1 ≤ (wr.alloc (.cells #[vI (r0 % (n : Int))] 3)).drew.heap.size := by have := heap_lt HB.out.h; simp; omega
          have hw1 : (wr.alloc (.cells #[vI (r0 % (n : Int))] 3)).drew.heap.size = wr.heap.size + 1 := by simp
          have hEl : E.length + 1 ≤ 17592186043904 := by have := HTL.out; omega
          have hmx : E.length + 1 ≤ maxLen := by unfold maxLen; omega
          have HROW : Hd _ := HBD.out.oi
          have HKEY : Hd (∀ g6 cap w6, w6.ownsRow (hb + 1) 3 1 (.slice (some ⟨g6, 0, none⟩) (E.length + 1) cap) (E.length + 1) (E.map vI ++ [vI (r0 % (n : Int))]) → (wr.alloc (.cells #[vI (r0 % (n : Int))] 3)).drew.grownBy w6 hrv.ownBlock → (hrv.ownBlock = some g6 ∨ g6 = wr.heap.size + 1) →
              (w6.cell? ⟨hb, 2, none⟩ = some hrv ∧ w6.frozen? ⟨hb, 2, none⟩ = false) ∧ w6.cell? ⟨gb, 2, none⟩ = some (.slice (some ⟨pk, po, none⟩) rs.length rc) ∧ Rg w (w6.setCell ⟨hb, 2, none⟩ (.slice (some ⟨g6, 0, none⟩) (E.length + 1) cap)) gb rb hb l (.slice ea es.length ec) (.slice (some ⟨pk, po, none⟩) rs.length rc) n hev (.slice (some ⟨g6, 0, none⟩) (E.length + 1) cap) (es.map (rE n)) (E ++ [r0 % (n : Int)])) := by
            intro g6 cap w6 ho hg ha
            obtain ⟨q1, q2⟩ := HBD.out.growI (z := r0 % (n : Int)) ho hg ha (by rw [hw1]; exact Nat.le_refl _)
            have hlt3 := HBD.out.lt
            have hgl : gb < (wr.alloc (.cells #[vI (r0 % (n : Int))] 3)).drew.heap.size := heap_lt HBD.out.g
            have c1' : (wr.alloc (.cells #[vI (r0 % (n : Int))] 3)).drew.cell? ⟨gb, 2, none⟩ = some (.slice (some ⟨pk, po, none⟩) rs.length rc) := by rw [cell_of HBD.out.g]; rfl
            refine ⟨⟨by rw [cell_of q1]; rfl, frozen_of q1 2⟩, ?_, q2⟩
            exact ((grown_fr hg).cell hgl (fun e => by have := (HBD.out.oi.ge gb e).1; omega)).trans c1'
          have p0w : Hd (∀ v, Fr (fun _ => False) w v → v.cell? ⟨pk, po + k, none⟩ = some (vI r0)) := fun v hv => by
            have h1 := (HB.out.fr.cell (o := po + k) hpk (fun h => h))
            exact (hv.cell hpk (fun h => h)).trans (h1.symm.trans p0)
          have HFD : Hd (Fr (fun _ => False) w (wr.alloc (.cells #[vI (r0 % (n : Int))] 3)).drew) := HBD.out.fr
          have HGE : Hd (∀ j, hrv.ownBlock = some j → w.heap.size ≤ j) := fun j hj => by have := (HBD.out.oi.ge j hj).1; have := HBD.out.lt; omega
          have HS1 : (fun w' : World => w'.cell? ⟨gb, 2, none⟩ = some (.slice (some ⟨pk, po, none⟩) rs.length rc) ∧ w'.cell? ⟨pk, po + k, none⟩ = some (vI r0) ∧ w'.cell? ⟨hb, 2, none⟩ = some hrv) (wr.alloc (.cells #[vI (r0 % (n : Int))] 3)).drew := by
            refine ⟨by rw [cell_of HBD.out.g]; rfl, p0w.out _ HFD.out, by rw [cell_of HBD.out.h]; rfl⟩
          clear HB HBD
          go_upto_region 11 with fail
          have HS0 : (fun w' : World => w'.cell? ⟨gb, 2, none⟩ = some (.slice (some ⟨pk, po, none⟩) rs.length rc) ∧ w'.cell? ⟨pk, po + k, none⟩ = some (vI r0) ∧ w'.cell? ⟨hb, 2, none⟩ = some hrv) wr.drew := ⟨c1, p0, h1⟩
          refine wp_region_T (S := fun w' : World => w'.cell? ⟨gb, 2, none⟩ = some (.slice (some ⟨pk, po, none⟩) rs.length rc) ∧ w'.cell? ⟨pk, po + k, none⟩ = some (vI r0) ∧ w'.cell? ⟨hb, 2, none⟩ = some hrv) (t := 12) mixed ?_
          refine wpAnyT_takeAt (i := 0) 51 (v := ?_) rfl rfl (by kernel_rfl) (by kernel_rfl) (by kernel_rfl) (by kernel_rfl) (fun _ _ _ h => h) (Or.inl ⟨by rfl, fun w hSw => (by obtain ⟨q0, q1, q2⟩ := hSw; go_simp; try with_reducible rfl)⟩) HS0 ?_
          simp only [Act.put, List.setIfInBounds_toArray, List.set_cons_zero, List.set_cons_succ]
          refine wpAnyT_takeAt (i := 1) 52 (v := ?_) rfl rfl (by kernel_rfl) (by kernel_rfl) (by kernel_rfl) (by kernel_rfl) (fun _ _ _ h => h) (Or.inl ⟨by rfl, fun w hSw => (by obtain ⟨q0, q1, q2⟩ := hSw; go_simp; try with_reducible rfl)⟩) HS0 ?_
          simp only [Act.put, List.setIfInBounds_toArray, List.set_cons_zero, List.set_cons_succ]
          refine wpAnyT_takeAt (i := 2) 53 (v := ?_) rfl rfl (by kernel_rfl) (by kernel_rfl) (by kernel_rfl) (by kernel_rfl) (fun _ _ _ h => h) (Or.inl ⟨by rfl, fun w hSw => (by obtain ⟨q0, q1, q2⟩ := hSw; go_simp; try with_reducible rfl)⟩) HS0 ?_
          simp only [Act.put, List.setIfInBounds_toArray, List.set_cons_zero, List.set_cons_succ]
          refine wpAnyT_takeAt (i := 3) 54 (v := ?_) rfl rfl (by kernel_rfl) (by kernel_rfl) (by kernel_rfl) (by kernel_rfl) (fun _ _ _ h => h) (Or.inl ⟨by rfl, fun w hSw => (by obtain ⟨q0, q1, q2⟩ := hSw; go_simp; try with_reducible rfl)⟩) HS0 ?_
          simp only [Act.put, List.setIfInBounds_toArray, List.set_cons_zero, List.set_cons_succ]
          refine wpAnyT_takeAt (i := 4) 55 (v := ?_) rfl rfl (by kernel_rfl) (by kernel_rfl) (by kernel_rfl) (by kernel_rfl) (fun _ _ _ h => h) (Or.inl ⟨by rfl, fun w hSw => (by obtain ⟨q0, q1, q2⟩ := hSw; go_simp; try with_reducible rfl)⟩) HS0 ?_
          simp only [Act.put, List.setIfInBounds_toArray, List.set_cons_zero, List.set_cons_succ]
          refine wpAnyT_takeAt (i := 5) 56 (v := ?_) rfl rfl (by kernel_rfl) (by kernel_rfl) (by kernel_rfl) (by kernel_rfl) (fun _ _ _ h => h) (Or.inl ⟨by rfl, fun w hSw => (by obtain ⟨q0, q1, q2⟩ := hSw; go_simp; try with_reducible rfl)⟩) HS0 ?_
          simp only [Act.put, List.setIfInBounds_toArray, List.set_cons_zero, List.set_cons_succ]
          refine wpAnyT_takeAt (i := 6) 57 (v := ?_) rfl rfl (by kernel_rfl) (by kernel_rfl) (by kernel_rfl) (by kernel_rfl) (fun _ _ _ h => h) (Or.inl ⟨by rfl, fun w hSw => (by obtain ⟨q0, q1, q2⟩ := hSw; go_simp; try with_reducible rfl)⟩) HS0 ?_
          simp only [Act.put, List.setIfInBounds_toArray, List.set_cons_zero, List.set_cons_succ]
          refine wpAnyT_takeAt (i := 7) 58 (v := ?_) rfl rfl (by kernel_rfl) (by kernel_rfl) (by kernel_rfl) (by kernel_rfl) (fun _ _ _ h => h) (Or.inl ⟨by rfl, fun w hSw => (by obtain ⟨q0, q1, q2⟩ := hSw; go_simp; try with_reducible rfl)⟩) HS0 ?_
          simp only [Act.put, List.setIfInBounds_toArray, List.set_cons_zero, List.set_cons_succ]
          refine wpAnyT_one (i := 8) rfl (by kernel_rfl) ?_
          intro K' HK
          go_simp
          refine (mod_int _ _ (by omega) (by omega) _).mono ?_
          rintro e w2 ⟨rfl, rfl⟩
          refine HK.out _ _ (fun _ => HS0) ?_
          clear HK
          refine wpAnyT_one (i := 9) rfl (by kernel_rfl) ?_
          intro K' HK
          go_simp
          refine HK.out _ _ (fun _ => HS1) ?_
          clear HK
          refine wpAnyT_one (i := 10) rfl (by kernel_rfl) ?_
          intro K' HK
          refine step_append_lies _ rfl (.tmp 52) (.tmp 60) 22 rfl (hb + 1) 3 i3 (.int .i64 0) 1 8 under22 hi3 hz3 hs3 hb3 rfl (by omega) hrv E.length _ (by simp [Act.eval, Act.put]) HROW.out ⟨wr.heap.size, 0, none⟩ 1 1 [vI (r0 % (n : Int))] (by simp [Act.eval, Act.put]) rfl hnews hone (by omega) hmx (by omega) hbase (wr.heap.size + 1) hw1 ?_
          intro g6 cap6 w6 hown6 hgrow6 hat6 hlt6
          obtain ⟨⟨t1, y1⟩, t2, hkey⟩ := HKEY.out g6 cap6 w6 hown6 hgrow6 hat6
          have HS2 : (fun w' : World => w'.cell? ⟨gb, 2, none⟩ = some (.slice (some ⟨pk, po, none⟩) rs.length rc) ∧ w'.cell? ⟨pk, po + k, none⟩ = some (vI r0) ∧ w'.cell? ⟨hb, 2, none⟩ = some hrv) w6 := ⟨t2, p0w.out _ (grow_fr0 HFD.out hgrow6 HGE.out), t1⟩
          have HB3 : Hd (Rg w (w6.setCell ⟨hb, 2, none⟩ (.slice (some ⟨g6, 0, none⟩) (E.length + 1) cap6)) gb rb hb l (.slice ea es.length ec) (.slice (some ⟨pk, po, none⟩) rs.length rc) n hev (.slice (some ⟨g6, 0, none⟩) (E.length + 1) cap6) (es.map (rE n)) ((rs.map (rR n)).take (k + 1))) := by
            unfold Hd; rw [HT.out]; exact hkey
          clear hown6 hgrow6 hat6 hlt6 hkey
          refine HK.out _ _ (fun _ => HS2) ?_
          clear HK
          simp only [Act.put, List.setIfInBounds_toArray, List.set_cons_zero, List.set_cons_succ]
          refine wpAnyT_takeAt (i := 11) 62 (v := ?_) rfl rfl (by kernel_rfl) (by kernel_rfl) (by kernel_rfl) (by kernel_rfl) (fun _ _ _ h => h) (Or.inl ⟨by rfl, fun w hSw => (by obtain ⟨q0, q1, q2⟩ := hSw; go_simp; try with_reducible rfl)⟩) HS2 ?_
          simp only [Act.put, List.setIfInBounds_toArray, List.set_cons_zero, List.set_cons_succ]
          refine wpAnyT_one (i := 12) rfl (by kernel_rfl) ?_
          intro K' HK
          go_simp
          refine HK.out _ _ (fun h => absurd rfl h) ?_
          refine wpAnyT_done (by kernel_rfl) ?_ _
          clear HK HKEY HROW hnews hone hbase hw1 h1 HS0 HS1 HS2 t1 t2 y1 p0 c1 p0w
          go_wp2_with fail
          refine ⟨⟨k + 1, _, by simp, by omega, HB3.out⟩, by simp; omega⟩
        · have hke : k = rs.length := by omega
          have HB2 : Hd (Rg w wr gb rb hb l (.slice ea es.length ec) (.slice ra rs.length rc) n hev hrv (es.map (rE n)) (rs.map (rR n))) := by
            have := HB.out
            rw [hke, List.take_of_length_le (by simp)] at this
            exact this
          clear HB
          subst hke
          generalize es.map (rE n) = E at *
          generalize rs.map (rR n) = R at *
          obtain ⟨xa, xc, rfl⟩ := HB2.out.oe.shape
          obtain ⟨za, zc, rfl⟩ := HB2.out.oi.shape
          have y0 : wr.cell? ⟨hb, 0, none⟩ = some (vI n) := by rw [cell_of HB2.out.h]; rfl
          have y1 : wr.cell? ⟨hb, 1, none⟩ = some (.slice xa E.length xc) := by rw [cell_of HB2.out.h]; rfl
          have y2 : wr.cell? ⟨hb, 2, none⟩ = some (.slice za R.length zc) := by rw [cell_of HB2.out.h]; rfl
          have z0 := frozen_of HB2.out.r 0
          have z1 := frozen_of HB2.out.r 1
          have z2 := frozen_of HB2.out.r 2
          have r0 : wr.cell? ⟨rb, 0, none⟩ = some (vI 0) := by rw [cell_of HB2.out.r]; rfl
          have r1 : wr.cell? ⟨rb, 1, none⟩ = some (.slice none 0 0) := by rw [cell_of HB2.out.r]; rfl
          have r2 : wr.cell? ⟨rb, 2, none⟩ = some (.slice none 0 0) := by rw [cell_of HB2.out.r]; rfl
          go_wp2_with fail
          have f0 : Fr (fun k => k = rb) wr (((wr.setCell ⟨rb, 0, none⟩ (vI n)).setCell ⟨rb, 1, none⟩ (.slice xa E.length xc)).setCell ⟨rb, 2, none⟩ (.slice za R.length zc)) :=
            Fr.setCell (S := fun k => k = rb) (Fr.setCell (S := fun k => k = rb) (Fr.setCell (S := fun k => k = rb) (Fr.refl _ wr) ⟨rb, 0, none⟩ _ (Or.inl rfl)) ⟨rb, 1, none⟩ _ (Or.inl rfl)) ⟨rb, 2, none⟩ _ (Or.inl rfl)
          have hres : (((wr.setCell ⟨rb, 0, none⟩ (vI n)).setCell ⟨rb, 1, none⟩ (.slice xa E.length xc)).setCell ⟨rb, 2, none⟩ (.slice za R.length zc)).heap[rb]? = some (.cells #[vI n, .slice xa E.length xc, .slice za R.length zc] 34) := by
            rw [set_of (set_of (set_of HB2.out.r _ _) _ _)]; rfl
          have x0 := cell_of hres 0
          have x1 := cell_of hres 1
          have x2 := cell_of hres 2
          have hlt3 := HB2.out.lt
          have HEND : Hd (RgEnds w n E R (.returned (.agg #[vI n, .slice xa E.length xc, .slice za R.length zc])) (((wr.setCell ⟨rb, 0, none⟩ (vI n)).setCell ⟨rb, 1, none⟩ (.slice xa E.length xc)).setCell ⟨rb, 2, none⟩ (.slice za R.length zc))) :=
            ⟨_, _, rfl, World.ownsRow.mono (HB2.out.oe.fr f0 (fun g hg e => by have := (HB2.out.oe.ge g hg).1; omega)) (by omega), World.ownsRow.mono (HB2.out.oi.fr f0 (fun g hg e => by have := (HB2.out.oi.ge g hg).1; omega)) (by omega), HB2.out.ap,
              HB2.out.fr.anew f0 (fun j hj e => absurd e (by omega))⟩
          generalize (((wr.setCell ⟨rb, 0, none⟩ (vI n)).setCell ⟨rb, 1, none⟩ (.slice xa E.length xc)).setCell ⟨rb, 2, none⟩ (.slice za R.length zc)) = w9 at *
          simp only [List.getElem?_toArray, List.getElem?_cons_zero, List.getElem?_cons_succ] at x0 x1 x2
          refine bodyPost_ret (v := .agg #[vI n, .slice xa E.length xc, .slice za R.length zc]) ?_ rfl HEND.out
          rw [results_cell (p := 2) (ty := 34) Try.results14]
          simp [go_sem, x0, x1, x2]

end Go.Proofs.Ytcjfmfddkhpfnaa
