import Derived.Test.YtgcekpmkniipfaaQC3
namespace Go.Proofs.Ytgcekpmkniipfaa
open Go.RowKit (wrap32 wrap64)
set_option linter.unusedVariables false
set_option linter.unusedSimpArgs false

theorem row_cells {w : World} {t : TypeId} {cb i : Nat} {rows : List (List Value)} {x0 x1 x2 x3 x4 x5 x6 : Value} (hi : i < rows.length) (h : Rows w t 7 cb (rows.set i [x0, x1, x2, x3, x4, x5, x6])) :
    w.cell? ⟨cb, i * 7, none⟩ = some x0 ∧ w.cell? ⟨cb, i * 7 + 1, none⟩ = some x1 ∧ w.cell? ⟨cb, i * 7 + 2, none⟩ = some x2 ∧ w.cell? ⟨cb, i * 7 + 3, none⟩ = some x3 ∧ w.cell? ⟨cb, i * 7 + 4, none⟩ = some x4 ∧ w.cell? ⟨cb, i * 7 + 5, none⟩ = some x5 ∧ w.cell? ⟨cb, i * 7 + 6, none⟩ = some x6 := by
  have hc := fun j hj => h.cell i j (by simpa using hi) hj
  rw [List.getElem_set_self] at hc
  exact ⟨hc 0 (by omega), hc 1 (by omega), hc 2 (by omega), hc 3 (by omega), hc 4 (by omega), hc 5 (by omega), hc 6 (by omega)⟩

theorem Rows.drew {w : World} {t : TypeId} {k cb : Nat} {rows : List (List Value)} (h : Rows w t k cb rows) : Rows w.drew t k cb rows := ⟨h.blk, h.len⟩

set_option maxRecDepth 100000 in
set_option maxHeartbeats 4000000 in
theorem answer_any (cb i : Nat) (rows : List (List Value)) (hi : i < rows.length) (x0 x1 x2 x3 x4 x5 x6 : Value) (ok : Bool) (val : ByteArray) (ka va : Option Addr) (kn kc vn vc : Nat) (w : World) (h : Rows w 118 7 cb (rows.set i [x0, x1, x2, x3, x4, x5, x6])) :
    Calls Try.prog 79 #[.pointer (some ⟨cb, i * 7, none⟩), .agg #[.bool ok, .string val, .slice ka kn kc, .slice va vn vc]] w fun e w' => e = .returned (.tuple #[]) ∧ Rows w' 118 7 cb (rows.set i [x0, vI 2, vI 0, .bool ok, .string val, .slice ka kn kc, .slice va vn vc]) ∧ Fr (fun j => j = cb) w w' := by
  have hl := heap_lt h.blk
  have ha : Rows (w.alloc (.cells #[.bool ok, .string val, .slice ka kn kc, .slice va vn vc] 43)).drew 118 7 cb (rows.set i [x0, x1, x2, x3, x4, x5, x6]) := h.far (S := fun _ => False) ((Fr.refl _ w).alloc _).drew (fun h => h)
  have hF : Fr (fun j => j = cb) w (w.alloc (.cells #[.bool ok, .string val, .slice ka kn kc, .slice va vn vc] 43)).drew := ((Fr.refl _ w).alloc _).drew
  obtain ⟨c0, c1, c2, c3, c4, c5, c6⟩ := row_cells hi ha
  have z : ∀ o, (w.alloc (.cells #[.bool ok, .string val, .slice ka kn kc, .slice va vn vc] 43)).drew.frozen? ⟨cb, o, none⟩ = false := fun o => ha.frz o
  have z1 := z (i * 7 + 1)
  have z2 := z (i * 7 + 2)
  have z3 := z (i * 7 + 3)
  have z4 := z (i * 7 + 4)
  have z5 := z (i * 7 + 5)
  have z6 := z (i * 7 + 6)
  have b0 : (w.alloc (.cells #[.bool ok, .string val, .slice ka kn kc, .slice va vn vc] 43)).drew.cell? ⟨w.heap.size, 0, none⟩ = some (.bool ok) := by rw [World.cell?_drew, World.cell?_alloc_new]; rfl
  have b1 : (w.alloc (.cells #[.bool ok, .string val, .slice ka kn kc, .slice va vn vc] 43)).drew.cell? ⟨w.heap.size, 1, none⟩ = some (.string val) := by rw [World.cell?_drew, World.cell?_alloc_new]; rfl
  have b2 : (w.alloc (.cells #[.bool ok, .string val, .slice ka kn kc, .slice va vn vc] 43)).drew.cell? ⟨w.heap.size, 2, none⟩ = some (.slice ka kn kc) := by rw [World.cell?_drew, World.cell?_alloc_new]; rfl
  have b3 : (w.alloc (.cells #[.bool ok, .string val, .slice ka kn kc, .slice va vn vc] 43)).drew.cell? ⟨w.heap.size, 3, none⟩ = some (.slice va vn vc) := by rw [World.cell?_drew, World.cell?_alloc_new]; rfl
  simp only [World.cell?_drew, World.frozen?_drew] at c0 c1 c2 c3 c4 c5 c6 z1 z2 z3 z4 z5 z6 b0 b1 b2 b3
  have HA : Hd (Rows (w.alloc (.cells #[.bool ok, .string val, .slice ka kn kc, .slice va vn vc] 43)) 118 7 cb (rows.set i [x0, x1, x2, x3, x4, x5, x6])) := ⟨ha.blk, ha.len⟩
  have HF : Hd (Fr (fun j => j = cb) w (w.alloc (.cells #[.bool ok, .string val, .slice ka kn kc, .slice va vn vc] 43))) := (Fr.refl _ w).alloc _
  have hne : ¬ cb = w.heap.size := by omega
  have hne2 : ¬ w.heap.size = cb := by omega
  clear h ha hF z
  go_enter Try.func79, Try.ntmps79
  go_upto_region 1 with fail
  generalize w.alloc (.cells #[.bool ok, .string val, .slice ka kn kc, .slice va vn vc] 43) = w1 at *
  obtain ⟨pb, hpb⟩ : ∃ pb, pb = w.heap.size := ⟨_, rfl⟩
  rw [← hpb] at b0 b1 b2 b3 hne hne2 ⊢
  clear hpb
  go_region
  all_goals go_wp2_with fail
  all_goals go_end0
  all_goals
    have r1 := Rows.put hi HA.out 1 (by omega) (vI 2)
    have r2 := Rows.put hi r1 2 (by omega) (vI 0)
    have r3 := Rows.put hi r2 3 (by omega) (.bool ok)
    have r4 := Rows.put hi r3 4 (by omega) (.string val)
    have r5 := Rows.put hi r4 5 (by omega) (.slice ka kn kc)
    have r6 := Rows.put hi r5 6 (by omega) (.slice va vn vc)
    have f6 := (((((HF.out.setCell ⟨cb, i * 7 + 1, none⟩ (vI 2) (Or.inl rfl)).setCell ⟨cb, i * 7 + 2, none⟩ (vI 0) (Or.inl rfl)).setCell ⟨cb, i * 7 + 3, none⟩ (.bool ok) (Or.inl rfl)).setCell ⟨cb, i * 7 + 4, none⟩ (.string val) (Or.inl rfl)).setCell ⟨cb, i * 7 + 5, none⟩ (.slice ka kn kc) (Or.inl rfl)).setCell ⟨cb, i * 7 + 6, none⟩ (.slice va vn vc) (Or.inl rfl)
    have e4 : i * 7 + 3 + 1 = i * 7 + 4 := rfl
    have e5 : i * 7 + 3 + 2 = i * 7 + 5 := rfl
    have e6 : i * 7 + 3 + 3 = i * 7 + 6 := rfl
    simp only [e4, e5, e6]
    have r7 : Rows _ 118 7 cb (rows.set i [x0, vI 2, vI 0, .bool ok, .string val, .slice ka kn kc, .slice va vn vc]) := r6
    refine ⟨by first | rfl | trivial, ?_, ?_⟩
    · with_reducible exact r7.drew
    · with_reducible exact f6.drew

set_option maxRecDepth 100000 in
set_option maxHeartbeats 4000000 in
theorem leave_any (B cb i : Nat) (rows : List (List Value)) (hi : i < rows.length) (hB : B ≤ cb) (o : OpT) (r : List OpT) (x0 x1 x2 x3 x4 x5 x6 : Value) (hn : r.length ≤ 900000000000) (w : World) (h : Rows w 118 7 cb (rows.set i [x0, x1, x2, x3, x4, x5, x6])) (hx : OpsAt w B x0 (o :: r)) :
    Calls Try.prog 56 #[.pointer (some ⟨cb, i * 7, none⟩)] w fun e w' => e = .returned (.tuple #[]) ∧ ∃ cv', OpsAt w B cv' (fromK r) ∧ Rows w' 118 7 cb (rows.set i [cv', vI 0, x2, x3, x4, x5, x6]) ∧ Fr (fun j => j = cb) w w' := by
  have hl := heap_lt h.blk
  obtain ⟨c0, c1, c2, c3, c4, c5, c6⟩ := row_cells hi h
  have z0 := h.frz (i * 7)
  have z1 := h.frz (i * 7 + 1)
  obtain ⟨ad, cap, rfl, hcap, hcs'⟩ := hx
  obtain ⟨g, of, rfl, hg, hcs⟩ := hcs' (by simp)
  have hcap' : r.length + 1 ≤ cap := hcap
  have hlen : (o :: r).length = r.length + 1 := rfl
  simp only [hlen] at c0
  have HT : Hd (∀ ad : Option Addr, (r ≠ [] → ad = some ⟨g, of + 3, none⟩) → OpsAt w B (.slice ad r.length (cap - 1)) r) := fun ad had => OpsAt.tail hcap' hg hcs had
  have HA : Hd (Rows w 118 7 cb (rows.set i [.slice (some ⟨g, of, none⟩) (r.length + 1) cap, x1, x2, x3, x4, x5, x6])) := h
  clear h hcs hcs' hcap hlen
  by_cases hc1 : cap = 1
  · subst hc1
    have hr : r = [] := List.eq_nil_of_length_eq_zero (by omega)
    subst hr
    have HO : Hd (OpsAt w B (.slice (some ⟨g, of, none⟩) 0 0) []) := HT.out _ (fun h => absurd rfl h)
    have hf := fromKnown_any B (.slice (some ⟨g, of, none⟩) 0 0) [] w HO.out (by simp)
    simp only [List.length_nil] at c0 HA
    clear HT HO hcap'
    go_enter Try.func56, Try.ntmps56
    go_wp2_with fail
    refine hf.mono ?_
    rintro _ wz ⟨cv', rfl, hO', rfl⟩
    have HO' : Hd (OpsAt wz B cv' (fromK [])) := hO'
    obtain ⟨ad', cap', ecv, -⟩ := hO'
    generalize (fromK ([] : List OpT)).length = n' at ecv
    subst ecv
    clear hf
    go_wp2_with fail
    go_end0
    have r1 := Rows.put hi HA.out 1 (by omega) (vI 0)
    have r2 := Rows.put hi r1 0 (by omega) (.slice ad' n' cap')
    exact ⟨rfl, .slice ad' n' cap', HO'.out, r2, ((Fr.refl (fun j => j = cb) wz).setCell _ _ (Or.inl rfl)).setCell _ _ (Or.inl rfl)⟩
  · have HO : Hd (OpsAt w B (.slice (some ⟨g, of + 3, none⟩) r.length (cap - 1)) r) := HT.out _ (fun _ => rfl)
    have hf := fromKnown_any B (.slice (some ⟨g, of + 3, none⟩) r.length (cap - 1)) r w HO.out (by omega)
    clear HT HO
    go_enter Try.func56, Try.ntmps56
    go_wp2_with fail
    refine hf.mono ?_
    rintro _ wz ⟨cv', rfl, hO', rfl⟩
    have HO' : Hd (OpsAt wz B cv' (fromK r)) := hO'
    obtain ⟨ad', cap', ecv, -⟩ := hO'
    generalize (fromK r).length = n' at ecv
    subst ecv
    clear hf
    go_wp2_with fail
    go_end0
    have r1 := Rows.put hi HA.out 1 (by omega) (vI 0)
    have r2 := Rows.put hi r1 0 (by omega) (.slice ad' n' cap')
    exact ⟨rfl, .slice ad' n' cap', HO'.out, r2, ((Fr.refl (fun j => j = cb) wz).setCell _ _ (Or.inl rfl)).setCell _ _ (Or.inl rfl)⟩
end Go.Proofs.Ytgcekpmkniipfaa
