import Derived.Test.YtihicdbplmdjiaaGreatQPlC2
set_option linter.unusedVariables false
set_option linter.unusedSimpArgs false
namespace Go.Proofs.YtihicdbplmdjiaaGreat.Pl
open Go.RowKit (wrap32 wrap64)

set_option maxRecDepth 100000 in
set_option maxHeartbeats 1000000 in
theorem known_any (kd : Int) (w : World) : Calls Tryz.prog 47 #[vI kd] w fun e w' => e = .returned (.bool (known kd)) ∧ w' = w := by
  unfold known
  by_cases h1 : kd = 1
  · subst h1
    go_enter Tryz.func47, Tryz.ntmps47
    go_wp2_with fail
    go_ret
    exact ⟨rfl, rfl⟩
  · have d1 : (kd == 1) = false := by simp [h1]
    by_cases h2 : kd = 2
    · subst h2
      go_enter Tryz.func47, Tryz.ntmps47
      go_wp2_with fail
      go_ret
      exact ⟨rfl, rfl⟩
    · have d2 : (kd == 2) = false := by simp [h2]
      rw [d1, d2]
      have e1 : decide (kd = 1) = false := by simp [h1]
      have e2 : decide (kd = 2) = false := by simp [h2]
      go_enter Tryz.func47, Tryz.ntmps47
      go_wp2_with fail
      go_ret
      exact ⟨by simp, rfl⟩

theorem OpsAt.tail {w : World} {B : Nat} {g o cap : Nat} {x : OpT} {r : List OpT} (hcap : r.length + 1 ≤ cap) (hg : g < B) (hcs : ∀ i (h : i < (x :: r).length), w.cell? ⟨g, o + i * 3, none⟩ = some (vI (x :: r)[i].1) ∧ w.cell? ⟨g, o + i * 3 + 1, none⟩ = some (vI (x :: r)[i].2.1) ∧ w.cell? ⟨g, o + i * 3 + 2, none⟩ = some (.string (x :: r)[i].2.2)) {ad : Option Addr} (had : r ≠ [] → ad = some ⟨g, o + 3, none⟩) :
    OpsAt w B (.slice ad r.length (cap - 1)) r := by
  refine ⟨ad, cap - 1, rfl, by omega, fun hne => ⟨g, o + 3, had hne, hg, fun i hi => ?_⟩⟩
  have := hcs (i + 1) (by simpa using hi)
  rw [show o + (i + 1) * 3 = o + 3 + i * 3 by omega] at this
  exact this

set_option maxRecDepth 100000 in
set_option maxHeartbeats 2000000 in
theorem fromKnown_any (B : Nat) (v : Value) (ops : List OpT) (w : World) (h : OpsAt w B v ops) (hn : ops.length ≤ 1000000000000) :
    Calls Tryz.prog 23 #[v] w fun e w' => ∃ v', e = .returned v' ∧ OpsAt w B v' (fromK ops) ∧ w' = w := by
  have H : Hd (OpsAt w B v ops) := h
  clear h
  go_enter Tryz.func23, Tryz.ntmps23
  go_wp2_with fail
  go_loopw [0] (fun v wr => wr = w ∧ ∃ rest : List OpT, Hd (OpsAt w B v rest ∧ fromK rest = fromK ops ∧ rest.length ≤ 1000000000000)) (fun v _ => match v with | .slice _ n _ => n | _ => 0)
  case atStart => exact ⟨rfl, ops, H.out, rfl, hn⟩
  case round =>
    obtain ⟨rfl, rest, HM⟩ := hrel
    obtain ⟨⟨ad, cap, rfl, hcap, hx⟩, hfr, hrl⟩ := HM.out
    cases rest with
    | nil =>
      have HM' : Hd (OpsAt wr B (.slice ad ([] : List OpT).length cap) [] ∧ fromK ([] : List OpT) = fromK ops) := ⟨⟨ad, cap, rfl, hcap, hx⟩, hfr⟩
      clear HM hx hfr
      simp only [List.length_nil]
      go_wp2_with fail
      go_ret
      exact ⟨.slice ad 0 cap, rfl, by rw [← HM'.out.2]; exact HM'.out.1, rfl⟩
    | cons o r =>
      obtain ⟨g, of, rfl, hg, hcs⟩ := hx (by simp)
      obtain ⟨c0, -, -⟩ := hcs 0 (by simp)
      simp only [List.getElem_cons_zero, Nat.zero_mul, Nat.add_zero] at c0
      have hlen : (o :: r).length = r.length + 1 := rfl
      have HM' : Hd (OpsAt wr B (.slice (some ⟨g, of, none⟩) (o :: r).length cap) (o :: r) ∧ fromK (o :: r) = fromK ops) := ⟨HM.out.1, hfr⟩
      have HT : Hd (∀ ad : Option Addr, (r ≠ [] → ad = some ⟨g, of + 3, none⟩) → OpsAt wr B (.slice ad r.length (cap - 1)) r) := fun ad had => OpsAt.tail (by simpa using hcap) hg hcs had
      have hcap' : r.length + 1 ≤ cap := hcap
      rw [hlen] at HM' ⊢
      clear HM hx hcs hcap hlen H
      cases hk : known o.1 with
      | true =>
        have hfk : Hd (fromK (o :: r) = o :: r) := by show _ = _; unfold fromK; rw [List.dropWhile_cons, if_neg (by simp [hk])]
        clear HT hfr
        go_wp2_with (go_at_call 47; refine (known_any o.1 _).mono ?_; rintro _ wz ⟨rfl, rfl⟩; rw [hk])
        go_ret
        exact ⟨.slice (some ⟨g, of, none⟩) (r.length + 1) cap, rfl, by rw [← HM'.out.2, hfk.out]; exact HM'.out.1, rfl⟩
      | false =>
        have hfk : Hd (fromK r = fromK ops) := by show _ = _; rw [← hfr]; unfold fromK; rw [List.dropWhile_cons, if_pos (by simp [hk])]
        have hrl' : Hd (r.length ≤ 1000000000000) := by show _ ≤ _; simp at hrl; omega
        have hr1 : r.length + 1 ≤ 1000000000000 := by simpa using hrl
        clear hfr HM'
        go_wp2_with (go_at_call 47; refine (known_any o.1 _).mono ?_; rintro _ wz ⟨rfl, rfl⟩; rw [hk])
        refine ⟨⟨trivial, r, HT.out _ (fun hne => by rw [if_neg (by intro e; rw [e] at hcap'; have : r = [] := List.eq_nil_of_length_eq_zero (by omega); exact hne this)]), hfk.out, hrl'.out⟩, by simp⟩

/-! ### a client's own calls -/
section
variable {w : World} {B pb cb tb : Nat} {g : Gh} {N : Nat} {a : Ab} {mv : Value} {cvs : List CV} {mvs : List MV} {s : St} {E : Nat → Prop}
theorem Pl.cells (h : Pl w B pb cb tb g N a mv cvs mvs s E) (i : Nat) (hi : i < cvs.length) :
    w.cell? ⟨cb, i * 7, none⟩ = some cvs[i].cv ∧ w.cell? ⟨cb, i * 7 + 1, none⟩ = some (vI cvs[i].c.st) ∧ w.cell? ⟨cb, i * 7 + 2, none⟩ = some (vI cvs[i].c.lk) ∧ w.cell? ⟨cb, i * 7 + 3, none⟩ = some (.bool cvs[i].c.rp.ok) ∧ w.cell? ⟨cb, i * 7 + 4, none⟩ = some (.string cvs[i].c.rp.val) ∧ w.cell? ⟨cb, i * 7 + 5, none⟩ = some cvs[i].kv ∧ w.cell? ⟨cb, i * 7 + 6, none⟩ = some cvs[i].vv := by
  have hc := fun j hj => h.rows.cell i j (by simpa using hi) hj
  have e : (cvs.map cl7)[i]'(by simpa using hi) = cl7 cvs[i] := by simp
  rw [e] at hc
  exact ⟨hc 0 (by omega), hc 1 (by omega), hc 2 (by omega), hc 3 (by omega), hc 4 (by omega), hc 5 (by omega), hc 6 (by omega)⟩
end

set_option maxRecDepth 100000 in
set_option maxHeartbeats 1000000 in
theorem ended_any (cb o : Nat) (ad : Option Addr) (n cap : Nat) (w : World) (c0 : w.cell? ⟨cb, o, none⟩ = some (.slice ad n cap)) :
    Calls Tryz.prog 48 #[.pointer (some ⟨cb, o, none⟩)] w fun e w' => e = .returned (.bool (n == 0)) ∧ w' = w := by
  cases n with
  | zero =>
    go_enter Tryz.func48, Tryz.ntmps48
    go_wp2_with fail
    go_ret
    exact ⟨rfl, rfl⟩
  | succ m =>
    have hd : decide (((m + 1 : Nat) : Int) = 0) = false := by simp; omega
    have hd2 : (((m + 1 : Nat) : Int) == 0) = false := by simp; omega
    generalize hq : m + 1 = q at *
    have hq0 : ¬ q = 0 := by omega
    clear hq
    go_enter Tryz.func48, Tryz.ntmps48
    go_wp2_with fail
    go_ret
    exact ⟨by simp [hq0], rfl⟩

set_option maxRecDepth 100000 in
set_option maxHeartbeats 2000000 in
/-- needs, of a client that has a call. -/
theorem needs_any (B cb o : Nat) (cv : Value) (c : Cl) (w : World) (hc : ClOk c) (hne : c.ops ≠ []) (ho : OpsAt w B cv c.ops) (c0 : w.cell? ⟨cb, o, none⟩ = some cv) (c1 : w.cell? ⟨cb, o + 1, none⟩ = some (vI c.st)) (c2 : w.cell? ⟨cb, o + 2, none⟩ = some (vI c.lk)) :
    Calls Tryz.prog 49 #[.pointer (some ⟨cb, o, none⟩)] w fun e w' => e = .returned (vI (needs c)) ∧ w' = w := by
  obtain ⟨ops, st, lk, rp⟩ := c
  obtain ⟨ad, cap, rfl, hcap, hx⟩ := ho
  obtain ⟨g, of, rfl, hg, hcs⟩ := hx hne
  cases ops with
  | nil => exact absurd rfl hne
  | cons x r =>
    obtain ⟨k0, k1, -⟩ := hcs 0 (by simp)
    simp only [List.getElem_cons_zero, Nat.zero_mul, Nat.add_zero] at k0 k1
    have hl8 := hc.lk
    simp only at hl8 c1 c2
    have hlen : (x :: r).length = r.length + 1 := rfl
    simp only [hlen] at c0
    unfold needs
    simp only
    clear hx hcs hc hne hcap hlen
    by_cases h1 : st = 1
    · subst h1
      rw [if_neg (by simp)]
      by_cases h3 : x.1 = 3
      · rw [if_neg (by simp [h3])]
        rw [h3] at k0
        clear h3
        by_cases h8 : lk < 8
        · rw [if_pos h8]
          have h8' : (lk : Int) < 8 := by omega
          go_enter Tryz.func49, Tryz.ntmps49
          go_wp2_with fail
          go_ret
          exact ⟨rfl, rfl⟩
        · rw [if_neg h8]
          have e8 : lk = 8 := by omega
          subst e8
          clear h8 hl8
          go_enter Tryz.func49, Tryz.ntmps49
          go_wp2_with fail
          go_ret
          exact ⟨rfl, rfl⟩
      · rw [if_pos h3]
        have d3 : decide (x.1 = 3) = false := by simp [h3]
        have d3' : (x.1 == 3) = false := by simp [h3]
        go_enter Tryz.func49, Tryz.ntmps49
        go_wp2_with (go_at_call 61; refine (stripeOf_any _ _).mono ?_; rintro _ _ ⟨rfl, rfl⟩)
        go_ret
        exact ⟨rfl, rfl⟩
    · rw [if_pos h1]
      have d1 : decide ((st : Int) = 1) = false := by simp; omega
      have d1' : ((st : Int) == 1) = false := by simp; omega
      go_enter Tryz.func49, Tryz.ntmps49
      go_wp2_with fail
      go_ret
      exact ⟨rfl, rfl⟩

theorem row_cells {w : World} {t : TypeId} {cb i : Nat} {rows : List (List Value)} {x0 x1 x2 x3 x4 x5 x6 : Value} (hi : i < rows.length) (h : Rows w t 7 cb (rows.set i [x0, x1, x2, x3, x4, x5, x6])) :
    w.cell? ⟨cb, i * 7, none⟩ = some x0 ∧ w.cell? ⟨cb, i * 7 + 1, none⟩ = some x1 ∧ w.cell? ⟨cb, i * 7 + 2, none⟩ = some x2 ∧ w.cell? ⟨cb, i * 7 + 3, none⟩ = some x3 ∧ w.cell? ⟨cb, i * 7 + 4, none⟩ = some x4 ∧ w.cell? ⟨cb, i * 7 + 5, none⟩ = some x5 ∧ w.cell? ⟨cb, i * 7 + 6, none⟩ = some x6 := by
  have hc := fun j hj => h.cell i j (by simpa using hi) hj
  rw [List.getElem_set_self] at hc
  exact ⟨hc 0 (by omega), hc 1 (by omega), hc 2 (by omega), hc 3 (by omega), hc 4 (by omega), hc 5 (by omega), hc 6 (by omega)⟩

theorem Rows.drew {w : World} {t : TypeId} {k cb : Nat} {rows : List (List Value)} (h : Rows w t k cb rows) : Rows w.drew t k cb rows := ⟨h.blk, h.len⟩

set_option maxRecDepth 100000 in
set_option maxHeartbeats 4000000 in
theorem answer_any (cb i : Nat) (rows : List (List Value)) (hi : i < rows.length) (x0 x1 x2 x3 x4 x5 x6 : Value) (ok : Bool) (val : ByteArray) (ka va : Option Addr) (kn kc vn vc : Nat) (w : World) (h : Rows w 76 7 cb (rows.set i [x0, x1, x2, x3, x4, x5, x6])) :
    Calls Tryz.prog 50 #[.pointer (some ⟨cb, i * 7, none⟩), .agg #[.bool ok, .string val, .slice ka kn kc, .slice va vn vc]] w fun e w' => e = .returned (.tuple #[]) ∧ Rows w' 76 7 cb (rows.set i [x0, vI 2, vI 0, .bool ok, .string val, .slice ka kn kc, .slice va vn vc]) ∧ Fr (fun j => j = cb) w w' := by
  have hl := heap_lt h.blk
  have ha : Rows (w.alloc (.cells #[.bool ok, .string val, .slice ka kn kc, .slice va vn vc] 39)).drew 76 7 cb (rows.set i [x0, x1, x2, x3, x4, x5, x6]) := h.far (S := fun _ => False) ((Fr.refl _ w).alloc _).drew (fun h => h)
  have hF : Fr (fun j => j = cb) w (w.alloc (.cells #[.bool ok, .string val, .slice ka kn kc, .slice va vn vc] 39)).drew := ((Fr.refl _ w).alloc _).drew
  obtain ⟨c0, c1, c2, c3, c4, c5, c6⟩ := row_cells hi ha
  have z : ∀ o, (w.alloc (.cells #[.bool ok, .string val, .slice ka kn kc, .slice va vn vc] 39)).drew.frozen? ⟨cb, o, none⟩ = false := fun o => ha.frz o
  have z1 := z (i * 7 + 1)
  have z2 := z (i * 7 + 2)
  have z3 := z (i * 7 + 3)
  have z4 := z (i * 7 + 4)
  have z5 := z (i * 7 + 5)
  have z6 := z (i * 7 + 6)
  have b0 : (w.alloc (.cells #[.bool ok, .string val, .slice ka kn kc, .slice va vn vc] 39)).drew.cell? ⟨w.heap.size, 0, none⟩ = some (.bool ok) := by rw [World.cell?_drew, World.cell?_alloc_new]; rfl
  have b1 : (w.alloc (.cells #[.bool ok, .string val, .slice ka kn kc, .slice va vn vc] 39)).drew.cell? ⟨w.heap.size, 1, none⟩ = some (.string val) := by rw [World.cell?_drew, World.cell?_alloc_new]; rfl
  have b2 : (w.alloc (.cells #[.bool ok, .string val, .slice ka kn kc, .slice va vn vc] 39)).drew.cell? ⟨w.heap.size, 2, none⟩ = some (.slice ka kn kc) := by rw [World.cell?_drew, World.cell?_alloc_new]; rfl
  have b3 : (w.alloc (.cells #[.bool ok, .string val, .slice ka kn kc, .slice va vn vc] 39)).drew.cell? ⟨w.heap.size, 3, none⟩ = some (.slice va vn vc) := by rw [World.cell?_drew, World.cell?_alloc_new]; rfl
  simp only [World.cell?_drew, World.frozen?_drew] at c0 c1 c2 c3 c4 c5 c6 z1 z2 z3 z4 z5 z6 b0 b1 b2 b3
  have HA : Hd (Rows (w.alloc (.cells #[.bool ok, .string val, .slice ka kn kc, .slice va vn vc] 39)) 76 7 cb (rows.set i [x0, x1, x2, x3, x4, x5, x6])) := ⟨ha.blk, ha.len⟩
  have HF : Hd (Fr (fun j => j = cb) w (w.alloc (.cells #[.bool ok, .string val, .slice ka kn kc, .slice va vn vc] 39))) := (Fr.refl _ w).alloc _
  have hne : ¬ cb = w.heap.size := by omega
  have hne2 : ¬ w.heap.size = cb := by omega
  clear h ha hF z
  go_enter Tryz.func50, Tryz.ntmps50
  go_upto_region 1 with fail
  generalize w.alloc (.cells #[.bool ok, .string val, .slice ka kn kc, .slice va vn vc] 39) = w1 at *
  obtain ⟨pb, hpb⟩ : ∃ pb, pb = w.heap.size := ⟨_, rfl⟩
  rw [← hpb] at b0 b1 b2 b3 hne hne2 ⊢
  clear hpb
  go_region
  all_goals go_wp2_with fail
  all_goals go_end0
  all_goals
    have r1 := Rows.put hi HA.out 1 (by omega) (vI 2)
    have r2 := Rows.put hi r1 2 (by omega) (vI 0)
    have r3 := Rows.put hi r2 3 (by omega) (.bool ok)
    have r4 := Rows.put hi r3 4 (by omega) (.string val)
    have r5 := Rows.put hi r4 5 (by omega) (.slice ka kn kc)
    have r6 := Rows.put hi r5 6 (by omega) (.slice va vn vc)
    have f6 := (((((HF.out.setCell ⟨cb, i * 7 + 1, none⟩ (vI 2) (Or.inl rfl)).setCell ⟨cb, i * 7 + 2, none⟩ (vI 0) (Or.inl rfl)).setCell ⟨cb, i * 7 + 3, none⟩ (.bool ok) (Or.inl rfl)).setCell ⟨cb, i * 7 + 4, none⟩ (.string val) (Or.inl rfl)).setCell ⟨cb, i * 7 + 5, none⟩ (.slice ka kn kc) (Or.inl rfl)).setCell ⟨cb, i * 7 + 6, none⟩ (.slice va vn vc) (Or.inl rfl)
    have e4 : i * 7 + 3 + 1 = i * 7 + 4 := rfl
    have e5 : i * 7 + 3 + 2 = i * 7 + 5 := rfl
    have e6 : i * 7 + 3 + 3 = i * 7 + 6 := rfl
    simp only [e4, e5, e6]
    have r7 : Rows _ 76 7 cb (rows.set i [x0, vI 2, vI 0, .bool ok, .string val, .slice ka kn kc, .slice va vn vc]) := r6
    refine ⟨by first | rfl | trivial, ?_, ?_⟩
    · with_reducible exact r7.drew
    · with_reducible exact f6.drew

set_option maxRecDepth 100000 in
set_option maxHeartbeats 4000000 in
theorem leave_any (B cb i : Nat) (rows : List (List Value)) (hi : i < rows.length) (hB : B ≤ cb) (o : OpT) (r : List OpT) (x0 x1 x2 x3 x4 x5 x6 : Value) (hn : r.length ≤ 900000000000) (w : World) (h : Rows w 76 7 cb (rows.set i [x0, x1, x2, x3, x4, x5, x6])) (hx : OpsAt w B x0 (o :: r)) :
    Calls Tryz.prog 26 #[.pointer (some ⟨cb, i * 7, none⟩)] w fun e w' => e = .returned (.tuple #[]) ∧ ∃ cv', OpsAt w B cv' (fromK r) ∧ Rows w' 76 7 cb (rows.set i [cv', vI 0, x2, x3, x4, x5, x6]) ∧ Fr (fun j => j = cb) w w' := by
  have hl := heap_lt h.blk
  obtain ⟨c0, c1, c2, c3, c4, c5, c6⟩ := row_cells hi h
  have z0 := h.frz (i * 7)
  have z1 := h.frz (i * 7 + 1)
  obtain ⟨ad, cap, rfl, hcap, hcs'⟩ := hx
  obtain ⟨g, of, rfl, hg, hcs⟩ := hcs' (by simp)
  have hcap' : r.length + 1 ≤ cap := hcap
  have hlen : (o :: r).length = r.length + 1 := rfl
  simp only [hlen] at c0
  have HT : Hd (∀ ad : Option Addr, (r ≠ [] → ad = some ⟨g, of + 3, none⟩) → OpsAt w B (.slice ad r.length (cap - 1)) r) := fun ad had => OpsAt.tail hcap' hg hcs had
  have HA : Hd (Rows w 76 7 cb (rows.set i [.slice (some ⟨g, of, none⟩) (r.length + 1) cap, x1, x2, x3, x4, x5, x6])) := h
  clear h hcs hcs' hcap hlen
  by_cases hc1 : cap = 1
  · subst hc1
    have hr : r = [] := List.eq_nil_of_length_eq_zero (by omega)
    subst hr
    have HO : Hd (OpsAt w B (.slice (some ⟨g, of, none⟩) 0 0) []) := HT.out _ (fun h => absurd rfl h)
    have hf := fromKnown_any B (.slice (some ⟨g, of, none⟩) 0 0) [] w HO.out (by simp)
    simp only [List.length_nil] at c0 HA
    clear HT HO hcap'
    go_enter Tryz.func26, Tryz.ntmps26
    go_wp2_with fail
    refine hf.mono ?_
    rintro _ wz ⟨cv', rfl, hO', rfl⟩
    have HO' : Hd (OpsAt wz B cv' (fromK [])) := hO'
    obtain ⟨ad', cap', ecv, -⟩ := hO'
    generalize (fromK ([] : List OpT)).length = n' at ecv
    subst ecv
    clear hf
    go_wp2_with fail
    go_end0
    have r1 := Rows.put hi HA.out 1 (by omega) (vI 0)
    have r2 := Rows.put hi r1 0 (by omega) (.slice ad' n' cap')
    exact ⟨rfl, .slice ad' n' cap', HO'.out, r2, ((Fr.refl (fun j => j = cb) wz).setCell _ _ (Or.inl rfl)).setCell _ _ (Or.inl rfl)⟩
  · have HO : Hd (OpsAt w B (.slice (some ⟨g, of + 3, none⟩) r.length (cap - 1)) r) := HT.out _ (fun _ => rfl)
    have hf := fromKnown_any B (.slice (some ⟨g, of + 3, none⟩) r.length (cap - 1)) r w HO.out (by omega)
    clear HT HO
    go_enter Tryz.func26, Tryz.ntmps26
    go_wp2_with fail
    refine hf.mono ?_
    rintro _ wz ⟨cv', rfl, hO', rfl⟩
    have HO' : Hd (OpsAt wz B cv' (fromK r)) := hO'
    obtain ⟨ad', cap', ecv, -⟩ := hO'
    generalize (fromK r).length = n' at ecv
    subst ecv
    clear hf
    go_wp2_with fail
    go_end0
    have r1 := Rows.put hi HA.out 1 (by omega) (vI 0)
    have r2 := Rows.put hi r1 0 (by omega) (.slice ad' n' cap')
    exact ⟨rfl, .slice ad' n' cap', HO'.out, r2, ((Fr.refl (fun j => j = cb) wz).setCell _ _ (Or.inl rfl)).setCell _ _ (Or.inl rfl)⟩
end Go.Proofs.YtihicdbplmdjiaaGreat.Pl
