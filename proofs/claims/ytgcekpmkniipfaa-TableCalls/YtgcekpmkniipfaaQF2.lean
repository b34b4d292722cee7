import Derived.Test.YtgcekpmkniipfaaQE6J
namespace Go.Proofs.Ytgcekpmkniipfaa
open Go.RowKit (wrap32 wrap64)
set_option linter.unusedVariables false
set_option linter.unusedSimpArgs false

/-- A call as it is handed about. -/
abbrev callV (C : CallT) (kv vv : Value) : Value := .agg #[vI C.fr, vI C.tt, vI C.op.1, vI C.op.2.1, .string C.op.2.2, .bool C.rp.ok, .string C.rp.val, kv, vv]
abbrev callC (C : CallT) (kv vv : Value) : Array Value := #[vI C.fr, vI C.tt, vI C.op.1, vI C.op.2.1, .string C.op.2.2, .bool C.rp.ok, .string C.rp.val, kv, vv]

set_option maxRecDepth 100000 in
set_option maxHeartbeats 2000000 in
theorem sees_any (w : World) (C : CallT) (ka : Option Addr) (kn kc : Nat) (va : Option Addr) (vn vc : Nat) (key : Int) (B : Nat) (hk : RowAt w B (.slice ka kn kc) (kCells C.rp.L)) (hB : B ≤ w.heap.size) (hl : C.rp.L.length ≤ 4000000000) :
    Calls Try.prog 41 #[callV C (.slice ka kn kc) (.slice va vn vc), vI key] w fun e w' => e = .returned (.bool (seesB C key)) ∧ Fr (fun _ => False) w w' := by
  obtain ⟨fr, tt, ⟨kd, ky, vs⟩, ⟨ok, val, L⟩⟩ := C
  simp only at hk hl ⊢
  obtain ⟨ad, cap, e, hx⟩ := hk
  rw [kLen] at e
  obtain ⟨rfl, rfl, rfl⟩ : ka = ad ∧ kn = L.length ∧ kc = cap := by injection e with e1 e2 e3; exact ⟨e1, e2, e3⟩
  have HX : Hd (0 < L.length → ∃ g o, ka = some ⟨g, o, none⟩ ∧ g < B ∧ ∀ i (h : i < L.length), w.cell? ⟨g, o + i, none⟩ = some (vI L[i].1)) := fun hp => by
    obtain ⟨g, o, e1, e2, e3⟩ := hx (by intro e; have := kLen L; rw [e] at this; simp at this; omega)
    exact ⟨g, o, e1, e2, fun i hi => by rw [e3 i (by rw [kLen]; exact hi)]; simp [kCells]⟩
  have HBw : Hd (B ≤ w.heap.size) := hB
  obtain ⟨n, en⟩ : ∃ n, n = L.length := ⟨_, rfl⟩
  have EN : Hd (n = L.length) := en
  rw [← en] at hl ⊢
  clear hx e hB en
  have hfa := (Fr.refl (fun _ => False) w).alloc (.cells #[vI fr, vI tt, vI kd, vI ky, .string vs, .bool ok, .string val, .slice ka n kc, .slice va vn vc] 47)
  have hbx := heap_alloc_last w (.cells #[vI fr, vI tt, vI kd, vI ky, .string vs, .bool ok, .string val, .slice ka n kc, .slice va vn vc] 47)
  have HW : Hd (∀ W, W = w.alloc (.cells #[vI fr, vI tt, vI kd, vI ky, .string vs, .bool ok, .string val, .slice ka n kc, .slice va vn vc] 47) → Fr (fun _ => False) w W) := fun W e => by rw [e]; exact hfa
  by_cases h3 : kd = 3
  · subst h3
    have HS : Hd (seesB ⟨fr, tt, (3, ky, vs), ⟨ok, val, L⟩⟩ key = L.any (fun e => e.1 == key)) := by show _ = _; unfold seesB; rw [if_pos rfl]
    rw [HS.out]
    clear HS
    go_enter Try.func41, Try.ntmps41
    go_upto_region 1 with fail
    obtain ⟨W, eW⟩ : ∃ W, W = w.alloc (.cells #[vI fr, vI tt, vI 3, vI ky, .string vs, .bool ok, .string val, .slice ka n kc, .slice va vn vc] 47) := ⟨_, rfl⟩
    rw [← eW] at hbx hfa ⊢
    have HFA : Hd (Fr (fun _ => False) w W) := hfa
    have c2 : W.cell? ⟨w.heap.size, 2, none⟩ = some (vI 3) := cell_of hbx 2
    have c7 : W.cell? ⟨w.heap.size, 7, none⟩ = some (.slice ka n kc) := cell_of hbx 7
    clear eW hbx hfa HW
    go_wp2_with fail
    go_loopw [5] (fun v wr => wr = W ∧ ∃ k : Nat, v = .int .i64 k ∧ k ≤ n ∧ Hd (∀ i (h : i < L.length), i < k → L[i].1 ≠ key)) (fun v _ => match v with | .int _ q => n - q.toNat | _ => 0)
    case atStart => exact ⟨rfl, 0, rfl, by omega, fun i _ h => by omega⟩
    case round =>
      obtain ⟨rfl, k, rfl, hk, HM⟩ := hrel
      by_cases hlt : k < n
      · have hkl : k < L.length := by rw [← EN.out]; exact hlt
        obtain ⟨g, o, rfl, hg, hcs⟩ := HX.out (by omega)
        have d := (HFA.out.cell (Nat.lt_of_lt_of_le hg HBw.out) (fun h => h)).trans (hcs k hkl)
        have HY : Hd (L[k].1 = key → L.any (fun e => e.1 == key) = true) := fun e => by
          rw [List.any_eq_true]; exact ⟨L[k], List.getElem_mem hkl, by simp [e]⟩
        have HN : Hd (L[k].1 ≠ key → ∀ i (h : i < L.length), i < k + 1 → L[i].1 ≠ key) := fun e i hi hlt' => by
          rcases Nat.lt_or_ge i k with e2 | e2
          · exact HM.out i hi e2
          · have : i = k := by omega
            subst this; exact e
        obtain ⟨x, ex⟩ : ∃ x, x = L[k].1 := ⟨_, rfl⟩
        rw [← ex] at d HY HN
        have hk0 : (0 : Int) ≤ k := by omega
        have hk1 : (k : Int) < n := by omega
        clear hcs ex HM hkl
        by_cases hxe : x = key
        · subst hxe
          have HY2 : Hd (L.any (fun e => e.1 == x) = true) := HY.out rfl
          clear HY HN
          go_wp2_with fail
          go_ret
          exact ⟨by rw [HY2.out]; rfl, HFA.out⟩
        · have HN2 := HN.out hxe
          have hd : (x == key) = false := by simp [hxe]
          have HN3 : Hd (∀ i (h : i < L.length), i < k + 1 → L[i].1 ≠ key) := HN2
          clear HY HN HN2
          go_wp2_with fail
          exact ⟨⟨trivial, k + 1, by simp, by omega, HN3.out⟩, by simp; omega⟩
      · have hd : decide (k < n) = false := by simp; omega
        have HA : Hd (L.any (fun e => e.1 == key) = false) := by
          show _ = _
          rw [List.any_eq_false]
          intro e he
          obtain ⟨i, hi, rfl⟩ := List.getElem_of_mem he
          simpa using HM.out i hi (by have := EN.out; omega)
        clear HM
        go_wp2_with fail
        go_ret
        exact ⟨by rw [HA.out]; rfl, HFA.out⟩
  · have HS : Hd (seesB ⟨fr, tt, (kd, ky, vs), ⟨ok, val, L⟩⟩ key = (ky == key && ((kd == 1) != ok))) := by show _ = _; unfold seesB; rw [if_neg h3]
    rw [HS.out]
    have hd3 : (kd == 3) = false := by simp [h3]
    clear HS HX
    go_enter Try.func41, Try.ntmps41
    go_upto_region 1 with fail
    obtain ⟨W, eW⟩ : ∃ W, W = w.alloc (.cells #[vI fr, vI tt, vI kd, vI ky, .string vs, .bool ok, .string val, .slice ka n kc, .slice va vn vc] 47) := ⟨_, rfl⟩
    rw [← eW] at hbx hfa ⊢
    have HFA : Hd (Fr (fun _ => False) w W) := hfa
    have c2 : W.cell? ⟨w.heap.size, 2, none⟩ = some (vI kd) := cell_of hbx 2
    have c3 : W.cell? ⟨w.heap.size, 3, none⟩ = some (vI ky) := cell_of hbx 3
    have c5 : W.cell? ⟨w.heap.size, 5, none⟩ = some (.bool ok) := cell_of hbx 5
    clear eW hbx hfa HW
    cases hb : (ky == key) with
    | false =>
      go_wp2_with fail
      go_ret
      exact ⟨by rw [hb]; rfl, HFA.out⟩
    | true =>
      go_wp2_with fail
      go_ret
      exact ⟨by rw [hb]; simp [bne], HFA.out⟩

set_option maxRecDepth 100000 in
set_option maxHeartbeats 2000000 in
theorem misses_any (w : World) (C : CallT) (ka : Option Addr) (kn kc : Nat) (va : Option Addr) (vn vc : Nat) (key : Int) (B : Nat) (hk : RowAt w B (.slice ka kn kc) (kCells C.rp.L)) (hB : B ≤ w.heap.size) (hl : C.rp.L.length ≤ 4000000000) :
    Calls Try.prog 42 #[callV C (.slice ka kn kc) (.slice va vn vc), vI key] w fun e w' => e = .returned (.bool (missB C key)) ∧ Fr (fun _ => False) w w' := by
  have hfa := (Fr.refl (fun _ => False) w).alloc (.cells (callC C (.slice ka kn kc) (.slice va vn vc)) 47)
  have hbx := heap_alloc_last w (.cells (callC C (.slice ka kn kc) (.slice va vn vc)) 47)
  have hsees := sees_any (w.alloc (.cells (callC C (.slice ka kn kc) (.slice va vn vc)) 47)) C ka kn kc va vn vc key B (hk.fr hfa hB (fun _ _ h => h)) (Nat.le_trans hB hfa.size) hl
  obtain ⟨sb, esb⟩ : ∃ sb, sb = seesB C key := ⟨_, rfl⟩
  rw [← esb] at hsees
  have hmb : missB C key = if C.op.1 = 3 then !sb else C.op.2.1 == key && C.op.1 == 2 && !C.rp.ok := by rw [esb]; rfl
  rw [hmb]
  clear hmb esb hk hB hl
  obtain ⟨fr, tt, ⟨kd, ky, vs⟩, ⟨ok, val, L⟩⟩ := C
  simp only at hfa hbx hsees ⊢
  by_cases h3 : kd = 3
  · subst h3
    rw [if_pos rfl]
    go_enter Try.func42, Try.ntmps42
    go_upto_region 1 with fail
    obtain ⟨W, eW⟩ : ∃ W, W = w.alloc (.cells #[vI fr, vI tt, vI 3, vI ky, .string vs, .bool ok, .string val, .slice ka kn kc, .slice va vn vc] 47) := ⟨_, rfl⟩
    rw [← eW] at hbx hfa hsees ⊢
    have HFA : Hd (Fr (fun _ => False) w W) := hfa
    have c0 : W.cell? ⟨w.heap.size, 0, none⟩ = some (vI fr) := cell_of hbx 0
    have c1 : W.cell? ⟨w.heap.size, 1, none⟩ = some (vI tt) := cell_of hbx 1
    have c2 : W.cell? ⟨w.heap.size, 2, none⟩ = some (vI 3) := cell_of hbx 2
    have c3 : W.cell? ⟨w.heap.size, 3, none⟩ = some (vI ky) := cell_of hbx 3
    have c4 : W.cell? ⟨w.heap.size, 4, none⟩ = some (.string vs) := cell_of hbx 4
    have c5 : W.cell? ⟨w.heap.size, 5, none⟩ = some (.bool ok) := cell_of hbx 5
    have c6 : W.cell? ⟨w.heap.size, 6, none⟩ = some (.string val) := cell_of hbx 6
    have c7 : W.cell? ⟨w.heap.size, 7, none⟩ = some (.slice ka kn kc) := cell_of hbx 7
    have c8 : W.cell? ⟨w.heap.size, 8, none⟩ = some (.slice va vn vc) := cell_of hbx 8
    clear eW hbx hfa
    go_wp2_with fail
    refine hsees.mono ?_
    rintro _ w2 ⟨rfl, hf2⟩
    have HF2 : Hd (Fr (fun _ => False) w w2) := HFA.out.trans hf2
    clear hsees hf2 HFA c0 c1 c2 c3 c4 c5 c6 c7 c8
    go_wp2_with fail
    go_ret
    exact ⟨rfl, HF2.out⟩
  · rw [if_neg h3]
    have hd3 : (kd == 3) = false := by simp [h3]
    clear hsees
    go_enter Try.func42, Try.ntmps42
    go_upto_region 1 with fail
    obtain ⟨W, eW⟩ : ∃ W, W = w.alloc (.cells #[vI fr, vI tt, vI kd, vI ky, .string vs, .bool ok, .string val, .slice ka kn kc, .slice va vn vc] 47) := ⟨_, rfl⟩
    rw [← eW] at hbx hfa ⊢
    have HFA : Hd (Fr (fun _ => False) w W) := hfa
    have c2 : W.cell? ⟨w.heap.size, 2, none⟩ = some (vI kd) := cell_of hbx 2
    have c3 : W.cell? ⟨w.heap.size, 3, none⟩ = some (vI ky) := cell_of hbx 3
    have c5 : W.cell? ⟨w.heap.size, 5, none⟩ = some (.bool ok) := cell_of hbx 5
    clear eW hbx hfa
    cases hb : (ky == key) with
    | false =>
      go_wp2_with fail
      go_ret
      exact ⟨by rw [hb]; rfl, HFA.out⟩
    | true =>
      cases hb2 : (kd == 2) with
      | false =>
        go_wp2_with fail
        go_ret
        exact ⟨by rw [hb, hb2]; rfl, HFA.out⟩
      | true =>
        go_wp2_with fail
        go_ret
        exact ⟨by rw [hb, hb2]; simp, HFA.out⟩
end Go.Proofs.Ytgcekpmkniipfaa
