import Derived.Test.YtihicdbplmdjiaaGreatQC3J
import Derived.Deep.AppendLies
import Derived.Laws.OwnMore
import Derived.Deep.Onto
set_option linter.unusedVariables false
set_option linter.unusedSimpArgs false
namespace Go.Proofs.YtihicdbplmdjiaaGreat
open Go.RowKit (wrap32 wrap64)

/-- Cells that lie one behind the other below B. -/
def RowB (w : World) (B : Nat) (v : Value) (xs : List Value) : Prop :=
  ∃ ad cap, v = .slice ad xs.length cap ∧ (xs ≠ [] → ∃ g o, ad = some ⟨g, o, none⟩ ∧ g < B ∧ ∀ i (h : i < xs.length), w.cell? ⟨g, o + i, none⟩ = some xs[i])
theorem RowB.fr {w w' : World} {B : Nat} {v : Value} {xs : List Value} (h : RowB w B v xs) {S : Nat → Prop} (f : Fr S w w') (hB : B ≤ w.heap.size) (hS : ∀ j, v.ownBlock = some j → ¬ S j) : RowB w' B v xs := by
  obtain ⟨ad, cap, e, hx⟩ := h
  refine ⟨ad, cap, e, fun hne => ?_⟩
  obtain ⟨g, o, ea, hg, hcs⟩ := hx hne
  exact ⟨g, o, ea, hg, fun i hi => (f.cell (by omega) (hS g (by rw [e, ea]; rfl))).trans (hcs i hi)⟩
theorem RowB.mono {w : World} {B B' : Nat} {v : Value} {xs : List Value} (h : RowB w B v xs) (hB : B ≤ B') : RowB w B' v xs := by
  obtain ⟨ad, cap, e, hx⟩ := h
  refine ⟨ad, cap, e, fun hne => ?_⟩
  obtain ⟨g, o, ea, hg, hcs⟩ := hx hne
  exact ⟨g, o, ea, by omega, hcs⟩
theorem RowB.nil (w : World) (B : Nat) : RowB w B (.slice none 0 0) [] := ⟨none, 0, rfl, fun h => absurd rfl h⟩
theorem RowB.own {w : World} {B e : Nat} {v : Value} {n : Nat} {xs : List Value} (h : w.ownsRow B e 1 v n xs) : RowB w w.heap.size v xs := by
  have hl := h.1
  rcases h.2 with ⟨h2, h3⟩ | ⟨g, cap, cur, e', h3, h4, h5, h6, h7, h8⟩
  · subst h3
    have : xs = [] := List.eq_nil_of_length_eq_zero (by simpa using hl)
    subst this; rw [h2]; exact RowB.nil _ _
  · refine ⟨_, cap, by rw [e']; congr 1; omega, fun _ => ⟨g, 0, rfl, heap_lt h4, fun i hi => ?_⟩⟩
    rw [cell_of h4, Nat.zero_add]
    have : cur[i]? = xs[i]? := by rw [← h8, List.getElem?_take, if_pos (by omega), Array.getElem?_toList]
    rw [this, List.getElem?_eq_getElem hi]

def kCells (L : List Kv) : List Value := L.map (fun e => vI e.1)
def vCells (L : List Kv) : List Value := L.map (fun e => .string e.2)
theorem kLen (L : List Kv) : (kCells L).length = L.length := by simp [kCells]
theorem vLen (L : List Kv) : (vCells L).length = L.length := by simp [vCells]

set_option maxRecDepth 100000 in
set_option maxHeartbeats 2000000 in
theorem eqInts_same (v1 v2 : Value) (zs : List Int) (B1 B2 : Nat) (w : World) (h1 : RowB w B1 v1 (zs.map vI)) (h2 : RowB w B2 v2 (zs.map vI)) (hB1 : B1 ≤ w.heap.size) (hB2 : B2 ≤ w.heap.size) (hl : zs.length ≤ 100000000000000) :
    Calls Tryz.prog 10 #[v1, v2] w fun e w' => e = .returned (.bool true) ∧ Fr (fun _ => False) w w' := by
  obtain ⟨a1, c1, rfl, h1⟩ := h1
  obtain ⟨a2, c2, rfl, h2⟩ := h2
  simp only [List.length_map] at h1 h2 ⊢
  obtain ⟨n, hn⟩ : ∃ n, n = zs.length := ⟨_, rfl⟩
  have HN : Hd (n = zs.length) := hn
  have HB1 : Hd (B1 ≤ w.heap.size) := hB1
  have HB2 : Hd (B2 ≤ w.heap.size) := hB2
  have H1 : Hd (0 < zs.length → ∃ k o, a1 = some ⟨k, o, none⟩ ∧ k < B1 ∧ ∀ j (h : j < zs.length), w.cell? ⟨k, o + j, none⟩ = some (vI zs[j])) := fun hz => by
    obtain ⟨k, o, e1, e2, e3⟩ := h1 (by intro e; rw [List.map_eq_nil_iff] at e; subst e; simp at hz)
    exact ⟨k, o, e1, e2, fun j hj => by rw [e3 j hj]; simp⟩
  have H2 : Hd (0 < zs.length → ∃ k o, a2 = some ⟨k, o, none⟩ ∧ k < B2 ∧ ∀ j (h : j < zs.length), w.cell? ⟨k, o + j, none⟩ = some (vI zs[j])) := fun hz => by
    obtain ⟨k, o, e1, e2, e3⟩ := h2 (by intro e; rw [List.map_eq_nil_iff] at e; subst e; simp at hz)
    exact ⟨k, o, e1, e2, fun j hj => by rw [e3 j hj]; simp⟩
  rw [← hn] at hl ⊢
  clear h1 h2 hn hB1 hB2
  go_enter Tryz.func10, Tryz.ntmps10
  go_wp2_with fail
  go_loopw [5] (fun v wr => ∃ i : Nat, v = .int .i64 i ∧ i ≤ n ∧ Hd (Fr (fun _ => False) w wr)) (fun v _ => match v with | .int _ q => n - q.toNat | _ => 0)
  case atStart => exact ⟨0, rfl, by omega, Fr.refl _ _⟩
  case round =>
    obtain ⟨i, rfl, hi, HF⟩ := hrel
    by_cases hlt : i < n
    · have hlt' : (i : Int) < n := by omega
      have h0 : (0 : Int) ≤ i := by omega
      have hzl : i < zs.length := by have := HN.out; omega
      obtain ⟨k1, o1, rfl, hk1, hc1⟩ := H1.out (by omega)
      obtain ⟨k2, o2, rfl, hk2, hc2⟩ := H2.out (by omega)
      have d1 : wr.cell? ⟨k1, o1 + i, none⟩ = some (vI zs[i]) := (HF.out.cell (Nat.lt_of_lt_of_le hk1 HB1.out) (fun h => h)).trans (hc1 i hzl)
      have d2 : wr.cell? ⟨k2, o2 + i, none⟩ = some (vI zs[i]) := (HF.out.cell (Nat.lt_of_lt_of_le hk2 HB2.out) (fun h => h)).trans (hc2 i hzl)
      obtain ⟨x, hx⟩ : ∃ x, x = zs[i] := ⟨_, rfl⟩
      rw [← hx] at d1 d2
      clear hzl hc1 hc2 hx H1 H2
      go_wp2_with fail
      go_region
      all_goals go_wp2_with fail
      all_goals exact ⟨⟨i + 1, by simp, by omega, HF.out.drew⟩, by simp; omega⟩
    · have hlt' : decide (i < n) = false := by simp; omega
      clear hi
      go_wp2_with fail
      go_ret
      exact ⟨rfl, HF.out⟩

set_option maxRecDepth 100000 in
set_option maxHeartbeats 2000000 in
theorem eqStrings_same (v1 v2 : Value) (zs : List ByteArray) (B1 B2 : Nat) (w : World) (h1 : RowB w B1 v1 (zs.map Value.string)) (h2 : RowB w B2 v2 (zs.map Value.string)) (hB1 : B1 ≤ w.heap.size) (hB2 : B2 ≤ w.heap.size) (hl : zs.length ≤ 100000000000000) :
    Calls Tryz.prog 46 #[v1, v2] w fun e w' => e = .returned (.bool true) ∧ Fr (fun _ => False) w w' := by
  obtain ⟨a1, c1, rfl, h1⟩ := h1
  obtain ⟨a2, c2, rfl, h2⟩ := h2
  simp only [List.length_map] at h1 h2 ⊢
  obtain ⟨n, hn⟩ : ∃ n, n = zs.length := ⟨_, rfl⟩
  have HN : Hd (n = zs.length) := hn
  have HB1 : Hd (B1 ≤ w.heap.size) := hB1
  have HB2 : Hd (B2 ≤ w.heap.size) := hB2
  have H1 : Hd (0 < zs.length → ∃ k o, a1 = some ⟨k, o, none⟩ ∧ k < B1 ∧ ∀ j (h : j < zs.length), w.cell? ⟨k, o + j, none⟩ = some (.string zs[j])) := fun hz => by
    obtain ⟨k, o, e1, e2, e3⟩ := h1 (by intro e; rw [List.map_eq_nil_iff] at e; subst e; simp at hz)
    exact ⟨k, o, e1, e2, fun j hj => by rw [e3 j hj]; simp⟩
  have H2 : Hd (0 < zs.length → ∃ k o, a2 = some ⟨k, o, none⟩ ∧ k < B2 ∧ ∀ j (h : j < zs.length), w.cell? ⟨k, o + j, none⟩ = some (.string zs[j])) := fun hz => by
    obtain ⟨k, o, e1, e2, e3⟩ := h2 (by intro e; rw [List.map_eq_nil_iff] at e; subst e; simp at hz)
    exact ⟨k, o, e1, e2, fun j hj => by rw [e3 j hj]; simp⟩
  rw [← hn] at hl ⊢
  clear h1 h2 hn hB1 hB2
  go_enter Tryz.func46, Tryz.ntmps46
  go_wp2_with fail
  go_loopw [5] (fun v wr => ∃ i : Nat, v = .int .i64 i ∧ i ≤ n ∧ Hd (Fr (fun _ => False) w wr)) (fun v _ => match v with | .int _ q => n - q.toNat | _ => 0)
  case atStart => exact ⟨0, rfl, by omega, Fr.refl _ _⟩
  case round =>
    obtain ⟨i, rfl, hi, HF⟩ := hrel
    by_cases hlt : i < n
    · have hlt' : (i : Int) < n := by omega
      have h0 : (0 : Int) ≤ i := by omega
      have hzl : i < zs.length := by have := HN.out; omega
      obtain ⟨k1, o1, rfl, hk1, hc1⟩ := H1.out (by omega)
      obtain ⟨k2, o2, rfl, hk2, hc2⟩ := H2.out (by omega)
      have d1 : wr.cell? ⟨k1, o1 + i, none⟩ = some (.string zs[i]) := (HF.out.cell (Nat.lt_of_lt_of_le hk1 HB1.out) (fun h => h)).trans (hc1 i hzl)
      have d2 : wr.cell? ⟨k2, o2 + i, none⟩ = some (.string zs[i]) := (HF.out.cell (Nat.lt_of_lt_of_le hk2 HB2.out) (fun h => h)).trans (hc2 i hzl)
      obtain ⟨x, hx⟩ : ∃ x, x = zs[i] := ⟨_, rfl⟩
      rw [← hx] at d1 d2
      clear hzl hc1 hc2 hx H1 H2
      go_wp2_with fail
      go_region
      all_goals go_wp2_with fail
      all_goals exact ⟨⟨i + 1, by simp, by omega, HF.out.drew⟩, by simp; omega⟩
    · have hlt' : decide (i < n) = false := by simp; omega
      clear hi
      go_wp2_with fail
      go_ret
      exact ⟨rfl, HF.out⟩

/-! ### copies -/
theorem info9 : (Tryz.prog.info? 9).map (fun i => (i.zero, i.size, i.bytes)) = some (some (.string ⟨#[]⟩), 1, 16) := by kernel_rfl

theorem adr (b j : Nat) : (⟨b, 0, none⟩ : Addr).add j = ⟨b, j, none⟩ := by unfold Addr.add; split <;> simp_all
theorem under27 : Tryz.prog.underlying 23 = some (.slice 3) := by kernel_rfl
theorem under28 : Tryz.prog.underlying 37 = some (.slice 9) := by kernel_rfl
theorem one_new (w : World) (x : Value) (e : TypeId) : ∀ j u, [x][j]? = some u → (w.alloc (.cells #[x] e)).cell? ((⟨w.heap.size, 0, none⟩ : Addr).add j) = some u := fun j u hj => by
  cases j with
  | zero => rw [adr, cell_of (heap_alloc_last w _)]; simpa using hj
  | succ j => simp at hj

set_option maxRecDepth 100000 in
set_option maxHeartbeats 2000000 in
theorem copyInts_any (v1 : Value) (zs : List Int) (B1 : Nat) (w : World) (h1 : RowB w B1 v1 (zs.map vI)) (hB1 : B1 ≤ w.heap.size) (hl : zs.length ≤ 10000000000000) :
    Calls Tryz.prog 38 #[v1] w fun e w' => ∃ v', e = .returned v' ∧ w'.ownsRow w.heap.size 3 1 v' zs.length (zs.map vI) ∧ Fr (fun _ => False) w w' := by
  obtain ⟨i3, hi3, hz3, hs3, hb3⟩ := info_parts info3
  obtain ⟨a1, c1, rfl, h1⟩ := h1
  simp only [List.length_map] at h1 ⊢
  obtain ⟨n, hn⟩ : ∃ n, n = zs.length := ⟨_, rfl⟩
  have HN : Hd (n = zs.length) := hn
  have HB1 : Hd (B1 ≤ w.heap.size) := hB1
  have H1 : Hd (0 < zs.length → ∃ k o, a1 = some ⟨k, o, none⟩ ∧ k < B1 ∧ ∀ j (h : j < zs.length), w.cell? ⟨k, o + j, none⟩ = some (vI zs[j])) := fun hz => by
    obtain ⟨k, o, e1, e2, e3⟩ := h1 (by intro e; rw [List.map_eq_nil_iff] at e; subst e; simp at hz)
    exact ⟨k, o, e1, e2, fun j hj => by rw [e3 j hj]; simp⟩
  rw [← hn] at hl ⊢
  clear h1 hn hB1
  go_enter Tryz.func38, Tryz.ntmps38
  go_wp2_with fail
  go_loopw [3, 4] (fun v3 v wr => ∃ i : Nat, v = .int .i64 i ∧ i ≤ n ∧ Hd (wr.ownsRow w.heap.size 3 1 v3 i ((zs.take i).map vI) ∧ Fr (fun _ => False) w wr)) (fun _ v _ => match v with | .int _ q => n - q.toNat | _ => 0)
  case atStart => exact ⟨0, rfl, by omega, World.ownsRow_nil _ _ _ _, Fr.refl _ _⟩
  case round =>
    obtain ⟨i, rfl, hi, HF⟩ := hrel
    by_cases hlt : i < n
    · have hlt' : (i : Int) < n := by omega
      have h0 : (0 : Int) ≤ i := by omega
      have hzl : i < zs.length := by have := HN.out; omega
      obtain ⟨k1, o1, rfl, hk1, hc1⟩ := H1.out (by omega)
      have d1 : wr.cell? ⟨k1, o1 + i, none⟩ = some (vI zs[i]) := (HF.out.2.cell (Nat.lt_of_lt_of_le hk1 HB1.out) (fun h => h)).trans (hc1 i hzl)
      have et : (zs.take (i + 1)).map vI = (zs.take i).map vI ++ [vI zs[i]] := by rw [List.take_add_one, List.getElem?_eq_getElem hzl, List.map_append]; rfl
      obtain ⟨x, hx⟩ : ∃ x, x = zs[i] := ⟨_, rfl⟩
      rw [← hx] at d1 et
      obtain ⟨g, cap, w2, hr, hown, hgr, hw, -⟩ := run_append_lies (P := Tryz.prog) (w := wr.alloc (.cells #[vI x] 3)) 23 23 w.heap.size 3 i3 (vI 0) 1 8 under27 hi3 hz3 hs3 hb3 rfl (by omega) u3 i _ (World.ownsRow.alloc HF.out.1 _) ⟨wr.heap.size, 0, none⟩ 1 1 [vI x] rfl (one_new wr (vI x) 3) (by intro u hu; rw [List.mem_singleton.1 hu]; rfl) (by omega) (by unfold maxLen; omega) (by omega) (by have := HF.out.2.size; simp; omega) _ rfl
      rw [← et] at hown
      have HA : Hd ((Builtin.append_ #[23, 23] 23 #[u3, .slice (some ⟨wr.heap.size, 0, none⟩) 1 1]).run Tryz.prog (wr.alloc (.cells #[vI x] 3)) = .ok (.slice (some ⟨g, 0, none⟩) (i + 1) cap) w2) := hr
      have HE : Hd (w2.ownsRow w.heap.size 3 1 (.slice (some ⟨g, 0, none⟩) (i + 1) cap) (i + 1) ((zs.take (i + 1)).map vI) ∧ Fr (fun _ => False) w w2) := ⟨hown, (HF.out.2.alloc _).under (grown_fr hgr) (fun j hj => (World.ownsRow.lt HF.out.1 j hj).1)⟩
      clear hzl hc1 hx H1 hr hown hgr hw et HF
      go_wp2_with (at_builtin; refine wpList_append_run rfl (.tmp 11) (.tmp 16) 23 rfl _ _ _ rfl rfl HA.out ?_)
      exact ⟨⟨i + 1, by simp, by omega, HE.out⟩, by simp; omega⟩
    · have hlt' : decide (i < n) = false := by simp; omega
      have ei : i = n := by omega
      subst ei
      have HE : Hd (wr.ownsRow w.heap.size 3 1 u3 i (zs.map vI) ∧ Fr (fun _ => False) w wr) := by
        have := HF.out
        rw [List.take_of_length_le (by have := HN.out; omega)] at this
        exact this
      clear hi HF
      go_wp2_with fail
      go_ret
      exact ⟨_, rfl, HE.out.1, HE.out.2⟩
set_option maxRecDepth 100000 in
set_option maxHeartbeats 2000000 in
theorem copyStrings_any (v1 : Value) (zs : List ByteArray) (B1 : Nat) (w : World) (h1 : RowB w B1 v1 (zs.map Value.string)) (hB1 : B1 ≤ w.heap.size) (hl : zs.length ≤ 5000000000000) :
    Calls Tryz.prog 39 #[v1] w fun e w' => ∃ v', e = .returned v' ∧ w'.ownsRow w.heap.size 9 1 v' zs.length (zs.map Value.string) ∧ Fr (fun _ => False) w w' := by
  obtain ⟨i3, hi3, hz3, hs3, hb3⟩ := info_parts info9
  obtain ⟨a1, c1, rfl, h1⟩ := h1
  simp only [List.length_map] at h1 ⊢
  obtain ⟨n, hn⟩ : ∃ n, n = zs.length := ⟨_, rfl⟩
  have HN : Hd (n = zs.length) := hn
  have HB1 : Hd (B1 ≤ w.heap.size) := hB1
  have H1 : Hd (0 < zs.length → ∃ k o, a1 = some ⟨k, o, none⟩ ∧ k < B1 ∧ ∀ j (h : j < zs.length), w.cell? ⟨k, o + j, none⟩ = some (.string zs[j])) := fun hz => by
    obtain ⟨k, o, e1, e2, e3⟩ := h1 (by intro e; rw [List.map_eq_nil_iff] at e; subst e; simp at hz)
    exact ⟨k, o, e1, e2, fun j hj => by rw [e3 j hj]; simp⟩
  rw [← hn] at hl ⊢
  clear h1 hn hB1
  go_enter Tryz.func39, Tryz.ntmps39
  go_wp2_with fail
  go_loopw [3, 4] (fun v3 v wr => ∃ i : Nat, v = .int .i64 i ∧ i ≤ n ∧ Hd (wr.ownsRow w.heap.size 9 1 v3 i ((zs.take i).map Value.string) ∧ Fr (fun _ => False) w wr)) (fun _ v _ => match v with | .int _ q => n - q.toNat | _ => 0)
  case atStart => exact ⟨0, rfl, by omega, World.ownsRow_nil _ _ _ _, Fr.refl _ _⟩
  case round =>
    obtain ⟨i, rfl, hi, HF⟩ := hrel
    by_cases hlt : i < n
    · have hlt' : (i : Int) < n := by omega
      have h0 : (0 : Int) ≤ i := by omega
      have hzl : i < zs.length := by have := HN.out; omega
      obtain ⟨k1, o1, rfl, hk1, hc1⟩ := H1.out (by omega)
      have d1 : wr.cell? ⟨k1, o1 + i, none⟩ = some (.string zs[i]) := (HF.out.2.cell (Nat.lt_of_lt_of_le hk1 HB1.out) (fun h => h)).trans (hc1 i hzl)
      have et : (zs.take (i + 1)).map Value.string = (zs.take i).map Value.string ++ [.string zs[i]] := by rw [List.take_add_one, List.getElem?_eq_getElem hzl, List.map_append]; rfl
      obtain ⟨x, hx⟩ : ∃ x, x = zs[i] := ⟨_, rfl⟩
      rw [← hx] at d1 et
      obtain ⟨g, cap, w2, hr, hown, hgr, hw, -⟩ := run_append_lies (P := Tryz.prog) (w := wr.alloc (.cells #[.string x] 9)) 37 37 w.heap.size 9 i3 (.string ⟨#[]⟩) 1 16 under28 hi3 hz3 hs3 hb3 rfl (by omega) u3 i _ (World.ownsRow.alloc HF.out.1 _) ⟨wr.heap.size, 0, none⟩ 1 1 [.string x] rfl (one_new wr (.string x) 9) (by intro u hu; rw [List.mem_singleton.1 hu]; rfl) (by omega) (by unfold maxLen; omega) (by omega) (by have := HF.out.2.size; simp; omega) _ rfl
      rw [← et] at hown
      have HA : Hd ((Builtin.append_ #[37, 37] 37 #[u3, .slice (some ⟨wr.heap.size, 0, none⟩) 1 1]).run Tryz.prog (wr.alloc (.cells #[.string x] 9)) = .ok (.slice (some ⟨g, 0, none⟩) (i + 1) cap) w2) := hr
      have HE : Hd (w2.ownsRow w.heap.size 9 1 (.slice (some ⟨g, 0, none⟩) (i + 1) cap) (i + 1) ((zs.take (i + 1)).map Value.string) ∧ Fr (fun _ => False) w w2) := ⟨hown, (HF.out.2.alloc _).under (grown_fr hgr) (fun j hj => (World.ownsRow.lt HF.out.1 j hj).1)⟩
      clear hzl hc1 hx H1 hr hown hgr hw et HF
      go_wp2_with (at_builtin; refine wpList_append_run rfl (.tmp 11) (.tmp 16) 37 rfl _ _ _ rfl rfl HA.out ?_)
      exact ⟨⟨i + 1, by simp, by omega, HE.out⟩, by simp; omega⟩
    · have hlt' : decide (i < n) = false := by simp; omega
      have ei : i = n := by omega
      subst ei
      have HE : Hd (wr.ownsRow w.heap.size 9 1 u3 i (zs.map Value.string) ∧ Fr (fun _ => False) w wr) := by
        have := HF.out
        rw [List.take_of_length_le (by have := HN.out; omega)] at this
        exact this
      clear hi HF
      go_wp2_with fail
      go_ret
      exact ⟨_, rfl, HE.out.1, HE.out.2⟩

theorem Fr.drewN {S : Nat → Prop} {a w : World} (h : Fr S a w) (n : Nat) : Fr S a (w.drewN n) := ⟨h.os, h.tape, h.output, h.size, h.block⟩
/-! ### the document's table -/
structure Rt (w : World) (B c : Nat) (kv vv : Value) (L : List Kv) : Prop where
  obj : w.heap[c]? = some (.cells #[kv, vv] 68)
  ks : w.ownsRow B 3 1 kv L.length (kCells L)
  vs : w.ownsRow B 9 1 vv L.length (vCells L)
  nk : kv.ownBlock ≠ some c
  nv : vv.ownBlock ≠ some c
  ap : ∀ g, kv.ownBlock = some g → vv.ownBlock ≠ some g
  rise : Rise L
theorem Rt.fr {S : Nat → Prop} {w w' : World} {B c : Nat} {kv vv : Value} {L : List Kv} (h : Rt w B c kv vv L) (f : Fr S w w') (hc : ¬ S c) (hk : ∀ g, kv.ownBlock = some g → ¬ S g) (hv : ∀ g, vv.ownBlock = some g → ¬ S g) : Rt w' B c kv vv L :=
  ⟨(f.block c (heap_lt h.obj) hc).trans h.obj, ownsRow_fr h.ks f hk, ownsRow_fr h.vs f hv, h.nk, h.nv, h.ap, h.rise⟩

/-- Where a key stands, or would stand. -/
structure Plc (L : List Kv) (key : Int) (p : Nat) : Prop where
  le : p ≤ L.length
  lo : ∀ i (h : i < L.length), i < p → L[i].1 < key
  hi : ∀ i (h : i < L.length), p ≤ i → key ≤ L[i].1
theorem Plc.lk {L : List Kv} {key : Int} {p : Nat} (h : Plc L key p) (hr : Rise L) : look L key = if hp : p < L.length then (if L[p].1 = key then some L[p].2 else none) else none := by
  cases hl : look L key with
  | some v =>
    obtain ⟨i, hi, e⟩ := List.getElem_of_mem (look_mem hl)
    have h1 : ¬ i < p := fun hlt => by have := h.lo i hi hlt; rw [e] at this; exact absurd this (Int.lt_irrefl _)
    have h2 : ¬ p < i := fun hlt => by
      have := (List.pairwise_iff_getElem.1 hr) p i (by omega) hi hlt
      rw [e] at this
      have h3 := h.hi p (by omega) (Nat.le_refl _)
      simp only at this
      omega
    have e2 : i = p := by omega
    subst e2
    rw [dif_pos hi, if_pos (by rw [e]), e]
  | none =>
    split
    · rename_i hp
      rw [if_neg (look_none_mem hl _ (List.getElem_mem hp))]
    · rfl
theorem ins_eq : ∀ {L : List Kv} {key : Int} {p : Nat}, Plc L key p → (∀ (hp : p < L.length), L[p].1 ≠ key) → ∀ v, insK L key v = L.take p ++ (key, v) :: L.drop p
  | [], key, p, h, _, v => by
    have : p = 0 := by have := h.le; simpa using this
    subst this; rfl
  | e :: r, key, 0, h, hn, v => by
    have h1 := h.hi 0 (by simp) (Nat.le_refl _)
    have h2 := hn (by simp)
    simp only [List.getElem_cons_zero] at h1 h2
    unfold insK
    rw [if_neg (by omega)]
    rfl
  | e :: r, key, p + 1, h, hn, v => by
    have h1 := h.lo 0 (by simp) (by omega)
    simp only [List.getElem_cons_zero] at h1
    unfold insK
    rw [if_pos h1]
    have : Plc r key p := ⟨by have := h.le; simpa using this, fun i hi hlt => by have := h.lo (i + 1) (by simpa using hi) (by omega); simpa using this, fun i hi hlt => by have := h.hi (i + 1) (by simpa using hi) (by omega); simpa using this⟩
    rw [ins_eq this (fun hp => by have := hn (by simpa using hp); simpa using this) v]
    rfl

set_option maxRecDepth 100000 in
set_option maxHeartbeats 4000000 in
theorem at_any (w : World) (B c : Nat) (kv vv : Value) (L : List Kv) (key : Int) (h : Rt w B c kv vv L) (hl : L.length ≤ 4000000000) :
    Calls Tryz.prog 60 #[.pointer (some ⟨c, 0, none⟩), vI key] w fun e w' => ∃ p, e = .returned (.tuple #[vI (p : Nat), .bool (look L key).isSome]) ∧ Plc L key p ∧ Fr (fun _ => False) w w' := by
  have hk := RowB.own h.ks
  obtain ⟨a, cap, e, hx⟩ := hk
  rw [kLen] at e
  have o0 := h.obj
  have HR : Hd (Rise L) := h.rise
  subst e
  have c0 := cell_of o0 0
  simp only [List.getElem?_toArray, List.getElem?_cons_zero] at c0
  have HX : Hd (0 < L.length → ∃ g o, a = some ⟨g, o, none⟩ ∧ ∀ i (h : i < L.length), w.cell? ⟨g, o + i, none⟩ = some (vI L[i].1)) := fun hp => by
    obtain ⟨g, o, e1, -, e3⟩ := hx (by intro e; have := kLen L; rw [e] at this; simp at this; omega)
    exact ⟨g, o, e1, fun i hi => by have := e3 i (by rw [kLen]; exact hi); simpa [kCells] using this⟩
  obtain ⟨n, en⟩ : ∃ n, n = L.length := ⟨_, rfl⟩
  have EN : Hd (n = L.length) := en
  rw [← en] at c0 hl
  clear h o0 hx en
  go_enter Tryz.func60, Tryz.ntmps60
  go_wp2_with fail
  go_loopw [6, 7, 8] (fun v6 v7 _ wr => wr = w ∧ ∃ lo hi : Nat, v6 = .int .i64 lo ∧ v7 = .int .i64 hi ∧ lo ≤ hi ∧ hi ≤ n ∧ Hd ((∀ i (h : i < L.length), i < lo → L[i].1 < key) ∧ ∀ i (h : i < L.length), hi ≤ i → key ≤ L[i].1)) (fun v6 v7 _ _ => match v6, v7 with | .int _ a, .int _ b => (b - a).toNat | _, _ => 0)
  case atStart => exact ⟨rfl, 0, n, rfl, rfl, by omega, by omega, fun i _ h => by omega, fun i hi h => by have := EN.out; omega⟩
  case round =>
    obtain ⟨rfl, lo, hi, rfl, rfl, hle, hhi, HM⟩ := hrel
    by_cases hlt : lo < hi
    · obtain ⟨md, emd⟩ : ∃ md : Nat, md = lo + (hi - lo) / 2 := ⟨_, rfl⟩
      have hmd1 : lo ≤ md := by omega
      have hmd2 : md < hi := by omega
      have hml : md < L.length := by have := EN.out; omega
      obtain ⟨g, o, rfl, hcs⟩ := HX.out (by omega)
      have d := hcs md hml
      obtain ⟨x, ex⟩ : ∃ x, x = L[md].1 := ⟨_, rfl⟩
      have EX : Hd (L[md].1 = x) := ex.symm
      rw [← ex] at d
      have hm0 : (0 : Int) ≤ (lo : Int) + ((hi - lo : Nat) : Int) / 2 := by omega
      have hm3 : (lo : Int) + ((hi - lo : Nat) : Int) / 2 < n := by omega
      rw [emd] at d
      have HMD : Hd (md = lo + (hi - lo) / 2) := emd
      clear hcs ex
      by_cases hxk : x < key
      · have HN : Hd ((∀ i (h : i < L.length), i < md + 1 → L[i].1 < key) ∧ ∀ i (h : i < L.length), hi ≤ i → key ≤ L[i].1) := ⟨fun i hi' hlt' => by
          rcases Nat.lt_or_ge i md with e | e
          · have := (List.pairwise_iff_getElem.1 HR.out) i md hi' hml e
            have := EX.out; omega
          · have : i = md := by omega
            subst this; rw [EX.out]; exact hxk, HM.out.2⟩
        clear HM EX hml emd
        go_wp2_with fail
        exact ⟨⟨trivial, md + 1, hi, by have := HMD.out; congr 1; omega, rfl, by omega, hhi, HN.out⟩, by have := HMD.out; simp; omega⟩
      · have HN : Hd ((∀ i (h : i < L.length), i < lo → L[i].1 < key) ∧ ∀ i (h : i < L.length), md ≤ i → key ≤ L[i].1) := ⟨HM.out.1, fun i hi' hge => by
          rcases Nat.eq_or_lt_of_le hge with e | e
          · subst e; have := EX.out; omega
          · have := (List.pairwise_iff_getElem.1 HR.out) md i hml hi' e
            have := EX.out; omega⟩
        have hd : decide (x < key) = false := by simp; omega
        clear HM EX hml emd
        go_wp2_with fail
        exact ⟨⟨trivial, lo, md, rfl, by have := HMD.out; congr 1; omega, hmd1, by omega, HN.out⟩, by have := HMD.out; simp; omega⟩
    · have hd : decide (lo < hi) = false := by simp; omega
      have ehl : hi = lo := by omega
      subst ehl
      have HP : Hd (Plc L key hi) := ⟨by have := EN.out; omega, HM.out.1, HM.out.2⟩
      have HL := HP.out.lk HR.out
      clear HM
      by_cases hn : hi < n
      · have hml : hi < L.length := by have := EN.out; omega
        obtain ⟨g, o, rfl, hcs⟩ := HX.out (by omega)
        have d := hcs hi hml
        rw [dif_pos hml] at HL
        obtain ⟨x, ex⟩ : ∃ x, x = L[hi].1 := ⟨_, rfl⟩
        rw [← ex] at d HL
        have hm0 : (0 : Int) ≤ hi := by omega
        have hm3 : (hi : Int) < n := by omega
        obtain ⟨bl, ebl⟩ : ∃ bl, bl = (x == key) := ⟨_, rfl⟩
        have HB : Hd ((look L key).isSome = bl) := by
          show _ = _
          rw [HL, ebl]
          by_cases e : x = key
          · simp [e]
          · simp [e]
        clear hcs ex HL hml
        go_wp2_with fail
        go_quiet (fail)
        go_wp2_with fail
        go_ret2
        exact ⟨hi, by rw [HB.out, ebl]; rfl, HP.out, (Fr.refl _ _).drewN _⟩
      · have hd2 : decide (hi < n) = false := by simp; omega
        have HB : Hd ((look L key).isSome = false) := by
          show _ = _
          rw [HL, dif_neg (by have := EN.out; omega)]; rfl
        clear HL
        go_wp2_with fail
        go_quiet (fail)
        go_wp2_with fail
        go_ret2
        exact ⟨hi, by rw [HB.out]; rfl, HP.out, (Fr.refl _ _).drewN _⟩

/-! ### a list with one place more -/
def sh {α : Type} (xs : List α) (k : Nat) (y : α) : List α := xs.take k ++ y :: xs.drop k
theorem sh_len {α : Type} (xs : List α) (k : Nat) (y : α) (h : k ≤ xs.length) : (sh xs k y).length = xs.length + 1 := by unfold sh; simp; omega
theorem sh_end {α : Type} (xs : List α) (y : α) : xs ++ [y] = sh xs xs.length y := by unfold sh; simp
theorem sh_set {α : Type} (xs : List α) (k : Nat) (y z : α) (h : k ≤ xs.length) : (sh xs k y).set k z = sh xs k z := by
  unfold sh
  rw [List.set_append, if_neg (by simp; omega)]
  have : k - (xs.take k).length = 0 := by simp; omega
  rw [this]; rfl
theorem sh_get {α : Type} (xs : List α) (k : Nat) (y : α) (h : k < xs.length) : (sh xs (k + 1) y)[k]? = xs[k]? := by
  unfold sh
  rw [List.getElem?_append_left (by simp; omega), List.getElem?_take, if_pos (by omega)]
theorem sh_down {α : Type} (xs : List α) (k : Nat) (y : α) (h : k < xs.length) : (sh xs (k + 1) y).set (k + 1) xs[k] = sh xs k xs[k] := by
  rw [sh_set _ _ _ _ (by omega)]
  unfold sh
  have e1 : xs.take (k + 1) = xs.take k ++ [xs[k]] := by rw [List.take_add_one, List.getElem?_eq_getElem h]; rfl
  have e2 : xs.drop k = xs[k] :: xs.drop (k + 1) := List.drop_eq_getElem_cons h
  rw [e1, e2, List.append_assoc]; rfl

/-- The document's table while a key is put in. -/
structure Sf (w : World) (B c g1 c1 g2 c2 n : Nat) (ks vs : List Value) : Prop where
  obj : w.heap[c]? = some (.cells #[.slice (some ⟨g1, 0, none⟩) (n + 1) c1, .slice (some ⟨g2, 0, none⟩) (n + 1) c2] 68)
  ks : w.ownsRow B 3 1 (.slice (some ⟨g1, 0, none⟩) (n + 1) c1) (n + 1) ks
  vs : w.ownsRow B 9 1 (.slice (some ⟨g2, 0, none⟩) (n + 1) c2) (n + 1) vs
  n1 : g1 ≠ c
  n2 : g2 ≠ c
  ne : g1 ≠ g2
theorem Sf.drew {w : World} {B c g1 c1 g2 c2 n : Nat} {ks vs : List Value} (h : Sf w B c g1 c1 g2 c2 n ks vs) : Sf w.drew B c g1 c1 g2 c2 n ks vs := ⟨h.obj, h.ks, h.vs, h.n1, h.n2, h.ne⟩
theorem Sf.setK {w : World} {B c g1 c1 g2 c2 n : Nat} {ks vs : List Value} (h : Sf w B c g1 c1 g2 c2 n ks vs) (j : Nat) (u : Value) : Sf (w.setCell ⟨g1, j, none⟩ u) B c g1 c1 g2 c2 n (ks.set j u) vs := by
  have f := (Fr.refl (fun k => k = g1) w).setCell ⟨g1, j, none⟩ u (Or.inl rfl)
  exact ⟨(f.block c (heap_lt h.obj) (fun e => h.n1 e.symm)).trans h.obj, (World.ownsRow.stored h.ks j u).1, ownsRow_fr h.vs f (fun k e1 e2 => by have : g2 = k := Option.some.inj e1; exact h.ne (by omega)), h.n1, h.n2, h.ne⟩
theorem Sf.setV {w : World} {B c g1 c1 g2 c2 n : Nat} {ks vs : List Value} (h : Sf w B c g1 c1 g2 c2 n ks vs) (j : Nat) (u : Value) : Sf (w.setCell ⟨g2, j, none⟩ u) B c g1 c1 g2 c2 n ks (vs.set j u) := by
  have f := (Fr.refl (fun k => k = g2) w).setCell ⟨g2, j, none⟩ u (Or.inl rfl)
  exact ⟨(f.block c (heap_lt h.obj) (fun e => h.n2 e.symm)).trans h.obj, ownsRow_fr h.ks f (fun k e1 e2 => by have : g1 = k := Option.some.inj e1; exact h.ne (by omega)), (World.ownsRow.stored h.vs j u).1, h.n1, h.n2, h.ne⟩

/-- Both lists get one place more. -/
theorem Rt.grow {w : World} {B c : Nat} {kv vv : Value} {L : List Kv} (h : Rt w B c kv vv L) (hB : B ≤ w.heap.size) (hl : L.length ≤ 4000000000) :
    ∃ g1 c1 w2 g2 c2 w4, (Builtin.append_ #[23, 23] 23 #[kv, .slice (some ⟨w.heap.size, 0, none⟩) 1 1]).run Tryz.prog (w.alloc (.cells #[vI 0] 3)) = .ok (.slice (some ⟨g1, 0, none⟩) (L.length + 1) c1) w2 ∧
      w2.heap[c]? = some (.cells #[kv, vv] 68) ∧ (w2.setCell ⟨c, 0, none⟩ (.slice (some ⟨g1, 0, none⟩) (L.length + 1) c1)).heap[c]? = some (.cells #[.slice (some ⟨g1, 0, none⟩) (L.length + 1) c1, vv] 68) ∧
      (Builtin.append_ #[37, 37] 37 #[vv, .slice (some ⟨(w2.setCell ⟨c, 0, none⟩ (.slice (some ⟨g1, 0, none⟩) (L.length + 1) c1)).heap.size, 0, none⟩) 1 1]).run Tryz.prog ((w2.setCell ⟨c, 0, none⟩ (.slice (some ⟨g1, 0, none⟩) (L.length + 1) c1)).alloc (.cells #[.string ⟨#[]⟩] 9)) = .ok (.slice (some ⟨g2, 0, none⟩) (L.length + 1) c2) w4 ∧
      w4.heap[c]? = some (.cells #[.slice (some ⟨g1, 0, none⟩) (L.length + 1) c1, vv] 68) ∧
      Sf (w4.setCell ⟨c, 1, none⟩ (.slice (some ⟨g2, 0, none⟩) (L.length + 1) c2)) B c g1 c1 g2 c2 L.length (sh (kCells L) L.length (vI 0)) (sh (vCells L) L.length (.string ⟨#[]⟩)) ∧
      Fr (fun j => j = c ∨ kv.ownBlock = some j ∨ vv.ownBlock = some j) w (w4.setCell ⟨c, 1, none⟩ (.slice (some ⟨g2, 0, none⟩) (L.length + 1) c2)) ∧
      (∀ j, g1 = j → kv.ownBlock = some j ∨ w.heap.size ≤ j) ∧ (∀ j, g2 = j → vv.ownBlock = some j ∨ w.heap.size ≤ j) := by
  obtain ⟨i3, hi3, hz3, hs3, hb3⟩ := info_parts info3
  obtain ⟨i9, hi9, hz9, hs9, hb9⟩ := info_parts info9
  obtain ⟨g1, c1, w2, hr1, ho1, hg1, hw1, hlt1⟩ := run_append_lies (P := Tryz.prog) (w := w.alloc (.cells #[vI 0] 3)) 23 23 B 3 i3 (vI 0) 1 8 under27 hi3 hz3 hs3 hb3 rfl (by omega) kv L.length _ (World.ownsRow.alloc h.ks _) ⟨w.heap.size, 0, none⟩ 1 1 [vI 0] rfl (one_new w (vI 0) 3) (by intro u hu; rw [List.mem_singleton.1 hu]; rfl) (by omega) (by unfold maxLen; omega) (by omega) (by simp; omega) _ rfl
  have f1 : Fr (fun j => kv.ownBlock = some j) w w2 := ((Fr.refl _ w).alloc _).trans (grown_fr hg1)
  have hcl := heap_lt h.obj
  have e2 : w2.heap[c]? = some (.cells #[kv, vv] 68) := (f1.block c hcl h.nk).trans h.obj
  have hs1 := f1.size
  have hg1c : g1 ≠ c := by
    intro e; subst e
    rcases hw1 with e | e
    · exact h.nk e
    · simp at e; omega
  have e3 : (w2.setCell ⟨c, 0, none⟩ (.slice (some ⟨g1, 0, none⟩) (L.length + 1) c1)).heap[c]? = some (.cells #[.slice (some ⟨g1, 0, none⟩) (L.length + 1) c1, vv] 68) := by rw [set_of e2]; rfl
  have f3 : Fr (fun j => j = c ∨ kv.ownBlock = some j) w (w2.setCell ⟨c, 0, none⟩ (.slice (some ⟨g1, 0, none⟩) (L.length + 1) c1)) := (f1.mono (fun _ _ e => Or.inr e)).setCell _ _ (Or.inl (Or.inl rfl))
  have f2' : Fr (fun j => j = c) w2 (w2.setCell ⟨c, 0, none⟩ (.slice (some ⟨g1, 0, none⟩) (L.length + 1) c1)) := (Fr.refl _ w2).setCell _ _ (Or.inl rfl)
  have k3 := ownsRow_fr ho1 f2' (fun k e1 e2 => by have : g1 = k := Option.some.inj e1; exact hg1c (by omega))
  have v3 : (w2.setCell ⟨c, 0, none⟩ (.slice (some ⟨g1, 0, none⟩) (L.length + 1) c1)).ownsRow B 9 1 vv L.length (vCells L) := ownsRow_fr h.vs f3 (fun k e1 e2 => by
    rcases e2 with e2 | e2
    · subst e2; exact h.nv e1
    · exact h.ap k e2 e1)
  have hlt3 : g1 < (w2.setCell ⟨c, 0, none⟩ (.slice (some ⟨g1, 0, none⟩) (L.length + 1) c1)).heap.size := by simpa using hlt1
  have hs3' := f3.size
  obtain ⟨w3, ew3⟩ : ∃ w3, w3 = w2.setCell ⟨c, 0, none⟩ (.slice (some ⟨g1, 0, none⟩) (L.length + 1) c1) := ⟨_, rfl⟩
  rw [← ew3] at e3 f3 k3 v3 hlt3 hs3'
  obtain ⟨g2, c2, w4, hr2, ho2, hg2, hw2, hlt2⟩ := run_append_lies (P := Tryz.prog) (w := w3.alloc (.cells #[.string ⟨#[]⟩] 9)) 37 37 B 9 i9 (.string ⟨#[]⟩) 1 16 under28 hi9 hz9 hs9 hb9 rfl (by omega) vv L.length _ (World.ownsRow.alloc v3 _) ⟨w3.heap.size, 0, none⟩ 1 1 [.string ⟨#[]⟩] rfl (one_new w3 (.string ⟨#[]⟩) 9) (by intro u hu; rw [List.mem_singleton.1 hu]; rfl) (by omega) (by unfold maxLen; omega) (by omega) (by simp; omega) _ rfl
  have f4 : Fr (fun j => vv.ownBlock = some j) w3 w4 := ((Fr.refl _ w3).alloc _).trans (grown_fr hg2)
  have hcl3 := heap_lt e3
  have e4 : w4.heap[c]? = some (.cells #[.slice (some ⟨g1, 0, none⟩) (L.length + 1) c1, vv] 68) := (f4.block c hcl3 h.nv).trans e3
  have hg2c : g2 ≠ c := by
    intro e; subst e
    rcases hw2 with e | e
    · exact h.nv e
    · simp at e; omega
  have hv1 : vv.ownBlock ≠ some g1 := by
    intro e
    rcases hw1 with e1 | e1
    · exact h.ap g1 e1 e
    · have := (World.ownsRow.lt h.vs g1 e).2
      simp at e1; omega
  have hg12 : g1 ≠ g2 := by
    intro e; subst e
    rcases hw2 with e | e
    · exact hv1 e
    · simp at e; omega
  have k4 := ownsRow_fr k3 f4 (fun k e1 e2 => by have : g1 = k := Option.some.inj e1; subst this; exact hv1 e2)
  have f5' : Fr (fun j => j = c) w4 (w4.setCell ⟨c, 1, none⟩ (.slice (some ⟨g2, 0, none⟩) (L.length + 1) c2)) := (Fr.refl _ w4).setCell _ _ (Or.inl rfl)
  rw [ew3] at hr2 e3
  refine ⟨g1, c1, w2, g2, c2, w4, hr1, e2, e3, hr2, e4, ⟨?_, ?_, ?_, hg1c, hg2c, hg12⟩, ?_, ?_, ?_⟩
  · rw [set_of e4]; rfl
  · have := ownsRow_fr k4 f5' (fun k e1 e2 => by have : g1 = k := Option.some.inj e1; exact hg1c (by omega))
    rw [← kLen L, ← sh_end, kLen]; exact this
  · have := ownsRow_fr ho2 f5' (fun k e1 e2 => by have : g2 = k := Option.some.inj e1; exact hg2c (by omega))
    rw [← vLen L, ← sh_end, vLen]; exact this
  · refine Fr.setCell ?_ _ _ (Or.inl (Or.inl rfl))
    refine (f3.mono (fun k _ e => ?_)).trans (f4.mono (fun k _ e => Or.inr (Or.inr e)))
    rcases e with e | e
    · exact Or.inl e
    · exact Or.inr (Or.inl e)
  · rintro j rfl
    rcases hw1 with e | e
    · exact Or.inl e
    · right; simp at e; omega
  · rintro j rfl
    rcases hw2 with e | e
    · exact Or.inl e
    · right; simp at e; omega

set_option maxRecDepth 100000 in
set_option maxHeartbeats 4000000 in
theorem rpub_no (w : World) (B c : Nat) (kv vv : Value) (L : List Kv) (key : Int) (x : ByteArray) (h : Rt w B c kv vv L) (hl : L.length ≤ 4000000000) (hs : (look L key).isSome = true) :
    Calls Tryz.prog 43 #[.pointer (some ⟨c, 0, none⟩), vI key, .string x] w fun e w' => e = .returned (.bool false) ∧ Fr (fun _ => False) w w' := by
  have hat := at_any w B c kv vv L key h hl
  rw [hs] at hat
  clear h hs
  go_enter Tryz.func43, Tryz.ntmps43
  go_wp2_with fail
  refine hat.mono ?_
  rintro _ w1 ⟨p, rfl, -, hF⟩
  clear hat
  have HF : Hd (Fr (fun _ => False) w w1) := hF
  clear hF
  go_wp2_with fail
  go_ret
  exact ⟨rfl, HF.out⟩

end Go.Proofs.YtihicdbplmdjiaaGreat
