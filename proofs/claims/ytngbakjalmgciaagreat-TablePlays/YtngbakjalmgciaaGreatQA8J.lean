import Derived.Test.YtngbakjalmgciaaGreatQC7J
import Derived.Deep.AppendLies
import Derived.Laws.OwnMore
import Derived.Deep.Onto
namespace Go.Proofs.YtngbakjalmgciaaGreat
open Go.RowKit (wrap32 wrap64)
open Go.MuLone
open Go.Maps (Keyed)
set_option linter.unusedVariables false
set_option linter.unusedSimpArgs false

def Apart (g g' : Gh) : Prop := ∀ j, g.own j ≠ 0 → g'.own j = 0
theorem Apart.symm {g g' : Gh} (h : Apart g g') : Apart g' g := fun j hj => by
  by_cases e : g.own j = 0
  · exact e
  · exact absurd (h j e) hj

theorem Fr.under {S : Nat → Prop} {w a b : World} (h : Fr (fun _ => False) w a) (k : Fr S a b) (hs : ∀ j, S j → w.heap.size ≤ j) : Fr (fun _ => False) w b :=
  ⟨k.os.trans h.os, k.tape.trans h.tape, k.output.trans h.output, Nat.le_trans h.size k.size, fun j hj _ => (k.block j (Nat.lt_of_lt_of_le hj h.size) (fun hS => by have := hs j hS; omega)).trans (h.block j hj (fun h => h))⟩
theorem gh0_from (b j : Nat) (hj : (gh0 b).own j ≠ 0) : b ≤ j := by
  rcases Nat.lt_or_ge j b with h | h
  · exact absurd (gh0_old b j h) hj
  · exact h

abbrev opV (kd ky : Int) (s : ByteArray) : Value := .agg #[vI kd, vI ky, .string s]

end Go.Proofs.YtngbakjalmgciaaGreat

namespace Go.Proofs.YtngbakjalmgciaaGreat
open Go.RowKit (wrap32 wrap64)
set_option linter.unusedVariables false
set_option linter.unusedSimpArgs false

/-- Cells that lie one behind the other below B. -/
def RowAt (w : World) (B : Nat) (v : Value) (xs : List Value) : Prop :=
  ∃ ad cap, v = .slice ad xs.length cap ∧ (xs ≠ [] → ∃ g o, ad = some ⟨g, o, none⟩ ∧ g < B ∧ ∀ i (h : i < xs.length), w.cell? ⟨g, o + i, none⟩ = some xs[i])
theorem RowAt.fr {w w' : World} {B : Nat} {v : Value} {xs : List Value} (h : RowAt w B v xs) {S : Nat → Prop} (f : Fr S w w') (hB : B ≤ w.heap.size) (hS : ∀ j, v.ownBlock = some j → ¬ S j) : RowAt w' B v xs := by
  obtain ⟨ad, cap, e, hx⟩ := h
  refine ⟨ad, cap, e, fun hne => ?_⟩
  obtain ⟨g, o, ea, hg, hcs⟩ := hx hne
  exact ⟨g, o, ea, hg, fun i hi => (f.cell (by omega) (hS g (by rw [e, ea]; rfl))).trans (hcs i hi)⟩
theorem RowAt.mono {w : World} {B B' : Nat} {v : Value} {xs : List Value} (h : RowAt w B v xs) (hB : B ≤ B') : RowAt w B' v xs := by
  obtain ⟨ad, cap, e, hx⟩ := h
  refine ⟨ad, cap, e, fun hne => ?_⟩
  obtain ⟨g, o, ea, hg, hcs⟩ := hx hne
  exact ⟨g, o, ea, by omega, hcs⟩
theorem RowAt.nil (w : World) (B : Nat) : RowAt w B (.slice none 0 0) [] := ⟨none, 0, rfl, fun h => absurd rfl h⟩
theorem RowAt.own {w : World} {B e : Nat} {v : Value} {n : Nat} {xs : List Value} (h : w.ownsRow B e 1 v n xs) : RowAt w w.heap.size v xs := by
  have hl := h.1
  rcases h.2 with ⟨h2, h3⟩ | ⟨g, cap, cur, e', h3, h4, h5, h6, h7, h8⟩
  · subst h3
    have : xs = [] := List.eq_nil_of_length_eq_zero (by simpa using hl)
    subst this; rw [h2]; exact RowAt.nil _ _
  · refine ⟨_, cap, by rw [e']; congr 1; omega, fun _ => ⟨g, 0, rfl, heap_lt h4, fun i hi => ?_⟩⟩
    rw [cell_of h4, Nat.zero_add]
    have : cur[i]? = xs[i]? := by rw [← h8, List.getElem?_take, if_pos (by omega), Array.getElem?_toList]
    rw [this, List.getElem?_eq_getElem hi]

def kCells (L : List Kv) : List Value := L.map (fun e => vI e.1)
def vCells (L : List Kv) : List Value := L.map (fun e => .string e.2)
theorem kLen (L : List Kv) : (kCells L).length = L.length := by simp [kCells]
theorem vLen (L : List Kv) : (vCells L).length = L.length := by simp [vCells]

set_option maxRecDepth 100000 in
set_option maxHeartbeats 2000000 in
theorem eqInts_same (v1 v2 : Value) (zs : List Int) (B1 B2 : Nat) (w : World) (h1 : RowAt w B1 v1 (zs.map vI)) (h2 : RowAt w B2 v2 (zs.map vI)) (hB1 : B1 ≤ w.heap.size) (hB2 : B2 ≤ w.heap.size) (hl : zs.length ≤ 100000000000000) :
    Calls Tryz.prog 31 #[v1, v2] w fun e w' => e = .returned (.bool true) ∧ Fr (fun _ => False) w w' := by
  obtain ⟨a1, c1, rfl, h1⟩ := h1
  obtain ⟨a2, c2, rfl, h2⟩ := h2
  simp only [List.length_map] at h1 h2 ⊢
  obtain ⟨n, hn⟩ : ∃ n, n = zs.length := ⟨_, rfl⟩
  have HN : Hd (n = zs.length) := hn
  have HB1 : Hd (B1 ≤ w.heap.size) := hB1
  have HB2 : Hd (B2 ≤ w.heap.size) := hB2
  have H1 : Hd (0 < zs.length → ∃ k o, a1 = some ⟨k, o, none⟩ ∧ k < B1 ∧ ∀ j (h : j < zs.length), w.cell? ⟨k, o + j, none⟩ = some (vI zs[j])) := fun hz => by
    obtain ⟨k, o, e1, e2, e3⟩ := h1 (by intro e; rw [List.map_eq_nil_iff] at e; subst e; simp at hz)
    exact ⟨k, o, e1, e2, fun j hj => by rw [e3 j hj]; simp⟩
  have H2 : Hd (0 < zs.length → ∃ k o, a2 = some ⟨k, o, none⟩ ∧ k < B2 ∧ ∀ j (h : j < zs.length), w.cell? ⟨k, o + j, none⟩ = some (vI zs[j])) := fun hz => by
    obtain ⟨k, o, e1, e2, e3⟩ := h2 (by intro e; rw [List.map_eq_nil_iff] at e; subst e; simp at hz)
    exact ⟨k, o, e1, e2, fun j hj => by rw [e3 j hj]; simp⟩
  rw [← hn] at hl ⊢
  clear h1 h2 hn hB1 hB2
  go_enter Tryz.func31, Tryz.ntmps31
  go_wp2_with fail
  go_loopw [5] (fun v wr => ∃ i : Nat, v = .int .i64 i ∧ i ≤ n ∧ Hd (Fr (fun _ => False) w wr)) (fun v _ => match v with | .int _ q => n - q.toNat | _ => 0)
  case atStart => exact ⟨0, rfl, by omega, Fr.refl _ _⟩
  case round =>
    obtain ⟨i, rfl, hi, HF⟩ := hrel
    by_cases hlt : i < n
    · have hlt' : (i : Int) < n := by omega
      have h0 : (0 : Int) ≤ i := by omega
      have hzl : i < zs.length := by have := HN.out; omega
      obtain ⟨k1, o1, rfl, hk1, hc1⟩ := H1.out (by omega)
      obtain ⟨k2, o2, rfl, hk2, hc2⟩ := H2.out (by omega)
      have d1 : wr.cell? ⟨k1, o1 + i, none⟩ = some (vI zs[i]) := (HF.out.cell (Nat.lt_of_lt_of_le hk1 HB1.out) (fun h => h)).trans (hc1 i hzl)
      have d2 : wr.cell? ⟨k2, o2 + i, none⟩ = some (vI zs[i]) := (HF.out.cell (Nat.lt_of_lt_of_le hk2 HB2.out) (fun h => h)).trans (hc2 i hzl)
      obtain ⟨x, hx⟩ : ∃ x, x = zs[i] := ⟨_, rfl⟩
      rw [← hx] at d1 d2
      clear hzl hc1 hc2 hx H1 H2
      go_wp2_with fail
      go_region
      all_goals go_wp2_with fail
      all_goals exact ⟨⟨i + 1, by simp, by omega, HF.out.drew⟩, by simp; omega⟩
    · have hlt' : decide (i < n) = false := by simp; omega
      clear hi
      go_wp2_with fail
      go_ret
      exact ⟨rfl, HF.out⟩

set_option maxRecDepth 100000 in
set_option maxHeartbeats 2000000 in
theorem eqStrings_same (v1 v2 : Value) (zs : List ByteArray) (B1 B2 : Nat) (w : World) (h1 : RowAt w B1 v1 (zs.map Value.string)) (h2 : RowAt w B2 v2 (zs.map Value.string)) (hB1 : B1 ≤ w.heap.size) (hB2 : B2 ≤ w.heap.size) (hl : zs.length ≤ 100000000000000) :
    Calls Tryz.prog 46 #[v1, v2] w fun e w' => e = .returned (.bool true) ∧ Fr (fun _ => False) w w' := by
  obtain ⟨a1, c1, rfl, h1⟩ := h1
  obtain ⟨a2, c2, rfl, h2⟩ := h2
  simp only [List.length_map] at h1 h2 ⊢
  obtain ⟨n, hn⟩ : ∃ n, n = zs.length := ⟨_, rfl⟩
  have HN : Hd (n = zs.length) := hn
  have HB1 : Hd (B1 ≤ w.heap.size) := hB1
  have HB2 : Hd (B2 ≤ w.heap.size) := hB2
  have H1 : Hd (0 < zs.length → ∃ k o, a1 = some ⟨k, o, none⟩ ∧ k < B1 ∧ ∀ j (h : j < zs.length), w.cell? ⟨k, o + j, none⟩ = some (.string zs[j])) := fun hz => by
    obtain ⟨k, o, e1, e2, e3⟩ := h1 (by intro e; rw [List.map_eq_nil_iff] at e; subst e; simp at hz)
    exact ⟨k, o, e1, e2, fun j hj => by rw [e3 j hj]; simp⟩
  have H2 : Hd (0 < zs.length → ∃ k o, a2 = some ⟨k, o, none⟩ ∧ k < B2 ∧ ∀ j (h : j < zs.length), w.cell? ⟨k, o + j, none⟩ = some (.string zs[j])) := fun hz => by
    obtain ⟨k, o, e1, e2, e3⟩ := h2 (by intro e; rw [List.map_eq_nil_iff] at e; subst e; simp at hz)
    exact ⟨k, o, e1, e2, fun j hj => by rw [e3 j hj]; simp⟩
  rw [← hn] at hl ⊢
  clear h1 h2 hn hB1 hB2
  go_enter Tryz.func46, Tryz.ntmps46
  go_wp2_with fail
  go_loopw [5] (fun v wr => ∃ i : Nat, v = .int .i64 i ∧ i ≤ n ∧ Hd (Fr (fun _ => False) w wr)) (fun v _ => match v with | .int _ q => n - q.toNat | _ => 0)
  case atStart => exact ⟨0, rfl, by omega, Fr.refl _ _⟩
  case round =>
    obtain ⟨i, rfl, hi, HF⟩ := hrel
    by_cases hlt : i < n
    · have hlt' : (i : Int) < n := by omega
      have h0 : (0 : Int) ≤ i := by omega
      have hzl : i < zs.length := by have := HN.out; omega
      obtain ⟨k1, o1, rfl, hk1, hc1⟩ := H1.out (by omega)
      obtain ⟨k2, o2, rfl, hk2, hc2⟩ := H2.out (by omega)
      have d1 : wr.cell? ⟨k1, o1 + i, none⟩ = some (.string zs[i]) := (HF.out.cell (Nat.lt_of_lt_of_le hk1 HB1.out) (fun h => h)).trans (hc1 i hzl)
      have d2 : wr.cell? ⟨k2, o2 + i, none⟩ = some (.string zs[i]) := (HF.out.cell (Nat.lt_of_lt_of_le hk2 HB2.out) (fun h => h)).trans (hc2 i hzl)
      obtain ⟨x, hx⟩ : ∃ x, x = zs[i] := ⟨_, rfl⟩
      rw [← hx] at d1 d2
      clear hzl hc1 hc2 hx H1 H2
      go_wp2_with fail
      go_region
      all_goals go_wp2_with fail
      all_goals exact ⟨⟨i + 1, by simp, by omega, HF.out.drew⟩, by simp; omega⟩
    · have hlt' : decide (i < n) = false := by simp; omega
      clear hi
      go_wp2_with fail
      go_ret
      exact ⟨rfl, HF.out⟩

/-! ### copies -/
theorem info9 : (Tryz.prog.info? 9).map (fun i => (i.zero, i.size, i.bytes)) = some (some (.string ⟨#[]⟩), 1, 16) := by kernel_rfl

theorem adr (b j : Nat) : (⟨b, 0, none⟩ : Addr).add j = ⟨b, j, none⟩ := by unfold Addr.add; split <;> simp_all
theorem wpList_append_run {P : Program} {w w' : World} {ops : Array Oper} {rest : List Oper} {o : Oper} {a : Act} {Q : Exit → Act → World → Prop} (hgd : o.guard = none) (s x : Operand) (t : TypeId)
    (ho : o.op = .call { callee := .builtin .append, args := #[s, x], argTypes := #[t, t] }) (v u v' : Value) (hs : a.eval s = v) (hx : a.eval x = u)
    (hrun : (Builtin.append_ #[t, t] o.type #[v, u]).run P w = .ok v' w') (h : wpList P ops Q rest (a.put o.dst v') w') : wpList P ops Q (o :: rest) a w := by
  refine wpList_plain hgd fun K hK => ?_
  unfold Oper.wp
  simp [execOp, ho, resolve, invoke, builtin, hs, hx, hrun, Result.andThen]
  exact hK _ _ h
theorem one_new (w : World) (x : Value) (e : TypeId) : ∀ j u, [x][j]? = some u → (w.alloc (.cells #[x] e)).cell? ((⟨w.heap.size, 0, none⟩ : Addr).add j) = some u := fun j u hj => by
  cases j with
  | zero => rw [adr, cell_of (heap_alloc_last w _)]; simpa using hj
  | succ j => simp at hj

set_option maxRecDepth 100000 in
set_option maxHeartbeats 2000000 in
theorem copyInts_any (v1 : Value) (zs : List Int) (B1 : Nat) (w : World) (h1 : RowAt w B1 v1 (zs.map vI)) (hB1 : B1 ≤ w.heap.size) (hl : zs.length ≤ 10000000000000) :
    Calls Tryz.prog 16 #[v1] w fun e w' => ∃ v', e = .returned v' ∧ w'.ownsRow w.heap.size 3 1 v' zs.length (zs.map vI) ∧ Fr (fun _ => False) w w' := by
  obtain ⟨i3, hi3, hz3, hs3, hb3⟩ := info_parts info3
  obtain ⟨a1, c1, rfl, h1⟩ := h1
  simp only [List.length_map] at h1 ⊢
  obtain ⟨n, hn⟩ : ∃ n, n = zs.length := ⟨_, rfl⟩
  have HN : Hd (n = zs.length) := hn
  have HB1 : Hd (B1 ≤ w.heap.size) := hB1
  have H1 : Hd (0 < zs.length → ∃ k o, a1 = some ⟨k, o, none⟩ ∧ k < B1 ∧ ∀ j (h : j < zs.length), w.cell? ⟨k, o + j, none⟩ = some (vI zs[j])) := fun hz => by
    obtain ⟨k, o, e1, e2, e3⟩ := h1 (by intro e; rw [List.map_eq_nil_iff] at e; subst e; simp at hz)
    exact ⟨k, o, e1, e2, fun j hj => by rw [e3 j hj]; simp⟩
  rw [← hn] at hl ⊢
  clear h1 hn hB1
  go_enter Tryz.func16, Tryz.ntmps16
  go_wp2_with fail
  go_loopw [3, 4] (fun v3 v wr => ∃ i : Nat, v = .int .i64 i ∧ i ≤ n ∧ Hd (wr.ownsRow w.heap.size 3 1 v3 i ((zs.take i).map vI) ∧ Fr (fun _ => False) w wr)) (fun _ v _ => match v with | .int _ q => n - q.toNat | _ => 0)
  case atStart => exact ⟨0, rfl, by omega, World.ownsRow_nil _ _ _ _, Fr.refl _ _⟩
  case round =>
    obtain ⟨i, rfl, hi, HF⟩ := hrel
    by_cases hlt : i < n
    · have hlt' : (i : Int) < n := by omega
      have h0 : (0 : Int) ≤ i := by omega
      have hzl : i < zs.length := by have := HN.out; omega
      obtain ⟨k1, o1, rfl, hk1, hc1⟩ := H1.out (by omega)
      have d1 : wr.cell? ⟨k1, o1 + i, none⟩ = some (vI zs[i]) := (HF.out.2.cell (Nat.lt_of_lt_of_le hk1 HB1.out) (fun h => h)).trans (hc1 i hzl)
      have et : (zs.take (i + 1)).map vI = (zs.take i).map vI ++ [vI zs[i]] := by rw [List.take_add_one, List.getElem?_eq_getElem hzl, List.map_append]; rfl
      obtain ⟨x, hx⟩ : ∃ x, x = zs[i] := ⟨_, rfl⟩
      rw [← hx] at d1 et
      obtain ⟨g, cap, w2, hr, hown, hgr, hw, -⟩ := run_append_lies (P := Tryz.prog) (w := wr.alloc (.cells #[vI x] 3)) 23 23 w.heap.size 3 i3 (vI 0) 1 8 under27 hi3 hz3 hs3 hb3 rfl (by omega) u3 i _ (World.ownsRow.alloc HF.out.1 _) ⟨wr.heap.size, 0, none⟩ 1 1 [vI x] rfl (one_new wr (vI x) 3) (by intro u hu; rw [List.mem_singleton.1 hu]; rfl) (by omega) (by unfold maxLen; omega) (by omega) (by have := HF.out.2.size; simp; omega) _ rfl
      rw [← et] at hown
      have HA : Hd ((Builtin.append_ #[23, 23] 23 #[u3, .slice (some ⟨wr.heap.size, 0, none⟩) 1 1]).run Tryz.prog (wr.alloc (.cells #[vI x] 3)) = .ok (.slice (some ⟨g, 0, none⟩) (i + 1) cap) w2) := hr
      have HE : Hd (w2.ownsRow w.heap.size 3 1 (.slice (some ⟨g, 0, none⟩) (i + 1) cap) (i + 1) ((zs.take (i + 1)).map vI) ∧ Fr (fun _ => False) w w2) := ⟨hown, (HF.out.2.alloc _).under (grown_fr hgr) (fun j hj => (World.ownsRow.lt HF.out.1 j hj).1)⟩
      clear hzl hc1 hx H1 hr hown hgr hw et HF
      go_wp2_with (at_builtin; refine wpList_append_run rfl (.tmp 11) (.tmp 16) 23 rfl _ _ _ rfl rfl HA.out ?_)
      exact ⟨⟨i + 1, by simp, by omega, HE.out⟩, by simp; omega⟩
    · have hlt' : decide (i < n) = false := by simp; omega
      have ei : i = n := by omega
      subst ei
      have HE : Hd (wr.ownsRow w.heap.size 3 1 u3 i (zs.map vI) ∧ Fr (fun _ => False) w wr) := by
        have := HF.out
        rw [List.take_of_length_le (by have := HN.out; omega)] at this
        exact this
      clear hi HF
      go_wp2_with fail
      go_ret
      exact ⟨_, rfl, HE.out.1, HE.out.2⟩
set_option maxRecDepth 100000 in
set_option maxHeartbeats 2000000 in
theorem copyStrings_any (v1 : Value) (zs : List ByteArray) (B1 : Nat) (w : World) (h1 : RowAt w B1 v1 (zs.map Value.string)) (hB1 : B1 ≤ w.heap.size) (hl : zs.length ≤ 5000000000000) :
    Calls Tryz.prog 66 #[v1] w fun e w' => ∃ v', e = .returned v' ∧ w'.ownsRow w.heap.size 9 1 v' zs.length (zs.map Value.string) ∧ Fr (fun _ => False) w w' := by
  obtain ⟨i3, hi3, hz3, hs3, hb3⟩ := info_parts info9
  obtain ⟨a1, c1, rfl, h1⟩ := h1
  simp only [List.length_map] at h1 ⊢
  obtain ⟨n, hn⟩ : ∃ n, n = zs.length := ⟨_, rfl⟩
  have HN : Hd (n = zs.length) := hn
  have HB1 : Hd (B1 ≤ w.heap.size) := hB1
  have H1 : Hd (0 < zs.length → ∃ k o, a1 = some ⟨k, o, none⟩ ∧ k < B1 ∧ ∀ j (h : j < zs.length), w.cell? ⟨k, o + j, none⟩ = some (.string zs[j])) := fun hz => by
    obtain ⟨k, o, e1, e2, e3⟩ := h1 (by intro e; rw [List.map_eq_nil_iff] at e; subst e; simp at hz)
    exact ⟨k, o, e1, e2, fun j hj => by rw [e3 j hj]; simp⟩
  rw [← hn] at hl ⊢
  clear h1 hn hB1
  go_enter Tryz.func66, Tryz.ntmps66
  go_wp2_with fail
  go_loopw [3, 4] (fun v3 v wr => ∃ i : Nat, v = .int .i64 i ∧ i ≤ n ∧ Hd (wr.ownsRow w.heap.size 9 1 v3 i ((zs.take i).map Value.string) ∧ Fr (fun _ => False) w wr)) (fun _ v _ => match v with | .int _ q => n - q.toNat | _ => 0)
  case atStart => exact ⟨0, rfl, by omega, World.ownsRow_nil _ _ _ _, Fr.refl _ _⟩
  case round =>
    obtain ⟨i, rfl, hi, HF⟩ := hrel
    by_cases hlt : i < n
    · have hlt' : (i : Int) < n := by omega
      have h0 : (0 : Int) ≤ i := by omega
      have hzl : i < zs.length := by have := HN.out; omega
      obtain ⟨k1, o1, rfl, hk1, hc1⟩ := H1.out (by omega)
      have d1 : wr.cell? ⟨k1, o1 + i, none⟩ = some (.string zs[i]) := (HF.out.2.cell (Nat.lt_of_lt_of_le hk1 HB1.out) (fun h => h)).trans (hc1 i hzl)
      have et : (zs.take (i + 1)).map Value.string = (zs.take i).map Value.string ++ [.string zs[i]] := by rw [List.take_add_one, List.getElem?_eq_getElem hzl, List.map_append]; rfl
      obtain ⟨x, hx⟩ : ∃ x, x = zs[i] := ⟨_, rfl⟩
      rw [← hx] at d1 et
      obtain ⟨g, cap, w2, hr, hown, hgr, hw, -⟩ := run_append_lies (P := Tryz.prog) (w := wr.alloc (.cells #[.string x] 9)) 40 40 w.heap.size 9 i3 (.string ⟨#[]⟩) 1 16 under28 hi3 hz3 hs3 hb3 rfl (by omega) u3 i _ (World.ownsRow.alloc HF.out.1 _) ⟨wr.heap.size, 0, none⟩ 1 1 [.string x] rfl (one_new wr (.string x) 9) (by intro u hu; rw [List.mem_singleton.1 hu]; rfl) (by omega) (by unfold maxLen; omega) (by omega) (by have := HF.out.2.size; simp; omega) _ rfl
      rw [← et] at hown
      have HA : Hd ((Builtin.append_ #[40, 40] 40 #[u3, .slice (some ⟨wr.heap.size, 0, none⟩) 1 1]).run Tryz.prog (wr.alloc (.cells #[.string x] 9)) = .ok (.slice (some ⟨g, 0, none⟩) (i + 1) cap) w2) := hr
      have HE : Hd (w2.ownsRow w.heap.size 9 1 (.slice (some ⟨g, 0, none⟩) (i + 1) cap) (i + 1) ((zs.take (i + 1)).map Value.string) ∧ Fr (fun _ => False) w w2) := ⟨hown, (HF.out.2.alloc _).under (grown_fr hgr) (fun j hj => (World.ownsRow.lt HF.out.1 j hj).1)⟩
      clear hzl hc1 hx H1 hr hown hgr hw et HF
      go_wp2_with (at_builtin; refine wpList_append_run rfl (.tmp 11) (.tmp 16) 40 rfl _ _ _ rfl rfl HA.out ?_)
      exact ⟨⟨i + 1, by simp, by omega, HE.out⟩, by simp; omega⟩
    · have hlt' : decide (i < n) = false := by simp; omega
      have ei : i = n := by omega
      subst ei
      have HE : Hd (wr.ownsRow w.heap.size 9 1 u3 i (zs.map Value.string) ∧ Fr (fun _ => False) w wr) := by
        have := HF.out
        rw [List.take_of_length_le (by have := HN.out; omega)] at this
        exact this
      clear hi HF
      go_wp2_with fail
      go_ret
      exact ⟨_, rfl, HE.out.1, HE.out.2⟩
end Go.Proofs.YtngbakjalmgciaaGreat
