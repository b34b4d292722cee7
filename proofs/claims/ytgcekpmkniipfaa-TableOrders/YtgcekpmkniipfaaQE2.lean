import Derived.Test.YtgcekpmkniipfaaQE1
namespace Go.Proofs.Ytgcekpmkniipfaa
open Go.RowKit (wrap32 wrap64)
set_option linter.unusedVariables false
set_option linter.unusedSimpArgs false

/-! ### the document's table -/
structure Rt (w : World) (B c : Nat) (kv vv : Value) (L : List Kv) : Prop where
  obj : w.heap[c]? = some (.cells #[kv, vv] 54)
  ks : w.ownsRow B 3 1 kv L.length (kCells L)
  vs : w.ownsRow B 9 1 vv L.length (vCells L)
  nk : kv.ownBlock ≠ some c
  nv : vv.ownBlock ≠ some c
  ap : ∀ g, kv.ownBlock = some g → vv.ownBlock ≠ some g
  rise : Rise L
theorem Rt.fr {S : Nat → Prop} {w w' : World} {B c : Nat} {kv vv : Value} {L : List Kv} (h : Rt w B c kv vv L) (f : Fr S w w') (hc : ¬ S c) (hk : ∀ g, kv.ownBlock = some g → ¬ S g) (hv : ∀ g, vv.ownBlock = some g → ¬ S g) : Rt w' B c kv vv L :=
  ⟨(f.block c (heap_lt h.obj) hc).trans h.obj, ownsRow_fr h.ks f hk, ownsRow_fr h.vs f hv, h.nk, h.nv, h.ap, h.rise⟩

/-- Where a key stands, or would stand. -/
structure Plc (L : List Kv) (key : Int) (p : Nat) : Prop where
  le : p ≤ L.length
  lo : ∀ i (h : i < L.length), i < p → L[i].1 < key
  hi : ∀ i (h : i < L.length), p ≤ i → key ≤ L[i].1
theorem Plc.lk {L : List Kv} {key : Int} {p : Nat} (h : Plc L key p) (hr : Rise L) : look L key = if hp : p < L.length then (if L[p].1 = key then some L[p].2 else none) else none := by
  cases hl : look L key with
  | some v =>
    obtain ⟨i, hi, e⟩ := List.getElem_of_mem (look_mem hl)
    have h1 : ¬ i < p := fun hlt => by have := h.lo i hi hlt; rw [e] at this; exact absurd this (Int.lt_irrefl _)
    have h2 : ¬ p < i := fun hlt => by
      have := (List.pairwise_iff_getElem.1 hr) p i (by omega) hi hlt
      rw [e] at this
      have h3 := h.hi p (by omega) (Nat.le_refl _)
      simp only at this
      omega
    have e2 : i = p := by omega
    subst e2
    rw [dif_pos hi, if_pos (by rw [e]), e]
  | none =>
    split
    · rename_i hp
      rw [if_neg (look_none_mem hl _ (List.getElem_mem hp))]
    · rfl
theorem ins_eq : ∀ {L : List Kv} {key : Int} {p : Nat}, Plc L key p → (∀ (hp : p < L.length), L[p].1 ≠ key) → ∀ v, insK L key v = L.take p ++ (key, v) :: L.drop p
  | [], key, p, h, _, v => by
    have : p = 0 := by have := h.le; simpa using this
    subst this; rfl
  | e :: r, key, 0, h, hn, v => by
    have h1 := h.hi 0 (by simp) (Nat.le_refl _)
    have h2 := hn (by simp)
    simp only [List.getElem_cons_zero] at h1 h2
    unfold insK
    rw [if_neg (by omega)]
    rfl
  | e :: r, key, p + 1, h, hn, v => by
    have h1 := h.lo 0 (by simp) (by omega)
    simp only [List.getElem_cons_zero] at h1
    unfold insK
    rw [if_pos h1]
    have : Plc r key p := ⟨by have := h.le; simpa using this, fun i hi hlt => by have := h.lo (i + 1) (by simpa using hi) (by omega); simpa using this, fun i hi hlt => by have := h.hi (i + 1) (by simpa using hi) (by omega); simpa using this⟩
    rw [ins_eq this (fun hp => by have := hn (by simpa using hp); simpa using this) v]
    rfl

set_option maxRecDepth 100000 in
set_option maxHeartbeats 4000000 in
theorem at_any (w : World) (B c : Nat) (kv vv : Value) (L : List Kv) (key : Int) (h : Rt w B c kv vv L) (hl : L.length ≤ 4000000000) :
    Calls Try.prog 58 #[.pointer (some ⟨c, 0, none⟩), vI key] w fun e w' => ∃ p, e = .returned (.tuple #[vI (p : Nat), .bool (look L key).isSome]) ∧ Plc L key p ∧ Fr (fun _ => False) w w' := by
  have hk := RowAt.own h.ks
  obtain ⟨a, cap, e, hx⟩ := hk
  rw [kLen] at e
  have o0 := h.obj
  have HR : Hd (Rise L) := h.rise
  subst e
  have c0 := cell_of o0 0
  simp only [List.getElem?_toArray, List.getElem?_cons_zero] at c0
  have HX : Hd (0 < L.length → ∃ g o, a = some ⟨g, o, none⟩ ∧ ∀ i (h : i < L.length), w.cell? ⟨g, o + i, none⟩ = some (vI L[i].1)) := fun hp => by
    obtain ⟨g, o, e1, -, e3⟩ := hx (by intro e; have := kLen L; rw [e] at this; simp at this; omega)
    exact ⟨g, o, e1, fun i hi => by have := e3 i (by rw [kLen]; exact hi); simpa [kCells] using this⟩
  obtain ⟨n, en⟩ : ∃ n, n = L.length := ⟨_, rfl⟩
  have EN : Hd (n = L.length) := en
  rw [← en] at c0 hl
  clear h o0 hx en
  go_enter Try.func58, Try.ntmps58
  go_wp2_with fail
  go_loopw [6, 7, 8] (fun v6 v7 _ wr => wr = w ∧ ∃ lo hi : Nat, v6 = .int .i64 lo ∧ v7 = .int .i64 hi ∧ lo ≤ hi ∧ hi ≤ n ∧ Hd ((∀ i (h : i < L.length), i < lo → L[i].1 < key) ∧ ∀ i (h : i < L.length), hi ≤ i → key ≤ L[i].1)) (fun v6 v7 _ _ => match v6, v7 with | .int _ a, .int _ b => (b - a).toNat | _, _ => 0)
  case atStart => exact ⟨rfl, 0, n, rfl, rfl, by omega, by omega, fun i _ h => by omega, fun i hi h => by have := EN.out; omega⟩
  case round =>
    obtain ⟨rfl, lo, hi, rfl, rfl, hle, hhi, HM⟩ := hrel
    by_cases hlt : lo < hi
    · obtain ⟨md, emd⟩ : ∃ md : Nat, md = lo + (hi - lo) / 2 := ⟨_, rfl⟩
      have hmd1 : lo ≤ md := by omega
      have hmd2 : md < hi := by omega
      have hml : md < L.length := by have := EN.out; omega
      obtain ⟨g, o, rfl, hcs⟩ := HX.out (by omega)
      have d := hcs md hml
      obtain ⟨x, ex⟩ : ∃ x, x = L[md].1 := ⟨_, rfl⟩
      have EX : Hd (L[md].1 = x) := ex.symm
      rw [← ex] at d
      have hm0 : (0 : Int) ≤ (lo : Int) + ((hi - lo : Nat) : Int) / 2 := by omega
      have hm3 : (lo : Int) + ((hi - lo : Nat) : Int) / 2 < n := by omega
      rw [emd] at d
      have HMD : Hd (md = lo + (hi - lo) / 2) := emd
      clear hcs ex
      by_cases hxk : x < key
      · have HN : Hd ((∀ i (h : i < L.length), i < md + 1 → L[i].1 < key) ∧ ∀ i (h : i < L.length), hi ≤ i → key ≤ L[i].1) := ⟨fun i hi' hlt' => by
          rcases Nat.lt_or_ge i md with e | e
          · have := (List.pairwise_iff_getElem.1 HR.out) i md hi' hml e
            have := EX.out; omega
          · have : i = md := by omega
            subst this; rw [EX.out]; exact hxk, HM.out.2⟩
        clear HM EX hml emd
        go_wp2_with fail
        exact ⟨⟨trivial, md + 1, hi, by have := HMD.out; congr 1; omega, rfl, by omega, hhi, HN.out⟩, by have := HMD.out; simp; omega⟩
      · have HN : Hd ((∀ i (h : i < L.length), i < lo → L[i].1 < key) ∧ ∀ i (h : i < L.length), md ≤ i → key ≤ L[i].1) := ⟨HM.out.1, fun i hi' hge => by
          rcases Nat.eq_or_lt_of_le hge with e | e
          · subst e; have := EX.out; omega
          · have := (List.pairwise_iff_getElem.1 HR.out) md i hml hi' e
            have := EX.out; omega⟩
        have hd : decide (x < key) = false := by simp; omega
        clear HM EX hml emd
        go_wp2_with fail
        exact ⟨⟨trivial, lo, md, rfl, by have := HMD.out; congr 1; omega, hmd1, by omega, HN.out⟩, by have := HMD.out; simp; omega⟩
    · have hd : decide (lo < hi) = false := by simp; omega
      have ehl : hi = lo := by omega
      subst ehl
      have HP : Hd (Plc L key hi) := ⟨by have := EN.out; omega, HM.out.1, HM.out.2⟩
      have HL := HP.out.lk HR.out
      clear HM
      by_cases hn : hi < n
      · have hml : hi < L.length := by have := EN.out; omega
        obtain ⟨g, o, rfl, hcs⟩ := HX.out (by omega)
        have d := hcs hi hml
        rw [dif_pos hml] at HL
        obtain ⟨x, ex⟩ : ∃ x, x = L[hi].1 := ⟨_, rfl⟩
        rw [← ex] at d HL
        have hm0 : (0 : Int) ≤ hi := by omega
        have hm3 : (hi : Int) < n := by omega
        obtain ⟨bl, ebl⟩ : ∃ bl, bl = (x == key) := ⟨_, rfl⟩
        have HB : Hd ((look L key).isSome = bl) := by
          show _ = _
          rw [HL, ebl]
          by_cases e : x = key
          · simp [e]
          · simp [e]
        clear hcs ex HL hml
        go_wp2_with fail
        go_quiet (fail)
        go_wp2_with fail
        go_ret2
        exact ⟨hi, by rw [HB.out, ebl]; rfl, HP.out, (Fr.refl _ _).drewN _⟩
      · have hd2 : decide (hi < n) = false := by simp; omega
        have HB : Hd ((look L key).isSome = false) := by
          show _ = _
          rw [HL, dif_neg (by have := EN.out; omega)]; rfl
        clear HL
        go_wp2_with fail
        go_quiet (fail)
        go_wp2_with fail
        go_ret2
        exact ⟨hi, by rw [HB.out]; rfl, HP.out, (Fr.refl _ _).drewN _⟩
end Go.Proofs.Ytgcekpmkniipfaa
