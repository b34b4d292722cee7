import Derived.Test.YtmdlebolmhnhaabB3
import Derived.Maps.RangeWalk
namespace Go.Proofs.Ytmdlebolmhnhaab
open Go.RowKit (wrap32 wrap64)
open Go.Maps (Keyed)
set_option linter.unusedVariables false
set_option linter.unusedSimpArgs false

/-- So many of the list stay: those behind are greater than a number, the last that stays is not. -/
def IsCut (num : Nat) (l : List Nat) (k : Nat) : Prop := k ≤ l.length ∧ (∀ j p, k ≤ j → l[j]? = some p → num < p) ∧ (∀ p, 0 < k → l[k - 1]? = some p → p ≤ num)

theorem gone_step (c : Nat → Option (List Val)) (l : List Nat) (k p : Nat) (h : l[k]? = some p) : upd (gone c (l.drop (k + 1))) p none = gone c (l.drop k) := by
  obtain ⟨hk, e⟩ := List.getElem?_eq_some_iff.1 h
  have hd : l.drop k = p :: l.drop (k + 1) := by rw [List.drop_eq_getElem_cons hk, e]
  funext i
  simp only [upd, gone, hd, List.mem_cons]
  by_cases hi : i = p
  · simp [hi]
  · simp [hi]

theorem gone_nil (c : Nat → Option (List Val)) : gone c [] = c := by funext i; simp [gone]

set_option maxRecDepth 100000 in
set_option maxHeartbeats 1000000 in
theorem endCells_any (b : Nat) (g : Gh) (a : Abs) (num : Nat) (w : World) (h : Mem w b g a) (hl : a.pss.length ≤ 10000000000000) (hp : ∀ p ∈ a.pss, p ≤ 1000000000000000) :
    Calls Try.prog 27 #[.pointer (some ⟨b, 0, none⟩), vI num] w fun e w' => e = .returned (.tuple #[]) ∧ ∃ k D' ps', IsCut num a.pss k ∧ Mem w' b { g with D := D', ps := ps' } { a with cells := gone a.cells (a.pss.drop k), pss := a.pss.take k } ∧ Fr (fun j => g.own j ≠ 0) w w' := by
  obtain ⟨ad, cap, hv, had⟩ : ∃ ad cap, g.ps = .slice ad a.pss.length cap ∧ ((ad = none ∧ cap = 0 ∧ a.pss.length = 0) ∨ ∃ g7, ad = some ⟨g7, 0, none⟩ ∧ a.pss.length ≤ cap ∧ cap ≤ maxLen) := by
    rcases h.pss.2 with ⟨e, e0⟩ | ⟨g7, cap, cur, e, -, -, h5, h6, -⟩
    · exact ⟨none, 0, by rw [e, e0], Or.inl ⟨rfl, rfl, e0⟩⟩
    · exact ⟨_, cap, e, Or.inr ⟨g7, rfl, h5, h6⟩⟩
  obtain ⟨f0, f1, f2, f3, f4⟩ := h.facts
  rw [hv] at f4
  have H : Hd (Mem w b g a) := h
  have HV : Hd (g.ps = .slice ad a.pss.length cap) := hv
  have HPB : Hd (∀ p ∈ a.pss, p ≤ 1000000000000000) := hp
  have HAD : Hd _ := had
  clear h hv hp had
  go_enter Try.func27, Try.ntmps27
  go_wp2_with fail
  go_loopw [4] (fun v wr => ∃ (k : Nat) (D' : DataW Unit), v = .int .i64 k ∧ k ≤ a.pss.length ∧ Hd (∀ j p, k ≤ j → a.pss[j]? = some p → num < p) ∧ Hd (Mem wr b { g with D := D' } { a with cells := gone a.cells (a.pss.drop k) }) ∧ Hd (Fr (fun j => g.own j ≠ 0) w wr)) (fun v _ => match v with | .int _ q => q.toNat | _ => 0)
  case atStart =>
    refine ⟨a.pss.length, g.D, rfl, Nat.le_refl _, ?_, ?_, Fr.refl _ _⟩
    · intro j p hj hp
      rw [List.getElem?_eq_none hj] at hp; cases hp
    · unfold Hd
      rw [List.drop_length, gone_nil]; exact H.out
  case round =>
    obtain ⟨k, D', rfl, hk, HA, HM, HF⟩ := hrel
    have c4 : wr.cell? ⟨b, 4, none⟩ = some (.slice ad a.pss.length cap) := by rw [← HV.out]; exact HM.out.facts.2.2.2.2
    have z4 : wr.frozen? ⟨b, 4, none⟩ = false := frozen_of HM.out.blk0 4
    have HC : Hd _ := HM.out.cutPs (k := k) HV.out hk
    by_cases hk0 : k = 0
    · subst hk0
      have HR : Hd (∃ k D' ps', IsCut num a.pss k ∧ Mem (wr.setCell ⟨b, 4, none⟩ (.slice ad 0 cap)) b { g with D := D', ps := ps' } { a with cells := gone a.cells (a.pss.drop k), pss := a.pss.take k } ∧ Fr (fun j => g.own j ≠ 0) w (wr.setCell ⟨b, 4, none⟩ (.slice ad 0 cap))) :=
        ⟨0, D', _, ⟨Nat.zero_le _, HA.out, fun p h => by omega⟩, HC.out.1, HF.out.trans HC.out.2⟩
      clear HC HM HA
      rcases HAD.out with ⟨rfl, rfl, e0⟩ | ⟨g7, rfl, h5, h6⟩
      · clear HAD HV
        rw [e0] at c4
        go_wp2_with fail
        go_end0
        exact ⟨rfl, HR.out⟩
      · clear HAD HV
        go_wp2_with fail
        go_end0
        exact ⟨rfl, HR.out⟩
    · rcases HAD.out with ⟨rfl, rfl, e0⟩ | ⟨g7, rfl, h5, h6⟩
      · omega
      obtain ⟨m, rfl⟩ : ∃ m, k = m + 1 := ⟨k - 1, by omega⟩
      have hk1 : m < a.pss.length := by omega
      obtain ⟨p, hp⟩ : ∃ p, a.pss[m]? = some p := ⟨_, List.getElem?_eq_getElem hk1⟩
      have hpb : p ≤ 1000000000000000 := HPB.out p (List.mem_of_getElem? hp)
      have cp : wr.cell? ⟨g7, m, none⟩ = some (vI p) := by
        have := HM.out.pss.cells (g := g7) (by rw [show ({ g with D := D' } : Gh).ps = _ from HV.out]; rfl) m (vI p) (by simp [hp])
        rwa [addr_add] at this
      have hm0 : (0 : Int) ≤ m := by omega
      have hm1 : (m : Int) < a.pss.length := by omega
      by_cases hpn : num < p
      · have dp : decide ((num : Int) < p) = true := by simpa using hpn
        have c2 : wr.cell? ⟨b, 2, none⟩ = some (.map (some g.tb)) := HM.out.facts.2.2.1
        have HMap : Hd (wr.drew.ownsMap Try.prog 3 Rc g.tb a.made D') := HM.out.map
        have HP : Hd (a.pss[m]? = some p) := hp
        have hkey : keyOf Try.prog 3 (vI p) = some (.int .i64 (p : Int)) := Maps.keyOf_int_mk under3 (wf_nat p (by omega))
        have HN : Hd (num < p) := hpn
        clear hp hpn HAD f0 f1 f2 f3 f4
        go_wp2_with fail
        refine wp_region_still_tail 11 mixed (by kernel_rfl) ?_
        simp only [List.take_succ_cons, List.take_zero, List.drop_succ_cons, List.drop_zero]
        repeat still_step
        refine wpStill_nil ?_
        go_wp2_with ((at_delete; refine wpList_delete_own _ rfl _ _ 58 3 rfl 53 keyed3 under61 Rc g.tb a.made D' rfl HMap.out _ _ rfl hkey ?_; intro w1 hown1 hturn1; go_frame))
        have hturn : wr.drew.mapTurned w1 g.tb := hturn1
        obtain ⟨k1, k2⟩ := HM.out.drew.del p hown1 hturn
        refine ⟨⟨m, D'.del (.int .i64 (p : Int)), rfl, by omega, ?_, ?_, HF.out.drew.trans k2⟩, by simp⟩
        · intro j q hj hq
          by_cases hjm : j = m
          · subst hjm
            rw [HP.out] at hq
            cases hq
            exact HN.out
          · exact HA.out j q (by omega) hq
        · unfold Hd
          rw [← gone_step a.cells a.pss m p HP.out]
          exact k1
      · have dp : decide ((num : Int) < p) = false := by simpa using hpn
        have HR : Hd (∃ k D' ps', IsCut num a.pss k ∧ Mem (wr.setCell ⟨b, 4, none⟩ (.slice (some ⟨g7, 0, none⟩) (m + 1) cap)) b { g with D := D', ps := ps' } { a with cells := gone a.cells (a.pss.drop k), pss := a.pss.take k } ∧ Fr (fun j => g.own j ≠ 0) w (wr.setCell ⟨b, 4, none⟩ (.slice (some ⟨g7, 0, none⟩) (m + 1) cap))) :=
          ⟨m + 1, D', _, ⟨hk, HA.out, fun q _ hq => by rw [Nat.add_sub_cancel, hp] at hq; cases hq; omega⟩, HC.out.1, HF.out.trans HC.out.2⟩
        clear HC HM HA HAD HV
        go_wp2_with fail
        go_end0
        exact ⟨rfl, HR.out⟩
/-- Pop, of a memory that has frames. -/
def PopX (a a' : Abs) : Prop := ∃ num k, a.frs = a.frs.dropLast ++ [num] ∧ IsCut num a.pss k ∧ a' = { a with cells := gone a.cells (a.pss.drop k), pss := a.pss.take k, frs := a.frs.dropLast }

set_option maxRecDepth 100000 in
set_option maxHeartbeats 1000000 in
theorem pop_none (b : Nat) (g : Gh) (a : Abs) (w : World) (h : Mem w b g a) (hf : a.frs = []) :
    Calls Try.prog 13 #[.pointer (some ⟨b, 0, none⟩)] w fun e w' => e = .returned (vI 30) ∧ w' = w := by
  obtain ⟨f0, f1, f2, f3, f4⟩ := h.facts
  obtain ⟨ad, cap, hv⟩ := row_slice h.frs
  rw [hf] at hv
  rw [hv] at f3
  simp only [List.length_nil] at f3
  clear h
  go_enter Try.func13, Try.ntmps13
  go_wp2
  go_ret
  exact ⟨rfl, rfl⟩

set_option maxRecDepth 100000 in
set_option maxHeartbeats 1000000 in
theorem pop_any (b : Nat) (g : Gh) (a : Abs) (w : World) (h : Mem w b g a) (hf : a.frs ≠ []) (hfl : a.frs.length ≤ 10000000000000) (hl : a.pss.length ≤ 10000000000000) (hp : ∀ p ∈ a.pss, p ≤ 1000000000000000) :
    Calls Try.prog 13 #[.pointer (some ⟨b, 0, none⟩)] w fun e w' => e = .returned (vI 0) ∧ ∃ g' a', PopX a a' ∧ Mem w' b g' a' ∧ Fr (fun j => g.own j ≠ 0) w w' ∧ g'.own = g.own := by
  obtain ⟨n, hn⟩ : ∃ n, a.frs.length = n + 1 := ⟨a.frs.length - 1, by have := List.length_pos_iff.2 hf; omega⟩
  obtain ⟨num, hnum⟩ : ∃ num, a.frs[n]? = some num := ⟨_, List.getElem?_eq_getElem (by omega)⟩
  have hspl : a.frs = a.frs.dropLast ++ [num] := by
    have h1 : a.frs.getLast hf = num := by
      rw [List.getLast_eq_getElem]
      have := List.getElem?_eq_some_iff.1 hnum
      obtain ⟨h2, h3⟩ := this
      rw [← h3]
      congr 1
      omega
    rw [← h1, List.dropLast_concat_getLast]
  have HSP : Hd _ := hspl
  obtain ⟨g7, cap, hv, hnc, hcm⟩ : ∃ g7 cap, g.fr = .slice (some ⟨g7, 0, none⟩) (n + 1) cap ∧ n + 1 ≤ cap ∧ cap ≤ maxLen := by
    rcases h.frs.2 with ⟨e, e0⟩ | ⟨g7, cap, cur, e, -, -, h5, h6, -⟩
    · omega
    · exact ⟨g7, cap, by rw [e, hn], by omega, h6⟩
  have f3 : w.cell? ⟨b, 3, none⟩ = some (.slice (some ⟨g7, 0, none⟩) (n + 1) cap) := by rw [← hv]; exact h.facts.2.2.2.1
  have cn : w.cell? ⟨g7, n, none⟩ = some (vI num) := by
    have := h.frs.cells (g := g7) (by rw [hv]; rfl) n (vI num) (by simp [hnum])
    rwa [addr_add] at this
  have H : Hd (Mem w b g a) := h
  have HV : Hd (g.fr = .slice (some ⟨g7, 0, none⟩) (n + 1) cap) := hv
  have HN : Hd (a.frs.length = n + 1) := hn
  have hn0 : (0 : Int) ≤ n := by omega
  have hnb : n ≤ 10000000000000 := by omega
  have HPB : Hd _ := hp
  clear hv hspl hnum hf hn h hp
  go_enter Try.func13, Try.ntmps13
  go_wp2_with fail
  refine (endCells_any b g a num w H.out hl HPB.out).mono ?_
  rintro e w1 ⟨rfl, k, D', ps', hcut, hM1, hF1⟩
  have e3 : w1.cell? ⟨b, 3, none⟩ = some (.slice (some ⟨g7, 0, none⟩) (n + 1) cap) := by rw [← HV.out]; exact hM1.facts.2.2.2.1
  have z3 : w1.frozen? ⟨b, 3, none⟩ = false := frozen_of hM1.blk0 3
  have HC : Hd _ := hM1.cutFr (k := n) HV.out (by rw [show a.frs.length = n + 1 from HN.out]; omega)
  have HX : Hd _ := hcut
  have HF1 : Hd _ := hF1
  clear hM1 hcut hF1
  go_wp2_with fail
  go_ret
  obtain ⟨m1, m2⟩ := HC.out
  refine ⟨rfl, { g with D := D', fr := .slice (some ⟨g7, 0, none⟩) n cap, ps := ps' }, _, ⟨num, k, HSP.out, HX.out, rfl⟩, ?_, HF1.out.trans m2, rfl⟩
  have hd : a.frs.dropLast = a.frs.take n := by rw [List.dropLast_eq_take, HN.out]; rfl
  rw [hd]
  exact m1

end Go.Proofs.Ytmdlebolmhnhaab
