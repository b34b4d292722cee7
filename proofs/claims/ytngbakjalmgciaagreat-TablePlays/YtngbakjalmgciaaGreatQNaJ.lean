import Derived.Test.YtngbakjalmgciaaGreatQE7J
import Derived.Test.YtngbakjalmgciaaGreatQCh
import Derived.Test.YtngbakjalmgciaaGreatQQa2J
import Derived.Test.YtngbakjalmgciaaGreatQQc
import Derived.Test.YtngbakjalmgciaaGreatQQe
import Derived.Test.YtngbakjalmgciaaGreatQQfJ
namespace Go.Proofs.YtngbakjalmgciaaGreat
set_option linter.unusedVariables false
set_option linter.unusedSimpArgs false

/-- A client of the one and of the other. -/
structure Rc (m : Cl) (d : DC) : Prop where
  ops : rightX m.ops = d.ops.drop d.at'
  st : (m.st = 0 ∧ d.begun = false ∧ d.done = false) ∨ (m.st = 1 ∧ d.begun = true ∧ d.done = false) ∨ (m.st = 2 ∧ d.begun = true ∧ d.done = true ∧ m.rp = d.rp)
  lk : m.lk = d.locked
structure Rs (s : St) (t : DS) : Prop where
  tab : s.tab = t.tab
  held : ∀ j, j < 8 → (t.held j < 0 ↔ s.lkd j = false)
  len : s.cls.length = t.cls.length
  each : ∀ i (h : i < s.cls.length) (h' : i < t.cls.length), Rc s.cls[i] t.cls[i]
  ms : s.ms = t.ms
theorem right_fromK (l : List OpT) : rightX (fromK l) = rightX l := by
  unfold rightX fromK
  induction l with
  | nil => rfl
  | cons o r ih =>
    rw [List.dropWhile_cons]
    by_cases h : known o.1 = true
    · rw [if_neg (by simp [h])]
    · rw [if_pos (by simp [h]), ih, List.filter_cons_of_neg (by simpa using h)]
theorem Rc.at {m : Cl} {d : DC} (h : Rc m d) (hok : ClOk m) : d.ops[d.at']? = m.ops.head? ∧ ∀ o r, m.ops = o :: r → d.ops.drop (d.at' + 1) = rightX r := by
  have e := h.ops
  cases hm : m.ops with
  | nil =>
    rw [hm] at e
    refine ⟨?_, fun o r e => by cases e⟩
    have : d.ops.length ≤ d.at' := List.drop_eq_nil_iff.1 e.symm
    rw [List.getElem?_eq_none this]
    rfl
  | cons o r =>
    have hk := hok.first o r hm
    rw [hm] at e
    unfold rightX at e
    rw [List.filter_cons_of_pos (by simpa using hk)] at e
    refine ⟨?_, fun o' r' e' => ?_⟩
    · have h0 : (d.ops.drop d.at')[0]? = some o := by rw [← e]; rfl
      rw [List.getElem?_drop, Nat.add_zero] at h0
      rw [h0]; rfl
    · cases e'
      have := congrArg (List.drop 1) e
      rw [List.drop_drop] at this
      simpa [rightX] using this.symm
theorem Rs.can {s : St} {t : DS} (h : Rs s t) {m : Cl} {d : DC} (hc : Rc m d) (hok : ClOk m) : canGo s m = dCan t d := by
  obtain ⟨h1, -⟩ := hc.at hok
  unfold canGo dCan needs
  rw [h1]
  cases hm : m.ops with
  | nil => simp
  | cons o r =>
    have hlk := hc.lk
    have h8 := hok.lk
    simp only [List.isEmpty_cons, Bool.not_false, Bool.true_and, List.head?_cons]
    rcases hc.st with ⟨e1, e2, e3⟩ | ⟨e1, e2, e3⟩ | ⟨e1, e2, e3, -⟩
    · simp [e1, e2]
    · rw [e1, e2, e3]
      simp only [ne_eq, not_true_eq_false, if_false, Bool.not_true, Bool.or_false, Bool.false_eq_true]
      by_cases k3 : o.1 = 3
      · rw [if_neg (fun x : ¬ o.1 = 3 => x k3), if_neg (fun x : ¬ o.1 = 3 => x k3)]
        by_cases l8 : m.lk < 8
        · rw [if_pos l8]
          have hh := h.held m.lk l8
          have hn : ((m.lk : Int) == -1) = false := by simp
          rw [hn, Bool.false_or, Int.toNat_natCast]
          have : decide (d.locked = 8) = false := by simp; omega
          rw [this, Bool.false_or, ← hlk]
          rw [Bool.eq_iff_iff]
          simp only [Bool.not_eq_true', decide_eq_true_eq]
          exact hh.symm
        · rw [if_neg l8]
          have : decide (d.locked = 8) = true := by simp; omega
          rw [this]
          simp
      · rw [if_pos k3, if_pos k3]
        have hh := h.held (strp o.2.1) (strp_lt _)
        have hn : (((strp o.2.1 : Nat) : Int) == -1) = false := by simp
        rw [hn, Bool.false_or, Int.toNat_natCast, Bool.eq_iff_iff]
        simp only [Bool.not_eq_true', decide_eq_true_eq]
        exact hh.symm
    · simp [e1, e3]
theorem rs_able {s : St} {t : DS} (h : Rs s t) (hok : StOk s) : able s = dReady t := by
  unfold able ableTo dReady
  rw [h.len]
  apply List.filter_congr
  intro i hi
  have hi' : i < t.cls.length := List.mem_range.1 hi
  have hi2 : i < s.cls.length := by rw [h.len]; exact hi'
  rw [List.getD_eq_getElem?_getD, List.getElem?_eq_getElem hi2, List.getD_eq_getElem?_getD, List.getElem?_eq_getElem hi']
  exact h.can (h.each i hi2 hi') (hok _ (List.getElem_mem hi2))
/-- One client is another, the others stay. -/
theorem Rs.set {s : St} {t : DS} (h : Rs s t) {i : Nat} {m : Cl} {d : DC} (hc : Rc m d) {tab : List Kv} {lkd : Nat → Bool} {held : Nat → Int} {ms : List MomT} {last : Int} (hh : ∀ j, j < 8 → (held j < 0 ↔ lkd j = false)) :
    Rs ⟨tab, lkd, s.cls.set i m, last, ms⟩ ⟨tab, held, t.cls.set i d, ms⟩ := by
  refine ⟨rfl, hh, by simp [h.len], fun j h1 h2 => ?_, rfl⟩
  simp only [List.getElem_set]
  by_cases e : i = j
  · rw [if_pos e, if_pos e]; exact hc
  · rw [if_neg e, if_neg e]; exact h.each j (by simpa using h1) (by simpa using h2)
theorem Rs.step {s : St} {t : DS} (h : Rs s t) (hok : StOk s) {i : Nat} (hi : i ∈ able s) (last : Int) : Rs (stepX { s with last := last } i) (dStep t i) := by
  obtain ⟨hl, hcan⟩ := able_mem hi
  have hl' : i < t.cls.length := by rw [← h.len]; exact hl
  have hc := h.each i hl hl'
  have hk := hok _ (List.getElem_mem hl)
  obtain ⟨h1, h2⟩ := hc.at hk
  have g1 : ({ s with last := last } : St).cls.getD i cl0 = s.cls[i] := by rw [List.getD_eq_getElem?_getD]; simp [hl]
  have g2 : t.cls.getD i dc0 = t.cls[i] := by rw [List.getD_eq_getElem?_getD]; simp [hl']
  unfold stepX dStep
  simp only [g1, g2]
  obtain ⟨m, em⟩ : ∃ m, m = s.cls[i] := ⟨_, rfl⟩
  obtain ⟨d, ed⟩ : ∃ d, d = t.cls[i] := ⟨_, rfl⟩
  rw [← em, ← ed] at hc h1
  rw [← em] at hk h2 hcan
  rw [← ed] at h2
  rw [← em, ← ed, h1]
  clear em ed g1 g2
  obtain ⟨mo, mst, mlk, mrp⟩ := m
  obtain ⟨dop, dat, dbg, dlk, ddn, drp⟩ := d
  have hops := hc.ops
  have hst := hc.st
  have hlk : mlk = dlk := hc.lk
  have hk0 := hk.lk0
  have hk1 := hk.lk1
  have hkf := hk.first
  simp only at hops hst h1 h2 hk0 hk1 hkf ⊢
  subst hlk
  cases mo with
  | nil => simp [canGo] at hcan
  | cons o r =>
    have h2' := h2 o r rfl
    simp only [List.head?_cons]
    rcases hst with ⟨rfl, rfl, rfl⟩ | ⟨rfl, rfl, rfl⟩ | ⟨rfl, rfl, rfl, rfl⟩
    · rw [if_pos rfl, if_pos rfl, h.ms, h.tab]
      exact h.set ⟨hops, Or.inr (Or.inl ⟨rfl, rfl, rfl⟩), rfl⟩ h.held
    · rw [if_neg (by omega), if_pos rfl, if_neg (by simp), if_neg (by simp)]
      unfold actX
      have hkn := hkf o r rfl
      by_cases k1 : o.1 = 1
      · have hl0 : mlk = 0 := hk1 o r rfl (by omega)
        subst hl0
        rw [if_pos k1, if_neg (by omega), if_neg (by omega)]
        unfold doT doR
        rw [if_pos k1, if_pos k1, ← h.tab]
        simp only
        cases hlook : look s.tab o.2.1 with
        | some v =>
          simp only [h.ms]
          rw [h.tab]
          exact h.set ⟨hops, Or.inr (Or.inr ⟨rfl, rfl, rfl, rfl⟩), rfl⟩ h.held
        | none =>
          simp only [h.ms]
          exact h.set ⟨hops, Or.inr (Or.inr ⟨rfl, rfl, rfl, rfl⟩), rfl⟩ h.held
      · by_cases k2 : o.1 = 2
        · have hl0 : mlk = 0 := hk1 o r rfl (by omega)
          subst hl0
          rw [if_neg k1, if_pos k2, if_neg (by omega), if_neg (by omega)]
          unfold doT doR
          rw [if_neg k1, if_neg k1, if_pos k2, h.tab, h.ms]
          exact h.set ⟨hops, Or.inr (Or.inr ⟨rfl, rfl, rfl, rfl⟩), rfl⟩ h.held
        · have k3 : o.1 = 3 := by
            simp only [known, Bool.or_eq_true, beq_iff_eq] at hkn
            omega
          rw [if_neg k1, if_neg k2, if_pos k3]
          by_cases l8 : mlk < 8
          · rw [if_pos l8, if_pos ⟨k3, l8⟩, h.tab, h.ms]
            refine h.set ⟨hops, Or.inr (Or.inl ⟨rfl, rfl, rfl⟩), rfl⟩ (fun j hj => ?_)
            by_cases e : j = mlk
            · rw [if_pos e, if_pos e]; simp
            · rw [if_neg e, if_neg e]; exact h.held j hj
          · rw [if_neg l8, if_neg (fun x => l8 x.2), if_pos k3, h.tab, h.ms]
            refine h.set ⟨hops, Or.inr (Or.inr ⟨rfl, rfl, rfl, ?_⟩), rfl⟩ (fun j hj => by simp)
            unfold doR
            rw [if_neg k1, if_neg k2]
    · have hl0 : mlk = 0 := hk0 (by omega)
      rw [if_neg (by omega), if_neg (by omega), if_neg (by simp), if_pos rfl, h.tab, h.ms]
      exact h.set ⟨by rw [right_fromK]; exact h2'.symm, Or.inl ⟨rfl, rfl, rfl⟩, rfl⟩ h.held
theorem Rs.begin (cl : List (List OpT)) : Rs (begin0 cl) (dBegin cl) := by
  refine ⟨rfl, fun j _ => by simp [begin0, dBegin], by simp [begin0, dBegin], fun i h1 h2 => ?_, rfl⟩
  simp only [begin0, dBegin, List.getElem_map]
  exact ⟨by rw [right_fromK]; rfl, Or.inl ⟨rfl, rfl, rfl⟩, rfl⟩
/-- Both plays go the same way, step by step. -/
theorem play_alike {cl : List (List OpT)} (hcl : ∀ l ∈ cl, ∀ o ∈ l, In64 o.2.1) (script : List Int) : ∀ k, Rs (iter script (begin0 cl) k) (dIter script (dBegin cl) k).1 ∧ StOk (iter script (begin0 cl) k) ∧ (iter script (begin0 cl) k).last = (dIter script (dBegin cl) k).2
  | 0 => by
    refine ⟨Rs.begin cl, fun c hc => ?_, rfl⟩
    obtain ⟨l, hl, rfl⟩ := List.mem_map.1 hc
    exact clOk_begin l (hcl l hl)
  | k + 1 => by
    obtain ⟨h1, h2, h3⟩ := play_alike hcl script k
    have ha := rs_able h1 h2
    simp only [iter, dIter]
    by_cases e : able (iter script (begin0 cl) k) = []
    · rw [if_pos e, if_pos (by rw [← ha]; exact e)]
      exact ⟨h1, h2, h3⟩
    · rw [if_neg e, if_neg (by rw [← ha]; exact e), ← ha, ← h3]
      have hp := pick_mem (last := (iter script (begin0 cl) k).last) (zs := script) (k := k) e
      have h4 := step_ok h2 hp (pickX (iter script (begin0 cl) k).last (able (iter script (begin0 cl) k)) script k : Int)
      exact ⟨h1.step h2 hp _, h4.1, h4.2.2.2⟩
end Go.Proofs.YtngbakjalmgciaaGreat

namespace Go.Proofs.YtngbakjalmgciaaGreat
set_option linter.unusedVariables false
set_option linter.unusedSimpArgs false

section
variable {w : World} {B sb tb : Nat} {lv kv vv hv : Value} {ro : Nat → Nat} {dvs : List DV} {mvs : List MV} {t : DS}
theorem Sn.at (h : Sn w B sb tb lv kv vv hv ro dvs mvs t) {n : Nat} (hn : n < dvs.length) : t.cls.getD n dc0 = dvs[n].d := by
  rw [← h.cls, List.getD_eq_getElem?_getD]
  simp [hn]
/-- The document's step of one who can go on. -/
theorem rstep_any (h : Sn w B sb tb lv kv vv hv ro dvs mvs t) (n : Nat) (hi : n ∈ dReady t) (hl : dvs.length ≤ 64) (hol : ∀ d ∈ t.cls, d.ops.length ≤ 2147483647 ∧ d.locked ≤ 8 ∧ ∀ o ∈ d.ops, known o.1 = true) (hms : t.ms.length ≤ 100000000000) (hlt : t.tab.length ≤ 3999999999) :
    Calls Tryz.prog 29 #[.pointer (some ⟨sb, 0, none⟩), vI (n : Nat)] w fun e w' => e = .returned (.tuple #[]) ∧ Snd w' B sb tb dvs.length (dStep t n) ∧ Fr (fun j => B ≤ j) w w' := by
  unfold dReady at hi
  rw [List.mem_filter] at hi
  have hn : n < dvs.length := by rw [h.len]; exact List.mem_range.1 hi.1
  have hat := h.at hn
  have hc := hi.2
  rw [hat] at hc
  have hm : dvs[n].d ∈ t.cls := by rw [← h.cls]; exact List.mem_map.2 ⟨_, List.getElem_mem hn, rfl⟩
  obtain ⟨h1, h2, h3⟩ := hol _ hm
  cases hop : dvs[n].d.ops[dvs[n].d.at']? with
  | none => unfold dCan at hc; rw [hop] at hc; simp at hc
  | some o =>
    have hk := h3 o (List.mem_of_getElem? hop)
    have hk' : o.1 = 1 ∨ o.1 = 2 ∨ o.1 = 3 := by simp only [known, Bool.or_eq_true, beq_iff_eq] at hk; omega
    unfold dStep
    simp only [hat, hop]
    by_cases hb : dvs[n].d.begun = false
    · rw [if_pos hb]
      exact rstep_begin h n hn hl o hop h1 hb hms
    · rw [if_neg hb]
      have hb' : dvs[n].d.begun = true := by cases e : dvs[n].d.begun with | true => rfl | false => exact absurd e hb
      by_cases hd : dvs[n].d.done = true
      · rw [if_pos hd]
        exact rstep_end h n hn hl o hop h1 hb' hd hms
      · rw [if_neg hd]
        have hd' : dvs[n].d.done = false := by cases e : dvs[n].d.done with | false => rfl | true => exact absurd e hd
        by_cases hk3 : o.1 = 3
        · by_cases hlk : dvs[n].d.locked < 8
          · rw [if_pos ⟨hk3, hlk⟩]
            exact rstep_lock h n hn hl o hop h1 hb' hd' hk3 hlk
          · rw [if_neg (fun e => hlk e.2), if_pos hk3]
            exact rstep_snap h n hn hl o hop h1 hb' hd' hk3 (by omega) hlt
        · rw [if_neg (fun e => hk3 e.1), if_neg hk3]
          exact rstep_act h n hn hl o hop h1 hb' hd' (by omega) hlt
/-- The document's ready. -/
theorem rready_any (h : Sn w B sb tb lv kv vv hv ro dvs mvs t) (hl : dvs.length ≤ 64) (hol : ∀ d ∈ t.cls, d.ops.length ≤ 2147483647 ∧ d.locked ≤ 8 ∧ d.at' ≤ 2147483647) :
    Calls Tryz.prog 27 #[.pointer (some ⟨sb, 0, none⟩)] w fun e w' => ∃ v', e = .returned v' ∧ OwnI w' w.heap.size v' (dReady t) ∧ Fr (fun _ => False) w w' := by
  obtain ⟨la, lc, el, hl2⟩ := RowAt.own h.row
  rw [ptrs_len] at el
  have hla : ∃ lg, (0 < dvs.length → la = some ⟨lg, 0, none⟩ ∧ lg < w.heap.size ∧ ∀ i (hi : i < dvs.length), w.cell? ⟨lg, i, none⟩ = some (.pointer (some ⟨dvs[i].cb, 0, none⟩))) := by
    by_cases h0 : 0 < dvs.length
    · obtain ⟨lg, lo, e2, hlg, hlc⟩ := hl2 (fun e => by have := ptrs_len dvs; rw [e] at this; simp at this; omega)
      have lo0 : lo = 0 := by
        rcases h.row.2 with ⟨e3, -⟩ | ⟨g, cap, cur, e3, -⟩
        · rw [el, e2] at e3; cases e3
        · rw [el, e2] at e3
          injection e3 with e4 _ _
          injection e4 with e4
          injection e4
      subst lo0
      refine ⟨lg, fun _ => ⟨e2, hlg, fun i hi => ?_⟩⟩
      have r1 := hlc i (by rw [ptrs_len]; exact hi)
      have r2 : (ptrs dvs)[i]'(by rw [ptrs_len]; exact hi) = .pointer (some ⟨dvs[i].cb, 0, none⟩) := by simp [ptrs]
      rw [r2, Nat.zero_add] at r1
      exact r1
    · exact ⟨0, fun e => absurd e h0⟩
  obtain ⟨lg, hlg⟩ := hla
  have hrd : dReady t = (List.range dvs.length).filter (fun i => dCan t (t.cls.getD i dc0)) := by unfold dReady; rw [h.len]
  rw [hrd]
  refine ready_any (sb := sb) (lg := lg) (lc := lc) (N := dvs.length) (la := la) (cb := fun i => (dvs.getD i ⟨0, .slice none 0 0, .slice none 0 0, .slice none 0 0, dc0⟩).cb) (can := fun i => dCan t (t.cls.getD i dc0)) w hl (fun e => (hlg e).1) (fun W f => ⟨?_, fun i hi => ?_⟩) (fun i hi W f => ?_)
  · rw [cell_of (h.fr0 f).scn, ← el]; rfl
  · obtain ⟨-, q2, q3⟩ := hlg (by omega)
    have e : dvs.getD i ⟨0, .slice none 0 0, .slice none 0 0, .slice none 0 0, dc0⟩ = dvs[i] := by rw [List.getD_eq_getElem?_getD]; simp [hi]
    rw [e]
    exact (f.cell q2 (fun h => h)).trans (q3 i hi)
  · have e : dvs.getD i ⟨0, .slice none 0 0, .slice none 0 0, .slice none 0 0, dc0⟩ = dvs[i] := by rw [List.getD_eq_getElem?_getD]; simp [hi]
    have hs := h.fr0 f
    have hm : dvs[i].d ∈ t.cls := by rw [← h.cls]; exact List.mem_map.2 ⟨_, List.getElem_mem hi, rfl⟩
    obtain ⟨h1, h2, h3⟩ := hol _ hm
    rw [e, h.at hi]
    have hcan : dCan t dvs[i].d = canB t.held dvs[i].d.ops dvs[i].d.at' dvs[i].d.begun dvs[i].d.locked dvs[i].d.done := rfl
    rw [hcan]
    refine can_any W (fun W' f' => ?_) (hs.ops dvs[i] (List.getElem_mem hi)).1 h1 h3 h2
    have hs' := hs.fr0 f'
    have hc := hs'.cl i hi
    exact ⟨by rw [cell_of hc]; rfl, by rw [cell_of hc]; rfl, by rw [cell_of hc]; rfl, by rw [cell_of hc]; rfl, by rw [cell_of hc]; rfl, fun j hj => by rw [cell_of hs'.scn, scn_held _ _ _ _ _ hj]⟩
end
end Go.Proofs.YtngbakjalmgciaaGreat
