import Derived.Test.YtgcekpmkniipfaaQC2
namespace Go.Proofs.Ytgcekpmkniipfaa
open Go.RowKit (wrap32 wrap64)
set_option linter.unusedVariables false
set_option linter.unusedSimpArgs false

set_option maxRecDepth 100000 in
set_option maxHeartbeats 1000000 in
theorem known_any (kd : Int) (w : World) : Calls Try.prog 76 #[vI kd] w fun e w' => e = .returned (.bool (known kd)) ∧ w' = w := by
  unfold known
  by_cases h1 : kd = 1
  · subst h1
    go_enter Try.func76, Try.ntmps76
    go_wp2_with fail
    go_ret
    exact ⟨rfl, rfl⟩
  · have d1 : (kd == 1) = false := by simp [h1]
    by_cases h2 : kd = 2
    · subst h2
      go_enter Try.func76, Try.ntmps76
      go_wp2_with fail
      go_ret
      exact ⟨rfl, rfl⟩
    · have d2 : (kd == 2) = false := by simp [h2]
      rw [d1, d2]
      have e1 : decide (kd = 1) = false := by simp [h1]
      have e2 : decide (kd = 2) = false := by simp [h2]
      go_enter Try.func76, Try.ntmps76
      go_wp2_with fail
      go_ret
      exact ⟨by simp, rfl⟩

theorem OpsAt.tail {w : World} {B : Nat} {g o cap : Nat} {x : OpT} {r : List OpT} (hcap : r.length + 1 ≤ cap) (hg : g < B) (hcs : ∀ i (h : i < (x :: r).length), w.cell? ⟨g, o + i * 3, none⟩ = some (vI (x :: r)[i].1) ∧ w.cell? ⟨g, o + i * 3 + 1, none⟩ = some (vI (x :: r)[i].2.1) ∧ w.cell? ⟨g, o + i * 3 + 2, none⟩ = some (.string (x :: r)[i].2.2)) {ad : Option Addr} (had : r ≠ [] → ad = some ⟨g, o + 3, none⟩) :
    OpsAt w B (.slice ad r.length (cap - 1)) r := by
  refine ⟨ad, cap - 1, rfl, by omega, fun hne => ⟨g, o + 3, had hne, hg, fun i hi => ?_⟩⟩
  have := hcs (i + 1) (by simpa using hi)
  rw [show o + (i + 1) * 3 = o + 3 + i * 3 by omega] at this
  exact this

set_option maxRecDepth 100000 in
set_option maxHeartbeats 2000000 in
theorem fromKnown_any (B : Nat) (v : Value) (ops : List OpT) (w : World) (h : OpsAt w B v ops) (hn : ops.length ≤ 1000000000000) :
    Calls Try.prog 53 #[v] w fun e w' => ∃ v', e = .returned v' ∧ OpsAt w B v' (fromK ops) ∧ w' = w := by
  have H : Hd (OpsAt w B v ops) := h
  clear h
  go_enter Try.func53, Try.ntmps53
  go_wp2_with fail
  go_loopw [0] (fun v wr => wr = w ∧ ∃ rest : List OpT, Hd (OpsAt w B v rest ∧ fromK rest = fromK ops ∧ rest.length ≤ 1000000000000)) (fun v _ => match v with | .slice _ n _ => n | _ => 0)
  case atStart => exact ⟨rfl, ops, H.out, rfl, hn⟩
  case round =>
    obtain ⟨rfl, rest, HM⟩ := hrel
    obtain ⟨⟨ad, cap, rfl, hcap, hx⟩, hfr, hrl⟩ := HM.out
    cases rest with
    | nil =>
      have HM' : Hd (OpsAt wr B (.slice ad ([] : List OpT).length cap) [] ∧ fromK ([] : List OpT) = fromK ops) := ⟨⟨ad, cap, rfl, hcap, hx⟩, hfr⟩
      clear HM hx hfr
      simp only [List.length_nil]
      go_wp2_with fail
      go_ret
      exact ⟨.slice ad 0 cap, rfl, by rw [← HM'.out.2]; exact HM'.out.1, rfl⟩
    | cons o r =>
      obtain ⟨g, of, rfl, hg, hcs⟩ := hx (by simp)
      obtain ⟨c0, -, -⟩ := hcs 0 (by simp)
      simp only [List.getElem_cons_zero, Nat.zero_mul, Nat.add_zero] at c0
      have hlen : (o :: r).length = r.length + 1 := rfl
      have HM' : Hd (OpsAt wr B (.slice (some ⟨g, of, none⟩) (o :: r).length cap) (o :: r) ∧ fromK (o :: r) = fromK ops) := ⟨HM.out.1, hfr⟩
      have HT : Hd (∀ ad : Option Addr, (r ≠ [] → ad = some ⟨g, of + 3, none⟩) → OpsAt wr B (.slice ad r.length (cap - 1)) r) := fun ad had => OpsAt.tail (by simpa using hcap) hg hcs had
      have hcap' : r.length + 1 ≤ cap := hcap
      rw [hlen] at HM' ⊢
      clear HM hx hcs hcap hlen H
      cases hk : known o.1 with
      | true =>
        have hfk : Hd (fromK (o :: r) = o :: r) := by show _ = _; unfold fromK; rw [List.dropWhile_cons, if_neg (by simp [hk])]
        clear HT hfr
        go_wp2_with (go_at_call 76; refine (known_any o.1 _).mono ?_; rintro _ wz ⟨rfl, rfl⟩; rw [hk])
        go_ret
        exact ⟨.slice (some ⟨g, of, none⟩) (r.length + 1) cap, rfl, by rw [← HM'.out.2, hfk.out]; exact HM'.out.1, rfl⟩
      | false =>
        have hfk : Hd (fromK r = fromK ops) := by show _ = _; rw [← hfr]; unfold fromK; rw [List.dropWhile_cons, if_pos (by simp [hk])]
        have hrl' : Hd (r.length ≤ 1000000000000) := by show _ ≤ _; simp at hrl; omega
        have hr1 : r.length + 1 ≤ 1000000000000 := by simpa using hrl
        clear hfr HM'
        go_wp2_with (go_at_call 76; refine (known_any o.1 _).mono ?_; rintro _ wz ⟨rfl, rfl⟩; rw [hk])
        refine ⟨⟨trivial, r, HT.out _ (fun hne => by rw [if_neg (by intro e; rw [e] at hcap'; have : r = [] := List.eq_nil_of_length_eq_zero (by omega); exact hne this)]), hfk.out, hrl'.out⟩, by simp⟩

/-! ### a client's own calls -/
section
variable {w : World} {B pb cb tb : Nat} {g : Gh} {N : Nat} {a : Ab} {mv : Value} {cvs : List CV} {mvs : List MV} {s : St} {E : Nat → Prop}
theorem Pl.cells (h : Pl w B pb cb tb g N a mv cvs mvs s E) (i : Nat) (hi : i < cvs.length) :
    w.cell? ⟨cb, i * 7, none⟩ = some cvs[i].cv ∧ w.cell? ⟨cb, i * 7 + 1, none⟩ = some (vI cvs[i].c.st) ∧ w.cell? ⟨cb, i * 7 + 2, none⟩ = some (vI cvs[i].c.lk) ∧ w.cell? ⟨cb, i * 7 + 3, none⟩ = some (.bool cvs[i].c.rp.ok) ∧ w.cell? ⟨cb, i * 7 + 4, none⟩ = some (.string cvs[i].c.rp.val) ∧ w.cell? ⟨cb, i * 7 + 5, none⟩ = some cvs[i].kv ∧ w.cell? ⟨cb, i * 7 + 6, none⟩ = some cvs[i].vv := by
  have hc := fun j hj => h.rows.cell i j (by simpa using hi) hj
  have e : (cvs.map cl7)[i]'(by simpa using hi) = cl7 cvs[i] := by simp
  rw [e] at hc
  exact ⟨hc 0 (by omega), hc 1 (by omega), hc 2 (by omega), hc 3 (by omega), hc 4 (by omega), hc 5 (by omega), hc 6 (by omega)⟩
end

set_option maxRecDepth 100000 in
set_option maxHeartbeats 1000000 in
theorem ended_any (cb o : Nat) (ad : Option Addr) (n cap : Nat) (w : World) (c0 : w.cell? ⟨cb, o, none⟩ = some (.slice ad n cap)) :
    Calls Try.prog 77 #[.pointer (some ⟨cb, o, none⟩)] w fun e w' => e = .returned (.bool (n == 0)) ∧ w' = w := by
  cases n with
  | zero =>
    go_enter Try.func77, Try.ntmps77
    go_wp2_with fail
    go_ret
    exact ⟨rfl, rfl⟩
  | succ m =>
    have hd : decide (((m + 1 : Nat) : Int) = 0) = false := by simp; omega
    have hd2 : (((m + 1 : Nat) : Int) == 0) = false := by simp; omega
    generalize hq : m + 1 = q at *
    have hq0 : ¬ q = 0 := by omega
    clear hq
    go_enter Try.func77, Try.ntmps77
    go_wp2_with fail
    go_ret
    exact ⟨by simp [hq0], rfl⟩

set_option maxRecDepth 100000 in
set_option maxHeartbeats 2000000 in
/-- needs, of a client that has a call. -/
theorem needs_any (B cb o : Nat) (cv : Value) (c : Cl) (w : World) (hc : ClOk c) (hne : c.ops ≠ []) (ho : OpsAt w B cv c.ops) (c0 : w.cell? ⟨cb, o, none⟩ = some cv) (c1 : w.cell? ⟨cb, o + 1, none⟩ = some (vI c.st)) (c2 : w.cell? ⟨cb, o + 2, none⟩ = some (vI c.lk)) :
    Calls Try.prog 78 #[.pointer (some ⟨cb, o, none⟩)] w fun e w' => e = .returned (vI (needs c)) ∧ w' = w := by
  obtain ⟨ops, st, lk, rp⟩ := c
  obtain ⟨ad, cap, rfl, hcap, hx⟩ := ho
  obtain ⟨g, of, rfl, hg, hcs⟩ := hx hne
  cases ops with
  | nil => exact absurd rfl hne
  | cons x r =>
    obtain ⟨k0, k1, -⟩ := hcs 0 (by simp)
    simp only [List.getElem_cons_zero, Nat.zero_mul, Nat.add_zero] at k0 k1
    have hl8 := hc.lk
    simp only at hl8 c1 c2
    have hlen : (x :: r).length = r.length + 1 := rfl
    simp only [hlen] at c0
    unfold needs
    simp only
    clear hx hcs hc hne hcap hlen
    by_cases h1 : st = 1
    · subst h1
      rw [if_neg (by simp)]
      by_cases h3 : x.1 = 3
      · rw [if_neg (by simp [h3])]
        rw [h3] at k0
        clear h3
        by_cases h8 : lk < 8
        · rw [if_pos h8]
          have h8' : (lk : Int) < 8 := by omega
          go_enter Try.func78, Try.ntmps78
          go_wp2_with fail
          go_ret
          exact ⟨rfl, rfl⟩
        · rw [if_neg h8]
          have e8 : lk = 8 := by omega
          subst e8
          clear h8 hl8
          go_enter Try.func78, Try.ntmps78
          go_wp2_with fail
          go_ret
          exact ⟨rfl, rfl⟩
      · rw [if_pos h3]
        have d3 : decide (x.1 = 3) = false := by simp [h3]
        have d3' : (x.1 == 3) = false := by simp [h3]
        go_enter Try.func78, Try.ntmps78
        go_wp2_with (go_at_call 23; refine (stripeOf_any _ _).mono ?_; rintro _ _ ⟨rfl, rfl⟩)
        go_ret
        exact ⟨rfl, rfl⟩
    · rw [if_pos h1]
      have d1 : decide ((st : Int) = 1) = false := by simp; omega
      have d1' : ((st : Int) == 1) = false := by simp; omega
      go_enter Try.func78, Try.ntmps78
      go_wp2_with fail
      go_ret
      exact ⟨rfl, rfl⟩
end Go.Proofs.Ytgcekpmkniipfaa
