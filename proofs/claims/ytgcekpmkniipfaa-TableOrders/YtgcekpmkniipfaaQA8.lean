import Derived.Test.YtgcekpmkniipfaaQA7
namespace Go.Proofs.Ytgcekpmkniipfaa
open Go.RowKit (wrap32 wrap64)
open Go.MuLone
open Go.Maps (Keyed)
set_option linter.unusedVariables false
set_option linter.unusedSimpArgs false

def Apart (g g' : Gh) : Prop := ∀ j, g.own j ≠ 0 → g'.own j = 0
theorem Apart.symm {g g' : Gh} (h : Apart g g') : Apart g' g := fun j hj => by
  by_cases e : g.own j = 0
  · exact e
  · exact absurd (h j e) hj

theorem Fr.under {S : Nat → Prop} {w a b : World} (h : Fr (fun _ => False) w a) (k : Fr S a b) (hs : ∀ j, S j → w.heap.size ≤ j) : Fr (fun _ => False) w b :=
  ⟨k.os.trans h.os, k.tape.trans h.tape, k.output.trans h.output, Nat.le_trans h.size k.size, fun j hj _ => (k.block j (Nat.lt_of_lt_of_le hj h.size) (fun hS => by have := hs j hS; omega)).trans (h.block j hj (fun h => h))⟩
theorem gh0_from (b j : Nat) (hj : (gh0 b).own j ≠ 0) : b ≤ j := by
  rcases Nat.lt_or_ge j b with h | h
  · exact absurd (gh0_old b j h) hj
  · exact h

abbrev opV (kd ky : Int) (s : ByteArray) : Value := .agg #[vI kd, vI ky, .string s]

set_option maxRecDepth 100000 in
set_option maxHeartbeats 4000000 in
theorem nil_walk (kd ky k : Int) (s : ByteArray) (hk : In64 k) (hs : s.size ≤ 140737488351232) (w : World) :
    Calls Try.prog 3 #[opV kd ky s, vI k] w fun e w' => e = .returned (.bool true) ∧ Fr (fun _ => False) w w' := by
  have hk' : Hd (In64 k) := hk
  have c0 : (w.alloc (.cells #[vI kd, vI ky, .string s] 23)).cell? ⟨w.heap.size, 2, none⟩ = some (.string s) := by rw [World.cell?_alloc_new]; rfl
  have F0 : Hd (Fr (fun _ => False) w (w.alloc (.cells #[vI kd, vI ky, .string s] 23))) := (Fr.refl _ w).alloc _
  have hsz : w.heap.size < (w.alloc (.cells #[vI kd, vI ky, .string s] 23)).heap.size := by simp
  clear hk
  go_enter Try.func3, Try.ntmps3
  go_wp2_with fail
  obtain ⟨w0, e0⟩ : ∃ w0, w0 = w.alloc (.cells #[vI kd, vI ky, .string s] 23) := ⟨_, rfl⟩
  rw [← e0] at c0 F0 hsz ⊢
  obtain ⟨ob, eo⟩ : ∃ ob, ob = w.heap.size := ⟨_, rfl⟩
  rw [← eo] at c0 hsz ⊢
  clear e0 eo
  refine (lookup_nil k _).mono ?_
  rintro _ w0 ⟨rfl, rfl⟩
  go_wp2_with fail
  refine (snapshot_nil _).mono ?_
  rintro _ w0 ⟨rfl, rfl⟩
  go_wp2_with fail
  refine (publish_nil k s _).mono ?_
  rintro _ w0 ⟨rfl, rfl⟩
  go_wp2_with fail
  refine (new_any _).mono ?_
  rintro _ w1 ⟨rfl, hA, hF1⟩
  obtain ⟨ba, eba⟩ : ∃ ba, ba = w0.heap.size := ⟨_, rfl⟩
  rw [← eba] at hA ⊢
  have hob : ob < ba := by omega
  have c1 : w1.cell? ⟨ob, 2, none⟩ = some (.string s) := (hF1.cell hsz (fun h => h)).trans c0
  have F1 : Hd (Fr (fun _ => False) w w1) := F0.out.trans hF1
  have hA' : Hd (Tb w1 ba (gh0 ba) 0 (fun _ => none)) := hA
  have hob1 : Hd (ob < w1.heap.size ∧ ob < ba ∧ (∀ j, (gh0 ba).own j ≠ 0 → w0.heap.size ≤ j) ∧ w.heap.size ≤ ba) := ⟨Nat.lt_of_lt_of_le hsz hF1.size, hob, fun j hj => by
    rcases Nat.lt_or_ge j ba with h | h
    · exact absurd (gh0_old ba j h) hj
    · omega, by have := F0.out.size; omega⟩
  clear hA hF1 F0 hsz c0 eba hob
  go_wp2_with fail
  refine (new_any _).mono ?_
  rintro _ w2 ⟨rfl, hB, hF2⟩
  obtain ⟨bb, ebb⟩ : ∃ bb, bb = w1.heap.size := ⟨_, rfl⟩
  rw [← ebb] at hB ⊢
  have hA2 : Hd (Tb w2 ba (gh0 ba) 0 (fun _ => none)) := hA'.out.fr hF2 (fun _ _ h => h)
  have hAp : Hd (Apart (gh0 ba) (gh0 bb)) := fun j hj => gh0_old bb j (by have := hA'.out.lt j hj; omega)
  have c2 : w2.cell? ⟨ob, 2, none⟩ = some (.string s) := (hF2.cell hob1.out.1 (fun h => h)).trans c1
  have F2 : Hd (Fr (fun _ => False) w w2) := F1.out.trans hF2
  have hB2 : Hd (Tb w2 bb (gh0 bb) 0 (fun _ => none)) := hB
  have hob2 : Hd (ob < w2.heap.size ∧ ob < ba ∧ (gh0 ba).own ob = 0 ∧ (gh0 bb).own ob = 0 ∧ w.heap.size ≤ ba ∧ w.heap.size ≤ bb) := ⟨Nat.lt_of_lt_of_le hob1.out.1 hF2.size, hob1.out.2.1, gh0_old _ _ hob1.out.2.1, gh0_old _ _ (by have := hob1.out.1; omega), hob1.out.2.2.2, by have := F1.out.size; omega⟩
  clear hB hF2 F1 c1 ebb hA' hob1
  go_wp2_with fail
  refine (Publish_yes ba (gh0 ba) 0 (fun _ => none) k hk'.out s rfl (by decide) w2 hA2.out).mono ?_
  rintro _ w3 ⟨rfl, hA3, hF3⟩
  have hB3 : Hd (Tb w3 bb (gh0 bb) 0 (fun _ => none)) := hB2.out.fr hF3 (fun j hj h => h (hAp.out.symm j hj))
  have c3 : w3.cell? ⟨ob, 2, none⟩ = some (.string s) := (hF3.cell hob2.out.1 (fun h => h hob2.out.2.2.1)).trans c2
  have F3 : Hd (Fr (fun _ => False) w w3) := F2.out.under hF3 (fun j hj => by have := gh0_from ba j hj; have := hob2.out.2.2.2.2.1; omega)
  have hAp3 : Hd (Apart ((gh0 ba).more k w2.heap.size) (gh0 bb)) := fun j hj => by
    by_cases e : j = w2.heap.size
    · by_cases e2 : (gh0 bb).own j = 0
      · exact e2
      · exact absurd (hB2.out.lt j e2) (by omega)
    · exact hAp.out j (by rw [Gh.more_own _ _ _ _ e] at hj; exact hj)
  have hob3' : Hd (ob ≠ ba ∧ ob ≠ bb) := ⟨by have := hob2.out.2.1; omega, by intro e; have h1 := hob2.out.2.2.2.1; rw [e, hB2.out.own1] at h1; cases h1⟩
  have hob3 : Hd (ob < w3.heap.size ∧ w.heap.size ≤ ba ∧ w.heap.size ≤ bb) := ⟨Nat.lt_of_lt_of_le hob2.out.1 hF3.size, hob2.out.2.2.2.2⟩
  obtain ⟨ga, ega⟩ : ∃ ga, Hd (ga = (gh0 ba).more k w2.heap.size) := ⟨_, rfl⟩
  have hA3' : Hd (Tb w3 ba ga 1 (upd (fun _ => none) k s)) := by rw [ega.out]; exact hA3
  have hAp4 : Hd (Apart ga (gh0 bb)) := by rw [ega.out]; exact hAp3.out
  clear hA3 hF3 F2 c2 hA2 hB2 hAp hob2 hAp3
  go_wp2_with fail
  refine (Publish_no ba ga 1 (upd (fun _ => none) k s) k _ s (by simp [upd]) w3 hA3'.out).mono ?_
  rintro _ w4 ⟨rfl, hA4, hF4⟩
  have hoa : Hd (ga.own ba ≠ 0 ∧ (gh0 bb).own ba = 0 ∧ ga.own bb = 0) := ⟨by rw [hA4.own1]; decide, hAp4.out ba (by rw [hA4.own1]; decide), hAp4.out.symm bb (by rw [hB3.out.own1]; decide)⟩
  have hB4 : Hd (Tb w4 bb (gh0 bb) 0 (fun _ => none)) := hB3.out.fr hF4 (fun j hj h => by rw [h] at hj; exact hj hoa.out.2.1)
  have hne : Hd (ob ≠ ba ∧ ob ≠ bb) := hob3'
  have c4 : w4.cell? ⟨ob, 2, none⟩ = some (.string s) := (hF4.cell hob3.out.1 (fun h => hne.out.1 h)).trans c3
  have F4 : Hd (Fr (fun _ => False) w w4) := F3.out.under hF4 (fun j hj => by rw [hj]; exact hob3.out.2.1)
  have hob4 : Hd (ob < w4.heap.size) := Nat.lt_of_lt_of_le hob3.out.1 hF4.size
  have hA4' : Hd (Tb w4 ba ga 1 (upd (fun _ => none) k s)) := hA4
  clear hA4 hF4 F3 c3 hA3' hB3
  go_wp2_with fail
  refine (lookup_any bb (gh0 bb) 0 (fun _ => none) k hk'.out w4 hB4.out).mono ?_
  rintro _ w5 ⟨rfl, hB5, hF5⟩
  have hA5 : Hd (Tb w5 ba ga 1 (upd (fun _ => none) k s)) := hA4'.out.fr hF5 (fun j hj h => by rw [h] at hj; exact hj hoa.out.2.2)
  have hB5' : Hd (Tb w5 bb (gh0 bb) 0 (fun _ => none)) := hB5
  have c5 : w5.cell? ⟨ob, 2, none⟩ = some (.string s) := (hF5.cell hob4.out (fun h => hne.out.2 h)).trans c4
  have F5 : Hd (Fr (fun _ => False) w w5) := F4.out.under hF5 (fun j hj => by rw [hj]; exact hob3.out.2.2)
  have hob5 : Hd (ob < w5.heap.size) := Nat.lt_of_lt_of_le hob4.out hF5.size
  have l5 : lookB (fun _ => none) k = false := rfl
  clear hB5 hF5 F4 c4 hA4' hB4
  go_wp2_with fail
  refine (lookup_any ba ga 1 (upd (fun _ => none) k s) k hk'.out w5 hA5.out).mono ?_
  rintro _ w6 ⟨rfl, hA6, hF6⟩
  have hB6 : Hd (Tb w6 bb (gh0 bb) 0 (fun _ => none)) := hB5'.out.fr hF6 (fun j hj h => by rw [h] at hj; exact hj hoa.out.2.1)
  have c6 : w6.cell? ⟨ob, 2, none⟩ = some (.string s) := (hF6.cell hob5.out (fun h => hne.out.1 h)).trans c5
  have F6 : Hd (Fr (fun _ => False) w w6) := F5.out.under hF6 (fun j hj => by rw [hj]; exact hob3.out.2.1)
  have l6 : lookB (upd (fun _ => none) k s) k = true := by simp [lookB, upd]
  have l7 : lookS (upd (fun _ => none) k s) k = s := by simp [lookS, upd]
  clear hA6 hF6 F5 c5 hB5' hA5
  go_wp2_with fail
  refine (Publish_yes bb (gh0 bb) 0 (fun _ => none) k hk'.out ⟨#[]⟩ rfl (by decide) w6 hB6.out).mono ?_
  rintro _ w7 ⟨rfl, hB7, hF7⟩
  have F7 : Hd (Fr (fun _ => False) w w7) := F6.out.under hF7 (fun j hj => by have := gh0_from bb j hj; have := hob3.out.2.2; omega)
  clear hB7 hF7
  go_wp2_with fail
  go_ret
  exact ⟨rfl, F7.out⟩
end Go.Proofs.Ytgcekpmkniipfaa
