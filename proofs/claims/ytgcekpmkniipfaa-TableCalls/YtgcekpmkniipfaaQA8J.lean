import Derived.Test.YtgcekpmkniipfaaQCeJ
namespace Go.Proofs.Ytgcekpmkniipfaa
open Go.RowKit (wrap32 wrap64)
open Go.MuLone
open Go.Maps (Keyed)
set_option linter.unusedVariables false
set_option linter.unusedSimpArgs false

def Apart (g g' : Gh) : Prop := ∀ j, g.own j ≠ 0 → g'.own j = 0
theorem Apart.symm {g g' : Gh} (h : Apart g g') : Apart g' g := fun j hj => by
  by_cases e : g.own j = 0
  · exact e
  · exact absurd (h j e) hj

theorem Fr.under {S : Nat → Prop} {w a b : World} (h : Fr (fun _ => False) w a) (k : Fr S a b) (hs : ∀ j, S j → w.heap.size ≤ j) : Fr (fun _ => False) w b :=
  ⟨k.os.trans h.os, k.tape.trans h.tape, k.output.trans h.output, Nat.le_trans h.size k.size, fun j hj _ => (k.block j (Nat.lt_of_lt_of_le hj h.size) (fun hS => by have := hs j hS; omega)).trans (h.block j hj (fun h => h))⟩
theorem gh0_from (b j : Nat) (hj : (gh0 b).own j ≠ 0) : b ≤ j := by
  rcases Nat.lt_or_ge j b with h | h
  · exact absurd (gh0_old b j h) hj
  · exact h

abbrev opV (kd ky : Int) (s : ByteArray) : Value := .agg #[vI kd, vI ky, .string s]

set_option maxRecDepth 100000 in
set_option maxHeartbeats 4000000 in
theorem nil_walk (kd ky k : Int) (s : ByteArray) (hk : In64 k) (hs : s.size ≤ 140737488351232) (w : World) :
    Calls Try.prog 3 #[opV kd ky s, vI k] w fun e w' => e = .returned (.bool true) ∧ Fr (fun _ => False) w w' := by
  have hk' : Hd (In64 k) := hk
  have c0 : (w.alloc (.cells #[vI kd, vI ky, .string s] 23)).cell? ⟨w.heap.size, 2, none⟩ = some (.string s) := by rw [World.cell?_alloc_new]; rfl
  have F0 : Hd (Fr (fun _ => False) w (w.alloc (.cells #[vI kd, vI ky, .string s] 23))) := (Fr.refl _ w).alloc _
  have hsz : w.heap.size < (w.alloc (.cells #[vI kd, vI ky, .string s] 23)).heap.size := by simp
  clear hk
  go_enter Try.func3, Try.ntmps3
  go_wp2_with fail
  obtain ⟨w0, e0⟩ : ∃ w0, w0 = w.alloc (.cells #[vI kd, vI ky, .string s] 23) := ⟨_, rfl⟩
  rw [← e0] at c0 F0 hsz ⊢
  obtain ⟨ob, eo⟩ : ∃ ob, ob = w.heap.size := ⟨_, rfl⟩
  rw [← eo] at c0 hsz ⊢
  clear e0 eo
  refine (lookup_nil k _).mono ?_
  rintro _ w0 ⟨rfl, rfl⟩
  go_wp2_with fail
  refine (snapshot_nil _).mono ?_
  rintro _ w0 ⟨rfl, rfl⟩
  go_wp2_with fail
  refine (publish_nil k s _).mono ?_
  rintro _ w0 ⟨rfl, rfl⟩
  go_wp2_with fail
  refine (new_any _).mono ?_
  rintro _ w1 ⟨rfl, hA, hF1⟩
  obtain ⟨ba, eba⟩ : ∃ ba, ba = w0.heap.size := ⟨_, rfl⟩
  rw [← eba] at hA ⊢
  have hob : ob < ba := by omega
  have c1 : w1.cell? ⟨ob, 2, none⟩ = some (.string s) := (hF1.cell hsz (fun h => h)).trans c0
  have F1 : Hd (Fr (fun _ => False) w w1) := F0.out.trans hF1
  have hA' : Hd (Tb w1 ba (gh0 ba) 0 (fun _ => none)) := hA
  have hob1 : Hd (ob < w1.heap.size ∧ ob < ba ∧ (∀ j, (gh0 ba).own j ≠ 0 → w0.heap.size ≤ j) ∧ w.heap.size ≤ ba) := ⟨Nat.lt_of_lt_of_le hsz hF1.size, hob, fun j hj => by
    rcases Nat.lt_or_ge j ba with h | h
    · exact absurd (gh0_old ba j h) hj
    · omega, by have := F0.out.size; omega⟩
  clear hA hF1 F0 hsz c0 eba hob
  go_wp2_with fail
  refine (new_any _).mono ?_
  rintro _ w2 ⟨rfl, hB, hF2⟩
  obtain ⟨bb, ebb⟩ : ∃ bb, bb = w1.heap.size := ⟨_, rfl⟩
  rw [← ebb] at hB ⊢
  have hA2 : Hd (Tb w2 ba (gh0 ba) 0 (fun _ => none)) := hA'.out.fr hF2 (fun _ _ h => h)
  have hAp : Hd (Apart (gh0 ba) (gh0 bb)) := fun j hj => gh0_old bb j (by have := hA'.out.lt j hj; omega)
  have c2 : w2.cell? ⟨ob, 2, none⟩ = some (.string s) := (hF2.cell hob1.out.1 (fun h => h)).trans c1
  have F2 : Hd (Fr (fun _ => False) w w2) := F1.out.trans hF2
  have hB2 : Hd (Tb w2 bb (gh0 bb) 0 (fun _ => none)) := hB
  have hob2 : Hd (ob < w2.heap.size ∧ ob < ba ∧ (gh0 ba).own ob = 0 ∧ (gh0 bb).own ob = 0 ∧ w.heap.size ≤ ba ∧ w.heap.size ≤ bb) := ⟨Nat.lt_of_lt_of_le hob1.out.1 hF2.size, hob1.out.2.1, gh0_old _ _ hob1.out.2.1, gh0_old _ _ (by have := hob1.out.1; omega), hob1.out.2.2.2, by have := F1.out.size; omega⟩
  clear hB hF2 F1 c1 ebb hA' hob1
  go_wp2_with fail
  refine (Publish_yes ba (gh0 ba) 0 (fun _ => none) k hk'.out s rfl (by decide) w2 hA2.out).mono ?_
  rintro _ w3 ⟨rfl, hA3, hF3⟩
  have hB3 : Hd (Tb w3 bb (gh0 bb) 0 (fun _ => none)) := hB2.out.fr hF3 (fun j hj h => h (hAp.out.symm j hj))
  have c3 : w3.cell? ⟨ob, 2, none⟩ = some (.string s) := (hF3.cell hob2.out.1 (fun h => h hob2.out.2.2.1)).trans c2
  have F3 : Hd (Fr (fun _ => False) w w3) := F2.out.under hF3 (fun j hj => by have := gh0_from ba j hj; have := hob2.out.2.2.2.2.1; omega)
  have hAp3 : Hd (Apart ((gh0 ba).more k w2.heap.size) (gh0 bb)) := fun j hj => by
    by_cases e : j = w2.heap.size
    · by_cases e2 : (gh0 bb).own j = 0
      · exact e2
      · exact absurd (hB2.out.lt j e2) (by omega)
    · exact hAp.out j (by rw [Gh.more_own _ _ _ _ e] at hj; exact hj)
  have hob3' : Hd (ob ≠ ba ∧ ob ≠ bb) := ⟨by have := hob2.out.2.1; omega, by intro e; have h1 := hob2.out.2.2.2.1; rw [e, hB2.out.own1] at h1; cases h1⟩
  have hob3 : Hd (ob < w3.heap.size ∧ w.heap.size ≤ ba ∧ w.heap.size ≤ bb) := ⟨Nat.lt_of_lt_of_le hob2.out.1 hF3.size, hob2.out.2.2.2.2⟩
  obtain ⟨ga, ega⟩ : ∃ ga, Hd (ga = (gh0 ba).more k w2.heap.size) := ⟨_, rfl⟩
  have hA3' : Hd (Tb w3 ba ga 1 (upd (fun _ => none) k s)) := by rw [ega.out]; exact hA3
  have hAp4 : Hd (Apart ga (gh0 bb)) := by rw [ega.out]; exact hAp3.out
  clear hA3 hF3 F2 c2 hA2 hB2 hAp hob2 hAp3
  go_wp2_with fail
  refine (Publish_no ba ga 1 (upd (fun _ => none) k s) k _ s (by simp [upd]) w3 hA3'.out).mono ?_
  rintro _ w4 ⟨rfl, hA4, hF4⟩
  have hoa : Hd (ga.own ba ≠ 0 ∧ (gh0 bb).own ba = 0 ∧ ga.own bb = 0) := ⟨by rw [hA4.own1]; decide, hAp4.out ba (by rw [hA4.own1]; decide), hAp4.out.symm bb (by rw [hB3.out.own1]; decide)⟩
  have hB4 : Hd (Tb w4 bb (gh0 bb) 0 (fun _ => none)) := hB3.out.fr hF4 (fun j hj h => by rw [h] at hj; exact hj hoa.out.2.1)
  have hne : Hd (ob ≠ ba ∧ ob ≠ bb) := hob3'
  have c4 : w4.cell? ⟨ob, 2, none⟩ = some (.string s) := (hF4.cell hob3.out.1 (fun h => hne.out.1 h)).trans c3
  have F4 : Hd (Fr (fun _ => False) w w4) := F3.out.under hF4 (fun j hj => by rw [hj]; exact hob3.out.2.1)
  have hob4 : Hd (ob < w4.heap.size) := Nat.lt_of_lt_of_le hob3.out.1 hF4.size
  have hA4' : Hd (Tb w4 ba ga 1 (upd (fun _ => none) k s)) := hA4
  clear hA4 hF4 F3 c3 hA3' hB3
  go_wp2_with fail
  refine (lookup_any bb (gh0 bb) 0 (fun _ => none) k hk'.out w4 hB4.out).mono ?_
  rintro _ w5 ⟨rfl, hB5, hF5⟩
  have hA5 : Hd (Tb w5 ba ga 1 (upd (fun _ => none) k s)) := hA4'.out.fr hF5 (fun j hj h => by rw [h] at hj; exact hj hoa.out.2.2)
  have hB5' : Hd (Tb w5 bb (gh0 bb) 0 (fun _ => none)) := hB5
  have c5 : w5.cell? ⟨ob, 2, none⟩ = some (.string s) := (hF5.cell hob4.out (fun h => hne.out.2 h)).trans c4
  have F5 : Hd (Fr (fun _ => False) w w5) := F4.out.under hF5 (fun j hj => by rw [hj]; exact hob3.out.2.2)
  have hob5 : Hd (ob < w5.heap.size) := Nat.lt_of_lt_of_le hob4.out hF5.size
  have l5 : lookB (fun _ => none) k = false := rfl
  clear hB5 hF5 F4 c4 hA4' hB4
  go_wp2_with fail
  refine (lookup_any ba ga 1 (upd (fun _ => none) k s) k hk'.out w5 hA5.out).mono ?_
  rintro _ w6 ⟨rfl, hA6, hF6⟩
  have hB6 : Hd (Tb w6 bb (gh0 bb) 0 (fun _ => none)) := hB5'.out.fr hF6 (fun j hj h => by rw [h] at hj; exact hj hoa.out.2.1)
  have c6 : w6.cell? ⟨ob, 2, none⟩ = some (.string s) := (hF6.cell hob5.out (fun h => hne.out.1 h)).trans c5
  have F6 : Hd (Fr (fun _ => False) w w6) := F5.out.under hF6 (fun j hj => by rw [hj]; exact hob3.out.2.1)
  have l6 : lookB (upd (fun _ => none) k s) k = true := by simp [lookB, upd]
  have l7 : lookS (upd (fun _ => none) k s) k = s := by simp [lookS, upd]
  clear hA6 hF6 F5 c5 hB5' hA5
  go_wp2_with fail
  refine (Publish_yes bb (gh0 bb) 0 (fun _ => none) k hk'.out ⟨#[]⟩ rfl (by decide) w6 hB6.out).mono ?_
  rintro _ w7 ⟨rfl, hB7, hF7⟩
  have F7 : Hd (Fr (fun _ => False) w w7) := F6.out.under hF7 (fun j hj => by have := gh0_from bb j hj; have := hob3.out.2.2; omega)
  clear hB7 hF7
  go_wp2_with fail
  go_ret
  exact ⟨rfl, F7.out⟩
end Go.Proofs.Ytgcekpmkniipfaa

namespace Go.Proofs.Ytgcekpmkniipfaa
open Go.RowKit (wrap32 wrap64)
set_option linter.unusedVariables false
set_option linter.unusedSimpArgs false

theorem clsK_at (cl : List (List OpT)) (k : Nat) (h : k < cl.length) (h' : k < (clsK cl k).length) : (clsK cl k)[k] = cl0 := by
  have e : (clsK cl k)[k]? = some cl0 := by
    unfold clsK
    have hl : ((cl.take k).map (fun l => (⟨fromK l, 0, 0, rep0⟩ : Cl))).length = k := by simp; omega
    rw [List.getElem?_append_right (by omega), hl, Nat.sub_self, List.getElem?_replicate, if_pos (by omega)]
  rw [List.getElem?_eq_getElem h'] at e
  exact Option.some.inj e
theorem made_a (w w1 : World) (cl : List (List OpT)) (n : Nat) (en : n = cl.length) (hT : Tb w1 w.heap.size (gh0 w.heap.size) 0 (fun _ => none)) (hF : Fr (fun _ => False) w w1) :
    Pl ((w1.alloc (.cells (List.replicate n zrow).flatten.toArray 118)).alloc (.cells (playC w.heap.size (fun _ => false) w1.heap.size n (-1) (.slice none 0 0)) 101)) w.heap.size (w1.heap.size + 1) w1.heap.size w.heap.size (gh0 w.heap.size) 0 (fun _ => none) (.slice none 0 0) (List.replicate cl.length cv0) [] (stK cl 0) (fun _ => False) ∧ Fr (fun _ => False) w ((w1.alloc (.cells (List.replicate n zrow).flatten.toArray 118)).alloc (.cells (playC w.heap.size (fun _ => false) w1.heap.size n (-1) (.slice none 0 0)) 101)) := by
  subst en
  have F1 : Fr (fun _ => False) w1 ((w1.alloc (.cells (List.replicate cl.length zrow).flatten.toArray 118)).alloc (.cells (playC w.heap.size (fun _ => false) w1.heap.size cl.length (-1) (.slice none 0 0)) 101)) := ((Fr.refl _ w1).alloc _).alloc _
  have hs := hF.size
  have g0 : ∀ j, w1.heap.size ≤ j → (gh0 w.heap.size).own j = 0 := fun j hj => by
    by_cases e : (gh0 w.heap.size).own j = 0
    · exact e
    · have := hT.lt j e; omega
  refine ⟨Pl.made (w := w) cl rfl ?_ ?_ (hT.fr F1 (fun _ _ h => h)) (by omega) (g0 _ (by omega)) (g0 _ (by omega)) (by omega) (by omega) (fun j hj => gh0_from _ j hj), hF.trans F1⟩
  · have := heap_alloc_last (w1.alloc (.cells (List.replicate cl.length zrow).flatten.toArray 118)) (.cells (playC w.heap.size (fun _ => false) w1.heap.size cl.length (-1) (.slice none 0 0)) 101)
    rw [show (w1.alloc (.cells (List.replicate cl.length zrow).flatten.toArray 118)).heap.size = w1.heap.size + 1 by simp] at this
    exact this
  · rw [Go.RowKit.Below.heap_alloc _ _ _ (by simp)]
    exact heap_alloc_last w1 _
theorem made_b (w w1 : World) (cl : List (List OpT)) (n : Nat) (en : n = cl.length) (hT : Tb w1 (w.heap.size + 1) (gh0 (w.heap.size + 1)) 0 (fun _ => none)) (hF : Fr (fun _ => False) (w.alloc (.cells (List.replicate n zrow).flatten.toArray 118)) w1) :
    Pl (w1.alloc (.cells (playC (w.heap.size + 1) (fun _ => false) w.heap.size n (-1) (.slice none 0 0)) 101)) w.heap.size w1.heap.size w.heap.size (w.heap.size + 1) (gh0 (w.heap.size + 1)) 0 (fun _ => none) (.slice none 0 0) (List.replicate cl.length cv0) [] (stK cl 0) (fun _ => False) ∧ Fr (fun _ => False) w (w1.alloc (.cells (playC (w.heap.size + 1) (fun _ => false) w.heap.size n (-1) (.slice none 0 0)) 101)) := by
  subst en
  have F0 : Fr (fun _ => False) w (w.alloc (.cells (List.replicate cl.length zrow).flatten.toArray 118)) := (Fr.refl _ w).alloc _
  have F1 : Fr (fun _ => False) w1 (w1.alloc (.cells (playC (w.heap.size + 1) (fun _ => false) w.heap.size cl.length (-1) (.slice none 0 0)) 101)) := (Fr.refl _ w1).alloc _
  have hs : w.heap.size + 1 ≤ w1.heap.size := by have := hF.size; simp at this; exact this
  have g0 : ∀ j, w1.heap.size ≤ j → (gh0 (w.heap.size + 1)).own j = 0 := fun j hj => by
    by_cases e : (gh0 (w.heap.size + 1)).own j = 0
    · exact e
    · have := hT.lt j e; omega
  refine ⟨Pl.made (w := w) cl rfl (heap_alloc_last w1 _) ?_ (hT.fr F1 (fun _ _ h => h)) (by omega) (g0 _ (by omega)) (gh0_old _ _ (by omega)) (by omega) (by omega) (fun j hj => by have := gh0_from _ j hj; omega), (F0.trans hF).trans F1⟩
  rw [Go.RowKit.Below.heap_alloc _ _ _ (by omega), hF.block _ (by simp) (fun h => h)]
  exact heap_alloc_last w _

set_option maxRecDepth 100000 in
set_option maxHeartbeats 4000000 in
theorem newPlay_any (w : World) (v : Value) (cl : List (List OpT)) (h : ClsAt w w.heap.size v cl) (hn : cl.length ≤ 64) (hl : ∀ l ∈ cl, l.length ≤ 900000000000) :
    Calls Try.prog 31 #[v] w fun e w' => ∃ pb cb tb g cvs, e = .returned (.pointer (some ⟨pb, 0, none⟩)) ∧ Pl w' w.heap.size pb cb tb g 0 (fun _ => none) (.slice none 0 0) cvs [] (begin0 cl) (fun _ => False) ∧ Fr (fun _ => False) w w' := by
  have H : Hd (ClsAt w w.heap.size v cl) := h
  obtain ⟨ad, cap, rfl, -⟩ := h
  obtain ⟨n, en⟩ : ∃ n, n = cl.length := ⟨_, rfl⟩
  have EN : Hd (n = cl.length) := en
  have HLL : Hd (∀ l ∈ cl, l.length ≤ 900000000000) := hl
  rw [← en] at hn ⊢
  have mk := make_clients n hn
  clear en hl
  go_enter Try.func31, Try.ntmps31
  go_upto_region 1 with fail
  go_cut [3] (fun x3 wx => ∃ pb cb tb : Nat, ∃ g : Gh, x3 = .pointer (some ⟨pb, 0, none⟩) ∧ Hd (Pl wx w.heap.size pb cb tb g 0 (fun _ => none) (.slice none 0 0) (List.replicate cl.length cv0) [] (stK cl 0) (fun _ => False) ∧ Fr (fun _ => False) w wx))
  case first =>
    go_region_with ((first
      | (go_at_call 10; refine (new_any _).mono ?_; rintro _ w1 ⟨rfl, hT1, hF1⟩)))
    all_goals have HT1 : Hd _ := hT1
    all_goals have HF1 : Hd _ := hF1
    all_goals clear hT1 hF1
    all_goals go_wp2_with fail
    all_goals go_meet
    · obtain ⟨q1, q2⟩ := made_a w w1 cl n EN.out HT1.out ((Fr.drew (Fr.refl _ w)).trans HF1.out)
      exact ⟨_, _, _, _, rfl, q1, q2⟩
    · have hsz : (w.alloc (.cells (List.replicate n zrow).flatten.toArray 118)).heap.size = w.heap.size + 1 := by simp
      have ht := HT1.out
      rw [show (w.alloc (.cells (List.replicate n zrow).flatten.toArray 118)).drew.heap.size = w.heap.size + 1 from hsz] at ht
      obtain ⟨q1, q2⟩ := made_b w w1 cl n EN.out ht ((Fr.drew (Fr.refl _ _)).trans HF1.out)
      exact ⟨_, _, _, _, rfl, q1, q2⟩
  case rest =>
    obtain ⟨pb, cb, tb, g, rfl, HM⟩ := hcut
    obtain ⟨hP0, hF0⟩ := HM.out
    have HP0 : Hd _ := hP0
    have HF0 : Hd (Fr (fun _ => False) w wc) := hF0
    have HB : Hd (w.heap.size ≤ wc.heap.size) := hF0.size
    clear HM hP0 hF0 mk
    go_wp2_with fail
    go_loopw [14] (fun v wr => ∃ k : Nat, v = .int .i64 k ∧ k ≤ n ∧ Hd (∃ cvs, Pl wr w.heap.size pb cb tb g 0 (fun _ => none) (.slice none 0 0) cvs [] (stK cl k) (fun _ => False) ∧ Fr (fun j => j = cb) wc wr)) (fun v _ => match v with | .int _ q => n - q.toNat | _ => 0)
    case atStart => exact ⟨0, rfl, by omega, _, HP0.out, Fr.refl _ _⟩
    case round =>
      obtain ⟨k, rfl, hk, HM⟩ := hrel
      by_cases hlt : k < n
      · obtain ⟨cvs, hP, hF⟩ := HM.out
        have hkl : k < cl.length := by rw [← EN.out]; exact hlt
        obtain ⟨ad', cap', e', hx⟩ := H.out
        cases e'
        obtain ⟨gb, go, rfl, hgb, hcs⟩ := hx (by intro e; rw [e] at hkl; simp at hkl)
        obtain ⟨u, hu, hou⟩ := hcs k hkl
        have hgc := hP.bc
        have hFw : Fr (fun j => j = cb) w wr := (HF0.out.mono (fun _ _ h => h.elim)).trans hF
        have hu2 : wr.cell? ⟨gb, go + k, none⟩ = some u := (hFw.cell hgb (by omega)).trans hu
        have hou2 : OpsAt wr w.heap.size u cl[k] := hou.fr hFw (Nat.le_refl _) (fun j hj e => by omega)
        have hsl : (stK cl k).cls.length = cl.length := clsK_len cl k (by omega)
        have hkc : k < (stK cl k).cls.length := by rw [hsl]; exact hkl
        have hkv : k < cvs.length := by rw [hP.len]; exact hkc
        obtain ⟨-, p9, -⟩ := hP.heads
        rw [hsl, ← EN.out] at p9
        have hou3 : OpsAt wr.drew w.heap.size u cl[k] := hou2.fr (Fr.drew (Fr.refl (fun _ => False) wr)) (by have := HF0.out.size; have := hF.size; omega) (fun _ _ h => h)
        have hfk := fromKnown_any w.heap.size u cl[k] wr.drew hou3 (by have := HLL.out cl[k] (List.getElem_mem hkl); omega)
        have hrow := hP.row k hkv
        have hc0 := (hP.cells k hkv).1
        have z0 := hP.rows.frz (k * 7)
        have hpc : ¬ cb = pb := fun e => hP.ne e.symm
        have HEND : Hd (∀ (va : Option Addr) (vn vc : Nat), OpsAt wr.drew w.heap.size (.slice va vn vc) (fromK cl[k]) → (∃ cvs', Pl (wr.drew.setCell ⟨cb, k * 7, none⟩ (.slice va vn vc)) w.heap.size pb cb tb g 0 (fun _ => none) (.slice none 0 0) cvs' [] (stK cl (k + 1)) (fun _ => False) ∧ Fr (fun j => j = cb) wc (wr.drew.setCell ⟨cb, k * 7, none⟩ (.slice va vn vc)))) := fun va vn vc ho => by
          have hPd := hP.drew
          have hrd := hPd.row k hkv
          obtain ⟨hkv', ecl⟩ := hP.cl k hkc
          have hz : (stK cl k).cls[k] = cl0 := clsK_at cl k hkl hkc
          have hr2 := Rows.put (by simpa using hkv) hrd 0 (by omega) (.slice va vn vc)
          have F2 : Fr (fun j => j = cb) wr.drew (wr.drew.setCell ⟨cb, k * 7, none⟩ (.slice va vn vc)) := (Fr.refl (fun j => j = cb) _).setCell _ _ (Or.inl rfl)
          have hrp := hPd.reps cvs[k] (List.getElem_mem hkv)
          rw [hz] at ecl
          have h2 := hPd.setCl F2 k ⟨.slice va vn vc, cvs[k].kv, cvs[k].vv, ⟨fromK cl[k], cvs[k].c.st, cvs[k].c.lk, cvs[k].c.rp⟩⟩ hr2 ho hrp
          have es : ({ stK cl k with cls := (stK cl k).cls.set k ⟨fromK cl[k], cvs[k].c.st, cvs[k].c.lk, cvs[k].c.rp⟩ } : St) = stK cl (k + 1) := by
            rw [ecl]
            show (⟨[], fun _ => false, (clsK cl k).set k ⟨fromK cl[k], 0, 0, rep0⟩, -1, []⟩ : St) = _
            rw [clsK_set cl k hkl]
            rfl
          have h3 : Pl _ _ _ _ _ _ _ _ _ _ _ ({ stK cl k with cls := (stK cl k).cls.set k ⟨fromK cl[k], cvs[k].c.st, cvs[k].c.lk, cvs[k].c.rp⟩ } : St) _ := h2
          rw [es] at h3
          exact ⟨_, h3, hF.drew.trans F2⟩
        obtain ⟨ua, uc, eu, -⟩ := hou
        generalize hql : cl[k].length = q at eu
        subst eu
        have hk3 : (k : Int) < n := by omega
        have hk0 : (0 : Int) ≤ k := by omega
        generalize cvs[k].cv = ocv at hc0
        clear HM hP hF hrow hou2 hou3 hcs hx hFw hu hsl hkc hql H
        go_upto_region 5 with fail
        go_region_with ((first
          | (go_at_call 53; refine hfk.mono ?_; rintro _ wz ⟨v', rfl, ho', rfl⟩; have HO' : Hd _ := HEND.out; obtain ⟨va, vc, ev, -⟩ := (show OpsAt wr.drew w.heap.size v' (fromK cl[k]) from ho'); generalize hvn : (fromK cl[k]).length = vn at ev; subst ev; have HX : Hd _ := HEND.out va vn vc ho'; clear ho' hvn HO')))
        all_goals go_wp2_with fail
        all_goals exact ⟨⟨k + 1, by simp, by omega, HX.out⟩, by simp; omega⟩
      · have hdk : decide ((k : Int) < n) = false := by simp; omega
        have ek : Hd (k = cl.length) := by have := EN.out; show k = _; omega
        clear hk
        go_wp2_with fail
        go_ret
        obtain ⟨cvs, hP, hF⟩ := HM.out
        rw [ek.out, stK_all] at hP
        have hbc := hP.bc
        exact ⟨pb, cb, tb, g, cvs, rfl, hP, ⟨hF.os.trans HF0.out.os, hF.tape.trans HF0.out.tape, hF.output.trans HF0.out.output, Nat.le_trans HF0.out.size hF.size, fun j hj _ => (hF.block j (by have := HF0.out.size; omega) (by omega)).trans (HF0.out.block j hj (fun h => h))⟩⟩
end Go.Proofs.Ytgcekpmkniipfaa
