import Derived.Test.YtngbakjalmgciaaGreatQG3b
namespace Go.Proofs.YtngbakjalmgciaaGreat
open Go.RowKit (wrap32 wrap64)
set_option linter.unusedVariables false
set_option linter.unusedSimpArgs false

def KA (k0 : Nat → List Int) (i k : Nat) : List Int := if k % 2 = 0 ∧ k < i then List.replicate (k0 k).length (1000 + (k : Int)) else k0 k
def VA (v0 : Nat → List ByteArray) (i k : Nat) : List ByteArray := if k % 2 = 0 ∧ k < i then List.replicate (v0 k).length (markX k) else v0 k
def over {α : Type} (l : List α) (j : Nat) (x : α) : List α := List.replicate j x ++ l.drop j
theorem over_zero {α : Type} (l : List α) (x : α) : over l 0 x = l := by simp [over]
theorem over_all {α : Type} (l : List α) (x : α) : over l l.length x = List.replicate l.length x := by simp [over]
theorem over_len {α : Type} (l : List α) (j : Nat) (x : α) (h : j ≤ l.length) : (over l j x).length = l.length := by simp [over]; omega
theorem over_set {α : Type} (l : List α) (j : Nat) (x : α) (h : j < l.length) : (over l j x).set j x = over l (j + 1) x := by
  unfold over
  rw [List.set_append, if_neg (by simp)]
  simp only [List.length_replicate, Nat.sub_self]
  rw [List.drop_eq_getElem_cons h, List.set_cons_zero, List.replicate_succ', List.append_assoc]
  rfl
def fA (k0 : Nat → List Int) (m : Nat) : List Value := List.replicate (k0 (2 * m)).length (vI (1000 + ((2 * m : Nat) : Int))) ++ List.replicate 64 (vI (-1000 - ((2 * m : Nat) : Int)))
def fB (v0 : Nat → List ByteArray) (m : Nat) : List Value := List.replicate (v0 (2 * m)).length (.string (markX ((2 * m : Nat) : Int))) ++ List.replicate 64 (.string (markX (-((2 * m : Nat) : Int))))
/-- What stands at place i while it is written over. -/
def KB (k0 : Nat → List Int) (i j k : Nat) : List Int := if k = i then over (k0 i) j (1000 + (i : Int)) else KA k0 i k
def VB (v0 : Nat → List ByteArray) (i j k : Nat) : List ByteArray := if k = i then over (v0 i) j (markX i) else VA v0 i k

set_option maxRecDepth 100000 in
set_option maxHeartbeats 16000000 in
theorem spoilt_any (w : World) (la : Option Addr) (lc : Nat) (wa : Option Addr) (wc : Nat) (ls ws : List KR) (B n : Nat) (own : Nat → Nat) (k0 : Nat → List Int) (v0 : Nat → List ByteArray) (hS : Sp w w B own ls k0 v0) (hn : ls.length = n) (hwn : ws.length = n) (hnl : n ≤ 10000000000)
    (hL : 0 < n → ∃ g, la = some ⟨g, 0, none⟩ ∧ g < w.heap.size ∧ own g < 10 ∧ ∀ i (h : i < ls.length), At4 w g i ls[i])
    (hW : 0 < n → ∃ g, wa = some ⟨g, 0, none⟩ ∧ g < w.heap.size ∧ own g < 10 ∧ ∀ i (h : i < ws.length), At4 w g i ws[i])
    (hwl : ∀ i (h : i < ws.length), RowAt w w.heap.size ws[i].rk (kCells ws[i].R.L) ∧ RowAt w w.heap.size ws[i].ru (vCells ws[i].R.L) ∧ (∀ j, ws[i].rk.ownBlock = some j → own j < 10) ∧ ∀ j, ws[i].ru.ownBlock = some j → own j < 10)
    (hR : ∀ i (h : i < ls.length) (h2 : i < ws.length), ws[i].R = ls[i].R ∧ k0 i = ls[i].R.L.map Prod.fst ∧ v0 i = ls[i].R.L.map Prod.snd ∧ ls[i].R.L.length ≤ 3000000000) (hB : B ≤ w.heap.size) :
    Calls Tryz.prog 14 #[.slice la n lc, .slice wa n wc] w fun e w' => e = .returned (.bool true) ∧ Fr (fun j => 10 ≤ own j) w w' := by
  have HL : Hd (0 < n → ∃ g, la = some ⟨g, 0, none⟩ ∧ g < w.heap.size ∧ own g < 10 ∧ ∀ i (h : i < ls.length), At4 w g i ls[i]) := hL
  have HW : Hd (0 < n → ∃ g, wa = some ⟨g, 0, none⟩ ∧ g < w.heap.size ∧ own g < 10 ∧ ∀ i (h : i < ws.length), At4 w g i ws[i]) := hW
  have HWL : Hd (∀ i (h : i < ws.length), RowAt w w.heap.size ws[i].rk (kCells ws[i].R.L) ∧ RowAt w w.heap.size ws[i].ru (vCells ws[i].R.L) ∧ (∀ j, ws[i].rk.ownBlock = some j → own j < 10) ∧ ∀ j, ws[i].ru.ownBlock = some j → own j < 10) := hwl
  have HR : Hd (∀ i (h : i < ls.length) (h2 : i < ws.length), ws[i].R = ls[i].R ∧ k0 i = ls[i].R.L.map Prod.fst ∧ v0 i = ls[i].R.L.map Prod.snd ∧ ls[i].R.L.length ≤ 3000000000) := hR
  have HB : Hd (B ≤ w.heap.size) := hB
  have HN : Hd (ls.length = n ∧ ws.length = n) := ⟨hn, hwn⟩
  have HS0 : Hd (Sp w w B own ls (KA k0 0) (VA v0 0)) := hS.congr (fun i _ => by unfold KA; rw [if_neg (by omega)]) (fun i _ => by unfold VA; rw [if_neg (by omega)])
  have HKL : Hd (∀ i, i < n → (k0 i).length ≤ 3000000000 ∧ (v0 i).length ≤ 3000000000) := fun i hi => by
    obtain ⟨-, e1, e2, e3⟩ := hR i (by omega) (by omega)
    rw [e1, e2]; simp; exact e3
  obtain ⟨i3, hi3, hz3, hs3, hb3⟩ := info_parts info3
  obtain ⟨i9, hi9, hz9, hs9, hb9⟩ := info_parts info9
  clear hL hW hwl hR hB hn hwn hS
  go_enter Tryz.func14, Tryz.ntmps14
  go_wp2_with fail
  go_loopw [5] (fun v5 wr => ∃ i : Nat, v5 = .int .i64 i ∧ i % 2 = 0 ∧ i ≤ n + 1 ∧ Hd (Sp w wr B own ls (KA k0 i) (VA v0 i))) (fun v _ => match v with | .int _ q => n + 2 - q.toNat | _ => 0)
  case atStart => exact ⟨0, rfl, rfl, by omega, HS0.out⟩
  case round =>
    clear HS0
    obtain ⟨i, rfl, hev, hin, HM⟩ := hrel
    by_cases hlt : i < n
    · have hil : i < ls.length := by have := HN.out.1; omega
      obtain ⟨g, rfl, hg, hog, hrows⟩ := HL.out (by omega)
      have hi0 : (0 : Int) ≤ i := by omega
      have hi4 : (i : Int) < n := by omega
      have HROW : Hd (∀ W, Fr (fun j => 10 ≤ own j) w W → At4 W g i ls[i]) := fun W hF => (hrows i hil).fr hF hg (by omega)
      obtain ⟨x, ex⟩ : ∃ x, x = ls[i] := ⟨_, rfl⟩
      obtain ⟨lk, elk⟩ : ∃ lk, lk = (k0 i).length := ⟨_, rfl⟩
      obtain ⟨lvn, elv⟩ : ∃ lvn, lvn = (v0 i).length := ⟨_, rfl⟩
      have hKL := HKL.out i hlt
      rw [← elk, ← elv] at hKL
      have HXK : Hd (∀ W j, j ≤ lk → Sp w W B own ls (KB k0 i j) (VA v0 i) → ∃ ad, ls[i].rk = .slice ad lk lk ∧ (j < lk → ∃ kb, ad = some ⟨kb, 0, none⟩ ∧ W.heap[kb]? = some (.cells ((over (k0 i) j (1000 + (i : Int))).map vI).toArray 3))) := fun W j hj h => by
        have := h.k i hil
        have e : KB k0 i j i = over (k0 i) j (1000 + (i : Int)) := by unfold KB; rw [if_pos rfl]
        rw [e] at this
        have el : ((over (k0 i) j (1000 + (i : Int))).map vI).length = lk := by rw [List.length_map, over_len _ _ _ (by omega), elk]
        obtain ⟨ad, ead⟩ := this.len
        rw [el] at ead
        refine ⟨ad, ead, fun hlt => ?_⟩
        obtain ⟨kb, e1, -, e2⟩ := this.some (by omega)
        rw [ead, el] at e1
        injection e1 with e1
        exact ⟨kb, e1, e2⟩
      have HXV : Hd (∀ W j, j ≤ lvn → Sp w W B own ls (KA k0 (i + 1)) (VB v0 i j) → ∃ ad, ls[i].ru = .slice ad lvn lvn ∧ (j < lvn → ∃ kb, ad = some ⟨kb, 0, none⟩ ∧ W.heap[kb]? = some (.cells ((over (v0 i) j (markX i)).map Value.string).toArray 9))) := fun W j hj h => by
        have := h.v i hil
        have e : VB v0 i j i = over (v0 i) j (markX i) := by unfold VB; rw [if_pos rfl]
        rw [e] at this
        have el : ((over (v0 i) j (markX i)).map Value.string).length = lvn := by rw [List.length_map, over_len _ _ _ (by omega), elv]
        obtain ⟨ad, ead⟩ := this.len
        rw [el] at ead
        refine ⟨ad, ead, fun hlt => ?_⟩
        obtain ⟨kb, e1, -, e2⟩ := this.some (by omega)
        rw [ead, el] at e1
        injection e1 with e1
        exact ⟨kb, e1, e2⟩
      have HSK : Hd (∀ W j kb, j < lk → ls[i].rk = .slice (some ⟨kb, 0, none⟩) lk lk → Sp w W B own ls (KB k0 i j) (VA v0 i) → Sp w (W.setCell ⟨kb, j, none⟩ (vI (1000 + (i : Int)))) B own ls (KB k0 i (j + 1)) (VA v0 i)) := fun W j kb hj e h => by
        refine h.setK hil e j _ (fun i' hi' => ?_)
        by_cases e2 : i' = i
        · subst e2
          rw [if_pos rfl]
          unfold KB
          rw [if_pos rfl, if_pos rfl, over_set _ _ _ (by omega)]
        · rw [if_neg e2]; unfold KB; rw [if_neg e2, if_neg e2]
      have HSV : Hd (∀ W j kb, j < lvn → ls[i].ru = .slice (some ⟨kb, 0, none⟩) lvn lvn → Sp w W B own ls (KA k0 (i + 1)) (VB v0 i j) → Sp w (W.setCell ⟨kb, j, none⟩ (.string (markX i))) B own ls (KA k0 (i + 1)) (VB v0 i (j + 1))) := fun W j kb hj e h => by
        refine h.setV hil e j _ (fun i' hi' => ?_)
        by_cases e2 : i' = i
        · subst e2
          rw [if_pos rfl]
          unfold VB
          rw [if_pos rfl, if_pos rfl, over_set _ _ _ (by omega)]
        · rw [if_neg e2]; unfold VB; rw [if_neg e2, if_neg e2]
      have HM2 : Hd (Sp w wr B own ls (KB k0 i 0) (VA v0 i)) := HM.out.congr (fun k _ => by
        unfold KB
        split
        · rename_i e; subst e; rw [over_zero]; unfold KA; rw [if_neg (by omega)]
        · rfl) (fun _ _ => rfl)
      have HEK : Hd (∀ W, Sp w W B own ls (KB k0 i lk) (VA v0 i) → Sp w W B own ls (KA k0 (i + 1)) (VB v0 i 0)) := fun W h => h.congr (fun k _ => by
        unfold KB
        by_cases e : k = i
        · subst e; rw [if_pos rfl, elk, over_all]; unfold KA; rw [if_pos (by omega)]
        · rw [if_neg e]; unfold KA
          by_cases e2 : k % 2 = 0 ∧ k < i
          · rw [if_pos e2, if_pos (by omega)]
          · rw [if_neg e2, if_neg (by omega)]) (fun k _ => by
        unfold VB
        split
        · rename_i e; subst e; rw [over_zero]; unfold VA; rw [if_neg (by omega)]
        · rfl)
      have HEV : Hd (∀ W, Sp w W B own ls (KA k0 (i + 1)) (VB v0 i lvn) → Sp w W B own ls (KA k0 (i + 2)) (VA v0 (i + 2))) := fun W h => h.congr (fun k _ => by
        unfold KA
        by_cases e2 : k % 2 = 0 ∧ k < i + 1
        · rw [if_pos e2, if_pos (by omega)]
        · rw [if_neg e2, if_neg (by omega)]) (fun k _ => by
        unfold VB
        by_cases e : k = i
        · subst e; rw [if_pos rfl, elv, over_all]; unfold VA; rw [if_pos (by omega)]
        · rw [if_neg e]; unfold VA
          by_cases e2 : k % 2 = 0 ∧ k < i
          · rw [if_pos e2, if_pos (by omega)]
          · rw [if_neg e2, if_neg (by omega)])
      have HOL : Hd (∀ j, j ≤ lk → (over (k0 i) j (1000 + (i : Int))).length = lk) := fun j hj => by rw [over_len _ _ _ (by omega), elk]
      have HOV : Hd (∀ j, j ≤ lvn → (over (v0 i) j (markX i)).length = lvn) := fun j hj => by rw [over_len _ _ _ (by omega), elv]
      clear HM hrows ex elk elv
      go_wp2_with fail
      go_loopw [6] (fun v6 wr => ∃ j : Nat, v6 = .int .i64 j ∧ j ≤ lk ∧ Hd (Sp w wr B own ls (KB k0 i j) (VA v0 i))) (fun v _ => match v with | .int _ q => lk - q.toNat | _ => 0)
      case atStart => exact ⟨0, rfl, by omega, HM2.out⟩
      case round =>
        clear HM2
        obtain ⟨j, rfl, hjl, HM⟩ := hrel
        obtain ⟨ad, erk, hkb⟩ := HXK.out wr j hjl HM.out
        have a2 := (HROW.out wr HM.out.fr).c2
        have a3 := (HROW.out wr HM.out.fr).c3
        rw [erk] at a2
        have hj0 : (0 : Int) ≤ j := by omega
        by_cases hj : j < lk
        · obtain ⟨kb, rfl, hblk⟩ := hkb hj
          have HNX : Hd (Sp w (wr.setCell ⟨kb, j, none⟩ (vI (1000 + (i : Int)))) B own ls (KB k0 i (j + 1)) (VA v0 i)) := HSK.out wr j kb hj erk HM.out
          have zf : wr.frozen? ⟨kb, j, none⟩ = false := frozen_of hblk j
          have hc : ∃ u, wr.cell? ⟨kb, j, none⟩ = some u := by
            rw [cell_of hblk, List.getElem?_toArray, List.getElem?_eq_getElem (by rw [List.length_map, HOL.out j hjl]; exact hj)]; exact ⟨_, rfl⟩
          obtain ⟨u, hc⟩ := hc
          have hj4 : (j : Int) < lk := by omega
          clear HM hblk hkb erk a3
          go_wp2_with fail
          exact ⟨⟨j + 1, by simp, by omega, HNX.out⟩, by simp; omega⟩
        · have hjd : decide (j < lk) = false := by simp; omega
          have ejl : j = lk := by omega
          subst ejl
          have HM3 : Hd (Sp w wr B own ls (KA k0 (i + 1)) (VB v0 i 0)) := HEK.out wr HM.out
          clear HM hkb erk a3
          go_wp2_with fail
          go_loopw [7] (fun v7 wr => ∃ j : Nat, v7 = .int .i64 j ∧ j ≤ lvn ∧ Hd (Sp w wr B own ls (KA k0 (i + 1)) (VB v0 i j))) (fun v _ => match v with | .int _ q => lvn - q.toNat | _ => 0)
          case atStart => exact ⟨0, rfl, by omega, HM3.out⟩
          case round =>
            clear HM3 a2
            obtain ⟨q, rfl, hql, HM⟩ := hrel
            obtain ⟨ad', eru, hvb⟩ := HXV.out wr q hql HM.out
            have a3 := (HROW.out wr HM.out.fr).c3
            rw [eru] at a3
            have hq0 : (0 : Int) ≤ q := by omega
            by_cases hq : q < lvn
            · obtain ⟨vb, rfl, hblk⟩ := hvb hq
              have hq4 : (q : Int) < lvn := by omega
              have hmark := mark_any (i : Int) (by omega) (by omega) wr.drew
              have HNX : Hd (∀ W, Fr (fun _ => False) wr.drew W → Sp w (W.setCell ⟨vb, q, none⟩ (.string (markX i))) B own ls (KA k0 (i + 1)) (VB v0 i (q + 1)) ∧ W.frozen? ⟨vb, q, none⟩ = false ∧ W.cell? ⟨g, i * 4 + 3, none⟩ = some (.slice (some ⟨vb, 0, none⟩) lvn lvn) ∧ ∃ u, W.cell? ⟨vb, q, none⟩ = some u) := fun W hF => by
                have f1 : Fr (fun _ => False) wr W := (Fr.refl (fun _ => False) wr).drew.trans hF
                have hb2 := (f1.block vb (heap_lt hblk) (fun h => h)).trans hblk
                refine ⟨HSV.out W q vb hq eru (HM.out.keep f1), frozen_of hb2 q, ?_, ?_⟩
                · rw [← eru]; exact (HROW.out W (HM.out.keep f1).fr).c3
                · rw [cell_of hb2, List.getElem?_toArray, List.getElem?_eq_getElem (by rw [List.length_map, HOV.out q hql]; exact hq)]; exact ⟨_, rfl⟩
              clear HM hblk hvb eru
              go_wp2_with fail
              go_region_with ((go_at_call 32; refine hmark.mono ?_; rintro _ w2 ⟨rfl, hf2⟩; obtain ⟨h1, zf, a3', u, hc⟩ := HNX.out w2 hf2; have H1 : Hd (Sp w (w2.setCell ⟨vb, q, none⟩ (.string (markX i))) B own ls (KA k0 (i + 1)) (VB v0 i (q + 1))) := h1; clear h1))
              all_goals go_wp2_with fail
              all_goals exact ⟨⟨q + 1, by simp, by omega, H1.out⟩, by simp; omega⟩
            · have hqd : decide (q < lvn) = false := by simp; omega
              have eql : q = lvn := by omega
              subst eql
              have HNX : Hd (Sp w wr B own ls (KA k0 (i + 2)) (VA v0 (i + 2))) := HEV.out wr HM.out
              clear HM hvb eru
              go_wp2_with fail
              exact ⟨⟨i + 2, by simp, by omega, by omega, HNX.out⟩, by simp; omega⟩
    · have hd : decide (i < n) = false := by simp; omega
      have HA : Hd (Sp w wr B own ls (KA k0 n) (VA v0 n)) := HM.out.congr (fun k hk => by
        have := HN.out.1
        unfold KA
        by_cases e2 : k % 2 = 0 ∧ k < n
        · rw [if_pos e2, if_pos (by omega)]
        · rw [if_neg e2, if_neg (by omega)]) (fun k hk => by
        have := HN.out.1
        unfold VA
        by_cases e2 : k % 2 = 0 ∧ k < n
        · rw [if_pos e2, if_pos (by omega)]
        · rw [if_neg e2, if_neg (by omega)])
      have HL0 : Hd (Lp wr wr (.slice none 0 0) (.slice none 0 0) [] [] (fA k0) (fB v0)) := ⟨Fr.refl _ _, World.ownsRow_nil _ _ _ _, World.ownsRow_nil _ _ _ _, (fun m h => by simp at h), (fun m h => by simp at h), (fun j e => by cases e), (fun m h => by simp at h), (fun m h => by simp at h)⟩
      obtain ⟨w4, ew4⟩ : ∃ w4, w4 = wr := ⟨_, rfl⟩
      rw [← ew4] at HA HL0
      have EW4 : Hd (wr = w4) := ew4.symm
      clear HM
      go_wp2_with fail
      go_loopw [8, 9, 10] (fun v8 v9 v10 wr => ∃ (i : Nat) (ax bx : List Value), v10 = .int .i64 i ∧ i % 2 = 0 ∧ i ≤ n + 1 ∧ Hd (Lp w4 wr v8 v9 ax bx (fA k0) (fB v0) ∧ 2 * ax.length = i ∧ 2 * bx.length = i)) (fun _ _ v _ => match v with | .int _ q => n + 2 - q.toNat | _ => 0)
      case atStart => exact ⟨0, [], [], rfl, rfl, by omega, by rw [EW4.out]; exact HL0.out, rfl, rfl⟩
      case round =>
        clear HL0 EW4 ew4
        obtain ⟨i, ax, bx, rfl, hev, hin, HM⟩ := hrel
        by_cases hlt : i < n
        · have hil : i < ls.length := by have := HN.out.1; omega
          obtain ⟨g, rfl, hg, hog, hrows⟩ := HL.out (by omega)
          have hi0 : (0 : Int) ≤ i := by omega
          have hi4 : (i : Int) < n := by omega
          obtain ⟨lk, elk⟩ : ∃ lk, lk = (k0 i).length := ⟨_, rfl⟩
          obtain ⟨lvn, elv⟩ : ∃ lvn, lvn = (v0 i).length := ⟨_, rfl⟩
          have hKL := HKL.out i hlt
          rw [← elk, ← elv] at hKL
          obtain ⟨hLp, hax, hbx⟩ := HM.out
          have fwr : Fr (fun j => 10 ≤ own j) w wr := HA.out.fr.trans (hLp.fr.mono (fun _ _ h => h.elim))
          have hrow := (hrows i hil).fr fwr hg (by omega)
          have hk := (HA.out.k i hil).fr hLp.fr (fun _ _ h => h)
          have hv := (HA.out.v i hil).fr hLp.fr (fun _ _ h => h)
          have ek : (KA k0 n i).map vI = List.replicate lk (vI (1000 + (i : Int))) := by unfold KA; rw [if_pos ⟨hev, hlt⟩, elk]; simp
          have ev : (VA v0 n i).map Value.string = List.replicate lvn (.string (markX i)) := by unfold VA; rw [if_pos ⟨hev, hlt⟩, elv]; simp
          rw [ek] at hk
          rw [ev] at hv
          obtain ⟨ka, eka⟩ := hk.len
          obtain ⟨va, eva⟩ := hv.len
          rw [List.length_replicate] at eka eva
          have a2 := hrow.c2
          have a3 := hrow.c3
          rw [eka] at a2 hk
          rw [eva] at a3 hv
          have hBw : B ≤ wr.heap.size := Nat.le_trans HB.out fwr.size
          have HAP : Hd (Ap wr wr B 3 (.slice ka lk lk) (List.replicate lk (vI (1000 + (i : Int)))) (vI (-1000 - (i : Int))) 0 (.slice ka lk lk) ∧ Ap wr wr B 9 (.slice va lvn lvn) (List.replicate lvn (.string (markX i))) (.string (markX (-(i : Int)))) 0 (.slice va lvn lvn) ∧ Fr (fun _ => False) wr wr) := ⟨Or.inl ⟨rfl, rfl, hk⟩, Or.inl ⟨rfl, rfl, hv⟩, Fr.refl _ _⟩
          have HAPA : Hd (∀ j, (Value.slice ka lk lk).ownBlock = some j → wr.heap.size ≤ j → (Value.slice va lvn lvn).ownBlock ≠ some j) := fun j e h2 => by have := (hk.lt j e).2; omega
          have HFA : Hd (fA k0 ax.length = List.replicate lk (vI (1000 + (i : Int))) ++ List.replicate 64 (vI (-1000 - (i : Int))) ∧ fB v0 bx.length = List.replicate lvn (.string (markX i)) ++ List.replicate 64 (.string (markX (-(i : Int))))) := by
            refine ⟨?_, ?_⟩
            · unfold fA; rw [hax, elk]
            · unfold fB; rw [hbx, elv]
          obtain ⟨wi, ewi⟩ : ∃ wi, wi = wr := ⟨_, rfl⟩
          rw [← ewi] at HAP HAPA hBw
          have HLP : Hd (Lp w4 wi u8 u9 ax bx (fA k0) (fB v0) ∧ 2 * ax.length = i ∧ 2 * bx.length = i) := by rw [ewi]; exact HM.out
          have EWI : Hd (wr = wi) := ewi.symm
          have HBW : Hd (B ≤ wi.heap.size) := hBw
          clear HM hLp hax hbx fwr hrow hk hv ek ev eka eva hrows elk elv hBw
          go_wp2_with fail
          go_loopw [11, 12, 13] (fun v11 v12 v13 w' => ∃ q : Nat, v13 = .int .i64 q ∧ q ≤ 64 ∧ Hd (Ap wi w' B 3 (.slice ka lk lk) (List.replicate lk (vI (1000 + (i : Int)))) (vI (-1000 - (i : Int))) q v11 ∧ Ap wi w' B 9 (.slice va lvn lvn) (List.replicate lvn (.string (markX i))) (.string (markX (-(i : Int)))) q v12 ∧ Fr (fun _ => False) wi w' ∧ ∀ j, v11.ownBlock = some j → wi.heap.size ≤ j → v12.ownBlock ≠ some j)) (fun _ _ v _ => match v with | .int _ q => 64 - q.toNat | _ => 0)
          case atStart => exact ⟨0, rfl, by omega, by rw [EWI.out]; exact HAP.out.1, by rw [EWI.out]; exact HAP.out.2.1, by rw [EWI.out]; exact HAP.out.2.2, HAPA.out⟩
          case round =>
            clear HAP HAPA EWI ewi a2 a3
            obtain ⟨q, rfl, hq, HM⟩ := hrel
            by_cases hql : q < 64
            · obtain ⟨h1, h2, h3, h4⟩ := HM.out
              have hB1 : B ≤ wr.heap.size := Nat.le_trans HBW.out h3.size
              obtain ⟨g1, c1, w2, hr1, hA1, hF1, hG1, hw1⟩ := h1.step (t := 23) (bytes := 8) under27 hi3 hz3 hs3 hb3 rfl h3 hB1 rfl (by rw [List.length_replicate]; omega) (by rw [List.length_replicate]; unfold maxLen; omega)
              have h2' := h2.keep hG1 (fun j e e2 => h4 j e2.1 e2.2 e)
              have hlt12 := h2.lt
              have hmark := mark_any (-(i : Int)) (by omega) (by omega) w2
              have HNX : Hd (∀ w3, Fr (fun _ => False) w2 w3 → ∃ g2 c2 w5, (Builtin.append_ #[40, 40] 40 #[u12, .slice (some ⟨w3.heap.size, 0, none⟩) 1 1]).run Tryz.prog (w3.alloc (.cells #[.string (markX (-(i : Int)))] 9)) = .ok (.slice (some ⟨g2, 0, none⟩) (lvn + (q + 1)) c2) w5 ∧ Ap wi w5 B 3 (.slice ka lk lk) (List.replicate lk (vI (1000 + (i : Int)))) (vI (-1000 - (i : Int))) (q + 1) (.slice (some ⟨g1, 0, none⟩) (lk + (q + 1)) c1) ∧ Ap wi w5 B 9 (.slice va lvn lvn) (List.replicate lvn (.string (markX i))) (.string (markX (-(i : Int)))) (q + 1) (.slice (some ⟨g2, 0, none⟩) (lvn + (q + 1)) c2) ∧ Fr (fun _ => False) wi w5 ∧ ∀ j, (Value.slice (some ⟨g1, 0, none⟩) (lk + (q + 1)) c1).ownBlock = some j → wi.heap.size ≤ j → (Value.slice (some ⟨g2, 0, none⟩) (lvn + (q + 1)) c2).ownBlock ≠ some j) := by
                intro w3 hf3
                have hB3 : B ≤ w3.heap.size := Nat.le_trans HBW.out (hF1.trans hf3).size
                obtain ⟨g2, c2, w5, hr2, hA2, hF2, hG2, hw2⟩ := (h2'.keep hf3 (fun _ _ h => h)).step (t := 40) (bytes := 16) under28 hi9 hz9 hs9 hb9 rfl (hF1.trans hf3) hB3 rfl (by rw [List.length_replicate]; omega) (by rw [List.length_replicate]; unfold maxLen; omega)
                rw [List.length_replicate] at hr2 hA2 hA1
                have hg1lt : g1 < w2.heap.size := hA1.lt g1 rfl
                have hne : ∀ j, u12.ownBlock = some j → g1 ≠ j := fun j e e2 => by
                  subst e2
                  rcases hw1 with ⟨e3, e4⟩ | e3
                  · exact h4 g1 e3 e4 e
                  · have := hlt12 g1 e; omega
                refine ⟨g2, c2, w5, hr2, ?_, hA2, hF2, fun j e e2 e3 => ?_⟩
                · exact (hA1.keep hf3 (fun _ _ h => h)).keep hG2 (fun j e e2 => hne j e2.1 (Option.some.inj e))
                · have e4 : g1 = j := Option.some.inj e
                  have e5 : g2 = j := Option.some.inj e3
                  rcases hw2 with ⟨e6, e7⟩ | e6
                  · exact hne g2 e6 (by omega)
                  · have := hf3.size; omega
              rw [List.length_replicate] at hr1
              have HA1 : Hd ((Builtin.append_ #[23, 23] 23 #[u11, .slice (some ⟨wr.heap.size, 0, none⟩) 1 1]).run Tryz.prog (wr.alloc (.cells #[vI (-1000 - (i : Int))] 3)) = .ok (.slice (some ⟨g1, 0, none⟩) (lk + (q + 1)) c1) w2) := hr1
              have hq4 : (q : Int) < 64 := by omega
              clear HM h1 h2 h3 h4 hr1 hA1 hF1 hG1 hw1 h2' hlt12 hB1
              go_upto_region 23 with (at_builtin; refine wpList_append_run rfl (.tmp 86) (.tmp 89) 23 rfl _ _ _ rfl rfl HA1.out ?_)
              clear HA1
              go_wp2_with fail
              refine hmark.mono ?_
              rintro _ w3 ⟨rfl, hf3⟩
              obtain ⟨g2, c2, w5, hr2, h5⟩ := HNX.out w3 hf3
              have HA2 : Hd ((Builtin.append_ #[40, 40] 40 #[u12, .slice (some ⟨w3.heap.size, 0, none⟩) 1 1]).run Tryz.prog (w3.alloc (.cells #[.string (markX (-(i : Int)))] 9)) = .ok (.slice (some ⟨g2, 0, none⟩) (lvn + (q + 1)) c2) w5) := hr2
              have H5 : Hd (Ap wi w5 B 3 (.slice ka lk lk) (List.replicate lk (vI (1000 + (i : Int)))) (vI (-1000 - (i : Int))) (q + 1) (.slice (some ⟨g1, 0, none⟩) (lk + (q + 1)) c1) ∧ Ap wi w5 B 9 (.slice va lvn lvn) (List.replicate lvn (.string (markX i))) (.string (markX (-(i : Int)))) (q + 1) (.slice (some ⟨g2, 0, none⟩) (lvn + (q + 1)) c2) ∧ Fr (fun _ => False) wi w5 ∧ ∀ j, (Value.slice (some ⟨g1, 0, none⟩) (lk + (q + 1)) c1).ownBlock = some j → wi.heap.size ≤ j → (Value.slice (some ⟨g2, 0, none⟩) (lvn + (q + 1)) c2).ownBlock ≠ some j) := h5
              clear hmark hf3 hr2 h5 HNX
              go_wp2_with (at_builtin; refine wpList_append_run rfl (.tmp 91) (.tmp 95) 40 rfl _ _ _ rfl rfl HA2.out ?_)
              exact ⟨⟨q + 1, by simp, by omega, H5.out⟩, by simp; omega⟩
            · have hqd : decide (q < 64) = false := by simp; omega
              have eq64 : q = 64 := by omega
              subst eq64
              obtain ⟨h1, h2, h3, h4⟩ := HM.out
              rcases h1 with ⟨h1, -⟩ | ⟨-, h1⟩
              · omega
              rcases h2 with ⟨h2, -⟩ | ⟨-, h2⟩
              · omega
              obtain ⟨p1, c1, e11⟩ := row_val h1
              obtain ⟨p2, c2, e12⟩ := row_val h2
              subst e11 e12
              obtain ⟨hLp, hax, hbx⟩ := HLP.out
              obtain ⟨g8, c8, w6, g9, c9, w7, hr8, hr9, hL9⟩ := hLp.more h3 _ _ (by rw [HFA.out.1]; exact RowAt.own h1) (by rw [HFA.out.2]; exact RowAt.own h2) ⟨_, _, _, rfl⟩ ⟨_, _, _, rfl⟩ (fun j e => World.ownsRow.lt h1 j e) (fun j e => World.ownsRow.lt h2 j e) (by omega) (by omega)
              simp only [List.length_replicate] at hr8 hr9 hL9
              have HA8 : Hd ((Builtin.append_ #[75, 75] 75 #[u8, .slice (some ⟨wr.heap.size, 0, none⟩) 1 1]).run Tryz.prog (wr.alloc (.cells #[.slice p1 (lk + 64) c1] 23)) = .ok (.slice (some ⟨g8, 0, none⟩) (ax.length + 1) c8) w6) := hr8
              have HA9 : Hd ((Builtin.append_ #[76, 76] 76 #[u9, .slice (some ⟨w6.heap.size, 0, none⟩) 1 1]).run Tryz.prog (w6.alloc (.cells #[.slice p2 (lvn + 64) c2] 40)) = .ok (.slice (some ⟨g9, 0, none⟩) (bx.length + 1) c9) w7) := hr9
              have HL9 : Hd (Lp w4 w7 (.slice (some ⟨g8, 0, none⟩) (ax.length + 1) c8) (.slice (some ⟨g9, 0, none⟩) (bx.length + 1) c9) (ax ++ [.slice p1 (lk + 64) c1]) (bx ++ [.slice p2 (lvn + 64) c2]) (fA k0) (fB v0) ∧ 2 * (ax ++ [Value.slice p1 (lk + 64) c1]).length = i + 2 ∧ 2 * (bx ++ [Value.slice p2 (lvn + 64) c2]).length = i + 2) := ⟨hL9, by simp; omega, by simp; omega⟩
              simp only [List.length_replicate]
              clear HM h1 h2 h3 h4 hLp hax hbx hr8 hr9 hL9 HLP HFA
              go_upto_region 25 with (at_builtin; refine wpList_append_run rfl (.tmp 97) (.tmp 99) 75 rfl _ _ _ rfl rfl HA8.out ?_)
              clear HA8
              go_wp2_with (at_builtin; refine wpList_append_run rfl (.tmp 101) (.tmp 103) 76 rfl _ _ _ rfl rfl HA9.out ?_)
              exact ⟨⟨i + 2, _, _, by simp, by omega, by omega, HL9.out⟩, by simp; omega⟩
        · have hd2 : decide (i < n) = false := by simp; omega
          obtain ⟨hLp, hax, hbx⟩ := HM.out
          have fwr : Fr (fun j => 10 ≤ own j) w wr := HA.out.fr.trans (hLp.fr.mono (fun _ _ h => h.elim))
          have HSP : Hd (Sp w wr B own ls (KA k0 n) (VA v0 n)) := HA.out.keep hLp.fr
          have HLP : Hd (Lp w4 wr u8 u9 ax bx (fA k0) (fB v0) ∧ n ≤ 2 * ax.length ∧ n ≤ 2 * bx.length ∧ ax.length ≤ n ∧ bx.length ≤ n) := ⟨hLp, by omega, by omega, by omega, by omega⟩
          obtain ⟨w5, ew5⟩ : ∃ w5, w5 = wr := ⟨_, rfl⟩
          rw [← ew5] at HSP HLP
          have EW5 : Hd (wr = w5) := ew5.symm
          clear HM hLp hax hbx fwr HA
          go_wp2_with fail
          go_loopw [14] (fun v14 wr => ∃ i : Nat, v14 = .int .i64 i ∧ i ≤ n ∧ Hd (Fr (fun _ => False) w5 wr)) (fun v _ => match v with | .int _ q => n - q.toNat | _ => 0)
          case atStart => exact ⟨0, rfl, by omega, by rw [EW5.out]; exact Fr.refl _ _⟩
          case round =>
            clear EW5 ew5
            obtain ⟨i, rfl, hin, HM⟩ := hrel
            by_cases hlt : i < n
            · have hil : i < ls.length := by have := HN.out.1; omega
              have hiw : i < ws.length := by have := HN.out.2; omega
              obtain ⟨g, rfl, hg, hog, hrows⟩ := HL.out (by omega)
              obtain ⟨gw, rfl, hgw, hogw, hrows2⟩ := HW.out (by omega)
              have hi0 : (0 : Int) ≤ i := by omega
              have hi4 : (i : Int) < n := by omega
              have fwr : Fr (fun j => 10 ≤ own j) w wr := HSP.out.fr.trans (HM.out.mono (fun _ _ h => h.elim))
              have hrow := (hrows i hil).fr fwr hg (by omega)
              have hrow2 := (hrows2 i hiw).fr fwr hgw (by omega)
              have hk := (HSP.out.k i hil).fr HM.out (fun _ _ h => h)
              have hv := (HSP.out.v i hil).fr HM.out (fun _ _ h => h)
              obtain ⟨hR1, hk0, hv0, hRl⟩ := HR.out i hil hiw
              by_cases hev : i % 2 = 1
              · have hod : (((i : Int) % 2) == 1) = true := by simp; omega
                have hod2 : (i : Int) % 2 = 1 := by omega
                obtain ⟨hw1, hw2, hw3, hw4⟩ := HWL.out i hiw
                have ek : (KA k0 n i).map vI = kCells ls[i].R.L := by unfold KA; rw [if_neg (by omega), hk0, kCells_eq]
                have ev : (VA v0 n i).map Value.string = vCells ls[i].R.L := by unfold VA; rw [if_neg (by omega), hv0, vCells_eq]
                rw [ek] at hk
                rw [ev] at hv
                have fdr : Fr (fun _ => False) wr wr.drew := (Fr.refl _ wr).drew
                have heq := eqReply_same wr.drew wr.heap.size w.heap.size ls[i].R (.agg #[.bool ls[i].R.ok, .string ls[i].R.val, ls[i].rk, ls[i].ru]) (.agg #[.bool ws[i].R.ok, .string ws[i].R.val, ws[i].rk, ws[i].ru]) ⟨_, _, rfl, hk.at.fr fdr (Nat.le_refl _) (fun _ _ h => h), hv.at.fr fdr (Nat.le_refl _) (fun _ _ h => h)⟩
                  ⟨ws[i].rk, ws[i].ru, by rw [hR1], by rw [← hR1]; exact hw1.fr (fwr.drew) (Nat.le_refl _) (fun j e e2 => by have := hw3 j e; omega), by rw [← hR1]; exact hw2.fr (fwr.drew) (Nat.le_refl _) (fun j e e2 => by have := hw4 j e; omega)⟩ (Nat.le_refl _) fwr.size (by omega)
                obtain ⟨ka, eka⟩ := hk.len
                obtain ⟨va, eva⟩ := hv.len
                obtain ⟨wk, wkc, ewk, -⟩ := hw1
                obtain ⟨wu, wuc, ewu, -⟩ := hw2
                obtain ⟨b0, b1, b2, b3⟩ := hrow
                obtain ⟨d0, d1, d2, d3⟩ := hrow2
                obtain ⟨x, ex⟩ : ∃ x, x = ls[i] := ⟨_, rfl⟩
                obtain ⟨y, ey⟩ : ∃ y, y = ws[i] := ⟨_, rfl⟩
                rw [← ex] at b0 b1 b2 b3 heq eka eva
                rw [← ey] at d0 d1 d2 d3 heq ewk ewu
                obtain ⟨rk, ru, R⟩ := x
                obtain ⟨rk', ru', R'⟩ := y
                simp only at b0 b1 b2 b3 d0 d1 d2 d3 heq eka eva ewk ewu
                subst eka eva ewk ewu
                obtain ⟨rok, rval, rL⟩ := R
                obtain ⟨rok', rval', rL'⟩ := R'
                simp only at b0 b1 b2 b3 d0 d1 d2 d3 heq
                generalize (kCells rL').length = nk' at *
                generalize (vCells rL').length = nv' at *
                generalize hq1 : (kCells ls[i].R.L).length = nk at *
                generalize hq2 : (vCells ls[i].R.L).length = nv at *
                clear hq1 hq2 hk hv ek ev fdr hrows hrows2 hR1 hk0 hv0 hRl hw3 hw4 ex ey fwr
                go_wp2_with fail
                refine wp_region_still_tail 8 mixed (by kernel_rfl) ?_
                simp only [List.take_succ_cons, List.take_zero, List.drop_succ_cons, List.drop_zero]
                repeat still_step
                refine wpStill_nil ?_
                go_wp2_with fail
                refine heq.mono ?_
                rintro _ w7 ⟨rfl, hf7⟩
                have HF7 : Hd (Fr (fun _ => False) w5 w7) := HM.out.drew.trans hf7
                clear heq hf7 HM b0 b1 b2 b3 d0 d1 d2 d3
                go_wp2_with fail
                exact ⟨⟨i + 1, by simp, by omega, HF7.out⟩, by simp; omega⟩
              · have hev0 : i % 2 = 0 := by omega
                obtain ⟨m, hm⟩ : ∃ m, i = 2 * m := ⟨i / 2, by omega⟩
                have hdv : (i : Int) / 2 = (m : Int) := by omega
                have hdt : (i : Int).tdiv 2 = (m : Int) := by rw [hm]; simp
                have hod : (((i : Int) % 2) == 1) = false := by simp; omega
                have hod2 : (i : Int) % 2 = 0 := by omega
                obtain ⟨lk, elk⟩ : ∃ lk, lk = (k0 i).length := ⟨_, rfl⟩
                obtain ⟨lvn, elv⟩ : ∃ lvn, lvn = (v0 i).length := ⟨_, rfl⟩
                have hKL := HKL.out i hlt
                rw [← elk, ← elv] at hKL
                have ek : (KA k0 n i).map vI = List.replicate lk (vI (1000 + (i : Int))) := by unfold KA; rw [if_pos ⟨hev0, hlt⟩, elk]; simp
                have ev : (VA v0 n i).map Value.string = List.replicate lvn (.string (markX i)) := by unfold VA; rw [if_pos ⟨hev0, hlt⟩, elv]; simp
                rw [ek] at hk
                rw [ev] at hv
                obtain ⟨ka, eka⟩ := hk.len
                obtain ⟨va, eva⟩ := hv.len
                rw [List.length_replicate] at eka eva
                obtain ⟨hLp, hna, hnb, hna2, hnb2⟩ := HLP.out
                have hma : m < ax.length := by omega
                have hmb : m < bx.length := by omega
                obtain ⟨pa, ca, epa, hpa⟩ := (hLp.a m hma)
                obtain ⟨pb, cb, epb, hpb⟩ := (hLp.b m hmb)
                have hfal : (fA k0 m).length = lk + 64 := by unfold fA; rw [← hm, elk]; simp
                have hfbl : (fB v0 m).length = lvn + 64 := by unfold fB; rw [← hm, elv]; simp
                obtain ⟨ga, oa, epa2, hga, hca⟩ := hpa (by intro e; rw [e] at hfal; simp at hfal)
                obtain ⟨gb, ob, epb2, hgb, hcb⟩ := hpb (by intro e; rw [e] at hfbl; simp at hfbl)
                rw [hfal, epa2] at epa
                rw [hfbl, epb2] at epb
                obtain ⟨g8, c8, e8, -⟩ := hLp.ra.form (by omega)
                obtain ⟨g9, c9, e9, -⟩ := hLp.rb.form (by omega)
                have r8 := hLp.ra
                have r9 := hLp.rb
                rw [e8] at r8
                rw [e9] at r9
                have t8 : wr.cell? ⟨g8, m, none⟩ = some (.slice (some ⟨ga, oa, none⟩) (lk + 64) ca) := by
                  rw [HM.out.cell (World.ownsRow.lt r8 g8 rfl).2 (fun h => h), World.ownsRow.cellAt r8 m (by omega), List.getElem?_eq_getElem hma, epa]
                have t9 : wr.cell? ⟨g9, m, none⟩ = some (.slice (some ⟨gb, ob, none⟩) (lvn + 64) cb) := by
                  rw [HM.out.cell (World.ownsRow.lt r9 g9 rfl).2 (fun h => h), World.ownsRow.cellAt r9 m (by omega), List.getElem?_eq_getElem hmb, epb]
                subst e8 e9
                have a2 := hrow.c2
                have a3 := hrow.c3
                rw [eka] at a2
                rw [eva] at a3
                have HK : Hd (0 < lk → ∃ kb, ka = some ⟨kb, 0, none⟩ ∧ kb < wr.heap.size ∧ ∀ j, j < lk → wr.cell? ⟨kb, j, none⟩ = some (vI (1000 + (i : Int)))) := fun hp => by
                  obtain ⟨kb, e1, -, e2⟩ := hk.some (by rw [List.length_replicate]; exact hp)
                  rw [eka, List.length_replicate] at e1
                  injection e1 with e1
                  exact ⟨kb, e1, heap_lt e2, fun j hj => by rw [cell_of e2]; simp [hj]⟩
                have HV : Hd (0 < lvn → ∃ kb, va = some ⟨kb, 0, none⟩ ∧ kb < wr.heap.size ∧ ∀ j, j < lvn → wr.cell? ⟨kb, j, none⟩ = some (.string (markX i))) := fun hp => by
                  obtain ⟨kb, e1, -, e2⟩ := hv.some (by rw [List.length_replicate]; exact hp)
                  rw [eva, List.length_replicate] at e1
                  injection e1 with e1
                  exact ⟨kb, e1, heap_lt e2, fun j hj => by rw [cell_of e2]; simp [hj]⟩
                have hfA : fA k0 m = List.replicate lk (vI (1000 + (i : Int))) ++ List.replicate 64 (vI (-1000 - (i : Int))) := by unfold fA; rw [← hm, elk]
                have hfB : fB v0 m = List.replicate lvn (.string (markX i)) ++ List.replicate 64 (.string (markX (-(i : Int)))) := by unfold fB; rw [← hm, elv]
                have hca2 : ∀ (t : Nat) (x : Value), (fA k0 m)[t]? = some x → wr.cell? ⟨ga, oa + t, none⟩ = some x := fun t x ht => by
                  obtain ⟨h1, h2⟩ := List.getElem?_eq_some_iff.1 ht
                  rw [HM.out.cell hga (fun h => h), hca t h1, h2]
                have hcb2 : ∀ (t : Nat) (x : Value), (fB v0 m)[t]? = some x → wr.cell? ⟨gb, ob + t, none⟩ = some x := fun t x ht => by
                  obtain ⟨h1, h2⟩ := List.getElem?_eq_some_iff.1 ht
                  rw [HM.out.cell hgb (fun h => h), hcb t h1, h2]
                rw [hfA] at hca2
                rw [hfB] at hcb2
                have HCA : Hd ((∀ j, j < lk → wr.cell? ⟨ga, oa + j, none⟩ = some (vI (1000 + (i : Int)))) ∧ ∀ j, j < 64 → wr.cell? ⟨ga, oa + (lk + j), none⟩ = some (vI (-1000 - (i : Int)))) := by
                  refine ⟨fun j hj => hca2 j _ ?_, fun j hj => hca2 (lk + j) _ ?_⟩
                  · rw [List.getElem?_append_left (by simpa using hj)]; simp [hj]
                  · rw [List.getElem?_append_right (by simp), List.length_replicate, Nat.add_sub_cancel_left, List.getElem?_replicate, if_pos hj]
                have HCB : Hd ((∀ j, j < lvn → wr.cell? ⟨gb, ob + j, none⟩ = some (.string (markX i))) ∧ ∀ j, j < 64 → wr.cell? ⟨gb, ob + (lvn + j), none⟩ = some (.string (markX (-(i : Int))))) := by
                  refine ⟨fun j hj => hcb2 j _ ?_, fun j hj => hcb2 (lvn + j) _ ?_⟩
                  · rw [List.getElem?_append_left (by simpa using hj)]; simp [hj]
                  · rw [List.getElem?_append_right (by simp), List.length_replicate, Nat.add_sub_cancel_left, List.getElem?_replicate, if_pos hj]
                have HLT : Hd (g < wr.heap.size ∧ ga < wr.heap.size ∧ gb < wr.heap.size) := ⟨Nat.lt_of_lt_of_le hg fwr.size, Nat.lt_of_lt_of_le hga HM.out.size, Nat.lt_of_lt_of_le hgb HM.out.size⟩
                have hm0 : (0 : Int) ≤ m := by omega
                have hm1 : (m : Int) < ax.length := by omega
                have hm2 : (m : Int) < bx.length := by omega
                obtain ⟨na, ena⟩ : ∃ na, na = ax.length := ⟨_, rfl⟩
                obtain ⟨nb, enb⟩ : ∃ nb, nb = bx.length := ⟨_, rfl⟩
                rw [← ena] at hm1 ⊢
                rw [← enb] at hm2 ⊢
                clear hm hk hv ek ev eka eva hrow hrow2 hrows hrows2 hR1 hk0 hv0 hRl hLp hna hnb hna2 hnb2 hma hmb hpa hpb hfal hfbl epa epb epa2 epb2 hca hcb r8 r9 ena enb elk elv fwr hfA hfB hca2 hcb2
                go_wp2_with fail
                go_loopw [19] (fun v19 w' => w' = wr ∧ ∃ j : Nat, v19 = .int .i64 j ∧ j ≤ lk) (fun v _ => match v with | .int _ q => lk - q.toNat | _ => 0)
                case atStart => exact ⟨rfl, 0, rfl, by omega⟩
                case round =>
                  obtain ⟨rfl, j, rfl, hjl⟩ := hrel
                  have hj0 : (0 : Int) ≤ j := by omega
                  by_cases hj : j < lk
                  · obtain ⟨kb, rfl, hkb, hkc⟩ := HK.out (by omega)
                    have x1 := hkc j hj
                    have x2 := HCA.out.1 j hj
                    have hj4 : (j : Int) < lk := by omega
                    have hj5 : (j : Int) < (lk : Int) + 64 := by omega
                    clear hkc
                    go_wp2_with fail
                    exact ⟨⟨trivial, j + 1, by simp, by omega⟩, by simp; omega⟩
                  · have hjd : decide (j < lk) = false := by simp; omega
                    have HC8 : Hd (∀ W, Fr (fun _ => False) wr W → W.cell? ⟨g, i * 4 + 3, none⟩ = some (.slice va lvn lvn)) := fun W hF => (hF.cell HLT.out.1 (fun h => h)).trans a3
                    have EW6 : Hd (Fr (fun _ => False) wr wr) := Fr.refl _ _
                    obtain ⟨w6, ew6⟩ : ∃ w6, w6 = wr := ⟨_, rfl⟩
                    rw [← ew6] at HC8 HV HCA HCB HLT
                    have HM6 : Hd (Fr (fun _ => False) w5 w6 ∧ wr = w6) := ⟨by rw [ew6]; exact HM.out, ew6.symm⟩
                    clear HK a2 a3 t8 t9 HM
                    go_wp2_with fail
                    go_loopw [20] (fun v20 w' => ∃ j : Nat, v20 = .int .i64 j ∧ j ≤ lvn ∧ Hd (Fr (fun _ => False) w6 w')) (fun v _ => match v with | .int _ q => lvn - q.toNat | _ => 0)
                    case atStart => exact ⟨0, rfl, by omega, by rw [HM6.out.2]; exact Fr.refl _ _⟩
                    case round =>
                      clear ew6 EW6
                      obtain ⟨j, rfl, hjl, HM⟩ := hrel
                      have hj0 : (0 : Int) ≤ j := by omega
                      by_cases hj : j < lvn
                      · obtain ⟨kb, rfl, hkb, hkc⟩ := HV.out (by omega)
                        have HC9 : Hd (∀ W, Fr (fun _ => False) w6 W → W.cell? ⟨g, i * 4 + 3, none⟩ = some (.slice (some ⟨kb, 0, none⟩) lvn lvn) ∧ W.cell? ⟨kb, j, none⟩ = some (.string (markX i)) ∧ W.cell? ⟨gb, ob + j, none⟩ = some (.string (markX i))) := fun W hF => ⟨HC8.out W hF, (hF.cell hkb (fun h => h)).trans (hkc j hj), (hF.cell HLT.out.2.2 (fun h => h)).trans (HCB.out.1 j hj)⟩
                        have F0 : Fr (fun _ => False) w6 wr.drew := HM.out.drew
                        obtain ⟨y1, y2, y3⟩ := HC9.out wr HM.out
                        have hj4 : (j : Int) < lvn := by omega
                        have hj5 : (j : Int) < (lvn : Int) + 64 := by omega
                        clear hkc HM HL HW HWL HR HB HN HKL HSP HLP HV HCA HCB HLT HC8 HM6 hi3 hz3 hs3 hb3 hi9 hz9 hs9 hb9 hd hd2 hil hiw hin hog hogw hgw hg hdv hdt hod hod2 hga hgb hm0 hm1 hm2 hjd
                        go_wp2_with fail
                        go_region_held3 (fun w' => w'.cell? ⟨g, i * 4 + 3, none⟩ = some (.slice (some ⟨kb, 0, none⟩) lvn lvn) ∧ w'.cell? ⟨kb, j, none⟩ = some (.string (markX i)) ∧ w'.cell? ⟨gb, ob + j, none⟩ = some (.string (markX i))) (go_keep) ((go_at_call 32; refine (mark_any (i : Int) (by omega) (by omega) _).mono ?_; rintro _ w2 ⟨rfl, hf2⟩; have F1 : Fr (fun _ => False) w6 w2 := (by first | exact F1.trans hf2 | exact F0.trans hf2); obtain ⟨y1, y2, y3⟩ := HC9.out w2 F1))
                        all_goals go_wp2_with fail
                        all_goals exact ⟨⟨j + 1, by simp, by omega, F1⟩, by simp; omega⟩
                      · have hjd2 : decide (j < lvn) = false := by simp; omega
                        have F6 : Hd (Fr (fun _ => False) w6 wr) := HM.out
                        clear HM
                        go_wp2_with fail
                        go_loopw [21] (fun v21 w' => ∃ j : Nat, v21 = .int .i64 j ∧ j ≤ 64 ∧ Hd (Fr (fun _ => False) w6 w')) (fun v _ => match v with | .int _ q => 64 - q.toNat | _ => 0)
                        case atStart => exact ⟨0, rfl, by omega, F6.out⟩
                        case round =>
                          clear F6
                          obtain ⟨j, rfl, hjl, HM⟩ := hrel
                          have hj0 : (0 : Int) ≤ j := by omega
                          by_cases hj : j < 64
                          · have HC9 : Hd (∀ W, Fr (fun _ => False) w6 W → W.cell? ⟨ga, oa + ((lk : Int) + (j : Int)).toNat, none⟩ = some (vI (-1000 - (i : Int))) ∧ W.cell? ⟨gb, ob + ((lvn : Int) + (j : Int)).toNat, none⟩ = some (.string (markX (-(i : Int))))) := fun W hF => by
                              rw [show ((lk : Int) + (j : Int)).toNat = lk + j by omega, show ((lvn : Int) + (j : Int)).toNat = lvn + j by omega]
                              exact ⟨(hF.cell HLT.out.2.1 (fun h => h)).trans (HCA.out.2 j hj), (hF.cell HLT.out.2.2 (fun h => h)).trans (HCB.out.2 j hj)⟩
                            have F0 : Fr (fun _ => False) w6 wr.drew := HM.out.drew
                            obtain ⟨y1, y2⟩ := HC9.out wr HM.out
                            have hj4 : (j : Int) < 64 := by omega
                            have hj5 : (lk : Int) + (j : Int) < (lk : Int) + 64 := by omega
                            have hj6 : (lvn : Int) + (j : Int) < (lvn : Int) + 64 := by omega
                            have hk9 : lk ≤ 3000000000 := hKL.1
                            have hv9 : lvn ≤ 3000000000 := hKL.2
                            have hwk : IntKind.i64.wrap ((lk : Int) + (j : Int)) = (lk : Int) + (j : Int) := i64w (by omega) (by omega)
                            have hwv : IntKind.i64.wrap ((lvn : Int) + (j : Int)) = (lvn : Int) + (j : Int) := i64w (by omega) (by omega)
                            have hwi : IntKind.i64.wrap (-1000 - (i : Int)) = -1000 - (i : Int) := i64w (by omega) (by omega)
                            have hwn : IntKind.i64.wrap (-(i : Int)) = -(i : Int) := i64w (by omega) (by omega)
                            have hbn : ((-1000 - (i : Int)) != (-1000 - (i : Int))) = false := by simp
                            have hj7 : (0 : Int) ≤ (lk : Int) + (j : Int) := by omega
                            have hj8 : (0 : Int) ≤ (lvn : Int) + (j : Int) := by omega
                            clear HM HL HW HWL HR HB HN HKL HSP HLP HV HCA HCB HLT HC8 HM6 hi3 hz3 hs3 hb3 hi9 hz9 hs9 hb9 hd hd2 hil hiw hin hog hogw hgw hg hdv hdt hod hod2 hga hgb hm0 hm1 hm2 hjd hjd2
                            go_wp2_with fail
                            go_region_held3 (fun w' => w'.cell? ⟨ga, oa + ((lk : Int) + (j : Int)).toNat, none⟩ = some (vI (-1000 - (i : Int))) ∧ w'.cell? ⟨gb, ob + ((lvn : Int) + (j : Int)).toNat, none⟩ = some (.string (markX (-(i : Int))))) (go_keep) ((go_at_call 32; refine (mark_any (-(i : Int)) (by omega) (by omega) _).mono ?_; rintro _ w2 ⟨rfl, hf2⟩; have F1 : Fr (fun _ => False) w6 w2 := F0.trans hf2; obtain ⟨y1, y2⟩ := HC9.out w2 F1))
                            all_goals go_wp2_with fail
                            all_goals exact ⟨⟨j + 1, by simp, by omega, F1⟩, by simp; omega⟩
                          · have hjd3 : decide (j < 64) = false := by simp; omega
                            have HE : Hd (Fr (fun _ => False) w5 wr) := HM6.out.1.trans HM.out
                            clear HM
                            go_wp2_with fail
                            exact ⟨⟨i + 1, by simp, by omega, HE.out⟩, by simp; omega⟩
            · have hd3 : decide (i < n) = false := by simp; omega
              have HE : Hd (Fr (fun j => 10 ≤ own j) w wr) := HSP.out.fr.trans (HM.out.mono (fun _ _ h => h.elim))
              clear HM HSP HLP
              go_wp2_with fail
              go_ret
              exact ⟨rfl, HE.out⟩
end Go.Proofs.YtngbakjalmgciaaGreat
