import Derived.Test.YtcjfmfddkhpfnabQFd
namespace Go.Proofs.Ytcjfmfddkhpfnab
open Go.RowKit (wrap32 wrap64)
set_option linter.unusedVariables false
set_option linter.unusedSimpArgs false

/-- How the shelf stands: its blocks are such as P says. -/
def St (w0 : World) (wb N : Nat) (sm : Int) (P : Nat → Prop) (w : World) : Prop :=
  ∃ (lv mv : Value) (us us' : List (Value × List Int)), Sh w0 w wb lv mv us us' sm ∧ us.map (·.2) = us'.map (·.2) ∧ us.length ≤ N ∧ (∀ p ∈ us, p.2.length ≤ 4160) ∧ ∀ k, k = wb ∨ LsB lv us k ∨ LsB mv us' k → P k

theorem St.keep {w0 w w' : World} {wb N : Nat} {sm : Int} {P : Nat → Prop} (h : St w0 wb N sm P w) (f : Fr (fun _ => False) w w') : St w0 wb N sm P w' := by
  obtain ⟨lv, mv, us, us', h1, h2⟩ := h
  exact ⟨lv, mv, us, us', h1.keep f, h2⟩
theorem St.fr {w0 w w' : World} {wb N : Nat} {sm : Int} {P S : Nat → Prop} (h : St w0 wb N sm P w) (f : Fr S w w') (hS : ∀ k, S k → ¬ P k ∧ w0.heap.size ≤ k) : St w0 wb N sm P w' := by
  obtain ⟨lv, mv, us, us', h1, h2, h3, h4, h5⟩ := h
  exact ⟨lv, mv, us, us', h1.fr' f (fun k hk => ⟨fun e => (hS k hk).1 (h5 k (Or.inl e)), fun e => (hS k hk).1 (h5 k (Or.inr (Or.inl e))), fun e => (hS k hk).1 (h5 k (Or.inr (Or.inr e))), (hS k hk).2⟩), h2, h3, h4, h5⟩
theorem St.mono {w0 w : World} {wb N M : Nat} {sm : Int} {P Q : Nat → Prop} (h : St w0 wb N sm P w) (hNM : N ≤ M) (hPQ : ∀ k, k < w.heap.size → w0.heap.size ≤ k → P k → Q k) : St w0 wb M sm Q w := by
  obtain ⟨lv, mv, us, us', h1, h2, h3, h4, h5⟩ := h
  exact ⟨lv, mv, us, us', h1, h2, by omega, h4, fun k hk => hPQ k (h1.ltW hk).2 (h1.ltW hk).1 (h5 k hk)⟩
theorem St.top {w0 w : World} {wb N : Nat} {sm : Int} {P : Nat → Prop} (h : St w0 wb N sm P w) : St w0 wb N sm (fun k => k < w.heap.size) w := h.mono (Nat.le_refl _) (fun _ hk _ _ => hk)
theorem St.old {w0 w : World} {wb N : Nat} {sm : Int} {P : Nat → Prop} (h : St w0 wb N sm P w) : Fr (fun _ => False) w0 w := by
  obtain ⟨lv, mv, us, us', h1, -⟩ := h
  exact h1.fr
theorem St.has {w0 w : World} {wb N : Nat} {sm : Int} {P : Nat → Prop} (h : St w0 wb N sm P w) : ∃ lv mv, w.heap[wb]? = some (.cells #[lv, mv, vI sm] 27) ∧ w0.heap.size ≤ wb ∧ P wb := by
  obtain ⟨lv, mv, us, us', h1, -, -, -, h5⟩ := h
  exact ⟨lv, mv, h1.blk, h1.base, h5 wb (Or.inl rfl)⟩

set_option maxRecDepth 100000 in
theorem keep_long (wb : Nat) (l : Value) (n : Nat) (ad : Option Addr) (cap : Nat) (hl : l = .slice ad n cap) (w : World) (hz : 4096 < n) : Calls Try.prog 14 #[.pointer (some ⟨wb, 0, none⟩), l] w fun e w' => e = .returned (.tuple #[]) ∧ w' = w := by
  subst hl
  have hd : decide ((n : Int) > 4096) = true := by simp; omega
  go_enter Try.func14, Try.ntmps14
  go_wp2_with fail
  refine bodyPost_ret (results_none rfl _ _ _) rfl ?_
  exact ⟨rfl, rfl⟩

/-- keep, of a list of its own that lies beside the shelf. -/
theorem keep_any {w0 w : World} {wb N : Nat} {sm : Int} {P : Nat → Prop} (h : St w0 wb N sm P w) (hN : N ≤ 100000000) (l : Value) (zs : List Int) (B : Nat) (hB : w0.heap.size ≤ B) (hl : OwnI w B l zs) (hf : ∀ j, l.ownBlock = some j → ¬ P j) :
    Calls Try.prog 14 #[.pointer (some ⟨wb, 0, none⟩), l] w fun e w' => e = .returned (.tuple #[]) ∧ St w0 wb (N + 2) sm (fun k => P k ∨ l.ownBlock = some k ∨ w.heap.size ≤ k) w' ∧ Fr (fun j => P j ∨ l.ownBlock = some j) w w' := by
  by_cases hz : zs.length ≤ 4096
  · obtain ⟨lv, mv, us, us', h1, h2, h3, h4, h5⟩ := h
    refine (keep_short w0 w wb lv mv us us' sm h1 h2 l zs (World.ownsRow.mono hl hB) (fun j e => ⟨fun e2 => hf j e (h5 j (Or.inl e2)), fun e2 => hf j e (h5 j (Or.inr (Or.inl e2))), fun e2 => hf j e (h5 j (Or.inr (Or.inr e2)))⟩) (by omega) hz).mono ?_
    rintro e w' ⟨rfl, lv2, mv2, us2, us2', k1, k2, k3, k4, k5, k6⟩
    refine ⟨rfl, ⟨lv2, mv2, us2, us2', k1, k2, by omega, fun p hp => ?_, fun k hk => ?_⟩, k5.mono (fun k _ hk => ?_)⟩
    · rcases k4 p hp with e | e
      · exact h4 p e
      · exact e
    · rcases hk with e | e | e
      · exact Or.inl (h5 k (Or.inl e))
      · rcases k6 k (Or.inl e) with e | e | e | e
        · exact Or.inl (h5 k (Or.inr (Or.inl e)))
        · exact Or.inl (h5 k (Or.inr (Or.inr e)))
        · exact Or.inr (Or.inl e)
        · exact Or.inr (Or.inr e)
      · rcases k6 k (Or.inr e) with e | e | e | e
        · exact Or.inl (h5 k (Or.inr (Or.inl e)))
        · exact Or.inl (h5 k (Or.inr (Or.inr e)))
        · exact Or.inr (Or.inl e)
        · exact Or.inr (Or.inr e)
    · rcases hk with e | e | e | e
      · exact Or.inl (h5 k (Or.inl e))
      · exact Or.inl (h5 k (Or.inr (Or.inl e)))
      · exact Or.inl (h5 k (Or.inr (Or.inr e)))
      · exact Or.inr e
  · obtain ⟨ad, cap, hv⟩ := OwnI.shape hl
    refine (keep_long wb l zs.length ad cap hv w (by omega)).mono ?_
    rintro e w' ⟨rfl, rfl⟩
    exact ⟨rfl, h.mono (by omega) (fun _ _ _ e => Or.inl e), Fr.refl _ _⟩

/-- One number of an edge is another. -/
theorem eCells_set_ex : ∀ (E : List Ed) (i j : Nat) (z : Int), j < 3 → i < E.length → ∃ E' : List Ed, E'.length = E.length ∧ (eCells E).set (i * 3 + j) (vI z) = eCells E'
  | [], i, j, z, _, h => absurd h (by simp)
  | e :: r, 0, j, z, hj, _ => by
    rcases (show j = 0 ∨ j = 1 ∨ j = 2 by omega) with rfl | rfl | rfl
    · exact ⟨(z, e.2.1, e.2.2) :: r, rfl, rfl⟩
    · exact ⟨(e.1, z, e.2.2) :: r, rfl, rfl⟩
    · exact ⟨(e.1, e.2.1, z) :: r, rfl, rfl⟩
  | e :: r, i + 1, j, z, hj, h => by
    obtain ⟨E', h1, h2⟩ := eCells_set_ex r i j z hj (by simpa using h)
    refine ⟨e :: E', by simp [h1], ?_⟩
    rw [show (i + 1) * 3 + j = i * 3 + j + 1 + 1 + 1 by omega]
    simp [eCells, h2]
theorem OwnE.set {w : World} {B eb n cap : Nat} {E : List Ed} (h : OwnE w B (.slice (some ⟨eb, 0, none⟩) n cap) E) (hn : E.length = n) (i j : Nat) (z : Int) (hj : j < 3) (hi : i < n) :
    ∃ E' : List Ed, E'.length = n ∧ OwnE (w.setCell ⟨eb, i * 3 + j, none⟩ (vI z)) B (.slice (some ⟨eb, 0, none⟩) n cap) E' := by
  subst hn
  obtain ⟨E', h1, h2⟩ := eCells_set_ex E i j z hj hi
  refine ⟨E', h1, ?_⟩
  unfold OwnE at h ⊢
  have := row_set h (i * 3 + j) (vI z)
  rw [h2, ← h1] at this
  rw [h1]
  rw [h1] at this
  exact this
theorem OwnI.set {w : World} {B eb n cap : Nat} {Z : List Int} (h : OwnI w B (.slice (some ⟨eb, 0, none⟩) n cap) Z) (hn : Z.length = n) (i : Nat) (z : Int) : OwnI (w.setCell ⟨eb, i, none⟩ (vI z)) B (.slice (some ⟨eb, 0, none⟩) n cap) (Z.set i z) := by
  subst hn
  unfold OwnI at h ⊢
  have := row_set h i (vI z)
  rw [← List.map_set] at this
  rw [List.length_set]
  exact this
theorem OwnE.cells {w : World} {B eb n cap : Nat} {E : List Ed} (h : OwnE w B (.slice (some ⟨eb, 0, none⟩) n cap) E) (hn : E.length = n) {i : Nat} (hi : i < n) :
    ∃ e : Ed, w.cell? ⟨eb, i * 3, none⟩ = some (vI e.1) ∧ w.cell? ⟨eb, i * 3 + 1, none⟩ = some (vI e.2.1) ∧ w.cell? ⟨eb, i * 3 + 2, none⟩ = some (vI e.2.2) ∧ ∀ o, w.frozen? ⟨eb, o, none⟩ = false := by
  subst hn
  obtain ⟨k0, k1, k2⟩ := eCells_get E i hi
  obtain ⟨cur, hc⟩ := row_block h
  exact ⟨E[i], row_cell h k0, row_cell h k1, row_cell h k2, fun o => frozen_of hc o⟩
theorem OwnI.cells {w : World} {B eb n cap : Nat} {Z : List Int} (h : OwnI w B (.slice (some ⟨eb, 0, none⟩) n cap) Z) (hn : Z.length = n) {i : Nat} (hi : i < n) :
    ∃ z : Int, Z[i]? = some z ∧ w.cell? ⟨eb, i, none⟩ = some (vI z) ∧ ∀ o, w.frozen? ⟨eb, o, none⟩ = false := by
  subst hn
  obtain ⟨cur, hc⟩ := row_block h
  exact ⟨Z[i], List.getElem?_eq_getElem hi, row_cell h (by simp [hi]), fun o => frozen_of hc o⟩

end Go.Proofs.Ytcjfmfddkhpfnab

namespace Go.Proofs.Ytcjfmfddkhpfnab
open Go.RowKit (wrap32 wrap64)
set_option linter.unusedVariables false
set_option linter.unusedSimpArgs false

set_option maxRecDepth 100000 in
set_option maxHeartbeats 4000000 in
theorem other_any {w0 w : World} {wb N : Nat} {sm : Int} {P : Nat → Prop} (h : St w0 wb N sm P w) (hN : N ≤ 100000000) (l : Int) (eb ec n : Nat) (es : List Ed) (hel : es.length = n) (hE : OwnE w w0.heap.size (.slice (some ⟨eb, 0, none⟩) n ec) es) (rb rc m : Nat) (rs : List Int) (hrl : rs.length = m) (hR : OwnI w w0.heap.size (.slice (some ⟨rb, 0, none⟩) m rc) rs)
    (hPe : ¬ P eb) (hPr : ¬ P rb) (her : eb ≠ rb) (hn : n ≤ 1048576) (hm : m ≤ 1048576) :
    Calls Try.prog 15 #[.pointer (some ⟨wb, 0, none⟩), .int .i64 l, .slice (some ⟨eb, 0, none⟩) n ec, .slice (some ⟨rb, 0, none⟩) m rc] w fun e w' => e = .returned (.bool true) ∧ St w0 wb (N + 2) sm (fun k => P k ∨ w.heap.size ≤ k) w' ∧ ∃ E : List Ed, E.length = n ∧ OwnE w' w0.heap.size (.slice (some ⟨eb, 0, none⟩) n ec) E ∧ Fr (fun j => P j ∨ j = eb) w w' := by
  have HS : Hd (St w0 wb N sm P w) := h
  have HE : Hd (OwnE w w0.heap.size (.slice (some ⟨eb, 0, none⟩) n ec) es) := hE
  have HR : Hd (OwnI w w0.heap.size (.slice (some ⟨rb, 0, none⟩) m rc) rs) := hR
  have HEL : Hd _ := hel
  have HRL : Hd _ := hrl
  have HPE : Hd (¬ P eb) := hPe
  have HPR : Hd (¬ P rb) := hPr
  have HER : Hd (eb ≠ rb) := her
  have HBE : Hd (w0.heap.size ≤ eb ∧ eb < w.heap.size) := hE.ge eb rfl
  have HBR : Hd (w0.heap.size ≤ rb ∧ rb < w.heap.size) := hR.ge rb rfl
  clear h hE hR hel hrl hPe hPr her
  go_enter Try.func15, Try.ntmps15
  go_wp2_with fail
  go_loopw [9] (fun v wr => ∃ (k : Nat) (E : List Ed), v = .int .i64 k ∧ k ≤ n ∧ Hd (E.length = n) ∧ Hd (OwnE wr w0.heap.size (.slice (some ⟨eb, 0, none⟩) n ec) E) ∧ Hd (Fr (fun j => j = eb) w wr)) (fun v _ => match v with | .int _ q => n - q.toNat | _ => 0)
  case atStart => exact ⟨0, es, rfl, Nat.zero_le _, HEL.out, HE.out, Fr.refl _ _⟩
  case round =>
    obtain ⟨k, E, rfl, hk, HL, HO, HF⟩ := hrel
    by_cases hlt : k < n
    · obtain ⟨e, p0, p1, p2, hz⟩ := HO.out.cells HL.out hlt
      have z0 := hz (k * 3)
      have z1 := hz (k * 3 + 1)
      obtain ⟨d, s, q⟩ := e
      simp only at p0 p1 p2
      obtain ⟨E1, hl1, hO1⟩ := HO.out.set HL.out k 0 s (by omega) hlt
      obtain ⟨E2, hl2, hO2⟩ := hO1.set hl1 k 1 d (by omega) hlt
      have HL2 : Hd (E2.length = n) := hl2
      have HO2 : Hd (OwnE ((wr.setCell ⟨eb, k * 3, none⟩ (vI s)).setCell ⟨eb, k * 3 + 1, none⟩ (vI d)) w0.heap.size (.slice (some ⟨eb, 0, none⟩) n ec) E2) := hO2
      have HF2 : Hd (Fr (fun j => j = eb) w ((wr.setCell ⟨eb, k * 3, none⟩ (vI s)).setCell ⟨eb, k * 3 + 1, none⟩ (vI d))) := (HF.out.setCell _ _ (Or.inl rfl)).setCell _ _ (Or.inl rfl)
      have hk0 : (0 : Int) ≤ k := by omega
      have hk1 : (k : Int) < n := by omega
      clear hz hl1 hO1 hl2 hO2 HO HF HL
      go_wp2_with fail
      exact ⟨⟨k + 1, E2, by simp, by omega, HL2.out, HO2.out, HF2.out⟩, by simp; omega⟩
    · have hke : k = n := by omega
      have HFa : Hd (Fr (fun j => j = eb) w wr) := HF.out
      have HZ : Hd (OwnI wr w0.heap.size (.slice (some ⟨rb, 0, none⟩) m rc) rs) := HR.out.fr HF.out (fun j e e2 => by cases e; exact HER.out e2.symm)
      have HZL : Hd (rs.length = m) := HRL.out
      clear HF HR HE
      have HSa : Hd (St w0 wb N sm (fun k => P k ∧ k < wr.heap.size) wr) := (HS.out.fr HFa.out (fun k hk => by rw [hk]; exact ⟨HPE.out, HBE.out.1⟩)).mono (Nat.le_refl _) (fun k hk _ e => ⟨e, hk⟩)
      have hEl : E.length = n := HL.out
      have hRl : rs.length = m := HZL.out
      clear HS
      go_wp2_with fail
      refine (show Calls Try.prog 25 #[.slice (some ⟨eb, 0, none⟩) n ec] wr _ from copyEdges_any _ E wr HO.out.at (by omega)).mono ?_
      rintro e w1 ⟨cv, rfl, hC1, hF1⟩
      have HC1 : Hd (OwnE w1 wr.heap.size cv E) := hC1
      have HZ1 : Hd (OwnI w1 w0.heap.size (.slice (some ⟨rb, 0, none⟩) m rc) rs) := HZ.out.fr hF1 (fun _ _ e => e)
      have HG1 : Hd (Fr (fun _ => False) wr w1) := hF1
      clear hC1 hF1
      go_wp2_with fail
      refine (show Calls Try.prog 26 #[.slice (some ⟨rb, 0, none⟩) m rc] w1 _ from copyInts_any _ rs w1 HZ1.out.at (by omega)).mono ?_
      rintro e w2 ⟨dv, rfl, hD2, hF2⟩
      have HC2 : Hd (OwnE w2 wr.heap.size cv E) := HC1.out.fr hF2 (fun _ _ e => e)
      have HD2 : Hd (OwnI w2 w1.heap.size dv rs) := hD2
      have HG2 : Hd (Fr (fun _ => False) wr w2) := HG1.out.trans hF2
      clear hD2 hF2 HC1 HZ1 HG1
      go_wp2_with fail
      refine (show Calls Try.prog 12 #[.int .i64 l, cv, dv] w2 _ from rfrom_own l cv dv E rs w2 HC2.out.at HD2.out.at (by omega) (by omega)).mono ?_
      rintro e w3 ⟨yv, ys, er, rfl, hfr, hY, hYb, hF3⟩
      have HFR : Hd (FromR l E rs ys er) := hfr
      have HY3 : Hd (IntsAt w3.heap.size w3 yv ys) := hY
      have HG3 : Hd (Fr (fun _ => False) wr w3) := HG2.out.trans hF3
      have HE3 : Hd (OwnE w3 w0.heap.size (.slice (some ⟨eb, 0, none⟩) n ec) E) := HO.out.fr HG3.out (fun _ _ e => e)
      have HZ3 : Hd (OwnI w3 w0.heap.size (.slice (some ⟨rb, 0, none⟩) m rc) rs) := HZ.out.fr HG3.out (fun _ _ e => e)
      clear hfr hY hYb hF3 HC2 HD2 HG2
      go_wp2_with fail
      refine (show Calls Try.prog 8 #[.int .i64 l, .slice (some ⟨eb, 0, none⟩) n ec, .slice (some ⟨rb, 0, none⟩) m rc] w3 _ from from_as HFR.out _ _ w3 HE3.out.at HZ3.out.at (by omega) (by omega)).mono ?_
      rintro e w4 ⟨xv, rfl, hX, hF4⟩
      have HX4 : Hd (OwnI w4 w3.heap.size xv ys) := hX
      have HY4 : Hd (IntsAt w4.heap.size w4 yv ys) := HY3.out.stay hF4
      have HG4 : Hd (Fr (fun _ => False) wr w4) := HG3.out.trans hF4
      have hyl : ys.length ≤ 1048576 := HFR.out.len
      clear hX hF4 HY3 HE3 HZ3
      go_wp2_with fail
      refine (show Calls Try.prog 9 #[xv, yv] w4 _ from eqInts_any _ _ ys ys w4 HX4.out.at HY4.out (by omega) (by omega)).mono ?_
      rintro e w5 ⟨rfl, hF5⟩
      rw [decide_eq_true rfl]
      have HX5 : Hd (OwnI w5 w3.heap.size xv ys) := HX4.out.fr hF5 (fun _ _ e => e)
      have HG5 : Hd (Fr (fun _ => False) wr w5) := HG4.out.trans hF5
      have HXB : Hd (∀ j, xv.ownBlock = some j → wr.heap.size ≤ j) := fun j e => by have := (HX4.out.ge j e).1; have := HG3.out.size; omega
      clear hF5 HX4 HY4 HG4
      go_wp2_with fail
      refine (show Calls Try.prog 14 #[.pointer (some ⟨wb, 0, none⟩), xv] w5 _ from keep_any (HSa.out.keep HG5.out) hN xv ys w3.heap.size (by have := HSa.out.old.size; have := HG3.out.size; omega) HX5.out (fun j e e2 => by have := HXB.out j e; have := e2.2; omega)).mono ?_
      rintro e w6 ⟨rfl, hS6, hF6⟩
      have HS6 : Hd (St w0 wb (N + 2) sm (fun k => (P k ∧ k < wr.heap.size) ∨ xv.ownBlock = some k ∨ w5.heap.size ≤ k) w6) := hS6
      have HF6 : Hd _ := hF6
      clear hS6 hF6
      go_wp2_with fail
      go_ret
      have sz1 := HFa.out.size
      have sz5 := HG5.out.size
      have HEe : Hd (OwnE w6 w0.heap.size (.slice (some ⟨eb, 0, none⟩) n ec) E) := (HO.out.fr HG5.out (fun _ _ e => e)).fr HF6.out (fun j e e2 => by
        cases e
        rcases e2 with e2 | e2
        · exact HPE.out e2.1
        · have := HXB.out _ e2; have := HBE.out.2; simp only at *; omega)
      refine ⟨rfl, HS6.out.mono (Nat.le_refl _) (fun k _ _ hk => ?_), E, HL.out, HEe.out, ((HFa.out.mono (fun _ _ e => Or.inr e)).trans (HG5.out.mono (fun _ _ e => e.elim))).then HF6.out (fun j hj e => ?_)⟩
      · rcases hk with e | e | e
        · exact Or.inl e.1
        · exact Or.inr (by have := HXB.out k e; omega)
        · exact Or.inr (by omega)
      · rcases e with e | e
        · exact Or.inl e.1
        · have := HXB.out j e; omega


set_option maxRecDepth 100000 in
set_option maxHeartbeats 4000000 in
theorem turned_any {w0 w : World} {wb N : Nat} {sm : Int} {P : Nat → Prop} (h : St w0 wb N sm P w) (hN : N ≤ 100000000) (l : Int) (eb ec n : Nat) (es : List Ed) (hel : es.length = n) (hE : OwnE w w0.heap.size (.slice (some ⟨eb, 0, none⟩) n ec) es) (rb rc m : Nat) (rs : List Int) (hrl : rs.length = m) (hR : OwnI w w0.heap.size (.slice (some ⟨rb, 0, none⟩) m rc) rs)
    (hPe : ¬ P eb) (hPr : ¬ P rb) (her : eb ≠ rb) (hn : n ≤ 1048576) (hm : m ≤ 1048576) :
    Calls Try.prog 16 #[.pointer (some ⟨wb, 0, none⟩), .int .i64 l, .slice (some ⟨eb, 0, none⟩) n ec, .slice (some ⟨rb, 0, none⟩) m rc] w fun e w' => e = .returned (.bool true) ∧ St w0 wb (N + 2) sm (fun k => P k ∨ w.heap.size ≤ k) w' ∧ Fr (fun j => P j ∨ j = eb ∨ j = rb) w w' := by
  have HS : Hd (St w0 wb N sm P w) := h
  have HE : Hd (OwnE w w0.heap.size (.slice (some ⟨eb, 0, none⟩) n ec) es) := hE
  have HR : Hd (OwnI w w0.heap.size (.slice (some ⟨rb, 0, none⟩) m rc) rs) := hR
  have HEL : Hd _ := hel
  have HRL : Hd _ := hrl
  have HPE : Hd (¬ P eb) := hPe
  have HPR : Hd (¬ P rb) := hPr
  have HER : Hd (eb ≠ rb) := her
  have HBE : Hd (w0.heap.size ≤ eb ∧ eb < w.heap.size) := hE.ge eb rfl
  have HBR : Hd (w0.heap.size ≤ rb ∧ rb < w.heap.size) := hR.ge rb rfl
  clear h hE hR hel hrl hPe hPr her
  go_enter Try.func16, Try.ntmps16
  go_wp2_with fail
  go_loopw [9] (fun v wr => ∃ (k : Nat) (E : List Ed), v = .int .i64 k ∧ k ≤ n ∧ Hd (E.length = n) ∧ Hd (OwnE wr w0.heap.size (.slice (some ⟨eb, 0, none⟩) n ec) E) ∧ Hd (Fr (fun j => j = eb) w wr)) (fun v _ => match v with | .int _ q => n - q.toNat | _ => 0)
  case atStart => exact ⟨0, es, rfl, Nat.zero_le _, HEL.out, HE.out, Fr.refl _ _⟩
  case round =>
    obtain ⟨k, E, rfl, hk, HL, HO, HF⟩ := hrel
    by_cases hlt : k < n
    · obtain ⟨e, p0, p1, p2, hz⟩ := HO.out.cells HL.out hlt
      have z0 := hz (k * 3)
      have z1 := hz (k * 3 + 1)
      obtain ⟨d, s, q⟩ := e
      simp only at p0 p1 p2
      obtain ⟨E1, hl1, hO1⟩ := HO.out.set HL.out k 0 s (by omega) hlt
      obtain ⟨E2, hl2, hO2⟩ := hO1.set hl1 k 1 d (by omega) hlt
      have HL2 : Hd (E2.length = n) := hl2
      have HO2 : Hd (OwnE ((wr.setCell ⟨eb, k * 3, none⟩ (vI s)).setCell ⟨eb, k * 3 + 1, none⟩ (vI d)) w0.heap.size (.slice (some ⟨eb, 0, none⟩) n ec) E2) := hO2
      have HF2 : Hd (Fr (fun j => j = eb) w ((wr.setCell ⟨eb, k * 3, none⟩ (vI s)).setCell ⟨eb, k * 3 + 1, none⟩ (vI d))) := (HF.out.setCell _ _ (Or.inl rfl)).setCell _ _ (Or.inl rfl)
      have hk0 : (0 : Int) ≤ k := by omega
      have hk1 : (k : Int) < n := by omega
      clear hz hl1 hO1 hl2 hO2 HO HF HL
      go_wp2_with fail
      exact ⟨⟨k + 1, E2, by simp, by omega, HL2.out, HO2.out, HF2.out⟩, by simp; omega⟩
    · have hke : k = n := by omega
      clear HE
      go_wp2_with fail
      have HF1 : Hd (Fr (fun j => j = eb) w wr) := HF.out
      have HZ0 : Hd (OwnI wr w0.heap.size (.slice (some ⟨rb, 0, none⟩) m rc) rs) := HR.out.fr HF.out (fun j e e2 => by cases e; exact HER.out e2.symm)
      clear HF HR
      generalize wr = wa at *
      go_loopw [11] (fun v wx => ∃ (k : Nat) (Z : List Int), v = .int .i64 k ∧ k ≤ m ∧ Hd (Z.length = m) ∧ Hd (OwnI wx w0.heap.size (.slice (some ⟨rb, 0, none⟩) m rc) Z) ∧ Hd (Fr (fun j => j = rb) wa wx)) (fun v _ => match v with | .int _ q => m - q.toNat | _ => 0)
      case atStart => exact ⟨0, rs, rfl, Nat.zero_le _, HRL.out, HZ0.out, Fr.refl _ _⟩
      case round =>
        clear HZ0
        obtain ⟨k, Z, rfl, hk, HZL, HZ, HF⟩ := hrel
        by_cases hlt : k < m
        · obtain ⟨z, hz0, p0, hz⟩ := HZ.out.cells HZL.out hlt
          have z0 := hz k
          have hk0 : (0 : Int) ≤ k := by omega
          have hk1 : (k : Int) < m := by omega
          have HZS : Hd (∀ q : Int, OwnI (wr.setCell ⟨rb, k, none⟩ (vI q)) w0.heap.size (.slice (some ⟨rb, 0, none⟩) m rc) (Z.set k q)) := fun q => HZ.out.set HZL.out k q
          clear hz hz0
          go_wp2_with fail
          exact ⟨⟨k + 1, _, by simp, by omega, by unfold Hd; rw [List.length_set]; exact HZL.out, HZS.out _, HF.out.setCell _ _ (Or.inl rfl)⟩, by simp; omega⟩
        · have hkm : k = m := by omega
          have HFa : Hd (Fr (fun j => j = eb ∨ j = rb) w wr) := (HF1.out.mono (fun _ _ e => Or.inl e)).then HF.out (fun j _ e => Or.inr e)
          have HOa : Hd (OwnE wr w0.heap.size (.slice (some ⟨eb, 0, none⟩) n ec) E) := HO.out.fr HF.out (fun j e e2 => by cases e; exact HER.out e2)
          clear HO HF HF1
          have HO : Hd (OwnE wr w0.heap.size (.slice (some ⟨eb, 0, none⟩) n ec) E) := HOa.out
          clear HOa
          have HSa : Hd (St w0 wb N sm (fun k => P k ∧ k < wr.heap.size) wr) := (HS.out.fr HFa.out (fun k hk => by rcases hk with hk | hk <;> rw [hk]; exact ⟨HPE.out, HBE.out.1⟩; exact ⟨HPR.out, HBR.out.1⟩)).mono (Nat.le_refl _) (fun k hk _ e => ⟨e, hk⟩)
          have hEl : E.length = n := HL.out
          have hRl : Z.length = m := HZL.out
          clear HS
          go_wp2_with fail
          refine (show Calls Try.prog 25 #[.slice (some ⟨eb, 0, none⟩) n ec] wr _ from copyEdges_any _ E wr HO.out.at (by omega)).mono ?_
          rintro e w1 ⟨cv, rfl, hC1, hF1⟩
          have HC1 : Hd (OwnE w1 wr.heap.size cv E) := hC1
          have HZ1 : Hd (OwnI w1 w0.heap.size (.slice (some ⟨rb, 0, none⟩) m rc) Z) := HZ.out.fr hF1 (fun _ _ e => e)
          have HG1 : Hd (Fr (fun _ => False) wr w1) := hF1
          clear hC1 hF1
          go_wp2_with fail
          refine (show Calls Try.prog 26 #[.slice (some ⟨rb, 0, none⟩) m rc] w1 _ from copyInts_any _ Z w1 HZ1.out.at (by omega)).mono ?_
          rintro e w2 ⟨dv, rfl, hD2, hF2⟩
          have HC2 : Hd (OwnE w2 wr.heap.size cv E) := HC1.out.fr hF2 (fun _ _ e => e)
          have HD2 : Hd (OwnI w2 w1.heap.size dv Z) := hD2
          have HG2 : Hd (Fr (fun _ => False) wr w2) := HG1.out.trans hF2
          clear hD2 hF2 HC1 HZ1 HG1
          go_wp2_with fail
          refine (show Calls Try.prog 12 #[.int .i64 l, cv, dv] w2 _ from rfrom_own l cv dv E Z w2 HC2.out.at HD2.out.at (by omega) (by omega)).mono ?_
          rintro e w3 ⟨yv, ys, er, rfl, hfr, hY, hYb, hF3⟩
          have HFR : Hd (FromR l E Z ys er) := hfr
          have HY3 : Hd (IntsAt w3.heap.size w3 yv ys) := hY
          have HG3 : Hd (Fr (fun _ => False) wr w3) := HG2.out.trans hF3
          have HE3 : Hd (OwnE w3 w0.heap.size (.slice (some ⟨eb, 0, none⟩) n ec) E) := HO.out.fr HG3.out (fun _ _ e => e)
          have HZ3 : Hd (OwnI w3 w0.heap.size (.slice (some ⟨rb, 0, none⟩) m rc) Z) := HZ.out.fr HG3.out (fun _ _ e => e)
          clear hfr hY hYb hF3 HC2 HD2 HG2
          go_wp2_with fail
          refine (show Calls Try.prog 8 #[.int .i64 l, .slice (some ⟨eb, 0, none⟩) n ec, .slice (some ⟨rb, 0, none⟩) m rc] w3 _ from from_as HFR.out _ _ w3 HE3.out.at HZ3.out.at (by omega) (by omega)).mono ?_
          rintro e w4 ⟨xv, rfl, hX, hF4⟩
          have HX4 : Hd (OwnI w4 w3.heap.size xv ys) := hX
          have HY4 : Hd (IntsAt w4.heap.size w4 yv ys) := HY3.out.stay hF4
          have HG4 : Hd (Fr (fun _ => False) wr w4) := HG3.out.trans hF4
          have hyl : ys.length ≤ 1048576 := HFR.out.len
          clear hX hF4 HY3 HE3 HZ3
          go_wp2_with fail
          refine (show Calls Try.prog 9 #[xv, yv] w4 _ from eqInts_any _ _ ys ys w4 HX4.out.at HY4.out (by omega) (by omega)).mono ?_
          rintro e w5 ⟨rfl, hF5⟩
          rw [decide_eq_true rfl]
          have HX5 : Hd (OwnI w5 w3.heap.size xv ys) := HX4.out.fr hF5 (fun _ _ e => e)
          have HG5 : Hd (Fr (fun _ => False) wr w5) := HG4.out.trans hF5
          have HXB : Hd (∀ j, xv.ownBlock = some j → wr.heap.size ≤ j) := fun j e => by have := (HX4.out.ge j e).1; have := HG3.out.size; omega
          clear hF5 HX4 HY4 HG4
          go_wp2_with fail
          refine (show Calls Try.prog 14 #[.pointer (some ⟨wb, 0, none⟩), xv] w5 _ from keep_any (HSa.out.keep HG5.out) hN xv ys w3.heap.size (by have := HSa.out.old.size; have := HG3.out.size; omega) HX5.out (fun j e e2 => by have := HXB.out j e; have := e2.2; omega)).mono ?_
          rintro e w6 ⟨rfl, hS6, hF6⟩
          have HS6 : Hd (St w0 wb (N + 2) sm (fun k => (P k ∧ k < wr.heap.size) ∨ xv.ownBlock = some k ∨ w5.heap.size ≤ k) w6) := hS6
          have HF6 : Hd _ := hF6
          clear hS6 hF6
          go_wp2_with fail
          go_ret
          have sz1 := HFa.out.size
          have sz5 := HG5.out.size
          refine ⟨rfl, HS6.out.mono (Nat.le_refl _) (fun k _ _ hk => ?_), ((HFa.out.mono (fun _ _ e => Or.inr e)).trans (HG5.out.mono (fun _ _ e => e.elim))).then HF6.out (fun j hj e => ?_)⟩
          · rcases hk with e | e | e
            · exact Or.inl e.1
            · exact Or.inr (by have := HXB.out k e; omega)
            · exact Or.inr (by omega)
          · rcases e with e | e
            · exact Or.inl e.1
            · have := HXB.out j e; omega

end Go.Proofs.Ytcjfmfddkhpfnab

namespace Go.Proofs.Ytcjfmfddkhpfnab
open Go.RowKit (wrap32 wrap64)
set_option linter.unusedVariables false
set_option linter.unusedSimpArgs false

def threeX (i : Nat) : Int := if i = 0 then 0 else if i = 1 then 9 else 2
theorem least_three : Least 3 [((0 : Int), (2 : Int), (2 : Int))] [0] threeX := by
  refine ⟨fun r hr => ?_, fun a s k he => ?_, fun i hi => ?_⟩
  · have : r = 0 := by simpa using hr
    subst this
    exact Int.le_refl _
  · simp at he
    obtain ⟨h1, h2, h3⟩ := he
    have h1 : a = 0 := by omega
    have h2 : s = 2 := by omega
    subst h1; subst h2; subst h3
    decide
  · have r0 : Reach [((0 : Int), (2 : Int), (2 : Int))] [0] 0 0 := .root (by simp)
    rcases (show i = 0 ∨ i = 1 ∨ i = 2 by omega) with rfl | rfl | rfl
    · exact Or.inr r0
    · exact Or.inl rfl
    · have := Reach.step (es := [((0 : Int), (2 : Int), (2 : Int))]) (rs := [0]) (e := ((0 : Int), (2 : Int), (2 : Int))) (by simp) r0
      have hp : plusX 0 2 = threeX 2 := by decide
      simp only [hp] at this
      exact Or.inr this
theorem right_three : RightG 3 [((0 : Int), (2 : Int), (2 : Int))] [0] := by decide
theorem fromR_three : FromR 3 [((0 : Int), (2 : Int), (2 : Int))] [0] [0, 9, 2] 0 := Or.inr ⟨right_three, rfl, threeX, by decide, least_three⟩
theorem fromR_two {d : Int} (hd : d = 1 ∨ d = 2) : FromR 2 [((0 : Int), (1 : Int), d)] [0] [0, d] 0 := Or.inr ⟨right_two hd, rfl, twoX d, by simp [List.range, List.range.loop, twoX], least_two hd⟩

theorem IntsAt.fr2 {S : Nat → Prop} {w w' : World} {v : Value} {zs : List Int} (h : IntsAt w.heap.size w v zs) (f : Fr S w w') (hS : ∀ k, v.ownBlock = some k → ¬ S k) : IntsAt w'.heap.size w' v zs := by
  obtain ⟨a, c, e, hc, h⟩ := h
  refine ⟨a, c, e, hc, fun hne => ?_⟩
  obtain ⟨k, o, rfl, hk, h⟩ := h hne
  subst e
  exact ⟨k, o, rfl, by have := f.size; omega, fun i hi => (f.cell hk (hS k rfl)).trans (h i hi)⟩

/-- What asks holds: the graph's own block, the two lists with marks, lists that were handed out (and what must stand in them), the document's answer; and the shelf beside. -/
structure Hv (w0 : World) (wb N : Nat) (sm : Int) (H gb : Nat) (l : Int) (ev rv : Value) (es : List Ed) (rs : List Int) (eb ec rb rc : Nat) (L M : List (Value × List Int)) (w : World) : Prop where
  g : w.heap[gb]? = some (.cells #[vI l, ev, rv] 31)
  gH : H ≤ gb
  base : w0.heap.size ≤ H
  E : OwnE w H (.slice (some ⟨eb, 0, none⟩) (es ++ mkE 64).length ec) (es ++ mkE 64)
  R : OwnI w H (.slice (some ⟨rb, 0, none⟩) (rs ++ mkI 64).length rc) (rs ++ mkI 64)
  ap0 : eb ≠ rb ∧ eb ≠ gb ∧ rb ≠ gb
  own : ∀ p ∈ L, OwnI w H p.1 p.2
  red : ∀ p ∈ M, IntsAt w.heap.size w p.1 p.2 ∧ ∀ k, p.1.ownBlock = some k → H ≤ k ∧ k < w.heap.size
  blk : ∀ p ∈ L ++ M, ∀ k, p.1.ownBlock = some k → k ≠ gb ∧ k ≠ eb ∧ k ≠ rb
  ap : (L ++ M).Pairwise fun p q => Apt p.1 q.1
  sh : St w0 wb N sm (fun k => ¬ (k = gb ∨ k = eb ∨ k = rb ∨ ∃ p ∈ L ++ M, p.1.ownBlock = some k)) w

section
variable {w0 w w' : World} {wb N : Nat} {sm : Int} {H gb : Nat} {l : Int} {ev rv : Value} {es : List Ed} {rs : List Int} {eb ec rb rc : Nat} {L M : List (Value × List Int)}

theorem Hv.bd (h : Hv w0 wb N sm H gb l ev rv es rs eb ec rb rc L M w) : ∀ p ∈ L ++ M, ∀ k, p.1.ownBlock = some k → H ≤ k ∧ k < w.heap.size := fun p hp k e => by
  rcases List.mem_append.1 hp with hp | hp
  · exact (h.own p hp).ge k e
  · exact (h.red p hp).2 k e

theorem Hv.keep (h : Hv w0 wb N sm H gb l ev rv es rs eb ec rb rc L M w) (f : Fr (fun _ => False) w w') : Hv w0 wb N sm H gb l ev rv es rs eb ec rb rc L M w' where
  g := (f.block gb (heap_lt h.g) (fun e => e)).trans h.g
  gH := h.gH
  base := h.base
  E := h.E.fr f (fun _ _ e => e)
  R := h.R.fr f (fun _ _ e => e)
  ap0 := h.ap0
  own := fun p hp => (h.own p hp).fr f (fun _ _ e => e)
  red := fun p hp => ⟨(h.red p hp).1.stay f, fun k e => by have := (h.red p hp).2 k e; have := f.size; omega⟩
  blk := h.blk
  ap := h.ap
  sh := h.sh.keep f

theorem Hv.lts (h : Hv w0 wb N sm H gb l ev rv es rs eb ec rb rc L M w) : gb < w.heap.size ∧ eb < w.heap.size ∧ rb < w.heap.size := ⟨heap_lt h.g, (h.E.ge eb rfl).2, (h.R.ge rb rfl).2⟩

/-- Blocks that are held here. -/
abbrev Ours (gb eb rb : Nat) (L : List (Value × List Int)) (k : Nat) : Prop := k = gb ∨ k = eb ∨ k = rb ∨ ∃ p ∈ L, p.1.ownBlock = some k

theorem Hv.sh2 (h : Hv w0 wb N sm H gb l ev rv es rs eb ec rb rc L M w) : St w0 wb N sm (fun k => ¬ Ours gb eb rb (L ++ M) k ∧ k < w.heap.size) w := h.sh.mono (Nat.le_refl _) (fun _ hk _ e => ⟨e, hk⟩)

/-- One more list that was handed out. -/
theorem Hv.addO (h : Hv w0 wb N sm H gb l ev rv es rs eb ec rb rc L [] w) (f : Fr (fun _ => False) w w') {v : Value} {zs : List Int} (hv : OwnI w' w.heap.size v zs) : Hv w0 wb N sm H gb l ev rv es rs eb ec rb rc (L ++ [(v, zs)]) [] w' := by
  have k := h.keep f
  have hlt := h.lts
  have hH : H ≤ w.heap.size := by have := h.gH; omega
  refine { k with own := fun p hp => ?_, blk := fun p hp j e => ?_, ap := ?_, sh := (h.sh2.keep f).mono (Nat.le_refl _) (fun j _ _ hj hn => ?_) }
  · rcases List.mem_append.1 hp with hp | hp
    · exact k.own p hp
    · simp at hp; subst hp; exact World.ownsRow.mono hv hH
  · rw [List.append_nil] at hp
    rcases List.mem_append.1 hp with hp | hp
    · exact h.blk p (by simpa using hp) j e
    · simp at hp; subst hp
      have := (hv.ge j e).1
      omega
  · rw [List.append_nil, List.pairwise_append]
    refine ⟨by simpa using h.ap, by simp, fun p hp q hq j e1 e2 => ?_⟩
    simp at hq; subst hq
    have := (h.bd p (by simpa using hp) j e1).2
    have := (hv.ge j e2).1
    omega
  · refine hj.1 ?_
    rcases hn with e | e | e | ⟨p, hp, e⟩
    · exact Or.inl e
    · exact Or.inr (Or.inl e)
    · exact Or.inr (Or.inr (Or.inl e))
    · rw [List.append_nil] at hp
      rcases List.mem_append.1 hp with hp | hp
      · exact Or.inr (Or.inr (Or.inr ⟨p, by simpa using hp, e⟩))
      · simp at hp; subst hp
        have := (hv.ge j e).1
        omega

/-- The document's answer. -/
theorem Hv.addM (h : Hv w0 wb N sm H gb l ev rv es rs eb ec rb rc L [] w) (f : Fr (fun _ => False) w w') {v : Value} {zs : List Int} (hv : IntsAt w'.heap.size w' v zs) (hb : ∀ k, v.ownBlock = some k → w.heap.size ≤ k ∧ k < w'.heap.size) : Hv w0 wb N sm H gb l ev rv es rs eb ec rb rc L [(v, zs)] w' := by
  have k := h.keep f
  have hlt := h.lts
  have hH : H ≤ w.heap.size := by have := h.gH; omega
  refine { k with red := fun p hp => ?_, blk := fun p hp j e => ?_, ap := ?_, sh := (h.sh2.keep f).mono (Nat.le_refl _) (fun j _ _ hj hn => ?_) }
  · simp at hp; subst hp; exact ⟨hv, fun k e => by have := hb k e; omega⟩
  · rcases List.mem_append.1 hp with hp | hp
    · exact h.blk p (by simpa using hp) j e
    · simp at hp; subst hp
      have := (hb j e).1
      omega
  · rw [List.pairwise_append]
    refine ⟨by simpa using h.ap, by simp, fun p hp q hq j e1 e2 => ?_⟩
    simp at hq; subst hq
    have := (h.bd p (by simpa using hp) j e1).2
    have := (hb j e2).1
    omega
  · refine hj.1 ?_
    rcases hn with e | e | e | ⟨p, hp, e⟩
    · exact Or.inl e
    · exact Or.inr (Or.inl e)
    · exact Or.inr (Or.inr (Or.inl e))
    · rcases List.mem_append.1 hp with hp | hp
      · exact Or.inr (Or.inr (Or.inr ⟨p, by simpa using hp, e⟩))
      · simp at hp; subst hp
        have := (hb j e).1
        omega

/-- What was written was none of these, but the first list. -/
theorem Hv.part {S : Nat → Prop} {x : Value} {zs : List Int} {N' : Nat} (h : Hv w0 wb N sm H gb l ev rv es rs eb ec rb rc ((x, zs) :: L) M w) (f : Fr S w w') (hS : ∀ k, S k → ¬ Ours gb eb rb (L ++ M) k)
    (sh : St w0 wb N' sm (fun k => ¬ Ours gb eb rb (L ++ M) k) w') : Hv w0 wb N' sm H gb l ev rv es rs eb ec rb rc L M w' where
  g := (f.block gb (heap_lt h.g) (fun e => hS gb e (Or.inl rfl))).trans h.g
  gH := h.gH
  base := h.base
  E := h.E.fr f (fun j e e2 => by cases e; exact hS _ e2 (Or.inr (Or.inl rfl)))
  R := h.R.fr f (fun j e e2 => by cases e; exact hS _ e2 (Or.inr (Or.inr (Or.inl rfl))))
  ap0 := h.ap0
  own := fun p hp => (h.own p (List.mem_cons_of_mem _ hp)).fr f (fun j e e2 => hS j e2 (Or.inr (Or.inr (Or.inr ⟨p, List.mem_append_left _ hp, e⟩))))
  red := fun p hp => ⟨(h.red p hp).1.fr2 f (fun j e e2 => hS j e2 (Or.inr (Or.inr (Or.inr ⟨p, List.mem_append_right _ hp, e⟩)))), fun k e => by have := (h.red p hp).2 k e; have := f.size; omega⟩
  blk := fun p hp => h.blk p (by rw [List.cons_append]; exact List.mem_cons_of_mem _ hp)
  ap := (List.pairwise_cons.1 h.ap).2
  sh := sh

/-- The first list is none of the others. -/
theorem Hv.alone {x : Value} {zs : List Int} (h : Hv w0 wb N sm H gb l ev rv es rs eb ec rb rc ((x, zs) :: L) M w) {k : Nat} (hk : x.ownBlock = some k) : ¬ Ours gb eb rb (L ++ M) k := by
  have hb := h.blk (x, zs) (by simp) k hk
  rintro (e | e | e | ⟨p, hp, e⟩)
  · exact hb.1 e
  · exact hb.2.1 e
  · exact hb.2.2 e
  · exact (List.pairwise_cons.1 h.ap).1 p hp k hk e

theorem Ours.cons {x : Value} {zs : List Int} {k : Nat} (h : ¬ Ours gb eb rb ((x, zs) :: L ++ M) k) : ¬ Ours gb eb rb (L ++ M) k := by
  rintro (e | e | e | ⟨p, hp, e⟩)
  · exact h (Or.inl e)
  · exact h (Or.inr (Or.inl e))
  · exact h (Or.inr (Or.inr (Or.inl e)))
  · exact h (Or.inr (Or.inr (Or.inr ⟨p, by rw [List.cons_append]; exact List.mem_cons_of_mem _ hp, e⟩)))

theorem Hv.drop {x : Value} {zs : List Int} (h : Hv w0 wb N sm H gb l ev rv es rs eb ec rb rc ((x, zs) :: L) M w) : Hv w0 wb N sm H gb l ev rv es rs eb ec rb rc L M w :=
  h.part (S := fun _ => False) (Fr.refl _ w) (fun _ e => e.elim) (h.sh.mono (Nat.le_refl _) (fun _ _ _ e => Ours.cons e))
theorem Hv.more (h : Hv w0 wb N sm H gb l ev rv es rs eb ec rb rc L M w) {N' : Nat} (hN : N ≤ N') : Hv w0 wb N' sm H gb l ev rv es rs eb ec rb rc L M w :=
  { h with sh := h.sh.mono hN (fun _ _ _ e => e) }

/-- The first list has been written over. -/
theorem Hv.turn {x : Value} {zs zs' : List Int} (h : Hv w0 wb N sm H gb l ev rv es rs eb ec rb rc ((x, zs) :: L) M w) (f : Fr (fun j => x.ownBlock = some j) w w') (hx : OwnI w' H x zs') : Hv w0 wb N sm H gb l ev rv es rs eb ec rb rc ((x, zs') :: L) M w' := by
  have hge := (h.own (x, zs) (by simp)).ge
  have k := h.part f (fun k hk => h.alone hk) ((h.sh.fr f (fun k hk => ⟨fun e => e (Or.inr (Or.inr (Or.inr ⟨(x, zs), by simp, hk⟩))), by have := h.base; have := (hge k hk).1; omega⟩)).mono (Nat.le_refl _) (fun _ _ _ e => Ours.cons e))
  refine { k with own := fun p hp => ?_, blk := fun p hp j e => ?_, ap := ?_, sh := (h.sh.fr f (fun k hk => ⟨fun e => e (Or.inr (Or.inr (Or.inr ⟨(x, zs), by simp, hk⟩))), by have := h.base; have := (hge k hk).1; omega⟩)).mono (Nat.le_refl _) (fun j _ _ e e2 => e ?_) }
  · rcases List.mem_cons.1 hp with rfl | hp
    · exact hx
    · exact k.own p hp
  · rw [List.cons_append] at hp
    rcases List.mem_cons.1 hp with rfl | hp
    · exact h.blk (x, zs) (by simp) j e
    · exact k.blk p hp j e
  · rw [List.cons_append, List.pairwise_cons]
    exact ⟨(List.pairwise_cons.1 h.ap).1, k.ap⟩
  · rcases e2 with e | e | e | ⟨p, hp, e⟩
    · exact Or.inl e
    · exact Or.inr (Or.inl e)
    · exact Or.inr (Or.inr (Or.inl e))
    · rw [List.cons_append] at hp
      rcases List.mem_cons.1 hp with rfl | hp
      · exact Or.inr (Or.inr (Or.inr ⟨(x, zs), by simp, e⟩))
      · exact Or.inr (Or.inr (Or.inr ⟨p, by rw [List.cons_append]; exact List.mem_cons_of_mem _ hp, e⟩))

/-- The first two change places. -/
theorem Hv.swap {p q : Value × List Int} (h : Hv w0 wb N sm H gb l ev rv es rs eb ec rb rc [p, q] M w) : Hv w0 wb N sm H gb l ev rv es rs eb ec rb rc [q, p] M w := by
  have hm : ∀ r, r ∈ [q, p] ++ M → r ∈ [p, q] ++ M := fun r hr => by simp at hr ⊢; rcases hr with e | e | e; exact Or.inr (Or.inl e); exact Or.inl e; exact Or.inr (Or.inr e)
  refine { h with own := fun r hr => h.own r (by simp at hr ⊢; exact hr.symm), blk := fun r hr => h.blk r (hm r hr), ap := ?_, sh := h.sh.mono (Nat.le_refl _) (fun j _ _ e e2 => e ?_) }
  · have := h.ap
    simp only [List.cons_append, List.nil_append, List.pairwise_cons] at this ⊢
    obtain ⟨h1, h2, h3⟩ := this
    refine ⟨fun r hr => ?_, fun r hr => h1 r (List.mem_cons_of_mem _ hr), h3⟩
    rcases List.mem_cons.1 hr with rfl | hr
    · exact (h1 q List.mem_cons_self).symm
    · exact h2 r hr
  · rcases e2 with e | e | e | ⟨p, hp, e⟩
    · exact Or.inl e
    · exact Or.inr (Or.inl e)
    · exact Or.inr (Or.inr (Or.inl e))
    · exact Or.inr (Or.inr (Or.inr ⟨p, hm p hp, e⟩))

/-- keep, of the first list. -/
theorem keep_hv {x : Value} {zs : List Int} (h : Hv w0 wb N sm H gb l ev rv es rs eb ec rb rc ((x, zs) :: L) M w) (hN : N ≤ 100000000) :
    Calls Try.prog 14 #[.pointer (some ⟨wb, 0, none⟩), x] w fun e w' => e = .returned (.tuple #[]) ∧ ((zs.length ≤ 4096 ∧ Hv w0 wb (N + 2) sm H gb l ev rv es rs eb ec rb rc L M w') ∨ (4096 < zs.length ∧ Hv w0 wb (N + 2) sm H gb l ev rv es rs eb ec rb rc ((x, zs) :: L) M w')) := by
  by_cases hz : zs.length ≤ 4096
  · refine (keep_any h.sh hN x zs H h.base (h.own (x, zs) (by simp)) (fun j e e2 => e2 (Or.inr (Or.inr (Or.inr ⟨(x, zs), by simp, e⟩))))).mono ?_
    rintro e w' ⟨rfl, hs, hf⟩
    refine ⟨rfl, Or.inl ⟨hz, h.part hf (fun k hk => ?_) (hs.mono (Nat.le_refl _) (fun k _ _ hk => ?_))⟩⟩
    · rcases hk with e | e
      · exact Ours.cons e
      · exact h.alone e
    · rcases hk with e | e | e
      · exact Ours.cons e
      · exact h.alone e
      · have hlt := h.lts
        rintro (e2 | e2 | e2 | ⟨p, hp, e2⟩)
        · omega
        · omega
        · omega
        · have := (h.bd p (by rw [List.cons_append]; exact List.mem_cons_of_mem _ hp) k e2).2
          omega
  · obtain ⟨ad, cap, hv⟩ := OwnI.shape (h.own (x, zs) (by simp))
    refine (keep_long wb x zs.length ad cap hv w (by omega)).mono ?_
    rintro e w' ⟨rfl, rfl⟩
    exact ⟨rfl, Or.inr ⟨by omega, h.more (by omega)⟩⟩
/-- Likewise, and the list is done with. -/
theorem keep_hv' {x : Value} {zs : List Int} (h : Hv w0 wb N sm H gb l ev rv es rs eb ec rb rc ((x, zs) :: L) M w) (hN : N ≤ 100000000) :
    Calls Try.prog 14 #[.pointer (some ⟨wb, 0, none⟩), x] w fun e w' => e = .returned (.tuple #[]) ∧ Hv w0 wb (N + 2) sm H gb l ev rv es rs eb ec rb rc L M w' := by
  refine (keep_hv h hN).mono ?_
  rintro e w' ⟨rfl, ⟨-, h⟩ | ⟨-, h⟩⟩
  · exact ⟨rfl, h⟩
  · exact ⟨rfl, h.drop⟩
end

end Go.Proofs.Ytcjfmfddkhpfnab
