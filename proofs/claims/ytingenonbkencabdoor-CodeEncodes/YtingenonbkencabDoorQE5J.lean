import Derived.Test.YtingenonbkencabDoorQE1J
import Derived.Test.YtingenonbkencabDoorQC3c
import Derived.Test.YtingenonbkencabDoorQC3d
import Derived.Test.YtingenonbkencabDoorQB1
import Derived.Test.YtingenonbkencabDoorQB2J
import Derived.Laws.BytesString
import Derived.Test.YtingenonbkencabDoorQA3
import Derived.Deep.AppendLies
import Derived.Deep.Onto
import Derived.Deep.DeepCutAuto
import Derived.Deep.RegionHeld3
set_option linter.unusedVariables false
set_option linter.unusedSimpArgs false
namespace Go.Proofs.YtingenonbkencabDoor
open Go.RowKit (wrap32 wrap64)
theorem oneX_kept {b : Nat} {M : Mode b} {old v : Int} {x y : WS × M.σ} (h : oneX M old x = .ok (v, y)) : Kept x.1 y.1 := by
 unfold oneX at h
 split at h
 ·split at h
  ·cases h; exact ⟨rfl, rfl, rfl, rfl, rfl, rfl, rfl, rfl, rfl, rfl, rfl⟩
  ·cases h
 ·cases h
theorem varsX_kept {b : Nat} {M : Mode b} : ∀ {l : List Int} {x : WS × M.σ} {vs : List Int} {y : WS × M.σ}, varsX M l x = .ok (vs, y) → Kept x.1 y.1
 | [], _, _, _, h => by simp only [varsX, Except.ok.injEq, Prod.mk.injEq] at h; rw [← h.2]; exact Kept.refl _
 | old :: r, x, vs, y, h => by
   simp only [varsX] at h
   split at h
   ·cases h
   ·rename_i v y1 h1
    split at h
    ·cases h
    ·rename_i vs' y' hv
     simp only [Except.ok.injEq, Prod.mk.injEq] at h
     rw [← h.2]
     exact (oneX_kept h1).trans (varsX_kept hv)
theorem listX_kept {b : Nat} {M : Mode b} {n : Nat} {l vs : List Int} {x y : WS × M.σ} (h : listX M n l x = .ok (vs, y)) : Kept x.1 y.1 := by
 unfold listX at h
 split at h
 ·cases h
 ·rename_i y' hy
  split at h
  ·have k1 := nextX_kept (Or.inr (Or.inr (Or.inr (Or.inr rfl)))) hy
   have k2 := varsX_kept h
   exact Kept.trans ⟨k1.num, k1.globals, k1.funcs, k1.fP, k1.fR, k1.fV, k1.fC, k1.len, k1.op, k1.args, k1.rets⟩ k2
  ·cases h
theorem listX_setL {b : Nat} (M : Mode b) (o : Nat) (v : Value) (n : Nat) (s : WS) (st : M.σ) :
 listX M n [] (s.setL o v, st) = match listX M n [] (s, st) with | .ok (vs, y) => .ok (vs, (y.1.setL o v, y.2)) | .error z => .error z := by
 have e : ({ s.setL o v with count := (([] : List Int).length : Int) } : WS) = ({ s with count := (([] : List Int).length : Int) } : WS).setL o v := by unfold WS.setL; split <;> rfl
 have ea : (s.setL o v).at' = s.at' := setL_at s o v
 simp only [listX]
 rw [e, nextX_setL M o v 1 161 rfl, ea]
 cases nextX M 161 1 ({ s with count := (([] : List Int).length : Int) }, st) with
 | error z => rfl
 | ok y =>
   have ec : (y.1.setL o v).count = y.1.count := by unfold WS.setL; split <;> rfl
   simp only [ec]
   split
   ·rw [varsX_setL M o v _ y.1 y.2]
    rfl
   ·rfl
def EndsI {b : Nat} (M : Mode b) (w : World) (r : X ((List Int × List Int) × (WS × M.σ))) (e : Ending) (w' : World) : Prop :=
 Fr M.SB w w' ∧ match r with
  | .ok (ll, y) => e = .returned (.tuple #[]) ∧ ∃ av rv, NewL w w' av ll.1 ∧ NewL w w' rv ll.2 ∧ On M w' ({ y.1 with args := av, rets := rv }, y.2)
  | .error z => e = .panicked (viol z.1 z.2)
def After {b : Nat} (M : Mode b) (w : World) (r : X ((List Int × List Int) × (WS × M.σ))) (w1 : World) : Prop :=
 Fr M.SB w w1 ∧ ∃ ll y av rv, r = .ok (ll, y) ∧ NewL w w1 av ll.1 ∧ NewL w w1 rv ll.2 ∧ On M w1 ({ y.1 with args := av, rets := rv }, y.2)
theorem After.lies {b : Nat} {M : Mode b} {w : World} {r : X ((List Int × List Int) × (WS × M.σ))} {w1 : World} (h : After M w r w1) : ∃ s, Lies w1 b s := let ⟨_, _, y, av, rv, _, _, _, h⟩ := h; ⟨_, h.1⟩
theorem After.drew {b : Nat} {M : Mode b} {w : World} {r : X ((List Int × List Int) × (WS × M.σ))} {w1 : World} (h : After M w r w1) : After M w r w1.drew :=
 let ⟨hf, ll, y, av, rv, h1, h2, h3, h4⟩ := h; ⟨hf.drew, ll, y, av, rv, h1, h2, h3, h4.drew⟩
theorem After.ends {b : Nat} {M : Mode b} {w : World} {r : X ((List Int × List Int) × (WS × M.σ))} {w1 : World} (h : After M w r w1) : EndsI M w r (.returned (.tuple #[])) w1 := by
 obtain ⟨hf, ll, y, av, rv, rfl, h2, h3, h4⟩ := h
 exact ⟨hf, rfl, av, rv, h2, h3, h4⟩
theorem endsI_error {b : Nat} {M : Mode b} {w w' : World} {c : X ((List Int × List Int) × (WS × M.σ))} {z : Int × Int} (h : c = .error z) (hf : Fr M.SB w w') : EndsI M w c (.panicked (viol z.1 z.2)) w' := by
 subst h; exact ⟨hf, rfl⟩
def FreshOk {b : Nat} (M : Mode b) : Prop := ∀ (x : WS × M.σ) (w : World), On M w x → ∀ y, nextX M 161 1 ({ x.1 with count := 0 }, x.2) = .ok y → ∀ k, w.heap.size ≤ k → ¬ M.S k ∧ ¬ M.N k
def retX {b : Nat} (M : Mode b) (n : Nat) (c : X (WS × M.σ)) : X ((List Int × List Int) × (WS × M.σ)) :=
 thenX c fun y => thenX (listX M n [] y) fun q => .ok ((q.1, []), q.2)
theorem instr_15 {b : Nat} (M : Mode b) (hN : NextOwn M) (hO : NextOther M) (hF : FreshOk M) (x y : WS × M.σ) (w : World) (h : On M w x) (i : Nat) (hi : i ≤ 4096) (hx : nextX M 154 1 x = .ok y) (hk : y.1.op = 15) (hl0 : 0 ≤ y.1.len) (hl1 : y.1.len ≤ 4096) (nb : Bool)
 (hnames : ∀ w1, Lies w1 b y.1 → Calls Tryd.prog 67 #[.pointer (some ⟨b, 122, none⟩), .pointer (some ⟨b, 154, none⟩)] w1 fun e w' => e = .returned (.bool nb) ∧ w' = w1)
 (ha : y.1.args = nilS) (hr : y.1.rets = nilS) (n : Nat) (hR : y.1.fR = n) (hn : n ≤ 255) :
 Calls Tryd.prog 41 #[.pointer (some ⟨b, 0, none⟩), .int .i64 i] w (EndsI M w (retX M n (frontOk M true false nb i x.1.at' y))) := by
 refine askInstr_15 M hN x y w h i hi hx hk hl0 hl1 nb hnames _ (fun j w1 => match j with | 0 => Stage M w y.1 (frontOk M true false nb i x.1.at' y) w1 | 1 => After M w (retX M n (frontOk M true false nb i x.1.at' y)) w1 | _ => False)
  (fun z w1 hz hf => endsI_error (by simp only [retX, hz, thenX]) hf) ?_ ?_ ?_ ?_ ?_
 ·exact fun y' w1 hy hf hon => ⟨y', hy, hf, hon, frontOk_kept hy⟩
 ·intro j w1 hj
  match j, hj with
  | 0, hj => exact Stage.lies hj
  | 1, hj => exact After.lies hj
 ·intro j w1 hj
  match j, hj with
  | 0, hj => exact Stage.drew hj
  | 1, hj => exact After.drew hj
 ·rintro w1 ⟨y', hy', hf1, hon, hkp⟩
  refine ownResults_any 159 n y'.1 w1 hon.1 (by rw [hkp.fR, hR]) _ ?_
  refine (list_new M hN hO 159 n (Or.inl rfl) y' w1 hon (by unfold WS.getL; rw [if_pos rfl, hkp.args, ha]) hn (hF y' w1 hon)).mono ?_
  rintro e w2 ⟨hf2, hres⟩
  cases hl : listX M n [] y' with
  | error z =>
    simp only [hl] at hres
    subst hres
    exact ⟨Or.inr ⟨_, rfl⟩, Or.inr ⟨_, rfl, endsI_error (by simp only [retX, hy', thenX, hl]) (hf1.trans hf2)⟩⟩
  | ok q =>
    obtain ⟨vs, y2⟩ := q
    simp only [hl] at hres
    obtain ⟨rfl, av, hnew, hon2⟩ := hres
    have k2 := hkp.trans (listX_kept hl)
    have hy2 : y2.1.setL 159 av = { y2.1 with args := av, rets := nilS } := by
     have : y2.1.rets = nilS := by rw [k2.rets, hr]
     unfold WS.setL; rw [if_pos rfl, ← this]
    refine ⟨Or.inl rfl, Or.inl ⟨rfl, hf1.trans hf2, (vs, []), y2, av, nilS, ?_, hnew.mono hf1.size, Or.inl ⟨rfl, rfl⟩, ?_⟩⟩
    ·simp only [retX, hy', thenX, hl]
    ·rw [← hy2]; exact hon2
 ·exact fun w1 hw1 => After.ends hw1
def calleePart {b : Nat} (M : Mode b) (nf : Nat) (x : WS × M.σ) : X (WS × M.σ) := askX M 158 2 (fun s => decide (0 ≤ s.n ∧ s.n ≤ IntKind.i64.wrap ((nf : Int) - 1))) 14 x
def callX {b : Nat} (M : Mode b) (heads : List (Nat × Nat)) (c : X (WS × M.σ)) : X ((List Int × List Int) × (WS × M.σ)) :=
 thenX (thenX c (calleePart M heads.length)) fun y =>
  thenX (listX M ((heads.getD y.1.n.toNat (0, 0)).1) [] y) fun q =>
   thenX (listX M ((heads.getD y.1.n.toNat (0, 0)).2) [] q.2) fun q' => .ok ((q.1, q'.1), q'.2)
def Mid {b : Nat} (M : Mode b) (w : World) (heads : List (Nat × Nat)) (s0 : WS) (c : X (WS × M.σ)) (w1 : World) : Prop :=
 Fr M.SB w w1 ∧ ∃ y vs y2 av, thenX c (calleePart M heads.length) = .ok y ∧ listX M ((heads.getD y.1.n.toNat (0, 0)).1) [] y = .ok (vs, y2) ∧ NewL w w1 av vs ∧ On M w1 (y2.1.setL 159 av, y2.2) ∧ Kept s0 y2.1 ∧ y2.1.n = y.1.n ∧ 0 ≤ y.1.n ∧ y.1.n < heads.length
theorem listX_n {b : Nat} {M : Mode b} {n : Nat} {l vs : List Int} {x y : WS × M.σ} (h : listX M n l x = .ok (vs, y)) : y.1.n = x.1.n := by
 have h1 : ∀ {old v : Int} {x y : WS × M.σ}, oneX M old x = .ok (v, y) → y.1.n = x.1.n := by
  intro old v x y h
  unfold oneX at h
  split at h
  ·split at h
   ·cases h; rfl
   ·cases h
  ·cases h
 have h2 : ∀ (l : List Int) {x : WS × M.σ} {vs : List Int} {y : WS × M.σ}, varsX M l x = .ok (vs, y) → y.1.n = x.1.n := by
  intro l
  induction l with
  | nil => intro x vs y h; simp only [varsX, Except.ok.injEq, Prod.mk.injEq] at h; rw [← h.2]
  | cons old r ih =>
    intro x vs y h
    simp only [varsX] at h
    split at h
    ·cases h
    ·rename_i v y1 hh
     split at h
     ·cases h
     ·rename_i vs' y' hv
      simp only [Except.ok.injEq, Prod.mk.injEq] at h
      rw [← h.2, ih hv, h1 hh]
 unfold listX at h
 split at h
 ·cases h
 ·rename_i y' hy
  split at h
  ·rw [h2 _ h]
   obtain ⟨v, st, rfl⟩ := nextX_num hy
   rfl
  ·cases h
theorem instr_11 {b : Nat} (M : Mode b) (hN : NextOwn M) (hO : NextOther M) (hF : FreshOk M) (x y : WS × M.σ) (w : World) (h : On M w x) (i : Nat) (hi : i ≤ 4096) (hx : nextX M 154 1 x = .ok y) (hk : y.1.op = 11) (hl0 : 0 ≤ y.1.len) (hl1 : y.1.len ≤ 4096) (nb : Bool)
 (hnames : ∀ w1, Lies w1 b y.1 → Calls Tryd.prog 67 #[.pointer (some ⟨b, 90, none⟩), .pointer (some ⟨b, 154, none⟩)] w1 fun e w' => e = .returned (.bool nb) ∧ w' = w1)
 (ha : y.1.args = nilS) (hr : y.1.rets = nilS) (heads : List (Nat × Nat)) (fb fo fc : Nat) (hfu : y.1.funcs = .slice (some ⟨fb, fo, none⟩) heads.length fc) (hH : HeadsAt w fb fo heads) (hfb : fb ≠ b) (hfS : ¬ M.S fb) (hflt : fb < w.heap.size) (hnf : heads.length ≤ 65535) (hSnew : ∀ k, w.heap.size ≤ k → ¬ M.S k) :
 Calls Tryd.prog 41 #[.pointer (some ⟨b, 0, none⟩), .int .i64 i] w (EndsI M w (callX M heads (frontOk M false false nb i x.1.at' y))) := by
 have hSB : ¬ M.SB fb := fun h => h.elim hfb hfS
 generalize hC : frontOk M false false nb i x.1.at' y = C
 refine askInstr_11 M hN x y w h i hi hx hk hl0 hl1 nb hnames _ (fun j w1 => match j with | 0 => Stage M w y.1 C w1 | 1 => Stage M w y.1 (thenX C (calleePart M heads.length)) w1 | 2 => Mid M w heads y.1 C w1 | 3 => After M w (callX M heads C) w1 | _ => False)
  (fun z w1 hz hf => endsI_error (by rw [← hC, hz]; rfl) hf) ?_ ?_ ?_ ?_ ?_ ?_ ?_
 ·exact fun y' w1 hy hf hon => ⟨y', hC ▸ hy, hf, hon, frontOk_kept hy⟩
 ·intro j w1 hj
  match j, hj with
  | 0, hj => exact Stage.lies hj
  | 1, hj => exact Stage.lies hj
  | 2, hj => obtain ⟨_, _, _, _, _, _, _, _, hon, _⟩ := hj; exact ⟨_, hon.1⟩
  | 3, hj => exact After.lies hj
 ·intro j w1 hj
  match j, hj with
  | 0, hj => exact Stage.drew hj
  | 1, hj => exact Stage.drew hj
  | 2, hj => obtain ⟨hf, y1, vs, y2, av, e1, e2, e3, hon, hkk⟩ := hj; exact ⟨hf.drew, y1, vs, y2, av, e1, e2, e3, hon.drew, hkk⟩
  | 3, hj => exact After.drew hj
 ·exact fun w1 hw1 => stage_step (p := calleePart M heads.length) (fun a a' ha => askX_kept (by simp) ha) (fun z w' hz hf => endsI_error (by unfold callX; rw [hz]; rfl) hf)
   (fun yy hon hkp => callee_own M hN yy w1 hon 11 2 (by rw [hkp.op, hk]; rfl) (by omega) rfl (by omega) (by omega) _ heads.length fc (by rw [hkp.funcs, hfu])) hw1
 ·rintro w1 ⟨y', hy', hf1, hon, hkp⟩
  -- the callee is there
  have hN0 : 0 ≤ y'.1.n ∧ y'.1.n < heads.length := by
   unfold thenX at hy'
   split at hy'
   ·rename_i yc _
    unfold calleePart askX at hy'
    split at hy'
    ·split at hy'
     ·rename_i hcond
      cases hy'
      simp only [decide_eq_true_eq] at hcond
      rw [wrap_small _ (by omega) (by omega)] at hcond
      omega
     ·cases hy'
    ·cases hy'
   ·cases hy'
  obtain ⟨N, hNe⟩ := Int.eq_ofNat_of_zero_le hN0.1
  have hNlt : N < heads.length := by omega
  have hH1 := hH.fr hf1 hflt hSB N hNlt
  have hgd : heads.getD y'.1.n.toNat (0, 0) = heads[N] := by
   rw [hNe]; simp [List.getD, hNlt]
  refine calleeParams_any 159 (heads[N].1) N fb fo heads.length fc y'.1 w1 hon.1 hNe hNlt (by rw [hkp.funcs, hfu]) hH1.1 _ ?_
  refine (list_new M hN hO 159 (heads[N].1) (Or.inl rfl) y' w1.drew hon.drew (by unfold WS.getL; rw [if_pos rfl, hkp.args, ha]) (by have := hH1.2.2.1; omega) (hF y' w1.drew hon.drew)).mono ?_
  rintro e w2 ⟨hf2, hres⟩
  have hf12 : Fr M.SB w w2 := hf1.drew.trans hf2
  cases hl : listX M (heads[N].1) [] y' with
  | error z =>
    simp only [hl] at hres
    subst hres
    exact ⟨Or.inr ⟨_, rfl⟩, Or.inr ⟨_, rfl, endsI_error (by unfold callX; rw [hy']; simp only [thenX, hgd, hl]) hf12⟩⟩
  | ok q =>
    obtain ⟨vs, y2⟩ := q
    simp only [hl] at hres
    obtain ⟨rfl, av, hnew, hon2⟩ := hres
    exact ⟨Or.inl rfl, Or.inl ⟨rfl, hf12, y', vs, y2, av, hy', by rw [hgd]; exact hl, hnew.mono hf1.size, hon2, hkp.trans (listX_kept hl), listX_n hl, hN0⟩⟩
 ·rintro w1 ⟨hf1, y', vs, y2, av, hy', hl, hnew, hon, hkp, hn2, hN0⟩
  obtain ⟨N, hNe⟩ := Int.eq_ofNat_of_zero_le hN0.1
  have hNlt : N < heads.length := by omega
  have hH1 := hH.fr hf1 hflt hSB N hNlt
  have hgd : heads.getD y'.1.n.toNat (0, 0) = heads[N] := by
   rw [hNe]; simp [List.getD, hNlt]
  have hs : ∀ s : WS, s.setL 159 av = { s with args := av } := fun s => by unfold WS.setL; rw [if_pos rfl]
  refine calleeResults_any 160 (heads[N].2) N fb fo heads.length fc (y2.1.setL 159 av) w1 hon.1 (by rw [hs]; exact hn2.trans hNe) hNlt (by rw [hs]; exact hkp.funcs.trans hfu) hH1.2.1 _ ?_
  refine (list_new M hN hO 160 (heads[N].2) (Or.inr rfl) (y2.1.setL 159 av, y2.2) w1.drew hon.drew (by rw [hs]; unfold WS.getL; rw [if_neg (by omega)]; exact hkp.rets.trans hr) (by have := hH1.2.2.2; omega) (hF _ w1.drew hon.drew)).mono ?_
  rintro e w2 ⟨hf2, hres⟩
  have hf12 : Fr M.SB w w2 := hf1.drew.trans hf2
  rw [listX_setL M 159 av (heads[N].2) y2.1 y2.2] at hres
  cases hl2 : listX M (heads[N].2) [] y2 with
  | error z =>
    simp only [hl2] at hres
    subst hres
    exact ⟨Or.inr ⟨_, rfl⟩, Or.inr ⟨_, rfl, endsI_error (by unfold callX; rw [hy']; simp only [thenX, hl]; rw [hgd]; simp only [hl2]) hf12⟩⟩
  | ok q =>
    obtain ⟨vs2, y3⟩ := q
    simp only [hl2] at hres
    obtain ⟨rfl, rv, hnew2, hon3⟩ := hres
    have e3 : (y3.1.setL 159 av).setL 160 rv = { y3.1 with args := av, rets := rv } := by
     rw [hs]; unfold WS.setL; rw [if_neg (by omega)]
    refine ⟨Or.inl rfl, Or.inl ⟨rfl, hf12, (vs, vs2), y3, av, rv, ?_, hnew.fr (show Fr M.SB w1 w2 from ⟨hf2.os, hf2.tape, hf2.output, hf2.size, hf2.block⟩) ?_, hnew2.mono hf1.size, by rw [← e3]; exact hon3⟩⟩
    ·unfold callX; rw [hy']; simp only [thenX, hl]; rw [hgd]; simp only [hl2]
    ·intro k hk1 hk2 hSk
     rcases hSk with e | e
     ·have := h.1.lt; omega
     ·exact absurd e (hSnew k hk1)
 ·exact fun w1 hw1 => After.ends hw1
set_option maxRecDepth 100000
set_option maxHeartbeats 1000000
def magicL : List UInt8 := [102, 117, 103, 117, 101, 1]
theorem foldl_push (l : List UInt8) (s : ByteArray) : (l.map (fun u => (u.toNat : Int))).foldl (fun r n => r.push (UInt8.ofNat n.toNat)) s = ⟨s.data ++ l.toArray⟩ := by
 induction l generalizing s with
 | nil => simp
 | cons u r ih =>
   simp only [List.map_cons, List.foldl_cons]
   rw [ih]
   have : (s.push (UInt8.ofNat (u.toNat : Int).toNat)) = ⟨s.data.push u⟩ := by
    simp [ByteArray.push]
   rw [this]
   simp
theorem run_bytes_string (w : World) (k o c : Nat) (l : List UInt8) (h : ∀ i, (hi : i < l.length) → w.cell? ⟨k, o + i, none⟩ = some (.int .u8 l[i].toNat)) :
 (convert 27 9 (.slice (some ⟨k, o, none⟩) l.length c)).run Tryd.prog w = .ok (.string ⟨l.toArray⟩) w := by
 rw [run_convert_bytes_string w 27 9 5 _ _ _ Tryd.underlying27 (by kernel_rfl) (by kernel_rfl)]
 have hl := run_loadCells_list (P := Tryd.prog) w ⟨k, o, none⟩ ((l.map (fun u => (u.toNat : Int))).map (Value.int .u8)) (fun j v hv => by
  have hadd : (⟨k, o, none⟩ : Addr).add j = ⟨k, o + j, none⟩ := by unfold Addr.add; split <;> simp_all
  rw [hadd]
  simp only [List.getElem?_map, Option.map_eq_some_iff] at hv
  obtain ⟨n, ⟨u, hu, rfl⟩, rfl⟩ := hv
  obtain ⟨hj, rfl⟩ := List.getElem?_eq_some_iff.1 hu
  exact h j hj)
 simp only [List.length_map] at hl
 rw [run_bytesToString w ⟨k, o, none⟩ l.length c (l.map (fun u => (u.toNat : Int))) hl, foldl_push]
 simp
theorem begins_any (k o c : Nat) (bs : List UInt8) (hc : bs.length ≤ c) (hn' : bs.length ≤ 1000000000000000) (h0 : 1 ≤ bs.length) (w : World) (hk : k < w.heap.size) (hcell : ∀ i, (h : i < bs.length) → w.cell? ⟨k, o + i, none⟩ = some (.int .u8 bs[i].toNat)) :
 Calls Tryd.prog 51 #[.agg #[.slice (some ⟨k, o, none⟩) bs.length c]] w fun e w' =>
  (if bs.take 6 = magicL.take bs.length then e = .returned (.tuple #[]) else e = .panicked (viol 10 0)) ∧ w' = (w.alloc (.cells #[.slice (some ⟨k, o, none⟩) bs.length c] 61)).drew := by
 by_cases h6 : 6 < bs.length
 ·have hm : (6 : Int) < bs.length := by omega
  have e6 : magicL.take bs.length = ((⟨#[102, 117, 103, 117, 101, 1]⟩ : ByteArray).extract 0 6).toList := by
   rw [List.take_of_length_le (by simp [magicL]; omega)]; kernel_rfl
  have hcv := run_bytes_string ((w.alloc (.cells #[.slice (some ⟨k, o, none⟩) bs.length c] 61)).drew) k o c (bs.take 6) (fun i hi => by
   rw [World.cell?_drew, World.cell?_alloc_past _ _ _ hk]; simp only [List.getElem_take]; exact hcell i (by simp at hi; omega))
  rw [show (bs.take 6).length = 6 by simp; omega] at hcv
  have hs1 : ¬ ((c : Int) < 6) := by omega
  have hs2 : ¬ c = 0 := by omega
  have hs3 : (6 : Int) ≤ c := by omega
  have hcr : (w.alloc (.cells #[.slice (some ⟨k, o, none⟩) bs.length c] 61)).cell? ⟨w.heap.size, 0, none⟩ = some (.slice (some ⟨k, o, none⟩) bs.length c) := by simp
  by_cases hmg : bs.take 6 = magicL.take bs.length
  ·have hbb : (List.take 6 bs == ((⟨#[102, 117, 103, 117, 101, 1]⟩ : ByteArray).extract 0 6).toList) = true := by rw [hmg, e6]; simp
   simp only [if_pos hmg]
   clear hmg
   go_enter Tryd.func51, Tryd.ntmps51
   go_wp2_with fail
   generalize hwa : (w.alloc (.cells #[.slice (some ⟨k, o, none⟩) bs.length c] 61)) = wa at hcv hcr ⊢
   have Hwa : Hd (w.alloc (.cells #[.slice (some ⟨k, o, none⟩) bs.length c] 61) = wa) := hwa
   clear hwa
   refine wp_region_still_tail 8 mixed (by kernel_rfl) ?_
   simp only [List.take_succ_cons, List.take_zero, List.drop_succ_cons, List.drop_zero]
   repeat still_step
   refine wpStill_nil ?_
   go_wp2_with fail
   refine (must_true 10 0 _).mono ?_
   rintro e w' ⟨rfl, rfl⟩
   go_wp2_with fail
   go_end0
   exact ⟨rfl, by rw [Hwa.out]⟩
  ·have hbb : (List.take 6 bs == ((⟨#[102, 117, 103, 117, 101, 1]⟩ : ByteArray).extract 0 6).toList) = false := by
    rw [← e6]; simpa using hmg
   simp only [if_neg hmg]
   clear hmg
   go_enter Tryd.func51, Tryd.ntmps51
   go_wp2_with fail
   generalize hwa : (w.alloc (.cells #[.slice (some ⟨k, o, none⟩) bs.length c] 61)) = wa at hcv hcr ⊢
   have Hwa : Hd (w.alloc (.cells #[.slice (some ⟨k, o, none⟩) bs.length c] 61) = wa) := hwa
   clear hwa
   refine wp_region_still_tail 8 mixed (by kernel_rfl) ?_
   simp only [List.take_succ_cons, List.take_zero, List.drop_succ_cons, List.drop_zero]
   repeat still_step
   refine wpStill_nil ?_
   go_wp2_with fail
   refine (must_false 10 0 _).mono ?_
   rintro e w' ⟨rfl, rfl⟩
   go_wp2_with fail
   exact ⟨rfl, rfl, by rw [Hwa.out]⟩
 ·have hm : ((bs.length : Nat) : Int) ≤ 6 := by omega
  have h6' : bs.length ≤ 6 := by omega
  have e6 : magicL.take bs.length = ((⟨#[102, 117, 103, 117, 101, 1]⟩ : ByteArray).extract 0 bs.length).toList := by
   have : ∀ n, n ≤ 6 → magicL.take n = ((⟨#[102, 117, 103, 117, 101, 1]⟩ : ByteArray).extract 0 n).toList := by
    intro n hn
    have : n = 0 ∨ n = 1 ∨ n = 2 ∨ n = 3 ∨ n = 4 ∨ n = 5 ∨ n = 6 := by omega
    have t0 : magicL.take 0 = ((⟨#[102, 117, 103, 117, 101, 1]⟩ : ByteArray).extract 0 0).toList := by kernel_rfl
    have t1 : magicL.take 1 = ((⟨#[102, 117, 103, 117, 101, 1]⟩ : ByteArray).extract 0 1).toList := by kernel_rfl
    have t2 : magicL.take 2 = ((⟨#[102, 117, 103, 117, 101, 1]⟩ : ByteArray).extract 0 2).toList := by kernel_rfl
    have t3 : magicL.take 3 = ((⟨#[102, 117, 103, 117, 101, 1]⟩ : ByteArray).extract 0 3).toList := by kernel_rfl
    have t4 : magicL.take 4 = ((⟨#[102, 117, 103, 117, 101, 1]⟩ : ByteArray).extract 0 4).toList := by kernel_rfl
    have t5 : magicL.take 5 = ((⟨#[102, 117, 103, 117, 101, 1]⟩ : ByteArray).extract 0 5).toList := by kernel_rfl
    have t6 : magicL.take 6 = ((⟨#[102, 117, 103, 117, 101, 1]⟩ : ByteArray).extract 0 6).toList := by kernel_rfl
    rcases this with rfl | rfl | rfl | rfl | rfl | rfl | rfl
    ·exact t0
    ·exact t1
    ·exact t2
    ·exact t3
    ·exact t4
    ·exact t5
    ·exact t6
   exact this _ h6'
  have hcv := run_bytes_string ((w.alloc (.cells #[.slice (some ⟨k, o, none⟩) bs.length c] 61)).drew) k o c (bs.take 6) (fun i hi => by
   rw [World.cell?_drew, World.cell?_alloc_past _ _ _ hk]; simp only [List.getElem_take]; exact hcell i (by simp at hi; omega))
  rw [show (bs.take 6).length = bs.length by simp; omega] at hcv
  have hs1 : ¬ ((c : Int) < bs.length) := by omega
  have hs2 : ¬ c = 0 := by omega
  have hs3 : (bs.length : Int) ≤ c := by omega
  have hcr : (w.alloc (.cells #[.slice (some ⟨k, o, none⟩) bs.length c] 61)).cell? ⟨w.heap.size, 0, none⟩ = some (.slice (some ⟨k, o, none⟩) bs.length c) := by simp
  by_cases hmg : bs.take 6 = magicL.take bs.length
  ·have hbb : (List.take 6 bs == ((⟨#[102, 117, 103, 117, 101, 1]⟩ : ByteArray).extract 0 bs.length).toList) = true := by rw [hmg, e6]; simp
   simp only [if_pos hmg]
   clear hmg
   go_enter Tryd.func51, Tryd.ntmps51
   go_wp2_with fail
   generalize hwa : (w.alloc (.cells #[.slice (some ⟨k, o, none⟩) bs.length c] 61)) = wa at hcv hcr ⊢
   have Hwa : Hd (w.alloc (.cells #[.slice (some ⟨k, o, none⟩) bs.length c] 61) = wa) := hwa
   clear hwa
   refine wp_region_still_tail 8 mixed (by kernel_rfl) ?_
   simp only [List.take_succ_cons, List.take_zero, List.drop_succ_cons, List.drop_zero]
   repeat still_step
   refine wpStill_nil ?_
   go_wp2_with fail
   refine (must_true 10 0 _).mono ?_
   rintro e w' ⟨rfl, rfl⟩
   go_wp2_with fail
   go_end0
   exact ⟨rfl, by rw [Hwa.out]⟩
  ·have hbb : (List.take 6 bs == ((⟨#[102, 117, 103, 117, 101, 1]⟩ : ByteArray).extract 0 bs.length).toList) = false := by
    rw [← e6]; simpa using hmg
   simp only [if_neg hmg]
   clear hmg
   go_enter Tryd.func51, Tryd.ntmps51
   go_wp2_with fail
   generalize hwa : (w.alloc (.cells #[.slice (some ⟨k, o, none⟩) bs.length c] 61)) = wa at hcv hcr ⊢
   have Hwa : Hd (w.alloc (.cells #[.slice (some ⟨k, o, none⟩) bs.length c] 61) = wa) := hwa
   clear hwa
   refine wp_region_still_tail 8 mixed (by kernel_rfl) ?_
   simp only [List.take_succ_cons, List.take_zero, List.drop_succ_cons, List.drop_zero]
   repeat still_step
   refine wpStill_nil ?_
   go_wp2_with fail
   refine (must_false 10 0 _).mono ?_
   rintro e w' ⟨rfl, rfl⟩
   go_wp2_with fail
   exact ⟨rfl, rfl, by rw [Hwa.out]⟩
set_option maxRecDepth 100000
set_option maxHeartbeats 1000000
theorem heap_new (w : World) (o : Obj) : (w.alloc o).heap[w.heap.size]? = some o := (MapKept.heap_alloc w o).1
theorem heap_lt {w : World} {k : Nat} {o : Obj} (h : w.heap[k]? = some o) : k < w.heap.size := (Array.getElem?_eq_some_iff.1 h).1
theorem cell_of {w : World} {k : Nat} {cs : Array Value} {t : TypeId} (h : w.heap[k]? = some (.cells cs t)) (o : Nat) : w.cell? ⟨k, o, none⟩ = cs[o]? := by
 unfold World.cell?; rw [h]; simp
theorem frozen_of {w : World} {k : Nat} {cs : Array Value} {t : TypeId} (h : w.heap[k]? = some (.cells cs t)) (o : Nat) : w.frozen? ⟨k, o, none⟩ = false := by
 unfold World.frozen?; rw [h]; simp
theorem set_of {w : World} {k : Nat} {cs : Array Value} {t : TypeId} (h : w.heap[k]? = some (.cells cs t)) (o : Nat) (v : Value) : (w.setCell ⟨k, o, none⟩ v).heap[k]? = some (.cells (cs.setIfInBounds o v) t) := by
 unfold World.setCell
 simp only [Array.getElem?_modify]
 rw [if_pos trivial, h]
 rfl
theorem Fr.then {S S' : Nat → Prop} {a b c : World} (h : Fr S a b) (k : Fr S' b c) (hs : ∀ j, j < a.heap.size → S' j → S j) : Fr S a c :=
 ⟨k.os.trans h.os, k.tape.trans h.tape, k.output.trans h.output, Nat.le_trans h.size k.size, fun j hj hS => (k.block j (Nat.lt_of_lt_of_le hj h.size) (fun e => hS (hs j hj e))).trans (h.block j hj hS)⟩
theorem setCell_fr (w : World) (k o : Nat) (u : Value) : Fr (fun j => j = k) w (w.setCell ⟨k, o, none⟩ u) := Fr.setCell (S := fun j => j = k) (Fr.refl _ w) _ _ (Or.inl rfl)
def Rws (w : World) (t sz g m : Nat) (R : Nat → List Value) : Prop := ∃ cs : Array Value, w.heap[g]? = some (.cells cs t) ∧ cs.size = m * sz ∧ ∀ i o, i < m → o < sz → cs[i * sz + o]? = some ((R i).getD o undef)
theorem Rws.lt {w : World} {t sz g m : Nat} {R : Nat → List Value} (h : Rws w t sz g m R) : g < w.heap.size := by obtain ⟨cs, h, -⟩ := h; exact heap_lt h
theorem Rws.cell {w : World} {t sz g m : Nat} {R : Nat → List Value} (h : Rws w t sz g m R) {i o : Nat} (hi : i < m) (ho : o < sz) : w.cell? ⟨g, i * sz + o, none⟩ = some ((R i).getD o undef) := by
 obtain ⟨cs, h, -, hc⟩ := h; rw [cell_of h]; exact hc i o hi ho
theorem Rws.frozen {w : World} {t sz g m : Nat} {R : Nat → List Value} (h : Rws w t sz g m R) (q : Nat) : w.frozen? ⟨g, q, none⟩ = false := by
 obtain ⟨cs, h, -⟩ := h; exact frozen_of h q
theorem Rws.fr {S : Nat → Prop} {w w' : World} {t sz g m : Nat} {R : Nat → List Value} (h : Rws w t sz g m R) (f : Fr S w w') (hS : ¬ S g) : Rws w' t sz g m R := by
 have hl := h.lt
 obtain ⟨cs, h, h2⟩ := h; exact ⟨cs, (f.block g hl hS).trans h, h2⟩
theorem Rws.congr {w : World} {t sz g m : Nat} {R R' : Nat → List Value} (h : Rws w t sz g m R) (e : ∀ i, i < m → R i = R' i) : Rws w t sz g m R' := by
 obtain ⟨cs, h, h2, h3⟩ := h
 exact ⟨cs, h, h2, fun i o hi ho => by rw [h3 i o hi ho, e i hi]⟩
def at1 {α : Type} (f : Nat → α) (i : Nat) (x : α) : Nat → α := fun j => if j = i then x else f j
theorem at1_self {α : Type} (f : Nat → α) (i : Nat) (x : α) : at1 f i x i = x := if_pos rfl
theorem at1_ne {α : Type} (f : Nat → α) {i j : Nat} (x : α) (h : j ≠ i) : at1 f i x j = f j := if_neg h
theorem at1_at1 {α : Type} (f : Nat → α) (i : Nat) (x y : α) : at1 (at1 f i x) i y = at1 f i y := by
 funext j; unfold at1; split <;> rfl
theorem row_index {sz i j o q : Nat} (ho : o < sz) (hq : q < sz) (h : i * sz + o = j * sz + q) : i = j ∧ o = q := by
 have e1 : (i * sz + o) / sz = i := by rw [Nat.mul_comm, Nat.mul_add_div (by omega), Nat.div_eq_of_lt ho]; rfl
 have e2 : (j * sz + q) / sz = j := by rw [Nat.mul_comm, Nat.mul_add_div (by omega), Nat.div_eq_of_lt hq]; rfl
 have : i = j := by rw [← e1, ← e2, h]
 subst this
 exact ⟨rfl, by omega⟩
theorem Rws.set1 {w : World} {t sz g m : Nat} {R : Nat → List Value} (h : Rws w t sz g m R) {i o : Nat} (hi : i < m) (ho : o < sz) (hl : (R i).length = sz) (v : Value) : Rws (w.setCell ⟨g, i * sz + o, none⟩ v) t sz g m (at1 R i ((R i).set o v)) := by
 obtain ⟨cs, h, h2, h3⟩ := h
 have hlt : i * sz + o < m * sz := by
  have : (i + 1) * sz ≤ m * sz := Nat.mul_le_mul_right _ hi
  rw [Nat.add_mul] at this; omega
 refine ⟨cs.setIfInBounds (i * sz + o) v, set_of h _ v, by simpa using h2, fun j q hj hq => ?_⟩
 rw [Array.getElem?_setIfInBounds]
 by_cases e : i * sz + o = j * sz + q
 ·obtain ⟨rfl, rfl⟩ := row_index ho hq e
  rw [if_pos rfl, if_pos (by omega), at1_self]
  simp [List.getD_eq_getElem?_getD, hl, ho]
 ·rw [if_neg e, h3 j q hj hq]
  by_cases ej : j = i
  ·subst ej
   have : o ≠ q := fun eo => e (by rw [eo])
   rw [at1_self]
   simp [List.getD_eq_getElem?_getD, List.getElem?_set_ne this]
  ·rw [at1_ne _ _ ej]
def IA (w : World) (v : Value) (l : List Int) : Prop :=
 ∃ a c, v = .slice a l.length c ∧ (l ≠ [] → ∃ k o, a = some ⟨k, o, none⟩ ∧ k < w.heap.size ∧ ∀ j (h : j < l.length), w.cell? ⟨k, o + j, none⟩ = some (vI l[j]))
theorem IA.fr {S : Nat → Prop} {w w' : World} {v : Value} {l : List Int} (h : IA w v l) (f : Fr S w w') (hS : ∀ k, v.ownBlock = some k → ¬ S k) : IA w' v l := by
 obtain ⟨a, c, rfl, h⟩ := h
 refine ⟨a, c, rfl, fun hne => ?_⟩
 obtain ⟨k, o, rfl, hk, hc⟩ := h hne
 exact ⟨k, o, rfl, Nat.lt_of_lt_of_le hk f.size, fun j hj => (f.cell hk (hS k rfl)).trans (hc j hj)⟩
theorem IA.stay {w w' : World} {v : Value} {l : List Int} (h : IA w v l) (f : Fr (fun _ => False) w w') : IA w' v l := h.fr f (fun _ _ e => e)
def wideI (l : List Int) (i : Nat) : Int := if i < l.length then l.getD i 0 else -123456
def WI (w : World) (B : Nat) (v : Value) (l : List Int) : Prop := ∃ g, v = .slice (some ⟨g, 0, none⟩) l.length (l.length + 64) ∧ B ≤ g ∧ Rws w 3 1 g (l.length + 64) (fun i => [vI (wideI l i)])
theorem WI.fr {S : Nat → Prop} {w w' : World} {B : Nat} {v : Value} {l : List Int} (h : WI w B v l) (f : Fr S w w') (hS : ∀ k, v.ownBlock = some k → ¬ S k) : WI w' B v l := by
 obtain ⟨g, rfl, h1, h2⟩ := h
 exact ⟨g, rfl, h1, h2.fr f (hS g rfl)⟩
theorem WI.mono {w : World} {B B' : Nat} {v : Value} {l : List Int} (h : WI w B v l) (hB : B' ≤ B) : WI w B' v l := by
 obtain ⟨g, rfl, h1, h2⟩ := h
 exact ⟨g, rfl, by omega, h2⟩
theorem WI.ia {w : World} {B : Nat} {v : Value} {l : List Int} (h : WI w B v l) : IA w v l := by
 obtain ⟨g, rfl, h1, h2⟩ := h
 refine ⟨_, _, rfl, fun _ => ⟨g, 0, rfl, h2.lt, fun j hj => ?_⟩⟩
 have := h2.cell (i := j) (o := 0) (by omega) (by omega)
 rw [Nat.mul_one, Nat.add_zero] at this
 rw [Nat.zero_add, this]
 simp [wideI, hj]
theorem WI.ge {w : World} {B : Nat} {v : Value} {l : List Int} (h : WI w B v l) : ∀ k, v.ownBlock = some k → B ≤ k ∧ k < w.heap.size := by
 obtain ⟨g, rfl, h1, h2⟩ := h
 intro k e; cases e; exact ⟨h1, h2.lt⟩
theorem under64 : Tryd.prog.underlying 55 = some (.slice 3) := by kernel_rfl
theorem make64 (n : Nat) (hn : n ≤ 20000000000000) (w : World) : (Instr.makeSlice 55 (.int .i64 n) (.int .i64 n)).run Tryd.prog w = .ok (.slice (some ⟨w.heap.size, 0, none⟩) n n) (w.alloc (.cells (Array.replicate n (vI 0)) 3)) := by
 rw [run_make_of 55 3 (vI 0) 1 8 under64 (by kernel_rfl) (by kernel_rfl) (by kernel_rfl) n (by omega) (by omega) w, Nat.mul_one]
 congr 2
 congr 1
 unfold madeCells
 apply Array.ext
 ·simp
 ·intro i h1 h2
  simp [Nat.mod_one, Value.cells]
theorem Rws.made (w : World) (t m : Nat) (v : Value) : Rws (w.alloc (.cells (Array.replicate m v) t)) t 1 w.heap.size m (fun _ => [v]) :=
 ⟨_, heap_new w _, by simp, fun i o hi ho => by
  obtain rfl : o = 0 := by omega
  rw [Nat.mul_one, Nat.add_zero]
  simp [Array.getElem?_replicate, hi]⟩
theorem wideInts_any (v : Value) (l : List Int) (w : World) (hl : IA w v l) (hn : l.length ≤ 17592186043904) : Calls Tryd.prog 53 #[v] w fun e w' => ∃ v', e = .returned v' ∧ WI w' w.heap.size v' l ∧ Fr (fun _ => False) w w' := by
 obtain ⟨a, c, rfl, h0⟩ := hl
 have H0 : Hd _ := h0
 clear h0
 obtain ⟨n, hnl⟩ : ∃ n, n = l.length := ⟨_, rfl⟩
 have HN : Hd (n = l.length) := hnl
 rw [← hnl] at hn ⊢
 clear hnl
 have hmk := make64 (n + 64) (by omega) w
 have hcast : ((n + 64 : Nat) : Int) = (n : Int) + 64 := by omega
 rw [hcast] at hmk
 have HR : Hd (Rws (w.alloc (.cells (Array.replicate (n + 64) (vI 0)) 3)) 3 1 w.heap.size (n + 64) (fun i => [vI (if i < 0 then wideI l i else 0)])) := (Rws.made w 3 (n + 64) (vI 0)).congr (fun i _ => by simp)
 have HF : Hd (Fr (fun _ => False) w (w.alloc (.cells (Array.replicate (n + 64) (vI 0)) 3))) := Fr.alloc (Fr.refl _ w) _
 obtain ⟨g, hg⟩ : ∃ g, g = w.heap.size := ⟨_, rfl⟩
 have HG : Hd (g = w.heap.size) := hg
 rw [← hg] at hmk HR
 clear hg
 go_enter Tryd.func53, Tryd.ntmps53
 go_wp2_with fail
 go_loopw [4] (fun v wr => ∃ (k : Nat), v = .int .i64 k ∧ k ≤ n + 64 ∧ Hd (Rws wr 3 1 g (n + 64) (fun i => [vI (if i < k then wideI l i else 0)])) ∧ Hd (Fr (fun _ => False) w wr)) (fun v _ => match v with | .int _ q => n + 64 - q.toNat | _ => 0)
 case atStart => exact ⟨0, rfl, Nat.zero_le _, HR.out, HF.out⟩
 case round =>
  clear HR HF
  obtain ⟨k, rfl, hk, HR, HF⟩ := hrel
  by_cases hlt : k < n + 64
  ·have hk0 : (0 : Int) ≤ k := by omega
   have hk1 : (k : Int) < (n : Int) + 64 := by omega
   have p0 := HR.out.cell (i := k) (o := 0) hlt (by omega)
   rw [Nat.mul_one, Nat.add_zero] at p0
   have z0 := HR.out.frozen k
   have HS : Hd (∀ x : Int, Rws (wr.setCell ⟨g, k, none⟩ (vI x)) 3 1 g (n + 64) (at1 (fun i => [vI (if i < k then wideI l i else 0)]) k [vI x])) := fun x => by
    have := HR.out.set1 (i := k) (o := 0) hlt (by omega) rfl (vI x)
    rw [Nat.mul_one, Nat.add_zero] at this
    exact this
   have HFS : Hd (∀ x : Int, Fr (fun _ => False) w (wr.setCell ⟨g, k, none⟩ (vI x))) := fun x => HF.out.setCell _ _ (Or.inr (by rw [HG.out]; exact Nat.le_refl _))
   by_cases hin : k < n
   ·have hk2 : (k : Int) < n := by omega
    have d1 : decide ((k : Int) < n) = true := by simpa using hk2
    obtain ⟨ak, ao, rfl, hak, hcells⟩ := H0.out (by intro e; have := HN.out; simp [e] at this; omega)
    have q0 := (HF.out.cell (o := ao + k) hak (fun e => e)).trans (hcells k (by have := HN.out; omega))
    have hne : g ≠ ak := by have := HG.out; omega
    have HX : Hd (wideI l k = l[k]'(by have := HN.out; omega)) := by
     unfold Hd wideI
     rw [if_pos (by have := HN.out; omega)]
     simp [show k < l.length by have := HN.out; omega]
    generalize l[k]'(by have := HN.out; omega) = x at *
    have q1 : (wr.setCell ⟨g, k, none⟩ (vI (-123456))).cell? ⟨ak, ao + k, none⟩ = some (vI x) := by rw [World.cell?_setCell_other _ _ _ _ (by simp <;> omega)]; exact q0
    have q2 : (wr.setCell ⟨g, k, none⟩ (vI (-123456))).cell? ⟨g, k, none⟩ = some (vI (-123456)) := World.cell?_setCell_same' _ _ _ (by rw [p0]; rfl)
    have z1 := (HS.out (-123456)).frozen k
    have HR2 : Hd (Rws ((wr.setCell ⟨g, k, none⟩ (vI (-123456))).setCell ⟨g, k, none⟩ (vI x)) 3 1 g (n + 64) (fun i => [vI (if i < k + 1 then wideI l i else 0)])) := by
     have := (HS.out (-123456)).set1 (i := k) (o := 0) hlt (by omega) (by rw [at1_self]; rfl) (vI x)
     rw [Nat.mul_one, Nat.add_zero, at1_self, at1_at1] at this
     refine this.congr (fun i _ => ?_)
     by_cases e : i = k
     ·subst e; rw [at1_self, if_pos (by omega), HX.out]; rfl
     ·rw [at1_ne _ _ e]
      by_cases hi : i < k
      ·rw [if_pos hi, if_pos (by omega)]
      ·rw [if_neg hi, if_neg (by omega)]
    have HF2 : Hd (Fr (fun _ => False) w ((wr.setCell ⟨g, k, none⟩ (vI (-123456))).setCell ⟨g, k, none⟩ (vI x))) := (HFS.out (-123456)).setCell _ _ (Or.inr (by rw [HG.out]; exact Nat.le_refl _))
    clear hcells HS HFS HR HF
    go_wp2_with fail
    exact ⟨⟨k + 1, by simp, by omega, HR2.out, HF2.out⟩, by simp; omega⟩
   ·have d1 : decide ((k : Int) < n) = false := by simp; omega
    have HR2 : Hd (Rws (wr.setCell ⟨g, k, none⟩ (vI (-123456))) 3 1 g (n + 64) (fun i => [vI (if i < k + 1 then wideI l i else 0)])) := by
     refine (HS.out (-123456)).congr (fun i _ => ?_)
     by_cases e : i = k
     ·subst e; rw [at1_self, if_pos (by omega)]; unfold wideI; rw [if_neg (by have := HN.out; omega)]
     ·rw [at1_ne _ _ e]
      by_cases hi : i < k
      ·rw [if_pos hi, if_pos (by omega)]
      ·rw [if_neg hi, if_neg (by omega)]
    have HF2 := HFS
    clear HS HR HF
    go_wp2_with fail
    exact ⟨⟨k + 1, by simp, by omega, HR2.out, HF2.out _⟩, by simp; omega⟩
  ·have hke : k = n + 64 := by omega
   subst hke
   have HE : Hd (WI wr w.heap.size (.slice (some ⟨g, 0, none⟩) n (n + 64)) l) := by
    refine ⟨g, by rw [← HN.out], by rw [HG.out]; exact Nat.le_refl _, ?_⟩
    rw [← HN.out]
    exact HR.out.congr (fun i hi => by rw [if_pos hi])
   have hn0 : (0 : Int) ≤ n := by omega
   have hn1 : (n : Int) ≤ (n : Int) + 64 := by omega
   go_wp2_with fail
   go_ret
   exact ⟨_, rfl, HE.out, HF.out⟩
end Go.Proofs.YtingenonbkencabDoor
