import Derived.Test.YtingenonbkencaaDoorQYf
import Derived.Test.YtingenonbkencaaDoorQK9J
import Derived.Test.YtingenonbkencaaDoorQLbJ
set_option linter.unusedVariables false
set_option linter.unusedSimpArgs false
namespace Go.Proofs.YtingenonbkencaaDoor
open Go.RowKit (wrap32 wrap64)
abbrev HT := Int × Int × Int × Int
def fourD (bs : List UInt8) (s : DS) : HT × DS :=
 let t1 := thingD bs 1 s
 let t2 := thingD bs 1 t1.2
 let t3 := thingD bs 1 t2.2
 let t4 := thingD bs 2 t3.2
 ((t1.1, t2.1, t3.1, t4.1), t4.2)
def askH (h : HT) (fr : Int) (t : DS) : DS :=
 if t.E = 0 then { t with L := headL h.1 h.2.1 h.2.2.1 h.2.2.2 t.L 0, E := headE h.1 h.2.1 h.2.2.1 h.2.2.2 t.L 0, o := toldO true (headE h.1 h.2.1 h.2.2.1 h.2.2.2 t.L 0) fr t.o } else t
def headD (bs : List UInt8) (s : DS) : HT × DS :=
 if bs.length < s.p + 5 then ((0, 0, 0, 0), { s with E := 11, o := (bs.length : Nat) })
 else ((fourD bs s).1, askH (fourD bs s).1 s.p (fourD bs s).2)
def calP (hs : List HT) (n : Int) : Int := (hs[n.toNat]?.map (·.1)).getD 0
def calR (hs : List HT) (n : Int) : Int := (hs[n.toNat]?.map (·.2.1)).getD 0
def numS (u : UInt8) : Nat := if u = 105 then 8 else if u = 70 ∨ u = 74 then 2 else 1
def numW (G nf fl : Int) (u : UInt8) (v E : Int) : Int :=
 if u = 99 then mustE (numB 1 9 v) 17 E else if u = 102 then mustE (numB 0 8 v) 17 E else if u = 103 then mustE (numB 0 G v) 18 E
 else if u = 70 then mustE (numB 0 nf v) 14 E else if u = 74 then mustE (numB 0 fl v) 16 E else E
def letD (bs : List UInt8) (G : Int) (hs : List HT) (R V fl : Int) (u : UInt8) (x : PI × DS) : PI × DS :=
 if u = 82 then ({ x.1 with r := (varD bs V x.2).1 }, (varD bs V x.2).2)
 else if u = 83 then ({ x.1 with s := (varD bs V x.2).1 }, (varD bs V x.2).2)
 else if u = 84 then ({ x.1 with t := (varD bs V x.2).1 }, (varD bs V x.2).2)
 else if u = 65 then ({ x.1 with args := (listD bs V (calP hs x.1.n) x.2).1 }, (listD bs V (calP hs x.1.n) x.2).2)
 else if u = 66 then ({ x.1 with rets := (listD bs V (calR hs x.1.n) x.2).1 }, (listD bs V (calR hs x.1.n) x.2).2)
 else if u = 86 then ({ x.1 with args := (listD bs V R x.2).1 }, (listD bs V R x.2).2)
 else ({ x.1 with n := (numD bs (numS u) (numW G hs.length fl u) x.2).1 }, (numD bs (numS u) (numW G hs.length fl u) x.2).2)
def letS (bs : List UInt8) (G : Int) (hs : List HT) (R V fl : Int) (x : PI × DS) (u : UInt8) : PI × DS :=
 if x.2.E = 0 then letD bs G hs R V fl u x else x
def opD (bs : List UInt8) (last : Bool) (s : DS) : PI × DS :=
 (⟨(thingD bs 1 s).1, 0, 0, 0, 0, [], []⟩,
  if (thingD bs 1 s).2.E = 0 then { (thingD bs 1 s).2 with L := opL (thingD bs 1 s).1 (thingD bs 1 s).2.L, E := opE (thingD bs 1 s).1 true last (thingD bs 1 s).2.L 0, o := toldO true (opE (thingD bs 1 s).1 true last (thingD bs 1 s).2.L 0) (thingD bs 1 s).2.q (thingD bs 1 s).2.o } else (thingD bs 1 s).2)
def instrD (bs : List UInt8) (G : Int) (hs : List HT) (R V fl : Int) (last : Bool) (s : DS) : PI × DS :=
 (partsN (opD bs last s).1.op.toNat).toList.foldl (letS bs G hs R V fl) (opD bs last s)
def codeD (bs : List UInt8) (G : Int) (hs : List HT) (R V fl : Int) : Nat → DS → List PI × DS
 | 0, s => ([], s)
 | m + 1, s => if s.E = 0 then ((instrD bs G hs R V fl (m == 0) s).1 :: (codeD bs G hs R V fl m (instrD bs G hs R V fl (m == 0) s).2).1, (codeD bs G hs R V fl m (instrD bs G hs R V fl (m == 0) s).2).2) else ([], s)
def headsD (bs : List UInt8) : Nat → DS → List HT × DS
 | 0, s => ([], s)
 | m + 1, s => if s.E = 0 then ((headD bs s).1 :: (headsD bs m (headD bs s).2).1, (headsD bs m (headD bs s).2).2) else ([], s)
def funcsD (bs : List UInt8) (G : Int) (hs : List HT) : List HT → DS → List (List PI) × DS
 | [], s => ([], s)
 | h :: r, s => if s.E = 0 then ((codeD bs G hs h.2.1 h.2.2.1 h.2.2.2 h.2.2.2.toNat s).1 :: (funcsD bs G hs r (codeD bs G hs h.2.1 h.2.2.1 h.2.2.2 h.2.2.2.toNat s).2).1, (funcsD bs G hs r (codeD bs G hs h.2.1 h.2.2.1 h.2.2.2 h.2.2.2.toNat s).2).2) else ([], s)
def globD (bs : List UInt8) (s : DS) : Int × DS := ((thingD bs 1 s).1, mustD (decide ((thingD bs 1 s).1 ≤ 16)) 18 (thingD bs 1 s).2)
def manyD (bs : List UInt8) (s : DS) : Int × DS := ((thingD bs 2 s).1, mustD (decide (1 ≤ (thingD bs 2 s).1)) 20 (thingD bs 2 s).2)
def endD (bs : List UInt8) (s : DS) : DS := if s.E = 0 ∧ s.p ≠ bs.length then { s with E := 22, o := s.p } else s
def decD (bs : List UInt8) : Int × List HT × List (List PI) × DS :=
 let a := globD bs (magicD bs ⟨0, 0, 0, 0, 0⟩)
 let b := manyD bs a.2
 let c := headsD bs b.1.toNat b.2
 let d := funcsD bs a.1 c.1 c.1 c.2
 (a.1, c.1, d.1, endD bs d.2)
def Le (s t : DS) : Prop := t.L = s.L ∧ (t.E = 0 → s.E = 0)
theorem Le.refl (s : DS) : Le s s := ⟨rfl, fun h => h⟩
theorem Le.trans {s t u : DS} (h : Le s t) (k : Le t u) : Le s u := ⟨k.1.trans h.1, fun e => h.2 (k.2 e)⟩
theorem mustE_nil {ok : Bool} {er E : Int} (h : mustE ok er E = 0) : E = 0 := by
 unfold mustE at h
 by_cases hE : E = 0
 ·exact hE
 ·simp [hE] at h
theorem mustE_two {ok : Bool} {er E : Int} (he : er ≠ 0) (h : mustE ok er E = 0) : ok = true ∧ E = 0 := by
 have hE := mustE_nil h
 subst hE
 cases ok with
 | true => exact ⟨rfl, rfl⟩
 | false => exact absurd h he
theorem thingD_le (bs : List UInt8) (n : Nat) (s : DS) : Le s (thingD bs n s).2 := by
 unfold thingD
 split
 ·rename_i h
  cases rd bs s.p n with
  | ok v => exact ⟨rfl, fun _ => h⟩
  | error z => exact ⟨rfl, fun _ => h⟩
 ·exact Le.refl s
theorem mustD_le (ok : Bool) (er : Int) (s : DS) : Le s (mustD ok er s) := ⟨rfl, fun h => mustE_nil h⟩
theorem varD_le (bs : List UInt8) (V : Int) (s : DS) : Le s (varD bs V s).2 := (thingD_le bs 1 s).trans (mustD_le _ _ _)
theorem numD_le (bs : List UInt8) (sz : Nat) (NE : Int → Int → Int) (s : DS) : Le s (numD bs sz NE s).2 := by
 refine (thingD_le bs sz s).trans ?_
 unfold numD
 by_cases h : (thingD bs sz s).2.E = 0
 ·simp only [h, if_true]
  exact ⟨rfl, fun _ => h⟩
 ·simp only [h, if_false]
  exact Le.refl _
theorem varsD_le (bs : List UInt8) (V : Int) : ∀ (k : Nat) (s : DS), Le s (varsD bs V k s).2
 | 0, s => Le.refl s
 | k + 1, s => by
   unfold varsD
   split
   ·exact (varD_le bs V s).trans (varsD_le bs V k _)
   ·exact Le.refl s
theorem listD_le (bs : List UInt8) (V m : Int) (s : DS) : Le s (listD bs V m s).2 := by
 unfold listD
 split
 ·exact ((thingD_le bs 1 s).trans (mustD_le _ _ _)).trans (varsD_le bs V _ _)
 ·exact thingD_le bs 1 s
theorem letD_le (bs : List UInt8) (G : Int) (hs : List HT) (R V fl : Int) (u : UInt8) (x : PI × DS) : Le x.2 (letD bs G hs R V fl u x).2 := by
 unfold letD
 repeat' split
 all_goals first | exact varD_le _ _ _ | exact listD_le _ _ _ _ | exact numD_le _ _ _ _
theorem letS_le (bs : List UInt8) (G : Int) (hs : List HT) (R V fl : Int) (u : UInt8) (x : PI × DS) : Le x.2 (letS bs G hs R V fl x u).2 := by
 unfold letS
 split
 ·exact letD_le ..
 ·exact Le.refl _
def LowD (s : DS) : Prop := 0 ≤ s.L ∧ (s.E = 0 → s.L + 1 ≤ 1048576)
theorem LowD.le {s t : DS} (h : LowD s) (k : Le s t) : LowD t := ⟨by rw [k.1]; exact h.1, fun e => by rw [k.1]; exact h.2 (k.2 e)⟩
theorem opD_low {bs : List UInt8} {last : Bool} {s : DS} (h : LowD s) : LowD (opD bs last s).2 := by
 have h1 := h.le (thingD_le bs 1 s)
 unfold opD
 by_cases h0 : (thingD bs 1 s).2.E = 0
 ·simp only [h0, if_true]
  refine ⟨?_, fun e => ?_⟩
  ·show 0 ≤ opL (thingD bs 1 s).1 (thingD bs 1 s).2.L
   have := h1.1
   unfold opL
   split <;> omega
  ·show opL (thingD bs 1 s).1 (thingD bs 1 s).2.L + 1 ≤ 1048576
   exact of_decide_eq_true (mustE_two (by decide) e).1
 ·simp only [h0, if_false]
  exact h1
theorem foldS_le (bs : List UInt8) (G : Int) (hs : List HT) (R V fl : Int) : ∀ (l : List UInt8) (x : PI × DS), Le x.2 (l.foldl (letS bs G hs R V fl) x).2
 | [], x => Le.refl _
 | u :: l, x => (letS_le bs G hs R V fl u x).trans (foldS_le bs G hs R V fl l _)
theorem instrD_low {bs : List UInt8} {G : Int} {hs : List HT} {R V fl : Int} {last : Bool} {s : DS} (h : LowD s) : LowD (instrD bs G hs R V fl last s).2 := (opD_low h).le (foldS_le ..)
theorem headD_low {bs : List UInt8} {s : DS} (h : LowD s) : LowD (headD bs s).2 := by
 unfold headD
 split
 ·exact ⟨h.1, fun e => absurd e (show (11 : Int) ≠ 0 by decide)⟩
 ·have h1 : LowD (fourD bs s).2 := h.le (((thingD_le bs 1 s).trans (thingD_le bs 1 _)).trans ((thingD_le bs 1 _).trans (thingD_le bs 2 _)))
  have hV : 0 ≤ (fourD bs s).1.2.2.1 := thingD_byte.1
  generalize fourD bs s = x at h1 hV
  obtain ⟨⟨P, R, V, n⟩, t⟩ := x
  unfold askH
  by_cases h0 : t.E = 0
  ·simp only [h0, if_true]
   refine ⟨?_, fun e => ?_⟩
   ·show 0 ≤ headL P R V n t.L 0
    have := h1.1
    simp only at this hV
    unfold headL
    split <;> omega
   ·show headL P R V n t.L 0 + 1 ≤ 1048576
    exact of_decide_eq_true (mustE_two (by decide) e).1
  ·simp only [h0, if_false]
   exact h1
set_option maxRecDepth 100000
set_option maxHeartbeats 2000000
def st4 (w : World) (g : Nat) (a b c d : Value) : World := (((w.setCell ⟨g, 0, none⟩ a).setCell ⟨g, 1, none⟩ b).setCell ⟨g, 2, none⟩ c).setCell ⟨g, 3, none⟩ d
theorem st4_of {w : World} {g : Nat} {p q r s : Value} {t : TypeId} (h : w.heap[g]? = some (.cells #[p, q, r, s] t)) (a b c d : Value) : (st4 w g a b c d).heap[g]? = some (.cells #[a, b, c, d] t) := set_of (set_of (set_of (set_of h 0 a) 1 b) 2 c) 3 d
theorem st4_fr (w : World) (g : Nat) (a b c d : Value) : Fr (fun k => k = g) w (st4 w g a b c d) :=
 (((setCell_fr w g 0 a).trans (setCell_fr _ g 1 b)).trans (setCell_fr _ g 2 c)).trans (setCell_fr _ g 3 d)
theorem DR.apart {r rb : Nat} {a : Option Addr} {c : Nat} {bs : List UInt8} {G : Int} {fv : Value} {w w' : World} {s : DS} {g : Nat} (h : DR r rb a c bs G fv w s) (f : Fr (fun k => k = g) w w') (h1 : g ≠ r) (h2 : g ≠ rb) (h3 : ∀ k o, a = some ⟨k, o, none⟩ → bs ≠ [] → k ≠ g) : DR r rb a c bs G fv w' s := by
 refine ⟨h.rd.fr f (fun e => h1 e.symm), h.rw.fr f (fun e => h2 e.symm), ?_, h.ne, h.le⟩
 obtain ⟨hL, a', c', e, hc, hb⟩ := h.bytes
 cases e
 refine ⟨hL, a, c, rfl, hc, fun hne => ?_⟩
 obtain ⟨k, o, e2, hk, hcell⟩ := hb hne
 exact ⟨k, o, e2, Nat.lt_of_lt_of_le hk f.size, fun i hi => (f.cell hk (h3 k o e2 hne)).trans (hcell i hi)⟩
theorem DR.below {r rb : Nat} {a : Option Addr} {c : Nat} {bs : List UInt8} {G : Int} {fv : Value} {w : World} {s : DS} (h : DR r rb a c bs G fv w s) : ∀ k o, a = some ⟨k, o, none⟩ → bs ≠ [] → k < w.heap.size := by
 intro k o e hne
 obtain ⟨hL, a', c', e', hc, hb⟩ := h.bytes
 cases e'
 obtain ⟨k', o', e2, hk, -⟩ := hb hne
 rw [e] at e2
 cases e2
 exact hk
theorem results_cell2 {fn : Func} {p u : Tmp} {ty : TypeId} (h : fn.results = #[.cell p ty, .tmp u]) (tmps : Array Value) (P : Program) (w : World) :
 (results fn tmps).run P w = ((asAddr (tmps.getD p undef)).run P w).andThen fun a w₁ => ((loadVar ty a).run P w₁).andThen fun x w₂ => .ok (.tuple #[x, tmps.getD u undef]) w₂ := by
 simp only [results, h]
 simp [Sem.run_bind, Result.andThen]
theorem head_short {r rb : Nat} {a : Option Addr} {c : Nat} {bs : List UInt8} {G : Int} {fv : Value} {w : World} {s : DS} (h : DR r rb a c bs G fv w s) (hfv : ∀ z, fv ≠ .int .u8 z) (hE : s.E = 0) (hsh : bs.length < s.p + 5) :
 Calls Tryd.prog 45 #[.pointer (some ⟨r, 0, none⟩)] w fun e w' => e = .returned (.tuple #[.agg #[vI 0, vI 0, vI 0, .slice none 0 0], vI 0]) ∧ DR r rb a c bs G fv w' { s with E := 11, o := (bs.length : Nat) } ∧ Fr (fun j => j = r ∨ j = rb) w w' := by
 obtain ⟨W, HW⟩ : ∃ W, W = w.alloc (.cells #[vI 0, vI 0, vI 0, .slice none 0 0] 67) := ⟨_, rfl⟩
 have hf1 : Fr (fun _ => False) w W := by rw [HW]; exact Fr.alloc (Fr.refl _ _) _
 have hxa : W.heap[w.heap.size]? = some (.cells #[vI 0, vI 0, vI 0, .slice none 0 0] 67) := by rw [HW]; exact heap_new w _
 have h1 := h.stay hf1
 have hr : r < w.heap.size := heap_lt h.rd
 have hrb : rb < w.heap.size := heap_lt h.rw
 have HF1 : Hd (Fr (fun j => j = r ∨ j = rb) w W) := hf1.mono (fun _ _ e => e.elim)
 have H1 : Hd (DR r rb a c bs G fv W s) := h1
 obtain ⟨H, hH⟩ : ∃ H, H = w.heap.size := ⟨_, rfl⟩
 have HH : Hd (H = w.heap.size) := hH
 rw [← hH] at hxa hr hrb
 have HBA : Hd (∀ k o, a = some ⟨k, o, none⟩ → bs ≠ [] → k ≠ H) := fun k o e e2 => by have := h.below k o e e2; omega
 have HXA : Hd _ := hxa
 have hb : (s.E == 0) = true := by simpa using hE
 obtain ⟨N, hN⟩ : ∃ N, N = bs.length := ⟨_, rfl⟩
 have HN : Hd (N = bs.length) := hN
 have hNL : N ≤ 1000000000000000 := by rw [hN]; exact h1.bytes.1
 have hle : s.p ≤ N := by rw [hN]; exact h1.le
 have c0 := h1.rd.cells.1
 have c1 := h1.rd.cells.2.1
 have c2 := h1.rd.cells.2.2.1
 rw [← hN] at c1 hsh
 have hlt5 : (N : Int) - s.p < 5 := by omega
 have hw5 : wrap64 ((N : Int) - s.p) = N - s.p := w64r (by omega) (by omega)
 have hw6 : IntKind.i64.wrap ((N : Int) - s.p) = N - s.p := wrap_small _ (by omega) (by omega)
 have HOP : Hd (∀ nq, Calls Tryd.prog 44 #[.pointer (some ⟨r, 0, none⟩)] (W.drewN nq) fun e w' => e = .returned (.bool true) ∧ w' = W.drewN nq) := fun nq => by
  have := ropen_any r rb (.slice a bs.length c) G fv (W.drewN nq) s.p s.q s.o s.L s.E (h1.rd.fr (Fr.drewN (Fr.refl (fun _ => False) W) nq) (fun e => e)) (h1.rw.fr (Fr.drewN (Fr.refl (fun _ => False) W) nq) (fun e => e))
  rw [hb] at this
  exact this
 clear h h1 hf1 hN hxa
 go_enter Tryd.func45, Tryd.ntmps45
 go_upto_region 1 with fail
 rw [← HW, ← hH]
 clear HW hH
 have HDN : Hd (∀ nq, DR r rb a c bs G fv (W.drewN nq) s ∧ (W.drewN nq).heap[H]? = some (.cells #[vI 0, vI 0, vI 0, .slice none 0 0] 67) ∧ Fr (fun j => j = r ∨ j = rb) w (W.drewN nq)) := fun nq => ⟨H1.out.stay (Fr.drewN (Fr.refl (fun _ => False) W) nq), HXA.out, HF1.out.drewN nq⟩
 go_quiet ((go_at_call 44; refine Calls.quiet_of_same (HOP.out _)))
 obtain ⟨G1, X1, F1⟩ := HDN.out nq
 clear HOP HDN c0 c1 c2 H1 HXA HF1 hlt5 hw5 hw6
 generalize W.drewN nq = W2 at *
 have HG1 : Hd _ := G1
 have HX1 : Hd _ := X1
 have HF1 : Hd _ := F1
 have c0 := G1.rd.cells.1
 have c1 := G1.rd.cells.2.1
 rw [← HN.out] at c1
 have c4 := G1.rd.cells.2.2.2.2.1
 have z4 := G1.rd.cells.2.2.2.2.2.1 4
 have k3 := G1.rw.cells.2.2.2.1
 have kz := G1.rw.cells.2.2.2.2.1 3
 have hne := G1.ne
 clear G1 X1 F1
 go_upto_region 3 with fail
 have K3 : RW rb G fv (W2.setCell ⟨rb, 3, none⟩ (vI 11)) s.L 11 := RW.setE HG1.out.rw 11
 have f3 : Fr (fun j => j = rb) W2 (W2.setCell ⟨rb, 3, none⟩ (vI 11)) := setCell_fr W2 rb 3 (vI 11)
 have R3 : RD r rb (.slice a bs.length c) (W2.setCell ⟨rb, 3, none⟩ (vI 11)) s.p s.q s.o := HG1.out.rd.fr f3 (fun e => hne e.symm)
 have X3 : (W2.setCell ⟨rb, 3, none⟩ (vI 11)).heap[H]? = some (.cells #[vI 0, vI 0, vI 0, .slice none 0 0] 67) := (f3.block H (heap_lt HX1.out) (by omega)).trans HX1.out
 have HF3 : Hd (Fr (fun j => j = r ∨ j = rb) w (W2.setCell ⟨rb, 3, none⟩ (vI 11))) := HF1.out.trans (f3.mono (fun _ _ e => Or.inr e))
 have HG3 : Hd (Fr (fun j => j = r ∨ j = rb) W2 (W2.setCell ⟨rb, 3, none⟩ (vI 11))) := f3.mono (fun _ _ e => Or.inr e)
 clear c0 c1 c4 z4 k3 kz f3
 rw [show W2.setCell ⟨rb, 3, none⟩ (.int .i64 11) = W2.setCell ⟨rb, 3, none⟩ (vI 11) from rfl]
 generalize W2.setCell ⟨rb, 3, none⟩ (vI 11) = W3 at *
 have HK3 : Hd (RW rb G fv W3 s.L 11) := K3
 have HR3 : Hd (RD r rb (.slice a bs.length c) W3 s.p s.q s.o) := R3
 have HX3 : Hd _ := X3
 have c0 := R3.cells.1
 have c1 := R3.cells.2.1
 rw [← HN.out] at c1
 have c4 := R3.cells.2.2.2.2.1
 have z4 := R3.cells.2.2.2.2.2.1 4
 clear K3 R3 X3
 go_upto_region 4 with fail
 have f4 : Fr (fun j => j = r) W3 (W3.setCell ⟨r, 4, none⟩ (vI N)) := setCell_fr W3 r 4 (vI N)
 have R4 : RD r rb (.slice a bs.length c) (W3.setCell ⟨r, 4, none⟩ (vI N)) s.p s.q (bs.length : Nat) := by rw [← HN.out]; have := HR3.out.setO (N : Int); rw [← HN.out] at this; exact this
 have K4 : RW rb G fv (W3.setCell ⟨r, 4, none⟩ (vI N)) s.L 11 := HK3.out.fr f4 hne
 have X4 : (W3.setCell ⟨r, 4, none⟩ (vI N)).heap[H]? = some (.cells #[vI 0, vI 0, vI 0, .slice none 0 0] 67) := (f4.block H (heap_lt HX3.out) (by omega)).trans HX3.out
 have HF4 : Hd (Fr (fun j => j = r ∨ j = rb) w (W3.setCell ⟨r, 4, none⟩ (vI N))) := HF3.out.trans (f4.mono (fun _ _ e => Or.inl e))
 have HG4 : Hd (Fr (fun j => j = r ∨ j = rb) W2 (W3.setCell ⟨r, 4, none⟩ (vI N))) := HG3.out.trans (f4.mono (fun _ _ e => Or.inl e))
 clear c0 c1 c4 z4 f4
 rw [show W3.setCell ⟨r, 4, none⟩ (.int .i64 N) = W3.setCell ⟨r, 4, none⟩ (vI N) from rfl]
 generalize W3.setCell ⟨r, 4, none⟩ (vI N) = W4 at *
 have HR4 : Hd (DR r rb a c bs G fv W4 { s with E := 11, o := (bs.length : Nat) }) := ⟨R4, K4, HG1.out.bytes' hfv HG4.out, hne, HG1.out.le⟩
 have x0 : W4.cell? ⟨H, 0, none⟩ = some (vI 0) := by rw [cell_of X4]; rfl
 have x1 : W4.cell? ⟨H, 1, none⟩ = some (vI 0) := by rw [cell_of X4]; rfl
 have x2 : W4.cell? ⟨H, 2, none⟩ = some (vI 0) := by rw [cell_of X4]; rfl
 have x3 : W4.cell? ⟨H, 3, none⟩ = some (.slice none 0 0) := by rw [cell_of X4]; rfl
 have y0 := frozen_of X4 0
 have y1 := frozen_of X4 1
 have y2 := frozen_of X4 2
 have y3 := frozen_of X4 3
 have X4' := X4
 clear R4 K4 X4
 have XZ := st4_of X4' (vI 0) (vI 0) (vI 0) (.slice none 0 0)
 have fz := st4_fr W4 H (vI 0) (vI 0) (vI 0) (.slice none 0 0)
 have HRZ : Hd (DR r rb a c bs G fv (st4 W4 H (vI 0) (vI 0) (vI 0) (.slice none 0 0)) { s with E := 11, o := (bs.length : Nat) }) := HR4.out.apart fz (by omega) (by omega) HBA.out
 have HFZ : Hd (Fr (fun j => j = r ∨ j = rb) w (st4 W4 H (vI 0) (vI 0) (vI 0) (.slice none 0 0))) := Fr.then HF4.out fz (fun j hj e => by have := HH.out; omega)
 have HXZ : Hd _ := XZ
 clear XZ fz
 go_wp2_with fail
 change bodyPost _ _ _ _ _ (st4 W4 H (vI 0) (vI 0) (vI 0) (.slice none 0 0))
 generalize st4 W4 H (vI 0) (vI 0) (vI 0) (.slice none 0 0) = wz at *
 have e0 : wz.cell? ⟨H, 0, none⟩ = some (vI 0) := by rw [cell_of HXZ.out]; rfl
 have e1 : wz.cell? ⟨H, 1, none⟩ = some (vI 0) := by rw [cell_of HXZ.out]; rfl
 have e2 : wz.cell? ⟨H, 2, none⟩ = some (vI 0) := by rw [cell_of HXZ.out]; rfl
 have e3 : wz.cell? ⟨H, 3, none⟩ = some (.slice none 0 0) := by rw [cell_of HXZ.out]; rfl
 refine bodyPost_ret (v := .tuple #[.agg #[vI 0, vI 0, vI 0, .slice none 0 0], vI 0]) ?_ rfl ⟨rfl, HRZ.out, HFZ.out⟩
 rw [results_cell2 (p := 2) (u := 3) (ty := 67) Tryd.results45]
 simp [go_sem, e0, e1, e2, e3]
set_option maxRecDepth 100000
set_option maxHeartbeats 4000000
theorem headD_long {bs : List UInt8} {s t1 t2 t3 t4 : DS} {P R V n : Int} (h : ¬ bs.length < s.p + 5) (h1 : thingD bs 1 s = (P, t1)) (h2 : thingD bs 1 t1 = (R, t2)) (h3 : thingD bs 1 t2 = (V, t3)) (h4 : thingD bs 2 t3 = (n, t4)) :
 headD bs s = ((P, R, V, n), askH (P, R, V, n) s.p t4) := by
 have e : fourD bs s = ((P, R, V, n), t4) := by
  unfold fourD
  simp only [h1, h2, h3, h4]
 unfold headD
 rw [if_neg h, e]
theorem head_long {r rb : Nat} {a : Option Addr} {c : Nat} {bs : List UInt8} {G : Int} {fv : Value} {w : World} {s : DS} (h : DR r rb a c bs G fv w s) (hfv : ∀ z, fv ≠ .int .u8 z) (hE : s.E = 0) (hlow : LowD s) (hsh : ¬ bs.length < s.p + 5) :
 Calls Tryd.prog 45 #[.pointer (some ⟨r, 0, none⟩)] w fun e w' => e = .returned (.tuple #[.agg #[vI (headD bs s).1.1, vI (headD bs s).1.2.1, vI (headD bs s).1.2.2.1, .slice none 0 0], vI (headD bs s).1.2.2.2]) ∧ DR r rb a c bs G fv w' (headD bs s).2 ∧ Fr (fun j => j = r ∨ j = rb) w w' := by
 obtain ⟨W, HW⟩ : ∃ W, W = w.alloc (.cells #[vI 0, vI 0, vI 0, .slice none 0 0] 67) := ⟨_, rfl⟩
 have hf1 : Fr (fun _ => False) w W := by rw [HW]; exact Fr.alloc (Fr.refl _ _) _
 have hxa : W.heap[w.heap.size]? = some (.cells #[vI 0, vI 0, vI 0, .slice none 0 0] 67) := by rw [HW]; exact heap_new w _
 have h1 := h.stay hf1
 have hr : r < w.heap.size := heap_lt h.rd
 have hrb : rb < w.heap.size := heap_lt h.rw
 have HF1 : Hd (Fr (fun j => j = r ∨ j = rb) w W) := hf1.mono (fun _ _ e => e.elim)
 have H1 : Hd (DR r rb a c bs G fv W s) := h1
 have HSZ : Hd (W.heap.size = w.heap.size + 1) := by unfold Hd; rw [HW]; simp
 obtain ⟨H, hH⟩ : ∃ H, H = w.heap.size := ⟨_, rfl⟩
 have HH : Hd (H = w.heap.size) := hH
 rw [← hH] at hxa hr hrb HSZ
 have HBA : Hd (∀ k o, a = some ⟨k, o, none⟩ → bs ≠ [] → k < H) := fun k o e e2 => by have := h.below k o e e2; omega
 have HXA : Hd _ := hxa
 have hb : (s.E == 0) = true := by simpa using hE
 obtain ⟨N, hN⟩ : ∃ N, N = bs.length := ⟨_, rfl⟩
 have HN : Hd (N = bs.length) := hN
 have hNL : N ≤ 1000000000000000 := by rw [hN]; exact h1.bytes.1
 have hle : s.p ≤ N := by rw [hN]; exact h1.le
 have HSH : Hd (¬ bs.length < s.p + 5) := hsh
 have c0 := h1.rd.cells.1
 have c1 := h1.rd.cells.2.1
 have c2 := h1.rd.cells.2.2.1
 rw [← hN] at c1 hsh
 have hlt5 : ¬ (N : Int) - s.p < 5 := by omega
 have hw5 : wrap64 ((N : Int) - s.p) = N - s.p := w64r (by omega) (by omega)
 have hw6 : IntKind.i64.wrap ((N : Int) - s.p) = N - s.p := wrap_small _ (by omega) (by omega)
 have HOP : Hd (∀ nq, Calls Tryd.prog 44 #[.pointer (some ⟨r, 0, none⟩)] (W.drewN nq) fun e w' => e = .returned (.bool true) ∧ w' = W.drewN nq) := fun nq => by
  have := ropen_any r rb (.slice a bs.length c) G fv (W.drewN nq) s.p s.q s.o s.L s.E (h1.rd.fr (Fr.drewN (Fr.refl (fun _ => False) W) nq) (fun e => e)) (h1.rw.fr (Fr.drewN (Fr.refl (fun _ => False) W) nq) (fun e => e))
  rw [hb] at this
  exact this
 have HLOW : Hd (LowD s) := hlow
 clear h h1 hf1 hN hxa hlow
 go_enter Tryd.func45, Tryd.ntmps45
 go_upto_region 1 with fail
 rw [← HW, ← hH]
 clear HW hH
 have HDN : Hd (∀ nq, DR r rb a c bs G fv (W.drewN nq) s ∧ (W.drewN nq).heap[H]? = some (.cells #[vI 0, vI 0, vI 0, .slice none 0 0] 67) ∧ Fr (fun j => j = r ∨ j = rb) w (W.drewN nq) ∧ (W.drewN nq).heap.size = H + 1) := fun nq => ⟨H1.out.stay (Fr.drewN (Fr.refl (fun _ => False) W) nq), HXA.out, HF1.out.drewN nq, HSZ.out⟩
 go_quiet ((go_at_call 44; refine Calls.quiet_of_same (HOP.out _)))
 obtain ⟨G1, X1, F1, S1⟩ := HDN.out nq
 clear HOP HDN c0 c1 c2 H1 HXA HF1 hlt5 hw5 hw6 HSZ
 generalize W.drewN nq = W2 at *
 have c2 := G1.rd.cells.2.2.1
 -- behind the second box
 obtain ⟨W3, hW3⟩ : ∃ W3, W3 = W2.alloc (.cells #[vI 0, vI 0, vI 0, .slice none 0 0] 67) := ⟨_, rfl⟩
 have f3 : Fr (fun _ => False) W2 W3 := by rw [hW3]; exact Fr.alloc (Fr.refl _ _) _
 have G3 := G1.stay f3
 have Y3 : W3.heap[H + 1]? = some (.cells #[vI 0, vI 0, vI 0, .slice none 0 0] 67) := by rw [hW3, ← S1]; exact heap_new W2 _
 have X3 : W3.heap[H]? = some (.cells #[vI 0, vI 0, vI 0, .slice none 0 0] 67) := (f3.block H (heap_lt X1) (fun e => e)).trans X1
 have HF3 : Hd (Fr (fun j => j = r ∨ j = rb) w W3) := F1.trans (f3.mono (fun _ _ e => e.elim))
 have HS1 : Hd (W2.heap.size = H + 1) := S1
 have HW3 : Hd (W3 = W2.alloc (.cells #[vI 0, vI 0, vI 0, .slice none 0 0] 67)) := hW3
 have HG3 : Hd (DR r rb a c bs G fv W3 s) := G3
 have HX3 : Hd (W3.heap[H]? = some (.cells #[vI 0, vI 0, vI 0, .slice none 0 0] 67)) := X3
 have HY3 : Hd (W3.heap[H + 1]? = some (.cells #[vI 0, vI 0, vI 0, .slice none 0 0] 67)) := Y3
 have hne := G1.ne
 clear G1 X1 F1 S1 hW3 f3 G3 X3 Y3
 go_upto_region 7 with fail
 rw [show W2.alloc (.cells #[.int .i64 0, .int .i64 0, .int .i64 0, .slice none 0 0] 67) = W3 from HW3.out.symm, HS1.out]
 have HBN : Hd (∀ k o, a = some ⟨k, o, none⟩ → bs ≠ [] → k ≠ H + 1) := fun k o e e2 => by have := HBA.out k o e e2; omega
 clear HW3 HS1 c2
 obtain ⟨P, t1, ht1⟩ : ∃ P t1, thingD bs 1 s = (P, t1) := ⟨_, _, rfl⟩
 have hc0 := thing_D HG3.out hfv 1 (by omega) (by omega)
 rw [ht1] at hc0
 have HT0 : Hd (thingD bs 1 s = (P, t1)) := ht1
 have HL0 : Hd (Le s t1) := by have := thingD_le bs 1 s; rw [ht1] at this; exact this
 clear ht1
 go_wp2_with fail
 refine hc0.mono ?_
 rintro e wa0 ⟨rfl, g0, f0⟩
 have y0 : wa0.heap[H + 1]? = some (.cells #[vI 0, vI 0, vI 0, .slice none 0 0] 67) := (f0.block (H + 1) (heap_lt HY3.out) (by omega)).trans HY3.out
 have x0 : wa0.heap[H]? = some (.cells #[vI 0, vI 0, vI 0, .slice none 0 0] 67) := (f0.block H (heap_lt HX3.out) (by omega)).trans HX3.out
 have F0 : Fr (fun j => j = r ∨ j = rb) w wa0 := HF3.out.trans f0
 have q0 : wa0.cell? ⟨H + 1, 0, none⟩ = some (vI 0) := by rw [cell_of y0]; rfl
 have z0 := frozen_of y0 0
 have fs0 : Fr (fun j => j = H + 1) wa0 (wa0.setCell ⟨H + 1, 0, none⟩ (vI P)) := setCell_fr wa0 (H + 1) 0 (vI P)
 have HGs0 : Hd (DR r rb a c bs G fv (wa0.setCell ⟨H + 1, 0, none⟩ (vI P)) t1) := g0.apart fs0 (by omega) (by omega) HBN.out
 have HYs0 : Hd ((wa0.setCell ⟨H + 1, 0, none⟩ (vI P)).heap[H + 1]? = some (.cells #[vI P, vI 0, vI 0, .slice none 0 0] 67)) := set_of y0 0 (vI P)
 have HXs0 : Hd ((wa0.setCell ⟨H + 1, 0, none⟩ (vI P)).heap[H]? = some (.cells #[vI 0, vI 0, vI 0, .slice none 0 0] 67)) := (fs0.block H (heap_lt x0) (by omega)).trans x0
 have HFs0 : Hd (Fr (fun j => j = r ∨ j = rb) w (wa0.setCell ⟨H + 1, 0, none⟩ (vI P))) := Fr.then F0 fs0 (fun j hj e => by have := HH.out; omega)
 clear hc0 g0 f0 y0 x0 F0 fs0 HG3 HY3 HX3 HF3
 go_upto_region 8 with fail
 clear q0 z0
 generalize wa0.setCell ⟨H + 1, 0, none⟩ (vI P) = wb0 at *
 obtain ⟨R, t2, ht2⟩ : ∃ R t2, thingD bs 1 t1 = (R, t2) := ⟨_, _, rfl⟩
 have hc1 := thing_D HGs0.out hfv 1 (by omega) (by omega)
 rw [ht2] at hc1
 have HT1 : Hd (thingD bs 1 t1 = (R, t2)) := ht2
 have HL1 : Hd (Le t1 t2) := by have := thingD_le bs 1 t1; rw [ht2] at this; exact this
 clear ht2
 go_wp2_with fail
 refine hc1.mono ?_
 rintro e wa1 ⟨rfl, g1, f1⟩
 have y1 : wa1.heap[H + 1]? = some (.cells #[vI P, vI 0, vI 0, .slice none 0 0] 67) := (f1.block (H + 1) (heap_lt HYs0.out) (by omega)).trans HYs0.out
 have x1 : wa1.heap[H]? = some (.cells #[vI 0, vI 0, vI 0, .slice none 0 0] 67) := (f1.block H (heap_lt HXs0.out) (by omega)).trans HXs0.out
 have F1 : Fr (fun j => j = r ∨ j = rb) w wa1 := HFs0.out.trans f1
 have q1 : wa1.cell? ⟨H + 1, 1, none⟩ = some (vI 0) := by rw [cell_of y1]; rfl
 have z1 := frozen_of y1 1
 have fs1 : Fr (fun j => j = H + 1) wa1 (wa1.setCell ⟨H + 1, 1, none⟩ (vI R)) := setCell_fr wa1 (H + 1) 1 (vI R)
 have HGs1 : Hd (DR r rb a c bs G fv (wa1.setCell ⟨H + 1, 1, none⟩ (vI R)) t2) := g1.apart fs1 (by omega) (by omega) HBN.out
 have HYs1 : Hd ((wa1.setCell ⟨H + 1, 1, none⟩ (vI R)).heap[H + 1]? = some (.cells #[vI P, vI R, vI 0, .slice none 0 0] 67)) := set_of y1 1 (vI R)
 have HXs1 : Hd ((wa1.setCell ⟨H + 1, 1, none⟩ (vI R)).heap[H]? = some (.cells #[vI 0, vI 0, vI 0, .slice none 0 0] 67)) := (fs1.block H (heap_lt x1) (by omega)).trans x1
 have HFs1 : Hd (Fr (fun j => j = r ∨ j = rb) w (wa1.setCell ⟨H + 1, 1, none⟩ (vI R))) := Fr.then F1 fs1 (fun j hj e => by have := HH.out; omega)
 clear hc1 g1 f1 y1 x1 F1 fs1 HGs0 HYs0 HXs0 HFs0
 go_upto_region 9 with fail
 clear q1 z1
 generalize wa1.setCell ⟨H + 1, 1, none⟩ (vI R) = wb1 at *
 obtain ⟨V, t3, ht3⟩ : ∃ V t3, thingD bs 1 t2 = (V, t3) := ⟨_, _, rfl⟩
 have hc2 := thing_D HGs1.out hfv 1 (by omega) (by omega)
 rw [ht3] at hc2
 have HT2 : Hd (thingD bs 1 t2 = (V, t3)) := ht3
 have HL2 : Hd (Le t2 t3) := by have := thingD_le bs 1 t2; rw [ht3] at this; exact this
 clear ht3
 go_wp2_with fail
 refine hc2.mono ?_
 rintro e wa2 ⟨rfl, g2, f2⟩
 have y2 : wa2.heap[H + 1]? = some (.cells #[vI P, vI R, vI 0, .slice none 0 0] 67) := (f2.block (H + 1) (heap_lt HYs1.out) (by omega)).trans HYs1.out
 have x2 : wa2.heap[H]? = some (.cells #[vI 0, vI 0, vI 0, .slice none 0 0] 67) := (f2.block H (heap_lt HXs1.out) (by omega)).trans HXs1.out
 have F2 : Fr (fun j => j = r ∨ j = rb) w wa2 := HFs1.out.trans f2
 have q2 : wa2.cell? ⟨H + 1, 2, none⟩ = some (vI 0) := by rw [cell_of y2]; rfl
 have z2 := frozen_of y2 2
 have fs2 : Fr (fun j => j = H + 1) wa2 (wa2.setCell ⟨H + 1, 2, none⟩ (vI V)) := setCell_fr wa2 (H + 1) 2 (vI V)
 have HGs2 : Hd (DR r rb a c bs G fv (wa2.setCell ⟨H + 1, 2, none⟩ (vI V)) t3) := g2.apart fs2 (by omega) (by omega) HBN.out
 have HYs2 : Hd ((wa2.setCell ⟨H + 1, 2, none⟩ (vI V)).heap[H + 1]? = some (.cells #[vI P, vI R, vI V, .slice none 0 0] 67)) := set_of y2 2 (vI V)
 have HXs2 : Hd ((wa2.setCell ⟨H + 1, 2, none⟩ (vI V)).heap[H]? = some (.cells #[vI 0, vI 0, vI 0, .slice none 0 0] 67)) := (fs2.block H (heap_lt x2) (by omega)).trans x2
 have HFs2 : Hd (Fr (fun j => j = r ∨ j = rb) w (wa2.setCell ⟨H + 1, 2, none⟩ (vI V))) := Fr.then F2 fs2 (fun j hj e => by have := HH.out; omega)
 clear hc2 g2 f2 y2 x2 F2 fs2 HGs1 HYs1 HXs1 HFs1
 go_upto_region 10 with fail
 clear q2 z2
 generalize wa2.setCell ⟨H + 1, 2, none⟩ (vI V) = wb2 at *
 obtain ⟨n, t4, ht4⟩ : ∃ n t4, thingD bs 2 t3 = (n, t4) := ⟨_, _, rfl⟩
 have hc3 := thing_D HGs2.out hfv 2 (by omega) (by omega)
 rw [ht4] at hc3
 have HT3 : Hd (thingD bs 2 t3 = (n, t4)) := ht4
 have HL3 : Hd (Le t3 t4) := by have := thingD_le bs 2 t3; rw [ht4] at this; exact this
 clear ht4
 go_wp2_with fail
 refine hc3.mono ?_
 rintro e wa3 ⟨rfl, g3, f3⟩
 have y3 : wa3.heap[H + 1]? = some (.cells #[vI P, vI R, vI V, .slice none 0 0] 67) := (f3.block (H + 1) (heap_lt HYs2.out) (by omega)).trans HYs2.out
 have x3 : wa3.heap[H]? = some (.cells #[vI 0, vI 0, vI 0, .slice none 0 0] 67) := (f3.block H (heap_lt HXs2.out) (by omega)).trans HXs2.out
 have F3 : Fr (fun j => j = r ∨ j = rb) w wa3 := HFs2.out.trans f3
 have HD : Hd (headD bs s = ((P, R, V, n), askH (P, R, V, n) s.p t4)) := headD_long HSH.out HT0.out HT1.out HT2.out HT3.out
 have HLW : Hd (LowD t4) := (((HLOW.out.le HL0.out).le HL1.out).le HL2.out).le HL3.out
 have HG : Hd (DR r rb a c bs G fv wa3 t4) := g3
 have HY : Hd (wa3.heap[H + 1]? = some (.cells #[vI P, vI R, vI V, .slice none 0 0] 67)) := y3
 have HX : Hd (wa3.heap[H]? = some (.cells #[vI 0, vI 0, vI 0, .slice none 0 0] 67)) := x3
 have HF : Hd (Fr (fun j => j = r ∨ j = rb) w wa3) := F3
 have hop := ropen_any r rb _ G _ wa3 _ _ _ _ _ g3.rd g3.rw
 have d0 := g3.rd.cells.1
 clear hc3 g3 f3 y3 x3 F3 HGs2 HYs2 HXs2 HFs2 HT0 HT1 HT2 HT3 HL0 HL1 HL2 HL3 HLOW HSH hsh hb hE
 go_upto_region 11 with fail
 go_wp2_with fail
 refine hop.mono ?_
 rintro e wc ⟨rfl, rfl⟩
 clear hop
 by_cases hE : t4.E = 0
 ·have hb : (t4.E == 0) = true := by simpa using hE
  rw [hb]
  have hh0 : askH (P, R, V, n) s.p t4 = { t4 with L := headL P R V n t4.L 0, E := headE P R V n t4.L 0, o := toldO true (headE P R V n t4.L 0) s.p t4.o } := if_pos hE
  have HD2 : Hd (headD bs s = ((P, R, V, n), { t4 with L := headL P R V n t4.L 0, E := headE P R V n t4.L 0, o := toldO true (headE P R V n t4.L 0) s.p t4.o })) := by unfold Hd; rw [HD.out, hh0]
  have hL := HLW.out
  have hk := HG.out.rw
  rw [hE] at hk
  have hcall := fun (wx : World) (hx : RW rb G fv wx t4.L 0) => rhead rb G fv wx t4.L 0 hx hL.1 (by have := hL.2 hE; omega) P R V n none 0 0
  have HCA : Hd (∀ wx, RW rb G fv wx t4.L 0 → Calls Tryd.prog 55 #[.pointer (some ⟨rb, 0, none⟩), .agg #[vI P, vI R, vI V, .slice none 0 0], vI n] wx fun r' w' => r' = .returned (.tuple #[]) ∧ RW rb G fv w' (headL P R V n t4.L 0) (headE P R V n t4.L 0) ∧ Fr (fun k => k = rb) wx w') := hcall
  have HK : Hd (RW rb G fv wc t4.L 0) := hk
  have y0 : wc.cell? ⟨H + 1, 0, none⟩ = some (vI P) := by rw [cell_of HY.out]; rfl
  have y1 : wc.cell? ⟨H + 1, 1, none⟩ = some (vI R) := by rw [cell_of HY.out]; rfl
  have y2 : wc.cell? ⟨H + 1, 2, none⟩ = some (vI V) := by rw [cell_of HY.out]; rfl
  have y3 : wc.cell? ⟨H + 1, 3, none⟩ = some (.slice none 0 0) := by rw [cell_of HY.out]; rfl
  clear HD hh0 HLW hL hk hcall
  go_upto_region 13 with fail
  refine wp_region_still_tail 6 mixed (by kernel_rfl) ?_
  simp only [List.take_succ_cons, List.take_zero, List.drop_succ_cons, List.drop_zero]
  repeat still_step
  refine wpStill_nil ?_
  go_wp2_with fail
  refine (HCA.out wc.drew (HK.out.fr (Fr.drew (Fr.refl (fun _ => False) wc)) (fun e => e))).mono ?_
  rintro e wd ⟨rfl, k4, f4⟩
  have fd : Fr (fun k => k = rb) wc wd := (Fr.drew (Fr.refl (fun k => k = rb) wc)).trans f4
  have h4 : RD r rb (.slice a bs.length c) wd t4.p t4.q t4.o := HG.out.rd.fr fd (fun e => hne e.symm)
  have hto := rtold_any r rb _ G _ wd _ _ _ _ _ h4 k4 true s.p hne
  have HF4 : Hd (Fr (fun j => j = r ∨ j = rb) w wd) := HF.out.trans (fd.mono (fun _ _ e => Or.inr e))
  have HG4 : Hd (Fr (fun j => j = r ∨ j = rb) wc wd) := fd.mono (fun _ _ e => Or.inr e)
  have HYd : Hd (wd.heap[H + 1]? = some (.cells #[vI P, vI R, vI V, .slice none 0 0] 67)) := (fd.block (H + 1) (heap_lt HY.out) (by omega)).trans HY.out
  have HXd : Hd (wd.heap[H]? = some (.cells #[vI 0, vI 0, vI 0, .slice none 0 0] 67)) := (fd.block H (heap_lt HX.out) (by omega)).trans HX.out
  clear k4 f4 fd h4 y0 y1 y2 y3 HY HX HF HCA HK d0
  go_wp2_with fail
  refine hto.mono ?_
  rintro e we ⟨rfl, h5, k5, f5⟩
  have yE : we.heap[H + 1]? = some (.cells #[vI P, vI R, vI V, .slice none 0 0] 67) := (f5.block (H + 1) (heap_lt HYd.out) (by omega)).trans HYd.out
  have xE : we.heap[H]? = some (.cells #[vI 0, vI 0, vI 0, .slice none 0 0] 67) := (f5.block H (heap_lt HXd.out) (by omega)).trans HXd.out
  have HGE : Hd (DR r rb a c bs G fv we { t4 with L := headL P R V n t4.L 0, E := headE P R V n t4.L 0, o := toldO true (headE P R V n t4.L 0) s.p t4.o }) := ⟨h5, k5, HG.out.bytes' hfv (HG4.out.trans (f5.mono (fun _ _ e => Or.inl e))), hne, HG.out.le⟩
  have HFE : Hd (Fr (fun j => j = r ∨ j = rb) w we) := HF4.out.trans (f5.mono (fun _ _ e => Or.inl e))
  clear hto h5 k5 f5 HG HG4 HF4 HYd HXd hE hb
  generalize ({ t4 with L := headL P R V n t4.L 0, E := headE P R V n t4.L 0, o := toldO true (headE P R V n t4.L 0) s.p t4.o } : DS) = t5 at *
  have y0 : we.cell? ⟨H + 1, 0, none⟩ = some (vI P) := by rw [cell_of yE]; rfl
  have y1 : we.cell? ⟨H + 1, 1, none⟩ = some (vI R) := by rw [cell_of yE]; rfl
  have y2 : we.cell? ⟨H + 1, 2, none⟩ = some (vI V) := by rw [cell_of yE]; rfl
  have y3 : we.cell? ⟨H + 1, 3, none⟩ = some (.slice none 0 0) := by rw [cell_of yE]; rfl
  have x0 : we.cell? ⟨H, 0, none⟩ = some (vI 0) := by rw [cell_of xE]; rfl
  have x1 : we.cell? ⟨H, 1, none⟩ = some (vI 0) := by rw [cell_of xE]; rfl
  have x2 : we.cell? ⟨H, 2, none⟩ = some (vI 0) := by rw [cell_of xE]; rfl
  have x3 : we.cell? ⟨H, 3, none⟩ = some (.slice none 0 0) := by rw [cell_of xE]; rfl
  have u0 := frozen_of xE 0
  have u1 := frozen_of xE 1
  have u2 := frozen_of xE 2
  have u3 := frozen_of xE 3
  have fz := st4_fr we H (vI P) (vI R) (vI V) (.slice none 0 0)
  have HXZ : Hd ((st4 we H (vI P) (vI R) (vI V) (.slice none 0 0)).heap[H]? = some (.cells #[vI P, vI R, vI V, .slice none 0 0] 67)) := st4_of xE _ _ _ _
  have HRZ : Hd (DR r rb a c bs G fv (st4 we H (vI P) (vI R) (vI V) (.slice none 0 0)) t5) := HGE.out.apart fz (by omega) (by omega) (fun k o e e2 => by have := HBA.out k o e e2; omega)
  have HFZ : Hd (Fr (fun j => j = r ∨ j = rb) w (st4 we H (vI P) (vI R) (vI V) (.slice none 0 0))) := Fr.then HFE.out fz (fun j hj e => by have := HH.out; omega)
  clear fz yE xE HGE HFE
  go_wp2_with fail
  change bodyPost _ _ _ _ _ (st4 we H (vI P) (vI R) (vI V) (.slice none 0 0))
  generalize st4 we H (vI P) (vI R) (vI V) (.slice none 0 0) = wz at *
  have e0 : wz.cell? ⟨H, 0, none⟩ = some (vI P) := by rw [cell_of HXZ.out]; rfl
  have e1 : wz.cell? ⟨H, 1, none⟩ = some (vI R) := by rw [cell_of HXZ.out]; rfl
  have e2 : wz.cell? ⟨H, 2, none⟩ = some (vI V) := by rw [cell_of HXZ.out]; rfl
  have e3 : wz.cell? ⟨H, 3, none⟩ = some (.slice none 0 0) := by rw [cell_of HXZ.out]; rfl
  refine bodyPost_ret (v := .tuple #[.agg #[vI P, vI R, vI V, .slice none 0 0], vI n]) ?_ rfl (by rw [HD2.out]; exact ⟨rfl, HRZ.out, HFZ.out⟩)
  rw [results_cell2 (p := 2) (u := 3) (ty := 67) Tryd.results45]
  simp [go_sem, e0, e1, e2, e3]
 ·have hb : (t4.E == 0) = false := by simpa using hE
  rw [hb]
  have hh0 : askH (P, R, V, n) s.p t4 = t4 := if_neg hE
  have HD2 : Hd (headD bs s = ((P, R, V, n), t4)) := by unfold Hd; rw [HD.out, hh0]
  have hto := rtold_any r rb _ G _ wc _ _ _ _ _ HG.out.rd HG.out.rw false s.p hne
  have e0 : toldO false t4.E s.p t4.o = t4.o := if_neg (fun h => by cases h.1)
  rw [e0] at hto
  clear HD hh0 HLW e0 d0
  go_wp2_with fail
  refine hto.mono ?_
  rintro e we ⟨rfl, h5, k5, f5⟩
  have yE : we.heap[H + 1]? = some (.cells #[vI P, vI R, vI V, .slice none 0 0] 67) := (f5.block (H + 1) (heap_lt HY.out) (by omega)).trans HY.out
  have xE : we.heap[H]? = some (.cells #[vI 0, vI 0, vI 0, .slice none 0 0] 67) := (f5.block H (heap_lt HX.out) (by omega)).trans HX.out
  have HGE : Hd (DR r rb a c bs G fv we t4) := ⟨h5, k5, HG.out.bytes' hfv (f5.mono (fun _ _ e => Or.inl e)), hne, HG.out.le⟩
  have HFE : Hd (Fr (fun j => j = r ∨ j = rb) w we) := HF.out.trans (f5.mono (fun _ _ e => Or.inl e))
  clear hto h5 k5 f5 HG HF HY HX hE hb
  have y0 : we.cell? ⟨H + 1, 0, none⟩ = some (vI P) := by rw [cell_of yE]; rfl
  have y1 : we.cell? ⟨H + 1, 1, none⟩ = some (vI R) := by rw [cell_of yE]; rfl
  have y2 : we.cell? ⟨H + 1, 2, none⟩ = some (vI V) := by rw [cell_of yE]; rfl
  have y3 : we.cell? ⟨H + 1, 3, none⟩ = some (.slice none 0 0) := by rw [cell_of yE]; rfl
  have x0 : we.cell? ⟨H, 0, none⟩ = some (vI 0) := by rw [cell_of xE]; rfl
  have x1 : we.cell? ⟨H, 1, none⟩ = some (vI 0) := by rw [cell_of xE]; rfl
  have x2 : we.cell? ⟨H, 2, none⟩ = some (vI 0) := by rw [cell_of xE]; rfl
  have x3 : we.cell? ⟨H, 3, none⟩ = some (.slice none 0 0) := by rw [cell_of xE]; rfl
  have u0 := frozen_of xE 0
  have u1 := frozen_of xE 1
  have u2 := frozen_of xE 2
  have u3 := frozen_of xE 3
  have fz := st4_fr we H (vI P) (vI R) (vI V) (.slice none 0 0)
  have HXZ : Hd ((st4 we H (vI P) (vI R) (vI V) (.slice none 0 0)).heap[H]? = some (.cells #[vI P, vI R, vI V, .slice none 0 0] 67)) := st4_of xE _ _ _ _
  have HRZ : Hd (DR r rb a c bs G fv (st4 we H (vI P) (vI R) (vI V) (.slice none 0 0)) t4) := HGE.out.apart fz (by omega) (by omega) (fun k o e e2 => by have := HBA.out k o e e2; omega)
  have HFZ : Hd (Fr (fun j => j = r ∨ j = rb) w (st4 we H (vI P) (vI R) (vI V) (.slice none 0 0))) := Fr.then HFE.out fz (fun j hj e => by have := HH.out; omega)
  clear fz yE xE HGE HFE
  go_wp2_with fail
  change bodyPost _ _ _ _ _ (st4 we H (vI P) (vI R) (vI V) (.slice none 0 0))
  generalize st4 we H (vI P) (vI R) (vI V) (.slice none 0 0) = wz at *
  have e0 : wz.cell? ⟨H, 0, none⟩ = some (vI P) := by rw [cell_of HXZ.out]; rfl
  have e1 : wz.cell? ⟨H, 1, none⟩ = some (vI R) := by rw [cell_of HXZ.out]; rfl
  have e2 : wz.cell? ⟨H, 2, none⟩ = some (vI V) := by rw [cell_of HXZ.out]; rfl
  have e3 : wz.cell? ⟨H, 3, none⟩ = some (.slice none 0 0) := by rw [cell_of HXZ.out]; rfl
  refine bodyPost_ret (v := .tuple #[.agg #[vI P, vI R, vI V, .slice none 0 0], vI n]) ?_ rfl (by rw [HD2.out]; exact ⟨rfl, HRZ.out, HFZ.out⟩)
  rw [results_cell2 (p := 2) (u := 3) (ty := 67) Tryd.results45]
  simp [go_sem, e0, e1, e2, e3]
end Go.Proofs.YtingenonbkencaaDoor
