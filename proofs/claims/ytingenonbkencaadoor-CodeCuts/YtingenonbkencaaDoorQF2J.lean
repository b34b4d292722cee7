import Derived.Test.YtingenonbkencaaDoorQE6J
import Derived.Test.YtingenonbkencaaDoorQA3J
import Derived.Laws.BytesString
set_option linter.unusedVariables false
set_option linter.unusedSimpArgs false
namespace Go.Proofs.YtingenonbkencaaDoor
open Go.RowKit (wrap32 wrap64)
set_option maxRecDepth 100000
set_option maxHeartbeats 4000000
def EndsC {b : Nat} (M : Mode b) (w : World) (len : Nat) (r : X (List AI × (WS × M.σ))) (e : Ending) (w' : World) : Prop :=
  Fr M.SB w w' ∧ match r with
    | .ok (l, y) => ∃ g cs av rv, w.heap.size ≤ g ∧ e = .returned (.slice (some ⟨g, 0, none⟩) len len) ∧ w'.heap[g]? = some (.cells cs.toArray 71) ∧ CodeCells w w' l cs ∧ On M w' ({ y.1 with args := av, rets := rv }, y.2)
    | .error z => e = .panicked (viol z.1 z.2)
theorem sets7 {w : World} {g k : Nat} {done : List Value} {rest : List Value} (hd : done.length = k * 7) (v0 v1 v2 v3 v4 v5 v6 : Value) (h : w.heap[g]? = some (.cells (done ++ (z7 ++ rest)).toArray 71)) :
    (((((((w.setCell ⟨g, k * 7, none⟩ v0).setCell ⟨g, k * 7 + 1, none⟩ v1).setCell ⟨g, k * 7 + 2, none⟩ v2).setCell ⟨g, k * 7 + 3, none⟩ v3).setCell ⟨g, k * 7 + 4, none⟩ v4).setCell ⟨g, k * 7 + 5, none⟩ v5).setCell ⟨g, k * 7 + 6, none⟩ v6).heap[g]?
      = some (.cells (done ++ [v0, v1, v2, v3, v4, v5, v6] ++ rest).toArray 71) := by
  have key : ∀ (w : World) (l : List Value) (o : Nat) (v : Value), w.heap[g]? = some (.cells (done ++ l).toArray 71) → (w.setCell ⟨g, k * 7 + o, none⟩ v).heap[g]? = some (.cells (done ++ l.set o v).toArray 71) := by
    intro w l o v h
    unfold World.setCell
    simp only [Array.getElem?_modify]
    rw [if_pos trivial, h]
    simp only [Option.map_some, Option.isSome_none, Bool.false_eq_true, if_false, List.setIfInBounds_toArray]
    rw [List.set_append, if_neg (by omega), show k * 7 + o - done.length = o by omega]
  have h0 := key _ _ 0 v0 h
  have h1 := key _ _ 1 v1 h0
  have h2 := key _ _ 2 v2 h1
  have h3 := key _ _ 3 v3 h2
  have h4 := key _ _ 4 v4 h3
  have h5 := key _ _ 5 v5 h4
  have h6 := key _ _ 6 v6 h5
  rw [List.append_assoc]
  exact h6
theorem NewL.slice {w0 w : World} {av : Value} {vs : List Int} (h : NewL w0 w av vs) : ∃ a n c, av = .slice a n c := by
  rcases h with ⟨-, rfl⟩ | ⟨g, -, rfl, -⟩
  · exact ⟨none, 0, 0, rfl⟩
  · exact ⟨_, _, _, rfl⟩
theorem z7s_pos (n : Nat) (h : 0 < n) : z7s n = z7 ++ z7s (n - 1) := by
  cases n with
  | zero => omega
  | succ n => unfold z7s; rw [List.replicate_succ, List.flatten_cons]; rfl
theorem readCode_any {b : Nat} (M : Mode b) (hN : NextOwn M) (hO : NextOther M) (hF : FreshOk M) (x : WS × M.σ) (w : World) (h : On M w x) (fP fV : Int) (fR len : Nat) (x1 : WS × M.σ) (hx1 : Hd (x1 = ({ x.1 with fP := fP, fR := fR, fV := fV, fC := .slice none 0 0, len := len }, x.2))) (hlen : len ≤ 4096) (hRn : fR ≤ 255)
    (heads : List (Nat × Nat)) (fb fo fc : Nat) (hfu : x.1.funcs = .slice (some ⟨fb, fo, none⟩) heads.length fc) (hH : HeadsAt w fb fo heads) (hfb : fb ≠ b) (hfS : ¬ M.S fb) (hflt : fb < w.heap.size) (hnf : heads.length ≤ 65535) (hSnew : ∀ k, w.heap.size ≤ k → ¬ M.S k)
    (hMg : ∀ (g : Nat) st p w', M.I st p w' → ∀ {w''}, Fr (· = g) w' w'' → w.heap.size ≤ g → M.I st p w'') :
    Calls Tryd.prog 64 #[.pointer (some ⟨b, 0, none⟩), .agg #[vI fP, vI fR, vI fV, .slice none 0 0], .int .i64 len] w (EndsC M w len (codeX M heads fR len len x1)) := by
  have HFU : Hd (x.1.funcs = .slice (some ⟨fb, fo, none⟩) heads.length fc) := hfu
  clear hfu
  have hmk := run_make65 len hlen
  have hb := h.1.lt
  obtain ⟨-, -, -, -, -, c149, c150, c151, c152, c153, -⟩ := h.1.facts
  have hz := h.1.frozen
  go_enter Tryd.func64, Tryd.ntmps64
  go_wp2_with fail
  have hlf := func_lies fP fR fV len (.slice none 0 0) h.1
  have hsz : ((((((w.setCell ⟨b, 149, none⟩ (vI fP)).setCell ⟨b, 150, none⟩ (vI fR)).setCell ⟨b, 151, none⟩ (vI fV)).setCell ⟨b, 152, none⟩ (.slice none 0 0)).setCell ⟨b, 153, none⟩ (vI len)).alloc (.cells #[vI fP, vI fR, vI fV, .slice none 0 0] 67)).heap.size = w.heap.size + 1 := by simp
  have hfr : Fr (fun k => k = b) w ((((((w.setCell ⟨b, 149, none⟩ (vI fP)).setCell ⟨b, 150, none⟩ (vI fR)).setCell ⟨b, 151, none⟩ (vI fV)).setCell ⟨b, 152, none⟩ (.slice none 0 0)).setCell ⟨b, 153, none⟩ (vI len)).alloc (.cells #[vI fP, vI fR, vI fV, .slice none 0 0] 67)) :=
    Fr.alloc (Fr.setCell (Fr.setCell (Fr.setCell (Fr.setCell (Fr.setCell (Fr.refl (fun k => k = b) w) _ _ (Or.inl rfl)) _ _ (Or.inl rfl)) _ _ (Or.inl rfl)) _ _ (Or.inl rfl)) _ _ (Or.inl rfl)) _
  have hll := Lies.alloc hlf (.cells #[vI fP, vI fR, vI fV, .slice none 0 0] 67)
  generalize ((((((w.setCell ⟨b, 149, none⟩ (vI fP)).setCell ⟨b, 150, none⟩ (vI fR)).setCell ⟨b, 151, none⟩ (vI fV)).setCell ⟨b, 152, none⟩ (.slice none 0 0)).setCell ⟨b, 153, none⟩ (vI len)).alloc (.cells #[vI fP, vI fR, vI fV, .slice none 0 0] 67)) = wa at hsz hfr hll ⊢
  rw [← hsz]
  have hgb : (wa.alloc (.cells (zeros7 len) 71)).heap[wa.heap.size]? = some (.cells (z7s len).toArray 71) := by rw [heap_alloc_last, zeros7_eq]
  have hfr' : Fr (fun k => k = b) w (wa.alloc (.cells (zeros7 len) 71)) := Fr.alloc hfr _
  have hll' := Lies.alloc hll (.cells (zeros7 len) 71)
  have hsz' : (wa.alloc (.cells (zeros7 len) 71)).heap.size = wa.heap.size + 1 := by simp
  generalize (wa.alloc (.cells (zeros7 len) 71)) = wl at hgb hfr' hll' hsz' ⊢
  have honl : On M wl x1 := by rw [hx1.out]; exact h.fr hfr' hll' rfl rfl
  have hx1f : x1.1.fR = fR ∧ x1.1.len = len ∧ x1.1.funcs = .slice (some ⟨fb, fo, none⟩) heads.length fc := by rw [hx1.out]; exact ⟨rfl, rfl, HFU.out⟩
  have hgw : w.heap.size ≤ wa.heap.size := by omega
  generalize wa.heap.size = g at *
  have hgb' : g ≠ b := by omega
  have hgS := hSnew g (by omega)
  have hfl : Fr M.SB w wl := hfr'.mono (fun k _ hk => Or.inl hk)
  have hHl : HeadsAt wl fb fo heads := hH.fr hfr' hflt (fun e => hfb e)
  have hflt' : fb < wl.heap.size := Nat.lt_of_lt_of_le hflt hfr'.size
  have hSn : ∀ k, wl.heap.size ≤ k → ¬ M.S k := fun k hk => hSnew k (by omega)
  have hfbg : fb ≠ g := by omega
  clear hll hll' hfr hfr' hsz hmk c149 c150 c151 c152 c153 hlf hz hx1 h hH
  go_loopw [21] (fun i wr => ∃ (k : Nat) (done : List AI) (y : WS × M.σ) (av rv : Value) (cs : List Value), k ≤ len ∧ i = .int .i64 k ∧ done.length = k ∧ On M wr ({ y.1 with args := av, rets := rv }, y.2) ∧ Hd (Kept2 x1.1 y.1) ∧
      Fr (fun j => M.SB j ∨ j = g) wl wr ∧ Hd (wr.heap[g]? = some (.cells (cs ++ z7s (len - k)).toArray 71)) ∧ Hd (CodeCells wl wr done cs) ∧ Hd (codeX M heads fR len len x1 = contC done (codeX M heads fR len (len - k) y))) (fun i _ => match i with | .int _ q => len - q.toNat | _ => 0)
  case atStart => exact ⟨0, [], x1, x1.1.args, x1.1.rets, [], Nat.zero_le _, rfl, rfl, honl, Kept2.refl _, Fr.refl _ _, hgb, rfl, by unfold Hd; rw [contC_nil]; rfl⟩
  case round =>
    obtain ⟨k, done, y, av, rv, cs, hk, rfl, hdl, hony, hky, hfy, hgy, hcy, hvx⟩ := hrel
    by_cases hlt : k < len
    · obtain ⟨-, -, -, -, -, -, -, -, -, -, d0, d1, d2, d3, d4, d5, d6, -⟩ := hony.1.facts
      have hzy := hony.1.frozen
      have hby := hony.1.lt
      go_wp2_with fail
      have hli := blank_lies hony.1
      have hf7 : Fr (fun k => k = b) wr (((((((wr.setCell ⟨b, 154, none⟩ (vI 0)).setCell ⟨b, 155, none⟩ (vI 0)).setCell ⟨b, 156, none⟩ (vI 0)).setCell ⟨b, 157, none⟩ (vI 0)).setCell ⟨b, 158, none⟩ (vI 0)).setCell ⟨b, 159, none⟩ nilS).setCell ⟨b, 160, none⟩ nilS) :=
        Fr.setCell (Fr.setCell (Fr.setCell (Fr.setCell (Fr.setCell (Fr.setCell (Fr.setCell (Fr.refl (fun k => k = b) wr) _ _ (Or.inl rfl)) _ _ (Or.inl rfl)) _ _ (Or.inl rfl)) _ _ (Or.inl rfl)) _ _ (Or.inl rfl)) _ _ (Or.inl rfl)) _ _ (Or.inl rfl)
      change Calls Tryd.prog 65 _ (((((((wr.setCell ⟨b, 154, none⟩ (vI 0)).setCell ⟨b, 155, none⟩ (vI 0)).setCell ⟨b, 156, none⟩ (vI 0)).setCell ⟨b, 157, none⟩ (vI 0)).setCell ⟨b, 158, none⟩ (vI 0)).setCell ⟨b, 159, none⟩ nilS).setCell ⟨b, 160, none⟩ nilS) _
      generalize (((((((wr.setCell ⟨b, 154, none⟩ (vI 0)).setCell ⟨b, 155, none⟩ (vI 0)).setCell ⟨b, 156, none⟩ (vI 0)).setCell ⟨b, 157, none⟩ (vI 0)).setCell ⟨b, 158, none⟩ (vI 0)).setCell ⟨b, 159, none⟩ nilS).setCell ⟨b, 160, none⟩ nilS) = wb at hli hf7 ⊢
      have honb : On M wb (blank y.1, y.2) := hony.fr hf7 hli rfl rfl
      have hHy : HeadsAt wr fb fo heads := hHl.fr hfy hflt' (fun e => e.elim (fun e => e.elim hfb hfS) hfbg)
      have hltr : fb < wr.heap.size := Nat.lt_of_lt_of_le hflt' hfy.size
      have hHb : HeadsAt wb fb fo heads := hHy.fr hf7 hltr hfb
      have hgr : g < wr.heap.size := (Array.getElem?_eq_some_iff.1 hgy.out).1
      have hky' := hky.out
      clear d0 d1 d2 d3 d4 d5 d6 hzy
      refine (instr_any M hN hO hF (blank y.1, y.2) wb honb ⟨rfl, rfl, rfl, rfl, rfl, rfl⟩ k (by omega) (by show 0 ≤ y.1.len; rw [hky'.len, hx1f.2.1]; omega) (by show y.1.len ≤ 4096; rw [hky'.len, hx1f.2.1]; omega) fR (hky'.fR.trans hx1f.1) hRn heads fb fo fc (hky'.funcs.trans hx1f.2.2) hHb hfb hfS (Nat.lt_of_lt_of_le hltr hf7.size) hnf (fun j hj => hSn j (by have := hfy.size; have := hf7.size; omega))).mono ?_
      rintro e w2 ⟨hf2, hres⟩
      have hf72 : Fr M.SB wr w2 := (hf7.mono (fun k _ hk => Or.inl hk)).trans hf2
      have hfin : Fr M.SB w w2 := ⟨hf72.os.trans (hfy.os.trans hfl.os), hf72.tape.trans (hfy.tape.trans hfl.tape), hf72.output.trans (hfy.output.trans hfl.output), Nat.le_trans hfl.size (Nat.le_trans hfy.size hf72.size), fun j hj hS => by
        rw [hf72.block j (Nat.lt_of_lt_of_le hj (Nat.le_trans hfl.size hfy.size)) hS, hfy.block j (Nat.lt_of_lt_of_le hj hfl.size) (fun h => h.elim hS (fun e => by omega)), hfl.block j hj hS]⟩
      have hstep : Hd (len - k = (len - k - 1) + 1) := by unfold Hd; omega
      have hidx : Hd (len - ((len - k - 1) + 1) = k) := by unfold Hd; omega
      cases hix : instrX M heads fR k (blank y.1, y.2) with
      | error z =>
        simp only [hix] at hres
        subst hres
        have HE : Hd (codeX M heads fR len len x1 = .error z) := by
          unfold Hd; rw [hvx.out, hstep.out]; simp only [codeX]; rw [hidx.out, hix]; rfl
        clear hix
        go_wp2_with fail
        refine ⟨rfl, hfin, ?_⟩
        rw [HE.out]
      | ok q =>
        obtain ⟨ll, y2⟩ := q
        simp only [hix] at hres
        obtain ⟨rfl, av2, rv2, hn1, hn2, hon2⟩ := hres
        obtain ⟨a1, l1, c1, rfl⟩ := hn1.slice
        obtain ⟨a2, l2, c2, rfl⟩ := hn2.slice
        have hg2 : w2.heap[g]? = some (.cells (cs ++ (z7 ++ z7s (len - k - 1))).toArray 71) := by
          rw [hf72.block g hgr (fun h => h.elim hgb' hgS), hgy.out, z7s_pos (len - k) (by omega)]
        have hcl : cs.length = k * 7 := by rw [← hdl]; exact hcy.out.length
        have hcell : ∀ j, j < 7 → w2.cell? ⟨g, k * 7 + j, none⟩ = z7[j]? := by
          intro j hj
          unfold World.cell?
          simp only [hg2]
          rw [← hcl]
          simp only [Option.isSome_none, Bool.false_eq_true, if_false, List.getElem?_toArray]
          rw [List.getElem?_append_right (by omega), show cs.length + j - cs.length = j by omega, List.getElem?_append_left (by simp [z7]; omega)]
        have g0 := hcell 0 (by omega); have g1 := hcell 1 (by omega); have g2 := hcell 2 (by omega); have g3 := hcell 3 (by omega); have g4 := hcell 4 (by omega); have g5 := hcell 5 (by omega); have g6 := hcell 6 (by omega)
        simp only [z7, nilS] at g0 g1 g2 g3 g4 g5 g6
        simp at g0 g1 g2 g3 g4 g5 g6
        have hzg : ∀ o, w2.frozen? ⟨g, o, none⟩ = false := by intro o; unfold World.frozen?; simp only [hg2]; simp
        obtain ⟨-, -, -, -, -, -, -, -, -, -, d0, d1, d2, d3, d4, d5, d6, -⟩ := hon2.1.facts
        simp only at d0 d1 d2 d3 d4 d5 d6
        have HG2 : Hd (w2.heap[g]? = some (.cells (cs ++ (z7 ++ z7s (len - k - 1))).toArray 71)) := hg2
        have HIX : Hd (instrX M heads fR k (blank y.1, y.2) = .ok (ll, y2)) := hix
        clear hg2 hcell hix
        go_wp2_with fail
        have hsets := sets7 hcl (vI y2.1.op) (vI y2.1.r) (vI y2.1.s) (vI y2.1.t) (vI y2.1.n) (.slice a1 l1 c1) (.slice a2 l2 c2) HG2.out
        have hfs : Fr (fun j => j = g) w2 (((((((w2.setCell ⟨g, k * 7, none⟩ (vI y2.1.op)).setCell ⟨g, k * 7 + 1, none⟩ (vI y2.1.r)).setCell ⟨g, k * 7 + 2, none⟩ (vI y2.1.s)).setCell ⟨g, k * 7 + 3, none⟩ (vI y2.1.t)).setCell ⟨g, k * 7 + 4, none⟩ (vI y2.1.n)).setCell ⟨g, k * 7 + 5, none⟩ (.slice a1 l1 c1)).setCell ⟨g, k * 7 + 6, none⟩ (.slice a2 l2 c2)) :=
          Fr.setCell (Fr.setCell (Fr.setCell (Fr.setCell (Fr.setCell (Fr.setCell (Fr.setCell (Fr.refl (fun k => k = g) w2) _ _ (Or.inl rfl)) _ _ (Or.inl rfl)) _ _ (Or.inl rfl)) _ _ (Or.inl rfl)) _ _ (Or.inl rfl)) _ _ (Or.inl rfl)) _ _ (Or.inl rfl)
        have hlw2 : wl.heap.size ≤ w2.heap.size := Nat.le_trans hfy.size hf72.size
        have hgwl : g < wl.heap.size := by omega
        have hon3 : On M (((((((w2.setCell ⟨g, k * 7, none⟩ (vI y2.1.op)).setCell ⟨g, k * 7 + 1, none⟩ (vI y2.1.r)).setCell ⟨g, k * 7 + 2, none⟩ (vI y2.1.s)).setCell ⟨g, k * 7 + 3, none⟩ (vI y2.1.t)).setCell ⟨g, k * 7 + 4, none⟩ (vI y2.1.n)).setCell ⟨g, k * 7 + 5, none⟩ (.slice a1 l1 c1)).setCell ⟨g, k * 7 + 6, none⟩ (.slice a2 l2 c2)) ({ y2.1 with args := .slice a1 l1 c1, rets := .slice a2 l2 c2 }, y2.2) :=
          ⟨hon2.1.fr hfs (fun e => hgb' e.symm), hon2.2.1, hMg g _ _ _ hon2.2.2 hfs (by omega)⟩
        have hn1' : NewL wl w2 (.slice a1 l1 c1) ll.1 := hn1.mono (Nat.le_trans hfy.size hf7.size)
        have hn2' : NewL wl w2 (.slice a2 l2 c2) ll.2 := hn2.mono (Nat.le_trans hfy.size hf7.size)
        have hnG : ∀ k, wl.heap.size ≤ k → k < w2.heap.size → ¬ k = g := fun j hj _ e => by omega
        have hcs2 : CodeCells wl w2 done cs := hcy.out.fr hf72 (fun j hj hj2 hS => hS.elim (fun e => by omega) (hSn j hj))
        have hcs3 := CodeCells.snoc (aiOf ll y2.1) _ _ (hn1'.fr hfs hnG) (hn2'.fr hfs hnG) (hcs2.fr hfs hnG)
        have hvx2 : Hd (codeX M heads fR len len x1 = contC (done ++ [aiOf ll y2.1]) (codeX M heads fR len (len - (k + 1)) y2)) := by
          unfold Hd
          rw [hvx.out, hstep.out]
          have := contC_cons M heads fR len (len - k - 1) done y y2 ll (by rw [hidx.out]; exact HIX.out)
          rw [this, show len - (k + 1) = len - k - 1 by omega]
        refine ⟨⟨k + 1, done ++ [aiOf ll y2.1], y2, .slice a1 l1 c1, .slice a2 l2 c2, cs ++ [vI y2.1.op, vI y2.1.r, vI y2.1.s, vI y2.1.t, vI y2.1.n, .slice a1 l1 c1, .slice a2 l2 c2], by omega, by simp, by simp [hdl], hon3, hky'.trans ((show Kept2 y.1 (blank y.1) from ⟨rfl, rfl, rfl, rfl, rfl, rfl, rfl, rfl⟩).trans (instrX_kept HIX.out)), (hfy.trans (hf72.mono (fun _ _ h => Or.inl h))).trans (hfs.mono (fun _ _ h => Or.inr h)), ?_, hcs3, hvx2⟩, by simp; omega⟩
        unfold Hd
        rw [show len - (k + 1) = len - k - 1 by omega]
        exact hsets
    · have hkl : k = len := by omega
      have hvl : Hd (codeX M heads fR len len x1 = .ok (done, y)) := by
        unfold Hd; rw [hvx.out, show len - k = 0 by omega]; simp [codeX, contC]
      clear hvx
      go_wp2_with fail
      go_ret
      refine ⟨⟨hfy.os.trans hfl.os, hfy.tape.trans hfl.tape, hfy.output.trans hfl.output, Nat.le_trans hfl.size hfy.size, fun j hj hS => by
        rw [hfy.block j (Nat.lt_of_lt_of_le hj hfl.size) (fun h => h.elim hS (fun e => by omega)), hfl.block j hj hS]⟩, ?_⟩
      rw [hvl.out]
      refine ⟨g, cs, av, rv, by omega, rfl, ?_, hcy.out.mono hfl.size, hony⟩
      rw [hgy.out, show len - k = 0 by omega]
      simp [z7s]
set_option maxRecDepth 100000
set_option maxHeartbeats 1000000
def magicL : List UInt8 := [102, 117, 103, 117, 101, 1]
theorem foldl_push (l : List UInt8) (s : ByteArray) : (l.map (fun u => (u.toNat : Int))).foldl (fun r n => r.push (UInt8.ofNat n.toNat)) s = ⟨s.data ++ l.toArray⟩ := by
  induction l generalizing s with
  | nil => simp
  | cons u r ih =>
    simp only [List.map_cons, List.foldl_cons]
    rw [ih]
    have : (s.push (UInt8.ofNat (u.toNat : Int).toNat)) = ⟨s.data.push u⟩ := by
      simp [ByteArray.push]
    rw [this]
    simp
theorem run_bytes_string (w : World) (k o c : Nat) (l : List UInt8) (h : ∀ i, (hi : i < l.length) → w.cell? ⟨k, o + i, none⟩ = some (.int .u8 l[i].toNat)) :
    (convert 22 9 (.slice (some ⟨k, o, none⟩) l.length c)).run Tryd.prog w = .ok (.string ⟨l.toArray⟩) w := by
  rw [run_convert_bytes_string w 22 9 5 _ _ _ Tryd.underlying22 (by kernel_rfl) (by kernel_rfl)]
  have hl := run_loadCells_list (P := Tryd.prog) w ⟨k, o, none⟩ ((l.map (fun u => (u.toNat : Int))).map (Value.int .u8)) (fun j v hv => by
    have hadd : (⟨k, o, none⟩ : Addr).add j = ⟨k, o + j, none⟩ := by unfold Addr.add; split <;> simp_all
    rw [hadd]
    simp only [List.getElem?_map, Option.map_eq_some_iff] at hv
    obtain ⟨n, ⟨u, hu, rfl⟩, rfl⟩ := hv
    obtain ⟨hj, rfl⟩ := List.getElem?_eq_some_iff.1 hu
    exact h j hj)
  simp only [List.length_map] at hl
  rw [run_bytesToString w ⟨k, o, none⟩ l.length c (l.map (fun u => (u.toNat : Int))) hl, foldl_push]
  simp
theorem begins_any (k o c : Nat) (bs : List UInt8) (hc : bs.length ≤ c) (hn' : bs.length ≤ 1000000000000000) (h0 : 1 ≤ bs.length) (w : World) (hk : k < w.heap.size) (hcell : ∀ i, (h : i < bs.length) → w.cell? ⟨k, o + i, none⟩ = some (.int .u8 bs[i].toNat)) :
    Calls Tryd.prog 60 #[.agg #[.slice (some ⟨k, o, none⟩) bs.length c]] w fun e w' =>
      (if bs.take 6 = magicL.take bs.length then e = .returned (.tuple #[]) else e = .panicked (viol 10 0)) ∧ w' = (w.alloc (.cells #[.slice (some ⟨k, o, none⟩) bs.length c] 45)).drew := by
  by_cases h6 : 6 < bs.length
  · have hm : (6 : Int) < bs.length := by omega
    have e6 : magicL.take bs.length = ((⟨#[102, 117, 103, 117, 101, 1]⟩ : ByteArray).extract 0 6).toList := by
      rw [List.take_of_length_le (by simp [magicL]; omega)]; kernel_rfl
    have hcv := run_bytes_string ((w.alloc (.cells #[.slice (some ⟨k, o, none⟩) bs.length c] 45)).drew) k o c (bs.take 6) (fun i hi => by
      rw [World.cell?_drew, World.cell?_alloc_past _ _ _ hk]; simp only [List.getElem_take]; exact hcell i (by simp at hi; omega))
    rw [show (bs.take 6).length = 6 by simp; omega] at hcv
    have hs1 : ¬ ((c : Int) < 6) := by omega
    have hs2 : ¬ c = 0 := by omega
    have hs3 : (6 : Int) ≤ c := by omega
    have hcr : (w.alloc (.cells #[.slice (some ⟨k, o, none⟩) bs.length c] 45)).cell? ⟨w.heap.size, 0, none⟩ = some (.slice (some ⟨k, o, none⟩) bs.length c) := by simp
    by_cases hmg : bs.take 6 = magicL.take bs.length
    · have hbb : (List.take 6 bs == ((⟨#[102, 117, 103, 117, 101, 1]⟩ : ByteArray).extract 0 6).toList) = true := by rw [hmg, e6]; simp
      simp only [if_pos hmg]
      clear hmg
      go_enter Tryd.func60, Tryd.ntmps60
      go_wp2_with fail
      generalize hwa : (w.alloc (.cells #[.slice (some ⟨k, o, none⟩) bs.length c] 45)) = wa at hcv hcr ⊢
      have Hwa : Hd (w.alloc (.cells #[.slice (some ⟨k, o, none⟩) bs.length c] 45) = wa) := hwa
      clear hwa
      refine wp_region_still_tail 8 mixed (by kernel_rfl) ?_
      simp only [List.take_succ_cons, List.take_zero, List.drop_succ_cons, List.drop_zero]
      repeat still_step
      refine wpStill_nil ?_
      go_wp2_with fail
      refine (must_true 10 0 _).mono ?_
      rintro e w' ⟨rfl, rfl⟩
      go_wp2_with fail
      go_end0
      exact ⟨rfl, by rw [Hwa.out]⟩
    · have hbb : (List.take 6 bs == ((⟨#[102, 117, 103, 117, 101, 1]⟩ : ByteArray).extract 0 6).toList) = false := by
        rw [← e6]; simpa using hmg
      simp only [if_neg hmg]
      clear hmg
      go_enter Tryd.func60, Tryd.ntmps60
      go_wp2_with fail
      generalize hwa : (w.alloc (.cells #[.slice (some ⟨k, o, none⟩) bs.length c] 45)) = wa at hcv hcr ⊢
      have Hwa : Hd (w.alloc (.cells #[.slice (some ⟨k, o, none⟩) bs.length c] 45) = wa) := hwa
      clear hwa
      refine wp_region_still_tail 8 mixed (by kernel_rfl) ?_
      simp only [List.take_succ_cons, List.take_zero, List.drop_succ_cons, List.drop_zero]
      repeat still_step
      refine wpStill_nil ?_
      go_wp2_with fail
      refine (must_false 10 0 _).mono ?_
      rintro e w' ⟨rfl, rfl⟩
      go_wp2_with fail
      exact ⟨rfl, rfl, by rw [Hwa.out]⟩
  · have hm : ((bs.length : Nat) : Int) ≤ 6 := by omega
    have h6' : bs.length ≤ 6 := by omega
    have e6 : magicL.take bs.length = ((⟨#[102, 117, 103, 117, 101, 1]⟩ : ByteArray).extract 0 bs.length).toList := by
      have : ∀ n, n ≤ 6 → magicL.take n = ((⟨#[102, 117, 103, 117, 101, 1]⟩ : ByteArray).extract 0 n).toList := by
        intro n hn
        have : n = 0 ∨ n = 1 ∨ n = 2 ∨ n = 3 ∨ n = 4 ∨ n = 5 ∨ n = 6 := by omega
        have t0 : magicL.take 0 = ((⟨#[102, 117, 103, 117, 101, 1]⟩ : ByteArray).extract 0 0).toList := by kernel_rfl
        have t1 : magicL.take 1 = ((⟨#[102, 117, 103, 117, 101, 1]⟩ : ByteArray).extract 0 1).toList := by kernel_rfl
        have t2 : magicL.take 2 = ((⟨#[102, 117, 103, 117, 101, 1]⟩ : ByteArray).extract 0 2).toList := by kernel_rfl
        have t3 : magicL.take 3 = ((⟨#[102, 117, 103, 117, 101, 1]⟩ : ByteArray).extract 0 3).toList := by kernel_rfl
        have t4 : magicL.take 4 = ((⟨#[102, 117, 103, 117, 101, 1]⟩ : ByteArray).extract 0 4).toList := by kernel_rfl
        have t5 : magicL.take 5 = ((⟨#[102, 117, 103, 117, 101, 1]⟩ : ByteArray).extract 0 5).toList := by kernel_rfl
        have t6 : magicL.take 6 = ((⟨#[102, 117, 103, 117, 101, 1]⟩ : ByteArray).extract 0 6).toList := by kernel_rfl
        rcases this with rfl | rfl | rfl | rfl | rfl | rfl | rfl
        · exact t0
        · exact t1
        · exact t2
        · exact t3
        · exact t4
        · exact t5
        · exact t6
      exact this _ h6'
    have hcv := run_bytes_string ((w.alloc (.cells #[.slice (some ⟨k, o, none⟩) bs.length c] 45)).drew) k o c (bs.take 6) (fun i hi => by
      rw [World.cell?_drew, World.cell?_alloc_past _ _ _ hk]; simp only [List.getElem_take]; exact hcell i (by simp at hi; omega))
    rw [show (bs.take 6).length = bs.length by simp; omega] at hcv
    have hs1 : ¬ ((c : Int) < bs.length) := by omega
    have hs2 : ¬ c = 0 := by omega
    have hs3 : (bs.length : Int) ≤ c := by omega
    have hcr : (w.alloc (.cells #[.slice (some ⟨k, o, none⟩) bs.length c] 45)).cell? ⟨w.heap.size, 0, none⟩ = some (.slice (some ⟨k, o, none⟩) bs.length c) := by simp
    by_cases hmg : bs.take 6 = magicL.take bs.length
    · have hbb : (List.take 6 bs == ((⟨#[102, 117, 103, 117, 101, 1]⟩ : ByteArray).extract 0 bs.length).toList) = true := by rw [hmg, e6]; simp
      simp only [if_pos hmg]
      clear hmg
      go_enter Tryd.func60, Tryd.ntmps60
      go_wp2_with fail
      generalize hwa : (w.alloc (.cells #[.slice (some ⟨k, o, none⟩) bs.length c] 45)) = wa at hcv hcr ⊢
      have Hwa : Hd (w.alloc (.cells #[.slice (some ⟨k, o, none⟩) bs.length c] 45) = wa) := hwa
      clear hwa
      refine wp_region_still_tail 8 mixed (by kernel_rfl) ?_
      simp only [List.take_succ_cons, List.take_zero, List.drop_succ_cons, List.drop_zero]
      repeat still_step
      refine wpStill_nil ?_
      go_wp2_with fail
      refine (must_true 10 0 _).mono ?_
      rintro e w' ⟨rfl, rfl⟩
      go_wp2_with fail
      go_end0
      exact ⟨rfl, by rw [Hwa.out]⟩
    · have hbb : (List.take 6 bs == ((⟨#[102, 117, 103, 117, 101, 1]⟩ : ByteArray).extract 0 bs.length).toList) = false := by
        rw [← e6]; simpa using hmg
      simp only [if_neg hmg]
      clear hmg
      go_enter Tryd.func60, Tryd.ntmps60
      go_wp2_with fail
      generalize hwa : (w.alloc (.cells #[.slice (some ⟨k, o, none⟩) bs.length c] 45)) = wa at hcv hcr ⊢
      have Hwa : Hd (w.alloc (.cells #[.slice (some ⟨k, o, none⟩) bs.length c] 45) = wa) := hwa
      clear hwa
      refine wp_region_still_tail 8 mixed (by kernel_rfl) ?_
      simp only [List.take_succ_cons, List.take_zero, List.drop_succ_cons, List.drop_zero]
      repeat still_step
      refine wpStill_nil ?_
      go_wp2_with fail
      refine (must_false 10 0 _).mono ?_
      rintro e w' ⟨rfl, rfl⟩
      go_wp2_with fail
      exact ⟨rfl, rfl, by rw [Hwa.out]⟩
structure HD where
  P : Int
  R : Int
  V : Int
  len : Int
def hdOf (s : WS) : HD := ⟨s.fP, s.fR, s.fV, s.len⟩
def headsX {b : Nat} (M : Mode b) : Nat → WS × M.σ → X (List HD × (WS × M.σ))
  | 0, x => .ok ([], x)
  | m + 1, x => match headX M x with
    | .error z => .error z
    | .ok y => match headsX M m y with
      | .error z => .error z
      | .ok (l, y') => .ok (hdOf y.1 :: l, y')
def contH {α : Type} (done : List HD) : X (List HD × α) → X (List HD × α)
  | .ok (vs, y) => .ok (done ++ vs, y)
  | .error z => .error z
theorem contH_nil {α : Type} (r : X (List HD × α)) : contH [] r = r := by cases r <;> simp [contH]
theorem contH_cons {b : Nat} (M : Mode b) (m : Nat) (done : List HD) (x y : WS × M.σ) (h : headX M x = .ok y) :
    contH done (headsX M (m + 1) x) = contH (done ++ [hdOf y.1]) (headsX M m y) := by
  simp only [headsX, h]
  cases headsX M m y with
  | error z => rfl
  | ok p => simp [contH]
structure KeptH (s s' : WS) : Prop where
  num : s'.num = s.num
  globals : s'.globals = s.globals
  funcs : s'.funcs = s.funcs
  fC : s'.fC = s.fC
  args : s'.args = s.args
  rets : s'.rets = s.rets
  count : s'.count = s.count
theorem KeptH.refl (s : WS) : KeptH s s := ⟨rfl, rfl, rfl, rfl, rfl, rfl, rfl⟩
theorem KeptH.trans {a b c : WS} (h : KeptH a b) (k : KeptH b c) : KeptH a c :=
  ⟨k.num.trans h.num, k.globals.trans h.globals, k.funcs.trans h.funcs, k.fC.trans h.fC, k.args.trans h.args, k.rets.trans h.rets, k.count.trans h.count⟩
theorem nextX_keptH {b : Nat} {M : Mode b} {o size : Nat} {x y : WS × M.σ} (ho : o = 149 ∨ o = 150 ∨ o = 151 ∨ o = 153) (h : nextX M o size x = .ok y) : KeptH x.1 y.1 := by
  obtain ⟨v, st, rfl⟩ := nextX_num h
  rcases ho with rfl | rfl | rfl | rfl <;> exact ⟨rfl, rfl, rfl, rfl, rfl, rfl, rfl⟩
theorem headOk_ok {s : WS} {p : Int} {u : Unit} (h : headOk s p = .ok u) : (0 ≤ s.fV ∧ s.fV ≤ 255) ∧ (0 ≤ s.fP ∧ s.fP ≤ (if s.fV < 8 then s.fV else 8)) ∧ (0 ≤ s.fR ∧ s.fR ≤ 4) ∧ s.len ≤ 4096 ∧ 0 < s.len := by
  unfold headOk at h
  by_cases a1 : 0 ≤ s.fV ∧ s.fV ≤ 255
  · rw [if_neg (Decidable.not_not.2 a1)] at h
    by_cases a2 : 0 ≤ s.fP ∧ s.fP ≤ (if s.fV < 8 then s.fV else 8)
    · rw [if_neg (Decidable.not_not.2 a2)] at h
      by_cases a3 : 0 ≤ s.fR ∧ s.fR ≤ 4
      · rw [if_neg (Decidable.not_not.2 a3)] at h
        by_cases a4 : s.len ≤ 4096
        · rw [if_neg (Decidable.not_not.2 a4)] at h
          by_cases a5 : 0 < s.len
          · exact ⟨a1, a2, a3, a4, a5⟩
          · rw [if_pos a5] at h; cases h
        · rw [if_pos a4] at h; cases h
      · rw [if_pos a3] at h; cases h
    · rw [if_pos a2] at h; cases h
  · rw [if_pos a1] at h; cases h
theorem headX_ok {b : Nat} {M : Mode b} {x y : WS × M.σ} (h : headX M x = .ok y) : KeptH x.1 y.1 ∧ (0 ≤ y.1.fV ∧ y.1.fV ≤ 255) ∧ (0 ≤ y.1.fP ∧ y.1.fP ≤ 8) ∧ (0 ≤ y.1.fR ∧ y.1.fR ≤ 4) ∧ 0 < y.1.len ∧ y.1.len ≤ 4096 := by
  simp only [headX, bind, Except.bind] at h
  split at h
  · cases h
  · rename_i y1 h1
    split at h
    · cases h
    · rename_i y2 h2
      split at h
      · cases h
      · rename_i y3 h3
        split at h
        · cases h
        · rename_i y4 h4
          split at h
          · cases h
          · rename_i u h5
            have k := (((nextX_keptH (by simp) h1).trans (nextX_keptH (by simp) h2)).trans (nextX_keptH (by simp) h3)).trans (nextX_keptH (by simp) h4)
            unfold locX at h
            split at h
            · cases h
              have a := headOk_ok h5
              refine ⟨⟨k.num, k.globals, k.funcs, k.fC, k.args, k.rets, k.count⟩, a.1, ?_, a.2.2.1, a.2.2.2.2, a.2.2.2.1⟩
              have e : (if y4.1.fV < 8 then y4.1.fV else 8) ≤ 8 := by split <;> omega
              exact ⟨a.2.1.1, Int.le_trans a.2.1.2 e⟩
            · cases h
theorem rows_apart {w : World} {B e1 e2 s1 s2 n1 n2 : Nat} {v1 v2 : Value} {x1 x2 : List Value} (h1 : w.ownsRow B e1 s1 v1 n1 x1) (h2 : w.ownsRow B e2 s2 v2 n2 x2) (he : e1 ≠ e2) : v1.ownBlock = none ∨ v1.ownBlock ≠ v2.ownBlock := by
  rcases h1.2 with ⟨rfl, -⟩ | ⟨g1, c1, cur1, rfl, -, hb1, -⟩
  · exact Or.inl rfl
  · rcases h2.2 with ⟨rfl, -⟩ | ⟨g2, c2, cur2, rfl, -, hb2, -⟩
    · exact Or.inr (by simp [Value.ownBlock])
    · refine Or.inr (fun e => he ?_)
      simp only [Value.ownBlock, Option.some.injEq] at e
      subst e
      rw [hb1] at hb2
      cases hb2
      rfl
theorem grown_fr {w w' : World} {row : Option Nat} (h : w.grownBy w' row) : Fr (fun k => row = some k) w w' :=
  ⟨h.os, h.tape, h.output, h.size, fun k hk hS => h.block k hk (fun e => hS e.symm)⟩
end Go.Proofs.YtingenonbkencaaDoor
