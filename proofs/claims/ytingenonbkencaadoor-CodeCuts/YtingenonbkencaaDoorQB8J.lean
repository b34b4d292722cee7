import Derived.Test.YtingenonbkencaaDoorQB5J
import Derived.Laws.MakeOwn
set_option linter.unusedVariables false
set_option linter.unusedSimpArgs false
namespace Go.Proofs.YtingenonbkencaaDoor
open Go.RowKit (wrap32 wrap64)
set_option maxRecDepth 100000
set_option maxHeartbeats 2000000
theorem run_make_of (t e : TypeId) (z : Value) (size bytes : Nat) (ht : Tryd.prog.underlying t = some (.slice e)) (hz : (Tryd.prog.info? e).map (·.zero) = some (some z)) (hs : (Tryd.prog.info? e).map (·.size) = some size) (hb : (Tryd.prog.info? e).map (·.bytes) = some bytes)
    (n : Nat) (hn : bytes * n ≤ 281474976710656) (hn' : n ≤ 1000000000000000) (w : World) :
    (Instr.makeSlice t (.int .i64 n) (.int .i64 n)).run Tryd.prog w = .ok (.slice (some ⟨w.heap.size, 0, none⟩) n n) (w.alloc (.cells (madeCells z.cells (n * size)) e)) := by
  cases hi : Tryd.prog.info? e with
  | none => rw [hi] at hz; cases hz
  | some i =>
    rw [hi] at hz hs hb
    simp only [Option.map_some, Option.some.injEq] at hz hs hb
    have := run_make (P := Tryd.prog) w t e i z ht hi hz .i64 .i64 n n (by omega) (by omega) (by rw [hb, ← Int.natCast_mul]; omega) (by omega)
    rw [this, hs]
    simp
def zeros (n : Nat) : Array Value := madeCells #[vI 0] n
theorem zeros_eq (n : Nat) : zeros n = ((List.replicate n 0).map vI).toArray := by
  unfold zeros madeCells
  apply Array.ext
  · simp
  · intro i h1 h2
    simp [Nat.mod_one]
theorem run_make64 (n : Nat) (hn : n ≤ 255) (w : World) : (Instr.makeSlice 64 (.int .i64 n) (.int .i64 n)).run Tryd.prog w = .ok (.slice (some ⟨w.heap.size, 0, none⟩) n n) (w.alloc (.cells (zeros n) 3)) := by
  rw [run_make_of 64 3 (vI 0) 1 8 Tryd.underlying64 (by kernel_rfl) (by kernel_rfl) (by kernel_rfl) n (by omega) (by omega) w, Nat.mul_one]
  rfl
theorem whole_block (vs : List Value) (w : World) (pk n : Nat) (hb : w.heap[pk]? = some (.cells (zeros n) 3)) (hl : vs.length = n) : (w.setCells pk 0 vs).heap[pk]? = some (.cells vs.toArray 3) := by
  have key : ∀ (vs : List Value) (o : Nat) (w : World) (cs : Array Value), w.heap[pk]? = some (.cells cs 3) → o + vs.length ≤ cs.size →
      ∃ cs', (w.setCells pk o vs).heap[pk]? = some (.cells cs' 3) ∧ cs'.toList = cs.toList.take o ++ vs ++ cs.toList.drop (o + vs.length) := by
    intro vs
    induction vs with
    | nil => intro o w cs h _; exact ⟨cs, h, by simp⟩
    | cons v r ih =>
      intro o w cs h hle
      simp only [List.length_cons] at hle
      have hset : (w.setCell ⟨pk, o, none⟩ v).heap[pk]? = some (.cells (cs.setIfInBounds o v) 3) := by
        unfold World.setCell
        simp only [Array.getElem?_modify]
        rw [if_pos trivial, h]
        simp
      obtain ⟨cs', h1, h2⟩ := ih (o + 1) _ _ hset (by simp; omega)
      refine ⟨cs', h1, ?_⟩
      rw [h2]
      have ho : o < cs.toList.length := by simp; omega
      simp only [Array.toList_setIfInBounds, List.length_cons]
      rw [List.take_set, List.drop_set_of_lt (by omega)]
      have hs : (List.take o cs.toList ++ [cs.toList[o]]).set o v = List.take o cs.toList ++ [v] := by
        rw [List.set_append, if_neg (by simp; omega)]
        simp
        rw [Nat.min_eq_left (by simp at ho; omega)]
        simp
      rw [List.take_succ_eq_append_getElem ho, hs, show o + 1 + r.length = o + (r.length + 1) by omega]
      simp
  obtain ⟨cs', h1, h2⟩ := key vs 0 w (zeros n) hb (by rw [zeros_eq]; simp; omega)
  rw [h1]
  have : cs'.toList = vs := by
    rw [h2, zeros_eq]; simp [hl]
  rw [← this]
theorem oneX_setL {b : Nat} (M : Mode b) (o : Nat) (v : Value) (old : Int) (s : WS) (st : M.σ) :
    oneX M old (s.setL o v, st) = match oneX M old (s, st) with | .ok (u, y) => .ok (u, (y.1.setL o v, y.2)) | .error z => .error z := by
  by_cases h : o = 159
  · have e : ∀ s : WS, s.setL o v = { s with args := v } := fun s => by unfold WS.setL; rw [if_pos h]
    simp only [e, oneX]
    cases M.eff st s.at' 1 old with
    | error z => rfl
    | ok q =>
      obtain ⟨u, st'⟩ := q
      simp only
      split <;> rfl
  · have e : ∀ s : WS, s.setL o v = { s with rets := v } := fun s => by unfold WS.setL; rw [if_neg h]
    simp only [e, oneX]
    cases M.eff st s.at' 1 old with
    | error z => rfl
    | ok q =>
      obtain ⟨u, st'⟩ := q
      simp only
      split <;> rfl
theorem varsX_setL {b : Nat} (M : Mode b) (o : Nat) (v : Value) : ∀ (l : List Int) (s : WS) (st : M.σ),
    varsX M l (s.setL o v, st) = match varsX M l (s, st) with | .ok (vs, y) => .ok (vs, (y.1.setL o v, y.2)) | .error z => .error z
  | [], s, st => rfl
  | old :: r, s, st => by
    simp only [varsX, oneX_setL M o v old s st]
    cases oneX M old (s, st) with
    | error z => rfl
    | ok q =>
      obtain ⟨u, y⟩ := q
      simp only
      rw [varsX_setL M o v r y.1 y.2]
      cases varsX M r y with
      | error z => rfl
      | ok p => rfl
theorem list_make {b : Nat} (M : Mode b) (hN : NextOwn M) (hO : NextOther M) (o n : Nat) (ho : o = 159 ∨ o = 160) (x : WS × M.σ) (w : World) (h : On M w x) (a : Option Addr) (c : Nat) (l0 : List Int)
    (hsl : x.1.getL o = .slice a l0.length c) (hL : l0.length ≠ n) (hn : n ≤ 255) (hnew : ∀ y, nextX M 161 1 ({ x.1 with count := l0.length }, x.2) = .ok y → y.1.count = n → ∀ k, w.heap.size ≤ k → ¬ M.S k ∧ ¬ M.N k) (hl0 : l0.length ≤ 1000000000000000) (hnz : n ≠ 0) :
    Calls Tryd.prog 100 #[.pointer (some ⟨b, 0, none⟩), .pointer (some ⟨b, o, none⟩), .int .i64 n] w (EndsM M w o n (listX M n l0 x)) := by
  have hmk := run_make64 n hn
  have hcl : w.cell? ⟨b, o, none⟩ = some (.slice a l0.length c) := by rw [h.1.cell, cells_getL _ _ ho, hsl]
  have hc161 : w.cell? ⟨b, 161, none⟩ = some (vI x.1.count) := h.1.facts.2.2.2.2.2.2.2.2.2.2.2.2.2.2.2.2.2
  have hz161 := h.1.frozen 161
  have hf0 : Fr (· = b) w (w.setCell ⟨b, 161, none⟩ (vI l0.length)) := Fr.setCell (Fr.refl (fun k => k = b) w) _ _ (Or.inl rfl)
  have hli0 : Lies (w.setCell ⟨b, 161, none⟩ (vI l0.length)) b { x.1 with count := l0.length } := h.1.setCell 161 _ (cells_set _ 161 _ (by simp [places]))
  have hon0 : On M (w.setCell ⟨b, 161, none⟩ (vI l0.length)) ({ x.1 with count := l0.length }, x.2) := h.fr hf0 hli0 rfl rfl
  have hb := h.1.lt
  go_enter Tryd.func100, Tryd.ntmps100
  go_wp2_with fail
  refine (hN 161 (by simp [places]) ({ x.1 with count := l0.length }, x.2) 1 _ hon0 (by omega) (by omega)).mono ?_
  rintro e w1 ⟨hf1, hres⟩
  have hfa : Fr M.SB w w1 := (hf0.mono (fun k _ hk => Or.inl hk)).trans hf1
  cases hx1 : nextX M 161 1 ({ x.1 with count := l0.length }, x.2) with
  | error z =>
    simp only [hx1] at hres
    subst hres
    go_wp2_with fail
    refine ⟨rfl, hfa, ?_⟩
    simp only [listX, hx1]
  | ok y0 =>
  simp only [hx1] at hres
  obtain ⟨rfl, hon1⟩ := hres
  have hcc : w1.cell? ⟨b, 161, none⟩ = some (vI y0.1.count) := hon1.1.facts.2.2.2.2.2.2.2.2.2.2.2.2.2.2.2.2.2
  have hyL : y0.1.getL o = .slice a l0.length c := by
    obtain ⟨v, st, rfl⟩ := nextX_num hx1
    rcases ho with rfl | rfl <;> exact hsl
  have hcl1 : w1.cell? ⟨b, o, none⟩ = some (.slice a l0.length c) := by rw [hon1.1.cell, cells_getL _ _ ho, hyL]
  have HL : Hd (listX M n l0 x = if y0.1.count = n then varsX M (List.replicate n 0) y0 else .error (15, x.1.at')) := by
    unfold Hd; simp only [listX, hx1, if_neg hL]
  have hnew' := hnew y0 hx1
  clear hx1 hnew
  by_cases hm : y0.1.count = n
  rotate_left
  · have hm' : (y0.1.count == ((n : Nat) : Int)) = false := by simpa using hm
    have HM : Hd (¬ y0.1.count = n) := hm
    clear hm hnew'
    go_wp2_with fail
    refine (must_false 15 x.1.at' _).mono ?_
    rintro e w' ⟨rfl, rfl⟩
    go_wp2_with fail
    refine ⟨rfl, hfa, ?_⟩
    rw [HL.out, if_neg HM.out]
  have hm' : (y0.1.count == ((n : Nat) : Int)) = true := by simpa using hm
  have HLV0 : Hd (listX M n l0 x = varsX M (List.replicate n 0) y0) := by unfold Hd; rw [HL.out, if_pos hm]
  have hnew := hnew' hm
  have hLb : ((l0.length : Int) != (n : Int)) = true := by rw [bne_iff_ne]; omega
  have hzo := hon1.1.frozen o
  have hb1 := hon1.1.lt
  clear hm HL hnew'
  go_wp2_with fail
  refine (must_true 15 x.1.at' _).mono ?_
  rintro e w' ⟨rfl, rfl⟩
  go_wp2_with fail
  generalize hpk : w'.heap.size = pk
  have hfl : Fr (fun k => k = b) w' ((w'.setCell ⟨b, o, none⟩ (.slice (some ⟨pk, 0, none⟩) n n)).alloc (.cells (zeros n) 3)) := Fr.alloc (Fr.setCell (Fr.refl (fun k => k = b) w') _ _ (Or.inl rfl)) _
  have honl : On M ((w'.setCell ⟨b, o, none⟩ (.slice (some ⟨pk, 0, none⟩) n n)).alloc (.cells (zeros n) 3)) (y0.1.setL o (.slice (some ⟨pk, 0, none⟩) n n), y0.2) :=
    hon1.fr hfl (Lies.alloc (hon1.1.setCell o _ (cells_setL _ _ _ ho)) _) (setL_num _ _ _) (setL_at _ _ _)
  have hpblk : ((w'.setCell ⟨b, o, none⟩ (.slice (some ⟨pk, 0, none⟩) n n)).alloc (.cells (zeros n) 3)).heap[pk]? = some (.cells (zeros n) 3) := by
    have := heap_alloc_last (w'.setCell ⟨b, o, none⟩ (.slice (some ⟨pk, 0, none⟩) n n)) (.cells (zeros n) 3)
    rw [World.size_setCell, hpk] at this
    exact this
  generalize ((w'.setCell ⟨b, o, none⟩ (.slice (some ⟨pk, 0, none⟩) n n)).alloc (.cells (zeros n) 3)) = wl at *
  have hfwl : Fr M.SB w wl := hfa.trans (hfl.mono (fun k _ hk => Or.inl hk))
  have hpw : w.heap.size ≤ pk := by have := hfa.size; omega
  have hpkb0 : pk ≠ b := by omega
  obtain ⟨hpS0, hpN0⟩ := hnew pk hpw
  have hn0x : n ≠ 0 := hnz
  have hI1 : Ints wl pk 0 (List.replicate n 0) := fun i hi => by
    have hi' : i < n := by simpa using hi
    constructor
    · unfold World.cell?; simp only [hpblk]; rw [zeros_eq]; simp [hi']
    · unfold World.frozen?; simp only [hpblk]; simp
  have hyy : Hd ((y0.1.setL o (.slice (some ⟨pk, 0, none⟩) n n), y0.2) = (y0.1.setL o (.slice (some ⟨pk, 0, none⟩) n n), y0.2)) := rfl
  have HERR : Hd (∀ er, varsX M (List.replicate n 0) (y0.1.setL o (.slice (some ⟨pk, 0, none⟩) n n), y0.2) = .error er → listX M n l0 x = .error er) := by
    intro er he
    rw [HLV0.out]
    rw [varsX_setL M o _ (List.replicate n 0) y0.1 y0.2] at he
    cases hvv : varsX M (List.replicate n 0) y0 with
    | error z => rw [show (y0.1, y0.2) = y0 from rfl, hvv] at he; exact he
    | ok q => rw [show (y0.1, y0.2) = y0 from rfl, hvv] at he; cases he
  have hyL2 : (y0.1.setL o (.slice (some ⟨pk, 0, none⟩) n n)).getL o = .slice (some ⟨pk, 0, none⟩) n n := getL_setL _ _ _
  clear hyL hcl1 hcc hzo hmk hcl hc161 hz161 hli0 hon0 hf1 hf0
  generalize hy : (y0.1.setL o (.slice (some ⟨pk, 0, none⟩) n n), y0.2) = y at *
  have hyL : y.1.getL o = .slice (some ⟨pk, 0, none⟩) n n := by rw [← hy]; exact hyL2
  have Hyy : Hd (y = (y0.1.setL o (.slice (some ⟨pk, 0, none⟩) n n), y0.2)) := hy.symm
  clear hy hyL2 hyy
  have hyy := Hyy
  go_loopw [42] (fun i wr => ∃ (k : Nat) (done : List Int) (z : WS × M.σ), k ≤ n ∧ i = .int .i64 k ∧ done.length = k ∧ On M wr z ∧ Hd (z.1 = { y.1 with at' := z.1.at' }) ∧ Fr (fun j => M.SB j ∨ j = pk) wl wr ∧
      Hd (n ≠ 0 → wr.heap[pk]? = (wl.setCells pk 0 (done.map vI)).heap[pk]?) ∧ Hd (varsX M (List.replicate n 0) y = contX done (varsX M ((List.replicate n 0).drop k) z))) (fun i _ => match i with | .int _ q => n - q.toNat | _ => 0)
  case atStart => exact ⟨0, [], y, Nat.zero_le _, rfl, rfl, honl, rfl, Fr.refl _ _, fun _ => rfl, by unfold Hd; rw [contX_nil]; rfl⟩
  case round =>
    obtain ⟨k, done, z, hk, rfl, hdl, honz, hz1, hfz, hblk, hvx⟩ := hrel
    have hclz : wr.cell? ⟨b, o, none⟩ = some (.slice (some ⟨pk, 0, none⟩) n n) := by
      rw [honz.1.cell, cells_getL _ _ ho, hz1.out, getL_at, hyL]
    by_cases hlt : k < n
    · have hpkb := hpkb0; have hpS := hpS0; have hpN := hpN0
      have hne : n ≠ 0 := by omega
      have hce : wr.cell? ⟨pk, 0 + k, none⟩ = some (vI 0) := by
        rw [World.cell?_of_block (a := ⟨pk, 0 + k, none⟩) (hblk.out hne), World.cell?_setCells_out _ _ _ _ _ (fun _ _ => Or.inr (by simp; omega))]
        have := (hI1 k (by simpa using hlt)).1
        rwa [List.getElem_replicate] at this
      have hfe : wr.frozen? ⟨pk, 0 + k, none⟩ = false := by
        rw [World.frozen?_of_block (a := ⟨pk, 0 + k, none⟩) (hblk.out hne), World.frozen?_setCells]
        simpa using (hI1 k (by simpa using hlt)).2
      have hdrop : Hd ((List.replicate n (0 : Int)).drop k = 0 :: (List.replicate n 0).drop (k + 1)) := by
        unfold Hd; rw [List.drop_eq_getElem_cons (by simpa using hlt)]; simp
      have hcdz := variable_other M hO pk (0 + k) hpkb hpS hpN z 0 wr honz hce hfe
      rw [Nat.zero_add] at hcdz
      go_wp2_with fail
      refine hcdz.mono ?_
      rintro e w2 ⟨hf2, hres⟩
      cases hox : oneX M 0 z with
      | error er =>
        simp only [hox] at hres
        subst hres
        go_wp2_with fail
        refine ⟨rfl, (show Fr M.SB w w2 from ⟨hf2.os.trans (hfz.os.trans hfwl.os), hf2.tape.trans (hfz.tape.trans hfwl.tape), hf2.output.trans (hfz.output.trans hfwl.output), Nat.le_trans hfwl.size (Nat.le_trans hfz.size hf2.size), fun j hj hS => by
          rw [hf2.block j (Nat.lt_of_lt_of_le hj (Nat.le_trans hfwl.size hfz.size)) (fun h => h.elim hS (fun e => by omega)), hfz.block j (Nat.lt_of_lt_of_le hj hfwl.size) (fun h => h.elim hS (fun e => by omega)), hfwl.block j hj hS]⟩), ?_⟩
        rw [HERR.out er (by rw [hvx.out, hdrop.out]; simp only [varsX, hox, contX])]
      | ok vz =>
        obtain ⟨v, z2⟩ := vz
        simp only [hox] at hres
        obtain ⟨rfl, hon2, hb2⟩ := hres
        have hz2 : Hd (z2.1 = { y.1 with at' := z2.1.at' }) := by
          unfold Hd
          unfold oneX at hox
          split at hox
          · split at hox
            · have := (Prod.mk.inj (Except.ok.inj hox)).2
              rw [← this]
              simp only
              rw [hz1.out]
            · cases hox
          · cases hox
        have hvx2 : Hd (varsX M (List.replicate n 0) y = contX (done ++ [v]) (varsX M ((List.replicate n 0).drop (k + 1)) z2)) := by
          unfold Hd; rw [hvx.out, hdrop.out]; exact contX_cons M done 0 _ z z2 v hox
        have hb3 : Hd (n ≠ 0 → w2.heap[pk]? = (wl.setCells pk 0 ((done ++ [v]).map vI)).heap[pk]?) := fun _ => by
          rw [hb2, List.map_append, List.map_cons, List.map_nil, setCells_snoc, List.length_map, hdl]
          rw [Nat.zero_add]
          exact setCell_block _ _ (hblk.out hne)
        clear hcdz hce hfe hox hb2 hblk hvx
        go_wp2_with fail
        exact ⟨⟨k + 1, done ++ [v], z2, by omega, by simp, by simp [hdl], hon2, hz2, hfz.trans hf2, hb3, hvx2⟩, by simp; omega⟩
    · have hkl : k = n := by omega
      have hvl : Hd (varsX M (List.replicate n 0) y = .ok (done, z)) := by
        unfold Hd; rw [hvx.out, List.drop_of_length_le (by simp; omega)]; simp [varsX, contX]
      clear hvx
      go_wp2_with fail
      go_end0
      have hfin : Fr M.SB w wr := ⟨hfz.os.trans hfwl.os, hfz.tape.trans hfwl.tape, hfz.output.trans hfwl.output, Nat.le_trans hfwl.size hfz.size, fun j hj hS => by
        rw [hfz.block j (Nat.lt_of_lt_of_le hj hfwl.size) (fun h => h.elim hS (fun e => by omega)), hfwl.block j hj hS]⟩
      refine ⟨hfin, ?_⟩
      rw [HLV0.out]
      have hv0 := varsX_setL M o (.slice (some ⟨pk, 0, none⟩) n n) (List.replicate n 0) y0.1 y0.2
      have hv1 : varsX M (List.replicate n 0) y = .ok (done, z) := hvl.out
      rw [hyy.out] at hv1
      rw [hv1] at hv0
      cases hvv : varsX M (List.replicate n 0) y0 with
      | error er => rw [show (y0.1, y0.2) = y0 from rfl, hvv] at hv0; cases hv0
      | ok q =>
        obtain ⟨vs, yS⟩ := q
        rw [show (y0.1, y0.2) = y0 from rfl, hvv] at hv0
        simp only [Except.ok.injEq, Prod.mk.injEq] at hv0
        obtain ⟨e1, e2⟩ := hv0
        subst e1
        refine ⟨rfl, pk, hpw, by rw [← e2]; exact honz, ?_⟩
        by_cases hn0 : n = 0
        · exact absurd hn0 hn0x
        · rw [hblk.out hn0]
          exact whole_block (done.map vI) wl pk n hpblk (by rw [List.length_map, hdl]; exact hkl)
set_option maxRecDepth 100000
set_option maxHeartbeats 1000000
def Plain (R : Ending → World → Prop) (e : Ending) (w' : World) : Prop := (e = .returned (.tuple #[]) ∨ ∃ c, e = .panicked c) ∧ R e w'
theorem ownResults_any {b : Nat} (o n : Nat) (s : WS) (w : World) (h : Lies w b s) (hn : s.fR = n) (R : Ending → World → Prop)
    (hc : Calls Tryd.prog 100 #[.pointer (some ⟨b, 0, none⟩), .pointer (some ⟨b, o, none⟩), .int .i64 n] w (Plain R)) :
    Calls Tryd.prog 89 #[.pointer (some ⟨b, 0, none⟩), .pointer (some ⟨b, o, none⟩)] w R := by
  have c150 : w.cell? ⟨b, 150, none⟩ = some (vI n) := by rw [h.facts.2.2.2.2.2.2.1, hn]
  go_enter Tryd.func89, Tryd.ntmps89
  go_wp2_with fail
  refine hc.mono ?_
  rintro e w' ⟨rfl | ⟨c, rfl⟩, hr⟩
  · go_wp2_with fail
    go_end0
    exact hr
  · go_wp2_with fail
    exact ⟨rfl, hr⟩
theorem calleeParams_any {b : Nat} (o n N fb fo nf fc : Nat) (s : WS) (w : World) (h : Lies w b s) (hN : s.n = N) (hNf : N < nf) (hfu : s.funcs = .slice (some ⟨fb, fo, none⟩) nf fc) (hcn : w.cell? ⟨fb, fo + N * 4, none⟩ = some (vI n)) (R : Ending → World → Prop)
    (hc : Calls Tryd.prog 100 #[.pointer (some ⟨b, 0, none⟩), .pointer (some ⟨b, o, none⟩), .int .i64 n] w.drew (Plain R)) :
    Calls Tryd.prog 86 #[.pointer (some ⟨b, 0, none⟩), .pointer (some ⟨b, o, none⟩)] w R := by
  have c158 : w.cell? ⟨b, 158, none⟩ = some (vI N) := by rw [h.facts.2.2.2.2.2.2.2.2.2.2.2.2.2.2.1, hN]
  have c147 : w.cell? ⟨b, 147, none⟩ = some (.slice (some ⟨fb, fo, none⟩) nf fc) := by rw [h.facts.2.2.2.1, hfu]
  have hb : 0 ≤ (N : Int) ∧ (N : Int) < nf := by omega
  go_enter Tryd.func86, Tryd.ntmps86
  go_wp2_with fail
  refine wp_region_still_tail 14 mixed (by kernel_rfl) ?_
  simp only [List.take_succ_cons, List.take_zero, List.drop_succ_cons, List.drop_zero]
  repeat still_step
  refine wpStill_nil ?_
  go_wp2_with fail
  refine hc.mono ?_
  rintro e w' ⟨rfl | ⟨c, rfl⟩, hr⟩
  · go_wp2_with fail
    go_end0
    exact hr
  · go_wp2_with fail
    exact ⟨rfl, hr⟩
theorem calleeResults_any {b : Nat} (o n N fb fo nf fc : Nat) (s : WS) (w : World) (h : Lies w b s) (hN : s.n = N) (hNf : N < nf) (hfu : s.funcs = .slice (some ⟨fb, fo, none⟩) nf fc) (hcn : w.cell? ⟨fb, fo + N * 4 + 1, none⟩ = some (vI n)) (R : Ending → World → Prop)
    (hc : Calls Tryd.prog 100 #[.pointer (some ⟨b, 0, none⟩), .pointer (some ⟨b, o, none⟩), .int .i64 n] w.drew (Plain R)) :
    Calls Tryd.prog 87 #[.pointer (some ⟨b, 0, none⟩), .pointer (some ⟨b, o, none⟩)] w R := by
  have c158 : w.cell? ⟨b, 158, none⟩ = some (vI N) := by rw [h.facts.2.2.2.2.2.2.2.2.2.2.2.2.2.2.1, hN]
  have c147 : w.cell? ⟨b, 147, none⟩ = some (.slice (some ⟨fb, fo, none⟩) nf fc) := by rw [h.facts.2.2.2.1, hfu]
  have hb : 0 ≤ (N : Int) ∧ (N : Int) < nf := by omega
  go_enter Tryd.func87, Tryd.ntmps87
  go_wp2_with fail
  refine wp_region_still_tail 14 mixed (by kernel_rfl) ?_
  simp only [List.take_succ_cons, List.take_zero, List.drop_succ_cons, List.drop_zero]
  repeat still_step
  refine wpStill_nil ?_
  go_wp2_with fail
  refine hc.mono ?_
  rintro e w' ⟨rfl | ⟨c, rfl⟩, hr⟩
  · go_wp2_with fail
    go_end0
    exact hr
  · go_wp2_with fail
    exact ⟨rfl, hr⟩
end Go.Proofs.YtingenonbkencaaDoor
namespace Go.Proofs.YtingenonbkencaaDoor
theorem run_neq81_f (f : Nat) (w : World) : (binOp .neq 81 (vF f) .nilFunc).run Tryd.prog w = .ok (.bool true) w := by kernel_rfl
theorem run_neq81_n (w : World) : (binOp .neq 81 vN .nilFunc).run Tryd.prog w = .ok (.bool false) w := by kernel_rfl
theorem run_neq82_f (f : Nat) (w : World) : (binOp .neq 82 (vF f) .nilFunc).run Tryd.prog w = .ok (.bool true) w := by kernel_rfl
theorem run_neq82_n (w : World) : (binOp .neq 82 vN .nilFunc).run Tryd.prog w = .ok (.bool false) w := by kernel_rfl
def lenOf : Value → Nat
  | .slice _ n _ => n
  | _ => 0
end Go.Proofs.YtingenonbkencaaDoor
namespace Go.Proofs.YtingenonbkencaaDoor
open Go.RowKit (wrap32 wrap64)
def frontOk {b : Nat} (M : Mode b) (ends makes nb : Bool) (i : Nat) (p : Int) (y : WS × M.σ) : X (WS × M.σ) :=
  if nb = false then .error (1, p)
  else if (ends || decide ((i : Int) < y.1.len - 1)) = false then .error (19, p)
  else if makes then locX M 1 p y else .ok y
def StepR (J : World → Prop) (Post : Ending → World → Prop) (e : Ending) (w' : World) : Prop :=
  (e = .returned (.tuple #[]) ∧ J w') ∨ ∃ c, e = .panicked c ∧ Post (.panicked c) w'
def thenX {α β : Type} (c : X α) (p : α → X β) : X β := match c with | .ok y => p y | .error z => .error z
structure Kept (s s' : WS) : Prop where
  num : s'.num = s.num
  globals : s'.globals = s.globals
  funcs : s'.funcs = s.funcs
  fP : s'.fP = s.fP
  fR : s'.fR = s.fR
  fV : s'.fV = s.fV
  fC : s'.fC = s.fC
  len : s'.len = s.len
  op : s'.op = s.op
  args : s'.args = s.args
  rets : s'.rets = s.rets
theorem Kept.refl (s : WS) : Kept s s := ⟨rfl, rfl, rfl, rfl, rfl, rfl, rfl, rfl, rfl, rfl, rfl⟩
theorem Kept.trans {a b c : WS} (h : Kept a b) (k : Kept b c) : Kept a c :=
  ⟨k.num.trans h.num, k.globals.trans h.globals, k.funcs.trans h.funcs, k.fP.trans h.fP, k.fR.trans h.fR, k.fV.trans h.fV, k.fC.trans h.fC, k.len.trans h.len, k.op.trans h.op, k.args.trans h.args, k.rets.trans h.rets⟩
theorem nextX_kept {b : Nat} {M : Mode b} {o size : Nat} {x y : WS × M.σ} (ho : o = 155 ∨ o = 156 ∨ o = 157 ∨ o = 158 ∨ o = 161) (h : nextX M o size x = .ok y) : Kept x.1 y.1 := by
  obtain ⟨v, st, rfl⟩ := nextX_num h
  rcases ho with rfl | rfl | rfl | rfl | rfl <;> exact ⟨rfl, rfl, rfl, rfl, rfl, rfl, rfl, rfl, rfl, rfl, rfl⟩
theorem askX_kept {b : Nat} {M : Mode b} {o size : Nat} {c : WS → Bool} {er : Int} {x y : WS × M.σ} (ho : o = 155 ∨ o = 156 ∨ o = 157 ∨ o = 158 ∨ o = 161) (h : askX M o size c er x = .ok y) : Kept x.1 y.1 := by
  unfold askX at h
  split at h
  · rename_i y' hy
    split at h
    · cases h; exact nextX_kept ho hy
    · cases h
  · cases h
theorem locX_kept {b : Nat} {M : Mode b} {n p : Int} {x y : WS × M.σ} (h : locX M n p x = .ok y) : Kept x.1 y.1 := by
  unfold locX at h
  split at h
  · cases h; exact ⟨rfl, rfl, rfl, rfl, rfl, rfl, rfl, rfl, rfl, rfl, rfl⟩
  · cases h
theorem frontOk_kept {b : Nat} {M : Mode b} {ends makes nb : Bool} {i : Nat} {p : Int} {x y : WS × M.σ} (h : frontOk M ends makes nb i p x = .ok y) : Kept x.1 y.1 := by
  unfold frontOk at h
  split at h
  · cases h
  · split at h
    · cases h
    · split at h
      · exact locX_kept h
      · cases h; exact Kept.refl _
def Stage {b : Nat} (M : Mode b) (w : World) (s0 : WS) (c : X (WS × M.σ)) (w1 : World) : Prop :=
  ∃ y, c = .ok y ∧ Fr M.SB w w1 ∧ On M w1 y ∧ Kept s0 y.1
theorem Stage.lies {b : Nat} {M : Mode b} {w : World} {s0 : WS} {c : X (WS × M.σ)} {w1 : World} (h : Stage M w s0 c w1) : ∃ s, Lies w1 b s := let ⟨y, _, _, h, _⟩ := h; ⟨y.1, h.1⟩
theorem Stage.drew {b : Nat} {M : Mode b} {w : World} {s0 : WS} {c : X (WS × M.σ)} {w1 : World} (h : Stage M w s0 c w1) : Stage M w s0 c w1.drew := let ⟨y, h1, h2, h3, h4⟩ := h; ⟨y, h1, h2.drew, h3.drew, h4⟩
theorem stage_step {b : Nat} {M : Mode b} {w : World} {s0 : WS} {c : X (WS × M.σ)} {w1 : World} {f : Nat} {args : Array Value} {p : WS × M.σ → X (WS × M.σ)} {Post : Ending → World → Prop}
    (hk : ∀ y y', p y = .ok y' → Kept y.1 y'.1) (hE : ∀ z w', thenX c p = .error z → Fr M.SB w w' → Post (.panicked (viol z.1 z.2)) w')
    (hcall : ∀ y, On M w1 y → Kept s0 y.1 → Calls Tryd.prog f args w1 (Ends M w1 (p y))) (h : Stage M w s0 c w1) : Calls Tryd.prog f args w1 (StepR (Stage M w s0 (thenX c p)) Post) := by
  obtain ⟨y, rfl, hf, hon, hkp⟩ := h
  refine (hcall y hon hkp).mono ?_
  rintro e w' ⟨hf', hr⟩
  cases hp : p y with
  | error z =>
    simp only [hp] at hr
    subst hr
    exact Or.inr ⟨_, rfl, hE z w' hp (hf.trans hf')⟩
  | ok y' =>
    simp only [hp] at hr
    obtain ⟨rfl, hon'⟩ := hr
    exact Or.inl ⟨rfl, y', hp, hf.trans hf', hon', hkp.trans (hk y y' hp)⟩
theorem stage_end {b : Nat} {M : Mode b} {w : World} {s0 : WS} {c : X (WS × M.σ)} {w1 : World} (h : Stage M w s0 c w1) : Ends M w c (.returned (.tuple #[])) w1 := by
  obtain ⟨y, rfl, hf, hon, -⟩ := h
  exact ⟨hf, rfl, hon⟩
theorem ends_error {b : Nat} {M : Mode b} {w w' : World} {c : X (WS × M.σ)} {z : Int × Int} (h : c = .error z) (hf : Fr M.SB w w') : Ends M w c (.panicked (viol z.1 z.2)) w' := by
  subst h; exact ⟨hf, rfl⟩
def varPart {b : Nat} (M : Mode b) (o : Nat) (x : WS × M.σ) : X (WS × M.σ) := askX M o 1 (fun s => decide (0 ≤ s.get o ∧ s.get o ≤ IntKind.i64.wrap (s.fV - 1))) 13 x
def fieldsPart {b : Nat} (M : Mode b) (x : WS × M.σ) : X (WS × M.σ) := askX M 158 1 (fun s => decide (1 ≤ s.n ∧ s.n ≤ 8)) 17 x
def fieldPart {b : Nat} (M : Mode b) (x : WS × M.σ) : X (WS × M.σ) := askX M 158 1 (fun s => decide (0 ≤ s.n ∧ s.n ≤ 7)) 17 x
def globalPart {b : Nat} (M : Mode b) (x : WS × M.σ) : X (WS × M.σ) := askX M 158 1 (fun s => decide (0 ≤ s.n ∧ s.n ≤ IntKind.i64.wrap (s.globals - 1))) 18 x
def targetPart {b : Nat} (M : Mode b) (x : WS × M.σ) : X (WS × M.σ) := askX M 158 2 (fun s => decide (0 ≤ s.n ∧ s.n ≤ IntKind.i64.wrap (s.len - 1))) 16 x
def intPart {b : Nat} (M : Mode b) (x : WS × M.σ) : X (WS × M.σ) := nextX M 158 8 x
def partsX {b : Nat} (M : Mode b) (op : Nat) (c : X (WS × M.σ)) : X (WS × M.σ) :=
  match op with
  | 1 => (thenX (thenX c (varPart M 155)) (intPart M))
  | 2 => (thenX (thenX c (varPart M 155)) (varPart M 156))
  | 3 => (thenX (thenX (thenX c (varPart M 155)) (varPart M 156)) (varPart M 157))
  | 4 => (thenX (thenX (thenX c (varPart M 155)) (varPart M 156)) (varPart M 157))
  | 5 => (thenX (thenX c (varPart M 155)) (varPart M 156))
  | 6 => (thenX (thenX c (varPart M 155)) (fieldsPart M))
  | 7 => (thenX (thenX (thenX c (varPart M 155)) (varPart M 156)) (fieldPart M))
  | 8 => (thenX (thenX (thenX c (varPart M 155)) (varPart M 156)) (fieldPart M))
  | 9 => (thenX (thenX c (varPart M 155)) (globalPart M))
  | 10 => (thenX (thenX c (varPart M 156)) (globalPart M))
  | 12 => (thenX c (varPart M 156))
  | 13 => (thenX c (targetPart M))
  | 14 => (thenX (thenX c (varPart M 156)) (targetPart M))
  | 16 => (thenX c (varPart M 155))
  | 17 => (thenX (thenX (thenX c (varPart M 155)) (varPart M 156)) (varPart M 157))
  | _ => c
def Goes {b : Nat} (M : Mode b) (rm : M.σ → Nat) (n j : Nat) (c : X (WS × M.σ)) : Prop := ∀ y, c = .ok y → n ≤ rm y.2 + j
theorem Goes.then {b : Nat} {M : Mode b} {rm : M.σ → Nat} {n j : Nat} {c : X (WS × M.σ)} (h : Goes M rm n j c) (p : WS × M.σ → X (WS × M.σ)) (hp : ∀ a a', p a = .ok a' → rm a.2 ≤ rm a'.2 + 1) : Goes M rm n (j + 1) (thenX c p) := by
  intro y hy
  cases c with
  | error z => cases hy
  | ok a =>
    have h1 := h a rfl
    have h2 := hp a y hy
    omega
theorem ask_goes {b : Nat} {M : Mode b} {rm : M.σ → Nat} (hR : RoomGoes M rm) {o size : Nat} {c : WS → Bool} {er : Int} {x y : WS × M.σ} (h : askX M o size c er x = .ok y) : rm x.2 ≤ rm y.2 + 1 := by
  unfold askX at h
  split at h
  · rename_i y' hy
    split at h
    · cases h; exact hR _ _ _ _ hy
    · cases h
  · cases h
theorem loc_snd {b : Nat} {M : Mode b} {n p : Int} {x y : WS × M.σ} (h : locX M n p x = .ok y) : y.2 = x.2 := by
  unfold locX at h
  split at h
  · cases h; rfl
  · cases h
theorem front_snd {b : Nat} {M : Mode b} {ends makes nb : Bool} {i : Nat} {p : Int} {x y : WS × M.σ} (h : frontOk M ends makes nb i p x = .ok y) : y.2 = x.2 := by
  unfold frontOk at h
  split at h
  · cases h
  · split at h
    · cases h
    · split at h
      · exact loc_snd h
      · cases h; rfl
theorem front_goes {b : Nat} {M : Mode b} {rm : M.σ → Nat} (hR : RoomGoes M rm) {o size : Nat} {x y : WS × M.σ} (hx : nextX M o size x = .ok y) (ends makes nb : Bool) (i : Nat) (p : Int) : Goes M rm (rm x.2) 1 (frontOk M ends makes nb i p y) := fun y' hy => by
  rw [front_snd hy]; exact hR _ _ _ _ hx
theorem stage_stepR {b : Nat} {M : Mode b} {w : World} {s0 : WS} {c : X (WS × M.σ)} {w1 : World} {f : Nat} {args : Array Value} {p : WS × M.σ → X (WS × M.σ)} {Post : Ending → World → Prop}
    (hk : ∀ y y', p y = .ok y' → Kept y.1 y'.1) (hE : ∀ z w', thenX c p = .error z → Fr M.SB w w' → Post (.panicked (viol z.1 z.2)) w')
    (hcall : ∀ y, c = .ok y → On M w1 y → Kept s0 y.1 → Calls Tryd.prog f args w1 (Ends M w1 (p y))) (h : Stage M w s0 c w1) : Calls Tryd.prog f args w1 (StepR (Stage M w s0 (thenX c p)) Post) := by
  obtain ⟨y, hc, hf, hon, hkp⟩ := h
  have hcl := hcall y hc hon hkp
  subst hc
  refine hcl.mono ?_
  rintro e w' ⟨hf', hr⟩
  cases hp : p y with
  | error z =>
    simp only [hp] at hr
    subst hr
    exact Or.inr ⟨_, rfl, hE z w' hp (hf.trans hf')⟩
  | ok y' =>
    simp only [hp] at hr
    obtain ⟨rfl, hon'⟩ := hr
    exact Or.inl ⟨rfl, y', hp, hf.trans hf', hon', hkp.trans (hk y y' hp)⟩
end Go.Proofs.YtingenonbkencaaDoor
