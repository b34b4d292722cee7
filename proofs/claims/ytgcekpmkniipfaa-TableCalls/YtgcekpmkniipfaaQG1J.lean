import Derived.Test.YtgcekpmkniipfaaQF5
import Derived.Laws.BytesString
import Derived.Laws.IdiomStrings
namespace Go.Proofs.Ytgcekpmkniipfaa
open Go.RowKit (wrap32 wrap64)
set_option linter.unusedVariables false
set_option linter.unusedSimpArgs false

/-- The program's table, as the list that it tells. -/
def Pt (w : World) (b : Nat) (g : Gh) (N : Nat) (L : List Kv) : Prop := ∃ a, Tb w b g N a ∧ Snap a L
theorem snap_look {a : Ab} {L : List Kv} (h : Snap a L) (k : Int) : a k = look L k := by
  cases hl : look L k with
  | some v => exact (h.mem k v).1 (look_mem hl)
  | none =>
    cases ha : a k with
    | none => rfl
    | some v => exact absurd rfl (look_none_mem hl _ ((h.mem k v).2 ha))
theorem Pt.fr {S : Nat → Prop} {w w' : World} {b : Nat} {g : Gh} {N : Nat} {L : List Kv} (h : Pt w b g N L) (f : Fr S w w') (hS : ∀ j, g.own j ≠ 0 → ¬ S j) : Pt w' b g N L := by
  obtain ⟨a, h1, h2⟩ := h
  exact ⟨a, h1.fr f hS, h2⟩
theorem Pt.lt {w : World} {b : Nat} {g : Gh} {N : Nat} {L : List Kv} (h : Pt w b g N L) : ∀ j, g.own j ≠ 0 → j < w.heap.size := by
  obtain ⟨a, h1, h2⟩ := h
  exact h1.lt
theorem Pt.own {w : World} {b : Nat} {g : Gh} {N : Nat} {L : List Kv} (h : Pt w b g N L) : g.own b ≠ 0 := by
  obtain ⟨a, h1, h2⟩ := h
  rw [h1.own1]; decide

/-- What a call of the program's table leaves. -/
def DpE (w w' : World) (b : Nat) (g : Gh) (N : Nat) (L : List Kv) (o : OpT) (rv : Value) : Prop :=
  ∃ rk ru g', rv = .agg #[.bool (doR L o).ok, .string (doR L o).val, rk, ru] ∧ RepAt w' (fun j => g'.own j ≠ 0) w.heap.size rk ru (doR L o).L ∧ Pt w' b g' (N + 1) (doT L o) ∧ Fr (fun j => g.own j ≠ 0) w w' ∧ ∀ j, g'.own j ≠ 0 → g.own j ≠ 0 ∨ w.heap.size ≤ j

theorem Tb.up {w : World} {b : Nat} {g : Gh} {N : Nat} {a : Ab} (h : Tb w b g N a) : Tb w b g (N + 1) a :=
  ⟨h.lock, h.map, h.frz, h.own1, h.own2, h.ownE, h.inj, h.lt, fun i hi => (h.maps i hi).mono (Nat.le_succ N), h.wf, h.has, h.atk, h.ent⟩
theorem more_own {g : Gh} {k : Int} {e j : Nat} (h : (g.more k e).own j ≠ 0) : g.own j ≠ 0 ∨ e ≤ j := by
  unfold Gh.more at h
  simp only at h
  split at h
  · right; omega
  · exact Or.inl h

/-- The answer is laid into the result's cell. -/
theorem dp_fin {w W w2 : World} {b0 b N : Nat} {g g' : Gh} {rk ru : Value} {L : List Kv} {o : OpT} (hb0 : b0 = w.heap.size) (hlt : ∀ j, g.own j ≠ 0 → j < w.heap.size) (hF : Fr (fun _ => False) w W) (hS : W.heap.size = b0 + 2) (hR : W.heap[b0 + 1]? = some (.cells #[.bool false, .string ⟨#[]⟩, .slice none 0 0, .slice none 0 0] 43)) (h2 : Fr (fun j => g.own j ≠ 0) W w2)
    (hP : Pt w2 b g' (N + 1) (doT L o)) (hg : ∀ j, g'.own j ≠ 0 → g.own j ≠ 0 ∨ W.heap.size ≤ j) (hr : RepAt w2 (fun j => g'.own j ≠ 0) W.heap.size rk ru (doR L o).L) :
    w2.heap[b0 + 1]? = some (.cells #[.bool false, .string ⟨#[]⟩, .slice none 0 0, .slice none 0 0] 43) ∧ DpE w ((((w2.setCell ⟨b0 + 1, 0, none⟩ (.bool (doR L o).ok)).setCell ⟨b0 + 1, 1, none⟩ (.string (doR L o).val)).setCell ⟨b0 + 1, 2, none⟩ rk).setCell ⟨b0 + 1, 3, none⟩ ru) b g N L o (.agg #[.bool (doR L o).ok, .string (doR L o).val, rk, ru]) := by
  have f4 := four_fr w2 (b0 + 1) (.bool (doR L o).ok) (.string (doR L o).val) rk ru
  have hnb : ¬ g.own (b0 + 1) ≠ 0 := fun e => by have := hlt _ e; omega
  refine ⟨(h2.block (b0 + 1) (heap_lt hR) hnb).trans hR, rk, ru, g', rfl, ?_, hP.fr f4 (fun j hj e => ?_), ?_, fun j hj => ?_⟩
  · rcases hr with ⟨e1, e2, e3⟩ | ⟨kb, vb, e1, e2, b1, b2, n1, n2, hs⟩
    · exact Or.inl ⟨e1, e2, e3⟩
    · refine Or.inr ⟨kb, vb, e1, e2, by omega, by omega, n1, n2, ⟨(f4.block kb (heap_lt hs.ks) (by omega)).trans hs.ks, (f4.block vb (heap_lt hs.vs) (by omega)).trans hs.vs, hs.ne⟩⟩
  · rcases hg j hj with e2 | e2
    · subst e; exact hnb e2
    · omega
  · have hA : Fr (fun j => g.own j ≠ 0) w w2 := (hF.mono (fun _ _ h => h.elim)).trans h2
    exact (((hA.setCell ⟨b0 + 1, 0, none⟩ _ (Or.inr (by show _ ≤ b0 + 1; omega))).setCell ⟨b0 + 1, 1, none⟩ _ (Or.inr (by show _ ≤ b0 + 1; omega))).setCell ⟨b0 + 1, 2, none⟩ _ (Or.inr (by show _ ≤ b0 + 1; omega))).setCell ⟨b0 + 1, 3, none⟩ _ (Or.inr (by show _ ≤ b0 + 1; omega))
  · rcases hg j hj with e2 | e2
    · exact Or.inl e2
    · right; omega

set_option maxRecDepth 100000 in
set_option maxHeartbeats 4000000 in
theorem does_pub (w : World) (b : Nat) (g : Gh) (N : Nat) (L : List Kv) (ky : Int) (x : ByteArray) (h : Pt w b g N L) (hk : In64 ky) (hN : N ≤ 90000000000) :
    Calls Try.prog 17 #[.pointer (some ⟨b, 0, none⟩), opV 1 ky x] w fun e w' => ∃ rv, e = .returned rv ∧ DpE w w' b g N L (1, ky, x) rv := by
  have hh := W43_op w 1 ky x
  have hr := W43_rp w 1 ky x
  have hf := W43_fr w 1 ky x
  have h1 : Pt (W43 w 1 ky x) b g N L := h.fr hf (fun _ _ h => h)
  have hsz : (W43 w 1 ky x).heap.size = w.heap.size + 2 := by unfold W43; simp
  obtain ⟨W, eW⟩ : ∃ W, W = W43 w 1 ky x := ⟨_, rfl⟩
  rw [← eW] at hh hr hf h1 hsz
  have EW : Hd (W = W43 w 1 ky x) := eW
  obtain ⟨b0, eb⟩ : ∃ b0, b0 = w.heap.size := ⟨_, rfl⟩
  rw [← eb] at hh hr hsz
  have EB : Hd (b0 = w.heap.size) := eb
  have c0 : W.cell? ⟨b0, 0, none⟩ = some (vI 1) := cell_of hh 0
  have c1 : W.cell? ⟨b0, 1, none⟩ = some (vI ky) := cell_of hh 1
  have c2 : W.cell? ⟨b0, 2, none⟩ = some (.string x) := cell_of hh 2
  have CALL : ∃ bl, Calls Try.prog 9 #[.pointer (some ⟨b, 0, none⟩), vI ky, .string x] W fun e w2 => e = .returned (.bool bl) ∧ w2.heap[b0 + 1]? = some (.cells #[.bool false, .string ⟨#[]⟩, .slice none 0 0, .slice none 0 0] 43) ∧ DpE w ((((w2.setCell ⟨b0 + 1, 0, none⟩ (.bool bl)).setCell ⟨b0 + 1, 1, none⟩ (.string ⟨#[]⟩)).setCell ⟨b0 + 1, 2, none⟩ (.slice none 0 0)).setCell ⟨b0 + 1, 3, none⟩ (.slice none 0 0)) b g N L (1, ky, x) (.agg #[.bool bl, .string ⟨#[]⟩, .slice none 0 0, .slice none 0 0]) := by
    obtain ⟨a, hT, hSn⟩ := h1
    have hla := snap_look hSn ky
    cases hlk : look L ky with
    | none =>
      rw [hlk] at hla
      have er : doR L (1, ky, x) = ⟨true, ⟨#[]⟩, []⟩ := by unfold doR; rw [if_pos rfl]; simp only [hlk]; rfl
      have et : doT L (1, ky, x) = insK L ky x := by unfold doT; rw [if_pos rfl]; simp only [hlk]
      refine ⟨true, (Publish_yes b g N a ky hk x hla (by unfold maxLen; omega) W hT).mono ?_⟩
      rintro _ w2 ⟨rfl, q1, q2⟩
      have := dp_fin (o := (1, ky, x)) (L := L) (N := N) (rk := .slice none 0 0) (ru := .slice none 0 0) eb h.lt hf hsz hr q2 (by rw [et]; exact ⟨_, q1, snap_ins hSn x hla⟩) (fun j hj => more_own hj) (by rw [er]; exact RepAt.none _ _ _)
      rw [er] at this
      exact ⟨rfl, this⟩
    | some y =>
      rw [hlk] at hla
      have er : doR L (1, ky, x) = ⟨false, ⟨#[]⟩, []⟩ := by unfold doR; rw [if_pos rfl]; simp only [hlk]; rfl
      have et : doT L (1, ky, x) = L := by unfold doT; rw [if_pos rfl]; simp only [hlk]
      refine ⟨false, (Publish_no b g N a ky x y hla W hT).mono ?_⟩
      rintro _ w2 ⟨rfl, q1, q2⟩
      have hb1 : g.own b ≠ 0 := h.own
      have := dp_fin (o := (1, ky, x)) (L := L) (N := N) (g' := g) (rk := .slice none 0 0) (ru := .slice none 0 0) eb h.lt hf hsz hr (q2.mono (fun j _ e => by subst e; exact hb1)) (by rw [et]; exact ⟨a, q1.up, hSn⟩) (fun j hj => Or.inl hj) (by rw [er]; exact RepAt.none _ _ _)
      rw [er] at this
      exact ⟨rfl, this⟩
  obtain ⟨bl, CALL⟩ := CALL
  clear h hh hr hf h1 hsz eW
  go_enter Try.func17, Try.ntmps17
  go_upto_region 1 with fail
  rw [show ((w.alloc (.cells #[vI 1, vI ky, .string x] 23)).alloc (.cells #[.bool false, .string ⟨#[]⟩, .slice none 0 0, .slice none 0 0] 43)) = W from EW.out.symm, ← EB.out]
  clear EW eb
  go_wp2_with fail
  refine CALL.mono ?_
  rintro _ w2 ⟨rfl, hb2, hD⟩
  have HD : Hd (DpE w ((((w2.setCell ⟨b0 + 1, 0, none⟩ (.bool bl)).setCell ⟨b0 + 1, 1, none⟩ (.string ⟨#[]⟩)).setCell ⟨b0 + 1, 2, none⟩ (.slice none 0 0)).setCell ⟨b0 + 1, 3, none⟩ (.slice none 0 0)) b g N L (1, ky, x) (.agg #[.bool bl, .string ⟨#[]⟩, .slice none 0 0, .slice none 0 0])) := hD
  have z0 : w2.frozen? ⟨b0 + 1, 0, none⟩ = false := frozen_of hb2 0
  have z1 : w2.frozen? ⟨b0 + 1, 1, none⟩ = false := frozen_of hb2 1
  have z2 : w2.frozen? ⟨b0 + 1, 2, none⟩ = false := frozen_of hb2 2
  have z3 : w2.frozen? ⟨b0 + 1, 3, none⟩ = false := frozen_of hb2 3
  have y0 : w2.cell? ⟨b0 + 1, 0, none⟩ = some (.bool false) := cell_of hb2 0
  have y1 : w2.cell? ⟨b0 + 1, 1, none⟩ = some (.string ⟨#[]⟩) := cell_of hb2 1
  have y2 : w2.cell? ⟨b0 + 1, 2, none⟩ = some (.slice none 0 0) := cell_of hb2 2
  have y3 : w2.cell? ⟨b0 + 1, 3, none⟩ = some (.slice none 0 0) := cell_of hb2 3
  have HB2 : Hd (w2.heap[b0 + 1]? = some (.cells #[.bool false, .string ⟨#[]⟩, .slice none 0 0, .slice none 0 0] 43)) := hb2
  clear CALL hD hb2 c0 c1 c2
  go_wp2_with fail
  refine bodyPost_ret (reply_res Try.results17 rfl (four HB2.out (.bool bl) (.string ⟨#[]⟩) (.slice none 0 0) (.slice none 0 0))) rfl ⟨_, rfl, HD.out⟩

set_option maxRecDepth 100000 in
set_option maxHeartbeats 4000000 in
theorem does_look (w : World) (b : Nat) (g : Gh) (N : Nat) (L : List Kv) (ky : Int) (x : ByteArray) (h : Pt w b g N L) (hk : In64 ky) :
    Calls Try.prog 17 #[.pointer (some ⟨b, 0, none⟩), opV 2 ky x] w fun e w' => ∃ rv, e = .returned rv ∧ DpE w w' b g N L (2, ky, x) rv := by
  have hh := W43_op w 2 ky x
  have hr := W43_rp w 2 ky x
  have hf := W43_fr w 2 ky x
  have h1 : Pt (W43 w 2 ky x) b g N L := h.fr hf (fun _ _ h => h)
  have hsz : (W43 w 2 ky x).heap.size = w.heap.size + 2 := by unfold W43; simp
  obtain ⟨W, eW⟩ : ∃ W, W = W43 w 2 ky x := ⟨_, rfl⟩
  rw [← eW] at hh hr hf h1 hsz
  have EW : Hd (W = W43 w 2 ky x) := eW
  obtain ⟨b0, eb⟩ : ∃ b0, b0 = w.heap.size := ⟨_, rfl⟩
  rw [← eb] at hh hr hsz
  have EB : Hd (b0 = w.heap.size) := eb
  have c0 : W.cell? ⟨b0, 0, none⟩ = some (vI 2) := cell_of hh 0
  have c1 : W.cell? ⟨b0, 1, none⟩ = some (vI ky) := cell_of hh 1
  have hdr : doR L (2, ky, x) = ⟨(look L ky).isSome, (look L ky).getD ⟨#[]⟩, []⟩ := rfl
  obtain ⟨vl, evl⟩ : ∃ vl, vl = (look L ky).getD ⟨#[]⟩ := ⟨_, rfl⟩
  obtain ⟨bl, ebl⟩ : ∃ bl, bl = (look L ky).isSome := ⟨_, rfl⟩
  have CALL : Calls Try.prog 7 #[.pointer (some ⟨b, 0, none⟩), vI ky] W fun e w2 => e = .returned (.tuple #[.string vl, .bool bl]) ∧ w2.heap[b0 + 1]? = some (.cells #[.bool false, .string ⟨#[]⟩, .slice none 0 0, .slice none 0 0] 43) ∧ DpE w ((((w2.setCell ⟨b0 + 1, 0, none⟩ (.bool bl)).setCell ⟨b0 + 1, 1, none⟩ (.string vl)).setCell ⟨b0 + 1, 2, none⟩ (.slice none 0 0)).setCell ⟨b0 + 1, 3, none⟩ (.slice none 0 0)) b g N L (2, ky, x) (.agg #[.bool bl, .string vl, .slice none 0 0, .slice none 0 0]) := by
    obtain ⟨a, hT, hSn⟩ := h1
    have hla := snap_look hSn ky
    refine (lookup_any b g N a ky hk W hT).mono ?_
    rintro _ w2 ⟨rfl, q1, q2⟩
    have hb1 : g.own b ≠ 0 := h.own
    have := dp_fin (o := (2, ky, x)) (L := L) (N := N) (g' := g) (rk := .slice none 0 0) (ru := .slice none 0 0) eb h.lt hf hsz hr (q2.mono (fun j _ e => by subst e; exact hb1)) ⟨a, q1.up, hSn⟩ (fun j hj => Or.inl hj) (RepAt.none _ _ _)
    rw [hdr] at this
    simp only [← evl, ← ebl] at this
    exact ⟨by unfold lookS lookB; rw [hla, evl, ebl], this⟩
  clear h hh hr hf h1 hsz eW hdr evl ebl
  go_enter Try.func17, Try.ntmps17
  go_upto_region 1 with fail
  rw [show ((w.alloc (.cells #[vI 2, vI ky, .string x] 23)).alloc (.cells #[.bool false, .string ⟨#[]⟩, .slice none 0 0, .slice none 0 0] 43)) = W from EW.out.symm, ← EB.out]
  clear EW eb
  go_wp2_with fail
  refine CALL.mono ?_
  rintro _ w2 ⟨rfl, hb2, hD⟩
  have HD : Hd (DpE w ((((w2.setCell ⟨b0 + 1, 0, none⟩ (.bool bl)).setCell ⟨b0 + 1, 1, none⟩ (.string vl)).setCell ⟨b0 + 1, 2, none⟩ (.slice none 0 0)).setCell ⟨b0 + 1, 3, none⟩ (.slice none 0 0)) b g N L (2, ky, x) (.agg #[.bool bl, .string vl, .slice none 0 0, .slice none 0 0])) := hD
  have z0 : w2.frozen? ⟨b0 + 1, 0, none⟩ = false := frozen_of hb2 0
  have z1 : w2.frozen? ⟨b0 + 1, 1, none⟩ = false := frozen_of hb2 1
  have z2 : w2.frozen? ⟨b0 + 1, 2, none⟩ = false := frozen_of hb2 2
  have z3 : w2.frozen? ⟨b0 + 1, 3, none⟩ = false := frozen_of hb2 3
  have y0 : w2.cell? ⟨b0 + 1, 0, none⟩ = some (.bool false) := cell_of hb2 0
  have y1 : w2.cell? ⟨b0 + 1, 1, none⟩ = some (.string ⟨#[]⟩) := cell_of hb2 1
  have y2 : w2.cell? ⟨b0 + 1, 2, none⟩ = some (.slice none 0 0) := cell_of hb2 2
  have y3 : w2.cell? ⟨b0 + 1, 3, none⟩ = some (.slice none 0 0) := cell_of hb2 3
  have HB2 : Hd (w2.heap[b0 + 1]? = some (.cells #[.bool false, .string ⟨#[]⟩, .slice none 0 0, .slice none 0 0] 43)) := hb2
  clear CALL hD hb2 c0 c1
  go_wp2_with fail
  refine bodyPost_ret (reply_res Try.results17 rfl (four HB2.out (.bool bl) (.string vl) (.slice none 0 0) (.slice none 0 0))) rfl ⟨_, rfl, HD.out⟩

set_option maxRecDepth 100000 in
set_option maxHeartbeats 4000000 in
theorem does_snap (w : World) (b : Nat) (g : Gh) (N : Nat) (L : List Kv) (ky : Int) (x : ByteArray) (h : Pt w b g N L) (hN : N ≤ 90000000000) :
    Calls Try.prog 17 #[.pointer (some ⟨b, 0, none⟩), opV 3 ky x] w fun e w' => ∃ rv, e = .returned rv ∧ DpE w w' b g N L (3, ky, x) rv := by
  have hh := W43_op w 3 ky x
  have hr := W43_rp w 3 ky x
  have hf := W43_fr w 3 ky x
  have h1 : Pt (W43 w 3 ky x) b g N L := h.fr hf (fun _ _ h => h)
  have hsz : (W43 w 3 ky x).heap.size = w.heap.size + 2 := by unfold W43; simp
  obtain ⟨W, eW⟩ : ∃ W, W = W43 w 3 ky x := ⟨_, rfl⟩
  rw [← eW] at hh hr hf h1 hsz
  have EW : Hd (W = W43 w 3 ky x) := eW
  obtain ⟨b0, eb⟩ : ∃ b0, b0 = w.heap.size := ⟨_, rfl⟩
  rw [← eb] at hh hr hsz
  have EB : Hd (b0 = w.heap.size) := eb
  have c0 : W.cell? ⟨b0, 0, none⟩ = some (vI 3) := cell_of hh 0
  have CALL : Calls Try.prog 8 #[.pointer (some ⟨b, 0, none⟩)] W fun e w2 => ∃ kb vb ln, e = .returned (.tuple #[.slice (some ⟨kb, 0, none⟩) ln ln, .slice (some ⟨vb, 0, none⟩) ln ln]) ∧ w2.heap[b0 + 1]? = some (.cells #[.bool false, .string ⟨#[]⟩, .slice none 0 0, .slice none 0 0] 43) ∧ DpE w ((((w2.setCell ⟨b0 + 1, 0, none⟩ (.bool true)).setCell ⟨b0 + 1, 1, none⟩ (.string ⟨#[]⟩)).setCell ⟨b0 + 1, 2, none⟩ (.slice (some ⟨kb, 0, none⟩) ln ln)).setCell ⟨b0 + 1, 3, none⟩ (.slice (some ⟨vb, 0, none⟩) ln ln)) b g N L (3, ky, x) (.agg #[.bool true, .string ⟨#[]⟩, .slice (some ⟨kb, 0, none⟩) ln ln, .slice (some ⟨vb, 0, none⟩) ln ln]) := by
    obtain ⟨a, hT, hSn⟩ := h1
    refine (snapshot_any b g N a W hT (by omega)).mono ?_
    rintro _ w2 ⟨kb, vb, L2, rfl, q1, q2, q3, q4, -, q5, q6⟩
    have eL := q4.unique hSn
    subst eL
    have hb1 : g.own b ≠ 0 := h.own
    have := dp_fin (o := (3, ky, x)) (L := L2) (N := N) (g' := g) (rk := .slice (some ⟨kb, 0, none⟩) L2.length L2.length) (ru := .slice (some ⟨vb, 0, none⟩) L2.length L2.length) eb h.lt hf hsz hr (q6.mono (fun j _ e => by subst e; exact hb1)) ⟨a, q5.up, hSn⟩ (fun j hj => Or.inl hj) (Or.inr ⟨kb, vb, rfl, rfl, q1, q2, fun e => by have := hT.lt _ e; omega, fun e => by have := hT.lt _ e; omega, q3⟩)
    exact ⟨kb, vb, L2.length, rfl, this⟩
  clear h hh hr hf h1 hsz eW
  go_enter Try.func17, Try.ntmps17
  go_upto_region 1 with fail
  rw [show ((w.alloc (.cells #[vI 3, vI ky, .string x] 23)).alloc (.cells #[.bool false, .string ⟨#[]⟩, .slice none 0 0, .slice none 0 0] 43)) = W from EW.out.symm, ← EB.out]
  clear EW eb
  go_wp2_with fail
  refine CALL.mono ?_
  rintro _ w2 ⟨kb, vb, ln, rfl, hb2, hD⟩
  have HD : Hd (DpE w ((((w2.setCell ⟨b0 + 1, 0, none⟩ (.bool true)).setCell ⟨b0 + 1, 1, none⟩ (.string ⟨#[]⟩)).setCell ⟨b0 + 1, 2, none⟩ (.slice (some ⟨kb, 0, none⟩) ln ln)).setCell ⟨b0 + 1, 3, none⟩ (.slice (some ⟨vb, 0, none⟩) ln ln)) b g N L (3, ky, x) (.agg #[.bool true, .string ⟨#[]⟩, .slice (some ⟨kb, 0, none⟩) ln ln, .slice (some ⟨vb, 0, none⟩) ln ln])) := hD
  have z0 : w2.frozen? ⟨b0 + 1, 0, none⟩ = false := frozen_of hb2 0
  have z1 : w2.frozen? ⟨b0 + 1, 1, none⟩ = false := frozen_of hb2 1
  have z2 : w2.frozen? ⟨b0 + 1, 2, none⟩ = false := frozen_of hb2 2
  have z3 : w2.frozen? ⟨b0 + 1, 3, none⟩ = false := frozen_of hb2 3
  have y0 : w2.cell? ⟨b0 + 1, 0, none⟩ = some (.bool false) := cell_of hb2 0
  have y1 : w2.cell? ⟨b0 + 1, 1, none⟩ = some (.string ⟨#[]⟩) := cell_of hb2 1
  have y2 : w2.cell? ⟨b0 + 1, 2, none⟩ = some (.slice none 0 0) := cell_of hb2 2
  have y3 : w2.cell? ⟨b0 + 1, 3, none⟩ = some (.slice none 0 0) := cell_of hb2 3
  have HB2 : Hd (w2.heap[b0 + 1]? = some (.cells #[.bool false, .string ⟨#[]⟩, .slice none 0 0, .slice none 0 0] 43)) := hb2
  clear CALL hD hb2 c0
  go_wp2_with fail
  refine bodyPost_ret (reply_res Try.results17 rfl (four HB2.out (.bool true) (.string ⟨#[]⟩) (.slice (some ⟨kb, 0, none⟩) ln ln) (.slice (some ⟨vb, 0, none⟩) ln ln))) rfl ⟨_, rfl, HD.out⟩

theorem does_any (w : World) (b : Nat) (g : Gh) (N : Nat) (L : List Kv) (kd ky : Int) (x : ByteArray) (hkd : kd = 1 ∨ kd = 2 ∨ kd = 3) (h : Pt w b g N L) (hk : In64 ky) (hN : N ≤ 90000000000) :
    Calls Try.prog 17 #[.pointer (some ⟨b, 0, none⟩), opV kd ky x] w fun e w' => ∃ rv, e = .returned rv ∧ DpE w w' b g N L (kd, ky, x) rv := by
  rcases hkd with rfl | rfl | rfl
  · exact does_pub w b g N L ky x h hk hN
  · exact does_look w b g N L ky x h hk
  · exact does_snap w b g N L ky x h hN
end Go.Proofs.Ytgcekpmkniipfaa

namespace Go.Proofs.Ytgcekpmkniipfaa
open Go.RowKit (wrap32 wrap64)
set_option linter.unusedVariables false
set_option linter.unusedSimpArgs false

def mk3 (a b c : Int) : ByteArray := [a, b, c].foldl (fun r n => r.push (UInt8.ofNat n.toNat)) ByteArray.empty
theorem conv3 (w : World) (a b c : Int) : (convert 147 9 (.slice (some ⟨w.heap.size, 0, none⟩) 3 3)).run Try.prog (w.alloc (.cells #[.int .u8 a, .int .u8 b, .int .u8 c] 5)) = .ok (.string (mk3 a b c)) (w.alloc (.cells #[.int .u8 a, .int .u8 b, .int .u8 c] 5)) := by
  rw [run_convert_bytes_string _ 147 9 5 _ _ _ (by kernel_rfl) (by kernel_rfl) (by kernel_rfl)]
  refine run_bytesToString _ _ 3 3 [a, b, c] ?_
  refine run_loadCells_list (P := Try.prog) _ ⟨w.heap.size, 0, none⟩ ([a, b, c].map (Value.int .u8)) (fun j v hj => ?_)
  rw [adr, cell_of (heap_alloc_last w _)]
  have hlt := (List.getElem?_eq_some_iff.1 hj).1
  simp at hlt
  rcases j with _ | _ | _ | j
  · simpa using hj
  · simpa using hj
  · simpa using hj
  · omega

set_option maxRecDepth 100000 in
set_option maxHeartbeats 1000000 in
theorem mark_pos (i : Nat) (hi : i ≤ 100000000000) (w : World) : Calls Try.prog 61 #[vI (i : Int)] w fun e w' => e = .returned (.string (⟨#[109]⟩ ++ mk3 ((i : Int) % 256) ((i : Int) / 256 % 256) ((i : Int) / 65536 % 256))) ∧ Fr (fun _ => False) w w' := by
  have hd : decide ((i : Int) < 0) = false := by simp
  have hcv := conv3 w ((i : Int) % 256) ((i : Int) / 256 % 256) ((i : Int) / 65536 % 256)
  go_enter Try.func61, Try.ntmps61
  go_wp2_with fail
  go_ret
  exact ⟨rfl, (Fr.refl _ _).alloc _⟩
set_option maxRecDepth 100000 in
set_option maxHeartbeats 1000000 in
theorem mark_neg (i : Nat) (hi : i ≤ 100000000000) (hpos : 0 < i) (w : World) : Calls Try.prog 61 #[vI (-(i : Int))] w fun e w' => e = .returned (.string (⟨#[110]⟩ ++ mk3 ((i : Int) % 256) ((i : Int) / 256 % 256) ((i : Int) / 65536 % 256))) ∧ Fr (fun _ => False) w w' := by
  have hd : decide (-(i : Int) < 0) = true := by simp; omega
  have hcv := conv3 w ((i : Int) % 256) ((i : Int) / 256 % 256) ((i : Int) / 65536 % 256)
  go_enter Try.func61, Try.ntmps61
  go_wp2_with fail
  go_ret
  exact ⟨rfl, (Fr.refl _ _).alloc _⟩
def markX (i : Int) : ByteArray := if i < 0 then ⟨#[110]⟩ ++ mk3 ((-i) % 256) ((-i) / 256 % 256) ((-i) / 65536 % 256) else ⟨#[109]⟩ ++ mk3 (i % 256) (i / 256 % 256) (i / 65536 % 256)
theorem mark_any (i : Int) (h1 : -100000000000 ≤ i) (h2 : i ≤ 100000000000) (w : World) : Calls Try.prog 61 #[vI i] w fun e w' => e = .returned (.string (markX i)) ∧ Fr (fun _ => False) w w' := by
  by_cases h : i < 0
  · obtain ⟨k, hk⟩ : ∃ k : Nat, i = -(k : Int) := ⟨(-i).toNat, by omega⟩
    subst hk
    have e : markX (-(k : Int)) = ⟨#[110]⟩ ++ mk3 ((k : Int) % 256) ((k : Int) / 256 % 256) ((k : Int) / 65536 % 256) := by unfold markX; rw [if_pos h, Int.neg_neg]
    rw [e]
    exact mark_neg k (by omega) (by omega) w
  · obtain ⟨k, hk⟩ : ∃ k : Nat, i = (k : Int) := ⟨i.toNat, by omega⟩
    subst hk
    have e : markX (k : Int) = ⟨#[109]⟩ ++ mk3 ((k : Int) % 256) ((k : Int) / 256 % 256) ((k : Int) / 65536 % 256) := by unfold markX; rw [if_neg h]
    rw [e]
    exact mark_pos k (by omega) w
end Go.Proofs.Ytgcekpmkniipfaa
