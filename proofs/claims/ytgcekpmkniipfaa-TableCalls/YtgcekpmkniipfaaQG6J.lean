import Derived.Test.YtgcekpmkniipfaaQG5
namespace Go.Proofs.Ytgcekpmkniipfaa
open Go.RowKit (wrap32 wrap64)
set_option linter.unusedVariables false
set_option linter.unusedSimpArgs false

/-- What a Snapshot of the document's table leaves: the table as it was. -/
def DoS (w w' : World) (B c : Nat) (kv vv : Value) (L : List Kv) (o : OpT) (rv : Value) : Prop :=
  ∃ rk ru, rv = .agg #[.bool (doR L o).ok, .string (doR L o).val, rk, ru] ∧ w'.ownsRow w.heap.size 3 1 rk (doR L o).L.length (kCells (doR L o).L) ∧ w'.ownsRow w.heap.size 9 1 ru (doR L o).L.length (vCells (doR L o).L) ∧ Fr (fun _ => False) w w'
theorem do_finS {w W w2 : World} {B c b : Nat} {kv vv rk ru : Value} {L : List Kv} {o : OpT} (hb : b = w.heap.size) (_h : Rt w B c kv vv L) (hF : Fr (fun _ => False) w W) (hS : W.heap.size = b + 2) (hR : W.heap[b + 1]? = some (.cells #[.bool false, .string ⟨#[]⟩, .slice none 0 0, .slice none 0 0] 43)) (h2 : Fr (fun _ => False) W w2) (_ho : doT L o = L)
    (hk : w2.ownsRow W.heap.size 3 1 rk (doR L o).L.length (kCells (doR L o).L)) (hv : w2.ownsRow W.heap.size 9 1 ru (doR L o).L.length (vCells (doR L o).L)) :
    w2.heap[b + 1]? = some (.cells #[.bool false, .string ⟨#[]⟩, .slice none 0 0, .slice none 0 0] 43) ∧ DoS w ((((w2.setCell ⟨b + 1, 0, none⟩ (.bool (doR L o).ok)).setCell ⟨b + 1, 1, none⟩ (.string (doR L o).val)).setCell ⟨b + 1, 2, none⟩ rk).setCell ⟨b + 1, 3, none⟩ ru) B c kv vv L o (.agg #[.bool (doR L o).ok, .string (doR L o).val, rk, ru]) := by
  have f4 := four_fr w2 (b + 1) (.bool (doR L o).ok) (.string (doR L o).val) rk ru
  have fA := hF.trans h2
  refine ⟨(h2.block (b + 1) (heap_lt hR) (fun h => h)).trans hR, rk, ru, rfl, ?_, ?_, ?_⟩
  · refine World.ownsRow.mono (ownsRow_fr hk f4 (fun g e e2 => ?_)) (by omega)
    have := (World.ownsRow.lt hk g e).1; omega
  · refine World.ownsRow.mono (ownsRow_fr hv f4 (fun g e e2 => ?_)) (by omega)
    have := (World.ownsRow.lt hv g e).1; omega
  · exact fA.under f4 (fun j e => by omega)

set_option maxRecDepth 100000 in
set_option maxHeartbeats 4000000 in
theorem do_snapS (w : World) (B c : Nat) (kv vv : Value) (L : List Kv) (ky : Int) (x : ByteArray) (h : Rt w B c kv vv L) (hl : L.length ≤ 3999999999) :
    Calls Try.prog 18 #[.pointer (some ⟨c, 0, none⟩), opV 3 ky x] w fun e w' => ∃ rv, e = .returned rv ∧ DoS w w' B c kv vv L (3, ky, x) rv := by
  have hh := W43_op w 3 ky x
  have hr := W43_rp w 3 ky x
  have hf := W43_fr w 3 ky x
  have h1 : Rt (W43 w 3 ky x) B c kv vv L := h.fr hf (fun h => h) (fun _ _ h => h) (fun _ _ h => h)
  have hsz : (W43 w 3 ky x).heap.size = w.heap.size + 2 := by unfold W43; simp
  obtain ⟨W, eW⟩ : ∃ W, W = W43 w 3 ky x := ⟨_, rfl⟩
  rw [← eW] at hh hr hf h1 hsz
  have EW : Hd (W = W43 w 3 ky x) := eW
  obtain ⟨b, eb⟩ : ∃ b, b = w.heap.size := ⟨_, rfl⟩
  rw [← eb] at hh hr hsz
  have EB : Hd (b = w.heap.size) := eb
  have c0 : W.cell? ⟨b, 0, none⟩ = some (vI 3) := cell_of hh 0
  have CALL : Calls Try.prog 37 #[.pointer (some ⟨c, 0, none⟩)] W fun e w2 => ∃ k' v', e = .returned (.tuple #[k', v']) ∧ w2.heap[b + 1]? = some (.cells #[.bool false, .string ⟨#[]⟩, .slice none 0 0, .slice none 0 0] 43) ∧ (∃ ka kn kc, k' = .slice ka kn kc) ∧ (∃ ka kn kc, v' = .slice ka kn kc) ∧ DoS w ((((w2.setCell ⟨b + 1, 0, none⟩ (.bool true)).setCell ⟨b + 1, 1, none⟩ (.string ⟨#[]⟩)).setCell ⟨b + 1, 2, none⟩ k').setCell ⟨b + 1, 3, none⟩ v') B c kv vv L (3, ky, x) (.agg #[.bool true, .string ⟨#[]⟩, k', v']) := by
    refine (rsnap_any W B c kv vv L h1 (by omega)).mono ?_
    rintro _ w2 ⟨k', v', rfl, q1, q2, q3⟩
    have := do_finS (o := (3, ky, x)) eb h hf hsz hr q3 rfl q1 q2
    obtain ⟨a, n, e1⟩ := row_val q1
    obtain ⟨a2, n2, e2⟩ := row_val q2
    exact ⟨k', v', rfl, this.1, ⟨_, _, _, e1⟩, ⟨_, _, _, e2⟩, this.2⟩
  clear h hl hh hr hf h1 hsz eW
  go_enter Try.func18, Try.ntmps18
  go_upto_region 1 with fail
  rw [show ((w.alloc (.cells #[vI 3, vI ky, .string x] 23)).alloc (.cells #[.bool false, .string ⟨#[]⟩, .slice none 0 0, .slice none 0 0] 43)) = W from EW.out.symm, ← EB.out]
  clear EW eb
  go_wp2_with fail
  refine CALL.mono ?_
  rintro _ w2 ⟨k', v', rfl, hb2, ⟨ka, kn, kc, rfl⟩, ⟨va, vn, vc, rfl⟩, hD⟩
  have HD : Hd (DoS w ((((w2.setCell ⟨b + 1, 0, none⟩ (.bool true)).setCell ⟨b + 1, 1, none⟩ (.string ⟨#[]⟩)).setCell ⟨b + 1, 2, none⟩ (.slice ka kn kc)).setCell ⟨b + 1, 3, none⟩ (.slice va vn vc)) B c kv vv L (3, ky, x) (.agg #[.bool true, .string ⟨#[]⟩, .slice ka kn kc, .slice va vn vc])) := hD
  have z0 : w2.frozen? ⟨b + 1, 0, none⟩ = false := frozen_of hb2 0
  have z1 : w2.frozen? ⟨b + 1, 1, none⟩ = false := frozen_of hb2 1
  have z2 : w2.frozen? ⟨b + 1, 2, none⟩ = false := frozen_of hb2 2
  have z3 : w2.frozen? ⟨b + 1, 3, none⟩ = false := frozen_of hb2 3
  have y0 : w2.cell? ⟨b + 1, 0, none⟩ = some (.bool false) := cell_of hb2 0
  have y1 : w2.cell? ⟨b + 1, 1, none⟩ = some (.string ⟨#[]⟩) := cell_of hb2 1
  have y2 : w2.cell? ⟨b + 1, 2, none⟩ = some (.slice none 0 0) := cell_of hb2 2
  have y3 : w2.cell? ⟨b + 1, 3, none⟩ = some (.slice none 0 0) := cell_of hb2 3
  have HB2 : Hd (w2.heap[b + 1]? = some (.cells #[.bool false, .string ⟨#[]⟩, .slice none 0 0, .slice none 0 0] 43)) := hb2
  clear CALL hD hb2 c0
  go_wp2_with fail
  refine bodyPost_ret (reply_res Try.results18 rfl (four HB2.out (.bool true) (.string ⟨#[]⟩) (.slice ka kn kc) (.slice va vn vc))) rfl ⟨_, rfl, HD.out⟩


/-! ### what is kept, in memory -/
structure Kp (w : World) (B : Nat) (own : Nat → Nat) (kb : Nat) (lv wv : Value) (sum : Nat) (ls ws : List KR) : Prop where
  obj : w.heap[kb]? = some (.cells #[lv, wv, vI sum] 59)
  ob : own kb = 5
  lr : w.ownsRow B 43 4 lv ls.length (ls.map row4).flatten
  lo : ∀ j, lv.ownBlock = some j → own j = 6
  wr : w.ownsRow B 43 4 wv ws.length (ws.map row4).flatten
  wo : ∀ j, wv.ownBlock = some j → own j = 7
  wl : ∀ i (h : i < ws.length), RowAt w w.heap.size ws[i].rk (kCells ws[i].R.L) ∧ RowAt w w.heap.size ws[i].ru (vCells ws[i].R.L) ∧ (∀ j, ws[i].rk.ownBlock = some j → own j = 0 ∧ j < w.heap.size) ∧ ∀ j, ws[i].ru.ownBlock = some j → own j = 0 ∧ j < w.heap.size
theorem Kp.fr {w w' : World} {B kb sum : Nat} {own own' : Nat → Nat} {lv wv : Value} {ls ws : List KR} (h : Kp w B own kb lv wv sum ls ws) {S : Nat → Prop} (f : Fr S w w') (hS : ∀ j, j < w.heap.size → S j → own j ≠ 0 ∧ own j ≠ 5 ∧ own j ≠ 6 ∧ own j ≠ 7) (he : Ext own own' w) : Kp w' B own' kb lv wv sum ls ws := by
  have hk := heap_lt h.obj
  have hl := fun j e => (World.ownsRow.lt h.lr j e).2
  have hw := fun j e => (World.ownsRow.lt h.wr j e).2
  refine ⟨(f.block kb hk (fun e => (hS kb hk e).2.1 h.ob)).trans h.obj, by rw [he kb hk]; exact h.ob, ownsRow_fr h.lr f (fun j e e2 => (hS j (hl j e) e2).2.2.1 (h.lo j e)), fun j e => by rw [he j (hl j e)]; exact h.lo j e, ownsRow_fr h.wr f (fun j e e2 => (hS j (hw j e) e2).2.2.2 (h.wo j e)), fun j e => by rw [he j (hw j e)]; exact h.wo j e, fun i hi => ?_⟩
  obtain ⟨h1, h2, h3, h4⟩ := h.wl i hi
  exact ⟨(h1.fr f (Nat.le_refl _) (fun j e e2 => (hS j (h3 j e).2 e2).1 (h3 j e).1)).mono f.size, (h2.fr f (Nat.le_refl _) (fun j e e2 => (hS j (h4 j e).2 e2).1 (h4 j e).1)).mono f.size, fun j e => ⟨by rw [he j (h3 j e).2]; exact (h3 j e).1, Nat.lt_of_lt_of_le (h3 j e).2 f.size⟩, fun j e => ⟨by rw [he j (h4 j e).2]; exact (h4 j e).1, Nat.lt_of_lt_of_le (h4 j e).2 f.size⟩⟩

def snR (L : List Kv) : RepT := ⟨true, ⟨#[]⟩, L⟩
section
variable {w : World} {B : Nat} {own : Nat → Nat} {p q : TS} {r s : RS} {gs : List KR}
theorem RepAt.shp {w : World} {O : Nat → Prop} {B : Nat} {kv vv : Value} {L : List Kv} (h : RepAt w O B kv vv L) : RpV w w.heap.size (snR L) (.agg #[.bool true, .string ⟨#[]⟩, kv, vv]) := ⟨kv, vv, rfl, h.rows.1, h.rows.2⟩
/-- A Snapshot of the first table, kept. -/
theorem Sy.snap (h : Sy w B own p q r s gs) (hB : B ≤ w.heap.size) (hN : p.N ≤ 90000000000) :
    Calls Try.prog 17 #[.pointer (some ⟨p.b, 0, none⟩), opV 3 0 ⟨#[]⟩] w fun e w' => ∃ rk ru p' own', e = .returned (.agg #[.bool true, .string ⟨#[]⟩, rk, ru]) ∧ Sy w' B own' p' q r s (gs ++ [⟨rk, ru, snR p.L⟩]) ∧ p'.b = p.b ∧ p'.L = p.L ∧ p'.N = p.N + 1 ∧ Ext own own' w ∧ Fr (fun j => own j = 1) w w' ∧ RpV w' w'.heap.size (snR p.L) (.agg #[.bool true, .string ⟨#[]⟩, rk, ru]) := by
  refine (does_snap w p.b p.g p.N p.L 0 ⟨#[]⟩ h.pt hN).mono ?_
  rintro _ w' ⟨rv, rfl, hd⟩
  obtain ⟨rk, ru, p', own1, e1, h1, e2, e3, e4, hr, he, hf⟩ := h.does hB hd
  obtain ⟨own2, h2, he2, -⟩ := h1.kept (R := snR p.L) (lo := w.heap.size) hB hr
  exact ⟨rk, ru, p', own2, by rw [e1]; rfl, h2, e2, e3, e4, fun j hj => (he2 j hj).trans (he j hj), hf, hr.shp⟩
/-- And of the second. -/
theorem Sy.snap2 (h : Sy w B own p q r s gs) (hB : B ≤ w.heap.size) (hN : q.N ≤ 90000000000) :
    Calls Try.prog 17 #[.pointer (some ⟨q.b, 0, none⟩), opV 3 0 ⟨#[]⟩] w fun e w' => ∃ rk ru q' own', e = .returned (.agg #[.bool true, .string ⟨#[]⟩, rk, ru]) ∧ Sy w' B own' p q' r s (gs ++ [⟨rk, ru, snR q.L⟩]) ∧ q'.b = q.b ∧ q'.L = q.L ∧ q'.N = q.N + 1 ∧ Ext own own' w ∧ Fr (fun j => own j = 2) w w' ∧ RpV w' w'.heap.size (snR q.L) (.agg #[.bool true, .string ⟨#[]⟩, rk, ru]) := by
  refine (h.swap.snap hB hN).mono ?_
  rintro _ w' ⟨rk, ru, q', own', rfl, h1, e2, e3, e4, he, hf, hr⟩
  have hsw : ∀ n, swp (swp n) = n := fun n => by
    unfold swp
    by_cases h1 : n = 1
    · subst h1; rfl
    · by_cases h2 : n = 2
      · subst h2; rfl
      · by_cases h3 : n = 3
        · subst h3; rfl
        · by_cases h4 : n = 4
          · subst h4; rfl
          · simp [h1, h2, h3, h4]
  refine ⟨rk, ru, q', fun j => swp (own' j), rfl, h1.swap, e2, e3, e4, fun j hj => (congrArg swp (he j hj)).trans (hsw _), hf.mono (fun j _ hj => ?_), hr⟩
  have := congrArg swp hj
  rw [hsw] at this
  exact this
/-- A Snapshot of the document's first table. -/
theorem Sy.rsnap (h : Sy w B own p q r s gs) (hl : r.L.length ≤ 3999999999) :
    Calls Try.prog 18 #[.pointer (some ⟨r.c, 0, none⟩), opV 3 0 ⟨#[]⟩] w fun e w' => ∃ rk ru, e = .returned (.agg #[.bool true, .string ⟨#[]⟩, rk, ru]) ∧ Sy w' B own p q r s gs ∧ Fr (fun _ => False) w w' ∧ RpV w' w'.heap.size (snR r.L) (.agg #[.bool true, .string ⟨#[]⟩, rk, ru]) ∧ (∀ j, rk.ownBlock = some j → own j = 0 ∧ j < w'.heap.size) ∧ ∀ j, ru.ownBlock = some j → own j = 0 ∧ j < w'.heap.size := by
  refine (do_snapS w B r.c r.kv r.vv r.L 0 ⟨#[]⟩ h.rt hl).mono ?_
  rintro _ w' ⟨rv, rfl, rk, ru, e1, e2, e3, e4⟩
  have hz : ∀ j, w.heap.size ≤ j → own j = 0 := fun j hj => by
    rcases Nat.eq_zero_or_pos (own j) with e | e
    · exact e
    · have := (h.lt j (by omega)).2; omega
  exact ⟨rk, ru, by rw [e1]; rfl, h.fr e4 (fun _ _ h => h), e4, ⟨rk, ru, rfl, RowAt.own e2, RowAt.own e3⟩, fun j hj => ⟨hz j (World.ownsRow.lt e2 j hj).1, (World.ownsRow.lt e2 j hj).2⟩, fun j hj => ⟨hz j (World.ownsRow.lt e3 j hj).1, (World.ownsRow.lt e3 j hj).2⟩⟩
theorem Sy.ssnap (h : Sy w B own p q r s gs) (hl : s.L.length ≤ 3999999999) :
    Calls Try.prog 18 #[.pointer (some ⟨s.c, 0, none⟩), opV 3 0 ⟨#[]⟩] w fun e w' => ∃ rk ru, e = .returned (.agg #[.bool true, .string ⟨#[]⟩, rk, ru]) ∧ Sy w' B own p q r s gs ∧ Fr (fun _ => False) w w' ∧ RpV w' w'.heap.size (snR s.L) (.agg #[.bool true, .string ⟨#[]⟩, rk, ru]) ∧ (∀ j, rk.ownBlock = some j → own j = 0 ∧ j < w'.heap.size) ∧ ∀ j, ru.ownBlock = some j → own j = 0 ∧ j < w'.heap.size := by
  refine (do_snapS w B s.c s.kv s.vv s.L 0 ⟨#[]⟩ h.st hl).mono ?_
  rintro _ w' ⟨rv, rfl, rk, ru, e1, e2, e3, e4⟩
  have hz : ∀ j, w.heap.size ≤ j → own j = 0 := fun j hj => by
    rcases Nat.eq_zero_or_pos (own j) with e | e
    · exact e
    · have := (h.lt j (by omega)).2; omega
  exact ⟨rk, ru, by rw [e1]; rfl, h.fr e4 (fun _ _ h => h), e4, ⟨rk, ru, rfl, RowAt.own e2, RowAt.own e3⟩, fun j hj => ⟨hz j (World.ownsRow.lt e2 j hj).1, (World.ownsRow.lt e2 j hj).2⟩, fun j hj => ⟨hz j (World.ownsRow.lt e3 j hj).1, (World.ownsRow.lt e3 j hj).2⟩⟩
end
end Go.Proofs.Ytgcekpmkniipfaa

namespace Go.Proofs.Ytgcekpmkniipfaa
open Go.RowKit (wrap32 wrap64)
set_option linter.unusedVariables false
set_option linter.unusedSimpArgs false

theorem Fr.joins {S T : Nat → Prop} {a b c : World} (h : Fr S a b) (k : Fr T b c) (hs : ∀ j, j < a.heap.size → T j → S j) : Fr S a c :=
  ⟨k.os.trans h.os, k.tape.trans h.tape, k.output.trans h.output, Nat.le_trans h.size k.size, fun j hj hS => (k.block j (Nat.lt_of_lt_of_le hj h.size) (fun hT => hS (hs j hj hT))).trans (h.block j hj hS)⟩
theorem RpV.slices {w : World} {B : Nat} {R : RepT} {ok : Bool} {val : ByteArray} {rk ru : Value} (h : RpV w B R (.agg #[.bool ok, .string val, rk, ru])) : (∃ a n c, rk = .slice a n c) ∧ ∃ a n c, ru = .slice a n c := by
  obtain ⟨k1, k2, ee, ⟨ka, kc, ek, -⟩, ⟨va, vc, ev, -⟩⟩ := h
  injection ee with ee
  simp at ee
  exact ⟨⟨_, _, _, ee.2.2.1.trans ek⟩, ⟨_, _, _, ee.2.2.2.trans ev⟩⟩
/-- The call's own boxes. -/
def Loc (w : World) (own : Nat → Nat) (bs : List (Nat × Obj)) : Prop := ∀ x ∈ bs, w.heap[x.1]? = some x.2 ∧ own x.1 = 0
theorem Loc.fr {w w' : World} {own own' : Nat → Nat} {bs : List (Nat × Obj)} (h : Loc w own bs) {S : Nat → Prop} (f : Fr S w w') (hS : ∀ j, S j → own j ≠ 0) (he : Ext own own' w) : Loc w' own' bs := fun x hx => by
  obtain ⟨h1, h2⟩ := h x hx
  have hl := heap_lt h1
  exact ⟨(f.block x.1 hl (fun e => hS _ e h2)).trans h1, by rw [he _ hl]; exact h2⟩
theorem Loc.more {w : World} {own : Nat → Nat} {bs : List (Nat × Obj)} (h : Loc w own bs) (o : Obj) (hz : own w.heap.size = 0) : Loc (w.alloc o) own ((w.heap.size, o) :: bs) := fun x hx => by
  rcases List.mem_cons.1 hx with rfl | hx
  · exact ⟨heap_alloc_last w o, hz⟩
  · obtain ⟨h1, h2⟩ := h x hx
    exact ⟨(Go.RowKit.Below.heap_alloc w o _ (heap_lt h1)).trans h1, h2⟩
abbrev rpO (rk ru : Value) : Obj := .cells #[.bool true, .string ⟨#[]⟩, rk, ru] 43
abbrev opO : Obj := .cells #[vI 3, vI 0, .string ⟨#[]⟩] 23

/-- All of it, while Snapshots are asked for. -/
structure Ak (w0 w : World) (B : Nat) (own0 own : Nat → Nat) (p q : TS) (r s : RS) (gs : List KR) (kb : Nat) (lv wv : Value) (sum : Nat) (ls ws : List KR) (bs : List (Nat × Obj)) : Prop where
  sy : Sy w B own p q r s gs
  kp : Kp w B own kb lv wv sum ls ws
  loc : Loc w own bs
  fr : Fr (fun j => own0 j ≠ 0) w0 w
  ext : Ext own0 own w0
  hB : B ≤ w.heap.size
section
variable {w0 w w' : World} {B : Nat} {own0 own : Nat → Nat} {p q : TS} {r s : RS} {gs : List KR} {kb : Nat} {lv wv : Value} {sum : Nat} {ls ws : List KR} {bs : List (Nat × Obj)}
theorem Sy.zero (h : Sy w B own p q r s gs) : ∀ j, w.heap.size ≤ j → own j = 0 := fun j hj => by
  rcases Nat.eq_zero_or_pos (own j) with e | e
  · exact e
  · have := (h.lt j (by omega)).2; omega
theorem Ak.box (h : Ak w0 w B own0 own p q r s gs kb lv wv sum ls ws bs) (o : Obj) : Ak w0 (w.alloc o) B own0 own p q r s gs kb lv wv sum ls ws ((w.heap.size, o) :: bs) := by
  have f : Fr (fun _ => False) w (w.alloc o) := (Fr.refl _ w).alloc o
  exact ⟨h.sy.fr f (fun _ _ h => h), h.kp.fr f (fun _ _ h => h.elim) (fun _ _ => rfl), h.loc.more o (h.sy.zero _ (Nat.le_refl _)), h.fr.trans (f.mono (fun _ _ h => h.elim)), h.ext, Nat.le_trans h.hB f.size⟩
theorem Ak.quiet (h : Ak w0 w B own0 own p q r s gs kb lv wv sum ls ws bs) (f : Fr (fun _ => False) w w') : Ak w0 w' B own0 own p q r s gs kb lv wv sum ls ws bs :=
  ⟨h.sy.fr f (fun _ _ h => h), h.kp.fr f (fun _ _ h => h.elim) (fun _ _ => rfl), h.loc.fr f (fun _ h => h.elim) (fun _ _ => rfl), h.fr.trans (f.mono (fun _ _ h => h.elim)), h.ext, Nat.le_trans h.hB f.size⟩
theorem Ak.ask (h : Ak w0 w B own0 own p q r s gs kb lv wv sum ls ws bs) (hN : p.N ≤ 90000000000) :
    Calls Try.prog 17 #[.pointer (some ⟨p.b, 0, none⟩), opV 3 0 ⟨#[]⟩] w fun e w' => ∃ ka kn kc va vn vc p' own', e = .returned (.agg #[.bool true, .string ⟨#[]⟩, .slice ka kn kc, .slice va vn vc]) ∧ Ak w0 w' B own0 own' p' q r s (gs ++ [⟨.slice ka kn kc, .slice va vn vc, snR p.L⟩]) kb lv wv sum ls ws bs ∧ p'.b = p.b ∧ p'.L = p.L ∧ p'.N = p.N + 1 ∧ RpV w' w'.heap.size (snR p.L) (.agg #[.bool true, .string ⟨#[]⟩, .slice ka kn kc, .slice va vn vc]) := by
  refine (h.sy.snap h.hB hN).mono ?_
  rintro _ w' ⟨rk, ru, p', own', rfl, h1, e2, e3, e4, he, hf, hr⟩
  obtain ⟨⟨ka, kn, kc, rfl⟩, ⟨va, vn, vc, rfl⟩⟩ := hr.slices
  refine ⟨_, _, _, _, _, _, p', own', rfl, ⟨h1, h.kp.fr hf (fun j _ hj => by omega) he, h.loc.fr hf (fun j hj => by omega) he, ?_, fun j hj => (he j (Nat.lt_of_lt_of_le hj h.fr.size)).trans (h.ext j hj), Nat.le_trans h.hB hf.size⟩, e2, e3, e4, hr⟩
  exact h.fr.joins hf (fun j hj hj2 => by rw [← h.ext j hj]; omega)
theorem Ak.ask2 (h : Ak w0 w B own0 own p q r s gs kb lv wv sum ls ws bs) (hN : q.N ≤ 90000000000) :
    Calls Try.prog 17 #[.pointer (some ⟨q.b, 0, none⟩), opV 3 0 ⟨#[]⟩] w fun e w' => ∃ ka kn kc va vn vc q' own', e = .returned (.agg #[.bool true, .string ⟨#[]⟩, .slice ka kn kc, .slice va vn vc]) ∧ Ak w0 w' B own0 own' p q' r s (gs ++ [⟨.slice ka kn kc, .slice va vn vc, snR q.L⟩]) kb lv wv sum ls ws bs ∧ q'.b = q.b ∧ q'.L = q.L ∧ q'.N = q.N + 1 ∧ RpV w' w'.heap.size (snR q.L) (.agg #[.bool true, .string ⟨#[]⟩, .slice ka kn kc, .slice va vn vc]) := by
  refine (h.sy.snap2 h.hB hN).mono ?_
  rintro _ w' ⟨rk, ru, p', own', rfl, h1, e2, e3, e4, he, hf, hr⟩
  obtain ⟨⟨ka, kn, kc, rfl⟩, ⟨va, vn, vc, rfl⟩⟩ := hr.slices
  refine ⟨_, _, _, _, _, _, p', own', rfl, ⟨h1, h.kp.fr hf (fun j _ hj => by omega) he, h.loc.fr hf (fun j hj => by omega) he, ?_, fun j hj => (he j (Nat.lt_of_lt_of_le hj h.fr.size)).trans (h.ext j hj), Nat.le_trans h.hB hf.size⟩, e2, e3, e4, hr⟩
  exact h.fr.joins hf (fun j hj hj2 => by rw [← h.ext j hj]; omega)
theorem Ak.rask (h : Ak w0 w B own0 own p q r s gs kb lv wv sum ls ws bs) (hl : r.L.length ≤ 3999999999) :
    Calls Try.prog 18 #[.pointer (some ⟨r.c, 0, none⟩), opV 3 0 ⟨#[]⟩] w fun e w' => ∃ ka kn kc va vn vc, e = .returned (.agg #[.bool true, .string ⟨#[]⟩, .slice ka kn kc, .slice va vn vc]) ∧ Ak w0 w' B own0 own p q r s gs kb lv wv sum ls ws bs ∧ RpV w' w'.heap.size (snR r.L) (.agg #[.bool true, .string ⟨#[]⟩, .slice ka kn kc, .slice va vn vc]) ∧ (∀ j, (Value.slice ka kn kc).ownBlock = some j → own j = 0 ∧ j < w'.heap.size) ∧ ∀ j, (Value.slice va vn vc).ownBlock = some j → own j = 0 ∧ j < w'.heap.size := by
  refine (h.sy.rsnap hl).mono ?_
  rintro _ w' ⟨rk, ru, rfl, h1, hf, hr, h2, h3⟩
  obtain ⟨⟨ka, kn, kc, rfl⟩, ⟨va, vn, vc, rfl⟩⟩ := hr.slices
  exact ⟨_, _, _, _, _, _, rfl, h.quiet hf, hr, h2, h3⟩
theorem Ak.sask (h : Ak w0 w B own0 own p q r s gs kb lv wv sum ls ws bs) (hl : s.L.length ≤ 3999999999) :
    Calls Try.prog 18 #[.pointer (some ⟨s.c, 0, none⟩), opV 3 0 ⟨#[]⟩] w fun e w' => ∃ ka kn kc va vn vc, e = .returned (.agg #[.bool true, .string ⟨#[]⟩, .slice ka kn kc, .slice va vn vc]) ∧ Ak w0 w' B own0 own p q r s gs kb lv wv sum ls ws bs ∧ Fr (fun _ => False) w w' ∧ RpV w' w'.heap.size (snR s.L) (.agg #[.bool true, .string ⟨#[]⟩, .slice ka kn kc, .slice va vn vc]) ∧ (∀ j, (Value.slice ka kn kc).ownBlock = some j → own j = 0 ∧ j < w'.heap.size) ∧ ∀ j, (Value.slice va vn vc).ownBlock = some j → own j = 0 ∧ j < w'.heap.size := by
  refine (h.sy.ssnap hl).mono ?_
  rintro _ w' ⟨rk, ru, rfl, h1, hf, hr, h2, h3⟩
  obtain ⟨⟨ka, kn, kc, rfl⟩, ⟨va, vn, vc, rfl⟩⟩ := hr.slices
  exact ⟨_, _, _, _, _, _, rfl, h.quiet hf, hf, hr, h2, h3⟩
end
end Go.Proofs.Ytgcekpmkniipfaa
