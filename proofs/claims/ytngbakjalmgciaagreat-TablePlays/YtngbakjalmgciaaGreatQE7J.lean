import Derived.Test.YtngbakjalmgciaaGreatQE6
import Derived.Test.YtngbakjalmgciaaGreatQC7J
namespace Go.Proofs.YtngbakjalmgciaaGreat
open Go.RowKit (wrap32 wrap64)
set_option linter.unusedVariables false
set_option linter.unusedSimpArgs false

theorem row_val {w : World} {B e size n : Nat} {v : Value} {xs : List Value} (h : w.ownsRow B e size v n xs) : ∃ a c, v = .slice a n c := by
  rcases h.2 with ⟨rfl, rfl⟩ | ⟨g, cap, cur, rfl, h3, h4, h5⟩
  · exact ⟨_, _, rfl⟩
  · exact ⟨_, _, rfl⟩
theorem do_fin {w W w2 : World} {B c b : Nat} {kv vv rk ru : Value} {L : List Kv} {o : OpT} (hb : b = w.heap.size) (h : Rt w B c kv vv L) (hF : Fr (fun _ => False) w W) (hS : W.heap.size = b + 2) (hR : W.heap[b + 1]? = some (.cells #[.bool false, .string ⟨#[]⟩, .slice none 0 0, .slice none 0 0] 42)) (h2 : Fr (fun _ => False) W w2) (ho : doT L o = L)
    (hk : w2.ownsRow W.heap.size 3 1 rk (doR L o).L.length (kCells (doR L o).L)) (hv : w2.ownsRow W.heap.size 9 1 ru (doR L o).L.length (vCells (doR L o).L)) :
    w2.heap[b + 1]? = some (.cells #[.bool false, .string ⟨#[]⟩, .slice none 0 0, .slice none 0 0] 42) ∧ DoE w ((((w2.setCell ⟨b + 1, 0, none⟩ (.bool (doR L o).ok)).setCell ⟨b + 1, 1, none⟩ (.string (doR L o).val)).setCell ⟨b + 1, 2, none⟩ rk).setCell ⟨b + 1, 3, none⟩ ru) B c kv vv L o (.agg #[.bool (doR L o).ok, .string (doR L o).val, rk, ru]) := by
  have f4 := four_fr w2 (b + 1) (.bool (doR L o).ok) (.string (doR L o).val) rk ru
  have fA := hF.trans h2
  have hcl := heap_lt h.obj
  have ap : ∀ j, (rk.ownBlock = some j ∨ ru.ownBlock = some j) → kv.ownBlock ≠ some j ∧ vv.ownBlock ≠ some j := fun j e => by
    have hj : W.heap.size ≤ j := by
      rcases e with e | e
      · exact (World.ownsRow.lt hk j e).1
      · exact (World.ownsRow.lt hv j e).1
    exact ⟨fun e2 => by have := (World.ownsRow.lt h.ks j e2).2; omega, fun e2 => by have := (World.ownsRow.lt h.vs j e2).2; omega⟩
  refine ⟨(h2.block (b + 1) (heap_lt hR) (fun h => h)).trans hR, rk, ru, kv, vv, rfl, ?_, ?_, ?_, ?_, fun j e => Or.inl e, fun j e => Or.inl e, fun _ => ap⟩
  · refine World.ownsRow.mono (ownsRow_fr hk f4 (fun g e e2 => ?_)) (by omega)
    have := (World.ownsRow.lt hk g e).1; omega
  · refine World.ownsRow.mono (ownsRow_fr hv f4 (fun g e e2 => ?_)) (by omega)
    have := (World.ownsRow.lt hv g e).1; omega
  · rw [ho]
    refine (h.fr fA (fun h => h) (fun _ _ h => h) (fun _ _ h => h)).fr f4 (by omega) (fun g e e2 => ?_) (fun g e e2 => ?_)
    · have := (World.ownsRow.lt h.ks g e).2; omega
    · have := (World.ownsRow.lt h.vs g e).2; omega
  · have hA : Fr (fun j => j = c ∨ kv.ownBlock = some j ∨ vv.ownBlock = some j) w w2 := fA.mono (fun _ _ h => h.elim)
    exact (((hA.setCell ⟨b + 1, 0, none⟩ _ (Or.inr (by show _ ≤ b + 1; omega))).setCell ⟨b + 1, 1, none⟩ _ (Or.inr (by show _ ≤ b + 1; omega))).setCell ⟨b + 1, 2, none⟩ _ (Or.inr (by show _ ≤ b + 1; omega))).setCell ⟨b + 1, 3, none⟩ _ (Or.inr (by show _ ≤ b + 1; omega))

set_option maxRecDepth 100000 in
set_option maxHeartbeats 4000000 in
theorem do_look (w : World) (B c : Nat) (kv vv : Value) (L : List Kv) (ky : Int) (x : ByteArray) (h : Rt w B c kv vv L) (hl : L.length ≤ 3999999999) :
    Calls Tryz.prog 45 #[.pointer (some ⟨c, 0, none⟩), opV 2 ky x] w fun e w' => ∃ rv, e = .returned rv ∧ DoE w w' B c kv vv L (2, ky, x) rv := by
  have hh := W43_op w 2 ky x
  have hr := W43_rp w 2 ky x
  have hf := W43_fr w 2 ky x
  have h1 : Rt (W43 w 2 ky x) B c kv vv L := h.fr hf (fun h => h) (fun _ _ h => h) (fun _ _ h => h)
  have hsz : (W43 w 2 ky x).heap.size = w.heap.size + 2 := by unfold W43; simp
  obtain ⟨W, eW⟩ : ∃ W, W = W43 w 2 ky x := ⟨_, rfl⟩
  rw [← eW] at hh hr hf h1 hsz
  have EW : Hd (W = W43 w 2 ky x) := eW
  obtain ⟨b, eb⟩ : ∃ b, b = w.heap.size := ⟨_, rfl⟩
  rw [← eb] at hh hr hsz
  have EB : Hd (b = w.heap.size) := eb
  have c0 : W.cell? ⟨b, 0, none⟩ = some (vI 2) := cell_of hh 0
  have c1 : W.cell? ⟨b, 1, none⟩ = some (vI ky) := cell_of hh 1
  have hdr : doR L (2, ky, x) = ⟨(look L ky).isSome, (look L ky).getD ⟨#[]⟩, []⟩ := rfl
  obtain ⟨vl, evl⟩ : ∃ vl, vl = (look L ky).getD ⟨#[]⟩ := ⟨_, rfl⟩
  obtain ⟨bl, ebl⟩ : ∃ bl, bl = (look L ky).isSome := ⟨_, rfl⟩
  have CALL : Calls Tryz.prog 58 #[.pointer (some ⟨c, 0, none⟩), vI ky] W fun e w2 => e = .returned (.tuple #[.string vl, .bool bl]) ∧ w2.heap[b + 1]? = some (.cells #[.bool false, .string ⟨#[]⟩, .slice none 0 0, .slice none 0 0] 42) ∧ DoE w ((((w2.setCell ⟨b + 1, 0, none⟩ (.bool bl)).setCell ⟨b + 1, 1, none⟩ (.string vl)).setCell ⟨b + 1, 2, none⟩ (.slice none 0 0)).setCell ⟨b + 1, 3, none⟩ (.slice none 0 0)) B c kv vv L (2, ky, x) (.agg #[.bool bl, .string vl, .slice none 0 0, .slice none 0 0]) := by
    refine (rlook_any W B c kv vv L ky h1 (by omega)).mono ?_
    rintro _ w2 ⟨rfl, q1⟩
    have := do_fin (o := (2, ky, x)) eb h hf hsz hr q1 rfl (World.ownsRow_nil _ _ _ _) (World.ownsRow_nil _ _ _ _)
    rw [hdr] at this
    simp only [← evl, ← ebl] at this
    exact ⟨by rw [evl, ebl], this⟩
  clear h hl hh hr hf h1 hsz eW hdr evl ebl
  go_enter Tryz.func45, Tryz.ntmps45
  go_upto_region 1 with fail
  rw [show ((w.alloc (.cells #[vI 2, vI ky, .string x] 31)).alloc (.cells #[.bool false, .string ⟨#[]⟩, .slice none 0 0, .slice none 0 0] 42)) = W from EW.out.symm, ← EB.out]
  clear EW eb
  go_wp2_with fail
  refine CALL.mono ?_
  rintro _ w2 ⟨rfl, hb2, hD⟩
  have HD : Hd (DoE w ((((w2.setCell ⟨b + 1, 0, none⟩ (.bool bl)).setCell ⟨b + 1, 1, none⟩ (.string vl)).setCell ⟨b + 1, 2, none⟩ (.slice none 0 0)).setCell ⟨b + 1, 3, none⟩ (.slice none 0 0)) B c kv vv L (2, ky, x) (.agg #[.bool bl, .string vl, .slice none 0 0, .slice none 0 0])) := hD
  have z0 : w2.frozen? ⟨b + 1, 0, none⟩ = false := frozen_of hb2 0
  have z1 : w2.frozen? ⟨b + 1, 1, none⟩ = false := frozen_of hb2 1
  have z2 : w2.frozen? ⟨b + 1, 2, none⟩ = false := frozen_of hb2 2
  have z3 : w2.frozen? ⟨b + 1, 3, none⟩ = false := frozen_of hb2 3
  have y0 : w2.cell? ⟨b + 1, 0, none⟩ = some (.bool false) := cell_of hb2 0
  have y1 : w2.cell? ⟨b + 1, 1, none⟩ = some (.string ⟨#[]⟩) := cell_of hb2 1
  have y2 : w2.cell? ⟨b + 1, 2, none⟩ = some (.slice none 0 0) := cell_of hb2 2
  have y3 : w2.cell? ⟨b + 1, 3, none⟩ = some (.slice none 0 0) := cell_of hb2 3
  have HB2 : Hd (w2.heap[b + 1]? = some (.cells #[.bool false, .string ⟨#[]⟩, .slice none 0 0, .slice none 0 0] 42)) := hb2
  clear CALL hD hb2 c0 c1
  go_wp2_with fail
  refine bodyPost_ret (reply_res Tryz.results45 rfl (four HB2.out (.bool bl) (.string vl) (.slice none 0 0) (.slice none 0 0))) rfl ⟨_, rfl, HD.out⟩

set_option maxRecDepth 100000 in
set_option maxHeartbeats 4000000 in
theorem do_snap (w : World) (B c : Nat) (kv vv : Value) (L : List Kv) (ky : Int) (x : ByteArray) (h : Rt w B c kv vv L) (hl : L.length ≤ 3999999999) :
    Calls Tryz.prog 45 #[.pointer (some ⟨c, 0, none⟩), opV 3 ky x] w fun e w' => ∃ rv, e = .returned rv ∧ DoE w w' B c kv vv L (3, ky, x) rv := by
  have hh := W43_op w 3 ky x
  have hr := W43_rp w 3 ky x
  have hf := W43_fr w 3 ky x
  have h1 : Rt (W43 w 3 ky x) B c kv vv L := h.fr hf (fun h => h) (fun _ _ h => h) (fun _ _ h => h)
  have hsz : (W43 w 3 ky x).heap.size = w.heap.size + 2 := by unfold W43; simp
  obtain ⟨W, eW⟩ : ∃ W, W = W43 w 3 ky x := ⟨_, rfl⟩
  rw [← eW] at hh hr hf h1 hsz
  have EW : Hd (W = W43 w 3 ky x) := eW
  obtain ⟨b, eb⟩ : ∃ b, b = w.heap.size := ⟨_, rfl⟩
  rw [← eb] at hh hr hsz
  have EB : Hd (b = w.heap.size) := eb
  have c0 : W.cell? ⟨b, 0, none⟩ = some (vI 3) := cell_of hh 0
  have CALL : Calls Tryz.prog 59 #[.pointer (some ⟨c, 0, none⟩)] W fun e w2 => ∃ k' v', e = .returned (.tuple #[k', v']) ∧ w2.heap[b + 1]? = some (.cells #[.bool false, .string ⟨#[]⟩, .slice none 0 0, .slice none 0 0] 42) ∧ (∃ ka kn kc, k' = .slice ka kn kc) ∧ (∃ ka kn kc, v' = .slice ka kn kc) ∧ DoE w ((((w2.setCell ⟨b + 1, 0, none⟩ (.bool true)).setCell ⟨b + 1, 1, none⟩ (.string ⟨#[]⟩)).setCell ⟨b + 1, 2, none⟩ k').setCell ⟨b + 1, 3, none⟩ v') B c kv vv L (3, ky, x) (.agg #[.bool true, .string ⟨#[]⟩, k', v']) := by
    refine (rsnap_any W B c kv vv L h1 (by omega)).mono ?_
    rintro _ w2 ⟨k', v', rfl, q1, q2, q3⟩
    have := do_fin (o := (3, ky, x)) eb h hf hsz hr q3 rfl q1 q2
    obtain ⟨a, n, e1⟩ := row_val q1
    obtain ⟨a2, n2, e2⟩ := row_val q2
    exact ⟨k', v', rfl, this.1, ⟨_, _, _, e1⟩, ⟨_, _, _, e2⟩, this.2⟩
  clear h hl hh hr hf h1 hsz eW
  go_enter Tryz.func45, Tryz.ntmps45
  go_upto_region 1 with fail
  rw [show ((w.alloc (.cells #[vI 3, vI ky, .string x] 31)).alloc (.cells #[.bool false, .string ⟨#[]⟩, .slice none 0 0, .slice none 0 0] 42)) = W from EW.out.symm, ← EB.out]
  clear EW eb
  go_wp2_with fail
  refine CALL.mono ?_
  rintro _ w2 ⟨k', v', rfl, hb2, ⟨ka, kn, kc, rfl⟩, ⟨va, vn, vc, rfl⟩, hD⟩
  have HD : Hd (DoE w ((((w2.setCell ⟨b + 1, 0, none⟩ (.bool true)).setCell ⟨b + 1, 1, none⟩ (.string ⟨#[]⟩)).setCell ⟨b + 1, 2, none⟩ (.slice ka kn kc)).setCell ⟨b + 1, 3, none⟩ (.slice va vn vc)) B c kv vv L (3, ky, x) (.agg #[.bool true, .string ⟨#[]⟩, .slice ka kn kc, .slice va vn vc])) := hD
  have z0 : w2.frozen? ⟨b + 1, 0, none⟩ = false := frozen_of hb2 0
  have z1 : w2.frozen? ⟨b + 1, 1, none⟩ = false := frozen_of hb2 1
  have z2 : w2.frozen? ⟨b + 1, 2, none⟩ = false := frozen_of hb2 2
  have z3 : w2.frozen? ⟨b + 1, 3, none⟩ = false := frozen_of hb2 3
  have y0 : w2.cell? ⟨b + 1, 0, none⟩ = some (.bool false) := cell_of hb2 0
  have y1 : w2.cell? ⟨b + 1, 1, none⟩ = some (.string ⟨#[]⟩) := cell_of hb2 1
  have y2 : w2.cell? ⟨b + 1, 2, none⟩ = some (.slice none 0 0) := cell_of hb2 2
  have y3 : w2.cell? ⟨b + 1, 3, none⟩ = some (.slice none 0 0) := cell_of hb2 3
  have HB2 : Hd (w2.heap[b + 1]? = some (.cells #[.bool false, .string ⟨#[]⟩, .slice none 0 0, .slice none 0 0] 42)) := hb2
  clear CALL hD hb2 c0
  go_wp2_with fail
  refine bodyPost_ret (reply_res Tryz.results45 rfl (four HB2.out (.bool true) (.string ⟨#[]⟩) (.slice ka kn kc) (.slice va vn vc))) rfl ⟨_, rfl, HD.out⟩

theorem do_any (w : World) (B c : Nat) (kv vv : Value) (L : List Kv) (kd ky : Int) (x : ByteArray) (hk : kd = 1 ∨ kd = 2 ∨ kd = 3) (h : Rt w B c kv vv L) (hB : B ≤ w.heap.size) (hl : L.length ≤ 3999999999) :
    Calls Tryz.prog 45 #[.pointer (some ⟨c, 0, none⟩), opV kd ky x] w fun e w' => ∃ rv, e = .returned rv ∧ DoE w w' B c kv vv L (kd, ky, x) rv := by
  rcases hk with rfl | rfl | rfl
  · exact do_pub w B c kv vv L ky x h hB hl
  · exact do_look w B c kv vv L ky x h hl
  · exact do_snap w B c kv vv L ky x h hl
end Go.Proofs.YtngbakjalmgciaaGreat

namespace Go.Proofs.YtngbakjalmgciaaGreat
set_option linter.unusedVariables false
set_option linter.unusedSimpArgs false

/-! ### the document's play, as plain data -/
structure DC where
  ops : List OpT
  at' : Nat
  begun : Bool
  locked : Nat
  done : Bool
  rp : RepT
def dc0 : DC := ⟨[], 0, false, 0, false, rep0⟩
structure DS where
  tab : List Kv
  held : Nat → Int
  cls : List DC
  ms : List MomT
def dCan (s : DS) (c : DC) : Bool :=
  match c.ops[c.at']? with
  | none => false
  | some o => if (!c.begun || c.done) = true then true else if o.1 ≠ 3 then decide (s.held (strp o.2.1) < 0) else decide (c.locked = 8) || decide (s.held c.locked < 0)
def dReady (s : DS) : List Nat := (List.range s.cls.length).filter (fun i => dCan s (s.cls.getD i dc0))
def dStep (s : DS) (n : Nat) : DS :=
  let c := s.cls.getD n dc0
  match c.ops[c.at']? with
  | none => s
  | some o =>
    if c.begun = false then { s with cls := s.cls.set n { c with begun := true }, ms := s.ms ++ [⟨n, true, o, rep0⟩] }
    else if c.done = true then { s with cls := s.cls.set n { c with at' := c.at' + 1, begun := false, done := false }, ms := s.ms ++ [⟨n, false, o, c.rp⟩] }
    else if o.1 = 3 ∧ c.locked < 8 then { s with held := fun j => if j = c.locked then (n : Int) else s.held j, cls := s.cls.set n { c with locked := c.locked + 1 } }
    else if o.1 = 3 then { s with held := fun _ => -1, cls := s.cls.set n { c with rp := doR s.tab o, done := true, locked := 0 } }
    else { s with tab := doT s.tab o, cls := s.cls.set n { c with rp := doR s.tab o, done := true } }
/-- The states of the document's play, one behind the other; at its end it stays. -/
def dIter (script : List Int) (s0 : DS) : Nat → DS × Int
  | 0 => (s0, -1)
  | k + 1 =>
    let s := dIter script s0 k
    if dReady s.1 = [] then s else
    let p := pickX s.2 (dReady s.1) script k
    (dStep s.1 p, (p : Int))
def rightX (l : List OpT) : List OpT := l.filter (fun o => known o.1)
def dBegin (cl : List (List OpT)) : DS := ⟨[], fun _ => -1, cl.map (fun l => ⟨rightX l, 0, false, 0, false, rep0⟩), []⟩
end Go.Proofs.YtngbakjalmgciaaGreat

namespace Go.Proofs.YtngbakjalmgciaaGreat
open Go.RowKit (wrap32 wrap64)
set_option linter.unusedVariables false
set_option linter.unusedSimpArgs false

set_option maxRecDepth 100000 in
set_option maxHeartbeats 1000000 in
theorem rstripe_any (k : Int) (w : World) : Calls Tryz.prog 56 #[vI k] w fun e w' => e = .returned (vI (strp k)) ∧ w' = w := by
  have hs : ((strp k : Nat) : Int) = k % 8 := by unfold strp; omega
  rw [hs]
  have hb := tmod_bound k 8 (by decide)
  have hw : wrap64 (k.tmod 8) = k.tmod 8 := w64 (by omega) (by omega)
  have hw2 : wrap64 (k.tmod 8 + 8) = k.tmod 8 + 8 := w64 (by omega) (by omega)
  have hm := mod_eq k 8 (by decide)
  have hw3 : wrap64 ((k.tmod 8 + 8).tmod 8) = k % 8 := by rw [hm]; exact w64 (by omega) (by omega)
  clear hb hs
  go_enter Tryz.func56, Tryz.ntmps56
  go_wp2_with fail
  go_ret
  exact ⟨rfl, rfl⟩
end Go.Proofs.YtngbakjalmgciaaGreat
