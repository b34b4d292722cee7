import Derived.Test.YtngbakjalmgciaaGreatQE5
import Derived.Laws.Rows
namespace Go.Proofs.YtngbakjalmgciaaGreat
open Go.RowKit (wrap32 wrap64)
set_option linter.unusedVariables false
set_option linter.unusedSimpArgs false

theorem four {w : World} {b t : Nat} {a0 a1 a2 a3 : Value} (h : w.heap[b]? = some (.cells #[a0, a1, a2, a3] t)) (x0 x1 x2 x3 : Value) : ((((w.setCell ⟨b, 0, none⟩ x0).setCell ⟨b, 1, none⟩ x1).setCell ⟨b, 2, none⟩ x2).setCell ⟨b, 3, none⟩ x3).heap[b]? = some (.cells #[x0, x1, x2, x3] t) := set_of (set_of (set_of (set_of h 0 x0) 1 x1) 2 x2) 3 x3
theorem four_fr (w : World) (b : Nat) (x0 x1 x2 x3 : Value) : Fr (fun k => k = b) w ((((w.setCell ⟨b, 0, none⟩ x0).setCell ⟨b, 1, none⟩ x1).setCell ⟨b, 2, none⟩ x2).setCell ⟨b, 3, none⟩ x3) :=
  ((((Fr.refl (fun k => k = b) w).setCell ⟨b, 0, none⟩ x0 (Or.inl rfl)).setCell ⟨b, 1, none⟩ x1 (Or.inl rfl)).setCell ⟨b, 2, none⟩ x2 (Or.inl rfl)).setCell ⟨b, 3, none⟩ x3 (Or.inl rfl)
theorem reply_res {w : World} {tmps : Array Value} {fn : Func} {p : Tmp} (h : fn.results = #[.cell p 42]) {g : Nat} {x0 x1 x2 x3 : Value} (hp : tmps.getD p undef = .pointer (some ⟨g, 0, none⟩)) (hg : w.heap[g]? = some (.cells #[x0, x1, x2, x3] 42)) : (results fn tmps).run Tryz.prog w = .ok (.agg #[x0, x1, x2, x3]) w := by
  exact results_cell_row h tmps w g 42 _ (0, 0) _ hp hg Tryz.underlying42 rfl (by kernel_rfl)

/-- What Do leaves. -/
def DoE (w w' : World) (B c : Nat) (kv vv : Value) (L : List Kv) (o : OpT) (rv : Value) : Prop :=
  ∃ rk ru kv' vv', rv = .agg #[.bool (doR L o).ok, .string (doR L o).val, rk, ru] ∧ w'.ownsRow w.heap.size 3 1 rk (doR L o).L.length (kCells (doR L o).L) ∧ w'.ownsRow w.heap.size 9 1 ru (doR L o).L.length (vCells (doR L o).L) ∧
    Rt w' B c kv' vv' (doT L o) ∧ Fr (fun j => j = c ∨ kv.ownBlock = some j ∨ vv.ownBlock = some j) w w' ∧ (∀ j, kv'.ownBlock = some j → kv.ownBlock = some j ∨ w.heap.size ≤ j) ∧ (∀ j, vv'.ownBlock = some j → vv.ownBlock = some j ∨ w.heap.size ≤ j) ∧ ((doR L o).L ≠ [] → ∀ j, (rk.ownBlock = some j ∨ ru.ownBlock = some j) → kv'.ownBlock ≠ some j ∧ vv'.ownBlock ≠ some j)

def W43 (w : World) (kd ky : Int) (x : ByteArray) : World := (w.alloc (.cells #[vI kd, vI ky, .string x] 31)).alloc (.cells #[.bool false, .string ⟨#[]⟩, .slice none 0 0, .slice none 0 0] 42)
theorem W43_fr (w : World) (kd ky : Int) (x : ByteArray) : Fr (fun _ => False) w (W43 w kd ky x) := ((Fr.refl _ w).alloc _).alloc _
theorem W43_op (w : World) (kd ky : Int) (x : ByteArray) : (W43 w kd ky x).heap[w.heap.size]? = some (.cells #[vI kd, vI ky, .string x] 31) := by
  unfold W43
  rw [Go.RowKit.Below.heap_alloc _ _ _ (by simp)]; exact heap_alloc_last w _
theorem W43_rp (w : World) (kd ky : Int) (x : ByteArray) : (W43 w kd ky x).heap[w.heap.size + 1]? = some (.cells #[.bool false, .string ⟨#[]⟩, .slice none 0 0, .slice none 0 0] 42) := by
  unfold W43
  have := heap_alloc_last (w.alloc (.cells #[vI kd, vI ky, .string x] 31)) (.cells #[.bool false, .string ⟨#[]⟩, .slice none 0 0, .slice none 0 0] 42)
  rw [show (w.alloc (.cells #[vI kd, vI ky, .string x] 31)).heap.size = w.heap.size + 1 by simp] at this
  exact this

set_option maxRecDepth 100000 in
set_option maxHeartbeats 4000000 in
theorem do_pub (w : World) (B c : Nat) (kv vv : Value) (L : List Kv) (ky : Int) (x : ByteArray) (h : Rt w B c kv vv L) (hB : B ≤ w.heap.size) (hl : L.length ≤ 3999999999) :
    Calls Tryz.prog 45 #[.pointer (some ⟨c, 0, none⟩), opV 1 ky x] w fun e w' => ∃ rv, e = .returned rv ∧ DoE w w' B c kv vv L (1, ky, x) rv := by
  have H : Hd (Rt w B c kv vv L) := h
  have HB : Hd (B ≤ w.heap.size) := hB
  have hh := W43_op w 1 ky x
  have hr := W43_rp w 1 ky x
  have hf := W43_fr w 1 ky x
  have h1 : Rt (W43 w 1 ky x) B c kv vv L := h.fr hf (fun h => h) (fun _ _ h => h) (fun _ _ h => h)
  have hsz : (W43 w 1 ky x).heap.size = w.heap.size + 2 := by unfold W43; simp
  obtain ⟨W, eW⟩ : ∃ W, W = W43 w 1 ky x := ⟨_, rfl⟩
  rw [← eW] at hh hr hf h1 hsz
  have EW : Hd (W = W43 w 1 ky x) := eW
  obtain ⟨b, eb⟩ : ∃ b, b = w.heap.size := ⟨_, rfl⟩
  rw [← eb] at hh hr hsz
  have EB : Hd (b = w.heap.size) := eb
  have HC : Hd (c < b) := by show _ < _; rw [eb]; exact heap_lt h.obj
  have HKB : Hd (∀ j, kv.ownBlock = some j ∨ vv.ownBlock = some j → j < b) := fun j hj => by
    rw [eb]
    rcases hj with hj | hj
    · exact (World.ownsRow.lt h.ks j hj).2
    · exact (World.ownsRow.lt h.vs j hj).2
  have c0 : W.cell? ⟨b, 0, none⟩ = some (vI 1) := cell_of hh 0
  have c1 : W.cell? ⟨b, 1, none⟩ = some (vI ky) := cell_of hh 1
  have c2 : W.cell? ⟨b, 2, none⟩ = some (.string x) := cell_of hh 2
  have HR : Hd (W.heap[b + 1]? = some (.cells #[.bool false, .string ⟨#[]⟩, .slice none 0 0, .slice none 0 0] 42)) := hr
  have HF : Hd (Fr (fun _ => False) w W) := hf
  have H1 : Hd (Rt W B c kv vv L) := h1
  -- behind the store
  have fin : ∀ (bl : Bool) (w2 : World) (kv' vv' : Value), bl = (doR L (1, ky, x)).ok → Rt w2 B c kv' vv' (doT L (1, ky, x)) → Fr (fun j => j = c ∨ kv.ownBlock = some j ∨ vv.ownBlock = some j) W w2 → (∀ j, kv'.ownBlock = some j → kv.ownBlock = some j ∨ W.heap.size ≤ j) → (∀ j, vv'.ownBlock = some j → vv.ownBlock = some j ∨ W.heap.size ≤ j) →
      w2.heap[b + 1]? = some (.cells #[.bool false, .string ⟨#[]⟩, .slice none 0 0, .slice none 0 0] 42) ∧ DoE w ((((w2.setCell ⟨b + 1, 0, none⟩ (.bool bl)).setCell ⟨b + 1, 1, none⟩ (.string ⟨#[]⟩)).setCell ⟨b + 1, 2, none⟩ (.slice none 0 0)).setCell ⟨b + 1, 3, none⟩ (.slice none 0 0)) B c kv vv L (1, ky, x) (.agg #[.bool bl, .string ⟨#[]⟩, .slice none 0 0, .slice none 0 0]) := by
    intro bl w2 kv' vv' ebl hR2 hF2 hk' hv'
    have f4 := four_fr w2 (b + 1) (.bool bl) (.string ⟨#[]⟩) (.slice none 0 0) (.slice none 0 0)
    have hcb := HC.out
    refine ⟨(hF2.block (b + 1) (heap_lt HR.out) (fun e => ?_)).trans HR.out, ⟨_, _, kv', vv', by rw [ebl]; rfl, World.ownsRow_nil _ _ _ _, World.ownsRow_nil _ _ _ _, hR2.fr f4 (by omega) (fun g e e2 => ?_) (fun g e e2 => ?_), ?_, fun j e => ?_, fun j e => ?_, fun hne => absurd (by unfold doR; rw [if_pos rfl]) hne⟩⟩
    · rcases e with e | e
      · omega
      · have := HKB.out _ e; omega
    · rcases hk' g e with e3 | e3
      · have := HKB.out g (Or.inl e3); omega
      · omega
    · rcases hv' g e with e3 | e3
      · have := HKB.out g (Or.inr e3); omega
      · omega
    · have hA : Fr (fun j => j = c ∨ kv.ownBlock = some j ∨ vv.ownBlock = some j) w w2 := (HF.out.mono (fun _ _ h => h.elim)).trans hF2
      have hb := EB.out
      exact (((hA.setCell _ _ (Or.inr (by show _ ≤ b + 1; omega))).setCell _ _ (Or.inr (by show _ ≤ b + 1; omega))).setCell _ _ (Or.inr (by show _ ≤ b + 1; omega))).setCell _ _ (Or.inr (by show _ ≤ b + 1; omega))
    · rcases hk' j e with e3 | e3
      · exact Or.inl e3
      · right; have := EB.out; omega
    · rcases hv' j e with e3 | e3
      · exact Or.inl e3
      · right; have := EB.out; omega
  have FIN : Hd (∀ (bl : Bool) (w2 : World) (kv' vv' : Value), bl = (doR L (1, ky, x)).ok → Rt w2 B c kv' vv' (doT L (1, ky, x)) → Fr (fun j => j = c ∨ kv.ownBlock = some j ∨ vv.ownBlock = some j) W w2 → (∀ j, kv'.ownBlock = some j → kv.ownBlock = some j ∨ W.heap.size ≤ j) → (∀ j, vv'.ownBlock = some j → vv.ownBlock = some j ∨ W.heap.size ≤ j) →
      w2.heap[b + 1]? = some (.cells #[.bool false, .string ⟨#[]⟩, .slice none 0 0, .slice none 0 0] 42) ∧ DoE w ((((w2.setCell ⟨b + 1, 0, none⟩ (.bool bl)).setCell ⟨b + 1, 1, none⟩ (.string ⟨#[]⟩)).setCell ⟨b + 1, 2, none⟩ (.slice none 0 0)).setCell ⟨b + 1, 3, none⟩ (.slice none 0 0)) B c kv vv L (1, ky, x) (.agg #[.bool bl, .string ⟨#[]⟩, .slice none 0 0, .slice none 0 0])) := fin
  clear fin
  have hsz2 : B ≤ W.heap.size := Nat.le_trans hB hf.size
  have CALL : ∃ bl, Calls Tryz.prog 57 #[.pointer (some ⟨c, 0, none⟩), vI ky, .string x] W fun e w2 => e = .returned (.bool bl) ∧ w2.heap[b + 1]? = some (.cells #[.bool false, .string ⟨#[]⟩, .slice none 0 0, .slice none 0 0] 42) ∧ DoE w ((((w2.setCell ⟨b + 1, 0, none⟩ (.bool bl)).setCell ⟨b + 1, 1, none⟩ (.string ⟨#[]⟩)).setCell ⟨b + 1, 2, none⟩ (.slice none 0 0)).setCell ⟨b + 1, 3, none⟩ (.slice none 0 0)) B c kv vv L (1, ky, x) (.agg #[.bool bl, .string ⟨#[]⟩, .slice none 0 0, .slice none 0 0]) := by
    cases hlk : look L ky with
    | none =>
      refine ⟨true, (rpub_yes W B c kv vv L ky x h1 hsz2 (by omega) hlk).mono ?_⟩
      rintro _ w2 ⟨rfl, kv', vv', q1, q2, q3, q4⟩
      exact ⟨rfl, FIN.out true w2 kv' vv' (by unfold doR; rw [if_pos rfl, hlk]; rfl) (by unfold doT; rw [if_pos rfl, hlk]; exact q1) q2 q3 q4⟩
    | some y =>
      refine ⟨false, (rpub_no W B c kv vv L ky x h1 (by omega) (by rw [hlk]; rfl)).mono ?_⟩
      rintro _ w2 ⟨rfl, q1⟩
      refine ⟨rfl, FIN.out false w2 kv vv (by unfold doR; rw [if_pos rfl, hlk]; rfl) ?_ (q1.mono (fun _ _ h => h.elim)) (fun j e => Or.inl e) (fun j e => Or.inl e)⟩
      unfold doT
      rw [if_pos rfl, hlk]
      exact h1.fr q1 (fun h => h) (fun _ _ h => h) (fun _ _ h => h)
  obtain ⟨bl, CALL⟩ := CALL
  clear FIN h hB hh hr hf h1 hsz hsz2 eW H HC HKB HF H1
  go_enter Tryz.func45, Tryz.ntmps45
  go_upto_region 1 with fail
  rw [show ((w.alloc (.cells #[vI 1, vI ky, .string x] 31)).alloc (.cells #[.bool false, .string ⟨#[]⟩, .slice none 0 0, .slice none 0 0] 42)) = W from EW.out.symm, ← EB.out]
  clear EW eb
  go_wp2_with fail
  refine CALL.mono ?_
  rintro _ w2 ⟨rfl, hb2, hD⟩
  have HD : Hd (DoE w ((((w2.setCell ⟨b + 1, 0, none⟩ (.bool bl)).setCell ⟨b + 1, 1, none⟩ (.string ⟨#[]⟩)).setCell ⟨b + 1, 2, none⟩ (.slice none 0 0)).setCell ⟨b + 1, 3, none⟩ (.slice none 0 0)) B c kv vv L (1, ky, x) (.agg #[.bool bl, .string ⟨#[]⟩, .slice none 0 0, .slice none 0 0])) := hD
  have z0 : w2.frozen? ⟨b + 1, 0, none⟩ = false := frozen_of hb2 0
  have z1 : w2.frozen? ⟨b + 1, 1, none⟩ = false := frozen_of hb2 1
  have z2 : w2.frozen? ⟨b + 1, 2, none⟩ = false := frozen_of hb2 2
  have z3 : w2.frozen? ⟨b + 1, 3, none⟩ = false := frozen_of hb2 3
  have y0 : w2.cell? ⟨b + 1, 0, none⟩ = some (.bool false) := cell_of hb2 0
  have y1 : w2.cell? ⟨b + 1, 1, none⟩ = some (.string ⟨#[]⟩) := cell_of hb2 1
  have y2 : w2.cell? ⟨b + 1, 2, none⟩ = some (.slice none 0 0) := cell_of hb2 2
  have y3 : w2.cell? ⟨b + 1, 3, none⟩ = some (.slice none 0 0) := cell_of hb2 3
  have HB2 : Hd (w2.heap[b + 1]? = some (.cells #[.bool false, .string ⟨#[]⟩, .slice none 0 0, .slice none 0 0] 42)) := hb2
  clear CALL hD hb2 c0 c1 c2
  go_wp2_with fail
  refine bodyPost_ret (reply_res Tryz.results45 rfl (four HB2.out (.bool bl) (.string ⟨#[]⟩) (.slice none 0 0) (.slice none 0 0))) rfl ⟨_, rfl, HD.out⟩
end Go.Proofs.YtngbakjalmgciaaGreat
