import Derived.Test.YtihicdbplmdjiaaQE4J
import Derived.Laws.Rows
namespace Go.Proofs.Ytihicdbplmdjiaa
open Go.RowKit (wrap32 wrap64)
set_option linter.unusedVariables false
set_option linter.unusedSimpArgs false

theorem four {w : World} {b t : Nat} {a0 a1 a2 a3 : Value} (h : w.heap[b]? = some (.cells #[a0, a1, a2, a3] t)) (x0 x1 x2 x3 : Value) : ((((w.setCell ⟨b, 0, none⟩ x0).setCell ⟨b, 1, none⟩ x1).setCell ⟨b, 2, none⟩ x2).setCell ⟨b, 3, none⟩ x3).heap[b]? = some (.cells #[x0, x1, x2, x3] t) := set_of (set_of (set_of (set_of h 0 x0) 1 x1) 2 x2) 3 x3
theorem four_fr (w : World) (b : Nat) (x0 x1 x2 x3 : Value) : Fr (fun k => k = b) w ((((w.setCell ⟨b, 0, none⟩ x0).setCell ⟨b, 1, none⟩ x1).setCell ⟨b, 2, none⟩ x2).setCell ⟨b, 3, none⟩ x3) :=
  ((((Fr.refl (fun k => k = b) w).setCell ⟨b, 0, none⟩ x0 (Or.inl rfl)).setCell ⟨b, 1, none⟩ x1 (Or.inl rfl)).setCell ⟨b, 2, none⟩ x2 (Or.inl rfl)).setCell ⟨b, 3, none⟩ x3 (Or.inl rfl)
theorem reply_res {w : World} {tmps : Array Value} {fn : Func} {p : Tmp} (h : fn.results = #[.cell p 28]) {g : Nat} {x0 x1 x2 x3 : Value} (hp : tmps.getD p undef = .pointer (some ⟨g, 0, none⟩)) (hg : w.heap[g]? = some (.cells #[x0, x1, x2, x3] 28)) : (results fn tmps).run Try.prog w = .ok (.agg #[x0, x1, x2, x3]) w := by
  exact results_cell_row h tmps w g 28 _ (0, 0) _ hp hg Try.underlying28 rfl (by kernel_rfl)

/-- What Do leaves. -/
def DoE (w w' : World) (B c : Nat) (kv vv : Value) (L : List Kv) (o : OpT) (rv : Value) : Prop :=
  ∃ rk ru kv' vv', rv = .agg #[.bool (doR L o).ok, .string (doR L o).val, rk, ru] ∧ w'.ownsRow w.heap.size 3 1 rk (doR L o).L.length (kCells (doR L o).L) ∧ w'.ownsRow w.heap.size 9 1 ru (doR L o).L.length (vCells (doR L o).L) ∧
    Rt w' B c kv' vv' (doT L o) ∧ Fr (fun j => j = c ∨ kv.ownBlock = some j ∨ vv.ownBlock = some j) w w' ∧ (∀ j, kv'.ownBlock = some j → kv.ownBlock = some j ∨ w.heap.size ≤ j) ∧ (∀ j, vv'.ownBlock = some j → vv.ownBlock = some j ∨ w.heap.size ≤ j) ∧ ((doR L o).L ≠ [] → ∀ j, (rk.ownBlock = some j ∨ ru.ownBlock = some j) → kv'.ownBlock ≠ some j ∧ vv'.ownBlock ≠ some j)

def W43 (w : World) (kd ky : Int) (x : ByteArray) : World := (w.alloc (.cells #[vI kd, vI ky, .string x] 24)).alloc (.cells #[.bool false, .string ⟨#[]⟩, .slice none 0 0, .slice none 0 0] 28)
theorem W43_fr (w : World) (kd ky : Int) (x : ByteArray) : Fr (fun _ => False) w (W43 w kd ky x) := ((Fr.refl _ w).alloc _).alloc _
theorem W43_op (w : World) (kd ky : Int) (x : ByteArray) : (W43 w kd ky x).heap[w.heap.size]? = some (.cells #[vI kd, vI ky, .string x] 24) := by
  unfold W43
  rw [Go.RowKit.Below.heap_alloc _ _ _ (by simp)]; exact heap_alloc_last w _
theorem W43_rp (w : World) (kd ky : Int) (x : ByteArray) : (W43 w kd ky x).heap[w.heap.size + 1]? = some (.cells #[.bool false, .string ⟨#[]⟩, .slice none 0 0, .slice none 0 0] 28) := by
  unfold W43
  have := heap_alloc_last (w.alloc (.cells #[vI kd, vI ky, .string x] 24)) (.cells #[.bool false, .string ⟨#[]⟩, .slice none 0 0, .slice none 0 0] 28)
  rw [show (w.alloc (.cells #[vI kd, vI ky, .string x] 24)).heap.size = w.heap.size + 1 by simp] at this
  exact this

set_option maxRecDepth 100000 in
set_option maxHeartbeats 4000000 in
theorem do_pub (w : World) (B c : Nat) (kv vv : Value) (L : List Kv) (ky : Int) (x : ByteArray) (h : Rt w B c kv vv L) (hB : B ≤ w.heap.size) (hl : L.length ≤ 3999999999) :
    Calls Try.prog 32 #[.pointer (some ⟨c, 0, none⟩), opV 1 ky x] w fun e w' => ∃ rv, e = .returned rv ∧ DoE w w' B c kv vv L (1, ky, x) rv := by
  have H : Hd (Rt w B c kv vv L) := h
  have HB : Hd (B ≤ w.heap.size) := hB
  have hh := W43_op w 1 ky x
  have hr := W43_rp w 1 ky x
  have hf := W43_fr w 1 ky x
  have h1 : Rt (W43 w 1 ky x) B c kv vv L := h.fr hf (fun h => h) (fun _ _ h => h) (fun _ _ h => h)
  have hsz : (W43 w 1 ky x).heap.size = w.heap.size + 2 := by unfold W43; simp
  obtain ⟨W, eW⟩ : ∃ W, W = W43 w 1 ky x := ⟨_, rfl⟩
  rw [← eW] at hh hr hf h1 hsz
  have EW : Hd (W = W43 w 1 ky x) := eW
  obtain ⟨b, eb⟩ : ∃ b, b = w.heap.size := ⟨_, rfl⟩
  rw [← eb] at hh hr hsz
  have EB : Hd (b = w.heap.size) := eb
  have HC : Hd (c < b) := by show _ < _; rw [eb]; exact heap_lt h.obj
  have HKB : Hd (∀ j, kv.ownBlock = some j ∨ vv.ownBlock = some j → j < b) := fun j hj => by
    rw [eb]
    rcases hj with hj | hj
    · exact (World.ownsRow.lt h.ks j hj).2
    · exact (World.ownsRow.lt h.vs j hj).2
  have c0 : W.cell? ⟨b, 0, none⟩ = some (vI 1) := cell_of hh 0
  have c1 : W.cell? ⟨b, 1, none⟩ = some (vI ky) := cell_of hh 1
  have c2 : W.cell? ⟨b, 2, none⟩ = some (.string x) := cell_of hh 2
  have HR : Hd (W.heap[b + 1]? = some (.cells #[.bool false, .string ⟨#[]⟩, .slice none 0 0, .slice none 0 0] 28)) := hr
  have HF : Hd (Fr (fun _ => False) w W) := hf
  have H1 : Hd (Rt W B c kv vv L) := h1
  -- behind the store
  have fin : ∀ (bl : Bool) (w2 : World) (kv' vv' : Value), bl = (doR L (1, ky, x)).ok → Rt w2 B c kv' vv' (doT L (1, ky, x)) → Fr (fun j => j = c ∨ kv.ownBlock = some j ∨ vv.ownBlock = some j) W w2 → (∀ j, kv'.ownBlock = some j → kv.ownBlock = some j ∨ W.heap.size ≤ j) → (∀ j, vv'.ownBlock = some j → vv.ownBlock = some j ∨ W.heap.size ≤ j) →
      w2.heap[b + 1]? = some (.cells #[.bool false, .string ⟨#[]⟩, .slice none 0 0, .slice none 0 0] 28) ∧ DoE w ((((w2.setCell ⟨b + 1, 0, none⟩ (.bool bl)).setCell ⟨b + 1, 1, none⟩ (.string ⟨#[]⟩)).setCell ⟨b + 1, 2, none⟩ (.slice none 0 0)).setCell ⟨b + 1, 3, none⟩ (.slice none 0 0)) B c kv vv L (1, ky, x) (.agg #[.bool bl, .string ⟨#[]⟩, .slice none 0 0, .slice none 0 0]) := by
    intro bl w2 kv' vv' ebl hR2 hF2 hk' hv'
    have f4 := four_fr w2 (b + 1) (.bool bl) (.string ⟨#[]⟩) (.slice none 0 0) (.slice none 0 0)
    have hcb := HC.out
    refine ⟨(hF2.block (b + 1) (heap_lt HR.out) (fun e => ?_)).trans HR.out, ⟨_, _, kv', vv', by rw [ebl]; rfl, World.ownsRow_nil _ _ _ _, World.ownsRow_nil _ _ _ _, hR2.fr f4 (by omega) (fun g e e2 => ?_) (fun g e e2 => ?_), ?_, fun j e => ?_, fun j e => ?_, fun hne => absurd (by unfold doR; rw [if_pos rfl]) hne⟩⟩
    · rcases e with e | e
      · omega
      · have := HKB.out _ e; omega
    · rcases hk' g e with e3 | e3
      · have := HKB.out g (Or.inl e3); omega
      · omega
    · rcases hv' g e with e3 | e3
      · have := HKB.out g (Or.inr e3); omega
      · omega
    · have hA : Fr (fun j => j = c ∨ kv.ownBlock = some j ∨ vv.ownBlock = some j) w w2 := (HF.out.mono (fun _ _ h => h.elim)).trans hF2
      have hb := EB.out
      exact (((hA.setCell _ _ (Or.inr (by show _ ≤ b + 1; omega))).setCell _ _ (Or.inr (by show _ ≤ b + 1; omega))).setCell _ _ (Or.inr (by show _ ≤ b + 1; omega))).setCell _ _ (Or.inr (by show _ ≤ b + 1; omega))
    · rcases hk' j e with e3 | e3
      · exact Or.inl e3
      · right; have := EB.out; omega
    · rcases hv' j e with e3 | e3
      · exact Or.inl e3
      · right; have := EB.out; omega
  have FIN : Hd (∀ (bl : Bool) (w2 : World) (kv' vv' : Value), bl = (doR L (1, ky, x)).ok → Rt w2 B c kv' vv' (doT L (1, ky, x)) → Fr (fun j => j = c ∨ kv.ownBlock = some j ∨ vv.ownBlock = some j) W w2 → (∀ j, kv'.ownBlock = some j → kv.ownBlock = some j ∨ W.heap.size ≤ j) → (∀ j, vv'.ownBlock = some j → vv.ownBlock = some j ∨ W.heap.size ≤ j) →
      w2.heap[b + 1]? = some (.cells #[.bool false, .string ⟨#[]⟩, .slice none 0 0, .slice none 0 0] 28) ∧ DoE w ((((w2.setCell ⟨b + 1, 0, none⟩ (.bool bl)).setCell ⟨b + 1, 1, none⟩ (.string ⟨#[]⟩)).setCell ⟨b + 1, 2, none⟩ (.slice none 0 0)).setCell ⟨b + 1, 3, none⟩ (.slice none 0 0)) B c kv vv L (1, ky, x) (.agg #[.bool bl, .string ⟨#[]⟩, .slice none 0 0, .slice none 0 0])) := fin
  clear fin
  have hsz2 : B ≤ W.heap.size := Nat.le_trans hB hf.size
  have CALL : ∃ bl, Calls Try.prog 46 #[.pointer (some ⟨c, 0, none⟩), vI ky, .string x] W fun e w2 => e = .returned (.bool bl) ∧ w2.heap[b + 1]? = some (.cells #[.bool false, .string ⟨#[]⟩, .slice none 0 0, .slice none 0 0] 28) ∧ DoE w ((((w2.setCell ⟨b + 1, 0, none⟩ (.bool bl)).setCell ⟨b + 1, 1, none⟩ (.string ⟨#[]⟩)).setCell ⟨b + 1, 2, none⟩ (.slice none 0 0)).setCell ⟨b + 1, 3, none⟩ (.slice none 0 0)) B c kv vv L (1, ky, x) (.agg #[.bool bl, .string ⟨#[]⟩, .slice none 0 0, .slice none 0 0]) := by
    cases hlk : look L ky with
    | none =>
      refine ⟨true, (rpub_yes W B c kv vv L ky x h1 hsz2 (by omega) hlk).mono ?_⟩
      rintro _ w2 ⟨rfl, kv', vv', q1, q2, q3, q4⟩
      exact ⟨rfl, FIN.out true w2 kv' vv' (by unfold doR; rw [if_pos rfl, hlk]; rfl) (by unfold doT; rw [if_pos rfl, hlk]; exact q1) q2 q3 q4⟩
    | some y =>
      refine ⟨false, (rpub_no W B c kv vv L ky x h1 (by omega) (by rw [hlk]; rfl)).mono ?_⟩
      rintro _ w2 ⟨rfl, q1⟩
      refine ⟨rfl, FIN.out false w2 kv vv (by unfold doR; rw [if_pos rfl, hlk]; rfl) ?_ (q1.mono (fun _ _ h => h.elim)) (fun j e => Or.inl e) (fun j e => Or.inl e)⟩
      unfold doT
      rw [if_pos rfl, hlk]
      exact h1.fr q1 (fun h => h) (fun _ _ h => h) (fun _ _ h => h)
  obtain ⟨bl, CALL⟩ := CALL
  clear FIN h hB hh hr hf h1 hsz hsz2 eW H HC HKB HF H1
  unfold opV
  go_enter Try.func32, Try.ntmps32
  go_upto_region 1 with fail
  rw [show ((w.alloc (.cells #[vI 1, vI ky, .string x] 24)).alloc (.cells #[.bool false, .string ⟨#[]⟩, .slice none 0 0, .slice none 0 0] 28)) = W from EW.out.symm, ← EB.out]
  clear EW eb
  go_wp2_with fail
  refine CALL.mono ?_
  rintro _ w2 ⟨rfl, hb2, hD⟩
  have HD : Hd (DoE w ((((w2.setCell ⟨b + 1, 0, none⟩ (.bool bl)).setCell ⟨b + 1, 1, none⟩ (.string ⟨#[]⟩)).setCell ⟨b + 1, 2, none⟩ (.slice none 0 0)).setCell ⟨b + 1, 3, none⟩ (.slice none 0 0)) B c kv vv L (1, ky, x) (.agg #[.bool bl, .string ⟨#[]⟩, .slice none 0 0, .slice none 0 0])) := hD
  have z0 : w2.frozen? ⟨b + 1, 0, none⟩ = false := frozen_of hb2 0
  have z1 : w2.frozen? ⟨b + 1, 1, none⟩ = false := frozen_of hb2 1
  have z2 : w2.frozen? ⟨b + 1, 2, none⟩ = false := frozen_of hb2 2
  have z3 : w2.frozen? ⟨b + 1, 3, none⟩ = false := frozen_of hb2 3
  have y0 : w2.cell? ⟨b + 1, 0, none⟩ = some (.bool false) := cell_of hb2 0
  have y1 : w2.cell? ⟨b + 1, 1, none⟩ = some (.string ⟨#[]⟩) := cell_of hb2 1
  have y2 : w2.cell? ⟨b + 1, 2, none⟩ = some (.slice none 0 0) := cell_of hb2 2
  have y3 : w2.cell? ⟨b + 1, 3, none⟩ = some (.slice none 0 0) := cell_of hb2 3
  have HB2 : Hd (w2.heap[b + 1]? = some (.cells #[.bool false, .string ⟨#[]⟩, .slice none 0 0, .slice none 0 0] 28)) := hb2
  clear CALL hD hb2 c0 c1 c2
  go_wp2_with fail
  refine bodyPost_ret (reply_res Try.results32 rfl (four HB2.out (.bool bl) (.string ⟨#[]⟩) (.slice none 0 0) (.slice none 0 0))) rfl ⟨_, rfl, HD.out⟩
end Go.Proofs.Ytihicdbplmdjiaa

namespace Go.Proofs.Ytihicdbplmdjiaa
open Go.RowKit (wrap32 wrap64)
set_option linter.unusedVariables false
set_option linter.unusedSimpArgs false

theorem row_val {w : World} {B e size n : Nat} {v : Value} {xs : List Value} (h : w.ownsRow B e size v n xs) : ∃ a c, v = .slice a n c := by
  rcases h.2 with ⟨rfl, rfl⟩ | ⟨g, cap, cur, rfl, h3, h4, h5⟩
  · exact ⟨_, _, rfl⟩
  · exact ⟨_, _, rfl⟩
theorem do_fin {w W w2 : World} {B c b : Nat} {kv vv rk ru : Value} {L : List Kv} {o : OpT} (hb : b = w.heap.size) (h : Rt w B c kv vv L) (hF : Fr (fun _ => False) w W) (hS : W.heap.size = b + 2) (hR : W.heap[b + 1]? = some (.cells #[.bool false, .string ⟨#[]⟩, .slice none 0 0, .slice none 0 0] 28)) (h2 : Fr (fun _ => False) W w2) (ho : doT L o = L)
    (hk : w2.ownsRow W.heap.size 3 1 rk (doR L o).L.length (kCells (doR L o).L)) (hv : w2.ownsRow W.heap.size 9 1 ru (doR L o).L.length (vCells (doR L o).L)) :
    w2.heap[b + 1]? = some (.cells #[.bool false, .string ⟨#[]⟩, .slice none 0 0, .slice none 0 0] 28) ∧ DoE w ((((w2.setCell ⟨b + 1, 0, none⟩ (.bool (doR L o).ok)).setCell ⟨b + 1, 1, none⟩ (.string (doR L o).val)).setCell ⟨b + 1, 2, none⟩ rk).setCell ⟨b + 1, 3, none⟩ ru) B c kv vv L o (.agg #[.bool (doR L o).ok, .string (doR L o).val, rk, ru]) := by
  have f4 := four_fr w2 (b + 1) (.bool (doR L o).ok) (.string (doR L o).val) rk ru
  have fA := hF.trans h2
  have hcl := heap_lt h.obj
  have ap : ∀ j, (rk.ownBlock = some j ∨ ru.ownBlock = some j) → kv.ownBlock ≠ some j ∧ vv.ownBlock ≠ some j := fun j e => by
    have hj : W.heap.size ≤ j := by
      rcases e with e | e
      · exact (World.ownsRow.lt hk j e).1
      · exact (World.ownsRow.lt hv j e).1
    exact ⟨fun e2 => by have := (World.ownsRow.lt h.ks j e2).2; omega, fun e2 => by have := (World.ownsRow.lt h.vs j e2).2; omega⟩
  refine ⟨(h2.block (b + 1) (heap_lt hR) (fun h => h)).trans hR, rk, ru, kv, vv, rfl, ?_, ?_, ?_, ?_, fun j e => Or.inl e, fun j e => Or.inl e, fun _ => ap⟩
  · refine World.ownsRow.mono (ownsRow_fr hk f4 (fun g e e2 => ?_)) (by omega)
    have := (World.ownsRow.lt hk g e).1; omega
  · refine World.ownsRow.mono (ownsRow_fr hv f4 (fun g e e2 => ?_)) (by omega)
    have := (World.ownsRow.lt hv g e).1; omega
  · rw [ho]
    refine (h.fr fA (fun h => h) (fun _ _ h => h) (fun _ _ h => h)).fr f4 (by omega) (fun g e e2 => ?_) (fun g e e2 => ?_)
    · have := (World.ownsRow.lt h.ks g e).2; omega
    · have := (World.ownsRow.lt h.vs g e).2; omega
  · have hA : Fr (fun j => j = c ∨ kv.ownBlock = some j ∨ vv.ownBlock = some j) w w2 := fA.mono (fun _ _ h => h.elim)
    exact (((hA.setCell ⟨b + 1, 0, none⟩ _ (Or.inr (by show _ ≤ b + 1; omega))).setCell ⟨b + 1, 1, none⟩ _ (Or.inr (by show _ ≤ b + 1; omega))).setCell ⟨b + 1, 2, none⟩ _ (Or.inr (by show _ ≤ b + 1; omega))).setCell ⟨b + 1, 3, none⟩ _ (Or.inr (by show _ ≤ b + 1; omega))

set_option maxRecDepth 100000 in
set_option maxHeartbeats 4000000 in
theorem do_look (w : World) (B c : Nat) (kv vv : Value) (L : List Kv) (ky : Int) (x : ByteArray) (h : Rt w B c kv vv L) (hl : L.length ≤ 3999999999) :
    Calls Try.prog 32 #[.pointer (some ⟨c, 0, none⟩), opV 2 ky x] w fun e w' => ∃ rv, e = .returned rv ∧ DoE w w' B c kv vv L (2, ky, x) rv := by
  have hh := W43_op w 2 ky x
  have hr := W43_rp w 2 ky x
  have hf := W43_fr w 2 ky x
  have h1 : Rt (W43 w 2 ky x) B c kv vv L := h.fr hf (fun h => h) (fun _ _ h => h) (fun _ _ h => h)
  have hsz : (W43 w 2 ky x).heap.size = w.heap.size + 2 := by unfold W43; simp
  obtain ⟨W, eW⟩ : ∃ W, W = W43 w 2 ky x := ⟨_, rfl⟩
  rw [← eW] at hh hr hf h1 hsz
  have EW : Hd (W = W43 w 2 ky x) := eW
  obtain ⟨b, eb⟩ : ∃ b, b = w.heap.size := ⟨_, rfl⟩
  rw [← eb] at hh hr hsz
  have EB : Hd (b = w.heap.size) := eb
  have c0 : W.cell? ⟨b, 0, none⟩ = some (vI 2) := cell_of hh 0
  have c1 : W.cell? ⟨b, 1, none⟩ = some (vI ky) := cell_of hh 1
  have hdr : doR L (2, ky, x) = ⟨(look L ky).isSome, (look L ky).getD ⟨#[]⟩, []⟩ := rfl
  obtain ⟨vl, evl⟩ : ∃ vl, vl = (look L ky).getD ⟨#[]⟩ := ⟨_, rfl⟩
  obtain ⟨bl, ebl⟩ : ∃ bl, bl = (look L ky).isSome := ⟨_, rfl⟩
  have CALL : Calls Try.prog 47 #[.pointer (some ⟨c, 0, none⟩), vI ky] W fun e w2 => e = .returned (.tuple #[.string vl, .bool bl]) ∧ w2.heap[b + 1]? = some (.cells #[.bool false, .string ⟨#[]⟩, .slice none 0 0, .slice none 0 0] 28) ∧ DoE w ((((w2.setCell ⟨b + 1, 0, none⟩ (.bool bl)).setCell ⟨b + 1, 1, none⟩ (.string vl)).setCell ⟨b + 1, 2, none⟩ (.slice none 0 0)).setCell ⟨b + 1, 3, none⟩ (.slice none 0 0)) B c kv vv L (2, ky, x) (.agg #[.bool bl, .string vl, .slice none 0 0, .slice none 0 0]) := by
    refine (rlook_any W B c kv vv L ky h1 (by omega)).mono ?_
    rintro _ w2 ⟨rfl, q1⟩
    have := do_fin (o := (2, ky, x)) eb h hf hsz hr q1 rfl (World.ownsRow_nil _ _ _ _) (World.ownsRow_nil _ _ _ _)
    rw [hdr] at this
    simp only [← evl, ← ebl] at this
    exact ⟨by rw [evl, ebl], this⟩
  clear h hl hh hr hf h1 hsz eW hdr evl ebl
  unfold opV
  go_enter Try.func32, Try.ntmps32
  go_upto_region 1 with fail
  rw [show ((w.alloc (.cells #[vI 2, vI ky, .string x] 24)).alloc (.cells #[.bool false, .string ⟨#[]⟩, .slice none 0 0, .slice none 0 0] 28)) = W from EW.out.symm, ← EB.out]
  clear EW eb
  go_wp2_with fail
  refine CALL.mono ?_
  rintro _ w2 ⟨rfl, hb2, hD⟩
  have HD : Hd (DoE w ((((w2.setCell ⟨b + 1, 0, none⟩ (.bool bl)).setCell ⟨b + 1, 1, none⟩ (.string vl)).setCell ⟨b + 1, 2, none⟩ (.slice none 0 0)).setCell ⟨b + 1, 3, none⟩ (.slice none 0 0)) B c kv vv L (2, ky, x) (.agg #[.bool bl, .string vl, .slice none 0 0, .slice none 0 0])) := hD
  have z0 : w2.frozen? ⟨b + 1, 0, none⟩ = false := frozen_of hb2 0
  have z1 : w2.frozen? ⟨b + 1, 1, none⟩ = false := frozen_of hb2 1
  have z2 : w2.frozen? ⟨b + 1, 2, none⟩ = false := frozen_of hb2 2
  have z3 : w2.frozen? ⟨b + 1, 3, none⟩ = false := frozen_of hb2 3
  have y0 : w2.cell? ⟨b + 1, 0, none⟩ = some (.bool false) := cell_of hb2 0
  have y1 : w2.cell? ⟨b + 1, 1, none⟩ = some (.string ⟨#[]⟩) := cell_of hb2 1
  have y2 : w2.cell? ⟨b + 1, 2, none⟩ = some (.slice none 0 0) := cell_of hb2 2
  have y3 : w2.cell? ⟨b + 1, 3, none⟩ = some (.slice none 0 0) := cell_of hb2 3
  have HB2 : Hd (w2.heap[b + 1]? = some (.cells #[.bool false, .string ⟨#[]⟩, .slice none 0 0, .slice none 0 0] 28)) := hb2
  clear CALL hD hb2 c0 c1
  go_wp2_with fail
  refine bodyPost_ret (reply_res Try.results32 rfl (four HB2.out (.bool bl) (.string vl) (.slice none 0 0) (.slice none 0 0))) rfl ⟨_, rfl, HD.out⟩

set_option maxRecDepth 100000 in
set_option maxHeartbeats 4000000 in
theorem do_snap (w : World) (B c : Nat) (kv vv : Value) (L : List Kv) (ky : Int) (x : ByteArray) (h : Rt w B c kv vv L) (hl : L.length ≤ 3999999999) :
    Calls Try.prog 32 #[.pointer (some ⟨c, 0, none⟩), opV 3 ky x] w fun e w' => ∃ rv, e = .returned rv ∧ DoE w w' B c kv vv L (3, ky, x) rv := by
  have hh := W43_op w 3 ky x
  have hr := W43_rp w 3 ky x
  have hf := W43_fr w 3 ky x
  have h1 : Rt (W43 w 3 ky x) B c kv vv L := h.fr hf (fun h => h) (fun _ _ h => h) (fun _ _ h => h)
  have hsz : (W43 w 3 ky x).heap.size = w.heap.size + 2 := by unfold W43; simp
  obtain ⟨W, eW⟩ : ∃ W, W = W43 w 3 ky x := ⟨_, rfl⟩
  rw [← eW] at hh hr hf h1 hsz
  have EW : Hd (W = W43 w 3 ky x) := eW
  obtain ⟨b, eb⟩ : ∃ b, b = w.heap.size := ⟨_, rfl⟩
  rw [← eb] at hh hr hsz
  have EB : Hd (b = w.heap.size) := eb
  have c0 : W.cell? ⟨b, 0, none⟩ = some (vI 3) := cell_of hh 0
  have CALL : Calls Try.prog 48 #[.pointer (some ⟨c, 0, none⟩)] W fun e w2 => ∃ k' v', e = .returned (.tuple #[k', v']) ∧ w2.heap[b + 1]? = some (.cells #[.bool false, .string ⟨#[]⟩, .slice none 0 0, .slice none 0 0] 28) ∧ (∃ ka kn kc, k' = .slice ka kn kc) ∧ (∃ ka kn kc, v' = .slice ka kn kc) ∧ DoE w ((((w2.setCell ⟨b + 1, 0, none⟩ (.bool true)).setCell ⟨b + 1, 1, none⟩ (.string ⟨#[]⟩)).setCell ⟨b + 1, 2, none⟩ k').setCell ⟨b + 1, 3, none⟩ v') B c kv vv L (3, ky, x) (.agg #[.bool true, .string ⟨#[]⟩, k', v']) := by
    refine (rsnap_any W B c kv vv L h1 (by omega)).mono ?_
    rintro _ w2 ⟨k', v', rfl, q1, q2, q3⟩
    have := do_fin (o := (3, ky, x)) eb h hf hsz hr q3 rfl q1 q2
    obtain ⟨a, n, e1⟩ := row_val q1
    obtain ⟨a2, n2, e2⟩ := row_val q2
    exact ⟨k', v', rfl, this.1, ⟨_, _, _, e1⟩, ⟨_, _, _, e2⟩, this.2⟩
  clear h hl hh hr hf h1 hsz eW
  unfold opV
  go_enter Try.func32, Try.ntmps32
  go_upto_region 1 with fail
  rw [show ((w.alloc (.cells #[vI 3, vI ky, .string x] 24)).alloc (.cells #[.bool false, .string ⟨#[]⟩, .slice none 0 0, .slice none 0 0] 28)) = W from EW.out.symm, ← EB.out]
  clear EW eb
  go_wp2_with fail
  refine CALL.mono ?_
  rintro _ w2 ⟨k', v', rfl, hb2, ⟨ka, kn, kc, rfl⟩, ⟨va, vn, vc, rfl⟩, hD⟩
  have HD : Hd (DoE w ((((w2.setCell ⟨b + 1, 0, none⟩ (.bool true)).setCell ⟨b + 1, 1, none⟩ (.string ⟨#[]⟩)).setCell ⟨b + 1, 2, none⟩ (.slice ka kn kc)).setCell ⟨b + 1, 3, none⟩ (.slice va vn vc)) B c kv vv L (3, ky, x) (.agg #[.bool true, .string ⟨#[]⟩, .slice ka kn kc, .slice va vn vc])) := hD
  have z0 : w2.frozen? ⟨b + 1, 0, none⟩ = false := frozen_of hb2 0
  have z1 : w2.frozen? ⟨b + 1, 1, none⟩ = false := frozen_of hb2 1
  have z2 : w2.frozen? ⟨b + 1, 2, none⟩ = false := frozen_of hb2 2
  have z3 : w2.frozen? ⟨b + 1, 3, none⟩ = false := frozen_of hb2 3
  have y0 : w2.cell? ⟨b + 1, 0, none⟩ = some (.bool false) := cell_of hb2 0
  have y1 : w2.cell? ⟨b + 1, 1, none⟩ = some (.string ⟨#[]⟩) := cell_of hb2 1
  have y2 : w2.cell? ⟨b + 1, 2, none⟩ = some (.slice none 0 0) := cell_of hb2 2
  have y3 : w2.cell? ⟨b + 1, 3, none⟩ = some (.slice none 0 0) := cell_of hb2 3
  have HB2 : Hd (w2.heap[b + 1]? = some (.cells #[.bool false, .string ⟨#[]⟩, .slice none 0 0, .slice none 0 0] 28)) := hb2
  clear CALL hD hb2 c0
  go_wp2_with fail
  refine bodyPost_ret (reply_res Try.results32 rfl (four HB2.out (.bool true) (.string ⟨#[]⟩) (.slice ka kn kc) (.slice va vn vc))) rfl ⟨_, rfl, HD.out⟩

theorem do_any (w : World) (B c : Nat) (kv vv : Value) (L : List Kv) (kd ky : Int) (x : ByteArray) (hk : kd = 1 ∨ kd = 2 ∨ kd = 3) (h : Rt w B c kv vv L) (hB : B ≤ w.heap.size) (hl : L.length ≤ 3999999999) :
    Calls Try.prog 32 #[.pointer (some ⟨c, 0, none⟩), opV kd ky x] w fun e w' => ∃ rv, e = .returned rv ∧ DoE w w' B c kv vv L (kd, ky, x) rv := by
  rcases hk with rfl | rfl | rfl
  · exact do_pub w B c kv vv L ky x h hB hl
  · exact do_look w B c kv vv L ky x h hl
  · exact do_snap w B c kv vv L ky x h hl
end Go.Proofs.Ytihicdbplmdjiaa
