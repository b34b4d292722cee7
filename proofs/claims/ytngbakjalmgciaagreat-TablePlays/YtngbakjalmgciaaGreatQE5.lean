import Derived.Test.YtngbakjalmgciaaGreatQE4
namespace Go.Proofs.YtngbakjalmgciaaGreat
open Go.RowKit (wrap32 wrap64)
set_option linter.unusedVariables false
set_option linter.unusedSimpArgs false

theorem kCells_eq (L : List Kv) : kCells L = (L.map Prod.fst).map vI := by simp [kCells]
theorem vCells_eq (L : List Kv) : vCells L = (L.map Prod.snd).map Value.string := by simp [vCells]

set_option maxRecDepth 100000 in
set_option maxHeartbeats 1000000 in
theorem rlook_any (w : World) (B c : Nat) (kv vv : Value) (L : List Kv) (key : Int) (h : Rt w B c kv vv L) (hl : L.length ≤ 4000000000) :
    Calls Tryz.prog 58 #[.pointer (some ⟨c, 0, none⟩), vI key] w fun e w' => e = .returned (.tuple #[.string ((look L key).getD ⟨#[]⟩), .bool (look L key).isSome]) ∧ Fr (fun _ => False) w w' := by
  have hat := at_any w B c kv vv L key h hl
  have H : Hd (Rt w B c kv vv L) := h
  cases hlk : look L key with
  | none =>
    rw [hlk] at hat
    have HLK : Hd (look L key = none) := hlk
    clear h hlk
    go_enter Tryz.func58, Tryz.ntmps58
    go_wp2_with fail
    refine hat.mono ?_
    rintro _ w1 ⟨p, rfl, hp, hF⟩
    have HF : Hd (Fr (fun _ => False) w w1) := hF
    clear hat hp hF
    go_wp2_with fail
    go_ret2
    exact ⟨rfl, HF.out⟩
  | some v =>
    rw [hlk] at hat
    have HLK : Hd (look L key = some v) := hlk
    clear h hlk
    go_enter Tryz.func58, Tryz.ntmps58
    go_wp2_with fail
    refine hat.mono ?_
    rintro _ w1 ⟨p, rfl, hp, hF⟩
    have HF : Hd (Fr (fun _ => False) w w1) := hF
    have h1 : Rt w1 B c kv vv L := H.out.fr hF (fun h => h) (fun _ _ h => h) (fun _ _ h => h)
    have hl2 := hp.lk h1.rise
    rw [HLK.out] at hl2
    have hpl : p < L.length := by
      rcases Nat.lt_or_ge p L.length with e | e
      · exact e
      · rw [dif_neg (by omega)] at hl2; cases hl2
    rw [dif_pos hpl] at hl2
    have hv : L[p].2 = v := by
      split at hl2
      · exact (Option.some.inj hl2).symm
      · cases hl2
    obtain ⟨a, cap, e, hx⟩ := RowAt.own h1.vs
    rw [vLen] at e
    obtain ⟨g, o, rfl, -, hcs⟩ := hx (by intro e; have := vLen L; rw [e] at this; simp at this; omega)
    have d1 : w1.cell? ⟨c, 1, none⟩ = some vv := cell_of h1.obj 1
    rw [e] at d1
    have d2 : w1.cell? ⟨g, o + p, none⟩ = some (.string v) := by rw [hcs p (by rw [vLen]; exact hpl)]; simp [vCells, hv]
    obtain ⟨n, en⟩ : ∃ n, n = L.length := ⟨_, rfl⟩
    rw [← en] at d1 hpl hl
    have hp0 : (0 : Int) ≤ p := by omega
    have hp1 : (p : Int) < n := by omega
    clear hat hp hF hx hcs h1 hl2 hv e en
    go_wp2_with fail
    go_ret2
    exact ⟨rfl, HF.out⟩

set_option maxRecDepth 100000 in
set_option maxHeartbeats 2000000 in
theorem rsnap_any (w : World) (B c : Nat) (kv vv : Value) (L : List Kv) (h : Rt w B c kv vv L) (hl : L.length ≤ 4000000000) :
    Calls Tryz.prog 59 #[.pointer (some ⟨c, 0, none⟩)] w fun e w' => ∃ k' v', e = .returned (.tuple #[k', v']) ∧ w'.ownsRow w.heap.size 3 1 k' L.length (kCells L) ∧ w'.ownsRow w.heap.size 9 1 v' L.length (vCells L) ∧ Fr (fun _ => False) w w' := by
  have d0 : w.cell? ⟨c, 0, none⟩ = some kv := cell_of h.obj 0
  have d1 : w.cell? ⟨c, 1, none⟩ = some vv := cell_of h.obj 1
  have HC : Hd (c < w.heap.size) := heap_lt h.obj
  have HK : Hd (RowAt w w.heap.size kv ((L.map Prod.fst).map vI)) := by rw [← kCells_eq]; exact RowAt.own h.ks
  have HV : Hd (RowAt w w.heap.size vv ((L.map Prod.snd).map Value.string)) := by rw [← vCells_eq]; exact RowAt.own h.vs
  have k1 : ∀ W, Fr (fun _ => False) w W → Calls Tryz.prog 16 #[kv] W fun e w' => ∃ v', e = .returned v' ∧ w'.ownsRow W.heap.size 3 1 v' L.length (kCells L) ∧ Fr (fun _ => False) W w' := fun W hW => by
    have := copyInts_any kv (L.map Prod.fst) w.heap.size W (HK.out.fr hW (Nat.le_refl _) (fun _ _ h => h)) hW.size (by simp; omega)
    rw [kCells_eq]
    simpa using this
  have k2 : ∀ W, Fr (fun _ => False) w W → Calls Tryz.prog 66 #[vv] W fun e w' => ∃ v', e = .returned v' ∧ w'.ownsRow W.heap.size 9 1 v' L.length (vCells L) ∧ Fr (fun _ => False) W w' := fun W hW => by
    have := copyStrings_any vv (L.map Prod.snd) w.heap.size W (HV.out.fr hW (Nat.le_refl _) (fun _ _ h => h)) hW.size (by simp; omega)
    rw [vCells_eq]
    simpa using this
  obtain ⟨n, en⟩ : ∃ n, n = L.length := ⟨_, rfl⟩
  clear h hl
  have P1 : ∀ (W1 : World) (f1 : Fr (fun _ => False) w W1), W1.cell? ⟨c, 0, none⟩ = some kv ∧ W1.cell? ⟨c, 1, none⟩ = some vv := fun W1 f1 => ⟨(f1.cell HC.out (fun h => h)).trans d0, (f1.cell HC.out (fun h => h)).trans d1⟩
  have F0 : Hd (Fr (fun _ => False) w w.drew) := (Fr.refl _ w).drew
  clear HK HV
  go_enter Tryz.func59, Tryz.ntmps59
  go_wp2_with fail
  go_region_with ((first
    | (go_at_call 16; refine (k1 w.drew F0.out).mono ?_; rintro _ wa ⟨ka, rfl, hka, hfa⟩; have fa : Fr (fun _ => False) w wa := F0.out.trans hfa; obtain ⟨pa, pb⟩ := P1 _ fa)
    | (go_at_call 66; refine (k2 w.drew F0.out).mono ?_; rintro _ wb ⟨vb, rfl, hvb, hfb⟩; have fb : Fr (fun _ => False) w wb := F0.out.trans hfb; obtain ⟨pc, pd⟩ := P1 _ fb)
    | (go_at_call 66; refine (k2 wa fa).mono ?_; rintro _ wb ⟨vb, rfl, hvb, hfb⟩)
    | (go_at_call 16; refine (k1 wb fb).mono ?_; rintro _ wa ⟨ka, rfl, hka, hfa⟩)))
  all_goals clear k1 k2 P1
  all_goals go_wp2_with fail
  all_goals go_ret2
  all_goals first
    | exact ⟨_, _, rfl, ownsRow_fr hka hfb (fun _ _ h => h), World.ownsRow.mono hvb fa.size, fa.trans hfb⟩
    | exact ⟨_, _, rfl, World.ownsRow.mono hka fb.size, ownsRow_fr hvb hfa (fun _ _ h => h), fb.trans hfa⟩

/-! ### Do and EqReply -/
/-- An answer as it is told, its lists below B. -/
def RpV (w : World) (B : Nat) (R : RepT) (v : Value) : Prop := ∃ kv vv, v = .agg #[.bool R.ok, .string R.val, kv, vv] ∧ RowAt w B kv (kCells R.L) ∧ RowAt w B vv (vCells R.L)
theorem RpV.fr {w w' : World} {B : Nat} {R : RepT} {v : Value} (h : RpV w B R v) {S : Nat → Prop} (f : Fr S w w') (hB : B ≤ w.heap.size) (hS : ∀ j, j < B → ¬ S j) : RpV w' B R v := by
  obtain ⟨kv, vv, e, h1, h2⟩ := h
  have key : ∀ {v : Value} {xs : List Value}, RowAt w B v xs → RowAt w' B v xs := fun {v xs} h => by
    obtain ⟨ad, cap, e, hx⟩ := h
    refine ⟨ad, cap, e, fun hne => ?_⟩
    obtain ⟨g, o, ea, hg, hcs⟩ := hx hne
    exact ⟨g, o, ea, hg, fun i hi => (f.cell (by omega) (hS g hg)).trans (hcs i hi)⟩
  exact ⟨kv, vv, e, key h1, key h2⟩

set_option maxRecDepth 100000 in
set_option maxHeartbeats 4000000 in
theorem eqReply_same (w : World) (B1 B2 : Nat) (R : RepT) (v1 v2 : Value) (h1 : RpV w B1 R v1) (h2 : RpV w B2 R v2) (hB1 : B1 ≤ w.heap.size) (hB2 : B2 ≤ w.heap.size) (hl : R.L.length ≤ 4000000000) :
    Calls Tryz.prog 33 #[v1, v2] w fun e w' => e = .returned (.bool true) ∧ Fr (fun _ => False) w w' := by
  obtain ⟨k1, u1, rfl, hk1, hu1⟩ := h1
  obtain ⟨k2, u2, rfl, hk2, hu2⟩ := h2
  obtain ⟨ok, val, L⟩ := R
  simp only at hk1 hu1 hk2 hu2 hl ⊢
  have C1 : ∀ W, Fr (fun _ => False) w W → Calls Tryz.prog 31 #[k1, k2] W fun e w' => e = .returned (.bool true) ∧ Fr (fun _ => False) W w' := fun W hW => by
    rw [kCells_eq] at hk1 hk2
    exact eqInts_same k1 k2 (L.map Prod.fst) B1 B2 W (hk1.fr hW hB1 (fun _ _ h => h)) (hk2.fr hW hB2 (fun _ _ h => h)) (Nat.le_trans hB1 hW.size) (Nat.le_trans hB2 hW.size) (by simp; omega)
  have C2 : ∀ W, Fr (fun _ => False) w W → Calls Tryz.prog 46 #[u1, u2] W fun e w' => e = .returned (.bool true) ∧ Fr (fun _ => False) W w' := fun W hW => by
    rw [vCells_eq] at hu1 hu2
    exact eqStrings_same u1 u2 (L.map Prod.snd) B1 B2 W (hu1.fr hW hB1 (fun _ _ h => h)) (hu2.fr hW hB2 (fun _ _ h => h)) (Nat.le_trans hB1 hW.size) (Nat.le_trans hB2 hW.size) (by simp; omega)
  obtain ⟨ka, kn, kc, ek⟩ : ∃ a n c, k1 = .slice a n c := by obtain ⟨a, c, e, -⟩ := hk1; exact ⟨_, _, _, e⟩
  obtain ⟨ka2, kn2, kc2, ek2⟩ : ∃ a n c, k2 = .slice a n c := by obtain ⟨a, c, e, -⟩ := hk2; exact ⟨_, _, _, e⟩
  obtain ⟨va, vn, vc, ev⟩ : ∃ a n c, u1 = .slice a n c := by obtain ⟨a, c, e, -⟩ := hu1; exact ⟨_, _, _, e⟩
  obtain ⟨va2, vn2, vc2, ev2⟩ : ∃ a n c, u2 = .slice a n c := by obtain ⟨a, c, e, -⟩ := hu2; exact ⟨_, _, _, e⟩
  subst ek ek2 ev ev2
  have f1 : Fr (fun _ => False) w ((w.alloc (.cells #[.bool ok, .string val, .slice ka kn kc, .slice va vn vc] 42)).alloc (.cells #[.bool ok, .string val, .slice ka2 kn2 kc2, .slice va2 vn2 vc2] 42)) := ((Fr.refl _ w).alloc _).alloc _
  have b1 : ((w.alloc (.cells #[.bool ok, .string val, .slice ka kn kc, .slice va vn vc] 42)).alloc (.cells #[.bool ok, .string val, .slice ka2 kn2 kc2, .slice va2 vn2 vc2] 42)).heap[w.heap.size]? = some (.cells #[.bool ok, .string val, .slice ka kn kc, .slice va vn vc] 42) := by
    rw [Go.RowKit.Below.heap_alloc _ _ _ (by simp)]; exact heap_alloc_last w _
  have b2 : ((w.alloc (.cells #[.bool ok, .string val, .slice ka kn kc, .slice va vn vc] 42)).alloc (.cells #[.bool ok, .string val, .slice ka2 kn2 kc2, .slice va2 vn2 vc2] 42)).heap[w.heap.size + 1]? = some (.cells #[.bool ok, .string val, .slice ka2 kn2 kc2, .slice va2 vn2 vc2] 42) := by
    have := heap_alloc_last (w.alloc (.cells #[.bool ok, .string val, .slice ka kn kc, .slice va vn vc] 42)) (.cells #[.bool ok, .string val, .slice ka2 kn2 kc2, .slice va2 vn2 vc2] 42)
    rw [show (w.alloc (.cells #[.bool ok, .string val, .slice ka kn kc, .slice va vn vc] 42)).heap.size = w.heap.size + 1 by simp] at this
    exact this
  obtain ⟨W, eW⟩ : ∃ W, W = ((w.alloc (.cells #[.bool ok, .string val, .slice ka kn kc, .slice va vn vc] 42)).alloc (.cells #[.bool ok, .string val, .slice ka2 kn2 kc2, .slice va2 vn2 vc2] 42)) := ⟨_, rfl⟩
  rw [← eW] at f1 b1 b2
  have F1 : Hd (Fr (fun _ => False) w W) := f1
  have B2' : Hd (W.heap[w.heap.size + 1]? = some (.cells #[.bool ok, .string val, .slice ka2 kn2 kc2, .slice va2 vn2 vc2] 42)) := b2
  have B1' : Hd (W.heap[w.heap.size]? = some (.cells #[.bool ok, .string val, .slice ka kn kc, .slice va vn vc] 42)) := b1
  clear hk1 hk2 hu1 hu2 hl hB1 hB2 f1 b1 b2
  go_enter Tryz.func33, Tryz.ntmps33
  go_upto_region 1 with fail
  rw [← eW]
  clear eW
  obtain ⟨bb, ebb⟩ : ∃ bb, bb = w.heap.size := ⟨_, rfl⟩
  rw [← ebb] at B1' B2' ⊢
  have d0 : W.cell? ⟨bb, 0, none⟩ = some (.bool ok) := cell_of B1'.out 0
  have d1 : W.cell? ⟨bb, 1, none⟩ = some (.string val) := cell_of B1'.out 1
  have d2 : W.cell? ⟨bb, 2, none⟩ = some (.slice ka kn kc) := cell_of B1'.out 2
  have e0 : W.cell? ⟨bb + 1, 0, none⟩ = some (.bool ok) := cell_of B2'.out 0
  have e1 : W.cell? ⟨bb + 1, 1, none⟩ = some (.string val) := cell_of B2'.out 1
  have e2 : W.cell? ⟨bb + 1, 2, none⟩ = some (.slice ka2 kn2 kc2) := cell_of B2'.out 2
  have HS : Hd (∀ W2, Fr (fun _ => False) W W2 → W2.cell? ⟨bb, 3, none⟩ = some (.slice va vn vc) ∧ W2.cell? ⟨bb + 1, 3, none⟩ = some (.slice va2 vn2 vc2)) := fun W2 h => ⟨(h.cell (heap_lt B1'.out) (fun h => h)).trans (cell_of B1'.out 3), (h.cell (heap_lt B2'.out) (fun h => h)).trans (cell_of B2'.out 3)⟩
  clear ebb B1' B2'
  go_wp2_with fail
  refine (C1 W F1.out).mono ?_
  rintro _ w1 ⟨rfl, hf1⟩
  obtain ⟨d3, e3⟩ := HS.out w1 hf1
  have F2 : Hd (Fr (fun _ => False) w w1) := F1.out.trans hf1
  clear C1 HS hf1 d0 d1 d2 e0 e1 e2
  go_wp2_with fail
  refine (C2 w1 F2.out).mono ?_
  rintro _ w2 ⟨rfl, hf2⟩
  have F3 : Hd (Fr (fun _ => False) w w2) := F2.out.trans hf2
  clear C2 hf2 d3 e3 F2 F1
  go_wp2_with fail
  go_ret
  exact ⟨rfl, F3.out⟩
end Go.Proofs.YtngbakjalmgciaaGreat
