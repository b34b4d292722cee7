import Derived.Test.YtihicdbplmdjiaaGreatQPlC6J
import Derived.Test.YtihicdbplmdjiaaGreatQPlAxJ
set_option linter.unusedVariables false
set_option linter.unusedSimpArgs false
namespace Go.Proofs.YtihicdbplmdjiaaGreat.Pl
open Go.RowKit (wrap32 wrap64)

theorem playC_lock (tb : Nat) (lkd : Nat → Bool) (cb n : Nat) (last : Int) (mv : Value) (j : Nat) (hj : j < 8) : (playC tb lkd cb n last mv).setIfInBounds (1 + j) (.bool true) = playC tb (fun i => if i = j then true else lkd i) cb n last mv := by
  match j, hj with
  | 0, _ => rfl
  | 1, _ => rfl
  | 2, _ => rfl
  | 3, _ => rfl
  | 4, _ => rfl
  | 5, _ => rfl
  | 6, _ => rfl
  | 7, _ => rfl
theorem unlock_cells {w : World} {pb tb : Nat} {lkd : Nat → Bool} {cb n : Nat} {last : Int} {mv : Value} (h : w.heap[pb]? = some (.cells (playC tb lkd cb n last mv) 52)) :
    ((((((((w.setCell ⟨pb, 1, none⟩ (.bool false)).setCell ⟨pb, 2, none⟩ (.bool false)).setCell ⟨pb, 3, none⟩ (.bool false)).setCell ⟨pb, 4, none⟩ (.bool false)).setCell ⟨pb, 5, none⟩ (.bool false)).setCell ⟨pb, 6, none⟩ (.bool false)).setCell ⟨pb, 7, none⟩ (.bool false)).setCell ⟨pb, 8, none⟩ (.bool false)).heap[pb]? = some (.cells (playC tb (fun _ => false) cb n last mv) 52) := by
  have e1 : ∀ (c : Array Value) (x0 x1 x2 x3 x4 x5 x6 x7 x8 x9 xa xb : Value), c = #[x0, x1, x2, x3, x4, x5, x6, x7, x8, x9, xa, xb] → (((((((c.setIfInBounds 1 (.bool false)).setIfInBounds 2 (.bool false)).setIfInBounds 3 (.bool false)).setIfInBounds 4 (.bool false)).setIfInBounds 5 (.bool false)).setIfInBounds 6 (.bool false)).setIfInBounds 7 (.bool false)).setIfInBounds 8 (.bool false) = #[x0, .bool false, .bool false, .bool false, .bool false, .bool false, .bool false, .bool false, .bool false, x9, xa, xb] := by
    intro c x0 x1 x2 x3 x4 x5 x6 x7 x8 x9 xa xb e
    subst e
    simp
  have h1 := set_of h 1 (.bool false)
  have h2 := set_of h1 2 (.bool false)
  have h3 := set_of h2 3 (.bool false)
  have h4 := set_of h3 4 (.bool false)
  have h5 := set_of h4 5 (.bool false)
  have h6 := set_of h5 6 (.bool false)
  have h7 := set_of h6 7 (.bool false)
  have h8 := set_of h7 8 (.bool false)
  rw [e1 _ _ _ _ _ _ _ _ _ _ _ _ _ (by unfold playC; rfl)] at h8
  rw [h8]
  rfl
theorem unlock_fr (w : World) (pb : Nat) : Fr (fun j => j = pb) w ((((((((w.setCell ⟨pb, 1, none⟩ (.bool false)).setCell ⟨pb, 2, none⟩ (.bool false)).setCell ⟨pb, 3, none⟩ (.bool false)).setCell ⟨pb, 4, none⟩ (.bool false)).setCell ⟨pb, 5, none⟩ (.bool false)).setCell ⟨pb, 6, none⟩ (.bool false)).setCell ⟨pb, 7, none⟩ (.bool false)).setCell ⟨pb, 8, none⟩ (.bool false)) := by
  repeat (refine Fr.setCell ?_ _ _ (Or.inl rfl))
  exact Fr.refl _ w

section
variable {w : World} {B pb cb tb : Nat} {g : Gh} {N : Nat} {a : Ab} {mv : Value} {cvs : List CV} {mvs : List MV} {s : St} {E : Nat → Prop}
theorem Pl.row (h : Pl w B pb cb tb g N a mv cvs mvs s E) (i : Nat) (hi : i < cvs.length) : Rows w 76 7 cb ((cvs.map cl7).set i (cl7 cvs[i])) := by
  have e : (cvs.map cl7).set i (cl7 cvs[i]) = cvs.map cl7 := by
    have : (cvs.map cl7)[i]'(by simpa using hi) = cl7 cvs[i] := by simp
    rw [← this, List.set_getElem_self]
  rw [e]; exact h.rows

/-- What a call leaves. -/
def Left (cvs : List CV) (mvs : List MV) (w : World) (B pb cb tb : Nat) (g : Gh) (N : Nat) (E : Nat → Prop) (s' : St) (w' : World) : Prop :=
  ∃ g' N' a' mv' cvs' mvs', N' ≤ N + 1 ∧ Pl w' B pb cb tb g' N' a' mv' cvs' mvs' s' E ∧ Fr (fun j => B ≤ j ∧ ¬ E j) w w' ∧ (Apx w cvs mvs → Apx w' cvs' mvs')

set_option maxRecDepth 100000 in
set_option maxHeartbeats 4000000 in
theorem snap_lock (h : Pl w B pb cb tb g N a mv cvs mvs s E) (i : Nat) (hi : i < s.cls.length) (hlk : s.cls[i].lk < 8) :
    Calls Tryz.prog 53 #[.pointer (some ⟨pb, 0, none⟩), .pointer (some ⟨cb, i * 7, none⟩)] w fun e w' => e = .returned (.tuple #[]) ∧
      Left cvs mvs w B pb cb tb g N E { s with lkd := fun j => if j = s.cls[i].lk then true else s.lkd j, cls := s.cls.set i { s.cls[i] with lk := s.cls[i].lk + 1 } } w' := by
  obtain ⟨hi', ec⟩ := h.cl i hi
  have hrow := h.row i hi'
  obtain ⟨c0, c1, c2, -⟩ := h.cells i hi'
  have ho := h.ops cvs[i] (List.getElem_mem hi')
  have hrp := h.reps cvs[i] (List.getElem_mem hi')
  rw [← ec] at hlk ⊢
  obtain ⟨x, ex⟩ : ∃ x, x = cvs[i] := ⟨_, rfl⟩
  rw [← ex] at hrow c0 c1 c2 ho hrp hlk ⊢
  have hlc := h.locked x.c.lk hlk
  obtain ⟨-, -, -, -, hfz⟩ := h.heads
  have zl := hfz (1 + x.c.lk)
  have zc := h.rows.frz (i * 7 + 2)
  have hl := h.len
  have HEND : Hd (∀ w', w' = ((w.setCell ⟨pb, 1 + x.c.lk, none⟩ (.bool true)).setCell ⟨cb, i * 7 + 2, none⟩ (vI ((x.c.lk : Int) + 1))).drew → Left cvs mvs w B pb cb tb g N E { s with lkd := fun j => if j = x.c.lk then true else s.lkd j, cls := s.cls.set i { x.c with lk := x.c.lk + 1 } } w') := by
    rintro w' rfl
    have h1 : Pl (w.drew.setCell ⟨pb, 1 + x.c.lk, none⟩ (.bool true)) B pb cb tb g N a mv cvs mvs { s with lkd := fun j => if j = x.c.lk then true else s.lkd j } E :=
      h.drew.setPlay ((Fr.refl (fun j => j = pb) w.drew).setCell _ _ (Or.inl rfl)) _ (by rw [set_of h.drew.play, playC_lock _ _ _ _ _ _ _ hlk]) rfl rfl rfl
    have hr1 : Rows (w.drew.setCell ⟨pb, 1 + x.c.lk, none⟩ (.bool true)) 76 7 cb ((cvs.map cl7).set i (cl7 x)) := by
      have := h1.row i hi'
      rw [← ex] at this
      exact this
    have hr2 := Rows.put (by simpa using hi') hr1 2 (by omega) (vI (x.c.lk + 1 : Nat))
    have F2 : Fr (fun j => j = cb) (w.drew.setCell ⟨pb, 1 + x.c.lk, none⟩ (.bool true)) ((w.drew.setCell ⟨pb, 1 + x.c.lk, none⟩ (.bool true)).setCell ⟨cb, i * 7 + 2, none⟩ (vI (x.c.lk + 1 : Nat))) := (Fr.refl (fun j => j = cb) _).setCell _ _ (Or.inl rfl)
    have F1 : Fr (fun j => j = pb) w (w.drew.setCell ⟨pb, 1 + x.c.lk, none⟩ (.bool true)) := (Fr.drew (Fr.refl (fun j => j = pb) w)).setCell _ _ (Or.inl rfl)
    have h2 := h1.setCl F2 i { x with c := { x.c with lk := x.c.lk + 1 } } hr2 (ho.fr F1 h.Ble (fun j hj e => by have := h.bp; omega)) (hrp.keep F1 (fun j _ e => Or.inl e) (fun _ _ e => e))
    refine ⟨g, N, a, mv, _, mvs, by omega, h2, (F1.mono (fun j _ e => by rw [e]; exact ⟨h.bp, h.ep⟩)).trans (F2.mono (fun j _ e => by rw [e]; exact ⟨h.bc, h.ec⟩)), fun hA => hA.less (Nat.le_trans F1.size F2.size) hi' _ (Or.inr ?_)⟩
    rw [← ex]
    rfl
  have hcbpb : ¬ cb = pb := fun e => h.ne e.symm
  have hpbcb : ¬ pb = cb := h.ne
  obtain ⟨s', es⟩ : ∃ s' : St, s' = { s with lkd := fun j => if j = x.c.lk then true else s.lkd j, cls := s.cls.set i { x.c with lk := x.c.lk + 1 } } := ⟨_, rfl⟩
  rw [← es] at HEND ⊢
  clear es
  generalize x.c.lk = lk at *
  have hl0 : (0 : Int) ≤ lk := by omega
  have hl8 : (lk : Int) < 8 := by omega
  generalize s.lkd lk = lj at hlc
  clear ec ex hrow ho hrp h hfz hl
  go_enter Tryz.func53, Tryz.ntmps53
  go_upto_region 1 with fail
  go_region
  all_goals go_wp2_with fail
  all_goals refine bodyPost_ret (results_none rfl _ _ _) rfl ?_
  all_goals exact ⟨rfl, HEND.out _ rfl⟩

set_option maxRecDepth 100000 in
set_option maxHeartbeats 4000000 in
theorem snap_read (h : Pl w B pb cb tb g N a mv cvs mvs s E) (i : Nat) (hi : i < s.cls.length) (hlk : s.cls[i].lk = 8) (hN : N ≤ 100000000000) :
    Calls Tryz.prog 53 #[.pointer (some ⟨pb, 0, none⟩), .pointer (some ⟨cb, i * 7, none⟩)] w fun e w' => e = .returned (.tuple #[]) ∧
      Left cvs mvs w B pb cb tb g N E { s with lkd := fun _ => false, cls := s.cls.set i { s.cls[i] with st := 2, lk := 0, rp := ⟨true, ⟨#[]⟩, s.tab⟩ } } w' := by
  obtain ⟨hi', ec⟩ := h.cl i hi
  have hrow := h.row i hi'
  obtain ⟨c0, c1, c2, -⟩ := h.cells i hi'
  have ho := h.ops cvs[i] (List.getElem_mem hi')
  rw [← ec] at hlk ⊢
  obtain ⟨x, ex⟩ : ∃ x, x = cvs[i] := ⟨_, rfl⟩
  rw [← ex] at hrow c0 c1 c2 ho hlk ⊢
  obtain ⟨p0, -, -, -, -⟩ := h.heads
  have hsn := snapshot_any tb g N a w h.tab hN
  rw [hlk] at c2
  have HEND : Hd (∀ (w1 : World) (kb vb : Nat) (L : List Kv), w.heap.size ≤ kb → w.heap.size ≤ vb → SnapAt w1 kb vb L → Snap a L → Tb w1 tb g N a → Fr (fun j => j = tb) w w1 →
      Pl ((((((((w1.setCell ⟨pb, 1, none⟩ (.bool false)).setCell ⟨pb, 2, none⟩ (.bool false)).setCell ⟨pb, 3, none⟩ (.bool false)).setCell ⟨pb, 4, none⟩ (.bool false)).setCell ⟨pb, 5, none⟩ (.bool false)).setCell ⟨pb, 6, none⟩ (.bool false)).setCell ⟨pb, 7, none⟩ (.bool false)).setCell ⟨pb, 8, none⟩ (.bool false)) B pb cb tb g N a mv cvs mvs { s with lkd := fun _ => false } E ∧
      RepAt ((((((((w1.setCell ⟨pb, 1, none⟩ (.bool false)).setCell ⟨pb, 2, none⟩ (.bool false)).setCell ⟨pb, 3, none⟩ (.bool false)).setCell ⟨pb, 4, none⟩ (.bool false)).setCell ⟨pb, 5, none⟩ (.bool false)).setCell ⟨pb, 6, none⟩ (.bool false)).setCell ⟨pb, 7, none⟩ (.bool false)).setCell ⟨pb, 8, none⟩ (.bool false)) (Own pb cb g mv E) B (.slice (some ⟨kb, 0, none⟩) L.length L.length) (.slice (some ⟨vb, 0, none⟩) L.length L.length) s.tab ∧ (∀ o, w1.frozen? ⟨pb, o, none⟩ = false) ∧ w1.heap[pb]? = some (.cells (playC tb s.lkd cb s.cls.length s.last mv) 52)) := by
    intro w1 kb vb L hkb hvb hsa hS hT hF
    have h1 := h.setTab (s := s) (hF.mono (fun j _ e => by rw [e, h.tab.own1]; decide)) (fun _ _ => rfl) hT s.tab h.snap
    have hp1 : w1.heap[pb]? = some (.cells (playC tb s.lkd cb s.cls.length s.last mv) 52) := h1.play
    have h2 := h1.setPlay (unlock_fr w1 pb) { s with lkd := fun _ => false } (unlock_cells hp1) rfl rfl rfl
    have eL : L = s.tab := Snap.unique hS h.snap
    refine ⟨h2, ?_, fun o => frozen_of hp1 o, hp1⟩
    refine Or.inr ⟨kb, vb, by rw [eL], by rw [eL], by have := h.Ble; omega, by have := h.Ble; omega, fun e => by have := h.ownlt e; omega, fun e => by have := h.ownlt e; omega, ?_⟩
    have hk : kb ≠ pb := by have := heap_lt h.play; omega
    have hv : vb ≠ pb := by have := heap_lt h.play; omega
    have f := unlock_fr w1 pb
    rw [← eL]
    exact ⟨(f.block kb (heap_lt hsa.ks) hk).trans hsa.ks, (f.block vb (heap_lt hsa.vs) hv).trans hsa.vs, hsa.ne⟩
  have HFB : Hd (B ≤ pb ∧ B ≤ cb ∧ B ≤ tb ∧ w.heap.size ≥ B) := ⟨h.bp, h.bc, h.bg tb (by rw [h.tab.own1]; decide), h.Ble⟩
  have HEE : Hd (¬ E pb ∧ ¬ E cb ∧ ¬ E tb) := ⟨h.ep, h.ec, fun e => by have := h.eg tb e; rw [h.tab.own1] at this; omega⟩
  have HO : Hd (OpsAt w B x.cv x.c.ops) := ho
  have HTB : Hd (∀ j, j < B → j ≠ tb ∧ j ≠ pb) := fun j hj => by have := HFB.out; omega
  have hl := h.len
  have HEX : Hd (x = cvs[i]) := ex
  obtain ⟨s', es⟩ : ∃ s' : St, s' = { s with lkd := fun _ => false, cls := s.cls.set i { x.c with st := 2, lk := 0, rp := ⟨true, ⟨#[]⟩, s.tab⟩ } } := ⟨_, rfl⟩
  have ES : Hd (s' = { s with lkd := fun _ => false, cls := s.cls.set i { x.c with st := 2, lk := 0, rp := ⟨true, ⟨#[]⟩, s.tab⟩ } }) := es
  rw [← es]
  clear es ec ex hrow ho h hlk
  go_enter Tryz.func53, Tryz.ntmps53
  go_wp2_with (go_at_call 65; refine hsn.mono ?_; rintro _ w1 ⟨kb, vb, L, rfl, hkb, hvb, hsa, hS, hLn, hT, hF⟩; obtain ⟨hP, hR, hz, hp1⟩ := HEND.out w1 kb vb L hkb hvb hsa hS hT hF; have HP : Hd _ := hP; have HR : Hd _ := hR; have HF1 : Hd (Fr (fun j => j = tb) w w1) := hF; have HNEW : Hd ((bks (.slice (some ⟨kb, 0, none⟩) L.length L.length) (.slice (some ⟨vb, 0, none⟩) L.length L.length)).Nodup ∧ ∀ j ∈ bks (.slice (some ⟨kb, 0, none⟩) L.length L.length) (.slice (some ⟨vb, 0, none⟩) L.length L.length), w.heap.size ≤ j ∧ j < w1.heap.size) := bks_new hkb hvb (heap_lt hsa.ks) (heap_lt hsa.vs) hsa.ne; have z1 := hz 1; have z2 := hz 2; have z3 := hz 3; have z4 := hz 4; have z5 := hz 5; have z6 := hz 6; have z7 := hz 7; have z8 := hz 8; have q1 : w1.cell? ⟨pb, 1, none⟩ = some (.bool (s.lkd 0)) := by { rw [cell_of hp1]; rfl }; have q2 : w1.cell? ⟨pb, 2, none⟩ = some (.bool (s.lkd 1)) := by { rw [cell_of hp1]; rfl }; have q3 : w1.cell? ⟨pb, 3, none⟩ = some (.bool (s.lkd 2)) := by { rw [cell_of hp1]; rfl }; have q4 : w1.cell? ⟨pb, 4, none⟩ = some (.bool (s.lkd 3)) := by { rw [cell_of hp1]; rfl }; have q5 : w1.cell? ⟨pb, 5, none⟩ = some (.bool (s.lkd 4)) := by { rw [cell_of hp1]; rfl }; have q6 : w1.cell? ⟨pb, 6, none⟩ = some (.bool (s.lkd 5)) := by { rw [cell_of hp1]; rfl }; have q7 : w1.cell? ⟨pb, 7, none⟩ = some (.bool (s.lkd 6)) := by { rw [cell_of hp1]; rfl }; have q8 : w1.cell? ⟨pb, 8, none⟩ = some (.bool (s.lkd 7)) := by { rw [cell_of hp1]; rfl }; clear hsa hS hT hF hP hR hz hp1 HEND)
  have hFu := unlock_fr w1 pb
  have HFU : Hd (Fr (fun j => j = pb) w1 _) := hFu
  clear hFu z1 z2 z3 z4 z5 z6 z7 z8 q1 q2 q3 q4 q5 q6 q7 q8
  generalize ((((((((w1.setCell ⟨pb, 1, none⟩ (.bool false)).setCell ⟨pb, 2, none⟩ (.bool false)).setCell ⟨pb, 3, none⟩ (.bool false)).setCell ⟨pb, 4, none⟩ (.bool false)).setCell ⟨pb, 5, none⟩ (.bool false)).setCell ⟨pb, 6, none⟩ (.bool false)).setCell ⟨pb, 7, none⟩ (.bool false)).setCell ⟨pb, 8, none⟩ (.bool false)) = w2 at *
  have hrow2 : Rows w2 76 7 cb ((cvs.map cl7).set i [x.cv, vI x.c.st, vI x.c.lk, .bool x.c.rp.ok, .string x.c.rp.val, x.kv, x.vv]) := by
    have := HP.out.row i hi'
    rw [← HEX.out] at this
    exact this
  refine (answer_any cb i (cvs.map cl7) (by simpa using hi') _ _ _ _ _ _ _ true ⟨#[]⟩ _ _ _ _ _ _ w2 hrow2).mono ?_
  rintro _ w3 ⟨rfl, hR3, hF3⟩
  have HL : Hd (Left cvs mvs w B pb cb tb g N E s' w3) := by
    have hb := HFB.out
    have hee := HEE.out
    have FA : Fr (fun j => B ≤ j ∧ ¬ E j) w w2 := (HF1.out.mono (fun j _ e => by rw [e]; exact ⟨hb.2.2.1, hee.2.2⟩)).trans (HFU.out.mono (fun j _ e => by rw [e]; exact ⟨hb.1, hee.1⟩))
    have ho2 : OpsAt w2 B x.cv x.c.ops := HO.out.fr FA hb.2.2.2 (fun j hj e => by omega)
    have hfin := HP.out.setCl hF3 i ⟨x.cv, _, _, { x.c with st := 2, lk := 0, rp := ⟨true, ⟨#[]⟩, s.tab⟩ }⟩ hR3 ho2 HR.out
    rw [ES.out]
    refine ⟨g, N, a, mv, _, mvs, by omega, hfin, FA.trans (hF3.mono (fun j _ e => by rw [e]; exact ⟨hb.2.1, hee.2.1⟩)), fun hA => hA.new hi' _ (Nat.le_trans FA.size hF3.size) HNEW.out.1 (fun j hj => ?_)⟩
    obtain ⟨q1, q2⟩ := HNEW.out.2 j hj
    exact ⟨q1, Nat.lt_of_lt_of_le q2 (Nat.le_trans HFU.out.size hF3.size)⟩
  clear hR3 hF3 hrow2
  go_wp2_with fail
  go_end0
  exact ⟨rfl, HL.out⟩
end
end Go.Proofs.YtihicdbplmdjiaaGreat.Pl
