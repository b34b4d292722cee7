import Derived.Test.YtngbakjalmgciaaGreatQQlJ
namespace Go.Proofs.YtngbakjalmgciaaGreat
open Go.RowKit (wrap32 wrap64)
set_option linter.unusedVariables false
set_option linter.unusedSimpArgs false

theorem ints_row {w : World} {B : Nat} {v : Value} {zs : List Int} (h : IntsAt w B v zs) : RowAt w B v (zs.map vI) := by
  obtain ⟨ad, cap, e, hx⟩ := h
  refine ⟨ad, cap, by rw [List.length_map]; exact e, fun hne => ?_⟩
  obtain ⟨g, o, ea, hg, hcs⟩ := hx (fun e => hne (by rw [e]; rfl))
  exact ⟨g, o, ea, hg, fun i hi => by rw [hcs i (by simpa using hi)]; simp⟩
theorem row_ints {w : World} {B : Nat} {v : Value} {zs : List Int} (h : RowAt w B v (zs.map vI)) : IntsAt w B v zs := by
  obtain ⟨ad, cap, e, hx⟩ := h
  refine ⟨ad, cap, by rw [List.length_map] at e; exact e, fun hne => ?_⟩
  obtain ⟨g, o, ea, hg, hcs⟩ := hx (fun e => hne (List.map_eq_nil_iff.1 e))
  exact ⟨g, o, ea, hg, fun i hi => by rw [hcs i (by simpa using hi)]; simp⟩
/-- The first q marks behind a list of numbers. -/
def mkI (q : Nat) : List Value := (List.range q).map (fun (k : Nat) => vI (-77 - (k : Int)))
theorem mkI_succ (q : Nat) : mkI (q + 1) = mkI q ++ [vI (-77 - (q : Int))] := by unfold mkI; rw [List.range_succ, List.map_append]; rfl
theorem mkI_len (q : Nat) : (mkI q).length = q := by simp [mkI]
/-- Numbers with marks behind them. -/
def RmI (w : World) (B : Nat) (v : Value) (zs : List Int) : Prop :=
  ∃ g cap, v = .slice (some ⟨g, 0, none⟩) zs.length cap ∧ w.ownsRow B 3 1 (.slice (some ⟨g, 0, none⟩) (zs.length + 64) cap) (zs.length + 64) (zs.map vI ++ mkI 64)
theorem RmI.fr {S : Nat → Prop} {w w' : World} {B : Nat} {v : Value} {zs : List Int} (h : RmI w B v zs) (f : Fr S w w') (hS : ∀ j, B ≤ j → j < w.heap.size → ¬ S j) : RmI w' B v zs := by
  obtain ⟨g, cap, e, ho⟩ := h
  exact ⟨g, cap, e, ownsRow_fr ho f (fun j hj => hS j (World.ownsRow.lt ho j hj).1 (World.ownsRow.lt ho j hj).2)⟩
theorem RmI.cells {w : World} {B : Nat} {v : Value} {zs : List Int} (h : RmI w B v zs) : ∃ g cap, v = .slice (some ⟨g, 0, none⟩) zs.length cap ∧ zs.length + 64 ≤ cap ∧ B ≤ g ∧ g < w.heap.size ∧ (∀ i (hi : i < zs.length), w.cell? ⟨g, i, none⟩ = some (vI zs[i])) ∧ ∀ k, k < 64 → w.cell? ⟨g, zs.length + k, none⟩ = some (vI (-77 - (k : Int))) := by
  obtain ⟨g, cap, e, ho⟩ := h
  have hl := World.ownsRow.lt ho g rfl
  obtain ⟨ad, cap', e1, hx⟩ := RowAt.own ho
  obtain ⟨g', o, e2, -, hcs⟩ := hx (fun e => by have := congrArg List.length e; simp [mkI_len] at this)
  rcases ho.2 with ⟨e3, -⟩ | ⟨g3, cap3, cur, e3, b1, b2, b3, -⟩
  · cases e3
  · have e4 := e3
    injection e4 with e5 e6 e7
    injection e5 with e5
    injection e5 with e5 _ _
    subst e5 e7
    injection e1 with e8 _ _
    rw [e2] at e8
    injection e8 with e8
    injection e8 with e8 e9 _
    subst e8 e9
    refine ⟨g, cap, e, b3, hl.1, hl.2, fun i hi => ?_, fun k hk => ?_⟩
    · have := hcs i (by simp [mkI_len]; omega)
      rw [Nat.zero_add, List.getElem_append_left (by simpa using hi)] at this
      rw [this]; simp
    · have := hcs (zs.length + k) (by simp [mkI_len]; omega)
      rw [Nat.zero_add, List.getElem_append_right (by simp)] at this
      rw [this]
      simp [mkI]
theorem RmI.ints {w : World} {B : Nat} {v : Value} {zs : List Int} (h : RmI w B v zs) : IntsAt w w.heap.size v zs := by
  obtain ⟨g, cap, e, -, -, hl, hc, -⟩ := h.cells
  exact ⟨_, cap, e, fun _ => ⟨g, 0, rfl, hl, fun i hi => by rw [Nat.zero_add]; exact hc i hi⟩⟩
set_option maxRecDepth 100000 in
set_option maxHeartbeats 2000000 in
theorem roomInts_any (w : World) (v : Value) (zs : List Int) (h : IntsAt w w.heap.size v zs) (hl : zs.length ≤ 2147483647) :
    Calls Tryz.prog 7 #[v] w fun e w' => ∃ v', e = .returned v' ∧ RmI w' w.heap.size v' zs ∧ Fr (fun _ => False) w w' := by
  have HC := copyInts_any v zs w.heap.size w (ints_row h) (Nat.le_refl _) (by omega)
  obtain ⟨ad, cap, rfl, -⟩ := h
  obtain ⟨n, en⟩ : ∃ n, n = zs.length := ⟨_, rfl⟩
  have EN : Hd (n = zs.length) := en
  rw [← en] at hl HC ⊢
  clear en
  go_enter Tryz.func7, Tryz.ntmps7
  go_wp2_with fail
  refine HC.mono ?_
  rintro _ w1 ⟨v1, rfl, ho1, hf1⟩
  have H1 : Hd (w1.ownsRow w.heap.size 3 1 v1 (n + 0) (zs.map vI ++ mkI 0) ∧ Fr (fun _ => False) w w1) := ⟨by simpa [mkI] using ho1, hf1⟩
  clear ho1 hf1 HC
  go_wp2_with fail
  go_loopw [3, 4] (fun v3 v4 wx => ∃ k : Nat, v4 = .int .i64 k ∧ k ≤ 64 ∧ Hd (wx.ownsRow w.heap.size 3 1 v3 (n + k) (zs.map vI ++ mkI k) ∧ Fr (fun _ => False) w wx)) (fun _ v _ => match v with | .int _ q => 64 - q.toNat | _ => 0)
  case atStart => exact ⟨0, rfl, by omega, H1.out⟩
  case round =>
    clear H1
    obtain ⟨k, rfl, hk, HO⟩ := hrel
    by_cases hlt : k < 64
    · have d1 : decide ((k : Int) < 64) = true := by simp; omega
      have k0 : (0 : Int) ≤ k := by omega
      have k1 : (k : Int) < 64 := by omega
      obtain ⟨g6, cap6, w2, hr, hown, hf, -⟩ := app1 under27 info3 rfl (by omega) HO.out.1 #[vI (-77 - (k : Int))] rfl (by intro u hu; simp at hu; subst hu; rfl) (by unfold maxLen; omega) (by omega) HO.out.2.size
      have HA : Hd ((Builtin.append_ #[23, 23] 23 #[u3, .slice (some ⟨wr.heap.size, 0, none⟩) 1 1]).run Tryz.prog (wr.alloc (.cells #[vI (-77 - (k : Int))] 3)) = .ok (.slice (some ⟨g6, 0, none⟩) (n + k + 1) cap6) w2) := hr
      have HE : Hd (w2.ownsRow w.heap.size 3 1 (.slice (some ⟨g6, 0, none⟩) (n + k + 1) cap6) (n + (k + 1)) (zs.map vI ++ mkI (k + 1)) ∧ Fr (fun _ => False) w w2) := by
        refine ⟨?_, HO.out.2.under hf (fun j hj => (World.ownsRow.lt HO.out.1 j hj).1)⟩
        rw [mkI_succ, ← List.append_assoc]; exact hown
      clear hr hown hf HO
      go_wp2_with (at_builtin; refine wpList_append_run rfl (.tmp 11) (.tmp 14) 23 rfl _ _ _ rfl rfl HA.out ?_)
      exact ⟨⟨k + 1, by simp, by omega, HE.out⟩, by simp; omega⟩
    · have d1 : decide ((k : Int) < 64) = false := by simp; omega
      have e : k = 64 := by omega
      have HO2 : Hd (wr.ownsRow w.heap.size 3 1 u3 (n + 64) (zs.map vI ++ mkI 64) ∧ Fr (fun _ => False) w wr) := by rw [← e]; exact HO.out
      obtain ⟨g6, cap6, e6, hcap⟩ : ∃ g6 cap6, u3 = .slice (some ⟨g6, 0, none⟩) (n + 64) cap6 ∧ n + 64 ≤ cap6 := by
        rcases HO2.out.1.2 with ⟨e3, e4⟩ | ⟨g3, cap3, cur, e3, b1, b2, b3, -⟩
        · omega
        · exact ⟨g3, cap3, e3, b3⟩
      have HE : Hd (∃ v', v' = .slice (some ⟨g6, 0, none⟩) n cap6 ∧ RmI wr w.heap.size v' zs ∧ Fr (fun _ => False) w wr) := by
        refine ⟨_, rfl, ⟨g6, cap6, by rw [EN.out], ?_⟩, HO2.out.2⟩
        have := HO2.out.1
        rw [e6, EN.out] at this
        exact this
      have hc1 : n ≤ cap6 := by omega
      subst e6
      clear HO HO2 e hlt
      go_wp2_with fail
      go_ret
      obtain ⟨v', ev, q1, q2⟩ := HE.out
      exact ⟨v', by rw [ev]; rfl, q1, q2⟩
set_option maxRecDepth 100000 in
set_option maxHeartbeats 2000000 in
theorem keptInts_any (w : World) (B : Nat) (v v2 : Value) (zs : List Int) (h : RmI w B v zs) (h2 : IntsAt w w.heap.size v2 zs) (hl : zs.length ≤ 2147483647) :
    Calls Tryz.prog 12 #[v, v2] w fun e w' => e = .returned (.bool true) ∧ Fr (fun _ => False) w w' := by
  have HC := eqInts_same v v2 zs w.heap.size w.heap.size w (ints_row h.ints) (ints_row h2) (Nat.le_refl _) (Nat.le_refl _) (by omega)
  have HH : Hd (∀ W, Fr (fun _ => False) w W → RmI W B v zs) := fun W f => h.fr f (fun _ _ _ e => e)
  obtain ⟨g, cap, rfl, hcap, -, -, -, -⟩ := h.cells
  obtain ⟨a2, c2, rfl, -⟩ := h2
  have HM : Hd (∀ W, Fr (fun _ => False) w W → ∀ k, k < 64 → W.cell? ⟨g, zs.length + k, none⟩ = some (vI (-77 - (k : Int)))) := fun W f k hk => by
    obtain ⟨g', cap', e, -, -, -, -, hm⟩ := (HH.out W f).cells
    injection e with e _ _
    injection e with e
    injection e with e _ _
    subst e
    exact hm k hk
  obtain ⟨n, en⟩ : ∃ n, n = zs.length := ⟨_, rfl⟩
  rw [← en] at hl HC HM hcap ⊢
  clear en HH h
  go_enter Tryz.func12, Tryz.ntmps12
  go_wp2_with fail
  refine HC.mono ?_
  rintro _ w1 ⟨rfl, hf1⟩
  have H1 : Hd (Fr (fun _ => False) w w1) := hf1
  clear hf1 HC
  go_wp2_with fail
  go_loopw [6] (fun v6 wx => ∃ k : Nat, v6 = .int .i64 k ∧ k ≤ 64 ∧ Hd (Fr (fun _ => False) w wx)) (fun v _ => match v with | .int _ q => 64 - q.toNat | _ => 0)
  case atStart => exact ⟨0, rfl, by omega, H1.out⟩
  case round =>
    clear H1
    obtain ⟨k, rfl, hk, HF⟩ := hrel
    by_cases hlt : k < 64
    · have d1 : decide ((k : Int) < 64) = true := by simp; omega
      have k0 : (0 : Int) ≤ k := by omega
      have k1 : (k : Int) < 64 := by omega
      have c := HM.out wr HF.out k hlt
      have x0 : (0 : Int) ≤ (n : Int) + (k : Int) := by omega
      have x1 : (n : Int) + (k : Int) < ((n + 64 : Nat) : Int) := by omega
      go_wp2_with fail
      exact ⟨⟨k + 1, by simp, by omega, HF.out⟩, by simp; omega⟩
    · have d1 : decide ((k : Int) < 64) = false := by simp; omega
      go_wp2_with fail
      go_ret
      exact ⟨rfl, HF.out⟩
end Go.Proofs.YtngbakjalmgciaaGreat

namespace Go.Proofs.YtngbakjalmgciaaGreat
open Go.RowKit (wrap32 wrap64)
set_option linter.unusedVariables false
set_option linter.unusedSimpArgs false

theorem infoL : (Tryz.prog.info? 32).map (fun i => (i.zero, i.size, i.bytes)) = some (some (.slice none 0 0), 1, 24) := by kernel_rfl
theorem underL : Tryz.prog.underlying 22 = some (.slice 32) := by kernel_rfl
/-- What may be said of an element: it stays while its own block does. -/
structure Stays (Q : Nat → World → Value → Prop) : Prop where
  fr : ∀ {i : Nat} {w w' : World} {u : Value} {S : Nat → Prop}, Q i w u → Fr S w w' → (∀ j, u.ownBlock = some j → ¬ S j) → Q i w' u
  lt : ∀ {i : Nat} {w : World} {u : Value} {j : Nat}, Q i w u → u.ownBlock = some j → j < w.heap.size
/-- A list of lists under way. -/
structure LoL (Q : Nat → World → Value → Prop) (w : World) (B : Nat) (v : Value) (us : List Value) : Prop where
  row : w.ownsRow B 32 1 v us.length us
  it : ∀ i (h : i < us.length), Q i w us[i]
  ne : ∀ i (h : i < us.length) (j : Nat), us[i].ownBlock = some j → v.ownBlock ≠ some j
theorem LoL.nil (Q : Nat → World → Value → Prop) (w : World) (B : Nat) : LoL Q w B (.slice none 0 0) [] := ⟨World.ownsRow_nil _ _ _ _, fun i h => by simp at h, fun i h => by simp at h⟩
theorem LoL.fr0 {Q : Nat → World → Value → Prop} (hQ : Stays Q) {w w' : World} {B : Nat} {v : Value} {us : List Value} (h : LoL Q w B v us) (f : Fr (fun _ => False) w w') : LoL Q w' B v us :=
  ⟨ownsRow_fr h.row f (fun _ _ e => e), fun i hi => hQ.fr (h.it i hi) f (fun _ _ e => e), h.ne⟩
theorem LoL.more {Q : Nat → World → Value → Prop} (hQ : Stays Q) {w w1 : World} {B : Nat} {v : Value} {us : List Value} (h : LoL Q w B v us) (f1 : Fr (fun _ => False) w w1) {ua : Option Addr} {un uc : Nat} (hu : Q us.length w1 (.slice ua un uc)) (hul : ∀ j, (Value.slice ua un uc).ownBlock = some j → w.heap.size ≤ j) (hB : B ≤ w.heap.size) (hn : us.length ≤ 3000000000) :
    ∃ g cap w2, (Builtin.append_ #[22, 22] 22 #[v, .slice (some ⟨w1.heap.size, 0, none⟩) 1 1]).run Tryz.prog (w1.alloc (.cells #[.slice ua un uc] 32)) = .ok (.slice (some ⟨g, 0, none⟩) (us.length + 1) cap) w2 ∧ LoL Q w2 B (.slice (some ⟨g, 0, none⟩) (us.length + 1) cap) (us ++ [.slice ua un uc]) ∧ Fr (fun j => v.ownBlock = some j) w1 w2 := by
  have h1 := h.fr0 hQ f1
  obtain ⟨g, cap, w2, hr, hown, hf, hat⟩ := app1 underL infoL rfl (by omega) h1.row #[.slice ua un uc] rfl (by intro u hu; simp at hu; subst hu; rfl) (by unfold maxLen; omega) (by omega) (Nat.le_trans hB f1.size)
  have hlt : ∀ j, (Value.slice ua un uc).ownBlock = some j → j < w1.heap.size := fun j hj => hQ.lt hu hj
  have hvl : ∀ j, v.ownBlock = some j → j < w.heap.size := fun j hj => (World.ownsRow.lt h.row j hj).2
  refine ⟨g, cap, w2, hr, ⟨by simpa using hown, fun i hi => ?_, fun i hi j hj => ?_⟩, hf⟩
  · by_cases e : i < us.length
    · rw [List.getElem_append_left e]
      exact hQ.fr (h1.it i e) hf (fun j hj e2 => h.ne i e j hj e2)
    · have : i = us.length := by simp at hi; omega
      subst this
      have e2 : (us ++ [Value.slice ua un uc])[us.length] = .slice ua un uc := by simp
      rw [e2]
      exact hQ.fr hu hf (fun j hj e3 => by have := hul j hj; have := hvl j e3; omega)
  · intro e2
    have e3 : g = j := Option.some.inj e2
    by_cases e : i < us.length
    · rw [List.getElem_append_left e] at hj
      rcases hat with e4 | e4
      · exact h.ne i e j hj (by rw [e4, e3])
      · have := hQ.lt (h1.it i e) hj; omega
    · have : i = us.length := by simp at hi; omega
      subst this
      have e5 : (us ++ [Value.slice ua un uc])[us.length] = .slice ua un uc := by simp
      rw [e5] at hj
      have q1 := hul j hj
      have q2 := hlt j hj
      rcases hat with e4 | e4
      · have := hvl g e4; omega
      · omega
theorem OpsAt.st {w w' : World} {v : Value} {ops : List OpT} (h : OpsAt w w.heap.size v ops) {S : Nat → Prop} (f : Fr S w w') (hS : ∀ j, v.ownBlock = some j → ¬ S j) : OpsAt w' w'.heap.size v ops := by
  obtain ⟨ad, cap, e, hcap, hx⟩ := h
  refine ⟨ad, cap, e, hcap, fun hne => ?_⟩
  obtain ⟨g, o, ea, hg, hcs⟩ := hx hne
  have hn : ¬ S g := hS g (by rw [e, ea]; rfl)
  refine ⟨g, o, ea, Nat.lt_of_lt_of_le hg f.size, fun i hi => ?_⟩
  obtain ⟨c0, c1, c2⟩ := hcs i hi
  exact ⟨(f.cell hg hn).trans c0, (f.cell hg hn).trans c1, (f.cell hg hn).trans c2⟩
def Qc (cl : List (List OpT)) (i : Nat) (w : World) (u : Value) : Prop := OpsAt w w.heap.size u (cl.getD i []) ∧ ∀ j, u.ownBlock = some j → j < w.heap.size
theorem qc_stays (cl : List (List OpT)) : Stays (Qc cl) := ⟨fun h f hS => ⟨h.1.st f hS, fun j hj => Nat.lt_of_lt_of_le (h.2 j hj) f.size⟩, fun h hj => h.2 _ hj⟩
theorem getD_at {cl : List (List OpT)} {i : Nat} (h : i < cl.length) : cl.getD i [] = cl[i] := by rw [List.getD_eq_getElem?_getD]; simp [h]
/-- A whole row of lists. -/
theorem LoL.cls {cl : List (List OpT)} {w : World} {B : Nat} {v : Value} {us : List Value} (h : LoL (Qc cl) w B v us) (hl : us.length = cl.length) : ClsAt w w.heap.size v cl := by
  obtain ⟨ad, cap, e, hx⟩ := RowAt.own h.row
  rw [hl] at e
  refine ⟨ad, cap, e, fun hne => ?_⟩
  obtain ⟨g, o, ea, hg, hcs⟩ := hx (fun e => hne (by rw [e] at hl; exact List.eq_nil_of_length_eq_zero hl.symm))
  refine ⟨g, o, ea, hg, fun i hi => ⟨us[i]'(by omega), hcs i (by omega), ?_⟩⟩
  have := (h.it i (by omega)).1
  rw [getD_at hi] at this
  exact this
theorem ClsAt.look {w : World} {v : Value} {cl : List (List OpT)} (h : ClsAt w w.heap.size v cl) : ∃ ad cap, v = .slice ad cl.length cap ∧ ∀ k (hk : k < cl.length), ∃ g o ua uc, ad = some ⟨g, o, none⟩ ∧ ∀ W, Fr (fun _ => False) w W → W.cell? ⟨g, o + k, none⟩ = some (.slice ua cl[k].length uc) ∧ OpsAt W W.heap.size (.slice ua cl[k].length uc) cl[k] := by
  obtain ⟨ad, cap, e, hx⟩ := h
  refine ⟨ad, cap, e, fun k hk => ?_⟩
  obtain ⟨g, o, ea, hg, hcs⟩ := hx (fun e => by rw [e] at hk; simp at hk)
  obtain ⟨u, hu, ho⟩ := hcs k hk
  have ho' := ho
  obtain ⟨ua, uc, eu, -⟩ := ho'
  subst eu
  exact ⟨g, o, ua, uc, ea, fun W f => ⟨(f.cell hg (fun e => e)).trans hu, (ho.fr f (Nat.le_refl _) (fun _ _ e => e)).mono f.size⟩⟩
set_option maxRecDepth 100000 in
set_option maxHeartbeats 2000000 in
theorem copies_any (v : Value) (cl : List (List OpT)) (w : World) (h : ClsAt w w.heap.size v cl) (hn : cl.length ≤ 2147483647) (hl : ∀ l ∈ cl, l.length ≤ 2147483647) :
    Calls Tryz.prog 15 #[v] w fun e w' => ∃ v', e = .returned v' ∧ ClsAt w' w'.heap.size v' cl ∧ Fr (fun _ => False) w w' := by
  obtain ⟨ad, cap, rfl, hx⟩ := h.look
  have HX : Hd (∀ k (hk : k < cl.length), ∃ g o ua uc, ad = some ⟨g, o, none⟩ ∧ ∀ W, Fr (fun _ => False) w W → W.cell? ⟨g, o + k, none⟩ = some (.slice ua cl[k].length uc) ∧ OpsAt W W.heap.size (.slice ua cl[k].length uc) cl[k]) := hx
  have HL : Hd (∀ l ∈ cl, l.length ≤ 2147483647) := hl
  obtain ⟨n, en⟩ : ∃ n, n = cl.length := ⟨_, rfl⟩
  have EN : Hd (n = cl.length) := en
  rw [← en] at hn ⊢
  clear hx en h hl
  go_enter Tryz.func15, Tryz.ntmps15
  go_wp2_with fail
  go_loopw [3, 4] (fun v3 v4 wx => ∃ k : Nat, v4 = .int .i64 k ∧ k ≤ n ∧ Hd (∃ us, us.length = k ∧ LoL (Qc cl) wx w.heap.size v3 us ∧ Fr (fun _ => False) w wx)) (fun _ v _ => match v with | .int _ q => n - q.toNat | _ => 0)
  case atStart => exact ⟨0, rfl, by omega, [], rfl, LoL.nil _ _ _, Fr.refl _ _⟩
  case round =>
    obtain ⟨k, rfl, hk, HO⟩ := hrel
    by_cases hlt : k < n
    · have d1 : decide ((k : Int) < (n : Int)) = true := by simp; omega
      have k0 : (0 : Int) ≤ k := by omega
      have k1 : (k : Int) < n := by omega
      have hkl : k < cl.length := by rw [← EN.out]; exact hlt
      obtain ⟨g, o, ua, uc, rfl, hc⟩ := HX.out k hkl
      obtain ⟨us, hul, hL, hF⟩ := HO.out
      obtain ⟨cu, ho⟩ := hc wr hF
      have HC := copyOps_any _ cl[k] wr ho (HL.out _ (List.getElem_mem hkl))
      have HGD : Hd (cl.getD us.length [] = cl[k]) := by rw [hul]; exact getD_at hkl
      have HLL : Hd (LoL (Qc cl) wr w.heap.size u3 us ∧ Fr (fun _ => False) w wr ∧ us.length = k) := ⟨hL, hF, hul⟩
      generalize cl[k] = l at *
      generalize l.length = ll at *
      clear HO hc hL hF hul hkl ho
      go_wp2_with fail
      refine HC.mono ?_
      rintro _ w1 ⟨v1, rfl, ho1, hf1⟩
      obtain ⟨va, vc, ev⟩ := row_val ho1
      generalize l.length = lm at ev
      subst ev
      obtain ⟨hL, hF, hul⟩ := HLL.out
      obtain ⟨g6, cap6, w2, hr, hL2, hf2⟩ := hL.more (qc_stays cl) hf1 (ua := va) (un := lm) (uc := vc) ⟨by rw [HGD.out]; exact ho1.at, fun j hj => (ho1.ge hj).2⟩ (fun j hj => (ho1.ge hj).1) hF.size (by omega)
      rw [hul] at hr
      have HA : Hd ((Builtin.append_ #[22, 22] 22 #[u3, .slice (some ⟨w1.heap.size, 0, none⟩) 1 1]).run Tryz.prog (w1.alloc (.cells #[.slice va lm vc] 32)) = .ok (.slice (some ⟨g6, 0, none⟩) (k + 1) cap6) w2) := hr
      have HE : Hd (∃ us, us.length = k + 1 ∧ LoL (Qc cl) w2 w.heap.size (.slice (some ⟨g6, 0, none⟩) (k + 1) cap6) us ∧ Fr (fun _ => False) w w2) := by
        refine ⟨us ++ [.slice va lm vc], by simp [hul], by rw [← hul]; rw [hul] at hL2 ⊢; exact hL2, (hF.trans hf1).under hf2 (fun j hj => (World.ownsRow.lt hL.row j hj).1)⟩
      clear hr hL2 hf2 hL hF hul HLL hf1 ho1 HC HGD cu
      go_wp2_with (at_builtin; refine wpList_append_run rfl (.tmp 17) (.tmp 19) 22 rfl _ _ _ rfl rfl HA.out ?_)
      exact ⟨⟨k + 1, by simp, by omega, HE.out⟩, by simp; omega⟩
    · have d1 : decide ((k : Int) < (n : Int)) = false := by simp; omega
      have d1n : ¬ k < n := hlt
      have HE : Hd (ClsAt wr wr.heap.size u3 cl ∧ Fr (fun _ => False) w wr) := by
        obtain ⟨us, hul, hL, hF⟩ := HO.out
        exact ⟨hL.cls (by have := EN.out; omega), hF⟩
      clear hlt HO
      go_wp2_with fail
      go_ret
      exact ⟨_, rfl, HE.out⟩
end Go.Proofs.YtngbakjalmgciaaGreat
