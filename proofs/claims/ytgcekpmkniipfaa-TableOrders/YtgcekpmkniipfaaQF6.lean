import Derived.Test.YtgcekpmkniipfaaQF5
namespace Go.Proofs.Ytgcekpmkniipfaa
open Go.RowKit (wrap32 wrap64)
set_option linter.unusedVariables false
set_option linter.unusedSimpArgs false

/-- While an order is sought: the numbers of those that must come ahead, the plain map. -/
structure Or (w3 wr : World) (N gw cw cT : Nat) (ws : Nat → Int) (kv vv : Value) (tab : List Kv) : Prop where
  fr : Fr (fun _ => False) w3 wr
  ws : wr.ownsRow w3.heap.size 3 1 (.slice (some ⟨gw, 0, none⟩) N cw) N ((List.range N).map (fun j => vI (ws j)))
  rt : Rt wr w3.heap.size cT kv vv tab
  n1 : gw ≠ cT
  n2 : kv.ownBlock ≠ some gw
  n3 : vv.ownBlock ≠ some gw
  ct : w3.heap.size ≤ cT
theorem Or.keep {w3 wr w' : World} {N gw cw cT : Nat} {ws : Nat → Int} {kv vv : Value} {tab : List Kv} (h : Or w3 wr N gw cw cT ws kv vv tab) (f : Fr (fun _ => False) wr w') : Or w3 w' N gw cw cT ws kv vv tab :=
  ⟨h.fr.trans f, ownsRow_fr h.ws f (fun _ _ h => h), h.rt.fr f (fun h => h) (fun _ _ h => h) (fun _ _ h => h), h.n1, h.n2, h.n3, h.ct⟩
theorem Or.cell {w3 wr : World} {N gw cw cT : Nat} {ws : Nat → Int} {kv vv : Value} {tab : List Kv} (h : Or w3 wr N gw cw cT ws kv vv tab) (j : Nat) (hj : j < N) : wr.cell? ⟨gw, j, none⟩ = some (vI (ws j)) := by
  rw [World.ownsRow.cellAt h.ws j (by omega)]
  simp [hj]
theorem Or.set {w3 wr : World} {N gw cw cT : Nat} {ws : Nat → Int} {kv vv : Value} {tab : List Kv} (h : Or w3 wr N gw cw cT ws kv vv tab) (j : Nat) (x : Int) (ws' : Nat → Int) (hw : ∀ i, i < N → ws' i = if i = j then x else ws i) : Or w3 (wr.setCell ⟨gw, j, none⟩ (vI x)) N gw cw cT ws' kv vv tab := by
  have f := (Fr.refl (fun k => k = gw) wr).setCell ⟨gw, j, none⟩ (vI x) (Or.inl rfl)
  have hge := (World.ownsRow.lt h.ws gw rfl).1
  refine ⟨h.fr.under f (fun k e => by omega), ?_, h.rt.fr f (fun e => h.n1 e.symm) (fun g e e2 => by subst e2; exact h.n2 e) (fun g e e2 => by subst e2; exact h.n3 e), h.n1, h.n2, h.n3, h.ct⟩
  have h2 := (World.ownsRow.stored h.ws j (vI x)).1
  have e : ((List.range N).map (fun j => vI (ws j))).set j (vI x) = (List.range N).map (fun j => vI (ws' j)) := by
    apply List.ext_getElem?
    intro i
    rw [List.getElem?_set, List.getElem?_map, List.getElem?_map]
    rcases Nat.lt_or_ge i N with hi | hi
    · rw [List.getElem?_range hi]
      simp only [Option.map_some]
      rw [hw i hi]
      by_cases e : j = i
      · subst e; simp [hi]
      · rw [if_neg e, if_neg (fun h => e h.symm)]
    · have e1 : (List.range N)[i]? = none := List.getElem?_eq_none (by simpa using hi)
      rw [e1]
      by_cases e : j = i
      · subst e; simp; omega
      · rw [if_neg e]; rfl
  rw [e] at h2
  exact h2

theorem Or.congr {w3 wr : World} {N gw cw cT : Nat} {ws ws' : Nat → Int} {kv vv : Value} {tab : List Kv} (h : Or w3 wr N gw cw cT ws kv vv tab) (hw : ∀ j, j < N → ws' j = ws j) : Or w3 wr N gw cw cT ws' kv vv tab := by
  have e : (List.range N).map (fun j => vI (ws' j)) = (List.range N).map (fun j => vI (ws j)) := List.map_congr_left (fun j hj => by rw [hw j (List.mem_range.1 hj)])
  exact ⟨h.fr, by rw [e]; exact h.ws, h.rt, h.n1, h.n2, h.n3, h.ct⟩
/-- Behind a call of Do. -/
theorem Or.done {w3 wr w' : World} {N gw cw cT : Nat} {ws : Nat → Int} {kv vv rv : Value} {tab : List Kv} {o : OpT} (h : Or w3 wr N gw cw cT ws kv vv tab) (hd : DoE wr w' w3.heap.size cT kv vv tab o rv) : ∃ rk ru kv' vv', rv = .agg #[.bool (doR tab o).ok, .string (doR tab o).val, rk, ru] ∧ RowAt w' w'.heap.size rk (kCells (doR tab o).L) ∧ RowAt w' w'.heap.size ru (vCells (doR tab o).L) ∧ Or w3 w' N gw cw cT ws kv' vv' (doT tab o) := by
  obtain ⟨rk, ru, kv', vv', e, h1, h2, h3, h4, h5, h6⟩ := hd
  have hgw := World.ownsRow.lt h.ws gw rfl
  refine ⟨rk, ru, kv', vv', e, RowAt.own h1, RowAt.own h2, h.fr.under h4 (fun j hj => ?_), ownsRow_fr h.ws h4 (fun g eg hS => ?_), h3, h.n1, fun e2 => ?_, fun e2 => ?_, h.ct⟩
  · rcases hj with rfl | hj | hj
    · exact h.ct
    · exact (World.ownsRow.lt h.rt.ks j hj).1
    · exact (World.ownsRow.lt h.rt.vs j hj).1
  · have : gw = g := Option.some.inj eg
    subst this
    rcases hS with e2 | e2 | e2
    · exact h.n1 e2
    · exact h.n2 e2
    · exact h.n3 e2
  · rcases h5 gw e2 with e3 | e3
    · exact h.n2 e3
    · omega
  · rcases h6 gw e2 with e3 | e3
    · exact h.n3 e3
    · omega
def mixW (cs : List CallT) (D : Nat → Bool) (a i j : Nat) : Int := if j = a ∨ j < i then waitN cs (fun j => D j || j == a) j else waitN cs D j
theorem waitN_done (cs : List CallT) (D : Nat → Bool) (a : Nat) : waitN cs (fun j => D j || j == a) a = -1 := by unfold waitN; simp
theorem waitN_le (cs : List CallT) (D : Nat → Bool) (i : Nat) : -1 ≤ waitN cs D i ∧ waitN cs D i ≤ cs.length := by
  unfold waitN
  have := cnt_le (waitP cs D i) cs.length
  split <;> omega
theorem range_snoc (f : Nat → Value) (i : Nat) : (List.range i).map f ++ [f i] = (List.range (i + 1)).map f := by rw [List.range_succ, List.map_append]; rfl
theorem cnt_free {D : Nat → Bool} : ∀ {N : Nat}, cnt D N < N → ∃ j, j < N ∧ D j = false
  | 0, h => by omega
  | N + 1, h => by
    cases hd : D N with
    | false => exact ⟨N, by omega, hd⟩
    | true =>
      unfold cnt at h
      rw [hd] at h
      obtain ⟨j, hj, e⟩ := cnt_free (D := D) (N := N) (by simp at h; omega)
      exact ⟨j, by omega, e⟩

set_option maxRecDepth 100000 in
set_option maxHeartbeats 4000000 in
theorem orders_any (w0 : World) (v sv : Value) (cl : List (List OpT)) (zs : List Int) (h : ClsAt w0 w0.heap.size v cl) (hz : IntsAt w0 w0.heap.size sv zs) (hn : cl.length ≤ 20000000000000) (hl : ∀ l ∈ cl, l.length ≤ 20000000000000) (hzl : zs.length ≤ 20000000000000) (hk : ∀ l ∈ cl, ∀ o ∈ l, In64 o.2.1) :
    Calls Try.prog 6 #[v, sv] w0 fun e w' => e = .returned (.bool true) ∧ Fr (fun _ => False) w0 w' := by
  obtain ⟨i3, hi3, hz3, hs3, hb3⟩ := info_parts info3
  have H : Hd (ClsAt w0 w0.heap.size v cl ∧ IntsAt w0 w0.heap.size sv zs) := ⟨h, hz⟩
  have HK : Hd (∀ l ∈ cl, ∀ o ∈ l, In64 o.2.1) := hk
  have HB : Hd (cl.length ≤ 20000000000000 ∧ (∀ l ∈ cl, l.length ≤ 20000000000000) ∧ zs.length ≤ 20000000000000) := ⟨hn, hl, hzl⟩
  clear h hz hn hl hzl hk
  go_enter Try.func6, Try.ntmps6
  go_wp2_with fail
  refine (lives_any w0).mono ?_
  rintro _ w1 ⟨rfl, hF1⟩
  have F1 : Hd (Fr (fun _ => False) w0 w1) := hF1
  have hsz1 := hF1.size
  have H1 : Hd (ClsAt w1 w1.heap.size v cl ∧ IntsAt w1 w1.heap.size sv zs) := ⟨(H.out.1.fr hF1 (Nat.le_refl _) (fun _ _ h => h)).mono hsz1, (H.out.2.fr hF1 (Nat.le_refl _) (fun _ _ h => h)).mono hsz1⟩
  have hlong := long_any w1 v sv cl zs H1.out.1 H1.out.2 HB.out.1 HB.out.2.1 HB.out.2.2
  clear hF1 H hsz1 HB
  go_wp2_with fail
  refine hlong.mono ?_
  rintro _ w1' ⟨⟨bl, rfl, hb⟩, rfl⟩
  clear hlong
  cases hbl : bl with
  | true =>
    clear hb
    go_wp2_with fail
    go_ret
    exact ⟨rfl, F1.out⟩
  | false =>
    have HT : Hd (total cl ≤ 2147483647 ∧ zs.length ≤ 2147483647) := hb hbl
    have hsome := some_any w1' v cl H1.out.1 (by have := HT.out.1; unfold total at this; omega) (fun l hl => by have := total_len hl; have := HT.out.1; omega)
    clear hb hbl
    go_wp2_with fail
    refine hsome.mono ?_
    rintro _ w2 ⟨v2, rfl, hC2, hF2⟩
    have hsz2 := hF2.size
    have hZ2 := (H1.out.2.fr hF2 (Nat.le_refl _) (fun _ _ h => h)).mono hsz2
    have F2 : Hd (Fr (fun _ => False) w0 w2) := F1.out.trans hF2
    have hplay := play_both w2 v2 sv cl zs hC2 hZ2 HK.out HT.out.2
    clear hsome hC2 hF2 hsz2 hZ2 H1 HT HK F1
    go_wp2_with fail
    refine hplay.mono ?_
    rintro _ w3' ⟨mv, ms, rfl, hM, hO, hF3⟩
    obtain ⟨kf, vf, hML, hlists⟩ := hM.lists
    have hco := callsOf_lists w3' w2.heap.size mv ms kf vf hML hO.ends hO.cnt (by have := hO.len; omega)
    have F3 : Hd (Fr (fun _ => False) w0 w3') := F2.out.trans hF3
    have HO : Hd (OKms ms) := hO
    have HLI : Hd (∀ (k : Nat) (m : MomT), ms[k]? = some m → RowAt w3' w3'.heap.size (kf k) (kCells m.rp.L) ∧ RowAt w3' w3'.heap.size (vf k) (vCells m.rp.L)) := hlists
    clear hplay hM hO hF3 hML hlists F2
    go_wp2_with fail
    refine hco.mono ?_
    rintro _ w3 ⟨lv, rows, rfl, hrow, hall, hF4⟩
    obtain ⟨cs, hCs, hcl, hcis⟩ := calls_exist hrow hall hF4 HLI.out
    obtain ⟨os, rk, hLz, hos⟩ := HO.out.lz cs hcl hcis
    have HLZ : Hd (Lz cs os rk) := hLz
    have HRL : Hd (∀ (j : Nat) (C : CallT), cs[j]? = some C → C.rp.L.length ≤ 300000) := fun j C hC => by
      rw [hLz.rp j C hC]
      have h1 := doR_len (tabOf (os.take (rk j))) C.op
      have h2 := tabOf_len (os.take (rk j))
      have h3 : (os.take (rk j)).length ≤ os.length := by rw [List.length_take]; omega
      omega
    have F4 : Hd (Fr (fun _ => False) w0 w3) := F3.out.trans hF4
    have hN3 : cs.length ≤ 300000 := by
      have := begsTo_le ms ms.length
      have := HO.out.len
      omega
    obtain ⟨la, lc, rfl, hcx⟩ := hCs
    have HCX : Hd (0 < cs.length → ∃ g, la = some ⟨g, 0, none⟩ ∧ g < w3.heap.size ∧ ∀ j (h : j < cs.length), ∃ ka kn kc va vn vc, CallAt w3 g j cs[j] ka kn kc va vn vc) := hcx
    obtain ⟨N, eN⟩ : ∃ N, N = cs.length := ⟨_, rfl⟩
    have EN : Hd (N = cs.length) := eN
    rw [← eN] at hN3 ⊢
    clear hco hrow hall hF4 hcl hcis hLz hos HO HLI F3 hcx eN
    -- the contract of ahead at two calls
    have AH : Hd (∀ (a b : Nat) (A C : CallT) (W : World) (ka : Option Addr) (kn kc : Nat) (va : Option Addr) (vn vc : Nat) (ka' : Option Addr) (kn' kc' : Nat) (va' : Option Addr) (vn' vc' : Nat), cs[a]? = some A → cs[b]? = some C → Fr (fun _ => False) w3 W → RowAt w3 w3.heap.size (.slice ka kn kc) (kCells A.rp.L) → RowAt w3 w3.heap.size (.slice ka' kn' kc') (kCells C.rp.L) →
        Calls Try.prog 22 #[callV A (.slice ka kn kc) (.slice va vn vc), callV C (.slice ka' kn' kc') (.slice va' vn' vc')] W fun e w' => e = .returned (.bool (ahP cs a b)) ∧ Fr (fun _ => False) W w') := by
      intro a b A C W ka kn kc va vn vc ka' kn' kc' va' vn' vc' hA hC hW r1 r2
      have e : ahP cs a b = aheadB A C := by unfold ahP; rw [hA, hC]
      rw [e]
      exact ahead_any W A C ka kn kc va vn vc ka' kn' kc' va' vn' vc' w3.heap.size (r1.fr hW (Nat.le_refl _) (fun _ _ h => h)) (r2.fr hW (Nat.le_refl _) (fun _ _ h => h)) hW.size (by have := HRL.out a A hA; omega) (by have := HRL.out b C hC; omega)
    go_wp2_with fail
    go_loopw [8, 9] (fun v8 v9 wr => ∃ i : Nat, v9 = .int .i64 i ∧ i ≤ N ∧ Hd (wr.ownsRow w3.heap.size 3 1 v8 i ((List.range i).map (fun j => vI (waitN cs (fun _ => false) j))) ∧ Fr (fun _ => False) w3 wr)) (fun _ v _ => match v with | .int _ q => N - q.toNat | _ => 0)
    case atStart => exact ⟨0, rfl, by omega, World.ownsRow_nil _ _ _ _, Fr.refl _ _⟩
    case round =>
      obtain ⟨i, rfl, hi, HM⟩ := hrel
      by_cases hlt : i < N
      · have hil : i < cs.length := by rw [← EN.out]; exact hlt
        obtain ⟨g, rfl, hg, hcs⟩ := HCX.out (by omega)
        have HCS : Hd (∀ j (h : j < cs.length), ∃ ka kn kc va vn vc, CallAt w3 g j cs[j] ka kn kc va vn vc) := hcs
        clear hcs
        have hi0 : (0 : Int) ≤ i := by omega
        have hi4 : (i : Int) < N := by omega
        go_wp2_with fail
        go_loopw [10, 11] (fun v10 v11 wr => ∃ (k q : Nat), v11 = .int .i64 k ∧ v10 = .int .i64 q ∧ k ≤ N ∧ q ≤ k ∧ Hd (q = cnt (waitP cs (fun _ => false) i) k ∧ wr.ownsRow w3.heap.size 3 1 u8 i ((List.range i).map (fun j => vI (waitN cs (fun _ => false) j))) ∧ Fr (fun _ => False) w3 wr)) (fun _ v _ => match v with | .int _ q => N - q.toNat | _ => 0)
        case atStart => exact ⟨0, 0, rfl, rfl, by omega, by omega, rfl, HM.out.1, HM.out.2⟩
        case round =>
          clear HM
          obtain ⟨k, q, rfl, rfl, hk, hq, HM⟩ := hrel
          by_cases hkl : k < N
          · have hk' : k < cs.length := by rw [← EN.out]; exact hkl
            have hk0 : (0 : Int) ≤ k := by omega
            have hk3 : (k : Int) < N := by omega
            by_cases hki : k = i
            · subst hki
              have HE : Hd (∀ n, q = cnt (waitP cs (fun _ => false) k) (k + 1) ∧ (wr.drewN n).ownsRow w3.heap.size 3 1 u8 k ((List.range k).map (fun j => vI (waitN cs (fun _ => false) j))) ∧ Fr (fun _ => False) w3 (wr.drewN n)) := fun n => by
                obtain ⟨e1, e2, e3⟩ := HM.out
                refine ⟨?_, ownsRow_fr e2 ((Fr.refl (fun _ => False) wr).drewN n) (fun _ _ h => h), e3.drewN n⟩
                rw [e1]
                show _ = cnt _ k + _
                have : waitP cs (fun _ => false) k k = false := by unfold waitP; simp
                rw [this]; rfl
              have hne : ((k : Int) != k) = false := by simp
              clear HM
              go_wp2_with fail
              go_quiet (fail)
              go_wp2_with fail
              exact ⟨⟨k + 1, q, by simp, by simp, by omega, by omega, HE.out _⟩, by simp; omega⟩
            · obtain ⟨ka, kn, kc, va, vn, vc, hA⟩ := HCS.out k hk'
              obtain ⟨ka', kn', kc', va', vn', vc', hB⟩ := HCS.out i hil
              obtain ⟨A, eA⟩ : ∃ A, A = cs[k] := ⟨_, rfl⟩
              obtain ⟨C, eC⟩ : ∃ C, C = cs[i] := ⟨_, rfl⟩
              have gA : cs[k]? = some A := by rw [eA]; exact List.getElem?_eq_getElem hk'
              have gC : cs[i]? = some C := by rw [eC]; exact List.getElem?_eq_getElem hil
              rw [← eA] at hA
              rw [← eC] at hB
              obtain ⟨e1, e2, e3⟩ := HM.out
              have hd3 : Fr (fun _ => False) w3 wr.drew := e3.drew
              have hcall := AH.out k i A C wr.drew ka kn kc va vn vc ka' kn' kc' va' vn' vc' gA gC hd3 hA.rk hB.rk
              have xA := hA.fr e3 hg
              have xB := hB.fr e3 hg
              obtain ⟨fr, tt, ⟨kd, ky, vs⟩, ⟨ok, val, L⟩⟩ := A
              obtain ⟨fr', tt', ⟨kd', ky', vs'⟩, ⟨ok', val', L'⟩⟩ := C
              obtain ⟨a0, a1, a2, a3, a4, a5, a6, a7, a8, -, -⟩ := xA
              obtain ⟨b0, b1, b2, b3, b4, b5, b6, b7, b8, -, -⟩ := xB
              simp only at a0 a1 a2 a3 a4 a5 a6 a7 a8 b0 b1 b2 b3 b4 b5 b6 b7 b8 hcall
              obtain ⟨bl, ebl⟩ : ∃ bl, bl = ahP cs k i := ⟨_, rfl⟩
              rw [← ebl] at hcall
              have HE : Hd (∀ W, Fr (fun _ => False) wr.drew W → (bl = true → q + 1 = cnt (waitP cs (fun _ => false) i) (k + 1)) ∧ (bl = false → q = cnt (waitP cs (fun _ => false) i) (k + 1)) ∧ W.ownsRow w3.heap.size 3 1 u8 i ((List.range i).map (fun j => vI (waitN cs (fun _ => false) j))) ∧ Fr (fun _ => False) w3 W) := fun W hW => by
                have hp : waitP cs (fun _ => false) i k = bl := by unfold waitP; rw [ebl]; simp [hki]
                refine ⟨fun hb => ?_, fun hb => ?_, ownsRow_fr e2 ((Fr.refl (fun _ => False) wr).drew.trans hW) (fun _ _ h => h), hd3.trans hW⟩
                · show _ = cnt _ k + _
                  rw [hp, hb, ← e1]; rfl
                · show _ = cnt _ k + _
                  rw [hp, hb, ← e1]; rfl
              have hne : ((k : Int) != i) = true := by simp; omega
              clear HM e1 e2 e3 hA hB gA gC eA eC hd3 ebl
              go_wp2_with fail
              refine wp_region_still_tail 12 mixed (by kernel_rfl) ?_
              simp only [List.take_succ_cons, List.take_zero, List.drop_succ_cons, List.drop_zero]
              repeat still_step
              refine wpStill_nil ?_
              go_wp2_with fail
              refine hcall.mono ?_
              rintro _ w5 ⟨rfl, hf5⟩
              obtain ⟨q1, q2, q3, q4⟩ := HE.out w5 hf5
              have HE2 : Hd ((bl = true → q + 1 = cnt (waitP cs (fun _ => false) i) (k + 1)) ∧ (bl = false → q = cnt (waitP cs (fun _ => false) i) (k + 1)) ∧ w5.ownsRow w3.heap.size 3 1 u8 i ((List.range i).map (fun j => vI (waitN cs (fun _ => false) j))) ∧ Fr (fun _ => False) w3 w5) := ⟨q1, q2, q3, q4⟩
              clear hcall HE hf5 q1 q2 q3 q4 a0 a1 a2 a3 a4 a5 a6 a7 a8 b0 b1 b2 b3 b4 b5 b6 b7 b8
              cases bl with
              | true =>
                go_wp2_with fail
                exact ⟨⟨k + 1, q + 1, by simp, by simp, by omega, by omega, HE2.out.1 (by simp), HE2.out.2.2.1, HE2.out.2.2.2⟩, by simp; omega⟩
              | false =>
                go_wp2_with fail
                exact ⟨⟨k + 1, q, by simp, by simp, by omega, by omega, HE2.out.2.1 (by simp), HE2.out.2.2.1, HE2.out.2.2.2⟩, by simp; omega⟩
          · have hd : decide (k < N) = false := by simp; omega
            obtain ⟨e1, e2, e3⟩ := HM.out
            have ek : k = cs.length := by have := EN.out; omega
            obtain ⟨gw, cw, w6, hr, hown, hgr, -, -⟩ := run_append_lies (P := Try.prog) (w := wr.alloc (.cells #[vI q] 3)) 27 27 w3.heap.size 3 i3 (vI 0) 1 8 under27 hi3 hz3 hs3 hb3 rfl (by omega) u8 i _ (World.ownsRow.alloc e2 _) ⟨wr.heap.size, 0, none⟩ 1 1 [vI q] rfl (one_new wr (vI q) 3) (by intro u hu; rw [List.mem_singleton.1 hu]; rfl) (by omega) (by unfold maxLen; omega) (by omega) (by have := e3.size; simp; omega) _ rfl
            have HA : Hd ((Builtin.append_ #[27, 27] 27 #[u8, .slice (some ⟨wr.heap.size, 0, none⟩) 1 1]).run Try.prog (wr.alloc (.cells #[vI q] 3)) = .ok (.slice (some ⟨gw, 0, none⟩) (i + 1) cw) w6) := hr
            have HE : Hd (w6.ownsRow w3.heap.size 3 1 (.slice (some ⟨gw, 0, none⟩) (i + 1) cw) (i + 1) ((List.range (i + 1)).map (fun j => vI (waitN cs (fun _ => false) j))) ∧ Fr (fun _ => False) w3 w6) := by
              refine ⟨?_, (e3.alloc _).under (grown_fr hgr) (fun j hj => (World.ownsRow.lt e2 j hj).1)⟩
              have ew : vI (q : Nat) = vI (waitN cs (fun _ => false) i) := by
                unfold waitN
                rw [e1, ek]; rfl
              rw [ew] at hown
              rw [← range_snoc]
              exact hown
            clear HM e1 e2 e3 ek hr hown hgr
            go_wp2_with (at_builtin; refine wpList_append_run rfl (.tmp 64) (.tmp 66) 27 rfl _ _ _ rfl rfl HA.out ?_)
            exact ⟨⟨i + 1, by simp, by omega, HE.out⟩, by simp; omega⟩
      · have hd : decide (i < N) = false := by simp; omega
        have ein : N = i := by omega
        subst ein
        by_cases hN0 : N = 0
        · subst hN0
          have HFR : Hd (Fr (fun _ => False) w3 wr) := HM.out.2
          clear HM
          go_wp2_with fail
          go_loopw [13] (fun v13 w' => v13 = .int .i64 0 ∧ Hd (Fr (fun _ => False) w3 w')) (fun _ _ => 0)
          case atStart => exact ⟨rfl, HFR.out.alloc _⟩
          case round =>
            obtain ⟨rfl, HM⟩ := hrel
            go_wp2_with fail
            go_ret
            exact ⟨rfl, F4.out.trans HM.out⟩
        · obtain ⟨gw, cw, eu8, -⟩ := HM.out.1.form (by omega)
          subst eu8
          obtain ⟨g, rfl, hg, hcs⟩ := HCX.out (by have := EN.out; omega)
          have HCS : Hd (∀ j (h : j < cs.length), ∃ ka kn kc va vn vc, CallAt w3 g j cs[j] ka kn kc va vn vc) := hcs
          clear hcs HCX
          have HOR0 : Hd (∃ kv vv, Or w3 (wr.alloc (.cells #[.slice none 0 0, .slice none 0 0] 54)) N gw cw wr.heap.size (waitN cs (fun _ => false)) kv vv []) := by
            have hgw := World.ownsRow.lt HM.out.1 gw rfl
            have hs := HM.out.2.size
            refine ⟨.slice none 0 0, .slice none 0 0, HM.out.2.alloc _, World.ownsRow.alloc HM.out.1 _, ⟨heap_alloc_last wr _, World.ownsRow_nil _ _ _ _, World.ownsRow_nil _ _ _ _, (fun e => by cases e), (fun e => by cases e), (fun g e => by cases e), List.Pairwise.nil⟩, by omega, (fun e => by cases e), (fun e => by cases e), hs⟩
          clear HM
          obtain ⟨cT, ecT⟩ : ∃ cT, cT = wr.heap.size := ⟨_, rfl⟩
          rw [← ecT] at HOR0
          go_wp2_with fail
          rw [← ecT]
          go_loopw [13] (fun v13 w' => ∃ n : Nat, v13 = .int .i64 n ∧ n ≤ N ∧ Hd (∃ D kv vv tab, Or w3 w' N gw cw cT (waitN cs D) kv vv tab ∧ Ply cs D tab ∧ cnt D N = n ∧ tab.length ≤ n)) (fun v _ => match v with | .int _ q => N - q.toNat | _ => 0)
          case atStart =>
            obtain ⟨kv, vv, h⟩ := HOR0.out
            exact ⟨0, rfl, by omega, _, kv, vv, [], h, Ply.start cs, cnt_zero.2 (fun _ _ => rfl), by simp⟩
          case round =>
            clear HOR0 ecT
            obtain ⟨n, rfl, hn, HM⟩ := hrel
            by_cases hnl : n < N
            · obtain ⟨D, kv, vv, tab, hOr, hP, hcn, htl⟩ := HM.out
              have hn4 : (n : Int) < N := by omega
              have HPP : Hd (Or w3 wr N gw cw cT (waitN cs D) kv vv tab ∧ Ply cs D tab ∧ cnt D N = n ∧ tab.length ≤ n) := ⟨hOr, hP, hcn, htl⟩
              have HFREE : Hd (∃ i, i < N ∧ waitN cs D i = 0) := by
                obtain ⟨j, hj, hDj⟩ := cnt_free (D := D) (N := N) (by omega)
                obtain ⟨q, hq, hDq, hall⟩ := HLZ.out.free D _ j rfl (by rw [← EN.out]; exact hj) hDj
                have hC : cs[q]? = some cs[q] := List.getElem?_eq_getElem hq
                exact ⟨q, by rw [EN.out]; exact hq, (waitN_zero hC).2 ⟨hDq, fun k A hA hne hab => hall k A _ hA hC hne hab⟩⟩
              clear HM hOr hP hcn htl
              go_wp2_with fail
              go_loopw [14, 15] (fun v14 v15 w' => w' = wr ∧ ∃ i : Nat, v15 = .int .i64 i ∧ i ≤ N ∧ ((v14 = .int .i64 (-1) ∧ Hd (∀ j, j < i → waitN cs D j ≠ 0)) ∨ ∃ a : Nat, v14 = .int .i64 a ∧ a < N ∧ i = a + 1 ∧ Hd (waitN cs D a = 0))) (fun _ v _ => match v with | .int _ q => N - q.toNat | _ => 0)
              case atStart => exact ⟨rfl, 0, rfl, by omega, Or.inl ⟨rfl, fun j h => by omega⟩⟩
              case round =>
                obtain ⟨rfl, i, rfl, hiN, ⟨rfl, HI⟩ | ⟨a, rfl, ha, rfl, HW⟩⟩ := hrel
                · have hil : i < N := by
                    rcases Nat.lt_or_ge i N with e | e
                    · exact e
                    · exfalso
                      obtain ⟨q, hq, e2⟩ := HFREE.out
                      exact HI.out q (by omega) e2
                  have d := HPP.out.1.cell i hil
                  have hi0 : (0 : Int) ≤ i := by omega
                  have hi4 : (i : Int) < N := by omega
                  obtain ⟨x, ex⟩ : ∃ x, x = waitN cs D i := ⟨_, rfl⟩
                  have EX : Hd (x = waitN cs D i) := ex
                  rw [← ex] at d
                  clear ex
                  by_cases hx0 : x = 0
                  · subst hx0
                    have HZ : Hd (waitN cs D i = 0) := EX.out.symm
                    clear HI EX
                    go_wp2_with fail
                    exact ⟨⟨trivial, i + 1, by simp, by omega, Or.inr ⟨i, rfl, hil, rfl, HZ.out⟩⟩, by simp; omega⟩
                  · have hxd : (x == 0) = false := by simp [hx0]
                    have HZ : Hd (∀ j, j < i + 1 → waitN cs D j ≠ 0) := fun j hj => by
                      rcases Nat.lt_or_ge j i with e | e
                      · exact HI.out j e
                      · have : j = i := by omega
                        subst this; rw [← EX.out]; exact hx0
                    clear HI EX
                    go_wp2_with fail
                    exact ⟨⟨trivial, i + 1, by simp, by omega, Or.inl ⟨by rfl, HZ.out⟩⟩, by simp; omega⟩
                · obtain ⟨hOr, hP, hcn, htl⟩ := HPP.out
                  have HI : True := trivial
                  clear HPP HFREE
                  by_cases hal : a + 1 < N
                  · have hal2 : (a : Int) + 1 < N := by omega

                    have hCa : cs[a]? = some cs[a] := List.getElem?_eq_getElem (by rw [← EN.out]; exact ha)
                    obtain ⟨hDa, hall⟩ := (waitN_zero hCa).1 HW.out
                    obtain ⟨ka, kn, kc, va, vn, vc, hA⟩ := HCS.out a (by rw [← EN.out]; exact ha)
                    have hans := hP.answer HLZ.out hCa hDa hall
                    have hstep := hP.step HLZ.out hCa hDa hall
                    have hkd := HLZ.out.kd a _ hCa
                    have hrl := HRL.out a _ hCa
                    obtain ⟨A, eA⟩ : ∃ A, A = cs[a] := ⟨_, rfl⟩
                    rw [← eA] at hCa hA hans hstep hkd hrl
                    have HCA : Hd (cs[a]? = some A) := hCa
                    have HAK : Hd (RowAt w3 w3.heap.size (.slice ka kn kc) (kCells A.rp.L) ∧ RowAt w3 w3.heap.size (.slice va vn vc) (vCells A.rp.L)) := ⟨hA.rk, hA.rv⟩
                    have HDA : Hd (D a = false) := hDa
                    have xA := hA.fr hOr.fr hg
                    obtain ⟨fr, tt, ⟨kd, ky, vs⟩, ⟨ok, val, L⟩⟩ := A
                    obtain ⟨a0, a1, a2, a3, a4, a5, a6, a7, a8, -, -⟩ := xA
                    simp only at a0 a1 a2 a3 a4 a5 a6 a7 a8 hans hstep hkd hrl
                    have hdo := do_any wr w3.heap.size cT kv vv tab kd ky vs hkd hOr.rt hOr.fr.size (by omega)
                    have HOR : Hd (Or w3 wr N gw cw cT (waitN cs D) kv vv tab) := hOr
                    have HST : Hd (Ply cs (fun j => D j || j == a) (doT tab (kd, ky, vs)) ∧ cnt (fun j => D j || j == a) N = n + 1 ∧ (doT tab (kd, ky, vs)).length ≤ n + 1) := ⟨hstep, by
                      rw [cnt_flip (p := fun j => D j || j == a) (q := D) (a := a) (by simp) HDA.out (fun k _ hk => by simp [hk]) ha, hcn], by have := doT_len tab (kd, ky, vs); omega⟩
                    have HANS : Hd (doR tab (kd, ky, vs) = ⟨ok, val, L⟩) := hans
                    have ha0 : (0 : Int) ≤ a := by omega
                    have ha3 : (a : Int) < N := by omega
                    have han : decide ((a : Int) < 0) = false := by simp
                    clear hOr hP hcn htl hCa hDa hall hA hans hstep eA HW HI
                    go_wp2_with fail
                    refine hdo.mono ?_
                    rintro _ w5 ⟨rv, rfl, hD⟩
                    obtain ⟨rk', ru', kv', vv', erv, hrk, hru, hOr5⟩ := HOR.out.done hD
                    rw [HANS.out] at erv hrk hru
                    simp only at erv hrk hru
                    obtain ⟨xa, xn, xc, exk⟩ : ∃ p q r, rk' = .slice p q r := by obtain ⟨p, q, e, -⟩ := hrk; exact ⟨_, _, _, e⟩
                    obtain ⟨ya, yn, yc, exu⟩ : ∃ p q r, ru' = .slice p q r := by obtain ⟨p, q, e, -⟩ := hru; exact ⟨_, _, _, e⟩
                    subst exk exu erv
                    obtain ⟨W, eW⟩ : ∃ W, W = w5.alloc (.cells #[.bool ok, .string val, .slice xa xn xc, .slice ya yn yc] 43) := ⟨_, rfl⟩
                    have fW : Fr (fun _ => False) w5 W := by rw [eW]; exact (Fr.refl _ w5).alloc _
                    have bW : W.heap[w5.heap.size]? = some (.cells #[.bool ok, .string val, .slice xa xn xc, .slice ya yn yc] 43) := by rw [eW]; exact heap_alloc_last w5 _
                    have HORW : Hd (Or w3 W N gw cw cT (waitN cs D) kv' vv' (doT tab (kd, ky, vs))) := hOr5.keep fW
                    have heq : Calls Try.prog 19 #[.agg #[.bool ok, .string val, .slice xa xn xc, .slice ya yn yc], .agg #[.bool ok, .string val, .slice ka kn kc, .slice va vn vc]] W.drew fun e w' => e = .returned (.bool true) ∧ Fr (fun _ => False) W.drew w' := by
                      have f1 : Fr (fun _ => False) w5 W.drew := fW.drew
                      have f2 : Fr (fun _ => False) w3 W.drew := (hOr5.fr.trans fW).drew
                      refine eqReply_same W.drew w5.heap.size w3.heap.size ⟨ok, val, L⟩ _ _ ⟨_, _, rfl, hrk.fr f1 (Nat.le_refl _) (fun _ _ h => h), hru.fr f1 (Nat.le_refl _) (fun _ _ h => h)⟩ ⟨_, _, rfl, HAK.out.1.fr f2 (Nat.le_refl _) (fun _ _ h => h), HAK.out.2.fr f2 (Nat.le_refl _) (fun _ _ h => h)⟩ f1.size f2.size (by show L.length ≤ _; omega)
                    obtain ⟨b, eb⟩ : ∃ b, b = w5.heap.size := ⟨_, rfl⟩
                    rw [← eb] at bW
                    have xA2 := (HCS.out a (by rw [← EN.out]; exact ha))
                    have y0 : W.cell? ⟨b, 0, none⟩ = some (.bool ok) := cell_of bW 0
                    have y1 : W.cell? ⟨b, 1, none⟩ = some (.string val) := cell_of bW 1
                    have y2 : W.cell? ⟨b, 2, none⟩ = some (.slice xa xn xc) := cell_of bW 2
                    have y3 : W.cell? ⟨b, 3, none⟩ = some (.slice ya yn yc) := cell_of bW 3
                    have fr3 : Fr (fun _ => False) w3 W := hOr5.fr.trans fW
                    have kk := fun o => (fr3.cell (o := o) hg (fun h => h))
                    have kk0 := fun o => (HOR.out.fr.cell (o := o) hg (fun h => h))
                    have z5 : W.cell? ⟨g, a * 9 + 5, none⟩ = some (.bool ok) := (kk _).trans ((kk0 _).symm.trans a5)
                    have z6 : W.cell? ⟨g, a * 9 + 6, none⟩ = some (.string val) := (kk _).trans ((kk0 _).symm.trans a6)
                    have z7 : W.cell? ⟨g, a * 9 + 7, none⟩ = some (.slice ka kn kc) := (kk _).trans ((kk0 _).symm.trans a7)
                    have z8 : W.cell? ⟨g, a * 9 + 8, none⟩ = some (.slice va vn vc) := (kk _).trans ((kk0 _).symm.trans a8)
                    have EWH : Hd (W = w5.alloc (.cells #[.bool ok, .string val, .slice xa xn xc, .slice ya yn yc] 43)) := eW
                    clear hdo hD hrk hru hOr5 fW bW eW fr3 kk kk0 a0 a1 a2 a3 a4 a5 a6 a7 a8 xA2 HANS HOR
                    have EB : Hd (b = w5.heap.size) := eb
                    clear eb
                    go_upto_region 31 with fail
                    rw [← EWH.out, ← EB.out]
                    clear EWH EB
                    refine wp_region_still_tail 6 mixed (by kernel_rfl) ?_
                    simp only [List.take_succ_cons, List.take_zero, List.drop_succ_cons, List.drop_zero]
                    repeat still_step
                    refine wpStill_nil ?_
                    go_wp2_with fail
                    refine heq.mono ?_
                    rintro _ w7 ⟨rfl, hf7⟩
                    have hOr7 := HORW.out.keep ((Fr.refl (fun _ => False) W).drew.trans hf7)
                    have d7 := hOr7.cell a ha
                    have z9 : w7.frozen? ⟨gw, a, none⟩ = false := World.ownsRow.frozenAt hOr7.ws _
                    have hOr8 := hOr7.set a (-1) (mixW cs D a 0) (fun j hj => by
                      unfold mixW
                      by_cases e : j = a
                      · subst e; rw [if_pos (Or.inl rfl), if_pos rfl, waitN_done]
                      · rw [if_neg (by omega), if_neg e])
                    have HOR8 : Hd (Or w3 (w7.setCell ⟨gw, a, none⟩ (vI (-1))) N gw cw cT (mixW cs D a 0) kv' vv' (doT tab (kd, ky, vs))) := hOr8
                    obtain ⟨xw, exw⟩ : ∃ xw, xw = waitN cs D a := ⟨_, rfl⟩
                    rw [← exw] at d7
                    clear heq hf7 hOr7 hOr8 HORW y0 y1 y2 y3 z5 z6 z7 z8 exw
                    go_wp2_with fail
                    clear d7 z9
                    go_loopw [17] (fun v17 w' => ∃ i : Nat, v17 = .int .i64 i ∧ i ≤ N ∧ Hd (Or w3 w' N gw cw cT (mixW cs D a i) kv' vv' (doT tab (kd, ky, vs)))) (fun v _ => match v with | .int _ q => N - q.toNat | _ => 0)
                    case atStart => exact ⟨0, rfl, by omega, HOR8.out⟩
                    case round =>
                      clear HOR8
                      obtain ⟨i, rfl, hiN', HM⟩ := hrel
                      by_cases hil : i < N
                      · have hi0 : (0 : Int) ≤ i := by omega
                        have hi4 : (i : Int) < N := by omega
                        have d := HM.out.cell i hil
                        have zf : wr.frozen? ⟨gw, i, none⟩ = false := World.ownsRow.frozenAt HM.out.ws _
                        obtain ⟨x, ex⟩ : ∃ x, x = mixW cs D a i i := ⟨_, rfl⟩
                        rw [← ex] at d
                        have HEX : Hd (x = mixW cs D a i i) := ex
                        clear ex
                        have hxb : -1 ≤ x ∧ x ≤ 300000 := by
                          have := HEX.out
                          have h1 := waitN_le cs D i
                          have h2 := waitN_le cs (fun j => D j || j == a) i
                          have h3 := EN.out
                          unfold mixW at this
                          split at this <;> omega
                        have hxb1 := hxb.1
                        have hxb2 := hxb.2
                        clear hxb
                        by_cases hx0 : 0 < x
                        · have hia : i ≠ a := by
                            intro e
                            have := HEX.out
                            unfold mixW at this
                            rw [if_pos (Or.inl e), e, waitN_done] at this
                            omega
                          have hxw : x = waitN cs D i := by
                            have := HEX.out
                            unfold mixW at this
                            rw [if_neg (by omega)] at this
                            exact this
                          have hst := waitN_step (cs := cs) (D := D) (a := a) (i := i) (by rw [← EN.out]; exact ha) HDA.out hia
                          rw [← hxw] at hst
                          have hic : i < cs.length := by rw [← EN.out]; exact hil
                          obtain ⟨ka', kn', kc', va', vn', vc', hB⟩ := HCS.out i hic
                          obtain ⟨qa, qn, qc, ra, rn, rc, hA9⟩ := HCS.out a (by rw [← EN.out]; exact ha)
                          obtain ⟨C, eC⟩ : ∃ C, C = cs[i] := ⟨_, rfl⟩
                          have gC : cs[i]? = some C := by rw [eC]; exact List.getElem?_eq_getElem hic
                          rw [← eC] at hB
                          have eA9 : cs[a]'(by rw [← EN.out]; exact ha) = ⟨fr, tt, (kd, ky, vs), ⟨ok, val, L⟩⟩ := by
                            have h1 := HCA.out
                            rw [List.getElem?_eq_getElem (by rw [← EN.out]; exact ha)] at h1
                            exact Option.some.inj h1
                          rw [eA9] at hA9
                          have hfr := HM.out.fr
                          have hcall := AH.out a i _ C wr.drew qa qn qc ra rn rc ka' kn' kc' va' vn' vc' HCA.out gC hfr.drew hA9.rk hB.rk
                          have xA := hA9.fr hfr hg
                          have xB := hB.fr hfr hg
                          obtain ⟨fr', tt', ⟨kd', ky', vs'⟩, ⟨ok', val', L'⟩⟩ := C
                          obtain ⟨a0, a1, a2, a3, a4, a5, a6, a7, a8, -, -⟩ := xA
                          obtain ⟨b0, b1, b2, b3, b4, b5, b6, b7, b8, -, -⟩ := xB
                          simp only at a0 a1 a2 a3 a4 a5 a6 a7 a8 b0 b1 b2 b3 b4 b5 b6 b7 b8 hcall
                          obtain ⟨bl, ebl⟩ : ∃ bl, bl = ahP cs a i := ⟨_, rfl⟩
                          rw [← ebl] at hcall hst
                          have HE : Hd (∀ W', Fr (fun _ => False) wr.drew W' → Or w3 W' N gw cw cT (mixW cs D a i) kv' vv' (doT tab (kd, ky, vs))) := fun W' hW => HM.out.keep ((Fr.refl (fun _ => False) wr).drew.trans hW)
                          have HMX : Hd (∀ y, (y = waitN cs (fun j => D j || j == a) i) → ∀ j, j < N → mixW cs D a (i + 1) j = if j = i then y else mixW cs D a i j) := fun y hy j hj => by
                            unfold mixW
                            by_cases e : j = i
                            · subst e; rw [if_pos (Or.inr (by omega)), if_pos rfl, hy]
                            · rw [if_neg e]
                              by_cases e2 : j = a ∨ j < i
                              · rw [if_pos e2, if_pos (by omega)]
                              · rw [if_neg e2, if_neg (by omega)]
                          have HST2 : Hd (waitN cs (fun j => D j || j == a) i = if bl = true then x - 1 else x) := by
                            show _ = _
                            rw [hst]
                            by_cases e : bl = true
                            · rw [if_pos ⟨hx0, e⟩, if_pos e]
                            · rw [if_neg (fun h => e h.2), if_neg e]
                          have hxd : decide (x > 0) = true := by simp; omega
                          have HXX : Hd (x = mixW cs D a i i) := HEX
                          clear HM hfr hB hA9 eA9 gC eC ebl hst hxw HEX
                          go_wp2_with fail
                          refine wp_region_still_tail 14 mixed (by kernel_rfl) ?_
                          simp only [List.take_succ_cons, List.take_zero, List.drop_succ_cons, List.drop_zero]
                          repeat still_step
                          refine wpStill_nil ?_
                          go_wp2_with fail
                          refine hcall.mono ?_
                          rintro _ w9 ⟨rfl, hf9⟩
                          have hOr9 := HE.out w9 hf9
                          have d9 : w9.cell? ⟨gw, i, none⟩ = some (vI x) := by rw [HXX.out]; exact hOr9.cell i hil
                          have z9 : w9.frozen? ⟨gw, i, none⟩ = false := World.ownsRow.frozenAt hOr9.ws _
                          have HO9 : Hd (Or w3 w9 N gw cw cT (mixW cs D a i) kv' vv' (doT tab (kd, ky, vs))) := hOr9
                          clear hcall HE hf9 hOr9 a0 a1 a2 a3 a4 a5 a6 a7 a8 b0 b1 b2 b3 b4 b5 b6 b7 b8 d zf
                          cases bl with
                          | true =>
                            have HF9 : Hd (Or w3 (w9.setCell ⟨gw, i, none⟩ (vI (x - 1))) N gw cw cT (mixW cs D a (i + 1)) kv' vv' (doT tab (kd, ky, vs))) := HO9.out.set i (x - 1) _ (HMX.out (x - 1) (by rw [HST2.out]; simp))
                            clear HO9 HST2 HMX HXX
                            go_wp2_with fail
                            exact ⟨⟨i + 1, by simp, by omega, HF9.out⟩, by simp; omega⟩
                          | false =>
                            have HF9 : Hd (Or w3 w9 N gw cw cT (mixW cs D a (i + 1)) kv' vv' (doT tab (kd, ky, vs))) := HO9.out.congr (fun j hj => by
                              rw [HMX.out x (by rw [HST2.out]; simp) j hj]
                              by_cases e : j = i
                              · subst e; rw [if_pos rfl]; exact HXX.out
                              · rw [if_neg e])
                            clear HO9 HST2 HMX HXX
                            go_wp2_with fail
                            exact ⟨⟨i + 1, by simp, by omega, HF9.out⟩, by simp; omega⟩
                        · have hxd : decide (x > 0) = false := by simp; omega
                          have hxd2 : decide (0 < x) = false := by simp; omega
                          have HN2 : Hd (∀ m, Or w3 (wr.drewN m) N gw cw cT (mixW cs D a (i + 1)) kv' vv' (doT tab (kd, ky, vs))) := fun m => by
                            refine (HM.out.keep ((Fr.refl (fun _ => False) wr).drewN m)).congr (fun j hj => ?_)
                            unfold mixW
                            by_cases e : j = a ∨ j < i
                            · rw [if_pos e, if_pos (by omega)]
                            · rw [if_neg e]
                              by_cases e2 : j = i
                              · subst e2
                                have hxw := HEX.out
                                unfold mixW at hxw
                                rw [if_neg e] at hxw
                                rw [if_pos (Or.inr (by omega)), waitN_step (cs := cs) (D := D) (a := a) (i := j) (by rw [← EN.out]; exact ha) HDA.out (by omega), if_neg (by rw [← hxw]; exact fun h => hx0 h.1)]
                              · rw [if_neg (by omega)]
                          clear HM HEX
                          go_wp2_with fail
                          go_quiet (fail)
                          go_wp2_with fail
                          exact ⟨⟨i + 1, by simp, by omega, HN2.out _⟩, by simp; omega⟩
                      · have hd9 : decide (i < N) = false := by simp; omega
                        have eiN : i = N := by omega
                        have HEND : Hd (∃ D kv vv tab, Or w3 wr N gw cw cT (waitN cs D) kv vv tab ∧ Ply cs D tab ∧ cnt D N = n + 1 ∧ tab.length ≤ n + 1) := by
                          refine ⟨_, _, _, _, HM.out.congr (fun j hj => ?_), HST.out⟩
                          unfold mixW
                          rw [if_pos (Or.inr (by omega))]
                        clear HM
                        go_wp2_with fail
                        exact ⟨⟨n + 1, by simp, by omega, HEND.out⟩, by simp; omega⟩

                  · have hal2 : decide ((a : Int) + 1 < N) = false := by simp; omega

                    have hCa : cs[a]? = some cs[a] := List.getElem?_eq_getElem (by rw [← EN.out]; exact ha)
                    obtain ⟨hDa, hall⟩ := (waitN_zero hCa).1 HW.out
                    obtain ⟨ka, kn, kc, va, vn, vc, hA⟩ := HCS.out a (by rw [← EN.out]; exact ha)
                    have hans := hP.answer HLZ.out hCa hDa hall
                    have hstep := hP.step HLZ.out hCa hDa hall
                    have hkd := HLZ.out.kd a _ hCa
                    have hrl := HRL.out a _ hCa
                    obtain ⟨A, eA⟩ : ∃ A, A = cs[a] := ⟨_, rfl⟩
                    rw [← eA] at hCa hA hans hstep hkd hrl
                    have HCA : Hd (cs[a]? = some A) := hCa
                    have HAK : Hd (RowAt w3 w3.heap.size (.slice ka kn kc) (kCells A.rp.L) ∧ RowAt w3 w3.heap.size (.slice va vn vc) (vCells A.rp.L)) := ⟨hA.rk, hA.rv⟩
                    have HDA : Hd (D a = false) := hDa
                    have xA := hA.fr hOr.fr hg
                    obtain ⟨fr, tt, ⟨kd, ky, vs⟩, ⟨ok, val, L⟩⟩ := A
                    obtain ⟨a0, a1, a2, a3, a4, a5, a6, a7, a8, -, -⟩ := xA
                    simp only at a0 a1 a2 a3 a4 a5 a6 a7 a8 hans hstep hkd hrl
                    have hdo := do_any wr w3.heap.size cT kv vv tab kd ky vs hkd hOr.rt hOr.fr.size (by omega)
                    have HOR : Hd (Or w3 wr N gw cw cT (waitN cs D) kv vv tab) := hOr
                    have HST : Hd (Ply cs (fun j => D j || j == a) (doT tab (kd, ky, vs)) ∧ cnt (fun j => D j || j == a) N = n + 1 ∧ (doT tab (kd, ky, vs)).length ≤ n + 1) := ⟨hstep, by
                      rw [cnt_flip (p := fun j => D j || j == a) (q := D) (a := a) (by simp) HDA.out (fun k _ hk => by simp [hk]) ha, hcn], by have := doT_len tab (kd, ky, vs); omega⟩
                    have HANS : Hd (doR tab (kd, ky, vs) = ⟨ok, val, L⟩) := hans
                    have ha0 : (0 : Int) ≤ a := by omega
                    have ha3 : (a : Int) < N := by omega
                    have han : decide ((a : Int) < 0) = false := by simp
                    clear hOr hP hcn htl hCa hDa hall hA hans hstep eA HW HI
                    go_wp2_with fail
                    refine hdo.mono ?_
                    rintro _ w5 ⟨rv, rfl, hD⟩
                    obtain ⟨rk', ru', kv', vv', erv, hrk, hru, hOr5⟩ := HOR.out.done hD
                    rw [HANS.out] at erv hrk hru
                    simp only at erv hrk hru
                    obtain ⟨xa, xn, xc, exk⟩ : ∃ p q r, rk' = .slice p q r := by obtain ⟨p, q, e, -⟩ := hrk; exact ⟨_, _, _, e⟩
                    obtain ⟨ya, yn, yc, exu⟩ : ∃ p q r, ru' = .slice p q r := by obtain ⟨p, q, e, -⟩ := hru; exact ⟨_, _, _, e⟩
                    subst exk exu erv
                    obtain ⟨W, eW⟩ : ∃ W, W = w5.alloc (.cells #[.bool ok, .string val, .slice xa xn xc, .slice ya yn yc] 43) := ⟨_, rfl⟩
                    have fW : Fr (fun _ => False) w5 W := by rw [eW]; exact (Fr.refl _ w5).alloc _
                    have bW : W.heap[w5.heap.size]? = some (.cells #[.bool ok, .string val, .slice xa xn xc, .slice ya yn yc] 43) := by rw [eW]; exact heap_alloc_last w5 _
                    have HORW : Hd (Or w3 W N gw cw cT (waitN cs D) kv' vv' (doT tab (kd, ky, vs))) := hOr5.keep fW
                    have heq : Calls Try.prog 19 #[.agg #[.bool ok, .string val, .slice xa xn xc, .slice ya yn yc], .agg #[.bool ok, .string val, .slice ka kn kc, .slice va vn vc]] W.drew fun e w' => e = .returned (.bool true) ∧ Fr (fun _ => False) W.drew w' := by
                      have f1 : Fr (fun _ => False) w5 W.drew := fW.drew
                      have f2 : Fr (fun _ => False) w3 W.drew := (hOr5.fr.trans fW).drew
                      refine eqReply_same W.drew w5.heap.size w3.heap.size ⟨ok, val, L⟩ _ _ ⟨_, _, rfl, hrk.fr f1 (Nat.le_refl _) (fun _ _ h => h), hru.fr f1 (Nat.le_refl _) (fun _ _ h => h)⟩ ⟨_, _, rfl, HAK.out.1.fr f2 (Nat.le_refl _) (fun _ _ h => h), HAK.out.2.fr f2 (Nat.le_refl _) (fun _ _ h => h)⟩ f1.size f2.size (by show L.length ≤ _; omega)
                    obtain ⟨b, eb⟩ : ∃ b, b = w5.heap.size := ⟨_, rfl⟩
                    rw [← eb] at bW
                    have xA2 := (HCS.out a (by rw [← EN.out]; exact ha))
                    have y0 : W.cell? ⟨b, 0, none⟩ = some (.bool ok) := cell_of bW 0
                    have y1 : W.cell? ⟨b, 1, none⟩ = some (.string val) := cell_of bW 1
                    have y2 : W.cell? ⟨b, 2, none⟩ = some (.slice xa xn xc) := cell_of bW 2
                    have y3 : W.cell? ⟨b, 3, none⟩ = some (.slice ya yn yc) := cell_of bW 3
                    have fr3 : Fr (fun _ => False) w3 W := hOr5.fr.trans fW
                    have kk := fun o => (fr3.cell (o := o) hg (fun h => h))
                    have kk0 := fun o => (HOR.out.fr.cell (o := o) hg (fun h => h))
                    have z5 : W.cell? ⟨g, a * 9 + 5, none⟩ = some (.bool ok) := (kk _).trans ((kk0 _).symm.trans a5)
                    have z6 : W.cell? ⟨g, a * 9 + 6, none⟩ = some (.string val) := (kk _).trans ((kk0 _).symm.trans a6)
                    have z7 : W.cell? ⟨g, a * 9 + 7, none⟩ = some (.slice ka kn kc) := (kk _).trans ((kk0 _).symm.trans a7)
                    have z8 : W.cell? ⟨g, a * 9 + 8, none⟩ = some (.slice va vn vc) := (kk _).trans ((kk0 _).symm.trans a8)
                    have EWH : Hd (W = w5.alloc (.cells #[.bool ok, .string val, .slice xa xn xc, .slice ya yn yc] 43)) := eW
                    clear hdo hD hrk hru hOr5 fW bW eW fr3 kk kk0 a0 a1 a2 a3 a4 a5 a6 a7 a8 xA2 HANS HOR
                    have EB : Hd (b = w5.heap.size) := eb
                    clear eb
                    go_upto_region 31 with fail
                    rw [← EWH.out, ← EB.out]
                    clear EWH EB
                    refine wp_region_still_tail 6 mixed (by kernel_rfl) ?_
                    simp only [List.take_succ_cons, List.take_zero, List.drop_succ_cons, List.drop_zero]
                    repeat still_step
                    refine wpStill_nil ?_
                    go_wp2_with fail
                    refine heq.mono ?_
                    rintro _ w7 ⟨rfl, hf7⟩
                    have hOr7 := HORW.out.keep ((Fr.refl (fun _ => False) W).drew.trans hf7)
                    have d7 := hOr7.cell a ha
                    have z9 : w7.frozen? ⟨gw, a, none⟩ = false := World.ownsRow.frozenAt hOr7.ws _
                    have hOr8 := hOr7.set a (-1) (mixW cs D a 0) (fun j hj => by
                      unfold mixW
                      by_cases e : j = a
                      · subst e; rw [if_pos (Or.inl rfl), if_pos rfl, waitN_done]
                      · rw [if_neg (by omega), if_neg e])
                    have HOR8 : Hd (Or w3 (w7.setCell ⟨gw, a, none⟩ (vI (-1))) N gw cw cT (mixW cs D a 0) kv' vv' (doT tab (kd, ky, vs))) := hOr8
                    obtain ⟨xw, exw⟩ : ∃ xw, xw = waitN cs D a := ⟨_, rfl⟩
                    rw [← exw] at d7
                    clear heq hf7 hOr7 hOr8 HORW y0 y1 y2 y3 z5 z6 z7 z8 exw
                    go_wp2_with fail
                    clear d7 z9
                    go_loopw [17] (fun v17 w' => ∃ i : Nat, v17 = .int .i64 i ∧ i ≤ N ∧ Hd (Or w3 w' N gw cw cT (mixW cs D a i) kv' vv' (doT tab (kd, ky, vs)))) (fun v _ => match v with | .int _ q => N - q.toNat | _ => 0)
                    case atStart => exact ⟨0, rfl, by omega, HOR8.out⟩
                    case round =>
                      clear HOR8
                      obtain ⟨i, rfl, hiN', HM⟩ := hrel
                      by_cases hil : i < N
                      · have hi0 : (0 : Int) ≤ i := by omega
                        have hi4 : (i : Int) < N := by omega
                        have d := HM.out.cell i hil
                        have zf : wr.frozen? ⟨gw, i, none⟩ = false := World.ownsRow.frozenAt HM.out.ws _
                        obtain ⟨x, ex⟩ : ∃ x, x = mixW cs D a i i := ⟨_, rfl⟩
                        rw [← ex] at d
                        have HEX : Hd (x = mixW cs D a i i) := ex
                        clear ex
                        have hxb : -1 ≤ x ∧ x ≤ 300000 := by
                          have := HEX.out
                          have h1 := waitN_le cs D i
                          have h2 := waitN_le cs (fun j => D j || j == a) i
                          have h3 := EN.out
                          unfold mixW at this
                          split at this <;> omega
                        have hxb1 := hxb.1
                        have hxb2 := hxb.2
                        clear hxb
                        by_cases hx0 : 0 < x
                        · have hia : i ≠ a := by
                            intro e
                            have := HEX.out
                            unfold mixW at this
                            rw [if_pos (Or.inl e), e, waitN_done] at this
                            omega
                          have hxw : x = waitN cs D i := by
                            have := HEX.out
                            unfold mixW at this
                            rw [if_neg (by omega)] at this
                            exact this
                          have hst := waitN_step (cs := cs) (D := D) (a := a) (i := i) (by rw [← EN.out]; exact ha) HDA.out hia
                          rw [← hxw] at hst
                          have hic : i < cs.length := by rw [← EN.out]; exact hil
                          obtain ⟨ka', kn', kc', va', vn', vc', hB⟩ := HCS.out i hic
                          obtain ⟨qa, qn, qc, ra, rn, rc, hA9⟩ := HCS.out a (by rw [← EN.out]; exact ha)
                          obtain ⟨C, eC⟩ : ∃ C, C = cs[i] := ⟨_, rfl⟩
                          have gC : cs[i]? = some C := by rw [eC]; exact List.getElem?_eq_getElem hic
                          rw [← eC] at hB
                          have eA9 : cs[a]'(by rw [← EN.out]; exact ha) = ⟨fr, tt, (kd, ky, vs), ⟨ok, val, L⟩⟩ := by
                            have h1 := HCA.out
                            rw [List.getElem?_eq_getElem (by rw [← EN.out]; exact ha)] at h1
                            exact Option.some.inj h1
                          rw [eA9] at hA9
                          have hfr := HM.out.fr
                          have hcall := AH.out a i _ C wr.drew qa qn qc ra rn rc ka' kn' kc' va' vn' vc' HCA.out gC hfr.drew hA9.rk hB.rk
                          have xA := hA9.fr hfr hg
                          have xB := hB.fr hfr hg
                          obtain ⟨fr', tt', ⟨kd', ky', vs'⟩, ⟨ok', val', L'⟩⟩ := C
                          obtain ⟨a0, a1, a2, a3, a4, a5, a6, a7, a8, -, -⟩ := xA
                          obtain ⟨b0, b1, b2, b3, b4, b5, b6, b7, b8, -, -⟩ := xB
                          simp only at a0 a1 a2 a3 a4 a5 a6 a7 a8 b0 b1 b2 b3 b4 b5 b6 b7 b8 hcall
                          obtain ⟨bl, ebl⟩ : ∃ bl, bl = ahP cs a i := ⟨_, rfl⟩
                          rw [← ebl] at hcall hst
                          have HE : Hd (∀ W', Fr (fun _ => False) wr.drew W' → Or w3 W' N gw cw cT (mixW cs D a i) kv' vv' (doT tab (kd, ky, vs))) := fun W' hW => HM.out.keep ((Fr.refl (fun _ => False) wr).drew.trans hW)
                          have HMX : Hd (∀ y, (y = waitN cs (fun j => D j || j == a) i) → ∀ j, j < N → mixW cs D a (i + 1) j = if j = i then y else mixW cs D a i j) := fun y hy j hj => by
                            unfold mixW
                            by_cases e : j = i
                            · subst e; rw [if_pos (Or.inr (by omega)), if_pos rfl, hy]
                            · rw [if_neg e]
                              by_cases e2 : j = a ∨ j < i
                              · rw [if_pos e2, if_pos (by omega)]
                              · rw [if_neg e2, if_neg (by omega)]
                          have HST2 : Hd (waitN cs (fun j => D j || j == a) i = if bl = true then x - 1 else x) := by
                            show _ = _
                            rw [hst]
                            by_cases e : bl = true
                            · rw [if_pos ⟨hx0, e⟩, if_pos e]
                            · rw [if_neg (fun h => e h.2), if_neg e]
                          have hxd : decide (x > 0) = true := by simp; omega
                          have HXX : Hd (x = mixW cs D a i i) := HEX
                          clear HM hfr hB hA9 eA9 gC eC ebl hst hxw HEX
                          go_wp2_with fail
                          refine wp_region_still_tail 14 mixed (by kernel_rfl) ?_
                          simp only [List.take_succ_cons, List.take_zero, List.drop_succ_cons, List.drop_zero]
                          repeat still_step
                          refine wpStill_nil ?_
                          go_wp2_with fail
                          refine hcall.mono ?_
                          rintro _ w9 ⟨rfl, hf9⟩
                          have hOr9 := HE.out w9 hf9
                          have d9 : w9.cell? ⟨gw, i, none⟩ = some (vI x) := by rw [HXX.out]; exact hOr9.cell i hil
                          have z9 : w9.frozen? ⟨gw, i, none⟩ = false := World.ownsRow.frozenAt hOr9.ws _
                          have HO9 : Hd (Or w3 w9 N gw cw cT (mixW cs D a i) kv' vv' (doT tab (kd, ky, vs))) := hOr9
                          clear hcall HE hf9 hOr9 a0 a1 a2 a3 a4 a5 a6 a7 a8 b0 b1 b2 b3 b4 b5 b6 b7 b8 d zf
                          cases bl with
                          | true =>
                            have HF9 : Hd (Or w3 (w9.setCell ⟨gw, i, none⟩ (vI (x - 1))) N gw cw cT (mixW cs D a (i + 1)) kv' vv' (doT tab (kd, ky, vs))) := HO9.out.set i (x - 1) _ (HMX.out (x - 1) (by rw [HST2.out]; simp))
                            clear HO9 HST2 HMX HXX
                            go_wp2_with fail
                            exact ⟨⟨i + 1, by simp, by omega, HF9.out⟩, by simp; omega⟩
                          | false =>
                            have HF9 : Hd (Or w3 w9 N gw cw cT (mixW cs D a (i + 1)) kv' vv' (doT tab (kd, ky, vs))) := HO9.out.congr (fun j hj => by
                              rw [HMX.out x (by rw [HST2.out]; simp) j hj]
                              by_cases e : j = i
                              · subst e; rw [if_pos rfl]; exact HXX.out
                              · rw [if_neg e])
                            clear HO9 HST2 HMX HXX
                            go_wp2_with fail
                            exact ⟨⟨i + 1, by simp, by omega, HF9.out⟩, by simp; omega⟩
                        · have hxd : decide (x > 0) = false := by simp; omega
                          have hxd2 : decide (0 < x) = false := by simp; omega
                          have HN2 : Hd (∀ m, Or w3 (wr.drewN m) N gw cw cT (mixW cs D a (i + 1)) kv' vv' (doT tab (kd, ky, vs))) := fun m => by
                            refine (HM.out.keep ((Fr.refl (fun _ => False) wr).drewN m)).congr (fun j hj => ?_)
                            unfold mixW
                            by_cases e : j = a ∨ j < i
                            · rw [if_pos e, if_pos (by omega)]
                            · rw [if_neg e]
                              by_cases e2 : j = i
                              · subst e2
                                have hxw := HEX.out
                                unfold mixW at hxw
                                rw [if_neg e] at hxw
                                rw [if_pos (Or.inr (by omega)), waitN_step (cs := cs) (D := D) (a := a) (i := j) (by rw [← EN.out]; exact ha) HDA.out (by omega), if_neg (by rw [← hxw]; exact fun h => hx0 h.1)]
                              · rw [if_neg (by omega)]
                          clear HM HEX
                          go_wp2_with fail
                          go_quiet (fail)
                          go_wp2_with fail
                          exact ⟨⟨i + 1, by simp, by omega, HN2.out _⟩, by simp; omega⟩
                      · have hd9 : decide (i < N) = false := by simp; omega
                        have eiN : i = N := by omega
                        have HEND : Hd (∃ D kv vv tab, Or w3 wr N gw cw cT (waitN cs D) kv vv tab ∧ Ply cs D tab ∧ cnt D N = n + 1 ∧ tab.length ≤ n + 1) := by
                          refine ⟨_, _, _, _, HM.out.congr (fun j hj => ?_), HST.out⟩
                          unfold mixW
                          rw [if_pos (Or.inr (by omega))]
                        clear HM
                        go_wp2_with fail
                        exact ⟨⟨n + 1, by simp, by omega, HEND.out⟩, by simp; omega⟩

            · have hd : decide (n < N) = false := by simp; omega
              have HFR : Hd (Fr (fun _ => False) w3 wr) := by obtain ⟨D, kv, vv, tab, hOr, -⟩ := HM.out; exact hOr.fr
              clear HM
              go_wp2_with fail
              go_ret
              exact ⟨rfl, F4.out.trans HFR.out⟩
end Go.Proofs.Ytgcekpmkniipfaa
