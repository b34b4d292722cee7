import Derived.Test.YtihicdbplmdjiaaGreatQC2
import Derived.Laws.MakeOwn
import Derived.Test.YtihicdbplmdjiaaGreatQB3bJ
import Derived.Test.YtihicdbplmdjiaaGreatQC1b
set_option linter.unusedVariables false
set_option linter.unusedSimpArgs false
namespace Go.Proofs.YtihicdbplmdjiaaGreat
open Go.RowKit Go.Shelf
attribute [local go_sem] Oper.semAt_some

set_option maxHeartbeats 1000000 in
/-- ahead. -/
theorem ahead_any (ad : Option Addr) (n cap mb i : Nat) (w : World) : Calls Tryz.prog 57 #[.agg #[.slice ad n cap, .map (some mb)], vI i] w fun e w' => e = .returned (.func (.func 67) #[] #[.pointer (some ⟨w.heap.size, 0, none⟩), .pointer (some ⟨w.heap.size + 1, 0, none⟩)]) ∧ w' = (w.alloc (.cells #[.slice ad n cap, .map (some mb)] 59)).alloc (.cells #[vI i] 3) := by
  have hmf : ∀ (fn : Fn) (first cap : Array Value) (w : World), (Instr.makeFunc fn first cap).run Tryz.prog w = .ok (.func fn first cap) w := fun _ _ _ _ => rfl
  go_enter Tryz.func57, Tryz.ntmps57
  go_wp2_with fail
  go_ret
  exact ⟨rfl, rfl⟩
/-- The function that 'ahead' hands over. -/
theorem ahead_gives (n n0 Bp Bi mb i : Nat) (lv : Value) (cs : List Cl) (hi : i < cs.length) (hlen : cs.length ≤ 64) (w : World) (hn0 : n0 ≤ w.heap.size)
    (hBp : w.heap[Bp]? = some (.cells #[lv, .map (some mb)] 59)) (hBi : w.heap[Bi]? = some (.cells #[vI i] 3)) (hc : ∀ W', KpA n0 w W' → CAt W' lv cs) :
    SeqGivesC Fence.wide n Tryz.prog 67 #[] #[.pointer (some ⟨Bp, 0, none⟩), .pointer (some ⟨Bi, 0, none⟩)] encN (fun _ => KpA n0) (fun xs => xs = aheadTo cs i cs.length) cs.length w := fun l J W hW _ hl hJ hY h0 => by
  have kb : ∀ (k : Nat) (o : Obj), w.heap[k]? = some o → W.heap[k]? = some o := fun k o h => (hW.block k (heap_lt h)).trans h
  have hkp : KpA n0 w W := ⟨⟨hW.os, hW.tape, hW.output, hW.size, fun k hk => hW.block k (by omega)⟩, fun k cs t hk _ => kb k _ hk⟩
  refine (ahead1_in n l n0 Bp Bi mb i lv cs hi hlen W (Nat.le_trans hn0 hW.size) J hY (fun pre A A' hs f => own_fr hJ hs f) (kb _ _ hBp) (kb _ _ hBi) (fun W' x => hc W' (hkp.trans x)) h0).mono ?_
  rintro e W' ⟨he, hj⟩
  exact ⟨he, _, rfl, hj⟩

/-! ### waits -/
def setOf (xs : List Nat) : Nat := xs.foldl withS 0
theorem setOf_snoc (xs : List Nat) (j : Nat) : setOf (xs ++ [j]) = withS (setOf xs) j := by unfold setOf; rw [List.foldl_append]; rfl
theorem setOf_lt' : ∀ (xs : List Nat) (s : Nat), s < 18446744073709551616 → xs.foldl withS s < 18446744073709551616
  | [], s, hs => hs
  | x :: xs, s, hs => setOf_lt' xs _ (withS_lt x hs)
theorem setOf_lt (xs : List Nat) : setOf xs < 18446744073709551616 := setOf_lt' xs 0 (by decide)
def waitsX (cs : List Cl) : List Nat := (List.range cs.length).map (fun i => setOf (aheadTo cs i cs.length))
theorem und77 : Tryz.prog.underlying 89 = some (.slice 92) := by kernel_rfl

theorem rowS_made (m : Nat) : madeCells #[vS 0] m = ((List.replicate m 0).map vS).toArray := by
  unfold madeCells
  apply Array.ext
  · simp
  · intro i h1 h2
    simp [Nat.mod_one]
theorem make77 (m : Nat) (hm : m ≤ 64) (W : World) : (Instr.makeSlice 89 (vI m) (vI m)).run Tryz.prog W = .ok (.slice (some ⟨W.heap.size, 0, none⟩) m m) (W.alloc (.cells ((List.replicate m 0).map vS).toArray 92)) := by
  have hi : (Tryz.prog.info? 92).map (fun i => (i.zero, i.size, i.bytes)) = some (some (vS 0), 1, 8) := by kernel_rfl
  obtain ⟨i, hi, hz, hs, hb⟩ := Go.Proofs.YtihicdbplmdjiaaGreat.info_parts hi
  have := run_make (P := Tryz.prog) W 89 92 i (vS 0) und77 hi hz .i64 .i64 m m (by omega) (by omega) (by rw [hb]; omega) (by omega)
  rw [this, hs, show (m : Int).toNat * 1 = m by omega, show (m : Int).toNat = m by omega]
  rw [show (vS 0).cells = #[vS 0] from rfl, rowS_made]

abbrev markD (D : Nat) : Deferred := { target := .collected D, args := #[] }
/-- The marks of the loops that have been gone through are taken away. -/
theorem leaves_marks1 {P : Program} {fn : Func} {tmps : Array Value} {R : Ending → World → Prop} {β : Type} {B n p : Nat} {J : β → World → Prop} {s : β} (hJ : OwnFrom B J) (hr : fn.results = #[.tmp p]) (hR : ∀ W, J s W → R (.returned (tmps.getD p undef)) W) :
    ∀ (ds : List Nat) (W : World), ds.Nodup → (∀ D ∈ ds, B ≤ D ∧ W.heap[D]? = some (.deferred (some []))) → J s W → LeavesInM Fence.wide n P fn tmps R (ds.map markD) .returning W
  | [], W, _, _, h => ⟨tmps.getD p undef, results_tmp hr _ _ _, hR W h⟩
  | D :: ds, W, hn, hd, h => by
    obtain ⟨hB, hD⟩ := hd D List.mem_cons_self
    refine ⟨by simp, Or.inl ⟨D, _, rfl, run_takeDeferred hD, ?_⟩⟩
    refine leaves_marks1 hJ hr hR ds _ (List.nodup_cons.1 hn).2 (fun D' hD' => ?_) (hJ.putObj _ h hB hD rfl)
    have h1 := hd D' (List.mem_cons_of_mem _ hD')
    have hne : D' ≠ D := fun e => (List.nodup_cons.1 hn).1 (e ▸ hD')
    exact ⟨h1.1, (World.putObj_heap_other hne).trans h1.2⟩
/-- Between two rounds of the inner loop. -/
structure WI (n0 B Y : Nat) (pv lv : Array Value) (ws : List Nat) (k : Nat) (ds : List Nat) (w6 : World) (pre : List Nat) (W' : World) : Prop where
  kp : KpA n0 w6 W'
  d : ∀ D ∈ ds, B + 3 ≤ D ∧ D < w6.heap.size ∧ W'.heap[D]? = some (.deferred (some []))
  b : W'.heap[B]? = some (.cells pv 59)
  r : W'.heap[B + 1]? = some (.cells (((ws.set k (setOf pre)).map vS).toArray) 92)
  l : W'.heap[B + 2]? = some (.cells lv 89)
  y : W'.heap[Y]? = some (.cells #[vI k] 3)
theorem WI.own {n0 B Y : Nat} {pv lv : Array Value} {ws : List Nat} {k : Nat} {ds : List Nat} {w6 : World} (hn0 : n0 ≤ w6.heap.size) : OwnFrom w6.heap.size (WI n0 B Y pv lv ws k ds w6) := fun pre A A' row h hg hr => by
  have nc : ∀ (k : Nat) cs t, A.heap[k]? = some (.cells cs t) → A'.heap[k]? = some (.cells cs t) := fun k cs t hk => by
    refine (hg.block k (heap_lt hk) (fun e => ?_)).trans hk
    obtain ⟨-, o, ho, hc⟩ := hr k e.symm
    rw [hk] at ho
    cases ho
    cases hc
  refine ⟨⟨h.kp.below.trans ((Below.refl n0 A).grown hg (by have := h.kp.below.size; omega) (fun k e => by have := (hr k e).1; omega)), fun k cs t hk h1 => nc k cs t (h.kp.typed k cs t hk h1)⟩, fun D hD => ?_, nc _ _ _ h.b, nc _ _ _ h.r, nc _ _ _ h.l, nc _ _ _ h.y⟩
  obtain ⟨h1, h2, h3⟩ := h.d D hD
  exact ⟨h1, h2, (hg.block D (heap_lt h3) (fun e => by have := (hr D e.symm).1; omega)).trans h3⟩
theorem WI.fr {n0 B Y : Nat} {pv lv : Array Value} {ws : List Nat} {k : Nat} {ds : List Nat} {w6 : World} {pre : List Nat} {A A' : World} (h : WI n0 B Y pv lv ws k ds w6 pre A) (hn0 : n0 ≤ w6.heap.size) (f : Fr (fun _ => False) A A') : WI n0 B Y pv lv ws k ds w6 pre A' := by
  have nc : ∀ (k : Nat) (o : Obj), A.heap[k]? = some o → A'.heap[k]? = some o := fun k o hk => (f.block k (heap_lt hk) (fun e => e)).trans hk
  exact ⟨h.kp.trans (KpA.ofFr f (by have := h.kp.below.size; omega)), fun D hD => ⟨(h.d D hD).1, (h.d D hD).2.1, nc _ _ (h.d D hD).2.2⟩, nc _ _ h.b, nc _ _ h.r, nc _ _ h.l, nc _ _ h.y⟩
theorem callsIn_round {m l : Nat} {P : Program} {f : FuncId} {args : Array Value} {w : World} {R : Ending → World → Prop} (h : Calls P f args w R) : CallsIn (Fence.wide.inRound l) m P f args w R := by
  have h2 : CallsIn Fence.wide m P f args w R := callsIn_wide.2 h
  exact ⟨trivial, fun cs _ => h2.2 cs (room_wide _)⟩
theorem below_fr {w w' : World} (h : Below w.heap.size w w') : Fr (fun _ => False) w w' := ⟨h.os, h.tape, h.output, h.size, fun k hk _ => h.block k hk⟩

set_option maxRecDepth 100000 in
set_option maxHeartbeats 4000000 in
theorem waits_in (n : Nat) (hn : 3 ≤ n) (lv : Value) (mb : Nat) (cs : List Cl) (w : World) (h : CAt w lv cs) (hl : cs.length ≤ 64) :
    CallsIn Fence.wide n Tryz.prog 34 #[pV lv mb] w fun e w' => ∃ v, e = .returned v ∧ RowAt w' v ((waitsX cs).map vS) ∧ Fr (fun _ => False) w w' := by
  obtain ⟨ad, cap, e, -⟩ := id h
  subst e
  obtain ⟨m, em⟩ : ∃ m, m = cs.length := ⟨_, rfl⟩
  have EM : Hd (m = cs.length) := em
  have HC : Hd (CAt w (.slice ad cs.length cap) cs) := h
  unfold pV
  rw [← em] at hl HC ⊢
  clear h em
  refine callsIn_of_wp_marks Tryz.func34 rfl trivial ?_ rfl
  simp only [Tryz.ntmps34, List.size_toArray, List.length_cons, List.length_nil, Nat.reduceAdd, Nat.reduceSub, Array.replicate_succ, Array.replicate_zero, List.push_toArray, List.append_toArray, List.nil_append, List.cons_append]
  have hmk := make77 m hl (w.alloc (.cells #[.slice ad m cap, .map (some mb)] 59))
  gi_wp2_with fail
  obtain ⟨WS, eWS⟩ : ∃ WS, WS = ((w.alloc (.cells #[.slice ad m cap, .map (some mb)] 59)).alloc (.cells (Array.replicate m (vS 0)) 92)).alloc (.cells #[.slice (some ⟨w.heap.size + 1, 0, none⟩) m m] 89) := ⟨_, rfl⟩
  have hW : KpA w.heap.size w WS ∧ WS.heap[w.heap.size]? = some (.cells #[.slice ad m cap, .map (some mb)] 59) ∧ WS.heap[w.heap.size + 1]? = some (.cells (((List.replicate m 0).map vS).toArray) 92) ∧ WS.heap[w.heap.size + 2]? = some (.cells #[.slice (some ⟨w.heap.size + 1, 0, none⟩) m m] 89) := by
    rw [eWS]
    have z1 : (w.alloc (.cells #[.slice ad m cap, .map (some mb)] 59)).heap.size = w.heap.size + 1 := by simp
    have z2 : ((w.alloc (.cells #[.slice ad m cap, .map (some mb)] 59)).alloc (.cells (Array.replicate m (vS 0)) 92)).heap.size = w.heap.size + 2 := by simp
    refine ⟨KpA.ofFr ((((Fr.refl _ w).alloc _).alloc _).alloc _) (Nat.le_refl _), ?_, ?_, ?_⟩
    · rw [Below.heap_alloc _ _ _ (by rw [z2]; omega), Below.heap_alloc _ _ _ (by rw [z1]; omega)]
      exact heap_alloc_last w _
    · rw [Below.heap_alloc _ _ _ (by rw [z2]; omega)]
      have := heap_alloc_last (w.alloc (.cells #[.slice ad m cap, .map (some mb)] 59)) (.cells (Array.replicate m (vS 0)) 92)
      rw [z1] at this
      rw [this]
      simp
    · have := heap_alloc_last ((w.alloc (.cells #[.slice ad m cap, .map (some mb)] 59)).alloc (.cells (Array.replicate m (vS 0)) 92)) (.cells #[.slice (some ⟨w.heap.size + 1, 0, none⟩) m m] 89)
      rw [z2] at this
      exact this
  rw [← eWS]
  have HCA : Hd (∀ W', KpA w.heap.size w W' → CAt W' (.slice ad m cap) cs) := fun W' x => HC.out.fr (below_fr x.below)
  obtain ⟨B, eB⟩ : ∃ B, B = w.heap.size := ⟨_, rfl⟩
  rw [← eB] at hW HCA ⊢
  have EB : Hd (B = w.heap.size) := eB
  obtain ⟨hW1, hW2, hW3, hW4⟩ := hW
  clear eWS eB hmk HC
  refine wpIn_loop (fun a' w' => ∃ (k : Nat) (ws : List Nat) (ds : List Nat) (u4 u5 u13 u14 u15 u16 u17 u18 u19 u20 u21 u22 u23 u24 u25 u26 u27 u28 u29 : Value), a' = { tmps := #[.agg #[.slice ad m cap, .map (some mb)], .pointer (some ⟨B, 0, none⟩), .slice none 0 0, .pointer (some ⟨B + 1 + 1, 0, none⟩), u4, u5, .pointer (some ⟨B, 0, none⟩), .slice ad m cap, .int .i64 (m : Int), .slice (some ⟨B + 1, 0, none⟩) m m, .slice (some ⟨B + 1, 0, none⟩) m m, .int .i64 (m : Int), .int .i64 (k : Int), u13, u14, u15, u16, u17, u18, u19, u20, u21, u22, u23, u24, u25, u26, u27, u28, u29], defers := ds.map markD } ∧ k ≤ m ∧ Hd (ws.length = m ∧ (∀ i, i < k → ws[i]? = some (setOf (aheadTo cs i m))) ∧ ∀ i, k ≤ i → i < m → ws[i]? = some 0) ∧ Hd (ds.Nodup) ∧ Hd (∀ D ∈ ds, B + 3 ≤ D ∧ w'.heap[D]? = some (.deferred (some []))) ∧ Hd (KpA B w w') ∧ Hd (w'.heap[B]? = some (.cells #[.slice ad m cap, .map (some mb)] 59)) ∧ Hd (w'.heap[B + 1]? = some (.cells ((ws.map vS).toArray) 92)) ∧ Hd (w'.heap[B + 2]? = some (.cells #[.slice (some ⟨B + 1, 0, none⟩) m m] 89))) (fun a' _ => m - (RowKit.intOf (a'.tmps.getD 12 undef)).toNat) ?_ ?_
  · refine ⟨0, List.replicate m 0, [], undef, undef, undef, undef, undef, undef, undef, undef, undef, undef, undef, undef, undef, undef, undef, undef, undef, undef, undef, ?_, Nat.zero_le _, ⟨by simp, fun i hi => absurd hi (by omega), fun i _ hi => by simp [hi]⟩, List.nodup_nil, fun D hD => by simp at hD, hW1, hW2, hW3, hW4⟩
    rfl
  · rintro a' w' ⟨k, ws, ds, u4, u5, u13, u14, u15, u16, u17, u18, u19, u20, u21, u22, u23, u24, u25, u26, u27, u28, u29, rfl, hk, HWS, HND, HD, HK, HB, HR, HL⟩
    clear hW1 hW2 hW3 hW4
    have hb0 : w'.cell? ⟨B, 0, none⟩ = some (.slice ad m cap) := cell_of HB.out 0
    have hb1 : w'.cell? ⟨B, 1, none⟩ = some (.map (some mb)) := cell_of HB.out 1
    by_cases hlt : k < m
    · have hk0 : (0 : Int) ≤ k := by omega
      have hk1 : (k : Int) < m := by omega
      have hFx : Fr (fun _ => False) w' (w'.alloc (.cells #[vI k] 3)) := Fr.alloc (Fr.refl _ w') _
      have hBl := heap_lt HB.out
      have g0 : (w'.alloc (.cells #[vI k] 3)).cell? ⟨B, 0, none⟩ = some (.slice ad m cap) := (hFx.cell hBl (fun e => e)).trans hb0
      have g1 : (w'.alloc (.cells #[vI k] 3)).cell? ⟨B, 1, none⟩ = some (.map (some mb)) := (hFx.cell hBl (fun e => e)).trans hb1
      have HX : Hd ((w'.alloc (.cells #[vI k] 3)).heap[w'.heap.size]? = some (.cells #[vI k] 3)) := heap_alloc_last w' _
      gi_wp2_with fail
      refine ⟨trivial, (fun h => by cases h), ?_⟩
      refine (callsIn_wide.2 (ahead_any ad m cap mb k (w'.alloc (.cells #[vI k] 3)))).mono ?_
      rintro e w6 ⟨rfl, hw6⟩
      have hs0 : (w'.alloc (.cells #[vI k] 3)).heap.size = w'.heap.size + 1 := by simp
      rw [hs0]
      have hF6 : Fr (fun _ => False) (w'.alloc (.cells #[vI k] 3)) w6 := by rw [hw6]; exact ((Fr.refl _ _).alloc _).alloc _
      have hBp : w6.heap[w'.heap.size + 1]? = some (.cells #[.slice ad m cap, .map (some mb)] 59) := by
        rw [hw6, Below.heap_alloc _ _ _ (by simp), ← hs0]; exact heap_alloc_last _ _
      have hBi : w6.heap[w'.heap.size + 1 + 1]? = some (.cells #[vI k] 3) := by
        have := heap_alloc_last ((w'.alloc (.cells #[vI k] 3)).alloc (.cells #[.slice ad m cap, .map (some mb)] 59)) (.cells #[vI k] 3)
        rw [show ((w'.alloc (.cells #[vI k] 3)).alloc (.cells #[.slice ad m cap, .map (some mb)] 59)).heap.size = w'.heap.size + 1 + 1 by simp] at this
        rw [hw6]; exact this
      have HFw : Hd (Fr (fun _ => False) w' w6) := hFx.trans hF6
      have HX6 : Hd (w6.heap[w'.heap.size]? = some (.cells #[vI k] 3)) := (hF6.block _ (heap_lt HX.out) (fun e => e)).trans HX.out
      have hn6 : B ≤ w6.heap.size := by have := HFw.out.size; omega
      have HK6 : Hd (KpA B w w6) := HK.out.trans (KpA.ofFr HFw.out (by omega))
      have hkc : k < cs.length := by rw [← EM.out]; exact hlt
      have hseq := ahead_gives (n - 1) B (w'.heap.size + 1) (w'.heap.size + 1 + 1) mb k (.slice ad m cap) cs hkc (by rw [← EM.out]; exact hl) w6 hn6 hBp hBi (fun W' x => HCA.out W' (HK6.out.trans x))
      rw [← EM.out] at hseq
      clear g0 g1 hb0 hb1 hFx hF6 HX hw6 hBp hBi hs0 hkc hBl
      gi_wp2_with fail
      have hI0 : WI B B w'.heap.size #[.slice ad m cap, .map (some mb)] #[.slice (some ⟨B + 1, 0, none⟩) m m] ws k ds w6 [] w6 := by
        have nc : ∀ (k : Nat) (o : Obj), w'.heap[k]? = some o → w6.heap[k]? = some o := fun k o hk => (HFw.out.block k (heap_lt hk) (fun e => e)).trans hk
        have hk0' : ws[k]? = some 0 := HWS.out.2.2 k (Nat.le_refl _) hlt
        have e : ws.set k (setOf []) = ws := by
          apply List.ext_getElem?
          intro j
          rw [List.getElem?_set]
          by_cases ej : k = j
          · subst ej
            rw [if_pos rfl, if_pos (by rw [HWS.out.1]; exact hlt), hk0']; rfl
          · rw [if_neg ej]
        exact ⟨KpA.refl _ _, fun D hD => ⟨(HD.out D hD).1, heap_lt (nc _ _ (HD.out D hD).2), nc _ _ (HD.out D hD).2⟩, nc _ _ HB.out, by rw [e]; exact nc _ _ HR.out, nc _ _ HL.out, HX6.out⟩
      refine wpIn_rangeC rfl (by omega) (gf := 67) (fst := #[]) (lb := #[.pointer (some ⟨w'.heap.size + 1, 0, none⟩), .pointer (some ⟨w'.heap.size + 1 + 1, 0, none⟩)]) rfl trivial (enters_of Tryz.func67 (by kernel_rfl) rfl) hseq (fun _ _ _ _ h1 h2 => h1.trans h2) (fun l' W' r o' hl' h => KpA.putObj o' h (by omega)) (Below.refl _ _) (fun _ => rfl)
        (WI B B w'.heap.size #[.slice ad m cap, .map (some mb)] #[.slice (some ⟨B + 1, 0, none⟩) m m] ws k ds w6) (WI.own hn6) hI0
        (fun z a' W' => a' = { tmps := #[.agg #[.slice ad m cap, .map (some mb)], .pointer (some ⟨B, 0, none⟩), .slice none 0 0, .pointer (some ⟨B + 1 + 1, 0, none⟩), .pointer (some ⟨w'.heap.size, 0, none⟩), vI z, .pointer (some ⟨B, 0, none⟩), .slice ad m cap, .int .i64 (m : Int), .slice (some ⟨B + 1, 0, none⟩) m m, .slice (some ⟨B + 1, 0, none⟩) m m, .int .i64 (m : Int), .int .i64 (k : Int), .bool true, .int .i64 (k : Int), .agg #[.slice ad m cap, .map (some mb)], .int .i64 (k : Int), .func (.func 67) #[] #[.pointer (some ⟨w'.heap.size + 1, 0, none⟩), .pointer (some ⟨w'.heap.size + 1 + 1, 0, none⟩)], vI z, u19, u20, u21, u22, u23, u24, u25, u26, u27, u28, u29], defers := [] })
        (fun z a' _ A A' row h hg hr => h) ?assign ?body ?done
      case assign =>
        intro l' pre z W' K hl' hi hK
        gi_wp2
        exact hK _ _ ⟨Nat.le_refl _, fun j o hj hj2 ho => hj2⟩ (KpA.refl _ _) hi rfl
      case body =>
        rintro l' pre z a' W' hl' hi rfl hlen
        have hwk : k < ws.length := by rw [HWS.out.1]; exact hlt
        obtain ⟨s, es⟩ : ∃ s, s = setOf pre := ⟨_, rfl⟩
        have hsl : s < 18446744073709551616 := by rw [es]; exact setOf_lt pre
        have hr0 : W'.cell? ⟨B + 1, k, none⟩ = some (vS s) := by
          rw [cell_of hi.r, es]
          simp [hwk]
        have hfz : W'.frozen? ⟨B + 1, k, none⟩ = false := frozen_of hi.r k
        have hl0 : W'.cell? ⟨B + 1 + 1, 0, none⟩ = some (.slice (some ⟨B + 1, 0, none⟩) m m) := cell_of hi.l 0
        have hy0 : W'.cell? ⟨w'.heap.size, 0, none⟩ = some (vI k) := cell_of hi.y 0
        have HCw : Hd (∀ wq, Fr (fun _ => False) W' wq → wq.cell? ⟨B + 1 + 1, 0, none⟩ = some (.slice (some ⟨B + 1, 0, none⟩) m m) ∧ wq.cell? ⟨w'.heap.size, 0, none⟩ = some (vI k) ∧ wq.cell? ⟨B + 1, k, none⟩ = some (vS s)) := fun wq f => ⟨(f.cell (cell_lt hl0) (fun e => e)).trans hl0, (f.cell (cell_lt hy0) (fun e => e)).trans hy0, (f.cell (cell_lt hr0) (fun e => e)).trans hr0⟩
        have HS : Hd (s = setOf pre) := es
        clear hr0 hl0 hy0 es
        gi_wp2_with fail
        refine round_region_tail (y := 9) (C := fun w' => Fr (fun _ => False) W' w') (by kernel_rfl) (by kernel_rfl) (by kernel_rfl) (by kernel_rfl) (by decide) (by kernel_rfl) (by kernel_rfl) ⟨rfl, rfl, rfl, Nat.le_refl _, fun _ _ _ => rfl⟩ ?_
        simp only [List.take_succ_cons, List.take_zero]
        repeat (first
         | (refine BigFrame.wpQuietIn_want (fun _ _ _ _ => trivial) rfl ?_
            intro K hK
            apply Exists.intro
            refine ⟨fun wq hw' => ?_, ?_⟩
            · obtain ⟨l0, y0, r0⟩ := HCw.out wq hw'
              unfold Oper.quietAtIn
              go_simp
              first | exact ⟨rfl, rfl⟩ | rfl | exact ⟨trivial, rfl⟩
            refine hK _ ?_
            clear hK K
            go_simp)
         | (refine BigFrame.wpQuietIn_skip (fun _ _ _ _ => trivial) rfl ?_
            go_simp))
        refine BigFrame.wpQuietIn_want (fun _ _ _ _ => trivial) rfl ?_
        intro K hK
        apply Exists.intro
        refine ⟨fun wq hw' => ?_, ?_⟩
        · obtain ⟨l0, y0, r0⟩ := HCw.out wq hw'
          unfold Oper.quietAtIn
          go_simp
          exact ⟨(fun h => by cases h), (callsIn_round (withS_any s z wq hsl)).mono (fun e w2 ⟨he, hF⟩ => ⟨he, by rw [hF]; exact hw'⟩)⟩
        refine hK _ ?_
        clear hK K
        go_simp
        repeat (first
         | (refine BigFrame.wpQuietIn_want (fun _ _ _ _ => trivial) rfl ?_
            intro K hK
            apply Exists.intro
            refine ⟨fun wq hw' => ?_, ?_⟩
            · obtain ⟨l0, y0, r0⟩ := HCw.out wq hw'
              unfold Oper.quietAtIn
              go_simp
              first | exact ⟨rfl, rfl⟩ | rfl | exact ⟨trivial, rfl⟩
            refine hK _ ?_
            clear hK K
            go_simp)
         | (refine BigFrame.wpQuietIn_skip (fun _ _ _ _ => trivial) rfl ?_
            go_simp))
        refine wpQuietIn_nil ?_
        intro w5 hF5
        obtain ⟨l0, y0, r0⟩ := HCw.out w5 hF5
        have hfz5 : w5.frozen? ⟨B + 1, k, none⟩ = false := (hF5.frozen (heap_lt hi.r) (fun e => e)).trans hfz
        have HW5 : Hd (WI B B w'.heap.size #[.slice ad m cap, .map (some mb)] #[.slice (some ⟨B + 1, 0, none⟩) m m] ws k ds w6 pre w5) := hi.fr hn6 hF5
        have hsz : B ≤ W'.heap.size := Nat.le_trans hn6 hi.kp.below.size
        have HK5 : Hd (KpA B W' w5) := KpA.ofFr hF5 hsz
        have hf6 : Fr (fun j => j = B + 1) w5 (w5.setCell ⟨B + 1, k, none⟩ (vS (withS s z))) := Fr.setCell (Fr.refl _ _) _ _ (Or.inl rfl)
        have hb6 : (w5.setCell ⟨B + 1, k, none⟩ (vS (withS s z))).heap[B + 1]? = some (.cells (((ws.set k (setOf (pre ++ [z]))).map vS).toArray) 92) := by
          rw [set_of HW5.out.r k (vS (withS s z)), setOf_snoc, ← HS.out]
          simp [List.set_set, List.map_set]
        clear HCw hfz l0 y0
        refine wpAnyIn_only (k := 9) (by kernel_rfl) rfl rfl ?_
        unfold Oper.wpIn
        refine ⟨fun _ _ => trivial, ?_⟩
        go_simp
        refine wpAnyIn_end (by kernel_rfl) ?_
        have hB2 : B + 2 < w'.heap.size := heap_lt HL.out
        have hk6 : KpA B w5 (w5.setCell ⟨B + 1, k, none⟩ (vS (withS s z))) := ⟨⟨hf6.os, hf6.tape, hf6.output, hf6.size, fun j hj => hf6.block j (by have := HK5.out.below.size; omega) (by omega)⟩, fun j cs t hj ht => by
          by_cases ej : j = B + 1
          · subst ej
            rw [HW5.out.r] at hj
            injection hj with hj
            injection hj with _ e2
            exact absurd e2.symm ht
          · exact (hf6.block j (heap_lt hj) ej).trans hj⟩
        have hn : ∀ (j : Nat) (o : Obj), j ≠ B + 1 → w5.heap[j]? = some o → (w5.setCell ⟨B + 1, k, none⟩ (vS (withS s z))).heap[j]? = some o := fun j o hj h => (hf6.block j (heap_lt h) hj).trans h
        refine ⟨⟨Nat.le_trans hF5.size hf6.size, fun j o hj hj2 ho => ?_⟩, HK5.out.trans hk6, ⟨HW5.out.kp.trans hk6, fun D hD => ⟨(HW5.out.d D hD).1, (HW5.out.d D hD).2.1, hn D _ (by have := (HW5.out.d D hD).1; omega) (HW5.out.d D hD).2.2⟩, hn _ _ (by omega) HW5.out.b, hb6, hn _ _ (by omega) HW5.out.l, hn _ _ (by omega) HW5.out.y⟩⟩
        have h5 := (hF5.block j (heap_lt hj2) (fun e => e)).trans hj2
        by_cases ej : j = B + 1
        · subst ej
          rw [HW5.out.r] at h5
          injection h5 with h5
          subst h5
          cases ho
        · exact hn j _ ej h5
      case done =>
        rintro D xs W' hDl rfl hi hD
        have hi2 := hi
        have HDn : Hd ((D :: ds).Nodup) := List.nodup_cons.2 ⟨fun h => by have := (hi.d D h).2.1; omega, HND.out⟩
        have HDs : Hd (∀ D' ∈ D :: ds, B + 3 ≤ D' ∧ W'.heap[D']? = some (.deferred (some []))) := fun D' h => by
          rcases List.mem_cons.1 h with e | h
          · subst e; exact ⟨by have := heap_lt HL.out; have := HFw.out.size; omega, hD⟩
          · exact ⟨(hi.d D' h).1, (hi.d D' h).2.2⟩
        have HKW : Hd (KpA B w W') := HK6.out.trans hi.kp
        have HI : Hd (WI B B w'.heap.size #[.slice ad m cap, .map (some mb)] #[.slice (some ⟨B + 1, 0, none⟩) m m] ws k ds w6 (aheadTo cs k m) W') := hi
        have HWS2 : Hd ((ws.set k (setOf (aheadTo cs k m))).length = m ∧ (∀ i, i < k + 1 → (ws.set k (setOf (aheadTo cs k m)))[i]? = some (setOf (aheadTo cs i m))) ∧ ∀ i, k + 1 ≤ i → i < m → (ws.set k (setOf (aheadTo cs k m)))[i]? = some 0) := by
          refine ⟨by rw [List.length_set]; exact HWS.out.1, fun i h1 => ?_, fun i h1 h2 => ?_⟩
          · rw [List.getElem?_set]
            by_cases e : k = i
            · subst e; rw [if_pos rfl, if_pos (by rw [HWS.out.1]; exact hlt)]
            · rw [if_neg e]; exact HWS.out.2.1 i (by omega)
          · rw [List.getElem?_set, if_neg (by omega)]
            exact HWS.out.2.2 i (by omega) h2
        clear hi hi2 hD
        gi_wp2
        refine ⟨⟨k + 1, ws.set k (setOf (aheadTo cs k m)), D :: ds, ?_⟩, ?_⟩
        · (repeat apply Exists.intro)
          refine ⟨?e, by omega, HWS2.out, HDn.out, HDs.out, HKW.out, HI.out.b, HI.out.r, HI.out.l⟩
          rfl
        · simp [RowKit.intOf]; omega
    · have hkm : k = m := by omega
      subst hkm
      have hl0 : w'.cell? ⟨B + 1 + 1, 0, none⟩ = some (.slice (some ⟨B + 1, 0, none⟩) k k) := cell_of HL.out 0
      have hws : ws = waitsX cs := by
        apply List.ext_getElem?
        intro j
        unfold waitsX
        rw [← EM.out, List.getElem?_map]
        by_cases hj : j < k
        · rw [HWS.out.2.1 j hj, List.getElem?_range hj]; rfl
        · rw [List.getElem?_eq_none (by rw [HWS.out.1]; omega), List.getElem?_eq_none (by simp; omega)]; rfl
      gi_wp2
      refine leaves_marks1 (J := fun (_ : Unit) W => W.heap[B + 1]? = some (.cells ((ws.map vS).toArray) 92) ∧ Below B w W) (B := B + 3) (s := ()) (p := 2) ?_ rfl ?_ ds w' HND.out (fun D hD => HD.out D hD) ⟨HR.out, HK.out.below⟩
      · intro _ A A' row h hg hr
        refine ⟨(hg.block _ (heap_lt h.1) (fun e => by have := (hr _ e.symm).1; omega)).trans h.1, h.2.trans ((Below.refl B A).grown hg (by have := EB.out; have := h.2.size; omega) (fun k e => by have := (hr k e).1; omega))⟩
      · rintro W ⟨h1, h2⟩
        refine ⟨_, rfl, ⟨some ⟨B + 1, 0, none⟩, k, by simp [← hws, HWS.out.1], fun _ => ⟨B + 1, 0, rfl, fun i hi => ?_⟩⟩, below_fr (by rw [← EB.out]; exact h2)⟩
        rw [cell_of h1, hws, Nat.zero_add]
        simp at hi
        simp [hi]
end Go.Proofs.YtihicdbplmdjiaaGreat
namespace Go.Proofs.YtihicdbplmdjiaaGreat
open Go.RowKit (wrap32 wrap64)

theorem waits_any (lv : Value) (mb : Nat) (cs : List Cl) (w : World) (h : CAt w lv cs) (hl : cs.length ≤ 64) :
    Calls Tryz.prog 34 #[pV lv mb] w fun e w' => ∃ v, e = .returned v ∧ RowAt w' v ((waitsX cs).map vS) ∧ Fr (fun _ => False) w w' :=
  callsIn_wide.1 (waits_in 6 (by omega) lv mb cs w h hl)
theorem waitsX_lt (cs : List Cl) : ∀ x ∈ waitsX cs, x < 18446744073709551616 := fun x hx => by
  obtain ⟨i, -, rfl⟩ := List.mem_map.1 hx
  exact setOf_lt _
theorem waitsX_len (cs : List Cl) : (waitsX cs).length = cs.length := by simp [waitsX]

/-! ### the order: again and again the least call that waits for none that is left -/
inductive Ord (ws : List Nat) : Nat → List Nat → Option (List Nat) → Prop
  | done (acc : List Nat) : Ord ws 0 acc (some acc)
  | stuck (left : Nat) (acc : List Nat) : left ≠ 0 → leastX left ws = none → Ord ws left acc none
  | step (left i : Nat) (acc : List Nat) (r : Option (List Nat)) : left ≠ 0 → leastX left ws = some i → Ord ws (dropS left i) (acc ++ [i]) r → Ord ws left acc r
theorem leastX_bit {s i : Nat} {ws : List Nat} (h : leastX s ws = some i) : s.testBit i = true ∧ i < ws.length := by
  unfold leastX at h
  have h1 := List.find?_some h
  have h2 := List.mem_of_find?_eq_some h
  unfold freeB at h1
  simp only [Bool.and_eq_true] at h1
  exact ⟨h1.1, List.mem_range.1 h2⟩
theorem dropS_less {s i : Nat} (hs : s < 18446744073709551616) (hi : i < 64) (hb : s.testBit i = true) : dropS s i < s := by
  rcases Nat.lt_or_ge (dropS s i) s with h | h
  · exact h
  · have e : dropS s i = s := Nat.le_antisymm Nat.and_le_left h
    have := dropS_bit (s := s) (i := i) i hs hi
    rw [e, hb] at this
    simp at this
theorem und25 : Tryz.prog.underlying 23 = some (.slice 3) := by kernel_rfl
theorem info3 : (Tryz.prog.info? 3).map (fun i => (i.zero, i.size, i.bytes)) = some (some (vI 0), 1, 8) := by kernel_rfl
theorem make25 (m : Nat) (hm : m ≤ 64) (W : World) : ∃ w', (Instr.makeSlice 23 (vI 0) (vI m)).run Tryz.prog W = .ok (.slice (some ⟨W.heap.size, 0, none⟩) 0 m) w' ∧ w' = W.alloc (.cells (madeCells #[vI 0] m) 3) := by
  obtain ⟨i, hi, hz, hs, hb⟩ := Go.Proofs.YtihicdbplmdjiaaGreat.info_parts info3
  have := Go.run_make (P := Tryz.prog) W 23 3 i (vI 0) und25 hi hz .i64 .i64 0 m (by omega) (by omega) (by rw [hb]; omega) (by omega)
  refine ⟨_, this, ?_⟩
  rw [hs, show (m : Int).toNat * 1 = m by omega]
  rfl
/-- How many of the first n are in a set. -/
def pc (s : Nat) : Nat → Nat
  | 0 => 0
  | n + 1 => pc s n + if s.testBit n then 1 else 0
theorem pc_drop {s i : Nat} (hs : s < 18446744073709551616) (hi : i < 64) (hb : s.testBit i = true) : ∀ n, pc (dropS s i) n + (if i < n then 1 else 0) = pc s n
  | 0 => by simp [pc]
  | n + 1 => by
    have ih := pc_drop hs hi hb n
    show pc (dropS s i) n + (if (dropS s i).testBit n = true then 1 else 0) + (if i < n + 1 then 1 else 0) = pc s n + (if s.testBit n = true then 1 else 0)
    rw [dropS_bit n hs hi]
    by_cases e : n = i
    · subst e
      rw [if_neg (show ¬ n < n by omega)] at ih
      rw [if_neg (by simp), if_pos (by omega), if_pos hb]
      omega
    · have e2 : (s.testBit n && !decide (n = i)) = s.testBit n := by simp [e]
      rw [e2]
      by_cases h : i < n
      · rw [if_pos h] at ih
        rw [if_pos (show i < n + 1 by omega)]
        omega
      · rw [if_neg h] at ih
        rw [if_neg (show ¬ i < n + 1 by omega)]
        omega
theorem pc_firsts (n : Nat) : ∀ k, k ≤ n → pc (2 ^ n - 1) k = k
  | 0, _ => rfl
  | k + 1, h => by
    show pc (2 ^ n - 1) k + (if (2 ^ n - 1).testBit k = true then 1 else 0) = k + 1
    rw [pc_firsts n k (by omega), firsts_bit, if_pos (decide_eq_true (by omega))]
/-- What order tells. -/
def OrdE (f : Mk) (cs : List Cl) (w w' : World) (lv : Value) (ok : Bool) : Prop :=
  ((possibleB f cs = false ∨ Ord (waitsX cs) (2 ^ cs.length - 1) [] none) ∧ lv = .slice none 0 0 ∧ ok = false) ∨
  ∃ acc, possibleB f cs = true ∧ Ord (waitsX cs) (2 ^ cs.length - 1) [] (some acc) ∧ ok = true ∧ w'.ownsRow w.heap.size 3 1 lv acc.length (acc.map (fun i => vI ((cs[i]?.map Cl.b).getD 0 : Nat)))
def OrdR (f : Mk) (cs : List Cl) (w : World) (e : Ending) (w' : World) : Prop := ∃ lv ok, e = .returned (.tuple #[lv, .bool ok]) ∧ Fr (fun _ => False) w w' ∧ OrdE f cs w w' lv ok

set_option maxRecDepth 100000 in
set_option maxHeartbeats 4000000 in
theorem order_any (lv : Value) (mb N : Nat) (cs : List Cl) (f : Mk) (w : World) (h : PAt w lv mb N cs f) (hl : cs.length ≤ 64) :
    Calls Tryz.prog 17 #[pV lv mb] w fun e w' => OrdR f cs w e w' := by
  have HP : Hd (∀ W, Fr (fun _ => False) w W → Calls Tryz.prog 33 #[pV lv mb] W fun e w' => e = .returned (.bool (possibleB f cs)) ∧ Fr (fun _ => False) W w') := fun W x => possible_any lv mb N cs f W (h.fr x) hl
  have HWt : Hd (∀ W, Fr (fun _ => False) w W → Calls Tryz.prog 34 #[pV lv mb] W fun e w' => ∃ v, e = .returned v ∧ RowAt w' v ((waitsX cs).map vS) ∧ Fr (fun _ => False) W w') := fun W x => waits_any lv mb cs W (h.cat.fr x) hl
  have HL : Hd (∀ (k : Nat) (hk : k < cs.length), ∃ g cap, lv = .slice (some ⟨g, 0, none⟩) cs.length cap ∧ cs[k].R.At w ∧ COk cs[k] ∧ ∀ W, Fr (fun _ => False) w W → ∀ j, j < 9 → W.cell? ⟨g, k * 9 + j, none⟩ = (c9 cs[k])[j]?) := fun k hk => h.cat.look k hk
  obtain ⟨ad, cap, rfl, -⟩ := h.cat
  unfold pV at *
  obtain ⟨n, en⟩ : ∃ n, n = cs.length := ⟨_, rfl⟩
  have EN : Hd (n = cs.length) := en
  rw [← en] at HP HWt hl ⊢
  obtain ⟨A, hA⟩ : ∃ A, A = possibleB f cs := ⟨_, rfl⟩
  have EA : Hd (A = possibleB f cs) := hA
  rw [← hA] at HP
  have HF : Hd (Fr (fun _ => False) w (w.alloc (.cells #[.slice ad n cap, .map (some mb)] 59))) := (Fr.refl _ w).alloc _
  have b1 := heap_alloc_last w (.cells #[.slice ad n cap, .map (some mb)] 59)
  obtain ⟨W, eW⟩ : ∃ W, W = (w.alloc (.cells #[.slice ad n cap, .map (some mb)] 59)) := ⟨_, rfl⟩
  rw [← eW] at HF b1
  clear h hA en
  go_enter Tryz.func17, Tryz.ntmps17
  go_upto_region 1 with fail
  rw [← eW]
  clear eW
  obtain ⟨bb, ebb⟩ : ∃ bb, bb = w.heap.size := ⟨_, rfl⟩
  rw [← ebb] at b1 ⊢
  have EBB : Hd (bb = w.heap.size ∧ bb < W.heap.size) := ⟨ebb, heap_lt b1⟩
  have HBX : Hd (∀ W2, Fr (fun _ => False) W W2 → W2.cell? ⟨bb, 0, none⟩ = some (.slice ad n cap) ∧ W2.cell? ⟨bb, 1, none⟩ = some (.map (some mb))) := fun W2 f => by
    have e1 := (f.block _ (heap_lt b1) (fun e => e)).trans b1
    exact ⟨cell_of e1 0, cell_of e1 1⟩
  obtain ⟨p0, p1⟩ := HBX.out W (Fr.refl _ W)
  clear ebb b1
  cases A
  · go_wp2_with (go_at_call 33; refine (HP.out _ HF.out).mono ?_; rintro _ w3 ⟨rfl, hf3⟩; have HF3 : Hd _ := hf3; clear hf3)
    go_ret2
    exact ⟨_, _, rfl, HF.out.trans HF3.out, Or.inl ⟨Or.inl EA.out.symm, rfl, rfl⟩⟩
  · go_upto_region 3 with (go_at_call 33; refine (HP.out _ HF.out).mono ?_; rintro _ w3 ⟨rfl, hf3⟩; have HF3 : Hd (Fr _ _ _) := hf3; clear hf3)
    clear p0 p1
    obtain ⟨p0, p1⟩ := HBX.out w3 HF3.out
    go_upto_region 4 with (go_at_call 34; refine (HWt.out _ (HF.out.trans HF3.out)).mono ?_; rintro _ w4 ⟨wv, rfl, hrow, hf4⟩; have HF4 : Hd (Fr _ _ _) := HF3.out.trans hf4; have HROW : Hd (RowAt w4 wv _) := hrow; clear hf4 hrow)
    clear p0 p1
    obtain ⟨p0, p1⟩ := HBX.out w4 HF4.out
    obtain ⟨w5, hmk, ew5⟩ := make25 n hl w4
    have HF5 : Hd (Fr (fun _ => False) w4 w5) := by rw [ew5]; exact (Fr.refl _ _).alloc _
    have HO5 : Hd (w5.ownsRow w4.heap.size 3 1 (.slice (some ⟨w4.heap.size, 0, none⟩) 0 n) 0 []) := by
      refine ⟨rfl, Or.inr ⟨w4.heap.size, n, madeCells #[vI 0] n, rfl, Nat.le_refl _, by rw [ew5]; exact heap_alloc_last _ _, Nat.zero_le _, by unfold maxLen; omega, by simp [Go.size_madeCells], by simp⟩⟩
    obtain ⟨ov, eov⟩ : ∃ ov, ov = Value.slice (some ⟨w4.heap.size, 0, none⟩) 0 n := ⟨_, rfl⟩
    rw [← eov] at hmk HO5
    clear ew5 eov
    go_upto_region 5 with fail
    clear hmk p0 p1
    obtain ⟨p0, p1⟩ := HBX.out w5 (HF4.out.trans HF5.out)
    have hfirst := firsts_any n w5 hl
    go_upto_region 6 with (go_at_call 35; refine hfirst.mono ?_; rintro _ w6 ⟨rfl, rfl⟩)
    clear hfirst p0 p1
    obtain ⟨M, eM⟩ : ∃ M, M = 2 ^ n - 1 := ⟨_, rfl⟩
    have HM : Hd (M = 2 ^ n - 1 ∧ M < 18446744073709551616) := ⟨eM, by rw [eM]; exact firsts_lt hl⟩
    have HM2 : Hd (pc M n = n ∧ ∀ j, M.testBit j = true → j < n) := ⟨by rw [eM]; exact pc_firsts n n (Nat.le_refl _), fun j hj => by rw [eM, firsts_bit] at hj; simpa using hj⟩
    rw [← eM]
    clear eM
    have HWL : Hd ((waitsX cs).length = n ∧ ∀ x ∈ waitsX cs, x < 18446744073709551616) := ⟨by rw [waitsX_len]; exact EN.out.symm, waitsX_lt cs⟩
    go_loopw [5, 6] (fun v5 v6 wr => ∃ (left : Nat) (acc : List Nat), v6 = vS left ∧ Hd (left < 18446744073709551616 ∧ (∀ j, left.testBit j = true → j < n) ∧ acc.length + pc left n = n ∧ wr.ownsRow w4.heap.size 3 1 v5 acc.length (acc.map (fun i => vI ((cs[i]?.map Cl.b).getD 0 : Nat))) ∧ Fr (fun _ => False) w4 wr ∧ ∀ r, Ord (waitsX cs) left acc r → Ord (waitsX cs) M [] r)) (fun _ v _ => match v with | .int _ q => q.toNat | _ => 0)
    case atStart => exact ⟨M, [], rfl, HM.out.2, HM2.out.2, by rw [List.length_nil, HM2.out.1, Nat.zero_add], HO5.out, HF5.out, fun r h => h⟩
    case round =>
      clear HO5 HF5
      obtain ⟨left, acc, rfl, HR⟩ := hrel
      obtain ⟨p0, p1⟩ := HBX.out wr (HF4.out.trans HR.out.2.2.2.2.1)
      by_cases h0 : left = 0
      · subst h0
        go_wp2_with fail
        go_ret2
        refine ⟨_, _, rfl, (HF.out.trans HF4.out).trans HR.out.2.2.2.2.1, Or.inr ⟨acc, EA.out.symm, ?_, rfl, ?_⟩⟩
        · rw [← EN.out, ← HM.out.1]
          exact HR.out.2.2.2.2.2 _ (Ord.done acc)
        · obtain ⟨q0, q1⟩ := HR.out.2.2.2.1
          have := (HF.out.trans HF4.out).size
          refine ⟨q0, ?_⟩
          rcases q1 with q1 | ⟨g', cap', cur, e1, k1, k2⟩
          · exact Or.inl q1
          · exact Or.inr ⟨g', cap', cur, e1, by omega, k2⟩
      · have h0i : ((left : Int) != 0) = true := by simpa using h0
        have h0j : ¬ (left : Int) = 0 := by omega
        have hlf : Calls Tryz.prog 36 #[vS left, wv] wr fun e w' => e = .returned (vI (leastI left (waitsX cs))) ∧ Fr (fun _ => False) wr w' :=
          leastFree_any left wv (waitsX cs) wr (HROW.out.fr HR.out.2.2.2.2.1 (fun _ _ _ e => e)) HR.out.1 HWL.out.2 (by rw [HWL.out.1]; exact hl)
        unfold leastI at hlf
        cases hlx : leastX left (waitsX cs) with
        | none =>
          rw [hlx] at hlf
          have HLX : Hd (leastX left (waitsX cs) = none) := hlx
          have HC : Hd (Calls Tryz.prog 36 #[vS left, wv] wr fun e w' => e = .returned (vI (-1)) ∧ Fr (fun _ => False) wr w') := hlf
          clear hlx hlf
          go_wp2_with (go_at_call 36; refine HC.out.mono ?_; rintro _ w7 ⟨rfl, hf7⟩; have HF7 : Hd _ := hf7; clear hf7)
          go_ret2
          refine ⟨_, _, rfl, ((HF.out.trans HF4.out).trans HR.out.2.2.2.2.1).trans HF7.out, Or.inl ⟨Or.inr ?_, rfl, rfl⟩⟩
          rw [← EN.out, ← HM.out.1]
          exact HR.out.2.2.2.2.2 _ (Ord.stuck left acc h0 HLX.out)
        | some i =>
          rw [hlx] at hlf
          have HLX : Hd (leastX left (waitsX cs) = some i) := hlx
          have HC : Hd (Calls Tryz.prog 36 #[vS left, wv] wr fun e w' => e = .returned (vI (i : Int)) ∧ Fr (fun _ => False) wr w') := hlf
          have hi : i < n := by have := (leastX_bit hlx).2; rw [HWL.out.1] at this; exact this
          have HI : Hd (left.testBit i = true ∧ i < n) := ⟨(leastX_bit hlx).1, hi⟩
          clear hlx hlf
          have hi0 : (0 : Int) ≤ i := by omega
          have hi1 : (i : Int) < n := by omega
          have hne : ¬ (i : Int) = -1 := by omega
          have hne2 : ((i : Int) == -1) = false := by simp
          have hic : i < cs.length := by rw [← EN.out]; exact hi
          obtain ⟨g, cap2, e, -, -, hcell⟩ := HL.out i hic
          obtain ⟨rfl, rfl⟩ : ad = some ⟨g, 0, none⟩ ∧ cap = cap2 := by injection e with a b c; exact ⟨a, c⟩
          clear e
          obtain ⟨bg, ebg⟩ : ∃ bg, bg = cs[i].b := ⟨_, rfl⟩
          have HBG : Hd ((cs[i]?.map Cl.b).getD 0 = bg) := by
            show (cs[i]?.map Cl.b).getD 0 = bg
            rw [List.getElem?_eq_getElem hic, ebg]
            try rfl
          have HCX : Hd (∀ W, Fr (fun _ => False) w W → W.cell? ⟨g, i * 9, none⟩ = some (vI bg)) := fun W f => by
            have := hcell W f 0 (by omega)
            unfold c9 at this
            rw [ebg]
            exact this
          clear hcell ebg hic
          go_upto_region 10 with (go_at_call 36; refine HC.out.mono ?_; rintro _ w7 ⟨rfl, hf7⟩; have HF7 : Hd (Fr _ _ _) := hf7; clear hf7)
          have hwo := without_any left i w7 HR.out.1 (by omega)
          go_upto_region 11 with (go_at_call 37; refine hwo.mono ?_; rintro _ w8 ⟨rfl, rfl⟩)
          clear hwo p0 p1 HC
          have HF8 : Hd (Fr (fun _ => False) w4 w8) := HR.out.2.2.2.2.1.trans HF7.out
          obtain ⟨p0, p1⟩ := HBX.out w8 (HF4.out.trans HF8.out)
          have x0 := HCX.out w8 ((HF.out.trans HF4.out).trans HF8.out)
          have HOW : Hd (w8.ownsRow w4.heap.size 3 1 u5 acc.length (acc.map (fun i => vI ((cs[i]?.map Cl.b).getD 0 : Nat)))) := ownsRow_fr HR.out.2.2.2.1 HF7.out (fun _ _ e => e)
          have hal : acc.length ≤ n := by have := HR.out.2.2.1; omega
          obtain ⟨g6, cap6, w9, hr9, hown9, hf9, -⟩ := app1 und25 info3 rfl (by omega) HOW.out #[vI bg] rfl (by intro u hu; simp at hu; subst hu; rfl) (by unfold maxLen; omega) (by omega) HF8.out.size
          have HA : Hd ((Builtin.append_ #[23, 23] 23 #[u5, .slice (some ⟨w8.heap.size, 0, none⟩) 1 1]).run Tryz.prog (w8.alloc (.cells #[vI bg] 3)) = .ok (.slice (some ⟨g6, 0, none⟩) (acc.length + 1) cap6) w9) := hr9
          have HE : Hd (w9.ownsRow w4.heap.size 3 1 (.slice (some ⟨g6, 0, none⟩) (acc.length + 1) cap6) (acc ++ [i]).length ((acc ++ [i]).map (fun i => vI ((cs[i]?.map Cl.b).getD 0 : Nat))) ∧ Fr (fun _ => False) w4 w9) := by
            refine ⟨?_, HF8.out.under hf9 (fun j hj => (World.ownsRow.lt HOW.out j hj).1)⟩
            rw [List.length_append, List.map_append, List.map_singleton, HBG.out]
            exact hown9
          have HD2 : Hd (dropS left i < left ∧ dropS left i < 18446744073709551616 ∧ pc (dropS left i) n + 1 = pc left n) := by
            refine ⟨dropS_less HR.out.1 (by omega) HI.out.1, dropS_lt i HR.out.1, ?_⟩
            have := pc_drop HR.out.1 (i := i) (by omega) HI.out.1 n
            rw [if_pos hi] at this
            exact this
          clear hr9 hown9 hf9 hal
          go_wp2_with (at_builtin; refine wpList_append_run rfl (.tmp 31) (.tmp 38) 23 rfl _ _ _ rfl rfl HA.out ?_)
          refine ⟨⟨dropS left i, acc ++ [i], rfl, HD2.out.2.1, fun j hj => ?_, ?_, HE.out.1, HE.out.2, fun r hr => ?_⟩, ?_⟩
          · rw [dropS_bit j HR.out.1 (by omega)] at hj
            simp only [Bool.and_eq_true] at hj
            exact HR.out.2.1 j hj.1
          · have := HR.out.2.2.1
            have := HD2.out.2.2
            rw [List.length_append]
            simp
            omega
          · exact HR.out.2.2.2.2.2 r (Ord.step left i acc r h0 HLX.out hr)
          · have := HD2.out.1
            simp
            omega

theorem made_mem (q : Int) (c : Cl) : ∀ (cs : List Cl) (f : Mk), cs.foldl (fun f c => if makesB c then (fun q => if q = c.ky then some c else f q) else f) f q = some c → c ∈ cs ∨ f q = some c
  | [], f, h => Or.inr h
  | a :: cs, f, h => by
    rw [List.foldl_cons] at h
    rcases made_mem q c cs _ h with h1 | h1
    · exact Or.inl (List.mem_cons_of_mem _ h1)
    · by_cases hm : makesB a = true
      · rw [if_pos hm] at h1
        by_cases hq : q = a.ky
        · simp only [hq, if_true, Option.some.injEq] at h1
          exact Or.inl (by rw [h1]; exact List.mem_cons_self)
        · simp only [if_neg hq] at h1
          exact Or.inr h1
      · rw [if_neg hm] at h1
        exact Or.inr h1
theorem madeX_mem {cs : List Cl} {q : Int} {c : Cl} (h : madeX cs q = some c) : c ∈ cs := by
  rcases made_mem q c cs _ h with h | h
  · exact h
  · cases h
/-- What Order tells. -/
def OrderE (h : List Mo) (w w' : World) (lv : Value) (ok : Bool) (er : Int) : Prop :=
  (callsX h = none ∧ lv = .slice none 0 0 ∧ ok = false ∧ er = 230) ∨ ∃ cs, callsX h = some cs ∧ er = 0 ∧ OrdE (madeX cs) cs w w' lv ok
def OrderR (h : List Mo) (w : World) (e : Ending) (w' : World) : Prop := ∃ lv ok er, e = .returned (.tuple #[lv, .bool ok, vI er]) ∧ Fr (fun _ => False) w w' ∧ OrderE h w w' lv ok er

set_option maxHeartbeats 2000000 in
theorem order8_any (hv : Value) (h : List Mo) (w : World) (hh : HAt2 w hv h) : Calls Tryz.prog 7 #[hv] w fun e w' => OrderR h w e w' := by
  have hc := callsOf_any hv h w hh.1
  have HM : Hd (∀ m ∈ h, MOk m) := hh.2
  clear hh
  go_enter Tryz.func7, Tryz.ntmps7
  go_upto_region 2 with (go_at_call 15; refine hc.mono ?_; rintro _ w3 ⟨lv, ok, rfl, hf3, hE⟩; have HF3 : Hd (Fr _ _ _) := hf3; have HE : Hd (CsE _ _ _ _ _) := hE; clear hf3 hE)
  cases ok
  · go_wp2_with fail
    go_ret3
    refine ⟨_, _, _, rfl, HF3.out, Or.inl ⟨?_, rfl, rfl, rfl⟩⟩
    rcases HE.out with ⟨e, -⟩ | ⟨cs, -, e, -⟩
    · exact e
    · cases e
  · obtain ⟨cs, ecs, hown, hat⟩ : ∃ cs, callsX h = some cs ∧ COwn w3 w.heap.size lv cs ∧ ∀ c ∈ cs, c.R.At w := by
      rcases HE.out with ⟨-, e⟩ | ⟨cs, e, -, h1, h2⟩
      · cases e
      · exact ⟨cs, e, h1, h2⟩
    obtain ⟨hfine, hlen⟩ := calls_fine HM.out ecs
    have hcat : CAt w3 lv cs := hown.cat (fun c hc => ⟨(hat c hc).fr HF3.out, hfine c hc⟩)
    have hp := pastOf_any lv cs w3 hcat hlen
    have HCS : Hd (callsX h = some cs) := ecs
    have HO : Hd (∀ w4 mb N, Fr (fun _ => False) w3 w4 → MdM w4 mb N (madeX cs) → Calls Tryz.prog 17 #[.agg #[lv, .map (some mb)]] w4 fun e w' => OrdR (madeX cs) cs w4 e w') := fun w4 mb N f hm =>
      order_any lv mb N cs (madeX cs) w4 ⟨hcat.fr f, hm, fun q c hq => ((hat c (madeX_mem hq)).fr HF3.out).fr f⟩ hlen
    clear hcat hat hfine hown ecs hc hlen
    go_wp2_with ((first
      | (go_at_call 16; refine hp.mono ?_; rintro _ w4 ⟨mb, N, rfl, hf4, hm⟩; have HF4 : Hd (Fr _ _ _) := hf4; have HM4 : Hd (MdM _ _ _ _) := hm; clear hf4 hm)
      | (go_at_call 17; refine (HO.out _ _ _ HF4.out HM4.out).mono ?_; rintro _ w5 ⟨lv5, ok5, rfl, hf5, hE5⟩; have HF5 : Hd (Fr _ _ _) := hf5; have HE5 : Hd (OrdE _ _ _ _ _ _) := hE5; clear hf5 hE5)))
    go_ret3
    refine ⟨_, _, _, rfl, (HF3.out.trans HF4.out).trans HF5.out, Or.inr ⟨cs, HCS.out, rfl, ?_⟩⟩
    rcases HE5.out with h1 | ⟨acc, h1, h2, h3, q0, q1⟩
    · exact Or.inl h1
    · refine Or.inr ⟨acc, h1, h2, h3, q0, ?_⟩
      have := (HF3.out.trans HF4.out).size
      rcases q1 with q1 | ⟨g', cap', cur, e1, k1, k2⟩
      · exact Or.inl q1
      · exact Or.inr ⟨g', cap', cur, e1, by omega, k2⟩
end Go.Proofs.YtihicdbplmdjiaaGreat
namespace Go.Proofs.YtihicdbplmdjiaaGreat

/-! ### the plain law of orders: what must stand ahead stands ahead -/
theorem withS_bit {s i : Nat} (hi : i < 64) (j : Nat) : (withS s i).testBit j = (s.testBit j || decide (j = i)) := by rw [withS_eq s hi, with_bit]
theorem fold_bit (j : Nat) : ∀ (xs : List Nat) (s : Nat), (∀ x ∈ xs, x < 64) → (xs.foldl withS s).testBit j = (s.testBit j || decide (j ∈ xs))
  | [], s, _ => by simp
  | x :: xs, s, h => by
    rw [List.foldl_cons, fold_bit j xs _ (fun y hy => h y (by simp [hy])), withS_bit (h x (by simp))]
    by_cases e : j = x
    · subst e; simp
    · simp [e]
theorem setOf_bit (xs : List Nat) (h : ∀ x ∈ xs, x < 64) (j : Nat) : (setOf xs).testBit j = decide (j ∈ xs) := by unfold setOf; rw [fold_bit j xs 0 h, Nat.zero_testBit, Bool.false_or]
theorem aheadTo_mem {cs : List Cl} {i j : Nat} (hi : i < cs.length) (hj : j < cs.length) : j ∈ aheadTo cs i cs.length ↔ j ≠ i ∧ precB cs[j] cs[i] = true := by
  unfold aheadTo
  rw [List.mem_filter, List.mem_range, List.getElem?_eq_getElem hj, List.getElem?_eq_getElem hi]
  simp [hj]
theorem aheadTo_lt {cs : List Cl} {i j : Nat} (h : j ∈ aheadTo cs i cs.length) : j < cs.length := by
  unfold aheadTo at h
  exact List.mem_range.1 (List.mem_filter.1 h).1
theorem waits_bit {cs : List Cl} (hl : cs.length ≤ 64) {i j : Nat} (hi : i < cs.length) (hj : j < cs.length) : ((waitsX cs).getD i 0).testBit j = (decide (j ≠ i) && precB cs[j] cs[i]) := by
  unfold waitsX
  rw [List.getD_eq_getElem?_getD, List.getElem?_map, List.getElem?_range hi]
  show (setOf (aheadTo cs i cs.length)).testBit j = _
  rw [setOf_bit _ (fun x hx => by have := aheadTo_lt hx; omega)]
  have := aheadTo_mem (i := i) hi hj
  by_cases h1 : j ≠ i <;> by_cases h2 : precB cs[j] cs[i] = true <;> simp_all
/-- Each call stands behind all that must stand ahead of it. -/
structure Good (cs : List Cl) (acc : List Nat) : Prop where
  lt : ∀ i ∈ acc, i < cs.length
  nodup : acc.Nodup
  ahead : ∀ (p : Nat) (hp : p < acc.length) (j : Nat) (hj : j < cs.length), j ≠ acc[p] → ∀ (hi : acc[p] < cs.length), precB cs[j] (cs[acc[p]]'hi) = true → j ∈ acc.take p
theorem ord_good {cs : List Cl} (hl : cs.length ≤ 64) {left : Nat} {acc : List Nat} {r : Option (List Nat)} (h : Ord (waitsX cs) left acc r) : left < 18446744073709551616 → (∀ j, left.testBit j = true → j < cs.length) → (∀ j, j < cs.length → (left.testBit j = true ↔ j ∉ acc)) → Good cs acc → ∀ acc', r = some acc' → Good cs acc' ∧ ∀ j, j < cs.length → j ∈ acc' := by
  induction h with
  | done acc =>
    intro _ _ hb hg acc' e
    cases e
    refine ⟨hg, fun j hj => ?_⟩
    have := (hb j hj)
    rw [Nat.zero_testBit] at this
    exact Classical.not_not.1 (fun x => by have := this.2 x; cases this)
  | stuck left acc h0 h1 => intro _ _ _ _ acc' e; cases e
  | step left i acc r h0 h1 h2 ih =>
    intro hlt hbn hb hg acc' e
    obtain ⟨hbi, hi⟩ := leastX_bit h1
    rw [waitsX_len] at hi
    have hfree : left &&& (waitsX cs).getD i 0 = 0 := by
      unfold leastX at h1
      have := List.find?_some h1
      unfold freeB at this
      simp only [Bool.and_eq_true, decide_eq_true_eq] at this
      exact this.2
    have hia : i ∉ acc := (hb i hi).1 hbi
    refine ih (dropS_lt i hlt) (fun j hj => ?_) (fun j hj => ?_) ⟨fun k hk => ?_, ?_, fun p hp j hj hne hpi hpr => ?_⟩ acc' e
    · rw [dropS_bit j hlt (by omega)] at hj
      simp only [Bool.and_eq_true] at hj
      exact hbn j hj.1
    · rw [dropS_bit j hlt (by omega), List.mem_append, List.mem_singleton]
      have := hb j hj
      by_cases e : j = i
      · simp [e]
      · simp only [Bool.and_eq_true, Bool.not_eq_true', decide_eq_false_iff_not]
        rw [this]
        simp [e]
    · rcases List.mem_append.1 hk with hk | hk
      · exact hg.lt k hk
      · rw [List.mem_singleton.1 hk]; exact hi
    · rw [List.nodup_append]
      exact ⟨hg.nodup, by simp, fun a ha b hb2 => by rw [List.mem_singleton.1 hb2]; exact fun e => hia (e ▸ ha)⟩
    · rw [List.length_append, List.length_singleton] at hp
      rcases Nat.lt_or_ge p acc.length with h3 | h3
      · have e1 : (acc ++ [i])[p]'(by simp; omega) = acc[p] := List.getElem_append_left h3
        rw [List.take_append_of_le_length (by omega)]
        exact hg.ahead p h3 j hj (by rw [← e1]; exact hne) (by rw [← e1]; exact hpi) (by simpa only [e1] using hpr)
      · have e0 : p = acc.length := by omega
        subst e0
        have e1 : (acc ++ [i])[acc.length]'(by simp) = i := by simp
        rw [List.take_append_of_le_length (Nat.le_refl _), List.take_of_length_le (Nat.le_refl _)]
        have hw := waits_bit hl hi hj
        have hpr2 : precB cs[j] cs[i] = true := by simpa only [e1] using hpr
        rw [hpr2, show decide (j ≠ i) = true from decide_eq_true (by rw [← e1]; exact hne)] at hw
        by_cases hja : j ∈ acc
        · exact hja
        · have hlj := (hb j hj).2 hja
          have : (left &&& (waitsX cs).getD i 0).testBit j = true := by rw [Nat.testBit_and, hlj, hw]; rfl
          rw [hfree, Nat.zero_testBit] at this
          cases this
theorem order_good {cs : List Cl} (hl : cs.length ≤ 64) {acc : List Nat} (h : Ord (waitsX cs) (2 ^ cs.length - 1) [] (some acc)) : Good cs acc ∧ ∀ j, j < cs.length → j ∈ acc :=
  ord_good hl h (firsts_lt hl) (fun j hj => by rw [firsts_bit] at hj; simpa using hj) (fun j hj => by rw [firsts_bit]; simp [hj]) ⟨by simp, by simp, fun p hp => absurd hp (by simp)⟩ acc rfl

abbrev Kv := Int × ByteArray
abbrev OpT := Int × Int × ByteArray
structure RepT where
  ok : Bool
  val : ByteArray
  L : List Kv
def look (t : List Kv) (k : Int) : Option ByteArray := (t.find? (fun e => e.1 == k)).map Prod.snd
def insK : List Kv → Int → ByteArray → List Kv
  | [], k, v => [(k, v)]
  | e :: r, k, v => if e.1 < k then e :: insK r k v else (k, v) :: e :: r

/-! ### the plain map -/
def doT (tab : List Kv) (o : OpT) : List Kv := if o.1 = 1 then (match look tab o.2.1 with | some _ => tab | none => insK tab o.2.1 o.2.2) else tab
def doR (tab : List Kv) (o : OpT) : RepT :=
  if o.1 = 1 then ⟨(look tab o.2.1).isNone, ⟨#[]⟩, []⟩
  else if o.1 = 2 then ⟨(look tab o.2.1).isSome, (look tab o.2.1).getD ⟨#[]⟩, []⟩
  else ⟨true, ⟨#[]⟩, tab⟩
def tabOf (os : List OpT) : List Kv := os.foldl doT []
def pubs (os : List OpT) (k : Int) : Option ByteArray := (os.find? (fun o => o.1 == 1 && o.2.1 == k)).map (fun o => o.2.2)
def Rise (t : List Kv) : Prop := t.Pairwise (fun a b => a.1 < b.1)

theorem look_cons (e : Kv) (r : List Kv) (k : Int) : look (e :: r) k = if e.1 = k then some e.2 else look r k := by
  unfold look
  rw [List.find?_cons]
  by_cases h : e.1 = k
  · simp [h]
  · have : (e.1 == k) = false := by simp [h]
    rw [this, if_neg h]
theorem look_ins (t : List Kv) (k : Int) (v : ByteArray) (k' : Int) : look (insK t k v) k' = if k = k' then some v else look t k' := by
  induction t with
  | nil => unfold insK; rw [look_cons]
  | cons e r ih =>
    unfold insK
    by_cases h : e.1 < k
    · rw [if_pos h, look_cons, ih, look_cons]
      by_cases h2 : e.1 = k'
      · rw [if_pos h2, if_pos h2, if_neg (by omega)]
      · rw [if_neg h2, if_neg h2]
    · rw [if_neg h, look_cons]
theorem mem_ins {t : List Kv} {k : Int} {v : ByteArray} {x : Kv} (h : x ∈ insK t k v) : x = (k, v) ∨ x ∈ t := by
  induction t with
  | nil => unfold insK at h; simpa using h
  | cons e r ih =>
    unfold insK at h
    split at h
    · rcases List.mem_cons.1 h with h | h
      · exact Or.inr (by rw [h]; exact List.mem_cons_self)
      · rcases ih h with h | h
        · exact Or.inl h
        · exact Or.inr (List.mem_cons_of_mem _ h)
    · rcases List.mem_cons.1 h with h | h
      · exact Or.inl h
      · exact Or.inr h
theorem look_none_mem {t : List Kv} {k : Int} (h : look t k = none) : ∀ e ∈ t, e.1 ≠ k := by
  induction t with
  | nil => intro e he; cases he
  | cons x r ih =>
    rw [look_cons] at h
    intro e he
    split at h
    · cases h
    · rcases List.mem_cons.1 he with rfl | he
      · assumption
      · exact ih h e he
theorem rise_ins {t : List Kv} (h : Rise t) {k : Int} (hn : look t k = none) (v : ByteArray) : Rise (insK t k v) := by
  induction t with
  | nil => unfold insK; exact List.pairwise_singleton _ _
  | cons e r ih =>
    have hne := look_none_mem hn e List.mem_cons_self
    rw [look_cons, if_neg hne] at hn
    have hp := List.pairwise_cons.1 h
    unfold insK
    split
    · refine List.pairwise_cons.2 ⟨fun x hx => ?_, ih hp.2 hn⟩
      rcases mem_ins hx with rfl | hx
      · assumption
      · exact hp.1 x hx
    · rename_i hlt
      refine List.pairwise_cons.2 ⟨fun x hx => ?_, h⟩
      rcases List.mem_cons.1 hx with rfl | hx
      · show k < x.1; omega
      · have := hp.1 x hx; show k < x.1; omega
theorem look_mem {t : List Kv} {k : Int} {v : ByteArray} (h : look t k = some v) : (k, v) ∈ t := by
  induction t with
  | nil => cases h
  | cons e r ih =>
    rw [look_cons] at h
    split at h
    · rename_i e1; cases h; rw [← e1]; exact List.mem_cons_self
    · exact List.mem_cons_of_mem _ (ih h)
theorem look_of_lt {e : Kv} {r : List Kv} (h : Rise (e :: r)) : look r e.1 = none := by
  cases hl : look r e.1 with
  | none => rfl
  | some v =>
    have := (List.pairwise_cons.1 h).1 _ (look_mem hl)
    exact absurd this (Int.lt_irrefl _)
theorem rise_ext : ∀ {t t' : List Kv}, Rise t → Rise t' → (∀ k, look t k = look t' k) → t = t'
  | [], [], _, _, _ => rfl
  | [], e :: r, _, _, h => by have := h e.1; rw [look_cons, if_pos rfl] at this; cases this
  | e :: r, [], _, _, h => by have := h e.1; rw [look_cons, if_pos rfl] at this; cases this
  | e :: r, e' :: r', h1, h2, h => by
    have p1 := List.pairwise_cons.1 h1
    have p2 := List.pairwise_cons.1 h2
    have hk : e.1 = e'.1 := by
      rcases Int.lt_trichotomy e.1 e'.1 with hlt | heq | hgt
      · have := h e.1
        rw [look_cons, if_pos rfl] at this
        have hm := look_mem this.symm
        rcases List.mem_cons.1 hm with hm | hm
        · have : e.1 = e'.1 := by rw [← hm]
          exact this
        · have := p2.1 _ hm
          simp only at this
          omega
      · exact heq
      · have := h e'.1
        rw [look_cons (e := e'), if_pos rfl] at this
        have hm := look_mem this
        rcases List.mem_cons.1 hm with hm | hm
        · have : e'.1 = e.1 := by rw [← hm]
          exact this.symm
        · have := p1.1 _ hm
          simp only at this
          omega
    have hv : e.2 = e'.2 := by
      have := h e.1
      rw [look_cons, if_pos rfl, look_cons, if_pos hk.symm] at this
      exact Option.some.inj this
    have he : e = e' := Prod.ext hk hv
    subst he
    congr 1
    refine rise_ext p1.2 p2.2 (fun k => ?_)
    by_cases hke : e.1 = k
    · subst hke; rw [look_of_lt h1, look_of_lt h2]
    · have := h k
      rw [look_cons, if_neg hke, look_cons, if_neg hke] at this
      exact this

theorem pubs_cons (o : OpT) (os : List OpT) (k : Int) : pubs (o :: os) k = if o.1 = 1 ∧ o.2.1 = k then some o.2.2 else pubs os k := by
  unfold pubs
  rw [List.find?_cons]
  by_cases h : o.1 = 1 ∧ o.2.1 = k
  · have : (o.1 == 1 && o.2.1 == k) = true := by simp [h.1, h.2]
    rw [this, if_pos h]; rfl
  · have : (o.1 == 1 && o.2.1 == k) = false := by
      cases hb : (o.1 == 1 && o.2.1 == k) with
      | false => rfl
      | true => simp at hb; exact absurd hb h
    rw [this, if_neg h]
theorem look_doT (t : List Kv) (o : OpT) (k : Int) : look (doT t o) k = if o.1 = 1 ∧ o.2.1 = k then (match look t k with | some x => some x | none => some o.2.2) else look t k := by
  unfold doT
  by_cases h1 : o.1 = 1
  · rw [if_pos h1]
    cases hl : look t o.2.1 with
    | some x =>
      simp only
      by_cases h2 : o.2.1 = k
      · rw [if_pos ⟨h1, h2⟩, ← h2, hl]
      · rw [if_neg (fun h => h2 h.2)]
    | none =>
      simp only
      rw [look_ins]
      by_cases h2 : o.2.1 = k
      · rw [if_pos h2, if_pos ⟨h1, h2⟩, ← h2, hl]
      · rw [if_neg h2, if_neg (fun h => h2 h.2)]
  · rw [if_neg h1, if_neg (fun h => h1 h.1)]
theorem look_fold : ∀ (os : List OpT) (t : List Kv) (k : Int), look (os.foldl doT t) k = match look t k with | some x => some x | none => pubs os k
  | [], t, k => by cases h : look t k <;> simp [pubs, h]
  | o :: os, t, k => by
    rw [List.foldl_cons, look_fold os, look_doT, pubs_cons]
    by_cases h : o.1 = 1 ∧ o.2.1 = k
    · rw [if_pos h, if_pos h]
      cases look t k <;> rfl
    · rw [if_neg h, if_neg h]
theorem look_tabOf (os : List OpT) (k : Int) : look (tabOf os) k = pubs os k := look_fold os [] k
theorem rise_doT {t : List Kv} (h : Rise t) (o : OpT) : Rise (doT t o) := by
  unfold doT
  split
  · split
    · exact h
    · rename_i hn; exact rise_ins h hn _
  · exact h
theorem rise_fold : ∀ (os : List OpT) {t : List Kv}, Rise t → Rise (os.foldl doT t)
  | [], _, h => h
  | o :: os, _, h => rise_fold os (rise_doT h o)
theorem rise_tabOf (os : List OpT) : Rise (tabOf os) := rise_fold os List.Pairwise.nil
theorem tabOf_snoc (os : List OpT) (o : OpT) : tabOf (os ++ [o]) = doT (tabOf os) o := by unfold tabOf; rw [List.foldl_append]; rfl


/-! ### each call of a history was answered rightly -/
theorem nodup_snd {c : Int} {i : Nat} : ∀ {l : List (Int × Nat)}, (l.map (·.1)).Nodup → l.lookup c = some i → ∀ p ∈ l, p.1 = c → p.2 = i
  | [], _, h => by simp at h
  | (a, j) :: l, hn, h => by
    intro p hp hpc
    rw [List.lookup_cons] at h
    simp only [List.map_cons, List.nodup_cons] at hn
    by_cases e : c = a
    · subst e
      simp at h
      rcases List.mem_cons.1 hp with rfl | hp
      · exact h
      · exact absurd (List.mem_map_of_mem (f := (·.1)) hp) (by rw [hpc]; exact hn.1)
    · rw [show (c == a) = false by simpa using e] at h
      rcases List.mem_cons.1 hp with rfl | hp
      · exact absurd hpc.symm e
      · exact nodup_snd hn.2 h p hp hpc
theorem run_right (h : List Mo) : ∀ k s, runO h k = some s → ∀ q c, s.cs[q]? = some c → (∀ p ∈ s.op, p.2 ≠ q) → rightReplyB c.kd c.R.r = true
  | 0, s, e => by cases e; intro q c hq; simp at hq
  | k + 1, s', e => by
    cases e0 : runO h k with
    | none => rw [runO_none e0 1] at e; cases e
    | some s =>
      have ih := run_right h k s e0
      have hok := stOk_run h k s e0
      cases em : h[k]? with
      | none =>
        have : runO h (k + 1) = some s := by
          show (runO h k).bind _ = _
          rw [e0]; show (match h[k]? with | none => some s | some m => stepO k m s) = _; rw [em]
        rw [this] at e; cases e
        exact ih
      | some m =>
        rw [runO_step e0 em] at e
        unfold stepO at e
        split at e
        · split at e
          · cases e
            intro q c hq hp
            by_cases hql : q < s.cs.length
            · rw [List.getElem?_append_left hql] at hq
              exact ih q c hq (fun p hpm => hp p (List.mem_cons_of_mem _ hpm))
            · by_cases he : q = s.cs.length
              · subst he
                exact absurd rfl (hp (m.c, s.cs.length) List.mem_cons_self)
              · rw [List.getElem?_eq_none (by simp; omega)] at hq
                cases hq
          · cases e
        · next i hl =>
          split at e
          · cases e
          · next c0 hc0 =>
            split at e
            · next hcond =>
              cases e
              intro q c hq hp
              rw [List.getElem?_set] at hq
              by_cases he : i = q
              · subst he
                rw [if_pos rfl] at hq
                split at hq
                · cases hq
                  simp only [Bool.and_eq_true] at hcond
                  obtain ⟨⟨-, hs⟩, hr⟩ := hcond
                  have hs2 := of_decide_eq_true hs
                  show rightReplyB c0.kd m.R.r = true
                  rw [← hs2.1]
                  exact hr
                · cases hq
              · rw [if_neg he] at hq
                refine ih q c hq (fun p hpm hpq => ?_)
                by_cases hpc : p.1 = m.c
                · have := nodup_snd hok.nodup hl p hpm hpc
                  omega
                · exact hp p (List.mem_filter.2 ⟨hpm, by simpa using hpc⟩) hpq
            · cases e
theorem calls_right {h : List Mo} {cs : List Cl} (e : callsX h = some cs) : ∀ c ∈ cs, rightReplyB c.kd c.R.r = true := by
  unfold callsX at e
  split at e
  · cases e
  · cases e0 : runO h h.length with
    | none => rw [e0] at e; cases e
    | some s =>
      rw [e0] at e
      simp only [Option.bind_some] at e
      split at e
      · next hop =>
        cases e
        intro c hc
        obtain ⟨q, hq⟩ := List.getElem?_of_mem hc
        exact run_right h _ s e0 q c hq (fun p hp => by rw [hop] at hp; cases hp)
      · cases e

/-! ### an order of calls gives the plain map's answers -/
theorem ba_inj {a b : ByteArray} (h : a.toList = b.toList) : a = b := by
  rw [ByteArray.toList_eq, ByteArray.toList_eq] at h
  exact ByteArray.ext (Array.toList_inj.1 h)
theorem ba_empty {a : ByteArray} (h : emB a = true) : a = ⟨#[]⟩ := by
  unfold emB at h
  rw [List.isEmpty_iff] at h
  exact ba_inj (h.trans (by rw [ByteArray.toList_eq]))
theorem made_is (q : Int) (c : Cl) : ∀ (cs : List Cl) (f : Mk), (cs.foldl (fun f c => if makesB c then (fun q => if q = c.ky then some c else f q) else f) f) q = some c → (c ∈ cs ∧ makesB c = true ∧ c.ky = q) ∨ f q = some c
  | [], f, h => Or.inr h
  | a :: l, f, h => by
    rw [List.foldl_cons] at h
    rcases made_is q c l _ h with h1 | h1
    · exact Or.inl ⟨List.mem_cons_of_mem _ h1.1, h1.2⟩
    · by_cases hm : makesB a = true
      · rw [if_pos hm] at h1
        by_cases hq : q = a.ky
        · simp only [if_pos hq, Option.some.injEq] at h1
          subst h1
          exact Or.inl ⟨List.mem_cons_self, hm, hq.symm⟩
        · simp only [if_neg hq] at h1
          exact Or.inr h1
      · rw [if_neg hm] at h1
        exact Or.inr h1
theorem madeX_is {cs : List Cl} {q : Int} {c : Cl} (h : madeX cs q = some c) : c ∈ cs ∧ makesB c = true ∧ c.ky = q := by
  rcases made_is q c cs _ h with h | h
  · exact h
  · cases h
theorem makes_iff {c : Cl} : makesB c = true ↔ c.kd = 1 ∧ c.R.r.ok = true := by unfold makesB; simp
/-- The calls in an order: none that must stand ahead of another stands behind it. -/
structure Seq (cs L : List Cl) : Prop where
  pw : L.Pairwise (fun a b => precB b a = false)
  all : ∀ c ∈ cs, c ∈ L
  sub : ∀ c ∈ L, c ∈ cs
theorem Seq.ahead {cs : List Cl} {us bs : List Cl} {c d : Cl} (h : Seq cs (us ++ c :: bs)) (hd : d ∈ cs) (hp : precB d c = true) (hne : d ≠ c) : d ∈ us := by
  rcases List.mem_append.1 (h.all d hd) with h1 | h1
  · exact h1
  · rcases List.mem_cons.1 h1 with h1 | h1
    · exact absurd h1 hne
    · have := (List.pairwise_cons.1 (List.pairwise_append.1 h.pw).2.1).1 d h1
      rw [hp] at this; cases this
theorem Seq.later {cs : List Cl} {us bs : List Cl} {c d : Cl} (h : Seq cs (us ++ c :: bs)) (hd : d ∈ us) : precB c d = false :=
  (List.pairwise_append.1 h.pw).2.2 d hd c List.mem_cons_self
abbrev opT (c : Cl) : OpT := (c.kd, c.ky, c.v)
theorem makes_misses {c : Cl} (h : makesB c = true) : missesB c c.ky = true := by
  obtain ⟨h1, h2⟩ := makes_iff.1 h
  unfold missesB findsB
  simp [h1, h2]
/-- Two calls that make one key: neither can stand first. -/
theorem prec_makes {c d : Cl} (h1 : makesB c = true) (h2 : makesB d = true) (h : c.ky = d.ky) : precB c d = true := by
  unfold precB
  have := makes_misses h1
  rw [h2, ← h, this]; simp
theorem prec_finds {c d : Cl} (h1 : makesB c = true) (h2 : findsB d c.ky = true) : precB c d = true := by unfold precB; rw [h1, h2]; simp
theorem prec_misses {c d : Cl} (h1 : makesB d = true) (h2 : missesB c d.ky = true) : precB c d = true := by unfold precB; rw [h1, h2]; simp
/-- A Publish that is not Ok: the one that made its key stands ahead. -/
theorem Seq.not_ok {cs us bs : List Cl} {c : Cl} (h : Seq cs (us ++ c :: bs)) (hp : possibleB (madeX cs) cs = true) (hk : c.kd = 1) (ho : c.R.r.ok = false) : ∃ d ∈ us, makesB d = true ∧ d.ky = c.ky := by
  have hc := List.all_eq_true.1 hp c (h.sub c (by simp))
  unfold canTellB at hc
  rw [if_pos hk] at hc
  obtain ⟨d, hd⟩ := Option.isSome_iff_exists.1 hc
  obtain ⟨h1, h2, h3⟩ := madeX_is hd
  refine ⟨d, h.ahead h1 (prec_finds h2 ?_) (fun e => ?_), h2, h3⟩
  · unfold findsB; rw [h3]; simp [hk, ho]
  · subst e; rw [(makes_iff.1 h2).2] at ho; cases ho
theorem pubs_split {L : List Cl} {k : Int} {v : ByteArray} (h : pubs (L.map opT) k = some v) : ∃ us c bs, L = us ++ c :: bs ∧ c.kd = 1 ∧ c.ky = k ∧ c.v = v ∧ ∀ d ∈ us, ¬ (d.kd = 1 ∧ d.ky = k) := by
  unfold pubs at h
  rw [List.find?_map] at h
  simp only [Option.map_map, Option.map_eq_some_iff, Function.comp] at h
  obtain ⟨c, hc, e⟩ := h
  obtain ⟨h1, us, bs, h2, h3⟩ := List.find?_eq_some_iff_append.1 hc
  refine ⟨us, c, bs, h2, ?_, ?_, e, fun d hd => ?_⟩
  · simp at h1; exact h1.1
  · simp at h1; exact h1.2
  · have := h3 d hd
    intro hh
    simp [hh.1, hh.2] at this
theorem pubs_none {L : List Cl} {k : Int} (h : pubs (L.map opT) k = none) : ∀ d ∈ L, ¬ (d.kd = 1 ∧ d.ky = k) := by
  unfold pubs at h
  rw [List.find?_map] at h
  simp only [Option.map_eq_none_iff] at h
  intro d hd
  have := List.find?_eq_none.1 h d hd
  simpa using this
/-- The plain map, behind the first calls of an order: the keys that were made there, with their values. -/
theorem Seq.lk {cs us bs : List Cl} (h : Seq cs (us ++ bs)) (hp : possibleB (madeX cs) cs = true) {k : Int} {d : Cl} (hd : d ∈ us) (hm : makesB d = true) (hk : d.ky = k) : look (tabOf (us.map opT)) k = some d.v := by
  rw [look_tabOf]
  cases e : pubs (us.map opT) k with
  | none => exact absurd ⟨(makes_iff.1 hm).1, hk⟩ (pubs_none e d hd)
  | some v =>
    obtain ⟨a1, c, b1, e1, h1, h2, h3, h4⟩ := pubs_split e
    subst e1
    have h' : Seq cs (a1 ++ c :: (b1 ++ bs)) := by simpa using h
    cases ho : c.R.r.ok with
    | false =>
      obtain ⟨d', hd', hm', hk'⟩ := h'.not_ok hp h1 ho
      exact absurd ⟨(makes_iff.1 hm').1, hk'.trans h2⟩ (h4 d' hd')
    | true =>
      have hmc : makesB c = true := makes_iff.2 ⟨h1, ho⟩
      rcases List.mem_append.1 hd with hd | hd
      · exact absurd ⟨(makes_iff.1 hm).1, hk⟩ (h4 d hd)
      · rcases List.mem_cons.1 hd with hd | hd
        · rw [hd, h3]
        · have := (List.pairwise_cons.1 (List.pairwise_append.1 h'.pw).2.1).1 d (by simp [hd])
          rw [prec_makes hm hmc (hk.trans h2.symm)] at this
          cases this
theorem Seq.lkNone {cs us bs : List Cl} (h : Seq cs (us ++ bs)) (hp : possibleB (madeX cs) cs = true) {k : Int} (hn : ∀ d ∈ us, ¬ (makesB d = true ∧ d.ky = k)) : look (tabOf (us.map opT)) k = none := by
  rw [look_tabOf]
  cases e : pubs (us.map opT) k with
  | none => rfl
  | some v =>
    obtain ⟨a1, c, b1, e1, h1, h2, h3, h4⟩ := pubs_split e
    subst e1
    have h' : Seq cs (a1 ++ c :: (b1 ++ bs)) := by simpa using h
    cases ho : c.R.r.ok with
    | false =>
      obtain ⟨d', hd', hm', hk'⟩ := h'.not_ok hp h1 ho
      exact absurd ⟨hm', hk'.trans h2⟩ (hn d' (by simp [hd']))
    | true => exact absurd ⟨makes_iff.2 ⟨h1, ho⟩, h2⟩ (hn c (by simp))
/-- Behind the first calls of an order: a call that must stand ahead of what made the key sees it not. -/
theorem Seq.missed {cs us bs : List Cl} {c : Cl} (h : Seq cs (us ++ c :: bs)) {k : Int} (hm : missesB c k = true) : ∀ d ∈ us, ¬ (makesB d = true ∧ d.ky = k) := by
  rintro d hd ⟨h1, h2⟩
  have := h.later hd
  rw [prec_misses h1 (by rw [h2]; exact hm)] at this
  cases this
theorem rise_zip : ∀ {ks : List Int} {vs : List ByteArray}, riseB ks = true → Rise (ks.zip vs)
  | [], _, _ => List.Pairwise.nil
  | _ :: _, [], _ => List.Pairwise.nil
  | [a], v :: vs, _ => by simp [Rise]
  | a :: b :: l, v :: vs, h => by
    have h2 : decide (a < b) = true ∧ riseB (b :: l) = true := by unfold riseB at h; simpa using h
    have ih := rise_zip (vs := vs) h2.2
    refine List.pairwise_cons.2 ⟨fun x hx => ?_, ih⟩
    have hab := of_decide_eq_true h2.1
    cases vs with
    | nil => cases hx
    | cons v2 vs2 =>
      rcases List.mem_cons.1 hx with rfl | hx2
      · exact hab
      · have := (List.pairwise_cons.1 ih).1 x hx2
        show a < x.1
        have e : b < x.1 := this
        omega
theorem look_rise {t : List Kv} (h : Rise t) {k : Int} {v : ByteArray} (hm : (k, v) ∈ t) : look t k = some v := by
  induction t with
  | nil => cases hm
  | cons e r ih =>
    have hp := List.pairwise_cons.1 h
    rw [look_cons]
    rcases List.mem_cons.1 hm with rfl | hm
    · rw [if_pos rfl]
    · have := hp.1 _ hm
      rw [if_neg (by intro e1; simp only at this; omega)]
      exact ih hp.2 hm
theorem zip_key {ks : List Int} {vs : List ByteArray} {k : Int} (hl : ks.length = vs.length) (h : k ∈ ks) : ∃ v, (k, v) ∈ ks.zip vs := by
  obtain ⟨i, hi, rfl⟩ := List.getElem_of_mem h
  exact ⟨vs[i]'(hl ▸ hi), List.mem_of_getElem? (i := i) (by rw [List.getElem?_eq_getElem (by rw [List.length_zip]; omega), List.getElem_zip])⟩
abbrev repT (c : Cl) : RepT := ⟨c.R.r.ok, c.R.r.val, c.R.r.keys.zip c.R.r.vals⟩
/-- EACH CALL OF AN ORDER GETS THE PLAIN MAP'S ANSWER. -/
theorem Seq.reply {cs us bs : List Cl} {c : Cl} (h : Seq cs (us ++ c :: bs)) (hp : possibleB (madeX cs) cs = true) (hr : rightReplyB c.kd c.R.r = true) (hk : c.kd = 1 ∨ c.kd = 2 ∨ c.kd = 3) : doR (tabOf (us.map opT)) (opT c) = repT c := by
  have hc := List.all_eq_true.1 hp c (h.sub c (by simp))
  unfold canTellB at hc
  unfold rightReplyB noKeysB at hr
  unfold doR
  rcases hk with hk | hk | hk
  · have hks : c.R.r.keys = [] := by simp [hk] at hr; exact hr.2.1
    have hv : c.R.r.val = ⟨#[]⟩ := ba_empty (by simp [hk] at hr; simpa using hr.1)
    have e : repT c = ⟨c.R.r.ok, ⟨#[]⟩, []⟩ := by simp [repT, hks, hv]
    rw [e]
    simp only [hk, if_pos]
    cases ho : c.R.r.ok with
    | true =>
      have hm : makesB c = true := makes_iff.2 ⟨hk, ho⟩
      rw [h.lkNone hp (h.missed (makes_misses hm))]; rfl
    | false =>
      obtain ⟨d, hd, hm, hdk⟩ := h.not_ok hp hk ho
      rw [h.lk hp hd hm hdk]; rfl
  · have hks : c.R.r.keys = [] := by simp [hk] at hr; exact hr.2.1
    have e : repT c = ⟨c.R.r.ok, c.R.r.val, []⟩ := by simp [repT, hks]
    rw [e]
    simp only [hk]
    rw [if_neg (by decide), if_pos trivial]
    cases ho : c.R.r.ok with
    | true =>
      simp [hk, ho] at hc
      unfold hasB at hc
      cases hf : madeX cs c.ky with
      | none => rw [hf] at hc; cases hc
      | some d =>
        rw [hf] at hc
        have hdv : d.v = c.R.r.val := ba_inj (of_decide_eq_true hc)
        obtain ⟨h1, h2, h3⟩ := madeX_is hf
        have hd := h.ahead h1 (prec_finds h2 (by unfold findsB; simp [hk, ho, h3])) (fun e => by rw [e] at h2; have := (makes_iff.1 h2).1; omega)
        rw [h.lk hp hd h2 h3, hdv]; rfl
    | false =>
      have hv : c.R.r.val = ⟨#[]⟩ := ba_empty (by simp [hk, ho] at hr; simpa using hr.1)
      rw [h.lkNone hp (h.missed (by unfold missesB findsB; simp [hk, ho])), hv]; rfl
  · simp [hk] at hr
    obtain ⟨⟨⟨ho, hv⟩, hl⟩, hri⟩ := hr
    have hv2 : c.R.r.val = ⟨#[]⟩ := ba_empty (by simpa using hv)
    simp only [hk]
    rw [if_neg (by decide), if_neg (by decide)]
    have e : repT c = ⟨true, ⟨#[]⟩, c.R.r.keys.zip c.R.r.vals⟩ := by simp [repT, ho, hv2]
    rw [e]
    congr 1
    refine rise_ext (rise_tabOf _) (rise_zip hri) (fun k => ?_)
    by_cases hm : k ∈ c.R.r.keys
    · obtain ⟨v, hz⟩ := zip_key hl hm
      rw [look_rise (rise_zip hri) hz]
      rw [if_neg (by omega), if_neg (by omega)] at hc
      have hh := List.all_eq_true.1 hc _ hz
      unfold hasB at hh
      cases hf : madeX cs k with
      | none => simp [hf] at hh
      | some d =>
        simp only [hf] at hh
        have hdv : d.v = v := ba_inj (of_decide_eq_true hh)
        obtain ⟨h1, h2, h3⟩ := madeX_is hf
        have hd := h.ahead h1 (prec_finds h2 (by unfold findsB; simp [hk, h3, hm])) (fun e => by rw [e] at h2; have := (makes_iff.1 h2).1; omega)
        rw [h.lk hp hd h2 h3, hdv]
    · rw [h.lkNone hp (h.missed (by unfold missesB findsB; simp [hk, hm]))]
      cases hl2 : look (c.R.r.keys.zip c.R.r.vals) k with
      | none => rfl
      | some v => exact absurd (List.of_mem_zip (look_mem hl2)).1 hm

/-! ### the calls of a history: right calls, whose beginnings rise -/
theorem map_set_same {α β : Type} (f : α → β) (x : α) : ∀ (l : List α) (i : Nat) (c : α), l[i]? = some c → f x = f c → (l.set i x).map f = l.map f
  | [], i, c, h, _ => by simp at h
  | a :: l, 0, c, h, e => by simp at h; subst h; simp [e]
  | a :: l, i + 1, c, h, e => by simp at h; simp [map_set_same f x l i c h e]
theorem run_begun (h : List Mo) : ∀ k s, runO h k = some s → (∀ c ∈ s.cs, rightOpB c.kd c.ky c.v = true) ∧ (s.cs.map Cl.b).Pairwise (· < ·)
  | 0, s, e => by cases e; simp
  | k + 1, s', e => by
    cases e0 : runO h k with
    | none => rw [runO_none e0 1] at e; cases e
    | some s =>
      have ih := run_begun h k s e0
      have hok := stOk_run h k s e0
      cases em : h[k]? with
      | none =>
        have : runO h (k + 1) = some s := by
          show (runO h k).bind _ = _
          rw [e0]; show (match h[k]? with | none => some s | some m => stepO k m s) = _; rw [em]
        rw [this] at e; cases e
        exact ih
      | some m =>
        rw [runO_step e0 em] at e
        unfold stepO at e
        split at e
        · split at e
          · next hcond =>
            cases e
            simp only [Bool.and_eq_true] at hcond
            refine ⟨fun c hc => ?_, ?_⟩
            · rcases List.mem_append.1 hc with hc | hc
              · exact ih.1 c hc
              · rw [List.mem_singleton.1 hc]; exact hcond.1.2
            · rw [List.map_append, List.pairwise_append]
              refine ⟨ih.2, by simp, fun a ha b hb => ?_⟩
              obtain ⟨c, hc, rfl⟩ := List.mem_map.1 ha
              have hb2 : b = k := by simpa [begun] using hb
              rw [hb2]
              exact hok.cb c hc
          · cases e
        · next i hl =>
          split at e
          · cases e
          · next c0 hc0 =>
            split at e
            · cases e
              refine ⟨fun c hc => ?_, ?_⟩
              · rcases List.mem_or_eq_of_mem_set hc with hc | hc
                · exact ih.1 c hc
                · rw [hc]; exact ih.1 c0 (List.mem_of_getElem? hc0)
              · rw [map_set_same Cl.b (c0.ended k m) _ i c0 hc0 rfl]
                exact ih.2
            · cases e
theorem calls_begun {h : List Mo} {cs : List Cl} (e : callsX h = some cs) : (∀ c ∈ cs, c.kd = 1 ∨ c.kd = 2 ∨ c.kd = 3) ∧ (cs.map Cl.b).Pairwise (· < ·) := by
  unfold callsX at e
  split at e
  · cases e
  · cases e0 : runO h h.length with
    | none => rw [e0] at e; cases e
    | some s =>
      rw [e0] at e
      simp only [Option.bind_some] at e
      split at e
      · cases e
        have := run_begun h _ s e0
        refine ⟨fun c hc => ?_, this.2⟩
        have hr := this.1 c hc
        unfold rightOpB at hr
        simp only [Bool.or_eq_true, Bool.and_eq_true, decide_eq_true_eq] at hr
        rcases hr with (hr | hr) | hr
        · exact Or.inl hr
        · exact Or.inr (Or.inl hr.1)
        · exact Or.inr (Or.inr hr.1.1)
      · cases e
/-! ### played, in plain words -/
def repB (a b : RepT) : Bool := decide (a.ok = b.ok ∧ a.val = b.val ∧ a.L = b.L)
theorem repB_iff {a b : RepT} : repB a b = true ↔ a = b := by
  unfold repB
  rw [decide_eq_true_eq]
  constructor
  · rintro ⟨h1, h2, h3⟩
    cases a; cases b
    simp only at h1 h2 h3
    subst h1 h2 h3; rfl
  · rintro rfl; exact ⟨rfl, rfl, rfl⟩
def atX (cs : List Cl) (o : Int) : Option Cl := cs.find? (fun c => decide ((c.b : Int) = o))
def fitsB (us : List Cl) (c : Cl) : Bool := us.all (fun d => !decide (d.b = c.b) && !decide (c.e < d.b)) && repB (doR (tabOf (us.map opT)) (opT c)) (repT c)
def playX (cs : List Cl) : List Cl → List Int → Bool
  | _, [] => true
  | us, o :: r => match atX cs o with | none => false | some c => fitsB us c && playX cs (us ++ [c]) r
def playedX (cs : List Cl) (order : List Int) : Bool := decide (order.length = cs.length) && playX cs [] order
theorem b_inj {cs : List Cl} (h : (cs.map Cl.b).Pairwise (· < ·)) {c d : Cl} (hc : c ∈ cs) (hd : d ∈ cs) (e : c.b = d.b) : c = d := by
  obtain ⟨i, hi, rfl⟩ := List.getElem_of_mem hc
  obtain ⟨j, hj, rfl⟩ := List.getElem_of_mem hd
  have hp := List.pairwise_iff_getElem.1 h
  rcases Nat.lt_trichotomy i j with hl | hl | hl
  · have := hp i j (by simpa using hi) (by simpa using hj) hl
    simp only [List.getElem_map] at this; omega
  · subst hl; rfl
  · have := hp j i (by simpa using hj) (by simpa using hi) hl
    simp only [List.getElem_map] at this; omega
theorem atX_of {cs : List Cl} (h : (cs.map Cl.b).Pairwise (· < ·)) {c : Cl} (hc : c ∈ cs) : atX cs c.b = some c := by
  unfold atX
  cases e : cs.find? (fun d => decide ((d.b : Int) = c.b)) with
  | none => have := List.find?_eq_none.1 e c hc; simp at this
  | some d =>
    have h1 := List.find?_some e
    have h2 := List.mem_of_find?_eq_some e
    simp only [decide_eq_true_eq] at h1
    rw [b_inj h h2 hc (by omega)]
theorem Seq.play {cs L : List Cl} (h : Seq cs L) (hn : L.Nodup) (hb : (cs.map Cl.b).Pairwise (· < ·)) (hp : possibleB (madeX cs) cs = true) (hr : ∀ c ∈ cs, rightReplyB c.kd c.R.r = true) (hk : ∀ c ∈ cs, c.kd = 1 ∨ c.kd = 2 ∨ c.kd = 3) : ∀ (bs us : List Cl), L = us ++ bs → playX cs us (bs.map (fun c => (c.b : Int))) = true
  | [], us, _ => rfl
  | c :: bs, us, e => by
    subst e
    have hc : c ∈ cs := h.sub c (by simp)
    have ih := Seq.play h hn hb hp hr hk bs (us ++ [c]) (by simp)
    rw [List.map_cons]
    unfold playX
    rw [atX_of hb hc]
    simp only [ih, Bool.and_true]
    unfold fitsB
    rw [Bool.and_eq_true, repB_iff]
    refine ⟨List.all_eq_true.2 fun d hd => ?_, h.reply hp (hr c hc) (hk c hc)⟩
    have h1 : d.b ≠ c.b := by
      intro e1
      have := b_inj hb (h.sub d (by simp [hd])) hc e1
      subst this
      exact (List.nodup_append.1 hn).2.2 d hd d List.mem_cons_self rfl
    have h2 : ¬ c.e < d.b := by
      intro e1
      have := h.later hd
      unfold precB at this
      simp [e1] at this
    simp [h1, h2]
def clZ : Cl := ⟨0, 0, 0, 0, ⟨#[]⟩, rv0⟩
def seqX (cs : List Cl) (acc : List Nat) : List Cl := acc.map (fun i => cs.getD i clZ)
theorem seqX_b (cs : List Cl) (acc : List Nat) : (seqX cs acc).map (fun c => (c.b : Int)) = acc.map (fun i => (((cs[i]?.map Cl.b).getD 0 : Nat) : Int)) := by
  unfold seqX
  rw [List.map_map]
  refine List.map_congr_left fun i _ => ?_
  simp only [Function.comp, List.getD_eq_getElem?_getD]
  cases cs[i]? <;> rfl
theorem nd_inj {l : List Nat} (h : l.Nodup) {i j : Nat} (hi : i < l.length) (hj : j < l.length) (e : l[i] = l[j]) : i = j := by
  have hp := List.pairwise_iff_getElem.1 h
  rcases Nat.lt_trichotomy i j with hl | hl | hl
  · exact absurd e (hp i j hi hj hl)
  · exact hl
  · exact absurd e.symm (hp j i hj hi hl)
theorem len_sub : ∀ {l1 l2 : List Nat}, l1.Nodup → (∀ x ∈ l1, x ∈ l2) → l1.length ≤ l2.length
  | [], _, _, _ => Nat.zero_le _
  | a :: l1, l2, hn, hs => by
    have hn2 := List.nodup_cons.1 hn
    have ha := hs a List.mem_cons_self
    have := len_sub (l2 := l2.erase a) hn2.2 (fun x hx => (List.mem_erase_of_ne (by rintro rfl; exact hn2.1 hx)).2 (hs x (List.mem_cons_of_mem _ hx)))
    rw [List.length_erase_of_mem ha] at this
    have hpos := List.length_pos_of_mem ha
    rw [List.length_cons]; omega
theorem seqX_seq {cs : List Cl} {acc : List Nat} (hb : (cs.map Cl.b).Pairwise (· < ·)) (hg : Good cs acc) (ha : ∀ j, j < cs.length → j ∈ acc) : Seq cs (seqX cs acc) ∧ (seqX cs acc).Nodup ∧ acc.length = cs.length := by
  have hd : ∀ i (hi : i < cs.length), cs.getD i clZ = cs[i] := fun i hi => by rw [List.getD_eq_getElem?_getD, List.getElem?_eq_getElem hi]; rfl
  have hinj : ∀ i j (hi : i < cs.length) (hj : j < cs.length), cs[i] = cs[j] → i = j := fun i j hi hj e => by
    have hp := List.pairwise_iff_getElem.1 hb
    rcases Nat.lt_trichotomy i j with hl | hl | hl
    · have := hp i j (by simpa using hi) (by simpa using hj) hl
      simp only [List.getElem_map, e] at this; omega
    · exact hl
    · have := hp j i (by simpa using hj) (by simpa using hi) hl
      simp only [List.getElem_map, e] at this; omega
  refine ⟨⟨?_, fun c hc => ?_, fun c hc => ?_⟩, ?_, ?_⟩
  · unfold seqX
    rw [List.pairwise_map, List.pairwise_iff_getElem]
    intro p q hp hq hpq
    have h1 := hg.lt _ (List.getElem_mem hp)
    have h2 := hg.lt _ (List.getElem_mem hq)
    rw [hd _ h1, hd _ h2]
    cases e : precB cs[acc[q]] cs[acc[p]] with
    | false => rfl
    | true =>
      have hne : acc[q] ≠ acc[p] := fun e1 => by have := nd_inj hg.nodup hq hp e1; omega
      have hm := hg.ahead p hp acc[q] h2 hne h1 e
      obtain ⟨r, hr, e2⟩ := List.getElem_of_mem hm
      rw [List.length_take] at hr
      rw [List.getElem_take] at e2
      have := nd_inj hg.nodup (by omega) hq e2
      omega
  · obtain ⟨i, hi, rfl⟩ := List.getElem_of_mem hc
    exact List.mem_map.2 ⟨i, ha i hi, hd i hi⟩
  · obtain ⟨i, hi, rfl⟩ := List.mem_map.1 hc
    rw [hd i (hg.lt i hi)]
    exact List.getElem_mem _
  · unfold seqX List.Nodup
    rw [List.pairwise_map]
    refine hg.nodup.imp_of_mem fun {i j} hi hj hne e => hne ?_
    rw [hd i (hg.lt i hi), hd j (hg.lt j hj)] at e
    exact hinj i j _ _ e
  · have h1 : acc.length ≤ cs.length := by
      have := len_sub hg.nodup (l2 := List.range cs.length) (fun i hi => List.mem_range.2 (hg.lt i hi))
      simpa using this
    have h2 : cs.length ≤ acc.length := by
      have := len_sub (l1 := List.range cs.length) List.nodup_range (fun i hi => ha i (List.mem_range.1 hi))
      simpa using this
    omega
/-- AN ORDER THAT IS TOLD IS ONE. -/
theorem order_played {h : List Mo} {cs : List Cl} (e : callsX h = some cs) (hl : cs.length ≤ 64) (hp : possibleB (madeX cs) cs = true) {acc : List Nat} (ho : Ord (waitsX cs) (2 ^ cs.length - 1) [] (some acc)) : playedX cs (acc.map (fun i => (((cs[i]?.map Cl.b).getD 0 : Nat) : Int))) = true := by
  obtain ⟨hk, hb⟩ := calls_begun e
  obtain ⟨hg, ha⟩ := order_good hl ho
  obtain ⟨hs, hn, hlen⟩ := seqX_seq hb hg ha
  unfold playedX
  rw [Bool.and_eq_true, decide_eq_true_eq]
  refine ⟨by simpa using hlen, ?_⟩
  rw [← seqX_b]
  exact hs.play hn hb hp (calls_right e) hk _ [] rfl
end Go.Proofs.YtihicdbplmdjiaaGreat
