import Derived.Test.YtihicdbplmdjiaaQC2J
import Derived.Laws.MakeOwn
namespace Go.Proofs.Ytihicdbplmdjiaa
open Go.RowKit Go.Shelf
set_option linter.unusedVariables false
set_option linter.unusedSimpArgs false
attribute [local go_sem] Oper.semAt_some

set_option maxHeartbeats 1000000 in
/-- ahead. -/
theorem ahead_any (ad : Option Addr) (n cap mb i : Nat) (w : World) : Calls Try.prog 57 #[.agg #[.slice ad n cap, .map (some mb)], vI i] w fun e w' => e = .returned (.func (.func 62) #[] #[.pointer (some ⟨w.heap.size, 0, none⟩), .pointer (some ⟨w.heap.size + 1, 0, none⟩)]) ∧ w' = (w.alloc (.cells #[.slice ad n cap, .map (some mb)] 54)).alloc (.cells #[vI i] 3) := by
  have hmf : ∀ (fn : Fn) (first cap : Array Value) (w : World), (Instr.makeFunc fn first cap).run Try.prog w = .ok (.func fn first cap) w := fun _ _ _ _ => rfl
  go_enter Try.func57, Try.ntmps57
  go_wp2_with fail
  go_ret
  exact ⟨rfl, rfl⟩
/-- The function that 'ahead' hands over. -/
theorem ahead_gives (n n0 Bp Bi mb i : Nat) (lv : Value) (cs : List Cl) (hi : i < cs.length) (hlen : cs.length ≤ 64) (w : World) (hn0 : n0 ≤ w.heap.size)
    (hBp : w.heap[Bp]? = some (.cells #[lv, .map (some mb)] 54)) (hBi : w.heap[Bi]? = some (.cells #[vI i] 3)) (hc : ∀ W', KpA n0 w W' → CAt W' lv cs) :
    SeqGivesC Fence.wide n Try.prog 62 #[] #[.pointer (some ⟨Bp, 0, none⟩), .pointer (some ⟨Bi, 0, none⟩)] encN (fun _ => KpA n0) (fun xs => xs = aheadTo cs i cs.length) cs.length w := fun l J W hW _ hl hJ hY h0 => by
  have kb : ∀ (k : Nat) (o : Obj), w.heap[k]? = some o → W.heap[k]? = some o := fun k o h => (hW.block k (heap_lt h)).trans h
  have hkp : KpA n0 w W := ⟨⟨hW.os, hW.tape, hW.output, hW.size, fun k hk => hW.block k (by omega)⟩, fun k cs t hk _ => kb k _ hk⟩
  refine (ahead1_in n l n0 Bp Bi mb i lv cs hi hlen W (Nat.le_trans hn0 hW.size) J hY (fun pre A A' hs f => own_fr hJ hs f) (kb _ _ hBp) (kb _ _ hBi) (fun W' x => hc W' (hkp.trans x)) h0).mono ?_
  rintro e W' ⟨he, hj⟩
  exact ⟨he, _, rfl, hj⟩

/-! ### waits -/
def setOf (xs : List Nat) : Nat := xs.foldl withS 0
theorem setOf_snoc (xs : List Nat) (j : Nat) : setOf (xs ++ [j]) = withS (setOf xs) j := by unfold setOf; rw [List.foldl_append]; rfl
theorem setOf_lt' : ∀ (xs : List Nat) (s : Nat), s < 18446744073709551616 → xs.foldl withS s < 18446744073709551616
  | [], s, hs => hs
  | x :: xs, s, hs => setOf_lt' xs _ (withS_lt x hs)
theorem setOf_lt (xs : List Nat) : setOf xs < 18446744073709551616 := setOf_lt' xs 0 (by decide)
def waitsX (cs : List Cl) : List Nat := (List.range cs.length).map (fun i => setOf (aheadTo cs i cs.length))
theorem und77 : Try.prog.underlying 77 = some (.slice 80) := by kernel_rfl

theorem rowS_made (m : Nat) : madeCells #[vS 0] m = ((List.replicate m 0).map vS).toArray := by
  unfold madeCells
  apply Array.ext
  · simp
  · intro i h1 h2
    simp [Nat.mod_one]
theorem make77 (m : Nat) (hm : m ≤ 64) (W : World) : (Instr.makeSlice 77 (vI m) (vI m)).run Try.prog W = .ok (.slice (some ⟨W.heap.size, 0, none⟩) m m) (W.alloc (.cells ((List.replicate m 0).map vS).toArray 80)) := by
  have hi : (Try.prog.info? 80).map (fun i => (i.zero, i.size, i.bytes)) = some (some (vS 0), 1, 8) := by kernel_rfl
  obtain ⟨i, hi, hz, hs, hb⟩ := Go.Proofs.Ytihicdbplmdjiaa.info_parts hi
  have := run_make (P := Try.prog) W 77 80 i (vS 0) und77 hi hz .i64 .i64 m m (by omega) (by omega) (by rw [hb]; omega) (by omega)
  rw [this, hs, show (m : Int).toNat * 1 = m by omega, show (m : Int).toNat = m by omega]
  rw [show (vS 0).cells = #[vS 0] from rfl, rowS_made]

abbrev markD (D : Nat) : Deferred := { target := .collected D, args := #[] }
/-- The marks of the loops that have been gone through are taken away. -/
theorem leaves_marks1 {P : Program} {fn : Func} {tmps : Array Value} {R : Ending → World → Prop} {β : Type} {B n p : Nat} {J : β → World → Prop} {s : β} (hJ : OwnFrom B J) (hr : fn.results = #[.tmp p]) (hR : ∀ W, J s W → R (.returned (tmps.getD p undef)) W) :
    ∀ (ds : List Nat) (W : World), ds.Nodup → (∀ D ∈ ds, B ≤ D ∧ W.heap[D]? = some (.deferred (some []))) → J s W → LeavesInM Fence.wide n P fn tmps R (ds.map markD) .returning W
  | [], W, _, _, h => ⟨tmps.getD p undef, results_tmp hr _ _ _, hR W h⟩
  | D :: ds, W, hn, hd, h => by
    obtain ⟨hB, hD⟩ := hd D List.mem_cons_self
    refine ⟨by simp, Or.inl ⟨D, _, rfl, run_takeDeferred hD, ?_⟩⟩
    refine leaves_marks1 hJ hr hR ds _ (List.nodup_cons.1 hn).2 (fun D' hD' => ?_) (hJ.putObj _ h hB hD rfl)
    have h1 := hd D' (List.mem_cons_of_mem _ hD')
    have hne : D' ≠ D := fun e => (List.nodup_cons.1 hn).1 (e ▸ hD')
    exact ⟨h1.1, (World.putObj_heap_other hne).trans h1.2⟩
/-- Between two rounds of the inner loop. -/
structure WI (n0 B Y : Nat) (pv lv : Array Value) (ws : List Nat) (k : Nat) (ds : List Nat) (w6 : World) (pre : List Nat) (W' : World) : Prop where
  kp : KpA n0 w6 W'
  d : ∀ D ∈ ds, B + 3 ≤ D ∧ D < w6.heap.size ∧ W'.heap[D]? = some (.deferred (some []))
  b : W'.heap[B]? = some (.cells pv 54)
  r : W'.heap[B + 1]? = some (.cells (((ws.set k (setOf pre)).map vS).toArray) 80)
  l : W'.heap[B + 2]? = some (.cells lv 77)
  y : W'.heap[Y]? = some (.cells #[vI k] 3)
theorem WI.own {n0 B Y : Nat} {pv lv : Array Value} {ws : List Nat} {k : Nat} {ds : List Nat} {w6 : World} (hn0 : n0 ≤ w6.heap.size) : OwnFrom w6.heap.size (WI n0 B Y pv lv ws k ds w6) := fun pre A A' row h hg hr => by
  have nc : ∀ (k : Nat) cs t, A.heap[k]? = some (.cells cs t) → A'.heap[k]? = some (.cells cs t) := fun k cs t hk => by
    refine (hg.block k (heap_lt hk) (fun e => ?_)).trans hk
    obtain ⟨-, o, ho, hc⟩ := hr k e.symm
    rw [hk] at ho
    cases ho
    cases hc
  refine ⟨⟨h.kp.below.trans ((Below.refl n0 A).grown hg (by have := h.kp.below.size; omega) (fun k e => by have := (hr k e).1; omega)), fun k cs t hk h1 => nc k cs t (h.kp.typed k cs t hk h1)⟩, fun D hD => ?_, nc _ _ _ h.b, nc _ _ _ h.r, nc _ _ _ h.l, nc _ _ _ h.y⟩
  obtain ⟨h1, h2, h3⟩ := h.d D hD
  exact ⟨h1, h2, (hg.block D (heap_lt h3) (fun e => by have := (hr D e.symm).1; omega)).trans h3⟩
theorem WI.fr {n0 B Y : Nat} {pv lv : Array Value} {ws : List Nat} {k : Nat} {ds : List Nat} {w6 : World} {pre : List Nat} {A A' : World} (h : WI n0 B Y pv lv ws k ds w6 pre A) (hn0 : n0 ≤ w6.heap.size) (f : Fr (fun _ => False) A A') : WI n0 B Y pv lv ws k ds w6 pre A' := by
  have nc : ∀ (k : Nat) (o : Obj), A.heap[k]? = some o → A'.heap[k]? = some o := fun k o hk => (f.block k (heap_lt hk) (fun e => e)).trans hk
  exact ⟨h.kp.trans (KpA.ofFr f (by have := h.kp.below.size; omega)), fun D hD => ⟨(h.d D hD).1, (h.d D hD).2.1, nc _ _ (h.d D hD).2.2⟩, nc _ _ h.b, nc _ _ h.r, nc _ _ h.l, nc _ _ h.y⟩
theorem callsIn_round {m l : Nat} {P : Program} {f : FuncId} {args : Array Value} {w : World} {R : Ending → World → Prop} (h : Calls P f args w R) : CallsIn (Fence.wide.inRound l) m P f args w R := by
  have h2 : CallsIn Fence.wide m P f args w R := callsIn_wide.2 h
  exact ⟨trivial, fun cs _ => h2.2 cs (room_wide _)⟩
theorem below_fr {w w' : World} (h : Below w.heap.size w w') : Fr (fun _ => False) w w' := ⟨h.os, h.tape, h.output, h.size, fun k hk _ => h.block k hk⟩

set_option maxRecDepth 100000 in
set_option maxHeartbeats 4000000 in
theorem waits_in (n : Nat) (hn : 3 ≤ n) (lv : Value) (mb : Nat) (cs : List Cl) (w : World) (h : CAt w lv cs) (hl : cs.length ≤ 64) :
    CallsIn Fence.wide n Try.prog 42 #[pV lv mb] w fun e w' => ∃ v, e = .returned v ∧ RowAt w' v ((waitsX cs).map vS) ∧ Fr (fun _ => False) w w' := by
  obtain ⟨ad, cap, e, -⟩ := id h
  subst e
  obtain ⟨m, em⟩ : ∃ m, m = cs.length := ⟨_, rfl⟩
  have EM : Hd (m = cs.length) := em
  have HC : Hd (CAt w (.slice ad cs.length cap) cs) := h
  unfold pV
  rw [← em] at hl HC ⊢
  clear h em
  refine callsIn_of_wp_marks Try.func42 rfl trivial ?_ rfl
  simp only [Try.ntmps42, List.size_toArray, List.length_cons, List.length_nil, Nat.reduceAdd, Nat.reduceSub, Array.replicate_succ, Array.replicate_zero, List.push_toArray, List.append_toArray, List.nil_append, List.cons_append]
  have hmk := make77 m hl (w.alloc (.cells #[.slice ad m cap, .map (some mb)] 54))
  gi_wp2_with fail
  obtain ⟨WS, eWS⟩ : ∃ WS, WS = ((w.alloc (.cells #[.slice ad m cap, .map (some mb)] 54)).alloc (.cells (Array.replicate m (vS 0)) 80)).alloc (.cells #[.slice (some ⟨w.heap.size + 1, 0, none⟩) m m] 77) := ⟨_, rfl⟩
  have hW : KpA w.heap.size w WS ∧ WS.heap[w.heap.size]? = some (.cells #[.slice ad m cap, .map (some mb)] 54) ∧ WS.heap[w.heap.size + 1]? = some (.cells (((List.replicate m 0).map vS).toArray) 80) ∧ WS.heap[w.heap.size + 2]? = some (.cells #[.slice (some ⟨w.heap.size + 1, 0, none⟩) m m] 77) := by
    rw [eWS]
    have z1 : (w.alloc (.cells #[.slice ad m cap, .map (some mb)] 54)).heap.size = w.heap.size + 1 := by simp
    have z2 : ((w.alloc (.cells #[.slice ad m cap, .map (some mb)] 54)).alloc (.cells (Array.replicate m (vS 0)) 80)).heap.size = w.heap.size + 2 := by simp
    refine ⟨KpA.ofFr ((((Fr.refl _ w).alloc _).alloc _).alloc _) (Nat.le_refl _), ?_, ?_, ?_⟩
    · rw [Below.heap_alloc _ _ _ (by rw [z2]; omega), Below.heap_alloc _ _ _ (by rw [z1]; omega)]
      exact heap_alloc_last w _
    · rw [Below.heap_alloc _ _ _ (by rw [z2]; omega)]
      have := heap_alloc_last (w.alloc (.cells #[.slice ad m cap, .map (some mb)] 54)) (.cells (Array.replicate m (vS 0)) 80)
      rw [z1] at this
      rw [this]
      simp
    · have := heap_alloc_last ((w.alloc (.cells #[.slice ad m cap, .map (some mb)] 54)).alloc (.cells (Array.replicate m (vS 0)) 80)) (.cells #[.slice (some ⟨w.heap.size + 1, 0, none⟩) m m] 77)
      rw [z2] at this
      exact this
  rw [← eWS]
  have HCA : Hd (∀ W', KpA w.heap.size w W' → CAt W' (.slice ad m cap) cs) := fun W' x => HC.out.fr (below_fr x.below)
  obtain ⟨B, eB⟩ : ∃ B, B = w.heap.size := ⟨_, rfl⟩
  rw [← eB] at hW HCA ⊢
  have EB : Hd (B = w.heap.size) := eB
  obtain ⟨hW1, hW2, hW3, hW4⟩ := hW
  clear eWS eB hmk HC
  refine wpIn_loop (fun a' w' => ∃ (k : Nat) (ws : List Nat) (ds : List Nat) (u4 u5 u13 u14 u15 u16 u17 u18 u19 u20 u21 u22 u23 u24 u25 u26 u27 u28 u29 : Value), a' = { tmps := #[.agg #[.slice ad m cap, .map (some mb)], .pointer (some ⟨B, 0, none⟩), .slice none 0 0, .pointer (some ⟨B + 1 + 1, 0, none⟩), u4, u5, .pointer (some ⟨B, 0, none⟩), .slice ad m cap, .int .i64 (m : Int), .slice (some ⟨B + 1, 0, none⟩) m m, .slice (some ⟨B + 1, 0, none⟩) m m, .int .i64 (m : Int), .int .i64 (k : Int), u13, u14, u15, u16, u17, u18, u19, u20, u21, u22, u23, u24, u25, u26, u27, u28, u29], defers := ds.map markD } ∧ k ≤ m ∧ Hd (ws.length = m ∧ (∀ i, i < k → ws[i]? = some (setOf (aheadTo cs i m))) ∧ ∀ i, k ≤ i → i < m → ws[i]? = some 0) ∧ Hd (ds.Nodup) ∧ Hd (∀ D ∈ ds, B + 3 ≤ D ∧ w'.heap[D]? = some (.deferred (some []))) ∧ Hd (KpA B w w') ∧ Hd (w'.heap[B]? = some (.cells #[.slice ad m cap, .map (some mb)] 54)) ∧ Hd (w'.heap[B + 1]? = some (.cells ((ws.map vS).toArray) 80)) ∧ Hd (w'.heap[B + 2]? = some (.cells #[.slice (some ⟨B + 1, 0, none⟩) m m] 77))) (fun a' _ => m - (RowKit.intOf (a'.tmps.getD 12 undef)).toNat) ?_ ?_
  · refine ⟨0, List.replicate m 0, [], undef, undef, undef, undef, undef, undef, undef, undef, undef, undef, undef, undef, undef, undef, undef, undef, undef, undef, undef, ?_, Nat.zero_le _, ⟨by simp, fun i hi => absurd hi (by omega), fun i _ hi => by simp [hi]⟩, List.nodup_nil, fun D hD => by simp at hD, hW1, hW2, hW3, hW4⟩
    rfl
  · rintro a' w' ⟨k, ws, ds, u4, u5, u13, u14, u15, u16, u17, u18, u19, u20, u21, u22, u23, u24, u25, u26, u27, u28, u29, rfl, hk, HWS, HND, HD, HK, HB, HR, HL⟩
    clear hW1 hW2 hW3 hW4
    have hb0 : w'.cell? ⟨B, 0, none⟩ = some (.slice ad m cap) := cell_of HB.out 0
    have hb1 : w'.cell? ⟨B, 1, none⟩ = some (.map (some mb)) := cell_of HB.out 1
    by_cases hlt : k < m
    · have hk0 : (0 : Int) ≤ k := by omega
      have hk1 : (k : Int) < m := by omega
      have hFx : Fr (fun _ => False) w' (w'.alloc (.cells #[vI k] 3)) := Fr.alloc (Fr.refl _ w') _
      have hBl := heap_lt HB.out
      have g0 : (w'.alloc (.cells #[vI k] 3)).cell? ⟨B, 0, none⟩ = some (.slice ad m cap) := (hFx.cell hBl (fun e => e)).trans hb0
      have g1 : (w'.alloc (.cells #[vI k] 3)).cell? ⟨B, 1, none⟩ = some (.map (some mb)) := (hFx.cell hBl (fun e => e)).trans hb1
      have HX : Hd ((w'.alloc (.cells #[vI k] 3)).heap[w'.heap.size]? = some (.cells #[vI k] 3)) := heap_alloc_last w' _
      gi_wp2_with fail
      refine ⟨trivial, (fun h => by cases h), ?_⟩
      refine (callsIn_wide.2 (ahead_any ad m cap mb k (w'.alloc (.cells #[vI k] 3)))).mono ?_
      rintro e w6 ⟨rfl, hw6⟩
      have hs0 : (w'.alloc (.cells #[vI k] 3)).heap.size = w'.heap.size + 1 := by simp
      rw [hs0]
      have hF6 : Fr (fun _ => False) (w'.alloc (.cells #[vI k] 3)) w6 := by rw [hw6]; exact ((Fr.refl _ _).alloc _).alloc _
      have hBp : w6.heap[w'.heap.size + 1]? = some (.cells #[.slice ad m cap, .map (some mb)] 54) := by
        rw [hw6, Below.heap_alloc _ _ _ (by simp), ← hs0]; exact heap_alloc_last _ _
      have hBi : w6.heap[w'.heap.size + 1 + 1]? = some (.cells #[vI k] 3) := by
        have := heap_alloc_last ((w'.alloc (.cells #[vI k] 3)).alloc (.cells #[.slice ad m cap, .map (some mb)] 54)) (.cells #[vI k] 3)
        rw [show ((w'.alloc (.cells #[vI k] 3)).alloc (.cells #[.slice ad m cap, .map (some mb)] 54)).heap.size = w'.heap.size + 1 + 1 by simp] at this
        rw [hw6]; exact this
      have HFw : Hd (Fr (fun _ => False) w' w6) := hFx.trans hF6
      have HX6 : Hd (w6.heap[w'.heap.size]? = some (.cells #[vI k] 3)) := (hF6.block _ (heap_lt HX.out) (fun e => e)).trans HX.out
      have hn6 : B ≤ w6.heap.size := by have := HFw.out.size; omega
      have HK6 : Hd (KpA B w w6) := HK.out.trans (KpA.ofFr HFw.out (by omega))
      have hkc : k < cs.length := by rw [← EM.out]; exact hlt
      have hseq := ahead_gives (n - 1) B (w'.heap.size + 1) (w'.heap.size + 1 + 1) mb k (.slice ad m cap) cs hkc (by rw [← EM.out]; exact hl) w6 hn6 hBp hBi (fun W' x => HCA.out W' (HK6.out.trans x))
      rw [← EM.out] at hseq
      clear g0 g1 hb0 hb1 hFx hF6 HX hw6 hBp hBi hs0 hkc hBl
      gi_wp2_with fail
      have hI0 : WI B B w'.heap.size #[.slice ad m cap, .map (some mb)] #[.slice (some ⟨B + 1, 0, none⟩) m m] ws k ds w6 [] w6 := by
        have nc : ∀ (k : Nat) (o : Obj), w'.heap[k]? = some o → w6.heap[k]? = some o := fun k o hk => (HFw.out.block k (heap_lt hk) (fun e => e)).trans hk
        have hk0' : ws[k]? = some 0 := HWS.out.2.2 k (Nat.le_refl _) hlt
        have e : ws.set k (setOf []) = ws := by
          apply List.ext_getElem?
          intro j
          rw [List.getElem?_set]
          by_cases ej : k = j
          · subst ej
            rw [if_pos rfl, if_pos (by rw [HWS.out.1]; exact hlt), hk0']; rfl
          · rw [if_neg ej]
        exact ⟨KpA.refl _ _, fun D hD => ⟨(HD.out D hD).1, heap_lt (nc _ _ (HD.out D hD).2), nc _ _ (HD.out D hD).2⟩, nc _ _ HB.out, by rw [e]; exact nc _ _ HR.out, nc _ _ HL.out, HX6.out⟩
      refine wpIn_rangeC rfl (by omega) (gf := 62) (fst := #[]) (lb := #[.pointer (some ⟨w'.heap.size + 1, 0, none⟩), .pointer (some ⟨w'.heap.size + 1 + 1, 0, none⟩)]) rfl trivial (enters_of Try.func62 (by kernel_rfl) rfl) hseq (fun _ _ _ _ h1 h2 => h1.trans h2) (fun l' W' r o' hl' h => KpA.putObj o' h (by omega)) (Below.refl _ _) (fun _ => rfl)
        (WI B B w'.heap.size #[.slice ad m cap, .map (some mb)] #[.slice (some ⟨B + 1, 0, none⟩) m m] ws k ds w6) (WI.own hn6) hI0
        (fun z a' W' => a' = { tmps := #[.agg #[.slice ad m cap, .map (some mb)], .pointer (some ⟨B, 0, none⟩), .slice none 0 0, .pointer (some ⟨B + 1 + 1, 0, none⟩), .pointer (some ⟨w'.heap.size, 0, none⟩), vI z, .pointer (some ⟨B, 0, none⟩), .slice ad m cap, .int .i64 (m : Int), .slice (some ⟨B + 1, 0, none⟩) m m, .slice (some ⟨B + 1, 0, none⟩) m m, .int .i64 (m : Int), .int .i64 (k : Int), .bool true, .int .i64 (k : Int), .agg #[.slice ad m cap, .map (some mb)], .int .i64 (k : Int), .func (.func 62) #[] #[.pointer (some ⟨w'.heap.size + 1, 0, none⟩), .pointer (some ⟨w'.heap.size + 1 + 1, 0, none⟩)], vI z, u19, u20, u21, u22, u23, u24, u25, u26, u27, u28, u29], defers := [] })
        (fun z a' _ A A' row h hg hr => h) ?assign ?body ?done
      case assign =>
        intro l' pre z W' K hl' hi hK
        gi_wp2
        exact hK _ _ ⟨Nat.le_refl _, fun j o hj hj2 ho => hj2⟩ (KpA.refl _ _) hi rfl
      case body =>
        rintro l' pre z a' W' hl' hi rfl hlen
        have hwk : k < ws.length := by rw [HWS.out.1]; exact hlt
        obtain ⟨s, es⟩ : ∃ s, s = setOf pre := ⟨_, rfl⟩
        have hsl : s < 18446744073709551616 := by rw [es]; exact setOf_lt pre
        have hr0 : W'.cell? ⟨B + 1, k, none⟩ = some (vS s) := by
          rw [cell_of hi.r, es]
          simp [hwk]
        have hfz : W'.frozen? ⟨B + 1, k, none⟩ = false := frozen_of hi.r k
        have hl0 : W'.cell? ⟨B + 1 + 1, 0, none⟩ = some (.slice (some ⟨B + 1, 0, none⟩) m m) := cell_of hi.l 0
        have hy0 : W'.cell? ⟨w'.heap.size, 0, none⟩ = some (vI k) := cell_of hi.y 0
        have HCw : Hd (∀ wq, Fr (fun _ => False) W' wq → wq.cell? ⟨B + 1 + 1, 0, none⟩ = some (.slice (some ⟨B + 1, 0, none⟩) m m) ∧ wq.cell? ⟨w'.heap.size, 0, none⟩ = some (vI k) ∧ wq.cell? ⟨B + 1, k, none⟩ = some (vS s)) := fun wq f => ⟨(f.cell (cell_lt hl0) (fun e => e)).trans hl0, (f.cell (cell_lt hy0) (fun e => e)).trans hy0, (f.cell (cell_lt hr0) (fun e => e)).trans hr0⟩
        have HS : Hd (s = setOf pre) := es
        clear hr0 hl0 hy0 es
        gi_wp2_with fail
        refine round_region_tail (y := 9) (C := fun w' => Fr (fun _ => False) W' w') (by kernel_rfl) (by kernel_rfl) (by kernel_rfl) (by kernel_rfl) (by decide) (by kernel_rfl) (by kernel_rfl) ⟨rfl, rfl, rfl, Nat.le_refl _, fun _ _ _ => rfl⟩ ?_
        simp only [List.take_succ_cons, List.take_zero]
        repeat (first
         | (refine BigFrame.wpQuietIn_want (fun _ _ _ _ => trivial) rfl ?_
            intro K hK
            apply Exists.intro
            refine ⟨fun wq hw' => ?_, ?_⟩
            · obtain ⟨l0, y0, r0⟩ := HCw.out wq hw'
              unfold Oper.quietAtIn
              go_simp
              first | exact ⟨rfl, rfl⟩ | rfl | exact ⟨trivial, rfl⟩
            refine hK _ ?_
            clear hK K
            go_simp)
         | (refine BigFrame.wpQuietIn_skip (fun _ _ _ _ => trivial) rfl ?_
            go_simp))
        refine BigFrame.wpQuietIn_want (fun _ _ _ _ => trivial) rfl ?_
        intro K hK
        apply Exists.intro
        refine ⟨fun wq hw' => ?_, ?_⟩
        · obtain ⟨l0, y0, r0⟩ := HCw.out wq hw'
          unfold Oper.quietAtIn
          go_simp
          exact ⟨(fun h => by cases h), (callsIn_round (withS_any s z wq hsl)).mono (fun e w2 ⟨he, hF⟩ => ⟨he, by rw [hF]; exact hw'⟩)⟩
        refine hK _ ?_
        clear hK K
        go_simp
        repeat (first
         | (refine BigFrame.wpQuietIn_want (fun _ _ _ _ => trivial) rfl ?_
            intro K hK
            apply Exists.intro
            refine ⟨fun wq hw' => ?_, ?_⟩
            · obtain ⟨l0, y0, r0⟩ := HCw.out wq hw'
              unfold Oper.quietAtIn
              go_simp
              first | exact ⟨rfl, rfl⟩ | rfl | exact ⟨trivial, rfl⟩
            refine hK _ ?_
            clear hK K
            go_simp)
         | (refine BigFrame.wpQuietIn_skip (fun _ _ _ _ => trivial) rfl ?_
            go_simp))
        refine wpQuietIn_nil ?_
        intro w5 hF5
        obtain ⟨l0, y0, r0⟩ := HCw.out w5 hF5
        have hfz5 : w5.frozen? ⟨B + 1, k, none⟩ = false := (hF5.frozen (heap_lt hi.r) (fun e => e)).trans hfz
        have HW5 : Hd (WI B B w'.heap.size #[.slice ad m cap, .map (some mb)] #[.slice (some ⟨B + 1, 0, none⟩) m m] ws k ds w6 pre w5) := hi.fr hn6 hF5
        have hsz : B ≤ W'.heap.size := Nat.le_trans hn6 hi.kp.below.size
        have HK5 : Hd (KpA B W' w5) := KpA.ofFr hF5 hsz
        have hf6 : Fr (fun j => j = B + 1) w5 (w5.setCell ⟨B + 1, k, none⟩ (vS (withS s z))) := Fr.setCell (Fr.refl _ _) _ _ (Or.inl rfl)
        have hb6 : (w5.setCell ⟨B + 1, k, none⟩ (vS (withS s z))).heap[B + 1]? = some (.cells (((ws.set k (setOf (pre ++ [z]))).map vS).toArray) 80) := by
          rw [set_of HW5.out.r k (vS (withS s z)), setOf_snoc, ← HS.out]
          simp [List.set_set, List.map_set]
        clear HCw hfz l0 y0
        refine wpAnyIn_only (k := 9) (by kernel_rfl) rfl rfl ?_
        unfold Oper.wpIn
        refine ⟨fun _ _ => trivial, ?_⟩
        go_simp
        refine wpAnyIn_end (by kernel_rfl) ?_
        have hB2 : B + 2 < w'.heap.size := heap_lt HL.out
        have hk6 : KpA B w5 (w5.setCell ⟨B + 1, k, none⟩ (vS (withS s z))) := ⟨⟨hf6.os, hf6.tape, hf6.output, hf6.size, fun j hj => hf6.block j (by have := HK5.out.below.size; omega) (by omega)⟩, fun j cs t hj ht => by
          by_cases ej : j = B + 1
          · subst ej
            rw [HW5.out.r] at hj
            injection hj with hj
            injection hj with _ e2
            exact absurd e2.symm ht
          · exact (hf6.block j (heap_lt hj) ej).trans hj⟩
        have hn : ∀ (j : Nat) (o : Obj), j ≠ B + 1 → w5.heap[j]? = some o → (w5.setCell ⟨B + 1, k, none⟩ (vS (withS s z))).heap[j]? = some o := fun j o hj h => (hf6.block j (heap_lt h) hj).trans h
        refine ⟨⟨Nat.le_trans hF5.size hf6.size, fun j o hj hj2 ho => ?_⟩, HK5.out.trans hk6, ⟨HW5.out.kp.trans hk6, fun D hD => ⟨(HW5.out.d D hD).1, (HW5.out.d D hD).2.1, hn D _ (by have := (HW5.out.d D hD).1; omega) (HW5.out.d D hD).2.2⟩, hn _ _ (by omega) HW5.out.b, hb6, hn _ _ (by omega) HW5.out.l, hn _ _ (by omega) HW5.out.y⟩⟩
        have h5 := (hF5.block j (heap_lt hj2) (fun e => e)).trans hj2
        by_cases ej : j = B + 1
        · subst ej
          rw [HW5.out.r] at h5
          injection h5 with h5
          subst h5
          cases ho
        · exact hn j _ ej h5
      case done =>
        rintro D xs W' hDl rfl hi hD
        have hi2 := hi
        have HDn : Hd ((D :: ds).Nodup) := List.nodup_cons.2 ⟨fun h => by have := (hi.d D h).2.1; omega, HND.out⟩
        have HDs : Hd (∀ D' ∈ D :: ds, B + 3 ≤ D' ∧ W'.heap[D']? = some (.deferred (some []))) := fun D' h => by
          rcases List.mem_cons.1 h with e | h
          · subst e; exact ⟨by have := heap_lt HL.out; have := HFw.out.size; omega, hD⟩
          · exact ⟨(hi.d D' h).1, (hi.d D' h).2.2⟩
        have HKW : Hd (KpA B w W') := HK6.out.trans hi.kp
        have HI : Hd (WI B B w'.heap.size #[.slice ad m cap, .map (some mb)] #[.slice (some ⟨B + 1, 0, none⟩) m m] ws k ds w6 (aheadTo cs k m) W') := hi
        have HWS2 : Hd ((ws.set k (setOf (aheadTo cs k m))).length = m ∧ (∀ i, i < k + 1 → (ws.set k (setOf (aheadTo cs k m)))[i]? = some (setOf (aheadTo cs i m))) ∧ ∀ i, k + 1 ≤ i → i < m → (ws.set k (setOf (aheadTo cs k m)))[i]? = some 0) := by
          refine ⟨by rw [List.length_set]; exact HWS.out.1, fun i h1 => ?_, fun i h1 h2 => ?_⟩
          · rw [List.getElem?_set]
            by_cases e : k = i
            · subst e; rw [if_pos rfl, if_pos (by rw [HWS.out.1]; exact hlt)]
            · rw [if_neg e]; exact HWS.out.2.1 i (by omega)
          · rw [List.getElem?_set, if_neg (by omega)]
            exact HWS.out.2.2 i (by omega) h2
        clear hi hi2 hD
        gi_wp2
        refine ⟨⟨k + 1, ws.set k (setOf (aheadTo cs k m)), D :: ds, ?_⟩, ?_⟩
        · (repeat apply Exists.intro)
          refine ⟨?e, by omega, HWS2.out, HDn.out, HDs.out, HKW.out, HI.out.b, HI.out.r, HI.out.l⟩
          rfl
        · simp [RowKit.intOf]; omega
    · have hkm : k = m := by omega
      subst hkm
      have hl0 : w'.cell? ⟨B + 1 + 1, 0, none⟩ = some (.slice (some ⟨B + 1, 0, none⟩) k k) := cell_of HL.out 0
      have hws : ws = waitsX cs := by
        apply List.ext_getElem?
        intro j
        unfold waitsX
        rw [← EM.out, List.getElem?_map]
        by_cases hj : j < k
        · rw [HWS.out.2.1 j hj, List.getElem?_range hj]; rfl
        · rw [List.getElem?_eq_none (by rw [HWS.out.1]; omega), List.getElem?_eq_none (by simp; omega)]; rfl
      gi_wp2
      refine leaves_marks1 (J := fun (_ : Unit) W => W.heap[B + 1]? = some (.cells ((ws.map vS).toArray) 80) ∧ Below B w W) (B := B + 3) (s := ()) (p := 2) ?_ rfl ?_ ds w' HND.out (fun D hD => HD.out D hD) ⟨HR.out, HK.out.below⟩
      · intro _ A A' row h hg hr
        refine ⟨(hg.block _ (heap_lt h.1) (fun e => by have := (hr _ e.symm).1; omega)).trans h.1, h.2.trans ((Below.refl B A).grown hg (by have := EB.out; have := h.2.size; omega) (fun k e => by have := (hr k e).1; omega))⟩
      · rintro W ⟨h1, h2⟩
        refine ⟨_, rfl, ⟨some ⟨B + 1, 0, none⟩, k, by simp [← hws, HWS.out.1], fun _ => ⟨B + 1, 0, rfl, fun i hi => ?_⟩⟩, below_fr (by rw [← EB.out]; exact h2)⟩
        rw [cell_of h1, hws, Nat.zero_add]
        simp at hi
        simp [hi]
end Go.Proofs.Ytihicdbplmdjiaa
