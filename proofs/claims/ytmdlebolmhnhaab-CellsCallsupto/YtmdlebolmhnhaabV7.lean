import Derived.Test.YtmdlebolmhnhaabS4J
namespace Go.Proofs.Ytmdlebolmhnhaab
open Go.RowKit Go.Shelf Go.Sort
open Go.Maps (Keyed)
set_option linter.unusedVariables false
set_option linter.unusedSimpArgs false

/-- len(m) amid operations that only read. -/
theorem wpStill_len_map {P : Program} {ops : Array Oper} {w : World} {Q : Act → Prop} {a : Act} {o : Oper} {rest : List Oper} (hg : o.guard = none) (m : Operand) (t : TypeId) (hop : o.op = Op.call { callee := Callee.builtin Builtin.len, args := #[m], argTypes := #[t] })
    (k e : TypeId) (ht : P.underlying t = some (.map k e)) (R : Value → Option (DataW Unit × List MemPlace)) (b n : Nat) (D : DataW Unit) (hm : a.eval m = .map (some b)) (hown : w.ownsMap P k R b n D)
    (hK : wpStill P ops w Q rest (a.put o.dst (.int .i64 (Maps.size D)))) : wpStill P ops w Q (o :: rest) a := by
  refine wpStill_step (fun K hK' => ?_)
  have hw : Region.wanted o (yielded ops a.tmps) = true := by simp [Region.wanted, hg]
  rw [if_pos hw]
  unfold Oper.still
  simp [execOp, hop, resolve, invoke, builtin, hm, hown.len ht o.type, Result.andThen]
  rw [Oper.stillUpon_value]
  exact hK' _ hK

theorem size_live {w : World} {b : Nat} {g : Gh} {a : Abs} (h : Mem w b g a) {es : Array MapEntry} {clock : Nat} (hb : w.heap[g.tb]? = some (.map es clock)) : es.size = (liveN a).length := by
  have h1 := (live_perm h).length_eq
  obtain ⟨es', clock', hb', Ft, hs, hD⟩ := h.map
  rw [hb] at hb'
  cases hb'
  rw [hD] at h1
  simp only [intKeys, List.length_map, length_sorted, Array.length_toList] at h1
  simp only [liveX, List.length_map] at h1
  omega

/-- What DeleteFunc does with the list of what passes. -/
theorem thin_call (b bx : Nat) (g : Gh) (a : Abs) (v : World) (h : Mem v b g a) (hx : v.cell? ⟨bx, 0, none⟩ = some (ptr b)) (hbo : g.own bx = 0) (hbl : bx < v.heap.size) {g7 cap : Nat} (hv : g.ps = .slice (some ⟨g7, 0, none⟩) a.pss.length cap) (hp : ∀ p ∈ a.pss, p ≤ 9000000000000000000) (hl : a.pss.length ≤ 10000000000000) :
    ∃ ts : List Num, ts.length = a.pss.length ∧ (ts.take (a.pss.filter fun p => (a.cells p).isSome).length).map encN = (a.pss.filter fun p => (a.cells p).isSome).map (fun p : Nat => vI p) ∧
    Calls Try.prog 54 #[.slice (some ⟨g7, 0, none⟩) a.pss.length cap, .func (.func 55) #[] #[.pointer (some ⟨bx, 0, none⟩)]] v fun e w' => e = .returned (.slice (some ⟨g7, 0, none⟩) (a.pss.filter fun p => (a.cells p).isSome).length cap) ∧ ∃ q, w' = putRow encN (Sort.ahead v q) g7 0 ts.toArray := by
  have ho : g.own g7 = 5 := h.ops g7 (by rw [hv]; rfl)
  obtain ⟨ns, hns⟩ : ∃ ns : List Num, ns.map (fun x => x.1) = a.pss := ⟨a.pss.pmap Subtype.mk hp, by rw [List.map_pmap]; simp⟩
  have hlen : ns.length = a.pss.length := by rw [← hns]; simp
  have hfil : (ns.filter fun x => (a.cells x.1).isSome).map (fun x => x.1) = a.pss.filter fun p => (a.cells p).isSome := by
    rw [← hns, List.filter_map]; rfl
  have hfl : (ns.filter fun x => (a.cells x.1).isSome).length = (a.pss.filter fun p => (a.cells p).isSome).length := by rw [← hfil, List.length_map]
  have hle := List.length_filter_le (fun x : Num => (a.cells x.1).isSome) ns
  have fn : ∀ (W : World) (x : Num), Fr (fun k => k = g7) v W → FnGives Try.prog 55 #[.pointer (some ⟨bx, 0, none⟩)] #[encN x] (.bool (!(a.cells x.1).isSome)) W := by
    intro W x hF
    have hx' : W.cell? ⟨bx, 0, none⟩ = some (ptr b) := (hF.cell hbl (fun e => by rw [e, ho] at hbo; omega)).trans hx
    have hc' : W.cell? ⟨b, 2, none⟩ = some (.map (some g.tb)) := (hF.cell h.lt (ne_own h.ob ho (by omega))).trans h.facts.2.2.1
    have ho' := ownsMap_fr h.map hF (ne_own h.ot ho (by omega))
    refine (gone48 b bx g.tb a.made g.D x.1 x.2 W hx' hc' ho').mono ?_
    rintro e w' ⟨rfl, rfl⟩
    exact ⟨by rw [h.has x.1], 0, rfl⟩
  have hold : Holds encN v g7 0 ns.toArray := by
    intro j hj
    have hj' : j < ns.length := by simpa using hj
    have e : (a.pss.map fun n : Nat => vI n)[j]? = some (encN ns.toArray[j]!) := by
      rw [← hns]
      simp [hj', encN]
    have := World.ownsRow.cells h.pss (g := g7) (by rw [hv]; rfl) j _ e
    rw [addr_add] at this
    refine ⟨by rw [Nat.zero_add]; exact this, ?_⟩
    rcases h.pss.2 with ⟨h2, -⟩ | ⟨g8, cap', cur, e, h3, h4, -⟩
    · rw [hv] at h2; cases h2
    · rw [hv] at e; cases e; exact frozen_of h4 _
  have cD := deleteFunc_any encN encN_one (fun x => !(a.cells x.1).isSome) 55 #[.pointer (some ⟨bx, 0, none⟩)] (enters_of Try.func55 (by kernel_rfl) rfl) ⟨0, by omega⟩ (fun _ => by kernel_rfl) g7 0 cap ns.toArray v
    (fun W x hb => fn W x ⟨hb.os, hb.tape, hb.output, hb.size, fun k hk _ => hb.block k hk⟩) (fun m os dk x _ => fn _ x (sortWorld_fr encN v g7 0 m dk os)) hold (by simp; omega) (by
      rcases h.pss.2 with ⟨h2, -⟩ | ⟨g8, cap', cur, e, h3, h4, h5, -⟩
      · rw [hv] at h2; cases h2
      · rw [hv] at e; cases e; simp; omega)
  simp only [Bool.not_not, List.size_toArray, hlen, hfl] at cD
  refine ⟨_, ?_, ?_, cD⟩
  · simp only [List.length_append, List.length_replicate, hfl]
    omega
  · rw [List.take_append_of_le_length (by rw [hfl]; exact Nat.le_refl _), List.take_of_length_le (by rw [hfl]; exact Nat.le_refl _), ← hfil, List.map_map]
    rfl

set_option maxRecDepth 100000 in
set_option maxHeartbeats 2000000 in
theorem forget_any (b : Nat) (g : Gh) (a : Abs) (w : World) (h : Mem w b g a) {N : Nat} (hf : Fine N a) (hN : N ≤ 10000000000000) :
    Calls Try.prog 47 #[ptr b] w fun e w' => e = .returned (.tuple #[]) ∧ ∃ ps', Mem w' b { g with ps := ps' } (forgetX a) ∧ Fr (fun j => g.own j ≠ 0) w w' := by
  have hA1 := heap_alloc_last w (.cells #[ptr b] 33)
  have hF1 : Fr (fun _ => False) w (w.alloc (.cells #[ptr b] 33)) := Fr.alloc (Fr.refl _ w) _
  have hM1 := h.keep hF1
  obtain ⟨es, clock, hes, -⟩ := hM1.map
  have hsz := size_live hM1 hes
  have e1 := hf.made
  have e3 := hf.pss
  have hlb : (liveN a).length ≤ 20000000000000 := by
    have := List.length_filter_le (fun i => (a.cells i).isSome) (List.range (a.made + 1))
    simp only [List.length_range] at this
    unfold liveN
    omega
  obtain ⟨ad, cap, hv⟩ := row_slice hM1.pss
  have hbl := h.lt
  go_enter Try.func47, Try.ntmps47
  go_wp2_with fail
  obtain ⟨bx, hbx⟩ : ∃ bx, bx = w.heap.size := ⟨_, rfl⟩
  have hbo : g.own bx = 0 := by
    by_cases h0 : g.own bx = 0
    · exact h0
    · have := h.olt _ h0; omega
  rw [← hbx] at hA1 ⊢
  generalize w.alloc (.cells #[ptr b] 33) = w1 at *
  clear hbx
  have c0 : w1.cell? ⟨bx, 0, none⟩ = some (ptr b) := by rw [cell_of hA1]; rfl
  have f2 := hM1.facts.2.2.1
  have f4 : w1.cell? ⟨b, 4, none⟩ = some (.slice ad a.pss.length cap) := by rw [← hv]; exact hM1.facts.2.2.2.2
  have HM1 : Hd _ := hM1
  have HF1 : Hd _ := hF1
  have HV : Hd _ := hv
  have HH : Hd _ := h
  clear hM1 hF1 hv h
  refine wp_region_still_tail 11 mixed (by kernel_rfl) ?_
  simp only [List.take_succ_cons, List.take_zero, List.drop_succ_cons, List.drop_zero]
  repeat still_step
  refine wpStill_len_map rfl (.tmp 10) 58 rfl 3 53 under61 Rc g.tb a.made g.D rfl (HM1.out.drew.map) ?_
  simp only [Act.put, List.setIfInBounds_toArray, List.set_cons_succ, List.set_cons_zero]
  repeat still_step
  refine wpStill_nil ?_
  have hszD : Maps.size g.D = (liveN a).length := by
    obtain ⟨es', clock', hb', -, -, hD⟩ := HM1.out.map
    have h1 := (live_perm HM1.out).length_eq
    rw [hD] at h1 ⊢
    simp only [intKeys, List.length_map, Maps.size_eq] at h1 ⊢
    simp only [liveX, List.length_map] at h1
    omega
  rw [hszD]
  rw [show IntKind.i64.wrap (2 * (((liveN a).length : Nat) : Int)) = ((2 * (liveN a).length : Nat) : Int) by rw [IntKind.wrap_i64]; omega]
  have HFX : Hd (forgetX a = if 2 * (liveN a).length < a.pss.length then { a with pss := a.pss.filter fun p => (a.cells p).isSome } else a) := rfl
  generalize (liveN a).length = sz at *
  clear hszD hsz hes hlb
  by_cases hlt : 2 * sz < a.pss.length
  · have HX : Hd (forgetX a = { a with pss := a.pss.filter fun p => (a.cells p).isSome }) := by unfold Hd; rw [HFX.out, if_pos hlt]
    have dlt : decide (((2 * sz : Nat) : Int) < a.pss.length) = true := by simp; omega
    go_wp2_with fail
    obtain ⟨g7, rfl⟩ : ∃ g7, ad = some ⟨g7, 0, none⟩ := by
      rcases HM1.out.pss.2 with ⟨-, e0⟩ | ⟨g7, cap', cur, e, -⟩
      · omega
      · have hv' := (show g.ps = _ from HV.out).symm.trans e
        cases hv'
        exact ⟨g7, rfl⟩
    have HM2 : Hd (Mem w1.drew.drew b g a) := HM1.out.drew.drew
    have HF2 : Hd (Fr (fun _ => False) w w1.drew.drew) := HF1.out.drew.drew
    have hbl1 := heap_lt hA1
    obtain ⟨ts, t1, t2, hcall⟩ := thin_call b bx g a w1.drew.drew HM2.out c0 hbo hbl1 HV.out (fun p hp => by have := hf.pbd p hp; omega) (by omega)
    have hnb : bx ≠ b := fun e => by rw [e, HH.out.ob] at hbo; omega
    have c0' : w1.drew.cell? ⟨bx, 0, none⟩ = some (ptr b) := c0
    have f4' : w1.drew.cell? ⟨b, 4, none⟩ = some (.slice (some ⟨g7, 0, none⟩) a.pss.length cap) := f4
    have hbl' : b < w1.drew.heap.size := HM1.out.lt
    have HT1 : Hd _ := t1
    have HT2 : Hd _ := t2
    have HHM : Hd (∀ w3 q, w3 = putRow encN (Sort.ahead w1.drew.drew q) g7 0 ts.toArray → w3.cell? ⟨bx, 0, none⟩ = some (ptr b) ∧ w3.cell? ⟨b, 4, none⟩ = some (.slice (some ⟨g7, 0, none⟩) a.pss.length cap) ∧ w3.frozen? ⟨b, 4, none⟩ = false ∧ b < w3.heap.size ∧
        Mem (w3.setCell ⟨b, 4, none⟩ (.slice (some ⟨g7, 0, none⟩) (a.pss.filter fun p => (a.cells p).isSome).length cap)) b { g with ps := .slice (some ⟨g7, 0, none⟩) (a.pss.filter fun p => (a.cells p).isSome).length cap } { a with pss := a.pss.filter fun p => (a.cells p).isSome } ∧ Fr (fun j => g.own j ≠ 0) w1.drew.drew (w3.setCell ⟨b, 4, none⟩ (.slice (some ⟨g7, 0, none⟩) (a.pss.filter fun p => (a.cells p).isSome).length cap))) := by
      intro w3 q hw3
      obtain ⟨k1, k2, k3⟩ := HM2.out.thin HV.out (a.pss.filter fun p => (a.cells p).isSome) ts HT1.out (List.length_filter_le _ _) HT2.out hw3
      have hF3 : Fr (fun k => k = g7) w1.drew.drew w3 := by
        have := sortWorld_fr encN w1.drew.drew g7 0 q ts.toArray #[]
        rw [hw3]
        simpa [sortWorld] using this
      have ho : g.own g7 = 5 := HM1.out.ops g7 (by rw [show g.ps = _ from HV.out]; rfl)
      have hb3 : w3.heap[b]? = some (.cells (memC g a) 60) := k3.trans HM2.out.blk0
      refine ⟨(hF3.cell hbl1 (fun e => by rw [e, ho] at hbo; omega)).trans c0, ?_, frozen_of hb3 4, heap_lt hb3, k1, k2⟩
      rw [cell_of hb3, ← show g.ps = _ from HV.out]; rfl
    clear t1 t2
    generalize w1.drew = v1 at *
    clear c0 f4 f2
    go_region_with (
      go_at_call 54
      refine hcall.mono ?_
      rintro e w3 ⟨rfl, q, hw3⟩
      obtain ⟨r1, r2, r3, r4, r5, r6⟩ := HHM.out w3 q hw3
      have R5 : Hd _ := r5
      have R6 : Hd _ := r6
      clear r5 r6 hw3)
    all_goals
      go_wp2_with fail
      go_end0
      rw [HX.out]
      exact ⟨rfl, _, R5.out, (HF2.out.mono (fun _ _ h => h.elim)).trans R6.out⟩
  · have HX : Hd (forgetX a = a) := by unfold Hd; rw [HFX.out, if_neg hlt]
    have dlt : decide (((2 * sz : Nat) : Int) < a.pss.length) = false := by simp; omega
    go_wp2_with fail
    go_end0
    rw [HX.out]
    exact ⟨rfl, g.ps, HM1.out.drew, (HF1.out.drew).mono (fun _ _ h => h.elim)⟩

end Go.Proofs.Ytmdlebolmhnhaab
