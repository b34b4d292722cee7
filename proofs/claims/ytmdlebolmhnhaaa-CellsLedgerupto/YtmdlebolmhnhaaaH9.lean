import Derived.Test.YtmdlebolmhnhaaaH8
namespace Go.Proofs.Ytmdlebolmhnhaaa
open Go.RowKit (wrap32 wrap64)
open Go.Maps (Keyed)
set_option linter.unusedVariables false
set_option linter.unusedSimpArgs false

theorem thereL_mem {E : List Ent} {m : Nat} (h : m < (thereL (ms E) E.length).length) : ∃ c r, (thereL (ms E) E.length)[m]? = some c ∧ c < E.length ∧ E[c]? = some r ∧ r.m.there = true := by
  have hm : (thereL (ms E) E.length)[m] ∈ thereL (ms E) E.length := List.getElem_mem h
  have h2 := List.mem_filter.1 hm
  have hc : (thereL (ms E) E.length)[m] < E.length := List.mem_range.1 h2.1
  refine ⟨_, E[(thereL (ms E) E.length)[m]], List.getElem?_eq_getElem h, hc, List.getElem?_eq_getElem hc, ?_⟩
  rw [← thereB_ms (List.getElem?_eq_getElem hc)]
  exact h2.2

set_option maxRecDepth 100000 in
set_option maxHeartbeats 2000000 in
/-- act, of a cell that is dropped. -/
theorem act_drop (w0 : World) (b : Nat) (g : Gh) (a : Abs) (lb d : Nat) (av : Value) (E : List Ent) (o : ActR) (w : World) (h : Both w0 w b g a lb d av E) (hq : Sq a d (ms E)) {N : Nat} (hf : Fine N a) (hN : N + 1 ≤ 2000000000000) (h4 : o.kind = 4) :
    Calls Try.prog 22 #[ptr lb, actV o] w (ActEnds w0 b lb N) := by
  have hmd : a.made = E.length := by have := hq.made; simpa [ms] using this
  have hE : E.length ≤ N := by have := hf.made; omega
  have hFA : Fr (fun _ => False) w (w.alloc (.cells (actC o) 55)) := Fr.alloc (Fr.refl _ w) _
  have HB : Hd _ := h.keep hFA
  have HQ : Hd _ := hq
  have HF : Hd _ := hf
  have A1 := heap_alloc_last w (.cells (actC o) 55)
  obtain ⟨k0, n0, hp0, f0, x0⟩ := o
  obtain rfl : k0 = 4 := h4
  clear h hq hf hmd hFA
  go_enter Try.func22, Try.ntmps22
  go_wp2_with fail
  generalize w.alloc (.cells (actC ⟨4, n0, hp0, f0, x0⟩) 55) = w1 at *
  obtain ⟨ob, hob⟩ : ∃ ob, ob = w.heap.size := ⟨_, rfl⟩
  rw [← hob] at A1 ⊢
  clear hob
  refine (show Calls Try.prog 33 #[ptr lb] w1 _ from there_any w0 b g a lb d av E w1 HB.out (by omega)).mono ?_
  rintro e w2 ⟨v1, rfl, hr1, hF1⟩
  have HB2 : Hd _ := HB.out.keep hF1
  have A2 := (hF1.block ob (heap_lt A1) (fun h => h)).trans A1
  have hmem := @thereL_mem E
  have hln := thereL_len (ms E) E.length
  obtain ⟨ts, hts⟩ : ∃ ts, thereL (ms E) E.length = ts := ⟨_, rfl⟩
  rw [hts] at hr1 hmem hln
  obtain ⟨la, lc, rfl, hla⟩ := row_shape hr1
  have HL : Hd _ := hr1
  have HMEM : Hd _ := @hmem
  clear hr1 hF1 A1 HB hts hmem
  have p0 : w2.cell? ⟨ob, 0, none⟩ = some (vI 4) := by rw [cell_of A2]; rfl
  have p1 : w2.cell? ⟨ob, 1, none⟩ = some (vI n0) := by rw [cell_of A2]; rfl
  obtain ⟨c0, c1, c2⟩ := HB2.out.led.heads
  clear A2
  by_cases ht : ts.length = 0
  · rw [ht]
    go_wp2_with fail
    go_ret
    exact ⟨rfl, g, a, d, av, E, HB2.out, HQ.out, HF.out.mono (Nat.le_succ N)⟩
  · obtain ⟨m, hm, hml⟩ := mod_lt n0 ts.length (by omega)
    obtain ⟨c, r, hc, hcE, hr, hrt⟩ := HMEM.out hml
    obtain ⟨lg, rfl⟩ := hla (by omega)
    obtain ⟨ad, cap, rfl, had⟩ := row_shape HB2.out.led.row
    obtain ⟨ab, rfl⟩ := had (by omega)
    have l0 : w2.cell? ⟨lg, m, none⟩ = some (vI c) := row_cell HL.out (by rw [List.getElem?_map, hc]; rfl)
    have hm0 : (0 : Int) ≤ m := by omega
    have hm1 : (m : Int) < ts.length := by omega
    have hc0 : (0 : Int) ≤ c := by omega
    have hc1 : (c : Int) < E.length := by omega
    have hpos : decide ((0 : Int) < (ts.length : Int)) = true := by simp; omega
    obtain ⟨cur, hcur⟩ : ∃ cur, w2.heap[ab]? = some (.cells cur 76) := row_block HB2.out.led.row
    have z4 : w2.frozen? ⟨ab, c * 5 + 4, none⟩ = false := frozen_of hcur _
    have q4 := (HB2.out.led.cells rfl hr).2.2.2.2
    have HB3 : Hd (Both w0 (w2.setCell ⟨ab, c * 5 + 4, none⟩ (.bool false)) b g a lb d (.slice (some ⟨ab, 0, none⟩) E.length cap) (E.set c { r with m := { r.m with there := false } })) :=
      HB2.out.entry rfl hr (r' := { r with m := { r.m with there := false } }) rfl rfl rfl (j := 4) (by omega) rfl
    have HR : Hd _ := hr
    have HRT : Hd _ := hrt
    have HM : Hd _ := hm
    clear hcur hr hrt hc hla had
    go_wp2_with fail
    refine (show Calls Try.prog 13 #[vI n0, .int .i64 (ts.length : Int)] w2 _ from mod_big n0 ts.length (by omega) (by omega) w2).mono ?_
    rintro e w3 ⟨rfl, rfl⟩
    rw [show n0 % (ts.length : Int) = m from HM.out]
    go_wp2_with fail
    generalize w3.setCell ⟨ab, c * 5 + 4, none⟩ (.bool false) = w4 at *
    have HLB : Hd (∀ k, (Value.slice (some ⟨ab, 0, none⟩) E.length cap) = .slice (some ⟨ab, 0, none⟩) (E.set c k).length cap) := fun k => by rw [List.length_set]
    clear c0 c1 c2 p0 p1 l0 z4 q4
    obtain ⟨c0, c1, c2⟩ := HB3.out.led.heads
    have hget : (E.set c { r with m := { r.m with there := false } })[c]? = some { r with m := { r.m with there := false } } := List.getElem?_set_self hcE
    have q0 := (HB3.out.led.cells (HLB.out _) hget).1
    have hnum := HB3.out.led.num c _ hget
    simp only at q0 hnum
    rw [hnum] at q0
    clear hget hnum
    obtain ⟨hd0, hsq⟩ := HQ.out.drop (ms_get HR.out) HRT.out
    have HSQ : Hd _ := hsq
    have HBd : Hd (Both w0 (w4.alloc (.cells #[vI ((c + 1 : Nat) : Int)] 3)).drew b g a lb d (.slice (some ⟨ab, 0, none⟩) E.length cap) (E.set c { r with m := { r.m with there := false } })) := (HB3.out.keep (Fr.alloc (Fr.refl _ w4) _)).keep (Fr.drew (Fr.refl _ _))
    have B4 : (w4.alloc (.cells #[vI ((c + 1 : Nat) : Int)] 3)).drew.heap[w4.heap.size]? = some (.cells #[vI ((c + 1 : Nat) : Int)] 3) := heap_alloc_last w4 _
    have hI : IntsAt (w4.alloc (.cells #[vI ((c + 1 : Nat) : Int)] 3)).drew.heap.size (w4.alloc (.cells #[vI ((c + 1 : Nat) : Int)] 3)).drew (.slice (some ⟨w4.heap.size, 0, none⟩) [((c + 1 : Nat) : Int)].length 1) [((c + 1 : Nat) : Int)] := by
      refine Or.inr ⟨w4.heap.size, 0, 1, rfl, heap_lt B4, fun j hj => ?_⟩
      have : j = 0 := by simp at hj; omega
      subst this
      rw [cell_of B4]
      rfl
    have hdr := drop_any b g a (some ⟨w4.heap.size, 0, none⟩) 1 [((c + 1 : Nat) : Int)] _ HBd.out.mem hI (fun _ j hj => by
      cases hj
      by_cases h0 : g.own w4.heap.size = 0
      · exact h0
      · have := HB3.out.mem.olt _ h0; omega) (by simp) HF.out (by omega)
    have HDR : Hd _ := hdr
    have HD0 : Hd _ := hd0
    have HFI : Hd (Fine (N + 1) (dropX a [((c + 1 : Nat) : Int)]).1) := (HF.out.drop _).mono (Nat.le_succ N)
    have hlb4 : lb < w4.heap.size := heap_lt HB3.out.led.blk
    have hab4 : ab < w4.heap.size := (HB3.out.led.lt (Or.inr (Or.inl rfl))).2
    have hci : ((c + 1 : Nat) : Int) = (c : Int) + 1 := by omega
    rw [hci] at HDR HD0 HBd HSQ HFI q0
    clear hd0 hsq hdr hI B4 hci
    go_region_with (
      go_at_call 32
      refine (show Calls Try.prog 32 #[ptr b, .slice (some ⟨w4.heap.size, 0, none⟩) 1 1] (w4.alloc (.cells #[vI ((c : Int) + 1)] 3)).drew _ from HDR.out).mono ?_
      rintro e w5 ⟨g', rfl, hM5, hF5, hE5⟩
      rw [show (dropX a [(c : Int) + 1]).2 = 0 from HD0.out]
      have HB5 : Hd _ := HBd.out.call hM5 hF5 hE5
      clear hM5 hF5 hE5)
    all_goals
      go_wp2_with fail
      go_ret
      refine ⟨rfl, g', _, d, _, _, HB5.out, ?_, HFI.out⟩
      rw [ms_set]
      exact HSQ.out

end Go.Proofs.Ytmdlebolmhnhaaa
