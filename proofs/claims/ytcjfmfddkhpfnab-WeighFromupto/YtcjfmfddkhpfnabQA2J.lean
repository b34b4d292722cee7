import Derived.Test.YtcjfmfddkhpfnabQA1J
import Derived.Laws.MathBits
import Derived.Laws.CopyOwn
import Derived.Laws.MakeOwn
namespace Go.Proofs.Ytcjfmfddkhpfnab
open Go.RowKit (wrap32 wrap64)
set_option linter.unusedVariables false
set_option linter.unusedSimpArgs false

theorem mul64_one (n : Nat) (hn : n ≤ 1048577) (w : World) : Calls Try.prog 34 #[.int .u64 1, .int .u64 n] w fun e w' => e = .returned (.tuple #[.int .u64 0, .int .u64 n]) ∧ w' = w := by
  have e1 : bits .and .u64 1 4294967295 = 1 := by kernel_rfl
  have e2 : bits .and .u64 (n : Int) 4294967295 = n := by rw [and_low32 _ (by omega) (by omega)]; omega
  have e3 : bits .and .u64 0 4294967295 = 0 := by kernel_rfl
  have e4 : (n : Int) / 4294967296 = 0 := by omega
  have e5 : IntKind.u64.wrap (n : Int) = n := by simp [IntKind.wrap, IntKind.bits, IntKind.signed]; omega
  have e6 : IntKind.u64.wrap (0 : Int) = 0 := by kernel_rfl
  go_enter Try.func34, Try.ntmps34
  go_wp2
  go_ret2
  exact ⟨rfl, rfl⟩

theorem mul_one (n : Nat) (hn : n ≤ 1048577) (w : World) : Calls Try.prog 31 #[.int .u64 1, .int .u64 n] w fun e w' => e = .returned (.tuple #[.int .u64 0, .int .u64 n]) ∧ w' = w := by
  go_enter Try.func31, Try.ntmps31
  go_wp2_with fail
  refine (mul64_one n hn w).mono ?_
  rintro e w1 ⟨rfl, rfl⟩
  go_wp2_with fail
  go_ret2
  exact ⟨rfl, rfl⟩

theorem run_make_of (t e : TypeId) (z : Value) (size bytes : Nat) (ht : Try.prog.underlying t = some (.slice e)) (hz : (Try.prog.info? e).map (·.zero) = some (some z)) (hs : (Try.prog.info? e).map (·.size) = some size) (hb : (Try.prog.info? e).map (·.bytes) = some bytes)
    (n : Nat) (hn : bytes * n ≤ 281474976710656) (hn' : n ≤ 1000000000000000) (w : World) :
    (Instr.makeSlice t (.int .i64 n) (.int .i64 n)).run Try.prog w = .ok (.slice (some ⟨w.heap.size, 0, none⟩) n n) (w.alloc (.cells (madeCells z.cells (n * size)) e)) := by
  cases hi : Try.prog.info? e with
  | none => rw [hi] at hz; cases hz
  | some i =>
    rw [hi] at hz hs hb
    simp only [Option.map_some, Option.some.injEq] at hz hs hb
    have := run_make (P := Try.prog) w t e i z ht hi hz .i64 .i64 n n (by omega) (by omega) (by rw [hb, ← Int.natCast_mul]; omega) (by omega)
    rw [this, hs]
    simp
theorem made_one (z : Value) (n : Nat) : madeCells #[z] n = (List.replicate n z).toArray := by
  unfold madeCells
  apply Array.ext
  · simp
  · intro i h1 h2
    simp [Nat.mod_one]

theorem under22 : Try.prog.underlying 29 = some (.slice 3) := by kernel_rfl
theorem size3 : (Try.prog.info? 3).map (·.size) = some 1 := by kernel_rfl

/-- So many of n are 9. -/
def nines (n k : Nat) : List Value := List.replicate k (vI 9) ++ List.replicate (n - k) (vI 0)
theorem nines_length (n k : Nat) (h : k ≤ n) : (nines n k).length = n := by simp [nines]; omega
theorem nines_zero (n : Nat) : nines n 0 = List.replicate n (vI 0) := by simp [nines]
theorem nines_all (n : Nat) : nines n n = List.replicate n (vI 9) := by simp [nines]
theorem nines_splice (n k m : Nat) (h : k + m ≤ n) : splice (nines n k) k (List.replicate m (vI 9)) = nines n (k + m) := by
  unfold splice nines
  rw [List.take_append_of_le_length (by simp), List.take_of_length_le (by simp), List.drop_append]
  simp only [List.length_replicate, List.drop_replicate]
  rw [show k - (k + m) = 0 by omega, show n - k - (k + m - k) = n - (k + m) by omega]
  rw [← List.append_assoc, List.replicate_append_replicate]
  simp
theorem nines_get (n k j : Nat) (h : j < k) : (nines n k)[j]? = some (vI 9) := by
  unfold nines
  rw [List.getElem?_append_left (by simpa using h)]
  simp [List.getElem?_replicate, h]

theorem below_fr {B : Nat} {w w' : World} (h : RowKit.Below B w w') (hB : B = w.heap.size) : Fr (fun _ => False) w w' :=
  ⟨h.os, h.tape, h.output, h.size, fun k hk _ => h.block k (by omega)⟩

theorem make_ints (n : Nat) (hn : n ≤ 10000000000000) (w : World) : (Instr.makeSlice 29 (.int .i64 n) (.int .i64 n)).run Try.prog w = .ok (.slice (some ⟨w.heap.size, 0, none⟩) n n) (w.alloc (.cells (Array.replicate n (vI 0)) 3)) := by
  rw [run_make_of 29 3 (vI 0) 1 8 under22 (by kernel_rfl) (by kernel_rfl) (by kernel_rfl) n (by omega) (by omega) w, Nat.mul_one]
  show Result.ok _ (w.alloc (.cells (madeCells #[vI 0] n) 3)) = _
  rw [made_one, List.toArray_replicate]

/-- The first copy. -/
theorem copy_first (xb n : Nat) (w : World) (hxl : xb < w.heap.size) (hx : w.cell? ⟨xb, 0, none⟩ = some (vI 9)) :
    ∃ w2, (Builtin.copy_ #[29, 29] 3 #[.slice (some ⟨w.heap.size, 0, none⟩) n n, .slice (some ⟨xb, 0, none⟩) 1 1]).run Try.prog (w.alloc (.cells (Array.replicate n (vI 0)) 3)) = .ok (.int .i64 (min 1 n : Nat)) w2 ∧
      w2.heap[w.heap.size]? = some (.cells (nines n (min 1 n)).toArray 3) ∧ Fr (fun _ => False) w w2 := by
  have hg0 : (w.alloc (.cells (Array.replicate n (vI 0)) 3)).heap[w.heap.size]? = some (.cells (nines n 0).toArray 3) := by
    rw [heap_alloc_last, nines_zero, List.toArray_replicate]
  have hb0 : Fr (fun _ => False) w (w.alloc (.cells (Array.replicate n (vI 0)) 3)) := Fr.alloc (Fr.refl _ w) _
  have hsrc : ∀ j v, (List.replicate (min 1 n) (vI 9))[j]? = some v → (w.alloc (.cells (Array.replicate n (vI 0)) 3)).cell? ((⟨xb, 0, none⟩ : Addr).add j) = some v := by
    intro j v hj
    rw [List.getElem?_replicate] at hj
    split at hj
    · rw [show j = 0 by omega]
      cases hj
      exact (hb0.cell (o := 0) hxl (fun h => h)).trans hx
    · cases hj
  have hr := run_copy_row (P := Try.prog) (w.alloc (.cells (Array.replicate n (vI 0)) 3)) 29 29 3 3 w.heap.size 0 n n ⟨xb, 0, none⟩ 1 1 (nines n 0).toArray 3 (List.replicate (min 1 n) (vI 9)) under22 size3 hg0 (by simp) hsrc (by simp [nines_length]; omega) (by intro v hv; rw [List.eq_of_mem_replicate hv]; rfl)
  have e := nines_splice n 0 (min 1 n) (by omega)
  rw [Nat.zero_add] at e
  have e' : ((nines n 0).toArray.toList.take 0 ++ List.replicate (min 1 n) (vI 9) ++ (nines n 0).toArray.toList.drop (0 + (List.replicate (min 1 n) (vI 9)).length)) = nines n (min 1 n) := by rw [← e]; simp [splice]
  rw [e', List.length_replicate] at hr
  refine ⟨_, hr, setRow_heap _ _ _ _ _ _ hg0, rfl, rfl, rfl, by simp [World.setRow], fun k hk _ => ?_⟩
  rw [setRow_other _ _ _ _ (by omega)]
  exact RowKit.Below.heap_alloc w _ k hk

set_option maxRecDepth 100000 in
set_option maxHeartbeats 1000000 in
theorem repeat_nine (xb : Nat) (n : Nat) (hn : n ≤ 1048576) (w : World) (hx : w.cell? ⟨xb, 0, none⟩ = some (vI 9)) :
    Calls Try.prog 19 #[.slice (some ⟨xb, 0, none⟩) 1 1, .int .i64 n] w fun e w' => e = .returned (.slice (some ⟨w.heap.size, 0, none⟩) n n) ∧ w'.heap[w.heap.size]? = some (.cells (List.replicate n (vI 9)).toArray 3) ∧ Fr (fun _ => False) w w' := by
  have e1 : IntKind.u64.wrap (n : Int) = n := by simp [IntKind.wrap, IntKind.bits, IntKind.signed]; omega
  have e0 : ¬ (n : Int) < 0 := by omega
  have hxl : xb < w.heap.size := World.block_lt_of_cell? w ⟨xb, 0, none⟩ hx
  have hmk := make_ints n (by omega) w
  obtain ⟨w2, hcp, hN2, hF2⟩ := copy_first xb n w hxl hx
  have HN2 : Hd _ := hN2
  have HF2 : Hd _ := hF2
  clear hN2 hF2 hx
  go_enter Try.func19, Try.ntmps19
  go_wp2_with fail
  refine (mul_one n (by omega) w).mono ?_
  rintro e w1 ⟨rfl, rfl⟩
  go_wp2_with fail
  clear hmk hcp
  obtain ⟨g, hg⟩ : ∃ g, g = w1.heap.size := ⟨_, rfl⟩
  have HG : Hd (g = w1.heap.size) := hg
  rw [← hg] at HN2 ⊢
  clear hg
  obtain ⟨m0, hm0⟩ : ∃ m, m = min 1 n := ⟨_, rfl⟩
  have HM0 : Hd (m0 = min 1 n) := hm0
  rw [← hm0] at HN2 ⊢
  clear hm0
  go_loopw [8] (fun v wr => ∃ (k : Nat), v = .int .i64 k ∧ k ≤ n ∧ (k = 0 → n = 0) ∧ Hd (wr.heap[g]? = some (.cells (nines n k).toArray 3)) ∧ Hd (Fr (fun _ => False) w1 wr)) (fun v _ => match v with | .int _ q => n - q.toNat | _ => 0)
  case atStart => exact ⟨m0, rfl, by have := HM0.out; omega, by have := HM0.out; omega, HN2.out, HF2.out⟩
  case round =>
    obtain ⟨k, rfl, hk, hk0, HN, HF⟩ := hrel
    clear HN2 HF2
    by_cases hlt : k < n
    · have hkp : 0 < k := by omega
      have hsrc : ∀ j v, (List.replicate (min k (n - k)) (vI 9))[j]? = some v → wr.cell? ((⟨g, 0, none⟩ : Addr).add j) = some v := by
        intro j v hj
        rw [List.getElem?_replicate] at hj
        split at hj
        · cases hj
          rw [addr_add, cell_of HN.out]
          rw [List.getElem?_toArray]
          exact nines_get n k j (by omega)
        · cases hj
      have HSR : Hd _ := hsrc
      have hki : (0 : Int) ≤ k := by omega
      have hki1 : (k : Int) ≤ n := by omega
      have HB : Hd (RowKit.Below w1.heap.size w1 wr.drew) := ⟨HF.out.os, HF.out.tape, HF.out.output, HF.out.size, fun k hk => HF.out.block k hk (fun h => h)⟩
      clear hsrc
      go_wp2_with fail
      go_region_law (
        refine step_copy_splice rfl (.tmp 41) (.tmp 44) 29 29 rfl 3 under22 size3 (some ⟨g, k, none⟩) (some ⟨g, 0, none⟩) (n - k) (n - k) k n (by simp [Act.eval, Act.put]; try omega) (by simp [Act.eval, Act.put]; try omega) g k (nines n k) 3 HN.out (List.replicate (min k (n - k)) (vI 9)) (by simp) (fun _ => ⟨rfl, _, rfl, HSR.out⟩) (by rw [nines_length _ _ (by omega), List.length_replicate]; omega) (by intro v hv; rw [List.eq_of_mem_replicate hv]; rfl) w1.heap.size w1 HB.out (by rw [HG.out]; exact Nat.le_refl _) ?_
        intro w3 HG3 HB3)
      all_goals
        have HF3 : Hd (Fr (fun _ => False) w1 w3) := below_fr HB3 rfl
        have HN3 : Hd (w3.heap[g]? = some (.cells (nines n (k + min k (n - k))).toArray 3)) := by
          have := HG3.out
          rw [nines_splice n k (min k (n - k)) (by omega)] at this
          exact this
        clear HG3 HB3 HN HF HSR HB
        obtain ⟨q, hq⟩ : ∃ q, q = min k (n - k) := ⟨_, rfl⟩
        try simp only [List.length_replicate, goInt]
        rw [← hq] at HN3 ⊢
        have hq0 : 0 < q := by omega
        have hq1 : k + q ≤ n := by omega
        clear hq
        have hw : IntKind.i64.wrap ((k : Int) + (q : Int)) = ((k + q : Nat) : Int) := by simp [IntKind.wrap, IntKind.bits, IntKind.signed]; omega
        go_wp2_with fail
        refine ⟨⟨k + q, by simp, hq1, by omega, ?_⟩, by omega⟩
        first
          | exact ⟨HN3.out, HF3.out⟩
          | exact HN3.out
    · have hke : k = n := by omega
      subst hke
      go_wp2_with fail
      go_ret
      exact ⟨by rw [HG.out]; rfl, by have := HN.out; rw [nines_all] at this; rw [← HG.out]; exact this, HF.out⟩

end Go.Proofs.Ytcjfmfddkhpfnab

namespace Go.Proofs.Ytcjfmfddkhpfnab
open Go.RowKit (wrap32 wrap64)
set_option linter.unusedVariables false
set_option linter.unusedSimpArgs false

set_option maxRecDepth 100000 in
set_option maxHeartbeats 1000000 in
theorem right_any (n : Int) (ev rv : Value) (es : List Ed) (rs : List Int) (w : World) (hE : EdgesAt w.heap.size w ev es) (hR : IntsAt w.heap.size w rv rs) (hel : es.length ≤ 100000000000000) (hrl : rs.length ≤ 100000000000000) :
    Calls Try.prog 17 #[.int .i64 n, ev, rv] w fun e w' => e = .returned (.bool (decide (RightG n es rs))) ∧ Fr (fun _ => False) w w' := by
  obtain ⟨ea, ec, rfl, -, hein⟩ := hE
  obtain ⟨ra, rc, rfl, -, hrin⟩ := hR
  have HE : Hd _ := hein
  have HR : Hd _ := hrin
  clear hein hrin
  by_cases hn0 : n < 0
  · go_enter Try.func17, Try.ntmps17
    go_wp2_with fail
    go_ret
    refine ⟨?_, Fr.refl _ _⟩
    rw [decide_eq_false (fun h => by have := h.1; omega)]
    rfl
  by_cases hn1 : 1048576 < n
  · go_enter Try.func17, Try.ntmps17
    go_wp2_with fail
    go_ret
    refine ⟨?_, Fr.refl _ _⟩
    rw [decide_eq_false (fun h => by have := h.1; omega)]
    rfl
  have hn0' : decide (n < 0) = false := by simpa using hn0
  have hn1' : decide (1048576 < n) = false := by simpa using hn1
  go_enter Try.func17, Try.ntmps17
  go_wp2_with fail
  go_loopw [19] (fun v wr => ∃ (k : Nat), v = .int .i64 k ∧ k ≤ es.length ∧ Hd (∀ e ∈ es.take k, RightE n e) ∧ Hd (Fr (fun _ => False) w wr)) (fun v _ => match v with | .int _ q => es.length - q.toNat | _ => 0)
  case atStart => exact ⟨0, rfl, Nat.zero_le _, fun e h => by simp at h, Fr.refl _ _⟩
  case round =>
    obtain ⟨k, rfl, hk, HA, HF⟩ := hrel
    by_cases hlt : k < es.length
    · obtain ⟨pk, po, rfl, hpk, hcs⟩ := HE.out (by intro e; simp [e] at hlt)
      obtain ⟨c0, c1, c2⟩ := hcs k hlt
      have p0 := (HF.out.cell (o := po + k * 3) hpk (fun h => h)).trans c0
      have p1 := (HF.out.cell (o := po + k * 3 + 1) hpk (fun h => h)).trans c1
      have p2 := (HF.out.cell (o := po + k * 3 + 2) hpk (fun h => h)).trans c2
      clear hcs c0 c1 c2
      have HT : Hd (es.take (k + 1) = es.take k ++ [es[k]]) := by
        unfold Hd; rw [List.take_add_one, List.getElem?_eq_getElem hlt]; rfl
      have HM : Hd (es[k] ∈ es) := List.getElem_mem hlt
      obtain ⟨e, he⟩ : ∃ e, es[k] = e := ⟨_, rfl⟩
      rw [he] at p0 p1 p2 HT HM
      clear he
      obtain ⟨d, s, q⟩ := e
      have hk0 : (0 : Int) ≤ k := by omega
      have hk1 : (k : Int) < es.length := by omega
      have hF1 : Hd (Fr (fun _ => False) w (wr.alloc (.cells #[vI d, vI s, vI q] 39))) := HF.out.alloc _
      by_cases hd : 0 ≤ d ∧ d < n
      · by_cases hs : 0 ≤ s ∧ s < n
        · cases hq : flowsX q
          · go_wp2_with fail
            refine (below_any d n _).mono ?_
            rintro e w2 ⟨rfl, rfl⟩
            rw [decide_eq_true hd]
            go_wp2_with fail
            refine (below_any s n _).mono ?_
            rintro e w2 ⟨rfl, rfl⟩
            rw [decide_eq_true hs]
            go_wp2_with fail
            refine (flows_any q _).mono ?_
            rintro e w2 ⟨rfl, rfl⟩
            rw [hq]
            go_wp2_with fail
            go_ret
            refine ⟨?_, hF1.out⟩
            rw [decide_eq_false (fun h => by have := (h.2.1 _ HM.out).2.2; rw [hq] at this; cases this)]
            rfl
          · go_wp2_with fail
            refine (below_any d n _).mono ?_
            rintro e w2 ⟨rfl, rfl⟩
            rw [decide_eq_true hd]
            go_wp2_with fail
            refine (below_any s n _).mono ?_
            rintro e w2 ⟨rfl, rfl⟩
            rw [decide_eq_true hs]
            go_wp2_with fail
            refine (flows_any q _).mono ?_
            rintro e w2 ⟨rfl, rfl⟩
            rw [hq]
            go_wp2_with fail
            refine ⟨⟨k + 1, by simp, by omega, ?_, hF1.out⟩, by simp; omega⟩
            unfold Hd
            rw [HT.out]
            intro e hme
            rcases List.mem_append.1 hme with h | h
            · exact HA.out e h
            · rw [List.mem_singleton.1 h]; exact ⟨hd, hs, hq⟩
        · go_wp2_with fail
          refine (below_any d n _).mono ?_
          rintro e w2 ⟨rfl, rfl⟩
          rw [decide_eq_true hd]
          go_wp2_with fail
          refine (below_any s n _).mono ?_
          rintro e w2 ⟨rfl, rfl⟩
          rw [decide_eq_false hs]
          go_wp2_with fail
          go_ret
          refine ⟨?_, hF1.out⟩
          rw [decide_eq_false (fun h => hs (h.2.1 _ HM.out).2.1)]
          rfl
      · go_wp2_with fail
        refine (below_any d n _).mono ?_
        rintro e w2 ⟨rfl, rfl⟩
        rw [decide_eq_false hd]
        go_wp2_with fail
        go_ret
        refine ⟨?_, hF1.out⟩
        rw [decide_eq_false (fun h => hd (h.2.1 _ HM.out).1)]
        rfl
    · have hke : k = es.length := by omega
      have HA2 : Hd (∀ e ∈ es, RightE n e) := by have := HA.out; rw [hke, List.take_length] at this; exact this
      clear HA
      subst hke
      go_wp2_with fail
      go_loopw [44] (fun v wr => ∃ (k : Nat), v = .int .i64 k ∧ k ≤ rs.length ∧ Hd (∀ r ∈ rs.take k, 0 ≤ r ∧ r < n) ∧ Hd (Fr (fun _ => False) w wr)) (fun v _ => match v with | .int _ q => rs.length - q.toNat | _ => 0)
      case atStart => exact ⟨0, rfl, Nat.zero_le _, fun e h => by simp at h, HF.out⟩
      case round =>
        obtain ⟨k, rfl, hk, HA, HF⟩ := hrel
        by_cases hlt : k < rs.length
        · obtain ⟨pk, po, rfl, hpk, hcs⟩ := HR.out (by intro e; simp [e] at hlt)
          have p0 := (HF.out.cell (o := po + k) hpk (fun h => h)).trans (hcs k hlt)
          clear hcs
          have HT : Hd (rs.take (k + 1) = rs.take k ++ [rs[k]]) := by
            unfold Hd; rw [List.take_add_one, List.getElem?_eq_getElem hlt]; rfl
          have HM : Hd (rs[k] ∈ rs) := List.getElem_mem hlt
          obtain ⟨r, he⟩ : ∃ e, rs[k] = e := ⟨_, rfl⟩
          rw [he] at p0 HT HM
          clear he
          have hk0 : (0 : Int) ≤ k := by omega
          have hk1 : (k : Int) < rs.length := by omega
          by_cases hd : 0 ≤ r ∧ r < n
          · go_wp2_with fail
            refine (below_any r n _).mono ?_
            rintro e w2 ⟨rfl, rfl⟩
            rw [decide_eq_true hd]
            go_wp2_with fail
            refine ⟨⟨k + 1, by simp, by omega, ?_, HF.out⟩, by simp; omega⟩
            unfold Hd
            rw [HT.out]
            intro e hme
            rcases List.mem_append.1 hme with h | h
            · exact HA.out e h
            · rw [List.mem_singleton.1 h]; exact hd
          · go_wp2_with fail
            refine (below_any r n _).mono ?_
            rintro e w2 ⟨rfl, rfl⟩
            rw [decide_eq_false hd]
            go_wp2_with fail
            go_ret
            refine ⟨?_, HF.out⟩
            rw [decide_eq_false (fun h => hd (h.2.2 _ HM.out))]
            rfl
        · have hke : k = rs.length := by omega
          have HA3 : Hd (∀ r ∈ rs, 0 ≤ r ∧ r < n) := by have := HA.out; rw [hke, List.take_length] at this; exact this
          clear HA
          subst hke
          go_wp2_with fail
          go_ret
          refine ⟨?_, HF.out⟩
          rw [decide_eq_true ⟨⟨by omega, by omega⟩, HA2.out, HA3.out⟩]
          rfl

end Go.Proofs.Ytcjfmfddkhpfnab
