import Derived.Test.YtmdlebolmhnhaabS3J
namespace Go.Proofs.Ytmdlebolmhnhaab
open Go.RowKit Go.Shelf Go.Sort
set_option linter.unusedVariables false
set_option linter.unusedSimpArgs false

theorem appendSeq_any (Bs : Nat) (sv : Value) (zs : List Int) (hreach : zs.length * 8 ≤ 140737488351232) (w : World) (hBs : Bs < w.heap.size) (hc : w.cell? ⟨Bs, 0, none⟩ = some sv) (hI : IntsAt w.heap.size w sv zs) :
    Calls Try.prog 56 #[.slice none 0 0, .func (.func 59) #[] #[.pointer (some ⟨Bs, 0, none⟩)]] w fun e W' => ∃ v, e = .returned v ∧ W'.ownsRow w.heap.size 3 1 v zs.length (zs.map (Value.int .i64)) ∧ (v = .slice none 0 0 ↔ zs = []) ∧ Below w.heap.size w W' :=
  callsIn_wide.1 (appendSeq_in Fence.wide 3 trivial trivial rfl (by omega) Bs sv zs hreach w hBs hc hI)

set_option maxHeartbeats 1000000 in
theorem collect_any (Bs : Nat) (sv : Value) (zs : List Int) (hreach : zs.length * 8 ≤ 140737488351232) (w : World) (hBs : Bs < w.heap.size) (hc : w.cell? ⟨Bs, 0, none⟩ = some sv) (hI : IntsAt w.heap.size w sv zs) :
    Calls Try.prog 49 #[.func (.func 59) #[] #[.pointer (some ⟨Bs, 0, none⟩)]] w fun e W' => ∃ v, e = .returned v ∧ W'.ownsRow w.heap.size 3 1 v zs.length (zs.map (Value.int .i64)) ∧ (v = .slice none 0 0 ↔ zs = []) ∧ Below w.heap.size w W' := by
  go_enter Try.func49, Try.ntmps49
  go_wp2_with fail
  refine (appendSeq_any Bs sv zs hreach w hBs hc hI).mono ?_
  rintro e w1 ⟨v, rfl, h1, h2, h3⟩
  go_wp2_with fail
  go_ret
  exact ⟨v, rfl, h1, h2, h3⟩

set_option maxHeartbeats 1000000 in
/-- slices.Sorted(slices.Values(list)): a new list, rising. -/
theorem sortedV_any (Bs : Nat) (sv : Value) (zs : List Int) (hreach : zs.length * 8 ≤ 140737488351232) (w : World) (hBs : Bs < w.heap.size) (hc : w.cell? ⟨Bs, 0, none⟩ = some sv) (hI : IntsAt w.heap.size w sv zs) :
    Calls Try.prog 40 #[.func (.func 59) #[] #[.pointer (some ⟨Bs, 0, none⟩)]] w fun e W' => ∃ v, e = .returned v ∧ W'.ownsRow w.heap.size 3 1 v zs.length ((zs.mergeSort fun x y => decide (x ≤ y)).map (Value.int .i64)) ∧ Below w.heap.size w W' := by
  go_enter Try.func40, Try.ntmps40
  go_wp2_with fail
  refine (collect_any Bs sv zs hreach w hBs hc hI).mono ?_
  rintro e w1 ⟨v, rfl, hrow, hnil, hb⟩
  rcases hrow.2 with ⟨rfl, hz⟩ | ⟨gb, cap, cur, rfl, hbase, hgb, r1, r2, r3, r4⟩
  · have hss : zs = [] := List.eq_nil_of_length_eq_zero hz
    subst hss
    go_wp2_with fail
    refine (sort_none none 0 w1).mono ?_
    rintro e w2 ⟨rfl, rfl⟩
    go_wp2_with fail
    go_ret
    exact ⟨_, rfl, by simpa using hrow, hb⟩
  · have hH : Holds encZ w1 gb 0 zs.toArray := holds_of_block_i hgb (by simpa using r4)
    have hgl : gb < w1.heap.size := (Array.getElem?_eq_some_iff.1 hgb).1
    have HH : Hd _ := hH
    have HR : Hd _ := hrow
    have HB : Hd _ := hb
    have HG : Hd _ := hgb
    clear hH hrow hb hgb
    go_wp2_with fail
    refine (sort_any gb 0 cap zs w1 HH.out hgl (by omega)).mono ?_
    rintro e w2 ⟨rfl, nn, os, hw2⟩
    go_wp2_with fail
    go_ret
    subst hw2
    exact ⟨_, rfl, ownsRow_sorted_i (by simp) hbase HG.out r1 r2 r3, HB.out.grown (grownBy_sorted_i _) HB.out.size (fun j hj => by cases hj; exact hbase)⟩

/-- slices.Values: a function over a new block that holds the list. -/
theorem values_any (a : Option Addr) (len cap : Nat) (w : World) :
    Calls Try.prog 52 #[.slice a len cap] w fun e w' => e = .returned (.func (.func 59) #[] #[.pointer (some ⟨w.heap.size, 0, none⟩)]) ∧ w' = w.alloc (.cells #[.slice a len cap] 29) := by
  go_enter Try.func52, Try.ntmps52
  go_wp2
  go_ret
  exact ⟨rfl, rfl⟩

set_option maxRecDepth 100000 in
set_option maxHeartbeats 1000000 in
theorem isThere_any (b : Nat) (g : Gh) (a : Abs) (i : Nat) (hi : i ≤ 9000000000000000000) (w : World) (h : Mem w b g a) :
    Calls Try.prog 53 #[ptr b, vI i] w fun e w' => e = .returned (.bool (a.cells i).isSome) ∧ w' = w := by
  have hL := h.look i hi
  have f0 := h.facts.2.2.1
  clear h
  cases hc : a.cells i with
  | none =>
    rw [hc] at hL
    go_enter Try.func53, Try.ntmps53
    go_wp2_with fail
    go_ret
    exact ⟨rfl, rfl⟩
  | some l =>
    rw [hc] at hL
    go_enter Try.func53, Try.ntmps53
    go_wp2_with fail
    go_ret
    exact ⟨rfl, rfl⟩

end Go.Proofs.Ytmdlebolmhnhaab

namespace Go.Proofs.Ytmdlebolmhnhaab
open Go.RowKit Go.Shelf Go.Sort
set_option linter.unusedVariables false
set_option linter.unusedSimpArgs false

/-- Was a cell of this number made? -/
def wasM (a : Abs) (n : Int) : Bool := decide (1 ≤ n ∧ n ≤ a.made)
abbrev srt (zs : List Int) : List Int := zs.mergeSort fun x y => decide (x ≤ y)
/-- Is the one at this place of a rising list gone, or the same as the one ahead? -/
def badAt (a : Abs) (s : List Int) (i : Nat) : Bool := !(a.cells (s.getD i 0).toNat).isSome || (decide (0 < i) && decide (s.getD (i - 1) 0 = s.getD i 0))
def mayDropX (a : Abs) (zs : List Int) : Int :=
  if zs.all (wasM a) = false then 1 else if (List.range zs.length).any (badAt a (srt zs)) = true then 32 else 0

theorem srt_mem {a : Abs} {zs : List Int} (h : zs.all (wasM a) = true) (i : Nat) (hi : i < zs.length) : 1 ≤ (srt zs).getD i 0 ∧ (srt zs).getD i 0 ≤ a.made := by
  have hl : i < (srt zs).length := by simpa using hi
  have hm : (srt zs).getD i 0 ∈ zs := by
    rw [List.getD_eq_getElem?_getD, List.getElem?_eq_getElem hl]
    exact (List.mergeSort_perm zs _).mem_iff.1 (List.getElem_mem hl)
  have := List.all_eq_true.1 h _ hm
  simpa [wasM] using this

set_option maxRecDepth 100000 in
set_option maxHeartbeats 2000000 in
theorem mayDrop_any (b : Nat) (g : Gh) (a : Abs) (sv : Value) (ad : Option Addr) (cap : Nat) (zs : List Int) (w : World) (h : Mem w b g a) (hs : sv = .slice ad zs.length cap) (hI : IntsAt w.heap.size w sv zs) (hz : zs.length ≤ 17592186043904) (hm : a.made ≤ 10000000000000) :
    Calls Try.prog 46 #[ptr b, sv] w fun e w' => e = .returned (vI (mayDropX a zs)) ∧ Fr (fun _ => False) w w' := by
  subst hs
  have H : Hd (Mem w b g a) := h
  have HI : Hd (IntsAt w.heap.size w (.slice ad zs.length cap) zs) := hI
  have f1 := h.facts.2.1
  clear h hI
  go_enter Try.func46, Try.ntmps46
  go_wp2_with fail
  go_loopw [12] (fun v wr => ∃ k : Nat, v = .int .i64 k ∧ k ≤ zs.length ∧ Hd ((zs.take k).all (wasM a) = true) ∧ wr = w) (fun v _ => match v with | .int _ q => zs.length - q.toNat | _ => 0)
  case atStart => exact ⟨0, rfl, Nat.zero_le _, rfl, rfl⟩
  case round =>
    obtain ⟨k, rfl, hk, HA, rfl⟩ := hrel
    by_cases hlt : k < zs.length
    · obtain ⟨pb, po, pc, hsv, hpb, hcs⟩ : ∃ pb po pc, Value.slice ad zs.length cap = .slice (some ⟨pb, po, none⟩) zs.length pc ∧ pb < wr.heap.size ∧ ∀ j, j < zs.length → wr.cell? ⟨pb, po + j, none⟩ = some (.int .i64 (zs[j]?.getD 0)) := by
        rcases HI.out with ⟨_, _, -, e⟩ | hh
        · rw [e] at hlt; simp at hlt
        · exact hh
      cases hsv
      have hcx := hcs k hlt
      have htk := take_more zs k hlt
      have hmem : zs[k]?.getD 0 ∈ zs := by rw [List.getElem?_eq_getElem hlt]; exact List.getElem_mem hlt
      have HMem : Hd (zs[k]?.getD 0 ∈ zs) := hmem
      clear hmem hcs
      generalize zs[k]?.getD 0 = x at *
      have hk0 : (0 : Int) ≤ k := by omega
      have hk1 : (k : Int) < zs.length := by omega
      go_wp2_with fail
      refine (wasMade_any b a.made x wr f1).mono ?_
      rintro e w' ⟨rfl, rfl⟩
      by_cases hx : 1 ≤ x ∧ x ≤ a.made
      · rw [show decide (1 ≤ x ∧ x ≤ (a.made : Int)) = true from decide_eq_true hx]
        have HA2 : Hd ((zs.take (k + 1)).all (wasM a) = true) := by
          unfold Hd
          rw [htk, List.all_append, show (zs.take k).all (wasM a) = true from HA.out]
          simp [wasM, hx]
        clear htk
        go_wp2_with fail
        exact ⟨⟨k + 1, by simp, by omega, HA2.out, by first | rfl | trivial⟩, by simp; omega⟩
      · rw [show decide (1 ≤ x ∧ x ≤ (a.made : Int)) = false from decide_eq_false hx]
        have HX : Hd (mayDropX a zs = 1) := by
          unfold Hd mayDropX
          rw [if_pos]
          have hf : wasM a x = false := decide_eq_false hx
          exact Bool.eq_false_iff.2 (fun hall => by have := List.all_eq_true.1 hall x HMem.out; rw [hf] at this; cases this)
        clear htk
        go_wp2_with fail
        go_ret
        rw [HX.out]
        exact ⟨rfl, Fr.refl _ _⟩
    · have hke : k = zs.length := by omega
      subst hke
      have hall : zs.all (wasM a) = true := by have := HA.out; rwa [List.take_length] at this
      have HALL : Hd _ := hall
      clear hall HA
      go_wp2_with fail
      refine (values_any ad zs.length cap wr).mono ?_
      rintro e w1 ⟨rfl, hw1⟩
      have A1 : w1.heap[wr.heap.size]? = some (.cells #[.slice ad zs.length cap] 29) := by rw [hw1]; exact heap_alloc_last wr _
      have hF1 : Fr (fun _ => False) wr w1 := by rw [hw1]; exact Fr.alloc (Fr.refl _ wr) _
      have hBel : Below wr.heap.size wr w1 := ⟨hF1.os, hF1.tape, hF1.output, hF1.size, fun k hk => hF1.block k hk (fun h => h)⟩
      have hI1 : IntsAt w1.heap.size w1 (.slice ad zs.length cap) zs := by
        rcases IntsAt.below HI.out hBel with hh | ⟨pb, po, pc, e, hlt', hc⟩
        · exact Or.inl hh
        · exact Or.inr ⟨pb, po, pc, e, Nat.lt_of_lt_of_le hlt' hF1.size, hc⟩
      clear hw1
      go_wp2_with fail
      refine (sortedV_any wr.heap.size (.slice ad zs.length cap) zs (by omega) w1 (heap_lt A1) (by rw [cell_of A1]; rfl) hI1).mono ?_
      rintro e w2 ⟨rv, rfl, hrow, hbel2⟩
      have hF2 : Fr (fun _ => False) w1 w2 := ⟨hbel2.os, hbel2.tape, hbel2.output, hbel2.size, fun k hk _ => hbel2.block k hk⟩
      have HM2 : Hd (Mem w2 b g a) := (H.out.keep hF1).keep hF2
      have HG2 : Hd (Fr (fun _ => False) wr w2) := hF1.trans hF2
      have HRow : Hd (w2.ownsRow w1.heap.size 3 1 rv zs.length ((srt zs).map (Value.int .i64))) := hrow
      clear hrow hbel2 hF1 hF2 hBel hI1 A1
      obtain ⟨rad, rcap, hrv, hrc⟩ : ∃ rad rcap, rv = .slice rad zs.length rcap ∧ (0 < zs.length → ∃ rb, rad = some ⟨rb, 0, none⟩ ∧ ∀ j, j < zs.length → w2.cell? ⟨rb, j, none⟩ = some (.int .i64 ((srt zs).getD j 0))) := by
        rcases HRow.out.2 with ⟨e, e0⟩ | ⟨rb, rcap, cur, e, -⟩
        · exact ⟨none, 0, by rw [e, e0], fun h => by omega⟩
        · refine ⟨_, rcap, e, fun _ => ⟨rb, rfl, fun j hj => ?_⟩⟩
          have hl : j < (srt zs).length := by simpa using hj
          have := World.ownsRow.cells HRow.out (g := rb) (by rw [e]; rfl) j (.int .i64 ((srt zs).getD j 0)) (by rw [List.getElem?_map, List.getElem?_eq_getElem hl, List.getD_eq_getElem?_getD, List.getElem?_eq_getElem hl]; rfl)
          rwa [addr_add] at this
      subst hrv
      have HRC : Hd _ := hrc
      clear hrc HRow HI H
      go_wp2_with fail
      go_loopw [26] (fun v wr2 => ∃ k : Nat, v = .int .i64 k ∧ k ≤ zs.length ∧ Hd (∀ j, j < k → badAt a (srt zs) j = false) ∧ wr2 = w2) (fun v _ => match v with | .int _ q => zs.length - q.toNat | _ => 0)
      case atStart => exact ⟨0, rfl, Nat.zero_le _, fun j hj => absurd hj (by omega), rfl⟩
      case round =>
        obtain ⟨k, rfl, hk', HB, rfl⟩ := hrel
        by_cases hkt : k < zs.length
        · obtain ⟨rb, rfl, hcs⟩ := HRC.out (by omega)
          obtain ⟨hx1, hx2⟩ := srt_mem HALL.out k hkt
          have hcx := hcs k hkt
          obtain ⟨i, hi⟩ := Int.eq_ofNat_of_zero_le (show 0 ≤ (srt zs).getD k 0 by omega)
          have hbad : badAt a (srt zs) k = (!(a.cells i).isSome || (decide (0 < k) && decide ((srt zs).getD (k - 1) 0 = (srt zs).getD k 0))) := by
            unfold badAt; rw [hi]; simp
          have HBad : Hd _ := hbad
          rw [hi] at hcx
          have hil : i ≤ 9000000000000000000 := by omega
          have hk0 : (0 : Int) ≤ k := by omega
          have hk1 : (k : Int) < zs.length := by omega
          have HERR : Hd (badAt a (srt zs) k = true → mayDropX a zs = 32) := fun hb => by
            unfold mayDropX
            rw [if_neg (by rw [HALL.out]; simp), if_pos]
            exact List.any_eq_true.2 ⟨k, List.mem_range.2 hkt, hb⟩
          have HGO : Hd (badAt a (srt zs) k = false → ∀ j, j < k + 1 → badAt a (srt zs) j = false) := fun hb j hj => by
            by_cases e : j = k
            · rw [e]; exact hb
            · exact HB.out j (by omega)
          clear hbad hx1 hx2
          have HI2 : Hd _ := hi
          clear hi
          have hth := isThere_any b g a i hil wr HM2.out
          cases hc : (a.cells i).isSome with
          | false =>
            rw [hc] at hth
            have HX : Hd _ := HERR.out (by rw [HBad.out, hc]; rfl)
            clear hc hcs
            go_wp2_with fail
            refine hth.mono ?_
            rintro e w' ⟨rfl, rfl⟩
            go_wp2_with fail
            go_ret
            rw [show mayDropX a zs = 32 from HX.out]
            exact ⟨rfl, HG2.out⟩
          | true =>
            rw [hc] at hth
            by_cases hk00 : k = 0
            · subst hk00
              have HN : Hd _ := HGO.out (by rw [HBad.out, hc]; rfl)
              clear hc hcs
              go_wp2_with fail
              refine hth.mono ?_
              rintro e w' ⟨rfl, rfl⟩
              go_wp2_with fail
              exact ⟨⟨1, by simp, by omega, HN.out, by first | rfl | trivial⟩, by simp <;> omega⟩
            · obtain ⟨m, rfl⟩ : ∃ m, k = m + 1 := ⟨k - 1, by omega⟩
              have hcm := hcs m (by omega)
              have HE : Hd (badAt a (srt zs) (m + 1) = decide ((srt zs).getD m 0 = (i : Int))) := by
                unfold Hd
                rw [HBad.out, hc, HI2.out]
                simp
              generalize (srt zs).getD m 0 = y at hcm HE
              have hm0 : (0 : Int) ≤ m := by omega
              have hm1 : (m : Int) < zs.length := by omega
              clear hc hcs
              by_cases hy : y = (i : Int)
              · have HX : Hd _ := HERR.out (by rw [HE.out]; exact decide_eq_true hy)
                have by1 := eqb_true hy
                go_wp2_with fail
                refine hth.mono ?_
                rintro e w' ⟨rfl, rfl⟩
                go_wp2_with fail
                go_ret
                rw [show mayDropX a zs = 32 from HX.out]
                exact ⟨rfl, HG2.out⟩
              · have HN : Hd _ := HGO.out (by rw [HE.out]; exact decide_eq_false hy)
                have by1 := eqb_false hy
                go_wp2_with fail
                refine hth.mono ?_
                rintro e w' ⟨rfl, rfl⟩
                go_wp2_with fail
                exact ⟨⟨m + 2, by simp; omega, by omega, HN.out, by first | rfl | trivial⟩, by simp <;> omega⟩
        · have hke : k = zs.length := by omega
          have HX : Hd (mayDropX a zs = 0) := by
            unfold Hd mayDropX
            rw [if_neg (by rw [HALL.out]; simp), if_neg]
            intro hany
            obtain ⟨j, hj, hb⟩ := List.any_eq_true.1 hany
            have := HB.out j (by have := List.mem_range.1 hj; omega)
            rw [this] at hb
            cases hb
          subst hke
          go_wp2_with fail
          go_ret
          rw [HX.out]
          exact ⟨rfl, HG2.out⟩

end Go.Proofs.Ytmdlebolmhnhaab
