import Derived.Test.YtmdlebolmhnhaabQ3J
import Derived.Deep.Onto
import Derived.Deep.DeepCutAuto
namespace Go.Proofs.Ytmdlebolmhnhaab
open Go.RowKit (wrap32 wrap64)
open Go.Maps (Keyed)
set_option linter.unusedVariables false
set_option linter.unusedSimpArgs false

def rmakeX (a : RA) (n : Int) (heap : Bool) : RA × Int × Int :=
  if n < 1 ∨ 8 < n then (a, 0, 1) else
  if a.frs = [] then (a, 0, 30) else
  ({ a with cells := a.cells ++ [⟨List.replicate n.toNat (0, 0), heap, true⟩], frs := a.frs.set (a.frs.length - 1) (a.frs.getD (a.frs.length - 1) [] ++ [a.cells.length + 1]) }, (a.cells.length : Int) + 1, 0)

theorem rep_snocR (k : Nat) : flat (List.replicate (k + 1) ((0, 0) : Val)) = flat (List.replicate k (0, 0)) ++ [vI 0, vI 0] := by
  rw [List.replicate_succ', flat_snocR]

set_option maxRecDepth 100000 in
set_option maxHeartbeats 4000000 in
theorem rmake_any (b : Nat) (g : RG) (a : RA) (n : Int) (heap : Bool) (w : World) (h : RMem w b g a) (hlen : a.cells.length ≤ 100000000) (hfl : a.frs.length ≤ 100000000) (hll : ∀ l ∈ a.frs, l.length ≤ 100000000) :
    Calls Try.prog 29 #[rptr b, vI n, .bool heap] w fun e w' => e = .returned (.tuple #[vI (rmakeX a n heap).2.1, vI (rmakeX a n heap).2.2]) ∧ ∃ g', RMem w' b g' (rmakeX a n heap).1 ∧ Fr (fun j => g.own j ≠ 0) w w' ∧ RExt w.heap.size g g' := by
  obtain ⟨c0, c1, c2⟩ := h.heads
  obtain ⟨ad, cap, hfv, hcap, had⟩ := row_shape h.frs
  rw [hfv] at c1
  have HM : Hd _ := h
  by_cases h1 : n < 1
  · have d1 : decide (n < 1) = true := by simpa using h1
    have HX : Hd (rmakeX a n heap = (a, 0, 1)) := by unfold Hd rmakeX; rw [if_pos (Or.inl h1)]
    clear h hfv had
    go_enter Try.func29, Try.ntmps29
    go_wp2_with fail
    go_ret2
    rw [HX.out]
    exact ⟨rfl, g, HM.out, Fr.refl _ _, fun _ _ => rfl⟩
  have d1 : decide (n < 1) = false := by simpa using h1
  by_cases h8 : 8 < n
  · have d8 : decide (8 < n) = true := by simpa using h8
    have HX : Hd (rmakeX a n heap = (a, 0, 1)) := by unfold Hd rmakeX; rw [if_pos (Or.inr h8)]
    clear h hfv had
    go_enter Try.func29, Try.ntmps29
    go_wp2_with fail
    go_ret2
    rw [HX.out]
    exact ⟨rfl, g, HM.out, Fr.refl _ _, fun _ _ => rfl⟩
  have d8 : decide (8 < n) = false := by simpa using h8
  by_cases h0 : a.frs = []
  · have HX : Hd (rmakeX a n heap = (a, 0, 30)) := by unfold Hd rmakeX; rw [if_neg (by omega), if_pos h0]
    have hz : a.frs.length = 0 := by rw [h0]; rfl
    rw [hz] at c1
    clear h hfv had
    go_enter Try.func29, Try.ntmps29
    go_wp2_with fail
    go_ret2
    rw [HX.out]
    exact ⟨rfl, g, HM.out, Fr.refl _ _, fun _ _ => rfl⟩
  obtain ⟨fb, rfl⟩ := had (by rcases hfr : a.frs with _ | ⟨x, y⟩; exact absurd hfr h0; simp)
  obtain ⟨m, hm⟩ : ∃ m, a.frs.length = m + 1 := ⟨a.frs.length - 1, by have : 0 < a.frs.length := List.length_pos_iff.2 h0; omega⟩
  have hml : m < a.frs.length := by omega
  obtain ⟨l, hl⟩ : ∃ l, a.frs[m]? = some l := ⟨_, List.getElem?_eq_getElem hml⟩
  have hlm : l ∈ a.frs := List.mem_of_getElem? hl
  obtain ⟨nn, rfl⟩ := Int.eq_ofNat_of_zero_le (show 0 ≤ n by omega)
  have HX : Hd (rmakeX a (nn : Int) heap = ({ a with cells := a.cells ++ [⟨List.replicate nn (0, 0), heap, true⟩], frs := a.frs.set m (l ++ [a.cells.length + 1]) }, (a.cells.length : Int) + 1, 0)) := by
    unfold Hd rmakeX
    rw [if_neg (by omega), if_neg h0, Int.toNat_natCast, hm, Nat.add_sub_cancel, List.getD_eq_getElem?_getD, hl]
    rfl
  have hll' := hll l hlm
  have HL : Hd _ := hl
  have HFV : Hd _ := hfv
  have hm0 : ((m : Int) + 1 == 0) = false := by simp; omega
  rw [hm] at c1
  have HHM : Hd _ := hm
  have hmb : m ≤ 100000000 := by omega
  clear h hfv had hl hlm hll hm hml h0 hfl hcap c0 c2
  go_enter Try.func29, Try.ntmps29
  go_wp2_with fail
  go_loopw [9] (fun v wr => ∃ (k : Nat) (fv : Value), v = .int .i64 k ∧ k ≤ nn ∧ Hd (Fr (fun _ => False) w wr) ∧ Hd (wr.heap[w.heap.size]? = some (.cells #[fv, .bool heap, .bool true] 77)) ∧ Hd (wr.ownsRow (w.heap.size + 1) 28 2 fv k (flat (List.replicate k (0, 0))))) (fun v _ => match v with | .int _ q => nn - q.toNat | _ => 0)
  case atStart => exact ⟨0, .slice none 0 0, rfl, Nat.zero_le _, Fr.alloc (Fr.refl _ _) _, heap_alloc_last _ _, World.ownsRow_nil _ _ _ _⟩
  case round =>
    obtain ⟨k, fv, rfl, hk, HFr, HC, HR⟩ := hrel
    have p1 : wr.cell? ⟨w.heap.size, 0, none⟩ = some fv := by rw [cell_of HC.out]; rfl
    have hcl : w.heap.size < wr.heap.size := heap_lt HC.out
    by_cases hlt : k < nn
    · obtain ⟨i28, hi, hz, hs, hb⟩ := info_parts (P := Try.prog) (e := 28) (z := vv (0, 0)) (size := 2) (bytes := 16) (by kernel_rfl)
      have hk0 : (0 : Int) ≤ k := by omega
      have hk1 : (k : Int) < nn := by omega
      have HRA : Hd ((wr.alloc (.cells #[vI 0, vI 0] 28)).ownsRow (w.heap.size + 1) 28 2 fv k (flat (List.replicate k (0, 0)))) := World.ownsRow.alloc HR.out _
      have hnews : ∀ j u, [vI 0, vI 0][j]? = some u → (wr.alloc (.cells #[vI 0, vI 0] 28)).cell? ((⟨wr.heap.size, 0, none⟩ : Addr).add j) = some u :=
        World.news_of_block (w := (wr.alloc (.cells #[vI 0, vI 0] 28))) (cs := #[vI 0, vI 0]) (heap_alloc_last wr (.cells #[vI 0, vI 0] 28))
      have hw1 : (wr.alloc (.cells #[vI 0, vI 0] 28)).heap.size = wr.heap.size + 1 := by simp
      have hbase : w.heap.size + 1 ≤ (wr.alloc (.cells #[vI 0, vI 0] 28)).heap.size := by rw [hw1]; omega
      have hmx : k + 1 ≤ maxLen := by unfold maxLen; omega
      have HNC : Hd (∀ j, fv.ownBlock = some j → w.heap.size + 1 ≤ j) := fun j e => (World.ownsRow.lt HR.out j e).1
      have HCA : Hd ((wr.alloc (.cells #[vI 0, vI 0] 28)).heap[w.heap.size]? = some (.cells #[fv, .bool heap, .bool true] 77)) := (Go.RowKit.Below.heap_alloc wr _ _ hcl).trans HC.out
      have t1 : (vv (0, 0)).cells.size = 2 := rfl
      have t2 : ∀ u ∈ [vI 0, vI 0], u.oneCell' = true := by intro u hu; simp at hu; subst hu; rfl
      have t4 : [vI 0, vI 0].length = 1 * 2 := rfl
      have HAFT : Hd (∀ w6 : World, (wr.alloc (.cells #[vI 0, vI 0] 28)).grownBy w6 fv.ownBlock → w6.heap[w.heap.size]? = some (.cells #[fv, .bool heap, .bool true] 77) ∧ w6.cell? ⟨w.heap.size, 0, none⟩ = some fv ∧ w6.frozen? ⟨w.heap.size, 0, none⟩ = false) := fun w6 hg => by
        have hc6 : w6.heap[w.heap.size]? = some (.cells #[fv, .bool heap, .bool true] 77) := by
          rw [hg.block w.heap.size (by rw [hw1]; omega) (fun e => by have := HNC.out _ e.symm; omega)]
          exact HCA.out
        exact ⟨hc6, by rw [cell_of hc6]; rfl, frozen_of hc6 0⟩
      go_wp2_with ((at_builtin; refine wpList_append_lies _ rfl (.tmp 35) (.tmp 37) 53 rfl (w.heap.size + 1) 28 i28 (vv (0, 0)) 2 16 under22 hi hz hs hb t1 (by omega) fv k (flat (List.replicate k (0, 0))) rfl HRA.out ⟨wr.heap.size, 0, none⟩ 1 1 [vI 0, vI 0] rfl t4 hnews t2 (by omega) hmx (by omega) hbase (wr.heap.size + 1) hw1 ?_; intro g6 cap6 w6 hown6 hgrow6 hat6 hlt6; obtain ⟨hc6, y1, z1⟩ := HAFT.out w6 hgrow6; have HC6 : Hd _ := hc6; clear hc6))
      have hF6 : Fr (fun j => fv.ownBlock = some j) (wr.alloc (.cells #[vI 0, vI 0] 28)) w6 := grown_fr hgrow6
      have hFa : Fr (fun _ => False) wr (wr.alloc (.cells #[vI 0, vI 0] 28)) := Fr.alloc (Fr.refl _ wr) _
      have hG6 : Fr (fun _ => False) w w6 := (HFr.out.trans hFa).then hF6 (fun j hj e => by have := HNC.out j e; omega)
      have hG7 : Fr (fun _ => False) w (w6.setCell ⟨w.heap.size, 0, none⟩ (.slice (some ⟨g6, 0, none⟩) (k + 1) cap6)) := hG6.then (setCell_fr w6 _ _ _) (fun j hj e => by omega)
      refine ⟨⟨k + 1, .slice (some ⟨g6, 0, none⟩) (k + 1) cap6, by simp, by omega, hG7, ?_, ?_⟩, by simp; omega⟩
      · unfold Hd
        rw [set_of HC6.out]
        rfl
      · have hg6 : w.heap.size + 1 ≤ g6 := (World.ownsRow.lt hown6 g6 rfl).1
        have := ownsRow_fr hown6 (setCell_fr w6 w.heap.size 0 (.slice (some ⟨g6, 0, none⟩) (k + 1) cap6)) (fun j e ej => by cases e; have ej' : g6 = w.heap.size := ej; omega)
        rw [← rep_snocR] at this
        exact this
    · have hke : k = nn := by omega
      subst hke
      have hHB : RMem wr b g a := HM.out.keep HFr.out
      have hFd : Fr (fun _ => False) wr (wr.drew.alloc (.cells #[fv, .bool heap, .bool true] 77)) := Fr.alloc (Fr.drew (Fr.refl _ wr)) _
      have HBa : Hd (RMem (wr.drew.alloc (.cells #[fv, .bool heap, .bool true] 77)) b g a) := hHB.keep hFd
      have HRa : Hd ((wr.drew.alloc (.cells #[fv, .bool heap, .bool true] 77)).ownsRow 0 28 2 fv k (flat (List.replicate k (0, 0)))) := ownsRow_fr (World.ownsRow.mono HR.out (Nat.zero_le _)) hFd (fun _ _ h => h)
      have HFD : Hd _ := hFd
      obtain ⟨c0, c1, c2⟩ := hHB.heads
      obtain ⟨cad, ccap, hcv, -, -⟩ := row_shape hHB.cls
      have z2 : wr.frozen? ⟨b, 2, none⟩ = false := frozen_of hHB.blk 2
      have p2 : wr.cell? ⟨w.heap.size, 1, none⟩ = some (.bool heap) := by rw [cell_of HC.out]; rfl
      have p3 : wr.cell? ⟨w.heap.size, 2, none⟩ = some (.bool true) := by rw [cell_of HC.out]; rfl
      have hnews : ∀ j u, [fv, .bool heap, .bool true][j]? = some u → (wr.drew.alloc (.cells #[fv, .bool heap, .bool true] 77)).cell? ((⟨wr.heap.size, 0, none⟩ : Addr).add j) = some u :=
        World.news_of_block (cs := #[fv, .bool heap, .bool true]) (heap_alloc_last wr.drew (.cells #[fv, .bool heap, .bool true] 77))
      have hw1 : (wr.drew.alloc (.cells #[fv, .bool heap, .bool true] 77)).heap.size = wr.heap.size + 1 := by simp
      obtain ⟨i77, hi, hz, hs, hb⟩ := info_parts (P := Try.prog) (e := 77) (z := .agg #[.slice none 0 0, .bool false, .bool false]) (size := 3) (bytes := 32) (by kernel_rfl)
      have t1 : (Value.agg #[.slice none 0 0, .bool false, .bool false]).cells.size = 3 := rfl
      have t2 : ∀ u ∈ [fv, .bool heap, .bool true], u.oneCell' = true := by
        obtain ⟨fa, fc, rfl, -⟩ := row_shape HR.out
        intro u hu
        simp at hu
        rcases hu with rfl | rfl | rfl <;> rfl
      have t4 : [fv, .bool heap, .bool true].length = 1 * 3 := rfl
      have hmx : a.cells.length + 1 ≤ maxLen := by unfold maxLen; omega
      have HAFT : Hd (∀ w6 : World, (wr.drew.alloc (.cells #[fv, .bool heap, .bool true] 77)).grownBy w6 g.cv.ownBlock → w6.cell? ⟨b, 2, none⟩ = some g.cv ∧ w6.frozen? ⟨b, 2, none⟩ = false ∧ w6.cell? ⟨w.heap.size, 0, none⟩ = some fv ∧ w6.cell? ⟨w.heap.size, 1, none⟩ = some (.bool heap) ∧ w6.cell? ⟨w.heap.size, 2, none⟩ = some (.bool true)) := fun w6 hg => by
        have hc6 : w6.heap[b]? = some (.cells #[g.gv, g.fv, g.cv] 56) := by
          rw [hg.block b (heap_lt HBa.out.blk) (fun e => rne HBa.out.ob (HBa.out.oc b e.symm) (by omega) rfl)]
          exact HBa.out.blk
        have hd6 : w6.heap[w.heap.size]? = some (.cells #[fv, .bool heap, .bool true] 77) := by
          rw [hg.block w.heap.size (by rw [hw1]; omega) (fun e => by
            have h4 := HM.out.oc _ e.symm
            have := HM.out.olt w.heap.size (by rw [h4]; decide)
            omega), HFD.out.block w.heap.size hcl (fun h => h)]
          exact HC.out
        exact ⟨by rw [cell_of hc6]; rfl, frozen_of hc6 2, by rw [cell_of hd6]; rfl, by rw [cell_of hd6]; rfl, by rw [cell_of hd6]; rfl⟩
      have ne1 : wr.heap.size ≠ w.heap.size := by omega
      have ne2 : b ≠ w.heap.size := by have := heap_lt HM.out.blk; omega
      have hlbw : b < wr.heap.size := heap_lt hHB.blk
      clear hHB hFd c0 c1 hcv
      go_upto_region 10 with fail
      go_cut [] (fun wx => ∃ (g1 : RG) (g6 cap6 : Nat), Hd (RMem wx b g1 { a with cells := a.cells ++ [⟨List.replicate k (0, 0), heap, true⟩] }) ∧ Hd (Fr (fun j => g.own j ≠ 0) w wx) ∧ Hd (∀ k, k < w.heap.size → g1.own k = g.own k) ∧ Hd (g1.fr = g.fr) ∧ Hd (g1.fv = .slice (some ⟨fb, 0, none⟩) a.frs.length cap) ∧ Hd (g1.cv = .slice (some ⟨g6, 0, none⟩) (a.cells.length + 1) cap6))
      case first =>
        go_region_law (
          refine step_append_lies _ rfl (.tmp 44) (.tmp 46) 54 rfl 0 77 i77 (.agg #[.slice none 0 0, .bool false, .bool false]) 3 32 under54 hi hz hs hb t1 (by omega) g.cv a.cells.length (flatC g.fl a.cells) (by simp [Act.eval, Act.put]) HBa.out.cls ⟨wr.heap.size, 0, none⟩ 1 1 [fv, .bool heap, .bool true] (by simp [Act.eval, Act.put]) t4 hnews t2 (by omega) hmx (by omega) (Nat.zero_le _) (wr.heap.size + 1) hw1 ?_
          intro g6 cap6 w6 hown6 hgrow6 hat6 hlt6
          obtain ⟨y2, z6, s0, s1, s2⟩ := HAFT.out w6 hgrow6)
        all_goals
          obtain ⟨g1, m1, m2, m3, e1, e2, e3⟩ := HBa.out.added (u := fv) (c := ⟨List.replicate k (0, 0), heap, true⟩) (by simp only [List.length_replicate]; exact HRa.out) (fun j hj => by
            have hj1 : w.heap.size + 1 ≤ j := (World.ownsRow.lt HR.out j hj).1
            by_cases hz0 : g.own j = 0
            · exact hz0
            · have := HM.out.olt j hz0; omega) (s := w.heap.size) (by have := HFr.out.size; rw [hw1]; omega) (fun j hj => by have := (World.ownsRow.lt HR.out j hj).1; omega) hown6 hgrow6 (by rw [hw1]; exact hat6)
          go_wp2_with fail
          go_meet
          exact ⟨g1, g6, cap6, m1, (((HFr.out.trans HFD.out).mono (fun _ _ h => h.elim)).trans m2), m3, e2, e1.trans HFV.out, e3⟩
      case rest =>
        obtain ⟨g1, g6, cap6, HM7, HF7, HE7, HE2, HFV7, HCV7⟩ := hcut
        clear hnews t1 t2 t4 hi hz hs hb hw1 hmx p1 p2 p3 c2 z2 c1
        obtain ⟨c0, c1, c2⟩ := HM7.out.heads
        rw [HFV7.out, show a.frs.length = m + 1 from HHM.out] at c1
        rw [HCV7.out] at c2
        clear c0
        obtain ⟨u, hu⟩ : ∃ u, g1.fr[m]? = some u := ⟨_, List.getElem?_eq_getElem (by have h1 := HM7.out.lfr; have h2 : a.frs.length = m + 1 := HHM.out; simp only at h1; omega)⟩
        have hrowc := HM7.out.frs
        rw [HFV7.out] at hrowc
        have f0 : wc.cell? ⟨fb, m, none⟩ = some u := row_cell hrowc hu
        obtain ⟨cur7, hcur7⟩ := row_block hrowc
        have fz : wc.frozen? ⟨fb, m, none⟩ = false := frozen_of hcur7 m
        have hur := HM7.out.fro m u l hu HL.out
        obtain ⟨ua, uc, rfl, -, -⟩ := row_shape hur
        have hFd7 : Fr (fun _ => False) wc (wc.drew.alloc (.cells #[vI ((a.cells.length : Int) + 1)] 3)) := Fr.alloc (Fr.drew (Fr.refl _ wc)) _
        have HM8 : Hd _ := HM7.out.keep hFd7
        have HFD7 : Hd _ := hFd7
        have HU8 : Hd _ := ownsRow_fr hur hFd7 (fun _ _ h => h)
        have HU : Hd _ := hu
        obtain ⟨i3, hi, hz, hs, hb⟩ := info_parts (P := Try.prog) (e := 3) (z := .int .i64 0) (size := 1) (bytes := 8) (by kernel_rfl)
        have hnews : ∀ j u, [vI ((a.cells.length : Int) + 1)][j]? = some u → (wc.drew.alloc (.cells #[vI ((a.cells.length : Int) + 1)] 3)).cell? ((⟨wc.heap.size, 0, none⟩ : Addr).add j) = some u :=
          World.news_of_block (cs := #[vI ((a.cells.length : Int) + 1)]) (heap_alloc_last wc.drew (.cells #[vI ((a.cells.length : Int) + 1)] 3))
        have hw1 : (wc.drew.alloc (.cells #[vI ((a.cells.length : Int) + 1)] 3)).heap.size = wc.heap.size + 1 := by simp
        have hmx : l.length + 1 ≤ maxLen := by unfold maxLen; omega
        have t2 : ∀ u ∈ [vI ((a.cells.length : Int) + 1)], u.oneCell' = true := by intro u hu; simp at hu; subst hu; rfl
        have hbl : b < wc.heap.size := heap_lt HM7.out.blk
        have hfbl : fb < wc.heap.size := heap_lt hcur7
        have HFO : Hd (g1.own fb = 3) := HM7.out.of fb (by rw [HFV7.out]; rfl)
        have HAFT2 : Hd (∀ w8 : World, (wc.drew.alloc (.cells #[vI ((a.cells.length : Int) + 1)] 3)).grownBy w8 (Value.slice ua l.length uc).ownBlock → w8.cell? ⟨fb, m, none⟩ = some (.slice ua l.length uc) ∧ w8.frozen? ⟨fb, m, none⟩ = false ∧ w8.cell? ⟨b, 2, none⟩ = some (.slice (some ⟨g6, 0, none⟩) (a.cells.length + 1) cap6) ∧ w8.cell? ⟨b, 1, none⟩ = some (.slice (some ⟨fb, 0, none⟩) (m + 1) cap)) := fun w8 hg => by
          have hr8 := HM8.out.frs
          rw [HFV7.out] at hr8
          obtain ⟨cur8, hcur8⟩ := row_block hr8
          have k1 : w8.heap[fb]? = (wc.drew.alloc (.cells #[vI ((a.cells.length : Int) + 1)] 3)).heap[fb]? := hg.block fb (heap_lt hcur8) (fun e => rne HFO.out (HM8.out.ofr m _ fb HU.out e.symm) (by omega) rfl)
          have k2 : w8.heap[b]? = some (.cells #[g1.gv, g1.fv, g1.cv] 56) := by
            rw [hg.block b (heap_lt HM8.out.blk) (fun e => rne HM8.out.ob (HM8.out.ofr m _ b HU.out e.symm) (by omega) rfl)]
            exact HM8.out.blk
          refine ⟨?_, frozen_of (k1.trans hcur8) m, ?_, ?_⟩
          · rw [World.cell?_of_block k1]
            exact row_cell hr8 HU.out
          · rw [cell_of k2]
            show some g1.cv = _
            rw [HCV7.out]
          · rw [cell_of k2]
            show some g1.fv = _
            rw [HFV7.out, show a.frs.length = m + 1 from HHM.out]
        have nefb : fb ≠ b := rne HFO.out HM7.out.ob (by omega)
        have i0 : (0 : Int) ≤ m := by omega
        have i1 : (m : Int) < (m : Int) + 1 := by omega
        have i2 : (m : Int) < ((m + 1 : Nat) : Int) := by omega
        clear hu hrowc hcur7 hur hFd7
        go_wp2_with fail
        go_region_law (
          refine step_append_lies _ rfl (.tmp 67) (.tmp 73) 29 rfl 0 3 i3 (.int .i64 0) 1 8 under39 hi hz hs hb rfl (by omega) (.slice ua l.length uc) l.length (l.map fun n : Nat => vI n) (by simp [Act.eval, Act.put]) HU8.out ⟨wc.heap.size, 0, none⟩ 1 1 [vI ((a.cells.length : Int) + 1)] (by simp [Act.eval, Act.put]) rfl hnews t2 (by omega) hmx (by omega) (Nat.zero_le _) (wc.heap.size + 1) hw1 ?_
          intro g8 cap8 w8 hown8 hgrow8 hat8 hlt8
          obtain ⟨y8, z8, s8, s9⟩ := HAFT2.out w8 hgrow8)
        all_goals
          go_wp2_with fail
          go_ret2
          obtain ⟨g9, n1, n2, n3, -⟩ := HM8.out.numbered (t := m) (n := a.cells.length + 1) HL.out HU.out HFV7.out (by rw [show ((a.cells.length + 1 : Nat) : Int) = (a.cells.length : Int) + 1 by omega]; exact hown8) hgrow8 (by rw [hw1]; exact hat8)
          rw [HX.out]
          refine ⟨rfl, g9, n1, ?_, fun j hj => ?_⟩
          · exact HF7.out.then ((HFD7.out.mono (fun _ _ h => h.elim)).trans n2) (fun j hj e => by rw [HE7.out j hj] at e; exact e)
          · rw [n3 j (by rw [hw1]; have := HF7.out.size; omega), HE7.out j hj]

end Go.Proofs.Ytmdlebolmhnhaab
