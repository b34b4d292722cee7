import Derived.Test.YtmdlebolmhnhaaaH5
namespace Go.Proofs.Ytmdlebolmhnhaaa
open Go.RowKit (wrap32 wrap64)
open Go.Maps (Keyed)
set_option linter.unusedVariables false
set_option linter.unusedSimpArgs false

theorem under50 : Try.prog.underlying 50 = some (.slice 76) := by kernel_rfl

theorem flat_snoc (l : List Val) (x : Val) : flat (l ++ [x]) = flat l ++ [vI x.1, vI x.2] := by
  induction l with
  | nil => rfl
  | cons y r ih => simp [flat, ih]
theorem rep_snoc (k : Nat) : flat (List.replicate (k + 1) ((0, 0) : Val)) = flat (List.replicate k (0, 0)) ++ [vI 0, vI 0] := by
  rw [List.replicate_succ', flat_snoc]

set_option maxRecDepth 100000 in
set_option maxHeartbeats 2000000 in
/-- make: a cell, and its place in the ledger. -/
theorem makel_any (w0 : World) (b : Nat) (g : Gh) (a : Abs) (lb d : Nat) (av : Value) (E : List Ent) (w : World) (h : Both w0 w b g a lb d av E) (hq : Sq a d (ms E)) {N : Nat} (hf : Fine N a) (hN : N ≤ 2000000000000) {n : Nat} (h1 : 1 ≤ n) (h8 : n ≤ 8) (heap : Bool) :
    Calls Try.prog 35 #[ptr lb, vI n, .bool heap] w fun e w' => e = .returned (.bool true) ∧ ∃ g' av' E', Both w0 w' b g' (makeX a (n : Int) heap).1 lb d av' E' ∧ Sq (makeX a (n : Int) heap).1 d (ms E') := by
  have hmd : a.made = E.length := by have := hq.made; simpa [ms] using this
  have hE : E.length ≤ N := by have := hf.made; omega
  have hd : d ≤ N := by have := hq.deep; have := hf.frs; omega
  obtain ⟨c0, c1, c2⟩ := h.led.heads
  have HB : Hd _ := h
  have HQ : Hd _ := hq
  have HF : Hd _ := hf
  have HMD : Hd _ := hmd
  clear h hq hf hmd
  go_enter Try.func35, Try.ntmps35
  go_wp2_with fail
  refine (show Calls Try.prog 12 #[ptr b, vI n, .bool heap] w _ from make_x b g a n heap w HB.out.mem HF.out (by omega)).mono ?_
  rintro e w1 ⟨g1, rfl, hM1, hF1, hE1⟩
  have HB1 : Hd _ := HB.out.call hM1 hF1 hE1
  clear hM1 hF1 hE1 c0 c1 c2 HB
  obtain ⟨c0, c1, c2⟩ := HB1.out.led.heads
  by_cases hd0 : d = 0
  · subst hd0
    have hp := HQ.out.make0 h1 h8 heap
    have HP : Hd _ := hp
    rw [hp] at HB1 ⊢
    clear hp
    go_wp2_with fail
    go_ret
    rw [HP.out]
    exact ⟨rfl, g1, av, E, HB1.out, HQ.out⟩
  · obtain ⟨hX, hsq⟩ := HQ.out.make (by omega) h1 h8 heap
    have e1 : (makeX a (n : Int) heap).2.1 = ((E.length + 1 : Nat) : Int) := by rw [hX]; simp only; rw [HMD.out]
    have e2 : (makeX a (n : Int) heap).2.2 = 0 := by rw [hX]
    rw [e1, e2]
    have HSQ : Hd _ := hsq
    clear hX hsq e1 e2
    obtain ⟨A, hA⟩ : ∃ A, (makeX a (n : Int) heap).1 = A := ⟨_, rfl⟩
    rw [hA] at HB1 HSQ
    have HA : Hd _ := hA
    clear hA
    obtain ⟨ad, cap, rfl, -⟩ := row_shape HB1.out.led.row
    have hd1 : ((d : Int) == 0) = false := by simp; omega
    obtain ⟨q, hqe⟩ : ∃ q, q = E.length + 1 := ⟨_, rfl⟩
    rw [← hqe]
    have HQE : Hd _ := hqe
    clear hqe
    go_wp2_with fail
    clear c0 c1 c2
    go_loopw [10] (fun v wr => ∃ (k : Nat) (fv : Value), v = .int .i64 k ∧ k ≤ n ∧ Hd (Fr (fun _ => False) w1 wr) ∧ Hd (wr.heap[w1.heap.size]? = some (.cells #[vI q, fv, vI d, .bool heap, .bool true] 76)) ∧ Hd (wr.ownsRow (w1.heap.size + 1) 32 2 fv k (flat (List.replicate k (0, 0))))) (fun v _ => match v with | .int _ q => n - q.toNat | _ => 0)
    case atStart => exact ⟨0, .slice none 0 0, rfl, Nat.zero_le _, Fr.alloc (Fr.refl _ _) _, heap_alloc_last _ _, World.ownsRow_nil _ _ _ _⟩
    case round =>
      obtain ⟨k, fv, rfl, hk, HFr, HC, HR⟩ := hrel
      have p1 : wr.cell? ⟨w1.heap.size, 1, none⟩ = some (fv) := by rw [cell_of HC.out]; rfl
      have hcl : w1.heap.size < wr.heap.size := heap_lt HC.out
      by_cases hlt : k < n
      · obtain ⟨i32, hi, hz, hs, hb⟩ := info_parts (P := Try.prog) (e := 32) (z := vv (0, 0)) (size := 2) (bytes := 16) (by kernel_rfl)
        have hk0 : (0 : Int) ≤ k := by omega
        have hk1 : (k : Int) < n := by omega
        have HRA : Hd ((wr.alloc (.cells #[vI 0, vI 0] 32)).ownsRow (w1.heap.size + 1) 32 2 (fv) k (flat (List.replicate k (0, 0)))) := World.ownsRow.alloc HR.out _
        have hnews : ∀ j u, [vI 0, vI 0][j]? = some u → (wr.alloc (.cells #[vI 0, vI 0] 32)).cell? ((⟨wr.heap.size, 0, none⟩ : Addr).add j) = some u :=
          World.news_of_block (w := (wr.alloc (.cells #[vI 0, vI 0] 32))) (cs := #[vI 0, vI 0]) (heap_alloc_last wr (.cells #[vI 0, vI 0] 32))
        have hw1 : (wr.alloc (.cells #[vI 0, vI 0] 32)).heap.size = wr.heap.size + 1 := by simp
        have hbase : w1.heap.size + 1 ≤ (wr.alloc (.cells #[vI 0, vI 0] 32)).heap.size := by rw [hw1]; omega
        have hmx : k + 1 ≤ maxLen := by unfold maxLen; omega
        have HNC : Hd (∀ j, (fv).ownBlock = some j → w1.heap.size + 1 ≤ j) := fun j e => (World.ownsRow.lt HR.out j e).1
        have HCA : Hd ((wr.alloc (.cells #[vI 0, vI 0] 32)).heap[w1.heap.size]? = some (.cells #[vI q, fv, vI d, .bool heap, .bool true] 76)) := (Go.RowKit.Below.heap_alloc wr _ _ hcl).trans HC.out
        have t1 : (vv (0, 0)).cells.size = 2 := rfl
        have t2 : ∀ u ∈ [vI 0, vI 0], u.oneCell' = true := by intro u hu; simp at hu; subst hu; rfl
        have t4 : [vI 0, vI 0].length = 1 * 2 := rfl
        have HAFT : Hd (∀ w6 : World, (wr.alloc (.cells #[vI 0, vI 0] 32)).grownBy w6 fv.ownBlock → w6.heap[w1.heap.size]? = some (.cells #[vI q, fv, vI d, .bool heap, .bool true] 76) ∧ w6.cell? ⟨w1.heap.size, 1, none⟩ = some fv ∧ w6.frozen? ⟨w1.heap.size, 1, none⟩ = false) := fun w6 hg => by
          have hc6 : w6.heap[w1.heap.size]? = some (.cells #[vI q, fv, vI d, .bool heap, .bool true] 76) := by
            rw [hg.block w1.heap.size (by rw [hw1]; omega) (fun e => by have := HNC.out _ e.symm; omega)]
            exact HCA.out
          exact ⟨hc6, by rw [cell_of hc6]; rfl, frozen_of hc6 1⟩
        go_wp2_with ((at_builtin; refine wpList_append_lies _ rfl (.tmp 45) (.tmp 47) 22 rfl (w1.heap.size + 1) 32 i32 (vv (0, 0)) 2 16 under22 hi hz hs hb t1 (by omega) fv k (flat (List.replicate k (0, 0))) rfl HRA.out ⟨wr.heap.size, 0, none⟩ 1 1 [vI 0, vI 0] rfl t4 hnews t2 (by omega) hmx (by omega) hbase (wr.heap.size + 1) hw1 ?_; intro g6 cap6 w6 hown6 hgrow6 hat6 hlt6; obtain ⟨hc6, y1, z1⟩ := HAFT.out w6 hgrow6; have HC6 : Hd _ := hc6; clear hc6))
        have hF6 : Fr (fun j => (fv).ownBlock = some j) (wr.alloc (.cells #[vI 0, vI 0] 32)) w6 := grown_fr hgrow6
        have hFa : Fr (fun _ => False) wr (wr.alloc (.cells #[vI 0, vI 0] 32)) := Fr.alloc (Fr.refl _ wr) _
        have hG6 : Fr (fun _ => False) w1 w6 := (HFr.out.trans hFa).then hF6 (fun j hj e => by have := HNC.out j e; omega)
        have hG7 : Fr (fun _ => False) w1 (w6.setCell ⟨w1.heap.size, 1, none⟩ (.slice (some ⟨g6, 0, none⟩) (k + 1) cap6)) := hG6.then (setCell_fr w6 _ _ _) (fun j hj e => by omega)
        refine ⟨⟨k + 1, .slice (some ⟨g6, 0, none⟩) (k + 1) cap6, by simp, by omega, hG7, ?_, ?_⟩, by simp; omega⟩
        · unfold Hd
          rw [set_of HC6.out]
          rfl
        · have hg6 : w1.heap.size + 1 ≤ g6 := (World.ownsRow.lt hown6 g6 rfl).1
          have := ownsRow_fr hown6 (setCell_fr w6 w1.heap.size 1 (.slice (some ⟨g6, 0, none⟩) (k + 1) cap6)) (fun j e ej => by cases e; have ej' : g6 = w1.heap.size := ej; omega)
          rw [← rep_snoc] at this
          exact this
      · have hke : k = n := by omega
        subst hke
        have hHB : Both w0 wr b g1 A lb d (.slice ad E.length cap) E := HB1.out.keep HFr.out
        have hFd : Fr (fun _ => False) wr (wr.drew.alloc (.cells #[vI q, fv, vI d, .bool heap, .bool true] 76)) := Fr.alloc (Fr.drew (Fr.refl _ wr)) _
        have HBa : Hd (Both w0 (wr.drew.alloc (.cells #[vI q, fv, vI d, .bool heap, .bool true] 76)) b g1 A lb d (.slice ad E.length cap) E) := hHB.keep hFd
        have hRa : (wr.drew.alloc (.cells #[vI q, fv, vI d, .bool heap, .bool true] 76)).ownsRow w0.heap.size 32 2 fv k (flat (List.replicate k (0, 0))) := ownsRow_fr (World.ownsRow.mono HR.out (by have := HB1.out.fr.size; omega)) hFd (fun _ _ h => h)
        have HRa : Hd _ := hRa
        obtain ⟨c0, c1, c2⟩ := hHB.led.heads
        have z2 : wr.frozen? ⟨lb, 2, none⟩ = false := frozen_of hHB.led.blk 2
        have p0 : wr.cell? ⟨w1.heap.size, 0, none⟩ = some (vI q) := by rw [cell_of HC.out]; rfl
        have p2 : wr.cell? ⟨w1.heap.size, 2, none⟩ = some (vI d) := by rw [cell_of HC.out]; rfl
        have p3 : wr.cell? ⟨w1.heap.size, 3, none⟩ = some (.bool heap) := by rw [cell_of HC.out]; rfl
        have p4 : wr.cell? ⟨w1.heap.size, 4, none⟩ = some (.bool true) := by rw [cell_of HC.out]; rfl
        have hnews : ∀ j u, [vI q, fv, vI d, .bool heap, .bool true][j]? = some u → (wr.drew.alloc (.cells #[vI q, fv, vI d, .bool heap, .bool true] 76)).cell? ((⟨wr.heap.size, 0, none⟩ : Addr).add j) = some u :=
          World.news_of_block (cs := #[vI q, fv, vI d, .bool heap, .bool true]) (heap_alloc_last wr.drew (.cells #[vI q, fv, vI d, .bool heap, .bool true] 76))
        have hw1 : (wr.drew.alloc (.cells #[vI q, fv, vI d, .bool heap, .bool true] 76)).heap.size = wr.heap.size + 1 := by simp
        obtain ⟨i76, hi, hz, hs, hb⟩ := info_parts (P := Try.prog) (e := 76) (z := .agg #[vI 0, .slice none 0 0, vI 0, .bool false, .bool false]) (size := 5) (bytes := 48) (by kernel_rfl)
        have t1 : (Value.agg #[vI 0, .slice none 0 0, vI 0, .bool false, .bool false]).cells.size = 5 := rfl
        have t2 : ∀ u ∈ [vI q, fv, vI d, .bool heap, .bool true], u.oneCell' = true := by
          obtain ⟨fa, fc, rfl, -⟩ := row_shape HR.out
          intro u hu
          simp at hu
          rcases hu with rfl | rfl | rfl | rfl | rfl <;> rfl
        have t4 : [vI q, fv, vI d, .bool heap, .bool true].length = 1 * 5 := rfl
        have hbase : w0.heap.size ≤ (wr.drew.alloc (.cells #[vI q, fv, vI d, .bool heap, .bool true] 76)).heap.size := HBa.out.fr.size
        have hmx : E.length + 1 ≤ maxLen := by unfold maxLen; omega
        have HAFT : Hd (∀ w6 : World, (wr.drew.alloc (.cells #[vI q, fv, vI d, .bool heap, .bool true] 76)).grownBy w6 (Value.slice ad E.length cap).ownBlock → w6.cell? ⟨lb, 2, none⟩ = some (.slice ad E.length cap) ∧ w6.frozen? ⟨lb, 2, none⟩ = false) := fun w6 hg => by
          have hc6 : w6.heap[lb]? = some (.cells #[ptr b, vI d, .slice ad E.length cap] 52) := by
            rw [hg.block lb (heap_lt HBa.out.led.blk) (fun e => HBa.out.led.kinds.1 e.symm)]
            exact HBa.out.led.blk
          exact ⟨by rw [cell_of hc6]; rfl, frozen_of hc6 2⟩
        have hql : (E.length : Int) + 1 = (q : Int) := by have : q = E.length + 1 := HQE.out; omega
        have hlbw : lb < wr.heap.size := heap_lt hHB.led.blk
        clear hHB hFd hRa
        go_wp2_with fail
        go_region_law (
          refine step_append_lies _ rfl (.tmp 54) (.tmp 56) 50 rfl w0.heap.size 76 i76 (.agg #[vI 0, .slice none 0 0, vI 0, .bool false, .bool false]) 5 48 under50 hi hz hs hb t1 (by omega) (.slice ad E.length cap) E.length (flatE E) (by simp [Act.eval, Act.put]) HBa.out.led.row ⟨wr.heap.size, 0, none⟩ 1 1 [vI q, fv, vI d, .bool heap, .bool true] (by simp [Act.eval, Act.put]) t4 hnews t2 (by omega) hmx (by omega) hbase (wr.heap.size + 1) hw1 ?_
          intro g6 cap6 w6 hown6 hgrow6 hat6 hlt6
          obtain ⟨y2, z6⟩ := HAFT.out w6 hgrow6)
        all_goals
          go_wp2_with fail
          go_ret
          rw [show (makeX a (k : Int) heap).1 = A from HA.out]
          refine ⟨by simp, g1, .slice (some ⟨g6, 0, none⟩) (E.length + 1) cap6, E ++ [⟨(q : Int), fv, ⟨List.replicate k (0, 0), (d : Int), heap, true⟩⟩], ?_, ?_⟩
          · refine HBa.out.grow (r := ⟨(q : Int), fv, ⟨List.replicate k (0, 0), (d : Int), heap, true⟩⟩) (by simp only; omega) (by simp only [List.length_replicate]; exact HRa.out) (fun j hj => ?_) hown6 hgrow6 (by rw [hw1]; exact hat6)
            have hj1 : w1.heap.size + 1 ≤ j := (World.ownsRow.lt HR.out j hj).1
            refine ⟨?_, fun hlb => ?_⟩
            · by_cases h0 : g1.own j = 0
              · exact h0
              · have := HB1.out.mem.olt j h0; omega
            · have := (HB1.out.led.lt hlb).2; omega
          · have := HSQ.out
            simpa [ms] using this

end Go.Proofs.Ytmdlebolmhnhaaa
