import Derived.Test.YtmdlebolmhnhaaaE5
namespace Go.Proofs.Ytmdlebolmhnhaaa
open Go.RowKit (wrap32 wrap64)
open Go.Maps (Keyed)
set_option linter.unusedVariables false
set_option linter.unusedSimpArgs false

/-- One call's answer as numbers. -/
def tellX (r : Ans) : List Int := [r.n, r.v.1, r.v.2, r.err] ++ r.list

theorem take_snoc_vI (hd li : List Int) (k : Nat) (h : k < li.length) : (hd ++ li.take (k + 1)).map vI = (hd ++ li.take k).map vI ++ [vI (li[k]?.getD 0)] := by
  rw [take_more li k h]
  simp

set_option maxRecDepth 100000 in
set_option maxHeartbeats 2000000 in
theorem told_any (b : Nat) (g : Gh) (a : Abs) (o : OpR) (zs : List Int) (w : World) (h : Mem w b g a) (hI : IntsAt w.heap.size w o.cells zs) (hl : o.cl = zs.length) (hso : zs ≠ [] → ∀ j, o.cells.ownBlock = some j → g.own j = 0) (hz : zs.length ≤ 17592186043904) {N : Nat} (hf : Fine N a) (hN : N + 1 ≤ 10000000000000) :
    Calls Try.prog 24 #[ptr b, opV o] w fun e w' => ∃ g' v, e = .returned v ∧ w'.ownsRow w.heap.size 3 1 v (tellX (ansX a o zs)).length ((tellX (ansX a o zs)).map vI) ∧ (∀ j, v.ownBlock = some j → g'.own j = 0) ∧ Mem w' b g' (ansX a o zs).abs ∧ Fr (fun j => g.own j ≠ 0) w w' ∧ Ext w.heap.size g g' := by
  have hF0 : Fr (fun _ => False) w (w.alloc (.cells (opC o) 44)) := Fr.alloc (Fr.refl _ w) _
  have HM0 : Hd _ := h.keep hF0
  have HI0 : Hd _ := IntsAt.fr hI hF0 (fun _ _ h => h)
  have HF0 : Hd _ := hF0
  have c0 : (w.alloc (.cells (opC o) 44)).cell? ⟨w.heap.size, 0, none⟩ = some (vI o.kind) := by rw [World.cell?_alloc_new]; rfl
  have c1 : (w.alloc (.cells (opC o) 44)).cell? ⟨w.heap.size, 1, none⟩ = some (vI o.on) := by rw [World.cell?_alloc_new]; rfl
  have c2 : (w.alloc (.cells (opC o) 44)).cell? ⟨w.heap.size, 2, none⟩ = some (vI o.n) := by rw [World.cell?_alloc_new]; rfl
  have c3 : (w.alloc (.cells (opC o) 44)).cell? ⟨w.heap.size, 3, none⟩ = some (.bool o.heap) := by rw [World.cell?_alloc_new]; rfl
  have c4 : (w.alloc (.cells (opC o) 44)).cell? ⟨w.heap.size, 4, none⟩ = some (vI o.v.1) := by rw [World.cell?_alloc_new]; rfl
  have c5 : (w.alloc (.cells (opC o) 44)).cell? ⟨w.heap.size, 5, none⟩ = some (vI o.v.2) := by rw [World.cell?_alloc_new]; rfl
  have c6 : (w.alloc (.cells (opC o) 44)).cell? ⟨w.heap.size, 6, none⟩ = some (vI o.w.1) := by rw [World.cell?_alloc_new]; rfl
  have c7 : (w.alloc (.cells (opC o) 44)).cell? ⟨w.heap.size, 7, none⟩ = some (vI o.w.2) := by rw [World.cell?_alloc_new]; rfl
  have c8 : (w.alloc (.cells (opC o) 44)).cell? ⟨w.heap.size, 8, none⟩ = some o.cells := by rw [World.cell?_alloc_new]; rfl
  clear h hI hF0
  go_enter Try.func24, Try.ntmps24
  go_wp2_with fail
  clear c0 c1 c2 c3 c4 c5 c6 c7 c8
  generalize w.alloc (.cells (opC o) 44) = w1 at *
  refine (show Calls Try.prog 20 #[ptr b, opV o] w1 _ from one_all b g a o zs w1 HM0.out HI0.out hl hso hz hf (by omega)).mono ?_
  have hlen := ans_len hf o zs hN
  obtain ⟨r, hr⟩ : ∃ r, ansX a o zs = r := ⟨_, rfl⟩
  have HANS : Hd _ := hr
  rw [hr] at hlen ⊢
  clear hr
  rintro e w2 ⟨g2, lv, rfl, hLI, hLo, hM2, hF2, hE2⟩
  obtain ⟨A', n', v', er, li⟩ := r
  simp only at hLI hM2 hlen
  have hF3 : Fr (fun _ => False) w2 (w2.alloc (.cells #[vI v'.1, vI v'.2] 32)) := Fr.alloc (Fr.refl _ w2) _
  have HLI3 : Hd _ := IntsAt.fr hLI hF3 (fun _ _ h => h)
  have HM3 : Hd _ := hM2.keep hF3
  have HFw : Hd (Fr (fun j => g.own j ≠ 0) w (w2.alloc (.cells #[vI v'.1, vI v'.2] 32))) := ((HF0.out.mono (fun _ _ h => h.elim)).trans hF2).trans (hF3.mono (fun _ _ h => h.elim))
  have HE : Hd (Ext w.heap.size g g2) := fun k hk => hE2 k (Nat.lt_of_lt_of_le hk HF0.out.size)
  obtain ⟨la, lc, rfl, -⟩ := hLI.shape
  clear hF2 hE2 hLI hM2 hLo HM0 HI0 HF0
  have x0 : (w2.alloc (.cells #[vI v'.1, vI v'.2] 32)).cell? ⟨w2.heap.size, 0, none⟩ = some (vI v'.1) := by rw [World.cell?_alloc_new]; rfl
  have x1 : (w2.alloc (.cells #[vI v'.1, vI v'.2] 32)).cell? ⟨w2.heap.size, 1, none⟩ = some (vI v'.2) := by rw [World.cell?_alloc_new]; rfl
  go_wp2_with fail
  have hs3 : (w2.alloc (.cells #[vI v'.1, vI v'.2] 32)).heap.size = w2.heap.size + 1 := by simp
  clear x0 x1 hF3
  generalize w2.alloc (.cells #[vI v'.1, vI v'.2] 32) = w3 at *
  rw [← hs3]
  have R4 := heap_alloc_last w3 (.cells #[vI n', vI v'.1, vI v'.2, vI er] 3)
  have HR4 : Hd ((w3.alloc (.cells #[vI n', vI v'.1, vI v'.2, vI er] 3)).ownsRow w3.heap.size 3 1 (.slice (some ⟨w3.heap.size, 0, none⟩) 4 4) (4 + 0) (([n', v'.1, v'.2, er] ++ li.take 0).map vI)) := by
    refine ⟨by simp, Or.inr ⟨w3.heap.size, 4, _, rfl, Nat.le_refl _, R4, by omega, by unfold maxLen; omega, by simp, by simp⟩⟩
  have HF4 : Hd (Fr (fun _ => False) w3 (w3.alloc (.cells #[vI n', vI v'.1, vI v'.2, vI er] 3))) := Fr.alloc (Fr.refl _ w3) _
  clear R4 hs3
  go_loopw [9, 10] (fun u v wr => ∃ (k : Nat), v = .int .i64 k ∧ k ≤ li.length ∧ Hd (wr.ownsRow w3.heap.size 3 1 u (4 + k) (([n', v'.1, v'.2, er] ++ li.take k).map vI)) ∧ Hd (Fr (fun _ => False) w3 wr)) (fun _ v _ => match v with | .int _ q => li.length - q.toNat | _ => 0)
  case atStart => exact ⟨0, rfl, Nat.zero_le _, HR4.out, HF4.out⟩
  case round =>
    obtain ⟨k, rfl, hk, HRow, HF⟩ := hrel
    clear HR4 HF4
    by_cases hlt : k < li.length
    · obtain ⟨k1, o1, rfl, hc1⟩ : ∃ k o, la = some ⟨k, o, none⟩ ∧ ∀ j, j < li.length → wr.cell? ⟨k, o + j, none⟩ = some (vI (li[j]?.getD 0)) := by
        obtain ⟨a', c', e, hh⟩ := (IntsAt.fr HLI3.out HF.out (fun _ _ h => h)).shape
        cases e
        exact hh (by intro e; simp [e] at hlt)
      have q1 := hc1 k hlt
      have HTS : Hd _ := take_snoc_vI [n', v'.1, v'.2, er] li k hlt
      generalize li[k]?.getD 0 = z at *
      clear hc1
      have hk0 : (0 : Int) ≤ k := by omega
      have hk1 : (k : Int) < li.length := by omega
      obtain ⟨i3, hi, hz3, hs3, hb3⟩ := info_parts (P := Try.prog) (e := 3) (z := .int .i64 0) (size := 1) (bytes := 8) (by kernel_rfl)
      have HRowA : Hd ((wr.alloc (.cells #[vI z] 3)).ownsRow w3.heap.size 3 1 u9 (4 + k) (([n', v'.1, v'.2, er] ++ li.take k).map vI)) := World.ownsRow.alloc HRow.out (.cells #[vI z] 3)
      have hnews : ∀ j u, [vI z][j]? = some u → (wr.alloc (.cells #[vI z] 3)).cell? ((⟨wr.heap.size, 0, none⟩ : Addr).add j) = some u :=
        World.news_of_block (w := (wr.alloc (.cells #[vI z] 3))) (cs := #[vI z]) (heap_alloc_last wr (.cells #[vI z] 3))
      have hsw := HF.out.size
      have hw1 : (wr.alloc (.cells #[vI z] 3)).heap.size = wr.heap.size + 1 := by simp
      have hbase : w3.heap.size ≤ (wr.alloc (.cells #[vI z] 3)).heap.size := by rw [hw1]; omega
      have hmx : 4 + k + 1 ≤ maxLen := by unfold maxLen; omega
      go_wp2_with ((at_builtin; refine wpList_append_lies _ rfl (.tmp 32) (.tmp 37) 39 rfl w3.heap.size 3 i3 (.int .i64 0) 1 8 under39 hi hz3 hs3 hb3 rfl (by omega) u9 (4 + k) _ rfl HRowA.out ⟨wr.heap.size, 0, none⟩ 1 1 [vI z] rfl rfl hnews (by intro u hu; simp at hu; subst hu; rfl) (by omega) hmx (by omega) hbase (wr.heap.size + 1) hw1 ?_; intro g6 cap6 w6 hown6 hgrow6 hat6 hlt6))
      have hF6 : Fr (fun j => u9.ownBlock = some j) (wr.alloc (.cells #[vI z] 3)) w6 := grown_fr hgrow6
      have hFa : Fr (fun _ => False) wr (wr.alloc (.cells #[vI z] 3)) := Fr.alloc (Fr.refl _ wr) _
      have hG6 : Fr (fun _ => False) w3 w6 := (HF.out.trans hFa).then hF6 (fun j hj e => by have := (World.ownsRow.lt HRow.out j e).1; omega)
      refine ⟨⟨k + 1, by simp, by omega, ?_, hG6⟩, by simp; omega⟩
      unfold Hd
      rw [HTS.out]
      exact hown6
    · have hke : k = li.length := by omega
      subst hke
      go_wp2_with fail
      go_ret
      have hrow := HRow.out
      rw [List.take_length] at hrow
      have hln : (tellX ⟨A', n', v', er, li⟩).length = 4 + li.length := by simp [tellX]; omega
      rw [show ansX a o zs = _ from HANS.out]
      refine ⟨g2, u9, rfl, ?_, fun j hj => ?_, HM3.out.keep HF.out, HFw.out.trans (HF.out.mono (fun _ _ h => h.elim)), HE.out⟩
      · rw [hln]
        exact World.ownsRow.mono hrow HFw.out.size
      · have := (World.ownsRow.lt HRow.out j hj).1
        by_cases h0 : g2.own j = 0
        · exact h0
        · have := HM3.out.olt _ h0; omega

end Go.Proofs.Ytmdlebolmhnhaaa
