import Derived.Test.YtmdlebolmhnhaaaH3
namespace Go.Proofs.Ytmdlebolmhnhaaa
open Go.RowKit (wrap32 wrap64)
open Go.Maps (Keyed)
set_option linter.unusedVariables false
set_option linter.unusedSimpArgs false

abbrev ms (E : List Ent) : List MadeR := E.map (·.m)

theorem thereB_ms {E : List Ent} {i : Nat} {r : Ent} (hr : E[i]? = some r) : thereB (ms E) i = r.m.there := by
  unfold thereB
  rw [List.getElem?_map, hr]
  rfl
theorem ms_get {E : List Ent} {i : Nat} {r : Ent} (hr : E[i]? = some r) : (ms E)[i]? = some r.m := by rw [List.getElem?_map, hr]; rfl
theorem ms_set (E : List Ent) (i : Nat) (r : Ent) : ms (E.set i r) = (ms E).set i r.m := by simp [ms, List.map_set]

theorem Led.heads {w : World} {B lb b d : Nat} {av : Value} {E : List Ent} (h : Led w B lb b d av E) : w.cell? ⟨lb, 0, none⟩ = some (ptr b) ∧ w.cell? ⟨lb, 1, none⟩ = some (vI d) ∧ w.cell? ⟨lb, 2, none⟩ = some av := by
  simp only [cell_of h.blk]
  exact ⟨rfl, rfl, rfl⟩

theorem Led.cells {w : World} {B lb b d : Nat} {av : Value} {E : List Ent} (h : Led w B lb b d av E) {ab cap : Nat} (hav : av = .slice (some ⟨ab, 0, none⟩) E.length cap) {i : Nat} {r : Ent} (hr : E[i]? = some r) :
    w.cell? ⟨ab, i * 5, none⟩ = some (vI r.num) ∧ w.cell? ⟨ab, i * 5 + 1, none⟩ = some r.fv ∧ w.cell? ⟨ab, i * 5 + 2, none⟩ = some (vI r.m.depth) ∧ w.cell? ⟨ab, i * 5 + 3, none⟩ = some (.bool r.m.heap) ∧ w.cell? ⟨ab, i * 5 + 4, none⟩ = some (.bool r.m.there) := by
  subst hav
  have key : ∀ j u, j < 5 → (entC r)[j]? = some u → w.cell? ⟨ab, i * 5 + j, none⟩ = some u := fun j u hj hu => row_cell h.row ((flatE_get E i r j hr hj).trans hu)
  exact ⟨key 0 _ (by omega) rfl, key 1 _ (by omega) rfl, key 2 _ (by omega) rfl, key 3 _ (by omega) rfl, key 4 _ (by omega) rfl⟩

theorem thereL_map_snoc {L : List MadeR} {k : Nat} (ht : thereB L k = true) : (thereL L (k + 1)).map (fun i : Nat => vI i) = (thereL L k).map (fun i : Nat => vI i) ++ [vI k] ∧ (thereL L (k + 1)).length = (thereL L k).length + 1 := by
  rw [thereL_succ, if_pos ht]
  simp
theorem thereL_not {L : List MadeR} {k : Nat} (ht : thereB L k = false) : thereL L (k + 1) = thereL L k := by
  rw [thereL_succ, ht]
  simp

set_option maxRecDepth 100000 in
set_option maxHeartbeats 1000000 in
/-- there: the places of what must be there. -/
theorem there_any (w0 : World) (b : Nat) (g : Gh) (a : Abs) (lb d : Nat) (av : Value) (E : List Ent) (w : World) (h : Both w0 w b g a lb d av E) (hE : E.length ≤ 10000000000000) :
    Calls Try.prog 33 #[ptr lb] w fun e w' => ∃ v, e = .returned v ∧ w'.ownsRow w.heap.size 3 1 v (thereL (ms E) E.length).length ((thereL (ms E) E.length).map fun i : Nat => vI i) ∧ Fr (fun _ => False) w w' := by
  obtain ⟨ad, cap, rfl, had⟩ := row_shape h.led.row
  have HB : Hd _ := h
  clear h
  go_enter Try.func33, Try.ntmps33
  go_wp2_with fail
  go_loopw [3, 4] (fun u v wr => ∃ (k : Nat), v = .int .i64 k ∧ k ≤ E.length ∧ Hd (wr.ownsRow w.heap.size 3 1 u (thereL (ms E) k).length ((thereL (ms E) k).map fun i : Nat => vI i)) ∧ Hd (Fr (fun _ => False) w wr)) (fun _ v _ => match v with | .int _ q => E.length - q.toNat | _ => 0)
  case atStart => exact ⟨0, rfl, Nat.zero_le _, World.ownsRow_nil _ _ _ _, Fr.refl _ _⟩
  case round =>
    obtain ⟨k, rfl, hk, HRow, HF⟩ := hrel
    obtain ⟨c0, c1, c2⟩ := (HB.out.led.keep HF.out).heads
    by_cases hlt : k < E.length
    · obtain ⟨ab, rfl⟩ := had (by omega)
      obtain ⟨r, hr⟩ : ∃ r, E[k]? = some r := ⟨_, List.getElem?_eq_getElem hlt⟩
      obtain ⟨q0, q1, q2, q3, q4⟩ := (HB.out.led.keep HF.out).cells rfl hr
      have htm : Hd (thereB (ms E) k = r.m.there) := thereB_ms hr
      have hk0 : (0 : Int) ≤ k := by omega
      have hk1 : (k : Int) < E.length := by omega
      have hln := thereL_len (ms E) k
      clear had
      cases ht : r.m.there
      · rw [ht] at q4
        have htm' : thereB (ms E) k = false := htm.out.trans ht
        clear ht
        go_wp2_with fail
        refine ⟨⟨k + 1, by simp, by omega, ?_, HF.out⟩, by simp; omega⟩
        unfold Hd
        rw [thereL_not htm']
        exact HRow.out
      · rw [ht] at q4
        have HTM : Hd _ := thereL_map_snoc (htm.out.trans ht)
        clear ht
        obtain ⟨i3, hi, hz3, hs3, hb3⟩ := info_parts (P := Try.prog) (e := 3) (z := .int .i64 0) (size := 1) (bytes := 8) (by kernel_rfl)
        obtain ⟨ts, hts⟩ : ∃ ts, thereL (ms E) k = ts := ⟨_, rfl⟩
        rw [hts] at HRow hln
        have HTS : Hd _ := hts
        clear hts
        have HRowA : Hd ((wr.alloc (.cells #[vI k] 3)).ownsRow w.heap.size 3 1 u3 ts.length (ts.map fun i : Nat => vI i)) := World.ownsRow.alloc HRow.out (.cells #[vI k] 3)
        have hnews : ∀ j u, [vI k][j]? = some u → (wr.alloc (.cells #[vI k] 3)).cell? ((⟨wr.heap.size, 0, none⟩ : Addr).add j) = some u :=
          World.news_of_block (w := (wr.alloc (.cells #[vI k] 3))) (cs := #[vI k]) (heap_alloc_last wr (.cells #[vI k] 3))
        have hsw := HF.out.size
        have hw1 : (wr.alloc (.cells #[vI k] 3)).heap.size = wr.heap.size + 1 := by simp
        have hbase : w.heap.size ≤ (wr.alloc (.cells #[vI k] 3)).heap.size := by rw [hw1]; omega
        have hmx : ts.length + 1 ≤ maxLen := by unfold maxLen; omega
        go_wp2_with ((at_builtin; refine wpList_append_lies _ rfl (.tmp 22) (.tmp 24) 39 rfl w.heap.size 3 i3 (.int .i64 0) 1 8 under39 hi hz3 hs3 hb3 rfl (by omega) u3 ts.length _ rfl HRowA.out ⟨wr.heap.size, 0, none⟩ 1 1 [vI k] rfl rfl hnews (by intro u hu; simp at hu; subst hu; rfl) (by omega) hmx (by omega) hbase (wr.heap.size + 1) hw1 ?_; intro g6 cap6 w6 hown6 hgrow6 hat6 hlt6))
        have hF6 : Fr (fun j => u3.ownBlock = some j) (wr.alloc (.cells #[vI k] 3)) w6 := grown_fr hgrow6
        have hFa : Fr (fun _ => False) wr (wr.alloc (.cells #[vI k] 3)) := Fr.alloc (Fr.refl _ wr) _
        have hG6 : Fr (fun _ => False) w w6 := (HF.out.trans hFa).then hF6 (fun j hj e => by have := (World.ownsRow.lt HRow.out j e).1; omega)
        refine ⟨⟨k + 1, by simp, by omega, ?_, hG6⟩, by simp; omega⟩
        unfold Hd
        rw [HTM.out.1, HTM.out.2, show thereL (ms E) k = ts from HTS.out]
        exact hown6
    · have hke : k = E.length := by omega
      subst hke
      go_wp2_with fail
      go_ret
      exact ⟨u3, rfl, HRow.out, HF.out⟩

end Go.Proofs.Ytmdlebolmhnhaaa
