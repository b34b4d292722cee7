import Derived.Test.YtihicdbplmdjiaaQD1
namespace Go.Proofs.Ytihicdbplmdjiaa
open Go.RowKit (wrap32 wrap64)
set_option linter.unusedVariables false
set_option linter.unusedSimpArgs false

/-! ### moments in a row of one's own -/
theorem und22 : Try.prog.underlying 22 = some (.slice 30) := by kernel_rfl
theorem info30 : (Try.prog.info? 30).map (fun i => (i.zero, i.size, i.bytes)) = some (some (.agg #[vI 0, .bool false, vI 0, vI 0, .string ⟨#[]⟩, .bool false, .string ⟨#[]⟩, .slice none 0 0, .slice none 0 0]), 9, 120) := by kernel_rfl
def MOwn (w : World) (B : Nat) (v : Value) (ms : List Mo) : Prop := w.ownsRow B 30 9 v ms.length ((ms.map m9).flatten)
theorem MOwn.app {w : World} {B : Nat} {v : Value} {ms : List Mo} (h : MOwn w B v ms) (hB : B ≤ w.heap.size) (i : Nat) (b : Bool) (hl : ms.length ≤ 1000000) :
    ∃ g cap w2, (Builtin.append_ #[22, 22] 22 #[v, .slice (some ⟨w.heap.size, 0, none⟩) 1 1]).run Try.prog (w.alloc (.cells #[vI i, .bool b, vI 2, vI 3, .string ⟨#[]⟩, .bool false, .string ⟨#[]⟩, .slice none 0 0, .slice none 0 0] 30)) = .ok (.slice (some ⟨g, 0, none⟩) (ms.length + 1) cap) w2 ∧ MOwn w2 B (.slice (some ⟨g, 0, none⟩) (ms.length + 1) cap) (ms ++ [mo i b]) ∧ Fr (fun j => v.ownBlock = some j) w w2 := by
  obtain ⟨g, cap, w2, h1, h2, h3, -⟩ := app1 und22 info30 rfl (by omega) h #[vI i, .bool b, vI 2, vI 3, .string ⟨#[]⟩, .bool false, .string ⟨#[]⟩, .slice none 0 0, .slice none 0 0] rfl (by
    intro u hu
    simp at hu
    rcases hu with rfl | rfl | rfl | rfl | rfl | rfl | rfl | rfl | rfl <;> rfl) (by unfold maxLen; omega) (by omega) hB
  refine ⟨g, cap, w2, h1, ?_, h3⟩
  unfold MOwn
  rw [List.length_append, List.map_append, List.flatten_append, List.length_singleton]
  exact h2
theorem MOwn.hat {w : World} {B : Nat} {v : Value} {ms : List Mo} (h : MOwn w B v ms) (hm : ∀ m ∈ ms, m.R = rv0 ∧ In64 m.c ∧ In64 m.ky) : HAt2 w v ms := by
  have hx : ∀ m ∈ ms, m.R.At w ∧ m.R.r.keys.length ≤ 1000000000000000000 ∧ In64 m.c := fun m hmm => by
    obtain ⟨h1, h2, h3⟩ := hm m hmm
    rw [h1]
    exact ⟨rv0_at w, by simp [rv0], h2⟩
  refine ⟨?_, fun m hmm => ?_⟩
  · rcases h.2 with ⟨e1, e2⟩ | ⟨g, cap, cur, e, b1, b2, b3, b4, b5, b6⟩
    · exact ⟨none, 0, by rw [e1, e2], fun hne => absurd (List.eq_nil_of_length_eq_zero e2) hne, hx⟩
    · refine ⟨_, cap, e, fun _ => ⟨g, 0, rfl, fun i hi j hj => ?_⟩, hx⟩
      rw [cell_of b2, Nat.zero_add]
      have e1 : cur[i * 9 + j]? = ((ms.map m9).flatten)[i * 9 + j]? := by rw [← b6, List.getElem?_take, if_pos (by omega), Array.getElem?_toList]
      rw [e1, flat_get (fun r hr => by obtain ⟨c, -, rfl⟩ := List.mem_map.1 hr; rfl) i j (by simpa using hi) hj, List.getElem_map]
  · obtain ⟨h1, h2, h3⟩ := hm m hmm
    exact ⟨by rw [h1]; simp [rv0], h3, by rw [h1]; simp [rv0]⟩

set_option maxRecDepth 100000 in
set_option maxHeartbeats 4000000 in
theorem histMany_any (x : Int) (hx : In64 x) (w : World) : Calls Try.prog 3 #[vI x] w fun e w' => e = .returned (.bool true) ∧ Fr (fun _ => False) w w' := by
  have q1 : Int.tmod x 9 < 9 := Int.tmod_lt_of_pos x (by omega)
  have q2 : -9 < Int.tmod x 9 := Int.lt_tmod_of_pos x (by omega)
  obtain ⟨r, hr8, hr⟩ : ∃ r : Nat, r ≤ 8 ∧ Int.tmod (Int.tmod x 9 + 9) 9 = (r : Int) := by
    have q3 : 0 ≤ Int.tmod (Int.tmod x 9 + 9) 9 := Int.tmod_nonneg _ (by omega)
    have q4 : Int.tmod (Int.tmod x 9 + 9) 9 < 9 := Int.tmod_lt_of_pos _ (by omega)
    exact ⟨(Int.tmod (Int.tmod x 9 + 9) 9).toNat, by omega, by omega⟩
  have w1 : wrap64 (Int.tmod x 9 + 9) = Int.tmod x 9 + 9 := by unfold wrap64; omega
  obtain ⟨n, hn⟩ : ∃ n : Nat, n = 60 + r := ⟨_, rfl⟩
  have w2 : wrap64 (60 + (wrap64 (x.tmod 9 + 9)).tmod 9) = (n : Int) := by rw [w1, hr, hn]; unfold wrap64; omega
  have HN : Hd (60 ≤ n ∧ n ≤ 68) := ⟨by omega, by omega⟩
  go_enter Try.func3, Try.ntmps3
  go_upto_region 2 with fail
  rw [show (60 + (r : Int)) = (n : Int) by omega]
  clear w1 w2 hr hr8 hn q1 q2
  have HO0 : Hd (Fr (fun _ => False) w (w.alloc (.cells #[vI 2, vI 3, .string ⟨#[]⟩] 24)) ∧ (w.alloc (.cells #[vI 2, vI 3, .string ⟨#[]⟩] 24)).heap[w.heap.size]? = some (.cells #[vI 2, vI 3, .string ⟨#[]⟩] 24)) := ⟨(Fr.refl _ w).alloc _, heap_alloc_last w _⟩
  obtain ⟨ob, eob⟩ : ∃ ob, ob = w.heap.size := ⟨_, rfl⟩
  have EOB : Hd (ob = w.heap.size) := eob
  rw [← eob] at HO0
  go_upto_region 5 with fail
  obtain ⟨W0, eW0⟩ : ∃ W0, W0 = w.alloc (.cells #[vI 2, vI 3, .string ⟨#[]⟩] 24) := ⟨_, rfl⟩
  rw [← eW0] at HO0 ⊢
  rw [← eob]
  clear eob eW0
  go_loopw [3, 5] (fun v3 v wr => ∃ k : Nat, v = vI k ∧ k ≤ n ∧ Hd (MOwn wr (ob + 1) v3 ((List.range k).map (fun i => mo i true)) ∧ Fr (fun _ => False) w wr ∧ wr.heap[ob]? = some (.cells #[vI 2, vI 3, .string ⟨#[]⟩] 24))) (fun _ v _ => match v with | .int _ q => n - q.toNat | _ => 0)
  case atStart => exact ⟨0, rfl, by omega, World.ownsRow_nil _ _ _ _, HO0.out.1, HO0.out.2⟩
  case round =>
    clear HO0
    obtain ⟨k, rfl, hk, HR⟩ := hrel
    by_cases hlt : k < n
    · have k0 : (0 : Int) ≤ k := by omega
      have k1 : (k : Int) < n := by omega
      have hw : wrap64 ((k : Int) + 1) = (k : Int) + 1 := by unfold wrap64; have := HN.out; omega
      have o0 : wr.cell? ⟨ob, 0, none⟩ = some (vI 2) := cell_of HR.out.2.2 0
      have o1 : wr.cell? ⟨ob, 1, none⟩ = some (vI 3) := cell_of HR.out.2.2 1
      have o2 : wr.cell? ⟨ob, 2, none⟩ = some (.string ⟨#[]⟩) := cell_of HR.out.2.2 2
      have hlen : (((List.range k).map (fun i => mo i true)) : List Mo).length = k := by simp
      obtain ⟨g6, cap6, w6, hr6, hown6, hf6⟩ := HR.out.1.app (by have := heap_lt HR.out.2.2; omega) k true (by rw [hlen]; have := HN.out; omega)
      rw [hlen] at hr6 hown6
      have HA : Hd ((Builtin.append_ #[22, 22] 22 #[u3, .slice (some ⟨wr.heap.size, 0, none⟩) 1 1]).run Try.prog (wr.alloc (.cells #[vI k, .bool true, vI 2, vI 3, .string ⟨#[]⟩, .bool false, .string ⟨#[]⟩, .slice none 0 0, .slice none 0 0] 30)) = .ok (.slice (some ⟨g6, 0, none⟩) (k + 1) cap6) w6) := hr6
      have HE : Hd (MOwn w6 (ob + 1) (.slice (some ⟨g6, 0, none⟩) (k + 1) cap6) ((List.range (k + 1)).map (fun i => mo i true)) ∧ Fr (fun _ => False) w w6 ∧ w6.heap[ob]? = some (.cells #[vI 2, vI 3, .string ⟨#[]⟩] 24)) := by
        have hge : ∀ j, u3.ownBlock = some j → ob + 1 ≤ j := fun j hj => (World.ownsRow.lt HR.out.1 j hj).1
        refine ⟨?_, HR.out.2.1.under hf6 (fun j hj => by have := hge j hj; have := EOB.out; omega), (hf6.block _ (heap_lt HR.out.2.2) (fun e => by have := hge _ e; omega)).trans HR.out.2.2⟩
        rw [show ((List.range (k + 1)).map (fun i => mo i true)) = ((List.range k).map (fun i => mo i true)) ++ [mo k true] from by rw [List.range_succ, List.map_append]; rfl]
        exact hown6
      clear hr6 hown6 hf6 hlen
      go_wp2_with (at_builtin; refine wpList_append_run rfl (.tmp 22) (.tmp 26) 22 rfl _ _ _ rfl rfl HA.out ?_)
      exact ⟨⟨k + 1, by simp; exact hw, by omega, HE.out⟩, by simp; rw [hw]; omega⟩
    · have ekn : k = n := by omega
      have HE : Hd (MOwn wr (ob + 1) u3 ((List.range n).map (fun i => mo i true)) ∧ Fr (fun _ => False) w wr ∧ wr.heap[ob]? = some (.cells #[vI 2, vI 3, .string ⟨#[]⟩] 24)) := by subst ekn; exact HR.out
      clear ekn HR
      go_upto_region 9 with fail
      go_loopw [3, 6] (fun v3 v wr => ∃ k : Nat, v = vI k ∧ k ≤ n ∧ Hd (MOwn wr (ob + 1) v3 ((List.range n).map (fun i => mo i true) ++ (List.range k).map (fun i => mo i false)) ∧ Fr (fun _ => False) w wr ∧ wr.heap[ob]? = some (.cells #[vI 2, vI 3, .string ⟨#[]⟩] 24))) (fun _ v _ => match v with | .int _ q => n - q.toNat | _ => 0)
      case atStart => exact ⟨0, rfl, by omega, by rw [List.range_zero, List.map_nil, List.append_nil]; exact HE.out⟩
      case round =>
        clear HE
        obtain ⟨k, rfl, hk, HR⟩ := hrel
        by_cases hlt : k < n
        · have k0 : (0 : Int) ≤ k := by omega
          have k1 : (k : Int) < n := by omega
          have hw : wrap64 ((k : Int) + 1) = (k : Int) + 1 := by unfold wrap64; have := HN.out; omega
          have o0 : wr.cell? ⟨ob, 0, none⟩ = some (vI 2) := cell_of HR.out.2.2 0
          have o1 : wr.cell? ⟨ob, 1, none⟩ = some (vI 3) := cell_of HR.out.2.2 1
          have o2 : wr.cell? ⟨ob, 2, none⟩ = some (.string ⟨#[]⟩) := cell_of HR.out.2.2 2
          have hlen : (((List.range n).map (fun i => mo i true) ++ (List.range k).map (fun i => mo i false)) : List Mo).length = n + k := by simp
          obtain ⟨g6, cap6, w6, hr6, hown6, hf6⟩ := HR.out.1.app (by have := heap_lt HR.out.2.2; omega) k false (by rw [hlen]; have := HN.out; omega)
          rw [hlen] at hr6 hown6
          have HA : Hd ((Builtin.append_ #[22, 22] 22 #[u3, .slice (some ⟨wr.heap.size, 0, none⟩) 1 1]).run Try.prog (wr.alloc (.cells #[vI k, .bool false, vI 2, vI 3, .string ⟨#[]⟩, .bool false, .string ⟨#[]⟩, .slice none 0 0, .slice none 0 0] 30)) = .ok (.slice (some ⟨g6, 0, none⟩) (n + k + 1) cap6) w6) := hr6
          have HE : Hd (MOwn w6 (ob + 1) (.slice (some ⟨g6, 0, none⟩) (n + k + 1) cap6) ((List.range n).map (fun i => mo i true) ++ (List.range (k + 1)).map (fun i => mo i false)) ∧ Fr (fun _ => False) w w6 ∧ w6.heap[ob]? = some (.cells #[vI 2, vI 3, .string ⟨#[]⟩] 24)) := by
            have hge : ∀ j, u3.ownBlock = some j → ob + 1 ≤ j := fun j hj => (World.ownsRow.lt HR.out.1 j hj).1
            refine ⟨?_, HR.out.2.1.under hf6 (fun j hj => by have := hge j hj; have := EOB.out; omega), (hf6.block _ (heap_lt HR.out.2.2) (fun e => by have := hge _ e; omega)).trans HR.out.2.2⟩
            rw [show ((List.range n).map (fun i => mo i true) ++ (List.range (k + 1)).map (fun i => mo i false)) = ((List.range n).map (fun i => mo i true) ++ (List.range k).map (fun i => mo i false)) ++ [mo k false] from by rw [List.range_succ, List.map_append, List.append_assoc]; rfl]
            exact hown6
          clear hr6 hown6 hf6 hlen
          go_wp2_with (at_builtin; refine wpList_append_run rfl (.tmp 33) (.tmp 37) 22 rfl _ _ _ rfl rfl HA.out ?_)
          exact ⟨⟨k + 1, by simp; exact hw, by omega, HE.out⟩, by simp; rw [hw]; omega⟩
        · have ekn : k = n := by omega
          have HE : Hd (MOwn wr (ob + 1) u3 ((List.range n).map (fun i => mo i true) ++ (List.range n).map (fun i => mo i false)) ∧ Fr (fun _ => False) w wr ∧ wr.heap[ob]? = some (.cells #[vI 2, vI 3, .string ⟨#[]⟩] 24)) := by subst ekn; exact HR.out
          clear ekn HR
          have hh : HAt2 wr u3 (manyH n) := HE.out.1.hat (fun m hm => by
            rcases List.mem_append.1 hm with hm | hm
            · obtain ⟨i, hi, rfl⟩ := List.mem_map.1 hm
              have := List.mem_range.1 hi
              have := HN.out
              exact ⟨rfl, ⟨by show (-9223372036854775808 : Int) ≤ (i : Int); omega, by show (i : Int) ≤ 9223372036854775807; omega⟩, by show (-9223372036854775808 : Int) ≤ 3 ∧ (3 : Int) ≤ 9223372036854775807; omega⟩
            · obtain ⟨i, hi, rfl⟩ := List.mem_map.1 hm
              have := List.mem_range.1 hi
              have := HN.out
              exact ⟨rfl, ⟨by show (-9223372036854775808 : Int) ≤ (i : Int); omega, by show (i : Int) ≤ 9223372036854775807; omega⟩, by show (-9223372036854775808 : Int) ≤ 3 ∧ (3 : Int) ≤ 9223372036854775807; omega⟩)
          have hck := check_any u3 (manyH n) wr hh
          rw [many_calls] at hck
          have HOr : Hd (∀ W, Fr (fun _ => False) wr W → Calls Try.prog 8 #[u3] W fun e w' => OrderR (manyH n) W e w') := fun W f => order8_any u3 (manyH n) W (hh.fr f)
          have HFW : Hd (Fr (fun _ => False) w wr) := HE.out.2.1
          clear hh HE
          by_cases h64 : n ≤ 64
          · rw [if_pos h64] at hck
            have hck : Calls Try.prog 7 #[u3] wr fun e w' => e = .returned (vI 0) ∧ Fr (fun _ => False) wr w' := hck
            have HCK : Hd (Calls Try.prog 7 #[u3] wr fun e w' => e = .returned (vI 0) ∧ Fr (fun _ => False) wr w') := hck
            clear hck
            have h64i : ¬ (64 : Int) < n := by omega
            go_upto_region 13 with (go_at_call 7; refine HCK.out.mono ?_; rintro _ w3 ⟨rfl, hf3⟩; have HF3 : Hd (Fr _ _ _) := hf3; clear hf3)
            go_upto_region 14 with (go_at_call 8; refine (HOr.out _ HF3.out).mono ?_; rintro _ w4 ⟨lv, ok, er, rfl, hf4, hE⟩; have HF4 : Hd (Fr _ _ _) := hf4; have HOE : Hd (OrderE _ _ _ _ _ _) := hE; clear hf4 hE)
            obtain ⟨rfl, rfl, g, cap, rfl, hx⟩ : er = 0 ∧ ok = true ∧ ∃ g cap, lv = .slice (some ⟨g, 0, none⟩) n cap ∧ w4.cell? ⟨g, n - 1, none⟩ = some (vI ((n - 1 : Nat) : Int)) := by
              rcases HOE.out with ⟨e, -⟩ | ⟨cs, e, e2, h⟩
              · rw [many_calls, if_pos h64] at e; cases e
              · rw [many_calls, if_pos h64] at e
                cases e
                have hlen : ((List.range n).map (fin n)).length = n := by simp
                rcases h with ⟨h1, -⟩ | ⟨acc, h1, h2, h3, h4⟩
                · rcases h1 with h1 | h1
                  · rw [many_possible] at h1; cases h1
                  · rw [many_waits, hlen] at h1
                    have := many_all n h64 _ h1
                    cases this
                · rw [many_waits, hlen] at h2
                  have := many_all n h64 _ h2
                  cases this
                  refine ⟨e2, h3, ?_⟩
                  have hl : (List.range' 0 n).length = n := by simp
                  rw [hl] at h4
                  obtain ⟨h4a, h4b⟩ := h4
                  rcases h4b with ⟨-, h5⟩ | ⟨g, cap, cur, e, b1, b2, b3, b4, b5, b6⟩
                  · have := HN.out; omega
                  · refine ⟨g, cap, e, ?_⟩
                    rw [cell_of b2]
                    have hn1 : n - 1 < n := by have := HN.out; omega
                    have e1 : cur[n - 1]? = ((List.range' 0 n).map (fun i => vI (((((List.range n).map (fin n))[i]?).map Cl.b).getD 0 : Nat)))[n - 1]? := by rw [← b6, List.getElem?_take, if_pos (by omega), Array.getElem?_toList]
                    rw [e1, List.getElem?_map, List.getElem?_range' hn1]
                    simp only [Option.map_some, Nat.zero_add, Nat.one_mul]
                    rw [List.getElem?_map, List.getElem?_range hn1]
                    rfl
            have n1 : (n : Int) - 1 = ((n - 1 : Nat) : Int) := by have := HN.out; omega
            have n2 : (0 : Int) ≤ (n : Int) - 1 := by have := HN.out; omega
            have n3 : ((n : Int) - 1).toNat = n - 1 := by omega
            have n4 : (n : Int) - 1 < n := by omega
            have hx2 : w4.cell? ⟨g, ((n : Int) - 1).toNat, none⟩ = some (vI ((n : Int) - 1)) := by rw [n3, n1]; exact hx
            have hx3 : w4.cell? ⟨g, n - 1, none⟩ = some (vI ((n : Int) - 1)) := by rw [n1]; exact hx
            clear HOE HOr hx n1 n3
            go_wp2_with fail
            go_ret
            exact ⟨by simp, HFW.out.trans (HF3.out.trans HF4.out)⟩
          · rw [if_neg h64] at hck
            have hck : Calls Try.prog 7 #[u3] wr fun e w' => e = .returned (vI 230) ∧ Fr (fun _ => False) wr w' := hck
            have HCK : Hd (Calls Try.prog 7 #[u3] wr fun e w' => e = .returned (vI 230) ∧ Fr (fun _ => False) wr w') := hck
            clear hck
            have h64i : (64 : Int) < n := by omega
            go_upto_region 13 with (go_at_call 7; refine HCK.out.mono ?_; rintro _ w3 ⟨rfl, hf3⟩; have HF3 : Hd (Fr _ _ _) := hf3; clear hf3)
            go_upto_region 14 with (go_at_call 8; refine (HOr.out _ HF3.out).mono ?_; rintro _ w4 ⟨lv, ok, er, rfl, hf4, hE⟩; have HF4 : Hd (Fr _ _ _) := hf4; have HOE : Hd (OrderE _ _ _ _ _ _) := hE; clear hf4 hE)
            obtain ⟨rfl, rfl, rfl⟩ : er = 230 ∧ ok = false ∧ lv = .slice none 0 0 := by
              rcases HOE.out with ⟨-, h1, h2, h3⟩ | ⟨cs, e, -⟩
              · exact ⟨h3, h2, h1⟩
              · rw [many_calls, if_neg h64] at e; cases e
            clear HOE HOr
            go_wp2_with fail
            go_ret
            exact ⟨by simp, HFW.out.trans (HF3.out.trans HF4.out)⟩
end Go.Proofs.Ytihicdbplmdjiaa
