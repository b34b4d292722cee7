import Derived.Test.YtdkijecnnmncnaaGreatDoorQUdJ
import Derived.Test.YtdkijecnnmncnaaGreatDoorQWL2J
namespace Go.Proofs.YtdkijecnnmncnaaGreatDoor.Wg
open Go.RowKit (wrap32 wrap64)
set_option linter.unusedVariables false
set_option linter.unusedSimpArgs false
set_option maxRecDepth 100000
set_option maxHeartbeats 1000000
structure Td (w : World) (tb wb N B : Nat) (lv : Value) (ws : Nat → Bool) (l : List Nat) : Prop where
 blk : w.heap[tb]? = some (.cells #[lv, .slice (some ⟨wb, 0, none⟩) N N] 244)
 wts : Row w 4 wb N (fun i => .bool (ws i))
 row : w.ownsRow B 3 1 lv l.length (l.map fun n : Nat => vI n)
 tlt : tb < B
 wlt : wb < B
 ne : tb ≠ wb
 ble : B ≤ w.heap.size
def TdT (tb wb B : Nat) : Nat → Prop := fun k => k = tb ∨ k = wb ∨ B ≤ k
theorem Td.fr {S : Nat → Prop} {w w' : World} {tb wb N B : Nat} {lv : Value} {ws : Nat → Bool} {l : List Nat} (h : Td w tb wb N B lv ws l) (f : Fr S w w') (hS : ∀ k, TdT tb wb B k → k < w.heap.size → ¬ S k) : Td w' tb wb N B lv ws l where
 blk := (f.block tb (heap_lt h.blk) (hS tb (Or.inl rfl) (heap_lt h.blk))).trans h.blk
 wts := h.wts.fr f (hS wb (Or.inr (Or.inl rfl)) h.wts.lt)
 row := by
  have hr := h.row
  refine ⟨hr.1, ?_⟩
  rcases hr.2 with h2 | ⟨g, cap, cur, rfl, h3, h4, h5⟩
  ·exact Or.inl h2
  ·exact Or.inr ⟨g, cap, cur, rfl, h3, by rw [f.block g (heap_lt h4) (hS g (Or.inr (Or.inr h3)) (heap_lt h4))]; exact h4, h5⟩
 tlt := h.tlt
 wlt := h.wlt
 ne := h.ne
 ble := Nat.le_trans h.ble f.size
theorem Td.shape {w : World} {tb wb N B : Nat} {lv : Value} {ws : Nat → Bool} {l : List Nat} (h : Td w tb wb N B lv ws l) : ∃ ad cap, lv = .slice ad l.length cap ∧ (l ≠ [] → ∃ g, ad = some ⟨g, 0, none⟩ ∧ B ≤ g ∧ g < w.heap.size ∧ l.length ≤ cap ∧ cap ≤ maxLen ∧ ∀ j (hj : j < l.length), w.cell? ⟨g, j, none⟩ = some (vI (l[j] : Nat))) := by
 rcases h.row.2 with ⟨h2, h3⟩ | ⟨g, cap, cur, e, h3, h4, h5, h6, h7, h8⟩
 ·exact ⟨none, 0, by rw [h2, h3], fun hne => absurd (List.eq_nil_of_length_eq_zero h3) hne⟩
 ·refine ⟨_, cap, e, fun _ => ⟨g, rfl, h3, heap_lt h4, h5, h6, fun j hj => ?_⟩⟩
  rw [cell_of h4]
  have : (cur.toList.take (l.length * 1))[j]? = ((l.map fun n : Nat => vI n))[j]? := by rw [h8]
  rw [List.getElem?_take, if_pos (by omega), List.getElem?_map, List.getElem?_eq_getElem hj] at this
  simpa using this
theorem Td.facts {w : World} {tb wb N B : Nat} {lv : Value} {ws : Nat → Bool} {l : List Nat} (h : Td w tb wb N B lv ws l) : w.cell? ⟨tb, 0, none⟩ = some lv ∧ w.cell? ⟨tb, 1, none⟩ = some (.slice (some ⟨wb, 0, none⟩) N N) := by
 simp only [cell_of h.blk]
 exact ⟨rfl, rfl⟩
def Tds (w w' : World) (tb wb N B : Nat) (ws : Nat → Bool) (l : List Nat) : Prop := ∃ lv', Td w' tb wb N B lv' ws l ∧ Fr (TdT tb wb B) w w'
theorem put_any (tb wb N B : Nat) (lv : Value) (ws : Nat → Bool) (l : List Nat) (i : Nat) (w : World) (h : Td w tb wb N B lv ws l) (hi : i < N) (hN : N ≤ 1048576) (hl : l.length ≤ 10000000000) :
 Calls Tryz.prog 162 #[.pointer (some ⟨tb, 0, none⟩), .int .i64 i] w fun e w' => e = .returned (.tuple #[]) ∧ Tds w w' tb wb N B (upd ws i true) (if ws i then l else l ++ [i]) := by
 obtain ⟨f0, f1⟩ := h.facts
 have c1 := h.wts.cell hi
 have z1 := h.wts.frozen i
 have hi0 : (0 : Int) ≤ i := by omega
 have hi1 : (i : Int) < N := by omega
 cases hw : ws i
 ·rw [hw] at c1
  have hF1 : Fr (fun k => k = wb) w (w.setCell ⟨wb, i, none⟩ (.bool true)) := Fr.setCell (Fr.refl _ w) _ _ (Or.inl rfl)
  have hW1 := h.wts.setB i true
  have hb1 := (hF1.block tb (heap_lt h.blk) h.ne).trans h.blk
  have hr1 : (w.setCell ⟨wb, i, none⟩ (.bool true)).ownsRow B 3 1 lv l.length (l.map fun n : Nat => vI n) := ownsRow_fr h.row hF1 (fun g hg e => by have := (World.ownsRow.lt h.row g hg).1; have := h.wlt; omega)
  have hr2 := World.ownsRow.alloc hr1 (.cells #[vI i] 3)
  have hs1 : (w.setCell ⟨wb, i, none⟩ (.bool true)).heap.size = w.heap.size := by simp
  have hnews : ∀ j u, [vI i][j]? = some u → ((w.setCell ⟨wb, i, none⟩ (.bool true)).alloc (.cells #[vI i] 3)).cell? ((⟨w.heap.size, 0, none⟩ : Addr).add j) = some u := by
   rw [← hs1]
   exact World.news_of_block (cs := #[vI i]) (heap_alloc_last (w.setCell ⟨wb, i, none⟩ (.bool true)) (.cells #[vI i] 3))
  obtain ⟨i3, hi3, hz3, hs3, hb3⟩ := info_parts (P := Tryz.prog) (e := 3) (z := .int .i64 0) (size := 1) (bytes := 8) (by kernel_rfl)
  have hF2 : Fr (fun k => k = wb) w ((w.setCell ⟨wb, i, none⟩ (.bool true)).alloc (.cells #[vI i] 3)) := hF1.alloc _
  have hng : ∀ k, lv.ownBlock = some k → B ≤ k := fun k hk => (World.ownsRow.lt h.row k hk).1
  have e1 : (w.setCell ⟨wb, i, none⟩ (.bool true)).cell? ⟨tb, 0, none⟩ = some lv := by rw [cell_of hb1]; rfl
  have hB2 : B ≤ ((w.setCell ⟨wb, i, none⟩ (.bool true)).alloc (.cells #[vI i] 3)).heap.size := by simp; have := h.ble; omega
  have HKEY : Hd (∀ g6 cap w6, w6.ownsRow B 3 1 (.slice (some ⟨g6, 0, none⟩) (l.length + 1) cap) (l.length + 1) ((l.map fun n : Nat => vI n) ++ [vI i]) → ((w.setCell ⟨wb, i, none⟩ (.bool true)).alloc (.cells #[vI i] 3)).grownBy w6 lv.ownBlock →
   w6.heap[tb]? = some (.cells #[lv, .slice (some ⟨wb, 0, none⟩) N N] 244) ∧ ∃ lv', Td (w6.setCell ⟨tb, 0, none⟩ (.slice (some ⟨g6, 0, none⟩) (l.length + 1) cap)) tb wb N B lv' (upd ws i true) (l ++ [i]) ∧ Fr (TdT tb wb B) w (w6.setCell ⟨tb, 0, none⟩ (.slice (some ⟨g6, 0, none⟩) (l.length + 1) cap))) := by
   intro g6 cap w6 hown hgrow
   have hF6 := grown_fr hgrow
   have hb6 : w6.heap[tb]? = some (.cells #[lv, .slice (some ⟨wb, 0, none⟩) N N] 244) := by
    rw [hF6.block tb (Nat.lt_of_lt_of_le (heap_lt h.blk) hF2.size) (fun e => by have := hng tb e; have := h.tlt; omega)]
    exact (hF2.block tb (heap_lt h.blk) h.ne).trans h.blk
   have hW6 : Row w6 4 wb N (fun j => .bool (upd ws i true j)) := by
    refine (hW1.fr (Fr.alloc (Fr.refl (fun _ => False) _) (.cells #[vI i] 3)) (fun h => h)).fr hF6 (fun e => ?_)
    have := hng wb e
    have := h.wlt
    omega
   have hBg := (World.ownsRow.lt hown g6 rfl).1
   have hF7 : ∀ v, Fr (fun k => k = tb) w6 (w6.setCell ⟨tb, 0, none⟩ v) := fun v => Fr.setCell (Fr.refl _ w6) _ _ (Or.inl rfl)
   refine ⟨hb6, .slice (some ⟨g6, 0, none⟩) (l.length + 1) cap, ?_, ?_⟩
   ·refine ⟨?_, hW6.fr (hF7 _) (fun e => h.ne e.symm), ?_, h.tlt, h.wlt, h.ne, ?_⟩
    ·rw [set_of hb6]; rfl
    ·have := ownsRow_fr hown (hF7 (.slice (some ⟨g6, 0, none⟩) (l.length + 1) cap)) (fun g hg e => by cases hg; have := h.tlt; simp at e; omega)
     simpa using this
    ·have := hF6.size; have := hF2.size; have := h.ble; simp at *; omega
   ·refine Fr.setCell ?_ _ _ (Or.inl (Or.inl rfl))
    refine (hF2.mono (T := TdT tb wb B) (fun k _ e => Or.inr (Or.inl e))).anew hF6 (fun k _ e => Or.inr (Or.inr (hng k e)))
  have HR2 : Hd _ := hr2
  clear hF1 hW1 hb1 hr1 hr2 hF2 hng h
  go_enter Tryz.func162, Tryz.ntmps162
  go_wp2_with ((at_builtin; refine Hd.out ?_))
  unfold Hd
  refine wpList_append_lies _ rfl (.tmp 21) (.tmp 23) 30 rfl B 3 i3 (.int .i64 0) 1 8 under22 hi3 hz3 hs3 hb3 rfl (by omega) lv l.length _ rfl HR2.out ⟨w.heap.size, 0, none⟩ 1 1 [vI i] rfl rfl hnews (by intro u hu; simp at hu; subst hu; rfl) (by omega) (by unfold maxLen; omega) (by omega) hB2 _ rfl ?_
  intro g6 cap w6 hown hgrow hat hlt
  obtain ⟨hb6, hkey⟩ := HKEY.out g6 cap w6 hown hgrow
  have HR : Hd (Tds w (w6.setCell ⟨tb, 0, none⟩ (.slice (some ⟨g6, 0, none⟩) (l.length + 1) cap)) tb wb N B (upd ws i true) (l ++ [i])) := hkey
  have t0 : w6.cell? ⟨tb, 0, none⟩ = some lv := by rw [cell_of hb6]; rfl
  have y0 : w6.frozen? ⟨tb, 0, none⟩ = false := frozen_of hb6 0
  clear hown hgrow hat hlt hb6 hkey HKEY HR2
  go_wp2_with fail
  go_end0
  exact ⟨rfl, HR.out⟩
 ·rw [hw] at c1
  have HH : Hd _ := h
  clear h
  go_enter Tryz.func162, Tryz.ntmps162
  go_wp2_with fail
  refine bodyPost_ret (results_none rfl _ _ _) rfl ?_
  refine ⟨rfl, lv, ?_, Fr.refl _ _⟩
  have e : upd ws i true = ws := by
   funext j
   unfold upd
   split
   ·rename_i e; rw [e, hw]
   ·rfl
  rw [e]
  exact HH.out
theorem take_nil (tb wb N B : Nat) (lv : Value) (ws : Nat → Bool) (w : World) (h : Td w tb wb N B lv ws []) :
 Calls Tryz.prog 163 #[.pointer (some ⟨tb, 0, none⟩)] w fun e w' => e = .returned (.tuple #[vI 0, .bool false]) ∧ w' = w := by
 obtain ⟨f0, f1⟩ := h.facts
 obtain ⟨ad, cap, rfl, -⟩ := h.shape
 clear h
 go_enter Tryz.func163, Tryz.ntmps163
 go_wp2_with fail
 go_ret2
 exact ⟨rfl, rfl⟩
theorem take_any (tb wb N B : Nat) (lv : Value) (ws : Nat → Bool) (l : List Nat) (x : Nat) (w : World) (h : Td w tb wb N B lv ws (l ++ [x])) (hx : x < N) (hN : N ≤ 1048576) (hl : l.length ≤ 10000000000) :
 Calls Tryz.prog 163 #[.pointer (some ⟨tb, 0, none⟩)] w fun e w' => e = .returned (.tuple #[vI x, .bool true]) ∧ Tds w w' tb wb N B (upd ws x false) l := by
 obtain ⟨f0, f1⟩ := h.facts
 obtain ⟨ad, cap, rfl, hsh⟩ := h.shape
 obtain ⟨g, rfl, hBg, hg, hlc, hcm, hcell⟩ := hsh (by simp)
 have hc := hcell l.length (by simp)
 have hl1 : (l ++ [x]).length = l.length + 1 := by simp
 simp only [List.getElem_append_right (Nat.le_refl _), Nat.sub_self, List.getElem_singleton] at hc
 rw [hl1] at f0 hlc
 have hF1 : Fr (fun k => k = tb) w (w.setCell ⟨tb, 0, none⟩ (.slice (some ⟨g, 0, none⟩) l.length cap)) := Fr.setCell (Fr.refl _ w) _ _ (Or.inl rfl)
 have hW1 := h.wts.fr hF1 (fun e => h.ne e.symm)
 have hb1 : (w.setCell ⟨tb, 0, none⟩ (.slice (some ⟨g, 0, none⟩) l.length cap)).heap[tb]? = some (.cells #[.slice (some ⟨g, 0, none⟩) l.length cap, .slice (some ⟨wb, 0, none⟩) N N] 244) := by
  rw [set_of h.blk]; rfl
 have z0 := frozen_of h.blk 0
 have t1 : (w.setCell ⟨tb, 0, none⟩ (.slice (some ⟨g, 0, none⟩) l.length cap)).cell? ⟨tb, 1, none⟩ = some (.slice (some ⟨wb, 0, none⟩) N N) := by rw [cell_of hb1]; rfl
 have c1 := hW1.cell hx
 have z1 := hW1.frozen x
 have hx0 : (0 : Int) ≤ x := by omega
 have hx1 : (x : Int) < N := by omega
 have HR : Hd (∃ lv', Td ((w.setCell ⟨tb, 0, none⟩ (.slice (some ⟨g, 0, none⟩) l.length cap)).setCell ⟨wb, x, none⟩ (.bool false)) tb wb N B lv' (upd ws x false) l ∧ Fr (TdT tb wb B) w ((w.setCell ⟨tb, 0, none⟩ (.slice (some ⟨g, 0, none⟩) l.length cap)).setCell ⟨wb, x, none⟩ (.bool false))) := by
  have hF2 : Fr (TdT tb wb B) w ((w.setCell ⟨tb, 0, none⟩ (.slice (some ⟨g, 0, none⟩) l.length cap)).setCell ⟨wb, x, none⟩ (.bool false)) :=
   Fr.setCell (hF1.mono (T := TdT tb wb B) (fun k _ e => Or.inl e)) _ _ (Or.inl (Or.inr (Or.inl rfl)))
  have hF3 : Fr (fun k => k = wb) (w.setCell ⟨tb, 0, none⟩ (.slice (some ⟨g, 0, none⟩) l.length cap)) ((w.setCell ⟨tb, 0, none⟩ (.slice (some ⟨g, 0, none⟩) l.length cap)).setCell ⟨wb, x, none⟩ (.bool false)) := Fr.setCell (Fr.refl _ _) _ _ (Or.inl rfl)
  refine ⟨.slice (some ⟨g, 0, none⟩) l.length cap, ⟨?_, hW1.setB x false, ?_, h.tlt, h.wlt, h.ne, ?_⟩, hF2⟩
  ·exact (hF3.block tb (heap_lt hb1) h.ne).trans hb1
  ·rcases h.row.2 with ⟨h2, h3⟩ | ⟨g', cap', cur, e, h3, h4, h5, h6, h7, h8⟩
   ·cases h2
   ·cases e
    refine ⟨by simp, Or.inr ⟨g, cap, cur, rfl, h3, ?_, by omega, h6, h7, ?_⟩⟩
    ·rw [hF3.block g (by simpa using heap_lt h4) (by have := h.wlt; omega), hF1.block g (heap_lt h4) (by have := h.tlt; omega)]
     exact h4
    ·have := congrArg (List.take (l.length * 1)) h8
     rw [List.take_take, List.map_append, List.take_append_of_le_length (by simp)] at this
     rw [Nat.min_eq_left (by simp)] at this
     rw [this]
     apply List.take_of_length_le
     simp
  ·have := h.ble; simpa using this
 clear hF1 hW1 hb1 h hcell hsh
 obtain ⟨m, hm⟩ : ∃ m, m = l.length := ⟨_, rfl⟩
 rw [← hm] at *
 clear hm hl1
 go_enter Tryz.func163, Tryz.ntmps163
 go_wp2_with fail
 go_ret2
 exact ⟨rfl, HR.out⟩
end Go.Proofs.YtdkijecnnmncnaaGreatDoor.Wg
namespace Go.Proofs.YtdkijecnnmncnaaGreatDoor.Wg
open Go.RowKit (wrap32 wrap64)
set_option linter.unusedVariables false
set_option linter.unusedSimpArgs false
set_option maxRecDepth 100000
set_option maxHeartbeats 1000000
theorem under55 : Tryz.prog.underlying 35 = some (.slice 4) := by kernel_rfl
theorem make_bools (n : Nat) (hn : n ≤ 10000000000000) (w : World) : (Instr.makeSlice 35 (.int .i64 n) (.int .i64 n)).run Tryz.prog w = .ok (.slice (some ⟨w.heap.size, 0, none⟩) n n) (w.alloc (.cells (Array.replicate n (.bool false)) 4)) := by
 rw [run_make_of 35 4 (.bool false) 1 1 under55 (by kernel_rfl) (by kernel_rfl) (by kernel_rfl) n (by omega) (by omega) w, Nat.mul_one]
 show Result.ok _ (w.alloc (.cells (madeCells #[.bool false] n) 4)) = _
 rw [made_one, List.toArray_replicate]
theorem newTodo_any (N : Nat) (hN : N ≤ 1048576) (w : World) :
 Calls Tryz.prog 161 #[.int .i64 N] w fun e w' => e = .returned (.pointer (some ⟨w.heap.size + 1, 0, none⟩)) ∧ Td w' (w.heap.size + 1) w.heap.size N (w.heap.size + 2) (.slice none 0 0) (fun _ => false) [] ∧ Fr (fun _ => False) w w' := by
 have hmk := make_bools N (by omega) w
 have HT : Hd (Td ((w.alloc (.cells (Array.replicate N (.bool false)) 4)).alloc (.cells #[.slice none 0 0, .slice (some ⟨w.heap.size, 0, none⟩) N N] 244)) (w.heap.size + 1) w.heap.size N (w.heap.size + 2) (.slice none 0 0) (fun _ => false) []) := by
  have h1 := heap_alloc_last (w.alloc (.cells (Array.replicate N (.bool false)) 4)) (.cells #[.slice none 0 0, .slice (some ⟨w.heap.size, 0, none⟩) N N] 244)
  rw [show (w.alloc (.cells (Array.replicate N (.bool false)) 4)).heap.size = w.heap.size + 1 by simp] at h1
  refine ⟨h1, ?_, World.ownsRow_nil _ _ _ _, by omega, by omega, by omega, by simp⟩
  exact (Row.made w 4 N (.bool false)).fr (Fr.alloc (Fr.refl (fun _ => False) _) _) (fun h => h)
 have HF : Hd (Fr (fun _ => False) w ((w.alloc (.cells (Array.replicate N (.bool false)) 4)).alloc (.cells #[.slice none 0 0, .slice (some ⟨w.heap.size, 0, none⟩) N N] 244))) := (Fr.refl _ w).alloc _ |>.alloc _
 go_enter Tryz.func161, Tryz.ntmps161
 go_wp2_with fail
 go_ret
 exact ⟨rfl, HT.out, HF.out⟩
theorem Fr.drewN {S : Nat → Prop} {a w : World} (h : Fr S a w) (n : Nat) : Fr S a (w.drewN n) := ⟨h.os, h.tape, h.output, h.size, h.block⟩
def OfEnds (w : World) (eb a b : Nat) (e : Ending) (w' : World) : Prop :=
 ∃ ad c, e = .returned (.slice ad (b - a) c) ∧ (a < b → ad = some ⟨eb, a * 3, none⟩) ∧ b - a ≤ c ∧ Fr (fun _ => False) w w'
theorem of_any (eb fb n N l : Nat) (F : Nat → Nat) (w : World) (hf : Row w 3 fb (n + 1) (fun l => vI (F l : Nat))) (hl : l < n) (hn : n ≤ 1048576) (hN : N ≤ 11000000000000) (hle : F l ≤ F (l + 1)) (hto : F (l + 1) ≤ N) :
 Calls Tryz.prog 164 #[.agg #[.slice (some ⟨eb, 0, none⟩) N N, .slice (some ⟨fb, 0, none⟩) (n + 1) (n + 1)], .int .i64 l] w (OfEnds w eb (F l) (F (l + 1))) := by
 have hfa := hf.fr (Fr.alloc (Fr.refl (fun _ => False) w) (.cells #[.slice (some ⟨eb, 0, none⟩) N N, .slice (some ⟨fb, 0, none⟩) (n + 1) (n + 1)] 216)) (fun h => h)
 have c0 := hfa.cell (i := l) (by omega)
 have c1 := hfa.cell (i := l + 1) (by omega)
 have HF : Hd (∀ o, Fr (fun _ => False) w (w.alloc o)) := fun o => (Fr.refl _ w).alloc o
 clear hf hfa
 generalize F l = a at *
 generalize F (l + 1) = b at *
 have hl0 : (0 : Int) ≤ l := by omega
 have hl1 : (l : Int) < (n : Int) + 1 := by omega
 have hl2 : (l : Int) + 1 < (n : Int) + 1 := by omega
 have ha0 : (0 : Int) ≤ a := by omega
 have hab : (a : Int) ≤ b := by omega
 have hb0 : (b : Int) ≤ N := by omega
 go_enter Tryz.func164, Tryz.ntmps164
 go_wp2_with fail
 go_quiet (fail)
 go_wp2_with fail
 all_goals
  go_ret
  refine ⟨_, _, rfl, fun h => ?_, by omega, (HF.out _).drewN _⟩
  first
   | rfl
   |(exfalso; omega)
end Go.Proofs.YtdkijecnnmncnaaGreatDoor.Wg
namespace Go.Proofs.YtdkijecnnmncnaaGreatDoor.Wg
set_option linter.unusedVariables false
set_option linter.unusedSimpArgs false
theorem nodup_le : ∀ (n : Nat) (l : List Nat), l.Nodup → (∀ i ∈ l, i < n) → l.length ≤ n
 | 0, l, _, h => by
   cases l with
   | nil => exact Nat.le_refl _
   | cons x r => exact absurd (h x List.mem_cons_self) (Nat.not_lt_zero x)
 | n + 1, l, hn, h => by
   by_cases hm : n ∈ l
   ·have h1 := nodup_le n (l.erase n) (hn.erase n) (fun i hi => by
     have := (List.Nodup.mem_erase_iff hn).1 hi
     have := h i this.2
     omega)
    rw [List.length_erase_of_mem hm] at h1
    omega
   ·have := nodup_le n l hn (fun i hi => by
     have := h i hi
     by_cases e : i = n
     ·exact absurd (e ▸ hi) hm
     ·omega)
    omega
def addTo (l : List Nat) (s : Nat) : List Nat := if s ∈ l then l else l ++ [s]
theorem addTo_mem (l : List Nat) (s i : Nat) : i ∈ addTo l s ↔ i ∈ l ∨ i = s := by
 unfold addTo
 split
 ·rename_i h
  constructor
  ·exact Or.inl
  ·rintro (h1 | rfl)
   ·exact h1
   ·exact h
 ·simp
theorem addTo_nodup {l : List Nat} (h : l.Nodup) (s : Nat) : (addTo l s).Nodup := by
 unfold addTo
 split
 ·exact h
 ·rename_i hs
  refine List.nodup_append.2 ⟨h, by simp, fun a ha b hb => ?_⟩
  simp at hb
  subst hb
  intro e
  subst e
  exact hs ha
theorem addTo_length (l : List Nat) (s : Nat) : (addTo l s).length ≤ l.length + 1 := by
 unfold addTo
 split
 ·omega
 ·simp
structure Ini (n : Nat) (es : List Ed) (rs : List Int) (k : Nat) (L : Nat → Int) (l : List Nat) : Prop where
 nd : l.Nodup
 lt : ∀ i ∈ l, i < n
 out : ∀ i, i ∉ l → L i = 9
 inn : ∀ i ∈ l, L i = 0 ∧ (i : Int) ∈ rs
 got : ∀ r ∈ rs.take k, r.toNat ∈ l
theorem Ini.start (n : Nat) (es : List Ed) (rs : List Int) : Ini n es rs 0 (fun _ => 9) [] :=
 ⟨List.nodup_nil, fun i h => absurd h List.not_mem_nil, fun _ _ => rfl, fun i h => absurd h List.not_mem_nil, fun r h => by simp at h⟩
theorem Ini.step {n : Nat} {es : List Ed} {rs : List Int} {k : Nat} {L : Nat → Int} {l : List Nat} (h : Ini n es rs k L l) (r : Nat) (hr : r < n) (hk : rs[k]? = some (r : Int)) : Ini n es rs (k + 1) (upd L r 0) (addTo l r) where
 nd := addTo_nodup h.nd r
 lt := fun i hi => by
  rcases (addTo_mem l r i).1 hi with h1 | rfl
  ·exact h.lt i h1
  ·exact hr
 out := fun i hi => by
  have := (addTo_mem l r i)
  rw [upd_ne _ _ (fun e => hi (this.2 (Or.inr e)))]
  exact h.out i (fun h1 => hi (this.2 (Or.inl h1)))
 inn := fun i hi => by
  by_cases e : i = r
  ·subst e
   exact ⟨upd_same _ _ _, List.mem_of_getElem? hk⟩
  ·rcases (addTo_mem l r i).1 hi with h1 | h1
   ·rw [upd_ne _ _ e]; exact h.inn i h1
   ·exact absurd h1 e
 got := fun q hq => by
  rw [List.take_add_one, hk] at hq
  rcases List.mem_append.1 hq with h1 | h1
  ·exact (addTo_mem l r _).2 (Or.inl (h.got q h1))
  ·simp at h1
   subst h1
   exact (addTo_mem l r _).2 (Or.inr (by simp))
structure Mid (n : Nat) (es : List Ed) (rs : List Int) (L : Nat → Int) (l : List Nat) (dst : Nat) (P : Ed → Prop) : Prop where
 nd : l.Nodup
 lt : ∀ i ∈ l, i < n
 way : ∀ i, i < n → L i = 9 ∨ Reach es rs i (L i)
 root : ∀ r : Nat, (r : Int) ∈ rs → L r ≤ 0
 edge : ∀ (d s : Nat) k, ((d : Int), (s : Int), k) ∈ es → d ∉ l → (d ≠ dst ∨ P ((d : Int), (s : Int), k)) → L s ≤ plusX (L d) k
structure Inv (n : Nat) (es : List Ed) (rs : List Int) (L : Nat → Int) (l : List Nat) : Prop where
 nd : l.Nodup
 lt : ∀ i ∈ l, i < n
 way : ∀ i, i < n → L i = 9 ∨ Reach es rs i (L i)
 root : ∀ r : Nat, (r : Int) ∈ rs → L r ≤ 0
 edge : ∀ (d s : Nat) k, ((d : Int), (s : Int), k) ∈ es → d ∉ l → L s ≤ plusX (L d) k
theorem Ini.done {n : Nat} {es : List Ed} {rs : List Int} {L : Nat → Int} {l : List Nat} (h : Ini n es rs rs.length L l) : Inv n es rs L l where
 nd := h.nd
 lt := h.lt
 way := fun i _ => by
  by_cases hi : i ∈ l
  ·have := h.inn i hi
   rw [this.1]
   exact Or.inr (.root this.2)
  ·exact Or.inl (h.out i hi)
 root := fun r hr => by
  have := h.got r (by rw [List.take_length]; exact hr)
  simp at this
  have := (h.inn r this).1
  omega
 edge := fun d s k _ hd => by
  rw [h.out d hd, plusX_nine]
  by_cases hs : s ∈ l
  ·rw [(h.inn s hs).1]; decide
  ·rw [h.out s hs]; decide
theorem Inv.take {n : Nat} {es : List Ed} {rs : List Int} {L : Nat → Int} {l : List Nat} {dst : Nat} (h : Inv n es rs L (l ++ [dst])) : Mid n es rs L l dst (fun _ => False) where
 nd := (List.nodup_append.1 h.nd).1
 lt := fun i hi => h.lt i (List.mem_append_left _ hi)
 way := h.way
 root := h.root
 edge := fun d s k he hd hp => h.edge d s k he (fun hm => by
  rcases List.mem_append.1 hm with h1 | h1
  ·exact hd h1
  ·rcases hp with hp | hp
   ·exact hp (List.mem_singleton.1 h1)
   ·exact hp)
theorem Mid.stay {n : Nat} {es : List Ed} {rs : List Int} {L : Nat → Int} {l : List Nat} {dst : Nat} {P : Ed → Prop} (h : Mid n es rs L l dst P) {s : Nat} {k : Int} (hs : L s ≤ plusX (L dst) k) : Mid n es rs L l dst (fun e => P e ∨ e = ((dst : Int), (s : Int), k)) where
 nd := h.nd
 lt := h.lt
 way := h.way
 root := h.root
 edge := fun d s' k' he hd hp => by
  rcases hp with hp | hp | hp
  ·exact h.edge d s' k' he hd (Or.inl hp)
  ·exact h.edge d s' k' he hd (Or.inr hp)
  ·simp only [Prod.mk.injEq] at hp
   obtain ⟨h1, h2, h3⟩ := hp
   have h1 : d = dst := by omega
   have h2 : s' = s := by omega
   subst h1; subst h2; subst h3
   exact hs
theorem Mid.fall {n : Nat} {es : List Ed} {rs : List Int} {L : Nat → Int} {l : List Nat} {dst : Nat} {P : Ed → Prop} (h : Mid n es rs L l dst P) {s : Nat} {k : Int} (hdst : dst < n) (hsn : s < n) (he : ((dst : Int), (s : Int), k) ∈ es) (hs : plusX (L dst) k < L s) :
 Mid n es rs (upd L s (plusX (L dst) k)) (addTo l s) dst (fun e => P e ∨ e = ((dst : Int), (s : Int), k)) where
 nd := addTo_nodup h.nd s
 lt := fun i hi => by
  rcases (addTo_mem l s i).1 hi with h1 | rfl
  ·exact h.lt i h1
  ·exact hsn
 way := fun i hi => by
  by_cases e : i = s
  ·subst e
   rw [upd_same]
   rcases h.way dst hdst with h1 | h1
   ·rw [h1, plusX_nine]; exact Or.inl rfl
   ·exact Or.inr (.step (e := ((dst : Int), (i : Int), k)) he h1)
  ·rw [upd_ne _ _ e]; exact h.way i hi
 root := fun r hr => by
  have := h.root r hr
  by_cases e : r = s
  ·subst e; rw [upd_same]; omega
  ·rw [upd_ne _ _ e]; exact this
 edge := fun d s' k' he' hd hp => by
  have hd1 : d ∉ l := fun hm => hd ((addTo_mem l s d).2 (Or.inl hm))
  have hd2 : d ≠ s := fun e => hd ((addTo_mem l s d).2 (Or.inr e))
  rw [upd_ne _ _ hd2]
  have key : (d ≠ dst ∨ P ((d : Int), (s' : Int), k')) → upd L s (plusX (L dst) k) s' ≤ plusX (L d) k' := fun hp => by
   have := h.edge d s' k' he' hd1 hp
   by_cases e : s' = s
   ·subst e; rw [upd_same]; omega
   ·rw [upd_ne _ _ e]; exact this
  rcases hp with hp | hp | hp
  ·exact key (Or.inl hp)
  ·exact key (Or.inr hp)
  ·simp only [Prod.mk.injEq] at hp
   obtain ⟨h1, h2, h3⟩ := hp
   have h1 : d = dst := by omega
   have h2 : s' = s := by omega
   subst h1; subst h2; subst h3
   rw [upd_same]
   exact Int.le_refl _
theorem Mid.done {n : Nat} {es : List Ed} {rs : List Int} {L : Nat → Int} {l : List Nat} {dst : Nat} {P : Ed → Prop} (h : Mid n es rs L l dst P) (hP : ∀ e ∈ es, e.1 = (dst : Int) → P e) : Inv n es rs L l where
 nd := h.nd
 lt := h.lt
 way := h.way
 root := h.root
 edge := fun d s k he hd => h.edge d s k he hd (by
  by_cases e : d = dst
  ·exact Or.inr (hP _ he (by simp [e]))
  ·exact Or.inl e)
theorem Inv.least {n : Nat} {es : List Ed} {rs : List Int} {L : Nat → Int} (h : Inv n es rs L []) : Least n es rs L :=
 ⟨h.root, fun d s k he => h.edge d s k he List.not_mem_nil, h.way⟩
def mu (n : Nat) (L : Nat → Int) (l : List Nat) : Nat := 2 * sumTo (fun i => (L i + 1).toNat) n + l.length
theorem sumTo_upd (f : Nat → Nat) (s v : Nat) : ∀ n, sumTo (upd f s v) n + (if s < n then f s else 0) = sumTo f n + (if s < n then v else 0)
 | 0 => by simp [sumTo]
 | n + 1 => by
   have ih := sumTo_upd f s v n
   simp only [sumTo]
   by_cases h1 : s < n
   ·rw [if_pos h1, if_pos h1] at ih
    rw [if_pos (by omega), if_pos (by omega), upd_ne _ _ (by omega)]
    omega
   ·by_cases h2 : s = n
    ·subst h2
     rw [if_neg h1, if_neg h1] at ih
     rw [if_pos (by omega), if_pos (by omega), upd_same]
     omega
    ·rw [if_neg h1, if_neg h1] at ih
     rw [if_neg (by omega), if_neg (by omega), upd_ne _ _ (by omega)]
     omega
theorem plusX_ge (a k : Int) : -1 ≤ plusX a k := by
 unfold plusX
 split
 ·rename_i h
  simp [flowsX] at h
  omega
 ·omega
theorem mu_fall {n : Nat} {L : Nat → Int} {l : List Nat} {s : Nat} {v : Int} (hs : s < n) (hv : v < L s) (h1 : -1 ≤ v) : mu n (upd L s v) (addTo l s) < mu n L l := by
 unfold mu
 have e : (fun i => (upd L s v i + 1).toNat) = upd (fun i => (L i + 1).toNat) s (v + 1).toNat := by
  funext i
  unfold upd
  split <;> rfl
 have h2 := sumTo_upd (fun i => (L i + 1).toNat) s (v + 1).toNat n
 rw [if_pos hs, if_pos hs] at h2
 rw [e]
 have h3 := addTo_length l s
 omega
end Go.Proofs.YtdkijecnnmncnaaGreatDoor.Wg
