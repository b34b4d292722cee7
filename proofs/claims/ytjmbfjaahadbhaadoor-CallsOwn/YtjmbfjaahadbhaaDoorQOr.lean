import Derived.Test.YtjmbfjaahadbhaaDoorQOgJ
set_option linter.unusedVariables false
set_option linter.unusedSimpArgs false
namespace Go.Proofs.YtjmbfjaahadbhaaDoor
open Go.RowKit (wrap32 wrap64)

/-- One more in a row of lists, whatever they are. -/
theorem wpList_row {w : World} {ops : Array Oper} {rest : List Oper} {o : Oper} {a : Act} {Q : Exit → Act → World → Prop} (hgd : o.guard = none) (s x : Operand) (ho : o.op = .call { callee := .builtin .append, args := #[s, x], argTypes := #[53, 53] })
    {B k H c uk uc : Nat} {ua : Option Addr} {v : Value} {us : List Value} (hs : a.eval s = v) (hx : a.eval x = .slice (some ⟨H, 0, none⟩) 1 c)
    (h : w.ownsRow B 25 1 v k us) (hb : w.heap[H]? = some (.cells #[.slice ua uk uc] 25)) (hl : k ≤ 1000000000) (hB : B ≤ w.heap.size)
    (K : ∀ g cap w', w'.ownsRow B 25 1 (.slice (some ⟨g, 0, none⟩) (k + 1) cap) (k + 1) (us ++ [.slice ua uk uc]) → Fr (fun q => v.ownBlock = some q) w w' → wpList Tryd.prog ops Q rest (a.put o.dst (.slice (some ⟨g, 0, none⟩) (k + 1) cap)) w') :
    wpList Tryd.prog ops Q (o :: rest) a w := by
  obtain ⟨i3, hi3, hz3, hs3, hb3⟩ := info_parts (P := Tryd.prog) (e := 25) (z := .slice none 0 0) (size := 1) (bytes := 24) (by kernel_rfl)
  refine wpList_append_lies _ hgd s x 53 ho B 25 i3 (.slice none 0 0) 1 24 under53 hi3 hz3 hs3 hb3 rfl (by omega) v k us hs h ⟨H, 0, none⟩ 1 c [.slice ua uk uc] hx rfl (World.news_of_block (cs := #[.slice ua uk uc]) hb) (by intro y hy; rw [List.mem_singleton] at hy; rw [hy]; rfl) (by omega) (by unfold maxLen; omega) (by omega) hB w.heap.size rfl ?_
  intro g cap w' hown hgrow hat _
  exact K g cap w' hown (grown_frL hgrow)
/-- While the lists are written over: i of them are, and k numbers of the next one. -/
def StA (w8 wx : World) (B1 B2 : Nat) (lv : Value) (m : Nat) (U : Nat → Value) (nn : Nat → Nat) (i k : Nat) : Prop :=
  ∃ xs : Nat → List Int, (∀ j, j < m → (xs j).length = nn j) ∧ (∀ j, j < i → j < m → xs j = mrX nn j) ∧ (∀ t, t < k → (xs i)[t]? = some (1000 + (i : Int))) ∧ Lm wx B1 B2 lv m U xs ∧ Fr (fun q => B1 ≤ q ∧ q < B2) w8 wx
section
variable {w8 wx : World} {B1 B2 m lg lc : Nat} {lv : Value} {U : Nat → Value} {nn : Nat → Nat} {i k : Nat}
theorem StA.start {xs : Nat → List Int} (h : Lm w8 B1 B2 lv m U xs) (hn : ∀ j, j < m → (xs j).length = nn j) : StA w8 w8 B1 B2 lv m U nn 0 0 :=
  ⟨xs, hn, fun j hj => by omega, fun t ht => by omega, h, Fr.refl _ _⟩
theorem StA.next (h : StA w8 wx B1 B2 lv m U nn i k) (hi : i < m) (hk : nn i ≤ k) : StA w8 wx B1 B2 lv m U nn (i + 1) 0 := by
  obtain ⟨xs, h1, h2, h3, h4, h5⟩ := h
  refine ⟨xs, h1, fun j hj hm => ?_, fun t ht => by omega, h4, h5⟩
  by_cases e : j = i
  · subst e
    exact marked (n := 0) (h1 j hm) (fun t ht => h3 t (by omega))
  · exact h2 j (by omega) hm
theorem StA.at (h : StA w8 wx B1 B2 (.slice (some ⟨lg, 0, none⟩) m lc) m U nn i k) (hi : i < m) : ∃ a ca, wx.cell? ⟨lg, i, none⟩ = some (.slice a (nn i) ca) ∧ U i = .slice a (nn i) ca ∧ (0 < nn i → ∃ g, a = some ⟨g, 0, none⟩ ∧ ∀ t, t < nn i → ∃ z, wx.cell? ⟨g, t, none⟩ = some (vI z)) := by
  obtain ⟨xs, h1, h2, h3, h4, h5⟩ := h
  obtain ⟨g, c, a, ca, e, e2, e3, -⟩ := h4.at hi
  injection e with e4
  injection e4 with e4
  injection e4 with e4
  subst e4
  rw [h1 i hi] at e2 e3
  refine ⟨a, ca, e2, e3, fun h0 => ?_⟩
  obtain ⟨g', c', e5, -, hc⟩ := iown_some (h4.own i hi) (by rw [h1 i hi]; exact h0)
  rw [e3, h1 i hi] at e5
  injection e5 with e6
  exact ⟨g', e6, fun t ht => ⟨_, hc t (by rw [h1 i hi]; exact ht)⟩⟩
theorem StA.put {g c : Nat} (h : StA w8 wx B1 B2 lv m U nn i k) (hi : i < m) (hk : k < nn i) (e : U i = .slice (some ⟨g, 0, none⟩) (nn i) c) : StA w8 (wx.setCell ⟨g, k, none⟩ (vI (1000 + (i : Int)))) B1 B2 lv m U nn i (k + 1) ∧ wx.frozen? ⟨g, k, none⟩ = false := by
  obtain ⟨xs, h1, h2, h3, h4, h5⟩ := h
  obtain ⟨k1, k2, k3, k4, k5⟩ := h4.set (t := k) hi (by rw [h1 i hi]; exact e) (1000 + (i : Int))
  refine ⟨⟨_, fun j hj => ?_, fun j hj hm => ?_, fun t ht => ?_, k1, h5.then (setCell_fr wx g k _) (fun q hq e2 => by have e2 : q = g := e2; subst e2; exact ⟨k3, k4⟩)⟩, k2⟩
  · by_cases e1 : j = i
    · rw [e1, at1_self, List.length_set, h1 i hi]
    · rw [at1_ne _ _ e1]; exact h1 j hj
  · rw [at1_ne _ _ (by omega)]; exact h2 j hj hm
  · rw [at1_self]
    by_cases e1 : t = k
    · rw [e1, List.getElem?_set_self (by rw [h1 i hi]; exact hk)]
    · rw [List.getElem?_set_ne (by omega)]
      exact h3 t (by omega)
theorem StA.done (h : StA w8 wx B1 B2 lv m U nn i k) (hi : m ≤ i) (hB : B2 ≤ w8.heap.size) : FmX wx wx B1 B2 lv m U nn (.slice none 0 0) (fun _ => undef) 0 := by
  obtain ⟨xs, h1, h2, h3, h4, h5⟩ := h
  refine ⟨⟨h4.row, fun j hj => ?_, h4.ap, h4.lt, h4.vb⟩, World.ownsRow_nil _ _ _ _, fun j hj => by omega, fun j hj => by omega, Fr.refl _ _, Nat.le_trans hB h5.size⟩
  rw [← h2 j (by omega) hj]
  exact h4.own j hj
theorem StA.fr (h : StA w8 wx B1 B2 lv m U nn i k) : Fr (fun q => B1 ≤ q ∧ q < B2) w8 wx := by
  obtain ⟨xs, h1, h2, h3, h4, h5⟩ := h
  exact h5
end
section
variable {w3 w : World} {B1 B2 m lg lc : Nat} {U : Nat → Value} {n : Nat → Nat} {fv : Value} {F : Nat → Value} {i k : Nat} {wv : Value}
theorem FmX.at (h : FmX w3 w B1 B2 (.slice (some ⟨lg, 0, none⟩) m lc) m U n fv F i) {j : Nat} (hj : j < m) : ∃ a ca, w.cell? ⟨lg, j, none⟩ = some (.slice a (n j) ca) ∧ U j = .slice a (n j) ca ∧ (0 < n j → ∃ g, a = some ⟨g, 0, none⟩ ∧ ∀ t, t < n j → w.cell? ⟨g, t, none⟩ = some (vI (1000 + (j : Int)))) := by
  obtain ⟨g, c, a, ca, e, e2, e3, -⟩ := h.l.at hj
  injection e with e4
  injection e4 with e4
  injection e4 with e4
  subst e4
  rw [mrX_len] at e2 e3
  refine ⟨a, ca, e2, e3, fun h0 => ?_⟩
  obtain ⟨g', c', e5, -, hc⟩ := iown_some (h.l.own j hj) (by rw [mrX_len]; exact h0)
  rw [e3, mrX_len] at e5
  injection e5 with e6
  refine ⟨g', e6, fun t ht => ?_⟩
  rw [hc t (by rw [mrX_len]; exact ht)]
  unfold mrX
  rw [List.getElem_replicate]
theorem GmX.len (h : GmX w3 w B1 B2 (.slice (some ⟨lg, 0, none⟩) m lc) m U n fv F i k wv) : ∃ a c, wv = .slice a (n i + k) c := by
  obtain ⟨a, c, e⟩ := iown_cap h.wo
  rw [List.length_append, mrX_len, List.length_replicate] at e
  exact ⟨a, c, e⟩
/-- A list that was gone on with, read. -/
theorem FmX.far_at (h : FmX w3 w B1 B2 (.slice (some ⟨lg, 0, none⟩) m lc) m U n fv F m) {j : Nat} (hj : j < m) : ∃ g c gj cj, fv = .slice (some ⟨g, 0, none⟩) m c ∧ w.cell? ⟨g, j, none⟩ = some (.slice (some ⟨gj, 0, none⟩) (n j + 64) cj) ∧ (∀ t, t < n j → w.cell? ⟨gj, t, none⟩ = some (vI (1000 + (j : Int)))) ∧ ∀ t, t < 64 → w.cell? ⟨gj, n j + t, none⟩ = some (vI (-1000 - (j : Int))) := by
  obtain ⟨g, c, e, hg, hc⟩ := own_cell h.far (j := j) (u := F j) (by rw [List.getElem?_map, List.getElem?_range hj]; rfl)
  have hl : (mrX n j ++ List.replicate 64 (-1000 - (j : Int))).length = n j + 64 := by rw [List.length_append, mrX_len, List.length_replicate]
  obtain ⟨gj, cj, e2, -, hcj⟩ := iown_some (h.fown j hj) (by rw [hl]; omega)
  rw [hl] at e2
  refine ⟨g, c, gj, cj, e, by rw [← e2]; exact hc, fun t ht => ?_, fun t ht => ?_⟩
  · rw [hcj t (by rw [hl]; omega), List.getElem_append_left (by rw [mrX_len]; exact ht)]
    unfold mrX
    rw [List.getElem_replicate]
  · rw [hcj (n j + t) (by rw [hl]; omega), List.getElem_append_right (by rw [mrX_len]; omega), List.getElem_replicate]
end
/-- Rows that lie where nothing is written. -/
theorem LOc.frS {S : Nat → Prop} {w w' : World} {B : Nat} {v : Value} {us : List Value} {ls : List (List Int)} (h : LOc w B v us ls) (f : Fr S w w') (hS : ∀ q, B ≤ q → ¬ S q) : LOc w' B v us ls :=
  ⟨ownsRow_frL h.row f (fun q e => hS q (World.ownsRow.lt h.row q e).1), h.ul, fun i hi hk => (h.each i hi hk).fr f (fun q e => hS q ((h.each i hi hk).ge q e).1)⟩
/-! ### a nil graph -/
set_option maxRecDepth 100000 in
theorem nil_len (w : World) : Calls Tryd.prog 12 #[.pointer none] w fun e w' => e = .returned (vI 0) ∧ w' = w := by
  have hq : (binOp .eql 33 (.pointer none) (.pointer none)).run Tryd.prog w = .ok (.bool true) w := by first | rfl | kernel_rfl
  go_enter Tryd.func12, Tryd.ntmps12
  go_wp2_with fail
  go_ret
  exact ⟨rfl, rfl⟩
set_option maxRecDepth 100000 in
theorem nil_of (w : World) : Calls Tryd.prog 13 #[.pointer none, vI 0] w fun e w' => e = .returned (vI (-1)) ∧ w' = w := by
  have hq : (binOp .eql 33 (.pointer none) (.pointer none)).run Tryd.prog w = .ok (.bool true) w := by first | rfl | kernel_rfl
  go_enter Tryd.func13, Tryd.ntmps13
  go_wp2_with fail
  go_ret
  exact ⟨rfl, rfl⟩
set_option maxRecDepth 100000 in
theorem nil_members (w : World) : Calls Tryd.prog 11 #[.pointer none, vI 0] w fun e w' => e = .returned (.slice none 0 0) ∧ w' = w := by
  have hq : (binOp .eql 33 (.pointer none) (.pointer none)).run Tryd.prog w = .ok (.bool true) w := by first | rfl | kernel_rfl
  go_enter Tryd.func11, Tryd.ntmps11
  go_wp2_with fail
  go_ret
  exact ⟨rfl, rfl⟩
set_option maxRecDepth 100000 in
theorem nil_callees (w : World) : Calls Tryd.prog 14 #[.pointer none, vI 0] w fun e w' => e = .returned (.slice none 0 0) ∧ w' = w := by
  have hq : (binOp .eql 33 (.pointer none) (.pointer none)).run Tryd.prog w = .ok (.bool true) w := by first | rfl | kernel_rfl
  go_enter Tryd.func14, Tryd.ntmps14
  go_wp2_with fail
  go_ret
  exact ⟨rfl, rfl⟩
set_option maxRecDepth 100000 in
theorem nil_callers (w : World) : Calls Tryd.prog 15 #[.pointer none, vI 0] w fun e w' => e = .returned (.slice none 0 0) ∧ w' = w := by
  have hq : (binOp .eql 33 (.pointer none) (.pointer none)).run Tryd.prog w = .ok (.bool true) w := by first | rfl | kernel_rfl
  go_enter Tryd.func15, Tryd.ntmps15
  go_wp2_with fail
  go_ret
  exact ⟨rfl, rfl⟩
end Go.Proofs.YtjmbfjaahadbhaaDoor
