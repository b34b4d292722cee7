import Derived.Test.YtjmbfjaahadbhaaDoorQIfJ
set_option linter.unusedVariables false
set_option linter.unusedSimpArgs false
namespace Go.Proofs.YtjmbfjaahadbhaaDoor
open Go.RowKit (wrap32 wrap64)

/-! ### an order of the functions -/
theorem perm_out {out left : List Nat} {k x : Nat} (hx : left[k]? = some x) : ((out ++ [x]) ++ (left.take k ++ left.drop (k + 1))).Perm (out ++ left) := by
  have hk : k < left.length := by
    by_cases e : k < left.length
    · exact e
    · rw [List.getElem?_eq_none (by omega)] at hx; cases hx
  have e : left = left.take k ++ x :: left.drop (k + 1) := by
    rw [List.getElem?_eq_getElem hk] at hx
    injection hx with hx
    rw [← hx, List.getElem_cons_drop hk, List.take_append_drop]
  rw [List.append_assoc]
  refine List.Perm.append_left out ?_
  conv => rhs; rw [e]
  show (x :: (left.take k ++ left.drop (k + 1))).Perm _
  exact List.perm_middle.symm
theorem mod_pos (X : Int) (L : Nat) (h : 0 < L) : ∃ (r1 : Int) (K : Nat), X.tmod (L : Int) = r1 ∧ -(L : Int) < r1 ∧ r1 < (L : Int) ∧ (r1 + (L : Int)).tmod (L : Int) = (K : Int) ∧ K < L := by
  have hL : (0 : Int) < (L : Int) := by omega
  have k1 := Int.tmod_lt_of_pos X hL
  have k2 := Int.lt_tmod_of_pos X hL
  obtain ⟨r1, hr1⟩ : ∃ r1, r1 = X.tmod (L : Int) := ⟨_, rfl⟩
  rw [← hr1] at k1 k2
  have k0 : 0 ≤ r1 + (L : Int) := by clear hr1; omega
  have k3 : 0 ≤ (r1 + (L : Int)).tmod (L : Int) := Int.tmod_nonneg _ k0
  have k4 := Int.tmod_lt_of_pos (r1 + (L : Int)) hL
  obtain ⟨r2, hr2⟩ : ∃ r2, r2 = (r1 + (L : Int)).tmod (L : Int) := ⟨_, rfl⟩
  rw [← hr2] at k3 k4
  refine ⟨r1, r2.toNat, hr1.symm, ?_, k1, ?_, ?_⟩
  · clear hr1 hr2; omega
  · rw [← hr2]; clear hr1 hr2; omega
  · clear hr1 hr2; omega
theorem step_append_none0 {P : Program} {w : World} {ops : Array Oper} {o : Oper} {a : Act} {K : Act → World → Prop} {Q : Exit → Act → World → Prop} {E : Prop} (hgd : o.guard = none) (s x : Operand) (t : TypeId)
    (ho : o.op = .call { callee := .builtin .append, args := #[s, x], argTypes := #[t, t] })
    (base : Nat) (e : TypeId) (i : TypeInfo) (size : Nat) (ht : P.underlying t = some (.slice e)) (hi : P.info? e = some i)
    (v : Value) (n : Nat) (xs : List Value) (hs : a.eval s = v) (hown : w.ownsRow base e size v n xs) (ad : Option Addr) (c : Nat) (hx : a.eval x = .slice ad 0 c) (hc : ad = none → c = 0)
    (h : K (a.put o.dst v) w) : if Region.wanted o (yielded ops a.tmps) = true then Oper.wp P o a w K Q else E := by
  have hw : Region.wanted o (yielded ops a.tmps) = true := by simp [Region.wanted, hgd]
  rw [if_pos hw]
  have hrun : (Builtin.append_ #[t, t] o.type #[v, .slice ad 0 c]).run P w = .ok v w := by
    cases ad with
    | some ad => exact run_append_none0 base t o.type e i size ht hi v n xs hown ad c
    | none =>
      rw [hc rfl]
      rcases hown.2 with ⟨rfl, rfl⟩ | ⟨g, cap, cur, rfl, _, _, hnc, _⟩
      · simp [Builtin.append_, run_underlying ht, sizeOf, typeInfo, hi, Builtin.lenOf, Builtin.firstCells]
      · simp [Builtin.append_, run_underlying ht, sizeOf, typeInfo, hi, Builtin.lenOf, Builtin.firstCells, hnc, storeCells]
  unfold Oper.wp
  simp [execOp, ho, resolve, invoke, builtin, hs, hx, hrun, Result.andThen]
  exact h
def PlE (N : Nat) (w : World) (e : Ending) (w' : World) : Prop := ∃ v l, e = .returned v ∧ IOwn w' w.heap.size v (zL l) ∧ l.Perm (List.range N) ∧ Fr (fun _ => False) w w'
/-- Between two rounds of places. -/
structure Pls (w0 : World) (N : Nat) (w : World) (v5 v7 : Value) (left out : List Nat) : Prop where
  le : IOwn w w0.heap.size v5 (zL left)
  ou : IOwn w w0.heap.size v7 (zL out)
  ap : ∀ j, v5.ownBlock = some j → v7.ownBlock ≠ some j
  pm : (out ++ left).Perm (List.range N)
  fr : Fr (fun _ => False) w0 w
theorem Pls.len {w0 w : World} {N : Nat} {v5 v7 : Value} {left out : List Nat} (h : Pls w0 N w v5 v7 left out) : out.length + left.length = N := by
  have := h.pm.length_eq
  rw [List.length_append, List.length_range] at this
  exact this
set_option maxRecDepth 100000 in
set_option maxHeartbeats 2000000 in
theorem places_any (N : Nat) (ov : Value) (ol : List Int) (w : World) (hN : N ≤ 65535) (ho : IA w ov ol) (hol : ol.length ≤ 17592186043904) :
    Calls Tryd.prog 20 #[vI (N : Int), ov] w (PlE N w) := by
  obtain ⟨oa, oc, rfl, hoc⟩ := ho
  have HOC : Hd (∀ W, Fr (fun _ => False) w W → ∀ i (h : i < ol.length), ∃ k o, oa = some ⟨k, o, none⟩ ∧ W.cell? ⟨k, o + i, none⟩ = some (vI ol[i])) := fun W fW i hi => by
    obtain ⟨k, o, e, hk, hc⟩ := hoc (fun e => by rw [e] at hi; simp at hi)
    exact ⟨k, o, e, (fW.cell hk (fun e => e)).trans (hc i hi)⟩
  have HF0 : Hd (Fr (fun _ => False) w w) := Fr.refl _ _
  have HB0 : Hd (IOwn w w.heap.size (.slice none 0 0) (zL (List.range 0))) := World.ownsRow_nil _ _ _ _
  clear hoc
  go_enter Tryd.func20, Tryd.ntmps20
  go_wp2_with fail
  go_loopw [5, 6] (fun v5 v wx => ∃ k : Nat, v = .int .i64 k ∧ k ≤ N ∧ Hd (IOwn wx w.heap.size v5 (zL (List.range k))) ∧ Hd (Fr (fun _ => False) w wx)) (fun _ v _ => match v with | .int _ q => N - q.toNat | _ => 0)
  case atStart => exact ⟨0, by simp, Nat.zero_le _, HB0.out, HF0.out⟩
  case round =>
    clear HB0 HF0
    obtain ⟨k, rfl, hk, HO, HF⟩ := hrel
    by_cases hlt : k < N
    · have d1 : decide ((k : Int) < (N : Int)) = true := by simp; omega
      obtain ⟨va, vc, ev⟩ := iown_cap HO.out
      rw [List.length_map, List.length_range] at ev
      subst ev
      have hCz : Fr (fun _ => False) wr (wr.alloc (.cells #[vI (k : Int)] 3)) := Fr.alloc (Fr.refl _ wr) _
      have HFz : Hd (Fr (fun _ => False) wr (wr.alloc (.cells #[vI (k : Int)] 3))) := hCz
      have HRW : Hd ((wr.alloc (.cells #[vI (k : Int)] 3)).ownsRow w.heap.size 3 1 (.slice va k vc) k ((zL (List.range k)).map vI)) := by
        have := ownsRow_frL HO.out hCz (fun _ _ e => e)
        rw [List.length_map, List.length_range] at this
        exact this
      have HNW : Hd (∀ j' u, [vI (k : Int)][j']? = some u → (wr.alloc (.cells #[vI (k : Int)] 3)).cell? ((⟨wr.heap.size, 0, none⟩ : Addr).add j') = some u) := World.news_of_block (w := wr.alloc (.cells #[vI (k : Int)] 3)) (cs := #[vI (k : Int)]) (heap_new0 wr _)
      have HBS : Hd (w.heap.size ≤ (wr.alloc (.cells #[vI (k : Int)] 3)).heap.size) := by have := HF.out.size; have := hCz.size; unfold Hd; omega
      have HGE : Hd (∀ q, (Value.slice va k vc).ownBlock = some q → w.heap.size ≤ q) := fun q e => (HO.out.ge q e).1
      clear hCz
      go_wp2_with ((at_builtin; refine Hd.out ?_))
      unfold Hd
      obtain ⟨i3, hi3, hz3, hs3, hb3⟩ := info_parts (P := Tryd.prog) (e := 3) (z := .int .i64 0) (size := 1) (bytes := 8) (by kernel_rfl)
      refine wpList_append_lies _ rfl (.tmp 15) (.tmp 17) 25 rfl w.heap.size 3 i3 (.int .i64 0) 1 8 under64 hi3 hz3 hs3 hb3 rfl (by omega) (.slice va k vc) k _ rfl HRW.out ⟨wr.heap.size, 0, none⟩ 1 1 [vI (k : Int)] rfl rfl HNW.out (by intro u hu; rw [List.mem_singleton] at hu; rw [hu]; rfl) (by omega) (by unfold maxLen; omega) (by omega) HBS.out (wr.heap.size + 1) (by simp) ?_
      intro g6 cap6 w6 hown6 hgrow6 hat6 hlt6
      clear hi3 hz3 hs3 hb3
      have HO6 : Hd (IOwn w6 w.heap.size (.slice (some ⟨g6, 0, none⟩) (k + 1) cap6) (zL (List.range (k + 1)))) := by
        unfold Hd IOwn
        rw [List.range_succ]
        simpa using hown6
      have HF6 : Hd (Fr (fun _ => False) w w6) := (HF.out.trans HFz.out).then (grown_frL hgrow6) (fun q hq e => by have := HGE.out q e; omega)
      clear hown6 hgrow6 hat6 hlt6 HRW HNW HBS HFz
      go_wp2_with fail
      go_roundw
      case measure => simp; omega
      case rel => exact ⟨k + 1, by simp, by omega, HO6.out, HF6.out⟩
    · have d1 : decide ((k : Int) < (N : Int)) = false := by simp; omega
      have d1n : ¬ k < N := hlt
      have hkN : k = N := by omega
      have HP0 : Hd (Pls w N wr u5 (.slice none 0 0) (List.range N) []) := by
        refine ⟨by have := HO.out; rw [hkN] at this; exact this, World.ownsRow_nil _ _ _ _, fun j _ e => (by cases e), ?_, HF.out⟩
        exact List.Perm.refl _
      clear hkN HO HF hlt
      go_wp2_with fail
      go_loopw [5, 7, 8] (fun v5 v7 v wx => ∃ (left out : List Nat), v = .int .i64 (out.length : Nat) ∧ Hd (Pls w N wx v5 v7 left out) ∧ ∃ a c, v5 = .slice a left.length c) (fun v5 _ _ _ => match v5 with | .slice _ n _ => n | _ => 0)
      case atStart => exact ⟨List.range N, [], by simp, HP0.out, by have := iown_cap HP0.out.le; rwa [List.length_map] at this⟩
      case round =>
        clear HP0 d1 d1n hk
        obtain ⟨left, out, rfl, HP, la, lc, rfl⟩ := hrel
        have hln := HP.out.len
        by_cases hl0 : 0 < left.length
        · have d1 : decide (0 < (left.length : Int)) = true := by simp only [decide_eq_true_eq]; omega
          have d1' : decide ((left.length : Int) > 0) = true := by simp only [decide_eq_true_eq]; omega
          by_cases hio : out.length < ol.length
          · have d2 : decide ((out.length : Int) < (ol.length : Int)) = true := by simp; omega
            obtain ⟨ok, oo, rfl, hoc⟩ := HOC.out wr HP.out.fr out.length hio
            have o0 : (0 : Int) ≤ (out.length : Int) := by omega
            have o1 : (out.length : Int) < (ol.length : Int) := by omega
            generalize ol[out.length] = X at *
            obtain ⟨r1, K, q1, b1, b2, hKe, hK⟩ := mod_pos X left.length hl0
            have HQ1 : Hd (X.tmod (left.length : Int) = r1 ∧ (r1 + (left.length : Int)).tmod (left.length : Int) = (K : Int)) := ⟨q1, hKe⟩
            clear q1 hKe
            have w1 : wrap64 r1 = r1 := w64s r1 (by omega) (by omega)
            have w2 : wrap64 (r1 + (left.length : Int)) = r1 + (left.length : Int) := w64s _ (by omega) (by omega)
            have w3 : wrap64 (K : Int) = (K : Int) := w64s _ (by omega) (by omega)
            have nz : ¬ left.length = 0 := by omega
            clear HOC
            obtain ⟨lg, lc', elg, hcap, hcl⟩ := iown_some HP.out.le (by rw [List.length_map]; omega)
            rw [List.length_map] at elg
            injection elg with el1 el2 el3
            clear el2
            subst el1 el3
            obtain ⟨x, hx⟩ : ∃ x, left[K]? = some x := ⟨_, List.getElem?_eq_getElem hK⟩
            have HCL : Hd (∀ W, Fr (fun _ => False) wr W → ∀ j (h : j < left.length), W.cell? ⟨lg, j, none⟩ = some (vI (left[j] : Nat))) := fun W fW j hj => by
              have hb := (HP.out.le.ge lg (by rfl)).2
              rw [fW.cell hb (fun e => e), hcl j (by rw [List.length_map]; exact hj)]
              simp
            have p1 : wr.cell? ⟨lg, K, none⟩ = some (vI (x : Nat)) := by
              have := HCL.out wr (Fr.refl _ _) K hK
              rw [List.getElem?_eq_getElem hK] at hx
              injection hx with hx
              rw [hx] at this
              exact this
            have K0 : (0 : Int) ≤ K := by omega
            have K1 : (K : Int) < (left.length : Int) := by omega
            obtain ⟨va, vc, ev⟩ := iown_cap HP.out.ou
            rw [List.length_map] at ev
            subst ev
            have hCz : Fr (fun _ => False) wr (wr.alloc (.cells #[vI (x : Int)] 3)) := Fr.alloc (Fr.refl _ wr) _
            have HFz : Hd (Fr (fun _ => False) wr (wr.alloc (.cells #[vI (x : Int)] 3))) := hCz
            have HRW : Hd ((wr.alloc (.cells #[vI (x : Int)] 3)).ownsRow w.heap.size 3 1 (.slice va out.length vc) out.length ((zL out).map vI)) := by
              have := ownsRow_frL HP.out.ou hCz (fun _ _ e => e)
              rw [List.length_map] at this
              exact this
            have HNW : Hd (∀ j' u, [vI (x : Int)][j']? = some u → (wr.alloc (.cells #[vI (x : Int)] 3)).cell? ((⟨wr.heap.size, 0, none⟩ : Addr).add j') = some u) := World.news_of_block (w := wr.alloc (.cells #[vI (x : Int)] 3)) (cs := #[vI (x : Int)]) (heap_new0 wr _)
            have HBS : Hd (w.heap.size ≤ (wr.alloc (.cells #[vI (x : Int)] 3)).heap.size) := by have := HP.out.fr.size; have := hCz.size; unfold Hd; omega
            have HGE : Hd (∀ q, (Value.slice va out.length vc).ownBlock = some q → w.heap.size ≤ q) := fun q e => (HP.out.ou.ge q e).1
            have HX : Hd (left[K]? = some x) := hx
            clear hCz hx hcl
            obtain ⟨q1, q2⟩ := HQ1.out
            go_wp2_with ((at_builtin; refine Hd.out ?_))
            clear q1 q2 HQ1
            unfold Hd
            obtain ⟨i3, hi3, hz3, hs3, hb3⟩ := info_parts (P := Tryd.prog) (e := 3) (z := .int .i64 0) (size := 1) (bytes := 8) (by kernel_rfl)
            refine wpList_append_lies _ rfl (.tmp 41) (.tmp 46) 25 rfl w.heap.size 3 i3 (.int .i64 0) 1 8 under64 hi3 hz3 hs3 hb3 rfl (by omega) (.slice va out.length vc) out.length _ rfl HRW.out ⟨wr.heap.size, 0, none⟩ 1 1 [vI (x : Int)] rfl rfl HNW.out (by intro u hu; rw [List.mem_singleton] at hu; rw [hu]; rfl) (by omega) (by unfold maxLen; omega) (by omega) HBS.out (wr.heap.size + 1) (by simp) ?_
            intro g6 cap6 w6 hown6 hgrow6 hat6 hlt6
            clear hi3 hz3 hs3 hb3
            have hfr : Fr (fun q => (Value.slice va out.length vc).ownBlock = some q) wr w6 := (HFz.out.mono (fun _ _ e => e.elim)).trans (grown_frL hgrow6)
            have HAP : Hd (lg ≠ g6 ∧ lg < wr.heap.size) := by
              have h1 := (HP.out.le.ge lg (by rfl)).2
              refine ⟨fun e => ?_, h1⟩
              rcases hat6 with h | h
              · exact HP.out.ap lg (by rfl) (by rw [e]; exact h)
              · omega
            have HP6 : Hd (Pls w N w6 (.slice (some ⟨lg, 0, none⟩) left.length lc) (.slice (some ⟨g6, 0, none⟩) (out.length + 1) cap6) left (out ++ [x]) ∨ True) := Or.inr trivial
            have HLE : Hd (IOwn w6 w.heap.size (.slice (some ⟨lg, 0, none⟩) left.length lc) (zL left)) := HP.out.le.fr hfr (fun j hj e => HP.out.ap j hj e)
            have HOU : Hd (IOwn w6 w.heap.size (.slice (some ⟨g6, 0, none⟩) (out.length + 1) cap6) (zL (out ++ [x]))) := by
              unfold Hd IOwn
              simpa using hown6
            have HFR : Hd (Fr (fun _ => False) w w6) := HP.out.fr.then hfr (fun q hq e => by have := HGE.out q e; omega)
            have HG6 : Hd (g6 < w6.heap.size ∧ lg < w6.heap.size) := ⟨hlt6, by have := (HLE.out.ge lg (by rfl)).2; exact this⟩
            have HC6 : Hd (∀ W, Fr (fun _ => False) w6 W → ∀ j (h : j < left.length), W.cell? ⟨lg, j, none⟩ = some (vI (left[j] : Nat))) := fun W fW j hj => by
              obtain ⟨g', c', e', -, hc'⟩ := iown_some HLE.out (by rw [List.length_map]; omega)
              injection e' with e1 e2 e3
              injection e1 with e1
              injection e1 with e1
              subst e1
              rw [fW.cell HG6.out.2 (fun e => e), hc' j (by rw [List.length_map]; exact hj)]
              simp
            clear hown6 hgrow6 hat6 hlt6 HRW HNW HBS HFz hfr HP6 p1 HCL
            have HF6 : Hd (Fr (fun _ => False) w6 w6) := Fr.refl _ _
            have hcap2 : left.length ≤ lc := by rw [List.length_map] at hcap; exact hcap
            clear hcap
            have c1 : (K : Int) ≤ (lc : Int) := by omega
            have c2 : (K : Int) + 1 ≤ (left.length : Int) := by omega
            have c3 : (0 : Int) ≤ (K : Int) + 1 := by omega
            have qK : IntKind.i64.wrap ((K : Int) + 1) = ((K + 1 : Nat) : Int) := by rw [wrap_small _ (by omega) (by omega)]; omega
            have HTL : Hd ((left.take K).length = K) := by unfold Hd; rw [List.length_take]; omega
            have HCP : Hd (∀ W, Fr (fun _ => False) w6 W → Calls Tryd.prog 38 #[.slice (some ⟨lg, 0, none⟩) K lc] W fun e w' => ∃ v', e = .returned v' ∧ IOwn w' W.heap.size v' (zL (left.take K)) ∧ Fr (fun _ => False) W w') := fun W fW => by
              refine copyInts_any _ _ W ⟨some ⟨lg, 0, none⟩, lc, by rw [List.length_map, HTL.out], fun _ => ⟨lg, 0, rfl, Nat.lt_of_lt_of_le HG6.out.2 fW.size, fun j hj => ?_⟩⟩ (by rw [List.length_map, HTL.out]; omega)
              rw [List.length_map, HTL.out] at hj
              rw [Nat.zero_add, HC6.out W fW j (by omega)]
              simp
            have HPM : Hd (((out ++ [x]) ++ (left.take K ++ left.drop (K + 1))).Perm (List.range N)) := (perm_out HX.out).trans HP.out.pm
            by_cases hlast : K + 1 < left.length
            · obtain ⟨m, hm⟩ : ∃ m, m = left.length - (K + 1) := ⟨_, rfl⟩
              have hne : ¬ lc = K + 1 := by omega
              have HNW8 : Hd (∀ W, Fr (fun _ => False) w6 W → ∀ j u, ((zL (left.drop (K + 1))).map vI)[j]? = some u → W.cell? ((⟨lg, K + 1, none⟩ : Addr).add j) = some u) := fun W fW j u hu => by
                rw [addr_plus]
                rw [List.getElem?_map, List.getElem?_map, List.getElem?_drop] at hu
                have hj : K + 1 + j < left.length := by
                  by_cases e : K + 1 + j < left.length
                  · exact e
                  · rw [List.getElem?_eq_none (by omega)] at hu; cases hu
                rw [List.getElem?_eq_getElem hj] at hu
                cases hu
                exact HC6.out W fW _ hj
              have HDL : Hd (((zL (left.drop (K + 1))).map vI).length = m ∧ left.length - (K + 1) = m ∧ 0 < m ∧ K + m < left.length) := by refine ⟨?_, by omega, by omega, by omega⟩; rw [List.length_map, List.length_map, List.length_drop]; omega
              clear hm hlast
              go_upto_region 14 with fail
              refine wp_region_held_drew (S := fun W => Fr (fun _ => False) w6 W) (by kernel_rfl) (HF6.out.drew) (fun hHeld => ?_)
              refine heldTake (i := 0) 48 (v := ?_) rfl rfl (by kernel_rfl) (by kernel_rfl) (by kernel_rfl) (fun _ _ _ h => h) (by kernel_rfl) (fun w hSw => (by go_simp; try with_reducible rfl)) hHeld ?_
              simp only [Act.put, List.setIfInBounds_toArray, List.set_cons_zero, List.set_cons_succ]
              refine heldTake (i := 1) 49 (v := ?_) rfl rfl (by kernel_rfl) (by kernel_rfl) (by kernel_rfl) (fun _ _ _ h => h) (by kernel_rfl) (fun w hSw => (by go_simp; try with_reducible rfl)) hHeld ?_
              simp only [Act.put, List.setIfInBounds_toArray, List.set_cons_zero, List.set_cons_succ]
              refine heldTake (i := 2) 50 (v := ?_) rfl rfl (by kernel_rfl) (by kernel_rfl) (by kernel_rfl) (fun _ _ _ h => h) (by kernel_rfl) (fun w hSw => (by go_simp; try with_reducible rfl)) hHeld ?_
              simp only [Act.put, List.setIfInBounds_toArray, List.set_cons_zero, List.set_cons_succ]
              refine heldTake (i := 4) 52 (v := ?_) rfl rfl (by kernel_rfl) (by kernel_rfl) (by kernel_rfl) (fun _ _ _ h => h) (by kernel_rfl) (fun w hSw => (by go_simp; try with_reducible rfl)) hHeld ?_
              simp only [Act.put, List.setIfInBounds_toArray, List.set_cons_zero, List.set_cons_succ]
              refine heldTake (i := 5) 53 (v := ?_) rfl rfl (by kernel_rfl) (by kernel_rfl) (by kernel_rfl) (fun _ _ _ h => h) (by kernel_rfl) (fun w hSw => (by go_simp; try with_reducible rfl)) hHeld ?_
              simp only [Act.put, List.setIfInBounds_toArray, List.set_cons_zero, List.set_cons_succ]
              refine heldTake (i := 6) 54 (v := ?_) rfl rfl (by kernel_rfl) (by kernel_rfl) (by kernel_rfl) (fun _ _ _ h => h) (by kernel_rfl) (fun w hSw => (by go_simp; try with_reducible rfl)) hHeld ?_
              simp only [Act.put, List.setIfInBounds_toArray, List.set_cons_zero, List.set_cons_succ]
              refine heldTake (i := 7) 55 (v := ?_) rfl rfl (by kernel_rfl) (by kernel_rfl) (by kernel_rfl) (fun _ _ _ h => h) (by kernel_rfl) (fun w hSw => (by go_simp; try with_reducible rfl)) hHeld ?_
              simp only [Act.put, List.setIfInBounds_toArray, List.set_cons_zero, List.set_cons_succ]
              refine heldOne (i := 3) rfl (by kernel_rfl) (fun KK hKK => ?_)
              go_simp
              go_wp2_with ((go_at_call 38; refine Calls.mono (HCP.out _ hHeld) ?_; rintro e w8 ⟨v8, rfl, ho8, hF8⟩; have hHeld2 : Fr (fun _ => False) w6 w8 := hHeld.trans hF8; have HO8 : Hd (IOwn w8 w6.heap.size v8 (zL (left.take K))) := ho8.mono (by simp); clear ho8 hF8 hHeld))
              refine hKK.out _ _ hHeld2 ?_
              clear hKK KK
              have hHeld := hHeld2
              clear hHeld2
              obtain ⟨a8, c8, e8⟩ := iown_cap HO8.out
              rw [List.length_map, HTL.out] at e8
              subst e8
              obtain ⟨i3, hi3, hz3, hs3, hb3⟩ := info_parts (P := Tryd.prog) (e := 3) (z := .int .i64 0) (size := 1) (bytes := 8) (by kernel_rfl)
              refine heldOne (i := 8) rfl (by kernel_rfl) (fun KK hKK => ?_)
              have HRW8 : Hd (w8.ownsRow w6.heap.size 3 1 (.slice a8 K c8) K ((zL (left.take K)).map vI)) := by
                have := HO8.out
                unfold IOwn at this
                rw [List.length_map, HTL.out] at this
                exact this
              have hm3 := HDL.out
              refine step_append_lies _ rfl (.tmp 51) (.tmp 55) 25 rfl w6.heap.size 3 i3 (.int .i64 0) 1 8 under64 hi3 hz3 hs3 hb3 rfl (by omega) (.slice a8 K c8) K _ rfl HRW8.out ⟨lg, K + 1, none⟩ m (lc - (K + 1)) ((zL (left.drop (K + 1))).map vI) (by show Value.slice (some ⟨lg, K + 1, none⟩) (left.length - (K + 1)) (lc - (K + 1)) = .slice (some ⟨lg, K + 1, none⟩) m (lc - (K + 1)); rw [hm3.2.1]) (by rw [hm3.1, Nat.mul_one]) (HNW8.out w8 hHeld) (by intro u hu; obtain ⟨z, -, rfl⟩ := List.mem_map.1 hu; rfl) hm3.2.2.1 (by unfold maxLen; omega) (by omega) hHeld.size w8.heap.size rfl ?_
              intro g9 cap9 w9 hown9 hgrow9 hat9 hlt9
              clear hi3 hz3 hs3 hb3
              have hfr9 := grown_frL hgrow9
              have HF9 : Hd (Fr (fun _ => False) w6 w9) := hHeld.then hfr9 (fun q hq e => by have := (World.ownsRow.lt HRW8.out q e).1; omega)
              have HP9 : Hd (Pls w N w9 (.slice (some ⟨g9, 0, none⟩) (K + m) cap9) (.slice (some ⟨g6, 0, none⟩) (out.length + 1) cap6) (left.take K ++ left.drop (K + 1)) (out ++ [x])) := by
                have e1 : (zL (left.take K ++ left.drop (K + 1))).length = K + m := by rw [List.length_map, List.length_append, HTL.out]; have := hm3.1; rw [List.length_map, List.length_map] at this; omega
                refine ⟨?_, HOU.out.fr HF9.out (fun _ _ e => e), fun j hj e => ?_, HPM.out, HFR.out.trans HF9.out⟩
                · have e2 : (zL (left.take K ++ left.drop (K + 1))).map vI = (zL (left.take K)).map vI ++ (zL (left.drop (K + 1))).map vI := by simp
                  unfold IOwn
                  rw [e1, e2]
                  exact World.ownsRow.mono hown9 HFR.out.size
                · cases hj
                  have e2 : some g6 = some g9 := e
                  injection e2 with e2
                  have k1 := (World.ownsRow.lt hown9 g9 rfl).1
                  have := HG6.out.1
                  omega
              have HLN : Hd ((left.take K ++ left.drop (K + 1)).length = K + m) := by unfold Hd; rw [List.length_append, HTL.out]; have := hm3.1; rw [List.length_map, List.length_map] at this; omega
              refine hKK.out _ _ HF9.out ?_
              clear hKK KK hown9 hgrow9 hat9 hlt9 hfr9 HRW8 HO8 HNW8 hHeld
              have hHeld := HF9.out
              simp only [Act.put, List.setIfInBounds_toArray, List.set_cons_zero, List.set_cons_succ]
              refine heldTake (i := 9) 5 (v := ?_) rfl rfl (by kernel_rfl) (by kernel_rfl) (by kernel_rfl) (fun _ _ _ h => h) (by kernel_rfl) (fun w hSw => (by go_simp; try with_reducible rfl)) hHeld ?_
              simp only [Act.put, List.setIfInBounds_toArray, List.set_cons_zero, List.set_cons_succ]
              refine wpAnyH_done (by kernel_rfl) ?_ _
              have hk2 : out.length + 1 ≤ 65535 := by omega
              have HMS : Hd (K + m < left.length) := by unfold Hd; have := HDL.out; omega
              clear hHeld HCP HC6 HPM HLE HP
              go_wp2_with fail
              go_roundw
              case measure => exact HMS.out
              case rel => exact ⟨left.take K ++ left.drop (K + 1), out ++ [x], by simp, HP9.out, _, _, by rw [HLN.out]⟩
            · have HDR : Hd (left.drop (K + 1) = [] ∧ left.length - (K + 1) = 0) := by unfold Hd; exact ⟨List.drop_of_length_le (by omega), by omega⟩
              clear hlast
              by_cases hlc : lc = K + 1
              · subst hlc
                have c1' : (K : Int) ≤ (K : Int) + 1 := by omega
                go_upto_region 14 with fail
                refine wp_region_held_drew (S := fun W => Fr (fun _ => False) w6 W) (by kernel_rfl) (HF6.out.drew) (fun hHeld => ?_)
                refine heldTake (i := 0) 48 (v := ?_) rfl rfl (by kernel_rfl) (by kernel_rfl) (by kernel_rfl) (fun _ _ _ h => h) (by kernel_rfl) (fun w hSw => (by go_simp; try with_reducible rfl)) hHeld ?_
                simp only [Act.put, List.setIfInBounds_toArray, List.set_cons_zero, List.set_cons_succ]
                refine heldTake (i := 1) 49 (v := ?_) rfl rfl (by kernel_rfl) (by kernel_rfl) (by kernel_rfl) (fun _ _ _ h => h) (by kernel_rfl) (fun w hSw => (by go_simp; try with_reducible rfl)) hHeld ?_
                simp only [Act.put, List.setIfInBounds_toArray, List.set_cons_zero, List.set_cons_succ]
                refine heldTake (i := 2) 50 (v := ?_) rfl rfl (by kernel_rfl) (by kernel_rfl) (by kernel_rfl) (fun _ _ _ h => h) (by kernel_rfl) (fun w hSw => (by go_simp; try with_reducible rfl)) hHeld ?_
                simp only [Act.put, List.setIfInBounds_toArray, List.set_cons_zero, List.set_cons_succ]
                refine heldTake (i := 4) 52 (v := ?_) rfl rfl (by kernel_rfl) (by kernel_rfl) (by kernel_rfl) (fun _ _ _ h => h) (by kernel_rfl) (fun w hSw => (by go_simp; try with_reducible rfl)) hHeld ?_
                simp only [Act.put, List.setIfInBounds_toArray, List.set_cons_zero, List.set_cons_succ]
                refine heldTake (i := 5) 53 (v := ?_) rfl rfl (by kernel_rfl) (by kernel_rfl) (by kernel_rfl) (fun _ _ _ h => h) (by kernel_rfl) (fun w hSw => (by go_simp; try with_reducible rfl)) hHeld ?_
                simp only [Act.put, List.setIfInBounds_toArray, List.set_cons_zero, List.set_cons_succ]
                refine heldTake (i := 6) 54 (v := ?_) rfl rfl (by kernel_rfl) (by kernel_rfl) (by kernel_rfl) (fun _ _ _ h => h) (by kernel_rfl) (fun w hSw => (by go_simp; try with_reducible rfl)) hHeld ?_
                simp only [Act.put, List.setIfInBounds_toArray, List.set_cons_zero, List.set_cons_succ]
                refine heldTake (i := 7) 55 (v := ?_) rfl rfl (by kernel_rfl) (by kernel_rfl) (by kernel_rfl) (fun _ _ _ h => h) (by kernel_rfl) (fun w hSw => (by go_simp; try with_reducible rfl)) hHeld ?_
                simp only [Act.put, List.setIfInBounds_toArray, List.set_cons_zero, List.set_cons_succ]
                refine heldOne (i := 3) rfl (by kernel_rfl) (fun KK hKK => ?_)
                go_simp
                go_wp2_with ((go_at_call 38; refine Calls.mono (HCP.out _ hHeld) ?_; rintro e w8 ⟨v8, rfl, ho8, hF8⟩; have hHeld2 : Fr (fun _ => False) w6 w8 := hHeld.trans hF8; have HO8 : Hd (IOwn w8 w6.heap.size v8 (zL (left.take K))) := ho8.mono (by simp); clear ho8 hF8 hHeld))
                refine hKK.out _ _ hHeld2 ?_
                clear hKK KK
                have hHeld := hHeld2
                clear hHeld2
                obtain ⟨a8, c8, e8⟩ := iown_cap HO8.out
                rw [List.length_map, HTL.out] at e8
                subst e8
                obtain ⟨i3, hi3, hz3, hs3, hb3⟩ := info_parts (P := Tryd.prog) (e := 3) (z := .int .i64 0) (size := 1) (bytes := 8) (by kernel_rfl)
                refine heldOne (i := 8) rfl (by kernel_rfl) (fun KK hKK => ?_)
                refine step_append_none0 rfl (.tmp 51) (.tmp 55) 25 rfl w6.heap.size 3 i3 1 under64 hi3 (.slice a8 K c8) K ((zL (left.take K)).map vI) rfl (by have := HO8.out; unfold IOwn at this; rw [List.length_map, HTL.out] at this; exact this) (some ⟨lg, 0, none⟩) 0 rfl (fun e => by cases e) ?_
                clear hi3 hz3 hs3 hb3
                have HP9 : Hd (Pls w N w8 (.slice a8 K c8) (.slice (some ⟨g6, 0, none⟩) (out.length + 1) cap6) (left.take K ++ left.drop (K + 1)) (out ++ [x])) := by
                  refine ⟨?_, HOU.out.fr hHeld (fun _ _ e => e), fun j hj e => ?_, HPM.out, HFR.out.trans hHeld⟩
                  · rw [HDR.out.1, List.append_nil]
                    exact HO8.out.mono HFR.out.size
                  · have e2 : some g6 = some j := e
                    injection e2 with e2
                    have k1 := (HO8.out.ge j hj).1
                    have := HG6.out.1
                    omega
                have HLN : Hd ((left.take K ++ left.drop (K + 1)).length = K) := by unfold Hd; rw [HDR.out.1, List.append_nil]; exact HTL.out
                refine hKK.out _ _ hHeld ?_
                clear hKK KK HO8
                simp only [Act.put, List.setIfInBounds_toArray, List.set_cons_zero, List.set_cons_succ]
                refine heldTake (i := 9) 5 (v := ?_) rfl rfl (by kernel_rfl) (by kernel_rfl) (by kernel_rfl) (fun _ _ _ h => h) (by kernel_rfl) (fun w hSw => (by go_simp; try with_reducible rfl)) hHeld ?_
                simp only [Act.put, List.setIfInBounds_toArray, List.set_cons_zero, List.set_cons_succ]
                refine wpAnyH_done (by kernel_rfl) ?_ _
                have hk2 : out.length + 1 ≤ 65535 := by omega
                have HMS : Hd (K < left.length) := by unfold Hd; omega
                clear hHeld HCP HC6 HPM HLE HP
                go_wp2_with fail
                go_roundw
                case measure => exact HMS.out
                case rel => exact ⟨left.take K ++ left.drop (K + 1), out ++ [x], by simp, HP9.out, _, _, by rw [HLN.out]⟩
              · skip
                go_upto_region 14 with fail
                refine wp_region_held_drew (S := fun W => Fr (fun _ => False) w6 W) (by kernel_rfl) (HF6.out.drew) (fun hHeld => ?_)
                refine heldTake (i := 0) 48 (v := ?_) rfl rfl (by kernel_rfl) (by kernel_rfl) (by kernel_rfl) (fun _ _ _ h => h) (by kernel_rfl) (fun w hSw => (by go_simp; try with_reducible rfl)) hHeld ?_
                simp only [Act.put, List.setIfInBounds_toArray, List.set_cons_zero, List.set_cons_succ]
                refine heldTake (i := 1) 49 (v := ?_) rfl rfl (by kernel_rfl) (by kernel_rfl) (by kernel_rfl) (fun _ _ _ h => h) (by kernel_rfl) (fun w hSw => (by go_simp; try with_reducible rfl)) hHeld ?_
                simp only [Act.put, List.setIfInBounds_toArray, List.set_cons_zero, List.set_cons_succ]
                refine heldTake (i := 2) 50 (v := ?_) rfl rfl (by kernel_rfl) (by kernel_rfl) (by kernel_rfl) (fun _ _ _ h => h) (by kernel_rfl) (fun w hSw => (by go_simp; try with_reducible rfl)) hHeld ?_
                simp only [Act.put, List.setIfInBounds_toArray, List.set_cons_zero, List.set_cons_succ]
                refine heldTake (i := 4) 52 (v := ?_) rfl rfl (by kernel_rfl) (by kernel_rfl) (by kernel_rfl) (fun _ _ _ h => h) (by kernel_rfl) (fun w hSw => (by go_simp; try with_reducible rfl)) hHeld ?_
                simp only [Act.put, List.setIfInBounds_toArray, List.set_cons_zero, List.set_cons_succ]
                refine heldTake (i := 5) 53 (v := ?_) rfl rfl (by kernel_rfl) (by kernel_rfl) (by kernel_rfl) (fun _ _ _ h => h) (by kernel_rfl) (fun w hSw => (by go_simp; try with_reducible rfl)) hHeld ?_
                simp only [Act.put, List.setIfInBounds_toArray, List.set_cons_zero, List.set_cons_succ]
                refine heldTake (i := 6) 54 (v := ?_) rfl rfl (by kernel_rfl) (by kernel_rfl) (by kernel_rfl) (fun _ _ _ h => h) (by kernel_rfl) (fun w hSw => (by go_simp; try with_reducible rfl)) hHeld ?_
                simp only [Act.put, List.setIfInBounds_toArray, List.set_cons_zero, List.set_cons_succ]
                refine heldTake (i := 7) 55 (v := ?_) rfl rfl (by kernel_rfl) (by kernel_rfl) (by kernel_rfl) (fun _ _ _ h => h) (by kernel_rfl) (fun w hSw => (by go_simp; try with_reducible rfl)) hHeld ?_
                simp only [Act.put, List.setIfInBounds_toArray, List.set_cons_zero, List.set_cons_succ]
                refine heldOne (i := 3) rfl (by kernel_rfl) (fun KK hKK => ?_)
                go_simp
                go_wp2_with ((go_at_call 38; refine Calls.mono (HCP.out _ hHeld) ?_; rintro e w8 ⟨v8, rfl, ho8, hF8⟩; have hHeld2 : Fr (fun _ => False) w6 w8 := hHeld.trans hF8; have HO8 : Hd (IOwn w8 w6.heap.size v8 (zL (left.take K))) := ho8.mono (by simp); clear ho8 hF8 hHeld))
                refine hKK.out _ _ hHeld2 ?_
                clear hKK KK
                have hHeld := hHeld2
                clear hHeld2
                obtain ⟨a8, c8, e8⟩ := iown_cap HO8.out
                rw [List.length_map, HTL.out] at e8
                subst e8
                obtain ⟨i3, hi3, hz3, hs3, hb3⟩ := info_parts (P := Tryd.prog) (e := 3) (z := .int .i64 0) (size := 1) (bytes := 8) (by kernel_rfl)
                refine heldOne (i := 8) rfl (by kernel_rfl) (fun KK hKK => ?_)
                refine step_append_none0 rfl (.tmp 51) (.tmp 55) 25 rfl w6.heap.size 3 i3 1 under64 hi3 (.slice a8 K c8) K ((zL (left.take K)).map vI) rfl (by have := HO8.out; unfold IOwn at this; rw [List.length_map, HTL.out] at this; exact this) (some ⟨lg, K + 1, none⟩) (lc - (K + 1)) (by show Value.slice (some ⟨lg, K + 1, none⟩) (left.length - (K + 1)) (lc - (K + 1)) = .slice (some ⟨lg, K + 1, none⟩) 0 (lc - (K + 1)); rw [HDR.out.2]) (fun e => by cases e) ?_
                clear hi3 hz3 hs3 hb3
                have HP9 : Hd (Pls w N w8 (.slice a8 K c8) (.slice (some ⟨g6, 0, none⟩) (out.length + 1) cap6) (left.take K ++ left.drop (K + 1)) (out ++ [x])) := by
                  refine ⟨?_, HOU.out.fr hHeld (fun _ _ e => e), fun j hj e => ?_, HPM.out, HFR.out.trans hHeld⟩
                  · rw [HDR.out.1, List.append_nil]
                    exact HO8.out.mono HFR.out.size
                  · have e2 : some g6 = some j := e
                    injection e2 with e2
                    have k1 := (HO8.out.ge j hj).1
                    have := HG6.out.1
                    omega
                have HLN : Hd ((left.take K ++ left.drop (K + 1)).length = K) := by unfold Hd; rw [HDR.out.1, List.append_nil]; exact HTL.out
                refine hKK.out _ _ hHeld ?_
                clear hKK KK HO8
                simp only [Act.put, List.setIfInBounds_toArray, List.set_cons_zero, List.set_cons_succ]
                refine heldTake (i := 9) 5 (v := ?_) rfl rfl (by kernel_rfl) (by kernel_rfl) (by kernel_rfl) (fun _ _ _ h => h) (by kernel_rfl) (fun w hSw => (by go_simp; try with_reducible rfl)) hHeld ?_
                simp only [Act.put, List.setIfInBounds_toArray, List.set_cons_zero, List.set_cons_succ]
                refine wpAnyH_done (by kernel_rfl) ?_ _
                have hk2 : out.length + 1 ≤ 65535 := by omega
                have HMS : Hd (K < left.length) := by unfold Hd; omega
                clear hHeld HCP HC6 HPM HLE HP
                go_wp2_with fail
                go_roundw
                case measure => exact HMS.out
                case rel => exact ⟨left.take K ++ left.drop (K + 1), out ++ [x], by simp, HP9.out, _, _, by rw [HLN.out]⟩
          · have d2 : decide ((out.length : Int) < (ol.length : Int)) = false := by simp; omega
            have d2n : ¬ out.length < ol.length := hio
            have hK : 0 < left.length := hl0
            have w1a : IntKind.i64.wrap 1 = 1 := wrap_small _ (by omega) (by omega)
            have w1b : wrap64 1 = 1 := w64s _ (by omega) (by omega)
            clear HOC
            obtain ⟨lg, lc', elg, hcap, hcl⟩ := iown_some HP.out.le (by rw [List.length_map]; omega)
            rw [List.length_map] at elg
            injection elg with el1 el2 el3
            clear el2
            subst el1 el3
            obtain ⟨x, hx⟩ : ∃ x, left[0]? = some x := ⟨_, List.getElem?_eq_getElem hK⟩
            have HCL : Hd (∀ W, Fr (fun _ => False) wr W → ∀ j (h : j < left.length), W.cell? ⟨lg, j, none⟩ = some (vI (left[j] : Nat))) := fun W fW j hj => by
              have hb := (HP.out.le.ge lg (by rfl)).2
              rw [fW.cell hb (fun e => e), hcl j (by rw [List.length_map]; exact hj)]
              simp
            have p1 : wr.cell? ⟨lg, 0, none⟩ = some (vI (x : Nat)) := by
              have := HCL.out wr (Fr.refl _ _) 0 hK
              rw [List.getElem?_eq_getElem hK] at hx
              injection hx with hx
              rw [hx] at this
              exact this
            have K0 : (0 : Int) ≤ 0 := by omega
            have K1 : (0 : Int) < (left.length : Int) := by omega
            obtain ⟨va, vc, ev⟩ := iown_cap HP.out.ou
            rw [List.length_map] at ev
            subst ev
            have hCz : Fr (fun _ => False) wr (wr.alloc (.cells #[vI (x : Int)] 3)) := Fr.alloc (Fr.refl _ wr) _
            have HFz : Hd (Fr (fun _ => False) wr (wr.alloc (.cells #[vI (x : Int)] 3))) := hCz
            have HRW : Hd ((wr.alloc (.cells #[vI (x : Int)] 3)).ownsRow w.heap.size 3 1 (.slice va out.length vc) out.length ((zL out).map vI)) := by
              have := ownsRow_frL HP.out.ou hCz (fun _ _ e => e)
              rw [List.length_map] at this
              exact this
            have HNW : Hd (∀ j' u, [vI (x : Int)][j']? = some u → (wr.alloc (.cells #[vI (x : Int)] 3)).cell? ((⟨wr.heap.size, 0, none⟩ : Addr).add j') = some u) := World.news_of_block (w := wr.alloc (.cells #[vI (x : Int)] 3)) (cs := #[vI (x : Int)]) (heap_new0 wr _)
            have HBS : Hd (w.heap.size ≤ (wr.alloc (.cells #[vI (x : Int)] 3)).heap.size) := by have := HP.out.fr.size; have := hCz.size; unfold Hd; omega
            have HGE : Hd (∀ q, (Value.slice va out.length vc).ownBlock = some q → w.heap.size ≤ q) := fun q e => (HP.out.ou.ge q e).1
            have HX : Hd (left[0]? = some x) := hx
            clear hCz hx hcl
            skip
            go_wp2_with ((at_builtin; refine Hd.out ?_))
            skip
            unfold Hd
            obtain ⟨i3, hi3, hz3, hs3, hb3⟩ := info_parts (P := Tryd.prog) (e := 3) (z := .int .i64 0) (size := 1) (bytes := 8) (by kernel_rfl)
            refine wpList_append_lies _ rfl (.tmp 41) (.tmp 46) 25 rfl w.heap.size 3 i3 (.int .i64 0) 1 8 under64 hi3 hz3 hs3 hb3 rfl (by omega) (.slice va out.length vc) out.length _ rfl HRW.out ⟨wr.heap.size, 0, none⟩ 1 1 [vI (x : Int)] rfl rfl HNW.out (by intro u hu; rw [List.mem_singleton] at hu; rw [hu]; rfl) (by omega) (by unfold maxLen; omega) (by omega) HBS.out (wr.heap.size + 1) (by simp) ?_
            intro g6 cap6 w6 hown6 hgrow6 hat6 hlt6
            clear hi3 hz3 hs3 hb3
            have hfr : Fr (fun q => (Value.slice va out.length vc).ownBlock = some q) wr w6 := (HFz.out.mono (fun _ _ e => e.elim)).trans (grown_frL hgrow6)
            have HAP : Hd (lg ≠ g6 ∧ lg < wr.heap.size) := by
              have h1 := (HP.out.le.ge lg (by rfl)).2
              refine ⟨fun e => ?_, h1⟩
              rcases hat6 with h | h
              · exact HP.out.ap lg (by rfl) (by rw [e]; exact h)
              · omega
            have HP6 : Hd (Pls w N w6 (.slice (some ⟨lg, 0, none⟩) left.length lc) (.slice (some ⟨g6, 0, none⟩) (out.length + 1) cap6) left (out ++ [x]) ∨ True) := Or.inr trivial
            have HLE : Hd (IOwn w6 w.heap.size (.slice (some ⟨lg, 0, none⟩) left.length lc) (zL left)) := HP.out.le.fr hfr (fun j hj e => HP.out.ap j hj e)
            have HOU : Hd (IOwn w6 w.heap.size (.slice (some ⟨g6, 0, none⟩) (out.length + 1) cap6) (zL (out ++ [x]))) := by
              unfold Hd IOwn
              simpa using hown6
            have HFR : Hd (Fr (fun _ => False) w w6) := HP.out.fr.then hfr (fun q hq e => by have := HGE.out q e; omega)
            have HG6 : Hd (g6 < w6.heap.size ∧ lg < w6.heap.size) := ⟨hlt6, by have := (HLE.out.ge lg (by rfl)).2; exact this⟩
            have HC6 : Hd (∀ W, Fr (fun _ => False) w6 W → ∀ j (h : j < left.length), W.cell? ⟨lg, j, none⟩ = some (vI (left[j] : Nat))) := fun W fW j hj => by
              obtain ⟨g', c', e', -, hc'⟩ := iown_some HLE.out (by rw [List.length_map]; omega)
              injection e' with e1 e2 e3
              injection e1 with e1
              injection e1 with e1
              subst e1
              rw [fW.cell HG6.out.2 (fun e => e), hc' j (by rw [List.length_map]; exact hj)]
              simp
            clear hown6 hgrow6 hat6 hlt6 HRW HNW HBS HFz hfr HP6 p1 HCL
            have HF6 : Hd (Fr (fun _ => False) w6 w6) := Fr.refl _ _
            have hcap2 : left.length ≤ lc := by rw [List.length_map] at hcap; exact hcap
            clear hcap
            have c1 : (0 : Int) ≤ (lc : Int) := by omega
            have c2 : (1 : Int) ≤ (left.length : Int) := by omega
            have c3 : (0 : Int) ≤ 1 := by omega
            have qK : IntKind.i64.wrap ((0 : Int) + 1) = ((1 : Nat) : Int) := by rw [wrap_small _ (by omega) (by omega)]; omega
            have HTL : Hd ((left.take 0).length = 0) := by unfold Hd; rw [List.length_take]; omega
            have HCP : Hd (∀ W, Fr (fun _ => False) w6 W → Calls Tryd.prog 38 #[.slice (some ⟨lg, 0, none⟩) 0 lc] W fun e w' => ∃ v', e = .returned v' ∧ IOwn w' W.heap.size v' (zL (left.take 0)) ∧ Fr (fun _ => False) W w') := fun W fW => by
              refine copyInts_any _ _ W ⟨some ⟨lg, 0, none⟩, lc, by rw [List.length_map, HTL.out], fun _ => ⟨lg, 0, rfl, Nat.lt_of_lt_of_le HG6.out.2 fW.size, fun j hj => ?_⟩⟩ (by rw [List.length_map, HTL.out]; omega)
              rw [List.length_map, HTL.out] at hj
              exact absurd hj (Nat.not_lt_zero _)
            have HPM : Hd (((out ++ [x]) ++ (left.take 0 ++ left.drop (1))).Perm (List.range N)) := (perm_out HX.out).trans HP.out.pm
            by_cases hlast : 1 < left.length
            · obtain ⟨m, hm⟩ : ∃ m, m = left.length - (1) := ⟨_, rfl⟩
              have hne : ¬ lc = 1 := by omega
              have HNW8 : Hd (∀ W, Fr (fun _ => False) w6 W → ∀ j u, ((zL (left.drop (1))).map vI)[j]? = some u → W.cell? ((⟨lg, 1, none⟩ : Addr).add j) = some u) := fun W fW j u hu => by
                rw [addr_plus]
                rw [List.getElem?_map, List.getElem?_map, List.getElem?_drop] at hu
                have hj : 1 + j < left.length := by
                  by_cases e : 1 + j < left.length
                  · exact e
                  · rw [List.getElem?_eq_none (by omega)] at hu; cases hu
                rw [List.getElem?_eq_getElem hj] at hu
                cases hu
                exact HC6.out W fW _ hj
              have HDL : Hd (((zL (left.drop (1))).map vI).length = m ∧ left.length - (1) = m ∧ 0 < m ∧ m < left.length) := by refine ⟨?_, by omega, by omega, by omega⟩; rw [List.length_map, List.length_map, List.length_drop]; omega
              clear hm hlast
              go_upto_region 14 with fail
              refine wp_region_held_drew (S := fun W => Fr (fun _ => False) w6 W) (by kernel_rfl) (HF6.out.drew) (fun hHeld => ?_)
              refine heldTake (i := 0) 48 (v := ?_) rfl rfl (by kernel_rfl) (by kernel_rfl) (by kernel_rfl) (fun _ _ _ h => h) (by kernel_rfl) (fun w hSw => (by go_simp; try with_reducible rfl)) hHeld ?_
              simp only [Act.put, List.setIfInBounds_toArray, List.set_cons_zero, List.set_cons_succ]
              refine heldTake (i := 1) 49 (v := ?_) rfl rfl (by kernel_rfl) (by kernel_rfl) (by kernel_rfl) (fun _ _ _ h => h) (by kernel_rfl) (fun w hSw => (by go_simp; try with_reducible rfl)) hHeld ?_
              simp only [Act.put, List.setIfInBounds_toArray, List.set_cons_zero, List.set_cons_succ]
              refine heldTake (i := 2) 50 (v := ?_) rfl rfl (by kernel_rfl) (by kernel_rfl) (by kernel_rfl) (fun _ _ _ h => h) (by kernel_rfl) (fun w hSw => (by go_simp; try with_reducible rfl)) hHeld ?_
              simp only [Act.put, List.setIfInBounds_toArray, List.set_cons_zero, List.set_cons_succ]
              refine heldTake (i := 4) 52 (v := ?_) rfl rfl (by kernel_rfl) (by kernel_rfl) (by kernel_rfl) (fun _ _ _ h => h) (by kernel_rfl) (fun w hSw => (by go_simp; try with_reducible rfl)) hHeld ?_
              simp only [Act.put, List.setIfInBounds_toArray, List.set_cons_zero, List.set_cons_succ]
              refine heldTake (i := 5) 53 (v := ?_) rfl rfl (by kernel_rfl) (by kernel_rfl) (by kernel_rfl) (fun _ _ _ h => h) (by kernel_rfl) (fun w hSw => (by go_simp; try with_reducible rfl)) hHeld ?_
              simp only [Act.put, List.setIfInBounds_toArray, List.set_cons_zero, List.set_cons_succ]
              refine heldTake (i := 6) 54 (v := ?_) rfl rfl (by kernel_rfl) (by kernel_rfl) (by kernel_rfl) (fun _ _ _ h => h) (by kernel_rfl) (fun w hSw => (by go_simp; try with_reducible rfl)) hHeld ?_
              simp only [Act.put, List.setIfInBounds_toArray, List.set_cons_zero, List.set_cons_succ]
              refine heldTake (i := 7) 55 (v := ?_) rfl rfl (by kernel_rfl) (by kernel_rfl) (by kernel_rfl) (fun _ _ _ h => h) (by kernel_rfl) (fun w hSw => (by go_simp; try with_reducible rfl)) hHeld ?_
              simp only [Act.put, List.setIfInBounds_toArray, List.set_cons_zero, List.set_cons_succ]
              refine heldOne (i := 3) rfl (by kernel_rfl) (fun KK hKK => ?_)
              go_simp
              go_wp2_with ((go_at_call 38; refine Calls.mono (HCP.out _ hHeld) ?_; rintro e w8 ⟨v8, rfl, ho8, hF8⟩; have hHeld2 : Fr (fun _ => False) w6 w8 := hHeld.trans hF8; have HO8 : Hd (IOwn w8 w6.heap.size v8 (zL (left.take 0))) := ho8.mono (by simp); clear ho8 hF8 hHeld))
              refine hKK.out _ _ hHeld2 ?_
              clear hKK KK
              have hHeld := hHeld2
              clear hHeld2
              obtain ⟨a8, c8, e8⟩ := iown_cap HO8.out
              rw [List.length_map, HTL.out] at e8
              subst e8
              obtain ⟨i3, hi3, hz3, hs3, hb3⟩ := info_parts (P := Tryd.prog) (e := 3) (z := .int .i64 0) (size := 1) (bytes := 8) (by kernel_rfl)
              refine heldOne (i := 8) rfl (by kernel_rfl) (fun KK hKK => ?_)
              have HRW8 : Hd (w8.ownsRow w6.heap.size 3 1 (.slice a8 0 c8) 0 ((zL (left.take 0)).map vI)) := by
                have := HO8.out
                unfold IOwn at this
                rw [List.length_map, HTL.out] at this
                exact this
              have hm3 := HDL.out
              refine step_append_lies _ rfl (.tmp 51) (.tmp 55) 25 rfl w6.heap.size 3 i3 (.int .i64 0) 1 8 under64 hi3 hz3 hs3 hb3 rfl (by omega) (.slice a8 0 c8) 0 _ rfl HRW8.out ⟨lg, 1, none⟩ m (lc - (1)) ((zL (left.drop (1))).map vI) (by show Value.slice (some ⟨lg, 1, none⟩) (left.length - (1)) (lc - (1)) = .slice (some ⟨lg, 1, none⟩) m (lc - (1)); rw [hm3.2.1]) (by rw [hm3.1, Nat.mul_one]) (HNW8.out w8 hHeld) (by intro u hu; obtain ⟨z, -, rfl⟩ := List.mem_map.1 hu; rfl) hm3.2.2.1 (by unfold maxLen; omega) (by omega) hHeld.size w8.heap.size rfl ?_
              intro g9 cap9 w9 hown9 hgrow9 hat9 hlt9
              rw [Nat.zero_add] at hown9 ⊢
              clear hi3 hz3 hs3 hb3
              have hfr9 := grown_frL hgrow9
              have HF9 : Hd (Fr (fun _ => False) w6 w9) := hHeld.then hfr9 (fun q hq e => by have := (World.ownsRow.lt HRW8.out q e).1; omega)
              have HP9 : Hd (Pls w N w9 (.slice (some ⟨g9, 0, none⟩) (m) cap9) (.slice (some ⟨g6, 0, none⟩) (out.length + 1) cap6) (left.take 0 ++ left.drop (1)) (out ++ [x])) := by
                have e1 : (zL (left.take 0 ++ left.drop (1))).length = m := by rw [List.length_map, List.length_append, HTL.out]; have := hm3.1; rw [List.length_map, List.length_map] at this; omega
                refine ⟨?_, HOU.out.fr HF9.out (fun _ _ e => e), fun j hj e => ?_, HPM.out, HFR.out.trans HF9.out⟩
                · have e2 : (zL (left.take 0 ++ left.drop (1))).map vI = (zL (left.take 0)).map vI ++ (zL (left.drop (1))).map vI := by simp
                  unfold IOwn
                  rw [e1, e2]
                  exact World.ownsRow.mono hown9 HFR.out.size
                · cases hj
                  have e2 : some g6 = some g9 := e
                  injection e2 with e2
                  have k1 := (World.ownsRow.lt hown9 g9 rfl).1
                  have := HG6.out.1
                  omega
              have HLN : Hd ((left.take 0 ++ left.drop (1)).length = m) := by unfold Hd; rw [List.length_append, HTL.out]; have := hm3.1; rw [List.length_map, List.length_map] at this; omega
              refine hKK.out _ _ HF9.out ?_
              clear hKK KK hown9 hgrow9 hat9 hlt9 hfr9 HRW8 HO8 HNW8 hHeld
              have hHeld := HF9.out
              simp only [Act.put, List.setIfInBounds_toArray, List.set_cons_zero, List.set_cons_succ]
              refine heldTake (i := 9) 5 (v := ?_) rfl rfl (by kernel_rfl) (by kernel_rfl) (by kernel_rfl) (fun _ _ _ h => h) (by kernel_rfl) (fun w hSw => (by go_simp; try with_reducible rfl)) hHeld ?_
              simp only [Act.put, List.setIfInBounds_toArray, List.set_cons_zero, List.set_cons_succ]
              refine wpAnyH_done (by kernel_rfl) ?_ _
              have hk2 : out.length + 1 ≤ 65535 := by omega
              have HMS : Hd (m < left.length) := by unfold Hd; have := HDL.out; omega
              clear hHeld HCP HC6 HPM HLE HP
              go_wp2_with fail
              go_roundw
              case measure => exact HMS.out
              case rel => exact ⟨left.take 0 ++ left.drop (1), out ++ [x], by simp, HP9.out, _, _, by rw [HLN.out]⟩
            · have HDR : Hd (left.drop (1) = [] ∧ left.length - (1) = 0) := by unfold Hd; exact ⟨List.drop_of_length_le (by omega), by omega⟩
              clear hlast
              by_cases hlc : lc = 1
              · subst hlc
                have c1' : (0 : Int) ≤ (0 : Int) + 1 := by omega
                go_upto_region 14 with fail
                refine wp_region_held_drew (S := fun W => Fr (fun _ => False) w6 W) (by kernel_rfl) (HF6.out.drew) (fun hHeld => ?_)
                refine heldTake (i := 0) 48 (v := ?_) rfl rfl (by kernel_rfl) (by kernel_rfl) (by kernel_rfl) (fun _ _ _ h => h) (by kernel_rfl) (fun w hSw => (by go_simp; try with_reducible rfl)) hHeld ?_
                simp only [Act.put, List.setIfInBounds_toArray, List.set_cons_zero, List.set_cons_succ]
                refine heldTake (i := 1) 49 (v := ?_) rfl rfl (by kernel_rfl) (by kernel_rfl) (by kernel_rfl) (fun _ _ _ h => h) (by kernel_rfl) (fun w hSw => (by go_simp; try with_reducible rfl)) hHeld ?_
                simp only [Act.put, List.setIfInBounds_toArray, List.set_cons_zero, List.set_cons_succ]
                refine heldTake (i := 2) 50 (v := ?_) rfl rfl (by kernel_rfl) (by kernel_rfl) (by kernel_rfl) (fun _ _ _ h => h) (by kernel_rfl) (fun w hSw => (by go_simp; try with_reducible rfl)) hHeld ?_
                simp only [Act.put, List.setIfInBounds_toArray, List.set_cons_zero, List.set_cons_succ]
                refine heldTake (i := 4) 52 (v := ?_) rfl rfl (by kernel_rfl) (by kernel_rfl) (by kernel_rfl) (fun _ _ _ h => h) (by kernel_rfl) (fun w hSw => (by go_simp; try with_reducible rfl)) hHeld ?_
                simp only [Act.put, List.setIfInBounds_toArray, List.set_cons_zero, List.set_cons_succ]
                refine heldTake (i := 5) 53 (v := ?_) rfl rfl (by kernel_rfl) (by kernel_rfl) (by kernel_rfl) (fun _ _ _ h => h) (by kernel_rfl) (fun w hSw => (by go_simp; try with_reducible rfl)) hHeld ?_
                simp only [Act.put, List.setIfInBounds_toArray, List.set_cons_zero, List.set_cons_succ]
                refine heldTake (i := 6) 54 (v := ?_) rfl rfl (by kernel_rfl) (by kernel_rfl) (by kernel_rfl) (fun _ _ _ h => h) (by kernel_rfl) (fun w hSw => (by go_simp; try with_reducible rfl)) hHeld ?_
                simp only [Act.put, List.setIfInBounds_toArray, List.set_cons_zero, List.set_cons_succ]
                refine heldTake (i := 7) 55 (v := ?_) rfl rfl (by kernel_rfl) (by kernel_rfl) (by kernel_rfl) (fun _ _ _ h => h) (by kernel_rfl) (fun w hSw => (by go_simp; try with_reducible rfl)) hHeld ?_
                simp only [Act.put, List.setIfInBounds_toArray, List.set_cons_zero, List.set_cons_succ]
                refine heldOne (i := 3) rfl (by kernel_rfl) (fun KK hKK => ?_)
                go_simp
                go_wp2_with ((go_at_call 38; refine Calls.mono (HCP.out _ hHeld) ?_; rintro e w8 ⟨v8, rfl, ho8, hF8⟩; have hHeld2 : Fr (fun _ => False) w6 w8 := hHeld.trans hF8; have HO8 : Hd (IOwn w8 w6.heap.size v8 (zL (left.take 0))) := ho8.mono (by simp); clear ho8 hF8 hHeld))
                refine hKK.out _ _ hHeld2 ?_
                clear hKK KK
                have hHeld := hHeld2
                clear hHeld2
                obtain ⟨a8, c8, e8⟩ := iown_cap HO8.out
                rw [List.length_map, HTL.out] at e8
                subst e8
                obtain ⟨i3, hi3, hz3, hs3, hb3⟩ := info_parts (P := Tryd.prog) (e := 3) (z := .int .i64 0) (size := 1) (bytes := 8) (by kernel_rfl)
                refine heldOne (i := 8) rfl (by kernel_rfl) (fun KK hKK => ?_)
                refine step_append_none0 rfl (.tmp 51) (.tmp 55) 25 rfl w6.heap.size 3 i3 1 under64 hi3 (.slice a8 0 c8) 0 ((zL (left.take 0)).map vI) rfl (by have := HO8.out; unfold IOwn at this; rw [List.length_map, HTL.out] at this; exact this) (some ⟨lg, 0, none⟩) 0 rfl (fun e => by cases e) ?_
                clear hi3 hz3 hs3 hb3
                have HP9 : Hd (Pls w N w8 (.slice a8 0 c8) (.slice (some ⟨g6, 0, none⟩) (out.length + 1) cap6) (left.take 0 ++ left.drop (1)) (out ++ [x])) := by
                  refine ⟨?_, HOU.out.fr hHeld (fun _ _ e => e), fun j hj e => ?_, HPM.out, HFR.out.trans hHeld⟩
                  · rw [HDR.out.1, List.append_nil]
                    exact HO8.out.mono HFR.out.size
                  · have e2 : some g6 = some j := e
                    injection e2 with e2
                    have k1 := (HO8.out.ge j hj).1
                    have := HG6.out.1
                    omega
                have HLN : Hd ((left.take 0 ++ left.drop (1)).length = 0) := by unfold Hd; rw [HDR.out.1, List.append_nil]; exact HTL.out
                refine hKK.out _ _ hHeld ?_
                clear hKK KK HO8
                simp only [Act.put, List.setIfInBounds_toArray, List.set_cons_zero, List.set_cons_succ]
                refine heldTake (i := 9) 5 (v := ?_) rfl rfl (by kernel_rfl) (by kernel_rfl) (by kernel_rfl) (fun _ _ _ h => h) (by kernel_rfl) (fun w hSw => (by go_simp; try with_reducible rfl)) hHeld ?_
                simp only [Act.put, List.setIfInBounds_toArray, List.set_cons_zero, List.set_cons_succ]
                refine wpAnyH_done (by kernel_rfl) ?_ _
                have hk2 : out.length + 1 ≤ 65535 := by omega
                have HMS : Hd (0 < left.length) := by unfold Hd; omega
                clear hHeld HCP HC6 HPM HLE HP
                go_wp2_with fail
                go_roundw
                case measure => exact HMS.out
                case rel => exact ⟨left.take 0 ++ left.drop (1), out ++ [x], by simp, HP9.out, _, _, by rw [HLN.out]⟩
              · skip
                go_upto_region 14 with fail
                refine wp_region_held_drew (S := fun W => Fr (fun _ => False) w6 W) (by kernel_rfl) (HF6.out.drew) (fun hHeld => ?_)
                refine heldTake (i := 0) 48 (v := ?_) rfl rfl (by kernel_rfl) (by kernel_rfl) (by kernel_rfl) (fun _ _ _ h => h) (by kernel_rfl) (fun w hSw => (by go_simp; try with_reducible rfl)) hHeld ?_
                simp only [Act.put, List.setIfInBounds_toArray, List.set_cons_zero, List.set_cons_succ]
                refine heldTake (i := 1) 49 (v := ?_) rfl rfl (by kernel_rfl) (by kernel_rfl) (by kernel_rfl) (fun _ _ _ h => h) (by kernel_rfl) (fun w hSw => (by go_simp; try with_reducible rfl)) hHeld ?_
                simp only [Act.put, List.setIfInBounds_toArray, List.set_cons_zero, List.set_cons_succ]
                refine heldTake (i := 2) 50 (v := ?_) rfl rfl (by kernel_rfl) (by kernel_rfl) (by kernel_rfl) (fun _ _ _ h => h) (by kernel_rfl) (fun w hSw => (by go_simp; try with_reducible rfl)) hHeld ?_
                simp only [Act.put, List.setIfInBounds_toArray, List.set_cons_zero, List.set_cons_succ]
                refine heldTake (i := 4) 52 (v := ?_) rfl rfl (by kernel_rfl) (by kernel_rfl) (by kernel_rfl) (fun _ _ _ h => h) (by kernel_rfl) (fun w hSw => (by go_simp; try with_reducible rfl)) hHeld ?_
                simp only [Act.put, List.setIfInBounds_toArray, List.set_cons_zero, List.set_cons_succ]
                refine heldTake (i := 5) 53 (v := ?_) rfl rfl (by kernel_rfl) (by kernel_rfl) (by kernel_rfl) (fun _ _ _ h => h) (by kernel_rfl) (fun w hSw => (by go_simp; try with_reducible rfl)) hHeld ?_
                simp only [Act.put, List.setIfInBounds_toArray, List.set_cons_zero, List.set_cons_succ]
                refine heldTake (i := 6) 54 (v := ?_) rfl rfl (by kernel_rfl) (by kernel_rfl) (by kernel_rfl) (fun _ _ _ h => h) (by kernel_rfl) (fun w hSw => (by go_simp; try with_reducible rfl)) hHeld ?_
                simp only [Act.put, List.setIfInBounds_toArray, List.set_cons_zero, List.set_cons_succ]
                refine heldTake (i := 7) 55 (v := ?_) rfl rfl (by kernel_rfl) (by kernel_rfl) (by kernel_rfl) (fun _ _ _ h => h) (by kernel_rfl) (fun w hSw => (by go_simp; try with_reducible rfl)) hHeld ?_
                simp only [Act.put, List.setIfInBounds_toArray, List.set_cons_zero, List.set_cons_succ]
                refine heldOne (i := 3) rfl (by kernel_rfl) (fun KK hKK => ?_)
                go_simp
                go_wp2_with ((go_at_call 38; refine Calls.mono (HCP.out _ hHeld) ?_; rintro e w8 ⟨v8, rfl, ho8, hF8⟩; have hHeld2 : Fr (fun _ => False) w6 w8 := hHeld.trans hF8; have HO8 : Hd (IOwn w8 w6.heap.size v8 (zL (left.take 0))) := ho8.mono (by simp); clear ho8 hF8 hHeld))
                refine hKK.out _ _ hHeld2 ?_
                clear hKK KK
                have hHeld := hHeld2
                clear hHeld2
                obtain ⟨a8, c8, e8⟩ := iown_cap HO8.out
                rw [List.length_map, HTL.out] at e8
                subst e8
                obtain ⟨i3, hi3, hz3, hs3, hb3⟩ := info_parts (P := Tryd.prog) (e := 3) (z := .int .i64 0) (size := 1) (bytes := 8) (by kernel_rfl)
                refine heldOne (i := 8) rfl (by kernel_rfl) (fun KK hKK => ?_)
                refine step_append_none0 rfl (.tmp 51) (.tmp 55) 25 rfl w6.heap.size 3 i3 1 under64 hi3 (.slice a8 0 c8) 0 ((zL (left.take 0)).map vI) rfl (by have := HO8.out; unfold IOwn at this; rw [List.length_map, HTL.out] at this; exact this) (some ⟨lg, 1, none⟩) (lc - (1)) (by show Value.slice (some ⟨lg, 1, none⟩) (left.length - (1)) (lc - (1)) = .slice (some ⟨lg, 1, none⟩) 0 (lc - (1)); rw [HDR.out.2]) (fun e => by cases e) ?_
                clear hi3 hz3 hs3 hb3
                have HP9 : Hd (Pls w N w8 (.slice a8 0 c8) (.slice (some ⟨g6, 0, none⟩) (out.length + 1) cap6) (left.take 0 ++ left.drop (1)) (out ++ [x])) := by
                  refine ⟨?_, HOU.out.fr hHeld (fun _ _ e => e), fun j hj e => ?_, HPM.out, HFR.out.trans hHeld⟩
                  · rw [HDR.out.1, List.append_nil]
                    exact HO8.out.mono HFR.out.size
                  · have e2 : some g6 = some j := e
                    injection e2 with e2
                    have k1 := (HO8.out.ge j hj).1
                    have := HG6.out.1
                    omega
                have HLN : Hd ((left.take 0 ++ left.drop (1)).length = 0) := by unfold Hd; rw [HDR.out.1, List.append_nil]; exact HTL.out
                refine hKK.out _ _ hHeld ?_
                clear hKK KK HO8
                simp only [Act.put, List.setIfInBounds_toArray, List.set_cons_zero, List.set_cons_succ]
                refine heldTake (i := 9) 5 (v := ?_) rfl rfl (by kernel_rfl) (by kernel_rfl) (by kernel_rfl) (fun _ _ _ h => h) (by kernel_rfl) (fun w hSw => (by go_simp; try with_reducible rfl)) hHeld ?_
                simp only [Act.put, List.setIfInBounds_toArray, List.set_cons_zero, List.set_cons_succ]
                refine wpAnyH_done (by kernel_rfl) ?_ _
                have hk2 : out.length + 1 ≤ 65535 := by omega
                have HMS : Hd (0 < left.length) := by unfold Hd; omega
                clear hHeld HCP HC6 HPM HLE HP
                go_wp2_with fail
                go_roundw
                case measure => exact HMS.out
                case rel => exact ⟨left.take 0 ++ left.drop (1), out ++ [x], by simp, HP9.out, _, _, by rw [HLN.out]⟩
        · have d1 : decide (0 < (left.length : Int)) = false := by simp only [decide_eq_false_iff_not]; omega
          have d1' : decide ((left.length : Int) > 0) = false := by simp only [decide_eq_false_iff_not]; omega
          have d1n : ¬ 0 < left.length := hl0
          have HE : Hd (PlE N w (.returned u7) wr) := by
            have el : left = [] := List.eq_nil_of_length_eq_zero (by omega)
            have := HP.out.pm
            rw [el, List.append_nil] at this
            exact ⟨_, out, rfl, HP.out.ou, this, HP.out.fr⟩
          clear hl0 HP
          go_wp2_with fail
          go_ret
          exact HE.out
end Go.Proofs.YtjmbfjaahadbhaaDoor
