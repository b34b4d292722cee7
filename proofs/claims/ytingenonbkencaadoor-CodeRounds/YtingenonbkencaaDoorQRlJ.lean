import Derived.Test.YtingenonbkencaaDoorQTb
import Derived.Test.YtingenonbkencaaDoorQLcJ
import Derived.Test.YtingenonbkencaaDoorQW8J
set_option linter.unusedVariables false
set_option linter.unusedSimpArgs false
namespace Go.Proofs.YtingenonbkencaaDoor
open Go.RowKit (wrap32 wrap64)
section
variable {b : Nat} {rv : Value} {bs : List UInt8}
def N64 (z : Int) : Prop := -9223372036854775808 ≤ z ∧ z < 9223372036854775808
theorem n64_wrap (z : Int) : N64 (wrap64 z) := by
  unfold N64
  rw [w64_eq]
  omega
def Nk (c : X (WS × Unit)) : Prop := ∀ y, c = .ok y → N64 y.1.n
theorem Nk.then {c : X (WS × Unit)} {p : WS × Unit → X (WS × Unit)} (h : Nk c) (hp : ∀ y, N64 y.1.n → Nk (p y)) : Nk (thenX c p) := fun z hz => by
  obtain ⟨y, h1, h2⟩ := then_ok hz
  exact hp y (h y h1) z h2
theorem next_nk (o size : Nat) (x : WS × Unit) (hx : N64 x.1.n) : Nk (nextX (reading b rv bs) o size x) := fun y hy => by
  unfold nextX at hy
  split at hy
  · rename_i v st he
    have hv : N64 v := by
      have he : (match rd bs x.1.at'.toNat size with | .ok v => .ok (v, ()) | .error z => .error z : X (Int × Unit)) = .ok (v, st) := he
      unfold rd at he
      split at he
      · rename_i q hq
        split at hq
        · have e1 := Except.ok.inj hq
          have e2 := (Prod.mk.inj (Except.ok.inj he)).1
          rw [← e2, ← e1]
          exact n64_wrap _
        · cases hq
      · cases he
    have e := (Except.ok.inj hy).symm
    rw [e]
    show N64 (x.1.set o v).n
    unfold WS.set
    repeat' split
    all_goals first | exact hx | exact hv
  · cases hy
theorem ask_nk (o size : Nat) (c : WS → Bool) (er : Int) (x : WS × Unit) (hx : N64 x.1.n) : Nk (askX (reading b rv bs) o size c er x) := fun y hy => next_nk o size x hx y (ask_next hy).1
theorem parts_nk (op : Nat) {c : X (WS × Unit)} (hc : Nk c) : Nk (partsX (reading b rv bs) op c) := by
  have hv : ∀ {c : X (WS × Unit)} (o : Nat), Nk c → Nk (thenX c (varPart (reading b rv bs) o)) := fun o h => h.then (fun y hy => ask_nk o 1 _ 13 y hy)
  have ha : ∀ {c : X (WS × Unit)} (o size : Nat) (q : WS → Bool) (er : Int), Nk c → Nk (thenX c (askX (reading b rv bs) o size q er)) := fun o size q er h => h.then (fun y hy => ask_nk o size q er y hy)
  match op with
  | 1 => exact (hv 155 hc).then (fun y hy => next_nk 158 8 y hy)
  | 2 => exact hv 156 (hv 155 hc)
  | 3 => exact hv 157 (hv 156 (hv 155 hc))
  | 4 => exact hv 157 (hv 156 (hv 155 hc))
  | 5 => exact hv 156 (hv 155 hc)
  | 6 => exact ha _ _ _ _ (hv 155 hc)
  | 7 => exact ha _ _ _ _ (hv 156 (hv 155 hc))
  | 8 => exact ha _ _ _ _ (hv 156 (hv 155 hc))
  | 9 => exact ha _ _ _ _ (hv 155 hc)
  | 10 => exact ha _ _ _ _ (hv 156 hc)
  | 12 => exact hv 156 hc
  | 13 => exact ha _ _ _ _ hc
  | 14 => exact ha _ _ _ _ (hv 156 hc)
  | 16 => exact hv 155 hc
  | 17 => exact hv 157 (hv 156 (hv 155 hc))
  | 0 => exact hc
  | 11 => exact hc
  | 15 => exact hc
  | m + 18 => exact hc
theorem front_nk {ends makes nb : Bool} {i : Nat} {p : Int} {x : WS × Unit} (hx : N64 x.1.n) : Nk (frontOk (reading b rv bs) ends makes nb i p x) := fun y hy => by
  unfold frontOk at hy
  split at hy
  · cases hy
  · split at hy
    · cases hy
    · split at hy
      · unfold locX at hy
        split at hy
        · rw [← Except.ok.inj hy]; exact hx
        · cases hy
      · rw [← Except.ok.inj hy]; exact hx
theorem list_len {n : Nat} {x y : WS × Unit} {vs : List Int} (h : listX (reading b rv bs) n [] x = .ok (vs, y)) : vs.length = n := by
  unfold listX at h
  split at h
  · cases h
  · split at h
    · rw [varsX_length h]
      split
      · rename_i e; exact e
      · simp
    · cases h
def Fit (a : AI) : Prop := a.args.length ≤ 8 ∧ a.rets.length ≤ 8 ∧ N64 a.n
theorem instr_fit {heads : List (Nat × Nat)} {fR i : Nat} (hfR : fR ≤ 4) (hhd : ∀ k : Nat, (heads.getD k (0, 0)).1 ≤ 8 ∧ (heads.getD k (0, 0)).2 ≤ 4) {x y : WS × Unit} {ll : List Int × List Int} (hx : N64 x.1.n) (h : instrX (reading b rv bs) heads fR i x = .ok (ll, y)) : Fit (aiOf ll y.1) := by
  obtain ⟨y1, h1, h⟩ := then_ok h
  have n1 := next_nk 154 1 x hx y1 h1
  split at h
  · split at h
    · obtain ⟨y2, h2, h⟩ := then_ok h
      have n2 := front_nk n1 y2 h2
      obtain ⟨q, h3, h⟩ := then_ok h
      obtain ⟨vs, y3⟩ := q
      have e := Prod.mk.inj (Except.ok.inj h)
      obtain ⟨e1, e2⟩ := e
      have hl := list_len h3
      have hn := listX_n h3
      subst e1
      have e2 : y3 = y := e2
      subst e2
      exact ⟨by show vs.length ≤ 8; omega, by show ([] : List Int).length ≤ 8; simp, by show N64 y3.1.n; rw [hn]; exact n2⟩
    · split at h
      · obtain ⟨y2, h2, h⟩ := then_ok h
        have n2 : N64 y2.1.n := (Nk.then (c := frontOk (reading b rv bs) false false true i x.1.at' y1) (front_nk n1) (fun y hy => ask_nk _ _ _ _ y hy)) y2 h2
        obtain ⟨q, h3, h⟩ := then_ok h
        obtain ⟨vs, y3⟩ := q
        obtain ⟨q', h4, h⟩ := then_ok h
        obtain ⟨vs', y4⟩ := q'
        obtain ⟨e1, e2⟩ := Prod.mk.inj (Except.ok.inj h)
        have hl := list_len h3
        have hl' := list_len h4
        have hn := listX_n h3
        have hn' := listX_n h4
        have hb := hhd y2.1.n.toNat
        subst e1
        have e2 : y4 = y := e2
        subst e2
        exact ⟨by show vs.length ≤ 8; omega, by show vs'.length ≤ 8; omega, by show N64 y4.1.n; rw [hn', hn]; exact n2⟩
      · obtain ⟨y2, h2, h⟩ := then_ok h
        have n2 := parts_nk _ (front_nk n1) y2 h2
        obtain ⟨e1, e2⟩ := Prod.mk.inj (Except.ok.inj h)
        subst e1
        have e2 : y2 = y := e2
        subst e2
        exact ⟨by show ([] : List Int).length ≤ 8; simp, by show ([] : List Int).length ≤ 8; simp, n2⟩
  · cases h
theorem code_fit {heads : List (Nat × Nat)} {fR len : Nat} (hfR : fR ≤ 4) (hhd : ∀ k : Nat, (heads.getD k (0, 0)).1 ≤ 8 ∧ (heads.getD k (0, 0)).2 ≤ 4) : ∀ {m : Nat} {x y : WS × Unit} {l : List AI}, codeX (reading b rv bs) heads fR len m x = .ok (l, y) → ∀ a ∈ l, Fit a
  | 0, x, y, l, h => by
    simp only [codeX, Except.ok.injEq, Prod.mk.injEq] at h
    rw [← (Prod.mk.inj h).1]
    simp
  | m + 1, x, y, l, h => by
    simp only [codeX] at h
    split at h
    · cases h
    · rename_i ll y1 h1
      split at h
      · cases h
      · rename_i l' y' h2
        have e := (Prod.mk.inj (Except.ok.inj h)).1
        subst e
        intro a ha
        rcases List.mem_cons.1 ha with rfl | ha
        · exact instr_fit hfR hhd (by show N64 0; unfold N64; omega) h1
        · exact code_fit hfR hhd h2 a ha
theorem funcs_fit {heads : List (Nat × Nat)} (hhd : ∀ k : Nat, (heads.getD k (0, 0)).1 ≤ 8 ∧ (heads.getD k (0, 0)).2 ≤ 4) : ∀ {l : List HD} {x y : WS × Unit} {ls : List (List AI)}, (∀ h ∈ l, HeadFine h) → funcsX (reading b rv bs) heads l x = .ok (ls, y) → ls.map List.length = l.map (fun h => h.len.toNat) ∧ ∀ c ∈ ls, ∀ a ∈ c, Fit a
  | [], x, y, ls, _, h => by
    simp only [funcsX, Except.ok.injEq, Prod.mk.injEq] at h
    rw [← (Prod.mk.inj h).1]
    exact ⟨rfl, by simp⟩
  | h0 :: r, x, y, ls, hf, h => by
    simp only [funcsX] at h
    split at h
    · cases h
    · rename_i l' y1 h1
      split at h
      · cases h
      · rename_i ls' y' h2
        have e := (Prod.mk.inj (Except.ok.inj h)).1
        subst e
        have hh := hf h0 (by simp)
        obtain ⟨i1, i2⟩ := funcs_fit hhd (fun h' hm => hf h' (by simp [hm])) h2
        refine ⟨?_, ?_⟩
        · simp only [List.map_cons, i1, codeX_length h1]
        · intro c hc
          rcases List.mem_cons.1 hc with rfl | hc
          · exact code_fit (by have := hh.2.2.1; omega) hhd h1
          · exact i2 c hc
end
theorem through_fit {b : Nat} {rv fv : Value} {bs : List UInt8} {s : WS} {G : Int} {done : List HD} {ls : List (List AI)} (hd : ∀ h ∈ done, HeadFine h) (h : throughX b rv bs s fv = .ok (G, done, ls)) : ls.map List.length = done.map (fun h => h.len.toNat) ∧ ∀ c ∈ ls, ∀ a ∈ c, Fit a := by
  unfold throughX at h
  split at h
  · split at h
    · cases h
    · split at h
      · cases h
      · split at h
        · cases h
        · rename_i done' y h4
          split at h
          · cases h
          · rename_i fs z h5
            split at h
            · have e := Except.ok.inj h
              obtain ⟨e1, e2⟩ := Prod.mk.inj e
              obtain ⟨e2, e3⟩ := Prod.mk.inj e2
              subst e2 e3
              refine funcs_fit (fun k => ?_) hd h5
              unfold headsOf
              rw [List.getD_eq_getElem?_getD, List.getElem?_map]
              cases hk : done'[k]? with
              | none => simp
              | some q =>
                have := hd q (List.mem_of_getElem? hk)
                simp only [Option.map_some, Option.getD_some]
                have h2 := this.2.1
                have h3 := this.2.2.1
                omega
            · cases h
  · cases h
theorem NewL.ia {w0 w : World} {v : Value} {l : List Int} (h : NewL w0 w v l) : IA w v l := by
  rcases h with ⟨rfl, rfl⟩ | ⟨g, -, rfl, hb⟩
  · exact ⟨none, 0, rfl, fun h => absurd rfl h⟩
  · refine ⟨_, _, rfl, fun _ => ⟨g, 0, rfl, heap_lt hb, fun j hj => ?_⟩⟩
    rw [cell_of hb]
    simp [hj]
theorem CodeCells.at {w0 w : World} : ∀ {l : List AI} {cs : List Value}, CodeCells w0 w l cs → ∀ j (hj : j < l.length), ∃ av rv, cs[j * 7]? = some (vI l[j].op) ∧ cs[j * 7 + 1]? = some (vI l[j].r) ∧ cs[j * 7 + 2]? = some (vI l[j].s) ∧ cs[j * 7 + 3]? = some (vI l[j].t) ∧ cs[j * 7 + 4]? = some (vI l[j].n) ∧ cs[j * 7 + 5]? = some av ∧ cs[j * 7 + 6]? = some rv ∧ IA w av l[j].args ∧ IA w rv l[j].rets
  | a :: l, cs, h, 0, _ => by
    obtain ⟨av, rv, rest, rfl, h1, h2, -⟩ := h
    exact ⟨av, rv, rfl, rfl, rfl, rfl, rfl, rfl, rfl, h1.ia, h2.ia⟩
  | a :: l, cs, h, j + 1, hj => by
    obtain ⟨av, rv, rest, rfl, h1, h2, h3⟩ := h
    obtain ⟨av', rv', k0, k1, k2, k3, k4, k5, k6, k7, k8⟩ := CodeCells.at h3 j (by simpa using hj)
    have sh : ∀ o, ([vI a.op, vI a.r, vI a.s, vI a.t, vI a.n, av, rv] ++ rest)[(j + 1) * 7 + o]? = rest[j * 7 + o]? := fun o => by
      rw [List.getElem?_append_right (by simp; omega)]
      congr 1
      simp
      omega
    exact ⟨av', rv', (sh 0).trans k0, (sh 1).trans k1, (sh 2).trans k2, (sh 3).trans k3, (sh 4).trans k4, (sh 5).trans k5, (sh 6).trans k6, k7, k8⟩
theorem CodesAt.at {w0 w : World} : ∀ {ls : List (List AI)} {cs : List Value}, CodesAt w0 w ls cs → ∀ j (hj : j < ls.length), ∃ cv, cs[j]? = some cv ∧ CA w cv (ls[j].map pi)
  | l :: ls, c :: cs, h, 0, _ => by
    obtain ⟨⟨gc, cells, -, e, hb, hcc⟩, -⟩ := h
    refine ⟨c, rfl, ?_⟩
    subst e
    refine ⟨some ⟨gc, 0, none⟩, l.length, by simp, fun _ => ⟨gc, 0, rfl, heap_lt hb, fun j hj => ?_⟩⟩
    have hj' : j < l.length := by simpa using hj
    obtain ⟨av, rv, k0, k1, k2, k3, k4, k5, k6, k7, k8⟩ := hcc.at j hj'
    have g : ∀ o, w.cell? ⟨gc, o, none⟩ = cells[o]? := fun o => by rw [cell_of hb]; simp
    have e1 : ((l.map pi)[j]'hj) = pi l[j] := by simp
    simp only [List.getElem_cons_zero, e1, Nat.zero_add, g]
    exact ⟨av, rv, k0, k1, k2, k3, k4, k5, k6, k7, k8⟩
  | l :: ls, c :: cs, h, j + 1, hj => by
    obtain ⟨cv, h1, h2⟩ := CodesAt.at h.2 j (by simpa using hj)
    exact ⟨cv, h1, h2⟩
  | _ :: _, [], h, _, _ => h.elim
def pfs (done : List HD) (ls : List (List AI)) : List PF := List.zipWith (fun h l => (⟨h.P, h.R, h.V, l.map pi⟩ : PF)) done ls
theorem pfs_at (done : List HD) (ls : List (List AI)) (j : Nat) (h : j < (pfs done ls).length) (h1 : j < done.length) (h2 : j < ls.length) : (pfs done ls)[j] = ⟨done[j].P, done[j].R, done[j].V, ls[j].map pi⟩ := List.getElem_zipWith ..
theorem LaidP.fa {w0 w : World} {v : Value} {G : Int} {done : List HD} {ls : List (List AI)} (h : LaidP w0 w v G done ls) : ∃ fv, v = .agg #[vI G, fv] ∧ FA w fv (pfs done ls) ∧ ls.length = done.length ∧ done.length ≤ 65535 ∧ ∀ h ∈ done, HeadFine h := by
  obtain ⟨g, cap, cs, tl, h1, h2, h3, h4, h5, h6, h7, h8, h9⟩ := h
  have hlen : (pfs done ls).length = done.length := by unfold pfs; rw [List.length_zipWith]; omega
  refine ⟨_, h2, ⟨_, cap, by rw [hlen], fun _ => ⟨g, 0, rfl, heap_lt h7, fun j hj => ?_⟩⟩, h4, h6, h9⟩
  rw [hlen] at hj
  obtain ⟨cv, k1, k2⟩ := h8.at j (by omega)
  obtain ⟨f0, f1, f2, f3⟩ := funcCells_at done cs j hj h3
  have hfl := funcCells_length done cs h3
  have e : ((pfs done ls)[j]'(by omega)) = ⟨done[j].P, done[j].R, done[j].V, (ls[j]'(by omega)).map pi⟩ := pfs_at _ _ _ _ hj (by omega)
  have gg : ∀ o, o < 4 → w.cell? ⟨g, 0 + j * 4 + o, none⟩ = (funcCells done cs)[j * 4 + o]? := fun o ho => by
    rw [cell_of h7, Nat.zero_add]
    simp only [List.getElem?_toArray]
    exact List.getElem?_append_left (by omega)
  refine ⟨cv, ?_, ?_, ?_, ?_, ?_⟩
  · rw [e]; exact (gg 0 (by omega)).trans f0
  · rw [e]; exact (gg 1 (by omega)).trans f1
  · rw [e]; exact (gg 2 (by omega)).trans f2
  · exact ((gg 3 (by omega)).trans f3).trans k1
  · rw [e]; exact k2
theorem decX_few {bs : List UInt8} {q : Int × List HD × List (List AI)} (hL : bs.length ≤ 1000000000000000) (h : decX bs = .ok q) : bs.length ≤ 1000000000000 := by
  unfold decX at h
  rw [throughX_body] at h
  split at h
  · have hB := body_bd (b := 0) (rv := nilS) hL (WS.start nilS) rfl nilS
    obtain ⟨r, h1, h2⟩ := then_ok h
    rw [h1] at hB
    split at h2
    · rename_i he
      obtain ⟨-, -, k3⟩ := hB
      have : (st1 r).at' = r.2.1.at' := rfl
      omega
    · cases h2
  · cases h
theorem dec_fs {bs : List UInt8} {G : Int} {done : List HD} {ls : List (List AI)} (hL : bs.length ≤ 1000000000000000) (h : decX bs = .ok (G, done, ls)) (hl : ls.length = done.length) (hn : done.length ≤ 65535) (hd' : ∀ h ∈ done, HeadFine h) :
    (pfs done ls).map hd = done ∧ (pfs done ls).map PF.code = ls.map (List.map pi) ∧ FineP (pfs done ls) ∧ (∀ f ∈ pfs done ls, ∀ c ∈ f.code, In64n c) ∧ bs.length ≤ 1000000000000 := by
  have hx : throughX 0 nilS bs (WS.start nilS) nilS = .ok (G, done, ls) := h
  obtain ⟨e1, e2⟩ := through_fit hd' hx
  have hlen : (pfs done ls).length = done.length := by unfold pfs; rw [List.length_zipWith]; omega
  have hat : ∀ j (hj : j < done.length), ((pfs done ls)[j]'(by omega)) = ⟨done[j].P, done[j].R, done[j].V, (ls[j]'(by omega)).map pi⟩ := fun j hj => pfs_at _ _ _ _ hj (by omega)
  have hll : ∀ j (hj : j < done.length), (ls[j]'(by omega)).length = done[j].len.toNat := fun j hj => by
    have := congrArg (fun l => l[j]?) e1
    simpa [hj, show j < ls.length by omega] using this
  refine ⟨?_, ?_, ⟨?_, ?_⟩, ?_, decX_few hL h⟩
  · apply List.ext_getElem
    · simp [hlen]
    · intro j h1 h2
      rw [List.getElem_map, hat j h2]
      unfold hd
      have k1 := hll j h2
      have k2 := (hd' done[j] (List.getElem_mem h2)).2.2.2
      have k3 : (((ls[j]'(by omega)).map pi).length : Int) = done[j].len := by rw [List.length_map, k1]; omega
      simp only [k3]
  · apply List.ext_getElem
    · simp [hlen, hl]
    · intro j h1 h2
      have hj : j < done.length := by simpa [hl] using h2
      rw [List.getElem_map, hat j hj, List.getElem_map]
  · rw [hlen]
    omega
  · intro f hf
    obtain ⟨j, hj, rfl⟩ := List.getElem_of_mem hf
    have hj : j < done.length := by omega
    rw [hat j hj]
    refine ⟨?_, ?_⟩
    · have k1 := hll j hj
      have k2 := (hd' done[j] (List.getElem_mem hj)).2.2.2
      show ((ls[j]'(by omega)).map pi).length ≤ _
      rw [List.length_map, k1]; omega
    · intro c hc
      obtain ⟨a, ha, rfl⟩ := List.mem_map.1 hc
      obtain ⟨q1, q2, -⟩ := e2 _ (List.getElem_mem (by omega)) a ha
      exact ⟨by show a.args.length ≤ _; omega, by show a.rets.length ≤ _; omega⟩
  · intro f hf c hc
    obtain ⟨j, hj, rfl⟩ := List.getElem_of_mem hf
    have hj : j < done.length := by omega
    rw [hat j hj] at hc
    obtain ⟨a, ha, rfl⟩ := List.mem_map.1 hc
    exact (e2 _ (List.getElem_mem (by omega)) a ha).2.2
set_option maxRecDepth 100000
set_option maxHeartbeats 1000000
theorem eqBytes_same (v1 v2 : Value) (bs : List UInt8) (w : World) (h1 : BytesIn w v1 bs) (h2 : BytesIn w v2 bs) :
    Calls Tryd.prog 16 #[v1, v2] w fun e w' => e = .returned (.bool true) ∧ Fr (fun _ => False) w w' := by
  obtain ⟨hL, a1, c1, rfl, hc1, g1⟩ := h1
  obtain ⟨-, a2, c2, rfl, hc2, g2⟩ := h2
  have H1 : Hd _ := g1
  have H2 : Hd _ := g2
  clear g1 g2
  obtain ⟨n, hn⟩ : ∃ n, n = bs.length := ⟨_, rfl⟩
  have HN : Hd (n = bs.length) := hn
  rw [← hn] at hL hc1 hc2 ⊢
  clear hn
  go_enter Tryd.func16, Tryd.ntmps16
  go_wp2_with fail
  go_loopw [5] (fun v wr => ∃ (k : Nat), v = .int .i64 k ∧ k ≤ n ∧ Hd (Fr (fun _ => False) w wr)) (fun v _ => match v with | .int _ q => n - q.toNat | _ => 0)
  case atStart => exact ⟨0, rfl, Nat.zero_le _, Fr.refl _ _⟩
  case round =>
    obtain ⟨k, rfl, hk, HF⟩ := hrel
    by_cases hltn : k < n
    · have hlt : k < bs.length := by rw [← HN.out]; exact hltn
      obtain ⟨k1, o1, rfl, hk1, g1⟩ := H1.out (by intro e; simp [e] at hlt)
      obtain ⟨k2, o2, rfl, hk2, g2⟩ := H2.out (by intro e; simp [e] at hlt)
      have q1 := (HF.out.cell (o := o1 + k) hk1 (fun h => h)).trans (g1 k hlt)
      have q2 := (HF.out.cell (o := o2 + k) hk2 (fun h => h)).trans (g2 k hlt)
      generalize bs[k].toNat = x at *
      have hk0 : (0 : Int) ≤ k := by omega
      have hk3 : (k : Int) < n := by omega
      clear g1 g2 hlt
      go_wp2_with fail
      refine wp_region_still_tail 8 mixed (by kernel_rfl) ?_
      simp only [List.take_succ_cons, List.take_zero, List.drop_succ_cons, List.drop_zero]
      repeat still_step
      refine wpStill_nil ?_
      go_wp2_with fail
      exact ⟨⟨k + 1, by simp, by omega, HF.out.drew⟩, by simp; omega⟩
    · have hkn : k = n := by omega
      subst hkn
      go_wp2_with fail
      go_ret
      exact ⟨rfl, HF.out⟩
end Go.Proofs.YtingenonbkencaaDoor
