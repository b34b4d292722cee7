import Derived.Test.YtngbakjalmgciaaGreatQQnJ
namespace Go.Proofs.YtngbakjalmgciaaGreat
open Go.RowKit (wrap32 wrap64)
set_option linter.unusedVariables false
set_option linter.unusedSimpArgs false

/-! ### clients' calls with marks behind them -/
def mkO1 (k : Nat) : List Value := [vI (77 + (k : Int)), vI 0, .string ⟨#[]⟩]
def mkO (q : Nat) : List Value := (List.range q).flatMap mkO1
theorem mkO_succ (q : Nat) : mkO (q + 1) = mkO q ++ mkO1 q := by unfold mkO; rw [List.range_succ, List.flatMap_append]; simp
theorem mkO_rows (q : Nat) : mkO q = ((List.range q).map mkO1).flatten := by unfold mkO; rw [List.flatMap_def]
/-- A list with its marks; the first q so far. -/
def RmL (w : World) (B : Nat) (v : Value) (ops : List OpT) : Prop :=
  ∃ g cap, v = .slice (some ⟨g, 0, none⟩) ops.length cap ∧ w.ownsRow B 31 3 (.slice (some ⟨g, 0, none⟩) (ops.length + 64) cap) (ops.length + 64) (ops.flatMap opC ++ mkO 64)
theorem RmL.st {w w' : World} {B : Nat} {v : Value} {ops : List OpT} (h : RmL w B v ops) {S : Nat → Prop} (f : Fr S w w') (hS : ∀ j, v.ownBlock = some j → ¬ S j) : RmL w' B v ops := by
  obtain ⟨g, cap, e, ho⟩ := h
  exact ⟨g, cap, e, ownsRow_fr ho f (fun j hj => hS j (by rw [e]; exact hj))⟩
theorem RmL.own {w : World} {B : Nat} {v : Value} {ops : List OpT} (h : RmL w B v ops) {j : Nat} (hj : v.ownBlock = some j) : B ≤ j ∧ j < w.heap.size := by
  obtain ⟨g, cap, e, ho⟩ := h
  rw [e] at hj
  exact World.ownsRow.lt ho j hj
/-- Its cells: those of the calls, then the marks. -/
theorem RmL.cells {w : World} {B : Nat} {v : Value} {ops : List OpT} (h : RmL w B v ops) : ∃ g cap, v = .slice (some ⟨g, 0, none⟩) ops.length cap ∧ ops.length + 64 ≤ cap ∧ (∃ cur, w.heap[g]? = some (.cells cur 31) ∧ cur.size = cap * 3) ∧ (∀ i (hi : i < ops.length), w.cell? ⟨g, i * 3, none⟩ = some (vI ops[i].1) ∧ w.cell? ⟨g, i * 3 + 1, none⟩ = some (vI ops[i].2.1) ∧ w.cell? ⟨g, i * 3 + 2, none⟩ = some (.string ops[i].2.2)) ∧ ∀ k, k < 64 → w.cell? ⟨g, (ops.length + k) * 3, none⟩ = some (vI (77 + (k : Int))) := by
  obtain ⟨g, cap, e, ho⟩ := h
  rcases ho.2 with ⟨e3, -⟩ | ⟨g3, cap3, cur, e3, b1, b2, b3, b4, b5, b6⟩
  · cases e3
  · injection e3 with e5 e6 e7
    injection e5 with e5
    injection e5 with e5 _ _
    subst e5 e7
    have hlen : ∀ r ∈ ops.map opC ++ (List.range 64).map mkO1, r.length = 3 := fun r hr => by
      rcases List.mem_append.1 hr with e | e
      · obtain ⟨o, -, rfl⟩ := List.mem_map.1 e; rfl
      · obtain ⟨o, -, rfl⟩ := List.mem_map.1 e; rfl
    have hfl : ops.flatMap opC ++ mkO 64 = (ops.map opC ++ (List.range 64).map mkO1).flatten := by rw [List.flatten_append, mkO_rows, List.flatMap_def]
    have hrl : (ops.map opC ++ (List.range 64).map mkO1).length = ops.length + 64 := by simp
    have hc : ∀ i j (hi : i < (ops.map opC ++ (List.range 64).map mkO1).length), j < 3 → w.cell? ⟨g, i * 3 + j, none⟩ = ((ops.map opC ++ (List.range 64).map mkO1)[i])[j]? := fun i j hi hj => by
      rw [cell_of b2]
      have e1 : cur[i * 3 + j]? = (ops.flatMap opC ++ mkO 64)[i * 3 + j]? := by rw [← b6, List.getElem?_take, if_pos (by omega), Array.getElem?_toList]
      rw [e1, hfl]
      exact flat_get hlen i j hi hj
    refine ⟨g, cap, e, b3, ⟨cur, b2, b5⟩, fun i hi => ?_, fun k hk => ?_⟩
    · have hx : (ops.map opC ++ (List.range 64).map mkO1)[i]'(by omega) = opC ops[i] := by rw [List.getElem_append_left (by simpa using hi)]; simp
      have h0 := hc i 0 (by omega) (by omega)
      have h1 := hc i 1 (by omega) (by omega)
      have h2 := hc i 2 (by omega) (by omega)
      rw [hx] at h0 h1 h2
      exact ⟨h0, h1, h2⟩
    · have hx : (ops.map opC ++ (List.range 64).map mkO1)[ops.length + k]'(by omega) = mkO1 k := by rw [List.getElem_append_right (by simp)]; simp
      have h0 := hc (ops.length + k) 0 (by omega) (by omega)
      rw [hx] at h0
      exact h0
theorem RmL.ops {w : World} {B : Nat} {v : Value} {ops : List OpT} (h : RmL w B v ops) : OpsAt w w.heap.size v ops := by
  obtain ⟨g, cap, e, hcap, ⟨cur, hb, -⟩, hc, -⟩ := h.cells
  refine ⟨_, cap, e, by omega, fun _ => ⟨g, 0, rfl, heap_lt hb, fun i hi => ?_⟩⟩
  rw [Nat.zero_add]
  exact hc i hi
/-- The elements of roomOps' row. -/
def Qr (B : Nat) (cl : List (List OpT)) (i : Nat) (w : World) (u : Value) : Prop :=
  (i < cl.length ∧ RmL w B u (cl.getD i [])) ∨ (cl.length ≤ i ∧ ∃ m, u = .slice (some ⟨m, 0, none⟩) 1 1 ∧ m < w.heap.size ∧ w.cell? ⟨m, 0, none⟩ = some (vI (-77 - ((i - cl.length : Nat) : Int))))
theorem qr_stays (B : Nat) (cl : List (List OpT)) : Stays (Qr B cl) := by
  refine ⟨fun {i w w' u S} h f hS => ?_, fun {i w u j} h hj => ?_⟩
  · rcases h with ⟨h1, h2⟩ | ⟨h1, m, e, h2, h3⟩
    · exact Or.inl ⟨h1, h2.st f hS⟩
    · exact Or.inr ⟨h1, m, e, Nat.lt_of_lt_of_le h2 f.size, (f.cell h2 (hS m (by rw [e]; rfl))).trans h3⟩
  · rcases h with ⟨h1, h2⟩ | ⟨h1, m, e, h2, h3⟩
    · exact (h2.own hj).2
    · rw [e] at hj
      have : m = j := Option.some.inj hj
      omega
/-- What roomOps makes. -/
def RmO (w : World) (B : Nat) (v : Value) (cl : List (List OpT)) : Prop :=
  ∃ G cap us, v = .slice (some ⟨G, 0, none⟩) cl.length cap ∧ us.length = cl.length + 64 ∧ LoL (Qr B cl) w B (.slice (some ⟨G, 0, none⟩) (cl.length + 64) cap) us
set_option maxRecDepth 100000 in
set_option maxHeartbeats 4000000 in
theorem roomOps_any (v : Value) (cl : List (List OpT)) (w : World) (h : ClsAt w w.heap.size v cl) (hn : cl.length ≤ 2147483647) (hl : ∀ l ∈ cl, l.length ≤ 2147483647) :
    Calls Tryz.prog 6 #[v] w fun e w' => ∃ v', e = .returned v' ∧ RmO w' w.heap.size v' cl ∧ Fr (fun _ => False) w w' := by
  obtain ⟨ad, cap, rfl, hx⟩ := h.look
  have HX : Hd (∀ k (hk : k < cl.length), ∃ g o ua uc, ad = some ⟨g, o, none⟩ ∧ ∀ W, Fr (fun _ => False) w W → W.cell? ⟨g, o + k, none⟩ = some (.slice ua cl[k].length uc) ∧ OpsAt W W.heap.size (.slice ua cl[k].length uc) cl[k]) := hx
  have HL : Hd (∀ l ∈ cl, l.length ≤ 2147483647) := hl
  obtain ⟨n, en⟩ : ∃ n, n = cl.length := ⟨_, rfl⟩
  have EN : Hd (n = cl.length) := en
  rw [← en] at hn ⊢
  clear hx en h hl
  go_enter Tryz.func6, Tryz.ntmps6
  go_wp2_with fail
  go_loopw [3, 4, 5, 6] (fun v3 v4 _ _ wx => ∃ k : Nat, v4 = .int .i64 k ∧ k ≤ n ∧ Hd (∃ us, us.length = k ∧ LoL (Qr w.heap.size cl) wx w.heap.size v3 us ∧ Fr (fun _ => False) w wx)) (fun _ v _ _ _ => match v with | .int _ q => n - q.toNat | _ => 0)
  case atStart => exact ⟨0, rfl, by omega, [], rfl, LoL.nil _ _ _, Fr.refl _ _⟩
  case round =>
    obtain ⟨k, rfl, hk, HO⟩ := hrel
    by_cases hlt : k < n
    · have d1 : decide ((k : Int) < (n : Int)) = true := by simp; omega
      have k0 : (0 : Int) ≤ k := by omega
      have k1 : (k : Int) < n := by omega
      have hkl : k < cl.length := by rw [← EN.out]; exact hlt
      obtain ⟨g, o, ua, uc, rfl, hc⟩ := HX.out k hkl
      obtain ⟨us, hul, hL, hF⟩ := HO.out
      obtain ⟨cu, ho⟩ := hc wr hF
      have hll := HL.out _ (List.getElem_mem hkl)
      have HC := copyOps_any _ cl[k] wr ho hll
      have HGD : Hd (cl.getD us.length [] = cl[k] ∧ us.length < cl.length) := ⟨by rw [hul]; exact getD_at hkl, by omega⟩
      have HLL : Hd (LoL (Qr w.heap.size cl) wr w.heap.size u3 us ∧ Fr (fun _ => False) w wr ∧ us.length = k) := ⟨hL, hF, hul⟩
      have HCU : Hd (∀ W, Fr (fun _ => False) wr W → W.cell? ⟨g, o + k, none⟩ = some (.slice ua cl[k].length uc)) := fun W f => (hc W (hF.trans f)).1
      obtain ⟨l, el⟩ : ∃ l, l = cl[k] := ⟨_, rfl⟩
      rw [← el] at HC HGD HCU cu hll
      obtain ⟨m, em⟩ : ∃ m, m = l.length := ⟨_, rfl⟩
      have EM : Hd (m = l.length) := em
      rw [← el, ← em] at ho
      rw [← em] at HC HCU cu hll
      obtain ⟨w0, ew0⟩ : ∃ w0, w0 = wr := ⟨_, rfl⟩
      clear HO hc hL hF hul hkl ho el em
      go_wp2_with fail
      refine HC.mono ?_
      rintro _ w1 ⟨v1, rfl, ho1, hf1⟩
      have H1 : Hd (w1.ownsRow w0.heap.size 31 3 v1 (m + 0) (l.flatMap opC ++ mkO 0) ∧ Fr (fun _ => False) w0 w1) := by
        rw [ew0, EM.out]
        unfold OpsOwn at ho1
        exact ⟨by simpa [mkO] using ho1, hf1⟩
      have EW0 : Hd (w0 = wr) := ew0
      clear ho1 hf1 HC cu ew0
      go_wp2_with fail
      go_loopw [5, 6] (fun v5 v6 wx => ∃ q : Nat, v6 = .int .i64 q ∧ q ≤ 64 ∧ Hd (wx.ownsRow w0.heap.size 31 3 v5 (m + q) (l.flatMap opC ++ mkO q) ∧ Fr (fun _ => False) w0 wx)) (fun _ v _ => match v with | .int _ q => 64 - q.toNat | _ => 0)
      case atStart => exact ⟨0, rfl, by omega, H1.out⟩
      case round =>
        clear H1
        obtain ⟨q, rfl, hq, HO⟩ := hrel
        by_cases hq64 : q < 64
        · have dq : decide ((q : Int) < 64) = true := by simp; omega
          have q0 : (0 : Int) ≤ q := by omega
          have q1 : (q : Int) < 64 := by omega
          obtain ⟨g6, cap6, w2, hr, hown, hf, -⟩ := app1 underOps infoOp rfl (by omega) HO.out.1 #[vI (77 + (q : Int)), vI 0, .string ⟨#[]⟩] rfl (by intro u hu; simp at hu; rcases hu with rfl | rfl | rfl <;> rfl) (by unfold maxLen; omega) (by omega) HO.out.2.size
          have HA : Hd ((Builtin.append_ #[32, 32] 32 #[u5, .slice (some ⟨wr.heap.size, 0, none⟩) 1 1]).run Tryz.prog (wr.alloc (.cells #[vI (77 + (q : Int)), vI 0, .string ⟨#[]⟩] 31)) = .ok (.slice (some ⟨g6, 0, none⟩) (m + q + 1) cap6) w2) := hr
          have HE : Hd (w2.ownsRow w0.heap.size 31 3 (.slice (some ⟨g6, 0, none⟩) (m + q + 1) cap6) (m + (q + 1)) (l.flatMap opC ++ mkO (q + 1)) ∧ Fr (fun _ => False) w0 w2) := by
            refine ⟨?_, HO.out.2.under hf (fun j hj => (World.ownsRow.lt HO.out.1 j hj).1)⟩
            rw [mkO_succ, ← List.append_assoc]; exact hown
          clear hr hown hf HO
          go_wp2_with (at_builtin; refine wpList_append_run rfl (.tmp 23) (.tmp 27) 32 rfl _ _ _ rfl rfl HA.out ?_)
          exact ⟨⟨q + 1, by simp, by omega, HE.out⟩, by simp; omega⟩
        · have dq : decide ((q : Int) < 64) = false := by simp; omega
          have eq : q = 64 := by omega
          have HO2 : Hd (wr.ownsRow w0.heap.size 31 3 u5 (m + 64) (l.flatMap opC ++ mkO 64) ∧ Fr (fun _ => False) w0 wr) := by rw [← eq]; exact HO.out
          obtain ⟨g6, cap6, e6, hcap⟩ : ∃ g6 cap6, u5 = .slice (some ⟨g6, 0, none⟩) (m + 64) cap6 ∧ m + 64 ≤ cap6 := by
            rcases HO2.out.1.2 with ⟨e3, e4⟩ | ⟨g3, cap3, cur, e3, b1, b2, b3, -⟩
            · omega
            · exact ⟨g3, cap3, e3, b3⟩
          have hc1 : m ≤ cap6 := by omega
          subst e6
          have HLL2 : Hd (LoL (Qr w.heap.size cl) w0 w.heap.size u3 us ∧ Fr (fun _ => False) w w0 ∧ us.length = k) := by rw [EW0.out]; exact HLL.out
          obtain ⟨hL, hF, hul⟩ := HLL2.out
          have hcu := HCU.out wr (by rw [← EW0.out]; exact HO2.out.2)
          have hrl : RmL wr w.heap.size (.slice (some ⟨g6, 0, none⟩) m cap6) (cl.getD us.length []) := by
            rw [HGD.out.1]
            refine ⟨g6, cap6, by rw [EM.out], ?_⟩
            have := World.ownsRow.mono HO2.out.1 hF.size
            rw [EM.out] at this
            exact this
          obtain ⟨g7, cap7, w3, hr, hL2, hf2⟩ := hL.more (qr_stays w.heap.size cl) HO2.out.2 (ua := some ⟨g6, 0, none⟩) (un := m) (uc := cap6) (Or.inl ⟨HGD.out.2, hrl⟩) (fun j hj => (World.ownsRow.lt HO2.out.1 j hj).1) hF.size (by omega)
          rw [hul] at hr
          have HA : Hd ((Builtin.append_ #[22, 22] 22 #[u3, .slice (some ⟨wr.heap.size, 0, none⟩) 1 1]).run Tryz.prog (wr.alloc (.cells #[.slice (some ⟨g6, 0, none⟩) m cap6] 32)) = .ok (.slice (some ⟨g7, 0, none⟩) (k + 1) cap7) w3) := hr
          have HE : Hd (∃ us, us.length = k + 1 ∧ LoL (Qr w.heap.size cl) w3 w.heap.size (.slice (some ⟨g7, 0, none⟩) (k + 1) cap7) us ∧ Fr (fun _ => False) w w3) := by
            refine ⟨us ++ [.slice (some ⟨g6, 0, none⟩) m cap6], by simp [hul], by rw [hul] at hL2; exact hL2, (hF.trans HO2.out.2).under hf2 (fun j hj => (World.ownsRow.lt hL.row j hj).1)⟩
          clear hr hL2 hf2 hL hF hul HLL HLL2 HGD HO HO2 HCU hrl eq
          go_wp2_with (at_builtin; refine wpList_append_run rfl (.tmp 29) (.tmp 37) 22 rfl _ _ _ rfl rfl HA.out ?_)
          exact ⟨⟨k + 1, by simp, by omega, HE.out⟩, by simp; omega⟩
    · have d1 : decide ((k : Int) < (n : Int)) = false := by simp; omega
      have d1n : ¬ k < n := hlt
      have ek : k = n := by omega
      have HO2 : Hd (∃ us, us.length = n + 0 ∧ LoL (Qr w.heap.size cl) wr w.heap.size u3 us ∧ Fr (fun _ => False) w wr) := by rw [← ek]; exact HO.out
      clear hlt HO ek HX
      go_wp2_with fail
      go_loopw [3, 7] (fun v3 v7 wx => ∃ q : Nat, v7 = .int .i64 q ∧ q ≤ 64 ∧ Hd (∃ us, us.length = n + q ∧ LoL (Qr w.heap.size cl) wx w.heap.size v3 us ∧ Fr (fun _ => False) w wx)) (fun _ v _ => match v with | .int _ q => 64 - q.toNat | _ => 0)
      case atStart => exact ⟨0, rfl, by omega, HO2.out⟩
      case round =>
        clear HO2
        obtain ⟨q, rfl, hq, HO⟩ := hrel
        by_cases hq64 : q < 64
        · have dq : decide ((q : Int) < 64) = true := by simp; omega
          have q0 : (0 : Int) ≤ q := by omega
          have q1 : (q : Int) < 64 := by omega
          obtain ⟨us, hul, hL, hF⟩ := HO.out
          obtain ⟨w1, ew1⟩ : ∃ w1, w1 = wr.alloc (.cells #[vI (-77 - (q : Int)), vI 0, .string ⟨#[]⟩] 31) := ⟨_, rfl⟩
          have hf1 : Fr (fun _ => False) wr w1 := by rw [ew1]; exact (Fr.refl _ wr).alloc _
          have hsz1 : w1.heap.size = wr.heap.size + 1 := by rw [ew1]; simp
          have hitem : Qr w.heap.size cl us.length w1 (.slice (some ⟨wr.heap.size, 0, none⟩) 1 1) := by
            refine Or.inr ⟨by have := EN.out; omega, wr.heap.size, rfl, by omega, ?_⟩
            rw [ew1, cell_of (heap_alloc_last wr _)]
            have : us.length - cl.length = q := by have := EN.out; omega
            rw [this]
            rfl
          obtain ⟨g7, cap7, w3, hr, hL2, hf2⟩ := hL.more (qr_stays w.heap.size cl) hf1 hitem (fun j hj => by have : wr.heap.size = j := Option.some.inj hj; omega) hF.size (by omega)
          rw [hul, hsz1] at hr
          rw [ew1] at hr
          have HA : Hd ((Builtin.append_ #[22, 22] 22 #[u3, .slice (some ⟨wr.heap.size + 1, 0, none⟩) 1 1]).run Tryz.prog ((wr.alloc (.cells #[vI (-77 - (q : Int)), vI 0, .string ⟨#[]⟩] 31)).alloc (.cells #[.slice (some ⟨wr.heap.size, 0, none⟩) 1 1] 32)) = .ok (.slice (some ⟨g7, 0, none⟩) (n + q + 1) cap7) w3) := hr
          have HE : Hd (∃ us, us.length = n + (q + 1) ∧ LoL (Qr w.heap.size cl) w3 w.heap.size (.slice (some ⟨g7, 0, none⟩) (n + q + 1) cap7) us ∧ Fr (fun _ => False) w w3) := by
            refine ⟨us ++ [.slice (some ⟨wr.heap.size, 0, none⟩) 1 1], by simp [hul]; omega, by rw [hul] at hL2; exact hL2, (hF.trans hf1).under hf2 (fun j hj => (World.ownsRow.lt hL.row j hj).1)⟩
          clear hr hL2 hf2 hL hF hul HO hitem hf1 hsz1 ew1
          go_wp2_with (at_builtin; refine wpList_append_run rfl (.tmp 43) (.tmp 48) 22 rfl _ _ _ rfl rfl HA.out ?_)
          exact ⟨⟨q + 1, by simp, by omega, HE.out⟩, by simp; omega⟩
        · have dq : decide ((q : Int) < 64) = false := by simp; omega
          have eq : q = 64 := by omega
          obtain ⟨us, hul, hL, hF⟩ := HO.out
          rw [eq] at hul
          obtain ⟨G, cap6, e6, hcap⟩ : ∃ g6 cap6, u3 = .slice (some ⟨g6, 0, none⟩) (n + 64) cap6 ∧ n + 64 ≤ cap6 := by
            rcases hL.row.2 with ⟨e3, e4⟩ | ⟨g3, cap3, cur, e3, b1, b2, b3, -⟩
            · omega
            · rw [hul] at e3 b3; exact ⟨g3, cap3, e3, b3⟩
          have HE : Hd (∃ v', v' = .slice (some ⟨G, 0, none⟩) n cap6 ∧ RmO wr w.heap.size v' cl ∧ Fr (fun _ => False) w wr) := by
            refine ⟨_, rfl, ⟨G, cap6, us, by rw [EN.out], by rw [← EN.out]; exact hul, ?_⟩, hF⟩
            rw [e6, EN.out] at hL
            exact hL
          have hc1 : n ≤ cap6 := by omega
          subst e6
          clear HO eq hL hF hul
          go_wp2_with fail
          go_ret
          obtain ⟨v', ev, p1, p2⟩ := HE.out
          exact ⟨v', by rw [ev]; rfl, p1, p2⟩
end Go.Proofs.YtngbakjalmgciaaGreat
