import Derived.Test.YtgcekpmkniipfaaQG8
namespace Go.Proofs.Ytgcekpmkniipfaa
open Go.RowKit (wrap32 wrap64)
set_option linter.unusedVariables false
set_option linter.unusedSimpArgs false

theorem Loc.get {w : World} {own : Nat → Nat} {bs : List (Nat × Obj)} (h : Loc w own bs) {b : Nat} {o : Obj} (hx : (b, o) ∈ bs) : w.heap[b]? = some o := (h (b, o) hx).1
theorem cells4 {w : World} {b : Nat} {rk ru : Value} (h : w.heap[b]? = some (rpO rk ru)) : w.cell? ⟨b, 0, none⟩ = some (.bool true) ∧ w.cell? ⟨b, 1, none⟩ = some (.string ⟨#[]⟩) ∧ w.cell? ⟨b, 2, none⟩ = some rk ∧ w.cell? ⟨b, 3, none⟩ = some ru :=
  ⟨cell_of h 0, cell_of h 1, cell_of h 2, cell_of h 3⟩
theorem cells3 {w : World} {b : Nat} (h : w.heap[b]? = some opO) : w.cell? ⟨b, 0, none⟩ = some (vI 3) ∧ w.cell? ⟨b, 1, none⟩ = some (vI 0) ∧ w.cell? ⟨b, 2, none⟩ = some (.string ⟨#[]⟩) := ⟨cell_of h 0, cell_of h 1, cell_of h 2⟩

theorem RpV.rowsOf {w : World} {B : Nat} {R : RepT} {ok : Bool} {val : ByteArray} {rk ru : Value} (h : RpV w B R (.agg #[.bool ok, .string val, rk, ru])) : RowAt w B rk (kCells R.L) ∧ RowAt w B ru (vCells R.L) := by
  obtain ⟨k1, k2, ee, h1, h2⟩ := h
  injection ee with ee
  simp at ee
  rw [ee.2.2.1, ee.2.2.2]
  exact ⟨h1, h2⟩
theorem Sy.mem {w : World} {B : Nat} {own : Nat → Nat} {p q : TS} {r s : RS} {gs : List KR} (h : Sy w B own p q r s gs) {x : KR} (hx : x ∈ gs) : RpV w w.heap.size x.R (.agg #[.bool x.R.ok, .string x.R.val, x.rk, x.ru]) := by
  obtain ⟨i, hi, rfl⟩ := List.getElem_of_mem hx
  obtain ⟨h1, h2, -⟩ := h.k i hi
  exact ⟨_, _, rfl, h1.at, h2.at⟩
theorem Kp.mem {w : World} {B : Nat} {own : Nat → Nat} {kb sum : Nat} {lv wv : Value} {ls ws : List KR} (h : Kp w B own kb lv wv sum ls ws) {x : KR} (hx : x ∈ ws) : RpV w w.heap.size x.R (.agg #[.bool x.R.ok, .string x.R.val, x.rk, x.ru]) := by
  obtain ⟨i, hi, rfl⟩ := List.getElem_of_mem hx
  obtain ⟨h1, h2, -⟩ := h.wl i hi
  exact ⟨_, _, rfl, h1, h2⟩

set_option maxRecDepth 100000 in
set_option maxHeartbeats 8000000 in
theorem asks_any (w : World) (B : Nat) (own : Nat → Nat) (p q : TS) (r s : RS) (gs : List KR) (kb : Nat) (lv wv : Value) (sum : Nat) (ls ws : List KR) (h : Sy w B own p q r s gs) (hK : Kp w B own kb lv wv sum ls ws) (hB : B ≤ w.heap.size)
    (hp : p.N ≤ 80000000000) (hq : q.N ≤ 80000000000) (hr : r.L.length ≤ 3000000000) (hs : s.L.length ≤ 3000000000) (hls : ls.length ≤ 9000000000) (hws : ws.length ≤ 9000000000) (hsum : sum ≤ 100000000000) (hpr : p.L = r.L) (hqs : q.L = s.L) :
    Calls Try.prog 16 #[.pointer (some ⟨kb, 0, none⟩), .pointer (some ⟨p.b, 0, none⟩), .pointer (some ⟨q.b, 0, none⟩), .pointer (some ⟨r.c, 0, none⟩), .pointer (some ⟨s.c, 0, none⟩)] w fun e w' => e = .returned (.bool true) ∧ ∃ own' p' q' lv' wv' A D E C X Y bs, Ak w w' B own own' p' q' r s (gs ++ [A] ++ [D] ++ [E] ++ [C]) kb lv' wv' (sum + 3 * r.L.length + s.L.length) (ls ++ [A, D, E, C]) (ws ++ [X, X, Y, X]) bs ∧
      p'.b = p.b ∧ p'.L = p.L ∧ p'.N = p.N + 3 ∧ q'.b = q.b ∧ q'.L = q.L ∧ q'.N = q.N + 1 ∧ A.R = snR r.L ∧ D.R = snR r.L ∧ E.R = snR s.L ∧ C.R = snR r.L ∧ X.R = snR r.L ∧ Y.R = snR s.L := by
  have H0 : Hd (Ak w w B own own p q r s gs kb lv wv sum ls ws []) := ⟨h, hK, fun x hx => by simp at hx, Fr.refl _ _, fun _ _ => rfl, hB⟩
  have HB : Hd (own kb ≠ 0 ∧ B ≤ w.heap.size) := ⟨by rw [hK.ob]; decide, hB⟩
  have HPQ : Hd (p.L = r.L ∧ q.L = s.L) := ⟨hpr, hqs⟩
  clear h hK hB hpr hqs
  obtain ⟨W1, e1⟩ : ∃ W1, W1 = w.alloc opO := ⟨_, rfl⟩
  obtain ⟨bo, ebo⟩ : ∃ bo, bo = w.heap.size := ⟨_, rfl⟩
  have H1 : Hd (Ak w W1 B own own p q r s gs kb lv wv sum ls ws [(bo, opO)]) := by rw [e1, ebo]; exact H0.out.box opO
  have E1 : Hd (W1 = w.alloc opO ∧ bo = w.heap.size) := ⟨e1, ebo⟩
  obtain ⟨o0, o1, o2⟩ := cells3 (H1.out.loc.get (List.mem_cons_self))
  have hask := H1.out.ask (by omega)
  clear e1 ebo H0
  go_enter Try.func16, Try.ntmps16
  go_upto_region 2 with fail
  rw [show w.alloc (.cells #[vI 3, vI 0, .string ⟨#[]⟩] 23) = W1 from E1.out.1.symm, ← E1.out.2]
  clear E1
  go_wp2_with fail
  refine hask.mono ?_
  rintro _ wA ⟨ka, ma, ca, ua, na, ea, p1, own1, rfl, hA, pb1, pL1, pN1, -⟩
  clear hask o0 o1 o2 H1
  obtain ⟨W2, e2⟩ : ∃ W2, W2 = wA.alloc (rpO (.slice ka ma ca) (.slice ua na ea)) := ⟨_, rfl⟩
  obtain ⟨ba, eba⟩ : ∃ ba, ba = wA.heap.size := ⟨_, rfl⟩
  have H2 : Hd (Ak w W2 B own own1 p1 q r s (gs ++ [⟨.slice ka ma ca, .slice ua na ea, snR p.L⟩]) kb lv wv sum ls ws [(ba, rpO (.slice ka ma ca) (.slice ua na ea)), (bo, opO)]) := by rw [e2, eba]; exact hA.box _
  have E2 : Hd (W2 = wA.alloc (rpO (.slice ka ma ca) (.slice ua na ea)) ∧ ba = wA.heap.size) := ⟨e2, eba⟩
  have HP : Hd (p1.b = p.b ∧ p1.L = p.L ∧ p1.N = p.N + 1) := ⟨pb1, pL1, pN1⟩
  clear pb1 pL1 pN1
  obtain ⟨o0, o1, o2⟩ := cells3 (H2.out.loc.get (b := bo) (o := opO) (by simp))
  have hask := H2.out.ask (by have := HP.out; omega)
  rw [HP.out.1] at hask
  clear e2 eba hA
  go_upto_region 3 with fail
  rw [show wA.alloc (.cells #[.bool true, .string ⟨#[]⟩, .slice ka ma ca, .slice ua na ea] 43) = W2 from E2.out.1.symm, ← E2.out.2]
  clear E2
  go_wp2_with fail
  refine hask.mono ?_
  rintro _ wD ⟨kd, md, cd, ud, nd, ed, p2, own2, rfl, hA, pb1, pL1, pN1, -⟩
  have HP' : Hd (p2.b = p.b ∧ p2.L = p.L ∧ p2.N = p.N + 2) := ⟨pb1, pL1.trans HP.out.2.1, by have := HP.out.2.2; omega⟩
  rw [HP.out.2.1] at hA
  clear pb1 pL1 pN1 HP
  have HP := HP'
  clear HP'
  clear hask o0 o1 o2 H2
  obtain ⟨W3, e2⟩ : ∃ W3, W3 = wD.alloc (rpO (.slice kd md cd) (.slice ud nd ed)) := ⟨_, rfl⟩
  obtain ⟨bd, eba⟩ : ∃ bd, bd = wD.heap.size := ⟨_, rfl⟩
  have H2 : Hd (Ak w W3 B own own2 p2 q r s (gs ++ [⟨.slice ka ma ca, .slice ua na ea, snR p.L⟩] ++ [⟨.slice kd md cd, .slice ud nd ed, snR p.L⟩]) kb lv wv sum ls ws [(bd, rpO (.slice kd md cd) (.slice ud nd ed)), (ba, rpO (.slice ka ma ca) (.slice ua na ea)), (bo, opO)]) := by rw [e2, eba]; exact hA.box _
  have E2 : Hd (W3 = wD.alloc (rpO (.slice kd md cd) (.slice ud nd ed)) ∧ bd = wD.heap.size) := ⟨e2, eba⟩
  obtain ⟨o0, o1, o2⟩ := cells3 (H2.out.loc.get (b := bo) (o := opO) (by simp))
  have hask := H2.out.ask2 (by omega)
  clear e2 eba hA
  go_upto_region 4 with fail
  rw [show wD.alloc (.cells #[.bool true, .string ⟨#[]⟩, .slice kd md cd, .slice ud nd ed] 43) = W3 from E2.out.1.symm, ← E2.out.2]
  clear E2
  go_wp2_with fail
  refine hask.mono ?_
  rintro _ wE ⟨ke, me, ce, ue, ne, ee, q1, own3, rfl, hA, qb1, qL1, qN1, -⟩
  have HQ : Hd (q1.b = q.b ∧ q1.L = q.L ∧ q1.N = q.N + 1) := ⟨qb1, qL1, qN1⟩
  clear qb1 qL1 qN1
  clear hask o0 o1 o2 H2
  obtain ⟨W4, e2⟩ : ∃ W4, W4 = wE.alloc (rpO (.slice ke me ce) (.slice ue ne ee)) := ⟨_, rfl⟩
  obtain ⟨be, eba⟩ : ∃ be, be = wE.heap.size := ⟨_, rfl⟩
  have H2 : Hd (Ak w W4 B own own3 p2 q1 r s (gs ++ [⟨.slice ka ma ca, .slice ua na ea, snR p.L⟩] ++ [⟨.slice kd md cd, .slice ud nd ed, snR p.L⟩] ++ [⟨.slice ke me ce, .slice ue ne ee, snR q.L⟩]) kb lv wv sum ls ws [(be, rpO (.slice ke me ce) (.slice ue ne ee)), (bd, rpO (.slice kd md cd) (.slice ud nd ed)), (ba, rpO (.slice ka ma ca) (.slice ua na ea)), (bo, opO)]) := by rw [e2, eba]; exact hA.box _
  have E2 : Hd (W4 = wE.alloc (rpO (.slice ke me ce) (.slice ue ne ee)) ∧ be = wE.heap.size) := ⟨e2, eba⟩
  obtain ⟨o0, o1, o2⟩ := cells3 (H2.out.loc.get (b := bo) (o := opO) (by simp))
  have hask := H2.out.ask (by have := HP.out; omega)
  rw [HP.out.1] at hask
  clear e2 eba hA
  go_upto_region 5 with fail
  rw [show wE.alloc (.cells #[.bool true, .string ⟨#[]⟩, .slice ke me ce, .slice ue ne ee] 43) = W4 from E2.out.1.symm, ← E2.out.2]
  clear E2
  go_wp2_with fail
  refine hask.mono ?_
  rintro _ wC ⟨kc, mc, cc, uc, nc, ec, p3, own4, rfl, hA, pb1, pL1, pN1, -⟩
  have HP' : Hd (p3.b = p.b ∧ p3.L = p.L ∧ p3.N = p.N + 3) := ⟨pb1, pL1.trans HP.out.2.1, by have := HP.out.2.2; omega⟩
  rw [HP.out.2.1] at hA
  clear pb1 pL1 pN1 HP
  have HP := HP'
  clear HP'
  clear hask o0 o1 o2 H2
  obtain ⟨W5, e2⟩ : ∃ W5, W5 = wC.alloc (rpO (.slice kc mc cc) (.slice uc nc ec)) := ⟨_, rfl⟩
  obtain ⟨bc, eba⟩ : ∃ bc, bc = wC.heap.size := ⟨_, rfl⟩
  have H2 : Hd (Ak w W5 B own own4 p3 q1 r s (gs ++ [⟨.slice ka ma ca, .slice ua na ea, snR p.L⟩] ++ [⟨.slice kd md cd, .slice ud nd ed, snR p.L⟩] ++ [⟨.slice ke me ce, .slice ue ne ee, snR q.L⟩] ++ [⟨.slice kc mc cc, .slice uc nc ec, snR p.L⟩]) kb lv wv sum ls ws [(bc, rpO (.slice kc mc cc) (.slice uc nc ec)), (be, rpO (.slice ke me ce) (.slice ue ne ee)), (bd, rpO (.slice kd md cd) (.slice ud nd ed)), (ba, rpO (.slice ka ma ca) (.slice ua na ea)), (bo, opO)]) := by rw [e2, eba]; exact hA.box _
  have E2 : Hd (W5 = wC.alloc (rpO (.slice kc mc cc) (.slice uc nc ec)) ∧ bc = wC.heap.size) := ⟨e2, eba⟩
  obtain ⟨o0, o1, o2⟩ := cells3 (H2.out.loc.get (b := bo) (o := opO) (by simp))
  have hask := H2.out.rask (by omega)
  clear e2 eba hA
  go_upto_region 6 with fail
  rw [show wC.alloc (.cells #[.bool true, .string ⟨#[]⟩, .slice kc mc cc, .slice uc nc ec] 43) = W5 from E2.out.1.symm, ← E2.out.2]
  clear E2
  go_wp2_with fail
  refine hask.mono ?_
  rintro _ wX ⟨kx, mx, cx, ux, nx, ex, rfl, hA, hRx, hx1, hx2⟩
  clear hask o0 o1 o2 H2
  obtain ⟨W6, e2⟩ : ∃ W6, W6 = wX.alloc (rpO (.slice kx mx cx) (.slice ux nx ex)) := ⟨_, rfl⟩
  obtain ⟨bx, eba⟩ : ∃ bx, bx = wX.heap.size := ⟨_, rfl⟩
  have H2 : Hd (Ak w W6 B own own4 p3 q1 r s (gs ++ [⟨.slice ka ma ca, .slice ua na ea, snR p.L⟩] ++ [⟨.slice kd md cd, .slice ud nd ed, snR p.L⟩] ++ [⟨.slice ke me ce, .slice ue ne ee, snR q.L⟩] ++ [⟨.slice kc mc cc, .slice uc nc ec, snR p.L⟩]) kb lv wv sum ls ws [(bx, rpO (.slice kx mx cx) (.slice ux nx ex)), (bc, rpO (.slice kc mc cc) (.slice uc nc ec)), (be, rpO (.slice ke me ce) (.slice ue ne ee)), (bd, rpO (.slice kd md cd) (.slice ud nd ed)), (ba, rpO (.slice ka ma ca) (.slice ua na ea)), (bo, opO)]) := by rw [e2, eba]; exact hA.box _
  have E2 : Hd (W6 = wX.alloc (rpO (.slice kx mx cx) (.slice ux nx ex)) ∧ bx = wX.heap.size) := ⟨e2, eba⟩
  have HXX : Hd (RpV W6 wX.heap.size (snR r.L) (.agg #[.bool true, .string ⟨#[]⟩, .slice kx mx cx, .slice ux nx ex]) ∧ (∀ j, (Value.slice kx mx cx).ownBlock = some j → own4 j = 0 ∧ j < wX.heap.size) ∧ ∀ j, (Value.slice ux nx ex).ownBlock = some j → own4 j = 0 ∧ j < wX.heap.size) := ⟨by rw [e2]; exact hRx.fr ((Fr.refl (fun _ => False) _).alloc _) (Nat.le_refl _) (fun _ _ h => h), hx1, hx2⟩
  clear hRx hx1 hx2
  have HX6 : Hd (wX.heap.size ≤ W6.heap.size) := by show _ ≤ _; rw [e2]; simp
  obtain ⟨o0, o1, o2⟩ := cells3 (H2.out.loc.get (b := bo) (o := opO) (by simp))
  have hask := H2.out.sask (by omega)
  clear e2 eba hA
  go_upto_region 7 with fail
  rw [show wX.alloc (.cells #[.bool true, .string ⟨#[]⟩, .slice kx mx cx, .slice ux nx ex] 43) = W6 from E2.out.1.symm, ← E2.out.2]
  clear E2
  go_wp2_with fail
  refine hask.mono ?_
  rintro _ wY ⟨kz, mz, cz, uz, nz, ez, rfl, hA, hFY, hRy, hy1, hy2⟩
  clear hask o0 o1 o2 H2
  obtain ⟨W7, e2⟩ : ∃ W7, W7 = wY.alloc (rpO (.slice kz mz cz) (.slice uz nz ez)) := ⟨_, rfl⟩
  obtain ⟨bz, eba⟩ : ∃ bz, bz = wY.heap.size := ⟨_, rfl⟩
  have H2 : Hd (Ak w W7 B own own4 p3 q1 r s (gs ++ [⟨.slice ka ma ca, .slice ua na ea, snR p.L⟩] ++ [⟨.slice kd md cd, .slice ud nd ed, snR p.L⟩] ++ [⟨.slice ke me ce, .slice ue ne ee, snR q.L⟩] ++ [⟨.slice kc mc cc, .slice uc nc ec, snR p.L⟩]) kb lv wv sum ls ws [(bz, rpO (.slice kz mz cz) (.slice uz nz ez)), (bx, rpO (.slice kx mx cx) (.slice ux nx ex)), (bc, rpO (.slice kc mc cc) (.slice uc nc ec)), (be, rpO (.slice ke me ce) (.slice ue ne ee)), (bd, rpO (.slice kd md cd) (.slice ud nd ed)), (ba, rpO (.slice ka ma ca) (.slice ua na ea)), (bo, opO)]) := by rw [e2, eba]; exact hA.box _
  have E2 : Hd (W7 = wY.alloc (rpO (.slice kz mz cz) (.slice uz nz ez)) ∧ bz = wY.heap.size) := ⟨e2, eba⟩
  have fXY : Fr (fun _ => False) W6 W7 := by rw [e2]; exact hFY.alloc _
  have HXX2 : Hd (RpV W7 wX.heap.size (snR r.L) (.agg #[.bool true, .string ⟨#[]⟩, .slice kx mx cx, .slice ux nx ex]) ∧ (∀ j, (Value.slice kx mx cx).ownBlock = some j → own4 j = 0 ∧ j < wX.heap.size) ∧ (∀ j, (Value.slice ux nx ex).ownBlock = some j → own4 j = 0 ∧ j < wX.heap.size) ∧ wX.heap.size ≤ W7.heap.size) := ⟨HXX.out.1.fr fXY HX6.out (fun _ _ h => h), HXX.out.2.1, HXX.out.2.2, Nat.le_trans HX6.out fXY.size⟩
  have HYY : Hd (RpV W7 wY.heap.size (snR s.L) (.agg #[.bool true, .string ⟨#[]⟩, .slice kz mz cz, .slice uz nz ez]) ∧ (∀ j, (Value.slice kz mz cz).ownBlock = some j → own4 j = 0 ∧ j < wY.heap.size) ∧ (∀ j, (Value.slice uz nz ez).ownBlock = some j → own4 j = 0 ∧ j < wY.heap.size) ∧ wY.heap.size ≤ W7.heap.size) := ⟨by rw [e2]; exact hRy.fr ((Fr.refl (fun _ => False) _).alloc _) (Nat.le_refl _) (fun _ _ h => h), hy1, hy2, by rw [e2]; simp⟩
  clear hRy hy1 hy2 fXY HXX HX6 hFY
  obtain ⟨o0, o1, o2⟩ := cells3 (H2.out.loc.get (b := bo) (o := opO) (by simp))
  clear e2 eba hA
  go_upto_region 8 with fail
  rw [show wY.alloc (.cells #[.bool true, .string ⟨#[]⟩, .slice kz mz cz, .slice uz nz ez] 43) = W7 from E2.out.1.symm, ← E2.out.2]
  clear E2
  clear o0 o1 o2
  have SS : ∀ W : World, W.heap[kb]? = some (.cells #[lv, wv, vI sum] 59) → W.heap[ba]? = some (rpO (.slice ka ma ca) (.slice ua na ea)) ∧ W.heap[bd]? = some (rpO (.slice kd md cd) (.slice ud nd ed)) ∧ W.heap[be]? = some (rpO (.slice ke me ce) (.slice ue ne ee)) ∧ W.heap[bc]? = some (rpO (.slice kc mc cc) (.slice uc nc ec)) → (fun w' : World => w'.cell? ⟨kb, 0, none⟩ = some lv ∧ w'.cell? ⟨ba, 0, none⟩ = some (.bool true) ∧ w'.cell? ⟨ba, 1, none⟩ = some (.string ⟨#[]⟩) ∧ w'.cell? ⟨ba, 2, none⟩ = some (.slice ka ma ca) ∧ w'.cell? ⟨ba, 3, none⟩ = some (.slice ua na ea) ∧ w'.cell? ⟨bd, 0, none⟩ = some (.bool true) ∧ w'.cell? ⟨bd, 1, none⟩ = some (.string ⟨#[]⟩) ∧ w'.cell? ⟨bd, 2, none⟩ = some (.slice kd md cd) ∧ w'.cell? ⟨bd, 3, none⟩ = some (.slice ud nd ed) ∧ w'.cell? ⟨be, 0, none⟩ = some (.bool true) ∧ w'.cell? ⟨be, 1, none⟩ = some (.string ⟨#[]⟩) ∧ w'.cell? ⟨be, 2, none⟩ = some (.slice ke me ce) ∧ w'.cell? ⟨be, 3, none⟩ = some (.slice ue ne ee) ∧ w'.cell? ⟨bc, 0, none⟩ = some (.bool true) ∧ w'.cell? ⟨bc, 1, none⟩ = some (.string ⟨#[]⟩) ∧ w'.cell? ⟨bc, 2, none⟩ = some (.slice kc mc cc) ∧ w'.cell? ⟨bc, 3, none⟩ = some (.slice uc nc ec)) W := fun W hk hb => by
    obtain ⟨ga, gd, ge, gc⟩ := hb
    exact ⟨cell_of hk 0, (cells4 ga).1, (cells4 ga).2.1, (cells4 ga).2.2.1, (cells4 ga).2.2.2, (cells4 gd).1, (cells4 gd).2.1, (cells4 gd).2.2.1, (cells4 gd).2.2.2, (cells4 ge).1, (cells4 ge).2.1, (cells4 ge).2.2.1, (cells4 ge).2.2.2, (cells4 gc).1, (cells4 gc).2.1, (cells4 gc).2.2.1, (cells4 gc).2.2.2⟩
  have HD : Hd (Ak w W7.drew B own own4 p3 q1 r s (gs ++ [⟨.slice ka ma ca, .slice ua na ea, snR p.L⟩] ++ [⟨.slice kd md cd, .slice ud nd ed, snR p.L⟩] ++ [⟨.slice ke me ce, .slice ue ne ee, snR q.L⟩] ++ [⟨.slice kc mc cc, .slice uc nc ec, snR p.L⟩]) kb lv wv sum ls ws [(bz, rpO (.slice kz mz cz) (.slice uz nz ez)), (bx, rpO (.slice kx mx cx) (.slice ux nx ex)), (bc, rpO (.slice kc mc cc) (.slice uc nc ec)), (be, rpO (.slice ke me ce) (.slice ue ne ee)), (bd, rpO (.slice kd md cd) (.slice ud nd ed)), (ba, rpO (.slice ka ma ca) (.slice ua na ea)), (bo, opO)]) := H2.out.quiet ((Fr.refl _ _).drew)
  have hBX : W7.heap[ba]? = some (rpO (.slice ka ma ca) (.slice ua na ea)) ∧ W7.heap[bd]? = some (rpO (.slice kd md cd) (.slice ud nd ed)) ∧ W7.heap[be]? = some (rpO (.slice ke me ce) (.slice ue ne ee)) ∧ W7.heap[bc]? = some (rpO (.slice kc mc cc) (.slice uc nc ec)) := ⟨H2.out.loc.get (b := ba) (o := rpO (.slice ka ma ca) (.slice ua na ea)) (by simp), H2.out.loc.get (b := bd) (o := rpO (.slice kd md cd) (.slice ud nd ed)) (by simp), H2.out.loc.get (b := be) (o := rpO (.slice ke me ce) (.slice ue ne ee)) (by simp), H2.out.loc.get (b := bc) (o := rpO (.slice kc mc cc) (.slice uc nc ec)) (by simp)⟩
  have HS0 : (fun w' : World => w'.cell? ⟨kb, 0, none⟩ = some lv ∧ w'.cell? ⟨ba, 0, none⟩ = some (.bool true) ∧ w'.cell? ⟨ba, 1, none⟩ = some (.string ⟨#[]⟩) ∧ w'.cell? ⟨ba, 2, none⟩ = some (.slice ka ma ca) ∧ w'.cell? ⟨ba, 3, none⟩ = some (.slice ua na ea) ∧ w'.cell? ⟨bd, 0, none⟩ = some (.bool true) ∧ w'.cell? ⟨bd, 1, none⟩ = some (.string ⟨#[]⟩) ∧ w'.cell? ⟨bd, 2, none⟩ = some (.slice kd md cd) ∧ w'.cell? ⟨bd, 3, none⟩ = some (.slice ud nd ed) ∧ w'.cell? ⟨be, 0, none⟩ = some (.bool true) ∧ w'.cell? ⟨be, 1, none⟩ = some (.string ⟨#[]⟩) ∧ w'.cell? ⟨be, 2, none⟩ = some (.slice ke me ce) ∧ w'.cell? ⟨be, 3, none⟩ = some (.slice ue ne ee) ∧ w'.cell? ⟨bc, 0, none⟩ = some (.bool true) ∧ w'.cell? ⟨bc, 1, none⟩ = some (.string ⟨#[]⟩) ∧ w'.cell? ⟨bc, 2, none⟩ = some (.slice kc mc cc) ∧ w'.cell? ⟨bc, 3, none⟩ = some (.slice uc nc ec)) W7.drew := SS _ H2.out.kp.obj hBX
  have HS1 : (fun w' : World => w'.cell? ⟨kb, 0, none⟩ = some lv ∧ w'.cell? ⟨ba, 0, none⟩ = some (.bool true) ∧ w'.cell? ⟨ba, 1, none⟩ = some (.string ⟨#[]⟩) ∧ w'.cell? ⟨ba, 2, none⟩ = some (.slice ka ma ca) ∧ w'.cell? ⟨ba, 3, none⟩ = some (.slice ua na ea) ∧ w'.cell? ⟨bd, 0, none⟩ = some (.bool true) ∧ w'.cell? ⟨bd, 1, none⟩ = some (.string ⟨#[]⟩) ∧ w'.cell? ⟨bd, 2, none⟩ = some (.slice kd md cd) ∧ w'.cell? ⟨bd, 3, none⟩ = some (.slice ud nd ed) ∧ w'.cell? ⟨be, 0, none⟩ = some (.bool true) ∧ w'.cell? ⟨be, 1, none⟩ = some (.string ⟨#[]⟩) ∧ w'.cell? ⟨be, 2, none⟩ = some (.slice ke me ce) ∧ w'.cell? ⟨be, 3, none⟩ = some (.slice ue ne ee) ∧ w'.cell? ⟨bc, 0, none⟩ = some (.bool true) ∧ w'.cell? ⟨bc, 1, none⟩ = some (.string ⟨#[]⟩) ∧ w'.cell? ⟨bc, 2, none⟩ = some (.slice kc mc cc) ∧ w'.cell? ⟨bc, 3, none⟩ = some (.slice uc nc ec)) (W7.alloc (.cells #[.bool true, .string ⟨#[]⟩, .slice ka ma ca, .slice ua na ea, .bool true, .string ⟨#[]⟩, .slice kd md cd, .slice ud nd ed, .bool true, .string ⟨#[]⟩, .slice ke me ce, .slice ue ne ee, .bool true, .string ⟨#[]⟩, .slice kc mc cc, .slice uc nc ec] 43)).drew := SS _ ((Go.RowKit.Below.heap_alloc W7 _ kb (heap_lt H2.out.kp.obj)).trans H2.out.kp.obj) ⟨(Go.RowKit.Below.heap_alloc W7 _ ba (heap_lt (hBX.1))).trans hBX.1, (Go.RowKit.Below.heap_alloc W7 _ bd (heap_lt (hBX.2.1))).trans hBX.2.1, (Go.RowKit.Below.heap_alloc W7 _ be (heap_lt (hBX.2.2.1))).trans hBX.2.2.1, (Go.RowKit.Below.heap_alloc W7 _ bc (heap_lt (hBX.2.2.2))).trans hBX.2.2.2⟩
  obtain ⟨gX, capX, w9, own5, hrun, hkb9, hAk9, hExt9, hFr9⟩ := HD.out.growL HB.out [(⟨.slice ka ma ca, .slice ua na ea, snR p.L⟩ : KR), (⟨.slice kd md cd, .slice ud nd ed, snR p.L⟩ : KR), (⟨.slice ke me ce, .slice ue ne ee, snR q.L⟩ : KR), (⟨.slice kc mc cc, .slice uc nc ec, snR p.L⟩ : KR)] rfl (by intro x hx; simp at hx; rcases hx with rfl | rfl | rfl | rfl <;> exact ⟨⟨_, _, _, rfl⟩, ⟨_, _, _, rfl⟩⟩) (by omega)
  have HR : Hd ((Builtin.append_ #[57, 57] 57 #[lv, .slice (some ⟨W7.heap.size, 0, none⟩) 4 4]).run Try.prog (W7.alloc (.cells #[.bool true, .string ⟨#[]⟩, .slice ka ma ca, .slice ua na ea, .bool true, .string ⟨#[]⟩, .slice kd md cd, .slice ud nd ed, .bool true, .string ⟨#[]⟩, .slice ke me ce, .slice ue ne ee, .bool true, .string ⟨#[]⟩, .slice kc mc cc, .slice uc nc ec] 43)).drew = .ok (.slice (some ⟨gX, 0, none⟩) (ls.length + 4) capX) w9) := hrun
  have hkne : ∀ b, b ≠ kb → (w9.setCell ⟨kb, 0, none⟩ (.slice (some ⟨gX, 0, none⟩) (ls.length + 4) capX)).heap[b]? = w9.heap[b]? := fun b hb => Go.RowKit.Below.heap_setCell w9 _ _ b (fun e => hb e)
  have hbk : ∀ b o, (b, o) ∈ [(bz, rpO (.slice kz mz cz) (.slice uz nz ez)), (bx, rpO (.slice kx mx cx) (.slice ux nx ex)), (bc, rpO (.slice kc mc cc) (.slice uc nc ec)), (be, rpO (.slice ke me ce) (.slice ue ne ee)), (bd, rpO (.slice kd md cd) (.slice ud nd ed)), (ba, rpO (.slice ka ma ca) (.slice ua na ea)), (bo, opO)] → b ≠ kb := fun b o hx e => by
    have h1 := (HD.out.loc (b, o) hx).2
    have h2 := HD.out.kp.ob
    simp only at h1
    rw [e, h2] at h1
    omega
  have HS2 : (fun w' : World => w'.cell? ⟨kb, 0, none⟩ = some lv ∧ w'.cell? ⟨ba, 0, none⟩ = some (.bool true) ∧ w'.cell? ⟨ba, 1, none⟩ = some (.string ⟨#[]⟩) ∧ w'.cell? ⟨ba, 2, none⟩ = some (.slice ka ma ca) ∧ w'.cell? ⟨ba, 3, none⟩ = some (.slice ua na ea) ∧ w'.cell? ⟨bd, 0, none⟩ = some (.bool true) ∧ w'.cell? ⟨bd, 1, none⟩ = some (.string ⟨#[]⟩) ∧ w'.cell? ⟨bd, 2, none⟩ = some (.slice kd md cd) ∧ w'.cell? ⟨bd, 3, none⟩ = some (.slice ud nd ed) ∧ w'.cell? ⟨be, 0, none⟩ = some (.bool true) ∧ w'.cell? ⟨be, 1, none⟩ = some (.string ⟨#[]⟩) ∧ w'.cell? ⟨be, 2, none⟩ = some (.slice ke me ce) ∧ w'.cell? ⟨be, 3, none⟩ = some (.slice ue ne ee) ∧ w'.cell? ⟨bc, 0, none⟩ = some (.bool true) ∧ w'.cell? ⟨bc, 1, none⟩ = some (.string ⟨#[]⟩) ∧ w'.cell? ⟨bc, 2, none⟩ = some (.slice kc mc cc) ∧ w'.cell? ⟨bc, 3, none⟩ = some (.slice uc nc ec)) w9 := SS _ hkb9 ⟨(hkne ba (hbk ba (rpO (.slice ka ma ca) (.slice ua na ea)) (by simp))).symm.trans (hAk9.loc.get (b := ba) (o := rpO (.slice ka ma ca) (.slice ua na ea)) (by simp)), (hkne bd (hbk bd (rpO (.slice kd md cd) (.slice ud nd ed)) (by simp))).symm.trans (hAk9.loc.get (b := bd) (o := rpO (.slice kd md cd) (.slice ud nd ed)) (by simp)), (hkne be (hbk be (rpO (.slice ke me ce) (.slice ue ne ee)) (by simp))).symm.trans (hAk9.loc.get (b := be) (o := rpO (.slice ke me ce) (.slice ue ne ee)) (by simp)), (hkne bc (hbk bc (rpO (.slice kc mc cc) (.slice uc nc ec)) (by simp))).symm.trans (hAk9.loc.get (b := bc) (o := rpO (.slice kc mc cc) (.slice uc nc ec)) (by simp))⟩
  have y9 : w9.cell? ⟨kb, 0, none⟩ = some lv := cell_of hkb9 0
  have z9 : w9.frozen? ⟨kb, 0, none⟩ = false := frozen_of hkb9 0
  refine wp_region_T (S := (fun w' : World => w'.cell? ⟨kb, 0, none⟩ = some lv ∧ w'.cell? ⟨ba, 0, none⟩ = some (.bool true) ∧ w'.cell? ⟨ba, 1, none⟩ = some (.string ⟨#[]⟩) ∧ w'.cell? ⟨ba, 2, none⟩ = some (.slice ka ma ca) ∧ w'.cell? ⟨ba, 3, none⟩ = some (.slice ua na ea) ∧ w'.cell? ⟨bd, 0, none⟩ = some (.bool true) ∧ w'.cell? ⟨bd, 1, none⟩ = some (.string ⟨#[]⟩) ∧ w'.cell? ⟨bd, 2, none⟩ = some (.slice kd md cd) ∧ w'.cell? ⟨bd, 3, none⟩ = some (.slice ud nd ed) ∧ w'.cell? ⟨be, 0, none⟩ = some (.bool true) ∧ w'.cell? ⟨be, 1, none⟩ = some (.string ⟨#[]⟩) ∧ w'.cell? ⟨be, 2, none⟩ = some (.slice ke me ce) ∧ w'.cell? ⟨be, 3, none⟩ = some (.slice ue ne ee) ∧ w'.cell? ⟨bc, 0, none⟩ = some (.bool true) ∧ w'.cell? ⟨bc, 1, none⟩ = some (.string ⟨#[]⟩) ∧ w'.cell? ⟨bc, 2, none⟩ = some (.slice kc mc cc) ∧ w'.cell? ⟨bc, 3, none⟩ = some (.slice uc nc ec))) (t := 13) mixed ?_
  refine wpAnyT_takeAt (i := 0) 37 (v := ?_) rfl rfl (by kernel_rfl) (by kernel_rfl) (by kernel_rfl) (by kernel_rfl) (fun _ _ _ h => h) (Or.inl ⟨by rfl, fun w hSw => (by obtain ⟨q0, q1, q2, q3, q4, q5, q6, q7, q8, q9, q10, q11, q12, q13, q14, q15, q16⟩ := hSw; go_simp; try with_reducible rfl)⟩) HS0 ?_
  simp only [Act.put, List.setIfInBounds_toArray, List.set_cons_zero, List.set_cons_succ]
  refine wpAnyT_takeAt (i := 1) 38 (v := ?_) rfl rfl (by kernel_rfl) (by kernel_rfl) (by kernel_rfl) (by kernel_rfl) (fun _ _ _ h => h) (Or.inl ⟨by rfl, fun w hSw => (by obtain ⟨q0, q1, q2, q3, q4, q5, q6, q7, q8, q9, q10, q11, q12, q13, q14, q15, q16⟩ := hSw; go_simp; try with_reducible rfl)⟩) HS0 ?_
  simp only [Act.put, List.setIfInBounds_toArray, List.set_cons_zero, List.set_cons_succ]
  refine wpAnyT_takeAt (i := 2) 39 (v := ?_) rfl rfl (by kernel_rfl) (by kernel_rfl) (by kernel_rfl) (by kernel_rfl) (fun _ _ _ h => h) (Or.inl ⟨by rfl, fun w hSw => (by obtain ⟨q0, q1, q2, q3, q4, q5, q6, q7, q8, q9, q10, q11, q12, q13, q14, q15, q16⟩ := hSw; go_simp; try with_reducible rfl)⟩) HS0 ?_
  simp only [Act.put, List.setIfInBounds_toArray, List.set_cons_zero, List.set_cons_succ]
  refine wpAnyT_takeAt (i := 3) 40 (v := ?_) rfl rfl (by kernel_rfl) (by kernel_rfl) (by kernel_rfl) (by kernel_rfl) (fun _ _ _ h => h) (Or.inl ⟨by rfl, fun w hSw => (by obtain ⟨q0, q1, q2, q3, q4, q5, q6, q7, q8, q9, q10, q11, q12, q13, q14, q15, q16⟩ := hSw; go_simp; try with_reducible rfl)⟩) HS0 ?_
  simp only [Act.put, List.setIfInBounds_toArray, List.set_cons_zero, List.set_cons_succ]
  refine wpAnyT_takeAt (i := 4) 41 (v := ?_) rfl rfl (by kernel_rfl) (by kernel_rfl) (by kernel_rfl) (by kernel_rfl) (fun _ _ _ h => h) (Or.inl ⟨by rfl, fun w hSw => (by obtain ⟨q0, q1, q2, q3, q4, q5, q6, q7, q8, q9, q10, q11, q12, q13, q14, q15, q16⟩ := hSw; go_simp; try with_reducible rfl)⟩) HS0 ?_
  simp only [Act.put, List.setIfInBounds_toArray, List.set_cons_zero, List.set_cons_succ]
  refine wpAnyT_takeAt (i := 5) 42 (v := ?_) rfl rfl (by kernel_rfl) (by kernel_rfl) (by kernel_rfl) (by kernel_rfl) (fun _ _ _ h => h) (Or.inl ⟨by rfl, fun w hSw => (by obtain ⟨q0, q1, q2, q3, q4, q5, q6, q7, q8, q9, q10, q11, q12, q13, q14, q15, q16⟩ := hSw; go_simp; try with_reducible rfl)⟩) HS0 ?_
  simp only [Act.put, List.setIfInBounds_toArray, List.set_cons_zero, List.set_cons_succ]
  refine wpAnyT_takeAt (i := 6) 43 (v := ?_) rfl rfl (by kernel_rfl) (by kernel_rfl) (by kernel_rfl) (by kernel_rfl) (fun _ _ _ h => h) (Or.inl ⟨by rfl, fun w hSw => (by obtain ⟨q0, q1, q2, q3, q4, q5, q6, q7, q8, q9, q10, q11, q12, q13, q14, q15, q16⟩ := hSw; go_simp; try with_reducible rfl)⟩) HS0 ?_
  simp only [Act.put, List.setIfInBounds_toArray, List.set_cons_zero, List.set_cons_succ]
  refine wpAnyT_takeAt (i := 7) 44 (v := ?_) rfl rfl (by kernel_rfl) (by kernel_rfl) (by kernel_rfl) (by kernel_rfl) (fun _ _ _ h => h) (Or.inl ⟨by rfl, fun w hSw => (by obtain ⟨q0, q1, q2, q3, q4, q5, q6, q7, q8, q9, q10, q11, q12, q13, q14, q15, q16⟩ := hSw; go_simp; try with_reducible rfl)⟩) HS0 ?_
  simp only [Act.put, List.setIfInBounds_toArray, List.set_cons_zero, List.set_cons_succ]
  refine wpAnyT_takeAt (i := 8) 45 (v := ?_) rfl rfl (by kernel_rfl) (by kernel_rfl) (by kernel_rfl) (by kernel_rfl) (fun _ _ _ h => h) (Or.inl ⟨by rfl, fun w hSw => (by obtain ⟨q0, q1, q2, q3, q4, q5, q6, q7, q8, q9, q10, q11, q12, q13, q14, q15, q16⟩ := hSw; go_simp; try with_reducible rfl)⟩) HS0 ?_
  simp only [Act.put, List.setIfInBounds_toArray, List.set_cons_zero, List.set_cons_succ]
  refine wpAnyT_one (i := 9) rfl (by kernel_rfl) ?_
  intro K' HK
  go_simp
  refine HK.out _ _ (fun _ => HS1) ?_
  clear HK
  refine wpAnyT_one (i := 10) rfl (by kernel_rfl) ?_
  intro K' HK
  refine step_append_run rfl (.tmp 41) (.tmp 46) 57 rfl _ _ _ (by simp [Act.eval, Act.put]) (by simp [Act.eval, Act.put]) HR.out ?_
  refine HK.out _ _ (fun _ => HS2) ?_
  clear HK
  try simp only [Act.put, List.setIfInBounds_toArray, List.set_cons_zero, List.set_cons_succ]
  refine wpAnyT_one (i := 11) rfl (by kernel_rfl) ?_
  intro K' HK
  go_simp
  refine HK.out _ _ (fun _ => HS2) ?_
  clear HK
  try simp only [Act.put, List.setIfInBounds_toArray, List.set_cons_zero, List.set_cons_succ]
  refine wpAnyT_one (i := 12) rfl (by kernel_rfl) ?_
  intro K' HK
  go_simp
  refine HK.out _ _ (fun _ => HS2) ?_
  clear HK
  try simp only [Act.put, List.setIfInBounds_toArray, List.set_cons_zero, List.set_cons_succ]
  refine wpAnyT_one (i := 13) rfl (by kernel_rfl) ?_
  intro K' HK
  go_simp
  refine HK.out _ _ (fun h => absurd rfl h) ?_
  refine wpAnyT_done (by kernel_rfl) ?_ _
  clear HK HS0 HS1 HS2 SS hBX HR y9 z9 hkne hbk hkb9
  obtain ⟨W8, eW8⟩ : ∃ W8, W8 = w9.setCell ⟨kb, 0, none⟩ (.slice (some ⟨gX, 0, none⟩) (ls.length + 4) capX) := ⟨_, rfl⟩
  rw [← eW8] at hAk9 hFr9 ⊢
  obtain ⟨lv2, elv2⟩ : ∃ lv2, lv2 = Value.slice (some ⟨gX, 0, none⟩) (ls.length + 4) capX := ⟨_, rfl⟩
  rw [← elv2] at hAk9
  have H3 : Hd (Ak w W8 B own own5 p3 q1 r s (gs ++ [⟨.slice ka ma ca, .slice ua na ea, snR p.L⟩] ++ [⟨.slice kd md cd, .slice ud nd ed, snR p.L⟩] ++ [⟨.slice ke me ce, .slice ue ne ee, snR q.L⟩] ++ [⟨.slice kc mc cc, .slice uc nc ec, snR p.L⟩]) kb lv2 wv sum (ls ++ [(⟨.slice ka ma ca, .slice ua na ea, snR p.L⟩ : KR), (⟨.slice kd md cd, .slice ud nd ed, snR p.L⟩ : KR), (⟨.slice ke me ce, .slice ue ne ee, snR q.L⟩ : KR), (⟨.slice kc mc cc, .slice uc nc ec, snR p.L⟩ : KR)]) ws [(bz, rpO (.slice kz mz cz) (.slice uz nz ez)), (bx, rpO (.slice kx mx cx) (.slice ux nx ex)), (bc, rpO (.slice kc mc cc) (.slice uc nc ec)), (be, rpO (.slice ke me ce) (.slice ue ne ee)), (bd, rpO (.slice kd md cd) (.slice ud nd ed)), (ba, rpO (.slice ka ma ca) (.slice ua na ea)), (bo, opO)]) := hAk9
  have f78 : Fr (fun j => own4 j = 5 ∨ own4 j = 6 ∨ own4 j = 7) W7 W8 := (Fr.refl _ W7).drew.trans hFr9
  obtain ⟨rx1, rx2⟩ := HXX2.out.1.rowsOf
  obtain ⟨rz1, rz2⟩ := HYY.out.1.rowsOf
  have HW8 : Hd (∀ x ∈ [(⟨.slice kx mx cx, .slice ux nx ex, snR r.L⟩ : KR), (⟨.slice kx mx cx, .slice ux nx ex, snR r.L⟩ : KR), (⟨.slice kz mz cz, .slice uz nz ez, snR s.L⟩ : KR), (⟨.slice kx mx cx, .slice ux nx ex, snR r.L⟩ : KR)], RowAt W8.drew W8.drew.heap.size x.rk (kCells x.R.L) ∧ RowAt W8.drew W8.drew.heap.size x.ru (vCells x.R.L) ∧ (∀ j, x.rk.ownBlock = some j → own5 j = 0 ∧ j < W8.drew.heap.size) ∧ ∀ j, x.ru.ownBlock = some j → own5 j = 0 ∧ j < W8.drew.heap.size) := by
    have gx : RowAt W8.drew W8.drew.heap.size (.slice kx mx cx) (kCells r.L) ∧ RowAt W8.drew W8.drew.heap.size (.slice ux nx ex) (vCells r.L) ∧ (∀ j, (Value.slice kx mx cx).ownBlock = some j → own5 j = 0 ∧ j < W8.drew.heap.size) ∧ ∀ j, (Value.slice ux nx ex).ownBlock = some j → own5 j = 0 ∧ j < W8.drew.heap.size := by
      obtain ⟨-, a1, a2, a3⟩ := HXX2.out
      have hsz : W7.heap.size ≤ W8.drew.heap.size := f78.size
      exact ⟨(rx1.fr f78 a3 (fun j e e2 => by have := (a1 j e).1; omega)).mono (by omega), (rx2.fr f78 a3 (fun j e e2 => by have := (a2 j e).1; omega)).mono (by omega), fun j e => ⟨(hExt9 j (Nat.lt_of_lt_of_le (a1 j e).2 a3)).trans (a1 j e).1, Nat.lt_of_lt_of_le (a1 j e).2 (Nat.le_trans a3 hsz)⟩, fun j e => ⟨(hExt9 j (Nat.lt_of_lt_of_le (a2 j e).2 a3)).trans (a2 j e).1, Nat.lt_of_lt_of_le (a2 j e).2 (Nat.le_trans a3 hsz)⟩⟩
    have gz : RowAt W8.drew W8.drew.heap.size (.slice kz mz cz) (kCells s.L) ∧ RowAt W8.drew W8.drew.heap.size (.slice uz nz ez) (vCells s.L) ∧ (∀ j, (Value.slice kz mz cz).ownBlock = some j → own5 j = 0 ∧ j < W8.drew.heap.size) ∧ ∀ j, (Value.slice uz nz ez).ownBlock = some j → own5 j = 0 ∧ j < W8.drew.heap.size := by
      obtain ⟨-, a1, a2, a3⟩ := HYY.out
      have hsz : W7.heap.size ≤ W8.drew.heap.size := f78.size
      exact ⟨(rz1.fr f78 a3 (fun j e e2 => by have := (a1 j e).1; omega)).mono (by omega), (rz2.fr f78 a3 (fun j e e2 => by have := (a2 j e).1; omega)).mono (by omega), fun j e => ⟨(hExt9 j (Nat.lt_of_lt_of_le (a1 j e).2 a3)).trans (a1 j e).1, Nat.lt_of_lt_of_le (a1 j e).2 (Nat.le_trans a3 hsz)⟩, fun j e => ⟨(hExt9 j (Nat.lt_of_lt_of_le (a2 j e).2 a3)).trans (a2 j e).1, Nat.lt_of_lt_of_le (a2 j e).2 (Nat.le_trans a3 hsz)⟩⟩
    intro x hx
    simp at hx
    rcases hx with rfl | rfl | rfl
    · exact gx
    · exact gz
    · exact gx
  have HMX : Hd (mx = r.L.length ∧ mz = s.L.length) := by
    obtain ⟨a1, c1, q1', -⟩ := rx1
    obtain ⟨a2, c2, q2', -⟩ := rz1
    injection q1' with _ q1' _
    injection q2' with _ q2' _
    rw [kLen] at q1' q2'
    exact ⟨q1', q2'⟩
  clear hAk9 hFr9 hExt9 f78 rx1 rx2 rz1 rz2 eW8 elv2 H2 HD HXX2 HYY
  go_upto_region 9 with fail
  have SS : ∀ W : World, W.heap[kb]? = some (.cells #[lv2, wv, vI sum] 59) → W.heap[bx]? = some (rpO (.slice kx mx cx) (.slice ux nx ex)) ∧ W.heap[bz]? = some (rpO (.slice kz mz cz) (.slice uz nz ez)) → (fun w' : World => w'.cell? ⟨kb, 1, none⟩ = some wv ∧ w'.cell? ⟨bx, 0, none⟩ = some (.bool true) ∧ w'.cell? ⟨bx, 1, none⟩ = some (.string ⟨#[]⟩) ∧ w'.cell? ⟨bx, 2, none⟩ = some (.slice kx mx cx) ∧ w'.cell? ⟨bx, 3, none⟩ = some (.slice ux nx ex) ∧ w'.cell? ⟨bz, 0, none⟩ = some (.bool true) ∧ w'.cell? ⟨bz, 1, none⟩ = some (.string ⟨#[]⟩) ∧ w'.cell? ⟨bz, 2, none⟩ = some (.slice kz mz cz) ∧ w'.cell? ⟨bz, 3, none⟩ = some (.slice uz nz ez)) W := fun W hk hb => by
    obtain ⟨gx, gz⟩ := hb
    exact ⟨cell_of hk 1, (cells4 gx).1, (cells4 gx).2.1, (cells4 gx).2.2.1, (cells4 gx).2.2.2, (cells4 gz).1, (cells4 gz).2.1, (cells4 gz).2.2.1, (cells4 gz).2.2.2⟩
  have HD : Hd (Ak w W8.drew B own own5 p3 q1 r s (gs ++ [⟨.slice ka ma ca, .slice ua na ea, snR p.L⟩] ++ [⟨.slice kd md cd, .slice ud nd ed, snR p.L⟩] ++ [⟨.slice ke me ce, .slice ue ne ee, snR q.L⟩] ++ [⟨.slice kc mc cc, .slice uc nc ec, snR p.L⟩]) kb lv2 wv sum (ls ++ [(⟨.slice ka ma ca, .slice ua na ea, snR p.L⟩ : KR), (⟨.slice kd md cd, .slice ud nd ed, snR p.L⟩ : KR), (⟨.slice ke me ce, .slice ue ne ee, snR q.L⟩ : KR), (⟨.slice kc mc cc, .slice uc nc ec, snR p.L⟩ : KR)]) ws [(bz, rpO (.slice kz mz cz) (.slice uz nz ez)), (bx, rpO (.slice kx mx cx) (.slice ux nx ex)), (bc, rpO (.slice kc mc cc) (.slice uc nc ec)), (be, rpO (.slice ke me ce) (.slice ue ne ee)), (bd, rpO (.slice kd md cd) (.slice ud nd ed)), (ba, rpO (.slice ka ma ca) (.slice ua na ea)), (bo, opO)]) := H3.out.quiet ((Fr.refl _ _).drew)
  have hBX : W8.heap[bx]? = some (rpO (.slice kx mx cx) (.slice ux nx ex)) ∧ W8.heap[bz]? = some (rpO (.slice kz mz cz) (.slice uz nz ez)) := ⟨H3.out.loc.get (b := bx) (o := rpO (.slice kx mx cx) (.slice ux nx ex)) (by simp), H3.out.loc.get (b := bz) (o := rpO (.slice kz mz cz) (.slice uz nz ez)) (by simp)⟩
  have HS0 : (fun w' : World => w'.cell? ⟨kb, 1, none⟩ = some wv ∧ w'.cell? ⟨bx, 0, none⟩ = some (.bool true) ∧ w'.cell? ⟨bx, 1, none⟩ = some (.string ⟨#[]⟩) ∧ w'.cell? ⟨bx, 2, none⟩ = some (.slice kx mx cx) ∧ w'.cell? ⟨bx, 3, none⟩ = some (.slice ux nx ex) ∧ w'.cell? ⟨bz, 0, none⟩ = some (.bool true) ∧ w'.cell? ⟨bz, 1, none⟩ = some (.string ⟨#[]⟩) ∧ w'.cell? ⟨bz, 2, none⟩ = some (.slice kz mz cz) ∧ w'.cell? ⟨bz, 3, none⟩ = some (.slice uz nz ez)) W8.drew := SS _ H3.out.kp.obj hBX
  have HS1 : (fun w' : World => w'.cell? ⟨kb, 1, none⟩ = some wv ∧ w'.cell? ⟨bx, 0, none⟩ = some (.bool true) ∧ w'.cell? ⟨bx, 1, none⟩ = some (.string ⟨#[]⟩) ∧ w'.cell? ⟨bx, 2, none⟩ = some (.slice kx mx cx) ∧ w'.cell? ⟨bx, 3, none⟩ = some (.slice ux nx ex) ∧ w'.cell? ⟨bz, 0, none⟩ = some (.bool true) ∧ w'.cell? ⟨bz, 1, none⟩ = some (.string ⟨#[]⟩) ∧ w'.cell? ⟨bz, 2, none⟩ = some (.slice kz mz cz) ∧ w'.cell? ⟨bz, 3, none⟩ = some (.slice uz nz ez)) (W8.alloc (.cells #[.bool true, .string ⟨#[]⟩, .slice kx mx cx, .slice ux nx ex, .bool true, .string ⟨#[]⟩, .slice kx mx cx, .slice ux nx ex, .bool true, .string ⟨#[]⟩, .slice kz mz cz, .slice uz nz ez, .bool true, .string ⟨#[]⟩, .slice kx mx cx, .slice ux nx ex] 43)).drew := SS _ ((Go.RowKit.Below.heap_alloc W8 _ kb (heap_lt H3.out.kp.obj)).trans H3.out.kp.obj) ⟨(Go.RowKit.Below.heap_alloc W8 _ bx (heap_lt (hBX.1))).trans hBX.1, (Go.RowKit.Below.heap_alloc W8 _ bz (heap_lt (hBX.2))).trans hBX.2⟩
  obtain ⟨gX, capX, w9, own6, hrun, hkb9, hAk9, hExt9, hFr9⟩ := HD.out.growW HB.out [(⟨.slice kx mx cx, .slice ux nx ex, snR r.L⟩ : KR), (⟨.slice kx mx cx, .slice ux nx ex, snR r.L⟩ : KR), (⟨.slice kz mz cz, .slice uz nz ez, snR s.L⟩ : KR), (⟨.slice kx mx cx, .slice ux nx ex, snR r.L⟩ : KR)] rfl (by intro x hx; simp at hx; rcases hx with rfl | rfl | rfl <;> exact ⟨⟨_, _, _, rfl⟩, ⟨_, _, _, rfl⟩⟩) (by omega) HW8.out
  have HR : Hd ((Builtin.append_ #[57, 57] 57 #[wv, .slice (some ⟨W8.heap.size, 0, none⟩) 4 4]).run Try.prog (W8.alloc (.cells #[.bool true, .string ⟨#[]⟩, .slice kx mx cx, .slice ux nx ex, .bool true, .string ⟨#[]⟩, .slice kx mx cx, .slice ux nx ex, .bool true, .string ⟨#[]⟩, .slice kz mz cz, .slice uz nz ez, .bool true, .string ⟨#[]⟩, .slice kx mx cx, .slice ux nx ex] 43)).drew = .ok (.slice (some ⟨gX, 0, none⟩) (ws.length + 4) capX) w9) := hrun
  have hkne : ∀ b, b ≠ kb → (w9.setCell ⟨kb, 1, none⟩ (.slice (some ⟨gX, 0, none⟩) (ws.length + 4) capX)).heap[b]? = w9.heap[b]? := fun b hb => Go.RowKit.Below.heap_setCell w9 _ _ b (fun e => hb e)
  have hbk : ∀ b o, (b, o) ∈ [(bz, rpO (.slice kz mz cz) (.slice uz nz ez)), (bx, rpO (.slice kx mx cx) (.slice ux nx ex)), (bc, rpO (.slice kc mc cc) (.slice uc nc ec)), (be, rpO (.slice ke me ce) (.slice ue ne ee)), (bd, rpO (.slice kd md cd) (.slice ud nd ed)), (ba, rpO (.slice ka ma ca) (.slice ua na ea)), (bo, opO)] → b ≠ kb := fun b o hx e => by
    have h1 := (HD.out.loc (b, o) hx).2
    have h2 := HD.out.kp.ob
    simp only at h1
    rw [e, h2] at h1
    omega
  have HS2 : (fun w' : World => w'.cell? ⟨kb, 1, none⟩ = some wv ∧ w'.cell? ⟨bx, 0, none⟩ = some (.bool true) ∧ w'.cell? ⟨bx, 1, none⟩ = some (.string ⟨#[]⟩) ∧ w'.cell? ⟨bx, 2, none⟩ = some (.slice kx mx cx) ∧ w'.cell? ⟨bx, 3, none⟩ = some (.slice ux nx ex) ∧ w'.cell? ⟨bz, 0, none⟩ = some (.bool true) ∧ w'.cell? ⟨bz, 1, none⟩ = some (.string ⟨#[]⟩) ∧ w'.cell? ⟨bz, 2, none⟩ = some (.slice kz mz cz) ∧ w'.cell? ⟨bz, 3, none⟩ = some (.slice uz nz ez)) w9 := SS _ hkb9 ⟨(hkne bx (hbk bx (rpO (.slice kx mx cx) (.slice ux nx ex)) (by simp))).symm.trans (hAk9.loc.get (b := bx) (o := rpO (.slice kx mx cx) (.slice ux nx ex)) (by simp)), (hkne bz (hbk bz (rpO (.slice kz mz cz) (.slice uz nz ez)) (by simp))).symm.trans (hAk9.loc.get (b := bz) (o := rpO (.slice kz mz cz) (.slice uz nz ez)) (by simp))⟩
  have y9 : w9.cell? ⟨kb, 1, none⟩ = some wv := cell_of hkb9 1
  have z9 : w9.frozen? ⟨kb, 1, none⟩ = false := frozen_of hkb9 1
  refine wp_region_T (S := (fun w' : World => w'.cell? ⟨kb, 1, none⟩ = some wv ∧ w'.cell? ⟨bx, 0, none⟩ = some (.bool true) ∧ w'.cell? ⟨bx, 1, none⟩ = some (.string ⟨#[]⟩) ∧ w'.cell? ⟨bx, 2, none⟩ = some (.slice kx mx cx) ∧ w'.cell? ⟨bx, 3, none⟩ = some (.slice ux nx ex) ∧ w'.cell? ⟨bz, 0, none⟩ = some (.bool true) ∧ w'.cell? ⟨bz, 1, none⟩ = some (.string ⟨#[]⟩) ∧ w'.cell? ⟨bz, 2, none⟩ = some (.slice kz mz cz) ∧ w'.cell? ⟨bz, 3, none⟩ = some (.slice uz nz ez))) (t := 13) mixed ?_
  refine wpAnyT_takeAt (i := 0) 50 (v := ?_) rfl rfl (by kernel_rfl) (by kernel_rfl) (by kernel_rfl) (by kernel_rfl) (fun _ _ _ h => h) (Or.inl ⟨by rfl, fun w hSw => (by obtain ⟨q0, q1, q2, q3, q4, q5, q6, q7, q8⟩ := hSw; go_simp; try with_reducible rfl)⟩) HS0 ?_
  simp only [Act.put, List.setIfInBounds_toArray, List.set_cons_zero, List.set_cons_succ]
  refine wpAnyT_takeAt (i := 1) 51 (v := ?_) rfl rfl (by kernel_rfl) (by kernel_rfl) (by kernel_rfl) (by kernel_rfl) (fun _ _ _ h => h) (Or.inl ⟨by rfl, fun w hSw => (by obtain ⟨q0, q1, q2, q3, q4, q5, q6, q7, q8⟩ := hSw; go_simp; try with_reducible rfl)⟩) HS0 ?_
  simp only [Act.put, List.setIfInBounds_toArray, List.set_cons_zero, List.set_cons_succ]
  refine wpAnyT_takeAt (i := 2) 52 (v := ?_) rfl rfl (by kernel_rfl) (by kernel_rfl) (by kernel_rfl) (by kernel_rfl) (fun _ _ _ h => h) (Or.inl ⟨by rfl, fun w hSw => (by obtain ⟨q0, q1, q2, q3, q4, q5, q6, q7, q8⟩ := hSw; go_simp; try with_reducible rfl)⟩) HS0 ?_
  simp only [Act.put, List.setIfInBounds_toArray, List.set_cons_zero, List.set_cons_succ]
  refine wpAnyT_takeAt (i := 3) 53 (v := ?_) rfl rfl (by kernel_rfl) (by kernel_rfl) (by kernel_rfl) (by kernel_rfl) (fun _ _ _ h => h) (Or.inl ⟨by rfl, fun w hSw => (by obtain ⟨q0, q1, q2, q3, q4, q5, q6, q7, q8⟩ := hSw; go_simp; try with_reducible rfl)⟩) HS0 ?_
  simp only [Act.put, List.setIfInBounds_toArray, List.set_cons_zero, List.set_cons_succ]
  refine wpAnyT_takeAt (i := 4) 54 (v := ?_) rfl rfl (by kernel_rfl) (by kernel_rfl) (by kernel_rfl) (by kernel_rfl) (fun _ _ _ h => h) (Or.inl ⟨by rfl, fun w hSw => (by obtain ⟨q0, q1, q2, q3, q4, q5, q6, q7, q8⟩ := hSw; go_simp; try with_reducible rfl)⟩) HS0 ?_
  simp only [Act.put, List.setIfInBounds_toArray, List.set_cons_zero, List.set_cons_succ]
  refine wpAnyT_takeAt (i := 5) 55 (v := ?_) rfl rfl (by kernel_rfl) (by kernel_rfl) (by kernel_rfl) (by kernel_rfl) (fun _ _ _ h => h) (Or.inl ⟨by rfl, fun w hSw => (by obtain ⟨q0, q1, q2, q3, q4, q5, q6, q7, q8⟩ := hSw; go_simp; try with_reducible rfl)⟩) HS0 ?_
  simp only [Act.put, List.setIfInBounds_toArray, List.set_cons_zero, List.set_cons_succ]
  refine wpAnyT_takeAt (i := 6) 56 (v := ?_) rfl rfl (by kernel_rfl) (by kernel_rfl) (by kernel_rfl) (by kernel_rfl) (fun _ _ _ h => h) (Or.inl ⟨by rfl, fun w hSw => (by obtain ⟨q0, q1, q2, q3, q4, q5, q6, q7, q8⟩ := hSw; go_simp; try with_reducible rfl)⟩) HS0 ?_
  simp only [Act.put, List.setIfInBounds_toArray, List.set_cons_zero, List.set_cons_succ]
  refine wpAnyT_takeAt (i := 7) 57 (v := ?_) rfl rfl (by kernel_rfl) (by kernel_rfl) (by kernel_rfl) (by kernel_rfl) (fun _ _ _ h => h) (Or.inl ⟨by rfl, fun w hSw => (by obtain ⟨q0, q1, q2, q3, q4, q5, q6, q7, q8⟩ := hSw; go_simp; try with_reducible rfl)⟩) HS0 ?_
  simp only [Act.put, List.setIfInBounds_toArray, List.set_cons_zero, List.set_cons_succ]
  refine wpAnyT_takeAt (i := 8) 58 (v := ?_) rfl rfl (by kernel_rfl) (by kernel_rfl) (by kernel_rfl) (by kernel_rfl) (fun _ _ _ h => h) (Or.inl ⟨by rfl, fun w hSw => (by obtain ⟨q0, q1, q2, q3, q4, q5, q6, q7, q8⟩ := hSw; go_simp; try with_reducible rfl)⟩) HS0 ?_
  simp only [Act.put, List.setIfInBounds_toArray, List.set_cons_zero, List.set_cons_succ]
  refine wpAnyT_one (i := 9) rfl (by kernel_rfl) ?_
  intro K' HK
  go_simp
  refine HK.out _ _ (fun _ => HS1) ?_
  clear HK
  refine wpAnyT_one (i := 10) rfl (by kernel_rfl) ?_
  intro K' HK
  refine step_append_run rfl (.tmp 54) (.tmp 59) 57 rfl _ _ _ (by simp [Act.eval, Act.put]) (by simp [Act.eval, Act.put]) HR.out ?_
  refine HK.out _ _ (fun _ => HS2) ?_
  clear HK
  try simp only [Act.put, List.setIfInBounds_toArray, List.set_cons_zero, List.set_cons_succ]
  refine wpAnyT_one (i := 11) rfl (by kernel_rfl) ?_
  intro K' HK
  go_simp
  refine HK.out _ _ (fun _ => HS2) ?_
  clear HK
  try simp only [Act.put, List.setIfInBounds_toArray, List.set_cons_zero, List.set_cons_succ]
  refine wpAnyT_one (i := 12) rfl (by kernel_rfl) ?_
  intro K' HK
  go_simp
  refine HK.out _ _ (fun _ => HS2) ?_
  clear HK
  try simp only [Act.put, List.setIfInBounds_toArray, List.set_cons_zero, List.set_cons_succ]
  refine wpAnyT_one (i := 13) rfl (by kernel_rfl) ?_
  intro K' HK
  go_simp
  refine HK.out _ _ (fun h => absurd rfl h) ?_
  refine wpAnyT_done (by kernel_rfl) ?_ _
  clear HK HS0 HS1 HS2 SS hBX HR y9 z9 hkne hbk hkb9
  obtain ⟨W9, eW9⟩ : ∃ W9, W9 = w9.setCell ⟨kb, 1, none⟩ (.slice (some ⟨gX, 0, none⟩) (ws.length + 4) capX) := ⟨_, rfl⟩
  rw [← eW9] at hAk9 hFr9 ⊢
  obtain ⟨wv2, ewv2⟩ : ∃ wv2, wv2 = Value.slice (some ⟨gX, 0, none⟩) (ws.length + 4) capX := ⟨_, rfl⟩
  rw [← ewv2] at hAk9
  have H4 : Hd (Ak w W9 B own own6 p3 q1 r s (gs ++ [⟨.slice ka ma ca, .slice ua na ea, snR p.L⟩] ++ [⟨.slice kd md cd, .slice ud nd ed, snR p.L⟩] ++ [⟨.slice ke me ce, .slice ue ne ee, snR q.L⟩] ++ [⟨.slice kc mc cc, .slice uc nc ec, snR p.L⟩]) kb lv2 wv2 sum (ls ++ [(⟨.slice ka ma ca, .slice ua na ea, snR p.L⟩ : KR), (⟨.slice kd md cd, .slice ud nd ed, snR p.L⟩ : KR), (⟨.slice ke me ce, .slice ue ne ee, snR q.L⟩ : KR), (⟨.slice kc mc cc, .slice uc nc ec, snR p.L⟩ : KR)]) (ws ++ [(⟨.slice kx mx cx, .slice ux nx ex, snR r.L⟩ : KR), (⟨.slice kx mx cx, .slice ux nx ex, snR r.L⟩ : KR), (⟨.slice kz mz cz, .slice uz nz ez, snR s.L⟩ : KR), (⟨.slice kx mx cx, .slice ux nx ex, snR r.L⟩ : KR)]) [(bz, rpO (.slice kz mz cz) (.slice uz nz ez)), (bx, rpO (.slice kx mx cx) (.slice ux nx ex)), (bc, rpO (.slice kc mc cc) (.slice uc nc ec)), (be, rpO (.slice ke me ce) (.slice ue ne ee)), (bd, rpO (.slice kd md cd) (.slice ud nd ed)), (ba, rpO (.slice ka ma ca) (.slice ua na ea)), (bo, opO)]) := hAk9
  have k2 : W9.cell? ⟨kb, 2, none⟩ = some (vI sum) := cell_of hAk9.kp.obj 2
  have z2 : W9.frozen? ⟨kb, 2, none⟩ = false := frozen_of hAk9.kp.obj 2
  have x2 := (cells4 (hAk9.loc.get (b := bx) (o := rpO (.slice kx mx cx) (.slice ux nx ex)) (by simp))).2.2.1
  have zz2 := (cells4 (hAk9.loc.get (b := bz) (o := rpO (.slice kz mz cz) (.slice uz nz ez)) (by simp))).2.2.1
  have hm1 : mx ≤ 3000000000 := by have := HMX.out; omega
  have hm2 : mz ≤ 3000000000 := by have := HMX.out; omega
  have H5 : Hd (Ak w ((W9.setCell ⟨kb, 2, none⟩ (.int .i64 ((sum : Int) + 3 * (mx : Int) + (mz : Int)))).drew) B own own6 p3 q1 r s (gs ++ [⟨.slice ka ma ca, .slice ua na ea, snR p.L⟩] ++ [⟨.slice kd md cd, .slice ud nd ed, snR p.L⟩] ++ [⟨.slice ke me ce, .slice ue ne ee, snR q.L⟩] ++ [⟨.slice kc mc cc, .slice uc nc ec, snR p.L⟩]) kb lv2 wv2 (sum + 3 * mx + mz) (ls ++ [(⟨.slice ka ma ca, .slice ua na ea, snR p.L⟩ : KR), (⟨.slice kd md cd, .slice ud nd ed, snR p.L⟩ : KR), (⟨.slice ke me ce, .slice ue ne ee, snR q.L⟩ : KR), (⟨.slice kc mc cc, .slice uc nc ec, snR p.L⟩ : KR)]) (ws ++ [(⟨.slice kx mx cx, .slice ux nx ex, snR r.L⟩ : KR), (⟨.slice kx mx cx, .slice ux nx ex, snR r.L⟩ : KR), (⟨.slice kz mz cz, .slice uz nz ez, snR s.L⟩ : KR), (⟨.slice kx mx cx, .slice ux nx ex, snR r.L⟩ : KR)]) [(bz, rpO (.slice kz mz cz) (.slice uz nz ez)), (bx, rpO (.slice kx mx cx) (.slice ux nx ex)), (bc, rpO (.slice kc mc cc) (.slice uc nc ec)), (be, rpO (.slice ke me ce) (.slice ue ne ee)), (bd, rpO (.slice kd md cd) (.slice ud nd ed)), (ba, rpO (.slice ka ma ca) (.slice ua na ea)), (bo, opO)]) := by
    have := (hAk9.quiet ((Fr.refl (fun _ => False) W9).drew)).setSum (sum + 3 * mx + mz)
    rw [show ((sum + 3 * mx + mz : Nat) : Int) = (sum : Int) + 3 * (mx : Int) + (mz : Int) by omega] at this
    exact this
  clear hAk9 hFr9 hExt9 eW9 ewv2 H3 HD HW8 H4
  go_upto_region 10 with fail
  go_region
  obtain ⟨W10, eW10⟩ : ∃ W10, W10 = (W9.setCell ⟨kb, 2, none⟩ (.int .i64 ((sum : Int) + 3 * (mx : Int) + (mz : Int)))).drew := ⟨_, rfl⟩
  rw [← eW10] at H5 ⊢
  clear eW10 k2 z2 x2 zz2
  have a0 := cells4 (H5.out.loc.get (b := ba) (o := rpO (.slice ka ma ca) (.slice ua na ea)) (by simp))
  have d0 := cells4 (H5.out.loc.get (b := bx) (o := rpO (.slice kx mx cx) (.slice ux nx ex)) (by simp))
  obtain ⟨s0, s1, s2, s3⟩ := a0
  obtain ⟨t0, t1, t2, t3⟩ := d0
  have heq : Calls Try.prog 19 #[.agg #[.bool true, .string ⟨#[]⟩, .slice ka ma ca, .slice ua na ea], .agg #[.bool true, .string ⟨#[]⟩, .slice kx mx cx, .slice ux nx ex]] W10 fun e w' => e = .returned (.bool true) ∧ Fr (fun _ => False) W10 w' := by
    have ha := H5.out.sy.mem (x := ⟨.slice ka ma ca, .slice ua na ea, snR p.L⟩) (by simp)
    have hd := H5.out.kp.mem (x := ⟨.slice kx mx cx, .slice ux nx ex, snR r.L⟩) (by simp)
    simp only at ha hd
    rw [HPQ.out.1] at ha
    exact eqReply_same W10 _ _ (snR r.L) _ _ ha hd (Nat.le_refl _) (Nat.le_refl _) (by show (r.L).length ≤ _; omega)
  go_wp2_with fail
  refine heq.mono ?_
  rintro _ V0 ⟨rfl, hf0⟩
  have H5n := H5.out.quiet hf0
  have HN0 : Hd (Ak w V0 B own own6 p3 q1 r s (gs ++ [⟨.slice ka ma ca, .slice ua na ea, snR p.L⟩] ++ [⟨.slice kd md cd, .slice ud nd ed, snR p.L⟩] ++ [⟨.slice ke me ce, .slice ue ne ee, snR q.L⟩] ++ [⟨.slice kc mc cc, .slice uc nc ec, snR p.L⟩]) kb lv2 wv2 (sum + 3 * mx + mz) (ls ++ [(⟨.slice ka ma ca, .slice ua na ea, snR p.L⟩ : KR), (⟨.slice kd md cd, .slice ud nd ed, snR p.L⟩ : KR), (⟨.slice ke me ce, .slice ue ne ee, snR q.L⟩ : KR), (⟨.slice kc mc cc, .slice uc nc ec, snR p.L⟩ : KR)]) (ws ++ [(⟨.slice kx mx cx, .slice ux nx ex, snR r.L⟩ : KR), (⟨.slice kx mx cx, .slice ux nx ex, snR r.L⟩ : KR), (⟨.slice kz mz cz, .slice uz nz ez, snR s.L⟩ : KR), (⟨.slice kx mx cx, .slice ux nx ex, snR r.L⟩ : KR)]) [(bz, rpO (.slice kz mz cz) (.slice uz nz ez)), (bx, rpO (.slice kx mx cx) (.slice ux nx ex)), (bc, rpO (.slice kc mc cc) (.slice uc nc ec)), (be, rpO (.slice ke me ce) (.slice ue ne ee)), (bd, rpO (.slice kd md cd) (.slice ud nd ed)), (ba, rpO (.slice ka ma ca) (.slice ua na ea)), (bo, opO)]) := H5n
  clear heq hf0 H5n H5 s0 s1 s2 s3 t0 t1 t2 t3
  have a1 := cells4 (HN0.out.loc.get (b := bd) (o := rpO (.slice kd md cd) (.slice ud nd ed)) (by simp))
  have d1 := cells4 (HN0.out.loc.get (b := bx) (o := rpO (.slice kx mx cx) (.slice ux nx ex)) (by simp))
  obtain ⟨s0, s1, s2, s3⟩ := a1
  obtain ⟨t0, t1, t2, t3⟩ := d1
  have heq : Calls Try.prog 19 #[.agg #[.bool true, .string ⟨#[]⟩, .slice kd md cd, .slice ud nd ed], .agg #[.bool true, .string ⟨#[]⟩, .slice kx mx cx, .slice ux nx ex]] V0 fun e w' => e = .returned (.bool true) ∧ Fr (fun _ => False) V0 w' := by
    have ha := HN0.out.sy.mem (x := ⟨.slice kd md cd, .slice ud nd ed, snR p.L⟩) (by simp)
    have hd := HN0.out.kp.mem (x := ⟨.slice kx mx cx, .slice ux nx ex, snR r.L⟩) (by simp)
    simp only at ha hd
    rw [HPQ.out.1] at ha
    exact eqReply_same V0 _ _ (snR r.L) _ _ ha hd (Nat.le_refl _) (Nat.le_refl _) (by show (r.L).length ≤ _; omega)
  go_wp2_with fail
  refine heq.mono ?_
  rintro _ V1 ⟨rfl, hf1⟩
  have HN0n := HN0.out.quiet hf1
  have HN1 : Hd (Ak w V1 B own own6 p3 q1 r s (gs ++ [⟨.slice ka ma ca, .slice ua na ea, snR p.L⟩] ++ [⟨.slice kd md cd, .slice ud nd ed, snR p.L⟩] ++ [⟨.slice ke me ce, .slice ue ne ee, snR q.L⟩] ++ [⟨.slice kc mc cc, .slice uc nc ec, snR p.L⟩]) kb lv2 wv2 (sum + 3 * mx + mz) (ls ++ [(⟨.slice ka ma ca, .slice ua na ea, snR p.L⟩ : KR), (⟨.slice kd md cd, .slice ud nd ed, snR p.L⟩ : KR), (⟨.slice ke me ce, .slice ue ne ee, snR q.L⟩ : KR), (⟨.slice kc mc cc, .slice uc nc ec, snR p.L⟩ : KR)]) (ws ++ [(⟨.slice kx mx cx, .slice ux nx ex, snR r.L⟩ : KR), (⟨.slice kx mx cx, .slice ux nx ex, snR r.L⟩ : KR), (⟨.slice kz mz cz, .slice uz nz ez, snR s.L⟩ : KR), (⟨.slice kx mx cx, .slice ux nx ex, snR r.L⟩ : KR)]) [(bz, rpO (.slice kz mz cz) (.slice uz nz ez)), (bx, rpO (.slice kx mx cx) (.slice ux nx ex)), (bc, rpO (.slice kc mc cc) (.slice uc nc ec)), (be, rpO (.slice ke me ce) (.slice ue ne ee)), (bd, rpO (.slice kd md cd) (.slice ud nd ed)), (ba, rpO (.slice ka ma ca) (.slice ua na ea)), (bo, opO)]) := HN0n
  clear heq hf1 HN0n HN0 s0 s1 s2 s3 t0 t1 t2 t3
  have a2 := cells4 (HN1.out.loc.get (b := be) (o := rpO (.slice ke me ce) (.slice ue ne ee)) (by simp))
  have d2 := cells4 (HN1.out.loc.get (b := bz) (o := rpO (.slice kz mz cz) (.slice uz nz ez)) (by simp))
  obtain ⟨s0, s1, s2, s3⟩ := a2
  obtain ⟨t0, t1, t2, t3⟩ := d2
  have heq : Calls Try.prog 19 #[.agg #[.bool true, .string ⟨#[]⟩, .slice ke me ce, .slice ue ne ee], .agg #[.bool true, .string ⟨#[]⟩, .slice kz mz cz, .slice uz nz ez]] V1 fun e w' => e = .returned (.bool true) ∧ Fr (fun _ => False) V1 w' := by
    have ha := HN1.out.sy.mem (x := ⟨.slice ke me ce, .slice ue ne ee, snR q.L⟩) (by simp)
    have hd := HN1.out.kp.mem (x := ⟨.slice kz mz cz, .slice uz nz ez, snR s.L⟩) (by simp)
    simp only at ha hd
    rw [HPQ.out.2] at ha
    exact eqReply_same V1 _ _ (snR s.L) _ _ ha hd (Nat.le_refl _) (Nat.le_refl _) (by show (s.L).length ≤ _; omega)
  go_wp2_with fail
  refine heq.mono ?_
  rintro _ V2 ⟨rfl, hf2⟩
  have HN1n := HN1.out.quiet hf2
  have HN2 : Hd (Ak w V2 B own own6 p3 q1 r s (gs ++ [⟨.slice ka ma ca, .slice ua na ea, snR p.L⟩] ++ [⟨.slice kd md cd, .slice ud nd ed, snR p.L⟩] ++ [⟨.slice ke me ce, .slice ue ne ee, snR q.L⟩] ++ [⟨.slice kc mc cc, .slice uc nc ec, snR p.L⟩]) kb lv2 wv2 (sum + 3 * mx + mz) (ls ++ [(⟨.slice ka ma ca, .slice ua na ea, snR p.L⟩ : KR), (⟨.slice kd md cd, .slice ud nd ed, snR p.L⟩ : KR), (⟨.slice ke me ce, .slice ue ne ee, snR q.L⟩ : KR), (⟨.slice kc mc cc, .slice uc nc ec, snR p.L⟩ : KR)]) (ws ++ [(⟨.slice kx mx cx, .slice ux nx ex, snR r.L⟩ : KR), (⟨.slice kx mx cx, .slice ux nx ex, snR r.L⟩ : KR), (⟨.slice kz mz cz, .slice uz nz ez, snR s.L⟩ : KR), (⟨.slice kx mx cx, .slice ux nx ex, snR r.L⟩ : KR)]) [(bz, rpO (.slice kz mz cz) (.slice uz nz ez)), (bx, rpO (.slice kx mx cx) (.slice ux nx ex)), (bc, rpO (.slice kc mc cc) (.slice uc nc ec)), (be, rpO (.slice ke me ce) (.slice ue ne ee)), (bd, rpO (.slice kd md cd) (.slice ud nd ed)), (ba, rpO (.slice ka ma ca) (.slice ua na ea)), (bo, opO)]) := HN1n
  clear heq hf2 HN1n HN1 s0 s1 s2 s3 t0 t1 t2 t3
  have a3 := cells4 (HN2.out.loc.get (b := bc) (o := rpO (.slice kc mc cc) (.slice uc nc ec)) (by simp))
  have d3 := cells4 (HN2.out.loc.get (b := bx) (o := rpO (.slice kx mx cx) (.slice ux nx ex)) (by simp))
  obtain ⟨s0, s1, s2, s3⟩ := a3
  obtain ⟨t0, t1, t2, t3⟩ := d3
  have heq : Calls Try.prog 19 #[.agg #[.bool true, .string ⟨#[]⟩, .slice kc mc cc, .slice uc nc ec], .agg #[.bool true, .string ⟨#[]⟩, .slice kx mx cx, .slice ux nx ex]] V2 fun e w' => e = .returned (.bool true) ∧ Fr (fun _ => False) V2 w' := by
    have ha := HN2.out.sy.mem (x := ⟨.slice kc mc cc, .slice uc nc ec, snR p.L⟩) (by simp)
    have hd := HN2.out.kp.mem (x := ⟨.slice kx mx cx, .slice ux nx ex, snR r.L⟩) (by simp)
    simp only at ha hd
    rw [HPQ.out.1] at ha
    exact eqReply_same V2 _ _ (snR r.L) _ _ ha hd (Nat.le_refl _) (Nat.le_refl _) (by show (r.L).length ≤ _; omega)
  go_wp2_with fail
  refine heq.mono ?_
  rintro _ V3 ⟨rfl, hf3⟩
  have HN2n := HN2.out.quiet hf3
  have HN3 : Hd (Ak w V3 B own own6 p3 q1 r s (gs ++ [⟨.slice ka ma ca, .slice ua na ea, snR p.L⟩] ++ [⟨.slice kd md cd, .slice ud nd ed, snR p.L⟩] ++ [⟨.slice ke me ce, .slice ue ne ee, snR q.L⟩] ++ [⟨.slice kc mc cc, .slice uc nc ec, snR p.L⟩]) kb lv2 wv2 (sum + 3 * mx + mz) (ls ++ [(⟨.slice ka ma ca, .slice ua na ea, snR p.L⟩ : KR), (⟨.slice kd md cd, .slice ud nd ed, snR p.L⟩ : KR), (⟨.slice ke me ce, .slice ue ne ee, snR q.L⟩ : KR), (⟨.slice kc mc cc, .slice uc nc ec, snR p.L⟩ : KR)]) (ws ++ [(⟨.slice kx mx cx, .slice ux nx ex, snR r.L⟩ : KR), (⟨.slice kx mx cx, .slice ux nx ex, snR r.L⟩ : KR), (⟨.slice kz mz cz, .slice uz nz ez, snR s.L⟩ : KR), (⟨.slice kx mx cx, .slice ux nx ex, snR r.L⟩ : KR)]) [(bz, rpO (.slice kz mz cz) (.slice uz nz ez)), (bx, rpO (.slice kx mx cx) (.slice ux nx ex)), (bc, rpO (.slice kc mc cc) (.slice uc nc ec)), (be, rpO (.slice ke me ce) (.slice ue ne ee)), (bd, rpO (.slice kd md cd) (.slice ud nd ed)), (ba, rpO (.slice ka ma ca) (.slice ua na ea)), (bo, opO)]) := HN2n
  clear heq hf3 HN2n HN2 s0 s1 s2 s3 t0 t1 t2 t3
  go_wp2_with fail
  go_ret
  refine ⟨rfl, own6, p3, q1, lv2, wv2, ⟨.slice ka ma ca, .slice ua na ea, snR p.L⟩, ⟨.slice kd md cd, .slice ud nd ed, snR p.L⟩, ⟨.slice ke me ce, .slice ue ne ee, snR q.L⟩, ⟨.slice kc mc cc, .slice uc nc ec, snR p.L⟩, ⟨.slice kx mx cx, .slice ux nx ex, snR r.L⟩, ⟨.slice kz mz cz, .slice uz nz ez, snR s.L⟩, [(bz, rpO (.slice kz mz cz) (.slice uz nz ez)), (bx, rpO (.slice kx mx cx) (.slice ux nx ex)), (bc, rpO (.slice kc mc cc) (.slice uc nc ec)), (be, rpO (.slice ke me ce) (.slice ue ne ee)), (bd, rpO (.slice kd md cd) (.slice ud nd ed)), (ba, rpO (.slice ka ma ca) (.slice ua na ea)), (bo, opO)], ?_, HP.out.1, HP.out.2.1, HP.out.2.2, HQ.out.1, HQ.out.2.1, HQ.out.2.2, ?_, ?_, ?_, ?_, ?_, ?_⟩
  rotate_left
  all_goals first | rfl | (show snR p.L = snR r.L; rw [HPQ.out.1]) | (show snR q.L = snR s.L; rw [HPQ.out.2]) | skip
  have := HN3.out
  have esum : sum + 3 * mx + mz = sum + 3 * r.L.length + s.L.length := by rw [HMX.out.1, HMX.out.2]
  rw [esum] at this
  exact this
end Go.Proofs.Ytgcekpmkniipfaa
