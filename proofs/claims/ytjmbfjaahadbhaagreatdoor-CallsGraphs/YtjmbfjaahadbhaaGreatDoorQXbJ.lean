import Derived.Test.YtjmbfjaahadbhaaGreatDoorQYcJ
import Derived.Test.YtjmbfjaahadbhaaGreatDoorQIbJ
set_option linter.unusedVariables false
set_option linter.unusedSimpArgs false
namespace Go.Proofs.YtjmbfjaahadbhaaGreatDoor
open Go.RowKit (wrap32 wrap64)

/-- Instructions of one's own, whose lists have marks behind them. -/
structure SpC (w : World) (B : Nat) (v : Value) (L : List CI) (k : Nat) : Prop where
  row : w.ownsRow B 43 7 v L.length (L.flatMap rowI)
  ints : ∀ x ∈ L.take k, SpI w B x.2.1 x.1.args (-100) ∧ SpI w B x.2.2 x.1.rets (-300)
theorem SpI.apart {w : World} {B B' e sz n : Nat} {v u : Value} {xs : List Value} {l : List Int} {m : Int} (h : w.ownsRow B e sz v n xs) (k : SpI w B' u l m) (he : e ≠ 3) : ∀ j, u.ownBlock = some j → v.ownBlock ≠ some j := by
  obtain ⟨g, cap, rfl, -, k⟩ := k
  exact fun j e => own_apart h k he j e
theorem SpC.fr {S : Nat → Prop} {w w' : World} {B : Nat} {v : Value} {L : List CI} {k : Nat} (h : SpC w B v L k) (f : Fr S w w') (h1 : ∀ k, v.ownBlock = some k → ¬ S k) (h2 : ∀ x ∈ L.take k, ∀ k, (x.2.1.ownBlock = some k ∨ x.2.2.ownBlock = some k) → ¬ S k) : SpC w' B v L k :=
  ⟨ownsRow_frL h.row f h1, fun x hx => ⟨(h.ints x hx).1.fr f (fun k e => h2 x hx k (Or.inl e)), (h.ints x hx).2.fr f (fun k e => h2 x hx k (Or.inr e))⟩⟩
theorem SpC.stay {w w' : World} {B : Nat} {v : Value} {L : List CI} {k : Nat} (h : SpC w B v L k) (f : Fr (fun _ => False) w w') : SpC w' B v L k := h.fr f (fun _ _ e => e) (fun _ _ _ _ e => e)
theorem SpC.mono {w : World} {B B' : Nat} {v : Value} {L : List CI} {k : Nat} (h : SpC w B v L k) (hB : B' ≤ B) : SpC w B' v L k := ⟨World.ownsRow.mono h.row hB, fun x hx => ⟨(h.ints x hx).1.mono hB, (h.ints x hx).2.mono hB⟩⟩
/-- What lies from B on stays where what lies ahead of B is written. -/
theorem SpC.up {S : Nat → Prop} {w w' : World} {B : Nat} {v : Value} {L : List CI} {k : Nat} (h : SpC w B v L k) (f : Fr S w w') (hS : ∀ k, B ≤ k → ¬ S k) : SpC w' B v L k :=
  h.fr f (fun k e => hS k (World.ownsRow.lt h.row k e).1) (fun x hx k e => by
    rcases e with e | e
    · exact hS k ((h.ints x hx).1.ge k e).1
    · exact hS k ((h.ints x hx).2.ge k e).1)
abbrev mkI (k : Nat) : CI := (⟨-75 - (k : Int), 0, 0, 0, 0, [], []⟩, .slice none 0 0, .slice none 0 0)
def mkC (k : Nat) : List CI := (List.range k).map mkI
theorem mkC_len (k : Nat) : (mkC k).length = k := by simp [mkC]
theorem mkC_succ (k : Nat) : mkC (k + 1) = mkC k ++ [mkI k] := by simp [mkC, List.range_succ]
/-- A code of one's own, with 64 marks behind. -/
def SpK (w : World) (B : Nat) (v : Value) (cs : List PI) : Prop :=
  ∃ g cap L, v = .slice (some ⟨g, 0, none⟩) cs.length cap ∧ cs.length + 64 ≤ cap ∧ L.map (·.1) = cs ∧ SpC w B (.slice (some ⟨g, 0, none⟩) (cs.length + 64) cap) (L ++ mkC 64) cs.length

set_option maxRecDepth 100000 in
set_option maxHeartbeats 2000000 in
theorem spareFunc_any (f : PF) (x : Value) (w : World) (h1 : CA w x f.code) (hn : f.code.length ≤ 3000000000) (hl : ∀ c ∈ f.code, c.args.length ≤ 3000000000 ∧ c.rets.length ≤ 3000000000) :
    Calls Tryz.prog 14 #[.agg #[vI f.P, vI f.R, vI f.V, x]] w fun e w' => ∃ x', e = .returned (.agg #[vI f.P, vI f.R, vI f.V, x']) ∧ SpK w' w.heap.size x' f.code ∧ Fr (fun _ => False) w w' := by
  obtain ⟨a1, b1, e1, h0⟩ := id h1
  obtain ⟨i7, hi7, hz7, hs7, hb7⟩ := info_parts (P := Tryz.prog) (e := 43) (z := .agg #[vI 0, vI 0, vI 0, vI 0, vI 0, .slice none 0 0, .slice none 0 0]) (size := 7) (bytes := 88) (by kernel_rfl)
  obtain ⟨wa, hwa⟩ : ∃ wa, wa = (w.alloc (.cells #[vI f.P, vI f.R, vI f.V, x] 41)).alloc (.cells #[vI 0, vI 0, vI 0, .slice none 0 0] 41) := ⟨_, rfl⟩
  have hF : Fr (fun _ => False) w wa := by rw [hwa]; exact Fr.alloc (Fr.alloc (Fr.refl _ w) _) _
  have hsz : wa.heap.size = w.heap.size + 2 := by rw [hwa]; simp
  have b1' : wa.heap[w.heap.size]? = some (.cells #[vI f.P, vI f.R, vI f.V, x] 41) := by
    rw [hwa, Go.RowKit.Below.heap_alloc _ _ _ (by simp)]; exact heap_new w _
  have b2' : wa.heap[w.heap.size + 1]? = some (.cells #[vI 0, vI 0, vI 0, .slice none 0 0] 41) := by
    rw [hwa, show w.heap.size + 1 = (w.alloc (.cells #[vI f.P, vI f.R, vI f.V, x] 41)).heap.size by simp]; exact heap_new _ _
  have HWA : Hd (wa = (w.alloc (.cells #[vI f.P, vI f.R, vI f.V, x] 41)).alloc (.cells #[vI 0, vI 0, vI 0, .slice none 0 0] 41)) := hwa
  have HF : Hd (Fr (fun _ => False) w wa) := hF
  have H0 : Hd (f.code ≠ [] → _) := h0
  obtain ⟨cs, hcs⟩ : ∃ cs, cs = f.code := ⟨_, rfl⟩
  have HCS : Hd (cs = f.code) := hcs
  rw [← hcs] at H0 hn hl e1
  have HLI : Hd (∀ c ∈ cs, c.args.length ≤ 3000000000 ∧ c.rets.length ≤ 3000000000) := hl
  obtain ⟨H, hH⟩ : ∃ H, H = w.heap.size := ⟨_, rfl⟩
  have HH : Hd (H = w.heap.size) := hH
  have HSZ : Hd (wa.heap.size = H + 2) := by rw [hH]; exact hsz
  rw [← hH] at b1' b2'
  have B1 : Hd (wa.heap[H]? = some (.cells #[vI f.P, vI f.R, vI f.V, x] 41)) := b1'
  have B2 : Hd (wa.heap[H + 1]? = some (.cells #[vI 0, vI 0, vI 0, .slice none 0 0] 41)) := b2'
  subst e1
  clear h1 hF hsz hwa hH b1' b2' h0 hl hcs
  go_enter Tryz.func14, Tryz.ntmps14
  go_upto_region 1 with fail
  rw [← HWA.out, ← HH.out]
  clear HWA
  go_wp2_with fail
  go_loopw [3, 4] (fun mv v wr => ∃ (k : Nat) (L : List CI), v = .int .i64 k ∧ k ≤ cs.length ∧ Hd (SpC wr (H + 2) mv L k) ∧ Hd (L.map (·.1) = cs.take k) ∧ Hd (wr.heap[H]? = some (.cells #[vI f.P, vI f.R, vI f.V, .slice a1 cs.length b1] 41)) ∧ Hd (wr.heap[H + 1]? = some (.cells #[vI 0, vI 0, vI 0, .slice none 0 0] 41)) ∧ Hd (Fr (fun _ => False) w wr)) (fun _ v _ => match v with | .int _ q => cs.length - q.toNat | _ => 0)
  case atStart => exact ⟨0, [], rfl, Nat.zero_le _, ⟨World.ownsRow_nil _ _ _ _, fun x hx => by simp at hx⟩, rfl, B1.out, B2.out, HF.out⟩
  case round =>
    clear B1 B2 HF
    obtain ⟨k, L, rfl, hk, HO, HM, B1, B2, HF⟩ := hrel
    have q3 : wr.cell? ⟨H, 3, none⟩ = some (.slice a1 cs.length b1) := by rw [cell_of B1.out]; rfl
    by_cases hlt : k < cs.length
    · have hne : cs ≠ [] := by intro e; simp [e] at hlt
      obtain ⟨k1, o1, rfl, hk1, g1⟩ := H0.out hne
      obtain ⟨x1, y1, p0, p1, p2, p3, p4, p5, p6, ix1, iy1⟩ := g1 k hlt
      have m1 := fun o => HF.out.cell (o := o) hk1 (fun h => h)
      have p0 := (m1 _).trans p0
      have p1 := (m1 _).trans p1
      have p2 := (m1 _).trans p2
      have p3 := (m1 _).trans p3
      have p4 := (m1 _).trans p4
      have p5 := (m1 _).trans p5
      have p6 := (m1 _).trans p6
      have X1 : Hd (IA w x1 cs[k].args) := ix1
      have Y1 : Hd (IA w y1 cs[k].rets) := iy1
      have HC : Hd (cs[k].args.length ≤ 3000000000 ∧ cs[k].rets.length ≤ 3000000000) := HLI.out _ (List.getElem_mem hlt)
      have HT : Hd (cs.take (k + 1) = cs.take k ++ [cs[k]]) := by unfold Hd; rw [List.take_add_one, List.getElem?_eq_getElem hlt]; rfl
      have HLL : Hd (L.length = k) := by have := congrArg List.length HM.out; simp at this; unfold Hd; omega
      generalize cs[k] = c at *
      obtain ⟨a, b, e1, -⟩ := ix1
      obtain ⟨a', b', e2, -⟩ := iy1
      subst e1; subst e2
      have hk0 : (0 : Int) ≤ k := by omega
      have hk3 : (k : Int) < cs.length := by omega
      obtain ⟨wb, hwb⟩ : ∃ wb, wb = wr.alloc (.cells #[vI c.op, vI c.r, vI c.s, vI c.t, vI c.n, .slice a c.args.length b, .slice a' c.rets.length b'] 43) := ⟨_, rfl⟩
      have hFb : Fr (fun _ => False) wr wb := by rw [hwb]; exact Fr.alloc (Fr.refl _ wr) _
      have bx : wb.heap[wr.heap.size]? = some (.cells #[vI c.op, vI c.r, vI c.s, vI c.t, vI c.n, .slice a c.args.length b, .slice a' c.rets.length b'] 43) := by rw [hwb]; exact heap_new wr _
      have HWB : Hd (wb = wr.alloc (.cells #[vI c.op, vI c.r, vI c.s, vI c.t, vI c.n, .slice a c.args.length b, .slice a' c.rets.length b'] 43)) := hwb
      obtain ⟨X, hX⟩ : ∃ X, X = wr.heap.size := ⟨_, rfl⟩
      have HX : Hd (X = wr.heap.size) := hX
      rw [← hX] at bx
      have HXH : Hd (H + 2 ≤ X) := by have := heap_lt B2.out; unfold Hd; omega
      have HBX : Hd (wb.heap[X]? = some (.cells #[vI c.op, vI c.r, vI c.s, vI c.t, vI c.n, .slice a c.args.length b, .slice a' c.rets.length b'] 43)) := bx
      have HFb : Hd (Fr (fun _ => False) wr wb) := hFb
      have HSb : Hd (X < wb.heap.size) := heap_lt bx
      have u5 : wb.cell? ⟨X, 5, none⟩ = some (.slice a c.args.length b) := by rw [cell_of bx]; rfl
      have hX1 : Hd (IA wb (.slice a c.args.length b) c.args) := X1.out.stay (HF.out.trans hFb)
      clear g1 m1 hwb bx hX hFb
      go_upto_region 6 with fail
      rw [← HWB.out, ← HX.out]
      clear HWB p0 p1 p2 p3 p4 p5 p6 q3
      go_wp2_with fail
      refine (show Calls Tryz.prog 37 #[.slice a c.args.length b, vI (-100)] wb _ from room_any _ c.args (-100) wb hX1.out HC.out.1 (by omega) (by omega)).mono ?_
      rintro e w2 ⟨x', rfl, hx', hF2⟩
      have hxs : ∀ k, x'.ownBlock = some k → X < k := fun k e => by have := (hx'.ge k e).1; have := HSb.out; omega
      have bx2 : w2.heap[X]? = some (.cells #[vI c.op, vI c.r, vI c.s, vI c.t, vI c.n, .slice a c.args.length b, .slice a' c.rets.length b'] 43) := (hF2.block X (heap_lt HBX.out) (fun e => e)).trans HBX.out
      have fs2 := setCell_fr w2 X 5 x'
      have hFx : Fr (fun k => k = X) wb (w2.setCell ⟨X, 5, none⟩ x') := (hF2.mono (fun _ _ h => h.elim)).trans fs2
      have C1 : Hd ((w2.setCell ⟨X, 5, none⟩ x').heap[X]? = some (.cells #[vI c.op, vI c.r, vI c.s, vI c.t, vI c.n, x', .slice a' c.rets.length b'] 43)) := set_of bx2 5 x'
      have HX2 : Hd (SpI (w2.setCell ⟨X, 5, none⟩ x') (X + 1) x' c.args (-100)) := (hx'.mono (by have := HSb.out; omega)).fr fs2 (fun k e e2 => by have := hxs k e; omega)
      have HFx : Hd (Fr (fun _ => False) wr (w2.setCell ⟨X, 5, none⟩ x')) := (HFb.out.trans hF2).then fs2 (fun j hj e => by have := HX.out; omega)
      have u5' : w2.cell? ⟨X, 5, none⟩ = some (.slice a c.args.length b) := by rw [cell_of bx2]; rfl
      have z5 := frozen_of bx2 5
      have HY2 : Hd (IA (w2.setCell ⟨X, 5, none⟩ x') (.slice a' c.rets.length b') c.rets) := Y1.out.stay (HF.out.trans HFx.out)
      obtain ⟨gx, xc, exa⟩ : ∃ xa xc, x' = .slice (some ⟨xa, 0, none⟩) c.args.length xc := by obtain ⟨xa, xc, e, -⟩ := hx'; exact ⟨xa, xc, e⟩
      subst exa
      clear hx' hF2 fs2 bx2 hxs hFx HBX hX1 u5 HSb
      go_upto_region 7 with fail
      clear u5' z5
      generalize w2.setCell ⟨X, 5, none⟩ (.slice (some ⟨gx, 0, none⟩) c.args.length xc) = w3 at *
      have q6 : w3.cell? ⟨X, 6, none⟩ = some (.slice a' c.rets.length b') := by rw [cell_of C1.out]; rfl
      go_wp2_with fail
      refine (show Calls Tryz.prog 37 #[.slice a' c.rets.length b', vI (-300)] w3 _ from room_any _ c.rets (-300) w3 HY2.out HC.out.2 (by omega) (by omega)).mono ?_
      rintro e w4 ⟨y', rfl, hy', hF4⟩
      have bx4 : w4.heap[X]? = some (.cells #[vI c.op, vI c.r, vI c.s, vI c.t, vI c.n, .slice (some ⟨gx, 0, none⟩) c.args.length xc, .slice a' c.rets.length b'] 43) := (hF4.block X (heap_lt C1.out) (fun e => e)).trans C1.out
      have fs4 := setCell_fr w4 X 6 y'
      have C4 : Hd ((w4.setCell ⟨X, 6, none⟩ y').heap[X]? = some (.cells #[vI c.op, vI c.r, vI c.s, vI c.t, vI c.n, .slice (some ⟨gx, 0, none⟩) c.args.length xc, y'] 43)) := set_of bx4 6 y'
      have hys : ∀ k, y'.ownBlock = some k → X < k := fun k e => by have := (hy'.ge k e).1; have := heap_lt C1.out; omega
      have HX4 : Hd (SpI (w4.setCell ⟨X, 6, none⟩ y') (X + 1) (.slice (some ⟨gx, 0, none⟩) c.args.length xc) c.args (-100)) := (HX2.out.stay hF4).fr fs4 (fun k e e2 => by have := (HX2.out.ge k e).1; omega)
      have HY4 : Hd (SpI (w4.setCell ⟨X, 6, none⟩ y') (X + 1) y' c.rets (-300)) := (hy'.mono (by have := heap_lt C1.out; omega)).fr fs4 (fun k e e2 => by have := hys k e; omega)
      have HF4 : Hd (Fr (fun _ => False) wr (w4.setCell ⟨X, 6, none⟩ y')) := (HFx.out.trans hF4).then fs4 (fun j hj e => by have := HX.out; omega)
      have r6 : w4.cell? ⟨X, 6, none⟩ = some (.slice a' c.rets.length b') := by rw [cell_of bx4]; rfl
      have z6 := frozen_of bx4 6
      obtain ⟨gy, yc, eya⟩ : ∃ ya yc, y' = .slice (some ⟨ya, 0, none⟩) c.rets.length yc := by obtain ⟨xa, xc, e, -⟩ := hy'; exact ⟨xa, xc, e⟩
      subst eya
      clear hy' hF4 fs4 bx4 hys C1 HX2 HFx HY2
      go_upto_region 8 with fail
      clear q6 r6 z6
      generalize w4.setCell ⟨X, 6, none⟩ (.slice (some ⟨gy, 0, none⟩) c.rets.length yc) = w5 at *
      have u0 : w5.cell? ⟨X, 0, none⟩ = some (vI c.op) := by rw [cell_of C4.out]; rfl
      have u1 : w5.cell? ⟨X, 1, none⟩ = some (vI c.r) := by rw [cell_of C4.out]; rfl
      have u2 : w5.cell? ⟨X, 2, none⟩ = some (vI c.s) := by rw [cell_of C4.out]; rfl
      have v3 : w5.cell? ⟨X, 3, none⟩ = some (vI c.t) := by rw [cell_of C4.out]; rfl
      have u4 : w5.cell? ⟨X, 4, none⟩ = some (vI c.n) := by rw [cell_of C4.out]; rfl
      have u5 : w5.cell? ⟨X, 5, none⟩ = some (.slice (some ⟨gx, 0, none⟩) c.args.length xc) := by rw [cell_of C4.out]; rfl
      have u6 : w5.cell? ⟨X, 6, none⟩ = some (.slice (some ⟨gy, 0, none⟩) c.rets.length yc) := by rw [cell_of C4.out]; rfl
      obtain ⟨wc, hwc⟩ : ∃ wc, wc = w5.alloc (.cells #[vI c.op, vI c.r, vI c.s, vI c.t, vI c.n, .slice (some ⟨gx, 0, none⟩) c.args.length xc, .slice (some ⟨gy, 0, none⟩) c.rets.length yc] 43) := ⟨_, rfl⟩
      have hFc : Fr (fun _ => False) w5 wc := by rw [hwc]; exact Fr.alloc (Fr.refl _ w5) _
      have HWC : Hd (wc = w5.alloc (.cells #[vI c.op, vI c.r, vI c.s, vI c.t, vI c.n, .slice (some ⟨gx, 0, none⟩) c.args.length xc, .slice (some ⟨gy, 0, none⟩) c.rets.length yc] 43)) := hwc
      have HO1 : Hd (SpC wc (H + 2) u3 L k) := HO.out.stay (HF4.out.trans hFc)
      have HX1 : Hd (SpI wc (H + 2) (.slice (some ⟨gx, 0, none⟩) c.args.length xc) c.args (-100)) := (HX4.out.stay hFc).mono (by have := HXH.out; omega)
      have HY1 : Hd (SpI wc (H + 2) (.slice (some ⟨gy, 0, none⟩) c.rets.length yc) c.rets (-300)) := (HY4.out.stay hFc).mono (by have := HXH.out; omega)
      have HF1 : Hd (Fr (fun _ => False) wr wc) := HF4.out.trans hFc
      have HRW : Hd (wc.ownsRow (H + 2) 43 7 u3 L.length (L.flatMap rowI)) := HO1.out.row
      have hnews : ∀ j u, [vI c.op, vI c.r, vI c.s, vI c.t, vI c.n, .slice (some ⟨gx, 0, none⟩) c.args.length xc, .slice (some ⟨gy, 0, none⟩) c.rets.length yc][j]? = some u → wc.cell? ((⟨w5.heap.size, 0, none⟩ : Addr).add j) = some u := by
        rw [hwc]
        exact World.news_of_block (cs := #[vI c.op, vI c.r, vI c.s, vI c.t, vI c.n, .slice (some ⟨gx, 0, none⟩) c.args.length xc, .slice (some ⟨gy, 0, none⟩) c.rets.length yc]) (heap_new w5 _)
      have hbase : H + 2 ≤ wc.heap.size := by have := HF1.out.size; have := HXH.out; have := HX.out; omega
      have hEl : L.length + 1 ≤ 3000000001 := by have := HLL.out; omega
      have hws : wc.heap.size = w5.heap.size + 1 := by rw [hwc]; simp
      clear hwc hFc HX4 HY4 HF4
      go_wp2_with ((at_builtin; refine Hd.out ?_))
      rw [← HWC.out]
      clear HWC
      unfold Hd
      refine wpList_append_lies _ rfl (.tmp 27) (.tmp 29) 39 rfl (H + 2) 43 i7 (.agg #[vI 0, vI 0, vI 0, vI 0, vI 0, .slice none 0 0, .slice none 0 0]) 7 88 under65 hi7 hz7 hs7 hb7 rfl (by omega) u3 L.length _ rfl HRW.out ⟨w5.heap.size, 0, none⟩ 1 1 [vI c.op, vI c.r, vI c.s, vI c.t, vI c.n, .slice (some ⟨gx, 0, none⟩) c.args.length xc, .slice (some ⟨gy, 0, none⟩) c.rets.length yc] rfl rfl hnews (by intro u hu; simp at hu; rcases hu with rfl | rfl | rfl | rfl | rfl | rfl | rfl <;> rfl) (by omega) (by unfold maxLen; omega) (by omega) hbase (w5.heap.size + 1) hws ?_
      intro g6 cap6 w6 hown6 hgrow6 hat6 hlt6
      have hF6 := grown_frL hgrow6
      have HO6 : Hd (SpC w6 (H + 2) (.slice (some ⟨g6, 0, none⟩) (L.length + 1) cap6) (L ++ [(c, .slice (some ⟨gx, 0, none⟩) c.args.length xc, .slice (some ⟨gy, 0, none⟩) c.rets.length yc)]) (k + 1)) := by
        refine ⟨?_, fun x hx => ?_⟩
        · rw [List.length_append, List.flatMap_append]
          simpa using hown6
        · rw [List.take_of_length_le (by simp; have := HLL.out; omega)] at hx
          rcases List.mem_append.1 hx with hx | hx
          · have hi := HO1.out.ints x (by rw [List.take_of_length_le (by have := HLL.out; omega)]; exact hx)
            exact ⟨hi.1.fr hF6 (fun j e e2 => hi.1.apart HRW.out (by decide) j e e2), hi.2.fr hF6 (fun j e e2 => hi.2.apart HRW.out (by decide) j e e2)⟩
          · simp at hx
            subst hx
            exact ⟨HX1.out.fr hF6 (fun j e e2 => HX1.out.apart HRW.out (by decide) j e e2), HY1.out.fr hF6 (fun j e e2 => HY1.out.apart HRW.out (by decide) j e e2)⟩
      have HF6 : Hd (Fr (fun _ => False) w w6) := grow_fr0 (HF.out.trans HF1.out) hgrow6 (fun k hk => by have := (World.ownsRow.lt HRW.out k hk).1; have := HH.out; omega)
      have B16 : Hd (w6.heap[H]? = some (.cells #[vI f.P, vI f.R, vI f.V, .slice (some ⟨k1, o1, none⟩) cs.length b1] 41)) := (hF6.block H (Nat.lt_of_lt_of_le (heap_lt B1.out) HF1.out.size) (fun e => by have := (World.ownsRow.lt HRW.out H e).1; omega)).trans ((HF1.out.block H (heap_lt B1.out) (fun e => e)).trans B1.out)
      have B26 : Hd (w6.heap[H + 1]? = some (.cells #[vI 0, vI 0, vI 0, .slice none 0 0] 41)) := (hF6.block (H + 1) (Nat.lt_of_lt_of_le (heap_lt B2.out) HF1.out.size) (fun e => by have := (World.ownsRow.lt HRW.out (H + 1) e).1; omega)).trans ((HF1.out.block (H + 1) (heap_lt B2.out) (fun e => e)).trans B2.out)
      have HM6 : Hd ((L ++ [(c, Value.slice (some ⟨gx, 0, none⟩) c.args.length xc, Value.slice (some ⟨gy, 0, none⟩) c.rets.length yc)]).map (·.1) = cs.take (k + 1)) := by
        unfold Hd
        rw [HT.out, List.map_append, HM.out]
        rfl
      clear hown6 hgrow6 hat6 hlt6 HO1 HF1 HRW hnews hbase hF6 HX1 HY1 u0 u1 u2 v3 u4 u5 u6 hws HO HF B1 B2 C4
      go_wp2_with fail
      exact ⟨⟨k + 1, _, by simp, by omega, HO6.out, HM6.out, B16.out, B26.out, HF6.out⟩, by simp; omega⟩
    · have hke : k = cs.length := by omega
      subst hke
      have HM2 : Hd (L.map (·.1) = cs) := by have := HM.out; rw [List.take_length] at this; exact this
      have HLL : Hd (L.length = cs.length) := by have := congrArg List.length HM2.out; simp at this; exact this
      have HO2 : Hd (SpC wr (H + 2) u3 (L ++ mkC 0) cs.length) := by
        have : L ++ mkC 0 = L := by simp [mkC]
        unfold Hd; rw [this]; exact HO.out
      clear HM HO
      go_wp2_with fail
      clear q3
      obtain ⟨wo, hwo⟩ : ∃ wo, wo = wr := ⟨_, rfl⟩
      rw [← hwo] at HO2 B1 B2 HF ⊢
      clear hwo
      go_loopw [3, 6] (fun mv v wr => ∃ (k : Nat), v = .int .i64 k ∧ k ≤ 64 ∧ Hd (SpC wr (H + 2) mv (L ++ mkC k) cs.length) ∧ Hd (wr.heap[H]? = some (.cells #[vI f.P, vI f.R, vI f.V, .slice a1 cs.length b1] 41)) ∧ Hd (wr.heap[H + 1]? = some (.cells #[vI 0, vI 0, vI 0, .slice none 0 0] 41)) ∧ Hd (Fr (fun _ => False) w wr)) (fun _ v _ => match v with | .int _ q => 64 - q.toNat | _ => 0)
      case atStart => exact ⟨0, rfl, Nat.zero_le _, HO2.out, B1.out, B2.out, HF.out⟩
      case round =>
        clear B1 B2 HF HO2
        obtain ⟨k, rfl, hk, HO, B1, B2, HF⟩ := hrel
        by_cases hlt : k < 64
        · have hk0 : (0 : Int) ≤ k := by omega
          have hk1 : (k : Int) < 64 := by omega
          have hw : IntKind.i64.wrap (-75 - (k : Int)) = -75 - (k : Int) := by simp [IntKind.wrap, IntKind.bits, IntKind.signed]; omega
          obtain ⟨wc, hwc⟩ : ∃ wc, wc = wr.alloc (.cells #[vI (-75 - (k : Int)), vI 0, vI 0, vI 0, vI 0, .slice none 0 0, .slice none 0 0] 43) := ⟨_, rfl⟩
          have hFc : Fr (fun _ => False) wr wc := by rw [hwc]; exact Fr.alloc (Fr.refl _ wr) _
          have HWC : Hd (wc = wr.alloc (.cells #[vI (-75 - (k : Int)), vI 0, vI 0, vI 0, vI 0, .slice none 0 0, .slice none 0 0] 43)) := hwc
          have HO1 : Hd (SpC wc (H + 2) u3 (L ++ mkC k) cs.length) := HO.out.stay hFc
          have HF1 : Hd (Fr (fun _ => False) wr wc) := hFc
          obtain ⟨M, hM⟩ : ∃ M, M = L ++ mkC k := ⟨_, rfl⟩
          have HMM : Hd (M = L ++ mkC k) := hM
          rw [← hM] at HO1
          clear hM
          have HRW : Hd (wc.ownsRow (H + 2) 43 7 u3 M.length (M.flatMap rowI)) := HO1.out.row
          have hnews : ∀ j u, [vI (-75 - (k : Int)), vI 0, vI 0, vI 0, vI 0, .slice none 0 0, .slice none 0 0][j]? = some u → wc.cell? ((⟨wr.heap.size, 0, none⟩ : Addr).add j) = some u := by
            rw [hwc]
            exact World.news_of_block (cs := #[vI (-75 - (k : Int)), vI 0, vI 0, vI 0, vI 0, .slice none 0 0, .slice none 0 0]) (heap_new wr _)
          have hbase : H + 2 ≤ wc.heap.size := by have := HF1.out.size; have := heap_lt B2.out; omega
          have hEl : M.length + 1 ≤ 3000000065 := by have := HLL.out; rw [HMM.out, List.length_append, mkC_len]; omega
          have hws : wc.heap.size = wr.heap.size + 1 := by rw [hwc]; simp
          clear hwc hFc
          go_wp2_with ((at_builtin; refine Hd.out ?_))
          rw [← HWC.out]
          clear HWC
          unfold Hd
          refine wpList_append_lies _ rfl (.tmp 35) (.tmp 39) 39 rfl (H + 2) 43 i7 (.agg #[vI 0, vI 0, vI 0, vI 0, vI 0, .slice none 0 0, .slice none 0 0]) 7 88 under65 hi7 hz7 hs7 hb7 rfl (by omega) u3 M.length _ rfl HRW.out ⟨wr.heap.size, 0, none⟩ 1 1 [vI (-75 - (k : Int)), vI 0, vI 0, vI 0, vI 0, .slice none 0 0, .slice none 0 0] rfl rfl hnews (by intro u hu; simp at hu; rcases hu with rfl | rfl | rfl | rfl <;> rfl) (by omega) (by unfold maxLen; omega) (by omega) hbase (wr.heap.size + 1) hws ?_
          intro g6 cap6 w6 hown6 hgrow6 hat6 hlt6
          have hF6 := grown_frL hgrow6
          have HO6 : Hd (SpC w6 (H + 2) (.slice (some ⟨g6, 0, none⟩) (M.length + 1) cap6) (L ++ mkC (k + 1)) cs.length) := by
            have hLM : L ++ mkC (k + 1) = M ++ [mkI k] := by rw [mkC_succ, HMM.out, List.append_assoc]
            refine ⟨?_, fun x hx => ?_⟩
            · rw [hLM, List.length_append, List.flatMap_append]
              simpa using hown6
            · have hx2 : x ∈ M.take cs.length := by
                rw [HMM.out, ← HLL.out, List.take_left']
                · rw [← HLL.out, List.take_left'] at hx
                  · exact hx
                  · rfl
                · rfl
              have hi := HO1.out.ints x hx2
              exact ⟨hi.1.fr hF6 (fun j e e2 => hi.1.apart HRW.out (by decide) j e e2), hi.2.fr hF6 (fun j e e2 => hi.2.apart HRW.out (by decide) j e e2)⟩
          have HF6 : Hd (Fr (fun _ => False) w w6) := grow_fr0 (HF.out.trans HF1.out) hgrow6 (fun k hk => by have := (World.ownsRow.lt HRW.out k hk).1; have := HH.out; omega)
          have B16 : Hd (w6.heap[H]? = some (.cells #[vI f.P, vI f.R, vI f.V, .slice a1 cs.length b1] 41)) := (hF6.block H (Nat.lt_of_lt_of_le (heap_lt B1.out) HF1.out.size) (fun e => by have := (World.ownsRow.lt HRW.out H e).1; omega)).trans ((HF1.out.block H (heap_lt B1.out) (fun e => e)).trans B1.out)
          have B26 : Hd (w6.heap[H + 1]? = some (.cells #[vI 0, vI 0, vI 0, .slice none 0 0] 41)) := (hF6.block (H + 1) (Nat.lt_of_lt_of_le (heap_lt B2.out) HF1.out.size) (fun e => by have := (World.ownsRow.lt HRW.out (H + 1) e).1; omega)).trans ((HF1.out.block (H + 1) (heap_lt B2.out) (fun e => e)).trans B2.out)
          clear hown6 hgrow6 hat6 hlt6 HO1 HF1 HRW hnews hbase hF6 hws HO HF B1 B2
          go_wp2_with fail
          exact ⟨⟨k + 1, by simp, by omega, HO6.out, B16.out, B26.out, HF6.out⟩, by simp; omega⟩
        · have hke : k = 64 := by omega
          subst hke
          have hlen : (L ++ mkC 64).length = cs.length + 64 := by rw [List.length_append, mkC_len, HLL.out]
          obtain ⟨g, cap, rfl, hcap⟩ : ∃ g cap, u3 = .slice (some ⟨g, 0, none⟩) (cs.length + 64) cap ∧ cs.length + 64 ≤ cap := by
            rcases HO.out.row.2 with ⟨-, h3⟩ | ⟨g, cap, cur, e, -, -, h5, -⟩
            · omega
            · rw [hlen] at e h5; exact ⟨g, cap, e, h5⟩
          have q3 : wr.cell? ⟨H, 3, none⟩ = some (.slice a1 cs.length b1) := by rw [cell_of B1.out]; rfl
          have z3 := frozen_of B1.out 3
          have hn0 : (0 : Int) ≤ cs.length := by omega
          have hn1 : (cs.length : Int) ≤ cap := by omega
          have fs2 := setCell_fr wr H 3 (.slice (some ⟨g, 0, none⟩) cs.length cap)
          have C1 : Hd ((wr.setCell ⟨H, 3, none⟩ (.slice (some ⟨g, 0, none⟩) cs.length cap)).heap[H]? = some (.cells #[vI f.P, vI f.R, vI f.V, .slice (some ⟨g, 0, none⟩) cs.length cap] 41)) := set_of B1.out 3 _
          have C2 : Hd ((wr.setCell ⟨H, 3, none⟩ (.slice (some ⟨g, 0, none⟩) cs.length cap)).heap[H + 1]? = some (.cells #[vI 0, vI 0, vI 0, .slice none 0 0] 41)) := (fs2.block (H + 1) (heap_lt B2.out) (by omega)).trans B2.out
          have HX : Hd (SpC (wr.setCell ⟨H, 3, none⟩ (.slice (some ⟨g, 0, none⟩) cs.length cap)) (H + 2) (.slice (some ⟨g, 0, none⟩) (cs.length + 64) cap) (L ++ mkC 64) cs.length) := HO.out.up fs2 (fun k hk e => by omega)
          have HF2 : Hd (Fr (fun _ => False) w (wr.setCell ⟨H, 3, none⟩ (.slice (some ⟨g, 0, none⟩) cs.length cap))) := HF.out.then fs2 (fun j hj e => by have := HH.out; omega)
          clear fs2 B1 B2 HF HO hlen
          go_upto_region 14 with fail
          clear q3 z3
          generalize wr.setCell ⟨H, 3, none⟩ (.slice (some ⟨g, 0, none⟩) cs.length cap) = w5 at *
          have c0 : w5.cell? ⟨H, 0, none⟩ = some (vI f.P) := by rw [cell_of C1.out]; rfl
          have c1 : w5.cell? ⟨H, 1, none⟩ = some (vI f.R) := by rw [cell_of C1.out]; rfl
          have c2 : w5.cell? ⟨H, 2, none⟩ = some (vI f.V) := by rw [cell_of C1.out]; rfl
          have c3 : w5.cell? ⟨H, 3, none⟩ = some (.slice (some ⟨g, 0, none⟩) cs.length cap) := by rw [cell_of C1.out]; rfl
          have d0 : w5.cell? ⟨H + 1, 0, none⟩ = some (vI 0) := by rw [cell_of C2.out]; rfl
          have d1 : w5.cell? ⟨H + 1, 1, none⟩ = some (vI 0) := by rw [cell_of C2.out]; rfl
          have d2 : w5.cell? ⟨H + 1, 2, none⟩ = some (vI 0) := by rw [cell_of C2.out]; rfl
          have d3 : w5.cell? ⟨H + 1, 3, none⟩ = some (.slice none 0 0) := by rw [cell_of C2.out]; rfl
          have y0 := frozen_of C2.out 0
          have y1 := frozen_of C2.out 1
          have y2 := frozen_of C2.out 2
          have y3 := frozen_of C2.out 3
          have HLz : Hd ((fou4 w5 (H + 1) 0 (fR f (.slice (some ⟨g, 0, none⟩) cs.length cap))).heap[H + 1]? = some (.cells #[vI f.P, vI f.R, vI f.V, .slice (some ⟨g, 0, none⟩) cs.length cap] 41)) := set_of (set_of (set_of (set_of C2.out 0 _) 1 _) 2 _) 3 _
          have fs6 := fou4_fr w5 (H + 1) 0 (fR f (.slice (some ⟨g, 0, none⟩) cs.length cap))
          have KX : Hd (SpK (fou4 w5 (H + 1) 0 (fR f (.slice (some ⟨g, 0, none⟩) cs.length cap))) w.heap.size (.slice (some ⟨g, 0, none⟩) cs.length cap) cs) :=
            ⟨g, cap, L, rfl, hcap, HM2.out, (HX.out.up fs6 (fun k hk e => by omega)).mono (by have := HH.out; omega)⟩
          have KF : Hd (Fr (fun _ => False) w (fou4 w5 (H + 1) 0 (fR f (.slice (some ⟨g, 0, none⟩) cs.length cap)))) := Fr.then HF2.out fs6 (fun j hj e => by have := HH.out; omega)
          clear fs6 HX HF2
          go_wp2_with fail
          change bodyPost _ _ _ _ _ (fou4 w5 (H + 1) 0 (fR f (.slice (some ⟨g, 0, none⟩) cs.length cap)))
          generalize fou4 w5 (H + 1) 0 (fR f (.slice (some ⟨g, 0, none⟩) cs.length cap)) = wz at *
          have e0 : wz.cell? ⟨H + 1, 0, none⟩ = some (vI f.P) := by rw [cell_of HLz.out]; rfl
          have e1 : wz.cell? ⟨H + 1, 1, none⟩ = some (vI f.R) := by rw [cell_of HLz.out]; rfl
          have e2 : wz.cell? ⟨H + 1, 2, none⟩ = some (vI f.V) := by rw [cell_of HLz.out]; rfl
          have e3 : wz.cell? ⟨H + 1, 3, none⟩ = some (.slice (some ⟨g, 0, none⟩) cs.length cap) := by rw [cell_of HLz.out]; rfl
          refine bodyPost_ret (v := .agg #[vI f.P, vI f.R, vI f.V, .slice (some ⟨g, 0, none⟩) cs.length cap]) ?_ rfl ⟨_, rfl, by rw [← HCS.out]; exact KX.out, KF.out⟩
          rw [results_cell (p := 2) (ty := 41) Tryz.results14]
          simp [go_sem, e0, e1, e2, e3]


theorem SpC.cell {w : World} {B : Nat} {L : List CI} {k g n cap : Nat} (h : SpC w B (.slice (some ⟨g, 0, none⟩) n cap) L k) {j o : Nat} {x : CI} {u : Value} (hj : L[j]? = some x) (ho : o < 7) (hu : (rowI x)[o]? = some u) : w.cell? ⟨g, j * 7 + o, none⟩ = some u := by
  have hjl := (List.getElem?_eq_some_iff.1 hj).1
  have hje := (List.getElem?_eq_some_iff.1 hj).2
  obtain ⟨g', cap', e, -, hc⟩ := own_cell h.row (j := j * 7 + o) (u := u) (by rw [flat_get rowI 7 (fun _ => rfl) L j o hjl ho, hje]; exact hu)
  simp at e
  obtain ⟨e1, -, -⟩ := e
  rw [e1]; exact hc
theorem SpK.ca {w : World} {B : Nat} {v : Value} {cs : List PI} (h : SpK w B v cs) : CA w v cs := by
  obtain ⟨g, cap, L, rfl, hcap, rfl, h⟩ := h
  refine ⟨_, cap, rfl, fun _ => ⟨g, 0, rfl, (World.ownsRow.lt h.row g rfl).2, fun j hj => ?_⟩⟩
  have hj' : j < L.length := by simpa using hj
  have hx : (L ++ mkC 64)[j]? = some L[j] := by rw [List.getElem?_append_left hj']; exact List.getElem?_eq_getElem hj'
  have hi := h.ints L[j] (by rw [List.length_map, List.take_left' rfl]; exact List.getElem_mem hj')
  rw [Nat.zero_add]
  simp only [List.getElem_map]
  exact ⟨L[j].2.1, L[j].2.2, h.cell (o := 0) hx (by omega) rfl, h.cell (o := 1) hx (by omega) rfl, h.cell (o := 2) hx (by omega) rfl, h.cell (o := 3) hx (by omega) rfl, h.cell (o := 4) hx (by omega) rfl, h.cell (o := 5) hx (by omega) rfl, h.cell (o := 6) hx (by omega) rfl, hi.1.ia, hi.2.ia⟩
theorem SpK.stay {w w' : World} {B : Nat} {v : Value} {cs : List PI} (h : SpK w B v cs) (f : Fr (fun _ => False) w w') : SpK w' B v cs := by
  obtain ⟨g, cap, L, e, hcap, e2, h⟩ := h
  exact ⟨g, cap, L, e, hcap, e2, h.stay f⟩

set_option maxRecDepth 100000 in
set_option maxHeartbeats 2000000 in
theorem staysFunc_any (f : PF) (x y : Value) (B : Nat) (w : World) (h1 : SpK w B x f.code) (h2 : CA w y f.code) (hn : f.code.length ≤ 3000000000) (hl : ∀ c ∈ f.code, c.args.length ≤ 3000000000 ∧ c.rets.length ≤ 3000000000) :
    Calls Tryz.prog 24 #[.agg #[vI f.P, vI f.R, vI f.V, x], .agg #[vI f.P, vI f.R, vI f.V, y]] w fun e w' => e = .returned (.bool true) ∧ Fr (fun _ => False) w w' := by
  have hfine : FineC f.code := ⟨by show f.code.length ≤ 1599289640354; omega, fun c hc => ⟨by have := (hl c hc).1; omega, by have := (hl c hc).2; omega⟩⟩
  obtain ⟨wa, hwa⟩ : ∃ wa, wa = (w.alloc (.cells #[vI f.P, vI f.R, vI f.V, x] 41)).alloc (.cells #[vI f.P, vI f.R, vI f.V, y] 41) := ⟨_, rfl⟩
  have hF : Fr (fun _ => False) w wa := by rw [hwa]; exact Fr.alloc (Fr.alloc (Fr.refl _ w) _) _
  have b1' : wa.heap[w.heap.size]? = some (.cells #[vI f.P, vI f.R, vI f.V, x] 41) := by
    rw [hwa, Go.RowKit.Below.heap_alloc _ _ _ (by simp)]; exact heap_new w _
  have b2' : wa.heap[w.heap.size + 1]? = some (.cells #[vI f.P, vI f.R, vI f.V, y] 41) := by
    rw [hwa, show w.heap.size + 1 = (w.alloc (.cells #[vI f.P, vI f.R, vI f.V, x] 41)).heap.size by simp]; exact heap_new _ _
  have HWA : Hd (wa = (w.alloc (.cells #[vI f.P, vI f.R, vI f.V, x] 41)).alloc (.cells #[vI f.P, vI f.R, vI f.V, y] 41)) := hwa
  have HF : Hd (Fr (fun _ => False) w wa) := hF
  have HX : Hd (SpK wa B x f.code) := h1.stay hF
  have HY : Hd (CA wa y f.code) := h2.stay hF
  obtain ⟨a2, b2, e2, -⟩ := id h2
  obtain ⟨g, cap, L, e1, hcap, hL, -⟩ := id h1
  obtain ⟨H, hH⟩ : ∃ H, H = w.heap.size := ⟨_, rfl⟩
  have HH : Hd (H = w.heap.size) := hH
  rw [← hH] at b1' b2'
  have B1 : Hd (wa.heap[H]? = some (.cells #[vI f.P, vI f.R, vI f.V, x] 41)) := b1'
  have B2 : Hd (wa.heap[H + 1]? = some (.cells #[vI f.P, vI f.R, vI f.V, y] 41)) := b2'
  have c0 : wa.cell? ⟨H, 0, none⟩ = some (vI f.P) := by rw [cell_of b1']; rfl
  have c1 : wa.cell? ⟨H, 1, none⟩ = some (vI f.R) := by rw [cell_of b1']; rfl
  have c2 : wa.cell? ⟨H, 2, none⟩ = some (vI f.V) := by rw [cell_of b1']; rfl
  have c3 : wa.cell? ⟨H, 3, none⟩ = some x := by rw [cell_of b1']; rfl
  have d0 : wa.cell? ⟨H + 1, 0, none⟩ = some (vI f.P) := by rw [cell_of b2']; rfl
  have d1 : wa.cell? ⟨H + 1, 1, none⟩ = some (vI f.R) := by rw [cell_of b2']; rfl
  have d2 : wa.cell? ⟨H + 1, 2, none⟩ = some (vI f.V) := by rw [cell_of b2']; rfl
  have d3 : wa.cell? ⟨H + 1, 3, none⟩ = some y := by rw [cell_of b2']; rfl
  subst e1; subst e2
  have HLI : Hd (∀ c ∈ f.code, c.args.length ≤ 3000000000 ∧ c.rets.length ≤ 3000000000) := hl
  clear h1 h2 hF hwa hH b1' b2' hL hl hcap
  go_enter Tryz.func24, Tryz.ntmps24
  go_upto_region 1 with fail
  rw [← HWA.out, ← HH.out]
  clear HWA
  go_wp2_with fail
  refine (show Calls Tryz.prog 54 #[.agg #[vI f.P, vI f.R, vI f.V, .slice (some ⟨g, 0, none⟩) f.code.length cap], .agg #[vI f.P, vI f.R, vI f.V, .slice a2 f.code.length b2]] wa _ from eqFunc_same f _ _ wa HX.out.ca HY.out hfine).mono ?_
  rintro e w1 ⟨rfl, hF1⟩
  have HX1 : Hd (SpK w1 B (.slice (some ⟨g, 0, none⟩) f.code.length cap) f.code) := HX.out.stay hF1
  have B11 : w1.heap[H]? = some (.cells #[vI f.P, vI f.R, vI f.V, .slice (some ⟨g, 0, none⟩) f.code.length cap] 41) := (hF1.block H (heap_lt B1.out) (fun e => e)).trans B1.out
  have B21 : w1.heap[H + 1]? = some (.cells #[vI f.P, vI f.R, vI f.V, .slice a2 f.code.length b2] 41) := (hF1.block (H + 1) (heap_lt B2.out) (fun e => e)).trans B2.out
  have HF1 : Hd (Fr (fun _ => False) w w1) := HF.out.trans hF1
  have p3 : w1.cell? ⟨H, 3, none⟩ = some (.slice (some ⟨g, 0, none⟩) f.code.length cap) := by rw [cell_of B11]; rfl
  have r3 : w1.cell? ⟨H + 1, 3, none⟩ = some (.slice a2 f.code.length b2) := by rw [cell_of B21]; rfl
  clear hF1 c0 c1 c2 c3 d0 d1 d2 d3 HF HX HY B1 B2 B11 B21
  obtain ⟨g', cap', L, e1, hcap, hL, hCS⟩ := HX1.out
  simp at e1
  obtain ⟨eg, ec⟩ := e1
  subst eg; subst ec
  have HL : Hd (L.map (·.1) = f.code) := hL
  have HCS : Hd (SpC w1 B (.slice (some ⟨g, 0, none⟩) (f.code.length + 64) cap) (L ++ mkC 64) f.code.length) := hCS
  clear hL hCS HX1
  obtain ⟨n, hnn⟩ : ∃ n, n = f.code.length := ⟨_, rfl⟩
  have HN : Hd (n = f.code.length) := hnn
  have HLL : Hd (L.length = n) := by have := congrArg List.length HL.out; simp at this; unfold Hd; omega
  rw [← hnn] at p3 r3 hcap hn HCS ⊢
  clear hnn
  have hn0 : (0 : Int) ≤ (n : Int) + 64 := by omega
  have hn1 : (n : Int) + 64 ≤ cap := by omega
  have ht : ((n : Int) + 64).toNat = n + 64 := by omega
  go_wp2_with fail
  go_loopw [7] (fun v wr => ∃ (k : Nat), v = .int .i64 k ∧ k ≤ 64 ∧ wr = w1) (fun v _ => match v with | .int _ q => 64 - q.toNat | _ => 0)
  case atStart => exact ⟨0, rfl, by omega, rfl⟩
  case round =>
    obtain ⟨k, rfl, hk, rfl⟩ := hrel
    by_cases hlt : k < 64
    · have hk0 : (0 : Int) ≤ (n : Int) + k := by omega
      have hk1 : (k : Int) < 64 := by omega
      have hk3 : (n : Int) + k < ((n + 64 : Nat) : Int) := by omega
      have ht2 : ((n : Int) + k).toNat = n + k := by omega
      have p0 : wr.cell? ⟨g, (n + k) * 7, none⟩ = some (vI (-75 - (k : Int))) := HCS.out.cell (j := n + k) (o := 0) (x := mkI k) (by rw [List.getElem?_append_right (by have := HLL.out; omega), HLL.out, Nat.add_sub_cancel_left]; simp [mkC, hlt]) (by omega) rfl
      have hw : IntKind.i64.wrap (-75 - (k : Int)) = -75 - (k : Int) := by simp [IntKind.wrap, IntKind.bits, IntKind.signed]; omega
      go_wp2_with fail
      exact ⟨⟨k + 1, by simp, by omega, by trivial⟩, by simp; omega⟩
    · have hd64 : decide ((k : Int) < 64) = false := by simp; omega
      clear hk hlt
      go_wp2_with fail
      obtain ⟨wo, hwo⟩ : ∃ wo, wo = wr := ⟨_, rfl⟩
      rw [← hwo] at HF1 HCS ⊢
      clear hwo p3 r3
      go_loopw [8] (fun v wr => ∃ (k : Nat), v = .int .i64 k ∧ k ≤ n ∧ wr = wo) (fun v _ => match v with | .int _ q => n - q.toNat | _ => 0)
      case atStart => exact ⟨0, rfl, by omega, rfl⟩
      case round =>
        obtain ⟨k, rfl, hk, rfl⟩ := hrel
        by_cases hlt : k < n
        · have hk0 : (0 : Int) ≤ k := by omega
          have hk1 : (k : Int) < n := by omega
          have hk3 : (k : Int) < ((n + 64 : Nat) : Int) := by omega
          have hkL : k < L.length := by have := HLL.out; omega
          have hx : (L ++ mkC 64)[k]? = some L[k] := by rw [List.getElem?_append_left hkL]; exact List.getElem?_eq_getElem hkL
          have p5 : wr.cell? ⟨g, k * 7 + 5, none⟩ = some L[k].2.1 := HCS.out.cell hx (by omega) rfl
          have p6 : wr.cell? ⟨g, k * 7 + 6, none⟩ = some L[k].2.2 := HCS.out.cell hx (by omega) rfl
          have HI : Hd (SpI wr B L[k].2.1 L[k].1.args (-100) ∧ SpI wr B L[k].2.2 L[k].1.rets (-300)) := HCS.out.ints L[k] (by rw [← HLL.out, List.take_left' rfl]; exact List.getElem_mem hkL)
          have HC : Hd (L[k].1.args.length ≤ 3000000000 ∧ L[k].1.rets.length ≤ 3000000000) := HLI.out _ (by rw [← HL.out]; exact List.mem_map.2 ⟨L[k], List.getElem_mem hkL, rfl⟩)
          generalize L[k] = xk at *
          obtain ⟨c, v5, v6⟩ := xk
          simp only at p5 p6 HI HC
          obtain ⟨g5, c5, e5, -⟩ := id HI.out.1
          obtain ⟨g6, c6, e6, -⟩ := id HI.out.2
          subst e5; subst e6
          clear hx
          go_wp2_with fail
          refine (show Calls Tryz.prog 55 #[.slice (some ⟨g5, 0, none⟩) c.args.length c5, vI (-100)] wr _ from kept_any _ c.args (-100) B wr HI.out.1 HC.out.1 (by omega) (by omega)).mono ?_
          rintro e w2 ⟨rfl, rfl⟩
          go_wp2_with fail
          refine (show Calls Tryz.prog 55 #[.slice (some ⟨g6, 0, none⟩) c.rets.length c6, vI (-300)] _ _ from kept_any _ c.rets (-300) B _ HI.out.2 HC.out.2 (by omega) (by omega)).mono ?_
          rintro e w2 ⟨rfl, rfl⟩
          go_wp2_with fail
          exact ⟨⟨k + 1, by simp, by omega, by trivial⟩, by simp; omega⟩
        · have hke : k = n := by omega
          subst hke
          go_wp2_with fail
          go_ret
          exact ⟨rfl, HF1.out⟩


abbrev rowP (x : PF × Value) : List Value := [vI x.1.P, vI x.1.R, vI x.1.V, x.2]

/-! ### programs with marks behind each of their lists -/
theorem SpK.fr45 {w w6 : World} {B B' n : Nat} {v v' : Value} {xs : List Value} {cs : List PI} (h : SpK w B v cs) (hr : w.ownsRow B' 41 4 v' n xs) (f : Fr (fun k => v'.ownBlock = some k) w w6) : SpK w6 B v cs := by
  obtain ⟨g, cap, L, e, hc, hL, h⟩ := h
  refine ⟨g, cap, L, e, hc, hL, h.fr f (fun j e1 e2 => own_apart hr h.row (by decide) j e1 e2) (fun x hx j e1 e2 => ?_)⟩
  rcases e1 with e1 | e1
  · exact (h.ints x hx).1.apart hr (by decide) j e1 e2
  · exact (h.ints x hx).2.apart hr (by decide) j e1 e2
theorem SpK.mono {w : World} {B B' : Nat} {v : Value} {cs : List PI} (h : SpK w B v cs) (hB : B' ≤ B) : SpK w B' v cs := by
  obtain ⟨g, cap, L, e, hc, hL, h⟩ := h
  exact ⟨g, cap, L, e, hc, hL, h.mono hB⟩
/-- Functions of their own with marks, and k functions of one number behind. -/
structure SpFs (w : World) (B : Nat) (v : Value) (L : List (PF × Value)) (fs : List PF) (k : Nat) : Prop where
  row : w.ownsRow B 41 4 v L.length (L.flatMap rowP)
  len : L.length = fs.length + k
  each : ∀ i (h : i < L.length) (h' : i < fs.length), L[i].1 = fs[i] ∧ SpK w B L[i].2 fs[i].code
  mrk : ∀ i (h : i < L.length), fs.length ≤ i → L[i].1.P = -76 - ((i - fs.length : Nat) : Int)
theorem SpFs.stay {w w' : World} {B : Nat} {v : Value} {L : List (PF × Value)} {fs : List PF} {k : Nat} (h : SpFs w B v L fs k) (f : Fr (fun _ => False) w w') : SpFs w' B v L fs k :=
  ⟨ownsRow_frL h.row f (fun _ _ e => e), h.len, fun i hi hi' => ⟨(h.each i hi hi').1, (h.each i hi hi').2.stay f⟩, h.mrk⟩
theorem SpFs.mono {w : World} {B B' : Nat} {v : Value} {L : List (PF × Value)} {fs : List PF} {k : Nat} (h : SpFs w B v L fs k) (hB : B' ≤ B) : SpFs w B' v L fs k :=
  ⟨World.ownsRow.mono h.row hB, h.len, fun i hi hi' => ⟨(h.each i hi hi').1, (h.each i hi hi').2.mono hB⟩, h.mrk⟩
theorem SpFs.nil (w : World) (B : Nat) : SpFs w B (.slice none 0 0) [] [] 0 := ⟨World.ownsRow_nil _ _ _ _, rfl, fun i h => by simp at h, fun i h => by simp at h⟩
theorem SpFs.app1 {w w6 : World} {B g cap : Nat} {v x : Value} {L : List (PF × Value)} {fs : List PF} {s : PF} (h : SpFs w B v L fs 0) (hx : SpK w B x s.code) (hg : w.grownBy w6 v.ownBlock) (ho : w6.ownsRow B 41 4 (.slice (some ⟨g, 0, none⟩) (L.length + 1) cap) (L.length + 1) (L.flatMap rowP ++ [vI s.P, vI s.R, vI s.V, x])) :
    SpFs w6 B (.slice (some ⟨g, 0, none⟩) (L.length + 1) cap) (L ++ [(s, x)]) (fs ++ [s]) 0 := by
  have f := grown_frL hg
  refine ⟨?_, by simp [h.len], fun i hi hi' => ?_, fun i hi hl => ?_⟩
  · rw [List.length_append, List.flatMap_append]
    simpa using ho
  · by_cases e : i < L.length
    · have e' : i < fs.length := by have := h.len; omega
      have k := h.each i e e'
      rw [List.getElem_append_left e, List.getElem_append_left e']
      exact ⟨k.1, k.2.fr45 h.row f⟩
    · have e1 : i = L.length := by simp at hi; omega
      have e2 : L.length = fs.length := h.len
      subst e1
      simp [e2]
      exact hx.fr45 h.row f
  · have := h.len
    simp at hi hl
    omega
theorem SpFs.app2 {w w6 : World} {B g cap : Nat} {v : Value} {L : List (PF × Value)} {fs : List PF} {k : Nat} (h : SpFs w B v L fs k) (hg : w.grownBy w6 v.ownBlock) (ho : w6.ownsRow B 41 4 (.slice (some ⟨g, 0, none⟩) (L.length + 1) cap) (L.length + 1) (L.flatMap rowP ++ [vI (-76 - (k : Int)), vI 0, vI 0, .slice none 0 0])) :
    SpFs w6 B (.slice (some ⟨g, 0, none⟩) (L.length + 1) cap) (L ++ [(⟨-76 - (k : Int), 0, 0, []⟩, .slice none 0 0)]) fs (k + 1) := by
  have f := grown_frL hg
  refine ⟨?_, by simp [h.len]; omega, fun i hi hi' => ?_, fun i hi hl => ?_⟩
  · rw [List.length_append, List.flatMap_append]
    simpa using ho
  · have e : i < L.length := by have := h.len; omega
    have k := h.each i e hi'
    rw [List.getElem_append_left e]
    exact ⟨k.1, k.2.fr45 h.row f⟩
  · by_cases e : i < L.length
    · rw [List.getElem_append_left e]
      exact h.mrk i e hl
    · have e1 : i = L.length := by simp at hi; omega
      subst e1
      have e2 : L.length - fs.length = k := by have := h.len; omega
      simp only [List.getElem_concat_length, e2]
/-- Functions with marks behind all of them. -/
def SpF (w : World) (B : Nat) (v : Value) (fs : List PF) : Prop :=
  ∃ g cap L, v = .slice (some ⟨g, 0, none⟩) fs.length cap ∧ fs.length + 64 ≤ cap ∧ SpFs w B (.slice (some ⟨g, 0, none⟩) (fs.length + 64) cap) L fs 64
theorem SpF.stay {w w' : World} {B : Nat} {v : Value} {fs : List PF} (h : SpF w B v fs) (f : Fr (fun _ => False) w w') : SpF w' B v fs := by
  obtain ⟨g, cap, us, e, hc, h⟩ := h
  exact ⟨g, cap, us, e, hc, h.stay f⟩
theorem SpFs.cell {w : World} {B g n cap : Nat} {L : List (PF × Value)} {fs : List PF} {k : Nat} (h : SpFs w B (.slice (some ⟨g, 0, none⟩) n cap) L fs k) {j o : Nat} (hj : j < L.length) (ho : o < 4) {u : Value} (hu : (rowP L[j])[o]? = some u) : g < w.heap.size ∧ w.cell? ⟨g, j * 4 + o, none⟩ = some u := by
  obtain ⟨g', cap', e, h1, h2⟩ := own_cell h.row (j := j * 4 + o) (u := u) (by rw [flat_get rowP 4 (fun _ => rfl) L j o hj ho]; exact hu)
  injection e with e1
  simp at e1
  subst e1
  exact ⟨h1, h2⟩
theorem SpF.fa {w : World} {B : Nat} {v : Value} {fs : List PF} (h : SpF w B v fs) : FA w v fs := by
  obtain ⟨g, cap, L, rfl, hc, h⟩ := h
  have hl := h.len
  refine ⟨_, cap, rfl, fun hne => ?_⟩
  have hp : 0 < fs.length := List.length_pos_iff.2 hne
  refine ⟨g, 0, rfl, (h.cell (j := 0) (o := 0) (by omega) (by omega) rfl).1, fun j hj => ?_⟩
  obtain ⟨h3, h4⟩ := h.each j (by omega) hj
  have c0 := (h.cell (j := j) (o := 0) (by omega) (by omega) rfl).2
  have c1 := (h.cell (j := j) (o := 1) (by omega) (by omega) rfl).2
  have c2 := (h.cell (j := j) (o := 2) (by omega) (by omega) rfl).2
  have c3 := (h.cell (j := j) (o := 3) (by omega) (by omega) rfl).2
  rw [h3] at c0 c1 c2
  simp only [Nat.zero_add]
  exact ⟨_, c0, c1, c2, c3, h4.ca⟩
end Go.Proofs.YtjmbfjaahadbhaaGreatDoor
