import Derived.Test.YtlmlmhinbkcpoaaDoorQQj
import Derived.Deep.RegionHeld3
namespace Go.Proofs.YtlmlmhinbkcpoaaDoor
open Go.RowKit Go.Shelf
set_option linter.unusedVariables false
set_option linter.unusedSimpArgs false

/-- The function that 'called' hands over. -/
theorem called_gives (n n0 Bi Bb Bs : Nat) (P R V : Int) (ca : Option Addr) (cn cc : Nat) (sv : Value) (op r s t m : Int) (av rv hv lv : Value) (args rets hs : List Int) (res : List (List Int)) (w : World) (hlen : args.length ≤ 1000000) (hhs : args.length ≤ hs.length) (hres : args.length ≤ res.length) (hrl : ∀ x ∈ res, x.length ≤ rets.length) (hrt : rets.length ≤ 1000000) (hn0 : n0 ≤ w.heap.size)
    (hBi : w.heap[Bi]? = some (.cells #[vI op, vI r, vI s, vI t, vI m, av, rv] 57)) (hBb : w.heap[Bb]? = some (.cells #[vI P, vI R, vI V, .slice ca cn cc, sv] 63)) (hBs : w.heap[Bs]? = some (.cells #[hv, lv] 34))
    (ha : IB n0 w av args) (hr : IB n0 w rv rets) (hh : IB n0 w hv hs) (hl : LB n0 w lv res) :
    SeqGivesC Fence.wide n Tryd.prog 84 #[] #[.pointer (some ⟨Bi, 0, none⟩), .pointer (some ⟨Bb, 0, none⟩), .pointer (some ⟨Bs, 0, none⟩)] encE (fun _ => KpA n0) (fun xs => xs = callT R V args rets hs res args.length) (callT R V args rets hs res args.length).length w := fun l J W hW _ hl' hJ hY h0 => by
  have kb : ∀ (k : Nat) (o : Obj), w.heap[k]? = some o → W.heap[k]? = some o := fun k o h => (hW.block k (heap_lt0 h)).trans h
  have hB : Below n0 w W := ⟨hW.os, hW.tape, hW.output, hW.size, fun k hk => hW.block k (by omega)⟩
  refine (called1_in n l n0 Bi Bb Bs P R V ca cn cc sv op r s t m av rv hv lv args rets hs res _ hlen hhs hres hrl hrt W (Nat.le_trans hn0 hW.size) J rfl hY (fun pre A A' hs f => own_fr hJ hs f) (kb _ _ hBi) (kb _ _ hBb) (kb _ _ hBs) (ha.kept hB) (hr.kept hB) (hh.kept hB) (hl.kept hB) h0).mono ?_
  rintro e W' ⟨he, hj⟩
  exact ⟨he, _, rfl, hj⟩

theorem called_any (bo : Array Value) (io : Array Value) (so : Array Value) (P R V : Int) (ca : Option Addr) (cn cc : Nat) (sa : Option Addr) (sn sc : Nat) (iv : IV) (ha : Option Addr) (hn hc : Nat) (la : Option Addr) (ln lc : Nat) (w : World) (hb : bo = #[vI P, vI R, vI V, .slice ca cn cc, .slice sa sn sc]) (hi : io = iv.cells) (hs : so = #[.slice ha hn hc, .slice la ln lc]) :
    Calls Tryd.prog 67 #[.agg bo, .agg io, .agg so] w fun e w' => e = .returned (.func (.func 84) #[] #[.pointer (some ⟨w.heap.size + 1, 0, none⟩), .pointer (some ⟨w.heap.size, 0, none⟩), .pointer (some ⟨w.heap.size + 2, 0, none⟩)]) ∧ w' = ((w.alloc (.cells bo 63)).alloc (.cells io 57)).alloc (.cells so 34) := by
  subst hb hi hs
  go_enter Tryd.func67, Tryd.ntmps67
  go_wp2
  go_ret
  exact ⟨rfl, rfl⟩

end Go.Proofs.YtlmlmhinbkcpoaaDoor

namespace Go.Proofs.YtlmlmhinbkcpoaaDoor
open Go.RowKit (wrap32 wrap64)
set_option linter.unusedVariables false
set_option linter.unusedSimpArgs false

set_option maxRecDepth 100000 in
set_option maxHeartbeats 4000000 in
/-- A Call. -/
theorem given_call (n0 : Nat) (P R V : Int) (ca : Option Addr) (cn cc : Nat) (ks os sn sc : Nat) (r s t : Int) (m : Nat) (aa : Option Addr) (ac : Nat) (ra : Option Addr) (rc : Nat) (ha : Option Addr) (hc : Nat) (la : Option Addr) (lc : Nat) (args rets hs : List Int) (res : List (List Int)) (cell : Int) (w : World)
    (hlen : args.length ≤ 1000000) (hhs : args.length ≤ hs.length) (hres : args.length ≤ res.length) (hrl : ∀ x ∈ res, x.length ≤ rets.length) (hrt : rets.length ≤ 1000000) (h0 : 0 < n0) (hn0 : n0 ≤ w.heap.size) (hT : RowsA w) (hm : m < sn) (hks : ks < n0)
    (hS : w.cell? ⟨ks, os + m * 2, none⟩ = some (.slice ha hs.length hc) ∧ w.cell? ⟨ks, os + m * 2 + 1, none⟩ = some (.slice la res.length lc)) (hA : IB n0 w (.slice aa args.length ac) args) (hRt : IB n0 w (.slice ra rets.length rc) rets) (hH : IB n0 w (.slice ha hs.length hc) hs) (hL : LB n0 w (.slice la res.length lc) res) :
    Given n0 (.agg #[vI P, vI R, vI V, .slice ca cn cc, .slice (some ⟨ks, os, none⟩) sn sc]) (.agg #[vI 11, vI r, vI s, vI t, vI (m : Int), .slice aa args.length ac, .slice ra rets.length rc]) cell (callT R V args rets hs res args.length) w := by
  intro W hK
  obtain ⟨y0, y1, y2, y3⟩ := (hT.kept hK h0) 11 (by omega)
  have t0 : W.cell? ⟨0, 44, none⟩ = some (vI 3) := y0
  have t1 : W.cell? ⟨0, 45, none⟩ = some (vI 0) := y1
  have t2 : W.cell? ⟨0, 46, none⟩ = some (vI 0) := y2
  have t3 : W.cell? ⟨0, 47, none⟩ = some (vI 0) := y3
  have hN : n0 ≤ W.heap.size := Nat.le_trans hn0 hK.below.size
  have hWp : 0 < W.heap.size := Nat.lt_of_lt_of_le h0 hN
  have HN : Hd (n0 ≤ W.heap.size) := hN
  have HA : Hd (IB n0 W (.slice aa args.length ac) args) := hA.kept hK.below
  have HRt : Hd (IB n0 W (.slice ra rets.length rc) rets) := hRt.kept hK.below
  have HHs : Hd (IB n0 W (.slice ha hs.length hc) hs) := hH.kept hK.below
  have HL : Hd (LB n0 W (.slice la res.length lc) res) := hL.kept hK.below
  have HSm : Hd (W.cell? ⟨ks, os + m * 2, none⟩ = some (.slice ha hs.length hc) ∧ W.cell? ⟨ks, os + m * 2 + 1, none⟩ = some (.slice la res.length lc)) := ⟨(hK.below.cell (p := ⟨ks, os + m * 2, none⟩) hks).trans hS.1, (hK.below.cell (p := ⟨ks, os + m * 2 + 1, none⟩) hks).trans hS.2⟩
  have hm0 : (0 : Int) ≤ m := by omega
  have hm1 : (m : Int) < sn := by omega
  clear y0 y1 y2 y3 hT hK hn0 h0 hA hRt hH hL hS hN
  obtain ⟨wa, hwa⟩ : ∃ wa, wa = ((W.alloc (.cells #[vI P, vI R, vI V, .slice ca cn cc, .slice (some ⟨ks, os, none⟩) sn sc] 63)).alloc (.cells #[vI 11, vI r, vI s, vI t, vI (m : Int), .slice aa args.length ac, .slice ra rets.length rc] 57)).alloc (.cells #[vI 3, vI 0, vI 0, vI 0] 99) := ⟨_, rfl⟩
  have hF : Fr (fun _ => False) W wa := by rw [hwa]; exact Fr.alloc (Fr.alloc (Fr.alloc (Fr.refl _ W) _) _) _
  obtain ⟨b0, b1, b2⟩ := alloc3 W (.cells #[vI P, vI R, vI V, .slice ca cn cc, .slice (some ⟨ks, os, none⟩) sn sc] 63) (.cells #[vI 11, vI r, vI s, vI t, vI (m : Int), .slice aa args.length ac, .slice ra rets.length rc] 57) (.cells #[vI 3, vI 0, vI 0, vI 0] 99)
  rw [← hwa] at b0 b1 b2
  have HWA : Hd (wa = ((W.alloc (.cells #[vI P, vI R, vI V, .slice ca cn cc, .slice (some ⟨ks, os, none⟩) sn sc] 63)).alloc (.cells #[vI 11, vI r, vI s, vI t, vI (m : Int), .slice aa args.length ac, .slice ra rets.length rc] 57)).alloc (.cells #[vI 3, vI 0, vI 0, vI 0] 99)) := hwa
  obtain ⟨H, hH⟩ : ∃ H, H = W.heap.size := ⟨_, rfl⟩
  have HH : Hd (H = W.heap.size) := hH
  rw [← hH] at b0 b1 b2
  have HF : Hd (Fr (fun _ => False) W wa) := hF
  have HT : Hd (∀ wx, Fr (fun _ => False) wa wx → (wx.cell? ⟨H, 0, none⟩ = some (vI P) ∧ wx.cell? ⟨H, 1, none⟩ = some (vI R) ∧ wx.cell? ⟨H, 2, none⟩ = some (vI V) ∧ wx.cell? ⟨H, 3, none⟩ = some (.slice ca cn cc) ∧ wx.cell? ⟨H, 4, none⟩ = some (.slice (some ⟨ks, os, none⟩) sn sc) ∧ wx.cell? ⟨H + 1, 0, none⟩ = some (vI 11) ∧ wx.cell? ⟨H + 1, 1, none⟩ = some (vI r) ∧ wx.cell? ⟨H + 1, 2, none⟩ = some (vI s) ∧ wx.cell? ⟨H + 1, 3, none⟩ = some (vI t) ∧ wx.cell? ⟨H + 1, 4, none⟩ = some (vI (m : Int)) ∧ wx.cell? ⟨H + 1, 5, none⟩ = some (.slice aa args.length ac) ∧ wx.cell? ⟨H + 1, 6, none⟩ = some (.slice ra rets.length rc) ∧ wx.cell? ⟨H + 2, 0, none⟩ = some (vI 3) ∧ wx.cell? ⟨H + 2, 1, none⟩ = some (vI 0) ∧ wx.cell? ⟨H + 2, 2, none⟩ = some (vI 0) ∧ wx.cell? ⟨H + 2, 3, none⟩ = some (vI 0)) ∧ wx.cell? ⟨ks, os + m * 2, none⟩ = some (.slice ha hs.length hc) ∧ wx.cell? ⟨ks, os + m * 2 + 1, none⟩ = some (.slice la res.length lc)) := fun wx hx => by
    have q0 := (hx.block _ (heap_lt0 b0) (fun e => e)).trans b0
    have q1 := (hx.block _ (heap_lt0 b1) (fun e => e)).trans b1
    have q2 := (hx.block _ (heap_lt0 b2) (fun e => e)).trans b2
    have f := hF.trans hx
    refine ⟨⟨?_, ?_, ?_, ?_, ?_, ?_, ?_, ?_, ?_, ?_, ?_, ?_, ?_, ?_, ?_, ?_⟩, (f.cell (by have := HN.out; omega) (fun e => e)).trans HSm.out.1, (f.cell (by have := HN.out; omega) (fun e => e)).trans HSm.out.2⟩ <;> first | (rw [cell_of0 q0]; rfl) | (rw [cell_of0 q1]; rfl) | (rw [cell_of0 q2]; rfl)
  clear hwa hF b0 b1 b2 hH
  go_enter Tryd.func46, Tryd.ntmps46
  go_upto_region 2 with fail
  rw [← HWA.out, ← HH.out]
  clear HWA HH t0 t1 t2 t3 hWp
  obtain ⟨⟨p0, p1, p2, p3, p4, p5, p6, p7, p8, p9, p10, p11, p12, p13, p14, p15⟩, u0, u1⟩ := HT.out wa (Fr.refl _ wa)
  go_upto_region 8 with fail
  go_cut [6] (fun x2 wx => ∃ X, x2 = .func (.func 84) #[] #[.pointer (some ⟨X + 1, 0, none⟩), .pointer (some ⟨X, 0, none⟩), .pointer (some ⟨X + 2, 0, none⟩)] ∧ Hd (Fr (fun _ => False) wa wx) ∧ Hd (wx.heap[X]? = some (.cells #[vI P, vI R, vI V, .slice ca cn cc, .slice (some ⟨ks, os, none⟩) sn sc] 63) ∧ wx.heap[X + 1]? = some (.cells #[vI 11, vI r, vI s, vI t, vI (m : Int), .slice aa args.length ac, .slice ra rets.length rc] 57) ∧ wx.heap[X + 2]? = some (.cells #[.slice ha hs.length hc, .slice la res.length lc] 34)))
  case first =>
    go_region_held3 (fun w' => w'.cell? ⟨H, 0, none⟩ = some (vI P) ∧ w'.cell? ⟨H, 1, none⟩ = some (vI R) ∧ w'.cell? ⟨H, 2, none⟩ = some (vI V) ∧ w'.cell? ⟨H, 3, none⟩ = some (.slice ca cn cc) ∧ w'.cell? ⟨H, 4, none⟩ = some (.slice (some ⟨ks, os, none⟩) sn sc) ∧ w'.cell? ⟨H + 1, 0, none⟩ = some (vI 11) ∧ w'.cell? ⟨H + 1, 1, none⟩ = some (vI r) ∧ w'.cell? ⟨H + 1, 2, none⟩ = some (vI s) ∧ w'.cell? ⟨H + 1, 3, none⟩ = some (vI t) ∧ w'.cell? ⟨H + 1, 4, none⟩ = some (vI (m : Int)) ∧ w'.cell? ⟨H + 1, 5, none⟩ = some (.slice aa args.length ac) ∧ w'.cell? ⟨H + 1, 6, none⟩ = some (.slice ra rets.length rc) ∧ w'.cell? ⟨H + 2, 0, none⟩ = some (vI 3) ∧ w'.cell? ⟨H + 2, 1, none⟩ = some (vI 0) ∧ w'.cell? ⟨H + 2, 2, none⟩ = some (vI 0) ∧ w'.cell? ⟨H + 2, 3, none⟩ = some (vI 0) ∧ w'.cell? ⟨ks, os + m * 2, none⟩ = some (.slice ha hs.length hc) ∧ w'.cell? ⟨ks, os + m * 2 + 1, none⟩ = some (.slice la res.length lc)) (go_keep) ((
      first
        | (go_at_call 67
           refine (called_any _ _ _ P R V ca cn cc (some ⟨ks, os, none⟩) sn sc ⟨11, r, s, t, m, aa, args.length, ac, ra, rets.length, rc⟩ ha hs.length hc la res.length lc _ rfl rfl rfl).mono ?_
           rintro e wo ⟨rfl, hwo⟩
           have HFo : Hd (Fr (fun _ => False) wa wo) := by unfold Hd; rw [hwo]; exact Fr.alloc (Fr.alloc (Fr.alloc (Fr.drew (Fr.refl _ wa)) _) _) _
           have HBo : Hd (wo.heap[wa.drew.heap.size]? = some (.cells #[vI P, vI R, vI V, .slice ca cn cc, .slice (some ⟨ks, os, none⟩) sn sc] 63) ∧ wo.heap[wa.drew.heap.size + 1]? = some (.cells #[vI 11, vI r, vI s, vI t, vI (m : Int), .slice aa args.length ac, .slice ra rets.length rc] 57) ∧ wo.heap[wa.drew.heap.size + 2]? = some (.cells #[.slice ha hs.length hc, .slice la res.length lc] 34)) := by unfold Hd; rw [hwo]; exact alloc3 _ _ _ _
           obtain ⟨⟨p0, p1, p2, p3, p4, p5, p6, p7, p8, p9, p10, p11, p12, p13, p14, p15⟩, u0, u1⟩ := HT.out wo HFo.out
           clear hwo)
        | fail))
    all_goals
      go_wp2_with fail
      go_meet
      exact ⟨_, rfl, HFo.out, HBo.out⟩
  case rest =>
    obtain ⟨Xb, rfl, HFx, HBx⟩ := hcut
    go_wp2_with fail
    go_ret
    refine ⟨84, _, rfl, enters_of Tryd.func84 (by kernel_rfl) rfl, HF.out.trans HFx.out, fun n => ?_⟩
    have f := HF.out.trans HFx.out
    have fb : Go.RowKit.Below n0 W _ := ⟨f.os, f.tape, f.output, f.size, fun k hk => f.block k (by have := HN.out; omega) (fun e => e)⟩
    exact called_gives n n0 (Xb + 1) Xb (Xb + 2) P R V ca cn cc _ 11 r s t m _ _ _ _ args rets hs res _ hlen hhs hres hrl hrt (Nat.le_trans HN.out f.size) HBx.out.2.1 HBx.out.1 HBx.out.2.2 (HA.out.kept fb) (HRt.out.kept fb) (HHs.out.kept fb) (HL.out.kept fb)

end Go.Proofs.YtlmlmhinbkcpoaaDoor
