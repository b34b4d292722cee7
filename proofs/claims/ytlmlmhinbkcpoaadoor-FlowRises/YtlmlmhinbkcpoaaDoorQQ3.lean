import Derived.Test.YtlmlmhinbkcpoaaDoorQQ0J
namespace Go.Proofs.YtlmlmhinbkcpoaaDoor
open Go.RowKit (wrap32 wrap64)
set_option linter.unusedVariables false
set_option linter.unusedSimpArgs false

theorem returned_any (P R V : Int) (ca : Option Addr) (cn cc : Nat) (sa : Option Addr) (sn sc : Nat) (ad : Option Addr) (m cap : Nat) (w : World) :
    Calls Tryd.prog 66 #[.agg #[vI P, vI R, vI V, .slice ca cn cc, .slice sa sn sc], .slice ad m cap] w fun e w' => e = .returned (.func (.func 83) #[] #[.pointer (some ⟨w.heap.size + 1, 0, none⟩), .pointer (some ⟨w.heap.size, 0, none⟩)]) ∧ w' = (w.alloc (.cells #[vI P, vI R, vI V, .slice ca cn cc, .slice sa sn sc] 63)).alloc (.cells #[.slice ad m cap] 31) := by
  go_enter Tryd.func66, Tryd.ntmps66
  go_wp2
  go_ret
  exact ⟨rfl, rfl⟩

theorem firstCell_any (P R V : Int) (a : Option Addr) (n c : Nat) (w : World) :
    Calls Tryd.prog 34 #[.agg #[vI P, vI R, vI V, .slice a n c]] w fun e w' => e = .returned (vI (cellX R V)) ∧ w' = w.alloc (.cells #[vI P, vI R, vI V, .slice a n c] 30) := by
  go_enter Tryd.func34, Tryd.ntmps34
  go_wp2
  go_ret
  exact ⟨rfl, rfl⟩

theorem returned_gives_new (n n0 X : Nat) (P R V : Int) (ca : Option Addr) (cn cc : Nat) (sa : Option Addr) (sn sc : Nat) (zs : List Int) (ad : Option Addr) (cap : Nat) (w : World) (hX : w.heap.size = X) (hlen : zs.length ≤ 1000000) (hn0 : n0 ≤ w.heap.size)
    (hc : zs ≠ [] → ∃ k0 o0, ad = some ⟨k0, o0, none⟩ ∧ k0 < n0 ∧ ∀ j (h : j < zs.length), w.cell? ⟨k0, o0 + j, none⟩ = some (vI zs[j])) :
    SeqGivesC Fence.wide n Tryd.prog 83 #[] #[.pointer (some ⟨X + 1, 0, none⟩), .pointer (some ⟨X, 0, none⟩)] encE (fun _ => KpA n0) (fun xs => xs = retE R V zs) (retE R V zs).length ((w.alloc (.cells #[vI P, vI R, vI V, .slice ca cn cc, .slice sa sn sc] 63)).alloc (.cells #[.slice ad zs.length cap] 31)) := by
  subst hX
  have hl : (retE R V zs).length = zs.length := by simp [retE]
  rw [hl]
  have f : Fr (fun _ => False) w ((w.alloc (.cells #[vI P, vI R, vI V, .slice ca cn cc, .slice sa sn sc] 63)).alloc (.cells #[.slice ad zs.length cap] 31)) := Fr.alloc (Fr.alloc (Fr.refl _ w) _) _
  refine returned_gives n n0 (w.heap.size + 1) w.heap.size P R V ca cn cc (.slice sa sn sc) zs ad cap _ hlen (Nat.le_trans hn0 f.size) ?_ ?_ (fun hne => ?_)
  · have := heap_new0 (w.alloc (.cells #[vI P, vI R, vI V, .slice ca cn cc, .slice sa sn sc] 63)) (.cells #[.slice ad zs.length cap] 31)
    rw [World.size_alloc] at this
    exact this
  · rw [Go.RowKit.Below.heap_alloc _ _ _ (by simp)]; exact heap_new0 w _
  · obtain ⟨k0, o0, e, hk, hcc⟩ := hc hne
    exact ⟨k0, o0, e, hk, fun j hj => (f.cell (by omega) (fun e => e)).trans (hcc j hj)⟩

/-- The package's table. -/
def RowsT (w : World) : Prop := w.cell? ⟨0, 60, none⟩ = some (vI 2) ∧ w.cell? ⟨0, 61, none⟩ = some (vI 0) ∧ w.cell? ⟨0, 62, none⟩ = some (vI 0) ∧ w.cell? ⟨0, 63, none⟩ = some (vI 0)

/-- What 'given' hands over, whatever has been kept since. -/
def Given (n0 : Nat) (bv iv : Value) (cell : Int) (E : List Ed) (w : World) : Prop :=
  ∀ W, KpA n0 w W → Calls Tryd.prog 46 #[bv, iv, vI cell] W fun e W' => ∃ g lb, e = .returned (.func (.func g) #[] lb) ∧ (∀ args w, (callFunc g args).run Tryd.prog w = .ok (.enter g args) w) ∧ Fr (fun _ => False) W W' ∧ ∀ n, SeqGivesC Fence.wide n Tryd.prog g #[] lb encE (fun _ => KpA n0) (fun xs => xs = E) E.length W'

set_option maxRecDepth 100000 in
set_option maxHeartbeats 2000000 in
theorem given_return (n0 : Nat) (P R V : Int) (ca : Option Addr) (cn cc : Nat) (sa : Option Addr) (sn sc : Nat) (r s t m cell : Int) (zs : List Int) (ad : Option Addr) (cap : Nat) (ra : Option Addr) (rn rc : Nat) (w : World) (hlen : zs.length ≤ 1000000) (h0 : 0 < n0) (hn0 : n0 ≤ w.heap.size) (hT : RowsT w)
    (hc : zs ≠ [] → ∃ k0 o0, ad = some ⟨k0, o0, none⟩ ∧ k0 < n0 ∧ ∀ j (h : j < zs.length), w.cell? ⟨k0, o0 + j, none⟩ = some (vI zs[j])) :
    Given n0 (.agg #[vI P, vI R, vI V, .slice ca cn cc, .slice sa sn sc]) (.agg #[vI 15, vI r, vI s, vI t, vI m, .slice ad zs.length cap, .slice ra rn rc]) cell (retE R V zs) w := by
  intro W hK
  have tb : ∀ o, W.cell? ⟨0, o, none⟩ = w.cell? ⟨0, o, none⟩ := fun o => hK.below.cell (p := ⟨0, o, none⟩) h0
  have t0 : W.cell? ⟨0, 60, none⟩ = some (vI 2) := (tb _).trans hT.1
  have t1 : W.cell? ⟨0, 61, none⟩ = some (vI 0) := (tb _).trans hT.2.1
  have t2 : W.cell? ⟨0, 62, none⟩ = some (vI 0) := (tb _).trans hT.2.2.1
  have t3 : W.cell? ⟨0, 63, none⟩ = some (vI 0) := (tb _).trans hT.2.2.2
  have HC : Hd (zs ≠ [] → ∃ k0 o0, ad = some ⟨k0, o0, none⟩ ∧ k0 < n0 ∧ ∀ j (h : j < zs.length), W.cell? ⟨k0, o0 + j, none⟩ = some (vI zs[j])) := fun hne => by
    obtain ⟨k0, o0, e, hk, hcc⟩ := hc hne
    exact ⟨k0, o0, e, hk, fun j hj => (hK.below.cell (p := ⟨k0, o0 + j, none⟩) hk).trans (hcc j hj)⟩
  have HN : Hd (n0 ≤ W.heap.size) := Nat.le_trans hn0 hK.below.size
  have hWp : 0 < W.heap.size := Nat.lt_of_lt_of_le h0 HN.out
  clear tb hT hc hK
  go_enter Tryd.func46, Tryd.ntmps46
  go_wp2_with fail
  refine (returned_any P R V ca cn cc sa sn sc ad zs.length cap _).mono ?_
  rintro e w1 ⟨rfl, rfl⟩
  go_wp2_with fail
  go_ret
  refine ⟨83, _, rfl, enters_of Tryd.func83 (by kernel_rfl) rfl, ?_, fun n => ?_⟩
  · exact Fr.alloc (Fr.alloc (Fr.alloc (Fr.alloc (Fr.alloc (Fr.refl _ W) _) _) _) _) _
  · refine returned_gives_new n n0 _ P R V ca cn cc sa sn sc zs ad cap _ (by simp) hlen ?_ (fun hne => ?_)
    · have := HN.out; simp; omega
    · obtain ⟨k0, o0, e, hk, hcc⟩ := HC.out hne
      refine ⟨k0, o0, e, hk, fun j hj => ?_⟩
      have f : Fr (fun _ => False) W (((W.alloc (.cells #[vI P, vI R, vI V, .slice ca cn cc, .slice sa sn sc] 63)).alloc (.cells #[vI 15, vI r, vI s, vI t, vI m, .slice ad zs.length cap, .slice ra rn rc] 57)).alloc (.cells #[vI 2, vI 0, vI 0, vI 0] 99)) := Fr.alloc (Fr.alloc (Fr.alloc (Fr.refl _ W) _) _) _
      exact (f.cell (by have := HN.out; omega) (fun e => e)).trans (hcc j hj)

end Go.Proofs.YtlmlmhinbkcpoaaDoor
