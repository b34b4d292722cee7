import Derived.Test.YtingenonbkencabDoorQK8J
set_option linter.unusedVariables false
set_option linter.unusedSimpArgs false
namespace Go.Proofs.YtingenonbkencabDoor
open Go.RowKit (wrap32 wrap64)
set_option maxRecDepth 100000
set_option maxHeartbeats 4000000
def partCall (rb : Nat) (F I : Value) (zr zs zt zn : Int) (fl : Nat) (u : UInt8) : Nat × Array Value :=
 if u = 82 then (69, #[.pointer (some ⟨rb, 0, none⟩), F, vI zr]) else if u = 83 then (69, #[.pointer (some ⟨rb, 0, none⟩), F, vI zs]) else if u = 84 then (69, #[.pointer (some ⟨rb, 0, none⟩), F, vI zt])
 else if u = 65 ∨ u = 66 ∨ u = 86 then (70, #[.pointer (some ⟨rb, 0, none⟩), vU u, F, I]) else (71, #[.pointer (some ⟨rb, 0, none⟩), vU u, vI zn, vI fl])
theorem rinstr (rb : Nat) (G : Int) (fv : Value) (w : World) (L E : Int) (h : RW rb G fv w L E) (hL0 : 0 ≤ L) (hL1 : L ≤ 1000000000000) (P R V : Int) (a : Option Addr) (fl c : Nat) (op zr zs zt zn : Int) (aa ra : Option Addr) (la ca lr cr : Nat) (last : Bool)
 (EE : Nat → Int) (h0 : EE 0 = opE op (plainB op zr zs zt zn la lr) last L E)
 (hs : ∀ j (hj : j < (partsN op.toNat).toList.length) w', RW rb G fv w' (opL op L) (EE j) → Fr (fun k => k = rb) w w' →
   Calls Tryd.prog (partCall rb (.agg #[vI P, vI R, vI V, .slice a fl c]) (.agg #[vI op, vI zr, vI zs, vI zt, vI zn, .slice aa la ca, .slice ra lr cr]) zr zs zt zn fl (partsN op.toNat).toList[j]).1 (partCall rb (.agg #[vI P, vI R, vI V, .slice a fl c]) (.agg #[vI op, vI zr, vI zs, vI zt, vI zn, .slice aa la ca, .slice ra lr cr]) zr zs zt zn fl (partsN op.toNat).toList[j]).2 w'
    fun r w'' => r = .returned (.tuple #[]) ∧ RW rb G fv w'' (opL op L) (EE (j + 1)) ∧ Fr (fun k => k = rb) w' w'') :
 Calls Tryd.prog 44 #[.pointer (some ⟨rb, 0, none⟩), .agg #[vI P, vI R, vI V, .slice a fl c], .agg #[vI op, vI zr, vI zs, vI zt, vI zn, .slice aa la ca, .slice ra lr cr], .bool last] w
  fun r w' => r = .returned (.tuple #[]) ∧ RW rb G fv w' (opL op L) (EE (partsN op.toNat).toList.length) ∧ Fr (fun k => k = rb) w w' := by
 have hrb : rb < w.heap.size := h.cells.2.2.2.2.2
 obtain ⟨W, HW⟩ : ∃ W, W = (w.alloc (.cells #[vI P, vI R, vI V, .slice a fl c] 42)).alloc (.cells #[vI op, vI zr, vI zs, vI zt, vI zn, .slice aa la ca, .slice ra lr cr] 57) := ⟨_, rfl⟩
 have hf1 : Fr (fun _ => False) w W := by rw [HW]; exact Fr.alloc (Fr.alloc (Fr.refl _ _) _) _
 have h1 : RW rb G fv W L E := h.fr hf1 (fun h => h)
 have hxa : W.heap[w.heap.size]? = some (.cells #[vI P, vI R, vI V, .slice a fl c] 42) := by
  rw [HW, Go.RowKit.Below.heap_alloc _ _ _ (by simp)]; exact heap_alloc_last w _
 have hxb : W.heap[w.heap.size + 1]? = some (.cells #[vI op, vI zr, vI zs, vI zt, vI zn, .slice aa la ca, .slice ra lr cr] 57) := by
  rw [HW]
  have := heap_alloc_last (w.alloc (.cells #[vI P, vI R, vI V, .slice a fl c] 42)) (.cells #[vI op, vI zr, vI zs, vI zt, vI zn, .slice aa la ca, .slice ra lr cr] 57)
  simpa using this
 have HS : Hd _ := hs
 have H0 : Hd _ := h0
 have hB : Hd (partsB op = ⟨(partsN op.toNat).toList.toArray⟩) := rfl
 have h3 : (partsN op.toNat).toList.length ≤ 3 := by simpa using partsN_size op.toNat
 generalize (partsN op.toNat).toList = l at HS hB h3 ⊢
 clear hs h0 h
 have hcall := rop rb G fv W L E h1 hL0 hL1 op zr zs zt zn aa ra la ca lr cr last
 rw [← H0.out] at hcall
 go_enter Tryd.func44, Tryd.ntmps44
 go_wp2_with fail
 rw [← HW]
 refine hcall.mono ?_
 rintro e w2 ⟨rfl, h2, hf2⟩
 clear hcall h1 HW
 -- the letters
 have hsz : w.heap.size + 1 < W.heap.size := (Array.getElem?_eq_some_iff.1 hxb).1
 have hxa2 : w2.heap[w.heap.size]? = some (.cells #[vI P, vI R, vI V, .slice a fl c] 42) := by rw [hf2.block _ (by omega) (by omega)]; exact hxa
 have hxb2 : w2.heap[w.heap.size + 1]? = some (.cells #[vI op, vI zr, vI zs, vI zt, vI zn, .slice aa la ca, .slice ra lr cr] 57) := by rw [hf2.block _ hsz (by omega)]; exact hxb
 have hfw2 : Fr (fun k => k = rb) w w2 := (hf1.mono (fun _ _ h => h.elim)).trans hf2
 have b0 : w2.cell? ⟨w.heap.size + 1, 0, none⟩ = some (vI op) := by unfold World.cell?; simp [hxb2]
 clear hf1 hf2 hxa hxb hsz
 have hsz : w.heap.size + 1 < w2.heap.size := (Array.getElem?_eq_some_iff.1 hxb2).1
 have hpc := rparts op w2
 rw [hB.out] at hpc
 go_wp2_with fail
 refine hpc.mono ?_
 rintro e w3 ⟨rfl, hf3⟩
 clear hpc b0
 have hr3 : RW rb G fv w3 (opL op L) (EE 0) := h2.fr hf3 (fun h => h)
 have hxa3 : w3.heap[w.heap.size]? = some (.cells #[vI P, vI R, vI V, .slice a fl c] 42) := by rw [hf3.block _ (by omega) (fun h => h)]; exact hxa2
 have hxb3 : w3.heap[w.heap.size + 1]? = some (.cells #[vI op, vI zr, vI zs, vI zt, vI zn, .slice aa la ca, .slice ra lr cr] 57) := by rw [hf3.block _ hsz (fun h => h)]; exact hxb2
 have hfw3 : Fr (fun k => k = rb) w w3 := hfw2.trans (hf3.mono (fun _ _ h => h.elim))
 have hsz3 : w.heap.size + 1 < w3.heap.size := (Array.getElem?_eq_some_iff.1 hxb3).1
 clear hf3 h2 hfw2 hxa2 hxb2 hsz hB
 go_wp2_with fail
 go_loopw [9] (fun i wr => ∃ (k : Nat), k ≤ l.length ∧ i = .int .i64 k ∧ RW rb G fv wr (opL op L) (EE k) ∧ Fr (fun j => j = rb) w3 wr) (fun i _ => match i with | .int _ q => l.length - q.toNat | _ => 0)
 case atStart => exact ⟨0, Nat.zero_le _, rfl, hr3, Fr.refl _ _⟩
 case round =>
  obtain ⟨k, hk, rfl, hr, hfr⟩ := hrel
  by_cases hlt : k < l.length
  rotate_left
  ·have hkl : k = l.length := by omega
   subst hkl
   have HRR : Hd (RW rb G fv wr (opL op L) (EE l.length)) := hr
   clear hr
   go_wp2_with fail
   go_end0
   exact ⟨rfl, HRR.out, hfw3.trans hfr⟩
  have hp : k < (⟨l.toArray⟩ : ByteArray).size := by show k < l.toArray.size; simpa using hlt
  have hi : (⟨l.toArray⟩ : ByteArray)[k]'hp = l[k] := rfl
  have hxa : wr.heap[w.heap.size]? = some (.cells #[vI P, vI R, vI V, .slice a fl c] 42) := by rw [hfr.block _ (by omega) (by omega)]; exact hxa3
  have hxb : wr.heap[w.heap.size + 1]? = some (.cells #[vI op, vI zr, vI zs, vI zt, vI zn, .slice aa la ca, .slice ra lr cr] 57) := by rw [hfr.block _ hsz3 (by omega)]; exact hxb3
  have f0 : wr.cell? ⟨w.heap.size, 0, none⟩ = some (vI P) := by unfold World.cell?; simp [hxa]
  have f1 : wr.cell? ⟨w.heap.size, 1, none⟩ = some (vI R) := by unfold World.cell?; simp [hxa]
  have f2 : wr.cell? ⟨w.heap.size, 2, none⟩ = some (vI V) := by unfold World.cell?; simp [hxa]
  have f3 : wr.cell? ⟨w.heap.size, 3, none⟩ = some (.slice a fl c) := by unfold World.cell?; simp [hxa]
  have b0 : wr.cell? ⟨w.heap.size + 1, 0, none⟩ = some (vI op) := by unfold World.cell?; simp [hxb]
  have b1 : wr.cell? ⟨w.heap.size + 1, 1, none⟩ = some (vI zr) := by unfold World.cell?; simp [hxb]
  have b2 : wr.cell? ⟨w.heap.size + 1, 2, none⟩ = some (vI zs) := by unfold World.cell?; simp [hxb]
  have b3 : wr.cell? ⟨w.heap.size + 1, 3, none⟩ = some (vI zt) := by unfold World.cell?; simp [hxb]
  have b4 : wr.cell? ⟨w.heap.size + 1, 4, none⟩ = some (vI zn) := by unfold World.cell?; simp [hxb]
  have b5 : wr.cell? ⟨w.heap.size + 1, 5, none⟩ = some (.slice aa la ca) := by unfold World.cell?; simp [hxb]
  have b6 : wr.cell? ⟨w.heap.size + 1, 6, none⟩ = some (.slice ra lr cr) := by unfold World.cell?; simp [hxb]
  have hszr : w.heap.size + 1 < wr.heap.size := (Array.getElem?_eq_some_iff.1 hxb).1
  have HC : Hd _ := fun w' (hrw : RW rb G fv w' (opL op L) (EE k)) (hf : Fr (fun j => j = rb) w w') => HS.out k hlt w' hrw hf
  have HRR : Hd (RW rb G fv wr (opL op L) (EE k)) := hr
  clear hxa hxb hr HS
  by_cases q82 : l[k] = 82
  ·have e82 : (((((⟨l.toArray⟩ : ByteArray)[k]'hp).toNat : Nat) : Int) == 82) = true := by rw [hi, q82]; rfl
   have hcall : Hd (∀ w', RW rb G fv w' (opL op L) (EE k) → Fr (fun j => j = rb) w w' → Calls Tryd.prog 69 #[.pointer (some ⟨rb, 0, none⟩), .agg #[vI P, vI R, vI V, .slice a fl c], vI zr] w' fun r w'' => r = .returned (.tuple #[]) ∧ RW rb G fv w'' (opL op L) (EE (k + 1)) ∧ Fr (fun j => j = rb) w' w'') := fun w' h1 h2 => by
    have := HC.out w' h1 h2
    rw [q82] at this
    exact this
   clear hi q82 HC
   go_wp2_with fail
   refine (hcall.out wr HRR.out (hfw3.trans hfr)).mono ?_
   rintro e w4 ⟨rfl, h4, hf4⟩
   clear f0 f1 f2 f3 b0 b1 b2 b3 b4 b5 b6
   go_wp2_with fail
   exact ⟨⟨k + 1, by omega, by simp, h4, hfr.trans hf4⟩, by simp; omega⟩
  by_cases q83 : l[k] = 83
  ·have n82 : (((((⟨l.toArray⟩ : ByteArray)[k]'hp).toNat : Nat) : Int) == 82) = false := by
    rw [hi]; simp only [beq_eq_false_iff_ne, ne_eq]; intro e; exact q82 (UInt8.toNat_inj.1 (by show _ = 82; omega))
   have e83 : (((((⟨l.toArray⟩ : ByteArray)[k]'hp).toNat : Nat) : Int) == 83) = true := by rw [hi, q83]; rfl
   have hcall : Hd (∀ w', RW rb G fv w' (opL op L) (EE k) → Fr (fun j => j = rb) w w' → Calls Tryd.prog 69 #[.pointer (some ⟨rb, 0, none⟩), .agg #[vI P, vI R, vI V, .slice a fl c], vI zs] w' fun r w'' => r = .returned (.tuple #[]) ∧ RW rb G fv w'' (opL op L) (EE (k + 1)) ∧ Fr (fun j => j = rb) w' w'') := fun w' h1 h2 => by
    have := HC.out w' h1 h2
    rw [q83] at this
    exact this
   clear hi q83 HC
   go_wp2_with fail
   refine (hcall.out wr HRR.out (hfw3.trans hfr)).mono ?_
   rintro e w4 ⟨rfl, h4, hf4⟩
   clear f0 f1 f2 f3 b0 b1 b2 b3 b4 b5 b6
   go_wp2_with fail
   exact ⟨⟨k + 1, by omega, by simp, h4, hfr.trans hf4⟩, by simp; omega⟩
  by_cases q84 : l[k] = 84
  ·have n82 : (((((⟨l.toArray⟩ : ByteArray)[k]'hp).toNat : Nat) : Int) == 82) = false := by
    rw [hi]; simp only [beq_eq_false_iff_ne, ne_eq]; intro e; exact q82 (UInt8.toNat_inj.1 (by show _ = 82; omega))
   have n83 : (((((⟨l.toArray⟩ : ByteArray)[k]'hp).toNat : Nat) : Int) == 83) = false := by
    rw [hi]; simp only [beq_eq_false_iff_ne, ne_eq]; intro e; exact q83 (UInt8.toNat_inj.1 (by show _ = 83; omega))
   have e84 : (((((⟨l.toArray⟩ : ByteArray)[k]'hp).toNat : Nat) : Int) == 84) = true := by rw [hi, q84]; rfl
   have hcall : Hd (∀ w', RW rb G fv w' (opL op L) (EE k) → Fr (fun j => j = rb) w w' → Calls Tryd.prog 69 #[.pointer (some ⟨rb, 0, none⟩), .agg #[vI P, vI R, vI V, .slice a fl c], vI zt] w' fun r w'' => r = .returned (.tuple #[]) ∧ RW rb G fv w'' (opL op L) (EE (k + 1)) ∧ Fr (fun j => j = rb) w' w'') := fun w' h1 h2 => by
    have := HC.out w' h1 h2
    rw [q84] at this
    exact this
   clear hi q84 HC
   go_wp2_with fail
   refine (hcall.out wr HRR.out (hfw3.trans hfr)).mono ?_
   rintro e w4 ⟨rfl, h4, hf4⟩
   clear f0 f1 f2 f3 b0 b1 b2 b3 b4 b5 b6
   go_wp2_with fail
   exact ⟨⟨k + 1, by omega, by simp, h4, hfr.trans hf4⟩, by simp; omega⟩
  by_cases q65 : l[k] = 65
  ·have n82 : (((((⟨l.toArray⟩ : ByteArray)[k]'hp).toNat : Nat) : Int) == 82) = false := by
    rw [hi]; simp only [beq_eq_false_iff_ne, ne_eq]; intro e; exact q82 (UInt8.toNat_inj.1 (by show _ = 82; omega))
   have n83 : (((((⟨l.toArray⟩ : ByteArray)[k]'hp).toNat : Nat) : Int) == 83) = false := by
    rw [hi]; simp only [beq_eq_false_iff_ne, ne_eq]; intro e; exact q83 (UInt8.toNat_inj.1 (by show _ = 83; omega))
   have n84 : (((((⟨l.toArray⟩ : ByteArray)[k]'hp).toNat : Nat) : Int) == 84) = false := by
    rw [hi]; simp only [beq_eq_false_iff_ne, ne_eq]; intro e; exact q84 (UInt8.toNat_inj.1 (by show _ = 84; omega))
   have e65 : (((((⟨l.toArray⟩ : ByteArray)[k]'hp).toNat : Nat) : Int) == 65) = true := by rw [hi, q65]; rfl
   have hcall : Hd (∀ w', RW rb G fv w' (opL op L) (EE k) → Fr (fun j => j = rb) w w' → Calls Tryd.prog 70 #[.pointer (some ⟨rb, 0, none⟩), .int .u8 (((⟨l.toArray⟩ : ByteArray)[k]'hp).toNat : Nat), .agg #[vI P, vI R, vI V, .slice a fl c], .agg #[vI op, vI zr, vI zs, vI zt, vI zn, .slice aa la ca, .slice ra lr cr]] w' fun r w'' => r = .returned (.tuple #[]) ∧ RW rb G fv w'' (opL op L) (EE (k + 1)) ∧ Fr (fun j => j = rb) w' w'') := fun w' h1 h2 => by
    have := HC.out w' h1 h2
    rw [q65] at this
    rw [hi, q65]; exact this
   clear hi q65 HC
   go_wp2_with fail
   go_region_with ((
    go_at_call 70
    refine (hcall.out _ (RW.fr HRR.out (Fr.drew (Fr.refl (fun _ => False) _)) (fun h => h)) (hfw3.trans hfr.drew)).mono ?_
    rintro e w4 ⟨rfl, h4, hf4⟩
    have hf34 := hfr.drew.trans hf4))
   all_goals
    clear f0 f1 f2 f3 b0 b1 b2 b3 b4 b5 b6
    go_wp2_with fail
    exact ⟨⟨k + 1, by omega, by simp, h4, hf34⟩, by simp; omega⟩
  by_cases q66 : l[k] = 66
  ·have n82 : (((((⟨l.toArray⟩ : ByteArray)[k]'hp).toNat : Nat) : Int) == 82) = false := by
    rw [hi]; simp only [beq_eq_false_iff_ne, ne_eq]; intro e; exact q82 (UInt8.toNat_inj.1 (by show _ = 82; omega))
   have n83 : (((((⟨l.toArray⟩ : ByteArray)[k]'hp).toNat : Nat) : Int) == 83) = false := by
    rw [hi]; simp only [beq_eq_false_iff_ne, ne_eq]; intro e; exact q83 (UInt8.toNat_inj.1 (by show _ = 83; omega))
   have n84 : (((((⟨l.toArray⟩ : ByteArray)[k]'hp).toNat : Nat) : Int) == 84) = false := by
    rw [hi]; simp only [beq_eq_false_iff_ne, ne_eq]; intro e; exact q84 (UInt8.toNat_inj.1 (by show _ = 84; omega))
   have n65 : (((((⟨l.toArray⟩ : ByteArray)[k]'hp).toNat : Nat) : Int) == 65) = false := by
    rw [hi]; simp only [beq_eq_false_iff_ne, ne_eq]; intro e; exact q65 (UInt8.toNat_inj.1 (by show _ = 65; omega))
   have e66 : (((((⟨l.toArray⟩ : ByteArray)[k]'hp).toNat : Nat) : Int) == 66) = true := by rw [hi, q66]; rfl
   have hcall : Hd (∀ w', RW rb G fv w' (opL op L) (EE k) → Fr (fun j => j = rb) w w' → Calls Tryd.prog 70 #[.pointer (some ⟨rb, 0, none⟩), .int .u8 (((⟨l.toArray⟩ : ByteArray)[k]'hp).toNat : Nat), .agg #[vI P, vI R, vI V, .slice a fl c], .agg #[vI op, vI zr, vI zs, vI zt, vI zn, .slice aa la ca, .slice ra lr cr]] w' fun r w'' => r = .returned (.tuple #[]) ∧ RW rb G fv w'' (opL op L) (EE (k + 1)) ∧ Fr (fun j => j = rb) w' w'') := fun w' h1 h2 => by
    have := HC.out w' h1 h2
    rw [q66] at this
    rw [hi, q66]; exact this
   clear hi q66 HC
   go_wp2_with fail
   go_region_with ((
    go_at_call 70
    refine (hcall.out _ (RW.fr HRR.out (Fr.drew (Fr.refl (fun _ => False) _)) (fun h => h)) (hfw3.trans hfr.drew)).mono ?_
    rintro e w4 ⟨rfl, h4, hf4⟩
    have hf34 := hfr.drew.trans hf4))
   all_goals
    clear f0 f1 f2 f3 b0 b1 b2 b3 b4 b5 b6
    go_wp2_with fail
    exact ⟨⟨k + 1, by omega, by simp, h4, hf34⟩, by simp; omega⟩
  by_cases q86 : l[k] = 86
  ·have n82 : (((((⟨l.toArray⟩ : ByteArray)[k]'hp).toNat : Nat) : Int) == 82) = false := by
    rw [hi]; simp only [beq_eq_false_iff_ne, ne_eq]; intro e; exact q82 (UInt8.toNat_inj.1 (by show _ = 82; omega))
   have n83 : (((((⟨l.toArray⟩ : ByteArray)[k]'hp).toNat : Nat) : Int) == 83) = false := by
    rw [hi]; simp only [beq_eq_false_iff_ne, ne_eq]; intro e; exact q83 (UInt8.toNat_inj.1 (by show _ = 83; omega))
   have n84 : (((((⟨l.toArray⟩ : ByteArray)[k]'hp).toNat : Nat) : Int) == 84) = false := by
    rw [hi]; simp only [beq_eq_false_iff_ne, ne_eq]; intro e; exact q84 (UInt8.toNat_inj.1 (by show _ = 84; omega))
   have n65 : (((((⟨l.toArray⟩ : ByteArray)[k]'hp).toNat : Nat) : Int) == 65) = false := by
    rw [hi]; simp only [beq_eq_false_iff_ne, ne_eq]; intro e; exact q65 (UInt8.toNat_inj.1 (by show _ = 65; omega))
   have n66 : (((((⟨l.toArray⟩ : ByteArray)[k]'hp).toNat : Nat) : Int) == 66) = false := by
    rw [hi]; simp only [beq_eq_false_iff_ne, ne_eq]; intro e; exact q66 (UInt8.toNat_inj.1 (by show _ = 66; omega))
   have e86 : (((((⟨l.toArray⟩ : ByteArray)[k]'hp).toNat : Nat) : Int) == 86) = true := by rw [hi, q86]; rfl
   have hcall : Hd (∀ w', RW rb G fv w' (opL op L) (EE k) → Fr (fun j => j = rb) w w' → Calls Tryd.prog 70 #[.pointer (some ⟨rb, 0, none⟩), .int .u8 (((⟨l.toArray⟩ : ByteArray)[k]'hp).toNat : Nat), .agg #[vI P, vI R, vI V, .slice a fl c], .agg #[vI op, vI zr, vI zs, vI zt, vI zn, .slice aa la ca, .slice ra lr cr]] w' fun r w'' => r = .returned (.tuple #[]) ∧ RW rb G fv w'' (opL op L) (EE (k + 1)) ∧ Fr (fun j => j = rb) w' w'') := fun w' h1 h2 => by
    have := HC.out w' h1 h2
    rw [q86] at this
    rw [hi, q86]; exact this
   clear hi q86 HC
   go_wp2_with fail
   go_region_with ((
    go_at_call 70
    refine (hcall.out _ (RW.fr HRR.out (Fr.drew (Fr.refl (fun _ => False) _)) (fun h => h)) (hfw3.trans hfr.drew)).mono ?_
    rintro e w4 ⟨rfl, h4, hf4⟩
    have hf34 := hfr.drew.trans hf4))
   all_goals
    clear f0 f1 f2 f3 b0 b1 b2 b3 b4 b5 b6
    go_wp2_with fail
    exact ⟨⟨k + 1, by omega, by simp, h4, hf34⟩, by simp; omega⟩
  have n82 : (((((⟨l.toArray⟩ : ByteArray)[k]'hp).toNat : Nat) : Int) == 82) = false := by
   rw [hi]; simp only [beq_eq_false_iff_ne, ne_eq]; intro e; exact q82 (UInt8.toNat_inj.1 (by show _ = 82; omega))
  have n83 : (((((⟨l.toArray⟩ : ByteArray)[k]'hp).toNat : Nat) : Int) == 83) = false := by
   rw [hi]; simp only [beq_eq_false_iff_ne, ne_eq]; intro e; exact q83 (UInt8.toNat_inj.1 (by show _ = 83; omega))
  have n84 : (((((⟨l.toArray⟩ : ByteArray)[k]'hp).toNat : Nat) : Int) == 84) = false := by
   rw [hi]; simp only [beq_eq_false_iff_ne, ne_eq]; intro e; exact q84 (UInt8.toNat_inj.1 (by show _ = 84; omega))
  have n65 : (((((⟨l.toArray⟩ : ByteArray)[k]'hp).toNat : Nat) : Int) == 65) = false := by
   rw [hi]; simp only [beq_eq_false_iff_ne, ne_eq]; intro e; exact q65 (UInt8.toNat_inj.1 (by show _ = 65; omega))
  have n66 : (((((⟨l.toArray⟩ : ByteArray)[k]'hp).toNat : Nat) : Int) == 66) = false := by
   rw [hi]; simp only [beq_eq_false_iff_ne, ne_eq]; intro e; exact q66 (UInt8.toNat_inj.1 (by show _ = 66; omega))
  have n86 : (((((⟨l.toArray⟩ : ByteArray)[k]'hp).toNat : Nat) : Int) == 86) = false := by
   rw [hi]; simp only [beq_eq_false_iff_ne, ne_eq]; intro e; exact q86 (UInt8.toNat_inj.1 (by show _ = 86; omega))
  have hcall : Hd (∀ w', RW rb G fv w' (opL op L) (EE k) → Fr (fun j => j = rb) w w' → Calls Tryd.prog 71 #[.pointer (some ⟨rb, 0, none⟩), .int .u8 (((⟨l.toArray⟩ : ByteArray)[k]'hp).toNat : Nat), vI zn, vI fl] w' fun r w'' => r = .returned (.tuple #[]) ∧ RW rb G fv w'' (opL op L) (EE (k + 1)) ∧ Fr (fun j => j = rb) w' w'') := fun w' h1 h2 => by
   have := HC.out w' h1 h2
   unfold partCall at this
   rw [if_neg q82, if_neg q83, if_neg q84, if_neg (fun h => h.elim q65 (fun h => h.elim q66 q86))] at this
   exact this
  clear hi HC q82 q83 q84 q65 q66 q86
  go_wp2_with fail
  go_region_with ((
   go_at_call 71
   refine (hcall.out _ (RW.fr HRR.out (Fr.drew (Fr.refl (fun _ => False) _)) (fun h => h)) (hfw3.trans hfr.drew)).mono ?_
   rintro e w4 ⟨rfl, h4, hf4⟩
   have hf34 := hfr.drew.trans hf4))
  all_goals
   clear f0 f1 f2 f3 b0 b1 b2 b3 b4 b5 b6
   go_wp2_with fail
   exact ⟨⟨k + 1, by omega, by simp, h4, hf34⟩, by simp; omega⟩
end Go.Proofs.YtingenonbkencabDoor
