import Derived.Test.YtlmlmhinbkcpoaaGreatDoorQKc
import Derived.Test.YtlmlmhinbkcpoaaGreatDoorQF1J
namespace Go.Proofs.YtlmlmhinbkcpoaaGreatDoor
open Go.RowKit (wrap32 wrap64)
set_option linter.unusedVariables false
set_option linter.unusedSimpArgs false
set_option maxRecDepth 100000
set_option maxHeartbeats 4000000
def partCall (rb : Nat) (F I : Value) (zr zs zt zn : Int) (fl : Nat) (u : UInt8) : Nat × Array Value :=
  if u = 82 then (66, #[.pointer (some ⟨rb, 0, none⟩), F, vI zr]) else if u = 83 then (66, #[.pointer (some ⟨rb, 0, none⟩), F, vI zs]) else if u = 84 then (66, #[.pointer (some ⟨rb, 0, none⟩), F, vI zt])
  else if u = 65 ∨ u = 66 ∨ u = 86 then (67, #[.pointer (some ⟨rb, 0, none⟩), vU u, F, I]) else (68, #[.pointer (some ⟨rb, 0, none⟩), vU u, vI zn, vI fl])
theorem rinstr (rb : Nat) (G : Int) (fv : Value) (w : World) (L E : Int) (h : RW rb G fv w L E) (hL0 : 0 ≤ L) (hL1 : L ≤ 1000000000000) (P R V : Int) (a : Option Addr) (fl c : Nat) (op zr zs zt zn : Int) (aa ra : Option Addr) (la ca lr cr : Nat) (last : Bool)
    (EE : Nat → Int) (h0 : EE 0 = opE op (plainB op zr zs zt zn la lr) last L E)
    (hs : ∀ j (hj : j < (partsN op.toNat).toList.length) w', RW rb G fv w' (opL op L) (EE j) → Fr (fun k => k = rb) w w' →
      Calls Tryz.prog (partCall rb (.agg #[vI P, vI R, vI V, .slice a fl c]) (.agg #[vI op, vI zr, vI zs, vI zt, vI zn, .slice aa la ca, .slice ra lr cr]) zr zs zt zn fl (partsN op.toNat).toList[j]).1 (partCall rb (.agg #[vI P, vI R, vI V, .slice a fl c]) (.agg #[vI op, vI zr, vI zs, vI zt, vI zn, .slice aa la ca, .slice ra lr cr]) zr zs zt zn fl (partsN op.toNat).toList[j]).2 w'
        fun r w'' => r = .returned (.tuple #[]) ∧ RW rb G fv w'' (opL op L) (EE (j + 1)) ∧ Fr (fun k => k = rb) w' w'') :
    Calls Tryz.prog 39 #[.pointer (some ⟨rb, 0, none⟩), .agg #[vI P, vI R, vI V, .slice a fl c], .agg #[vI op, vI zr, vI zs, vI zt, vI zn, .slice aa la ca, .slice ra lr cr], .bool last] w
      fun r w' => r = .returned (.tuple #[]) ∧ RW rb G fv w' (opL op L) (EE (partsN op.toNat).toList.length) ∧ Fr (fun k => k = rb) w w' := by
  have hrb : rb < w.heap.size := h.cells.2.2.2.2.2
  obtain ⟨W, HW⟩ : ∃ W, W = (w.alloc (.cells #[vI P, vI R, vI V, .slice a fl c] 46)).alloc (.cells #[vI op, vI zr, vI zs, vI zt, vI zn, .slice aa la ca, .slice ra lr cr] 48) := ⟨_, rfl⟩
  have hf1 : Fr (fun _ => False) w W := by rw [HW]; exact Fr.alloc (Fr.alloc (Fr.refl _ _) _) _
  have h1 : RW rb G fv W L E := h.fr hf1 (fun h => h)
  have hxa : W.heap[w.heap.size]? = some (.cells #[vI P, vI R, vI V, .slice a fl c] 46) := by
    rw [HW, Go.RowKit.Below.heap_alloc _ _ _ (by simp)]; exact heap_alloc_last w _
  have hxb : W.heap[w.heap.size + 1]? = some (.cells #[vI op, vI zr, vI zs, vI zt, vI zn, .slice aa la ca, .slice ra lr cr] 48) := by
    rw [HW]
    have := heap_alloc_last (w.alloc (.cells #[vI P, vI R, vI V, .slice a fl c] 46)) (.cells #[vI op, vI zr, vI zs, vI zt, vI zn, .slice aa la ca, .slice ra lr cr] 48)
    simpa using this
  have HS : Hd _ := hs
  have H0 : Hd _ := h0
  have hB : Hd (partsB op = ⟨(partsN op.toNat).toList.toArray⟩) := rfl
  have h3 : (partsN op.toNat).toList.length ≤ 3 := by simpa using partsN_size op.toNat
  generalize (partsN op.toNat).toList = l at HS hB h3 ⊢
  clear hs h0 h
  have hcall := rop rb G fv W L E h1 hL0 hL1 op zr zs zt zn aa ra la ca lr cr last
  rw [← H0.out] at hcall
  go_enter Tryz.func39, Tryz.ntmps39
  go_wp2_with fail
  rw [← HW]
  refine hcall.mono ?_
  rintro e w2 ⟨rfl, h2, hf2⟩
  clear hcall h1 HW
  -- the letters
  have hsz : w.heap.size + 1 < W.heap.size := (Array.getElem?_eq_some_iff.1 hxb).1
  have hxa2 : w2.heap[w.heap.size]? = some (.cells #[vI P, vI R, vI V, .slice a fl c] 46) := by rw [hf2.block _ (by omega) (by omega)]; exact hxa
  have hxb2 : w2.heap[w.heap.size + 1]? = some (.cells #[vI op, vI zr, vI zs, vI zt, vI zn, .slice aa la ca, .slice ra lr cr] 48) := by rw [hf2.block _ hsz (by omega)]; exact hxb
  have hfw2 : Fr (fun k => k = rb) w w2 := (hf1.mono (fun _ _ h => h.elim)).trans hf2
  have b0 : w2.cell? ⟨w.heap.size + 1, 0, none⟩ = some (vI op) := by unfold World.cell?; simp [hxb2]
  clear hf1 hf2 hxa hxb hsz
  have hsz : w.heap.size + 1 < w2.heap.size := (Array.getElem?_eq_some_iff.1 hxb2).1
  have hpc := rparts op w2
  rw [hB.out] at hpc
  go_wp2_with fail
  refine hpc.mono ?_
  rintro e w3 ⟨rfl, hf3⟩
  clear hpc b0
  have hr3 : RW rb G fv w3 (opL op L) (EE 0) := h2.fr hf3 (fun h => h)
  have hxa3 : w3.heap[w.heap.size]? = some (.cells #[vI P, vI R, vI V, .slice a fl c] 46) := by rw [hf3.block _ (by omega) (fun h => h)]; exact hxa2
  have hxb3 : w3.heap[w.heap.size + 1]? = some (.cells #[vI op, vI zr, vI zs, vI zt, vI zn, .slice aa la ca, .slice ra lr cr] 48) := by rw [hf3.block _ hsz (fun h => h)]; exact hxb2
  have hfw3 : Fr (fun k => k = rb) w w3 := hfw2.trans (hf3.mono (fun _ _ h => h.elim))
  have hsz3 : w.heap.size + 1 < w3.heap.size := (Array.getElem?_eq_some_iff.1 hxb3).1
  clear hf3 h2 hfw2 hxa2 hxb2 hsz hB
  go_wp2_with fail
  go_loopw [9] (fun i wr => ∃ (k : Nat), k ≤ l.length ∧ i = .int .i64 k ∧ RW rb G fv wr (opL op L) (EE k) ∧ Fr (fun j => j = rb) w3 wr) (fun i _ => match i with | .int _ q => l.length - q.toNat | _ => 0)
  case atStart => exact ⟨0, Nat.zero_le _, rfl, hr3, Fr.refl _ _⟩
  case round =>
    obtain ⟨k, hk, rfl, hr, hfr⟩ := hrel
    by_cases hlt : k < l.length
    rotate_left
    · have hkl : k = l.length := by omega
      subst hkl
      have HRR : Hd (RW rb G fv wr (opL op L) (EE l.length)) := hr
      clear hr
      go_wp2_with fail
      go_end0
      exact ⟨rfl, HRR.out, hfw3.trans hfr⟩
    have hp : k < (⟨l.toArray⟩ : ByteArray).size := by show k < l.toArray.size; simpa using hlt
    have hi : (⟨l.toArray⟩ : ByteArray)[k]'hp = l[k] := rfl
    have hxa : wr.heap[w.heap.size]? = some (.cells #[vI P, vI R, vI V, .slice a fl c] 46) := by rw [hfr.block _ (by omega) (by omega)]; exact hxa3
    have hxb : wr.heap[w.heap.size + 1]? = some (.cells #[vI op, vI zr, vI zs, vI zt, vI zn, .slice aa la ca, .slice ra lr cr] 48) := by rw [hfr.block _ hsz3 (by omega)]; exact hxb3
    have f0 : wr.cell? ⟨w.heap.size, 0, none⟩ = some (vI P) := by unfold World.cell?; simp [hxa]
    have f1 : wr.cell? ⟨w.heap.size, 1, none⟩ = some (vI R) := by unfold World.cell?; simp [hxa]
    have f2 : wr.cell? ⟨w.heap.size, 2, none⟩ = some (vI V) := by unfold World.cell?; simp [hxa]
    have f3 : wr.cell? ⟨w.heap.size, 3, none⟩ = some (.slice a fl c) := by unfold World.cell?; simp [hxa]
    have b0 : wr.cell? ⟨w.heap.size + 1, 0, none⟩ = some (vI op) := by unfold World.cell?; simp [hxb]
    have b1 : wr.cell? ⟨w.heap.size + 1, 1, none⟩ = some (vI zr) := by unfold World.cell?; simp [hxb]
    have b2 : wr.cell? ⟨w.heap.size + 1, 2, none⟩ = some (vI zs) := by unfold World.cell?; simp [hxb]
    have b3 : wr.cell? ⟨w.heap.size + 1, 3, none⟩ = some (vI zt) := by unfold World.cell?; simp [hxb]
    have b4 : wr.cell? ⟨w.heap.size + 1, 4, none⟩ = some (vI zn) := by unfold World.cell?; simp [hxb]
    have b5 : wr.cell? ⟨w.heap.size + 1, 5, none⟩ = some (.slice aa la ca) := by unfold World.cell?; simp [hxb]
    have b6 : wr.cell? ⟨w.heap.size + 1, 6, none⟩ = some (.slice ra lr cr) := by unfold World.cell?; simp [hxb]
    have hszr : w.heap.size + 1 < wr.heap.size := (Array.getElem?_eq_some_iff.1 hxb).1
    have HC : Hd _ := fun w' (hrw : RW rb G fv w' (opL op L) (EE k)) (hf : Fr (fun j => j = rb) w w') => HS.out k hlt w' hrw hf
    have HRR : Hd (RW rb G fv wr (opL op L) (EE k)) := hr
    clear hxa hxb hr HS
    by_cases q82 : l[k] = 82
    · have e82 : (((((⟨l.toArray⟩ : ByteArray)[k]'hp).toNat : Nat) : Int) == 82) = true := by rw [hi, q82]; rfl
      have hcall : Hd (∀ w', RW rb G fv w' (opL op L) (EE k) → Fr (fun j => j = rb) w w' → Calls Tryz.prog 66 #[.pointer (some ⟨rb, 0, none⟩), .agg #[vI P, vI R, vI V, .slice a fl c], vI zr] w' fun r w'' => r = .returned (.tuple #[]) ∧ RW rb G fv w'' (opL op L) (EE (k + 1)) ∧ Fr (fun j => j = rb) w' w'') := fun w' h1 h2 => by
        have := HC.out w' h1 h2
        rw [q82] at this
        exact this
      clear hi q82 HC
      go_wp2_with fail
      refine (hcall.out wr HRR.out (hfw3.trans hfr)).mono ?_
      rintro e w4 ⟨rfl, h4, hf4⟩
      clear f0 f1 f2 f3 b0 b1 b2 b3 b4 b5 b6
      go_wp2_with fail
      exact ⟨⟨k + 1, by omega, by simp, h4, hfr.trans hf4⟩, by simp; omega⟩
    by_cases q83 : l[k] = 83
    · have n82 : (((((⟨l.toArray⟩ : ByteArray)[k]'hp).toNat : Nat) : Int) == 82) = false := by
        rw [hi]; simp only [beq_eq_false_iff_ne, ne_eq]; intro e; exact q82 (UInt8.toNat_inj.1 (by show _ = 82; omega))
      have e83 : (((((⟨l.toArray⟩ : ByteArray)[k]'hp).toNat : Nat) : Int) == 83) = true := by rw [hi, q83]; rfl
      have hcall : Hd (∀ w', RW rb G fv w' (opL op L) (EE k) → Fr (fun j => j = rb) w w' → Calls Tryz.prog 66 #[.pointer (some ⟨rb, 0, none⟩), .agg #[vI P, vI R, vI V, .slice a fl c], vI zs] w' fun r w'' => r = .returned (.tuple #[]) ∧ RW rb G fv w'' (opL op L) (EE (k + 1)) ∧ Fr (fun j => j = rb) w' w'') := fun w' h1 h2 => by
        have := HC.out w' h1 h2
        rw [q83] at this
        exact this
      clear hi q83 HC
      go_wp2_with fail
      refine (hcall.out wr HRR.out (hfw3.trans hfr)).mono ?_
      rintro e w4 ⟨rfl, h4, hf4⟩
      clear f0 f1 f2 f3 b0 b1 b2 b3 b4 b5 b6
      go_wp2_with fail
      exact ⟨⟨k + 1, by omega, by simp, h4, hfr.trans hf4⟩, by simp; omega⟩
    by_cases q84 : l[k] = 84
    · have n82 : (((((⟨l.toArray⟩ : ByteArray)[k]'hp).toNat : Nat) : Int) == 82) = false := by
        rw [hi]; simp only [beq_eq_false_iff_ne, ne_eq]; intro e; exact q82 (UInt8.toNat_inj.1 (by show _ = 82; omega))
      have n83 : (((((⟨l.toArray⟩ : ByteArray)[k]'hp).toNat : Nat) : Int) == 83) = false := by
        rw [hi]; simp only [beq_eq_false_iff_ne, ne_eq]; intro e; exact q83 (UInt8.toNat_inj.1 (by show _ = 83; omega))
      have e84 : (((((⟨l.toArray⟩ : ByteArray)[k]'hp).toNat : Nat) : Int) == 84) = true := by rw [hi, q84]; rfl
      have hcall : Hd (∀ w', RW rb G fv w' (opL op L) (EE k) → Fr (fun j => j = rb) w w' → Calls Tryz.prog 66 #[.pointer (some ⟨rb, 0, none⟩), .agg #[vI P, vI R, vI V, .slice a fl c], vI zt] w' fun r w'' => r = .returned (.tuple #[]) ∧ RW rb G fv w'' (opL op L) (EE (k + 1)) ∧ Fr (fun j => j = rb) w' w'') := fun w' h1 h2 => by
        have := HC.out w' h1 h2
        rw [q84] at this
        exact this
      clear hi q84 HC
      go_wp2_with fail
      refine (hcall.out wr HRR.out (hfw3.trans hfr)).mono ?_
      rintro e w4 ⟨rfl, h4, hf4⟩
      clear f0 f1 f2 f3 b0 b1 b2 b3 b4 b5 b6
      go_wp2_with fail
      exact ⟨⟨k + 1, by omega, by simp, h4, hfr.trans hf4⟩, by simp; omega⟩
    by_cases q65 : l[k] = 65
    · have n82 : (((((⟨l.toArray⟩ : ByteArray)[k]'hp).toNat : Nat) : Int) == 82) = false := by
        rw [hi]; simp only [beq_eq_false_iff_ne, ne_eq]; intro e; exact q82 (UInt8.toNat_inj.1 (by show _ = 82; omega))
      have n83 : (((((⟨l.toArray⟩ : ByteArray)[k]'hp).toNat : Nat) : Int) == 83) = false := by
        rw [hi]; simp only [beq_eq_false_iff_ne, ne_eq]; intro e; exact q83 (UInt8.toNat_inj.1 (by show _ = 83; omega))
      have n84 : (((((⟨l.toArray⟩ : ByteArray)[k]'hp).toNat : Nat) : Int) == 84) = false := by
        rw [hi]; simp only [beq_eq_false_iff_ne, ne_eq]; intro e; exact q84 (UInt8.toNat_inj.1 (by show _ = 84; omega))
      have e65 : (((((⟨l.toArray⟩ : ByteArray)[k]'hp).toNat : Nat) : Int) == 65) = true := by rw [hi, q65]; rfl
      have hcall : Hd (∀ w', RW rb G fv w' (opL op L) (EE k) → Fr (fun j => j = rb) w w' → Calls Tryz.prog 67 #[.pointer (some ⟨rb, 0, none⟩), .int .u8 (((⟨l.toArray⟩ : ByteArray)[k]'hp).toNat : Nat), .agg #[vI P, vI R, vI V, .slice a fl c], .agg #[vI op, vI zr, vI zs, vI zt, vI zn, .slice aa la ca, .slice ra lr cr]] w' fun r w'' => r = .returned (.tuple #[]) ∧ RW rb G fv w'' (opL op L) (EE (k + 1)) ∧ Fr (fun j => j = rb) w' w'') := fun w' h1 h2 => by
        have := HC.out w' h1 h2
        rw [q65] at this
        rw [hi, q65]; exact this
      clear hi q65 HC
      go_wp2_with fail
      go_region_with ((
        go_at_call 67
        refine (hcall.out _ (RW.fr HRR.out (Fr.drew (Fr.refl (fun _ => False) _)) (fun h => h)) (hfw3.trans hfr.drew)).mono ?_
        rintro e w4 ⟨rfl, h4, hf4⟩
        have hf34 := hfr.drew.trans hf4))
      all_goals
        clear f0 f1 f2 f3 b0 b1 b2 b3 b4 b5 b6
        go_wp2_with fail
        exact ⟨⟨k + 1, by omega, by simp, h4, hf34⟩, by simp; omega⟩
    by_cases q66 : l[k] = 66
    · have n82 : (((((⟨l.toArray⟩ : ByteArray)[k]'hp).toNat : Nat) : Int) == 82) = false := by
        rw [hi]; simp only [beq_eq_false_iff_ne, ne_eq]; intro e; exact q82 (UInt8.toNat_inj.1 (by show _ = 82; omega))
      have n83 : (((((⟨l.toArray⟩ : ByteArray)[k]'hp).toNat : Nat) : Int) == 83) = false := by
        rw [hi]; simp only [beq_eq_false_iff_ne, ne_eq]; intro e; exact q83 (UInt8.toNat_inj.1 (by show _ = 83; omega))
      have n84 : (((((⟨l.toArray⟩ : ByteArray)[k]'hp).toNat : Nat) : Int) == 84) = false := by
        rw [hi]; simp only [beq_eq_false_iff_ne, ne_eq]; intro e; exact q84 (UInt8.toNat_inj.1 (by show _ = 84; omega))
      have n65 : (((((⟨l.toArray⟩ : ByteArray)[k]'hp).toNat : Nat) : Int) == 65) = false := by
        rw [hi]; simp only [beq_eq_false_iff_ne, ne_eq]; intro e; exact q65 (UInt8.toNat_inj.1 (by show _ = 65; omega))
      have e66 : (((((⟨l.toArray⟩ : ByteArray)[k]'hp).toNat : Nat) : Int) == 66) = true := by rw [hi, q66]; rfl
      have hcall : Hd (∀ w', RW rb G fv w' (opL op L) (EE k) → Fr (fun j => j = rb) w w' → Calls Tryz.prog 67 #[.pointer (some ⟨rb, 0, none⟩), .int .u8 (((⟨l.toArray⟩ : ByteArray)[k]'hp).toNat : Nat), .agg #[vI P, vI R, vI V, .slice a fl c], .agg #[vI op, vI zr, vI zs, vI zt, vI zn, .slice aa la ca, .slice ra lr cr]] w' fun r w'' => r = .returned (.tuple #[]) ∧ RW rb G fv w'' (opL op L) (EE (k + 1)) ∧ Fr (fun j => j = rb) w' w'') := fun w' h1 h2 => by
        have := HC.out w' h1 h2
        rw [q66] at this
        rw [hi, q66]; exact this
      clear hi q66 HC
      go_wp2_with fail
      go_region_with ((
        go_at_call 67
        refine (hcall.out _ (RW.fr HRR.out (Fr.drew (Fr.refl (fun _ => False) _)) (fun h => h)) (hfw3.trans hfr.drew)).mono ?_
        rintro e w4 ⟨rfl, h4, hf4⟩
        have hf34 := hfr.drew.trans hf4))
      all_goals
        clear f0 f1 f2 f3 b0 b1 b2 b3 b4 b5 b6
        go_wp2_with fail
        exact ⟨⟨k + 1, by omega, by simp, h4, hf34⟩, by simp; omega⟩
    by_cases q86 : l[k] = 86
    · have n82 : (((((⟨l.toArray⟩ : ByteArray)[k]'hp).toNat : Nat) : Int) == 82) = false := by
        rw [hi]; simp only [beq_eq_false_iff_ne, ne_eq]; intro e; exact q82 (UInt8.toNat_inj.1 (by show _ = 82; omega))
      have n83 : (((((⟨l.toArray⟩ : ByteArray)[k]'hp).toNat : Nat) : Int) == 83) = false := by
        rw [hi]; simp only [beq_eq_false_iff_ne, ne_eq]; intro e; exact q83 (UInt8.toNat_inj.1 (by show _ = 83; omega))
      have n84 : (((((⟨l.toArray⟩ : ByteArray)[k]'hp).toNat : Nat) : Int) == 84) = false := by
        rw [hi]; simp only [beq_eq_false_iff_ne, ne_eq]; intro e; exact q84 (UInt8.toNat_inj.1 (by show _ = 84; omega))
      have n65 : (((((⟨l.toArray⟩ : ByteArray)[k]'hp).toNat : Nat) : Int) == 65) = false := by
        rw [hi]; simp only [beq_eq_false_iff_ne, ne_eq]; intro e; exact q65 (UInt8.toNat_inj.1 (by show _ = 65; omega))
      have n66 : (((((⟨l.toArray⟩ : ByteArray)[k]'hp).toNat : Nat) : Int) == 66) = false := by
        rw [hi]; simp only [beq_eq_false_iff_ne, ne_eq]; intro e; exact q66 (UInt8.toNat_inj.1 (by show _ = 66; omega))
      have e86 : (((((⟨l.toArray⟩ : ByteArray)[k]'hp).toNat : Nat) : Int) == 86) = true := by rw [hi, q86]; rfl
      have hcall : Hd (∀ w', RW rb G fv w' (opL op L) (EE k) → Fr (fun j => j = rb) w w' → Calls Tryz.prog 67 #[.pointer (some ⟨rb, 0, none⟩), .int .u8 (((⟨l.toArray⟩ : ByteArray)[k]'hp).toNat : Nat), .agg #[vI P, vI R, vI V, .slice a fl c], .agg #[vI op, vI zr, vI zs, vI zt, vI zn, .slice aa la ca, .slice ra lr cr]] w' fun r w'' => r = .returned (.tuple #[]) ∧ RW rb G fv w'' (opL op L) (EE (k + 1)) ∧ Fr (fun j => j = rb) w' w'') := fun w' h1 h2 => by
        have := HC.out w' h1 h2
        rw [q86] at this
        rw [hi, q86]; exact this
      clear hi q86 HC
      go_wp2_with fail
      go_region_with ((
        go_at_call 67
        refine (hcall.out _ (RW.fr HRR.out (Fr.drew (Fr.refl (fun _ => False) _)) (fun h => h)) (hfw3.trans hfr.drew)).mono ?_
        rintro e w4 ⟨rfl, h4, hf4⟩
        have hf34 := hfr.drew.trans hf4))
      all_goals
        clear f0 f1 f2 f3 b0 b1 b2 b3 b4 b5 b6
        go_wp2_with fail
        exact ⟨⟨k + 1, by omega, by simp, h4, hf34⟩, by simp; omega⟩
    have n82 : (((((⟨l.toArray⟩ : ByteArray)[k]'hp).toNat : Nat) : Int) == 82) = false := by
      rw [hi]; simp only [beq_eq_false_iff_ne, ne_eq]; intro e; exact q82 (UInt8.toNat_inj.1 (by show _ = 82; omega))
    have n83 : (((((⟨l.toArray⟩ : ByteArray)[k]'hp).toNat : Nat) : Int) == 83) = false := by
      rw [hi]; simp only [beq_eq_false_iff_ne, ne_eq]; intro e; exact q83 (UInt8.toNat_inj.1 (by show _ = 83; omega))
    have n84 : (((((⟨l.toArray⟩ : ByteArray)[k]'hp).toNat : Nat) : Int) == 84) = false := by
      rw [hi]; simp only [beq_eq_false_iff_ne, ne_eq]; intro e; exact q84 (UInt8.toNat_inj.1 (by show _ = 84; omega))
    have n65 : (((((⟨l.toArray⟩ : ByteArray)[k]'hp).toNat : Nat) : Int) == 65) = false := by
      rw [hi]; simp only [beq_eq_false_iff_ne, ne_eq]; intro e; exact q65 (UInt8.toNat_inj.1 (by show _ = 65; omega))
    have n66 : (((((⟨l.toArray⟩ : ByteArray)[k]'hp).toNat : Nat) : Int) == 66) = false := by
      rw [hi]; simp only [beq_eq_false_iff_ne, ne_eq]; intro e; exact q66 (UInt8.toNat_inj.1 (by show _ = 66; omega))
    have n86 : (((((⟨l.toArray⟩ : ByteArray)[k]'hp).toNat : Nat) : Int) == 86) = false := by
      rw [hi]; simp only [beq_eq_false_iff_ne, ne_eq]; intro e; exact q86 (UInt8.toNat_inj.1 (by show _ = 86; omega))
    have hcall : Hd (∀ w', RW rb G fv w' (opL op L) (EE k) → Fr (fun j => j = rb) w w' → Calls Tryz.prog 68 #[.pointer (some ⟨rb, 0, none⟩), .int .u8 (((⟨l.toArray⟩ : ByteArray)[k]'hp).toNat : Nat), vI zn, vI fl] w' fun r w'' => r = .returned (.tuple #[]) ∧ RW rb G fv w'' (opL op L) (EE (k + 1)) ∧ Fr (fun j => j = rb) w' w'') := fun w' h1 h2 => by
      have := HC.out w' h1 h2
      unfold partCall at this
      rw [if_neg q82, if_neg q83, if_neg q84, if_neg (fun h => h.elim q65 (fun h => h.elim q66 q86))] at this
      exact this
    clear hi HC q82 q83 q84 q65 q66 q86
    go_wp2_with fail
    go_region_with ((
      go_at_call 68
      refine (hcall.out _ (RW.fr HRR.out (Fr.drew (Fr.refl (fun _ => False) _)) (fun h => h)) (hfw3.trans hfr.drew)).mono ?_
      rintro e w4 ⟨rfl, h4, hf4⟩
      have hf34 := hfr.drew.trans hf4))
    all_goals
      clear f0 f1 f2 f3 b0 b1 b2 b3 b4 b5 b6
      go_wp2_with fail
      exact ⟨⟨k + 1, by omega, by simp, h4, hf34⟩, by simp; omega⟩
def calleeP (fs : List PF) (n : Int) : Int := (fs[n.toNat]?.map (·.P)).getD 0
def calleeR (fs : List PF) (n : Int) : Int := (fs[n.toNat]?.map (·.R)).getD 0
def letE (G : Int) (fs : List PF) (R V : Int) (fl : Nat) (c : PI) (u : UInt8) (E : Int) : Int :=
  if u = 82 then mustE (varB V c.r) 13 E else if u = 83 then mustE (varB V c.s) 13 E else if u = 84 then mustE (varB V c.t) 13 E
  else if u = 65 then listE (calleeP fs c.n) V c.args E else if u = 66 then listE (calleeR fs c.n) V c.rets E else if u = 86 then listE R V c.args E
  else if u = 99 then mustE (numB 1 9 c.n) 17 E else if u = 102 then mustE (numB 0 8 c.n) 17 E else if u = 103 then mustE (numB 0 G c.n) 18 E
  else if u = 70 then mustE (numB 0 fs.length c.n) 14 E else if u = 74 then mustE (numB 0 fl c.n) 16 E else E
def letters : List UInt8 := [82, 83, 84, 65, 66, 86, 99, 102, 103, 70, 74, 105]
def instrE (G : Int) (fs : List PF) (R V : Int) (fl : Nat) (c : PI) (last : Bool) (L E : Int) : Int :=
  (partsN c.op.toNat).toList.foldl (fun E u => letE G fs R V fl c u E) (opE c.op (plainB c.op c.r c.s c.t c.n c.args.length c.rets.length) last L E)
theorem parts_letters : ∀ k, k < 18 → ∀ u ∈ (partsN k).toList, u ∈ letters ∧ ((u = 65 ∨ u = 66) → k = 11) := by decide
theorem partsN_big (k : Nat) (h : 18 ≤ k) : (partsN k).toList = [] := by
  unfold partsN
  split <;> first | omega | rfl
theorem mustE_zero {ok : Bool} {e E : Int} (he : e ≠ 0) (h : mustE ok e E = 0) : ok = true ∧ E = 0 := by
  unfold mustE at h
  cases ok with
  | true => simp at h; exact ⟨rfl, h⟩
  | false =>
    by_cases hE : E = 0
    · simp [hE] at h; omega
    · simp [hE] at h
theorem listE_zero {m V : Int} {l : List Int} {E : Int} (h : listE m V l E = 0) : E = 0 := by
  unfold listE at h
  by_cases hE : E = 0
  · exact hE
  · rw [if_neg hE] at h; exact h
theorem letter_call (rb : Nat) (G : Int) (fv : Value) (w : World) (L E : Int) (h : RW rb G fv w L E) (fs : List PF) (hFL : FL rb w fv fs) (P R V : Int) (a : Option Addr) (fl cc : Nat) (c : PI) (aa ra : Option Addr) (ca cr : Nat)
    (hA : IL rb w (.slice aa c.args.length ca) c.args) (hB : IL rb w (.slice ra c.rets.length cr) c.rets) (hla : c.args.length ≤ 1000000000000000) (hlr : c.rets.length ≤ 1000000000000000) (u : UInt8) (hu : u ∈ letters) (hc : (u = 65 ∨ u = 66) → E = 0 → 0 ≤ c.n ∧ c.n < fs.length) :
    Calls Tryz.prog (partCall rb (.agg #[vI P, vI R, vI V, .slice a fl cc]) (.agg #[vI c.op, vI c.r, vI c.s, vI c.t, vI c.n, .slice aa c.args.length ca, .slice ra c.rets.length cr]) c.r c.s c.t c.n fl u).1 (partCall rb (.agg #[vI P, vI R, vI V, .slice a fl cc]) (.agg #[vI c.op, vI c.r, vI c.s, vI c.t, vI c.n, .slice aa c.args.length ca, .slice ra c.rets.length cr]) c.r c.s c.t c.n fl u).2 w
      fun r w'' => r = .returned (.tuple #[]) ∧ RW rb G fv w'' L (letE G fs R V fl c u E) ∧ Fr (fun k => k = rb) w w'' := by
  obtain ⟨-, fa, fc, efv, hcells⟩ := hFL
  subst efv
  have ilA : c.args ≠ [] → ∃ k o, aa = some ⟨k, o, none⟩ ∧ k < w.heap.size ∧ k ≠ rb ∧ ∀ j (h : j < c.args.length), w.cell? ⟨k, o + j, none⟩ = some (vI c.args[j]) := fun hne => by
    obtain ⟨a1, c1, e1, h1⟩ := hA
    cases e1
    exact h1 hne
  have ilB : c.rets ≠ [] → ∃ k o, ra = some ⟨k, o, none⟩ ∧ k < w.heap.size ∧ k ≠ rb ∧ ∀ j (h : j < c.rets.length), w.cell? ⟨k, o + j, none⟩ = some (vI c.rets[j]) := fun hne => by
    obtain ⟨a1, c1, e1, h1⟩ := hB
    cases e1
    exact h1 hne
  -- the callee's head
  have callee : E = 0 → (u = 65 ∨ u = 66) → ∃ fk fo N, fa = some ⟨fk, fo, none⟩ ∧ c.n = ((N : Nat) : Int) ∧ N < fs.length ∧ fk < w.heap.size ∧ w.cell? ⟨fk, fo + N * 4, none⟩ = some (vI (calleeP fs c.n)) ∧ w.cell? ⟨fk, fo + N * 4 + 1, none⟩ = some (vI (calleeR fs c.n)) := fun hE hu2 => by
    obtain ⟨n0, n1⟩ := hc hu2 hE
    have hN : c.n.toNat < fs.length := by omega
    obtain ⟨fk, fo, e, hk, -, hj⟩ := hcells (by intro e; simp [e] at hN)
    obtain ⟨cv, h1, h2, -⟩ := hj c.n.toNat hN
    refine ⟨fk, fo, c.n.toNat, e, by omega, hN, hk, ?_, ?_⟩
    · unfold calleeP; rw [List.getElem?_eq_getElem hN]; exact h1
    · unfold calleeR; rw [List.getElem?_eq_getElem hN]; exact h2
  simp only [letters, List.mem_cons, List.not_mem_nil, or_false] at hu
  rcases hu with rfl | rfl | rfl | rfl | rfl | rfl | rfl | rfl | rfl | rfl | rfl | rfl
  · exact rvariable rb G _ w L E h P R V a fl cc c.r
  · exact rvariable rb G _ w L E h P R V a fl cc c.s
  · exact rvariable rb G _ w L E h P R V a fl cc c.t
  · refine rlist_A rb G _ w L E h P R V a fl cc c.op c.r c.s c.t c.n aa ra ca cr c.rets.length c.args hla (calleeP fs c.n) ilA (fun hE w' hf => ?_)
    obtain ⟨fk, fo, N, rfl, en, hN, hk, c0, -⟩ := callee hE (Or.inl rfl)
    have := rwanted_A rb fk fo fs.length fc N G w' L E (h.fr hf (fun h => h)) hN (calleeP fs c.n) ((hf.cell hk (fun h => h)).trans c0) P R V a fl cc c.op c.r c.s c.t aa ra c.args.length ca c.rets.length cr
    rw [← en] at this
    exact this
  · refine rlist_B rb G _ w L E h P R V a fl cc c.op c.r c.s c.t c.n aa ra ca cr c.args.length c.rets hlr (calleeR fs c.n) ilB (fun hE w' hf => ?_)
    obtain ⟨fk, fo, N, rfl, en, hN, hk, -, c1⟩ := callee hE (Or.inr rfl)
    have := rwanted_B rb fk fo fs.length fc N G w' L E (h.fr hf (fun h => h)) hN (calleeR fs c.n) ((hf.cell hk (fun h => h)).trans c1) P R V a fl cc c.op c.r c.s c.t aa ra c.args.length ca c.rets.length cr
    rw [← en] at this
    exact this
  · exact rlist_V rb G _ w L E h P R V a fl cc c.op c.r c.s c.t c.n aa ra ca cr c.rets.length c.args hla R ilA (fun _ w' _ => rwanted_V rb w' P R V a fl cc c.op c.r c.s c.t c.n aa ra c.args.length ca c.rets.length cr)
  · exact rnumber_c rb G fa fs.length fc w L E h c.n fl
  · exact rnumber_f rb G fa fs.length fc w L E h c.n fl
  · exact rnumber_g rb G fa fs.length fc w L E h c.n fl
  · exact rnumber_F rb G fa fs.length fc w L E h c.n fl
  · exact rnumber_J rb G fa fs.length fc w L E h c.n fl
  · exact rnumber_i rb G _ w L E h c.n fl
theorem rinstr_any (rb : Nat) (G : Int) (fv : Value) (w : World) (L E : Int) (h : RW rb G fv w L E) (hL0 : 0 ≤ L) (hL1 : L ≤ 1000000000000) (fs : List PF) (hFL : FL rb w fv fs) (P R V : Int) (a : Option Addr) (fl cc : Nat) (c : PI) (aa ra : Option Addr) (ca cr : Nat)
    (hA : IL rb w (.slice aa c.args.length ca) c.args) (hB : IL rb w (.slice ra c.rets.length cr) c.rets) (hla : c.args.length ≤ 1000000000000000) (hlr : c.rets.length ≤ 1000000000000000) (last : Bool) :
    Calls Tryz.prog 39 #[.pointer (some ⟨rb, 0, none⟩), .agg #[vI P, vI R, vI V, .slice a fl cc], .agg #[vI c.op, vI c.r, vI c.s, vI c.t, vI c.n, .slice aa c.args.length ca, .slice ra c.rets.length cr], .bool last] w
      fun r w' => r = .returned (.tuple #[]) ∧ RW rb G fv w' (opL c.op L) (instrE G fs R V fl c last L E) ∧ Fr (fun k => k = rb) w w' := by
  have key := rinstr rb G fv w L E h hL0 hL1 P R V a fl cc c.op c.r c.s c.t c.n aa ra c.args.length ca c.rets.length cr last
    (fun j => ((partsN c.op.toNat).toList.take j).foldl (fun E u => letE G fs R V fl c u E) (opE c.op (plainB c.op c.r c.s c.t c.n c.args.length c.rets.length) last L E)) rfl ?_
  · refine key.mono ?_
    rintro r w' ⟨rfl, h1, h2⟩
    rw [List.take_length] at h1
    exact ⟨rfl, h1, h2⟩
  · intro j hj w' hr hf
    have hk : c.op.toNat < 18 := by
      rcases Nat.lt_or_ge c.op.toNat 18 with h | h
      · exact h
      · rw [partsN_big _ h] at hj; simp at hj
    have hu := parts_letters _ hk _ (List.getElem_mem hj)
    have step : ((partsN c.op.toNat).toList.take (j + 1)).foldl (fun E u => letE G fs R V fl c u E) (opE c.op (plainB c.op c.r c.s c.t c.n c.args.length c.rets.length) last L E) = letE G fs R V fl c (partsN c.op.toNat).toList[j] (((partsN c.op.toNat).toList.take j).foldl (fun E u => letE G fs R V fl c u E) (opE c.op (plainB c.op c.r c.s c.t c.n c.args.length c.rets.length) last L E)) := by
      rw [List.take_add_one, List.getElem?_eq_getElem hj, List.foldl_append]
      rfl
    rw [step]
    refine letter_call rb G fv w' (opL c.op L) _ hr fs (hFL.fr hf (fun _ h => h)) P R V a fl cc c aa ra ca cr (hA.fr hf (fun _ h => h)) (hB.fr hf (fun _ h => h)) hla hlr _ hu.1 (fun hu2 hE => ?_)
    have h11 := hu.2 hu2
    have hn : numB 0 fs.length c.n = true := by
      have hu3 : (partsN c.op.toNat).toList[j]? = some 65 ∨ (partsN c.op.toNat).toList[j]? = some 66 := by
        rw [List.getElem?_eq_getElem hj]
        rcases hu2 with h | h
        · exact Or.inl (by rw [h])
        · exact Or.inr (by rw [h])
      have hj2 : j < (partsN c.op.toNat).toList.length := hj
      rw [h11] at hE hu3 hj2
      have hj3 : j < 3 := hj2
      rcases (show j = 0 ∨ j = 1 ∨ j = 2 by omega) with rfl | rfl | rfl
      · rcases hu3 with h | h <;> exact absurd h (by decide)
      · exact (mustE_zero (by decide) hE).1
      · exact (mustE_zero (by decide) (listE_zero hE)).1
    unfold numB at hn
    simp at hn
    exact ⟨hn.1, hn.2⟩
end Go.Proofs.YtlmlmhinbkcpoaaGreatDoor
