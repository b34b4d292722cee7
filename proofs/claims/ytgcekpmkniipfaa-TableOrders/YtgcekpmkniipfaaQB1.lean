import Derived.Test.YtgcekpmkniipfaaQA6
namespace Go.Proofs.Ytgcekpmkniipfaa
open Go.RowKit (wrap32 wrap64)
open Go.MuLone
open Go.Maps (Keyed)
set_option linter.unusedVariables false
set_option linter.unusedSimpArgs false

/-- The world with the first k locks set to x. -/
def lkW (w : World) (b : Nat) (x : Int) : Nat → World
  | 0 => w
  | k + 1 => (lkW w b x k).setCell ⟨b, k * 3, none⟩ (.int .i32 x)
theorem lkW_cell (w : World) (b : Nat) (x : Int) (hl : ∀ i, i < 8 → ∃ y, w.cell? ⟨b, 3 * i, none⟩ = some (.int .i32 y)) : ∀ (k : Nat), k ≤ 8 → ∀ o, (lkW w b x k).cell? ⟨b, o, none⟩ = if o % 3 = 0 ∧ o < 3 * k then some (.int .i32 x) else w.cell? ⟨b, o, none⟩
  | 0, _, o => by rw [if_neg (by omega)]; rfl
  | k + 1, hk, o => by
    have ih := lkW_cell w b x hl k (by omega)
    show ((lkW w b x k).setCell ⟨b, k * 3, none⟩ (.int .i32 x)).cell? ⟨b, o, none⟩ = _
    by_cases e : o = k * 3
    · subst e
      rw [if_pos (by omega)]
      obtain ⟨y, hy⟩ := hl k (by omega)
      exact World.cell?_setCell_same (u := .int .i32 y) _ _ _ (by rw [ih, if_neg (by omega), Nat.mul_comm]; exact hy)
    · rw [World.cell?_setCell_other _ _ _ _ (by intro h; injection h; omega), ih]
      by_cases h1 : o % 3 = 0 ∧ o < 3 * k
      · rw [if_pos h1, if_pos (by omega)]
      · rw [if_neg h1, if_neg (by omega)]
theorem lkW_frozen (w : World) (b : Nat) (x : Int) (a : Addr) : ∀ k, (lkW w b x k).frozen? a = w.frozen? a
  | 0 => rfl
  | k + 1 => by show ((lkW w b x k).setCell _ _).frozen? a = _; rw [World.frozen?_setCell]; exact lkW_frozen w b x a k
theorem lkW_fr (w : World) (b : Nat) (x : Int) : ∀ k, Fr (fun j => j = b) w (lkW w b x k)
  | 0 => Fr.refl _ _
  | k + 1 => (lkW_fr w b x k).setCell _ _ (Or.inl rfl)

set_option maxRecDepth 100000 in
set_option maxHeartbeats 1000000 in
theorem lock_any (b : Nat) (w : World) (hl : ∀ i, i < 8 → w.cell? ⟨b, 3 * i, none⟩ = some (.int .i32 0)) (hz : ∀ o, w.frozen? ⟨b, o, none⟩ = false) :
    Calls Try.prog 47 #[.pointer (some ⟨b, 0, none⟩)] w fun e w' => e = .returned (.tuple #[]) ∧ w' = lkW w b 1 8 := by
  have HL : Hd (∀ i, i < 8 → w.cell? ⟨b, 3 * i, none⟩ = some (.int .i32 0)) := hl
  have HZ : Hd (∀ o, w.frozen? ⟨b, o, none⟩ = false) := hz
  clear hl hz
  go_enter Try.func47, Try.ntmps47
  go_wp2_with fail
  go_loopw [3] (fun v wr => ∃ k : Nat, v = .int .i64 k ∧ k ≤ 8 ∧ Hd (wr = lkW w b 1 k)) (fun v _ => match v with | .int _ q => 8 - q.toNat | _ => 0)
  case atStart => exact ⟨0, rfl, by omega, rfl⟩
  case round =>
    obtain ⟨k, rfl, hk, HM⟩ := hrel
    by_cases hlt : k < 8
    · have c0 : wr.cell? ⟨b, k * 3, none⟩ = some (.int .i32 0) := by
        rw [HM.out, lkW_cell w b 1 (fun i hi => ⟨0, HL.out i hi⟩) k hk, if_neg (by omega), Nat.mul_comm]; exact HL.out k hlt
      have z0 : wr.frozen? ⟨b, k * 3, none⟩ = false := by rw [HM.out, lkW_frozen]; exact HZ.out _
      have hk3 : (k : Int) < 8 := by omega
      have hk0 : (0 : Int) ≤ k := by omega
      have hst : Hd (wr.setCell ⟨b, k * 3, none⟩ (.int .i32 1) = lkW w b 1 (k + 1)) := by show _ = _; rw [HM.out]; rfl
      clear HM hk
      go_wp2_with (go_at_call 44; refine (lock_free muLib ⟨b, k * 3, none⟩ _ c0 z0).mono ?_; rintro e w' ⟨rfl, rfl⟩)
      refine ⟨⟨k + 1, by simp, by omega, hst⟩, by simp; omega⟩
    · have hdk : decide ((k : Int) < 8) = false := by simp; omega
      have e8 : Hd (k = 8) := by show k = 8; omega
      clear hlt hk
      go_wp2_with fail
      go_end0
      obtain rfl := e8.out
      exact ⟨rfl, HM.out⟩

set_option maxRecDepth 100000 in
set_option maxHeartbeats 1000000 in
theorem unlock_d (b : Nat) (u : FrameMode) (w : World) (hl : ∀ i, i < 8 → w.cell? ⟨b, 3 * i, none⟩ = some (.int .i32 1)) (hz : ∀ o, w.frozen? ⟨b, o, none⟩ = false) :
    CallsD Try.prog 48 #[.pointer (some ⟨b, 0, none⟩)] u w fun e u' w' => u' = u ∧ (e = .returned (.tuple #[]) ∧ w' = lkW w b 0 8) := by
  have HL : Hd (∀ i, i < 8 → w.cell? ⟨b, 3 * i, none⟩ = some (.int .i32 1)) := hl
  have HZ : Hd (∀ o, w.frozen? ⟨b, o, none⟩ = false) := hz
  clear hl hz
  go_enter_d Try.func48, Try.ntmps48
  go_wp2_with fail
  go_loopw [3] (fun v wr => ∃ k : Nat, v = .int .i64 k ∧ k ≤ 8 ∧ Hd (wr = lkW w b 0 k)) (fun v _ => match v with | .int _ q => 8 - q.toNat | _ => 0)
  case atStart => exact ⟨0, rfl, by omega, rfl⟩
  case round =>
    obtain ⟨k, rfl, hk, HM⟩ := hrel
    by_cases hlt : k < 8
    · have c0 : wr.cell? ⟨b, k * 3, none⟩ = some (.int .i32 1) := by
        rw [HM.out, lkW_cell w b 0 (fun i hi => ⟨1, HL.out i hi⟩) k hk, if_neg (by omega), Nat.mul_comm]; exact HL.out k hlt
      have z0 : wr.frozen? ⟨b, k * 3, none⟩ = false := by rw [HM.out, lkW_frozen]; exact HZ.out _
      have hk3 : (k : Int) < 8 := by omega
      have hk0 : (0 : Int) ≤ k := by omega
      have hst : Hd (wr.setCell ⟨b, k * 3, none⟩ (.int .i32 0) = lkW w b 0 (k + 1)) := by show _ = _; rw [HM.out]; rfl
      clear HM hk
      go_wp2_with (go_at_call 45; refine (unlock_held muLib ⟨b, k * 3, none⟩ _ c0 z0).mono ?_; rintro e w' ⟨rfl, rfl⟩)
      refine ⟨⟨k + 1, by simp, by omega, hst⟩, by simp; omega⟩
    · have hdk : decide ((k : Int) < 8) = false := by simp; omega
      have e8 : Hd (k = 8) := by show k = 8; omega
      clear hlt hk
      go_wp2_with fail
      go_end0
      obtain rfl := e8.out
      exact ⟨rfl, HM.out⟩
end Go.Proofs.Ytgcekpmkniipfaa
