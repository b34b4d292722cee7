import Derived.Test.YtihicdbplmdjiaaGreatQPlA4J
set_option linter.unusedVariables false
set_option linter.unusedSimpArgs false
namespace Go.Proofs.YtihicdbplmdjiaaGreat.Pl
open Go.RowKit (wrap32 wrap64)
open Go.MuLone
open Go.Maps (Keyed)

/-! ### the table's calls -/
set_option maxRecDepth 100000 in
set_option maxHeartbeats 1000000 in
theorem lookup_nil (k : Int) (w : World) : Calls Tryz.prog 52 #[.pointer none, vI k] w fun e w' => e = .returned (.tuple #[.string ⟨#[]⟩, .bool false]) ∧ w' = w := by
  go_enter Tryz.func52, Tryz.ntmps52
  go_wp2_with fail
  go_ret2
  exact ⟨rfl, rfl⟩
set_option maxRecDepth 100000 in
set_option maxHeartbeats 1000000 in
theorem publish_nil (k : Int) (v : ByteArray) (w : World) : Calls Tryz.prog 51 #[.pointer none, vI k, .string v] w fun e w' => e = .returned (.bool false) ∧ w' = w := by
  go_enter Tryz.func51, Tryz.ntmps51
  go_wp2_with fail
  go_ret
  exact ⟨rfl, rfl⟩
set_option maxRecDepth 100000 in
set_option maxHeartbeats 1000000 in
theorem snapshot_nil (w : World) : Calls Tryz.prog 65 #[.pointer none] w fun e w' => e = .returned (.tuple #[.slice none 0 0, .slice none 0 0]) ∧ w' = w := by
  go_enter Tryz.func65, Tryz.ntmps65
  go_wp2_with fail
  go_ret2
  exact ⟨rfl, rfl⟩

/-- What Lookup answers. -/
def lookS (a : Ab) (k : Int) : ByteArray := (a k).getD ⟨#[]⟩
def lookB (a : Ab) (k : Int) : Bool := (a k).isSome

theorem read_any (b : Nat) (g : Gh) (N : Nat) (a : Ab) (k : Int) (w : World) (h : Tb w b g N a) :
    Calls Tryz.prog 64 #[entP g a k] w fun e w' => e = .returned (.tuple #[.string (lookS a k), .bool (lookB a k)]) ∧ w' = w := by
  unfold entP lookS lookB
  cases hc : a k with
  | none => exact read_nil w
  | some v => exact read_yes _ _ w (h.ent k v hc)

theorem Tb.drew {w : World} {b : Nat} {g : Gh} {N : Nat} {a : Ab} (h : Tb w b g N a) : Tb w.drew b g N a := h.fr (Fr.drew (Fr.refl (fun _ => False) w)) (fun _ _ h => h)

theorem find_end (b : Nat) (g : Gh) (N : Nat) (a : Ab) (k : Int) (hk : In64 k) (o : Nat) (ho : o = 3 * strp k) (w : World) (h : Tb w b g N a) :
    Calls Tryz.prog 63 #[.pointer (some ⟨b, o, none⟩), vI k] w fun e w' => e = .returned (entP g a k) ∧ Tb w' b g N a ∧ Fr (fun j => j = b) w w' := by
  refine (find_any b g N a k hk o ho w h).mono ?_
  rintro e w' ⟨rfl, rfl⟩
  exact ⟨rfl, h.relock o (by rw [ho]; exact h.lock _ (strp_lt k)) _, fr_two w b o _ _⟩

set_option maxRecDepth 100000 in
set_option maxHeartbeats 4000000 in
theorem lookup_any (b : Nat) (g : Gh) (N : Nat) (a : Ab) (k : Int) (hk : In64 k) (w : World) (h : Tb w b g N a) :
    Calls Tryz.prog 52 #[.pointer (some ⟨b, 0, none⟩), vI k] w fun e w' => e = .returned (.tuple #[.string (lookS a k), .bool (lookB a k)]) ∧ Tb w' b g N a ∧ Fr (fun j => j = b) w w' := by
  have hs := strp_lt k
  have hT : Hd (Tb w.drew b g N a) := h.drew
  have hk' : Hd (In64 k) := hk
  clear h hk
  go_enter Tryz.func52, Tryz.ntmps52
  go_wp2_with fail
  go_region_with ((first
    | (go_at_call 61; refine (stripeOf_any k _).mono ?_; rintro _ _ ⟨rfl, rfl⟩)
    | (go_at_call 63; refine (find_end b g N a k hk'.out _ (by omega) _ hT.out).mono ?_; rintro _ w1 ⟨rfl, hT1, hF1⟩)
    | (go_at_call 64; refine (read_any b g N a k _ hT1).mono ?_; rintro _ _ ⟨rfl, rfl⟩)))
  all_goals go_wp2_with fail
  all_goals go_ret2
  all_goals exact ⟨rfl, hT1, (Fr.drew (Fr.refl _ w)).trans hF1⟩

set_option maxRecDepth 100000 in
set_option maxHeartbeats 4000000 in
theorem Publish_no (b : Nat) (g : Gh) (N : Nat) (a : Ab) (k : Int) (v y : ByteArray) (hy : a k = some y) (w : World) (h : Tb w b g N a) :
    Calls Tryz.prog 51 #[.pointer (some ⟨b, 0, none⟩), vI k, .string v] w fun e w' => e = .returned (.bool false) ∧ Tb w' b g N a ∧ Fr (fun j => j = b) w w' := by
  have hs := strp_lt k
  have hT : Hd (Tb w.drew b g N a) := h.drew
  have hy' : Hd (a k = some y) := hy
  have hl : w.drew.cell? ⟨b, strp k * 3, none⟩ = some (.int .i32 0) := by rw [Nat.mul_comm]; exact h.drew.lock _ hs
  clear h hy
  go_enter Tryz.func51, Tryz.ntmps51
  go_wp2_with fail
  go_region_with ((first
    | (go_at_call 61; refine (stripeOf_any k _).mono ?_; rintro _ _ ⟨rfl, rfl⟩)
    | (go_at_call 62; refine (publish_no b g N a k v y hy'.out _ (Nat.mul_comm _ _) _ hT.out).mono ?_; rintro _ _ ⟨rfl, rfl⟩)))
  all_goals go_wp2_with fail
  all_goals go_ret
  all_goals exact ⟨rfl, hT.out.relock _ hl _, (Fr.drew (Fr.refl _ w)).trans (fr_two _ _ _ _ _)⟩

theorem Gh.more_own (g : Gh) (k : Int) (e j : Nat) (hj : j ≠ e) : (g.more k e).own j = g.own j := by simp [Gh.more, hj]

set_option maxRecDepth 100000 in
set_option maxHeartbeats 4000000 in
theorem Publish_yes (b : Nat) (g : Gh) (N : Nat) (a : Ab) (k : Int) (hk : In64 k) (v : ByteArray) (hy : a k = none) (hN : N < maxLen) (w : World) (h : Tb w b g N a) :
    Calls Tryz.prog 51 #[.pointer (some ⟨b, 0, none⟩), vI k, .string v] w fun e w' => e = .returned (.bool true) ∧ Tb w' b (g.more k w.heap.size) (N + 1) (upd a k v) ∧ Fr (fun j => g.own j ≠ 0) w w' := by
  have hs := strp_lt k
  have hT : Hd (Tb w.drew b g N a) := h.drew
  have hy' : Hd (a k = none) := hy
  have hk' : Hd (In64 k) := hk
  have hN' : Hd (N < maxLen) := hN
  clear h hy hk hN
  go_enter Tryz.func51, Tryz.ntmps51
  go_wp2_with fail
  go_region_with ((first
    | (go_at_call 61; refine (stripeOf_any k _).mono ?_; rintro _ _ ⟨rfl, rfl⟩)
    | (go_at_call 62; refine (publish_yes b g N a k hk'.out v hy'.out hN'.out _ (Nat.mul_comm _ _) _ hT.out).mono ?_; rintro _ w1 ⟨rfl, hT1, hF1⟩)))
  all_goals go_wp2_with fail
  all_goals go_ret
  all_goals exact ⟨rfl, hT1, (Fr.drew (Fr.refl _ w)).trans hF1⟩
end Go.Proofs.YtihicdbplmdjiaaGreat.Pl
