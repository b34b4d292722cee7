import Derived.Test.YtmdlebolmhnhaaaA7
import Derived.Laws.MakeOwn
namespace Go.Proofs.Ytmdlebolmhnhaaa
open Go.RowKit (wrap32 wrap64)
open Go.Maps (Keyed)
set_option linter.unusedVariables false
set_option linter.unusedSimpArgs false

theorem under22 : Try.prog.underlying 22 = some (.slice 32) := by kernel_rfl

theorem made_flat : ∀ n : Nat, n ≤ 16 → madeCells (Value.agg #[vI 0, vI 0]).cells (n * 2) = (flat (List.replicate n (0, 0))).toArray
  | 0, _ | 1, _ | 2, _ | 3, _ | 4, _ | 5, _ | 6, _ | 7, _ | 8, _ | 9, _ | 10, _ | 11, _ | 12, _ | 13, _ | 14, _ | 15, _ | 16, _ => by kernel_rfl
  | n + 17, h => absurd h (by omega)

/-- make([]api.Value, n). -/
theorem makeVals (n : Nat) (hn : n ≤ 16) (w : World) : (Instr.makeSlice 22 (vI n) (vI n)).run Try.prog w = .ok (.slice (some ⟨w.heap.size, 0, none⟩) n n) (w.alloc (.cells (flat (List.replicate n (0, 0))).toArray 32)) := by
  obtain ⟨i, hi, hz, hs, hb⟩ := info_parts (P := Try.prog) (e := 32) (z := .agg #[vI 0, vI 0]) (size := 2) (bytes := 16) (by kernel_rfl)
  have := run_makeSlice (P := Try.prog) w 22 32 i _ under22 hi hz .i64 .i64 n n (by omega) (Int.le_refl _) (by rw [hs]; simp; omega) (by rw [hb]; simp; omega) (by omega)
  rw [this, hs, Int.toNat_natCast, made_flat n hn]

def newX (n : Nat) : Abs := { gl := List.replicate n (0, 0), made := 0, cells := fun _ => none, frs := [], pss := [] }

/-- Where a new memory lies: the globals, the map, the memory, behind what was there. -/
def newG (s : Nat) : Gh := { own := fun k => if k = s then 2 else if k = s + 1 then 3 else if k = s + 2 then 1 else 0, gb := s, tb := s + 1, D := .map [], fr := .slice none 0 0, ps := .slice none 0 0, blk := fun _ => 0 }

theorem alloc3 (w : World) (o1 o2 o3 : Obj) : (((w.alloc o1).alloc o2).alloc o3).heap[w.heap.size]? = some o1 ∧ (((w.alloc o1).alloc o2).alloc o3).heap[w.heap.size + 1]? = some o2 ∧ (((w.alloc o1).alloc o2).alloc o3).heap[w.heap.size + 2]? = some o3 ∧ (((w.alloc o1).alloc o2).alloc o3).heap.size = w.heap.size + 3 ∧ Fr (fun _ => False) w (((w.alloc o1).alloc o2).alloc o3) := by
  obtain ⟨h1, h2, h3, h4⟩ := alloc2 w o1 o2
  refine ⟨?_, ?_, ?_, by simp, Fr.alloc h4 _⟩
  · rw [Go.RowKit.Below.heap_alloc _ _ _ (by omega)]; exact h1
  · rw [Go.RowKit.Below.heap_alloc _ _ _ (by omega)]; exact h2
  · have := heap_alloc_last ((w.alloc o1).alloc o2) o3
    rwa [h3] at this

theorem new_mem (w : World) (n : Nat) (hn : n ≤ 16) :
    Mem (((w.alloc (.cells (flat (List.replicate n (0, 0))).toArray 32)).alloc (.map #[] 0)).alloc (.cells (memC (newG w.heap.size) (newX n)) 63)) (w.heap.size + 2) (newG w.heap.size) (newX n) := by
  have hmap := World.ownsMap_made (w.alloc (.cells (flat (List.replicate n (0, 0))).toArray 32)) Try.prog 3 Rc
  obtain ⟨h1, h2, h3, h4, h5⟩ := alloc3 w (.cells (flat (List.replicate n (0, 0))).toArray 32) (.map #[] 0) (.cells (memC (newG w.heap.size) (newX n)) 63)
  refine { blk0 := h3, glob := h1, map := ?_, has := fun i => rfl, atk := (fun i l h => by cases h), cell := (fun i l h => by cases h), frs := World.ownsRow_nil _ _ _ _, pss := World.ownsRow_nil _ _ _ _, ob := ?_, og := ?_, ot := ?_, ofr := (fun j e => by cases e), ops := (fun j e => by cases e), olt := ?_, glen := by simpa [newX] using hn, pos := (fun x h => by cases h) }
  · have := hmap.alloc (.cells (memC (newG w.heap.size) (newX n)) 63)
    rw [show (w.alloc (.cells (flat (List.replicate n (0, 0))).toArray 32)).heap.size = w.heap.size + 1 by simp] at this
    exact this
  · simp [newG]
  · simp [newG]
  · simp [newG]
  · intro k hk
    rw [h4]
    simp only [newG] at hk
    split at hk
    · omega
    · split at hk
      · omega
      · split at hk
        · omega
        · exact absurd rfl hk

set_option maxRecDepth 100000 in
set_option maxHeartbeats 1000000 in
theorem new_any (n : Nat) (hn : n ≤ 16) (w : World) :
    Calls Try.prog 10 #[vI n] w fun e w' => ∃ b g, e = .returned (.pointer (some ⟨b, 0, none⟩)) ∧ Mem w' b g (newX n) ∧ Fr (fun _ => False) w w' ∧ (∀ k, g.own k ≠ 0 → w.heap.size ≤ k) := by
  have hmm := @Go.RowKit.run_makeMap Try.prog
  have hms := makeVals n hn
  have HM : Hd _ := new_mem w n hn
  go_enter Try.func10, Try.ntmps10
  go_wp2
  go_ret
  refine ⟨w.heap.size + 2, newG w.heap.size, rfl, ?_, Fr.alloc (Fr.alloc (Fr.alloc (Fr.refl _ w) _) _) _, ?_⟩
  · have := HM.out
    simpa [memC, newG, newX] using this
  · intro k hk
    simp only [newG] at hk
    split at hk
    · omega
    · split at hk
      · omega
      · split at hk
        · omega
        · exact absurd rfl hk
end Go.Proofs.Ytmdlebolmhnhaaa
