import Derived.Test.YtihicdbplmdjiaaGreatQPlA6
import Derived.Maps.RangeWalk
set_option linter.unusedVariables false
set_option linter.unusedSimpArgs false
namespace Go.Proofs.YtihicdbplmdjiaaGreat.Pl
open Go.RowKit (wrap32 wrap64)
open Go.MuLone
open Go.Maps (Keyed)

/-- The world with the first k locks set to x. -/
def lkW (w : World) (b : Nat) (x : Int) : Nat → World
  | 0 => w
  | k + 1 => (lkW w b x k).setCell ⟨b, k * 3, none⟩ (.int .i32 x)
theorem lkW_cell (w : World) (b : Nat) (x : Int) (hl : ∀ i, i < 8 → ∃ y, w.cell? ⟨b, 3 * i, none⟩ = some (.int .i32 y)) : ∀ (k : Nat), k ≤ 8 → ∀ o, (lkW w b x k).cell? ⟨b, o, none⟩ = if o % 3 = 0 ∧ o < 3 * k then some (.int .i32 x) else w.cell? ⟨b, o, none⟩
  | 0, _, o => by rw [if_neg (by omega)]; rfl
  | k + 1, hk, o => by
    have ih := lkW_cell w b x hl k (by omega)
    show ((lkW w b x k).setCell ⟨b, k * 3, none⟩ (.int .i32 x)).cell? ⟨b, o, none⟩ = _
    by_cases e : o = k * 3
    · subst e
      rw [if_pos (by omega)]
      obtain ⟨y, hy⟩ := hl k (by omega)
      exact World.cell?_setCell_same (u := .int .i32 y) _ _ _ (by rw [ih, if_neg (by omega), Nat.mul_comm]; exact hy)
    · rw [World.cell?_setCell_other _ _ _ _ (by intro h; injection h; omega), ih]
      by_cases h1 : o % 3 = 0 ∧ o < 3 * k
      · rw [if_pos h1, if_pos (by omega)]
      · rw [if_neg h1, if_neg (by omega)]
theorem lkW_frozen (w : World) (b : Nat) (x : Int) (a : Addr) : ∀ k, (lkW w b x k).frozen? a = w.frozen? a
  | 0 => rfl
  | k + 1 => by show ((lkW w b x k).setCell _ _).frozen? a = _; rw [World.frozen?_setCell]; exact lkW_frozen w b x a k
theorem lkW_fr (w : World) (b : Nat) (x : Int) : ∀ k, Fr (fun j => j = b) w (lkW w b x k)
  | 0 => Fr.refl _ _
  | k + 1 => (lkW_fr w b x k).setCell _ _ (Or.inl rfl)

set_option maxRecDepth 100000 in
set_option maxHeartbeats 1000000 in
theorem lock_any (b : Nat) (w : World) (hl : ∀ i, i < 8 → w.cell? ⟨b, 3 * i, none⟩ = some (.int .i32 0)) (hz : ∀ o, w.frozen? ⟨b, o, none⟩ = false) :
    Calls Tryz.prog 83 #[.pointer (some ⟨b, 0, none⟩)] w fun e w' => e = .returned (.tuple #[]) ∧ w' = lkW w b 1 8 := by
  have HL : Hd (∀ i, i < 8 → w.cell? ⟨b, 3 * i, none⟩ = some (.int .i32 0)) := hl
  have HZ : Hd (∀ o, w.frozen? ⟨b, o, none⟩ = false) := hz
  clear hl hz
  go_enter Tryz.func83, Tryz.ntmps83
  go_wp2_with fail
  go_loopw [3] (fun v wr => ∃ k : Nat, v = .int .i64 k ∧ k ≤ 8 ∧ Hd (wr = lkW w b 1 k)) (fun v _ => match v with | .int _ q => 8 - q.toNat | _ => 0)
  case atStart => exact ⟨0, rfl, by omega, rfl⟩
  case round =>
    obtain ⟨k, rfl, hk, HM⟩ := hrel
    by_cases hlt : k < 8
    · have c0 : wr.cell? ⟨b, k * 3, none⟩ = some (.int .i32 0) := by
        rw [HM.out, lkW_cell w b 1 (fun i hi => ⟨0, HL.out i hi⟩) k hk, if_neg (by omega), Nat.mul_comm]; exact HL.out k hlt
      have z0 : wr.frozen? ⟨b, k * 3, none⟩ = false := by rw [HM.out, lkW_frozen]; exact HZ.out _
      have hk3 : (k : Int) < 8 := by omega
      have hk0 : (0 : Int) ≤ k := by omega
      have hst : Hd (wr.setCell ⟨b, k * 3, none⟩ (.int .i32 1) = lkW w b 1 (k + 1)) := by show _ = _; rw [HM.out]; rfl
      clear HM hk
      go_wp2_with (go_at_call 69; refine (lock_free muLib ⟨b, k * 3, none⟩ _ c0 z0).mono ?_; rintro e w' ⟨rfl, rfl⟩)
      refine ⟨⟨k + 1, by simp, by omega, hst⟩, by simp; omega⟩
    · have hdk : decide ((k : Int) < 8) = false := by simp; omega
      have e8 : Hd (k = 8) := by show k = 8; omega
      clear hlt hk
      go_wp2_with fail
      go_end0
      obtain rfl := e8.out
      exact ⟨rfl, HM.out⟩

set_option maxRecDepth 100000 in
set_option maxHeartbeats 1000000 in
theorem unlock_d (b : Nat) (u : FrameMode) (w : World) (hl : ∀ i, i < 8 → w.cell? ⟨b, 3 * i, none⟩ = some (.int .i32 1)) (hz : ∀ o, w.frozen? ⟨b, o, none⟩ = false) :
    CallsD Tryz.prog 84 #[.pointer (some ⟨b, 0, none⟩)] u w fun e u' w' => u' = u ∧ (e = .returned (.tuple #[]) ∧ w' = lkW w b 0 8) := by
  have HL : Hd (∀ i, i < 8 → w.cell? ⟨b, 3 * i, none⟩ = some (.int .i32 1)) := hl
  have HZ : Hd (∀ o, w.frozen? ⟨b, o, none⟩ = false) := hz
  clear hl hz
  go_enter_d Tryz.func84, Tryz.ntmps84
  go_wp2_with fail
  go_loopw [3] (fun v wr => ∃ k : Nat, v = .int .i64 k ∧ k ≤ 8 ∧ Hd (wr = lkW w b 0 k)) (fun v _ => match v with | .int _ q => 8 - q.toNat | _ => 0)
  case atStart => exact ⟨0, rfl, by omega, rfl⟩
  case round =>
    obtain ⟨k, rfl, hk, HM⟩ := hrel
    by_cases hlt : k < 8
    · have c0 : wr.cell? ⟨b, k * 3, none⟩ = some (.int .i32 1) := by
        rw [HM.out, lkW_cell w b 0 (fun i hi => ⟨1, HL.out i hi⟩) k hk, if_neg (by omega), Nat.mul_comm]; exact HL.out k hlt
      have z0 : wr.frozen? ⟨b, k * 3, none⟩ = false := by rw [HM.out, lkW_frozen]; exact HZ.out _
      have hk3 : (k : Int) < 8 := by omega
      have hk0 : (0 : Int) ≤ k := by omega
      have hst : Hd (wr.setCell ⟨b, k * 3, none⟩ (.int .i32 0) = lkW w b 0 (k + 1)) := by show _ = _; rw [HM.out]; rfl
      clear HM hk
      go_wp2_with (go_at_call 70; refine (unlock_held muLib ⟨b, k * 3, none⟩ _ c0 z0).mono ?_; rintro e w' ⟨rfl, rfl⟩)
      refine ⟨⟨k + 1, by simp, by omega, hst⟩, by simp; omega⟩
    · have hdk : decide ((k : Int) < 8) = false := by simp; omega
      have e8 : Hd (k = 8) := by show k = 8; omega
      clear hlt hk
      go_wp2_with fail
      go_end0
      obtain rfl := e8.out
      exact ⟨rfl, HM.out⟩

abbrev Kv := Int × ByteArray
def pCells : List Kv → List Value
  | [] => []
  | e :: r => vI e.1 :: .string e.2 :: pCells r
theorem pCells_length : ∀ es : List Kv, (pCells es).length = es.length * 2
  | [] => rfl
  | e :: r => by simp [pCells, pCells_length r]; omega
theorem pCells_append : ∀ (a b : List Kv), pCells (a ++ b) = pCells a ++ pCells b
  | [], _ => rfl
  | e :: r, b => by simp [pCells, pCells_append r b]
def OwnP (w : World) (B : Nat) (v : Value) (es : List Kv) : Prop := w.ownsRow B 141 2 v es.length (pCells es)
theorem OwnP.nil (w : World) (B : Nat) : OwnP w B (.slice none 0 0) [] := World.ownsRow_nil w B 141 2
theorem OwnP.fr {S : Nat → Prop} {w w' : World} {B : Nat} {v : Value} {es : List Kv} (h : OwnP w B v es) (f : Fr S w w') (hS : ∀ g, v.ownBlock = some g → ¬ S g) : OwnP w' B v es := ownsRow_fr h f hS
theorem OwnP.ge {w : World} {B : Nat} {v : Value} {es : List Kv} (h : OwnP w B v es) : ∀ k, v.ownBlock = some k → B ≤ k ∧ k < w.heap.size := World.ownsRow.lt h
theorem OwnP.of {w6 : World} {B : Nat} {es : List Kv} {e : Kv} {g cap : Nat} (h : w6.ownsRow B 141 2 (.slice (some ⟨g, 0, none⟩) (es.length + 1) cap) (es.length + 1) (pCells es ++ [vI e.1, .string e.2])) : OwnP w6 B (.slice (some ⟨g, 0, none⟩) (es.length + 1) cap) (es ++ [e]) := by
  unfold OwnP
  rw [pCells_append, List.length_append]
  exact h

/-- What has been told of a table: of the keys that p tells. -/
structure LL (a : Ab) (L : List Kv) (p : Int → Prop) : Prop where
  nodup : (L.map Prod.fst).Nodup
  mem : ∀ k v, (k, v) ∈ L ↔ a k = some v ∧ p k
theorem LL.nil (a : Ab) : LL a [] (fun _ => False) := ⟨List.nodup_nil, fun k v => by simp⟩
theorem LL.congr {a : Ab} {L : List Kv} {p q : Int → Prop} (h : LL a L p) (hpq : ∀ k v, a k = some v → (p k ↔ q k)) : LL a L q := ⟨h.nodup, fun k v => by
  rw [h.mem]
  constructor
  · rintro ⟨h1, h2⟩; exact ⟨h1, (hpq k v h1).1 h2⟩
  · rintro ⟨h1, h2⟩; exact ⟨h1, (hpq k v h1).2 h2⟩⟩
theorem LL.more {a : Ab} {L : List Kv} {p : Int → Prop} (h : LL a L p) {x : Int} {v : ByteArray} (hx : a x = some v) (hp : ¬ p x) : LL a (L ++ [(x, v)]) (fun k => p k ∨ k = x) := by
  refine ⟨?_, fun k y => ?_⟩
  · rw [List.map_append]
    refine List.nodup_append.2 ⟨h.nodup, by simp, ?_⟩
    intro k hk k' hk' e
    simp at hk'
    subst hk'
    subst e
    obtain ⟨⟨k1, v1⟩, h1, h2⟩ := List.mem_map.1 hk
    simp at h2
    subst h2
    exact hp ((h.mem _ _).1 h1).2
  · rw [List.mem_append, h.mem]
    constructor
    · rintro (⟨h1, h2⟩ | h1)
      · exact ⟨h1, Or.inl h2⟩
      · simp at h1
        obtain ⟨rfl, rfl⟩ := h1
        exact ⟨hx, Or.inr rfl⟩
    · rintro ⟨h1, h2 | rfl⟩
      · exact Or.inl ⟨h1, h2⟩
      · rw [hx] at h1
        cases h1
        exact Or.inr (by simp)

theorem same_int (z x : Int) : (Lit.int .i64 z).sameKey (.int .i64 x) = decide (z = x) := by
  by_cases e : z = x
  · subst e; simp; exact WideAt.sameKey_self trivial
  · have : (Lit.int .i64 z).sameKey (.int .i64 x) = false := by
      unfold Lit.sameKey
      simp [e]
    rw [this]; simp [e]

/-- How an entry's pointer is spelt. -/
def ptrV : Option Nat → Value
  | some e => .pointer (some ⟨e, 0, none⟩)
  | none => .pointer none

/-- The step over a stripe's map. -/
theorem wpList_next_tab (w : World) {ops : Array Oper} {rest : List Oper} {o : Oper} {ac : Act} {Q : Exit → Act → World → Prop} {w0 : World} {b : Nat} {g : Gh} {N : Nat} {a : Ab} (T : Tb w0 b g N a) (i : Nat) (hi : i < 8)
    (hg : o.guard = none) (it : Operand) (hop : o.op = Op.next it false) (r : Nat) (left : Lit → Bool) (cnt : Nat) (hleft : ∀ kl, left kl = true → Maps.has (g.D i) kl = true)
    (hit : ac.eval it = .pointer (some ⟨r, 0, none⟩)) (h : w.ranges Tryz.prog 3 Rp (g.mb i) r N (g.D i) left cnt)
    (hDone : cnt = 0 → (∀ kl, left kl = false) → wpList Tryz.prog ops Q rest (ac.put o.dst (.tuple #[.bool false])) w)
    (hMore : ∀ (x : Int) (v : ByteArray) (w' : World) (cnt' : Nat), a x = some v → strp x = i → left (.int .i64 x) = true → w'.ranges Tryz.prog 3 Rp (g.mb i) r N (g.D i) (fun z => left z && !z.sameKey (.int .i64 x)) cnt' → cnt' < cnt →
      w.grownBy w' (some r) → w'.heap.size = w.heap.size → (Instr.entry (.pointer (some ⟨r, 0, none⟩))).run Tryz.prog w' = .ok (.tuple #[vI x, .pointer (some ⟨g.eb x, 0, none⟩)]) w' → wpList Tryz.prog ops Q rest (ac.put o.dst (.tuple #[.bool true, vI x, .pointer (some ⟨g.eb x, 0, none⟩)])) w') :
    wpList Tryz.prog ops Q (o :: rest) ac w :=
  wpList_next_ranges w hg it hop 3 keyed3 Rp vI ptrV (fun key kl hkey => by obtain ⟨x, rfl, _⟩ := Maps.keyOf_int_inv under3 hkey; exact ⟨x, rfl⟩)
    (fun v y hv => by
      unfold Rp at hv
      split at hv
      · rename_i e; exact ⟨some e, rfl⟩
      · exact ⟨none, rfl⟩
      · cases hv)
    (g.mb i) r N (g.D i) left cnt hit h hDone (fun x c kl y w' cnt' hkey hlk hv hat hrg hlt hgr hsz hen => by
      obtain ⟨x', ex, rfl, hwx⟩ := Maps.keyOf_int_inv under3 hkey
      cases ex
      have hx : In64 x := by
        have h : IntKind.i64.min ≤ x ∧ x ≤ 9223372036854775807 := by simpa [Lit.wf] using hwx
        exact ⟨h.1, h.2⟩
      have h1 := T.has i x hi hx
      rw [hleft _ hlk] at h1
      have h2 : strp x = i ∧ (a x).isSome = true := by simpa using h1.symm
      obtain ⟨v, hv2⟩ := Option.isSome_iff_exists.1 h2.2
      have h3 := T.atk x v hv2
      rw [h2.1, hat .nil] at h3
      have hc : c = some (g.eb x) := by
        cases c with
        | none => simp [ptrV, Rp] at hv; rw [← hv] at h3; cases h3
        | some e =>
          simp [ptrV, Rp] at hv
          rw [← hv] at h3
          simp at h3
          rw [Int.ofNat.inj h3]
      subst hc
      exact hMore x v w' cnt' hv2 h2.1 hlk hrg hlt hgr hsz hen)
end Go.Proofs.YtihicdbplmdjiaaGreat.Pl
