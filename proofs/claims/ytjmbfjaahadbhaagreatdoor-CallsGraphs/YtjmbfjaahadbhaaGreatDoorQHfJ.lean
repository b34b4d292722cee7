import Derived.Test.YtjmbfjaahadbhaaGreatDoorQHe
import Derived.Test.YtjmbfjaahadbhaaGreatDoorQGhJ
set_option linter.unusedVariables false
set_option linter.unusedSimpArgs false
namespace Go.Proofs.YtjmbfjaahadbhaaGreatDoor
open Go.RowKit (wrap32 wrap64)

set_option maxRecDepth 100000 in
set_option maxHeartbeats 2000000 in
theorem hpush_any (B bx : Nat) (l : List Int) (x : Int) (w : World) (h : Hp w B bx l) (hs : HS l) (hx : x ∉ l) (hbx : bx < B) (hBw : B ≤ w.heap.size) (hl : l.length < 1000000) :
    Calls Tryz.prog 46 #[rdI bx, .iface 3 (vI x)] w fun e w' => e = .returned (.tuple #[]) ∧ ∃ l', Hp w' B bx l' ∧ HS l' ∧ (∀ y, y ∈ l' ↔ y ∈ l ∨ y = x) ∧ l'.length = l.length + 1 ∧ Fr (fun k => k = bx ∨ B ≤ k) w w' := by
  have HP1 : Hd (Calls Tryz.prog 120 #[.pointer (some ⟨bx, 0, none⟩), .iface 3 (vI x)] w fun e w' => e = .returned (.tuple #[]) ∧ Hp w' B bx (l ++ [x]) ∧ Fr (fun k => k = bx ∨ B ≤ k) w w') := push_any B bx l x w h hbx hBw (by omega)
  have HHS : Hd (HS l ∧ x ∉ l) := ⟨hs, hx⟩
  have mp := meth_push ⟨bx, 0, none⟩ w
  clear h hs hx
  go_enter Tryz.func46, Tryz.ntmps46
  go_wp2_with fail
  refine Calls.mono HP1.out ?_
  rintro e w1 ⟨rfl, hp1, hF1⟩
  have hlen : (l ++ [x]).length = l.length + 1 := by simp
  obtain ⟨hv, hb, ho⟩ := id hp1
  have c0 : w1.cell? ⟨bx, 0, none⟩ = some hv := by rw [cell_of0 hb]; rfl
  have ml := meth_len c0
  have HLN : Hd (Calls Tryz.prog 47 #[hv] w1 fun e w' => e = .returned (vI ((l.length : Int) + 1)) ∧ w' = w1) := by
    have := hlen_any hv B (l ++ [x]) w1 ho (by rw [hlen]; omega)
    rw [hlen] at this
    exact this
  have HP2 : Hd (Calls Tryz.prog 68 #[rdI bx, vI (l.length : Int)] w1 fun e w' => e = .returned (.tuple #[]) ∧ ∃ l', Hq w1 w' B bx (l ++ [x]) l' ∧ HP l'.length l') := by
    obtain ⟨k1, k2⟩ := HHS.out.1.more HHS.out.2
    exact up_any B bx l.length (l ++ [x]) w1 hp1 hbx k1 k2 (by rw [hlen]; omega) (by rw [hlen]; omega)
  have HF1 : Hd (Fr (fun k => k = bx ∨ B ≤ k) w w1) := hF1
  have q1 : (l.length : Int) + 1 - 1 = (l.length : Int) := by omega
  clear HP1 mp hp1 hF1 hb ho hlen
  go_wp2_with fail
  refine Calls.mono HLN.out ?_
  rintro e w2 ⟨rfl, rfl⟩
  clear HLN ml c0
  go_wp2_with fail
  refine Calls.mono HP2.out ?_
  rintro e w3 ⟨rfl, l', hq, hh⟩
  have HE : Hd (∃ l', Hp w3 B bx l' ∧ HS l' ∧ (∀ y, y ∈ l' ↔ y ∈ l ∨ y = x) ∧ l'.length = l.length + 1 ∧ Fr (fun k => k = bx ∨ B ≤ k) w w3) := ⟨l', hq.hp, ⟨hh, hq.nj⟩, fun y => by rw [hq.mm]; simp, by rw [hq.ln]; simp, HF1.out.trans hq.ff⟩
  clear hq hh HP2 HF1
  go_wp2_with fail
  go_end0
  exact ⟨rfl, HE.out⟩
set_option maxRecDepth 100000 in
set_option maxHeartbeats 2000000 in
theorem hpop_any (B bx m : Nat) (l : List Int) (w : World) (h : Hp w B bx l) (hs : HS l) (hm : l.length = m + 1) (hbx : bx < B) (hl : l.length ≤ 1000000) :
    Calls Tryz.prog 48 #[rdI bx] w fun e w' => e = .returned (.iface 3 (vI (aT l 0))) ∧ ∃ l', Hp w' B bx l' ∧ HS l' ∧ (∀ y, y ∈ l' ↔ y ∈ l ∧ y ≠ aT l 0) ∧ (∀ y ∈ l, aT l 0 ≤ y) ∧ l'.length = m ∧ Fr (fun k => k = bx ∨ B ≤ k) w w' := by
  obtain ⟨hv, hb, ho⟩ := id h
  have hmb : (m : Int) < 1000000 := by omega
  have c0 : w.cell? ⟨bx, 0, none⟩ = some hv := by rw [cell_of0 hb]; rfl
  have ml := meth_len c0
  have ms := meth_swap c0
  have HLN : Hd (Calls Tryz.prog 47 #[hv] w fun e w' => e = .returned (vI ((m : Int) + 1)) ∧ w' = w) := by
    have := hlen_any hv B l w ho (by omega)
    rw [hm] at this
    exact this
  have HSW : Hd (Calls Tryz.prog 118 #[hv, vI 0, vI (m : Int)] w fun e w' => e = .returned (.tuple #[]) ∧ IOwn w' B hv (sw l 0 m) ∧ Fr (fun j => hv.ownBlock = some j) w w') := swap_any hv B l 0 m w ho (by omega) (by omega) (by omega)
  have HB : Hd (w.heap[bx]? = some (.cells #[hv] 78) ∧ IOwn w B hv l) := ⟨hb, ho⟩
  have HHS : Hd (HS l) := hs
  have HM : Hd (l.length = m + 1) := hm
  have q1 : (m : Int) + 1 - 1 = (m : Int) := by omega
  clear h hs hm hb ho
  go_enter Tryz.func48, Tryz.ntmps48
  go_wp2_with fail
  refine Calls.mono HLN.out ?_
  rintro e w1 ⟨rfl, rfl⟩
  clear HLN ml
  go_wp2_with fail
  refine Calls.mono HSW.out ?_
  rintro e w2 ⟨rfl, ho2, hF2⟩
  have hge : ∀ k, hv.ownBlock = some k → B ≤ k := fun k e => (HB.out.2.ge k e).1
  have hb2 : w2.heap[bx]? = some (.cells #[hv] 78) := (hF2.block bx (heap_lt0 HB.out.1) (fun e => by have := hge bx e; omega)).trans HB.out.1
  have hm1 := HM.out
  have hless := HHS.out.less (by omega)
  rw [show l.length - 1 = m by omega] at hless
  have HDW : Hd (Calls Tryz.prog 69 #[rdI bx, vI 0, vI (m : Int)] w2 fun e w' => (∃ b, e = .returned (.bool b)) ∧ ∃ l', Hq w2 w' B bx (sw l 0 m) l' ∧ HP m l' ∧ aT l' m = aT (sw l 0 m) m) := down_any B bx m (sw l 0 m) w2 ⟨hv, hb2, ho2⟩ hbx hless.1 hless.2.1 (by rw [sw_len]; omega) (by rw [sw_len]; omega)
  have HF2 : Hd (Fr (fun k => k = bx ∨ B ≤ k) w1 w2) := hF2.mono (fun k _ e => Or.inr (hge k e))
  have HLS : Hd (aT (sw l 0 m) m = aT l 0) := hless.2.2
  clear HSW ms c0 ho2 hF2 hge hb2 hm1 hless
  go_wp2_with fail
  refine Calls.mono HDW.out ?_
  rintro e w3 ⟨⟨b, rfl⟩, l3, hq, hh, hlast⟩
  have hl3 : l3.length = m + 1 := by rw [hq.ln, sw_len, HM.out]
  have HPP : Hd (Calls Tryz.prog 119 #[.pointer (some ⟨bx, 0, none⟩)] w3 fun e w' => e = .returned (.iface 3 (vI (aT l 0))) ∧ Hp w' B bx (l3.take m) ∧ Fr (fun k => k = bx ∨ B ≤ k) w3 w') := by
    have := pop_any B bx m l3 w3 hq.hp hbx hl3 (by omega)
    rw [hlast, HLS.out] at this
    exact this
  have HQ : Hd (HS (l3.take m) ∧ (∀ x, x ∈ l3.take m ↔ x ∈ l ∧ x ≠ aT l 0) ∧ ∀ x ∈ l, aT l 0 ≤ x) := by
    have e1 := HM.out
    have := HHS.out.left (m := l3) (by omega) (by omega) (by rw [show l.length - 1 = m by omega]; exact hh) hq.nj (by rw [show l.length - 1 = m by omega, hlast, HLS.out]) (fun x => by rw [hq.mm, sw_mem (by omega) (by omega)])
    rw [show l.length - 1 = m by omega] at this
    exact this
  have HL3 : Hd ((l3.take m).length = m) := by unfold Hd; rw [List.length_take]; omega
  have HF3 : Hd (Fr (fun k => k = bx ∨ B ≤ k) w1 w3) := HF2.out.trans hq.ff
  have mp := meth_pop ⟨bx, 0, none⟩ w3
  clear hq hh hlast hl3 HDW HF2
  go_wp2_with fail
  refine Calls.mono HPP.out ?_
  rintro e w4 ⟨rfl, hp4, hF4⟩
  have HE : Hd (∃ l', Hp w4 B bx l' ∧ HS l' ∧ (∀ y, y ∈ l' ↔ y ∈ l ∧ y ≠ aT l 0) ∧ (∀ y ∈ l, aT l 0 ≤ y) ∧ l'.length = m ∧ Fr (fun k => k = bx ∨ B ≤ k) w1 w4) := ⟨_, hp4, HQ.out.1, HQ.out.2.1, HQ.out.2.2, HL3.out, HF3.out.trans hF4⟩
  clear hp4 hF4 HPP mp HQ
  go_wp2_with fail
  go_ret
  exact ⟨rfl, HE.out⟩

set_option maxRecDepth 100000 in
theorem glen_any {B b go gm ge gr N n : Nat} {mv ev rv : Nat → Value} {of : Nat → Nat} {cl : Nat → List Nat} (w : World) (h : GA w B b go gm ge gr N n mv ev rv of cl) (hn : n ≤ 1000000) : Calls Tryz.prog 26 #[.pointer (some ⟨b, 0, none⟩)] w fun e w' => e = .returned (vI (n : Int)) ∧ w' = w := by
  have c1 : w.cell? ⟨b, 1, none⟩ = some (.slice (some ⟨gm, 0, none⟩) n n) := by rw [cell_of0 h.blk]; rfl
  clear h
  go_enter Tryz.func26, Tryz.ntmps26
  go_wp2_with fail
  go_ret
  exact ⟨rfl, rfl⟩
/-- What numbers leaves. -/
def NbE (N n : Nat) (of : Nat → Nat) (cl : Nat → List Nat) (w : World) (e : Ending) (w' : World) : Prop :=
  ∃ gx number dn waits, e = .returned (.slice (some ⟨gx, 0, none⟩) n n) ∧ w.heap.size ≤ gx ∧ Wg.Row w' 3 gx n (fun i => vI (number i : Nat)) ∧ NI n (lwX N of) (cleX N n of cl) dn number waits [] ∧ Fr (fun _ => False) w w'
/-- The numbers' rows and the heap. -/
structure Nr (w0 w : World) (X n : Nat) (number : Nat → Nat) (waits : Nat → Int) (can : List Int) : Prop where
  rn : Wg.Row w 3 X n (fun i => vI (number i : Nat))
  rw' : Wg.Row w 3 (X + 1) n (fun i => vI (waits i))
  hp : Hp w (X + 3) (X + 2) can
  hs : HS can
  ff : Fr (fun k => X ≤ k) w0 w
  sz : X + 3 ≤ w.heap.size
theorem Nr.setN {w0 w : World} {X n : Nat} {number : Nat → Nat} {waits : Nat → Int} {can : List Int} (h : Nr w0 w X n number waits can) (i x : Nat) : Nr w0 (w.setCell ⟨X, i, none⟩ (vI (x : Nat))) X n (Wg.upd number i x) waits can := by
  have f := setCell_fr w X i (vI (x : Nat))
  refine ⟨?_, h.rw'.fr f (by omega), ?_, h.hs, h.ff.setCell _ _ (Or.inl (Nat.le_refl _)), by rw [World.size_setCell]; exact h.sz⟩
  · have := h.rn.setI (f := zF number) i (x : Int)
    rw [zF_upd] at this
    exact this
  · obtain ⟨hv, h1, h2⟩ := h.hp
    exact ⟨hv, (f.block _ (heap_lt0 h1) (by omega)).trans h1, h2.fr f (fun k e e2 => by have := (h2.ge k e).1; omega)⟩
theorem Nr.setW {w0 w : World} {X n : Nat} {number : Nat → Nat} {waits : Nat → Int} {can : List Int} (h : Nr w0 w X n number waits can) (i : Nat) (x : Int) : Nr w0 (w.setCell ⟨X + 1, i, none⟩ (vI x)) X n number (Wg.upd waits i x) can := by
  have f := setCell_fr w (X + 1) i (vI x)
  refine ⟨h.rn.fr f (by omega), h.rw'.setI i x, ?_, h.hs, h.ff.setCell _ _ (Or.inl (Nat.le_succ _)), by rw [World.size_setCell]; exact h.sz⟩
  obtain ⟨hv, h1, h2⟩ := h.hp
  exact ⟨hv, (f.block _ (heap_lt0 h1) (by omega)).trans h1, h2.fr f (fun k e e2 => by have := (h2.ge k e).1; omega)⟩
theorem Nr.heap {w0 w w' : World} {X n : Nat} {number : Nat → Nat} {waits : Nat → Int} {can can' : List Int} (h : Nr w0 w X n number waits can) (hp : Hp w' (X + 3) (X + 2) can') (hs : HS can') (f : Fr (fun k => k = X + 2 ∨ X + 3 ≤ k) w w') : Nr w0 w' X n number waits can' :=
  ⟨h.rn.fr f (by omega), h.rw'.fr f (by omega), hp, hs, h.ff.trans (f.mono (fun k _ e => by omega)), Nat.le_trans h.sz f.size⟩
theorem hlen_le {n : Nat} {can : List Int} {lw : Nat → Nat} (h : NJ can) (hr : ∀ v ∈ can, ∃ c, c < n ∧ v = (lw c : Int)) : can.length ≤ n := by
  have ex : ∀ k, ∃ c, k < can.length → c < n ∧ aT can k = (lw c : Int) := fun k => by
    by_cases hk : k < can.length
    · obtain ⟨c, h1, h2⟩ := hr _ (mem_at.2 ⟨k, hk, rfl⟩)
      exact ⟨c, fun _ => ⟨h1, h2⟩⟩
    · exact ⟨0, fun e => absurd e hk⟩
  have hg : ∀ k, k < can.length → Classical.choose (ex k) < n ∧ aT can k = (lw (Classical.choose (ex k)) : Int) := fun k => Classical.choose_spec (ex k)
  have := nodup_le (l := (List.range can.length).map (fun k => Classical.choose (ex k))) (n := n) (by
    rw [List.Nodup, List.pairwise_map]
    refine List.pairwise_lt_range.imp_of_mem (fun {a b} ha hb hlt e => ?_)
    rw [List.mem_range] at ha hb
    have k1 := (hg a ha).2
    have k2 := (hg b hb).2
    rw [e, ← k2] at k1
    have := h a b ha hb k1
    omega) (by
    intro x hx
    rw [List.mem_map] at hx
    obtain ⟨k, hk, rfl⟩ := hx
    rw [List.mem_range] at hk
    exact (hg k hk).1)
  rwa [List.length_map, List.length_range] at this
end Go.Proofs.YtjmbfjaahadbhaaGreatDoor
