import Derived.Test.YtmdlebolmhnhaabP8
namespace Go.Proofs.Ytmdlebolmhnhaab
open Go.RowKit (wrap32 wrap64)
open Go.Maps (Keyed)
set_option linter.unusedVariables false
set_option linter.unusedSimpArgs false

/-- A cell of a frame that goes. -/
def goStep (cs : List CellR) (n : Nat) : List CellR :=
  match cs[n - 1]? with
  | some c => if c.heap then cs else cs.set (n - 1) { c with there := false }
  | none => cs
def goAll (l : List Nat) (cs : List CellR) : List CellR := l.foldl goStep cs

theorem goStep_len (cs : List CellR) (n : Nat) : (goStep cs n).length = cs.length := by
  unfold goStep
  split
  · split
    · rfl
    · simp
  · rfl
theorem goAll_len : ∀ (l : List Nat) (cs : List CellR), (goAll l cs).length = cs.length
  | [], cs => rfl
  | n :: l, cs => by
    show (goAll l (goStep cs n)).length = _
    rw [goAll_len l, goStep_len]
theorem goAll_snoc (l : List Nat) (cs : List CellR) (k : Nat) (h : k < l.length) : goAll (l.take (k + 1)) cs = goStep (goAll (l.take k) cs) l[k] := by
  unfold goAll
  rw [List.take_add_one, List.getElem?_eq_getElem h, List.foldl_append]
  rfl

def rpopX (a : RA) : RA × Int :=
  match a.frs.getLast? with
  | none => (a, 30)
  | some l => ({ a with frs := a.frs.dropLast, cells := goAll l a.cells }, 0)

/-- The frames' numbers are numbers of cells. -/
def RWf (a : RA) : Prop := ∀ l ∈ a.frs, ∀ n ∈ l, 1 ≤ n ∧ n ≤ a.cells.length

set_option maxRecDepth 100000 in
set_option maxHeartbeats 4000000 in
/-- Pop of the document's memory. -/
theorem rpop_any (b : Nat) (g : RG) (a : RA) (w : World) (h : RMem w b g a) (hw : RWf a) (hlen : a.cells.length ≤ 100000000) (hfl : a.frs.length ≤ 100000000) (hll : ∀ l ∈ a.frs, l.length ≤ 100000000) :
    Calls Try.prog 28 #[rptr b] w fun e w' => e = .returned (vI (rpopX a).2) ∧ ∃ g', RMem w' b g' (rpopX a).1 ∧ Fr (fun j => g.own j ≠ 0) w w' ∧ RExt w.heap.size g g' := by
  obtain ⟨c0, c1, c2⟩ := h.heads
  obtain ⟨ad, cap, hfv, hcap, had⟩ := row_shape h.frs
  rw [hfv] at c1
  have HM : Hd _ := h
  by_cases h0 : a.frs = []
  · have HX : Hd (rpopX a = (a, 30)) := by unfold Hd rpopX; rw [h0]; rfl
    have hz : a.frs.length = 0 := by rw [h0]; rfl
    rw [hz] at c1
    clear h hfv had
    go_enter Try.func28, Try.ntmps28
    go_wp2_with fail
    go_ret
    rw [HX.out]
    exact ⟨rfl, g, HM.out, Fr.refl _ _, fun _ _ => rfl⟩
  · obtain ⟨fb, rfl⟩ := had (by rcases hfr : a.frs with _ | ⟨x, y⟩; exact absurd hfr h0; simp)
    obtain ⟨m, hm⟩ : ∃ m, a.frs.length = m + 1 := ⟨a.frs.length - 1, by have : 0 < a.frs.length := List.length_pos_iff.2 h0; omega⟩
    have hml : m < a.frs.length := by omega
    obtain ⟨l, hl⟩ : ∃ l, a.frs[m]? = some l := ⟨_, List.getElem?_eq_getElem hml⟩
    have hlm : l ∈ a.frs := List.mem_of_getElem? hl
    have HX : Hd (rpopX a = ({ a with frs := a.frs.take m, cells := goAll l a.cells }, 0)) := by
      unfold Hd rpopX
      rw [List.getLast?_eq_getElem?, hm, Nat.add_sub_cancel, hl]
      simp only [List.dropLast_eq_take, hm, Nat.add_sub_cancel]
    obtain ⟨u, hu⟩ : ∃ u, g.fr[m]? = some u := ⟨_, List.getElem?_eq_getElem (by rw [h.lfr]; omega)⟩
    have hrow := h.frs
    rw [hfv] at hrow
    have f0 : w.cell? ⟨fb, m, none⟩ = some u := row_cell hrow hu
    have hur := h.fro m u l hu hl
    have huo := h.ofr m u
    obtain ⟨ua, uc, rfl, -, hua⟩ := row_shape hur
    obtain ⟨g1, hM1, ho1, hcv1, hF1⟩ := h.cut (k := m) hfv (by omega)
    have z1 : w.frozen? ⟨b, 1, none⟩ = false := frozen_of h.blk 1
    have HUR : Hd ((w.setCell ⟨b, 1, none⟩ (.slice (some ⟨fb, 0, none⟩) m cap)).ownsRow 0 3 1 (.slice ua l.length uc) l.length (l.map fun n : Nat => vI n)) :=
      ownsRow_fr hur (setCell_fr w b 1 _) (fun j e => rne (h.ofr m _ j hu e) h.ob (by omega))
    have HUO : Hd (∀ j, (Value.slice ua l.length uc).ownBlock = some j → g.own j = 5 + 2 * m) := fun j e => h.ofr m _ j hu e
    have HM1 : Hd _ := hM1
    have HF1 : Hd _ := hF1
    have HO1 : Hd _ := ho1
    have HWF : Hd (∀ n ∈ l, 1 ≤ n ∧ n ≤ a.cells.length) := hw l hlm
    have hll' := hll l hlm
    rw [hm] at c1
    have hcm : m + 1 ≤ cap := by omega
    have hm0 : ((m : Int) + 1 == 0) = false := by simp; omega
    clear hrow hur huo hM1 hF1 ho1 hcv1 h hfv had hu hl hlm hw hll c0 c2
    go_enter Try.func28, Try.ntmps28
    go_wp2_with fail
    go_quiet (fail)
    go_wp2_with fail
    go_region
    have hFd : Fr (fun _ => False) (w.setCell ⟨b, 1, none⟩ (.slice (some ⟨fb, 0, none⟩) m cap)) ((w.drewN (nq + 1)).setCell ⟨b, 1, none⟩ (.slice (some ⟨fb, 0, none⟩) m cap)) := Fr.drewN (Fr.refl _ (w.setCell ⟨b, 1, none⟩ (.slice (some ⟨fb, 0, none⟩) m cap))) (nq + 1)
    have HM2 : Hd _ := HM1.out.keep hFd
    have HU2 : Hd _ := ownsRow_fr HUR.out hFd (fun _ _ h => h)
    have HF2 : Hd _ := HF1.out.trans (hFd.mono (fun _ _ h => h.elim))
    clear hFd HM1 HUR HF1 c1 z1 f0
    go_wp2_with fail
    generalize (w.drewN (nq + 1)).setCell ⟨b, 1, none⟩ (.slice (some ⟨fb, 0, none⟩) m cap) = w5 at *
    go_loopw [4] (fun v wr => ∃ (k : Nat), v = .int .i64 k ∧ k ≤ l.length ∧ Hd (RMem wr b g1 { gl := a.gl, frs := a.frs.take m, cells := goAll (l.take k) a.cells }) ∧ Hd (wr.ownsRow 0 3 1 (.slice ua l.length uc) l.length (l.map fun n : Nat => vI n)) ∧ Hd (Fr (fun j => g.own j ≠ 0) w wr)) (fun v _ => match v with | .int _ q => l.length - q.toNat | _ => 0)
    case atStart => exact ⟨0, rfl, Nat.zero_le _, HM2.out, HU2.out, HF2.out⟩
    case round =>
      obtain ⟨k, rfl, hk, HMk, HUk, HFk⟩ := hrel
      clear HM2 HU2 HF2
      by_cases hlt : k < l.length
      · obtain ⟨ug, rfl⟩ := hua (by omega)
        obtain ⟨hn1, hn2⟩ := HWF.out l[k] (List.getElem_mem hlt)
        obtain ⟨i, hi⟩ : ∃ i, l[k] = i + 1 := ⟨l[k] - 1, by omega⟩
        have hsn := goAll_snoc l a.cells k hlt
        rw [hi] at hsn
        have l0 : wr.cell? ⟨ug, k, none⟩ = some (vI ((i : Int) + 1)) := row_cell HUk.out (by rw [List.getElem?_map, List.getElem?_eq_getElem hlt, hi]; rfl)
        obtain ⟨cs, hcs⟩ : ∃ cs, goAll (l.take k) a.cells = cs := ⟨_, rfl⟩
        have hcl : cs.length = a.cells.length := by rw [← hcs]; exact goAll_len _ _
        rw [hcs] at HMk hsn
        have HSN : Hd _ := hsn
        have hil : i < cs.length := by omega
        obtain ⟨c, hc⟩ : ∃ c, cs[i]? = some c := ⟨_, List.getElem?_eq_getElem hil⟩
        obtain ⟨cb, cp, u2, hcv, hu2, q0, q1, q2, hrow2⟩ := HMk.out.cellAt hc
        have hgs : goStep cs (i + 1) = if c.heap then cs else cs.set i { c with there := false } := by
          unfold goStep
          rw [Nat.add_sub_cancel, hc]
        have HGS : Hd _ := hgs
        have hok := HMk.out.oc
        obtain ⟨c0, c1, c2⟩ := HMk.out.heads
        rw [hcv] at c2
        have hrw := HMk.out.cls
        rw [hcv] at hrw
        obtain ⟨cur, hcur⟩ := row_block hrw
        have z4 : wr.frozen? ⟨cb, i * 3 + 2, none⟩ = false := frozen_of hcur _
        have HGO : Hd _ := HMk.out.goes hcv hc
        have hcbo : g.own cb = 4 := by have := hok cb (by rw [hcv]; rfl); rw [HO1.out] at this; exact this
        have HCBO : Hd _ := hcbo
        have hi0 : (0 : Int) ≤ i := by omega
        have hi1 : (i : Int) < cs.length := by omega
        have hk0 : (0 : Int) ≤ k := by omega
        have hk1 : (k : Int) < l.length := by omega
        have HC : Hd _ := hc
        have hib : i < 100000000 := by omega
        simp only at c2
        clear hua hsn hcs hcl hc hcv hu2 q0 hrow2 hgs hok hrw hcur hcbo c0 c1 hn1 hn2 hi
        cases hh : c.heap
        · rw [hh] at q1
          have HH : Hd _ := hh
          clear hh
          go_wp2_with fail
          go_quiet (fail)
          go_wp2_with fail
          go_region
          have hFd : Fr (fun _ => False) (wr.setCell ⟨cb, i * 3 + 2, none⟩ (.bool false)) ((wr.drewN (nq + 1)).setCell ⟨cb, i * 3 + 2, none⟩ (.bool false)) := Fr.drewN (Fr.refl _ (wr.setCell ⟨cb, i * 3 + 2, none⟩ (.bool false))) (nq + 1)
          have HMn : Hd _ := HGO.out.1.keep hFd
          have HUn : Hd _ := ownsRow_fr (ownsRow_fr HUk.out (setCell_fr wr cb (i * 3 + 2) (.bool false)) (fun j e => rne (HUO.out j e) HCBO.out (by omega))) hFd (fun _ _ h => h)
          have HFn : Hd (Fr (fun j => g.own j ≠ 0) w ((wr.drewN (nq + 1)).setCell ⟨cb, i * 3 + 2, none⟩ (.bool false))) := (HFk.out.then (setCell_fr wr cb (i * 3 + 2) (.bool false)) (fun j hj e => by rw [e, HCBO.out]; decide)).trans (hFd.mono (fun _ _ h => h.elim))
          clear hFd
          go_wp2_with fail
          refine ⟨⟨k + 1, by simp, by omega, ?_, HUn.out, HFn.out⟩, by simp; omega⟩
          unfold Hd
          rw [HSN.out, HGS.out, if_neg (by rw [HH.out]; simp)]
          exact HMn.out
        · rw [hh] at q1
          have HH : Hd _ := hh
          clear hh
          go_wp2_with fail
          go_quiet (fail)
          go_wp2_with fail
          refine ⟨⟨k + 1, by simp, by omega, ?_, ownsRow_fr HUk.out ((Fr.refl (fun _ => False) wr).drewN _) (fun _ _ h => h), HFk.out.drewN _⟩, by simp; omega⟩
          unfold Hd
          rw [HSN.out, HGS.out, if_pos HH.out]
          exact HMk.out.keep ((Fr.refl _ wr).drewN _)
      · have hke : k = l.length := by omega
        subst hke
        go_wp2_with fail
        go_ret
        rw [HX.out]
        have hfin := HMk.out
        rw [List.take_length] at hfin
        exact ⟨rfl, g1, hfin, HFk.out, fun k _ => by rw [HO1.out]⟩

end Go.Proofs.Ytmdlebolmhnhaab

namespace Go.Proofs.Ytmdlebolmhnhaab
open Go.RowKit (wrap32 wrap64)
open Go.Maps (Keyed)
set_option linter.unusedVariables false
set_option linter.unusedSimpArgs false

theorem RMem.blt {w : World} {e size n : Nat} {v : Value} {xs : List Value} (hr : w.ownsRow 0 e size v n xs) (j : Nat) (hj : v.ownBlock = some j) : j < w.heap.size := (World.ownsRow.lt hr j hj).2

theorem flat_snocR (l : List Val) (x : Val) : flat (l ++ [x]) = flat l ++ [vI x.1, vI x.2] := by
  induction l with
  | nil => rfl
  | cons y r ih => simp [flat, ih]

/-- The list of globals has grown. -/
theorem RMem.grewGl {w w6 : World} {b : Nat} {g : RG} {a : RA} (h : RMem w b g a) {x : Val} {g6 cap : Nat} (hown : w6.ownsRow 0 28 2 (.slice (some ⟨g6, 0, none⟩) (a.gl.length + 1) cap) (a.gl.length + 1) (flat a.gl ++ [vI x.1, vI x.2]))
    (hgrow : w.grownBy w6 g.gv.ownBlock) (hat : g.gv.ownBlock = some g6 ∨ g6 = w.heap.size) :
    ∃ g', RMem (w6.setCell ⟨b, 0, none⟩ (.slice (some ⟨g6, 0, none⟩) (a.gl.length + 1) cap)) b g' { a with gl := a.gl ++ [x] } ∧ Fr (fun j => g.own j ≠ 0) w (w6.setCell ⟨b, 0, none⟩ (.slice (some ⟨g6, 0, none⟩) (a.gl.length + 1) cap)) ∧ RExt w.heap.size g g' ∧ ∀ k, g'.own k ≠ 0 → g.own k ≠ 0 ∨ w.heap.size ≤ k := by
  have f1 : Fr (fun k => g.gv.ownBlock = some k) w w6 := grown_fr hgrow
  have f2 := setCell_fr w6 b 0 (.slice (some ⟨g6, 0, none⟩) (a.gl.length + 1) cap)
  have hlb := heap_lt h.blk
  have ho6 : ∀ k, k < w.heap.size → (if k = g6 then 2 else g.own k) = g.own k := fun k hk => by
    split
    · rename_i e
      subst e
      rcases hat with e | e
      · exact (h.og _ e).symm
      · omega
    · rfl
  have nb : b ≠ g6 := fun e => by
    rcases hat with e' | e'
    · have := h.og _ e'; rw [← e, h.ob] at this; omega
    · omega
  have hg6 : g6 < w6.heap.size := (World.ownsRow.lt hown g6 rfl).2
  have hb6 : w6.heap[b]? = some (.cells #[g.gv, g.fv, g.cv] 56) := by rw [f1.block b hlb (fun e => rne h.ob (h.og b e) (by omega) rfl)]; exact h.blk
  have keep : ∀ {e size n : Nat} {v : Value} {xs : List Value}, w.ownsRow 0 e size v n xs → (∀ j, v.ownBlock = some j → g.own j ≠ 2 ∧ g.own j ≠ 1) → (w6.setCell ⟨b, 0, none⟩ (.slice (some ⟨g6, 0, none⟩) (a.gl.length + 1) cap)).ownsRow 0 e size v n xs := fun hr hj =>
    ownsRow_fr (ownsRow_fr hr f1 (fun j e ej => (hj j e).1 (h.og j ej))) f2 (fun j e ej => (hj j e).2 (by rw [ej]; exact h.ob))
  refine ⟨{ g with gv := .slice (some ⟨g6, 0, none⟩) (a.gl.length + 1) cap, own := fun k => if k = g6 then 2 else g.own k }, ⟨?_, ?_, keep h.frs (fun j e => by rw [h.of j e]; omega), fun i u l e1 e2 => keep (h.fro i u l e1 e2) (fun j e => by rw [h.ofr i u j e1 e]; omega), keep h.cls (fun j e => by rw [h.oc j e]; omega), fun i u c e1 e2 => keep (h.flo i u c e1 e2) (fun j e => by rw [h.ofl i u j e1 e]; omega), h.lfl, (ho6 b hlb).trans h.ob, fun j e => ?_, fun j e => (ho6 j (RMem.blt h.frs j e)).trans (h.of j e), fun j e => (ho6 j (RMem.blt h.cls j e)).trans (h.oc j e), fun i u j e1 e2 => ?_, fun i u j e1 e2 => ?_, fun k hk => ?_⟩, ?_, ho6, fun k hk => ?_⟩
  · rw [set_of hb6]; rfl
  · have := ownsRow_fr hown f2 (fun j e ej => by cases e; exact nb ej.symm)
    rw [← flat_snocR] at this
    simpa using this
  · cases e
    exact if_pos rfl
  · have e1 : g.fr[i]? = some u := e1
    obtain ⟨l, hl⟩ : ∃ l, a.frs[i]? = some l := ⟨_, List.getElem?_eq_getElem (by have := (List.getElem?_eq_some_iff.1 e1).1; have := h.lfr; omega)⟩
    exact (ho6 j (RMem.blt (h.fro i u l e1 hl) j e2)).trans (h.ofr i u j e1 e2)
  · have e1 : g.fl[i]? = some u := e1
    obtain ⟨c, hc⟩ : ∃ c, a.cells[i]? = some c := ⟨_, List.getElem?_eq_getElem (by have := (List.getElem?_eq_some_iff.1 e1).1; have := h.lfl; omega)⟩
    exact (ho6 j (RMem.blt (h.flo i u c e1 hc) j e2)).trans (h.ofl i u j e1 e2)
  · have hk' : (if k = g6 then 2 else g.own k) ≠ 0 := hk
    split at hk'
    · rename_i e
      subst e
      simpa using hg6
    · have := h.olt k hk'
      have := f1.size
      simp
      omega
  · exact (f1.mono (fun k _ e => by rw [h.og k e]; decide)).then f2 (fun j hj e => by rw [e, h.ob]; decide)
  · have hk' : (if k = g6 then 2 else g.own k) ≠ 0 := hk
    split at hk'
    · rename_i e
      subst e
      rcases hat with e | e
      · exact Or.inl (by rw [h.og _ e]; decide)
      · exact Or.inr (by omega)
    · exact Or.inl hk'

end Go.Proofs.Ytmdlebolmhnhaab
