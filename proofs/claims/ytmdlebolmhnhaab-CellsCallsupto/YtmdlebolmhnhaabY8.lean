import Derived.Test.YtmdlebolmhnhaabY7
import Derived.Test.YtmdlebolmhnhaabY6
import Derived.Test.YtmdlebolmhnhaabY5
namespace Go.Proofs.Ytmdlebolmhnhaab
open Go.RowKit (wrap32 wrap64)
open Go.Maps (Keyed)
set_option linter.unusedVariables false
set_option linter.unusedSimpArgs false

theorem IntsAt.blk {n0 : Nat} {w : World} {sv : Value} {zs : List Int} (h : IntsAt n0 w sv zs) (hz : zs ≠ []) {j : Nat} (e : sv.ownBlock = some j) : j < n0 := by
  rcases h with ⟨a, c, -, rfl⟩ | ⟨pb, po, pc, rfl, hlt, -⟩
  · exact absurd rfl hz
  · have : pb = j := by cases po <;> (cases e; rfl)
    omega

theorem marks_all (zs : List Int) : (zs ++ marks 64).length = zs.length + 64 := by rw [List.length_append, marks_len]

set_option maxRecDepth 100000 in
set_option maxHeartbeats 2000000 in
theorem frames_live0 (w0 w : World) (wb : Nat) (N : Nat) (hN : N ≤ 2000000) (ob : Nat) (x : Obj) (hst : StP w0 wb N ob x w) (o : OpR) (hk : o.kind = 9) :
    Calls Try.prog 16 #[ptr wb, opV o, vI 0] w fun e w' => e = .returned (.bool true) ∧ StP w0 wb (N + 1) ob x w' := by
  have HST : Hd (StP w0 wb N ob x (w.alloc (.cells (opC o) 31))) := hst.keep (Fr.alloc (Fr.refl _ w) _)
  have HB : Hd _ := heap_alloc_last w (.cells (opC o) 31)
  obtain ⟨pb, rb, pg, rg, pa, ra, lv, mv, us, us', h, -⟩ := HST.out
  obtain ⟨c0, c1, c2, c3, -, -⟩ := h.heads
  obtain ⟨p0, -, p2, p3, p4, p5, p6, p7, p8⟩ := op_cells HB.out
  rw [hk] at p0
  clear h hst
  go_enter Try.func16, Try.ntmps16
  go_wp2_with fail
  clear p0 p2 p3 p4 p5 p6 p7 p8 c0 c1 c2 c3 HB
  generalize w.alloc (.cells (opC o) 31) = w1 at *
  refine (show Calls Try.prog 30 #[ptr wb, vI 0] w1 _ from lives0 w0 w1 wb N hN ob x HST.out).mono ?_
  rintro e w2 ⟨rfl, hs⟩
  have HS : Hd _ := hs
  clear hs
  go_wp2_with fail
  go_ret
  exact ⟨by simp, HS.out⟩

set_option maxRecDepth 100000 in
set_option maxHeartbeats 4000000 in
theorem frames_drop0 (w0 w : World) (wb : Nat) (N : Nat) (hN : N ≤ 2000000) (op : Nat) (x : Obj) (hst : StP w0 wb N op x w) (o : OpR) (hk : o.kind = 10) (zs : List Int) (hI : IntsAt w0.heap.size w0 o.cells zs) (hz : zs.length ≤ 2000000) :
    Calls Try.prog 16 #[ptr wb, opV o, vI 0] w fun e w' => e = .returned (.bool true) ∧ StP w0 wb (N + 1) op x w' := by
  obtain ⟨pb, rb, pg, rg, pa, ra, lv, mv, us, us', h, hR, hU, hP, hT⟩ := hst
  have HR : Hd _ := hR
  have hU2 : us.length ≤ 100000000 := by omega
  have HU : Hd _ := hU
  have HP : Hd _ := hP
  have HV : Hd _ := hT.keep (Fr.alloc (Fr.refl _ w) (.cells (opC o) 31))
  have hopw : op < w.heap.size := heap_lt hT.a
  have hcl : o.cl = zs.length := by
    obtain ⟨a, c, e, -⟩ := IntsAt.shape hI
    change Value.slice o.ca o.cl o.cc = _ at e
    injection e
  have HIF : Hd (∀ w' : World, Fr (fun _ => False) w0 w' → IntsAt w'.heap.size w' o.cells zs) := fun w' f => hI.fr f (fun _ _ e => e)
  have HIB : Hd (zs ≠ [] → ∀ j, o.cells.ownBlock = some j → j < w0.heap.size) := fun hne j e => hI.blk hne e
  have hF : Fr (fun _ => False) w (w.alloc (.cells (opC o) 31)) := Fr.alloc (Fr.refl _ w) _
  have HW : Hd _ := h.keep hF
  have HB : Hd _ := heap_alloc_last w (.cells (opC o) 31)
  have hs0 : w0.heap.size ≤ w.heap.size := h.fr.size
  have HZr : Hd (∀ k, w.heap.size ≤ k → Own0 wb pg rg k) := fun k hk => ⟨fun e => by have := heap_lt h.blk; omega, fun i hi => ⟨h.zero.1 i hi k hk, h.zero.2 i hi k hk⟩⟩
  have HLt : Hd (∀ k, (k = wb ∨ LsB lv us k ∨ LsB mv us' k) → k < w.heap.size) := fun k hk => h.ltW hk
  clear h hF hR hU hP hI hT
  obtain ⟨c0, c1, c2, c3, -, -⟩ := HW.out.heads
  obtain ⟨p0, -, p2, p3, p4, p5, p6, p7, p8⟩ := op_cells HB.out
  rw [hk] at p0
  go_enter Try.func16, Try.ntmps16
  go_wp2_with fail
  clear p0 p2 p3 p4 p5 p6 p7 p8 c0 c1 c2 c3
  have hs1 : w.heap.size < (w.alloc (.cells (opC o) 31)).heap.size := by simp
  obtain ⟨ob, hoe⟩ : ∃ ob, ob = w.heap.size := ⟨_, rfl⟩
  have HOB : Hd (Own0 wb pg rg ob) := HZr.out ob (by omega)
  have hobg : ob < (w.alloc (.cells (opC o) 31)).heap.size := by omega
  rw [← hoe] at HB ⊢
  generalize w.alloc (.cells (opC o) 31) = w1 at *
  clear hoe
  refine (show Calls Try.prog 31 #[o.cells] w1 _ from ints_any o.cells zs w1 (HIF.out w1 HW.out.fr) (by omega)).mono ?_
  rintro e w2 ⟨l, rfl, hl, hF2⟩
  obtain ⟨la, lcap, rfl, hlc, hla⟩ := row_shape hl
  obtain ⟨g, rfl⟩ := hla (by omega)
  have hg1 : w1.heap.size ≤ g := (World.ownsRow.lt hl g rfl).1
  have hgop : g ≠ op := by omega
  have HL2 : Hd (w2.ownsRow w0.heap.size 3 1 (.slice (some ⟨g, 0, none⟩) (zs.length + 64) lcap) (zs.length + 64) ((zs ++ marks 64).map vI)) := World.ownsRow.mono hl (by omega)
  have HW2 : Hd _ := HW.out.keep hF2
  have HV2 : Hd _ := HV.out.keep hF2
  have HB2 : Hd _ := (hF2.block _ (heap_lt HB.out) (fun h => h)).trans HB.out
  clear hl hF2 HW HB hla
  obtain ⟨-, -, -, -, -, -, -, -, p8⟩ := op_cells HB2.out
  have hcap : (zs.length : Int) ≤ lcap := by omega
  have hcap2 : zs.length ≤ lcap := by omega
  change _ = some (Value.slice o.ca o.cl o.cc) at p8
  rw [hcl] at p8
  have HGZ : Hd (Own0 wb pg rg g ∧ ¬ LsB lv us g ∧ ¬ LsB mv us' g) := ⟨HZr.out g (by omega), fun e2 => by have := HLt.out g (Or.inr (Or.inl e2)); omega, fun e2 => by have := HLt.out g (Or.inr (Or.inr e2)); omega⟩
  have HI2 : Hd (IntsAt w2.heap.size w2 (.slice (some ⟨g, 0, none⟩) zs.length lcap) zs) := by
    have h1 := HL2.out
    rw [List.map_append] at h1
    exact IntsAt.of_row (row_prefix h1 (by simp))
  go_wp2_with fail
  clear p8
  refine (show Calls Try.prog 32 #[ptr (pb 0), .slice (some ⟨g, 0, none⟩) zs.length lcap] w2 _ from drop_any (pb 0) (pg 0) (pa 0) (some ⟨g, 0, none⟩) lcap zs w2 (HW2.out.pm 0 (by omega)) HI2.out (fun _ j e => by cases e; exact (HGZ.out.1.2 0 (by omega)).1) (by omega) ((HR.out 0 (by omega)).1.fine (HR.out 0 (by omega)).2) (by omega)).mono ?_
  rintro e w3 ⟨g3, rfl, hM3, hF3, hE3⟩
  have hg2 : g < w2.heap.size := (World.ownsRow.lt HL2.out g rfl).2
  have hob2 : ob < w2.heap.size := heap_lt HB2.out
  have HW3 : Hd _ := HW2.out.pcall (i := 0) (by omega) hM3 hF3 hE3
  have HV3 : Hd _ := HV2.out.pcall (i := 0) (by omega) hF3 hE3
  have HL3 : Hd _ := ownsRow_fr HL2.out hF3 (fun j e e2 => by cases e; exact e2 (HGZ.out.1.2 0 (by omega)).1)
  have HB3 : Hd _ := (hF3.block _ hob2 (fun e2 => e2 (HOB.out.2 0 (by omega)).1)).trans HB2.out
  have HE3 : Hd (g3.own g = 0) := (hE3 g hg2).trans (HGZ.out.1.2 0 (by omega)).1
  clear hM3 hF3 hE3 HW2 HL2 HB2 HI2
  obtain ⟨-, -, -, -, -, -, -, -, p8⟩ := op_cells HB3.out
  go_wp2_with fail
  clear p8
  refine (show Calls Try.prog 33 #[rptr (rb 0), o.cells] w3 _ from rdrop_any (rb 0) (rg 0) (ra 0) o.cells zs w3 (HW3.out.rm 0 (by omega)) (HIF.out w3 HW3.out.fr) (fun hne j e => by
      have h1 := HIB.out hne j e
      by_cases e2 : (rg 0).own j = 0
      · exact e2
      · have := HW3.out.rn 0 (by omega) j e2; omega) (by have := (HR.out 0 (by omega)).2.cells; omega) (by omega)).mono ?_
  rintro e w4 ⟨rfl, hM4, hF4⟩
  have HW4 : Hd _ := HW3.out.rcall (i := 0) (by omega) hM4 hF4 (fun _ _ => rfl)
  have HV4 : Hd _ := HV3.out.rcall (i := 0) (g2 := rg 0) (by omega) hF4 (fun _ _ => rfl)
  have HL4 : Hd _ := ownsRow_fr HL3.out hF4 (fun j e e2 => by cases e; exact e2 (HGZ.out.1.2 0 (by omega)).2)
  have HB4 : Hd _ := (hF4.block _ (heap_lt HB3.out) (fun e2 => e2 (HOB.out.2 0 (by omega)).2)).trans HB3.out
  obtain ⟨he, hr⟩ := (HR.out 0 (by omega)).1.drop zs
  rw [he]
  have HR4 : Hd _ := hr
  clear he hr hM4 hF4 HW3 HL3 HB3
  obtain ⟨-, -, -, -, -, -, -, -, p8⟩ := op_cells HB4.out
  go_wp2_with fail
  clear p8
  refine (show Calls Try.prog 31 #[o.cells] w4 _ from ints_any o.cells zs w4 (HIF.out w4 HW4.out.fr) (by omega)).mono ?_
  rintro e w5 ⟨l5, rfl, hl5, hF5⟩
  have HM5 : Hd (IntsAt w5.heap.size w5 l5 (zs ++ marks 64)) := IntsAt.of_row (by rw [marks_all]; exact hl5)
  have HL5 : Hd _ := ownsRow_fr HL4.out hF5 (fun _ _ e => e)
  have HI5 : Hd (IntsAt w5.heap.size w5 (.slice (some ⟨g, 0, none⟩) (zs.length + 64) lcap) (zs ++ marks 64)) := IntsAt.of_row (by rw [marks_all]; exact HL5.out)
  have HW5 : Hd _ := HW4.out.keep hF5
  have HV5 : Hd _ := HV4.out.keep hF5
  have HB5 : Hd _ := (hF5.block _ (heap_lt HB4.out) (fun e => e)).trans HB4.out
  clear hl5 hF5 HW4 HL4 HB4
  go_wp2_with fail
  refine (show Calls Try.prog 19 #[.slice (some ⟨g, 0, none⟩) (zs.length + 64) lcap, l5] w5 _ from eqInts_same _ l5 (zs ++ marks 64) w5 HI5.out HM5.out (by rw [marks_all]; omega)).mono ?_
  rintro e w6 ⟨rfl, hF6⟩
  have HL6 : Hd _ := ownsRow_fr HL5.out hF6 (fun _ _ e => e)
  have HW6 : Hd _ := HW5.out.keep hF6
  have HV6 : Hd _ := HV5.out.keep hF6
  have HB6 : Hd _ := (hF6.block _ (heap_lt HB5.out) (fun e => e)).trans HB5.out
  clear hF6 HW5 HL5 HB5 HI5 HM5
  obtain ⟨-, -, -, -, -, -, -, -, p8⟩ := op_cells HB6.out
  change _ = some (Value.slice o.ca o.cl o.cc) at p8
  rw [hcl] at p8
  have HO6 : Hd (Own0 wb (at1 pg 0 g3) (at1 rg 0 (rg 0)) g) := by
    refine ⟨HGZ.out.1.1, fun i hi => ⟨?_, ?_⟩⟩
    · by_cases e : i = 0
      · subst e; rw [at1_self]; exact HE3.out
      · rw [at1_ne _ _ e]; exact (HGZ.out.1.2 i hi).1
    · by_cases e : i = 0
      · subst e; rw [at1_self]; exact (HGZ.out.1.2 0 (by omega)).2
      · rw [at1_ne _ _ e]; exact (HGZ.out.1.2 i hi).2
  have HL6' : Hd (w6.ownsRow w0.heap.size 3 1 (.slice (some ⟨g, 0, none⟩) (zs.length + (marks 64).length) lcap) (zs.length + (marks 64).length) ((zs ++ marks 64).map vI)) := by unfold Hd; rw [marks_len]; exact HL6.out
  have HB7 : Hd (RB N (rdropX (ra 0) zs).1) := (HR.out 0 (by omega)).2.drop zs
  go_wp2_with fail
  clear p8 HB6
  refine (show Calls Try.prog 34 #[ptr wb, .slice (some ⟨g, 0, none⟩) zs.length lcap, vI 0] w6 _ from again0 w0 w6 wb pb rb _ _ _ _ lv mv us us' HW6.out N hN HR4.out HB7.out zs (marks 64) g lcap HL6'.out ⟨HO6.out, HGZ.out.2⟩ hz op x HV6.out (by omega)).mono ?_
  rintro e w7 ⟨rfl, pg7, rg7, hW7, hR7, hB7, hL7, hO7, hV7⟩
  have HW7 : Hd _ := hW7
  have HR7 : Hd _ := hR7
  have HB7' : Hd _ := hB7
  have HL7 : Hd _ := hL7
  have HO7 : Hd _ := hO7
  have HV7 : Hd _ := hV7
  clear hW7 hR7 hB7 hL7 hO7 hV7 HW6 HL6 HL6'
  go_wp2_with fail
  have hfl : (zs.map fx ++ marks 64).length = zs.length + 64 := by rw [List.length_append, marks_len, List.length_map]
  have HL8 : Hd (w7.ownsRow w0.heap.size 3 1 (.slice (some ⟨g, 0, none⟩) (zs.length + 64) lcap) (zs.map fx ++ marks 64).length ((zs.map fx ++ marks 64).map vI)) := by
    have := HL7.out
    rw [marks_len] at this
    unfold Hd
    rw [hfl]
    exact this
  refine (show Calls Try.prog 35 #[ptr wb, .slice (some ⟨g, 0, none⟩) (zs.length + 64) lcap] w7 _ from keep_any w0 w7 wb pb rb pg7 rg7 _ _ lv mv us us' HW7.out _ (zs.map fx ++ marks 64) HL8.out (fun j e => by cases e; exact ⟨HO7.out, HGZ.out.2⟩) hU2 (by omega)).mono ?_
  rintro e w8 ⟨rfl, lv2, mv2, us2, us2', hW8, hU8, hP8, hF8, hS8⟩
  have HW8 : Hd _ := hW8
  have HV8 : Hd (Pt op x wb pg7 rg7 lv2 mv2 us2 us2' w8) := HV7.out.kept (lv2 := lv2) (mv2 := mv2) (us2 := us2) (us2' := us2') hF8 (fun e => hgop (by cases e; rfl)) hS8
  have HU8 : Hd _ := hU8
  have HP8 : Hd _ := hP8
  clear hW8 hU8 hP8 hF8 hS8 HW7 HL7 HL8
  go_wp2_with fail
  go_ret
  refine ⟨by simp, pb, rb, pg7, rg7, _, _, lv2, mv2, us2, us2', HW8.out, at1_all (P := fun a r => Rel a r ∧ RB (N + 1) r) (at1_all (P := fun a r => Rel a r ∧ RB (N + 1) r) (fun i hi => ⟨(HR.out i hi).1, (HR.out i hi).2.mono (by omega)⟩) ⟨HR4.out, HB7.out.mono (by omega)⟩) ⟨HR7.out, RB.mono HB7'.out (by omega)⟩, ?_, fun p hp => ?_, HV8.out⟩
  · have e2 : us2.length = us.length + 2 := HU8.out
    have e3 : us.length ≤ 4 * N := HU.out
    omega
  · rcases HP8.out p hp with hp | hp
    · exact HP.out p hp
    · rw [hfl] at hp; omega

set_option maxRecDepth 100000 in
set_option maxHeartbeats 2000000 in
theorem frames_live1 (w0 w : World) (wb : Nat) (N : Nat) (hN : N ≤ 2000000) (ob : Nat) (x : Obj) (hst : StP w0 wb N ob x w) (o : OpR) (hk : o.kind = 9) :
    Calls Try.prog 16 #[ptr wb, opV o, vI 1] w fun e w' => e = .returned (.bool true) ∧ StP w0 wb (N + 1) ob x w' := by
  have HST : Hd (StP w0 wb N ob x (w.alloc (.cells (opC o) 31))) := hst.keep (Fr.alloc (Fr.refl _ w) _)
  have HB : Hd _ := heap_alloc_last w (.cells (opC o) 31)
  obtain ⟨pb, rb, pg, rg, pa, ra, lv, mv, us, us', h, -⟩ := HST.out
  obtain ⟨c0, c1, c2, c3, -, -⟩ := h.heads
  obtain ⟨p0, -, p2, p3, p4, p5, p6, p7, p8⟩ := op_cells HB.out
  rw [hk] at p0
  clear h hst
  go_enter Try.func16, Try.ntmps16
  go_wp2_with fail
  clear p0 p2 p3 p4 p5 p6 p7 p8 c0 c1 c2 c3 HB
  generalize w.alloc (.cells (opC o) 31) = w1 at *
  refine (show Calls Try.prog 30 #[ptr wb, vI 1] w1 _ from lives1 w0 w1 wb N hN ob x HST.out).mono ?_
  rintro e w2 ⟨rfl, hs⟩
  have HS : Hd _ := hs
  clear hs
  go_wp2_with fail
  go_ret
  exact ⟨by simp, HS.out⟩

set_option maxRecDepth 100000 in
set_option maxHeartbeats 4000000 in
theorem frames_drop1 (w0 w : World) (wb : Nat) (N : Nat) (hN : N ≤ 2000000) (op : Nat) (x : Obj) (hst : StP w0 wb N op x w) (o : OpR) (hk : o.kind = 10) (zs : List Int) (hI : IntsAt w0.heap.size w0 o.cells zs) (hz : zs.length ≤ 2000000) :
    Calls Try.prog 16 #[ptr wb, opV o, vI 1] w fun e w' => e = .returned (.bool true) ∧ StP w0 wb (N + 1) op x w' := by
  obtain ⟨pb, rb, pg, rg, pa, ra, lv, mv, us, us', h, hR, hU, hP, hT⟩ := hst
  have HR : Hd _ := hR
  have hU2 : us.length ≤ 100000000 := by omega
  have HU : Hd _ := hU
  have HP : Hd _ := hP
  have HV : Hd _ := hT.keep (Fr.alloc (Fr.refl _ w) (.cells (opC o) 31))
  have hopw : op < w.heap.size := heap_lt hT.a
  have hcl : o.cl = zs.length := by
    obtain ⟨a, c, e, -⟩ := IntsAt.shape hI
    change Value.slice o.ca o.cl o.cc = _ at e
    injection e
  have HIF : Hd (∀ w' : World, Fr (fun _ => False) w0 w' → IntsAt w'.heap.size w' o.cells zs) := fun w' f => hI.fr f (fun _ _ e => e)
  have HIB : Hd (zs ≠ [] → ∀ j, o.cells.ownBlock = some j → j < w0.heap.size) := fun hne j e => hI.blk hne e
  have hF : Fr (fun _ => False) w (w.alloc (.cells (opC o) 31)) := Fr.alloc (Fr.refl _ w) _
  have HW : Hd _ := h.keep hF
  have HB : Hd _ := heap_alloc_last w (.cells (opC o) 31)
  have hs0 : w0.heap.size ≤ w.heap.size := h.fr.size
  have HZr : Hd (∀ k, w.heap.size ≤ k → Own0 wb pg rg k) := fun k hk => ⟨fun e => by have := heap_lt h.blk; omega, fun i hi => ⟨h.zero.1 i hi k hk, h.zero.2 i hi k hk⟩⟩
  have HLt : Hd (∀ k, (k = wb ∨ LsB lv us k ∨ LsB mv us' k) → k < w.heap.size) := fun k hk => h.ltW hk
  clear h hF hR hU hP hI hT
  obtain ⟨c0, c1, c2, c3, -, -⟩ := HW.out.heads
  obtain ⟨p0, -, p2, p3, p4, p5, p6, p7, p8⟩ := op_cells HB.out
  rw [hk] at p0
  go_enter Try.func16, Try.ntmps16
  go_wp2_with fail
  clear p0 p2 p3 p4 p5 p6 p7 p8 c0 c1 c2 c3
  have hs1 : w.heap.size < (w.alloc (.cells (opC o) 31)).heap.size := by simp
  obtain ⟨ob, hoe⟩ : ∃ ob, ob = w.heap.size := ⟨_, rfl⟩
  have HOB : Hd (Own0 wb pg rg ob) := HZr.out ob (by omega)
  have hobg : ob < (w.alloc (.cells (opC o) 31)).heap.size := by omega
  rw [← hoe] at HB ⊢
  generalize w.alloc (.cells (opC o) 31) = w1 at *
  clear hoe
  refine (show Calls Try.prog 31 #[o.cells] w1 _ from ints_any o.cells zs w1 (HIF.out w1 HW.out.fr) (by omega)).mono ?_
  rintro e w2 ⟨l, rfl, hl, hF2⟩
  obtain ⟨la, lcap, rfl, hlc, hla⟩ := row_shape hl
  obtain ⟨g, rfl⟩ := hla (by omega)
  have hg1 : w1.heap.size ≤ g := (World.ownsRow.lt hl g rfl).1
  have hgop : g ≠ op := by omega
  have HL2 : Hd (w2.ownsRow w0.heap.size 3 1 (.slice (some ⟨g, 0, none⟩) (zs.length + 64) lcap) (zs.length + 64) ((zs ++ marks 64).map vI)) := World.ownsRow.mono hl (by omega)
  have HW2 : Hd _ := HW.out.keep hF2
  have HV2 : Hd _ := HV.out.keep hF2
  have HB2 : Hd _ := (hF2.block _ (heap_lt HB.out) (fun h => h)).trans HB.out
  clear hl hF2 HW HB hla
  obtain ⟨-, -, -, -, -, -, -, -, p8⟩ := op_cells HB2.out
  have hcap : (zs.length : Int) ≤ lcap := by omega
  have hcap2 : zs.length ≤ lcap := by omega
  change _ = some (Value.slice o.ca o.cl o.cc) at p8
  rw [hcl] at p8
  have HGZ : Hd (Own0 wb pg rg g ∧ ¬ LsB lv us g ∧ ¬ LsB mv us' g) := ⟨HZr.out g (by omega), fun e2 => by have := HLt.out g (Or.inr (Or.inl e2)); omega, fun e2 => by have := HLt.out g (Or.inr (Or.inr e2)); omega⟩
  have HI2 : Hd (IntsAt w2.heap.size w2 (.slice (some ⟨g, 0, none⟩) zs.length lcap) zs) := by
    have h1 := HL2.out
    rw [List.map_append] at h1
    exact IntsAt.of_row (row_prefix h1 (by simp))
  go_wp2_with fail
  clear p8
  refine (show Calls Try.prog 32 #[ptr (pb 1), .slice (some ⟨g, 0, none⟩) zs.length lcap] w2 _ from drop_any (pb 1) (pg 1) (pa 1) (some ⟨g, 0, none⟩) lcap zs w2 (HW2.out.pm 1 (by omega)) HI2.out (fun _ j e => by cases e; exact (HGZ.out.1.2 1 (by omega)).1) (by omega) ((HR.out 1 (by omega)).1.fine (HR.out 1 (by omega)).2) (by omega)).mono ?_
  rintro e w3 ⟨g3, rfl, hM3, hF3, hE3⟩
  have hg2 : g < w2.heap.size := (World.ownsRow.lt HL2.out g rfl).2
  have hob2 : ob < w2.heap.size := heap_lt HB2.out
  have HW3 : Hd _ := HW2.out.pcall (i := 1) (by omega) hM3 hF3 hE3
  have HV3 : Hd _ := HV2.out.pcall (i := 1) (by omega) hF3 hE3
  have HL3 : Hd _ := ownsRow_fr HL2.out hF3 (fun j e e2 => by cases e; exact e2 (HGZ.out.1.2 1 (by omega)).1)
  have HB3 : Hd _ := (hF3.block _ hob2 (fun e2 => e2 (HOB.out.2 1 (by omega)).1)).trans HB2.out
  have HE3 : Hd (g3.own g = 0) := (hE3 g hg2).trans (HGZ.out.1.2 1 (by omega)).1
  clear hM3 hF3 hE3 HW2 HL2 HB2 HI2
  obtain ⟨-, -, -, -, -, -, -, -, p8⟩ := op_cells HB3.out
  go_wp2_with fail
  clear p8
  refine (show Calls Try.prog 33 #[rptr (rb 1), o.cells] w3 _ from rdrop_any (rb 1) (rg 1) (ra 1) o.cells zs w3 (HW3.out.rm 1 (by omega)) (HIF.out w3 HW3.out.fr) (fun hne j e => by
      have h1 := HIB.out hne j e
      by_cases e2 : (rg 1).own j = 0
      · exact e2
      · have := HW3.out.rn 1 (by omega) j e2; omega) (by have := (HR.out 1 (by omega)).2.cells; omega) (by omega)).mono ?_
  rintro e w4 ⟨rfl, hM4, hF4⟩
  have HW4 : Hd _ := HW3.out.rcall (i := 1) (by omega) hM4 hF4 (fun _ _ => rfl)
  have HV4 : Hd _ := HV3.out.rcall (i := 1) (g2 := rg 1) (by omega) hF4 (fun _ _ => rfl)
  have HL4 : Hd _ := ownsRow_fr HL3.out hF4 (fun j e e2 => by cases e; exact e2 (HGZ.out.1.2 1 (by omega)).2)
  have HB4 : Hd _ := (hF4.block _ (heap_lt HB3.out) (fun e2 => e2 (HOB.out.2 1 (by omega)).2)).trans HB3.out
  obtain ⟨he, hr⟩ := (HR.out 1 (by omega)).1.drop zs
  rw [he]
  have HR4 : Hd _ := hr
  clear he hr hM4 hF4 HW3 HL3 HB3
  obtain ⟨-, -, -, -, -, -, -, -, p8⟩ := op_cells HB4.out
  go_wp2_with fail
  clear p8
  refine (show Calls Try.prog 31 #[o.cells] w4 _ from ints_any o.cells zs w4 (HIF.out w4 HW4.out.fr) (by omega)).mono ?_
  rintro e w5 ⟨l5, rfl, hl5, hF5⟩
  have HM5 : Hd (IntsAt w5.heap.size w5 l5 (zs ++ marks 64)) := IntsAt.of_row (by rw [marks_all]; exact hl5)
  have HL5 : Hd _ := ownsRow_fr HL4.out hF5 (fun _ _ e => e)
  have HI5 : Hd (IntsAt w5.heap.size w5 (.slice (some ⟨g, 0, none⟩) (zs.length + 64) lcap) (zs ++ marks 64)) := IntsAt.of_row (by rw [marks_all]; exact HL5.out)
  have HW5 : Hd _ := HW4.out.keep hF5
  have HV5 : Hd _ := HV4.out.keep hF5
  have HB5 : Hd _ := (hF5.block _ (heap_lt HB4.out) (fun e => e)).trans HB4.out
  clear hl5 hF5 HW4 HL4 HB4
  go_wp2_with fail
  refine (show Calls Try.prog 19 #[.slice (some ⟨g, 0, none⟩) (zs.length + 64) lcap, l5] w5 _ from eqInts_same _ l5 (zs ++ marks 64) w5 HI5.out HM5.out (by rw [marks_all]; omega)).mono ?_
  rintro e w6 ⟨rfl, hF6⟩
  have HL6 : Hd _ := ownsRow_fr HL5.out hF6 (fun _ _ e => e)
  have HW6 : Hd _ := HW5.out.keep hF6
  have HV6 : Hd _ := HV5.out.keep hF6
  have HB6 : Hd _ := (hF6.block _ (heap_lt HB5.out) (fun e => e)).trans HB5.out
  clear hF6 HW5 HL5 HB5 HI5 HM5
  obtain ⟨-, -, -, -, -, -, -, -, p8⟩ := op_cells HB6.out
  change _ = some (Value.slice o.ca o.cl o.cc) at p8
  rw [hcl] at p8
  have HO6 : Hd (Own0 wb (at1 pg 1 g3) (at1 rg 1 (rg 1)) g) := by
    refine ⟨HGZ.out.1.1, fun i hi => ⟨?_, ?_⟩⟩
    · by_cases e : i = 1
      · subst e; rw [at1_self]; exact HE3.out
      · rw [at1_ne _ _ e]; exact (HGZ.out.1.2 i hi).1
    · by_cases e : i = 1
      · subst e; rw [at1_self]; exact (HGZ.out.1.2 1 (by omega)).2
      · rw [at1_ne _ _ e]; exact (HGZ.out.1.2 i hi).2
  have HL6' : Hd (w6.ownsRow w0.heap.size 3 1 (.slice (some ⟨g, 0, none⟩) (zs.length + (marks 64).length) lcap) (zs.length + (marks 64).length) ((zs ++ marks 64).map vI)) := by unfold Hd; rw [marks_len]; exact HL6.out
  have HB7 : Hd (RB N (rdropX (ra 1) zs).1) := (HR.out 1 (by omega)).2.drop zs
  go_wp2_with fail
  clear p8 HB6
  refine (show Calls Try.prog 34 #[ptr wb, .slice (some ⟨g, 0, none⟩) zs.length lcap, vI 1] w6 _ from again1 w0 w6 wb pb rb _ _ _ _ lv mv us us' HW6.out N hN HR4.out HB7.out zs (marks 64) g lcap HL6'.out ⟨HO6.out, HGZ.out.2⟩ hz op x HV6.out (by omega)).mono ?_
  rintro e w7 ⟨rfl, pg7, rg7, hW7, hR7, hB7, hL7, hO7, hV7⟩
  have HW7 : Hd _ := hW7
  have HR7 : Hd _ := hR7
  have HB7' : Hd _ := hB7
  have HL7 : Hd _ := hL7
  have HO7 : Hd _ := hO7
  have HV7 : Hd _ := hV7
  clear hW7 hR7 hB7 hL7 hO7 hV7 HW6 HL6 HL6'
  go_wp2_with fail
  have hfl : (zs.map fx ++ marks 64).length = zs.length + 64 := by rw [List.length_append, marks_len, List.length_map]
  have HL8 : Hd (w7.ownsRow w0.heap.size 3 1 (.slice (some ⟨g, 0, none⟩) (zs.length + 64) lcap) (zs.map fx ++ marks 64).length ((zs.map fx ++ marks 64).map vI)) := by
    have := HL7.out
    rw [marks_len] at this
    unfold Hd
    rw [hfl]
    exact this
  refine (show Calls Try.prog 35 #[ptr wb, .slice (some ⟨g, 0, none⟩) (zs.length + 64) lcap] w7 _ from keep_any w0 w7 wb pb rb pg7 rg7 _ _ lv mv us us' HW7.out _ (zs.map fx ++ marks 64) HL8.out (fun j e => by cases e; exact ⟨HO7.out, HGZ.out.2⟩) hU2 (by omega)).mono ?_
  rintro e w8 ⟨rfl, lv2, mv2, us2, us2', hW8, hU8, hP8, hF8, hS8⟩
  have HW8 : Hd _ := hW8
  have HV8 : Hd (Pt op x wb pg7 rg7 lv2 mv2 us2 us2' w8) := HV7.out.kept (lv2 := lv2) (mv2 := mv2) (us2 := us2) (us2' := us2') hF8 (fun e => hgop (by cases e; rfl)) hS8
  have HU8 : Hd _ := hU8
  have HP8 : Hd _ := hP8
  clear hW8 hU8 hP8 hF8 hS8 HW7 HL7 HL8
  go_wp2_with fail
  go_ret
  refine ⟨by simp, pb, rb, pg7, rg7, _, _, lv2, mv2, us2, us2', HW8.out, at1_all (P := fun a r => Rel a r ∧ RB (N + 1) r) (at1_all (P := fun a r => Rel a r ∧ RB (N + 1) r) (fun i hi => ⟨(HR.out i hi).1, (HR.out i hi).2.mono (by omega)⟩) ⟨HR4.out, HB7.out.mono (by omega)⟩) ⟨HR7.out, RB.mono HB7'.out (by omega)⟩, ?_, fun p hp => ?_, HV8.out⟩
  · have e2 : us2.length = us.length + 2 := HU8.out
    have e3 : us.length ≤ 4 * N := HU.out
    omega
  · rcases HP8.out p hp with hp | hp
    · exact HP.out p hp
    · rw [hfl] at hp; omega

end Go.Proofs.Ytmdlebolmhnhaab
