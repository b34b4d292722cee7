import Derived.Test.YtjmbfjaahadbhaaGreatDoorQKb
set_option linter.unusedVariables false
set_option linter.unusedSimpArgs false
namespace Go.Proofs.YtjmbfjaahadbhaaGreatDoor
open Go.RowKit (wrap32 wrap64)

def varsE (V : Int) : List Int → Int → Int
  | [], E => E
  | v :: r, E => varsE V r (mustE (varB V v) 13 E)
/-- What a list comes to. -/
def listE (m V : Int) (l : List Int) (E : Int) : Int := if E = 0 then varsE V l (mustE ((l.length : Int) == m) 15 E) else E

set_option maxRecDepth 100000 in
set_option maxHeartbeats 4000000 in
theorem rlist_A (rb : Nat) (G : Int) (fv : Value) (w : World) (L E : Int) (h : RW rb G fv w L E) (P R V : Int) (a : Option Addr) (fl c : Nat) (op zr zs zt zn : Int) (aa ra : Option Addr) (ca cr : Nat) (lr : Nat) (l : List Int) (hll : l.length ≤ 1000000000000000) (m : Int)
    (hIL : l ≠ [] → ∃ k o, aa = some ⟨k, o, none⟩ ∧ k < w.heap.size ∧ k ≠ rb ∧ ∀ j (h : j < l.length), w.cell? ⟨k, o + j, none⟩ = some (vI l[j]))
    (hw : E = 0 → ∀ w', Fr (fun _ => False) w w' → Calls Tryz.prog 95 #[.pointer (some ⟨rb, 0, none⟩), .int .u8 65, .agg #[vI P, vI R, vI V, .slice a fl c], .agg #[vI op, vI zr, vI zs, vI zt, vI zn, .slice aa l.length ca, .slice ra lr cr]] w' fun r w'' => r = .returned (vI m) ∧ Fr (fun _ => False) w' w'') :
    Calls Tryz.prog 73 #[.pointer (some ⟨rb, 0, none⟩), .int .u8 65, .agg #[vI P, vI R, vI V, .slice a fl c], .agg #[vI op, vI zr, vI zs, vI zt, vI zn, .slice aa l.length ca, .slice ra lr cr]] w fun r w' => r = .returned (.tuple #[]) ∧ RW rb G fv w' L (listE m V l E) ∧ Fr (fun k => k = rb) w w' := by
  have hrb : rb < w.heap.size := h.cells.2.2.2.2.2
  have hf1 : Fr (fun _ => False) w ((w.alloc (.cells #[vI P, vI R, vI V, .slice a fl c] 41)).alloc (.cells #[vI op, vI zr, vI zs, vI zt, vI zn, .slice aa l.length ca, .slice ra lr cr] 43)) := Fr.alloc (Fr.alloc (Fr.refl _ _) _) _
  have h1 : RW rb G fv ((w.alloc (.cells #[vI P, vI R, vI V, .slice a fl c] 41)).alloc (.cells #[vI op, vI zr, vI zs, vI zt, vI zn, .slice aa l.length ca, .slice ra lr cr] 43)) L E := h.fr hf1 (fun h => h)
  have hxa : ((w.alloc (.cells #[vI P, vI R, vI V, .slice a fl c] 41)).alloc (.cells #[vI op, vI zr, vI zs, vI zt, vI zn, .slice aa l.length ca, .slice ra lr cr] 43)).heap[w.heap.size]? = some (.cells #[vI P, vI R, vI V, .slice a fl c] 41) := by
    rw [Go.RowKit.Below.heap_alloc _ _ _ (by simp)]; exact heap_alloc_last w _
  have HIL : Hd _ := hIL
  have hsz : w.heap.size < ((w.alloc (.cells #[vI P, vI R, vI V, .slice a fl c] 41)).alloc (.cells #[vI op, vI zr, vI zs, vI zt, vI zn, .slice aa l.length ca, .slice ra lr cr] 43)).heap.size := by simp; omega
  obtain ⟨-, -, -, c3, hz, hlt⟩ := h1.cells
  by_cases hE : E = 0
  rotate_left
  · have hE' : (E == 0) = false := by simpa using hE
    have hr : Hd (listE m V l E = E) := by unfold Hd listE; rw [if_neg hE]
    have H1 : Hd (RW rb G fv ((w.alloc (.cells #[vI P, vI R, vI V, .slice a fl c] 41)).alloc (.cells #[vI op, vI zr, vI zs, vI zt, vI zn, .slice aa l.length ca, .slice ra lr cr] 43)) L E) := h1
    clear h hIL hw h1 hxa
    go_enter Tryz.func73, Tryz.ntmps73
    go_wp2_with fail
    (try simp only [Exit.inBlock, Exit.then])
    refine bodyPost_ret (results_none rfl _ _ _) rfl ?_
    exact ⟨rfl, by rw [hr.out]; exact H1.out, hf1.mono (fun _ _ h => h.elim)⟩
  subst hE
  have hcall := hw rfl _ hf1
  have H1 : Hd (RW rb G fv ((w.alloc (.cells #[vI P, vI R, vI V, .slice a fl c] 41)).alloc (.cells #[vI op, vI zr, vI zs, vI zt, vI zn, .slice aa l.length ca, .slice ra lr cr] 43)) L 0) := h1
  have HXA : Hd _ := hxa
  clear h hIL hw h1 hxa
  go_enter Tryz.func73, Tryz.ntmps73
  go_wp2_with fail
  refine hcall.mono ?_
  rintro e w2 ⟨rfl, hf2⟩
  clear hcall
  have h2 : RW rb G fv w2 L 0 := RW.fr H1.out hf2 (fun h => h)
  go_wp2_with fail
  refine (rmust rb G fv w2 L 0 h2 ((l.length : Int) == m) 15).mono ?_
  rintro e w3 ⟨rfl, h3, hf3⟩
  have hf03 : Fr (fun k => k = rb) ((w.alloc (.cells #[vI P, vI R, vI V, .slice a fl c] 41)).alloc (.cells #[vI op, vI zr, vI zs, vI zt, vI zn, .slice aa l.length ca, .slice ra lr cr] 43)) w3 := (hf2.mono (fun _ _ h => h.elim)).trans hf3
  have hfw : Fr (fun k => k = rb) w w3 := (hf1.mono (fun _ _ h => h.elim)).trans hf03
  have hx3 : w3.heap[w.heap.size]? = some (.cells #[vI P, vI R, vI V, .slice a fl c] 41) := by rw [hf03.block _ hsz (by omega)]; exact HXA.out
  have HR : Hd (listE m V l 0 = varsE V l (mustE ((l.length : Int) == m) 15 0)) := by unfold Hd listE; rw [if_pos rfl]
  generalize mustE ((l.length : Int) == m) 15 0 = E0 at h3 HR
  clear c3 hz hlt h2 hf2 hf3 hf03 hf1 H1 HXA hsz
  have hxl : w.heap.size < w3.heap.size := (Array.getElem?_eq_some_iff.1 hx3).1
  go_wp2_with fail
  go_loopw [9] (fun i wr => ∃ (k : Nat) (E' : Int), k ≤ l.length ∧ i = .int .i64 k ∧ RW rb G fv wr L E' ∧ Fr (fun j => j = rb) w3 wr ∧ Hd (varsE V l E0 = varsE V (l.drop k) E')) (fun i _ => match i with | .int _ q => l.length - q.toNat | _ => 0)
  case atStart => exact ⟨0, E0, Nat.zero_le _, rfl, h3, Fr.refl _ _, rfl⟩
  case round =>
    obtain ⟨k, E', hk, rfl, hr, hfr, hv⟩ := hrel
    by_cases hlt : k < l.length
    · obtain ⟨pk, po, rfl, hpk, hpb, hcs⟩ := HIL.out (by intro e; simp [e] at hlt)
      have hce : wr.cell? ⟨pk, po + k, none⟩ = some (vI l[k]) := ((hfw.trans hfr).cell hpk hpb).trans (hcs k hlt)
      have hxr : wr.heap[w.heap.size]? = some (.cells #[vI P, vI R, vI V, .slice a fl c] 41) := by rw [hfr.block _ hxl (by omega)]; exact hx3
      have f0 : wr.cell? ⟨w.heap.size, 0, none⟩ = some (vI P) := by unfold World.cell?; simp [hxr]
      have f1 : wr.cell? ⟨w.heap.size, 1, none⟩ = some (vI R) := by unfold World.cell?; simp [hxr]
      have f2 : wr.cell? ⟨w.heap.size, 2, none⟩ = some (vI V) := by unfold World.cell?; simp [hxr]
      have f3 : wr.cell? ⟨w.heap.size, 3, none⟩ = some (.slice a fl c) := by unfold World.cell?; simp [hxr]
      have hd : Hd (l.drop k = l[k] :: l.drop (k + 1)) := List.drop_eq_getElem_cons hlt
      have hN : Hd (varsE V l E0 = varsE V (l.drop (k + 1)) (mustE (varB V l[k]) 13 E')) := by unfold Hd; rw [hv.out, hd.out]; rfl
      generalize l[k] = u at hce hN
      have hpl : pk < wr.heap.size := cell_lt hce
      have HRR : Hd _ := hr
      clear hcs hxr hd hv hr
      go_wp2_with fail
      go_region_with ((
        go_at_call 72
        refine (rvariable rb G fv _ L E' (RW.fr HRR.out (Fr.drew (Fr.refl (fun _ => False) _)) (fun h => h)) P R V a fl c u).mono ?_
        rintro e w4 ⟨rfl, h4, hf4⟩
        have hf34 : Fr (fun j => j = rb) w3 w4 := (hfr.drew).trans hf4))
      all_goals
        go_wp2_with fail
        exact ⟨⟨k + 1, _, by omega, by simp, h4, hf34, hN⟩, by simp; omega⟩
    · have hkl : k = l.length := by omega
      subst hkl
      have hF : Hd (listE m V l 0 = E') := by unfold Hd; rw [HR.out, hv.out, List.drop_length]; rfl
      clear hv
      go_wp2_with fail
      go_end0
      exact ⟨rfl, by rw [hF.out]; exact hr, hfw.trans hfr⟩

set_option maxRecDepth 100000 in
set_option maxHeartbeats 4000000 in
theorem rlist_V (rb : Nat) (G : Int) (fv : Value) (w : World) (L E : Int) (h : RW rb G fv w L E) (P R V : Int) (a : Option Addr) (fl c : Nat) (op zr zs zt zn : Int) (aa ra : Option Addr) (ca cr : Nat) (lr : Nat) (l : List Int) (hll : l.length ≤ 1000000000000000) (m : Int)
    (hIL : l ≠ [] → ∃ k o, aa = some ⟨k, o, none⟩ ∧ k < w.heap.size ∧ k ≠ rb ∧ ∀ j (h : j < l.length), w.cell? ⟨k, o + j, none⟩ = some (vI l[j]))
    (hw : E = 0 → ∀ w', Fr (fun _ => False) w w' → Calls Tryz.prog 95 #[.pointer (some ⟨rb, 0, none⟩), .int .u8 86, .agg #[vI P, vI R, vI V, .slice a fl c], .agg #[vI op, vI zr, vI zs, vI zt, vI zn, .slice aa l.length ca, .slice ra lr cr]] w' fun r w'' => r = .returned (vI m) ∧ Fr (fun _ => False) w' w'') :
    Calls Tryz.prog 73 #[.pointer (some ⟨rb, 0, none⟩), .int .u8 86, .agg #[vI P, vI R, vI V, .slice a fl c], .agg #[vI op, vI zr, vI zs, vI zt, vI zn, .slice aa l.length ca, .slice ra lr cr]] w fun r w' => r = .returned (.tuple #[]) ∧ RW rb G fv w' L (listE m V l E) ∧ Fr (fun k => k = rb) w w' := by
  have hrb : rb < w.heap.size := h.cells.2.2.2.2.2
  have hf1 : Fr (fun _ => False) w ((w.alloc (.cells #[vI P, vI R, vI V, .slice a fl c] 41)).alloc (.cells #[vI op, vI zr, vI zs, vI zt, vI zn, .slice aa l.length ca, .slice ra lr cr] 43)) := Fr.alloc (Fr.alloc (Fr.refl _ _) _) _
  have h1 : RW rb G fv ((w.alloc (.cells #[vI P, vI R, vI V, .slice a fl c] 41)).alloc (.cells #[vI op, vI zr, vI zs, vI zt, vI zn, .slice aa l.length ca, .slice ra lr cr] 43)) L E := h.fr hf1 (fun h => h)
  have hxa : ((w.alloc (.cells #[vI P, vI R, vI V, .slice a fl c] 41)).alloc (.cells #[vI op, vI zr, vI zs, vI zt, vI zn, .slice aa l.length ca, .slice ra lr cr] 43)).heap[w.heap.size]? = some (.cells #[vI P, vI R, vI V, .slice a fl c] 41) := by
    rw [Go.RowKit.Below.heap_alloc _ _ _ (by simp)]; exact heap_alloc_last w _
  have HIL : Hd _ := hIL
  have hsz : w.heap.size < ((w.alloc (.cells #[vI P, vI R, vI V, .slice a fl c] 41)).alloc (.cells #[vI op, vI zr, vI zs, vI zt, vI zn, .slice aa l.length ca, .slice ra lr cr] 43)).heap.size := by simp; omega
  obtain ⟨-, -, -, c3, hz, hlt⟩ := h1.cells
  by_cases hE : E = 0
  rotate_left
  · have hE' : (E == 0) = false := by simpa using hE
    have hr : Hd (listE m V l E = E) := by unfold Hd listE; rw [if_neg hE]
    have H1 : Hd (RW rb G fv ((w.alloc (.cells #[vI P, vI R, vI V, .slice a fl c] 41)).alloc (.cells #[vI op, vI zr, vI zs, vI zt, vI zn, .slice aa l.length ca, .slice ra lr cr] 43)) L E) := h1
    clear h hIL hw h1 hxa
    go_enter Tryz.func73, Tryz.ntmps73
    go_wp2_with fail
    (try simp only [Exit.inBlock, Exit.then])
    refine bodyPost_ret (results_none rfl _ _ _) rfl ?_
    exact ⟨rfl, by rw [hr.out]; exact H1.out, hf1.mono (fun _ _ h => h.elim)⟩
  subst hE
  have hcall := hw rfl _ hf1
  have H1 : Hd (RW rb G fv ((w.alloc (.cells #[vI P, vI R, vI V, .slice a fl c] 41)).alloc (.cells #[vI op, vI zr, vI zs, vI zt, vI zn, .slice aa l.length ca, .slice ra lr cr] 43)) L 0) := h1
  have HXA : Hd _ := hxa
  clear h hIL hw h1 hxa
  go_enter Tryz.func73, Tryz.ntmps73
  go_wp2_with fail
  refine hcall.mono ?_
  rintro e w2 ⟨rfl, hf2⟩
  clear hcall
  have h2 : RW rb G fv w2 L 0 := RW.fr H1.out hf2 (fun h => h)
  go_wp2_with fail
  refine (rmust rb G fv w2 L 0 h2 ((l.length : Int) == m) 15).mono ?_
  rintro e w3 ⟨rfl, h3, hf3⟩
  have hf03 : Fr (fun k => k = rb) ((w.alloc (.cells #[vI P, vI R, vI V, .slice a fl c] 41)).alloc (.cells #[vI op, vI zr, vI zs, vI zt, vI zn, .slice aa l.length ca, .slice ra lr cr] 43)) w3 := (hf2.mono (fun _ _ h => h.elim)).trans hf3
  have hfw : Fr (fun k => k = rb) w w3 := (hf1.mono (fun _ _ h => h.elim)).trans hf03
  have hx3 : w3.heap[w.heap.size]? = some (.cells #[vI P, vI R, vI V, .slice a fl c] 41) := by rw [hf03.block _ hsz (by omega)]; exact HXA.out
  have HR : Hd (listE m V l 0 = varsE V l (mustE ((l.length : Int) == m) 15 0)) := by unfold Hd listE; rw [if_pos rfl]
  generalize mustE ((l.length : Int) == m) 15 0 = E0 at h3 HR
  clear c3 hz hlt h2 hf2 hf3 hf03 hf1 H1 HXA hsz
  have hxl : w.heap.size < w3.heap.size := (Array.getElem?_eq_some_iff.1 hx3).1
  go_wp2_with fail
  go_loopw [9] (fun i wr => ∃ (k : Nat) (E' : Int), k ≤ l.length ∧ i = .int .i64 k ∧ RW rb G fv wr L E' ∧ Fr (fun j => j = rb) w3 wr ∧ Hd (varsE V l E0 = varsE V (l.drop k) E')) (fun i _ => match i with | .int _ q => l.length - q.toNat | _ => 0)
  case atStart => exact ⟨0, E0, Nat.zero_le _, rfl, h3, Fr.refl _ _, rfl⟩
  case round =>
    obtain ⟨k, E', hk, rfl, hr, hfr, hv⟩ := hrel
    by_cases hlt : k < l.length
    · obtain ⟨pk, po, rfl, hpk, hpb, hcs⟩ := HIL.out (by intro e; simp [e] at hlt)
      have hce : wr.cell? ⟨pk, po + k, none⟩ = some (vI l[k]) := ((hfw.trans hfr).cell hpk hpb).trans (hcs k hlt)
      have hxr : wr.heap[w.heap.size]? = some (.cells #[vI P, vI R, vI V, .slice a fl c] 41) := by rw [hfr.block _ hxl (by omega)]; exact hx3
      have f0 : wr.cell? ⟨w.heap.size, 0, none⟩ = some (vI P) := by unfold World.cell?; simp [hxr]
      have f1 : wr.cell? ⟨w.heap.size, 1, none⟩ = some (vI R) := by unfold World.cell?; simp [hxr]
      have f2 : wr.cell? ⟨w.heap.size, 2, none⟩ = some (vI V) := by unfold World.cell?; simp [hxr]
      have f3 : wr.cell? ⟨w.heap.size, 3, none⟩ = some (.slice a fl c) := by unfold World.cell?; simp [hxr]
      have hd : Hd (l.drop k = l[k] :: l.drop (k + 1)) := List.drop_eq_getElem_cons hlt
      have hN : Hd (varsE V l E0 = varsE V (l.drop (k + 1)) (mustE (varB V l[k]) 13 E')) := by unfold Hd; rw [hv.out, hd.out]; rfl
      generalize l[k] = u at hce hN
      have hpl : pk < wr.heap.size := cell_lt hce
      have HRR : Hd _ := hr
      clear hcs hxr hd hv hr
      go_wp2_with fail
      go_region_with ((
        go_at_call 72
        refine (rvariable rb G fv _ L E' (RW.fr HRR.out (Fr.drew (Fr.refl (fun _ => False) _)) (fun h => h)) P R V a fl c u).mono ?_
        rintro e w4 ⟨rfl, h4, hf4⟩
        have hf34 : Fr (fun j => j = rb) w3 w4 := (hfr.drew).trans hf4))
      all_goals
        go_wp2_with fail
        exact ⟨⟨k + 1, _, by omega, by simp, h4, hf34, hN⟩, by simp; omega⟩
    · have hkl : k = l.length := by omega
      subst hkl
      have hF : Hd (listE m V l 0 = E') := by unfold Hd; rw [HR.out, hv.out, List.drop_length]; rfl
      clear hv
      go_wp2_with fail
      go_end0
      exact ⟨rfl, by rw [hF.out]; exact hr, hfw.trans hfr⟩

set_option maxRecDepth 100000 in
set_option maxHeartbeats 4000000 in
theorem rlist_B (rb : Nat) (G : Int) (fv : Value) (w : World) (L E : Int) (h : RW rb G fv w L E) (P R V : Int) (a : Option Addr) (fl c : Nat) (op zr zs zt zn : Int) (aa ra : Option Addr) (ca cr : Nat) (la : Nat) (l : List Int) (hll : l.length ≤ 1000000000000000) (m : Int)
    (hIL : l ≠ [] → ∃ k o, ra = some ⟨k, o, none⟩ ∧ k < w.heap.size ∧ k ≠ rb ∧ ∀ j (h : j < l.length), w.cell? ⟨k, o + j, none⟩ = some (vI l[j]))
    (hw : E = 0 → ∀ w', Fr (fun _ => False) w w' → Calls Tryz.prog 95 #[.pointer (some ⟨rb, 0, none⟩), .int .u8 66, .agg #[vI P, vI R, vI V, .slice a fl c], .agg #[vI op, vI zr, vI zs, vI zt, vI zn, .slice aa la ca, .slice ra l.length cr]] w' fun r w'' => r = .returned (vI m) ∧ Fr (fun _ => False) w' w'') :
    Calls Tryz.prog 73 #[.pointer (some ⟨rb, 0, none⟩), .int .u8 66, .agg #[vI P, vI R, vI V, .slice a fl c], .agg #[vI op, vI zr, vI zs, vI zt, vI zn, .slice aa la ca, .slice ra l.length cr]] w fun r w' => r = .returned (.tuple #[]) ∧ RW rb G fv w' L (listE m V l E) ∧ Fr (fun k => k = rb) w w' := by
  have hrb : rb < w.heap.size := h.cells.2.2.2.2.2
  have hf1 : Fr (fun _ => False) w ((w.alloc (.cells #[vI P, vI R, vI V, .slice a fl c] 41)).alloc (.cells #[vI op, vI zr, vI zs, vI zt, vI zn, .slice aa la ca, .slice ra l.length cr] 43)) := Fr.alloc (Fr.alloc (Fr.refl _ _) _) _
  have h1 : RW rb G fv ((w.alloc (.cells #[vI P, vI R, vI V, .slice a fl c] 41)).alloc (.cells #[vI op, vI zr, vI zs, vI zt, vI zn, .slice aa la ca, .slice ra l.length cr] 43)) L E := h.fr hf1 (fun h => h)
  have hxa : ((w.alloc (.cells #[vI P, vI R, vI V, .slice a fl c] 41)).alloc (.cells #[vI op, vI zr, vI zs, vI zt, vI zn, .slice aa la ca, .slice ra l.length cr] 43)).heap[w.heap.size]? = some (.cells #[vI P, vI R, vI V, .slice a fl c] 41) := by
    rw [Go.RowKit.Below.heap_alloc _ _ _ (by simp)]; exact heap_alloc_last w _
  have HIL : Hd _ := hIL
  have hsz : w.heap.size < ((w.alloc (.cells #[vI P, vI R, vI V, .slice a fl c] 41)).alloc (.cells #[vI op, vI zr, vI zs, vI zt, vI zn, .slice aa la ca, .slice ra l.length cr] 43)).heap.size := by simp; omega
  obtain ⟨-, -, -, c3, hz, hlt⟩ := h1.cells
  by_cases hE : E = 0
  rotate_left
  · have hE' : (E == 0) = false := by simpa using hE
    have hr : Hd (listE m V l E = E) := by unfold Hd listE; rw [if_neg hE]
    have H1 : Hd (RW rb G fv ((w.alloc (.cells #[vI P, vI R, vI V, .slice a fl c] 41)).alloc (.cells #[vI op, vI zr, vI zs, vI zt, vI zn, .slice aa la ca, .slice ra l.length cr] 43)) L E) := h1
    clear h hIL hw h1 hxa
    go_enter Tryz.func73, Tryz.ntmps73
    go_wp2_with fail
    (try simp only [Exit.inBlock, Exit.then])
    refine bodyPost_ret (results_none rfl _ _ _) rfl ?_
    exact ⟨rfl, by rw [hr.out]; exact H1.out, hf1.mono (fun _ _ h => h.elim)⟩
  subst hE
  have hcall := hw rfl _ hf1
  have H1 : Hd (RW rb G fv ((w.alloc (.cells #[vI P, vI R, vI V, .slice a fl c] 41)).alloc (.cells #[vI op, vI zr, vI zs, vI zt, vI zn, .slice aa la ca, .slice ra l.length cr] 43)) L 0) := h1
  have HXA : Hd _ := hxa
  clear h hIL hw h1 hxa
  go_enter Tryz.func73, Tryz.ntmps73
  go_wp2_with fail
  refine hcall.mono ?_
  rintro e w2 ⟨rfl, hf2⟩
  clear hcall
  have h2 : RW rb G fv w2 L 0 := RW.fr H1.out hf2 (fun h => h)
  go_wp2_with fail
  refine (rmust rb G fv w2 L 0 h2 ((l.length : Int) == m) 15).mono ?_
  rintro e w3 ⟨rfl, h3, hf3⟩
  have hf03 : Fr (fun k => k = rb) ((w.alloc (.cells #[vI P, vI R, vI V, .slice a fl c] 41)).alloc (.cells #[vI op, vI zr, vI zs, vI zt, vI zn, .slice aa la ca, .slice ra l.length cr] 43)) w3 := (hf2.mono (fun _ _ h => h.elim)).trans hf3
  have hfw : Fr (fun k => k = rb) w w3 := (hf1.mono (fun _ _ h => h.elim)).trans hf03
  have hx3 : w3.heap[w.heap.size]? = some (.cells #[vI P, vI R, vI V, .slice a fl c] 41) := by rw [hf03.block _ hsz (by omega)]; exact HXA.out
  have HR : Hd (listE m V l 0 = varsE V l (mustE ((l.length : Int) == m) 15 0)) := by unfold Hd listE; rw [if_pos rfl]
  generalize mustE ((l.length : Int) == m) 15 0 = E0 at h3 HR
  clear c3 hz hlt h2 hf2 hf3 hf03 hf1 H1 HXA hsz
  have hxl : w.heap.size < w3.heap.size := (Array.getElem?_eq_some_iff.1 hx3).1
  go_wp2_with fail
  go_loopw [9] (fun i wr => ∃ (k : Nat) (E' : Int), k ≤ l.length ∧ i = .int .i64 k ∧ RW rb G fv wr L E' ∧ Fr (fun j => j = rb) w3 wr ∧ Hd (varsE V l E0 = varsE V (l.drop k) E')) (fun i _ => match i with | .int _ q => l.length - q.toNat | _ => 0)
  case atStart => exact ⟨0, E0, Nat.zero_le _, rfl, h3, Fr.refl _ _, rfl⟩
  case round =>
    obtain ⟨k, E', hk, rfl, hr, hfr, hv⟩ := hrel
    by_cases hlt : k < l.length
    · obtain ⟨pk, po, rfl, hpk, hpb, hcs⟩ := HIL.out (by intro e; simp [e] at hlt)
      have hce : wr.cell? ⟨pk, po + k, none⟩ = some (vI l[k]) := ((hfw.trans hfr).cell hpk hpb).trans (hcs k hlt)
      have hxr : wr.heap[w.heap.size]? = some (.cells #[vI P, vI R, vI V, .slice a fl c] 41) := by rw [hfr.block _ hxl (by omega)]; exact hx3
      have f0 : wr.cell? ⟨w.heap.size, 0, none⟩ = some (vI P) := by unfold World.cell?; simp [hxr]
      have f1 : wr.cell? ⟨w.heap.size, 1, none⟩ = some (vI R) := by unfold World.cell?; simp [hxr]
      have f2 : wr.cell? ⟨w.heap.size, 2, none⟩ = some (vI V) := by unfold World.cell?; simp [hxr]
      have f3 : wr.cell? ⟨w.heap.size, 3, none⟩ = some (.slice a fl c) := by unfold World.cell?; simp [hxr]
      have hd : Hd (l.drop k = l[k] :: l.drop (k + 1)) := List.drop_eq_getElem_cons hlt
      have hN : Hd (varsE V l E0 = varsE V (l.drop (k + 1)) (mustE (varB V l[k]) 13 E')) := by unfold Hd; rw [hv.out, hd.out]; rfl
      generalize l[k] = u at hce hN
      have hpl : pk < wr.heap.size := cell_lt hce
      have HRR : Hd _ := hr
      clear hcs hxr hd hv hr
      go_wp2_with fail
      go_region_with ((
        go_at_call 72
        refine (rvariable rb G fv _ L E' (RW.fr HRR.out (Fr.drew (Fr.refl (fun _ => False) _)) (fun h => h)) P R V a fl c u).mono ?_
        rintro e w4 ⟨rfl, h4, hf4⟩
        have hf34 : Fr (fun j => j = rb) w3 w4 := (hfr.drew).trans hf4))
      all_goals
        go_wp2_with fail
        exact ⟨⟨k + 1, _, by omega, by simp, h4, hf34, hN⟩, by simp; omega⟩
    · have hkl : k = l.length := by omega
      subst hkl
      have hF : Hd (listE m V l 0 = E') := by unfold Hd; rw [HR.out, hv.out, List.drop_length]; rfl
      clear hv
      go_wp2_with fail
      go_end0
      exact ⟨rfl, by rw [hF.out]; exact hr, hfw.trans hfr⟩

end Go.Proofs.YtjmbfjaahadbhaaGreatDoor
