import Derived.Test.YtdkijecnnmncnaaGreatDoorQThJ
namespace Go.Proofs.YtdkijecnnmncnaaGreatDoor
open Go.RowKit (wrap32 wrap64)
set_option linter.unusedVariables false
set_option linter.unusedSimpArgs false
set_option maxRecDepth 100000
set_option maxHeartbeats 2000000
theorem heap_new1 (w : World) (o o2 : Obj) : ((w.alloc o).alloc o2).heap[w.heap.size + 1]? = some o2 := by
 have := heap_new0 (w.alloc o) o2
 rw [World.size_alloc] at this
 exact this
theorem one_any (a : Option Addr) (n c : Nat) (w : World) :
 Calls Tryz.prog 39 #[.slice a n c] w fun e w' => ∃ g, e = .returned (.agg #[vI 0, .slice (some ⟨g, 0, none⟩) 1 1]) ∧ w.heap.size ≤ g ∧ w'.heap[g]? = some (.cells #[vI 1, vI 1, vI 2, .slice a n c] 45) ∧ Fr (fun _ => False) w w' := by
 have hb0 : ((w.alloc (.cells #[vI 0, .slice (some ⟨w.heap.size + 1, 0, none⟩) 1 1] 24)).alloc (.cells #[vI 1, vI 1, vI 2, .slice a n c] 45)).heap[w.heap.size]? = some (.cells #[vI 0, .slice (some ⟨w.heap.size + 1, 0, none⟩) 1 1] 24) := keepA (heap_new0 w _) _
 have hb1 : ((w.alloc (.cells #[vI 0, .slice (some ⟨w.heap.size + 1, 0, none⟩) 1 1] 24)).alloc (.cells #[vI 1, vI 1, vI 2, .slice a n c] 45)).heap[w.heap.size + 1]? = some (.cells #[vI 1, vI 1, vI 2, .slice a n c] 45) := by
  have := heap_new0 (w.alloc (.cells #[vI 0, .slice (some ⟨w.heap.size + 1, 0, none⟩) 1 1] 24)) (.cells #[vI 1, vI 1, vI 2, .slice a n c] 45)
  rw [World.size_alloc] at this
  exact this
 have HB0 : Hd (((w.alloc (.cells #[vI 0, .slice (some ⟨w.heap.size + 1, 0, none⟩) 1 1] 24)).alloc (.cells #[vI 1, vI 1, vI 2, .slice a n c] 45)).heap[w.heap.size]? = some (.cells #[vI 0, .slice (some ⟨w.heap.size + 1, 0, none⟩) 1 1] 24)) := hb0
 have HB1 : Hd (((w.alloc (.cells #[vI 0, .slice (some ⟨w.heap.size + 1, 0, none⟩) 1 1] 24)).alloc (.cells #[vI 1, vI 1, vI 2, .slice a n c] 45)).heap[w.heap.size + 1]? = some (.cells #[vI 1, vI 1, vI 2, .slice a n c] 45)) := hb1
 have HFA : Hd (Fr (fun _ => False) w ((w.alloc (.cells #[vI 0, .slice (some ⟨w.heap.size + 1, 0, none⟩) 1 1] 24)).alloc (.cells #[vI 1, vI 1, vI 2, .slice a n c] 45))) := Fr.alloc (Fr.alloc (Fr.refl _ w) _) _
 clear hb0 hb1
 go_enter Tryz.func39, Tryz.ntmps39
 go_wp2_with fail
 generalize (w.alloc (.cells #[vI 0, .slice (some ⟨w.heap.size + 1, 0, none⟩) 1 1] 24)).alloc (.cells #[vI 1, vI 1, vI 2, .slice a n c] 45) = wy at *
 have e0 : wy.cell? ⟨w.heap.size, 0, none⟩ = some (vI 0) := by rw [cell_of0 HB0.out]; rfl
 have e1 : wy.cell? ⟨w.heap.size, 1, none⟩ = some (.slice (some ⟨w.heap.size + 1, 0, none⟩) 1 1) := by rw [cell_of0 HB0.out]; rfl
 refine bodyPost_ret (v := .agg #[vI 0, .slice (some ⟨w.heap.size + 1, 0, none⟩) 1 1]) ?_ rfl ⟨w.heap.size + 1, rfl, by omega, HB1.out, HFA.out⟩
 rw [results_cell (p := 2) (ty := 24) Tryz.results39]
 simp [go_sem, e0, e1]
theorem liv_fa {w : World} {g c b : Nat} (h1 : w.heap[g]? = some (.cells #[vI 1, vI 1, vI 2, .slice (some ⟨c, 0, none⟩) 2 2] 45)) (h2 : w.heap[c]? = some (.cells #[vI 5, vI 1, vI 0, vI 0, vI 0, .slice none 0 0, .slice none 0 0, vI 15, vI 0, vI 0, vI 0, vI 0, .slice (some ⟨b, 0, none⟩) 1 1, .slice none 0 0] 79)) (h3 : w.heap[b]? = some (.cells #[vI 1] 3)) : FA w (.slice (some ⟨g, 0, none⟩) 1 1) [livF] := by
 have hnil : IA w (.slice none 0 0) [] := ⟨none, 0, rfl, fun h => absurd rfl h⟩
 have hone : IA w (.slice (some ⟨b, 0, none⟩) 1 1) [1] := ⟨_, 1, rfl, fun _ => ⟨b, 0, rfl, heap_lt0 h3, fun j hj => by
  obtain rfl : j = 0 := by simp at hj; omega
  rw [cell_of0 h3]
  rfl⟩⟩
 refine ⟨_, 1, rfl, fun _ => ⟨g, 0, rfl, heap_lt0 h1, fun j hj => ?_⟩⟩
 obtain rfl : j = 0 := by simp at hj; omega
 refine ⟨.slice (some ⟨c, 0, none⟩) 2 2, by rw [cell_of0 h1]; rfl, by rw [cell_of0 h1]; rfl, by rw [cell_of0 h1]; rfl, by rw [cell_of0 h1]; rfl, ?_⟩
 refine ⟨_, 2, rfl, fun _ => ⟨c, 0, rfl, heap_lt0 h2, fun j hj => ?_⟩⟩
 have hj2 : j = 0 ∨ j = 1 := by simp [livF] at hj; omega
 rcases hj2 with rfl | rfl
 ·exact ⟨.slice none 0 0, .slice none 0 0, by rw [cell_of0 h2]; rfl, by rw [cell_of0 h2]; rfl, by rw [cell_of0 h2]; rfl, by rw [cell_of0 h2]; rfl, by rw [cell_of0 h2]; rfl, by rw [cell_of0 h2]; rfl, by rw [cell_of0 h2]; rfl, hnil, hnil⟩
 ·exact ⟨.slice (some ⟨b, 0, none⟩) 1 1, .slice none 0 0, by rw [cell_of0 h2]; rfl, by rw [cell_of0 h2]; rfl, by rw [cell_of0 h2]; rfl, by rw [cell_of0 h2]; rfl, by rw [cell_of0 h2]; rfl, by rw [cell_of0 h2]; rfl, by rw [cell_of0 h2]; rfl, hone, hnil⟩
def livS : PS := ⟨[9], [[9]]⟩
theorem liv_ok : EdgOk 0 [livF] 0 [livS] := ⟨0, rfl, by decide, rfl, liv_alone, liv_told _⟩
theorem liv_sum (ss : List PS) : (List.range 4).map (escF ss livF) = [false, false, true, false] ∧ solF ss livF = ⟨[0], [[0]]⟩ := by
 have hf : FunR [livF] livF := right_ok liv_alone
 have h := solF_sol (ss := [livS]) hf (liv_told _) rfl
 have e := livF_edges [livS]
 have e2 := livF_edges ss
 have es : solF ss livF = solF [livS] livF ∧ escF ss livF = escF [livS] livF := by
  have hesc : escF ss livF = escF [livS] livF := by funext l; unfold escF; rw [e, e2]
  refine ⟨?_, hesc⟩
  unfold solF heapF
  rw [e, e2, hesc]
  have hres : resF ss livF = resF [livS] livF := by funext j; unfold resF; rw [e, e2]
  rw [hres]
 rw [e] at h
 rw [es.1, es.2]
 exact liv_is h
theorem liv_fine : FineP [livF] ∧ FineS [livS] := by
 refine ⟨⟨by decide, fun f hf => ?_⟩, ⟨by decide, fun s hs => ?_⟩⟩
 ·obtain rfl := List.mem_singleton.1 hf
  refine ⟨by decide, fun c hc => ?_⟩
  unfold livF at hc
  simp only [List.mem_cons, List.not_mem_nil, or_false] at hc
  rcases hc with rfl | rfl <;> decide
 ·obtain rfl := List.mem_singleton.1 hs
  refine ⟨by decide, by decide, fun l hl => ?_⟩
  unfold livS at hl
  obtain rfl := List.mem_singleton.1 hl
  decide
def LivE (w : World) (e : Ending) (w' : World) : Prop :=
 Fr (fun _ => False) w w' ∧ ∃ (eb g1 g2 : Nat), e = .returned (.tuple #[.slice (some ⟨eb, 0, none⟩) 4 4, .agg #[.slice (some ⟨g1, 0, none⟩) 1 1, .slice (some ⟨g2, 0, none⟩) 1 1], vI 0]) ∧ ∀ (w'' : World) (N : Nat), N < w.heap.size → Fr (fun k => k = N) w' w'' → BL w'' (.slice (some ⟨eb, 0, none⟩) 4 4) [false, false, true, false] ∧ IA w'' (.slice (some ⟨g1, 0, none⟩) 1 1) [0] ∧ LA w'' (.slice (some ⟨g2, 0, none⟩) 1 1) [[0]]
theorem SmR.one {w w' : World} {B p r g1 g2 N : Nat} {gs : Nat → Nat} {y : Nat → Int} {z : Nat → Nat → Int} (h : SmR w B p r g1 g2 gs y z) (hN : N < B) (f : Fr (fun k => k = N) w w') : SmR w' B p r g1 g2 gs y z :=
 ⟨h.row1.fr (fr_to f) (by have := h.b1; omega), h.row2.fr (fr_to f) (by have := h.b2; omega), fun i hi => (h.rows i hi).fr (fr_to f) (by have := h.bs i hi; omega), h.b1, h.b2, h.bs, h.n1, h.nn⟩
theorem liv_fun (fv : Value) (w wx : World) (hF : Fr (fun _ => False) w wx) (hfa : FA w fv [livF]) (hT : Tab w) (hR : RowsA w) (B sb g1 g2 : Nat) (gs : Nat → Nat) (hs : wx.heap[sb]? = some (.cells #[.slice (some ⟨g1, 0, none⟩) 1 1, .slice (some ⟨g2, 0, none⟩) 1 1] 33)) (hS : SmR wx B 1 1 g1 g2 gs (fun _ => 9) (fun _ _ => 9)) :
 Calls Tryz.prog 13 #[.agg #[vI 0, fv], vI 0, .slice (some ⟨sb, 0, none⟩) 1 1] wx (LivE wx) := by
 have hso := (hS.so (by omega) (by omega)).sa
 have hss : SsA wx (.slice (some ⟨sb, 0, none⟩) 1 1) [livS] := ⟨_, 1, rfl, fun _ => ⟨sb, 0, rfl, heap_lt0 hs, fun j hj => by
  obtain rfl : j = 0 := by simp at hj; omega
  exact ⟨_, _, by rw [cell_of0 hs]; rfl, by rw [cell_of0 hs]; rfl, hso.1, hso.2⟩⟩⟩
 refine (function_any 0 fv _ [livF] [livS] 0 wx (hfa.stay hF) hss liv_fine.1 liv_fine.2 (hT.stay hF) (hR.stay hF (tab_lt hT))).mono ?_
 rintro e w' ⟨hf, ⟨hn, -⟩ | ⟨i, hi, e1, -, eb, p, r, q1, q2, qs, Y, Z, he, hb, hrow, hsm, hp, hr, hsol⟩⟩
 ·exact absurd liv_ok hn
 ·obtain rfl : i = 0 := by omega
  have hl : [livF][0] = livF := rfl
  rw [hl] at he hrow hsol
  obtain ⟨k1, k2⟩ := liv_sum [livS]
  rw [k2] at hsol
  injection hsol with m1 m2
  have hp1 : p = 1 := by have := congrArg List.length m1; simp at this; omega
  subst hp1
  have hr1 : r = 1 := by
   have := congrArg (fun l => (l.headD []).length) m2
   simp [List.range_succ] at this
   omega
  subst hr1
  refine ⟨hf, eb, q1, q2, he, fun w2 N hN f => ?_⟩
  have h9 := ((hsm.one hN f).so (by omega) (by omega)).sa
  simp only at h9
  rw [← m1, ← m2] at h9
  have hbl := row_bl (hrow.fr (fr_to f) (by omega))
  rw [show locN livF = 4 from rfl, k1] at hbl
  exact ⟨hbl, h9.1, h9.2⟩
theorem liv_low (a : Option Addr) (w : World) : Calls Tryz.prog 32 #[.agg #[vI 1, vI 1, vI 2, .slice a 2 2]] w fun e w' => ∃ g1 g2 gs, e = .returned (.agg #[.slice (some ⟨g1, 0, none⟩) 1 1, .slice (some ⟨g2, 0, none⟩) 1 1]) ∧ SmR w' w.heap.size 1 1 g1 g2 gs (fun _ => 9) (fun _ _ => 9) ∧ Fr (fun _ => False) w w' := lowest_in 1 1 2 a 2 2 w (by omega) (by omega)
theorem bl_lit (w : World) : BL (w.alloc (.cells #[.bool false, .bool false, .bool true, .bool false] 4)) (.slice (some ⟨w.heap.size, 0, none⟩) 4 4) [false, false, true, false] :=
 ⟨_, 4, rfl, fun _ => ⟨w.heap.size, 0, rfl, by simp, fun j hj => by
  rw [Nat.zero_add, cell_of0 (heap_new0 w _)]
  have hj4 : j < 4 := hj
  have : j = 0 ∨ j = 1 ∨ j = 2 ∨ j = 3 := by omega
  rcases this with rfl | rfl | rfl | rfl <;> rfl⟩⟩
theorem ia_lit (w : World) (z : Int) : IA (w.alloc (.cells #[vI z] 3)) (.slice (some ⟨w.heap.size, 0, none⟩) 1 1) [z] :=
 ⟨_, 1, rfl, fun _ => ⟨w.heap.size, 0, rfl, by simp, fun j hj => by
  obtain rfl : j = 0 := by simp at hj; omega
  rw [cell_of0 (heap_new0 w _)]
  rfl⟩⟩
theorem la_lit (w : World) : LA ((w.alloc (.cells #[vI 0] 3)).alloc (.cells #[.slice (some ⟨w.heap.size, 0, none⟩) 1 1] 30)) (.slice (some ⟨w.heap.size + 1, 0, none⟩) 1 1) [[0]] :=
 ⟨_, 1, rfl, fun _ => ⟨w.heap.size + 1, 0, rfl, by simp, fun j hj => by
  obtain rfl : j = 0 := by simp at hj; omega
  exact ⟨_, by rw [cell_of0 (heap_new1 w _ _)]; rfl, (ia_lit w 0).stay (Fr.alloc (Fr.refl _ _) _)⟩⟩⟩
def LivC (w wx : World) (x2 x3 x4 : Value) : Prop :=
 ∃ (eb g1 g2 N : Nat), x2 = .slice (some ⟨eb, 0, none⟩) 4 4 ∧ x3 = .pointer (some ⟨N, 0, none⟩) ∧ x4 = vI 0 ∧ wx.heap[N]? = some (.cells #[.slice (some ⟨g1, 0, none⟩) 1 1, .slice (some ⟨g2, 0, none⟩) 1 1] 33) ∧ BL wx (.slice (some ⟨eb, 0, none⟩) 4 4) [false, false, true, false] ∧ IA wx (.slice (some ⟨g1, 0, none⟩) 1 1) [0] ∧ LA wx (.slice (some ⟨g2, 0, none⟩) 1 1) [[0]] ∧ Fr (fun _ => False) w wx
structure LivK (w wx w3 : World) (eb g1 g2 : Nat) : Prop where
 fr : Fr (fun _ => False) w w3
 st : ∀ (w'' : World) (N : Nat), N < wx.heap.size → Fr (fun k => k = N) w3 w'' → BL w'' (.slice (some ⟨eb, 0, none⟩) 4 4) [false, false, true, false] ∧ IA w'' (.slice (some ⟨g1, 0, none⟩) 1 1) [0] ∧ LA w'' (.slice (some ⟨g2, 0, none⟩) 1 1) [[0]]
theorem LivK.new {w wx w3 : World} {eb g1 g2 : Nat} (h : LivK w wx w3 eb g1 g2) (h0 : 0 < wx.heap.size) : LivC w (w3.alloc (.cells #[.slice (some ⟨g1, 0, none⟩) 1 1, .slice (some ⟨g2, 0, none⟩) 1 1] 33)) (.slice (some ⟨eb, 0, none⟩) 4 4) (.pointer (some ⟨w3.heap.size, 0, none⟩)) (vI 0) := by
 obtain ⟨h1, h2, h3⟩ := h.st _ 0 h0 (Fr.alloc (Fr.refl (fun k => k = 0) w3) (.cells #[.slice (some ⟨g1, 0, none⟩) 1 1, .slice (some ⟨g2, 0, none⟩) 1 1] 33))
 exact ⟨eb, g1, g2, _, rfl, rfl, rfl, heap_new0 w3 _, h1, h2, h3, h.fr.alloc _⟩
theorem LivK.set {w wx w3 : World} {eb g1 g2 N : Nat} (h : LivK w wx w3 eb g1 g2) (hN : N < wx.heap.size) (hw : w.heap.size ≤ N) (hn : w3.heap[N]? = some nil2) : LivC w ((w3.setCell ⟨N, 0, none⟩ (.slice (some ⟨g1, 0, none⟩) 1 1)).setCell ⟨N, 1, none⟩ (.slice (some ⟨g2, 0, none⟩) 1 1)) (.slice (some ⟨eb, 0, none⟩) 4 4) (.pointer (some ⟨N, 0, none⟩)) (vI 0) := by
 have f : Fr (fun j => j = N) w3 ((w3.setCell ⟨N, 0, none⟩ (.slice (some ⟨g1, 0, none⟩) 1 1)).setCell ⟨N, 1, none⟩ (.slice (some ⟨g2, 0, none⟩) 1 1)) := (setCell_fr w3 N 0 _).trans (setCell_fr _ N 1 _)
 obtain ⟨h1, h2, h3⟩ := h.st _ N hN f
 exact ⟨eb, g1, g2, N, rfl, rfl, rfl, set_of (set_of hn 0 _) 1 _, h1, h2, h3, h.fr.then f (fun j hj e => by omega)⟩
theorem lives_any (w : World) (hT : Tab w) (hR : RowsA w) :
 Calls Tryz.prog 10 #[] w fun e w' => e = .returned (.bool true) ∧ Fr (fun _ => False) w w' := by
 obtain ⟨wa, hwa⟩ : ∃ wa, wa = (w.alloc (.cells #[vI 1] 3)).alloc (.cells #[vI 5, vI 1, vI 0, vI 0, vI 0, .slice none 0 0, .slice none 0 0, vI 15, vI 0, vI 0, vI 0, vI 0, .slice (some ⟨w.heap.size, 0, none⟩) 1 1, .slice none 0 0] 79) := ⟨_, rfl⟩
 have HWA : Hd (wa = (w.alloc (.cells #[vI 1] 3)).alloc (.cells #[vI 5, vI 1, vI 0, vI 0, vI 0, .slice none 0 0, .slice none 0 0, vI 15, vI 0, vI 0, vI 0, vI 0, .slice (some ⟨w.heap.size, 0, none⟩) 1 1, .slice none 0 0] 79)) := hwa
 obtain ⟨H, hH⟩ : ∃ H, H = w.heap.size := ⟨_, rfl⟩
 have HH : Hd (H = w.heap.size) := hH
 have hb0 : wa.heap[H]? = some (.cells #[vI 1] 3) := by rw [hwa, hH]; exact keepA (heap_new0 w _) _
 have hb1 : wa.heap[H + 1]? = some (.cells #[vI 5, vI 1, vI 0, vI 0, vI 0, .slice none 0 0, .slice none 0 0, vI 15, vI 0, vI 0, vI 0, vI 0, .slice (some ⟨H, 0, none⟩) 1 1, .slice none 0 0] 79) := by
  rw [hwa, hH]
  have := heap_new0 (w.alloc (.cells #[vI 1] 3)) (.cells #[vI 5, vI 1, vI 0, vI 0, vI 0, .slice none 0 0, .slice none 0 0, vI 15, vI 0, vI 0, vI 0, vI 0, .slice (some ⟨w.heap.size, 0, none⟩) 1 1, .slice none 0 0] 79)
  rw [World.size_alloc] at this
  exact this
 have HB0 : Hd (wa.heap[H]? = some (.cells #[vI 1] 3)) := hb0
 have HB1 : Hd (wa.heap[H + 1]? = some (.cells #[vI 5, vI 1, vI 0, vI 0, vI 0, .slice none 0 0, .slice none 0 0, vI 15, vI 0, vI 0, vI 0, vI 0, .slice (some ⟨H, 0, none⟩) 1 1, .slice none 0 0] 79)) := hb1
 have hFA : Fr (fun _ => False) w wa := by rw [hwa]; exact Fr.alloc (Fr.alloc (Fr.refl _ w) _) _
 have HFA : Hd (Fr (fun _ => False) w wa) := hFA
 have HT : Hd (Tab wa) := hT.stay hFA
 have HR : Hd (RowsA wa) := hR.stay hFA (tab_lt hT)
 clear hwa hH hb0 hb1 hFA hT hR
 go_enter Tryz.func10, Tryz.ntmps10
 go_wp2_with fail
 rw [← HWA.out, ← HH.out]
 clear HWA
 refine (one_any (some ⟨H + 1, 0, none⟩) 2 2 wa).mono ?_
 rintro e w1 ⟨g, rfl, hg, hbg, hF1⟩
 have HFA1 : Hd (Fr (fun _ => False) w w1) := HFA.out.trans hF1
 have HFL : Hd (FA w1 (.slice (some ⟨g, 0, none⟩) 1 1) [livF]) := liv_fa hbg (keepF HB1.out hF1) (keepF HB0.out hF1)
 have HT1 : Hd (Tab w1) := HT.out.stay hF1
 have HR1 : Hd (RowsA w1) := HR.out.stay hF1 (tab_lt HT.out)
 have HBG : Hd (w1.heap[g]? = some (.cells #[vI 1, vI 1, vI 2, .slice (some ⟨H + 1, 0, none⟩) 2 2] 45)) := hbg
 clear hF1 hbg hg HB0 HB1 HT HR HFA
 go_upto_region 2 with fail
 have HBX : Hd ((w1.alloc (.cells #[vI 0, .slice (some ⟨g, 0, none⟩) 1 1] 24)).heap[w1.heap.size]? = some (.cells #[vI 0, .slice (some ⟨g, 0, none⟩) 1 1] 24)) := heap_new0 w1 _
 have HFy : Hd (Fr (fun _ => False) w1 (w1.alloc (.cells #[vI 0, .slice (some ⟨g, 0, none⟩) 1 1] 24))) := Fr.alloc (Fr.refl _ w1) _
 obtain ⟨X, hX⟩ : ∃ X, X = w1.heap.size := ⟨_, rfl⟩
 rw [← hX] at HBX ⊢
 clear hX
 generalize w1.alloc (.cells #[vI 0, .slice (some ⟨g, 0, none⟩) 1 1] 24) = wz at *
 have HFz : Hd (Fr (fun _ => False) w wz) := HFA1.out.trans HFy.out
 have HFLz : Hd (FA wz (.slice (some ⟨g, 0, none⟩) 1 1) [livF]) := HFL.out.stay HFy.out
 have HTz : Hd (Tab wz) := HT1.out.stay HFy.out
 have HRz : Hd (RowsA wz) := HR1.out.stay HFy.out (tab_lt HT1.out)
 have bg := keepF HBG.out HFy.out
 have c0 : wz.cell? ⟨X, 0, none⟩ = some (vI 0) := by rw [cell_of0 HBX.out]; rfl
 have c1 : wz.cell? ⟨X, 1, none⟩ = some (.slice (some ⟨g, 0, none⟩) 1 1) := by rw [cell_of0 HBX.out]; rfl
 have f0 : wz.cell? ⟨g, 0, none⟩ = some (vI 1) := by rw [cell_of0 bg]; rfl
 have f1 : wz.cell? ⟨g, 1, none⟩ = some (vI 1) := by rw [cell_of0 bg]; rfl
 have f2 : wz.cell? ⟨g, 2, none⟩ = some (vI 2) := by rw [cell_of0 bg]; rfl
 have f3 : wz.cell? ⟨g, 3, none⟩ = some (.slice (some ⟨H + 1, 0, none⟩) 2 2) := by rw [cell_of0 bg]; rfl
 have lX := heap_lt0 HBX.out
 have lg := heap_lt0 bg
 have HCZ : Hd (∀ wx, Fr (fun _ => False) wz wx → wx.cell? ⟨X, 0, none⟩ = some (vI 0) ∧ wx.cell? ⟨X, 1, none⟩ = some (.slice (some ⟨g, 0, none⟩) 1 1) ∧ wx.cell? ⟨g, 0, none⟩ = some (vI 1) ∧ wx.cell? ⟨g, 1, none⟩ = some (vI 1) ∧ wx.cell? ⟨g, 2, none⟩ = some (vI 2) ∧ wx.cell? ⟨g, 3, none⟩ = some (.slice (some ⟨H + 1, 0, none⟩) 2 2)) := fun wx hx =>
  ⟨(hx.cell lX (fun e => e)).trans c0, (hx.cell lX (fun e => e)).trans c1, (hx.cell lg (fun e => e)).trans f0, (hx.cell lg (fun e => e)).trans f1, (hx.cell lg (fun e => e)).trans f2, (hx.cell lg (fun e => e)).trans f3⟩
 clear bg HBX HBG HFy HFL HT1 HR1 HFA1
 go_cut [2, 3, 4] (fun x2 x3 x4 wx => Hd (LivC w wx x2 x3 x4))
 case first =>
  go_region_held3 (fun w' => w'.cell? ⟨X, 0, none⟩ = some (vI 0) ∧ w'.cell? ⟨X, 1, none⟩ = some (.slice (some ⟨g, 0, none⟩) 1 1) ∧ w'.cell? ⟨g, 0, none⟩ = some (vI 1) ∧ w'.cell? ⟨g, 1, none⟩ = some (vI 1) ∧ w'.cell? ⟨g, 2, none⟩ = some (vI 2) ∧ w'.cell? ⟨g, 3, none⟩ = some (.slice (some ⟨H + 1, 0, none⟩) 2 2)) (go_keep) ((
   first
    |(go_at_call 32
      first
      |(with_reducible refine (show Calls Tryz.prog 32 #[.agg #[vI 1, vI 1, vI 2, .slice (some ⟨H + 1, 0, none⟩) 2 2]] (wz.drew) _ from liv_low _ (wz.drew)).mono ?_
        rintro e w2 ⟨g1, g2, gs, rfl, hS2, hF2⟩
        have hG2 : Fr (fun _ => False) wz w2 := (Fr.drew (Fr.refl _ wz)).trans hF2
        have HG2 : Hd (Fr (fun _ => False) wz w2) := hG2
        have HS2 : Hd (SmR w2 (wz.drew).heap.size 1 1 g1 g2 gs (fun _ => 9) (fun _ _ => 9)) := hS2
        obtain ⟨c0, c1, f0, f1, f2, f3⟩ := HCZ.out w2 hG2
        have HA1 : Hd (Calls Tryz.prog 13 #[.agg #[vI 0, .slice (some ⟨g, 0, none⟩) 1 1], vI 0, .slice (some ⟨w2.heap.size, 0, none⟩) 1 1] (w2.alloc (.cells #[.slice (some ⟨g1, 0, none⟩) 1 1, .slice (some ⟨g2, 0, none⟩) 1 1] 33)) (LivE (w2.alloc (.cells #[.slice (some ⟨g1, 0, none⟩) 1 1, .slice (some ⟨g2, 0, none⟩) 1 1] 33)))) := liv_fun _ wz (w2.alloc (.cells #[.slice (some ⟨g1, 0, none⟩) 1 1, .slice (some ⟨g2, 0, none⟩) 1 1] 33)) (HG2.out.alloc _) HFLz.out HTz.out HRz.out _ _ g1 g2 gs (heap_new0 w2 _) (HS2.out.keep (Fr.alloc (Fr.refl _ w2) _))
        have HA2 : Hd (Calls Tryz.prog 13 #[.agg #[vI 0, .slice (some ⟨g, 0, none⟩) 1 1], vI 0, .slice (some ⟨w2.heap.size + 1, 0, none⟩) 1 1] ((w2.alloc nil2).alloc (.cells #[.slice (some ⟨g1, 0, none⟩) 1 1, .slice (some ⟨g2, 0, none⟩) 1 1] 33)) (LivE ((w2.alloc nil2).alloc (.cells #[.slice (some ⟨g1, 0, none⟩) 1 1, .slice (some ⟨g2, 0, none⟩) 1 1] 33)))) := liv_fun _ wz ((w2.alloc nil2).alloc (.cells #[.slice (some ⟨g1, 0, none⟩) 1 1, .slice (some ⟨g2, 0, none⟩) 1 1] 33)) ((HG2.out.alloc _).alloc _) HFLz.out HTz.out HRz.out _ _ g1 g2 gs (heap_new1 w2 _ _) (HS2.out.keep (Fr.alloc (Fr.alloc (Fr.refl _ w2) _) _))
        have HA3 : Hd (Calls Tryz.prog 13 #[.agg #[vI 0, .slice (some ⟨g, 0, none⟩) 1 1], vI 0, .slice (some ⟨w2.heap.size, 0, none⟩) 1 1] ((w2.alloc (.cells #[.slice (some ⟨g1, 0, none⟩) 1 1, .slice (some ⟨g2, 0, none⟩) 1 1] 33)).alloc nil2) (LivE ((w2.alloc (.cells #[.slice (some ⟨g1, 0, none⟩) 1 1, .slice (some ⟨g2, 0, none⟩) 1 1] 33)).alloc nil2))) := liv_fun _ wz ((w2.alloc (.cells #[.slice (some ⟨g1, 0, none⟩) 1 1, .slice (some ⟨g2, 0, none⟩) 1 1] 33)).alloc nil2) ((HG2.out.alloc _).alloc _) HFLz.out HTz.out HRz.out _ _ g1 g2 gs (keepA (heap_new0 w2 _) _) (HS2.out.keep (Fr.alloc (Fr.alloc (Fr.refl _ w2) _) _))
        clear hS2 hF2 hG2)
      |(with_reducible refine (show Calls Tryz.prog 32 #[.agg #[vI 1, vI 1, vI 2, .slice (some ⟨H + 1, 0, none⟩) 2 2]] ((wz.alloc nil2).drew) _ from liv_low _ ((wz.alloc nil2).drew)).mono ?_
        rintro e w2 ⟨g1, g2, gs, rfl, hS2, hF2⟩
        have hG2 : Fr (fun _ => False) wz w2 := (Fr.drew (Fr.alloc (Fr.refl _ wz) nil2)).trans hF2
        have HG2 : Hd (Fr (fun _ => False) wz w2) := hG2
        have HS2 : Hd (SmR w2 ((wz.alloc nil2).drew).heap.size 1 1 g1 g2 gs (fun _ => 9) (fun _ _ => 9)) := hS2
        obtain ⟨c0, c1, f0, f1, f2, f3⟩ := HCZ.out w2 hG2
        have HNN : Hd (w2.heap[wz.heap.size]? = some nil2) := keepF (show (wz.alloc nil2).drew.heap[wz.heap.size]? = some nil2 from heap_new0 wz nil2) hF2
        have HA1 : Hd (Calls Tryz.prog 13 #[.agg #[vI 0, .slice (some ⟨g, 0, none⟩) 1 1], vI 0, .slice (some ⟨w2.heap.size, 0, none⟩) 1 1] (w2.alloc (.cells #[.slice (some ⟨g1, 0, none⟩) 1 1, .slice (some ⟨g2, 0, none⟩) 1 1] 33)) (LivE (w2.alloc (.cells #[.slice (some ⟨g1, 0, none⟩) 1 1, .slice (some ⟨g2, 0, none⟩) 1 1] 33)))) := liv_fun _ wz (w2.alloc (.cells #[.slice (some ⟨g1, 0, none⟩) 1 1, .slice (some ⟨g2, 0, none⟩) 1 1] 33)) (HG2.out.alloc _) HFLz.out HTz.out HRz.out _ _ g1 g2 gs (heap_new0 w2 _) (HS2.out.keep (Fr.alloc (Fr.refl _ w2) _))
        clear hS2 hF2 hG2))
    |(go_at_call 13
      first
      |(have hq9 := HNN.out
        with_reducible refine HA1.out.mono ?_
        rintro e w3 ⟨hF3, eb, q1, q2, rfl, hst⟩
        have HK : Hd (LivK w (w2.alloc (.cells #[.slice (some ⟨g1, 0, none⟩) 1 1, .slice (some ⟨g2, 0, none⟩) 1 1] 33)) w3 eb q1 q2) := ⟨(HFz.out.trans (HG2.out.alloc _)).trans hF3, hst⟩
        obtain ⟨c0, c1, f0, f1, f2, f3⟩ := HCZ.out w3 ((HG2.out.alloc _).trans hF3)
        have h0 : 0 < (w2.alloc (.cells #[.slice (some ⟨g1, 0, none⟩) 1 1, .slice (some ⟨g2, 0, none⟩) 1 1] 33)).heap.size := by simp
        have bN : w3.heap[wz.heap.size]? = some nil2 := keepF (keepA HNN.out _) hF3
        have HBN : Hd (w3.heap[wz.heap.size]? = some nil2) := bN
        have n1 : wz.heap.size ≠ X := by have := HG2.out.size; omega
        have n2 : X ≠ wz.heap.size := by have := HG2.out.size; omega
        have n3 : wz.heap.size ≠ g := by have := HG2.out.size; omega
        have n4 : g ≠ wz.heap.size := by have := HG2.out.size; omega
        have HLN : Hd (wz.heap.size < (w2.alloc (.cells #[.slice (some ⟨g1, 0, none⟩) 1 1, .slice (some ⟨g2, 0, none⟩) 1 1] 33)).heap.size ∧ w.heap.size ≤ wz.heap.size) := ⟨heap_lt0 (keepA HNN.out _), by have := HG2.out.size; have := HFz.out.size; omega⟩
        have y0 : w3.cell? ⟨wz.heap.size, 0, none⟩ = some (.slice none 0 0) := by rw [cell_of0 bN]; rfl
        have y1 : w3.cell? ⟨wz.heap.size, 1, none⟩ = some (.slice none 0 0) := by rw [cell_of0 bN]; rfl
        have z0 := frozen_of bN 0
        have z1 := frozen_of bN 1
        clear bN
        clear hF3 hst)
      |(with_reducible refine HA1.out.mono ?_
        rintro e w3 ⟨hF3, eb, q1, q2, rfl, hst⟩
        have HK : Hd (LivK w (w2.alloc (.cells #[.slice (some ⟨g1, 0, none⟩) 1 1, .slice (some ⟨g2, 0, none⟩) 1 1] 33)) w3 eb q1 q2) := ⟨(HFz.out.trans (HG2.out.alloc _)).trans hF3, hst⟩
        obtain ⟨c0, c1, f0, f1, f2, f3⟩ := HCZ.out w3 ((HG2.out.alloc _).trans hF3)
        have h0 : 0 < (w2.alloc (.cells #[.slice (some ⟨g1, 0, none⟩) 1 1, .slice (some ⟨g2, 0, none⟩) 1 1] 33)).heap.size := by simp
        clear hF3 hst)
      |(with_reducible refine HA2.out.mono ?_
        rintro e w3 ⟨hF3, eb, q1, q2, rfl, hst⟩
        have HK : Hd (LivK w ((w2.alloc nil2).alloc (.cells #[.slice (some ⟨g1, 0, none⟩) 1 1, .slice (some ⟨g2, 0, none⟩) 1 1] 33)) w3 eb q1 q2) := ⟨(HFz.out.trans ((HG2.out.alloc _).alloc _)).trans hF3, hst⟩
        obtain ⟨c0, c1, f0, f1, f2, f3⟩ := HCZ.out w3 (((HG2.out.alloc _).alloc _).trans hF3)
        have h0 : 0 < ((w2.alloc nil2).alloc (.cells #[.slice (some ⟨g1, 0, none⟩) 1 1, .slice (some ⟨g2, 0, none⟩) 1 1] 33)).heap.size := by simp
        have bN : w3.heap[w2.heap.size]? = some nil2 := keepF (keepA (heap_new0 w2 _) _) hF3
        have HBN : Hd (w3.heap[w2.heap.size]? = some nil2) := bN
        have n1 : w2.heap.size ≠ X := by have := HG2.out.size; omega
        have n2 : X ≠ w2.heap.size := by have := HG2.out.size; omega
        have n3 : w2.heap.size ≠ g := by have := HG2.out.size; omega
        have n4 : g ≠ w2.heap.size := by have := HG2.out.size; omega
        have HLN : Hd (w2.heap.size < ((w2.alloc nil2).alloc (.cells #[.slice (some ⟨g1, 0, none⟩) 1 1, .slice (some ⟨g2, 0, none⟩) 1 1] 33)).heap.size ∧ w.heap.size ≤ w2.heap.size) := ⟨heap_lt0 (keepA (heap_new0 w2 _) _), by have := HG2.out.size; have := HFz.out.size; omega⟩
        have y0 : w3.cell? ⟨w2.heap.size, 0, none⟩ = some (.slice none 0 0) := by rw [cell_of0 bN]; rfl
        have y1 : w3.cell? ⟨w2.heap.size, 1, none⟩ = some (.slice none 0 0) := by rw [cell_of0 bN]; rfl
        have z0 := frozen_of bN 0
        have z1 := frozen_of bN 1
        clear bN
        clear hF3 hst)
      |(with_reducible refine HA3.out.mono ?_
        rintro e w3 ⟨hF3, eb, q1, q2, rfl, hst⟩
        have HK : Hd (LivK w ((w2.alloc (.cells #[.slice (some ⟨g1, 0, none⟩) 1 1, .slice (some ⟨g2, 0, none⟩) 1 1] 33)).alloc nil2) w3 eb q1 q2) := ⟨(HFz.out.trans ((HG2.out.alloc _).alloc _)).trans hF3, hst⟩
        obtain ⟨c0, c1, f0, f1, f2, f3⟩ := HCZ.out w3 (((HG2.out.alloc _).alloc _).trans hF3)
        have h0 : 0 < ((w2.alloc (.cells #[.slice (some ⟨g1, 0, none⟩) 1 1, .slice (some ⟨g2, 0, none⟩) 1 1] 33)).alloc nil2).heap.size := by simp
        have bN : w3.heap[w2.heap.size + 1]? = some nil2 := keepF (heap_new1 w2 _ _) hF3
        have HBN : Hd (w3.heap[w2.heap.size + 1]? = some nil2) := bN
        have n1 : (w2.heap.size + 1) ≠ X := by have := HG2.out.size; omega
        have n2 : X ≠ (w2.heap.size + 1) := by have := HG2.out.size; omega
        have n3 : (w2.heap.size + 1) ≠ g := by have := HG2.out.size; omega
        have n4 : g ≠ (w2.heap.size + 1) := by have := HG2.out.size; omega
        have HLN : Hd ((w2.heap.size + 1) < ((w2.alloc (.cells #[.slice (some ⟨g1, 0, none⟩) 1 1, .slice (some ⟨g2, 0, none⟩) 1 1] 33)).alloc nil2).heap.size ∧ w.heap.size ≤ (w2.heap.size + 1)) := ⟨heap_lt0 (heap_new1 w2 _ _), by have := HG2.out.size; have := HFz.out.size; omega⟩
        have y0 : w3.cell? ⟨w2.heap.size + 1, 0, none⟩ = some (.slice none 0 0) := by rw [cell_of0 bN]; rfl
        have y1 : w3.cell? ⟨w2.heap.size + 1, 1, none⟩ = some (.slice none 0 0) := by rw [cell_of0 bN]; rfl
        have z0 := frozen_of bN 0
        have z1 := frozen_of bN 1
        clear bN
        clear hF3 hst))))
  all_goals
   go_wp2_with fail
   go_meet
   unfold Hd
   first
    | with_reducible exact LivK.new HK.out h0
    | with_reducible exact LivK.set HK.out HLN.out.1 HLN.out.2 HBN.out
 case rest =>
  obtain ⟨eb, g1, g2, N, rfl, rfl, rfl, hN, hbl, hia, hla, hf⟩ := hcut
  have HN : Hd (wc.heap[N]? = some (.cells #[.slice (some ⟨g1, 0, none⟩) 1 1, .slice (some ⟨g2, 0, none⟩) 1 1] 33)) := hN
  have HIA : Hd (IA wc (.slice (some ⟨g1, 0, none⟩) 1 1) [0]) := hia
  have HLA : Hd (LA wc (.slice (some ⟨g2, 0, none⟩) 1 1) [[0]]) := hla
  have HF : Hd (Fr (fun _ => False) w wc) := hf
  have hfb : Fr (fun _ => False) wc (wc.alloc (.cells #[.bool false, .bool false, .bool true, .bool false] 4)) := Fr.alloc (Fr.refl _ wc) _
  have HFb : Hd (Fr (fun _ => False) wc (wc.alloc (.cells #[.bool false, .bool false, .bool true, .bool false] 4))) := hfb
  have HEQ : Hd (Calls Tryz.prog 21 #[.slice (some ⟨eb, 0, none⟩) 4 4, .slice (some ⟨wc.heap.size, 0, none⟩) 4 4] (wc.alloc (.cells #[.bool false, .bool false, .bool true, .bool false] 4)) fun e w' => e = .returned (.bool true) ∧ Fr (fun _ => False) (wc.alloc (.cells #[.bool false, .bool false, .bool true, .bool false] 4)) w') := eqBools_same _ _ [false, false, true, false] _ (hbl.stay hfb) (bl_lit wc) (by decide)
  clear hN hbl hia hla hf hfb HFz HFLz HTz HRz HCZ c0 c1 f0 f1 f2 f3 lX lg
  go_wp2_with fail
  refine HEQ.out.mono ?_
  rintro e w5 ⟨rfl, hF5⟩
  have HF5 : Hd (Fr (fun _ => False) wc w5) := HFb.out.trans hF5
  clear hF5 HEQ HFb
  have p0 : w5.cell? ⟨N, 0, none⟩ = some (.slice (some ⟨g1, 0, none⟩) 1 1) := by rw [cell_of0 (keepF HN.out HF5.out)]; rfl
  have hfc : Fr (fun _ => False) w5 (w5.alloc (.cells #[vI 0] 3)) := Fr.alloc (Fr.refl _ w5) _
  have HFc : Hd (Fr (fun _ => False) w5 (w5.alloc (.cells #[vI 0] 3))) := hfc
  have HEI : Hd (Calls Tryz.prog 40 #[.slice (some ⟨g1, 0, none⟩) 1 1, .slice (some ⟨w5.heap.size, 0, none⟩) 1 1] (w5.alloc (.cells #[vI 0] 3)) fun e w' => e = .returned (.bool true) ∧ Fr (fun _ => False) (w5.alloc (.cells #[vI 0] 3)) w') := eqInts_same _ _ [0] _ ((HIA.out.stay HF5.out).stay hfc) (ia_lit w5 0) (by decide)
  clear hfc
  go_wp2_with fail
  refine HEI.out.mono ?_
  rintro e w6 ⟨rfl, hF6⟩
  have HF6 : Hd (Fr (fun _ => False) wc w6) := (HF5.out.trans HFc.out).trans hF6
  clear hF6 HEI HFc p0
  have p1 : w6.cell? ⟨N, 1, none⟩ = some (.slice (some ⟨g2, 0, none⟩) 1 1) := by rw [cell_of0 (keepF HN.out HF6.out)]; rfl
  have hfd : Fr (fun _ => False) w6 ((w6.alloc (.cells #[vI 0] 3)).alloc (.cells #[.slice (some ⟨w6.heap.size, 0, none⟩) 1 1] 30)) := Fr.alloc (Fr.alloc (Fr.refl _ w6) _) _
  have HFd : Hd (Fr (fun _ => False) w6 ((w6.alloc (.cells #[vI 0] 3)).alloc (.cells #[.slice (some ⟨w6.heap.size, 0, none⟩) 1 1] 30))) := hfd
  have HEL : Hd (Calls Tryz.prog 41 #[.slice (some ⟨g2, 0, none⟩) 1 1, .slice (some ⟨w6.heap.size + 1, 0, none⟩) 1 1] ((w6.alloc (.cells #[vI 0] 3)).alloc (.cells #[.slice (some ⟨w6.heap.size, 0, none⟩) 1 1] 30)) fun e w' => e = .returned (.bool true) ∧ Fr (fun _ => False) ((w6.alloc (.cells #[vI 0] 3)).alloc (.cells #[.slice (some ⟨w6.heap.size, 0, none⟩) 1 1] 30)) w') := eqLists_same _ _ [[0]] _ ((HLA.out.stay HF6.out).stay hfd) (la_lit w6) (by decide) (by decide)
  clear hfd
  go_wp2_with fail
  refine HEL.out.mono ?_
  rintro e w7 ⟨rfl, hF7⟩
  have HF7 : Hd (Fr (fun _ => False) w w7) := (HF.out.trans HF6.out).trans (HFd.out.trans hF7)
  clear hF7 HEL HFd p1
  go_wp2_with fail
  go_ret
  exact ⟨rfl, HF7.out⟩
end Go.Proofs.YtdkijecnnmncnaaGreatDoor
