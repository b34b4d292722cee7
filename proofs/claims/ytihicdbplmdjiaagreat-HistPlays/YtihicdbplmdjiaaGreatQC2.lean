import Derived.Test.YtihicdbplmdjiaaGreatQB7J
import Derived.RangeFuncBox
import Derived.RangeFuncBound
import Derived.RangeFuncCalls
import Derived.Shelf.Abstract
import Derived.Shelf.RegionOpen
import Derived.OwnWalkIn
import Derived.TacticsInMore
import Derived.LoopNIn
import Derived.LoopIn
import Derived.Sort.BigQuietIn
import Derived.Sort.AtCallIn
set_option linter.unusedVariables false
set_option linter.unusedSimpArgs false
namespace Go.Proofs.YtihicdbplmdjiaaGreat
open Go.RowKit Go.Shelf
attribute [local go_sem] Oper.semAt_some

/-! ### the calls that must stand ahead of one, one after the other -/
/-- What a round keeps: what lay ahead of n0, and cells that are no sets. -/
structure KpA (n0 : Nat) (W W' : World) : Prop where
  below : Below n0 W W'
  typed : ∀ (k : Nat) cs t, W.heap[k]? = some (.cells cs t) → t ≠ 92 → W'.heap[k]? = some (.cells cs t)
theorem KpA.refl (n0 : Nat) (W : World) : KpA n0 W W := ⟨Below.refl _ _, fun _ _ _ h _ => h⟩
theorem KpA.trans {n0 : Nat} {A B C : World} (h : KpA n0 A B) (k : KpA n0 B C) : KpA n0 A C := ⟨h.below.trans k.below, fun i cs t hi h1 => k.typed i cs t (h.typed i cs t hi h1) h1⟩
theorem KpA.putObj {n0 l : Nat} {W : World} {r : Loop} (o' : Obj) (h : W.heap[l]? = some (.loop r)) (hl : n0 ≤ l) : KpA n0 W (W.putObj l o') :=
  ⟨(Below.refl n0 W).grown (grownBy_putObj' W l o') (by have := (Array.getElem?_eq_some_iff.1 h).1; omega) (fun k e => by cases e; omega), fun k cs t hk _ => by
    by_cases e : k = l
    · subst e; rw [h] at hk; cases hk
    · exact (World.putObj_heap_other e).trans hk⟩
theorem KpA.ofFr {n0 : Nat} {W W' : World} (f : Fr (fun _ => False) W W') (h : n0 ≤ W.heap.size) : KpA n0 W W' :=
  ⟨⟨f.os, f.tape, f.output, f.size, fun k hk => f.block k (by omega) (fun e => e)⟩, fun k cs t hk _ => (f.block k (heap_lt hk) (fun e => e)).trans hk⟩
theorem own_fr {β : Type} {B : Nat} {J : β → World → Prop} (h : OwnFrom B J) {s : β} {A A' : World} (hs : J s A) (f : Fr (fun _ => False) A A') : J s A' :=
  h s A A' none hs ⟨f.os, f.tape, f.output, f.size, fun k hk _ => f.block k hk (fun e => e)⟩ (fun r e => by cases e)

/-- The calls with numbers below k that must stand ahead of call i. -/
def aheadTo (cs : List Cl) (i k : Nat) : List Nat := (List.range k).filter (fun j => match cs[j]?, cs[i]? with | some c, some d => decide (j ≠ i) && precB c d | _, _ => false)
theorem aheadTo_succ (cs : List Cl) (i k : Nat) (c d : Cl) (hc : cs[k]? = some c) (hd : cs[i]? = some d) : aheadTo cs i (k + 1) = aheadTo cs i k ++ if decide (k ≠ i) && precB c d then [k] else [] := by
  unfold aheadTo
  rw [List.range_succ, List.filter_append]
  congr 1
  simp only [List.filter_cons, List.filter_nil, hc, hd]
theorem aheadTo_len (cs : List Cl) (i k : Nat) : (aheadTo cs i k).length ≤ k := by
  unfold aheadTo
  have := List.length_filter_le (fun j => match cs[j]?, cs[i]? with | some c, some d => decide (j ≠ i) && precB c d | _, _ => false) (List.range k)
  simpa using this
abbrev encN (j : Nat) : Array Value := #[vI j]

set_option maxRecDepth 100000 in
set_option maxHeartbeats 4000000 in
theorem ahead1_in (n : Nat) (l n0 Bp Bi mb i : Nat) (lv : Value) (cs : List Cl) (hi : i < cs.length) (hlen : cs.length ≤ 64) (W : World) (hn0 : n0 ≤ W.heap.size) (J : List Nat → World → Prop)
    (hY : ∀ pre x W, J pre W → pre.length < cs.length → YieldAt Fence.wide (n - 1) Tryz.prog l (encN x) W fun e W' => e = .returned (.bool true) ∧ J (pre ++ [x]) W' ∧ KpA n0 W W')
    (hJ : ∀ pre (W W' : World), J pre W → Fr (fun _ => False) W W' → J pre W')
    (hBp : W.heap[Bp]? = some (.cells #[lv, .map (some mb)] 59)) (hBi : W.heap[Bi]? = some (.cells #[vI i] 3))
    (hc : ∀ W', KpA n0 W W' → CAt W' lv cs) (h0 : J [] W) :
    CallsIn Fence.wide n Tryz.prog 67 #[.func (.yield l) #[] #[], .pointer (some ⟨Bp, 0, none⟩), .pointer (some ⟨Bi, 0, none⟩)] W fun e W' => (∃ v, e = .returned v) ∧ J (aheadTo cs i cs.length) W' := by
  obtain ⟨ad, cap, rfl, -⟩ := hc W (KpA.refl _ _)
  obtain ⟨g, cap2, e, -⟩ := (hc W (KpA.refl _ _)).look i hi
  obtain ⟨rfl, rfl⟩ : ad = some ⟨g, 0, none⟩ ∧ cap = cap2 := by injection e with a b c; exact ⟨a, c⟩
  clear e
  have HL : Hd (∀ W', KpA n0 W W' → ∀ k (hk : k < cs.length), cs[k].R.At W' ∧ COk cs[k] ∧ ∀ W2, Fr (fun _ => False) W' W2 → ∀ j, j < 9 → W2.cell? ⟨g, k * 9 + j, none⟩ = (c9 cs[k])[j]?) := fun W' x k hk => by
    obtain ⟨g', cap', e, h1, h2, h3⟩ := (hc W' x).look k hk
    have e1 : g = g' := by injection e with a b c; injection a with a; injection a
    subst e1
    exact ⟨h1, h2, h3⟩
  have HB : Hd (∀ W', KpA n0 W W' → W'.heap[Bp]? = some (.cells #[.slice (some ⟨g, 0, none⟩) cs.length cap, .map (some mb)] 59) ∧ W'.heap[Bi]? = some (.cells #[vI i] 3)) := fun W' x => ⟨x.typed _ _ _ hBp (by decide), x.typed _ _ _ hBi (by decide)⟩
  obtain ⟨m, em⟩ : ∃ m, m = cs.length := ⟨_, rfl⟩
  have EM : Hd (m = cs.length) := em
  have him : (i : Int) < m := by omega
  have hi0 : (0 : Int) ≤ i := by omega
  have p0 : W.cell? ⟨Bp, 0, none⟩ = some (.slice (some ⟨g, 0, none⟩) cs.length cap) := cell_of hBp 0
  rw [← em] at hY HB hlen p0 ⊢
  clear hc hBp hBi em
  refine callsIn_of_wp Tryz.func67 rfl trivial ?_ rfl
  simp only [Tryz.ntmps67, List.size_toArray, List.length_cons, List.length_nil, Nat.reduceAdd, Nat.reduceSub, Array.replicate_succ, Array.replicate_zero, List.push_toArray, List.append_toArray, List.nil_append, List.cons_append]
  gi_wp2
  gi_loopw [9] (fun v wr => ∃ k : Nat, k ≤ m ∧ v = .int .i64 k ∧ J (aheadTo cs i k) wr ∧ KpA n0 W wr) (fun v _ => m - (RowKit.intOf v).toNat)
  case atStart => exact ⟨0, Nat.zero_le _, rfl, h0, KpA.refl _ _⟩
  case round =>
    obtain ⟨k, hk, rfl, hJs, hnx⟩ := hrel
    have hn0w : n0 ≤ wr.heap.size := Nat.le_trans hn0 hnx.below.size
    by_cases hlt : k < m
    · have hkl : k < cs.length := by rw [← EM.out]; exact hlt
      have hil : i < cs.length := hi
      have hk0 : (0 : Int) ≤ k := by omega
      have hk1 : (k : Int) < m := by omega
      obtain ⟨hat, hok, hx⟩ := HL.out wr hnx k hkl
      obtain ⟨hat2, hok2, hx2⟩ := HL.out wr hnx i hil
      have hcell := hx wr (Fr.refl _ _)
      obtain ⟨c, ec⟩ : ∃ c, c = cs[k] := ⟨_, rfl⟩
      obtain ⟨d, ed⟩ : ∃ d, d = cs[i] := ⟨_, rfl⟩
      have hcl : cs[k]? = some c := by rw [List.getElem?_eq_getElem hkl, ec]
      have hdl : cs[i]? = some d := by rw [List.getElem?_eq_getElem hil, ed]
      have hS := aheadTo_succ cs i k c d hcl hdl
      rw [← ec] at hcell hat hok hx
      rw [← ed] at hat2 hok2 hx2
      have HPR : Hd (∀ W2, Fr (fun _ => False) wr W2 → Calls Tryz.prog 68 #[c.V, d.V] W2 fun e w' => e = .returned (.bool (precB c d)) ∧ Fr (fun _ => False) W2 w') := fun W2 f => precedes_any c d W2 (hat.fr f) hok.fine (hat2.fr f) hok2.fine
      obtain ⟨ka, kc, ek⟩ := row_slice hat.1
      obtain ⟨va, vc, ev⟩ := row_slice hat.2
      obtain ⟨ka2, kc2, ek2⟩ := row_slice hat2.1
      obtain ⟨va2, vc2, ev2⟩ := row_slice hat2.2
      have HX2 : Hd (∀ W2, Fr (fun _ => False) wr W2 → ∀ j, j < 9 → W2.cell? ⟨g, i * 9 + j, none⟩ = (c9 d)[j]?) := hx2
      clear hx hx2 hat hat2 hok hok2 ec ed hkl hil hcl hdl
      obtain ⟨P, hP⟩ : ∃ P, P = precB c d := ⟨_, rfl⟩
      rw [← hP] at HPR hS
      clear hP
      unfold c9 at hcell HX2
      have x0 := hcell 0 (by omega)
      have x1 := hcell 1 (by omega)
      have x2 := hcell 2 (by omega)
      have x3 := hcell 3 (by omega)
      have x4 := hcell 4 (by omega)
      have x5 := hcell 5 (by omega)
      have x6 := hcell 6 (by omega)
      have x7 := hcell 7 (by omega)
      have x8 := hcell 8 (by omega)
      simp only [List.getElem?_cons_zero, List.getElem?_cons_succ, Nat.add_zero] at x0 x1 x2 x3 x4 x5 x6 x7 x8
      clear hcell
      unfold Cl.V c9 at HPR
      obtain ⟨b, en, kd, ky, v, ⟨⟨ok, val, ks, vs⟩, kv, vv⟩⟩ := c
      obtain ⟨b', en', kd', ky', v', ⟨⟨ok', val', ks', vs'⟩, kv', vv'⟩⟩ := d
      simp only [List.length_map] at x0 x1 x2 x3 x4 x5 x6 x7 x8 ek ev ek2 ev2 HPR HX2
      subst ek ev ek2 ev2
      gi_wp2_with fail
      have hF2 : Fr (fun _ => False) wr (wr.alloc (.cells #[.int .i64 b, .int .i64 en, .int .i64 kd, .int .i64 ky, .string v, .bool ok, .string val, .slice ka ks.length kc, .slice va vs.length vc] 87)) := (Fr.refl _ wr).alloc _
      have hb2 := heap_alloc_last wr (.cells #[.int .i64 b, .int .i64 en, .int .i64 kd, .int .i64 ky, .string v, .bool ok, .string val, .slice ka ks.length kc, .slice va vs.length vc] 87)
      obtain ⟨W2, eW2⟩ : ∃ W2, W2 = wr.alloc (.cells #[.int .i64 b, .int .i64 en, .int .i64 kd, .int .i64 ky, .string v, .bool ok, .string val, .slice ka ks.length kc, .slice va vs.length vc] 87) := ⟨_, rfl⟩
      rw [← eW2] at hF2 hb2 ⊢
      obtain ⟨pm, epm⟩ : ∃ pm, pm = wr.heap.size := ⟨_, rfl⟩
      rw [← epm] at hb2 ⊢
      have hJ2 := hJ _ _ _ hJs hF2
      have hK2 : KpA n0 W W2 := hnx.trans (KpA.ofFr hF2 hn0w)
      have hn0v : n0 ≤ W2.heap.size := Nat.le_trans hn0w hF2.size
      have HPR2 : Hd (∀ W3, Fr (fun _ => False) W2 W3 → Calls Tryz.prog 68 #[.agg #[vI b, vI en, vI kd, vI ky, .string v, .bool ok, .string val, .slice ka ks.length kc, .slice va vs.length vc], .agg #[vI b', vI en', vI kd', vI ky', .string v', .bool ok', .string val', .slice ka2 ks'.length kc2, .slice va2 vs'.length vc2]] W3 fun e w' => e = .returned (.bool P) ∧ Fr (fun _ => False) W3 w') := fun W3 f => HPR.out W3 (hF2.trans f)
      have HCw : Hd (∀ w', Fr (fun _ => False) W2 w' → (w'.cell? ⟨pm, 0, none⟩ = some (vI b) ∧ w'.cell? ⟨pm, 1, none⟩ = some (vI en) ∧ w'.cell? ⟨pm, 2, none⟩ = some (vI kd) ∧ w'.cell? ⟨pm, 3, none⟩ = some (vI ky) ∧ w'.cell? ⟨pm, 4, none⟩ = some (.string v) ∧ w'.cell? ⟨pm, 5, none⟩ = some (.bool ok) ∧ w'.cell? ⟨pm, 6, none⟩ = some (.string val) ∧ w'.cell? ⟨pm, 7, none⟩ = some (.slice ka ks.length kc) ∧ w'.cell? ⟨pm, 8, none⟩ = some (.slice va vs.length vc)) ∧ w'.cell? ⟨Bp, 0, none⟩ = some (.slice (some ⟨g, 0, none⟩) m cap) ∧ w'.cell? ⟨Bi, 0, none⟩ = some (vI i) ∧ w'.cell? ⟨g, i * 9, none⟩ = some (vI b') ∧ w'.cell? ⟨g, i * 9 + 1, none⟩ = some (vI en') ∧ w'.cell? ⟨g, i * 9 + 2, none⟩ = some (vI kd') ∧ w'.cell? ⟨g, i * 9 + 3, none⟩ = some (vI ky') ∧ w'.cell? ⟨g, i * 9 + 4, none⟩ = some (.string v') ∧ w'.cell? ⟨g, i * 9 + 5, none⟩ = some (.bool ok') ∧ w'.cell? ⟨g, i * 9 + 6, none⟩ = some (.string val') ∧ w'.cell? ⟨g, i * 9 + 7, none⟩ = some (.slice ka2 ks'.length kc2) ∧ w'.cell? ⟨g, i * 9 + 8, none⟩ = some (.slice va2 vs'.length vc2)) := fun w' f => by
        have hh := HX2.out w' (hF2.trans f)
        obtain ⟨q1, q2⟩ := HB.out w' (hK2.trans (KpA.ofFr f hn0v))
        have y0 := hh 0 (by omega)
        have y1 := hh 1 (by omega)
        have y2 := hh 2 (by omega)
        have y3 := hh 3 (by omega)
        have y4 := hh 4 (by omega)
        have y5 := hh 5 (by omega)
        have y6 := hh 6 (by omega)
        have y7 := hh 7 (by omega)
        have y8 := hh 8 (by omega)
        simp only [List.getElem?_cons_zero, List.getElem?_cons_succ, Nat.add_zero] at y0 y1 y2 y3 y4 y5 y6 y7 y8
        exact ⟨nine ((f.block _ (heap_lt hb2) (fun e => e)).trans hb2), cell_of q1 0, cell_of q2 0, y0, y1, y2, y3, y4, y5, y6, y7, y8⟩
      clear eW2 epm hb2 hF2 hJs hnx hn0w HPR HX2 x0 x1 x2 x3 x4 x5 x6 x7 x8 p0
      by_cases hki : k = i
      · have d1 : ((k : Int) != (i : Int)) = false := by simp [hki]
        have e1 : decide ((k : Int) ≠ i) = false := by simp [hki]
        have e3 : (k : Int) = i := by omega
        have hS2 : aheadTo cs i (k + 1) = aheadTo cs i k := by rw [hS]; simp [hki]
        clear hS hki
        refine wpIn_region_quiet (C := fun w' => Fr (fun _ => False) W2 w') rfl (by kernel_rfl) (by kernel_rfl) ⟨rfl, rfl, rfl, Nat.le_refl _, fun _ _ _ => rfl⟩ ?_
        simp only [List.toList_toArray]
        repeat (first
         | (refine BigFrame.wpQuietIn_want (fun _ _ _ _ => trivial) rfl ?_
            intro K hK
            apply Exists.intro
            refine ⟨fun w' hw' => ?_, ?_⟩
            · obtain ⟨⟨y0, y1, y2, y3, y4, y5, y6, y7, y8⟩, p0, i0, z0, z1, z2, z3, z4, z5, z6, z7, z8⟩ := HCw.out w' hw'
              unfold Oper.quietAtIn
              go_simp
              first | exact ⟨rfl, rfl⟩ | rfl | exact ⟨trivial, rfl⟩
            refine hK _ ?_
            clear hK K
            go_simp)
         | (refine BigFrame.wpQuietIn_skip (fun _ _ _ _ => trivial) rfl ?_
            go_simp))
        refine wpQuietIn_nil ?_
        intro w5 hF5
        have hJ5 := hJ _ _ _ hJ2 hF5
        have hK5 : KpA n0 W w5 := hK2.trans (KpA.ofFr hF5 hn0v)
        clear HCw HPR2
        gi_wp2
        exact ⟨⟨k + 1, by omega, by simp; omega, by rw [hS2]; exact hJ5, hK5⟩, by simp [RowKit.intOf]; omega⟩
      · have d1 : ((k : Int) != (i : Int)) = true := by simp; omega
        have e1 : decide ((k : Int) ≠ i) = true := by simp; omega
        have e3 : ¬ (k : Int) = i := by omega
        cases P
        · have hS2 : aheadTo cs i (k + 1) = aheadTo cs i k := by rw [hS]; simp
          clear hS
          refine wpIn_region_quiet (C := fun w' => Fr (fun _ => False) W2 w') rfl (by kernel_rfl) (by kernel_rfl) ⟨rfl, rfl, rfl, Nat.le_refl _, fun _ _ _ => rfl⟩ ?_
          simp only [List.toList_toArray]
          repeat (first
           | (refine BigFrame.wpQuietIn_want (fun _ _ _ _ => trivial) rfl ?_
              intro K hK
              apply Exists.intro
              refine ⟨fun w' hw' => ?_, ?_⟩
              · obtain ⟨⟨y0, y1, y2, y3, y4, y5, y6, y7, y8⟩, p0, i0, z0, z1, z2, z3, z4, z5, z6, z7, z8⟩ := HCw.out w' hw'
                unfold Oper.quietAtIn
                go_simp
                first | exact ⟨rfl, rfl⟩ | rfl | exact ⟨trivial, rfl⟩
              refine hK _ ?_
              clear hK K
              go_simp)
           | (refine BigFrame.wpQuietIn_skip (fun _ _ _ _ => trivial) rfl ?_
              go_simp))
          refine BigFrame.wpQuietIn_want (fun _ _ _ _ => trivial) rfl ?_
          intro K hK
          apply Exists.intro
          refine ⟨fun w' hw' => ?_, ?_⟩
          · obtain ⟨⟨y0, y1, y2, y3, y4, y5, y6, y7, y8⟩, p0, i0, z0, z1, z2, z3, z4, z5, z6, z7, z8⟩ := HCw.out w' hw'
            unfold Oper.quietAtIn
            go_simp
            exact ⟨(fun h => by cases h), (callsIn_wide.2 (HPR2.out w' hw')).mono (fun e w2 ⟨he, hF⟩ => ⟨he, hw'.trans hF⟩)⟩
          refine hK _ ?_
          clear hK K
          go_simp
          repeat (first
           | (refine BigFrame.wpQuietIn_want (fun _ _ _ _ => trivial) rfl ?_
              intro K hK
              apply Exists.intro
              refine ⟨fun w' hw' => ?_, ?_⟩
              · obtain ⟨⟨y0, y1, y2, y3, y4, y5, y6, y7, y8⟩, p0, i0, z0, z1, z2, z3, z4, z5, z6, z7, z8⟩ := HCw.out w' hw'
                unfold Oper.quietAtIn
                go_simp
                first | exact ⟨rfl, rfl⟩ | rfl | exact ⟨trivial, rfl⟩
              refine hK _ ?_
              clear hK K
              go_simp)
           | (refine BigFrame.wpQuietIn_skip (fun _ _ _ _ => trivial) rfl ?_
              go_simp))
          refine wpQuietIn_nil ?_
          intro w5 hF5
          have hJ5 := hJ _ _ _ hJ2 hF5
          have hK5 : KpA n0 W w5 := hK2.trans (KpA.ofFr hF5 hn0v)
          clear HCw HPR2
          gi_wp2
          exact ⟨⟨k + 1, by omega, by simp, by rw [hS2]; exact hJ5, hK5⟩, by simp [RowKit.intOf]; omega⟩
        · have hS2 : aheadTo cs i (k + 1) = aheadTo cs i k ++ [k] := by rw [hS]; simp [hki]
          have hpl : (aheadTo cs i k).length < m := by have := aheadTo_len cs i k; omega
          clear hS
          refine wpIn_region_tail (y := 15) (C := fun w' => Fr (fun _ => False) W2 w') rfl (by kernel_rfl) (by kernel_rfl) (by kernel_rfl) (by decide) (by kernel_rfl) (by kernel_rfl) ⟨rfl, rfl, rfl, Nat.le_refl _, fun _ _ _ => rfl⟩ ?_
          simp only [List.take_succ_cons, List.take_zero]
          repeat (first
           | (refine BigFrame.wpQuietIn_want (fun _ _ _ _ => trivial) rfl ?_
              intro K hK
              apply Exists.intro
              refine ⟨fun w' hw' => ?_, ?_⟩
              · obtain ⟨⟨y0, y1, y2, y3, y4, y5, y6, y7, y8⟩, p0, i0, z0, z1, z2, z3, z4, z5, z6, z7, z8⟩ := HCw.out w' hw'
                unfold Oper.quietAtIn
                go_simp
                first | exact ⟨rfl, rfl⟩ | rfl | exact ⟨trivial, rfl⟩
              refine hK _ ?_
              clear hK K
              go_simp)
           | (refine BigFrame.wpQuietIn_skip (fun _ _ _ _ => trivial) rfl ?_
              go_simp))
          refine BigFrame.wpQuietIn_want (fun _ _ _ _ => trivial) rfl ?_
          intro K hK
          apply Exists.intro
          refine ⟨fun w' hw' => ?_, ?_⟩
          · obtain ⟨⟨y0, y1, y2, y3, y4, y5, y6, y7, y8⟩, p0, i0, z0, z1, z2, z3, z4, z5, z6, z7, z8⟩ := HCw.out w' hw'
            unfold Oper.quietAtIn
            go_simp
            exact ⟨(fun h => by cases h), (callsIn_wide.2 (HPR2.out w' hw')).mono (fun e w2 ⟨he, hF⟩ => ⟨he, hw'.trans hF⟩)⟩
          refine hK _ ?_
          clear hK K
          go_simp
          repeat (first
           | (refine BigFrame.wpQuietIn_want (fun _ _ _ _ => trivial) rfl ?_
              intro K hK
              apply Exists.intro
              refine ⟨fun w' hw' => ?_, ?_⟩
              · obtain ⟨⟨y0, y1, y2, y3, y4, y5, y6, y7, y8⟩, p0, i0, z0, z1, z2, z3, z4, z5, z6, z7, z8⟩ := HCw.out w' hw'
                unfold Oper.quietAtIn
                go_simp
                first | exact ⟨rfl, rfl⟩ | rfl | exact ⟨trivial, rfl⟩
              refine hK _ ?_
              clear hK K
              go_simp)
           | (refine BigFrame.wpQuietIn_skip (fun _ _ _ _ => trivial) rfl ?_
              go_simp))
          refine wpQuietIn_nil ?_
          intro w5 hF5
          have hJ5 := hJ _ _ _ hJ2 hF5
          have hK5 : KpA n0 W w5 := hK2.trans (KpA.ofFr hF5 hn0v)
          obtain ⟨fn5, tmps5, assign5, body5, hy5, hR5⟩ := hY _ k w5 hJ5 hpl
          refine wpAnyIn_only (k := 15) (by kernel_rfl) rfl rfl ?_
          unfold Oper.wpIn
          refine ⟨fun _ _ => trivial, ?_⟩
          go_simp
          refine ⟨(fun h => by cases h), hR5.mono ?_⟩
          rintro e w6 ⟨rfl, hJ6', hk6⟩
          have hJ6 : J (aheadTo cs i (k + 1)) w6 := by rw [hS2]; exact hJ6'
          have hK6 : KpA n0 W w6 := hK5.trans hk6
          clear hJ6' hk6 hR5 hy5 hJ5 hK5 hF5 HCw
          go_simp
          refine wpAnyIn_only (k := 16) (by kernel_rfl) rfl rfl ?_
          unfold Oper.wpIn
          refine ⟨fun _ _ => trivial, ?_⟩
          go_simp
          refine wpAnyIn_only (k := 17) (by kernel_rfl) rfl rfl ?_
          unfold Oper.wpIn
          refine ⟨fun _ _ => trivial, ?_⟩
          go_simp
          refine wpAnyIn_end (by kernel_rfl) ?_
          gi_wp2
          exact ⟨⟨k + 1, by omega, by simp, hJ6, hK6⟩, by simp [RowKit.intOf]; omega⟩
    · obtain rfl : k = m := by omega
      gi_wp2
      go_end0
      exact ⟨⟨_, rfl⟩, hJs⟩
end Go.Proofs.YtihicdbplmdjiaaGreat
