import Derived.Test.YtlmlmhinbkcpoaaGreatDoorQLjJ
import Derived.Deep.DeepCutAuto
import Derived.Deep.RegionHeld3
import Derived.StillTail
import Derived.StillTailTactics
import Derived.BigQuiet
namespace Go.Proofs.YtlmlmhinbkcpoaaGreatDoor
open Go.RowKit (wrap32 wrap64)
set_option linter.unusedVariables false
set_option linter.unusedSimpArgs false
set_option maxRecDepth 100000
set_option maxHeartbeats 4000000
theorem FO.shape {w : World} {B : Nat} {v : Value} {L : List FI} (h : FO w B v L) : ∃ a c, v = .slice a L.length c := by
  rcases h.row.2 with ⟨h2, h3⟩ | ⟨g, cap, cur, e, -⟩
  · exact ⟨none, 0, by rw [h2, h3]⟩
  · exact ⟨_, _, e⟩
theorem FO.far {S : Nat → Prop} {w w' : World} {B : Nat} {v : Value} {L : List FI} (h : FO w B v L) (f : Fr S w w') (hS : ∀ k, S k → k < B) : FO w' B v L := by
  have no : ∀ k, B ≤ k → ¬ S k := fun k hk e => by have := hS k e; omega
  refine ⟨ownsRow_frL h.row f (fun k e => no k (World.ownsRow.lt h.row k e).1), fun x hx => ⟨(h.code x hx).1.fr f (fun k e => no k (World.ownsRow.lt (h.code x hx).1.row k e).1) (fun y hy k e => ?_), (h.code x hx).2⟩⟩
  rcases e with e | e
  · exact no k (((h.code x hx).1.ints y hy).1.ge k e).1
  · exact no k (((h.code x hx).1.ints y hy).2.ge k e).1
theorem FO.mono {w : World} {B B' : Nat} {v : Value} {L : List FI} (h : FO w B v L) (hB : B' ≤ B) : FO w B' v L := ⟨World.ownsRow.mono h.row hB, fun x hx => ⟨(h.code x hx).1.mono hB, (h.code x hx).2⟩⟩
theorem copyProgram_any (G : Int) (v : Value) (fs : List PF) (w : World) (hl : FA w v fs) (hn : FineP fs) :
    Calls Tryz.prog 14 #[.agg #[vI G, v]] w fun e w' => ∃ v', e = .returned (.agg #[vI G, v']) ∧ FA w' v' fs ∧ Fr (fun _ => False) w w' := by
  obtain ⟨a1, b1, e1, -⟩ := id hl
  obtain ⟨wa, hwa⟩ : ∃ wa, wa = (w.alloc (.cells #[vI G, v] 24)).alloc (.cells #[vI 0, .slice none 0 0] 24) := ⟨_, rfl⟩
  have hF : Fr (fun _ => False) w wa := by rw [hwa]; exact Fr.alloc (Fr.alloc (Fr.refl _ w) _) _
  have hsz : wa.heap.size = w.heap.size + 2 := by rw [hwa]; simp
  have b1' : wa.heap[w.heap.size]? = some (.cells #[vI G, v] 24) := by
    rw [hwa, Go.RowKit.Below.heap_alloc _ _ _ (by simp)]; exact heap_new w _
  have b2' : wa.heap[w.heap.size + 1]? = some (.cells #[vI 0, .slice none 0 0] 24) := by
    rw [hwa, show w.heap.size + 1 = (w.alloc (.cells #[vI G, v] 24)).heap.size by simp]; exact heap_new _ _
  have HWA : Hd (wa = (w.alloc (.cells #[vI G, v] 24)).alloc (.cells #[vI 0, .slice none 0 0] 24)) := hwa
  have G1 : Hd (FA wa v fs) := hl.stay hF
  have HF : Hd (Fr (fun _ => False) w wa) := hF
  obtain ⟨H, hH⟩ : ∃ H, H = w.heap.size := ⟨_, rfl⟩
  have HH : Hd (H = w.heap.size) := hH
  have HSZ : Hd (wa.heap.size = H + 2) := by rw [hH]; exact hsz
  rw [← hH] at b1' b2'
  have B1 : Hd _ := b1'
  have B2 : Hd _ := b2'
  have p0 : wa.cell? ⟨H, 0, none⟩ = some (vI G) := by rw [cell_of b1']; rfl
  have p1 : wa.cell? ⟨H, 1, none⟩ = some v := by rw [cell_of b1']; rfl
  subst e1
  clear hl hF hsz hwa hH b1' b2'
  go_enter Tryz.func14, Tryz.ntmps14
  go_upto_region 1 with fail
  rw [← HWA.out, ← HH.out]
  clear HWA
  go_region_held3 (fun w' => w'.cell? ⟨H, 0, none⟩ = some (vI G) ∧ w'.cell? ⟨H, 1, none⟩ = some (.slice a1 fs.length b1)) (go_keep) ((
    go_at_call 30
    refine (show Calls Tryz.prog 30 #[.slice a1 fs.length b1] wa.drew _ from copyFuncs_any _ fs wa.drew G1.out hn).mono ?_
    rintro e w2 ⟨x', L, rfl, hx', hL, hF2⟩
    have hG2 : Fr (fun _ => False) wa w2 := (Fr.refl _ wa).drew.trans hF2
    have B1' : w2.heap[H]? = some (.cells #[vI G, .slice a1 fs.length b1] 24) := (hG2.block H (heap_lt B1.out) (fun e => e)).trans B1.out
    have B2' : w2.heap[H + 1]? = some (.cells #[vI 0, .slice none 0 0] 24) := (hG2.block (H + 1) (heap_lt B2.out) (fun e => e)).trans B2.out
    have s0 : w2.cell? ⟨H, 0, none⟩ = some (vI G) := by rw [cell_of B1']; rfl
    have s1 : w2.cell? ⟨H, 1, none⟩ = some (.slice a1 fs.length b1) := by rw [cell_of B1']; rfl
    have d0 : w2.cell? ⟨H + 1, 0, none⟩ = some (vI 0) := by rw [cell_of B2']; rfl
    have d1 : w2.cell? ⟨H + 1, 1, none⟩ = some (.slice none 0 0) := by rw [cell_of B2']; rfl
    have y0 := frozen_of B2' 0
    have y1 := frozen_of B2' 1
    have HX : Hd (FO w2 (H + 2) x' L) := hx'.mono (by have := HSZ.out; show H + 2 ≤ wa.heap.size; omega)
    have HLL : Hd (L.map (·.1) = fs) := hL
    have HF2 : Hd (Fr (fun _ => False) w w2) := HF.out.trans hG2
    have HB2 : Hd (w2.heap[H + 1]? = some (.cells #[vI 0, .slice none 0 0] 24)) := B2'
    obtain ⟨xa, xc, rfl⟩ := hx'.shape
    clear hx' hL hF2 hG2 B1' B2'))
  all_goals
    have HZ : Hd (((w2.setCell ⟨H + 1, 0, none⟩ (vI G)).setCell ⟨H + 1, 1, none⟩ (.slice xa L.length xc)).heap[H + 1]? = some (.cells #[vI G, .slice xa L.length xc] 24)) := set_of (set_of HB2.out 0 _) 1 _
    have fs6 : Fr (fun j => j = H + 1) w2 ((w2.setCell ⟨H + 1, 0, none⟩ (vI G)).setCell ⟨H + 1, 1, none⟩ (.slice xa L.length xc)) := Fr.setCell (S := fun j => j = H + 1) (Fr.setCell (S := fun j => j = H + 1) (Fr.refl _ w2) _ _ (Or.inl rfl)) _ _ (Or.inl rfl)
    have KX : Hd (FA ((w2.setCell ⟨H + 1, 0, none⟩ (vI G)).setCell ⟨H + 1, 1, none⟩ (.slice xa L.length xc)) (.slice xa L.length xc) fs) := by
      have := (HX.out.far fs6 (fun k e => by omega)).fa
      rw [HLL.out] at this
      exact this
    have KF : Hd (Fr (fun _ => False) w ((w2.setCell ⟨H + 1, 0, none⟩ (vI G)).setCell ⟨H + 1, 1, none⟩ (.slice xa L.length xc))) := Fr.then HF2.out fs6 (fun j hj e => by have := HH.out; omega)
    clear fs6
    go_wp2_with fail
    generalize (w2.setCell ⟨H + 1, 0, none⟩ (vI G)).setCell ⟨H + 1, 1, none⟩ (.slice xa L.length xc) = wz at *
    have e0 : wz.cell? ⟨H + 1, 0, none⟩ = some (vI G) := by rw [cell_of HZ.out]; rfl
    have e1 : wz.cell? ⟨H + 1, 1, none⟩ = some (.slice xa L.length xc) := by rw [cell_of HZ.out]; rfl
    refine bodyPost_ret (v := .agg #[vI G, .slice xa L.length xc]) ?_ rfl ⟨_, rfl, KX.out, KF.out⟩
    rw [results_cell (p := 2) (ty := 24) Tryz.results14]
    simp [go_sem, e0, e1]
def PI.put (c : PI) (o : Nat) (z : Int) : PI := if o = 0 then { c with op := z } else { c with n := z }
theorem iR_put (c : PI) (p : Value × Value) {o : Nat} (ho : o = 0 ∨ o = 4) (z : Int) : iR (c.put o z) p = (iR c p).set o (vI z) := by
  rcases ho with rfl | rfl <;> rfl
theorem put_args (c : PI) (o : Nat) (z : Int) : (c.put o z).args = c.args ∧ (c.put o z).rets = c.rets := by
  unfold PI.put; split <;> exact ⟨rfl, rfl⟩
def Like (fs fs' : List PF) : Prop := fs'.length = fs.length ∧ ∀ j : Nat, fs'[j]?.map (fun f : PF => f.code.length) = fs[j]?.map (fun f : PF => f.code.length)
theorem Like.refl (fs : List PF) : Like fs fs := ⟨rfl, fun _ => rfl⟩
theorem Like.trans {a b c : List PF} (h : Like a b) (k : Like b c) : Like a c := ⟨k.1.trans h.1, fun j => (k.2 j).trans (h.2 j)⟩
theorem FineC.put {cs : List PI} (h : FineC cs) (k o : Nat) (hk : k < cs.length) (z : Int) : FineC (cs.set k (cs[k].put o z)) := by
  refine ⟨by rw [List.length_set]; exact h.1, fun c hc => ?_⟩
  rcases List.mem_or_eq_of_mem_set hc with hc | rfl
  · exact h.2 c hc
  · rw [(put_args _ _ _).1, (put_args _ _ _).2]; exact h.2 _ (List.getElem_mem hk)
theorem WF.code1 {w : World} {B : Nat} {v : Value} {fs : List PF} {g : Nat} {cv : Nat → Value} (h : WF w B v fs g cv) {i k o : Nat} (hi : i < fs.length) (hk : k < fs[i].code.length) (ho : o = 0 ∨ o = 4) {gc : Nat} (hgc : (cv i).ownBlock = some gc) (z : Int) :
    ∃ fs', Like fs fs' ∧ (FineP fs → FineP fs') ∧ WF (w.setCell ⟨gc, k * 7 + o, none⟩ (vI z)) B v fs' g cv := by
  have hci := h.code i fs[i] (List.getElem?_eq_getElem hi)
  have hne := hci.ne h.row (by decide) gc hgc
  have f := setCell_fr w gc (k * 7 + o) (vI z)
  refine ⟨fs.set i { fs[i] with code := fs[i].code.set k (fs[i].code[k].put o z) }, ⟨by simp, fun j => ?_⟩, fun hf => ⟨by rw [List.length_set]; exact hf.1, fun x hx => ?_⟩, ?_⟩
  · rw [List.getElem?_set]
    by_cases e : i = j
    · subst e
      rw [if_pos rfl, if_pos hi, List.getElem?_eq_getElem hi]
      simp
    · rw [if_neg e]
  · rcases List.mem_or_eq_of_mem_set hx with hx | rfl
    · exact hf.2 x hx
    · exact (hf.2 _ (List.getElem_mem hi)).put k o hk z
  · have hget : ∀ j, (fs.set i { fs[i] with code := fs[i].code.set k (fs[i].code[k].put o z) })[j]? = if i = j then some { fs[i] with code := fs[i].code.set k (fs[i].code[k].put o z) } else fs[j]? := fun j => by
      rw [List.getElem?_set]
      by_cases e : i = j
      · subst e; rw [if_pos rfl, if_pos rfl, if_pos hi]
      · rw [if_neg e, if_neg e]
    refine ⟨by rw [List.length_set]; exact h.val, h.ge, ?_, fun j x hx => ?_, fun a b ha hb => h.apart a b (by rw [List.length_set] at ha; exact ha) (by rw [List.length_set] at hb; exact hb)⟩
    · rw [List.length_set]
      refine (h.row.fr f (fun e => hne e.symm)).congr (fun j _ => ?_)
      unfold wideF
      rw [hget j]
      by_cases e : i = j
      · subst e; rw [if_pos rfl, List.getElem?_eq_getElem hi]
      · rw [if_neg e]
    · rw [hget j] at hx
      by_cases e : i = j
      · subst e
        rw [if_pos rfl] at hx
        cases hx
        obtain ⟨g', ps, ev, h1, h2, h3⟩ := hci
        have eg : g' = gc := by rw [ev] at hgc; cases hgc; rfl
        subst eg
        refine ⟨g', ps, by rw [ev]; simp, h1, ?_, fun q c hc => ?_⟩
        · simp only [List.length_set]
          have := h2.set1 (i := k) (o := o) (by omega) (by omega) (wideC_len _ _ _) (vI z)
          refine this.congr (fun q _ => ?_)
          unfold wideC
          rw [List.getElem?_set]
          by_cases eq : k = q
          · subst eq
            rw [at1_self, if_pos rfl, if_pos hk, List.getElem?_eq_getElem hk]
            exact (iR_put _ _ ho z).symm
          · rw [at1_ne _ _ (Ne.symm eq), if_neg eq]
        · rw [List.getElem?_set] at hc
          by_cases eq : k = q
          · subst eq
            rw [if_pos rfl, if_pos hk] at hc
            cases hc
            have hw := h3 k fs[i].code[k] (List.getElem?_eq_getElem hk)
            rw [(put_args _ _ _).1, (put_args _ _ _).2]
            exact ⟨hw.1.fr f (hw.1.ne h2 (by decide)), hw.2.fr f (hw.2.ne h2 (by decide))⟩
          · rw [if_neg eq] at hc
            have hw := h3 q c hc
            exact ⟨hw.1.fr f (hw.1.ne h2 (by decide)), hw.2.fr f (hw.2.ne h2 (by decide))⟩
      · rw [if_neg e] at hx
        have hj : j < fs.length := (List.getElem?_eq_some_iff.1 hx).1
        obtain ⟨gi, psi, evi, -, hri, -⟩ := hci
        have egi : gi = gc := by rw [evi] at hgc; cases hgc; rfl
        subst egi
        have hap := h.apart i j hi hj e
        obtain ⟨g', ps, ev, h1, h2, h3⟩ := h.code j x hx
        have hgg : g' ≠ gi := fun e2 => by
          subst e2
          rw [hgc, ev] at hap
          exact hap rfl
        exact ⟨g', ps, ev, h1, h2.fr f hgg, fun q c hc => ⟨(h3 q c hc).1.fr f ((h3 q c hc).1.ne hri (by decide)), (h3 q c hc).2.fr f ((h3 q c hc).2.ne hri (by decide))⟩⟩
theorem row_setG {w : World} {B e sz n g cap j : Nat} {xs : List Value} (h : w.ownsRow B e sz (.slice (some ⟨g, 0, none⟩) n cap) n xs) (u : Value) :
    (w.setCell ⟨g, j, none⟩ u).ownsRow B e sz (.slice (some ⟨g, 0, none⟩) n cap) n (xs.set j u) ∧ w.frozen? ⟨g, j, none⟩ = false := by
  obtain ⟨h0, h1⟩ := h
  rcases h1 with ⟨e1, -⟩ | ⟨g', cap', cur, e1, k1, k2, k3, k4, k5, k6⟩
  · cases e1
  · cases e1
    refine ⟨⟨by rw [List.length_set]; exact h0, Or.inr ⟨g, cap, cur.setIfInBounds j u, rfl, k1, set_of k2 j u, k3, k4, by simpa using k5, ?_⟩⟩, frozen_of k2 j⟩
    rw [← k6, Array.toList_setIfInBounds, List.take_set]
def blkS (x : SI) (k : Nat) : Prop := x.2.1.ownBlock = some k ∨ ∃ u ∈ x.2.2.2, u.ownBlock = some k
structure SsP (w : World) (B : Nat) (v : Value) (L : List SI) : Prop where
  so : SsO w B v L
  ap : ∀ i j (hi : i < L.length) (hj : j < L.length), i ≠ j → ∀ k, blkS L[i] k → ¬ blkS L[j] k
theorem SO.blk {w : World} {B : Nat} {s : PS} {hv rv : Value} {us : List Value} (h : SO w B hv rv us s) {k : Nat} (hk : blkS (s, hv, rv, us) k) : B ≤ k ∧ k < w.heap.size := by
  rcases hk with hk | ⟨u, hu, hk⟩
  · exact h.oh.ge k hk
  · have hu : u ∈ us := hu
    obtain ⟨i, hi, rfl⟩ := List.mem_iff_getElem.1 hu
    exact (h.lo.each i hi (by have := h.lo.ul; omega)).ge k hk
theorem SsP.stay {w w' : World} {B : Nat} {v : Value} {L : List SI} (h : SsP w B v L) (f : Fr (fun _ => False) w w') : SsP w' B v L := ⟨h.so.stay f, h.ap⟩
theorem iown_set {w : World} {B g cap : Nat} {l : List Int} (h : IOwn w B (.slice (some ⟨g, 0, none⟩) l.length cap) l) (k : Nat) (d : Int) : IOwn (w.setCell ⟨g, k, none⟩ (vI d)) B (.slice (some ⟨g, 0, none⟩) l.length cap) (l.set k d) := by
  have := (row_setG (j := k) h (vI d)).1
  unfold IOwn
  rw [List.length_set, List.map_set]
  exact this
theorem SO.setH {w : World} {B g cap : Nat} {hv rv : Value} {us : List Value} {s : PS} (h : SO w B hv rv us s) (e : hv = .slice (some ⟨g, 0, none⟩) s.H.length cap) (k : Nat) (d : Int) : SO (w.setCell ⟨g, k, none⟩ (vI d)) B hv rv us ⟨s.H.set k d, s.R⟩ := by
  have f := setCell_fr w g k (vI d)
  have hg : hv.ownBlock = some g := by rw [e]; rfl
  refine ⟨?_, ⟨ownsRow_frL h.lo.row f (fun j ej e2 => ?_), h.lo.ul, fun i hi hk => (h.lo.each i hi hk).fr f (fun j ej e2 => ?_), h.lo.apart⟩, h.ap⟩
  · subst e
    exact iown_set h.oh k d
  · subst e2
    exact own_apart h.lo.row h.oh (by decide) j hg ej
  · subst e2
    exact h.ap i hi j ej hg
theorem SO.setR {w : World} {B g cap k : Nat} {hv rv : Value} {us : List Value} {s : PS} (h : SO w B hv rv us s) (hk : k < us.length) (hk' : k < s.R.length) (e : us[k] = .slice (some ⟨g, 0, none⟩) s.R[k].length cap) (j : Nat) (d : Int) : SO (w.setCell ⟨g, j, none⟩ (vI d)) B hv rv us ⟨s.H, s.R.set k (s.R[k].set j d)⟩ := by
  have f := setCell_fr w g j (vI d)
  have hg : us[k].ownBlock = some g := by rw [e]; rfl
  refine ⟨h.oh.fr f (fun j ej e2 => ?_), ⟨ownsRow_frL h.lo.row f (fun j ej e2 => ?_), by rw [List.length_set]; exact h.lo.ul, fun i hi hi' => ?_, h.lo.apart⟩, h.ap⟩
  · subst e2
    exact h.ap k hk j hg ej
  · subst e2
    exact own_apart h.lo.row (h.lo.each k hk hk') (by decide) j hg ej
  · have hi2 : i < s.R.length := by simpa using hi'
    by_cases ei : i = k
    · subst ei
      have e1 : (s.R.set i (s.R[i].set j d))[i] = s.R[i].set j d := List.getElem_set_self _
      show IOwn _ _ _ ((s.R.set i (s.R[i].set j d))[i])
      rw [e1, e]
      have := h.lo.each i hi hi2
      rw [e] at this
      exact iown_set this j d
    · have e1 : (s.R.set k (s.R[k].set j d))[i] = s.R[i] := List.getElem_set_ne (Ne.symm ei) _
      show IOwn _ _ _ ((s.R.set k (s.R[k].set j d))[i])
      rw [e1]
      exact (h.lo.each i hi hi2).fr f (fun q eq e2 => by subst e2; exact h.lo.apart i k hi hk ei q eq hg)
abbrev putS (x : SI) (s : PS) : SI := (s, x.2)
theorem flat_put {L : List SI} {i : Nat} {s : PS} (hi : i < L.length) : (L.set i (putS L[i] s)).flatMap rowS = L.flatMap rowS := by
  have e : (L.set i (putS L[i] s)).map rowS = L.map rowS := by
    rw [List.map_set]
    have : rowS (putS L[i] s) = (L.map rowS)[i]'(by simpa using hi) := by simp
    rw [this, List.set_getElem_self]
  rw [List.flatMap_def, e, ← List.flatMap_def]
theorem SsP.put {w w' : World} {B g i : Nat} {v : Value} {L : List SI} {s : PS} (h : SsP w B v L) (hi : i < L.length) (hg : blkS L[i] g) (f : Fr (fun j => j = g) w w') (hs : SO w' B L[i].2.1 L[i].2.2.1 L[i].2.2.2 s) : SsP w' B v (L.set i (putS L[i] s)) := by
  have hti : ∃ u l, IOwn w B u l ∧ u.ownBlock = some g := by
    have hx := h.so.each L[i] (List.getElem_mem hi)
    rcases hg with hg | ⟨u, hu, hg⟩
    · exact ⟨_, _, hx.oh, hg⟩
    · obtain ⟨q, hq, rfl⟩ := List.mem_iff_getElem.1 hu
      exact ⟨_, _, hx.lo.each q hq (by have := hx.lo.ul; omega), hg⟩
  obtain ⟨gu, gl, hgu, hgb⟩ := hti
  have hb : ∀ q (hq : q < L.length) k, blkS ((L.set i (putS L[i] s))[q]'(by simpa using hq)) k → blkS L[q] k := fun q hq k hk => by
    rw [List.getElem_set] at hk
    split at hk
    · rename_i e
      subst e
      exact hk
    · exact hk
  refine ⟨⟨?_, fun x hx => ?_⟩, fun a b ha hb' hne k e1 e2 => ?_⟩
  · rw [flat_put hi, List.length_set]
    exact ownsRow_frL h.so.row f (fun j ej e2 => by subst e2; exact own_apart h.so.row hgu (by decide) j hgb ej)
  · obtain ⟨q, hq, rfl⟩ := List.mem_iff_getElem.1 hx
    have hq' : q < L.length := by simpa using hq
    rw [List.getElem_set]
    split
    · exact hs
    · rename_i hne
      have hx := h.so.each L[q] (List.getElem_mem hq')
      have no : ∀ k, blkS L[q] k → ¬ k = g := fun k hk e => by
        subst e
        exact h.ap i q hi hq' hne k hg hk
      exact hx.other f (fun k e => no k (Or.inl e)) (fun k e e2 => by subst e2; exact own_apart hx.lo.row hgu (by decide) k hgb e) (fun p hp k e => no k (Or.inr ⟨_, List.getElem_mem hp, e⟩))
  · have ha' : a < L.length := by simpa using ha
    have hb2 : b < L.length := by simpa using hb'
    exact h.ap a b ha' hb2 hne k (hb a ha' k e1) (hb b hb2 k e2)
theorem castG (i : Nat) : Value.int .i64 ((i : Int) + 1) = Value.int .i64 ((i + 1 : Nat) : Int) := by simp
theorem measG {i n : Nat} (h : i < n) : n - ((i : Int) + 1).toNat < n - (i : Int).toNat := by omega
def MK (w : World) (B : Nat) (v : Value) (c : Int) : Prop := ∃ g, v = .slice (some ⟨g, 0, none⟩) 1 1 ∧ B ≤ g ∧ w.heap[g]? = some (.cells #[vI c] 3)
theorem MK.fr {S : Nat → Prop} {w w' : World} {B : Nat} {v : Value} {c : Int} (h : MK w B v c) (f : Fr S w w') (hS : ∀ k, v.ownBlock = some k → ¬ S k) : MK w' B v c := by
  obtain ⟨g, rfl, h1, h2⟩ := h
  exact ⟨g, rfl, h1, (f.block g (heap_lt h2) (hS g rfl)).trans h2⟩
theorem MK.stay {w w' : World} {B : Nat} {v : Value} {c : Int} (h : MK w B v c) (f : Fr (fun _ => False) w w') : MK w' B v c := h.fr f (fun _ _ e => e)
theorem MK.mono {w : World} {B B' : Nat} {v : Value} {c : Int} (h : MK w B v c) (hB : B' ≤ B) : MK w B' v c := by
  obtain ⟨g, rfl, h1, h2⟩ := h
  exact ⟨g, rfl, by omega, h2⟩
theorem MK.new (w : World) (c : Int) : MK (w.alloc (.cells #[vI c] 3)) w.heap.size (.slice (some ⟨w.heap.size, 0, none⟩) 1 1) c := ⟨_, rfl, Nat.le_refl _, heap_new w _⟩
theorem MK.ne {w : World} {B g m : Nat} {t sz : Nat} {R : Nat → List Value} {v : Value} {c : Int} (h : MK w B v c) (hR : Rws w t sz g m R) (ht : t ≠ 3) : ∀ k, v.ownBlock = some k → k ≠ g := by
  obtain ⟨g', rfl, -, h'⟩ := h
  obtain ⟨cs, h2, -⟩ := hR
  intro k e1 e2
  cases e1
  subst e2
  rw [h'] at h2
  cases h2
  exact ht rfl
theorem WI.stay {w w' : World} {B : Nat} {v : Value} {l : List Int} (h : WI w B v l) (f : Fr (fun _ => False) w w') : WI w' B v l := h.fr f (fun _ _ e => e)
structure WL (w : World) (B : Nat) (v : Value) (ls : List (List Int)) (g : Nat) (us : Nat → Value) : Prop where
  val : v = .slice (some ⟨g, 0, none⟩) ls.length (ls.length + 64)
  ge : B ≤ g
  row : Rws w 40 1 g (ls.length + 64) (fun i => [us i])
  each : ∀ i (h : i < ls.length), WI w B (us i) ls[i]
  mark : ∀ i, ls.length ≤ i → i < ls.length + 64 → MK w B (us i) (-78)
  apart : ∀ i j, i < ls.length → j < ls.length → i ≠ j → (us i).ownBlock ≠ (us j).ownBlock
theorem WL.stay {w w' : World} {B : Nat} {v : Value} {ls : List (List Int)} {g : Nat} {us : Nat → Value} (h : WL w B v ls g us) (f : Fr (fun _ => False) w w') : WL w' B v ls g us :=
  ⟨h.val, h.ge, h.row.fr f (fun e => e), fun i hi => (h.each i hi).stay f, fun i h1 h2 => (h.mark i h1 h2).stay f, h.apart⟩
theorem WL.mono {w : World} {B B' : Nat} {v : Value} {ls : List (List Int)} {g : Nat} {us : Nat → Value} (h : WL w B v ls g us) (hB : B' ≤ B) : WL w B' v ls g us :=
  ⟨h.val, Nat.le_trans hB h.ge, h.row, fun i hi => (h.each i hi).mono hB, fun i h1 h2 => (h.mark i h1 h2).mono hB, h.apart⟩
theorem underLL : Tryz.prog.underlying 41 = some (.slice 40) := by kernel_rfl
theorem makeLL (n : Nat) (hn : n ≤ 5864062014700) (w : World) : (Instr.makeSlice 41 (.int .i64 n) (.int .i64 n)).run Tryz.prog w = .ok (.slice (some ⟨w.heap.size, 0, none⟩) n n) (w.alloc (.cells (Array.replicate n (.slice none 0 0)) 40)) := by
  rw [run_make_of 41 40 (.slice none 0 0) 1 24 underLL (by kernel_rfl) (by kernel_rfl) (by kernel_rfl) n (by omega) (by omega) w, Nat.mul_one]
  congr 2
  congr 1
  unfold madeCells
  apply Array.ext
  · simp
  · intro i h1 h2
    simp [Nat.mod_one, Value.cells]
theorem wideLists_any (v : Value) (ls : List (List Int)) (w : World) (hl : LA w v ls) (hn : ls.length ≤ 5864062014634) (hll : ∀ l ∈ ls, l.length ≤ 17592186043904) : Calls Tryz.prog 18 #[v] w fun e w' => ∃ v' g us, e = .returned v' ∧ WL w' w.heap.size v' ls g us ∧ Fr (fun _ => False) w w' := by
  obtain ⟨a, cp, rfl, h0⟩ := hl
  have H0 : Hd _ := h0
  have HLL : Hd (∀ l ∈ ls, l.length ≤ 17592186043904) := hll
  clear h0 hll
  obtain ⟨n, hnl⟩ : ∃ n, n = ls.length := ⟨_, rfl⟩
  have HN : Hd (n = ls.length) := hnl
  rw [← hnl] at hn ⊢
  clear hnl
  have hmk := makeLL (n + 64) (by omega) w
  have hcast : ((n + 64 : Nat) : Int) = (n : Int) + 64 := by omega
  rw [hcast] at hmk
  have HR : Hd (Rws (w.alloc (.cells (Array.replicate (n + 64) (.slice none 0 0)) 40)) 40 1 w.heap.size (n + 64) (fun i => [if i < 0 then undef else .slice none 0 0])) := (Rws.made w 40 (n + 64) (.slice none 0 0)).congr (fun i _ => by simp)
  have HF : Hd (Fr (fun _ => False) w (w.alloc (.cells (Array.replicate (n + 64) (.slice none 0 0)) 40))) := Fr.alloc (Fr.refl _ w) _
  obtain ⟨H, hH⟩ : ∃ H, H = w.heap.size := ⟨_, rfl⟩
  have HH : Hd (H = w.heap.size) := hH
  rw [← hH] at hmk HR
  clear hH
  go_enter Tryz.func18, Tryz.ntmps18
  go_wp2_with fail
  generalize w.alloc (.cells (Array.replicate (n + 64) (.slice none 0 0)) 40) = wb at *
  clear hmk
  go_loopw [4] (fun v wr => ∃ (k : Nat) (us : Nat → Value), v = .int .i64 k ∧ k ≤ n + 64 ∧ Hd (Rws wr 40 1 H (n + 64) (fun i => [if i < k then us i else .slice none 0 0])) ∧ Hd (∀ i (h : i < ls.length), i < k → WI wr w.heap.size (us i) ls[i]) ∧ Hd (∀ i, n ≤ i → i < k → MK wr w.heap.size (us i) (-78)) ∧ Hd (∀ i j, i < k → j < k → i < n → j < n → i ≠ j → (us i).ownBlock ≠ (us j).ownBlock) ∧ Hd (Fr (fun _ => False) w wr)) (fun v _ => match v with | .int _ q => n + 64 - q.toNat | _ => 0)
  case atStart => exact ⟨0, fun _ => undef, rfl, Nat.zero_le _, HR.out, fun i _ hi => absurd hi (Nat.not_lt_zero _), fun i _ hi => absurd hi (Nat.not_lt_zero _), fun i j hi => absurd hi (Nat.not_lt_zero _), HF.out⟩
  case round =>
    clear HR HF
    obtain ⟨k, us, rfl, hk, HR, HW, HM, HA, HF⟩ := hrel
    by_cases hlt : k < n + 64
    · have hk0 : (0 : Int) ≤ k := by omega
      have hk1 : (k : Int) < (n : Int) + 64 := by omega
      have HST : Hd (∀ w3 x, Rws w3 40 1 H (n + 64) (fun i => [if i < k then us i else .slice none 0 0]) → Rws (w3.setCell ⟨H, k, none⟩ x) 40 1 H (n + 64) (fun i => [if i < k + 1 then at1 us k x i else .slice none 0 0])) := fun w3 x h => by
        have h1 := h.set1 (i := k) (o := 0) hlt (by omega) rfl x
        rw [Nat.mul_one, Nat.add_zero] at h1
        refine h1.congr (fun i _ => ?_)
        by_cases e : i = k
        · subst e
          rw [at1_self]
          show [x] = [if i < i + 1 then at1 us i x i else .slice none 0 0]
          rw [if_pos (Nat.lt_succ_self i), at1_self]
        · rw [at1_ne _ _ e, at1_ne _ _ e]
          by_cases e2 : i < k
          · rw [if_pos e2, if_pos (by omega)]
          · rw [if_neg e2, if_neg (by omega)]
      by_cases hin : k < n
      · have hk2 : (k : Int) < n := by omega
        have d1 : decide ((k : Int) < n) = true := by simpa using hk2
        have hkc : k < ls.length := by have := HN.out; omega
        obtain ⟨ak, ao, rfl, hak, hcells⟩ := H0.out (by intro e; simp [e] at hkc)
        obtain ⟨u, hu1, hu2⟩ := hcells k hkc
        have q0 := (HF.out.cell hak (fun e => e)).trans hu1
        have HIA : Hd (IA wr u ls[k]) := hu2.stay HF.out
        have hzk := HLL.out _ (List.getElem_mem hkc)
        obtain ⟨xa, xc, eu, -⟩ := hu2
        subst eu
        have hct := wideInts_any _ ls[k] wr HIA.out hzk
        clear hcells hu1
        go_wp2_with fail
        refine hct.mono ?_
        rintro e w3 ⟨v3, rfl, hv3, hF3⟩
        have HR3 : Hd (Rws w3 40 1 H (n + 64) (fun i => [if i < k then us i else .slice none 0 0])) := HR.out.fr hF3 (fun e => e)
        have HV3 : Hd (WI w3 w.heap.size v3 ls[k]) := hv3.mono HF.out.size
        have HG3 : Hd (∀ j, v3.ownBlock = some j → wr.heap.size ≤ j) := fun j e => (hv3.ge j e).1
        have HF3 : Hd (Fr (fun _ => False) w w3) := HF.out.trans hF3
        have HW3 : Hd (∀ i (h : i < ls.length), i < k → WI w3 w.heap.size (us i) ls[i]) := fun i h hi => (HW.out i h hi).stay hF3
        have HL3 : Hd (∀ i (h : i < ls.length), i < k → ∀ j, (us i).ownBlock = some j → j < wr.heap.size) := fun i h hi j e => ((HW.out i h hi).ge j e).2
        have HM3 : Hd (∀ i, n ≤ i → i < k → MK w3 w.heap.size (us i) (-78)) := fun i h1 h2 => (HM.out i h1 h2).stay hF3
        obtain ⟨g3, e3, -⟩ := id hv3
        subst e3
        have p0 := HR3.out.cell (i := k) (o := 0) hlt (by omega)
        rw [if_neg (Nat.lt_irrefl k), Nat.mul_one, Nat.add_zero] at p0
        have z0 := HR3.out.frozen k
        have hFs := setCell_fr w3 H k (.slice (some ⟨g3, 0, none⟩) ls[k].length (ls[k].length + 64))
        have HQ1 : Hd _ := HST.out w3 (.slice (some ⟨g3, 0, none⟩) ls[k].length (ls[k].length + 64)) HR3.out
        have HQ2 : Hd (∀ i (h : i < ls.length), i < k + 1 → WI (w3.setCell ⟨H, k, none⟩ (.slice (some ⟨g3, 0, none⟩) ls[k].length (ls[k].length + 64))) w.heap.size (at1 us k (.slice (some ⟨g3, 0, none⟩) ls[k].length (ls[k].length + 64)) i) ls[i]) := fun i h hi => by
          by_cases e : i = k
          · subst e
            rw [at1_self]
            exact HV3.out.fr hFs (HV3.out.ne HR3.out (by decide))
          · rw [at1_ne _ _ e]
            have hw := HW3.out i h (by omega)
            exact hw.fr hFs (hw.ne HR3.out (by decide))
        have HQ3 : Hd (∀ i, n ≤ i → i < k + 1 → MK (w3.setCell ⟨H, k, none⟩ (.slice (some ⟨g3, 0, none⟩) ls[k].length (ls[k].length + 64))) w.heap.size (at1 us k (.slice (some ⟨g3, 0, none⟩) ls[k].length (ls[k].length + 64)) i) (-78)) := fun i h1 h2 => by omega
        have HQ4 : Hd (∀ i j, i < k + 1 → j < k + 1 → i < n → j < n → i ≠ j → (at1 us k (.slice (some ⟨g3, 0, none⟩) ls[k].length (ls[k].length + 64)) i).ownBlock ≠ (at1 us k (.slice (some ⟨g3, 0, none⟩) ls[k].length (ls[k].length + 64)) j).ownBlock) := fun i j hi hj h1 h2 hne e => by
          have hg := HG3.out g3 rfl
          by_cases ei : i = k
          · subst ei
            rw [at1_self, at1_ne _ _ (Ne.symm hne)] at e
            have := HL3.out j (by have := HN.out; omega) (by omega) g3 e.symm
            omega
          · by_cases ej : j = k
            · subst ej
              rw [at1_self, at1_ne _ _ hne] at e
              have := HL3.out i (by have := HN.out; omega) (by omega) g3 e
              omega
            · rw [at1_ne _ _ ei, at1_ne _ _ ej] at e
              exact HA.out i j (by omega) (by omega) h1 h2 hne e
        have HQ5 : Hd (Fr (fun _ => False) w (w3.setCell ⟨H, k, none⟩ (.slice (some ⟨g3, 0, none⟩) ls[k].length (ls[k].length + 64)))) := HF3.out.then hFs (fun j hj e => by have e : j = H := e; have := HH.out; omega)
        clear hv3 hF3 HR HW HM HA HF hct hFs HR3 HV3 HG3 HF3 HW3 HL3 HM3 HST q0
        go_wp2_with fail
        exact ⟨⟨k + 1, _, castG k, by omega, HQ1, HQ2, HQ3, HQ4, HQ5⟩, measG hlt⟩
      · have d1 : decide ((k : Int) < n) = false := by simp; omega
        have hF3 : Fr (fun _ => False) wr (wr.alloc (.cells #[vI (-78)] 3)) := Fr.alloc (Fr.refl _ wr) _
        have HR3 : Hd (Rws (wr.alloc (.cells #[vI (-78)] 3)) 40 1 H (n + 64) (fun i => [if i < k then us i else .slice none 0 0])) := HR.out.fr hF3 (fun e => e)
        have p0 := HR3.out.cell (i := k) (o := 0) hlt (by omega)
        rw [if_neg (Nat.lt_irrefl k), Nat.mul_one, Nat.add_zero] at p0
        have z0 := HR3.out.frozen k
        have hFs := setCell_fr (wr.alloc (.cells #[vI (-78)] 3)) H k (.slice (some ⟨wr.heap.size, 0, none⟩) 1 1)
        have hmkn := (MK.new wr (-78)).mono HF.out.size
        have HQ1 : Hd _ := HST.out _ (.slice (some ⟨wr.heap.size, 0, none⟩) 1 1) HR3.out
        have HQ2 : Hd (∀ i (h : i < ls.length), i < k + 1 → WI ((wr.alloc (.cells #[vI (-78)] 3)).setCell ⟨H, k, none⟩ (.slice (some ⟨wr.heap.size, 0, none⟩) 1 1)) w.heap.size (at1 us k (.slice (some ⟨wr.heap.size, 0, none⟩) 1 1) i) ls[i]) := fun i h hi => by
          have hne : i ≠ k := by have := HN.out; omega
          rw [at1_ne _ _ hne]
          have hw := (HW.out i h (by omega)).stay hF3
          exact hw.fr hFs (hw.ne HR3.out (by decide))
        have HQ3 : Hd (∀ i, n ≤ i → i < k + 1 → MK ((wr.alloc (.cells #[vI (-78)] 3)).setCell ⟨H, k, none⟩ (.slice (some ⟨wr.heap.size, 0, none⟩) 1 1)) w.heap.size (at1 us k (.slice (some ⟨wr.heap.size, 0, none⟩) 1 1) i) (-78)) := fun i h1 h2 => by
          by_cases e : i = k
          · subst e
            rw [at1_self]
            exact hmkn.fr hFs (hmkn.ne HR3.out (by decide))
          · rw [at1_ne _ _ e]
            have hm := (HM.out i h1 (by omega)).stay hF3
            exact hm.fr hFs (hm.ne HR3.out (by decide))
        have HQ4 : Hd (∀ i j, i < k + 1 → j < k + 1 → i < n → j < n → i ≠ j → (at1 us k (.slice (some ⟨wr.heap.size, 0, none⟩) 1 1) i).ownBlock ≠ (at1 us k (.slice (some ⟨wr.heap.size, 0, none⟩) 1 1) j).ownBlock) := fun i j hi hj h1 h2 hne e => by
          rw [at1_ne _ _ (by omega), at1_ne _ _ (by omega)] at e
          exact HA.out i j (by omega) (by omega) h1 h2 hne e
        have HQ5 : Hd (Fr (fun _ => False) w ((wr.alloc (.cells #[vI (-78)] 3)).setCell ⟨H, k, none⟩ (.slice (some ⟨wr.heap.size, 0, none⟩) 1 1))) := (HF.out.trans hF3).then hFs (fun j hj e => by have e : j = H := e; have := HH.out; omega)
        clear hF3 HR HW HM HA HF hFs HR3 HST hmkn
        go_wp2_with fail
        exact ⟨⟨k + 1, _, castG k, by omega, HQ1, HQ2, HQ3, HQ4, HQ5⟩, measG hlt⟩
    · have d2 : decide ((k : Int) < (n : Int) + 64) = false := by simp; omega
      obtain rfl : k = n + 64 := by omega
      have HZ : Hd (WL wr w.heap.size (.slice (some ⟨H, 0, none⟩) n (n + 64)) ls H us) := by
        have e := HN.out
        subst e
        exact ⟨rfl, by have := HH.out; omega, HR.out.congr (fun i hi => by rw [if_pos hi]), fun i h => HW.out i h (by omega), fun i h1 h2 => HM.out i h1 h2, fun i j h1 h2 hne => HA.out i j (by omega) (by omega) h1 h2 hne⟩
      go_wp2_with fail
      go_ret
      exact ⟨_, H, us, rfl, HZ.out, HF.out⟩
end Go.Proofs.YtlmlmhinbkcpoaaGreatDoor
