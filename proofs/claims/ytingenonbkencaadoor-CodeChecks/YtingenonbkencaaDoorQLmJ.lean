import Derived.Test.YtingenonbkencaaDoorQLiJ
namespace Go.Proofs.YtingenonbkencaaDoor
open Go.RowKit (wrap32 wrap64)
set_option linter.unusedVariables false
set_option linter.unusedSimpArgs false

/-- Another number in an instruction. -/
def PI.put (c : PI) (o : Nat) (z : Int) : PI := if o = 0 then { c with op := z } else { c with n := z }
theorem iR_put (c : PI) (p : Value × Value) {o : Nat} (ho : o = 0 ∨ o = 4) (z : Int) : iR (c.put o z) p = (iR c p).set o (vI z) := by
  rcases ho with rfl | rfl <;> rfl
theorem put_args (c : PI) (o : Nat) (z : Int) : (c.put o z).args = c.args ∧ (c.put o z).rets = c.rets := by
  unfold PI.put; split <;> exact ⟨rfl, rfl⟩

/-- How two programs are alike in their lengths. -/
def Like (fs fs' : List PF) : Prop := fs'.length = fs.length ∧ ∀ j : Nat, fs'[j]?.map (fun f : PF => f.code.length) = fs[j]?.map (fun f : PF => f.code.length)
theorem Like.refl (fs : List PF) : Like fs fs := ⟨rfl, fun _ => rfl⟩
theorem Like.trans {a b c : List PF} (h : Like a b) (k : Like b c) : Like a c := ⟨k.1.trans h.1, fun j => (k.2 j).trans (h.2 j)⟩

theorem FineC.put {cs : List PI} (h : FineC cs) (k o : Nat) (hk : k < cs.length) (z : Int) : FineC (cs.set k (cs[k].put o z)) := by
  refine ⟨by rw [List.length_set]; exact h.1, fun c hc => ?_⟩
  rcases List.mem_or_eq_of_mem_set hc with hc | rfl
  · exact h.2 c hc
  · rw [(put_args _ _ _).1, (put_args _ _ _).2]; exact h.2 _ (List.getElem_mem hk)

theorem WF.code1 {w : World} {B : Nat} {v : Value} {fs : List PF} {g : Nat} {cv : Nat → Value} (h : WF w B v fs g cv) {i k o : Nat} (hi : i < fs.length) (hk : k < fs[i].code.length) (ho : o = 0 ∨ o = 4) {gc : Nat} (hgc : (cv i).ownBlock = some gc) (z : Int) :
    ∃ fs', Like fs fs' ∧ (FineP fs → FineP fs') ∧ WF (w.setCell ⟨gc, k * 7 + o, none⟩ (vI z)) B v fs' g cv := by
  have hci := h.code i fs[i] (List.getElem?_eq_getElem hi)
  have hne := hci.ne h.row (by decide) gc hgc
  have f := setCell_fr w gc (k * 7 + o) (vI z)
  refine ⟨fs.set i { fs[i] with code := fs[i].code.set k (fs[i].code[k].put o z) }, ⟨by simp, fun j => ?_⟩, fun hf => ⟨by rw [List.length_set]; exact hf.1, fun x hx => ?_⟩, ?_⟩
  · rw [List.getElem?_set]
    by_cases e : i = j
    · subst e
      rw [if_pos rfl, if_pos hi, List.getElem?_eq_getElem hi]
      simp
    · rw [if_neg e]
  · rcases List.mem_or_eq_of_mem_set hx with hx | rfl
    · exact hf.2 x hx
    · exact (hf.2 _ (List.getElem_mem hi)).put k o hk z
  · have hget : ∀ j, (fs.set i { fs[i] with code := fs[i].code.set k (fs[i].code[k].put o z) })[j]? = if i = j then some { fs[i] with code := fs[i].code.set k (fs[i].code[k].put o z) } else fs[j]? := fun j => by
      rw [List.getElem?_set]
      by_cases e : i = j
      · subst e; rw [if_pos rfl, if_pos rfl, if_pos hi]
      · rw [if_neg e, if_neg e]
    refine ⟨by rw [List.length_set]; exact h.val, h.ge, ?_, fun j x hx => ?_, fun a b ha hb => h.apart a b (by rw [List.length_set] at ha; exact ha) (by rw [List.length_set] at hb; exact hb)⟩
    · rw [List.length_set]
      refine (h.row.fr f (fun e => hne e.symm)).congr (fun j _ => ?_)
      unfold wideF
      rw [hget j]
      by_cases e : i = j
      · subst e; rw [if_pos rfl, List.getElem?_eq_getElem hi]
      · rw [if_neg e]
    · rw [hget j] at hx
      by_cases e : i = j
      · subst e
        rw [if_pos rfl] at hx
        cases hx
        obtain ⟨g', ps, ev, h1, h2, h3⟩ := hci
        have eg : g' = gc := by rw [ev] at hgc; cases hgc; rfl
        subst eg
        refine ⟨g', ps, by rw [ev]; simp, h1, ?_, fun q c hc => ?_⟩
        · simp only [List.length_set]
          have := h2.set1 (i := k) (o := o) (by omega) (by omega) (wideC_len _ _ _) (vI z)
          refine this.congr (fun q _ => ?_)
          unfold wideC
          rw [List.getElem?_set]
          by_cases eq : k = q
          · subst eq
            rw [at1_self, if_pos rfl, if_pos hk, List.getElem?_eq_getElem hk]
            exact (iR_put _ _ ho z).symm
          · rw [at1_ne _ _ (Ne.symm eq), if_neg eq]
        · rw [List.getElem?_set] at hc
          by_cases eq : k = q
          · subst eq
            rw [if_pos rfl, if_pos hk] at hc
            cases hc
            have hw := h3 k fs[i].code[k] (List.getElem?_eq_getElem hk)
            rw [(put_args _ _ _).1, (put_args _ _ _).2]
            exact ⟨hw.1.fr f (hw.1.ne h2 (by decide)), hw.2.fr f (hw.2.ne h2 (by decide))⟩
          · rw [if_neg eq] at hc
            have hw := h3 q c hc
            exact ⟨hw.1.fr f (hw.1.ne h2 (by decide)), hw.2.fr f (hw.2.ne h2 (by decide))⟩
      · rw [if_neg e] at hx
        have hj : j < fs.length := (List.getElem?_eq_some_iff.1 hx).1
        obtain ⟨gi, psi, evi, -, hri, -⟩ := hci
        have egi : gi = gc := by rw [evi] at hgc; cases hgc; rfl
        subst egi
        have hap := h.apart i j hi hj e
        obtain ⟨g', ps, ev, h1, h2, h3⟩ := h.code j x hx
        have hgg : g' ≠ gi := fun e2 => by
          subst e2
          rw [hgc, ev] at hap
          exact hap rfl
        exact ⟨g', ps, ev, h1, h2.fr f hgg, fun q c hc => ⟨(h3 q c hc).1.fr f ((h3 q c hc).1.ne hri (by decide)), (h3 q c hc).2.fr f ((h3 q c hc).2.ne hri (by decide))⟩⟩

theorem WF.vars1 {w : World} {B : Nat} {v : Value} {fs : List PF} {g : Nat} {cv : Nat → Value} (h : WF w B v fs g cv) {i : Nat} (hi : i < fs.length) (z : Int) :
    ∃ fs', Like fs fs' ∧ (FineP fs → FineP fs') ∧ WF (w.setCell ⟨g, i * 4 + 2, none⟩ (vI z)) B v fs' g cv := by
  have f := setCell_fr w g (i * 4 + 2) (vI z)
  refine ⟨fs.set i { fs[i] with V := z }, ⟨by simp, fun j => ?_⟩, fun hf => ⟨by rw [List.length_set]; exact hf.1, fun x hx => ?_⟩, ?_⟩
  · rw [List.getElem?_set]
    by_cases e : i = j
    · subst e
      rw [if_pos rfl, if_pos hi, List.getElem?_eq_getElem hi]
      simp
    · rw [if_neg e]
  · rcases List.mem_or_eq_of_mem_set hx with hx | rfl
    · exact hf.2 x hx
    · exact hf.2 fs[i] (List.getElem_mem hi)
  · have hget : ∀ j, (fs.set i { fs[i] with V := z })[j]? = if i = j then some { fs[i] with V := z } else fs[j]? := fun j => by
      rw [List.getElem?_set]
      by_cases e : i = j
      · subst e; rw [if_pos rfl, if_pos rfl, if_pos hi]
      · rw [if_neg e, if_neg e]
    refine ⟨by rw [List.length_set]; exact h.val, h.ge, ?_, fun j x hx => ?_, fun a b ha hb => h.apart a b (by rw [List.length_set] at ha; exact ha) (by rw [List.length_set] at hb; exact hb)⟩
    · rw [List.length_set]
      have := h.row.set1 (i := i) (o := 2) (by omega) (by omega) (by unfold wideF; split <;> rfl) (vI z)
      refine this.congr (fun j _ => ?_)
      unfold wideF
      rw [hget j]
      by_cases e : i = j
      · subst e; rw [at1_self, if_pos rfl, List.getElem?_eq_getElem hi]; rfl
      · rw [at1_ne _ _ (Ne.symm e), if_neg e]
    · rw [hget j] at hx
      by_cases e : i = j
      · subst e
        rw [if_pos rfl] at hx
        cases hx
        exact (h.code i fs[i] (List.getElem?_eq_getElem hi)).at h.row f
      · rw [if_neg e] at hx
        exact (h.code j x hx).at h.row f

end Go.Proofs.YtingenonbkencaaDoor

namespace Go.Proofs.YtingenonbkencaaDoor
open Go.RowKit (wrap32 wrap64)
set_option linter.unusedVariables false
set_option linter.unusedSimpArgs false

theorem WF.blk {w : World} {B : Nat} {v : Value} {fs : List PF} {g : Nat} {cv : Nat → Value} (h : WF w B v fs g cv) {i : Nat} (hi : i < fs.length) : ∃ gc, cv i = .slice (some ⟨gc, 0, none⟩) fs[i].code.length (fs[i].code.length + 64) ∧ gc < w.heap.size ∧ B ≤ gc := by
  obtain ⟨g', ps, ev, h1, h2, -⟩ := h.code i fs[i] (List.getElem?_eq_getElem hi)
  exact ⟨g', ev, h2.lt, h1⟩
theorem WF.cells {w : World} {B : Nat} {v : Value} {fs : List PF} {g : Nat} {cv : Nat → Value} (h : WF w B v fs g cv) {i k : Nat} (hi : i < fs.length) (hk : k < fs[i].code.length) {gc : Nat} (hgc : (cv i).ownBlock = some gc) :
    w.cell? ⟨gc, k * 7, none⟩ = some (vI fs[i].code[k].op) ∧ w.cell? ⟨gc, k * 7 + 4, none⟩ = some (vI fs[i].code[k].n) ∧ ∀ q, w.frozen? ⟨gc, q, none⟩ = false := by
  obtain ⟨g', ps, ev, h1, h2, -⟩ := h.code i fs[i] (List.getElem?_eq_getElem hi)
  have eg : g' = gc := by rw [ev] at hgc; cases hgc; rfl
  subst eg
  have pc := fun o (ho : o < 7) => h2.cell (i := k) (o := o) (by omega) ho
  have e1 : wideC fs[i].code ps k = iR fs[i].code[k] (ps k) := by unfold wideC; rw [List.getElem?_eq_getElem hk]
  rw [e1] at pc
  exact ⟨pc 0 (by omega), pc 4 (by omega), fun q => h2.frozen q⟩

set_option maxRecDepth 100000 in
set_option maxHeartbeats 4000000 in
/-- turned: other numbers in the same lists. -/
theorem turned_any (G : Int) (v : Value) (fs : List PF) (B g : Nat) (cv : Nat → Value) (N : Nat) (w : World) (hl : WF w B v fs g cv) (hn : FineP fs) (hg : g < N) (hcN : ∀ i, i < fs.length → ∀ k, (cv i).ownBlock = some k → k < N) : Calls Tryd.prog 27 #[.agg #[vI G, v]] w fun e w' => e = .returned (.tuple #[]) ∧ Fr (fun k => B ≤ k ∧ k < N) w w' ∧ ∃ fs', FineP fs' ∧ WF w' B v fs' g cv := by
  have hv := hl.val
  subst hv
  obtain ⟨n, hnl⟩ : ∃ n, n = fs.length := ⟨_, rfl⟩
  have hn1 := hn.1
  have HN0 : Hd (n = fs.length) := hnl
  have b1 : (w.alloc (.cells #[vI G, .slice (some ⟨g, 0, none⟩) fs.length (fs.length + 64)] 26)).heap[w.heap.size]? = some (.cells #[vI G, .slice (some ⟨g, 0, none⟩) fs.length (fs.length + 64)] 26) := heap_new w _
  have HL : Hd (WF (w.alloc (.cells #[vI G, .slice (some ⟨g, 0, none⟩) fs.length (fs.length + 64)] 26)) B (.slice (some ⟨g, 0, none⟩) fs.length (fs.length + 64)) fs g cv) := hl.stay (Fr.alloc (Fr.refl _ w) _)
  have HF : Hd (Fr (fun k => B ≤ k ∧ k < N) w (w.alloc (.cells #[vI G, .slice (some ⟨g, 0, none⟩) fs.length (fs.length + 64)] 26))) := Fr.alloc (Fr.refl _ w) _
  have HG : Hd (g < w.heap.size) := hl.row.lt
  have HGC : Hd (∀ i, i < n → ∃ gc m, cv i = .slice (some ⟨gc, 0, none⟩) m (m + 64) ∧ fs[i]?.map (fun f : PF => f.code.length) = some m ∧ gc < w.heap.size ∧ (B ≤ gc ∧ gc < N)) := fun i hi => by
    obtain ⟨gc, e, h1, h2⟩ := hl.blk (i := i) (by omega)
    exact ⟨gc, _, e, by rw [List.getElem?_eq_getElem (by omega)]; rfl, h1, h2, hcN i (by omega) gc (by rw [e]; rfl)⟩
  have HFI : Hd (FineP fs) := hn
  have HM : Hd (∀ i m, fs[i]?.map (fun f : PF => f.code.length) = some m → m ≤ 1599289640354) := fun i m hm => by
    rcases Nat.lt_or_ge i fs.length with hi | hi
    · rw [List.getElem?_eq_getElem hi] at hm
      cases hm
      exact (hn.2 _ (List.getElem_mem hi)).1
    · rw [List.getElem?_eq_none hi] at hm; cases hm
  have HGE : Hd (B ≤ g ∧ g < N) := ⟨hl.ge, hg⟩
  clear hl hn hcN hg
  rw [← hnl] at b1 HL HF hn1 ⊢
  clear hnl
  have B1 : Hd _ := b1
  obtain ⟨H, hH⟩ : ∃ H, H = w.heap.size := ⟨_, rfl⟩
  have HH : Hd (H = w.heap.size) := hH
  rw [← hH] at B1
  clear b1 hH
  go_enter Tryd.func27, Tryd.ntmps27
  go_upto_region 1 with fail
  rw [← HH.out]
  generalize w.alloc (.cells #[vI G, .slice (some ⟨g, 0, none⟩) n (n + 64)] 26) = wa at *
  go_wp2_with fail
  go_loopw [2] (fun v wr => ∃ (k : Nat) (F : List PF), v = .int .i64 k ∧ k ≤ n ∧ Hd (Like fs F) ∧ Hd (FineP F) ∧ Hd (WF wr B (.slice (some ⟨g, 0, none⟩) n (n + 64)) F g cv) ∧ Hd (wr.heap[H]? = some (.cells #[vI G, .slice (some ⟨g, 0, none⟩) n (n + 64)] 26)) ∧ Hd (Fr (fun k => B ≤ k ∧ k < N) w wr)) (fun v _ => match v with | .int _ q => n - q.toNat | _ => 0)
  case atStart => exact ⟨0, fs, rfl, Nat.zero_le _, Like.refl _, HFI.out, HL.out, B1.out, HF.out⟩
  case round =>
    clear HL HF B1 HFI
    obtain ⟨i, F, rfl, hi, HLK, HFI, HW, B1, HF⟩ := hrel
    have u1 : wr.cell? ⟨H, 1, none⟩ = some (.slice (some ⟨g, 0, none⟩) n (n + 64)) := by rw [cell_of B1.out]; rfl
    by_cases hlt : i < n
    · obtain ⟨gc, m, ecv, hfm, hgl, hgb⟩ := HGC.out i hlt
      have hm : m ≤ 1599289640354 := HM.out i m hfm
      have HFM : Hd (fs[i]?.map (fun f : PF => f.code.length) = some m) := hfm
      have HGL : Hd (gc < w.heap.size ∧ (B ≤ gc ∧ gc < N)) := ⟨hgl, hgb⟩
      have HCV : Hd (cv i = .slice (some ⟨gc, 0, none⟩) m (m + 64)) := ecv
      have hi0 : (0 : Int) ≤ i := by omega
      have hi1 : (i : Int) < n := by omega
      clear ecv hfm hgl hgb
      go_wp2_with fail
      clear u1
      go_loopw [3] (fun v wr => ∃ (k : Nat) (F : List PF), v = .int .i64 k ∧ k ≤ m ∧ Hd (Like fs F) ∧ Hd (FineP F) ∧ Hd (WF wr B (.slice (some ⟨g, 0, none⟩) n (n + 64)) F g cv) ∧ Hd (wr.heap[H]? = some (.cells #[vI G, .slice (some ⟨g, 0, none⟩) n (n + 64)] 26)) ∧ Hd (Fr (fun k => B ≤ k ∧ k < N) w wr)) (fun v _ => match v with | .int _ q => m - q.toNat | _ => 0)
      case atStart => exact ⟨0, F, rfl, Nat.zero_le _, HLK.out, HFI.out, HW.out, B1.out, HF.out⟩
      case round =>
        clear HLK HFI HW B1 HF
        obtain ⟨k, F, rfl, hk, HLK, HFI, HW, B1, HF⟩ := hrel
        have hiF : i < F.length := by have := HLK.out.1; have := HN0.out; omega
        have u1 : wr.cell? ⟨H, 1, none⟩ = some (.slice (some ⟨g, 0, none⟩) n (n + 64)) := by rw [cell_of B1.out]; rfl
        have u3 : wr.cell? ⟨g, i * 4 + 3, none⟩ = some (.slice (some ⟨gc, 0, none⟩) m (m + 64)) := by
          have := HW.out.row.cell (i := i) (o := 3) (by omega) (by omega)
          rw [this]
          unfold wideF
          rw [List.getElem?_eq_getElem hiF]
          exact congrArg some HCV.out
        by_cases hkt : k < m
        · have hkF : k < F[i].code.length := by
            have h1 := HLK.out.2 i
            rw [HFM.out, List.getElem?_eq_getElem hiF] at h1
            have h2 : F[i].code.length = m := Option.some.inj h1
            omega
          obtain ⟨c0, c4, cz⟩ := HW.out.cells hiF hkF (gc := gc) (by rw [HCV.out]; rfl)
          have z0 := cz (k * 7)
          have z4 := cz (k * 7 + 4)
          have HS : Hd (∀ (wx : World) (F : List PF), Like fs F → FineP F → WF wx B (.slice (some ⟨g, 0, none⟩) n (n + 64)) F g cv → wx.heap[H]? = some (.cells #[vI G, .slice (some ⟨g, 0, none⟩) n (n + 64)] 26) → Fr (fun k => B ≤ k ∧ k < N) w wx → ∀ (o : Nat) (z : Int), (o = 0 ∨ o = 4) →
              ∃ F', Like fs F' ∧ FineP F' ∧ WF (wx.setCell ⟨gc, k * 7 + o, none⟩ (vI z)) B (.slice (some ⟨g, 0, none⟩) n (n + 64)) F' g cv ∧ (wx.setCell ⟨gc, k * 7 + o, none⟩ (vI z)).heap[H]? = some (.cells #[vI G, .slice (some ⟨g, 0, none⟩) n (n + 64)] 26) ∧ Fr (fun k => B ≤ k ∧ k < N) w (wx.setCell ⟨gc, k * 7 + o, none⟩ (vI z))) := fun wx F hlk hfi hw hb hf o z ho => by
            have hiF : i < F.length := by have := hlk.1; have := HN0.out; omega
            have hkF : k < F[i].code.length := by
              have h1 := hlk.2 i
              rw [HFM.out, List.getElem?_eq_getElem hiF] at h1
              have h2 : F[i].code.length = m := Option.some.inj h1
              omega
            obtain ⟨F', l1, l2, l3⟩ := hw.code1 hiF hkF ho (gc := gc) (by rw [HCV.out]; rfl) z
            refine ⟨F', hlk.trans l1, l2 hfi, l3, ((setCell_fr wx gc (k * 7 + o) (vI z)).block H (heap_lt hb) (fun e => by have := HGL.out; have := HH.out; omega)).trans hb, hf.setCell _ _ (Or.inl HGL.out.2)⟩
          generalize F[i].code[k].op = op at *
          generalize F[i].code[k].n = nn at *
          clear cz
          have hk0 : (0 : Int) ≤ k := by omega
          have hk1 : (k : Int) < m := by omega
          by_cases hop : 0 ≤ op ∧ op < 18
          · obtain ⟨ho0, ho1⟩ := hop
            go_upto_region 10 with fail
            obtain ⟨F1, l1, l2, l3, l4, l5⟩ := HS.out wr F HLK.out HFI.out HW.out B1.out HF.out 0 (op + 1) (Or.inl rfl)
            have L1 : Hd (Like fs F1) := l1
            have L2 : Hd (FineP F1) := l2
            have L3 : Hd (WF (wr.setCell ⟨gc, k * 7, none⟩ (vI (op + 1))) B (.slice (some ⟨g, 0, none⟩) n (n + 64)) F1 g cv) := l3
            have L4 : Hd ((wr.setCell ⟨gc, k * 7, none⟩ (vI (op + 1))).heap[H]? = some (.cells #[vI G, .slice (some ⟨g, 0, none⟩) n (n + 64)] 26)) := l4
            have L5 : Hd (Fr (fun k => B ≤ k ∧ k < N) w (wr.setCell ⟨gc, k * 7, none⟩ (vI (op + 1)))) := l5
            clear l1 l2 l3 l4 l5 u1 u3 c0 c4 z0 z4 HLK HFI HW B1 HF
            generalize wr.setCell ⟨gc, k * 7, none⟩ (vI (op + 1)) = wx at *
            have hiF1 : i < F1.length := by have := L1.out.1; have := HN0.out; omega
            have hkF1 : k < F1[i].code.length := by
              have h1 := L1.out.2 i
              rw [HFM.out, List.getElem?_eq_getElem hiF1] at h1
              have h2 : F1[i].code.length = m := Option.some.inj h1
              omega
            have u1 : wx.cell? ⟨H, 1, none⟩ = some (.slice (some ⟨g, 0, none⟩) n (n + 64)) := by rw [cell_of L4.out]; rfl
            have u3 : wx.cell? ⟨g, i * 4 + 3, none⟩ = some (.slice (some ⟨gc, 0, none⟩) m (m + 64)) := by
              have := L3.out.row.cell (i := i) (o := 3) (by have := HN0.out; omega) (by omega)
              rw [this]
              unfold wideF
              rw [List.getElem?_eq_getElem hiF1]
              exact congrArg some HCV.out
            obtain ⟨-, c4, cz⟩ := L3.out.cells hiF1 hkF1 (gc := gc) (by rw [HCV.out]; rfl)
            have z4 := cz (k * 7 + 4)
            generalize F1[i].code[k].n = nn at *
            clear cz
            by_cases hod : (i : Int) % 2 = 1
            · by_cases hnn : nn > 0
              · go_wp2_with fail
                obtain ⟨F2, l1, l2, l3, l4, l5⟩ := HS.out wx F1 L1.out L2.out L3.out L4.out L5.out 4 _ (Or.inr rfl)
                exact ⟨⟨k + 1, F2, rfl, by omega, l1, l2, l3, l4, l5⟩, by show m - ((k : Int) + 1).toNat < m - (k : Int).toNat; omega⟩
              · go_wp2_with fail
                exact ⟨⟨k + 1, F1, rfl, by omega, L1, L2, L3, L4, L5⟩, by show m - ((k : Int) + 1).toNat < m - (k : Int).toNat; omega⟩
            · go_wp2_with fail
              exact ⟨⟨k + 1, F1, rfl, by omega, L1, L2, L3, L4, L5⟩, by show m - ((k : Int) + 1).toNat < m - (k : Int).toNat; omega⟩
          · by_cases ho0 : 0 ≤ op
            · have ho1 : ¬ op < 18 := fun h => hop ⟨ho0, h⟩
              clear hop
              go_upto_region 10 with fail
              obtain ⟨F1, L1, L2, L3, L4, L5⟩ : ∃ F1, Hd (Like fs F1) ∧ Hd (FineP F1) ∧ Hd (WF wr B (.slice (some ⟨g, 0, none⟩) n (n + 64)) F1 g cv) ∧ Hd (wr.heap[H]? = some (.cells #[vI G, .slice (some ⟨g, 0, none⟩) n (n + 64)] 26)) ∧ Hd (Fr (fun k => B ≤ k ∧ k < N) w wr) := ⟨F, HLK, HFI, HW, B1, HF⟩
              clear u1 u3 c0 c4 z0 z4 HLK HFI HW B1 HF
              have hiF1 : i < F1.length := by have := L1.out.1; have := HN0.out; omega
              have hkF1 : k < F1[i].code.length := by
                have h1 := L1.out.2 i
                rw [HFM.out, List.getElem?_eq_getElem hiF1] at h1
                have h2 : F1[i].code.length = m := Option.some.inj h1
                omega
              have u1 : wr.cell? ⟨H, 1, none⟩ = some (.slice (some ⟨g, 0, none⟩) n (n + 64)) := by rw [cell_of L4.out]; rfl
              have u3 : wr.cell? ⟨g, i * 4 + 3, none⟩ = some (.slice (some ⟨gc, 0, none⟩) m (m + 64)) := by
                have := L3.out.row.cell (i := i) (o := 3) (by have := HN0.out; omega) (by omega)
                rw [this]
                unfold wideF
                rw [List.getElem?_eq_getElem hiF1]
                exact congrArg some HCV.out
              obtain ⟨-, c4, cz⟩ := L3.out.cells hiF1 hkF1 (gc := gc) (by rw [HCV.out]; rfl)
              have z4 := cz (k * 7 + 4)
              generalize F1[i].code[k].n = nn at *
              clear cz
              by_cases hod : (i : Int) % 2 = 1
              · by_cases hnn : nn > 0
                · go_wp2_with fail
                  obtain ⟨F2, l1, l2, l3, l4, l5⟩ := HS.out wr F1 L1.out L2.out L3.out L4.out L5.out 4 _ (Or.inr rfl)
                  exact ⟨⟨k + 1, F2, rfl, by omega, l1, l2, l3, l4, l5⟩, by show m - ((k : Int) + 1).toNat < m - (k : Int).toNat; omega⟩
                · go_wp2_with fail
                  exact ⟨⟨k + 1, F1, rfl, by omega, L1, L2, L3, L4, L5⟩, by show m - ((k : Int) + 1).toNat < m - (k : Int).toNat; omega⟩
              · go_wp2_with fail
                exact ⟨⟨k + 1, F1, rfl, by omega, L1, L2, L3, L4, L5⟩, by show m - ((k : Int) + 1).toNat < m - (k : Int).toNat; omega⟩
            · clear hop
              go_upto_region 10 with fail
              obtain ⟨F1, L1, L2, L3, L4, L5⟩ : ∃ F1, Hd (Like fs F1) ∧ Hd (FineP F1) ∧ Hd (WF wr B (.slice (some ⟨g, 0, none⟩) n (n + 64)) F1 g cv) ∧ Hd (wr.heap[H]? = some (.cells #[vI G, .slice (some ⟨g, 0, none⟩) n (n + 64)] 26)) ∧ Hd (Fr (fun k => B ≤ k ∧ k < N) w wr) := ⟨F, HLK, HFI, HW, B1, HF⟩
              clear u1 u3 c0 c4 z0 z4 HLK HFI HW B1 HF
              have hiF1 : i < F1.length := by have := L1.out.1; have := HN0.out; omega
              have hkF1 : k < F1[i].code.length := by
                have h1 := L1.out.2 i
                rw [HFM.out, List.getElem?_eq_getElem hiF1] at h1
                have h2 : F1[i].code.length = m := Option.some.inj h1
                omega
              have u1 : wr.cell? ⟨H, 1, none⟩ = some (.slice (some ⟨g, 0, none⟩) n (n + 64)) := by rw [cell_of L4.out]; rfl
              have u3 : wr.cell? ⟨g, i * 4 + 3, none⟩ = some (.slice (some ⟨gc, 0, none⟩) m (m + 64)) := by
                have := L3.out.row.cell (i := i) (o := 3) (by have := HN0.out; omega) (by omega)
                rw [this]
                unfold wideF
                rw [List.getElem?_eq_getElem hiF1]
                exact congrArg some HCV.out
              obtain ⟨-, c4, cz⟩ := L3.out.cells hiF1 hkF1 (gc := gc) (by rw [HCV.out]; rfl)
              have z4 := cz (k * 7 + 4)
              generalize F1[i].code[k].n = nn at *
              clear cz
              by_cases hod : (i : Int) % 2 = 1
              · by_cases hnn : nn > 0
                · go_wp2_with fail
                  obtain ⟨F2, l1, l2, l3, l4, l5⟩ := HS.out wr F1 L1.out L2.out L3.out L4.out L5.out 4 _ (Or.inr rfl)
                  exact ⟨⟨k + 1, F2, rfl, by omega, l1, l2, l3, l4, l5⟩, by show m - ((k : Int) + 1).toNat < m - (k : Int).toNat; omega⟩
                · go_wp2_with fail
                  exact ⟨⟨k + 1, F1, rfl, by omega, L1, L2, L3, L4, L5⟩, by show m - ((k : Int) + 1).toNat < m - (k : Int).toNat; omega⟩
              · go_wp2_with fail
                exact ⟨⟨k + 1, F1, rfl, by omega, L1, L2, L3, L4, L5⟩, by show m - ((k : Int) + 1).toNat < m - (k : Int).toNat; omega⟩
        · have hke : k = m := by omega
          subst hke
          have u2 : wr.cell? ⟨g, i * 4 + 2, none⟩ = some (vI F[i].V) := by
            have := HW.out.row.cell (i := i) (o := 2) (by omega) (by omega)
            rw [this]
            unfold wideF
            rw [List.getElem?_eq_getElem hiF]
            rfl
          have z2 : wr.frozen? ⟨g, i * 4 + 2, none⟩ = false := HW.out.row.frozen _
          generalize F[i].V = vv at *
          by_cases hod : (i : Int) % 3 = 2
          · by_cases hnn : vv > 0
            · go_wp2_with fail
              obtain ⟨F2, l1, l2, l3⟩ := HW.out.vars1 hiF (_ : Int)
              exact ⟨⟨i + 1, F2, rfl, by omega, HLK.out.trans l1, l2 HFI.out, l3, ((setCell_fr wr g (i * 4 + 2) _).block H (heap_lt B1.out) (fun e => by have := HG.out; have := HH.out; omega)).trans B1.out, HF.out.setCell _ _ (Or.inl HGE.out)⟩, by show n - ((i : Int) + 1).toNat < n - (i : Int).toNat; omega⟩
            · go_wp2_with fail
              exact ⟨⟨i + 1, F, rfl, by omega, HLK, HFI, HW, B1, HF⟩, by show n - ((i : Int) + 1).toNat < n - (i : Int).toNat; omega⟩
          · go_wp2_with fail
            exact ⟨⟨i + 1, F, rfl, by omega, HLK, HFI, HW, B1, HF⟩, by show n - ((i : Int) + 1).toNat < n - (i : Int).toNat; omega⟩
    · have hie : i = n := by omega
      subst hie
      go_wp2_with fail
      go_end0
      exact ⟨rfl, HF.out, F, HFI.out, HW.out⟩

end Go.Proofs.YtingenonbkencaaDoor
