import Derived.Test.YtlmlmhinbkcpoaaDoorQEjJ
import Derived.BigQuiet
namespace Go.Proofs.YtlmlmhinbkcpoaaDoor
open Go.RowKit Go.Shelf
set_option linter.unusedVariables false
set_option linter.unusedSimpArgs false

/-! ### lower numbers, more edges -/
def mt (x y : Ed) : Prop := x.1 = y.1 ∧ x.2.1 = y.2.1 ∧ x.2.2 ≤ y.2.2
theorem mt.refl (x : Ed) : mt x x := ⟨rfl, rfl, Int.le_refl _⟩
/-- For each edge of the second list, in its order, there is one of the first with the same ends and at most its derefs. -/
inductive Emb : List Ed → List Ed → Prop
  | nil (l : List Ed) : Emb l []
  | skip {x : Ed} {l m : List Ed} : Emb l m → Emb (x :: l) m
  | take {x y : Ed} {l m : List Ed} : mt x y → Emb l m → Emb (x :: l) (y :: m)
theorem Emb.refl : ∀ l : List Ed, Emb l l
  | [] => .nil _
  | x :: l => .take (mt.refl x) (Emb.refl l)
theorem Emb.more {l m : List Ed} (h : Emb l m) : ∀ a : List Ed, Emb (a ++ l) m
  | [] => h
  | _ :: a => .skip (h.more a)
theorem Emb.append {a b c d : List Ed} (h : Emb a b) (k : Emb c d) : Emb (a ++ c) (b ++ d) := by
  induction h with
  | nil l => exact k.more l
  | skip _ ih => exact .skip ih
  | take e _ ih => exact .take e ih
theorem Emb.flat (F G : Nat → List Ed) : ∀ k, (∀ i, i < k → Emb (F i) (G i)) → Emb ((List.range k).flatMap F) ((List.range k).flatMap G)
  | 0, _ => .nil _
  | k + 1, h => by
    rw [flat_succ, flat_succ]
    exact (Emb.flat F G k (fun i hi => h i (by omega))).append (h k (by omega))
theorem Emb.tail {l m : List Ed} {y : Ed} (h : Emb l (y :: m)) : Emb l m := by
  generalize e : y :: m = ym at h
  induction h with
  | nil l => cases e
  | skip _ ih => exact .skip (ih e)
  | take _ h ih =>
    cases e
    exact .skip h
/-- The first one that serves will do. -/
theorem Emb.first {l m : List Ed} {y : Ed} (h : Emb l (y :: m)) : ∃ pre x l', l = pre ++ x :: l' ∧ (∀ z ∈ pre, ¬ mt z y) ∧ mt x y ∧ Emb l' m := by
  generalize e : y :: m = ym at h
  induction h with
  | nil l => cases e
  | @skip x l m' h ih =>
    subst e
    by_cases hx : mt x y
    · exact ⟨[], x, l, rfl, (fun z hz => by cases hz), hx, h.tail⟩
    · obtain ⟨pre, x', l', e1, e2, e3, e4⟩ := ih rfl
      refine ⟨x :: pre, x', l', by rw [e1]; rfl, fun z hz => ?_, e3, e4⟩
      rcases List.mem_cons.1 hz with rfl | hz
      · exact hx
      · exact e2 z hz
  | @take x y' l m' hx h ih =>
    cases e
    exact ⟨[], x, l, rfl, (fun z hz => by cases hz), hx, h⟩
/-- A summary whose numbers are at most the other's. -/
structure Lwr (s' s : PS) : Prop where
  h : s'.H.length = s.H.length
  hn : ∀ i (h : i < s.H.length) (h' : i < s'.H.length), s'.H[i] ≤ s.H[i]
  r : s'.R.length = s.R.length
  rl : ∀ i (h : i < s.R.length) (h' : i < s'.R.length), s'.R[i].length = s.R[i].length
  rn : ∀ i (h : i < s.R.length) (h' : i < s'.R.length) j (k : j < s.R[i].length) (k' : j < s'.R[i].length), s'.R[i][j] ≤ s.R[i][j]
theorem le9 {d' d : Int} (h : d' ≤ d) (hd : derOk d = true) : d = 9 ∨ (d ≠ 9 ∧ d' ≠ 9) := by
  unfold derOk at hd
  by_cases e : d = 9
  · exact Or.inl e
  · simp [e] at hd
    exact Or.inr ⟨e, by omega⟩
theorem hE_emb {R V a d' d : Int} (h : d' ≤ d) (hd : derOk d = true) : Emb (hE R V a d') (hE R V a d) := by
  unfold hE
  rcases le9 h hd with e | ⟨e1, e2⟩
  · rw [if_pos e]; exact .nil _
  · rw [if_neg e1, if_neg e2]
    exact .take ⟨rfl, rfl, h⟩ (.nil _)
theorem rE_emb {R V a b d' d : Int} (h : d' ≤ d) (hd : derOk d = true) : Emb (rE R V a b d') (rE R V a b d) := by
  unfold rE
  rcases le9 h hd with e | ⟨e1, e2⟩
  · rw [if_pos e]; exact .nil _
  · rw [if_neg e1, if_neg e2]
    exact .take ⟨rfl, rfl, h⟩ (.nil _)
theorem callT_emb {R V : Int} {args rets : List Int} {s' s : PS} (hl : Lwr s' s) (h1 : ∀ d ∈ s.H, derOk d = true) (h2 : ∀ l ∈ s.R, ∀ d ∈ l, derOk d = true) (k1 : args.length ≤ s.H.length) (k2 : args.length ≤ s.R.length) :
    Emb (callT R V args rets s'.H s'.R args.length) (callT R V args rets s.H s.R args.length) := by
  unfold callT
  refine Emb.flat _ _ _ (fun i hi => ?_)
  have a1 : i < s.H.length := by omega
  have a2 : i < s.R.length := by omega
  have b1 : i < s'.H.length := by have := hl.h; omega
  have b2 : i < s'.R.length := by have := hl.r; omega
  unfold oneE
  have e1 : s.H[i]?.getD 0 = s.H[i] := by simp [a1]
  have e2 : s'.H[i]?.getD 0 = s'.H[i] := by simp [b1]
  have e3 : s.R[i]?.getD [] = s.R[i] := by simp [a2]
  have e4 : s'.R[i]?.getD [] = s'.R[i] := by simp [b2]
  rw [e1, e2, e3, e4]
  refine (hE_emb (hl.hn i a1 b1) (h1 _ (List.getElem_mem a1))).append ?_
  unfold gE
  rw [hl.rl i a2 b2]
  refine Emb.flat _ _ _ (fun j hj => ?_)
  have j' : j < s'.R[i].length := by rw [hl.rl i a2 b2]; exact hj
  have e5 : s.R[i][j]?.getD 0 = s.R[i][j] := by simp [hj]
  have e6 : s'.R[i][j]?.getD 0 = s'.R[i][j] := by simp [j']
  rw [e5, e6]
  exact rE_emb (hl.rn i a2 b2 j hj j') (h2 _ (List.getElem_mem a2) _ (List.getElem_mem hj))
/-- Higher summaries: an edge for each edge. -/
theorem edgX_emb {fs : List PF} {ss' ss : List PS} {f : PF} (hf : FunR fs f) (ht : toldX fs ss f.code = true) (hls : ss.length = fs.length) (hl : ss'.length = ss.length) (hlw : ∀ q (h : q < ss.length) (h' : q < ss'.length), Lwr ss'[q] ss[q]) : Emb (edgX ss' f) (edgX ss f) := by
  unfold edgX
  refine Emb.flat _ _ _ (fun j hj => ?_)
  have e : f.code.getD j dPI = f.code[j] := by simp [hj]
  have hc : f.code[j] ∈ f.code := List.getElem_mem hj
  rw [e]
  unfold edgI
  split
  · exact Emb.refl _
  · split
    · rename_i h11
      obtain ⟨q, hq, hqf, p1, p2, a1, a2, -, -⟩ := hf.call _ hc h11
      have hqs : q < ss.length := by omega
      have hqs' : q < ss'.length := by omega
      have hfit : fitsX ss[q] fs[q].P fs[q].R = true := by
        have := List.all_eq_true.1 ht _ hc
        unfold fitI at this
        rw [if_pos h11, hq] at this
        simpa [hqf, hqs] using this
      obtain ⟨l1, l2, l3, l4, l5⟩ := fits_len hfit
      have e1 : ss.getD f.code[j].n.toNat dPS = ss[q] := by rw [hq]; simp [hqs]
      have e2 : ss'.getD f.code[j].n.toNat dPS = ss'[q] := by rw [hq]; simp [hqs']
      rw [e1, e2]
      exact callT_emb (hlw q hqs hqs') l4 l5 (by omega) (by omega)
    · exact Emb.refl _
end Go.Proofs.YtlmlmhinbkcpoaaDoor

namespace Go.Proofs.YtlmlmhinbkcpoaaDoor
open Go.RowKit (wrap32 wrap64)
set_option linter.unusedVariables false
set_option linter.unusedSimpArgs false

theorem ed_cells {w wr : World} {v : Value} {E : List Ed} (h : w.ownsRow 0 47 3 v E.length (E.flatMap edC)) (f : Fr (fun _ => False) w wr) {k : Nat} (hk : k < E.length) : ∃ g cap, v = .slice (some ⟨g, 0, none⟩) E.length cap ∧ wr.cell? ⟨g, k * 3, none⟩ = some (vI E[k].1) ∧ wr.cell? ⟨g, k * 3 + 1, none⟩ = some (vI E[k].2.1) ∧ wr.cell? ⟨g, k * 3 + 2, none⟩ = some (vI E[k].2.2) := by
  have pc : ∀ o u, o < 3 → (edC E[k])[o]? = some u → ∃ g cap, v = .slice (some ⟨g, 0, none⟩) E.length cap ∧ wr.cell? ⟨g, k * 3 + o, none⟩ = some u := fun o u ho hu => by
    obtain ⟨g, cap, e, -, hc⟩ := own_cell (ownsRow_frL h f (fun _ _ e => e)) (j := k * 3 + o) (u := u) (by rw [flat_get edC 3 (fun _ => rfl) E k o hk ho]; exact hu)
    exact ⟨g, cap, e, hc⟩
  obtain ⟨g, cap, e, x0⟩ := pc 0 _ (by omega) rfl
  obtain ⟨g1, cap1, e1, x1⟩ := pc 1 _ (by omega) rfl
  obtain ⟨g2, cap2, e2, x2⟩ := pc 2 _ (by omega) rfl
  subst e
  cases e1
  cases e2
  exact ⟨g, cap, rfl, x0, x1, x2⟩
theorem measK {i n : Nat} (h : i < n) : n - ((i : Int) + 1).toNat < n - (i : Int).toNat := by omega
theorem castK (i : Nat) : Value.int .i64 ((i : Int) + 1) = Value.int .i64 ((i + 1 : Nat) : Int) := by simp

set_option maxRecDepth 100000 in
set_option maxHeartbeats 4000000 in
theorem lesser_any (v1 v2 : Value) (E D : List Ed) (w : World) (h1 : w.ownsRow 0 47 3 v1 E.length (E.flatMap edC)) (h2 : w.ownsRow 0 47 3 v2 D.length (D.flatMap edC)) (he : Emb E D) (b1 : E.length ≤ 1000000) (b2 : D.length ≤ 1000000) :
    Calls Tryd.prog 18 #[v1, v2] w fun e w' => e = .returned (.bool true) ∧ Fr (fun _ => False) w w' := by
  have H1 : Hd (w.ownsRow 0 47 3 v1 E.length (E.flatMap edC)) := h1
  have H2 : Hd (w.ownsRow 0 47 3 v2 D.length (D.flatMap edC)) := h2
  have HE : Hd (Emb E D) := he
  obtain ⟨a1, c1, e1⟩ := own_slice h1
  obtain ⟨a2, c2, e2⟩ := own_slice h2
  subst e1 e2
  clear h1 h2 he
  go_enter Tryd.func18, Tryd.ntmps18
  go_wp2_with fail
  go_loopw [5, 6] (fun v5 v6 wr => ∃ (k i : Nat), v5 = .int .i64 k ∧ v6 = .int .i64 i ∧ k ≤ E.length ∧ i ≤ D.length ∧ Hd (Emb (E.drop k) (D.drop i)) ∧ Hd (Fr (fun _ => False) w wr)) (fun _ v _ => match v with | .int _ q => D.length - q.toNat | _ => 0)
  case atStart => exact ⟨0, 0, rfl, rfl, by omega, by omega, HE.out, Fr.refl _ _⟩
  case round =>
    obtain ⟨k, i, rfl, rfl, hk, hi, HM, HF⟩ := hrel
    by_cases hlt : i < D.length
    · have hdr : D.drop i = D[i] :: D.drop (i + 1) := List.drop_eq_getElem_cons hlt
      have hm := HM.out
      rw [hdr] at hm
      obtain ⟨pre, x, l', hpl, hpre, hx, hem⟩ := hm.first
      have hlen : E.length = k + pre.length + (1 + l'.length) := by
        have := congrArg List.length hpl
        simp at this
        omega
      have hget : ∀ j (h : k + j < E.length), E[k + j]? = (pre ++ x :: l')[j]? := fun j h => by rw [← hpl, List.getElem?_drop]
      have HPRE : Hd (∀ j (h : j < pre.length) (h' : k + j < E.length), ¬ mt E[k + j] D[i]) := fun j h h' e => by
        have e1 := hget j h'
        rw [List.getElem?_eq_getElem h', List.getElem?_append_left h, List.getElem?_eq_getElem h] at e1
        rw [Option.some.inj e1] at e
        exact hpre _ (List.getElem_mem h) e
      have HHIT : Hd (∀ (h' : k + pre.length < E.length), mt E[k + pre.length] D[i]) := fun h' => by
        have e1 := hget pre.length h'
        rw [List.getElem?_eq_getElem h', List.getElem?_append_right (Nat.le_refl _), Nat.sub_self] at e1
        have e2 : E[k + pre.length] = x := by simpa using e1
        rw [e2]
        exact hx
      have HEM : Hd (Emb (E.drop (k + pre.length + 1)) (D.drop (i + 1))) := by
        unfold Hd
        have : E.drop (k + pre.length + 1) = l' := by
          rw [show k + pre.length + 1 = k + (pre.length + 1) by omega, ← List.drop_drop, hpl, List.drop_append]
          simp
        rw [this]
        exact hem
      obtain ⟨P, hP⟩ : ∃ P, P = pre.length := ⟨_, rfl⟩
      rw [← hP] at HPRE HHIT HEM
      have hPE : k + P < E.length := by omega
      have hi0 : (0 : Int) ≤ i := by omega
      have hi1 : (i : Int) < D.length := by omega
      clear hdr hm hpl hpre hx hem hget hP hlen
      go_wp2_with fail
      go_loopw [5] (fun v5 wq => ∃ (j : Nat), v5 = .int .i64 ((k + j : Nat) : Int) ∧ j ≤ P ∧ Hd (Fr (fun _ => False) w wq)) (fun v _ => match v with | .int _ q => k + P - q.toNat | _ => 0)
      case atStart => exact ⟨0, rfl, by omega, HF.out⟩
      case round =>
        obtain ⟨j, rfl, hj, HFq⟩ := hrel
        obtain ⟨t, ht⟩ : ∃ t, t = k + j := ⟨_, rfl⟩
        have HTJ : Hd (t = k + j) := ht
        have htE : t < E.length := by omega
        have hno : j < P → ¬ mt E[t] D[i] := fun h => by
          subst ht
          exact HPRE.out j h htE
        have hit : j = P → mt E[t] D[i] := fun h => by
          subst h
          subst ht
          exact HHIT.out htE
        rw [← ht]
        obtain ⟨g1, l1, e1, x0, x1, x2⟩ := ed_cells H1.out HFq.out htE
        obtain ⟨g2, l2, e2, y0, y1, y2⟩ := ed_cells H2.out HFq.out hlt
        cases e1
        cases e2
        have ht0 : (0 : Int) ≤ t := by omega
        have ht1 : (t : Int) < E.length := by omega
        have htb : t ≤ 1000000 := by omega
        have HJ1 : Hd (j < P → t + 1 = k + (j + 1) ∧ t < k + P) := fun h => ⟨by omega, by omega⟩
        have HJ2 : Hd (j = P → Emb (E.drop (t + 1)) (D.drop (i + 1))) := fun h => by
          have h' := HEM.out
          rw [show k + P + 1 = t + 1 by omega] at h'
          exact h'
        unfold mt at hno hit
        generalize E[t].1 = d at *
        generalize E[t].2.1 = s at *
        generalize E[t].2.2 = q at *
        generalize D[i].1 = d' at *
        generalize D[i].2.1 = s' at *
        generalize D[i].2.2 = q' at *
        by_cases hjP : j < P
        · have hn := hno hjP
          have hJ := HJ1.out hjP
          clear hno hit HJ1 HJ2 ht
          by_cases hd : d = d'
          · have f1 : (d != d') = false := by simp [hd]
            by_cases hs : s = s'
            · have f2 : (s != s') = false := by simp [hs]
              have hq : q' < q := by
                by_cases h : q ≤ q'
                · exact absurd ⟨hd, hs, h⟩ hn
                · omega
              have f3 : decide (q > q') = true := by simp; omega
              have f4 : decide (q' < q) = true := by simp; omega
              clear hn hd hs hq
              go_wp2_with fail
              go_quiet (fail)
              go_wp2_with fail
              exact ⟨⟨j + 1, by rw [castK, hJ.1], hjP, ⟨HFq.out.os, HFq.out.tape, HFq.out.output, HFq.out.size, HFq.out.block⟩⟩, measK hJ.2⟩
            · have f2 : (s != s') = true := by simp [hs]
              clear hn hd hs
              go_wp2_with fail
              go_quiet (fail)
              go_wp2_with fail
              exact ⟨⟨j + 1, by rw [castK, hJ.1], hjP, ⟨HFq.out.os, HFq.out.tape, HFq.out.output, HFq.out.size, HFq.out.block⟩⟩, measK hJ.2⟩
          · have f1 : (d != d') = true := by simp [hd]
            clear hn hd
            go_wp2_with fail
            go_quiet (fail)
            go_wp2_with fail
            exact ⟨⟨j + 1, by rw [castK, hJ.1], hjP, ⟨HFq.out.os, HFq.out.tape, HFq.out.output, HFq.out.size, HFq.out.block⟩⟩, measK hJ.2⟩
        · have hje : j = P := by omega
          obtain ⟨m1, m2, m3⟩ := hit hje
          have HM2 := Hd.out (HJ2.out hje)
          have HM2 : Hd (Emb (E.drop (t + 1)) (D.drop (i + 1))) := HM2
          have f1 : (d != d') = false := by simp [m1]
          have f2 : (s != s') = false := by simp [m2]
          have f3 : decide (q > q') = false := by simp; omega
          have f4 : decide (q' < q) = false := by simp; omega
          have f5 : ((t : Int) == (E.length : Int)) = false := by simp; omega
          have f6 : (t == E.length) = false := by simp; omega
          clear hno hit HJ1 HJ2 ht hje hjP m1 m2 m3 hj
          go_wp2_with fail
          go_quiet (fail)
          go_wp2_with fail
          exact ⟨⟨t + 1, i + 1, castK t, castK i, htE, hlt, HM2, ⟨HFq.out.os, HFq.out.tape, HFq.out.output, HFq.out.size, HFq.out.block⟩⟩, measK hlt⟩
    · have hdi : decide ((i : Int) < D.length) = false := by simp; omega
      go_wp2_with fail
      go_ret
      exact ⟨rfl, HF.out⟩
end Go.Proofs.YtlmlmhinbkcpoaaDoor
