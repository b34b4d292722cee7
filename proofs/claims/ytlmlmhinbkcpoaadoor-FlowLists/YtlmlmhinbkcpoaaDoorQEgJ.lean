import Derived.Test.YtlmlmhinbkcpoaaDoorQEf
import Derived.Test.YtlmlmhinbkcpoaaDoorQQlJ
import Derived.Test.YtlmlmhinbkcpoaaDoorQQfJ
import Derived.Test.YtlmlmhinbkcpoaaDoorQQ9J
namespace Go.Proofs.YtlmlmhinbkcpoaaDoor
open Go.RowKit (wrap32 wrap64)
set_option linter.unusedVariables false
set_option linter.unusedSimpArgs false

theorem renC_mem (n : Nat) : ∀ (k : Nat) (cs : List PI) (c : PI), c ∈ renC n k cs → ∃ d ∈ cs, ∃ m, c = renI n m d
  | _, [], c, h => by cases h
  | k, d :: r, c, h => by
    rcases List.mem_cons.1 h with rfl | h
    · exact ⟨d, List.mem_cons_self, k, rfl⟩
    · obtain ⟨d', h1, m, h2⟩ := renC_mem n _ r c h
      exact ⟨d', List.mem_cons_of_mem _ h1, m, h2⟩
theorem fine_alone {fs : List PF} {f : PF} (h : FineC f.code) : FineP (aloneP fs f) := by
  refine ⟨?_, fun g hg => ?_⟩
  · unfold aloneP headsF
    simp only [List.length_cons, List.length_map]
    have := hcnt_le fs.length f.code
    unfold hcnt at this
    have := h.1
    omega
  · rcases List.mem_cons.1 hg with rfl | hg
    · refine ⟨by simp only [renC_len]; exact h.1, fun c hc => ?_⟩
      obtain ⟨d, hd, m, rfl⟩ := renC_mem fs.length 1 f.code c hc
      obtain ⟨a1, a2⟩ := renI_args fs.length m d
      rw [a1, a2]
      exact h.2 d hd
    · obtain ⟨c, -, rfl⟩ := List.mem_map.1 hg
      refine ⟨by simp [headF], fun c' hc' => ?_⟩
      simp [headF] at hc'
      subst hc'
      simp [jmp]

set_option maxRecDepth 100000 in
set_option maxHeartbeats 1000000 in
theorem right_any (G : Int) (fv : Value) (fs : List PF) (i : Nat) (hi : i < fs.length) (w : World) (h1 : FA w fv fs) (b1 : FineP fs) (hT : Tab w) :
    Calls Tryd.prog 28 #[.agg #[vI G, fv], vI (i : Int)] w fun e w' => e = .returned (.bool (decide (checkP G (aloneP fs fs[i]) = 0))) ∧ Fr (fun _ => False) w w' := by
  have hFa : Fr (fun _ => False) w (w.alloc (.cells #[vI G, fv] 24)) := Fr.alloc (Fr.refl _ w) _
  have HFa : Hd (Fr (fun _ => False) w (w.alloc (.cells #[vI G, fv] 24))) := hFa
  have H1 : Hd (FA (w.alloc (.cells #[vI G, fv] 24)) fv fs) := h1.stay hFa
  have HT : Hd (Tab w) := hT
  have HB : Hd (FineP fs) := b1
  obtain ⟨fa, fc, efv, -⟩ := h1
  subst efv
  clear hFa hT b1
  go_enter Tryd.func28, Tryd.ntmps28
  go_wp2_with fail
  refine (show Calls Tryd.prog 44 #[.agg #[vI G, .slice fa fs.length fc], vI (i : Int)] (w.alloc (.cells #[vI G, .slice fa fs.length fc] 24)) _ from alone_any G _ fs i hi _ H1.out HB.out).mono ?_
  rintro e w1 ⟨v', rfl, hfa, hF1⟩
  have HF1 : Hd (Fr (fun _ => False) w w1) := HFa.out.trans hF1
  have HA : Hd (FA w1 v' (aloneP fs fs[i])) := hfa
  have HT1 : Hd (Tab w1) := HT.out.stay HF1.out
  have hfine : FineP (aloneP fs fs[i]) := fine_alone (HB.out.2 fs[i] (List.getElem_mem hi))
  obtain ⟨va, vc, ev, -⟩ := hfa
  subst ev
  have hck := check_prog w1 G (aloneP fs fs[i]) _ (HA.out.fl hfine (by omega)) HT1.out (by have := HT1.out.lt; omega)
  clear hF1
  obtain ⟨ck, hgen⟩ : ∃ ck, checkP G (aloneP fs fs[i]) = ck := ⟨_, rfl⟩
  rw [hgen] at hck
  have HGE : Hd (checkP G (aloneP fs fs[i]) = ck) := hgen
  clear hgen
  go_wp2_with fail
  refine hck.mono ?_
  rintro e w2 ⟨rfl, hF2⟩
  have HF2 : Hd (Fr (fun _ => False) w w2) := HF1.out.trans hF2
  have hb : (ck == 0) = decide (ck = 0) := by by_cases h : ck = 0 <;> simp [h]
  clear hF2 hck
  go_wp2_with fail
  go_ret
  exact ⟨by rw [HGE.out, ← hb]; rfl, HF2.out⟩

/-- What is known of a right function, in its own program. -/
structure FunR (fs : List PF) (f : PF) : Prop where
  V : 0 ≤ f.V ∧ f.V ≤ 255
  P : 0 ≤ f.P ∧ f.P ≤ 8
  R : 0 ≤ f.R ∧ f.R ≤ 4
  len : 1 ≤ f.code.length ∧ f.code.length ≤ 4096
  op : ∀ c ∈ f.code, 1 ≤ c.op ∧ c.op ≤ 17
  r : ∀ c ∈ f.code, c.op = 2 ∨ c.op = 5 ∨ c.op = 6 ∨ c.op = 7 ∨ c.op = 8 → 0 ≤ c.r ∧ c.r < f.V
  s : ∀ c ∈ f.code, c.op = 2 ∨ c.op = 5 ∨ c.op = 7 ∨ c.op = 8 ∨ c.op = 10 → 0 ≤ c.s ∧ c.s < f.V
  ret : ∀ c ∈ f.code, c.op = 15 → (c.args.length : Int) = f.R ∧ ∀ v ∈ c.args, 0 ≤ v ∧ v < f.V
  call : ∀ c ∈ f.code, c.op = 11 → ∃ q : Nat, c.n = q ∧ ∃ h : q < fs.length, (0 ≤ fs[q].P ∧ fs[q].P ≤ 8) ∧ (0 ≤ fs[q].R ∧ fs[q].R ≤ 4) ∧ c.args.length = fs[q].P.toNat ∧ c.rets.length = fs[q].R.toNat ∧ (∀ v ∈ c.args, 0 ≤ v ∧ v < f.V) ∧ ∀ v ∈ c.rets, 0 ≤ v ∧ v < f.V
theorem inV {V v : Int} (hV : 0 ≤ V ∧ V ≤ 255) (h : InV V v) : 0 ≤ v ∧ v < V := by
  obtain ⟨h1, h2⟩ := h
  rw [wrap_small _ (by omega) (by omega)] at h2
  omega
theorem heads_at (n : Nat) (p : PI → Bool) : ∀ (cs : List PI) (j : Nat) (h : j < cs.length), p cs[j] = true → (cs.filter p)[((cs.take j).filter p).length]? = some cs[j]
  | c :: r, 0, _, hp => by
    have hp : p c = true := hp
    simp [hp]
  | c :: r, j + 1, h, hp => by
    have h' : j < r.length := by simpa using h
    have := heads_at n p r j h' (by simpa using hp)
    simp only [List.take_succ_cons, List.getElem_cons_succ]
    rw [List.filter_cons, List.filter_cons]
    split
    · rw [List.length_cons, List.getElem?_cons_succ]
      exact this
    · exact this
theorem renI_op (n k : Nat) (c : PI) : (renI n k c).op = c.op ∧ (renI n k c).r = c.r ∧ (renI n k c).s = c.s := by
  unfold renI
  split
  · split <;> exact ⟨rfl, rfl, rfl⟩
  · exact ⟨rfl, rfl, rfl⟩
theorem right_ok {G : Int} {fs : List PF} {f : PF} (h : checkP G (aloneP fs f) = 0) : FunR fs f := by
  obtain ⟨⟨hV, hP, hR, hlen, hcode⟩, hl, hhd⟩ := check_ok (r := headsF fs f.code) h
  simp only at hV hP hR
  simp only [renC_len] at hlen
  have key : ∀ j (hj : j < f.code.length), InsK (headsOfP (aloneP fs f)) f.R.toNat f.V f.code[j].op f.code[j].r f.code[j].s (renI fs.length (1 + hcnt fs.length (f.code.take j)) f.code[j]).n f.code[j].args f.code[j].rets := fun j hj => by
    have hg := renC_get fs.length f.code 1 j hj
    have hm := hcode _ (List.mem_of_getElem? hg)
    obtain ⟨a1, a2⟩ := renI_args fs.length (1 + hcnt fs.length (f.code.take j)) f.code[j]
    obtain ⟨b1, b2, b3⟩ := renI_op fs.length (1 + hcnt fs.length (f.code.take j)) f.code[j]
    rw [a1, a2, b1, b2, b3] at hm
    exact hm
  refine ⟨hV, hP, hR, hlen, fun c hc => ?_, fun c hc => ?_, fun c hc => ?_, fun c hc => ?_, fun c hc => ?_⟩
  all_goals obtain ⟨j, hj, rfl⟩ := List.mem_iff_getElem.1 hc
  all_goals have K := key j hj
  · exact K.kop
  · exact fun e => inV hV (K.kr e)
  · exact fun e => inV hV (K.ks e)
  · intro e
    obtain ⟨k1, k2⟩ := K.kret e
    exact ⟨by omega, fun v hv => inV hV (k2 v hv)⟩
  · intro e
    obtain ⟨k1, k2, k3, k4, k5⟩ := K.kcall e
    by_cases hr : 0 ≤ f.code[j].n ∧ f.code[j].n < fs.length
    · have e1 : (renI fs.length (1 + hcnt fs.length (f.code.take j)) f.code[j]).n = ((1 + hcnt fs.length (f.code.take j) : Nat) : Int) := by unfold renI; rw [if_pos e, if_pos hr]
      rw [e1] at k2 k3
      have hh : isH fs.length f.code[j] = true := by unfold isH; simp [e, hr.1, hr.2]
      have h2 := heads_at fs.length (isH fs.length) f.code j hj hh
      have h3 : (headsOfP (aloneP fs f)).getD (((1 + hcnt fs.length (f.code.take j) : Nat) : Int)).toNat (0, 0) = ((fs.getD f.code[j].n.toNat ⟨0, 0, 0, []⟩).P.toNat, (fs.getD f.code[j].n.toNat ⟨0, 0, 0, []⟩).R.toNat) := by
        unfold headsOfP aloneP headsF
        rw [Int.toNat_natCast, Nat.add_comm, List.getD_eq_getElem?_getD, List.map_cons, List.getElem?_cons_succ, List.getElem?_map, List.getElem?_map]
        unfold hcnt
        rw [h2]
        rfl
      rw [h3] at k2 k3
      have hq' : f.code[j].n.toNat < fs.length := by omega
      have hmem : headF fs f.code[j] ∈ aloneP fs f := List.mem_cons_of_mem _ (List.mem_map.2 ⟨f.code[j], List.mem_filter.2 ⟨List.getElem_mem hj, hh⟩, rfl⟩)
      obtain ⟨-, p1, p2⟩ := hhd _ hmem
      have ehd : (headF fs f.code[j]).P = fs[f.code[j].n.toNat].P ∧ (headF fs f.code[j]).R = fs[f.code[j].n.toNat].R := by unfold headF; simp [hq']
      rw [ehd.1] at p1
      rw [ehd.2] at p2
      refine ⟨f.code[j].n.toNat, by omega, hq', p1, p2, ?_, ?_, fun v hv => inV hV (k4 v hv), fun v hv => inV hV (k5 v hv)⟩
      · rw [k2]
        have : f.code[j].n.toNat < fs.length := by omega
        simp [this]
      · rw [k3]
        have : f.code[j].n.toNat < fs.length := by omega
        simp [this]
    · have e1 : (renI fs.length (1 + hcnt fs.length (f.code.take j)) f.code[j]).n = -1 := by unfold renI; rw [if_pos e, if_neg hr]
      rw [e1] at k1
      omega
end Go.Proofs.YtlmlmhinbkcpoaaDoor

namespace Go.Proofs.YtlmlmhinbkcpoaaDoor
open Go.RowKit Go.Shelf
set_option linter.unusedVariables false
set_option linter.unusedSimpArgs false

/-! ### the edges of a function, in plain words -/
def dPI : PI := ⟨0, 0, 0, 0, 0, [], []⟩
def dPS : PS := ⟨[], []⟩
/-- The location of the next New. -/
def clX (R V : Int) (cs : List PI) : Nat → Int
  | 0 => cellX R V
  | j + 1 => if (cs.getD j dPI).op = 6 then wrap64 (clX R V cs j + 1) else clX R V cs j
def edgI (ss : List PS) (R V cell : Int) (c : PI) : List Ed :=
  if c.op = 15 then retE R V c.args
  else if c.op = 11 then callT R V c.args c.rets (ss.getD c.n.toNat dPS).H (ss.getD c.n.toNat dPS).R c.args.length
  else if (rowX c.op.toNat).1 = 1 then [(endX R V (rowX c.op.toNat).2.1 c.r c.s cell, endX R V (rowX c.op.toNat).2.2.1 c.r c.s cell, (rowX c.op.toNat).2.2.2)]
  else []
def edgX (ss : List PS) (f : PF) : List Ed := (List.range f.code.length).flatMap fun j => edgI ss f.R f.V (clX f.R f.V f.code j) (f.code.getD j dPI)
theorem row_kind : ∀ op, op < 18 → op ≠ 15 → op ≠ 11 → (rowX op).1 = 0 ∨ (rowX op).1 = 1 := by
  have h : ∀ op : Fin 18, op.val ≠ 15 → op.val ≠ 11 → (rowX op.val).1 = 0 ∨ (rowX op.val).1 = 1 := by decide
  exact fun op ho => h ⟨op, ho⟩
theorem IA.ib {w W : World} {n0 : Nat} {v : Value} {l : List Int} (h : IA w v l) (f : Fr (fun _ => False) w W) (hn : w.heap.size ≤ n0) : IB n0 W v l := by
  obtain ⟨a, c, rfl, h⟩ := h
  refine ⟨a, c, rfl, fun hne => ?_⟩
  obtain ⟨k, o, rfl, hk, hc⟩ := h hne
  exact ⟨k, o, rfl, by omega, fun j hj => (f.cell hk (fun h => h)).trans (hc j hj)⟩
theorem LA.lb {w W : World} {n0 : Nat} {v : Value} {ls : List (List Int)} (h : LA w v ls) (f : Fr (fun _ => False) w W) (hn : w.heap.size ≤ n0) : LB n0 W v ls := by
  obtain ⟨a, c, rfl, h⟩ := h
  refine ⟨a, c, rfl, fun hne => ?_⟩
  obtain ⟨k, o, rfl, hk, hc⟩ := h hne
  refine ⟨k, o, rfl, by omega, fun j hj => ?_⟩
  obtain ⟨x, h1, h2⟩ := hc j hj
  exact ⟨x, (f.cell hk (fun h => h)).trans h1, h2.ib f hn⟩
/-- The instructions, as their cells hold them. -/
def ivs (cs : List PI) (p : Nat → (Option Addr × Nat) × (Option Addr × Nat)) (j : Nat) : IV :=
  ⟨(cs.getD j dPI).op, (cs.getD j dPI).r, (cs.getD j dPI).s, (cs.getD j dPI).t, (cs.getD j dPI).n, (p j).1.1, (cs.getD j dPI).args.length, (p j).1.2, (p j).2.1, (cs.getD j dPI).rets.length, (p j).2.2⟩
theorem CA.ivs {w : World} {a : Option Addr} {n cp : Nat} {cs : List PI} (h : CA w (.slice a n cp) cs) :
    ∃ p, (0 < cs.length → ∃ ck co, a = some ⟨ck, co, none⟩ ∧ ck < w.heap.size ∧ ∀ i, i < cs.length → ∀ o, o < 7 → w.cell? ⟨ck, co + i * 7 + o, none⟩ = (ivs cs p i).cells[o]?) ∧ ∀ i (h : i < cs.length), IA w (.slice (p i).1.1 cs[i].args.length (p i).1.2) cs[i].args ∧ IA w (.slice (p i).2.1 cs[i].rets.length (p i).2.2) cs[i].rets := by
  by_cases hne : cs = []
  · subst hne
    exact ⟨fun _ => ((none, 0), (none, 0)), fun h => absurd h (by simp), fun i h => absurd h (by simp)⟩
  obtain ⟨a', cp', e, h⟩ := h
  cases e
  obtain ⟨k, o, rfl, hk, hc⟩ := h hne
  have hv : ∀ j, ∃ q : (Option Addr × Nat) × (Option Addr × Nat), ∀ (h : j < cs.length), w.cell? ⟨k, o + j * 7, none⟩ = some (vI cs[j].op) ∧ w.cell? ⟨k, o + j * 7 + 1, none⟩ = some (vI cs[j].r) ∧ w.cell? ⟨k, o + j * 7 + 2, none⟩ = some (vI cs[j].s) ∧ w.cell? ⟨k, o + j * 7 + 3, none⟩ = some (vI cs[j].t) ∧ w.cell? ⟨k, o + j * 7 + 4, none⟩ = some (vI cs[j].n) ∧
      w.cell? ⟨k, o + j * 7 + 5, none⟩ = some (.slice q.1.1 cs[j].args.length q.1.2) ∧ w.cell? ⟨k, o + j * 7 + 6, none⟩ = some (.slice q.2.1 cs[j].rets.length q.2.2) ∧ IA w (.slice q.1.1 cs[j].args.length q.1.2) cs[j].args ∧ IA w (.slice q.2.1 cs[j].rets.length q.2.2) cs[j].rets := fun j => by
    by_cases hj : j < cs.length
    · obtain ⟨av, rv, q1, q2, q3, q4, q5, q6, q7, q8, q9⟩ := hc j hj
      obtain ⟨a1, c1, e1, -⟩ := id q8
      obtain ⟨a2, c2, e2, -⟩ := id q9
      subst e1 e2
      exact ⟨((a1, c1), (a2, c2)), fun _ => ⟨q1, q2, q3, q4, q5, q6, q7, q8, q9⟩⟩
    · exact ⟨((none, 0), (none, 0)), fun h => absurd h hj⟩
  refine ⟨fun j => (hv j).choose, fun _ => ⟨k, o, rfl, hk, fun i hi o' ho' => ?_⟩, fun i hi => ((hv i).choose_spec hi).2.2.2.2.2.2.2⟩
  have e : cs.getD i dPI = cs[i] := by simp [hi]
  obtain ⟨q1, q2, q3, q4, q5, q6, q7, -⟩ := (hv i).choose_spec hi
  have hr : o' = 0 ∨ o' = 1 ∨ o' = 2 ∨ o' = 3 ∨ o' = 4 ∨ o' = 5 ∨ o' = 6 := by omega
  unfold Go.Proofs.YtlmlmhinbkcpoaaDoor.ivs
  rw [e]
  rcases hr with rfl | rfl | rfl | rfl | rfl | rfl | rfl
  · exact q1
  · exact q2
  · exact q3
  · exact q4
  · exact q5
  · exact q6
  · exact q7
theorem fits_len {s : PS} {P R : Int} (h : fitsX s P R = true) : (s.R.length : Int) = P ∧ (s.H.length : Int) = P ∧ (∀ l ∈ s.R, (l.length : Int) = R) ∧ (∀ d ∈ s.H, derOk d = true) ∧ ∀ l ∈ s.R, ∀ d ∈ l, derOk d = true := by
  unfold fitsX dersX at h
  simp only [Bool.and_eq_true, decide_eq_true_eq, List.all_eq_true] at h
  obtain ⟨h1, ⟨h2, h3⟩, h4⟩ := h
  exact ⟨h1, h2, fun l hl => (h4 l hl).1, h3, fun l hl => (h4 l hl).2⟩
/-- What 'given' hands over at any instruction of a right function. -/
theorem given_any {n0 : Nat} {fs : List PF} {ss : List PS} {f : PF} (hf : FunR fs f) (ht : toldX fs ss f.code = true) (hls : ss.length = fs.length) {w W : World} (hF : Fr (fun _ => False) w W) (hn : w.heap.size ≤ n0) (hW : n0 ≤ W.heap.size) (h0 : 0 < n0) (hT : RowsA W)
    {ca : Option Addr} {cn cc : Nat} {sa : Option Addr} {sn sc : Nat} (hS : SsA w (.slice sa sn sc) ss) {p : Nat → (Option Addr × Nat) × (Option Addr × Nat)} (hI : ∀ i (h : i < f.code.length), IA w (.slice (p i).1.1 f.code[i].args.length (p i).1.2) f.code[i].args ∧ IA w (.slice (p i).2.1 f.code[i].rets.length (p i).2.2) f.code[i].rets)
    (P : Int) (j : Nat) (hj : j < f.code.length) (cell : Int) :
    Given n0 (.agg #[vI P, vI f.R, vI f.V, .slice ca cn cc, .slice sa sn sc]) (ivs f.code p j).val cell (edgI ss f.R f.V cell (f.code.getD j dPI)) W := by
  have e : f.code.getD j dPI = f.code[j] := by simp [hj]
  have hc : f.code[j] ∈ f.code := List.getElem_mem hj
  obtain ⟨hia, hir⟩ := hI j hj
  have hop := hf.op _ hc
  unfold ivs
  rw [e]
  by_cases h15 : f.code[j].op = 15
  · unfold edgI
    rw [if_pos h15, h15]
    obtain ⟨k1, k2⟩ := hf.ret _ hc h15
    have hR := hf.R
    refine given_return n0 P f.R f.V ca cn cc sa sn sc _ _ _ _ cell f.code[j].args _ _ _ _ _ W (by omega) h0 hW hT.t ?_
    obtain ⟨a', c', e', hh⟩ := hia.ib hF hn
    cases e'
    exact hh
  · by_cases h11 : f.code[j].op = 11
    · unfold edgI
      rw [if_neg h15, if_pos h11, h11]
      obtain ⟨q, hq, hqf, p1, p2, a1, a2, -, -⟩ := hf.call _ hc h11
      have hqs : q < ss.length := by omega
      have hfit : fitsX ss[q] fs[q].P fs[q].R = true := by
        have := List.all_eq_true.1 ht _ hc
        unfold fitI at this
        rw [if_pos h11, hq] at this
        simpa [hqf, hqs] using this
      obtain ⟨l1, l2, l3, -, -⟩ := fits_len hfit
      obtain ⟨a', c', e', hss⟩ := hS
      cases e'
      obtain ⟨sk, so, rfl, hsk, hss⟩ := hss (by intro e; rw [e] at hqs; simp at hqs)
      obtain ⟨hv, rv, s0, s1, hH, hR⟩ := hss q hqs
      obtain ⟨ha, hcp, rfl, -⟩ := id hH
      obtain ⟨la, lc, rfl, -⟩ := id hR
      have es : ss.getD f.code[j].n.toNat dPS = ss[q] := by rw [hq]; simp [hqs]
      rw [es, hq]
      exact given_call n0 P f.R f.V ca cn cc sk so ss.length sc _ _ _ q _ _ _ _ ha hcp la lc f.code[j].args f.code[j].rets ss[q].H ss[q].R cell W (by omega) (by omega) (by omega) (fun x hx => by have := l3 x hx; omega) (by omega) h0 hW hT hqs (by omega) ⟨(hF.cell hsk (fun h => h)).trans s0, (hF.cell hsk (fun h => h)).trans s1⟩ (hia.ib hF hn) (hir.ib hF hn) (hH.ib hF hn) (hR.lb hF hn)
    · have hn15 : f.code[j].op.toNat ≠ 15 := by omega
      have hn11 : f.code[j].op.toNat ≠ 11 := by omega
      rcases row_kind f.code[j].op.toNat (by omega) hn15 hn11 with hr | hr
      · unfold edgI
        rw [if_neg h15, if_neg h11, if_neg (by omega)]
        exact given_none n0 P f.R f.V ca cn cc sa sn sc ⟨f.code[j].op, f.code[j].r, f.code[j].s, f.code[j].t, f.code[j].n, (p j).1.1, f.code[j].args.length, (p j).1.2, (p j).2.1, f.code[j].rets.length, (p j).2.2⟩ f.code[j].op.toNat (by omega) (by show f.code[j].op = _; omega) hr cell W h0 hW hT
      · unfold edgI
        rw [if_neg h15, if_neg h11, if_pos hr]
        exact given_one n0 P f.R f.V ca cn cc sa sn sc ⟨f.code[j].op, f.code[j].r, f.code[j].s, f.code[j].t, f.code[j].n, (p j).1.1, f.code[j].args.length, (p j).1.2, (p j).2.1, f.code[j].rets.length, (p j).2.2⟩ f.code[j].op.toNat (by omega) (by show f.code[j].op = _; omega) hr cell W h0 hW hT
end Go.Proofs.YtlmlmhinbkcpoaaDoor
