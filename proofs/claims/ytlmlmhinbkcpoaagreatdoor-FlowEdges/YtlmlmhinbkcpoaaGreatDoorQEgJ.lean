import Derived.Test.YtlmlmhinbkcpoaaGreatDoorQEf
import Derived.Test.YtlmlmhinbkcpoaaGreatDoorQA3J
import Derived.RangeFuncNested
import Derived.RangeFuncLeaves
import Derived.Test.YtlmlmhinbkcpoaaGreatDoorQQ1J
import Derived.RangeFuncBox
import Derived.RangeFuncBound
import Derived.RangeFuncCalls
import Derived.Shelf.Abstract
import Derived.Shelf.RegionOpen
import Derived.OwnWalkIn
import Derived.TacticsInMore
import Derived.LoopNIn
import Derived.LoopIn
namespace Go.Proofs.YtlmlmhinbkcpoaaGreatDoor
open Go.RowKit (wrap32 wrap64)
set_option linter.unusedVariables false
set_option linter.unusedSimpArgs false
set_option maxRecDepth 100000
set_option maxHeartbeats 1000000
theorem renC_mem (n : Nat) : ∀ (k : Nat) (cs : List PI) (c : PI), c ∈ renC n k cs → ∃ d ∈ cs, ∃ m, c = renI n m d
  | _, [], c, h => by cases h
  | k, d :: r, c, h => by
    rcases List.mem_cons.1 h with rfl | h
    · exact ⟨d, List.mem_cons_self, k, rfl⟩
    · obtain ⟨d', h1, m, h2⟩ := renC_mem n _ r c h
      exact ⟨d', List.mem_cons_of_mem _ h1, m, h2⟩
theorem fine_alone {fs : List PF} {f : PF} (h : FineC f.code) : FineP (aloneP fs f) := by
  refine ⟨?_, fun g hg => ?_⟩
  · unfold aloneP headsF
    simp only [List.length_cons, List.length_map]
    have := hcnt_le fs.length f.code
    unfold hcnt at this
    have := h.1
    omega
  · rcases List.mem_cons.1 hg with rfl | hg
    · refine ⟨by simp only [renC_len]; exact h.1, fun c hc => ?_⟩
      obtain ⟨d, hd, m, rfl⟩ := renC_mem fs.length 1 f.code c hc
      obtain ⟨a1, a2⟩ := renI_args fs.length m d
      rw [a1, a2]
      exact h.2 d hd
    · obtain ⟨c, -, rfl⟩ := List.mem_map.1 hg
      refine ⟨by simp [headF], fun c' hc' => ?_⟩
      simp [headF] at hc'
      subst hc'
      simp [jmp]
theorem right_any (G : Int) (fv : Value) (fs : List PF) (i : Nat) (hi : i < fs.length) (w : World) (h1 : FA w fv fs) (b1 : FineP fs) (hT : Tab w) :
    Calls Tryz.prog 19 #[.agg #[vI G, fv], vI (i : Int)] w fun e w' => e = .returned (.bool (decide (checkP G (aloneP fs fs[i]) = 0))) ∧ Fr (fun _ => False) w w' := by
  have hFa : Fr (fun _ => False) w (w.alloc (.cells #[vI G, fv] 24)) := Fr.alloc (Fr.refl _ w) _
  have HFa : Hd (Fr (fun _ => False) w (w.alloc (.cells #[vI G, fv] 24))) := hFa
  have H1 : Hd (FA (w.alloc (.cells #[vI G, fv] 24)) fv fs) := h1.stay hFa
  have HT : Hd (Tab w) := hT
  have HB : Hd (FineP fs) := b1
  obtain ⟨fa, fc, efv, -⟩ := h1
  subst efv
  clear hFa hT b1
  go_enter Tryz.func19, Tryz.ntmps19
  go_wp2_with fail
  refine (show Calls Tryz.prog 34 #[.agg #[vI G, .slice fa fs.length fc], vI (i : Int)] (w.alloc (.cells #[vI G, .slice fa fs.length fc] 24)) _ from alone_any G _ fs i hi _ H1.out HB.out).mono ?_
  rintro e w1 ⟨v', rfl, hfa, hF1⟩
  have HF1 : Hd (Fr (fun _ => False) w w1) := HFa.out.trans hF1
  have HA : Hd (FA w1 v' (aloneP fs fs[i])) := hfa
  have HT1 : Hd (Tab w1) := HT.out.stay HF1.out
  have hfine : FineP (aloneP fs fs[i]) := fine_alone (HB.out.2 fs[i] (List.getElem_mem hi))
  obtain ⟨va, vc, ev, -⟩ := hfa
  subst ev
  have hck := check_prog w1 G (aloneP fs fs[i]) _ (HA.out.fl hfine (by omega)) HT1.out (by have := HT1.out.lt; omega)
  clear hF1
  obtain ⟨ck, hgen⟩ : ∃ ck, checkP G (aloneP fs fs[i]) = ck := ⟨_, rfl⟩
  rw [hgen] at hck
  have HGE : Hd (checkP G (aloneP fs fs[i]) = ck) := hgen
  clear hgen
  go_wp2_with fail
  refine hck.mono ?_
  rintro e w2 ⟨rfl, hF2⟩
  have HF2 : Hd (Fr (fun _ => False) w w2) := HF1.out.trans hF2
  have hb : (ck == 0) = decide (ck = 0) := by by_cases h : ck = 0 <;> simp [h]
  clear hF2 hck
  go_wp2_with fail
  go_ret
  exact ⟨by rw [HGE.out, ← hb]; rfl, HF2.out⟩
structure FunR (fs : List PF) (f : PF) : Prop where
  V : 0 ≤ f.V ∧ f.V ≤ 255
  P : 0 ≤ f.P ∧ f.P ≤ 8
  R : 0 ≤ f.R ∧ f.R ≤ 4
  len : 1 ≤ f.code.length ∧ f.code.length ≤ 4096
  op : ∀ c ∈ f.code, 1 ≤ c.op ∧ c.op ≤ 17
  r : ∀ c ∈ f.code, c.op = 2 ∨ c.op = 5 ∨ c.op = 6 ∨ c.op = 7 ∨ c.op = 8 → 0 ≤ c.r ∧ c.r < f.V
  s : ∀ c ∈ f.code, c.op = 2 ∨ c.op = 5 ∨ c.op = 7 ∨ c.op = 8 ∨ c.op = 10 → 0 ≤ c.s ∧ c.s < f.V
  ret : ∀ c ∈ f.code, c.op = 15 → (c.args.length : Int) = f.R ∧ ∀ v ∈ c.args, 0 ≤ v ∧ v < f.V
  call : ∀ c ∈ f.code, c.op = 11 → ∃ q : Nat, c.n = q ∧ ∃ h : q < fs.length, (0 ≤ fs[q].P ∧ fs[q].P ≤ 8) ∧ (0 ≤ fs[q].R ∧ fs[q].R ≤ 4) ∧ c.args.length = fs[q].P.toNat ∧ c.rets.length = fs[q].R.toNat ∧ (∀ v ∈ c.args, 0 ≤ v ∧ v < f.V) ∧ ∀ v ∈ c.rets, 0 ≤ v ∧ v < f.V
theorem inV {V v : Int} (hV : 0 ≤ V ∧ V ≤ 255) (h : InV V v) : 0 ≤ v ∧ v < V := by
  obtain ⟨h1, h2⟩ := h
  rw [wrap_small _ (by omega) (by omega)] at h2
  omega
theorem heads_at (n : Nat) (p : PI → Bool) : ∀ (cs : List PI) (j : Nat) (h : j < cs.length), p cs[j] = true → (cs.filter p)[((cs.take j).filter p).length]? = some cs[j]
  | c :: r, 0, _, hp => by
    have hp : p c = true := hp
    simp [hp]
  | c :: r, j + 1, h, hp => by
    have h' : j < r.length := by simpa using h
    have := heads_at n p r j h' (by simpa using hp)
    simp only [List.take_succ_cons, List.getElem_cons_succ]
    rw [List.filter_cons, List.filter_cons]
    split
    · rw [List.length_cons, List.getElem?_cons_succ]
      exact this
    · exact this
theorem renI_op (n k : Nat) (c : PI) : (renI n k c).op = c.op ∧ (renI n k c).r = c.r ∧ (renI n k c).s = c.s := by
  unfold renI
  split
  · split <;> exact ⟨rfl, rfl, rfl⟩
  · exact ⟨rfl, rfl, rfl⟩
theorem right_ok {G : Int} {fs : List PF} {f : PF} (h : checkP G (aloneP fs f) = 0) : FunR fs f := by
  obtain ⟨⟨hV, hP, hR, hlen, hcode⟩, hl, hhd⟩ := check_ok (r := headsF fs f.code) h
  simp only at hV hP hR
  simp only [renC_len] at hlen
  have key : ∀ j (hj : j < f.code.length), InsK (headsOfP (aloneP fs f)) f.R.toNat f.V f.code[j].op f.code[j].r f.code[j].s (renI fs.length (1 + hcnt fs.length (f.code.take j)) f.code[j]).n f.code[j].args f.code[j].rets := fun j hj => by
    have hg := renC_get fs.length f.code 1 j hj
    have hm := hcode _ (List.mem_of_getElem? hg)
    obtain ⟨a1, a2⟩ := renI_args fs.length (1 + hcnt fs.length (f.code.take j)) f.code[j]
    obtain ⟨b1, b2, b3⟩ := renI_op fs.length (1 + hcnt fs.length (f.code.take j)) f.code[j]
    rw [a1, a2, b1, b2, b3] at hm
    exact hm
  refine ⟨hV, hP, hR, hlen, fun c hc => ?_, fun c hc => ?_, fun c hc => ?_, fun c hc => ?_, fun c hc => ?_⟩
  all_goals obtain ⟨j, hj, rfl⟩ := List.mem_iff_getElem.1 hc
  all_goals have K := key j hj
  · exact K.kop
  · exact fun e => inV hV (K.kr e)
  · exact fun e => inV hV (K.ks e)
  · intro e
    obtain ⟨k1, k2⟩ := K.kret e
    exact ⟨by omega, fun v hv => inV hV (k2 v hv)⟩
  · intro e
    obtain ⟨k1, k2, k3, k4, k5⟩ := K.kcall e
    by_cases hr : 0 ≤ f.code[j].n ∧ f.code[j].n < fs.length
    · have e1 : (renI fs.length (1 + hcnt fs.length (f.code.take j)) f.code[j]).n = ((1 + hcnt fs.length (f.code.take j) : Nat) : Int) := by unfold renI; rw [if_pos e, if_pos hr]
      rw [e1] at k2 k3
      have hh : isH fs.length f.code[j] = true := by unfold isH; simp [e, hr.1, hr.2]
      have h2 := heads_at fs.length (isH fs.length) f.code j hj hh
      have h3 : (headsOfP (aloneP fs f)).getD (((1 + hcnt fs.length (f.code.take j) : Nat) : Int)).toNat (0, 0) = ((fs.getD f.code[j].n.toNat ⟨0, 0, 0, []⟩).P.toNat, (fs.getD f.code[j].n.toNat ⟨0, 0, 0, []⟩).R.toNat) := by
        unfold headsOfP aloneP headsF
        rw [Int.toNat_natCast, Nat.add_comm, List.getD_eq_getElem?_getD, List.map_cons, List.getElem?_cons_succ, List.getElem?_map, List.getElem?_map]
        unfold hcnt
        rw [h2]
        rfl
      rw [h3] at k2 k3
      have hq' : f.code[j].n.toNat < fs.length := by omega
      have hmem : headF fs f.code[j] ∈ aloneP fs f := List.mem_cons_of_mem _ (List.mem_map.2 ⟨f.code[j], List.mem_filter.2 ⟨List.getElem_mem hj, hh⟩, rfl⟩)
      obtain ⟨-, p1, p2⟩ := hhd _ hmem
      have ehd : (headF fs f.code[j]).P = fs[f.code[j].n.toNat].P ∧ (headF fs f.code[j]).R = fs[f.code[j].n.toNat].R := by unfold headF; simp [hq']
      rw [ehd.1] at p1
      rw [ehd.2] at p2
      refine ⟨f.code[j].n.toNat, by omega, hq', p1, p2, ?_, ?_, fun v hv => inV hV (k4 v hv), fun v hv => inV hV (k5 v hv)⟩
      · rw [k2]
        have : f.code[j].n.toNat < fs.length := by omega
        simp [this]
      · rw [k3]
        have : f.code[j].n.toNat < fs.length := by omega
        simp [this]
    · have e1 : (renI fs.length (1 + hcnt fs.length (f.code.take j)) f.code[j]).n = -1 := by unfold renI; rw [if_pos e, if_neg hr]
      rw [e1] at k1
      omega
end Go.Proofs.YtlmlmhinbkcpoaaGreatDoor
namespace Go.Proofs.YtlmlmhinbkcpoaaGreatDoor
open Go Go.RowKit
set_option linter.unusedVariables false
set_option linter.unusedSimpArgs false
variable {F : Fence} {n : Nat} {P : Program}
def SeqGivesC {α : Type} (F : Fence) (n : Nat) (P : Program) (g : Nat) (fst lb : Array Value) (encs : α → Array Value) (Kp : Nat → World → World → Prop) (S : List α → Prop) (N : Nat) (w : World) : Prop :=
  ∀ (l : Nat) (J : List α → World → Prop) (W : World), Below w.heap.size w W → w.heap.size ≤ l → l < W.heap.size → OwnFrom W.heap.size J →
    (∀ pre x W1, J pre W1 → pre.length < N → YieldAt F (n - 1) P l (encs x) W1 fun e W' => e = .returned (.bool true) ∧ J (pre ++ [x]) W' ∧ Kp l W1 W') →
    J [] W →
    CallsIn F n P g (fst ++ #[.func (.yield l) #[] #[]] ++ lb) W fun e W' => (∃ v, e = .returned v) ∧ ∃ xs, S xs ∧ J xs W'
def GoesOn {α : Type} (B : Nat) (Kp : World → World → Prop) (I : List α → World → Prop) (xs : List α) (W : World) : Exit → Act → World → Prop
  | .normal, _, W' => KeepsFrom B W W' ∧ Kp W W' ∧ I xs W'
  | _, _, _ => False
theorem later_block {A B : World} {row : Option Nat} (hg : A.grownBy B row) {k m : Nat} {o : Obj} (hk : A.heap[k]? = some o) (hkm : k < m) (hr : ∀ r, row = some r → m ≤ r ∧ ∃ o : Obj, A.heap[r]? = some o ∧ o.isCells = false) : B.heap[k]? = some o :=
  (hg.block k (Array.getElem?_eq_some_iff.1 hk).1 (fun e => by have := (hr k e.symm).1; omega)).trans hk
theorem wpIn_rangeC {α : Type} {g : Operand} {ps : Array Tmp} {assign body : Code} {Q : Exit → Act → World → Prop} {a : Act} {w : World}
    (hro : F.round = none) (h1 : 1 ≤ n) {gf : Nat} {fst lb : Array Value} (hg : a.eval g = .func (.func gf) fst lb) (hFg : F.fn gf) (eg : ∀ args w, (callFunc gf args).run P w = .ok (.enter gf args) w)
    {encs : α → Array Value} {Kp : Nat → World → World → Prop} {S : List α → Prop} {N : Nat} {w0 : World} (hseq : SeqGivesC F (n - 1) P gf fst lb encs Kp S N w0)
    (hKt : ∀ (l : Nat) (A B C : World), Kp l A B → Kp l B C → Kp l A C) (hKb : ∀ (l : Nat) (W : World) (r : Loop) (o' : Obj), w.heap.size ≤ l → W.heap[l]? = some (.loop r) → Kp l W (W.putObj l o')) (hb0 : Below w0.heap.size w0 w) (hps : ∀ x, (encs x).size = ps.size)
    (I : List α → World → Prop) (hI : OwnFrom w.heap.size I) (h0 : I [] w) (Ax : α → Act → World → Prop) (hAx : ∀ x a', OwnFrom w.heap.size (fun (_ : Unit) W => Ax x a' W))
    (hassign : ∀ (l : Nat) (pre : List α) (x : α) (W : World) (K : Act → World → Prop), w.heap.size ≤ l → I pre W → (∀ a' W', KeepsFrom w.heap.size W W' → Kp l W W' → I pre W' → Ax x a' W' → K a' W') →
      assign.wpIn (F.inRound l) (n - 1 - 1) P (Exit.then K (fun _ _ _ => False)) { tmps := (ps.zip (encs x)).foldl (fun t (p, v) => t.setIfInBounds p v) a.tmps, defers := [] } W)
    (hbody : ∀ (l : Nat) (pre : List α) (x : α) (a' : Act) (W : World), w.heap.size ≤ l → I pre W → Ax x a' W → pre.length < N → body.wpIn (F.inRound l) (n - 1 - 1) P (GoesOn w.heap.size (Kp l) I (pre ++ [x]) W) a' W)
    (hdone : ∀ (D : Nat) (xs : List α) (W : World), w.heap.size ≤ D → S xs → I xs W → W.heap[D]? = some (.deferred (some [])) → Q .normal { a with defers := { target := .collected D, args := #[] } :: a.defers } W) :
    (Code.rangeFunc g ps assign body).wpIn F n P Q a w := by
  refine wpIn_rangeFunc (fun fn hfn => ?_)
  rw [hro]
  let rec_ : LoopState → Loop := fun st => { state := st, pending := none, fn, tmps := a.tmps, params := ps, assign, body, defers := w.heap.size }
  have hrec : ∀ st, rec_ st = { state := st, pending := none, fn, tmps := a.tmps, params := ps, assign, body, defers := w.heap.size } := fun _ => rfl
  clear_value rec_
  obtain ⟨V, hV⟩ : ∃ V, V = (w.alloc (.deferred (some []))).alloc (.loop (rec_ .ready)) := ⟨_, rfl⟩
  have hVs : V.heap.size = w.heap.size + 2 := by rw [hV]; simp
  have hVd : V.heap[w.heap.size]? = some (.deferred (some [])) := by
    rw [hV, Below.heap_alloc _ _ _ (by simp)]; exact World.alloc_heap_new w _
  have hVl : V.heap[w.heap.size + 1]? = some (.loop (rec_ .ready)) := by
    have := World.alloc_heap_new (w.alloc (.deferred (some []))) (.loop (rec_ .ready))
    rw [World.size_alloc] at this
    rw [hV]; exact this
  have hVI : I [] V := by rw [hV]; exact hI.alloc _ (hI.alloc _ h0)
  have hVb : Below w0.heap.size w0 V := by
    rw [hV]; exact hb0.trans ((((Below.refl _ w).alloc (Nat.le_refl _) _).alloc (by simp) _).mono hb0.size)
  refine ⟨w.heap.size + 1, [{ target := .collected w.heap.size, args := #[] }], V, { target := .fn (.func gf) lb, args := fst ++ #[.func (.yield (w.heap.size + 1)) #[] #[]] }, V, gf, fst ++ #[.func (.yield (w.heap.size + 1)) #[] #[]] ++ lb, V, ?_, ?_, ?_, ?_, fun _ => h1, ?_⟩
  · rw [hV, hrec]; exact run_enterLoop_outer _ _ _ _ _
  · simp only [resolve, hg]
    simp [go_sem]
  · intro f' hf'; simp [Target.leads] at hf'; subst hf'; exact hFg
  · simp [invoke, go_sem, eg]
  · refine (hseq (w.heap.size + 1) (fun pre W => I pre W ∧ W.heap[w.heap.size + 1]? = some (.loop (rec_ .ready)) ∧ W.heap[w.heap.size]? = some (.deferred (some []))) V hVb (by have := hb0.size; omega) (by omega)
      (fun s A B row hs hgr hr => ⟨hI s A B row hs.1 hgr (fun r e => ⟨by have := (hr r e).1; omega, (hr r e).2⟩), later_block hgr hs.2.1 (by omega) hr, later_block hgr hs.2.2 (by omega) hr⟩) ?_ ⟨hVI, hVl, hVd⟩).mono ?_
    · rintro pre x W ⟨hi, hl, hk⟩ hlen
      have hy := run_yield (P := P) (args := encs x) hl (by rw [hrec]; exact hps x)
      rw [hrec] at hy
      refine ⟨fn, _, assign, body, hy, roundIn_of_wpIn hfn (hassign (w.heap.size + 1) pre x W _ (by omega) hi ?_)⟩
      intro a' Wa ka kpa ia axa
      have hla := ka.same _ _ (by omega) hl rfl
      have hka := ka.same _ _ (Nat.le_refl _) hk rfl
      have hlt := (Array.getElem?_eq_some_iff.1 hla).1
      refine ⟨_, run_beginRound hla (by rw [hrec]), ?_⟩
      have hl2 : (Wa.putObj (w.heap.size + 1) (.loop { rec_ .ready with state := .busy })).heap[w.heap.size + 1]? = some (.loop { rec_ .ready with state := .busy }) := World.putObj_heap_same hlt
      have hk2 : (Wa.putObj (w.heap.size + 1) (.loop { rec_ .ready with state := .busy })).heap[w.heap.size]? = some (.deferred (some [])) := (World.putObj_heap_other (by omega)).trans hka
      refine wpIn_mono (hbody (w.heap.size + 1) pre x a' _ (by omega) (hI.putObj _ ia (by omega) hla rfl) ((hAx x a').putObj (s := ()) _ axa (by omega) hla rfl) hlen) ?_
      rintro e a3 W3 hp
      cases e with
      | normal =>
        obtain ⟨k3, kp3, i3⟩ := hp
        have hl3 := k3.same _ _ (by omega) hl2 rfl
        have hd3 := k3.same _ _ (Nat.le_refl _) hk2 rfl
        have hend := run_endRound (P := P) none hl3
        rw [hrec] at hend
        refine ⟨_, _, hend, rfl, ⟨hI.putObj _ i3 (by omega) hl3 rfl, ?_, (World.putObj_heap_other (by omega)).trans hd3⟩, hKt _ _ _ _ kpa (hKt _ _ _ _ (hKt _ _ _ _ (hKb _ _ _ _ (by omega) hla) kp3) (hKb _ _ _ _ (by omega) hl3))⟩
        rw [World.putObj_heap_same (Array.getElem?_eq_some_iff.1 hl3).1, hrec]
        rfl
      | ret => exact hp.elim
      | exit id => exact hp.elim
      | goto t => exact hp.elim
      | panic ch => exact hp.elim
      | outgrown => exact hp.elim
    · rintro e W2 ⟨⟨v, rfl⟩, xs, hS, hi, hl, hk⟩
      have hend := run_endLoop (P := P) hl (by rw [hrec]; simp)
      rw [hrec] at hend
      exact ⟨none, _, hend, hdone _ xs _ (Nat.le_refl _) hS (hI.putObj _ hi (by omega) hl rfl) ((World.putObj_heap_other (by omega)).trans hk)⟩
end Go.Proofs.YtlmlmhinbkcpoaaGreatDoor
namespace Go.Proofs.YtlmlmhinbkcpoaaGreatDoor
open Go.RowKit Go.Shelf
set_option linter.unusedVariables false
set_option linter.unusedSimpArgs false
set_option maxRecDepth 100000
set_option maxHeartbeats 2000000
attribute [local go_sem] Oper.semAt_some
abbrev Ed := Int × Int × Int
abbrev encE (x : Ed) : Array Value := #[.agg #[vI x.1, vI x.2.1, vI x.2.2]]
structure KpA (n0 : Nat) (W W' : World) : Prop where
  below : Below n0 W W'
  typed : ∀ (k : Nat) cs t, W.heap[k]? = some (.cells cs t) → t ≠ 51 → t ≠ 31 → W'.heap[k]? = some (.cells cs t)
theorem KpA.refl (n0 : Nat) (W : World) : KpA n0 W W := ⟨Below.refl _ _, fun _ _ _ h _ _ => h⟩
theorem KpA.trans {n0 : Nat} {A B C : World} (h : KpA n0 A B) (k : KpA n0 B C) : KpA n0 A C := ⟨h.below.trans k.below, fun i cs t hi h1 h2 => k.typed i cs t (h.typed i cs t hi h1 h2) h1 h2⟩
structure KpB (n0 : Nat) (l : Nat) (W W' : World) : Prop where
  a : KpA n0 W W'
  other : ∀ (k : Nat) (o : Obj), W.heap[k]? = some o → o.isCells = false → k ≠ l → W'.heap[k]? = some o
theorem KpB.trans {n0 l : Nat} {A B C : World} (h : KpB n0 l A B) (k : KpB n0 l B C) : KpB n0 l A C := ⟨h.a.trans k.a, fun i o hi ho hl => k.other i o (h.other i o hi ho hl) ho hl⟩
theorem KpA.putObj {n0 l : Nat} {W : World} {r : Loop} (o' : Obj) (h : W.heap[l]? = some (.loop r)) (hl : n0 ≤ l) : KpA n0 W (W.putObj l o') :=
  ⟨(Below.refl n0 W).grown (grownBy_putObj' W l o') (by have := (Array.getElem?_eq_some_iff.1 h).1; omega) (fun k e => by cases e; omega), fun k cs t hk _ _ => by
    by_cases e : k = l
    · subst e; rw [h] at hk; cases hk
    · exact (World.putObj_heap_other e).trans hk⟩
theorem KpB.putObj {n0 l : Nat} {W : World} {r : Loop} (o' : Obj) (h : W.heap[l]? = some (.loop r)) (hl : n0 ≤ l) : KpB n0 l W (W.putObj l o') :=
  ⟨KpA.putObj o' h hl, fun k o hk _ hne => (World.putObj_heap_other hne).trans hk⟩
theorem KpA.ofFr {n0 : Nat} {W W' : World} (f : Fr (fun _ => False) W W') (h : n0 ≤ W.heap.size) : KpA n0 W W' :=
  ⟨⟨f.os, f.tape, f.output, f.size, fun k hk => f.block k (by omega) (fun e => e)⟩, fun k cs t hk _ _ => (f.block k (heap_lt0 hk) (fun e => e)).trans hk⟩
def retE (R V : Int) (zs : List Int) : List Ed := (List.range zs.length).map fun (j : Nat) => (1 + (j : Int), varX R V (zs[j]?.getD 0), 0)
theorem retE_take (R V : Int) (zs : List Int) (k : Nat) (h : k < zs.length) : (retE R V zs).take (k + 1) = (retE R V zs).take k ++ [(1 + (k : Int), varX R V (zs[k]?.getD 0), 0)] := by
  have hl : k < (retE R V zs).length := by simp [retE, h]
  rw [List.take_add_one, List.getElem?_eq_getElem hl]
  simp [retE]
theorem returned1_in (n : Nat) (l n0 Ba Bb : Nat) (P R V : Int) (ca : Option Addr) (cn cc : Nat) (sv : Value) (zs : List Int) (ad : Option Addr) (cap : Nat) (hlen : zs.length ≤ 1000000) (W : World) (hn0 : n0 ≤ W.heap.size) (J : List Ed → World → Prop)
    (hY : ∀ pre x W, J pre W → pre.length < zs.length → YieldAt Fence.wide (n - 1) Tryz.prog l (encE x) W fun e W' => e = .returned (.bool true) ∧ J (pre ++ [x]) W' ∧ KpA n0 W W')
    (hJ : ∀ pre (W W' : World), J pre W → Fr (fun _ => False) W W' → J pre W')
    (hBa : W.heap[Ba]? = some (.cells #[.slice ad zs.length cap] 40)) (hBb : W.heap[Bb]? = some (.cells #[vI P, vI R, vI V, .slice ca cn cc, sv] 59))
    (hc : zs ≠ [] → ∃ k0 o0, ad = some ⟨k0, o0, none⟩ ∧ k0 < n0 ∧ ∀ j (h : j < zs.length), W.cell? ⟨k0, o0 + j, none⟩ = some (vI zs[j])) (h0 : J [] W) :
    CallsIn Fence.wide n Tryz.prog 79 #[.func (.yield l) #[] #[], .pointer (some ⟨Ba, 0, none⟩), .pointer (some ⟨Bb, 0, none⟩)] W fun e W' => (∃ v, e = .returned v) ∧ J (retE R V zs) W' := by
  have hca : W.cell? ⟨Ba, 0, none⟩ = some (.slice ad zs.length cap) := by rw [cell_of0 hBa]; rfl
  refine callsIn_of_wp Tryz.func79 rfl trivial ?_ rfl
  simp only [Tryz.ntmps79, List.size_toArray, List.length_cons, List.length_nil, Nat.reduceAdd, Nat.reduceSub, Array.replicate_succ, Array.replicate_zero, List.push_toArray, List.append_toArray, List.nil_append, List.cons_append]
  gi_wp2
  gi_loopw [8] (fun i wr => ∃ k : Nat, k ≤ zs.length ∧ i = .int .i64 k ∧ J ((retE R V zs).take k) wr ∧ KpA n0 W wr) (fun i _ => zs.length - (RowKit.intOf i).toNat)
  case atStart => exact ⟨0, Nat.zero_le _, rfl, h0, KpA.refl _ _⟩
  case round =>
    obtain ⟨k, hk, rfl, hJs, hnx⟩ := hrel
    have hn0w : n0 ≤ wr.heap.size := Nat.le_trans hn0 hnx.below.size
    by_cases hlt : k < zs.length
    · obtain ⟨k0, o0, rfl, hk0, hc⟩ := hc (by intro e; simp [e] at hlt)
      have hcx : wr.cell? ⟨k0, o0 + k, none⟩ = some (vI zs[k]) := (hnx.below.cell (p := ⟨k0, o0 + k, none⟩) hk0).trans (hc k hlt)
      have bB := hnx.typed Bb _ _ hBb (by decide) (by decide)
      have q0 : wr.cell? ⟨Bb, 0, none⟩ = some (vI P) := by rw [cell_of0 bB]; rfl
      have q1 : wr.cell? ⟨Bb, 1, none⟩ = some (vI R) := by rw [cell_of0 bB]; rfl
      have q2 : wr.cell? ⟨Bb, 2, none⟩ = some (vI V) := by rw [cell_of0 bB]; rfl
      have q3 : wr.cell? ⟨Bb, 3, none⟩ = some (.slice ca cn cc) := by rw [cell_of0 bB]; rfl
      have htk := retE_take R V zs k hlt
      rw [List.getElem?_eq_getElem hlt] at htk
      simp only [Option.getD_some] at htk
      generalize zs[k] = x at hcx htk
      gi_wp2_with fail
      refine ⟨trivial, (fun h => by cases h), ?_⟩
      refine (callsIn_wide.2 (variable_any P R V x ca cn cc wr)).mono ?_
      rintro e w2 ⟨rfl, hF2⟩
      have hJ2 := hJ _ _ _ hJs hF2
      obtain ⟨fn, tmps, assign, body, hy, hR⟩ := hY _ (1 + (k : Int), varX R V x, 0) w2 hJ2 (by rw [List.length_take]; omega)
      gi_wp2
      refine ⟨(fun h => by cases h), hR.mono ?_⟩
      rintro e W3 ⟨rfl, hJ3, hk3⟩
      have hB2 : KpA n0 wr w2 := KpA.ofFr hF2 hn0w
      gi_wp2
      go_roundw
      case rel => exact ⟨k + 1, by omega, by simp, by rw [htk]; exact hJ3, hnx.trans (hB2.trans hk3)⟩
      case measure => simp [RowKit.intOf]; omega
    · obtain rfl : k = zs.length := by omega
      gi_wp2
      go_end0
      exact ⟨⟨_, rfl⟩, by rw [List.take_of_length_le (by simp [retE])] at hJs; exact hJs⟩
theorem own_fr {β : Type} {B : Nat} {J : β → World → Prop} (h : OwnFrom B J) {s : β} {A A' : World} (hs : J s A) (f : Fr (fun _ => False) A A') : J s A' :=
  h s A A' none hs ⟨f.os, f.tape, f.output, f.size, fun k hk _ => f.block k hk (fun e => e)⟩ (fun r e => by cases e)
theorem returned_gives (n n0 Ba Bb : Nat) (P R V : Int) (ca : Option Addr) (cn cc : Nat) (sv : Value) (zs : List Int) (ad : Option Addr) (cap : Nat) (w : World) (hlen : zs.length ≤ 1000000) (hn0 : n0 ≤ w.heap.size)
    (hBa : w.heap[Ba]? = some (.cells #[.slice ad zs.length cap] 40)) (hBb : w.heap[Bb]? = some (.cells #[vI P, vI R, vI V, .slice ca cn cc, sv] 59))
    (hc : zs ≠ [] → ∃ k0 o0, ad = some ⟨k0, o0, none⟩ ∧ k0 < n0 ∧ ∀ j (h : j < zs.length), w.cell? ⟨k0, o0 + j, none⟩ = some (vI zs[j])) :
    SeqGivesC Fence.wide n Tryz.prog 79 #[] #[.pointer (some ⟨Ba, 0, none⟩), .pointer (some ⟨Bb, 0, none⟩)] encE (fun _ => KpA n0) (fun xs => xs = retE R V zs) zs.length w := fun l J W hW _ hl hJ hY h0 => by
  have kb : ∀ (k : Nat) (o : Obj), w.heap[k]? = some o → W.heap[k]? = some o := fun k o h => (hW.block k (heap_lt0 h)).trans h
  refine (returned1_in n l n0 Ba Bb P R V ca cn cc sv zs ad cap hlen W (Nat.le_trans hn0 hW.size) J hY (fun pre A A' hs f => own_fr hJ hs f) (kb _ _ hBa) (kb _ _ hBb) (fun hne => ?_) h0).mono ?_
  · obtain ⟨k0, o0, e, hk, hc⟩ := hc hne
    exact ⟨k0, o0, e, hk, fun j hj => (hW.cell (p := ⟨k0, o0 + j, none⟩) (by show k0 < _; omega)).trans (hc j hj)⟩
  · rintro e W' ⟨he, hj⟩
    exact ⟨he, _, rfl, hj⟩
end Go.Proofs.YtlmlmhinbkcpoaaGreatDoor
namespace Go.Proofs.YtlmlmhinbkcpoaaGreatDoor
open Go.RowKit (wrap32 wrap64)
set_option linter.unusedVariables false
set_option linter.unusedSimpArgs false
set_option maxRecDepth 100000
set_option maxHeartbeats 2000000
theorem returned_any (P R V : Int) (ca : Option Addr) (cn cc : Nat) (sa : Option Addr) (sn sc : Nat) (ad : Option Addr) (m cap : Nat) (w : World) :
    Calls Tryz.prog 60 #[.agg #[vI P, vI R, vI V, .slice ca cn cc, .slice sa sn sc], .slice ad m cap] w fun e w' => e = .returned (.func (.func 79) #[] #[.pointer (some ⟨w.heap.size + 1, 0, none⟩), .pointer (some ⟨w.heap.size, 0, none⟩)]) ∧ w' = (w.alloc (.cells #[vI P, vI R, vI V, .slice ca cn cc, .slice sa sn sc] 59)).alloc (.cells #[.slice ad m cap] 40) := by
  go_enter Tryz.func60, Tryz.ntmps60
  go_wp2
  go_ret
  exact ⟨rfl, rfl⟩
theorem firstCell_any (P R V : Int) (a : Option Addr) (n c : Nat) (w : World) :
    Calls Tryz.prog 36 #[.agg #[vI P, vI R, vI V, .slice a n c]] w fun e w' => e = .returned (vI (cellX R V)) ∧ w' = w.alloc (.cells #[vI P, vI R, vI V, .slice a n c] 46) := by
  go_enter Tryz.func36, Tryz.ntmps36
  go_wp2
  go_ret
  exact ⟨rfl, rfl⟩
theorem returned_gives_new (n n0 X : Nat) (P R V : Int) (ca : Option Addr) (cn cc : Nat) (sa : Option Addr) (sn sc : Nat) (zs : List Int) (ad : Option Addr) (cap : Nat) (w : World) (hX : w.heap.size = X) (hlen : zs.length ≤ 1000000) (hn0 : n0 ≤ w.heap.size)
    (hc : zs ≠ [] → ∃ k0 o0, ad = some ⟨k0, o0, none⟩ ∧ k0 < n0 ∧ ∀ j (h : j < zs.length), w.cell? ⟨k0, o0 + j, none⟩ = some (vI zs[j])) :
    SeqGivesC Fence.wide n Tryz.prog 79 #[] #[.pointer (some ⟨X + 1, 0, none⟩), .pointer (some ⟨X, 0, none⟩)] encE (fun _ => KpA n0) (fun xs => xs = retE R V zs) (retE R V zs).length ((w.alloc (.cells #[vI P, vI R, vI V, .slice ca cn cc, .slice sa sn sc] 59)).alloc (.cells #[.slice ad zs.length cap] 40)) := by
  subst hX
  have hl : (retE R V zs).length = zs.length := by simp [retE]
  rw [hl]
  have f : Fr (fun _ => False) w ((w.alloc (.cells #[vI P, vI R, vI V, .slice ca cn cc, .slice sa sn sc] 59)).alloc (.cells #[.slice ad zs.length cap] 40)) := Fr.alloc (Fr.alloc (Fr.refl _ w) _) _
  refine returned_gives n n0 (w.heap.size + 1) w.heap.size P R V ca cn cc (.slice sa sn sc) zs ad cap _ hlen (Nat.le_trans hn0 f.size) ?_ ?_ (fun hne => ?_)
  · have := heap_new0 (w.alloc (.cells #[vI P, vI R, vI V, .slice ca cn cc, .slice sa sn sc] 59)) (.cells #[.slice ad zs.length cap] 40)
    rw [World.size_alloc] at this
    exact this
  · rw [Go.RowKit.Below.heap_alloc _ _ _ (by simp)]; exact heap_new0 w _
  · obtain ⟨k0, o0, e, hk, hcc⟩ := hc hne
    exact ⟨k0, o0, e, hk, fun j hj => (f.cell (by omega) (fun e => e)).trans (hcc j hj)⟩
def RowsT (w : World) : Prop := w.cell? ⟨0, 60, none⟩ = some (vI 2) ∧ w.cell? ⟨0, 61, none⟩ = some (vI 0) ∧ w.cell? ⟨0, 62, none⟩ = some (vI 0) ∧ w.cell? ⟨0, 63, none⟩ = some (vI 0)
def Given (n0 : Nat) (bv iv : Value) (cell : Int) (E : List Ed) (w : World) : Prop :=
  ∀ W, KpA n0 w W → Calls Tryz.prog 37 #[bv, iv, vI cell] W fun e W' => ∃ g lb, e = .returned (.func (.func g) #[] lb) ∧ (∀ args w, (callFunc g args).run Tryz.prog w = .ok (.enter g args) w) ∧ Fr (fun _ => False) W W' ∧ ∀ n, SeqGivesC Fence.wide n Tryz.prog g #[] lb encE (fun _ => KpA n0) (fun xs => xs = E) E.length W'
theorem given_return (n0 : Nat) (P R V : Int) (ca : Option Addr) (cn cc : Nat) (sa : Option Addr) (sn sc : Nat) (r s t m cell : Int) (zs : List Int) (ad : Option Addr) (cap : Nat) (ra : Option Addr) (rn rc : Nat) (w : World) (hlen : zs.length ≤ 1000000) (h0 : 0 < n0) (hn0 : n0 ≤ w.heap.size) (hT : RowsT w)
    (hc : zs ≠ [] → ∃ k0 o0, ad = some ⟨k0, o0, none⟩ ∧ k0 < n0 ∧ ∀ j (h : j < zs.length), w.cell? ⟨k0, o0 + j, none⟩ = some (vI zs[j])) :
    Given n0 (.agg #[vI P, vI R, vI V, .slice ca cn cc, .slice sa sn sc]) (.agg #[vI 15, vI r, vI s, vI t, vI m, .slice ad zs.length cap, .slice ra rn rc]) cell (retE R V zs) w := by
  intro W hK
  have tb : ∀ o, W.cell? ⟨0, o, none⟩ = w.cell? ⟨0, o, none⟩ := fun o => hK.below.cell (p := ⟨0, o, none⟩) h0
  have t0 : W.cell? ⟨0, 60, none⟩ = some (vI 2) := (tb _).trans hT.1
  have t1 : W.cell? ⟨0, 61, none⟩ = some (vI 0) := (tb _).trans hT.2.1
  have t2 : W.cell? ⟨0, 62, none⟩ = some (vI 0) := (tb _).trans hT.2.2.1
  have t3 : W.cell? ⟨0, 63, none⟩ = some (vI 0) := (tb _).trans hT.2.2.2
  have HC : Hd (zs ≠ [] → ∃ k0 o0, ad = some ⟨k0, o0, none⟩ ∧ k0 < n0 ∧ ∀ j (h : j < zs.length), W.cell? ⟨k0, o0 + j, none⟩ = some (vI zs[j])) := fun hne => by
    obtain ⟨k0, o0, e, hk, hcc⟩ := hc hne
    exact ⟨k0, o0, e, hk, fun j hj => (hK.below.cell (p := ⟨k0, o0 + j, none⟩) hk).trans (hcc j hj)⟩
  have HN : Hd (n0 ≤ W.heap.size) := Nat.le_trans hn0 hK.below.size
  have hWp : 0 < W.heap.size := Nat.lt_of_lt_of_le h0 HN.out
  clear tb hT hc hK
  go_enter Tryz.func37, Tryz.ntmps37
  go_wp2_with fail
  refine (returned_any P R V ca cn cc sa sn sc ad zs.length cap _).mono ?_
  rintro e w1 ⟨rfl, rfl⟩
  go_wp2_with fail
  go_ret
  refine ⟨79, _, rfl, enters_of Tryz.func79 (by kernel_rfl) rfl, ?_, fun n => ?_⟩
  · exact Fr.alloc (Fr.alloc (Fr.alloc (Fr.alloc (Fr.alloc (Fr.refl _ W) _) _) _) _) _
  · refine returned_gives_new n n0 _ P R V ca cn cc sa sn sc zs ad cap _ (by simp) hlen ?_ (fun hne => ?_)
    · have := HN.out; simp; omega
    · obtain ⟨k0, o0, e, hk, hcc⟩ := HC.out hne
      refine ⟨k0, o0, e, hk, fun j hj => ?_⟩
      have f : Fr (fun _ => False) W (((W.alloc (.cells #[vI P, vI R, vI V, .slice ca cn cc, .slice sa sn sc] 59)).alloc (.cells #[vI 15, vI r, vI s, vI t, vI m, .slice ad zs.length cap, .slice ra rn rc] 48)).alloc (.cells #[vI 2, vI 0, vI 0, vI 0] 98)) := Fr.alloc (Fr.alloc (Fr.alloc (Fr.refl _ W) _) _) _
      exact (f.cell (by have := HN.out; omega) (fun e => e)).trans (hcc j hj)
end Go.Proofs.YtlmlmhinbkcpoaaGreatDoor
