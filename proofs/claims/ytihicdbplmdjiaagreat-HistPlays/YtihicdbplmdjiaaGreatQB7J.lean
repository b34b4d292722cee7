import Derived.Test.YtihicdbplmdjiaaGreatQB1J
import Derived.RangeFuncNested
import Derived.RangeFuncLeaves
import Derived.Sort.QuietThIn
set_option linter.unusedVariables false
set_option linter.unusedSimpArgs false
namespace Go.Proofs.YtihicdbplmdjiaaGreat
open Go.RowKit (wrap32 wrap64)

def possibleB (f : Mk) (cs : List Cl) : Bool := cs.all (canTellB f)
/-- A call as it lies in the row. -/
theorem CAt.look {w : World} {lv : Value} {cs : List Cl} (h : CAt w lv cs) (k : Nat) (hk : k < cs.length) : ∃ g cap, lv = .slice (some ⟨g, 0, none⟩) cs.length cap ∧ cs[k].R.At w ∧ COk cs[k] ∧ ∀ W, Fr (fun _ => False) w W → ∀ j, j < 9 → W.cell? ⟨g, k * 9 + j, none⟩ = (c9 cs[k])[j]? := by
  obtain ⟨ad, cap, e, h1, h2⟩ := h
  obtain ⟨g, rfl, hx⟩ := h1 (fun e => by rw [e] at hk; simp at hk)
  refine ⟨g, cap, e, (h2 _ (List.getElem_mem hk)).1, (h2 _ (List.getElem_mem hk)).2, fun W f j hj => (f.cell ?_ (fun e => e)).trans (hx k hk j hj)⟩
  have := hx k hk j hj
  rw [List.getElem?_eq_getElem (by exact hj)] at this
  exact cell_lt this
set_option maxRecDepth 100000 in
set_option maxHeartbeats 4000000 in
theorem possible_any (lv : Value) (mb N : Nat) (cs : List Cl) (f : Mk) (w : World) (h : PAt w lv mb N cs f) (hl : cs.length ≤ 64) :
    Calls Tryz.prog 33 #[pV lv mb] w fun e w' => e = .returned (.bool (possibleB f cs)) ∧ Fr (fun _ => False) w w' := by
  have HS : Hd (∀ W (c : Cl), Fr (fun _ => False) w W → c.R.At w → COk c → Calls Tryz.prog 56 #[pV lv mb, c.V] W fun e w' => e = .returned (.bool (canTellB f c)) ∧ Fr (fun _ => False) W w') := fun W c x h1 h2 => canTell_any lv mb N cs f c W (h.fr x) (h1.fr x) h2
  have HL : Hd (∀ (k : Nat) (hk : k < cs.length), ∃ g cap, lv = .slice (some ⟨g, 0, none⟩) cs.length cap ∧ cs[k].R.At w ∧ COk cs[k] ∧ ∀ W, Fr (fun _ => False) w W → ∀ j, j < 9 → W.cell? ⟨g, k * 9 + j, none⟩ = (c9 cs[k])[j]?) := fun k hk => h.cat.look k hk
  obtain ⟨ad, cap, rfl, -⟩ := h.cat
  unfold pV at *
  obtain ⟨n, en⟩ : ∃ n, n = cs.length := ⟨_, rfl⟩
  have EN : Hd (n = cs.length) := en
  obtain ⟨A, hA⟩ : ∃ A, A = possibleB f cs := ⟨_, rfl⟩
  have EA : Hd (A = possibleB f cs) := hA
  rw [← hA]
  have HF : Hd (Fr (fun _ => False) w (w.alloc (.cells #[.slice ad n cap, .map (some mb)] 59))) := (Fr.refl _ w).alloc _
  have b1 := heap_alloc_last w (.cells #[.slice ad n cap, .map (some mb)] 59)
  obtain ⟨W, eW⟩ : ∃ W, W = (w.alloc (.cells #[.slice ad n cap, .map (some mb)] 59)) := ⟨_, rfl⟩
  rw [← eW] at HF b1
  rw [← en] at HS hl ⊢
  clear h hA en
  go_enter Tryz.func33, Tryz.ntmps33
  go_upto_region 1 with fail
  rw [← eW]
  clear eW
  obtain ⟨bb, ebb⟩ : ∃ bb, bb = w.heap.size := ⟨_, rfl⟩
  rw [← ebb] at b1 ⊢
  have HBX : Hd (∀ W2, Fr (fun _ => False) W W2 → W2.cell? ⟨bb, 0, none⟩ = some (.slice ad n cap) ∧ W2.cell? ⟨bb, 1, none⟩ = some (.map (some mb))) := fun W2 f => by
    have e1 := (f.block _ (heap_lt b1) (fun e => e)).trans b1
    exact ⟨cell_of e1 0, cell_of e1 1⟩
  obtain ⟨p0, p1⟩ := HBX.out W (Fr.refl _ W)
  clear ebb b1
  go_wp2_with fail
  go_loopw [8] (fun v8 wr => ∃ k : Nat, v8 = vI k ∧ k ≤ n ∧ Hd (Fr (fun _ => False) W wr ∧ ∀ i (h1 : i < cs.length), i < k → canTellB f cs[i] = true)) (fun v _ => match v with | .int _ q => n - q.toNat | _ => 0)
  case atStart => exact ⟨0, rfl, by omega, Fr.refl _ _, fun i _ hi => absurd hi (by omega)⟩
  case round =>
    clear p0 p1
    obtain ⟨k, rfl, hk, HR⟩ := hrel
    obtain ⟨p0, p1⟩ := HBX.out wr HR.out.1
    by_cases hlt : k < n
    · have k0 : (0 : Int) ≤ k := by omega
      have k1 : (k : Int) < n := by omega
      have hkl : k < cs.length := by rw [← EN.out]; exact hlt
      obtain ⟨g, cap2, e, hat, hok, hc0⟩ := HL.out k hkl
      obtain ⟨rfl, rfl⟩ : ad = some ⟨g, 0, none⟩ ∧ cap = cap2 := by injection e with a b c; exact ⟨a, c⟩
      have hc := hc0 wr (HF.out.trans HR.out.1)
      have HC : Hd (∀ W2, Fr (fun _ => False) wr W2 → Calls Tryz.prog 56 #[.agg #[.slice (some ⟨g, 0, none⟩) n cap, .map (some mb)], cs[k].V] W2 fun e w' => e = .returned (.bool (canTellB f cs[k])) ∧ Fr (fun _ => False) W2 w') := fun W2 x => HS.out W2 _ ((HF.out.trans HR.out.1).trans x) hat hok
      obtain ⟨ka, kc, ek⟩ := row_slice hat.1
      obtain ⟨va, vc, ev⟩ := row_slice hat.2
      obtain ⟨c, ec⟩ : ∃ c, c = cs[k] := ⟨_, rfl⟩
      have HCK : Hd (cs[k]? = some c) := by show cs[k]? = some c; rw [List.getElem?_eq_getElem hkl, ec]
      rw [← ec] at hc ek ev HC
      obtain ⟨B, hB⟩ : ∃ B, B = canTellB f c := ⟨_, rfl⟩
      have EB : Hd (B = canTellB f c) := hB
      rw [← hB] at HC
      clear hB hat hok ec hc0 hkl e
      unfold c9 at hc
      have x0 := hc 0 (by omega)
      have x1 := hc 1 (by omega)
      have x2 := hc 2 (by omega)
      have x3 := hc 3 (by omega)
      have x4 := hc 4 (by omega)
      have x5 := hc 5 (by omega)
      have x6 := hc 6 (by omega)
      have x7 := hc 7 (by omega)
      have x8 := hc 8 (by omega)
      simp only [List.getElem?_cons_zero, List.getElem?_cons_succ, Nat.add_zero] at x0 x1 x2 x3 x4 x5 x6 x7 x8
      clear hc
      unfold Cl.V c9 at HC
      obtain ⟨b, en', kd, ky, v, ⟨⟨ok, val, ks, vs⟩, kv, vv⟩⟩ := c
      simp only [List.length_map] at x0 x1 x2 x3 x4 x5 x6 x7 x8 ek ev HC
      subst ek ev
      go_upto_region 4 with fail
      have hq := HBX.out (wr.alloc (Obj.cells #[.int .i64 b, .int .i64 en', .int .i64 kd, .int .i64 ky, .string v, .bool ok, .string val, .slice ka ks.length kc, .slice va vs.length vc] 87)) (HR.out.1.alloc _)
      have hc := HC.out (wr.alloc (Obj.cells #[.int .i64 b, .int .i64 en', .int .i64 kd, .int .i64 ky, .string v, .bool ok, .string val, .slice ka ks.length kc, .slice va vs.length vc] 87)) ((Fr.refl _ wr).alloc _)
      have hb2 := nine (heap_alloc_last wr (Obj.cells #[.int .i64 b, .int .i64 en', .int .i64 kd, .int .i64 ky, .string v, .bool ok, .string val, .slice ka ks.length kc, .slice va vs.length vc] 87))
      have hfx := (Fr.refl (fun _ => False) wr).alloc (Obj.cells #[.int .i64 b, .int .i64 en', .int .i64 kd, .int .i64 ky, .string v, .bool ok, .string val, .slice ka ks.length kc, .slice va vs.length vc] 87)
      obtain ⟨W2, eW2⟩ : ∃ W2, W2 = (wr.alloc (Obj.cells #[.int .i64 b, .int .i64 en', .int .i64 kd, .int .i64 ky, .string v, .bool ok, .string val, .slice ka ks.length kc, .slice va vs.length vc] 87)) := ⟨_, rfl⟩
      rw [← eW2] at hq hc hb2 hfx ⊢
      have HFX : Hd _ := hfx
      obtain ⟨pm, epm⟩ : ∃ pm, pm = wr.heap.size := ⟨_, rfl⟩
      rw [← epm] at hb2 ⊢
      obtain ⟨p0, p1⟩ := hq
      obtain ⟨y0, y1, y2, y3, y4, y5, y6, y7, y8⟩ := hb2
      have HC2 : Hd (Calls Tryz.prog 56 #[.agg #[.slice (some ⟨g, 0, none⟩) n cap, .map (some mb)], .agg #[vI b, vI en', vI kd, vI ky, .string v, .bool ok, .string val, .slice ka ks.length kc, .slice va vs.length vc]] W2 fun e w' => e = .returned (.bool B) ∧ Fr (fun _ => False) W2 w') := hc
      clear hc hfx eW2 epm HC x0 x1 x2 x3 x4 x5 x6 x7 x8
      cases B
      · go_wp2_with (go_at_call 56; refine HC2.out.mono ?_; rintro _ w3 ⟨rfl, hf3⟩; have HF3 : Hd _ := hf3; clear hf3)
        go_ret
        refine ⟨?_, HF.out.trans (HR.out.1.trans (HFX.out.trans HF3.out))⟩
        have : A = false := by
          rw [EA.out, Bool.eq_false_iff]
          intro h
          unfold possibleB at h
          rw [List.all_eq_true] at h
          have := h _ (List.mem_of_getElem? HCK.out)
          rw [← EB.out] at this
          cases this
        rw [this]
        rfl
      · go_wp2_with (go_at_call 56; refine HC2.out.mono ?_; rintro _ w3 ⟨rfl, hf3⟩; have HF3 : Hd _ := hf3; clear hf3)
        refine ⟨⟨k + 1, by simp, by omega, HR.out.1.trans (HFX.out.trans HF3.out), fun i h1 hi => ?_⟩, by simp; omega⟩
        rcases Nat.lt_or_ge i k with h3 | h3
        · exact HR.out.2 i h1 h3
        · have e : i = k := by omega
          subst e
          obtain ⟨h1, e1⟩ := List.getElem?_eq_some_iff.1 HCK.out
          rw [e1]
          exact EB.out.symm
    · have HA : Hd (A = true) := by
        show A = true
        rw [EA.out]
        unfold possibleB
        rw [List.all_eq_true]
        intro p hp
        obtain ⟨i, hi, e⟩ := List.mem_iff_getElem.1 hp
        rw [← e]
        exact HR.out.2 i hi (by have := EN.out; omega)
      go_wp2_with fail
      go_ret
      exact ⟨by rw [HA.out]; rfl, HF.out.trans HR.out.1⟩
end Go.Proofs.YtihicdbplmdjiaaGreat
namespace Go.Proofs.YtihicdbplmdjiaaGreat
open Go Go.RowKit

variable {F : Fence} {n : Nat} {P : Program}

/-- An iterator that may itself range over iterators, to a caller none of whose rounds leaves: the caller's invariant minds no turn of a younger block that holds no cells; Kp l is what a round of loop l keeps. -/
def SeqGivesC {α : Type} (F : Fence) (n : Nat) (P : Program) (g : Nat) (fst lb : Array Value) (encs : α → Array Value) (Kp : Nat → World → World → Prop) (S : List α → Prop) (N : Nat) (w : World) : Prop :=
  ∀ (l : Nat) (J : List α → World → Prop) (W : World), Below w.heap.size w W → w.heap.size ≤ l → l < W.heap.size → OwnFrom W.heap.size J →
    (∀ pre x W1, J pre W1 → pre.length < N → YieldAt F (n - 1) P l (encs x) W1 fun e W' => e = .returned (.bool true) ∧ J (pre ++ [x]) W' ∧ Kp l W1 W') →
    J [] W →
    CallsIn F n P g (fst ++ #[.func (.yield l) #[] #[]] ++ lb) W fun e W' => (∃ v, e = .returned v) ∧ ∃ xs, S xs ∧ J xs W'

/-- The body of a round goes on. -/
def GoesOn {α : Type} (B : Nat) (Kp : World → World → Prop) (I : List α → World → Prop) (xs : List α) (W : World) : Exit → Act → World → Prop
  | .normal, _, W' => KeepsFrom B W W' ∧ Kp W W' ∧ I xs W'
  | _, _, _ => False

theorem later_block {A B : World} {row : Option Nat} (hg : A.grownBy B row) {k m : Nat} {o : Obj} (hk : A.heap[k]? = some o) (hkm : k < m) (hr : ∀ r, row = some r → m ≤ r ∧ ∃ o : Obj, A.heap[r]? = some o ∧ o.isCells = false) : B.heap[k]? = some o :=
  (hg.block k (Array.getElem?_eq_some_iff.1 hk).1 (fun e => by have := (hr k e.symm).1; omega)).trans hk

theorem wpIn_rangeC {α : Type} {g : Operand} {ps : Array Tmp} {assign body : Code} {Q : Exit → Act → World → Prop} {a : Act} {w : World}
    (hro : F.round = none) (h1 : 1 ≤ n) {gf : Nat} {fst lb : Array Value} (hg : a.eval g = .func (.func gf) fst lb) (hFg : F.fn gf) (eg : ∀ args w, (callFunc gf args).run P w = .ok (.enter gf args) w)
    {encs : α → Array Value} {Kp : Nat → World → World → Prop} {S : List α → Prop} {N : Nat} {w0 : World} (hseq : SeqGivesC F (n - 1) P gf fst lb encs Kp S N w0)
    (hKt : ∀ (l : Nat) (A B C : World), Kp l A B → Kp l B C → Kp l A C) (hKb : ∀ (l : Nat) (W : World) (r : Loop) (o' : Obj), w.heap.size ≤ l → W.heap[l]? = some (.loop r) → Kp l W (W.putObj l o')) (hb0 : Below w0.heap.size w0 w) (hps : ∀ x, (encs x).size = ps.size)
    (I : List α → World → Prop) (hI : OwnFrom w.heap.size I) (h0 : I [] w) (Ax : α → Act → World → Prop) (hAx : ∀ x a', OwnFrom w.heap.size (fun (_ : Unit) W => Ax x a' W))
    (hassign : ∀ (l : Nat) (pre : List α) (x : α) (W : World) (K : Act → World → Prop), w.heap.size ≤ l → I pre W → (∀ a' W', KeepsFrom w.heap.size W W' → Kp l W W' → I pre W' → Ax x a' W' → K a' W') →
      assign.wpIn (F.inRound l) (n - 1 - 1) P (Exit.then K (fun _ _ _ => False)) { tmps := (ps.zip (encs x)).foldl (fun t (p, v) => t.setIfInBounds p v) a.tmps, defers := [] } W)
    (hbody : ∀ (l : Nat) (pre : List α) (x : α) (a' : Act) (W : World), w.heap.size ≤ l → I pre W → Ax x a' W → pre.length < N → body.wpIn (F.inRound l) (n - 1 - 1) P (GoesOn w.heap.size (Kp l) I (pre ++ [x]) W) a' W)
    (hdone : ∀ (D : Nat) (xs : List α) (W : World), w.heap.size ≤ D → S xs → I xs W → W.heap[D]? = some (.deferred (some [])) → Q .normal { a with defers := { target := .collected D, args := #[] } :: a.defers } W) :
    (Code.rangeFunc g ps assign body).wpIn F n P Q a w := by
  refine wpIn_rangeFunc (fun fn hfn => ?_)
  rw [hro]
  let rec_ : LoopState → Loop := fun st => { state := st, pending := none, fn, tmps := a.tmps, params := ps, assign, body, defers := w.heap.size }
  have hrec : ∀ st, rec_ st = { state := st, pending := none, fn, tmps := a.tmps, params := ps, assign, body, defers := w.heap.size } := fun _ => rfl
  clear_value rec_
  obtain ⟨V, hV⟩ : ∃ V, V = (w.alloc (.deferred (some []))).alloc (.loop (rec_ .ready)) := ⟨_, rfl⟩
  have hVs : V.heap.size = w.heap.size + 2 := by rw [hV]; simp
  have hVd : V.heap[w.heap.size]? = some (.deferred (some [])) := by
    rw [hV, Below.heap_alloc _ _ _ (by simp)]; exact World.alloc_heap_new w _
  have hVl : V.heap[w.heap.size + 1]? = some (.loop (rec_ .ready)) := by
    have := World.alloc_heap_new (w.alloc (.deferred (some []))) (.loop (rec_ .ready))
    rw [World.size_alloc] at this
    rw [hV]; exact this
  have hVI : I [] V := by rw [hV]; exact hI.alloc _ (hI.alloc _ h0)
  have hVb : Below w0.heap.size w0 V := by
    rw [hV]; exact hb0.trans ((((Below.refl _ w).alloc (Nat.le_refl _) _).alloc (by simp) _).mono hb0.size)
  refine ⟨w.heap.size + 1, [{ target := .collected w.heap.size, args := #[] }], V, { target := .fn (.func gf) lb, args := fst ++ #[.func (.yield (w.heap.size + 1)) #[] #[]] }, V, gf, fst ++ #[.func (.yield (w.heap.size + 1)) #[] #[]] ++ lb, V, ?_, ?_, ?_, ?_, fun _ => h1, ?_⟩
  · rw [hV, hrec]; exact run_enterLoop_outer _ _ _ _ _
  · simp only [resolve, hg]
    simp [go_sem]
  · intro f' hf'; simp [Target.leads] at hf'; subst hf'; exact hFg
  · simp [invoke, go_sem, eg]
  · refine (hseq (w.heap.size + 1) (fun pre W => I pre W ∧ W.heap[w.heap.size + 1]? = some (.loop (rec_ .ready)) ∧ W.heap[w.heap.size]? = some (.deferred (some []))) V hVb (by have := hb0.size; omega) (by omega)
      (fun s A B row hs hgr hr => ⟨hI s A B row hs.1 hgr (fun r e => ⟨by have := (hr r e).1; omega, (hr r e).2⟩), later_block hgr hs.2.1 (by omega) hr, later_block hgr hs.2.2 (by omega) hr⟩) ?_ ⟨hVI, hVl, hVd⟩).mono ?_
    · rintro pre x W ⟨hi, hl, hk⟩ hlen
      have hy := run_yield (P := P) (args := encs x) hl (by rw [hrec]; exact hps x)
      rw [hrec] at hy
      refine ⟨fn, _, assign, body, hy, roundIn_of_wpIn hfn (hassign (w.heap.size + 1) pre x W _ (by omega) hi ?_)⟩
      intro a' Wa ka kpa ia axa
      have hla := ka.same _ _ (by omega) hl rfl
      have hka := ka.same _ _ (Nat.le_refl _) hk rfl
      have hlt := (Array.getElem?_eq_some_iff.1 hla).1
      refine ⟨_, run_beginRound hla (by rw [hrec]), ?_⟩
      have hl2 : (Wa.putObj (w.heap.size + 1) (.loop { rec_ .ready with state := .busy })).heap[w.heap.size + 1]? = some (.loop { rec_ .ready with state := .busy }) := World.putObj_heap_same hlt
      have hk2 : (Wa.putObj (w.heap.size + 1) (.loop { rec_ .ready with state := .busy })).heap[w.heap.size]? = some (.deferred (some [])) := (World.putObj_heap_other (by omega)).trans hka
      refine wpIn_mono (hbody (w.heap.size + 1) pre x a' _ (by omega) (hI.putObj _ ia (by omega) hla rfl) ((hAx x a').putObj (s := ()) _ axa (by omega) hla rfl) hlen) ?_
      rintro e a3 W3 hp
      cases e with
      | normal =>
        obtain ⟨k3, kp3, i3⟩ := hp
        have hl3 := k3.same _ _ (by omega) hl2 rfl
        have hd3 := k3.same _ _ (Nat.le_refl _) hk2 rfl
        have hend := run_endRound (P := P) none hl3
        rw [hrec] at hend
        refine ⟨_, _, hend, rfl, ⟨hI.putObj _ i3 (by omega) hl3 rfl, ?_, (World.putObj_heap_other (by omega)).trans hd3⟩, hKt _ _ _ _ kpa (hKt _ _ _ _ (hKt _ _ _ _ (hKb _ _ _ _ (by omega) hla) kp3) (hKb _ _ _ _ (by omega) hl3))⟩
        rw [World.putObj_heap_same (Array.getElem?_eq_some_iff.1 hl3).1, hrec]
        rfl
      | ret => exact hp.elim
      | exit id => exact hp.elim
      | goto t => exact hp.elim
      | panic ch => exact hp.elim
      | outgrown => exact hp.elim
    · rintro e W2 ⟨⟨v, rfl⟩, xs, hS, hi, hl, hk⟩
      have hend := run_endLoop (P := P) hl (by rw [hrec]; simp)
      rw [hrec] at hend
      exact ⟨none, _, hend, hdone _ xs _ (Nat.le_refl _) hS (hI.putObj _ hi (by omega) hl rfl) ((World.putObj_heap_other (by omega)).trans hk)⟩


variable {F : Fence} {n : Nat} {P : Program} {ops : Array Oper} {md : Region.Mode} {C : World → Prop}

/-- What has come up had all that it waits for. -/
def ClosedL (md : Region.Mode) (ops : Array Oper) (listed : Array Bool) : Prop := ∀ k ok, ops[k]? = some ok → listed.getD k false = true → ∀ e ∈ ok.after, Region.binds md e = true → listed.getD e.on false = true
theorem ClosedL.step {listed : Array Bool} (h : ClosedL md ops listed) {i : Nat} (hi : i ∈ Region.ready md ops listed) : ClosedL md ops (listed.setIfInBounds i true) := fun k ok hk hl e he hb => by
  apply getD_set_true
  by_cases hki : i = k
  · subst hki
    obtain ⟨-, o, ho, hall⟩ := mem_ready.1 hi
    rw [hk] at ho
    cases ho
    exact hall e he hb
  · rw [getD_set_ne false hki] at hl
    exact h k ok hk hl e he hb
/-- Each operation ahead of y is one that another one, up to y, waits for. -/
def chainB (md : Region.Mode) (ops : Array Oper) (y : Nat) : Bool := (List.range y).all fun i => (List.range (y + 1)).any fun s => decide (i < s) && ((ops[s]?).map (·.after.any fun e => Region.binds md e && e.on == i)).getD false
theorem all_listed {y : Nat} (hc : chainB md ops y = true) {listed : Array Bool} (h : ClosedL md ops listed) (hy : y ∈ Region.ready md ops listed) : ∀ (m i : Nat), y - i ≤ m → i < y → listed.getD i false = true := by
  intro m
  induction m with
  | zero => intro i h1 h2; omega
  | succ m ih =>
    intro i h1 h2
    have h3 := List.all_eq_true.1 hc i (List.mem_range.2 h2)
    obtain ⟨s, hs, h4⟩ := List.any_eq_true.1 h3
    simp only [Bool.and_eq_true, decide_eq_true_eq] at h4
    obtain ⟨h5, h6⟩ := h4
    have hsy : s ≤ y := by have := List.mem_range.1 hs; omega
    cases ho : ops[s]? with
    | none => rw [ho] at h6; simp at h6
    | some os =>
      rw [ho] at h6
      simp only [Option.map_some, Option.getD_some, Array.any_eq_true] at h6
      obtain ⟨q, hq, h7⟩ := h6
      simp only [Bool.and_eq_true, beq_iff_eq] at h7
      obtain ⟨hb, he⟩ := h7
      by_cases e : s = y
      · subst e
        obtain ⟨-, o, ho', hall⟩ := mem_ready.1 hy
        rw [ho] at ho'
        cases ho'
        rw [← he]
        exact hall _ (Array.getElem_mem hq) hb
      · have := ih s (by omega) (by omega)
        rw [← he]
        exact h s os ho this _ (Array.getElem_mem hq) hb

/-- Whatever order is picked from here on, till the tail. -/
def wpAnyT (F : Fence) (n : Nat) (P : Program) (md : Region.Mode) (ops : Array Oper) (C : World → Prop) (T : Nat → Array Bool → Act → Prop) : Nat → Array Bool → Act → Prop
  | 0, listed, a => T 0 listed a
  | fuel + 1, listed, a => T (fuel + 1) listed a ∨ (Region.ready md ops listed ≠ [] ∧ ∀ i ∈ Region.ready md ops listed, qOpIn F n P ops C i (wpAnyT F n P md ops C T fuel (listed.setIfInBounds i true)) a)

theorem wpAnyIn_of_T {T : Nat → Array Bool → Act → Prop} {Q' : Exit → Act → World → Prop} (hro : F.round = none) (hT : ∀ fuel listed a, T fuel listed a → ∀ w, C w → wpAnyIn F n P md ops Q' fuel listed a w) : ∀ (fuel : Nat) (listed : Array Bool) (a : Act) (w : World), C w →
    wpAnyT F n P md ops C T fuel listed a → wpAnyIn F n P md ops Q' fuel listed a w
  | 0, _, _, w, hw, h => hT _ _ _ h w hw
  | fuel + 1, _, _, w, hw, h => by
    rcases h with h | ⟨h0, h⟩
    · exact hT _ _ _ h w hw
    · exact ⟨fun e => absurd e h0, fun i hi => wpOpIn_of_qOpIn hro hw (fun a' w' hw' => wpAnyIn_of_T hro hT fuel _ a' w' hw') (h i hi)⟩

theorem wpAnyT_first {T : Nat → Array Bool → Act → Prop} {y i : Nat} {oi : Oper} {v : Value} (hi : ops[i]? = some oi) (hiy : i < y) (hsel : ∀ (j : Nat) (o : Oper) cs b, ops[j]? = some o → o.op ≠ .select cs b) (hc : chainB md ops y = true) (hT : ∀ fuel listed a, T fuel listed a → Region.ready md ops listed = [y]) :
    ∀ (fuel : Nat) (listed : Array Bool) (a : Act), ClosedL md ops listed →
      (∀ j oj, ops[j]? = some oj → j ≠ i → listed.getD j true = false → (∀ e ∈ oj.after, Region.binds md e = true → e.on ≠ i) → oi.apart ops oj = true) →
      i ∈ Region.ready md ops listed → YieldsQuiet F n P ops C oi v a →
      wpAnyT F n P md ops C T fuel (listed.setIfInBounds i true) (a.put oi.dst v) → wpAnyT F n P md ops C T (fuel + 1) listed a := by
  have key : ∀ (listed : Array Bool) (j : Nat), ClosedL md ops listed → i ∈ Region.ready md ops listed → j ∈ Region.ready md ops listed → j ≠ i → Region.ready md ops (listed.setIfInBounds i true) = [y] → False := fun listed j hcl hr hj hji hy => by
    have h1 := ready_mono hj hji
    rw [hy] at h1
    obtain rfl : j = y := by simpa using h1
    have h2 := all_listed hc hcl hj _ i (Nat.le_refl _) hiy
    have h3 := (mem_ready.1 hr).1
    rcases Nat.lt_or_ge i listed.size with h' | h'
    · simp [h'] at h2 h3; rw [h3] at h2; cases h2
    · simp [Array.getElem?_eq_none h'] at h2
  intro fuel
  induction fuel with
  | zero =>
    intro listed a hcl _ hr hy H
    refine Or.inr ⟨fun h => (by rw [h] at hr; cases hr), fun j hj => ?_⟩
    by_cases hji : j = i
    · subst hji; exact hy.qOpIn hi H
    · exact (key listed j hcl hr hj hji (hT _ _ _ H)).elim
  | succ fuel ih =>
    intro listed a hcl hfree hr hy H
    refine Or.inr ⟨fun h => (by rw [h] at hr; cases hr), fun j hj => ?_⟩
    by_cases hji : j = i
    · subst hji; exact hy.qOpIn hi H
    · rcases H with H | ⟨-, H⟩
      · exact (key listed j hcl hr hj hji (hT _ _ _ H)).elim
      · have h1 := H j (ready_mono hj hji)
        obtain ⟨hjun, oj, hoj, hall⟩ := mem_ready.1 hj
        have hnot : ∀ e ∈ oj.after, Region.binds md e = true → e.on ≠ i := fun e he hb heq => by
          have h1 := hall e he hb
          have h0 := (mem_ready.1 hr).1
          rw [heq] at h1
          rcases Nat.lt_or_ge i listed.size with h' | h'
          · simp [h'] at h0 h1; rw [h0] at h1; cases h1
          · simp [Array.getElem?_eq_none h'] at h1
        have h2 := qOpIn_put hoj (hfree j oj hoj hji hjun hnot) (fun cs b => hsel i oi cs b hi) (fun cs b => hsel j oj cs b hoj) hy h1
        have hfree' : ∀ k ok, ops[k]? = some ok → k ≠ i → (listed.setIfInBounds j true).getD k true = false →
            (∀ e ∈ ok.after, Region.binds md e = true → e.on ≠ i) → oi.apart ops ok = true := fun k ok hk hki hun hno => by
          refine hfree k ok hk hki ?_ hno
          by_cases hjk : j = k
          · subst hjk; exact hjun
          · rw [getD_set_ne true hjk] at hun; exact hun
        refine qOpIn_mono (fun a' h3 => ih (listed.setIfInBounds j true) a' (hcl.step hj) hfree' (ready_mono hr (Ne.symm hji)) h3.1 ?_) h2
        rw [Array.setIfInBounds_comm _ _ hji]
        exact h3.2

def listedAfter : Nat → Nat → Array Bool → Array Bool
  | 0, _, l => l
  | m + 1, k, l => listedAfter m (k + 1) (l.setIfInBounds k true)
def lexP (md : Region.Mode) (ops : Array Oper) : Nat → Nat → Array Bool → Bool
  | 0, _, _ => true
  | m + 1, k, listed => (Region.ready md ops listed).contains k && Region.free md ops listed k && lexP md ops m (k + 1) (listed.setIfInBounds k true)

theorem wpAnyT_lex {T : Nat → Array Bool → Act → Prop} {Q : Act → Prop} {y f0 : Nat} (hs : Region.noSelect ops = true) (hc : chainB md ops y = true) (hT : ∀ fuel listed a, T fuel listed a → Region.ready md ops listed = [y]) : ∀ (l : List Oper) (k : Nat) (listed : Array Bool) (a : Act), (∀ j, j < l.length → l[j]? = ops[k + j]?) → k + l.length = y → ClosedL md ops listed →
    lexP md ops l.length k listed = true → (∀ a, Q a → T f0 (listedAfter l.length k listed) a) → wpQuietIn F n P ops C Q l a → wpAnyT F n P md ops C T (l.length + f0) listed a
  | [], _, listed, a, _, _, _, _, hQ, h => by
    have h1 : T f0 listed a := hQ a h
    simp only [List.length_nil, Nat.zero_add]
    cases f0 with
    | zero => exact h1
    | succ f => exact Or.inl h1
  | o :: l, k, listed, a, hl, hk, hcl, hB, hQ, h => by
    have h0 : ops[k]? = some o := by simpa using (hl 0 (by simp)).symm
    simp only [List.length_cons, lexP, Bool.and_eq_true] at hB
    obtain ⟨⟨hr, hf⟩, hB'⟩ := hB
    have hst : qOpIn F n P ops C k (wpQuietIn F n P ops C Q l) a := by unfold qOpIn; simp only [h0]; exact h
    obtain ⟨v, hy, hK⟩ := yieldsQuiet_of_qOpIn h0 hst
    have hr' : k ∈ Region.ready md ops listed := by simpa using hr
    have := wpAnyT_lex hs hc hT l (k + 1) (listed.setIfInBounds k true) (a.put o.dst v) (fun j hj => by have := hl (j + 1) (by simp; omega); simpa [Nat.add_assoc, Nat.add_comm 1 j] using this) (by simp at hk; omega) (hcl.step hr') hB' hQ hK
    have e : (o :: l).length + f0 = l.length + f0 + 1 := by simp; omega
    rw [e]
    exact wpAnyT_first h0 (by simp at hk; omega) (Region.noSelect_spec hs) hc hT (l.length + f0) listed a hcl (Region.free_spec h0 hf) hr' hy this

theorem nothing_listed (m k : Nat) : (Array.replicate m false).getD k false = false := by
  simp only [Array.getD_eq_getD_getElem?, Array.getElem?_replicate]
  split <;> rfl

/-- A region that draws its order: its first y operations, each of which operation y waits for, leave a world of the class: they are walked once, in the text's order; then comes what is left. -/
theorem wpIn_region_tail {id y : Nat} {Q : Exit → Act → World → Prop} {a : Act} {w : World} {l : List Oper} (hro : F.round = none) (hm : P.follows .mixedOrders = true) (hs : Region.noSelect l.toArray = true) (hc : chainB .any l.toArray y = true) (hy : y ≤ l.length)
    (hB : lexP .any l.toArray y 0 (Array.replicate l.length false) = true) (hr : Region.ready .any l.toArray (listedAfter y 0 (Array.replicate l.length false)) = [y]) (hC : C { w with drawn := w.drawn + 1 })
    (h : wpQuietIn F n P l.toArray C (fun a' => ∀ w', C w' → wpAnyIn F n P .any l.toArray Q (l.length - y) (listedAfter y 0 (Array.replicate l.length false)) a' w') (l.take y) a) : (Code.region id l.toArray true).wpIn F n P Q a w := by
  have hlt : (l.take y).length = y := by rw [List.length_take]; omega
  refine wpIn_region_any hm (wpAnyIn_of_T (T := fun fuel listed a' => Region.ready .any l.toArray listed = [y] ∧ ∀ w', C w' → wpAnyIn F n P .any l.toArray Q fuel listed a' w') hro (fun _ _ _ h w' hw' => h.2 w' hw') _ _ _ _ hC ?_)
  have := wpAnyT_lex (F := F) (n := n) (P := P) (C := C) (md := .any) (ops := l.toArray) (f0 := l.length - y) (T := fun fuel listed a' => Region.ready .any l.toArray listed = [y] ∧ ∀ w', C w' → wpAnyIn F n P .any l.toArray Q fuel listed a' w') hs hc (fun _ _ _ h => h.1) (l.take y) 0 (Array.replicate l.length false) a (fun j hj => by rw [hlt] at hj; simp [List.getElem?_take, hj]) (by omega) (fun k ok _ hl => by rw [nothing_listed] at hl; cases hl) (by rw [hlt]; exact hB) (fun a' h' => by rw [hlt]; exact ⟨hr, h'⟩) h
  rw [hlt] at this
  have e : y + (l.length - y) = l.length := by omega
  rw [e] at this
  simpa using this

theorem wpAnyIn_only {Q : Exit → Act → World → Prop} {fuel k : Nat} {listed : Array Bool} {a : Act} {w : World} {o : Oper} (hr : Region.ready md ops listed = [k]) (ho : ops[k]? = some o) (hw : Region.wanted o (yielded ops a.tmps) = true) (h : o.wpIn F n P a w (wpAnyIn F n P md ops Q fuel (listed.setIfInBounds k true)) Q) : wpAnyIn F n P md ops Q (fuel + 1) listed a w := by
  refine ⟨fun e => (by rw [hr] at e; cases e), fun i hi => ?_⟩
  rw [hr] at hi
  obtain rfl : i = k := by simpa using hi
  unfold wpOpIn
  simp only [ho, hw, if_true]
  exact h
theorem wpAnyIn_end {Q : Exit → Act → World → Prop} {listed : Array Bool} {a : Act} {w : World} (hr : Region.ready md ops listed = []) (h : Q .normal a w) : wpAnyIn F n P md ops Q 0 listed a w := ⟨hr, h⟩

end Go.Proofs.YtihicdbplmdjiaaGreat
