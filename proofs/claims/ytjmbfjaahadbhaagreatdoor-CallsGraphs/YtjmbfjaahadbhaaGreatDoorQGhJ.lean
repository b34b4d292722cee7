import Derived.Test.YtjmbfjaahadbhaaGreatDoorQRaJ
import Derived.Test.YtjmbfjaahadbhaaGreatDoorQPcJ
import Derived.Test.YtjmbfjaahadbhaaGreatDoorQGkJ
import Derived.Test.YtjmbfjaahadbhaaGreatDoorQGf
set_option linter.unusedVariables false
set_option linter.unusedSimpArgs false
namespace Go.Proofs.YtjmbfjaahadbhaaGreatDoor
open Go.RowKit (wrap32 wrap64)

set_option maxRecDepth 100000 in
set_option maxHeartbeats 2000000 in
/-- The greatest of a row of numbers. -/
theorem max_any (go N : Nat) (of : Nat → Nat) (w : World) (h : Wg.Row w 3 go N (fun i => vI (of i : Nat))) (h0 : 0 < N) (hN : N ≤ 1000000) (hb : ∀ i, i < N → of i ≤ 1000000) :
    Calls Tryz.prog 44 #[.slice (some ⟨go, 0, none⟩) N N] w fun e w' => ∃ m : Nat, e = .returned (vI (m : Int)) ∧ (∃ i, i < N ∧ of i = m) ∧ (∀ i, i < N → of i ≤ m) ∧ w' = w := by
  have H : Hd (Wg.Row w 3 go N (fun i => vI (of i : Nat))) := h
  have HB : Hd (∀ i, i < N → of i ≤ 1000000) := hb
  have p0 : w.cell? ⟨go, 0, none⟩ = some (vI (of 0 : Nat)) := h.cell h0
  have d0 : decide ((N : Int) < 1) = false := by simp; omega
  have d0n : ¬ N < 1 := by omega
  have h0i : (0 : Int) < N := by omega
  clear h hb
  go_enter Tryz.func44, Tryz.ntmps44
  go_wp2_with fail
  go_loopw [3, 4] (fun v3 v4 wx => ∃ k m : Nat, v3 = .int .i64 (m : Int) ∧ v4 = .int .i64 (k : Int) ∧ 1 ≤ k ∧ k ≤ N ∧ m ≤ 1000000 ∧ Hd (∃ i, i < N ∧ of i = m) ∧ Hd (∀ i, i < k → of i ≤ m) ∧ wx = w) (fun _ v _ => match v with | .int _ q => N - q.toNat | _ => 0)
  case atStart =>
    have HM0 : ∀ i, i < 1 → of i ≤ of 0 := fun i hi => by
      have e : i = 0 := by omega
      rw [e]; exact Nat.le_refl _
    exact ⟨1, of 0, rfl, by simp, Nat.le_refl _, by omega, HB.out 0 (by omega), ⟨0, by omega, rfl⟩, HM0, rfl⟩
  case round =>
    obtain ⟨k, m, rfl, rfl, hk1, hkN, hm, HX, HM, rfl⟩ := hrel
    by_cases hlt : k < N
    · have d1 : decide ((k : Int) < (N : Int)) = true := by simp; omega
      have p1 : wr.cell? ⟨go, k, none⟩ = some (vI (of k : Nat)) := H.out.cell hlt
      have k0 : (0 : Int) ≤ k := by omega
      have k1 : (k : Int) < N := by omega
      have hok := HB.out k hlt
      by_cases hmk : m < of k
      · have e1 : max (m : Int) (of k : Int) = (of k : Int) := by omega
        have HX2 : Hd (∃ i, i < N ∧ of i = of k) := ⟨k, hlt, rfl⟩
        have HM2 : Hd (∀ i, i < k + 1 → of i ≤ of k) := fun i hi => by
          by_cases e : i = k
          · rw [e]; exact Nat.le_refl _
          · have := HM.out i (by omega); omega
        go_wp2_with fail
        go_roundw
        case measure => simp; omega
        case rel => exact ⟨k + 1, of k, by simp [hmk], by simp, by omega, by omega, hok, HX2.out, HM2.out, trivial⟩
      · have HM2 : Hd (∀ i, i < k + 1 → of i ≤ m) := fun i hi => by
          by_cases e : i = k
          · rw [e]; omega
          · exact HM.out i (by omega)
        go_wp2_with fail
        go_roundw
        case measure => simp; omega
        case rel => exact ⟨k + 1, m, by simp [hmk], by simp, by omega, by omega, hm, HX.out, HM2.out, trivial⟩
    · have d1 : decide ((k : Int) < (N : Int)) = false := by simp; omega
      have d1n : ¬ k < N := by omega
      have HM2 : Hd (∀ i, i < N → of i ≤ m) := fun i hi => HM.out i (by omega)
      go_wp2_with fail
      go_ret
      exact ⟨m, rfl, HX.out, HM2.out, rfl⟩

theorem lb_rows {B0 N ck co cc : Nat} {cl : Nat → List Nat} {w : World} (h : LB B0 w (.slice (some ⟨ck, co, none⟩) N cc) (zLs N cl)) {f : Nat} (hf : f < N) :
    ∃ ua uc, w.cell? ⟨ck, co + f, none⟩ = some (.slice ua (cl f).length uc) ∧ ck < B0 ∧ ∀ (i z : Nat), (cl f)[i]? = some z → ∃ uk uo, ua = some ⟨uk, uo, none⟩ ∧ uk < B0 ∧ w.cell? ⟨uk, uo + i, none⟩ = some (vI (z : Int)) := by
  obtain ⟨a, c, e, h⟩ := h
  have hne : zLs N cl ≠ [] := fun e => by
    have := congrArg List.length e
    simp at this
    omega
  obtain ⟨k, o, e2, hk, h⟩ := h hne
  rw [e2] at e
  injection e with e1 e3 e4
  injection e1 with e1
  injection e1 with e5 e6
  subst e5 e6
  obtain ⟨u, u1, a2, c2, rfl, h2⟩ := h f (by simpa using hf)
  have ez : (zLs N cl)[f]'(by simpa using hf) = zL (cl f) := by simp
  rw [ez] at h2
  refine ⟨a2, c2, ?_, hk, fun i z hz => ?_⟩
  · rw [u1, ez]; simp
  · have hi : i < (cl f).length := by
      by_cases e : i < (cl f).length
      · exact e
      · rw [List.getElem?_eq_none (by omega)] at hz; cases hz
    obtain ⟨k2, o2, e7, hk2, h3⟩ := h2 (fun e => by have := congrArg List.length e; rw [List.length_map, List.length_nil] at this; omega)
    refine ⟨k2, o2, e7, hk2, ?_⟩
    rw [h3 i (by simpa using hi)]
    rw [List.getElem?_eq_getElem hi] at hz
    injection hz with hz
    simp [hz]
/-- One more call is told. -/
theorem cP_told (N : Nat) (of : Nat → Nat) (cl : Nat → List Nat) (c d : Nat) (h : Nat → Bool) : Wg.upd (cP N of cl c h) d (if c = d ∨ (cP N of cl c h d).getLast? = some c then cP N of cl c h d else cP N of cl c h d ++ [c]) = cP N of cl c (fun x => h x || d == x) := by
  rw [cP_step]
  congr 1
  by_cases e : c = d
  · rw [if_pos (Or.inl e), if_pos (Or.inl e)]
  · have := cP_test (N := N) (of := of) (cl := cl) c d h e
    rw [← List.getLast?_eq_some_iff] at this
    by_cases e2 : h d = true
    · rw [if_pos (Or.inr (this.2 e2)), if_pos (Or.inr e2)]
    · rw [if_neg (fun x => x.elim e (fun y => e2 (this.1 y))), if_neg (fun x => x.elim e e2)]
/-! ### the graph in memory -/
/-- A graph: its functions' components, its components' lists. -/
structure GA (w : World) (B b go gm ge gr N n : Nat) (mv ev rv : Nat → Value) (of : Nat → Nat) (cl : Nat → List Nat) : Prop where
  blk : w.heap[b]? = some (.cells #[.slice (some ⟨go, 0, none⟩) N N, .slice (some ⟨gm, 0, none⟩) n n, .slice (some ⟨ge, 0, none⟩) n n, .slice (some ⟨gr, 0, none⟩) n n] 76)
  rof : Wg.Row w 3 go N (fun i => vI (of i : Nat))
  cm : Cr w B gm n mv (fun c => zL (memX N of c))
  ce : Cr w B ge n ev (fun c => zL (cleX N n of cl c))
  cr : Cr w B gr n rv (fun c => zL (clrX N n of cl c))
theorem GA.stay {w w' : World} {B b go gm ge gr N n : Nat} {mv ev rv : Nat → Value} {of : Nat → Nat} {cl : Nat → List Nat} (h : GA w B b go gm ge gr N n mv ev rv of cl) (f : Fr (fun _ => False) w w') : GA w' B b go gm ge gr N n mv ev rv of cl :=
  ⟨keepF h.blk f, h.rof.fr f (fun e => e), h.cm.stay f, h.ce.stay f, h.cr.stay f⟩
/-- What join leaves. -/
def JnE (N n go : Nat) (of : Nat → Nat) (cl : Nat → List Nat) (w : World) (e : Ending) (w' : World) : Prop :=
  ∃ b gm ge gr mv ev rv, e = .returned (.pointer (some ⟨b, 0, none⟩)) ∧ w.heap.size ≤ b ∧ w.heap.size ≤ gm ∧ w.heap.size ≤ ge ∧ w.heap.size ≤ gr ∧ GA w' w.heap.size b go gm ge gr N n mv ev rv of cl ∧ Fr (fun _ => False) w w'
/-- Where the graph's blocks lie. -/
def Jst (w0 : World) (H b gm ge gr : Nat) : Prop := H = w0.heap.size ∧ H ≤ gm ∧ H ≤ ge ∧ H ≤ gr ∧ gm < H + 3 ∧ ge < H + 3 ∧ gr < H + 3 ∧ b = H + 3 ∧ gm ≠ ge ∧ gm ≠ gr ∧ ge ≠ gr
/-- The graph's block, and what was there before. -/
structure J0 (w0 w : World) (H b go gm ge gr N n : Nat) : Prop where
  blk : w.heap[b]? = some (.cells #[.slice (some ⟨go, 0, none⟩) N N, .slice (some ⟨gm, 0, none⟩) n n, .slice (some ⟨ge, 0, none⟩) n n, .slice (some ⟨gr, 0, none⟩) n n] 76)
  ff : Fr (fun k => H ≤ k) w0 w
  sz : H + 4 ≤ w.heap.size
theorem J0.next {S : Nat → Prop} {w0 w w' : World} {H b go gm ge gr N n : Nat} (h : J0 w0 w H b go gm ge gr N n) (f : Fr S w w') (hb : ¬ S b) (hS : ∀ k, S k → H ≤ k) : J0 w0 w' H b go gm ge gr N n :=
  ⟨(f.block b (heap_lt0 h.blk) hb).trans h.blk, h.ff.trans (f.mono (fun k _ e => hS k e)), Nat.le_trans h.sz f.size⟩
theorem three_rows (w : World) (N g : Nat) (o : Obj) (h1 : w.heap.size ≤ g) (h2 : g < w.heap.size + 3) : Wg.Row ((((w.alloc (.cells (Array.replicate N (.slice none 0 0)) 25)).alloc (.cells (Array.replicate N (.slice none 0 0)) 25)).alloc (.cells (Array.replicate N (.slice none 0 0)) 25)).alloc o).drew 25 g N (fun _ => .slice none 0 0) := by
  have r : ∀ W : World, Wg.Row (W.alloc (.cells (Array.replicate N (.slice none 0 0)) 25)) 25 W.heap.size N (fun _ => .slice none 0 0) := fun W => Wg.Row.made W 25 N (.slice none 0 0)
  have k : ∀ {W : World} {g : Nat} (o : Obj), Wg.Row W 25 g N (fun _ => .slice none 0 0) → Wg.Row (W.alloc o) 25 g N (fun _ => .slice none 0 0) := fun {W g} o h => h.fr (Fr.alloc (Fr.refl (fun _ => False) W) _) (fun e => e)
  have d : ∀ {W : World} {g : Nat}, Wg.Row W 25 g N (fun _ => .slice none 0 0) → Wg.Row W.drew 25 g N (fun _ => .slice none 0 0) := fun {W g} h => h.fr (Fr.refl (fun _ => False) W).drew (fun e => e)
  have : g = w.heap.size ∨ g = w.heap.size + 1 ∨ g = w.heap.size + 2 := by omega
  rcases this with e | e | e
  · rw [e]; exact d (k _ (k _ (k _ (r w))))
  · have := r (w.alloc (.cells (Array.replicate N (.slice none 0 0)) 25))
    rw [World.size_alloc] at this
    rw [e]; exact d (k _ (k _ this))
  · have := r ((w.alloc (.cells (Array.replicate N (.slice none 0 0)) 25)).alloc (.cells (Array.replicate N (.slice none 0 0)) 25))
    rw [World.size_alloc, World.size_alloc] at this
    rw [e]; exact d (k _ this)
theorem j0_begin (w : World) (N n go gm ge gr : Nat) : J0 w ((((w.alloc (.cells (Array.replicate n (.slice none 0 0)) 25)).alloc (.cells (Array.replicate n (.slice none 0 0)) 25)).alloc (.cells (Array.replicate n (.slice none 0 0)) 25)).alloc (.cells #[.slice (some ⟨go, 0, none⟩) N N, .slice (some ⟨gm, 0, none⟩) n n, .slice (some ⟨ge, 0, none⟩) n n, .slice (some ⟨gr, 0, none⟩) n n] 76)).drew w.heap.size (w.heap.size + 3) go gm ge gr N n := by
  refine ⟨?_, ((Fr.alloc (Fr.alloc (Fr.alloc (Fr.alloc (Fr.refl (fun _ => False) w) _) _) _) _).drew).mono (fun _ _ e => e.elim), ?_⟩
  · have := heap_new0 (((w.alloc (.cells (Array.replicate n (.slice none 0 0)) 25)).alloc (.cells (Array.replicate n (.slice none 0 0)) 25)).alloc (.cells (Array.replicate n (.slice none 0 0)) 25)) (.cells #[.slice (some ⟨go, 0, none⟩) N N, .slice (some ⟨gm, 0, none⟩) n n, .slice (some ⟨ge, 0, none⟩) n n, .slice (some ⟨gr, 0, none⟩) n n] 76)
    rw [World.size_alloc, World.size_alloc, World.size_alloc] at this
    exact this
  · show _ ≤ (World.alloc _ _).heap.size
    rw [World.size_alloc, World.size_alloc, World.size_alloc, World.size_alloc]
    omega
/-- Hit by the first i of a component's functions, and by the first j calls of the next one. -/
def hitP (N : Nat) (of : Nat → Nat) (cl : Nat → List Nat) (c i : Nat) (l : List Nat) (d : Nat) : Bool := ((memX N of c).take i).any (fun f => (cl f).any (fun g => of g == d)) || l.any (fun g => of g == d)
theorem hitP_zero (N : Nat) (of : Nat → Nat) (cl : Nat → List Nat) (c : Nat) : hitP N of cl c 0 [] = fun _ => false := by funext d; simp [hitP]
theorem hitP_all (N : Nat) (of : Nat → Nat) (cl : Nat → List Nat) (c i : Nat) (hi : (memX N of c).length ≤ i) : hitP N of cl c i [] = fun d => hitX N of cl c d := by funext d; simp [hitP, hitX, List.take_of_length_le hi]
theorem hitP_next (N : Nat) (of : Nat → Nat) (cl : Nat → List Nat) (c i f : Nat) (hf : (memX N of c)[i]? = some f) : hitP N of cl c (i + 1) [] = hitP N of cl c i (cl f) := by
  funext d
  unfold hitP
  rw [List.take_add_one, hf]
  simp
theorem hitP_one (N : Nat) (of : Nat → Nat) (cl : Nat → List Nat) (c i : Nat) (l : List Nat) (g : Nat) : hitP N of cl c i (l ++ [g]) = fun d => hitP N of cl c i l d || of g == d := by
  funext d
  unfold hitP
  rw [List.any_append]
  simp [Bool.or_assoc]
theorem len_le {l : List Nat} {n : Nat} (h : l.Pairwise (· < ·)) (hl : ∀ x ∈ l, x < n) : l.length ≤ n := nodup_le (rise_nodup h) hl
theorem cP_len (N : Nat) (of : Nat → Nat) (cl : Nat → List Nat) (c : Nat) (h : Nat → Bool) (d : Nat) : (cP N of cl c h d).length ≤ c + 1 := by
  unfold cP
  rw [List.length_append]
  have := len_le (clrX_rise (N := N) (n := c) (of := of) (cl := cl) d) (fun x hx => (mem_clrX.1 hx).1)
  split <;> simp <;> omega
theorem eP_len (N : Nat) (of : Nat → Nat) (cl : Nat → List Nat) (d : Nat) (P : List Nat) (c : Nat) : (eP N of cl d P c).length ≤ d + 1 := by
  unfold eP
  rw [List.length_append]
  have := len_le (cleX_rise (N := N) (n := d) (of := of) (cl := cl) c) (fun x hx => (mem_cleX.1 hx).1)
  split <;> simp <;> omega
end Go.Proofs.YtjmbfjaahadbhaaGreatDoor
