import Derived.Test.YtingenonbkencaaDoorQA3J
import Derived.Test.YtingenonbkencaaDoorQB8J
import Derived.Deep.AppendLies
import Derived.Deep.Onto
import Derived.Deep.DeepCutAuto
import Derived.Deep.RegionHeld3
set_option linter.unusedVariables false
set_option linter.unusedSimpArgs false
namespace Go.Proofs.YtingenonbkencaaDoor
open Go.RowKit (wrap32 wrap64)
set_option maxRecDepth 100000
set_option maxHeartbeats 1000000
theorem heap_new (w : World) (o : Obj) : (w.alloc o).heap[w.heap.size]? = some o := (MapKept.heap_alloc w o).1
theorem heap_lt {w : World} {k : Nat} {o : Obj} (h : w.heap[k]? = some o) : k < w.heap.size := (Array.getElem?_eq_some_iff.1 h).1
theorem cell_of {w : World} {k : Nat} {cs : Array Value} {t : TypeId} (h : w.heap[k]? = some (.cells cs t)) (o : Nat) : w.cell? ⟨k, o, none⟩ = cs[o]? := by
  unfold World.cell?; rw [h]; simp
theorem frozen_of {w : World} {k : Nat} {cs : Array Value} {t : TypeId} (h : w.heap[k]? = some (.cells cs t)) (o : Nat) : w.frozen? ⟨k, o, none⟩ = false := by
  unfold World.frozen?; rw [h]; simp
theorem set_of {w : World} {k : Nat} {cs : Array Value} {t : TypeId} (h : w.heap[k]? = some (.cells cs t)) (o : Nat) (v : Value) : (w.setCell ⟨k, o, none⟩ v).heap[k]? = some (.cells (cs.setIfInBounds o v) t) := by
  unfold World.setCell
  simp only [Array.getElem?_modify]
  rw [if_pos trivial, h]
  rfl
theorem Fr.then {S S' : Nat → Prop} {a b c : World} (h : Fr S a b) (k : Fr S' b c) (hs : ∀ j, j < a.heap.size → S' j → S j) : Fr S a c :=
  ⟨k.os.trans h.os, k.tape.trans h.tape, k.output.trans h.output, Nat.le_trans h.size k.size, fun j hj hS => (k.block j (Nat.lt_of_lt_of_le hj h.size) (fun e => hS (hs j hj e))).trans (h.block j hj hS)⟩
theorem setCell_fr (w : World) (k o : Nat) (u : Value) : Fr (fun j => j = k) w (w.setCell ⟨k, o, none⟩ u) := Fr.setCell (S := fun j => j = k) (Fr.refl _ w) _ _ (Or.inl rfl)
def Rws (w : World) (t sz g m : Nat) (R : Nat → List Value) : Prop := ∃ cs : Array Value, w.heap[g]? = some (.cells cs t) ∧ cs.size = m * sz ∧ ∀ i o, i < m → o < sz → cs[i * sz + o]? = some ((R i).getD o undef)
theorem Rws.lt {w : World} {t sz g m : Nat} {R : Nat → List Value} (h : Rws w t sz g m R) : g < w.heap.size := by obtain ⟨cs, h, -⟩ := h; exact heap_lt h
theorem Rws.cell {w : World} {t sz g m : Nat} {R : Nat → List Value} (h : Rws w t sz g m R) {i o : Nat} (hi : i < m) (ho : o < sz) : w.cell? ⟨g, i * sz + o, none⟩ = some ((R i).getD o undef) := by
  obtain ⟨cs, h, -, hc⟩ := h; rw [cell_of h]; exact hc i o hi ho
theorem Rws.frozen {w : World} {t sz g m : Nat} {R : Nat → List Value} (h : Rws w t sz g m R) (q : Nat) : w.frozen? ⟨g, q, none⟩ = false := by
  obtain ⟨cs, h, -⟩ := h; exact frozen_of h q
theorem Rws.fr {S : Nat → Prop} {w w' : World} {t sz g m : Nat} {R : Nat → List Value} (h : Rws w t sz g m R) (f : Fr S w w') (hS : ¬ S g) : Rws w' t sz g m R := by
  have hl := h.lt
  obtain ⟨cs, h, h2⟩ := h; exact ⟨cs, (f.block g hl hS).trans h, h2⟩
theorem Rws.congr {w : World} {t sz g m : Nat} {R R' : Nat → List Value} (h : Rws w t sz g m R) (e : ∀ i, i < m → R i = R' i) : Rws w t sz g m R' := by
  obtain ⟨cs, h, h2, h3⟩ := h
  exact ⟨cs, h, h2, fun i o hi ho => by rw [h3 i o hi ho, e i hi]⟩
def at1 {α : Type} (f : Nat → α) (i : Nat) (x : α) : Nat → α := fun j => if j = i then x else f j
theorem at1_self {α : Type} (f : Nat → α) (i : Nat) (x : α) : at1 f i x i = x := if_pos rfl
theorem at1_ne {α : Type} (f : Nat → α) {i j : Nat} (x : α) (h : j ≠ i) : at1 f i x j = f j := if_neg h
theorem at1_at1 {α : Type} (f : Nat → α) (i : Nat) (x y : α) : at1 (at1 f i x) i y = at1 f i y := by
  funext j; unfold at1; split <;> rfl
theorem row_index {sz i j o q : Nat} (ho : o < sz) (hq : q < sz) (h : i * sz + o = j * sz + q) : i = j ∧ o = q := by
  have e1 : (i * sz + o) / sz = i := by rw [Nat.mul_comm, Nat.mul_add_div (by omega), Nat.div_eq_of_lt ho]; rfl
  have e2 : (j * sz + q) / sz = j := by rw [Nat.mul_comm, Nat.mul_add_div (by omega), Nat.div_eq_of_lt hq]; rfl
  have : i = j := by rw [← e1, ← e2, h]
  subst this
  exact ⟨rfl, by omega⟩
theorem Rws.set1 {w : World} {t sz g m : Nat} {R : Nat → List Value} (h : Rws w t sz g m R) {i o : Nat} (hi : i < m) (ho : o < sz) (hl : (R i).length = sz) (v : Value) : Rws (w.setCell ⟨g, i * sz + o, none⟩ v) t sz g m (at1 R i ((R i).set o v)) := by
  obtain ⟨cs, h, h2, h3⟩ := h
  have hlt : i * sz + o < m * sz := by
    have : (i + 1) * sz ≤ m * sz := Nat.mul_le_mul_right _ hi
    rw [Nat.add_mul] at this; omega
  refine ⟨cs.setIfInBounds (i * sz + o) v, set_of h _ v, by simpa using h2, fun j q hj hq => ?_⟩
  rw [Array.getElem?_setIfInBounds]
  by_cases e : i * sz + o = j * sz + q
  · obtain ⟨rfl, rfl⟩ := row_index ho hq e
    rw [if_pos rfl, if_pos (by omega), at1_self]
    simp [List.getD_eq_getElem?_getD, hl, ho]
  · rw [if_neg e, h3 j q hj hq]
    by_cases ej : j = i
    · subst ej
      have : o ≠ q := fun eo => e (by rw [eo])
      rw [at1_self]
      simp [List.getD_eq_getElem?_getD, List.getElem?_set_ne this]
    · rw [at1_ne _ _ ej]
def IA (w : World) (v : Value) (l : List Int) : Prop :=
  ∃ a c, v = .slice a l.length c ∧ (l ≠ [] → ∃ k o, a = some ⟨k, o, none⟩ ∧ k < w.heap.size ∧ ∀ j (h : j < l.length), w.cell? ⟨k, o + j, none⟩ = some (vI l[j]))
theorem IA.fr {S : Nat → Prop} {w w' : World} {v : Value} {l : List Int} (h : IA w v l) (f : Fr S w w') (hS : ∀ k, v.ownBlock = some k → ¬ S k) : IA w' v l := by
  obtain ⟨a, c, rfl, h⟩ := h
  refine ⟨a, c, rfl, fun hne => ?_⟩
  obtain ⟨k, o, rfl, hk, hc⟩ := h hne
  exact ⟨k, o, rfl, Nat.lt_of_lt_of_le hk f.size, fun j hj => (f.cell hk (hS k rfl)).trans (hc j hj)⟩
theorem IA.stay {w w' : World} {v : Value} {l : List Int} (h : IA w v l) (f : Fr (fun _ => False) w w') : IA w' v l := h.fr f (fun _ _ e => e)
def wideI (l : List Int) (i : Nat) : Int := if i < l.length then l.getD i 0 else -123456
def WI (w : World) (B : Nat) (v : Value) (l : List Int) : Prop := ∃ g, v = .slice (some ⟨g, 0, none⟩) l.length (l.length + 64) ∧ B ≤ g ∧ Rws w 3 1 g (l.length + 64) (fun i => [vI (wideI l i)])
theorem WI.fr {S : Nat → Prop} {w w' : World} {B : Nat} {v : Value} {l : List Int} (h : WI w B v l) (f : Fr S w w') (hS : ∀ k, v.ownBlock = some k → ¬ S k) : WI w' B v l := by
  obtain ⟨g, rfl, h1, h2⟩ := h
  exact ⟨g, rfl, h1, h2.fr f (hS g rfl)⟩
theorem WI.mono {w : World} {B B' : Nat} {v : Value} {l : List Int} (h : WI w B v l) (hB : B' ≤ B) : WI w B' v l := by
  obtain ⟨g, rfl, h1, h2⟩ := h
  exact ⟨g, rfl, by omega, h2⟩
theorem WI.ia {w : World} {B : Nat} {v : Value} {l : List Int} (h : WI w B v l) : IA w v l := by
  obtain ⟨g, rfl, h1, h2⟩ := h
  refine ⟨_, _, rfl, fun _ => ⟨g, 0, rfl, h2.lt, fun j hj => ?_⟩⟩
  have := h2.cell (i := j) (o := 0) (by omega) (by omega)
  rw [Nat.mul_one, Nat.add_zero] at this
  rw [Nat.zero_add, this]
  simp [wideI, hj]
theorem WI.ge {w : World} {B : Nat} {v : Value} {l : List Int} (h : WI w B v l) : ∀ k, v.ownBlock = some k → B ≤ k ∧ k < w.heap.size := by
  obtain ⟨g, rfl, h1, h2⟩ := h
  intro k e; cases e; exact ⟨h1, h2.lt⟩
theorem under64 : Tryd.prog.underlying 64 = some (.slice 3) := by kernel_rfl
theorem make64 (n : Nat) (hn : n ≤ 20000000000000) (w : World) : (Instr.makeSlice 64 (.int .i64 n) (.int .i64 n)).run Tryd.prog w = .ok (.slice (some ⟨w.heap.size, 0, none⟩) n n) (w.alloc (.cells (Array.replicate n (vI 0)) 3)) := by
  rw [run_make_of 64 3 (vI 0) 1 8 under64 (by kernel_rfl) (by kernel_rfl) (by kernel_rfl) n (by omega) (by omega) w, Nat.mul_one]
  congr 2
  congr 1
  unfold madeCells
  apply Array.ext
  · simp
  · intro i h1 h2
    simp [Nat.mod_one, Value.cells]
theorem Rws.made (w : World) (t m : Nat) (v : Value) : Rws (w.alloc (.cells (Array.replicate m v) t)) t 1 w.heap.size m (fun _ => [v]) :=
  ⟨_, heap_new w _, by simp, fun i o hi ho => by
    obtain rfl : o = 0 := by omega
    rw [Nat.mul_one, Nat.add_zero]
    simp [Array.getElem?_replicate, hi]⟩
theorem wideInts_any (v : Value) (l : List Int) (w : World) (hl : IA w v l) (hn : l.length ≤ 17592186043904) : Calls Tryd.prog 98 #[v] w fun e w' => ∃ v', e = .returned v' ∧ WI w' w.heap.size v' l ∧ Fr (fun _ => False) w w' := by
  obtain ⟨a, c, rfl, h0⟩ := hl
  have H0 : Hd _ := h0
  clear h0
  obtain ⟨n, hnl⟩ : ∃ n, n = l.length := ⟨_, rfl⟩
  have HN : Hd (n = l.length) := hnl
  rw [← hnl] at hn ⊢
  clear hnl
  have hmk := make64 (n + 64) (by omega) w
  have hcast : ((n + 64 : Nat) : Int) = (n : Int) + 64 := by omega
  rw [hcast] at hmk
  have HR : Hd (Rws (w.alloc (.cells (Array.replicate (n + 64) (vI 0)) 3)) 3 1 w.heap.size (n + 64) (fun i => [vI (if i < 0 then wideI l i else 0)])) := (Rws.made w 3 (n + 64) (vI 0)).congr (fun i _ => by simp)
  have HF : Hd (Fr (fun _ => False) w (w.alloc (.cells (Array.replicate (n + 64) (vI 0)) 3))) := Fr.alloc (Fr.refl _ w) _
  obtain ⟨g, hg⟩ : ∃ g, g = w.heap.size := ⟨_, rfl⟩
  have HG : Hd (g = w.heap.size) := hg
  rw [← hg] at hmk HR
  clear hg
  go_enter Tryd.func98, Tryd.ntmps98
  go_wp2_with fail
  go_loopw [4] (fun v wr => ∃ (k : Nat), v = .int .i64 k ∧ k ≤ n + 64 ∧ Hd (Rws wr 3 1 g (n + 64) (fun i => [vI (if i < k then wideI l i else 0)])) ∧ Hd (Fr (fun _ => False) w wr)) (fun v _ => match v with | .int _ q => n + 64 - q.toNat | _ => 0)
  case atStart => exact ⟨0, rfl, Nat.zero_le _, HR.out, HF.out⟩
  case round =>
    clear HR HF
    obtain ⟨k, rfl, hk, HR, HF⟩ := hrel
    by_cases hlt : k < n + 64
    · have hk0 : (0 : Int) ≤ k := by omega
      have hk1 : (k : Int) < (n : Int) + 64 := by omega
      have p0 := HR.out.cell (i := k) (o := 0) hlt (by omega)
      rw [Nat.mul_one, Nat.add_zero] at p0
      have z0 := HR.out.frozen k
      have HS : Hd (∀ x : Int, Rws (wr.setCell ⟨g, k, none⟩ (vI x)) 3 1 g (n + 64) (at1 (fun i => [vI (if i < k then wideI l i else 0)]) k [vI x])) := fun x => by
        have := HR.out.set1 (i := k) (o := 0) hlt (by omega) rfl (vI x)
        rw [Nat.mul_one, Nat.add_zero] at this
        exact this
      have HFS : Hd (∀ x : Int, Fr (fun _ => False) w (wr.setCell ⟨g, k, none⟩ (vI x))) := fun x => HF.out.setCell _ _ (Or.inr (by rw [HG.out]; exact Nat.le_refl _))
      by_cases hin : k < n
      · have hk2 : (k : Int) < n := by omega
        have d1 : decide ((k : Int) < n) = true := by simpa using hk2
        obtain ⟨ak, ao, rfl, hak, hcells⟩ := H0.out (by intro e; have := HN.out; simp [e] at this; omega)
        have q0 := (HF.out.cell (o := ao + k) hak (fun e => e)).trans (hcells k (by have := HN.out; omega))
        have hne : g ≠ ak := by have := HG.out; omega
        have HX : Hd (wideI l k = l[k]'(by have := HN.out; omega)) := by
          unfold Hd wideI
          rw [if_pos (by have := HN.out; omega)]
          simp [show k < l.length by have := HN.out; omega]
        generalize l[k]'(by have := HN.out; omega) = x at *
        have q1 : (wr.setCell ⟨g, k, none⟩ (vI (-123456))).cell? ⟨ak, ao + k, none⟩ = some (vI x) := by rw [World.cell?_setCell_other _ _ _ _ (by simp <;> omega)]; exact q0
        have q2 : (wr.setCell ⟨g, k, none⟩ (vI (-123456))).cell? ⟨g, k, none⟩ = some (vI (-123456)) := World.cell?_setCell_same' _ _ _ (by rw [p0]; rfl)
        have z1 := (HS.out (-123456)).frozen k
        have HR2 : Hd (Rws ((wr.setCell ⟨g, k, none⟩ (vI (-123456))).setCell ⟨g, k, none⟩ (vI x)) 3 1 g (n + 64) (fun i => [vI (if i < k + 1 then wideI l i else 0)])) := by
          have := (HS.out (-123456)).set1 (i := k) (o := 0) hlt (by omega) (by rw [at1_self]; rfl) (vI x)
          rw [Nat.mul_one, Nat.add_zero, at1_self, at1_at1] at this
          refine this.congr (fun i _ => ?_)
          by_cases e : i = k
          · subst e; rw [at1_self, if_pos (by omega), HX.out]; rfl
          · rw [at1_ne _ _ e]
            by_cases hi : i < k
            · rw [if_pos hi, if_pos (by omega)]
            · rw [if_neg hi, if_neg (by omega)]
        have HF2 : Hd (Fr (fun _ => False) w ((wr.setCell ⟨g, k, none⟩ (vI (-123456))).setCell ⟨g, k, none⟩ (vI x))) := (HFS.out (-123456)).setCell _ _ (Or.inr (by rw [HG.out]; exact Nat.le_refl _))
        clear hcells HS HFS HR HF
        go_wp2_with fail
        exact ⟨⟨k + 1, by simp, by omega, HR2.out, HF2.out⟩, by simp; omega⟩
      · have d1 : decide ((k : Int) < n) = false := by simp; omega
        have HR2 : Hd (Rws (wr.setCell ⟨g, k, none⟩ (vI (-123456))) 3 1 g (n + 64) (fun i => [vI (if i < k + 1 then wideI l i else 0)])) := by
          refine (HS.out (-123456)).congr (fun i _ => ?_)
          by_cases e : i = k
          · subst e; rw [at1_self, if_pos (by omega)]; unfold wideI; rw [if_neg (by have := HN.out; omega)]
          · rw [at1_ne _ _ e]
            by_cases hi : i < k
            · rw [if_pos hi, if_pos (by omega)]
            · rw [if_neg hi, if_neg (by omega)]
        have HF2 := HFS
        clear HS HR HF
        go_wp2_with fail
        exact ⟨⟨k + 1, by simp, by omega, HR2.out, HF2.out _⟩, by simp; omega⟩
    · have hke : k = n + 64 := by omega
      subst hke
      have HE : Hd (WI wr w.heap.size (.slice (some ⟨g, 0, none⟩) n (n + 64)) l) := by
        refine ⟨g, by rw [← HN.out], by rw [HG.out]; exact Nat.le_refl _, ?_⟩
        rw [← HN.out]
        exact HR.out.congr (fun i hi => by rw [if_pos hi])
      have hn0 : (0 : Int) ≤ n := by omega
      have hn1 : (n : Int) ≤ (n : Int) + 64 := by omega
      go_wp2_with fail
      go_ret
      exact ⟨_, rfl, HE.out, HF.out⟩
set_option maxRecDepth 100000
set_option maxHeartbeats 1000000
theorem spareInts_any (v : Value) (l : List Int) (B : Nat) (w : World) (hl : WI w B v l) (hn : l.length ≤ 17592186043904) : Calls Tryd.prog 76 #[v] w fun e w' => e = .returned (.bool true) ∧ w' = w := by
  obtain ⟨g, rfl, -, hR⟩ := hl
  have HR : Hd (Rws w 3 1 g (l.length + 64) (fun i => [vI (wideI l i)])) := hR
  clear hR
  obtain ⟨n, hnl⟩ : ∃ n, n = l.length := ⟨_, rfl⟩
  have HN : Hd (n = l.length) := hnl
  rw [← hnl] at hn HR ⊢
  clear hnl
  have hn0 : (0 : Int) ≤ (n : Int) + 64 := by omega
  have hn1 : (n : Int) + 64 ≤ ((n + 64 : Nat) : Int) := by omega
  have ht : ((n : Int) + 64).toNat = n + 64 := by omega
  go_enter Tryd.func76, Tryd.ntmps76
  go_wp2_with fail
  go_loopw [4] (fun v wr => ∃ (k : Nat), v = .int .i64 k ∧ n ≤ k ∧ k ≤ n + 64 ∧ wr = w) (fun v _ => match v with | .int _ q => n + 64 - q.toNat | _ => 0)
  case atStart => exact ⟨n, rfl, Nat.le_refl _, by omega, rfl⟩
  case round =>
    obtain ⟨k, rfl, hk, hk2, rfl⟩ := hrel
    by_cases hlt : k < n + 64
    · have hk0 : (0 : Int) ≤ k := by omega
      have hk1 : (k : Int) < (n : Int) + 64 := by omega
      have hk3 : (k : Int) < ((n + 64 : Nat) : Int) := by omega
      have p0 := HR.out.cell (i := k) (o := 0) hlt (by omega)
      rw [Nat.mul_one, Nat.add_zero] at p0
      have hx : wideI l k = -123456 := by unfold wideI; rw [if_neg (by have := HN.out; omega)]
      rw [hx] at p0
      have p1 : wr.cell? ⟨g, k, none⟩ = some (vI (-123456)) := p0
      clear p0
      go_wp2_with fail
      exact ⟨⟨k + 1, by simp, by omega, by omega, by trivial⟩, by simp; omega⟩
    · have hke : k = n + 64 := by omega
      subst hke
      go_wp2_with fail
      go_ret
      exact ⟨rfl, rfl⟩
def IOwn (w : World) (B : Nat) (v : Value) (l : List Int) : Prop := w.ownsRow B 3 1 v l.length (l.map vI)
theorem ownsRow_frL {S : Nat → Prop} {w w' : World} {B e size n : Nat} {v : Value} {xs : List Value} (h : w.ownsRow B e size v n xs) (f : Fr S w w') (hS : ∀ g, v.ownBlock = some g → ¬ S g) : w'.ownsRow B e size v n xs := by
  refine ⟨h.1, ?_⟩
  rcases h.2 with h2 | ⟨g, cap, cur, rfl, h3, h4, h5⟩
  · exact Or.inl h2
  · exact Or.inr ⟨g, cap, cur, rfl, h3, by rw [f.block g ((Array.getElem?_eq_some_iff.1 h4).1) (hS g rfl)]; exact h4, h5⟩
theorem IOwn.fr {S : Nat → Prop} {w w' : World} {B : Nat} {v : Value} {l : List Int} (h : IOwn w B v l) (f : Fr S w w') (hS : ∀ k, v.ownBlock = some k → ¬ S k) : IOwn w' B v l := ownsRow_frL h f hS
theorem IOwn.ge {w : World} {B : Nat} {v : Value} {l : List Int} (h : IOwn w B v l) : ∀ k, v.ownBlock = some k → B ≤ k ∧ k < w.heap.size := World.ownsRow.lt h
theorem IOwn.mono {w : World} {B B' : Nat} {v : Value} {l : List Int} (h : IOwn w B v l) (hB : B' ≤ B) : IOwn w B' v l := World.ownsRow.mono h hB
theorem IOwn.ia {w : World} {B : Nat} {v : Value} {l : List Int} (h : IOwn w B v l) : IA w v l := by
  rcases h.2 with ⟨h2, h3⟩ | ⟨g, cap, cur, e, h3, h4, h5, h6, h7, h8⟩
  · exact ⟨none, 0, by rw [h2, h3], fun hne => absurd (List.eq_nil_of_length_eq_zero h3) hne⟩
  · refine ⟨_, cap, e, fun _ => ⟨g, 0, rfl, heap_lt h4, fun i hi => ?_⟩⟩
    rw [Nat.zero_add, cell_of h4]
    have : cur[i]? = (l.map vI)[i]? := by rw [← h8, List.getElem?_take, if_pos (by omega), Array.getElem?_toList]
    rw [this]
    simp [hi]
theorem grown_frL {w w' : World} {row : Option Nat} (h : w.grownBy w' row) : Fr (fun k => row = some k) w w' :=
  ⟨h.os, h.tape, h.output, h.size, fun k hk hS => h.block k hk (fun e => hS e.symm)⟩
theorem grow_fr0 {w wr w6 : World} {v : Value} (h : Fr (fun _ => False) w wr) (hg : wr.grownBy w6 v.ownBlock) (hb : ∀ k, v.ownBlock = some k → w.heap.size ≤ k) : Fr (fun _ => False) w w6 :=
  h.then (grown_frL hg) (fun j hj e => by have := hb j e; omega)
theorem copyInts_any (v : Value) (es : List Int) (w : World) (hE : IA w v es) (hel : es.length ≤ 17592186043904) : Calls Tryd.prog 104 #[v] w fun e w' => ∃ v', e = .returned v' ∧ IOwn w' w.heap.size v' es ∧ Fr (fun _ => False) w w' := by
  obtain ⟨ea, ec, rfl, hein⟩ := hE
  have HE : Hd _ := hein
  clear hein
  obtain ⟨i3, hi3, hz3, hs3, hb3⟩ := info_parts (P := Tryd.prog) (e := 3) (z := .int .i64 0) (size := 1) (bytes := 8) (by kernel_rfl)
  go_enter Tryd.func104, Tryd.ntmps104
  go_wp2_with fail
  go_loopw [3, 4] (fun mv v wr => ∃ (k : Nat), v = .int .i64 k ∧ k ≤ es.length ∧ Hd (IOwn wr w.heap.size mv (es.take k)) ∧ Hd (Fr (fun _ => False) w wr)) (fun _ v _ => match v with | .int _ q => es.length - q.toNat | _ => 0)
  case atStart => exact ⟨0, rfl, Nat.zero_le _, World.ownsRow_nil _ _ _ _, Fr.refl _ _⟩
  case round =>
    obtain ⟨k, rfl, hk, HO, HF⟩ := hrel
    by_cases hlt : k < es.length
    · obtain ⟨pk, po, rfl, hpk, hcs⟩ := HE.out (by intro e; simp [e] at hlt)
      have d0 := hcs k hlt
      have p0 := (HF.out.cell (o := po + k) hpk (fun h => h)).trans d0
      clear hcs d0
      have HT : Hd (es.take (k + 1) = es.take k ++ [es[k]]) := by unfold Hd; rw [List.take_add_one, List.getElem?_eq_getElem hlt]; rfl
      have HTL : Hd ((es.take k).length = k) := by unfold Hd; rw [List.length_take]; omega
      obtain ⟨e, he⟩ : ∃ e, es[k] = e := ⟨_, rfl⟩
      rw [he] at p0 HT
      clear he
      obtain ⟨E, hE⟩ : ∃ E, E = es.take k := ⟨_, rfl⟩
      rw [← hE] at HO HT HTL
      clear hE
      have hk0 : (0 : Int) ≤ k := by omega
      have hk1 : (k : Int) < es.length := by omega
      have hsz := HF.out.size
      have HO1 : Hd ((wr.alloc (.cells #[vI e] 3)).ownsRow w.heap.size 3 1 u3 E.length (E.map vI)) := World.ownsRow.alloc HO.out _
      have hnews : ∀ j u, [vI e][j]? = some u → (wr.alloc (.cells #[vI e] 3)).cell? ((⟨wr.heap.size, 0, none⟩ : Addr).add j) = some u :=
        World.news_of_block (cs := #[vI e]) (heap_new wr (.cells #[vI e] 3))
      have hbase : w.heap.size ≤ (wr.alloc (.cells #[vI e] 3)).heap.size := by simp; omega
      have hEl : E.length + 1 ≤ 17592186043905 := by have := HTL.out; omega
      go_wp2_with ((at_builtin; refine Hd.out ?_))
      unfold Hd
      refine wpList_append_lies _ rfl (.tmp 11) (.tmp 16) 64 rfl w.heap.size 3 i3 (.int .i64 0) 1 8 under64 hi3 hz3 hs3 hb3 rfl (by omega) u3 E.length _ rfl HO1.out ⟨wr.heap.size, 0, none⟩ 1 1 [vI e] rfl rfl hnews (by intro u hu; simp at hu; subst hu; rfl) (by omega) (by unfold maxLen; omega) (by omega) hbase (wr.heap.size + 1) (by simp) ?_
      intro g6 cap6 w6 hown6 hgrow6 hat6 hlt6
      have HO6 : Hd (IOwn w6 w.heap.size (.slice (some ⟨g6, 0, none⟩) (E.length + 1) cap6) (E ++ [e])) := by unfold Hd IOwn; rw [List.map_append, List.length_append]; exact hown6
      have HF6 : Hd (Fr (fun _ => False) w w6) := grow_fr0 (HF.out.alloc _) hgrow6 (fun k hk => (HO.out.ge k hk).1)
      clear hown6 hgrow6 hat6 hlt6 HO HF HO1 hnews hbase p0
      go_wp2_with fail
      refine ⟨⟨k + 1, by simp, by omega, ?_, HF6.out⟩, by simp; omega⟩
      unfold Hd; rw [HT.out]; exact HO6.out
    · have hke : k = es.length := by omega
      subst hke
      have HO2 : Hd (IOwn wr w.heap.size u3 es) := by have := HO.out; rw [List.take_length] at this; exact this
      clear HO
      go_wp2_with fail
      go_ret
      exact ⟨u3, rfl, HO2.out, HF.out⟩
theorem eqInts_same (v1 v2 : Value) (zs : List Int) (w : World) (h1 : IA w v1 zs) (h2 : IA w v2 zs) (hz : zs.length ≤ 17592186043904) :
    Calls Tryd.prog 105 #[v1, v2] w fun e w' => e = .returned (.bool true) ∧ Fr (fun _ => False) w w' := by
  obtain ⟨a1, c1, rfl, hc1⟩ := h1
  obtain ⟨a2, c2, rfl, hc2⟩ := h2
  have H1 : Hd _ := hc1
  have H2 : Hd _ := hc2
  clear hc1 hc2
  go_enter Tryd.func105, Tryd.ntmps105
  go_wp2_with fail
  go_loopw [5] (fun v wr => ∃ (k : Nat), v = .int .i64 k ∧ k ≤ zs.length ∧ Hd (Fr (fun _ => False) w wr)) (fun v _ => match v with | .int _ q => zs.length - q.toNat | _ => 0)
  case atStart => exact ⟨0, rfl, Nat.zero_le _, Fr.refl _ _⟩
  case round =>
    obtain ⟨k, rfl, hk, HF⟩ := hrel
    by_cases hlt : k < zs.length
    · have hne : zs ≠ [] := by intro e; simp [e] at hlt
      obtain ⟨k1, o1, rfl, hk1, g1⟩ := H1.out hne
      obtain ⟨k2, o2, rfl, hk2, g2⟩ := H2.out hne
      have q1 := (HF.out.cell (o := o1 + k) hk1 (fun h => h)).trans (g1 k hlt)
      have q2 := (HF.out.cell (o := o2 + k) hk2 (fun h => h)).trans (g2 k hlt)
      generalize zs[k] = z at *
      have hk0 : (0 : Int) ≤ k := by omega
      have hk3 : (k : Int) < zs.length := by omega
      clear g1 g2
      go_wp2_with fail
      refine wp_region_still_tail 8 mixed (by kernel_rfl) ?_
      simp only [List.take_succ_cons, List.take_zero, List.drop_succ_cons, List.drop_zero]
      repeat still_step
      refine wpStill_nil ?_
      go_wp2_with fail
      exact ⟨⟨k + 1, by simp, by omega, HF.out.drew⟩, by simp; omega⟩
    · have hke : k = zs.length := by omega
      subst hke
      go_wp2_with fail
      go_ret
      exact ⟨rfl, HF.out⟩
end Go.Proofs.YtingenonbkencaaDoor
