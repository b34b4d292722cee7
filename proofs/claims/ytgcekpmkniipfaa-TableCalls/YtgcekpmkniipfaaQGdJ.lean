import Derived.Test.YtgcekpmkniipfaaQGaJ
namespace Go.Proofs.Ytgcekpmkniipfaa
open Go.RowKit (wrap32 wrap64)
set_option linter.unusedVariables false
set_option linter.unusedSimpArgs false

abbrev pA (a b t : Nat) : Obj := .cells #[.pointer (some ⟨a, 0, none⟩), .pointer (some ⟨b, 0, none⟩)] t
abbrev nil54 : Obj := .cells #[.slice none 0 0, .slice none 0 0] 54
abbrev nil59 : Obj := .cells #[.slice none 0 0, .slice none 0 0, vI 0] 59
def begun (w3 : World) (b1 b2 : Nat) : World := ((((w3.alloc (pA b1 b2 51)).alloc nil54).alloc nil54).alloc (pA (w3.heap.size + 1) (w3.heap.size + 2) 55)).alloc nil59

theorem begun_fr (w3 : World) (b1 b2 : Nat) : Fr (fun _ => False) w3 (begun w3 b1 b2) := (((((Fr.refl _ w3).alloc _).alloc _).alloc _).alloc _).alloc _
theorem begun_size (w3 : World) (b1 b2 : Nat) : (begun w3 b1 b2).heap.size = w3.heap.size + 5 := by simp [begun]
theorem begun_at (w3 : World) (b1 b2 : Nat) : (begun w3 b1 b2).heap[w3.heap.size]? = some (pA b1 b2 51) ∧ (begun w3 b1 b2).heap[w3.heap.size + 1]? = some nil54 ∧ (begun w3 b1 b2).heap[w3.heap.size + 2]? = some nil54 ∧ (begun w3 b1 b2).heap[w3.heap.size + 3]? = some (pA (w3.heap.size + 1) (w3.heap.size + 2) 55) ∧ (begun w3 b1 b2).heap[w3.heap.size + 4]? = some nil59 := by
  unfold begun
  have k : ∀ (W : World) (o : Obj) (j : Nat), j < W.heap.size → (W.alloc o).heap[j]? = W.heap[j]? := fun W o j h => Go.RowKit.Below.heap_alloc W o j h
  have l : ∀ (W : World) (o : Obj) (j : Nat), j = W.heap.size → (W.alloc o).heap[j]? = some o := fun W o j h => by subst h; exact heap_alloc_last W o
  refine ⟨?_, ?_, ?_, ?_, ?_⟩
  · rw [k _ _ _ (by simp <;> omega), k _ _ _ (by simp <;> omega), k _ _ _ (by simp <;> omega), k _ _ _ (by simp)]; exact l _ _ _ rfl
  · rw [k _ _ _ (by simp <;> omega), k _ _ _ (by simp <;> omega), k _ _ _ (by simp)]; exact l _ _ _ (by simp)
  · rw [k _ _ _ (by simp <;> omega), k _ _ _ (by simp)]; exact l _ _ _ (by simp)
  · rw [k _ _ _ (by simp)]; exact l _ _ _ (by simp)
  · exact l _ _ _ (by simp)

theorem Ms.start {w w1 w2 w3 : World} (hF1 : Fr (fun _ => False) w w1) (hT2 : Tb w2 w1.heap.size (gh0 w1.heap.size) 0 (fun _ => none)) (hF2 : Fr (fun _ => False) w1 w2) (hT3 : Tb w3 w2.heap.size (gh0 w2.heap.size) 0 (fun _ => none)) (hF3 : Fr (fun _ => False) w2 w3) :
    ∃ own, Ms w (begun w3 w1.heap.size w2.heap.size) own ⟨w1.heap.size, gh0 w1.heap.size, 0, []⟩ ⟨w2.heap.size, gh0 w2.heap.size, 0, []⟩ ⟨w3.heap.size + 1, .slice none 0 0, .slice none 0 0, []⟩ ⟨w3.heap.size + 2, .slice none 0 0, .slice none 0 0, []⟩ (w3.heap.size + 4) (.slice none 0 0) (.slice none 0 0) 0 [] [] [(w3.heap.size, pA w1.heap.size w2.heap.size 51), (w3.heap.size + 3, pA (w3.heap.size + 1) (w3.heap.size + 2) 55)] 0 := by
  obtain ⟨V, eV⟩ : ∃ V, V = begun w3 w1.heap.size w2.heap.size := ⟨_, rfl⟩
  obtain ⟨m0, m1, m2, m3, m4⟩ := begun_at w3 w1.heap.size w2.heap.size
  have hF4 := begun_fr w3 w1.heap.size w2.heap.size
  have hsz := begun_size w3 w1.heap.size w2.heap.size
  rw [← eV] at m0 m1 m2 m3 m4 hF4 hsz ⊢
  have s1 := hF1.size
  have s2 := hF2.size
  have s3 := hF3.size
  have g1 : ∀ j, (gh0 w1.heap.size).own j ≠ 0 → w1.heap.size ≤ j ∧ j < w2.heap.size := fun j hj => ⟨gh0_from _ _ hj, hT2.lt j hj⟩
  have g2 : ∀ j, (gh0 w2.heap.size).own j ≠ 0 → w2.heap.size ≤ j ∧ j < w3.heap.size := fun j hj => ⟨gh0_from _ _ hj, hT3.lt j hj⟩
  let own : Nat → Nat := fun j => if (gh0 w1.heap.size).own j ≠ 0 then 1 else if (gh0 w2.heap.size).own j ≠ 0 then 2 else if j = w3.heap.size + 1 then 3 else if j = w3.heap.size + 2 then 4 else if j = w3.heap.size + 4 then 5 else 0
  have o1 : ∀ j, (gh0 w1.heap.size).own j ≠ 0 → own j = 1 := fun j hj => by show (if _ then _ else _) = _; rw [if_pos hj]
  have o2 : ∀ j, (gh0 w2.heap.size).own j ≠ 0 → own j = 2 := fun j hj => by
    have h1 : ¬ (gh0 w1.heap.size).own j ≠ 0 := fun h => by have := g1 j h; have := g2 j hj; omega
    show (if _ then _ else _) = _; rw [if_neg h1, if_pos hj]
  have big : ∀ j, w3.heap.size ≤ j → own j = if j = w3.heap.size + 1 then 3 else if j = w3.heap.size + 2 then 4 else if j = w3.heap.size + 4 then 5 else 0 := fun j hj => by
    have h1 : ¬ (gh0 w1.heap.size).own j ≠ 0 := fun h => by have := g1 j h; omega
    have h2 : ¬ (gh0 w2.heap.size).own j ≠ 0 := fun h => by have := g2 j h; omega
    show (if _ then _ else _) = _; rw [if_neg h1, if_neg h2]
  have low : ∀ j, own j ≠ 0 → w1.heap.size ≤ j ∧ j < w3.heap.size + 5 := fun j hj => by
    by_cases h1 : (gh0 w1.heap.size).own j ≠ 0
    · have := g1 j h1; omega
    · by_cases h2 : (gh0 w2.heap.size).own j ≠ 0
      · have := g2 j h2; omega
      · have : own j = if j = w3.heap.size + 1 then 3 else if j = w3.heap.size + 2 then 4 else if j = w3.heap.size + 4 then 5 else 0 := by
          show (if _ then _ else _) = _; rw [if_neg h1, if_neg h2]
        rw [this] at hj
        split at hj
        · omega
        · split at hj
          · omega
          · split at hj
            · omega
            · exact absurd rfl hj
  have f2V : Fr (fun _ => False) w2 V := hF3.trans hF4
  have sn : Snap (fun _ => none) [] := ⟨by simp, fun k v => by simp⟩
  refine ⟨own, ⟨⟨⟨fun j hj => by have := low j hj; omega, ⟨_, hT2.fr f2V (fun _ _ h => h), sn⟩, o1, ⟨_, hT3.fr hF4 (fun _ _ h => h), sn⟩, o2, ⟨m1, World.ownsRow_nil _ _ _ _, World.ownsRow_nil _ _ _ _, by simp [Value.ownBlock], by simp [Value.ownBlock], by simp [Value.ownBlock], List.Pairwise.nil⟩, ⟨?_, by simp [Value.ownBlock], by simp [Value.ownBlock]⟩, ⟨m2, World.ownsRow_nil _ _ _ _, World.ownsRow_nil _ _ _ _, by simp [Value.ownBlock], by simp [Value.ownBlock], by simp [Value.ownBlock], List.Pairwise.nil⟩, ⟨?_, by simp [Value.ownBlock], by simp [Value.ownBlock]⟩, fun i hi => by simp at hi⟩, ⟨m4, ?_, World.ownsRow_nil _ _ _ _, by simp [Value.ownBlock], World.ownsRow_nil _ _ _ _, by simp [Value.ownBlock], fun i hi => by simp at hi⟩, fun x hx => ?_, (hF1.trans (hF2.trans f2V)).mono (fun _ _ h => h.elim), fun j hj => ?_, by omega⟩, rfl, fun x hx => by simp at hx, rfl, rfl, by simp⟩⟩
  · rw [big _ (by simp)]; simp
  · rw [big _ (by simp)]; simp
  · rw [big _ (by simp)]; simp
  · simp only [List.mem_cons, List.not_mem_nil, or_false] at hx
    rcases hx with rfl | rfl
    · exact ⟨m0, by rw [big _ (by simp)]; simp⟩
    · exact ⟨m3, by rw [big _ (by simp)]; simp⟩
  · rcases Nat.eq_zero_or_pos (own j) with e | e
    · exact e
    · have := low j (by omega); omega
end Go.Proofs.Ytgcekpmkniipfaa

namespace Go.Proofs.Ytgcekpmkniipfaa
open Go.RowKit (wrap32 wrap64)
set_option linter.unusedVariables false
set_option linter.unusedSimpArgs false

def Rs (w wr : World) (b1 b2 c1 c2 kb : Nat) (bs : List (Nat × Obj)) (i sum : Nat) : Prop := ∃ own p q r s lv wv ls ws, Ms w wr own p q r s kb lv wv sum ls ws bs i ∧ p.b = b1 ∧ q.b = b2 ∧ r.c = c1 ∧ s.c = c2
section
variable {w wr w' : World} {b1 b2 c1 c2 kb : Nat} {bs : List (Nat × Obj)} {i sum : Nat}
theorem Rs.swap (h : Rs w wr b1 b2 c1 c2 kb bs i sum) : Rs w wr b2 b1 c2 c1 kb bs i sum := by
  obtain ⟨own, p, q, r, s, lv, wv, ls, ws, h, e1, e2, e3, e4⟩ := h
  exact ⟨_, _, _, _, _, _, _, _, _, h.swap, e2, e1, e4, e3⟩
theorem Rs.box (h : Rs w wr b1 b2 c1 c2 kb bs i sum) (o : Obj) : Rs w (wr.alloc o) b1 b2 c1 c2 kb ((wr.heap.size, o) :: bs) i sum := by
  obtain ⟨own, p, q, r, s, lv, wv, ls, ws, h, e⟩ := h
  exact ⟨_, _, _, _, _, _, _, _, _, h.box o, e⟩
theorem Rs.quiet (h : Rs w wr b1 b2 c1 c2 kb bs i sum) (f : Fr (fun _ => False) wr w') : Rs w w' b1 b2 c1 c2 kb bs i sum := by
  obtain ⟨own, p, q, r, s, lv, wv, ls, ws, h, e⟩ := h
  exact ⟨_, _, _, _, _, _, _, _, _, h.quiet f, e⟩
theorem Rs.drop {b2' : List (Nat × Obj)} (h : Rs w wr b1 b2 c1 c2 kb bs i sum) (hb : ∀ x ∈ b2', x ∈ bs) : Rs w wr b1 b2 c1 c2 kb b2' i sum := by
  obtain ⟨own, p, q, r, s, lv, wv, ls, ws, h, e⟩ := h
  exact ⟨_, _, _, _, _, _, _, _, _, h.drop hb, e⟩
theorem Rs.next (h : Rs w wr b1 b2 c1 c2 kb bs i sum) : Rs w wr b1 b2 c1 c2 kb bs (i + 1) sum := by
  obtain ⟨own, p, q, r, s, lv, wv, ls, ws, h, e⟩ := h
  exact ⟨_, _, _, _, _, _, _, _, _, h.next, e⟩
theorem Rs.get (h : Rs w wr b1 b2 c1 c2 kb bs i sum) {b : Nat} {o : Obj} (hx : (b, o) ∈ bs) : wr.heap[b]? = some o := by
  obtain ⟨own, p, q, r, s, lv, wv, ls, ws, h, e⟩ := h
  exact h.ak.loc.get hx
theorem Rs.fr (h : Rs w wr b1 b2 c1 c2 kb bs i sum) : Fr (fun _ => False) w wr := by
  obtain ⟨own, p, q, r, s, lv, wv, ls, ws, h, e⟩ := h
  exact h.ak.fr.mono (fun j _ e => e rfl)
theorem Rs.kept (h : Rs w wr b1 b2 c1 c2 kb bs i sum) : wr.cell? ⟨kb, 2, none⟩ = some (vI sum) := by
  obtain ⟨own, p, q, r, s, lv, wv, ls, ws, h, e⟩ := h
  exact cell_of h.ak.kp.obj 2
theorem Rs.asks (h : Rs w wr b1 b2 c1 c2 kb bs i sum) (hi : i ≤ 2200000000) (hs : sum ≤ 20000000000) :
    Calls Try.prog 16 #[.pointer (some ⟨kb, 0, none⟩), .pointer (some ⟨b1, 0, none⟩), .pointer (some ⟨b2, 0, none⟩), .pointer (some ⟨c1, 0, none⟩), .pointer (some ⟨c2, 0, none⟩)] wr fun e w' => e = .returned (.bool true) ∧ ∃ sum', Rs w w' b1 b2 c1 c2 kb bs (i + 1) sum' ∧ sum' ≤ sum + 4 * i := by
  obtain ⟨own, p, q, r, s, lv, wv, ls, ws, h, rfl, rfl, rfl, rfl⟩ := h
  refine (h.asks hi hs).mono ?_
  rintro _ w' ⟨rfl, own', p', q', lv', wv', sum', ls', ws', h', e1, e2, e3⟩
  exact ⟨rfl, sum', ⟨_, _, _, _, _, _, _, _, _, h', e1, e2, rfl, rfl⟩, e3⟩
/-- Behind the program's call, before the document's. -/
def Rh (w wr : World) (b1 b2 c1 c2 kb : Nat) (bs : List (Nat × Obj)) (i sum : Nat) (o : OpT) (ok : Bool) (val : ByteArray) (rk ru : Value) : Prop :=
  ∃ own p q r s lv wv ls ws, Ak w wr w.heap.size (fun _ => 0) own p q r s (ls ++ [⟨rk, ru, doR r.L o⟩]) kb lv wv sum ls ws bs ∧ ok = (doR r.L o).ok ∧ val = (doR r.L o).val ∧ p.L = doT r.L o ∧ q.L = s.L ∧ ws.map KR.R = ls.map KR.R ∧ (∀ x ∈ ls, x.R.L.length ≤ 3000000000) ∧
    (r.L.length ≤ i ∧ s.L.length ≤ i ∧ p.N ≤ 4 * i + 1 ∧ q.N ≤ 4 * i ∧ ls.length ≤ 4 * i ∧ sum ≤ 100000000000) ∧ p.b = b1 ∧ q.b = b2 ∧ r.c = c1 ∧ s.c = c2
theorem Rs.does (h : Rs w wr b1 b2 c1 c2 kb bs i sum) (hi : i ≤ 2200000000) (kd ky : Int) (x : ByteArray) (hkd : kd = 1 ∨ kd = 2 ∨ kd = 3) (hk : In64 ky) :
    Calls Try.prog 17 #[.pointer (some ⟨b1, 0, none⟩), opV kd ky x] wr fun e w' => ∃ ok val ka kn kc va vn vc, e = .returned (.agg #[.bool ok, .string val, .slice ka kn kc, .slice va vn vc]) ∧ Rh w w' b1 b2 c1 c2 kb bs i sum (kd, ky, x) ok val (.slice ka kn kc) (.slice va vn vc) := by
  obtain ⟨own, p, q, r, s, lv, wv, ls, ws, h, rfl, rfl, rfl, rfl⟩ := h
  obtain ⟨n1, n2, n3, n4, n5, n6⟩ := h.nb
  refine (h.ak.does (by omega) kd ky x hkd hk).mono ?_
  rintro _ w' ⟨ka, kn, kc, va, vn, vc, p', own', rfl, hA, e1, e2, e3⟩
  rw [h.pr] at hA e2
  exact ⟨_, _, ka, kn, kc, va, vn, vc, by rw [h.pr], own', p', q, r, s, lv, wv, ls, ws, hA, rfl, rfl, e2, h.qs, h.eq, h.le, ⟨n1, n2, by omega, n4, n5, n6⟩, e1, rfl, rfl, rfl⟩
theorem Rh.box {o : OpT} {ok : Bool} {val : ByteArray} {rk ru : Value} (h : Rh w wr b1 b2 c1 c2 kb bs i sum o ok val rk ru) (ob : Obj) : Rh w (wr.alloc ob) b1 b2 c1 c2 kb ((wr.heap.size, ob) :: bs) i sum o ok val rk ru := by
  obtain ⟨own, p, q, r, s, lv, wv, ls, ws, h, e⟩ := h
  exact ⟨own, p, q, r, s, lv, wv, ls, ws, h.box ob, e⟩
theorem Rh.quiet {o : OpT} {ok : Bool} {val : ByteArray} {rk ru : Value} (h : Rh w wr b1 b2 c1 c2 kb bs i sum o ok val rk ru) (f : Fr (fun _ => False) wr w') : Rh w w' b1 b2 c1 c2 kb bs i sum o ok val rk ru := by
  obtain ⟨own, p, q, r, s, lv, wv, ls, ws, h, e⟩ := h
  exact ⟨own, p, q, r, s, lv, wv, ls, ws, h.quiet f, e⟩
theorem Rh.get {o : OpT} {ok : Bool} {val : ByteArray} {rk ru : Value} (h : Rh w wr b1 b2 c1 c2 kb bs i sum o ok val rk ru) {b : Nat} {ob : Obj} (hx : (b, ob) ∈ bs) : wr.heap[b]? = some ob := by
  obtain ⟨own, p, q, r, s, lv, wv, ls, ws, h, e⟩ := h
  exact h.loc.get hx
theorem Rh.done {kd ky : Int} {x : ByteArray} {ok : Bool} {val : ByteArray} {rk ru : Value} (h : Rh w wr b1 b2 c1 c2 kb bs i sum (kd, ky, x) ok val rk ru) (hi : i ≤ 2200000000) (hkd : kd = 1 ∨ kd = 2 ∨ kd = 3) :
    Calls Try.prog 18 #[.pointer (some ⟨c1, 0, none⟩), opV kd ky x] wr fun e w' => ∃ ka kn kc va vn vc, e = .returned (.agg #[.bool ok, .string val, .slice ka kn kc, .slice va vn vc]) ∧ Rs w w' b1 b2 c1 c2 kb bs (i + 1) sum ∧
      ∀ W, Fr (fun _ => False) w' W → Calls Try.prog 19 #[.agg #[.bool ok, .string val, rk, ru], .agg #[.bool ok, .string val, .slice ka kn kc, .slice va vn vc]] W fun e w'' => e = .returned (.bool true) ∧ Fr (fun _ => False) W w'' := by
  obtain ⟨own, p, q, r, s, lv, wv, ls, ws, h, e1, e2, e3, e4, e5, e6, ⟨n1, n2, n3, n4, n5, n6⟩, rfl, rfl, rfl, rfl⟩ := h
  refine (h.done (by omega) kd ky x hkd).mono ?_
  rintro _ w' ⟨ka, kn, kc, va, vn, vc, r', own', rfl, hA, f1, f2, hR⟩
  have hl := doT_len r.L (kd, ky, x)
  have hm := hA.sy.mem (x := ⟨rk, ru, doR r.L (kd, ky, x)⟩) (by simp)
  simp only at hm
  have hlr : (doR r.L (kd, ky, x)).L.length ≤ 4000000000 := by
    unfold doR
    split
    · simp
    · split
      · simp
      · simp; omega
  refine ⟨ka, kn, kc, va, vn, vc, by rw [e1, e2], ⟨own', p, q, r', s, lv, wv, ls, ws, ⟨hA.unkeep, e5, e6, by rw [e3, f2], e4, ⟨by rw [f2]; omega, by omega, by omega, by omega, by omega, n6⟩⟩, rfl, rfl, f1, rfl⟩, fun W hW => ?_⟩
  rw [e1, e2]
  exact eqReply_same W w'.heap.size w'.heap.size (doR r.L (kd, ky, x)) _ _ (hm.fr hW (Nat.le_refl _) (fun _ _ h => h)) (hR.fr hW (Nat.le_refl _) (fun _ _ h => h)) hW.size hW.size hlr
/-- The end. -/
theorem Rs.ends (h : Rs w wr b1 b2 c1 c2 kb bs i sum) (hi : i ≤ 2200000000) (hs : sum ≤ 20000000000) :
    Calls Try.prog 20 #[.pointer (some ⟨kb, 0, none⟩)] wr fun e w' => e = .returned (.bool true) ∧ (∀ b o, (b, o) ∈ bs → w'.heap[b]? = some o) ∧
      Calls Try.prog 16 #[.pointer (some ⟨kb, 0, none⟩), .pointer (some ⟨b1, 0, none⟩), .pointer (some ⟨b2, 0, none⟩), .pointer (some ⟨c1, 0, none⟩), .pointer (some ⟨c2, 0, none⟩)] w' fun e w' => e = .returned (.bool true) ∧ Fr (fun _ => False) w w' := by
  obtain ⟨own, p, q, r, s, lv, wv, ls, ws, h, rfl, rfl, rfl, rfl⟩ := h
  obtain ⟨n1, n2, n3, n4, n5, n6⟩ := h.nb
  refine (h.alone hi).mono ?_
  rintro _ w' ⟨rfl, hA⟩
  exact ⟨rfl, fun b o hx => hA.loc.get hx, hA.last (by omega) (by omega) (by omega) (by omega) (by omega) (by have := h.wlen; omega) (by omega) h.pr h.qs⟩
end
end Go.Proofs.Ytgcekpmkniipfaa
