import Derived.Test.YtkkfiipnpdlkeaaQE1
namespace Go.Proofs.Ytkkfiipnpdlkeaa
open Go.RowKit (wrap32 wrap64)
open Go.MuLone
set_option linter.unusedVariables false
set_option linter.unusedSimpArgs false

set_option maxRecDepth 100000 in
set_option maxHeartbeats 1000000 in
theorem nothing_any (x : Int) (w : World) : Calls Try.prog 27 #[vI x] w fun e w' => e = .returned (.bool true) ∧ w' = w := by
  go_enter Try.func27, Try.ntmps27
  go_wp2_with (first
    | (go_at_call 9; refine (push_nil x _).mono ?_; rintro _ _ ⟨rfl, rfl⟩)
    | (go_at_call 12; refine (pop_nil _).mono ?_; rintro _ _ ⟨rfl, rfl⟩)
    | (go_at_call 10; refine (steal_nil _).mono ?_; rintro _ _ ⟨rfl, rfl⟩)
    | (go_at_call 11; refine (len_nil _).mono ?_; rintro _ _ ⟨rfl, rfl⟩))
  go_ret
  exact ⟨rfl, rfl⟩

theorem fpop_any (w : World) (B c : Nat) (tv : Value) (ts : List Int) (hl : ts.length ≤ 17592186044416) (h : Rf w B c tv ts) :
    Calls Try.prog 25 #[.pointer (some ⟨c, 0, none⟩)] w fun e w' => e = .returned (.tuple #[vI (popX ts).1, .bool (popX ts).2]) ∧ ∃ tv', Rf w' B c tv' ts.dropLast ∧ Fr (fun j => j = c) w w' ∧ tv'.ownBlock = tv.ownBlock := by
  rcases List.eq_nil_or_concat ts with rfl | ⟨ys, x, rfl⟩
  · refine (fpop_none w B c tv h).mono ?_
    rintro _ _ ⟨rfl, rfl⟩
    exact ⟨rfl, tv, h, Fr.refl _ _, rfl⟩
  · rw [List.concat_eq_append] at *
    refine (fpop_some w B c tv ys x (by simp at hl; omega) h).mono ?_
    rintro _ w' ⟨rfl, tv', h1, h2, h3⟩
    exact ⟨by simp [popX], tv', by rw [List.dropLast_concat]; exact h1, h2, h3⟩
theorem fsteal_any (w : World) (B c : Nat) (tv : Value) (ts : List Int) (hl : ts.length ≤ 17592186044416) (h : Rf w B c tv ts) :
    Calls Try.prog 26 #[.pointer (some ⟨c, 0, none⟩)] w fun e w' => e = .returned (.tuple #[vI (stealX ts).1, .bool (stealX ts).2]) ∧ ∃ tv', Rf w' B c tv' ts.tail ∧ Fr (fun j => j = c) w w' ∧ tv'.ownBlock = tv.ownBlock := by
  cases ts with
  | nil =>
    refine (fsteal_none w B c tv h).mono ?_
    rintro _ _ ⟨rfl, rfl⟩
    exact ⟨rfl, tv, h, Fr.refl _ _, rfl⟩
  | cons x ys =>
    refine (fsteal_some w B c tv ys x (by simp at hl; omega) h).mono ?_
    rintro _ w' ⟨rfl, tv', h1, h2, h3⟩
    exact ⟨rfl, tv', h1, h2, h3⟩

/-- A deque and the document's. -/
structure Pr (w0 w : World) (N b g c : Nat) (tv : Value) (ds ts : List Int) : Prop where
  d : DN w0 w b ds N g
  r : Rf w w0.heap.size c tv ts
  nc : w0.heap.size ≤ c
  ap : (c ≠ b ∧ c ≠ g) ∧ ∀ k, tv.ownBlock = some k → k ≠ b ∧ k ≠ g
  fr : Fr (fun _ => False) w0 w
/-- Its blocks. -/
def Ow (b g c : Nat) (tv : Value) (j : Nat) : Prop := j = b ∨ j = g ∨ j = c ∨ tv.ownBlock = some j
theorem Pr.lt {w0 w : World} {N b g c : Nat} {tv : Value} {ds ts : List Int} (h : Pr w0 w N b g c tv ds ts) (j : Nat) (hj : Ow b g c tv j) : w0.heap.size ≤ j ∧ j < w.heap.size := by
  rcases hj with rfl | rfl | rfl | e
  · exact ⟨h.d.nb, h.d.dq.blt⟩
  · exact ⟨h.d.ng, h.d.dq.glt⟩
  · exact ⟨h.nc, heap_lt h.r.obj⟩
  · exact h.r.s.lt j e
theorem Pr.frame {S : Nat → Prop} {w0 w w' : World} {N b g c : Nat} {tv : Value} {ds ts : List Int} (h : Pr w0 w N b g c tv ds ts) (f : Fr S w w') (hS : ∀ j, Ow b g c tv j → ¬ S j) (hF : Fr (fun _ => False) w0 w') : Pr w0 w' N b g c tv ds ts :=
  ⟨h.d.fr f (hS b (Or.inl rfl)) (hS g (Or.inr (Or.inl rfl))), h.r.fr f (hS c (Or.inr (Or.inr (Or.inl rfl)))) (fun k e => hS k (Or.inr (Or.inr (Or.inr e)))), h.nc, h.ap, hF⟩
/-- What a call does to the blocks. -/
structure Stp (w : World) (O : Nat → Prop) (w' : World) (O' : Nat → Prop) : Prop where
  fr : Fr O w w'
  own : ∀ j, O' j → O j ∨ w.heap.size ≤ j
theorem Stp.refl (w : World) (O : Nat → Prop) : Stp w O w O := ⟨Fr.refl _ _, fun _ h => Or.inl h⟩
theorem Stp.trans {w w1 w2 : World} {O O1 O2 : Nat → Prop} (h : Stp w O w1 O1) (k : Stp w1 O1 w2 O2) : Stp w O w2 O2 := by
  refine ⟨⟨k.fr.os.trans h.fr.os, k.fr.tape.trans h.fr.tape, k.fr.output.trans h.fr.output, Nat.le_trans h.fr.size k.fr.size, fun j hj hO => ?_⟩, fun j hj => ?_⟩
  · rw [k.fr.block j (Nat.lt_of_lt_of_le hj h.fr.size) (fun h1 => by rcases h.own j h1 with h2 | h2; exact hO h2; omega)]
    exact h.fr.block j hj hO
  · rcases k.own j hj with h1 | h1
    · exact h.own j h1
    · exact Or.inr (Nat.le_trans h.fr.size h1)
theorem stp_new {w0 w w' : World} {O O' : Nat → Prop} (f : Fr (fun _ => False) w0 w) (h : Stp w O w' O') (hO : ∀ j, O j → w0.heap.size ≤ j) : Fr (fun _ => False) w0 w' := fr_new f h.fr hO

theorem Pr.push {w0 w : World} {N b g c : Nat} {tv : Value} {ds ts : List Int} (h : Pr w0 w N b g c tv ds ts) (x : Int) (hx : 2 * ds.length ≤ N) (hN0 : 1 ≤ N) (hN : N ≤ 35184372088832) :
    Calls Try.prog 9 #[.pointer (some ⟨b, 0, none⟩), vI x] w fun e w' => e = .returned (.tuple #[]) ∧ ∃ g', Pr w0 w' N b g' c tv (ds ++ [x]) ts ∧ Stp w (Ow b g c tv) w' (Ow b g' c tv) := by
  refine (push_dn w0 w b g ds x N hx hN0 hN h.d h.fr).mono ?_
  rintro _ w' ⟨rfl, ⟨g', hd, hg⟩, hf, hF⟩
  have ha := h.ap
  have hcl := (h.lt c (Or.inr (Or.inr (Or.inl rfl)))).2
  refine ⟨rfl, g', ⟨hd, h.r.fr hf (by omega) (fun k e => by have := ha.2 k e; omega), h.nc, ⟨⟨ha.1.1, by rcases hg with rfl | hg; exact ha.1.2; omega⟩, fun k e => ?_⟩, hF⟩, hf.mono (fun j _ e => by rcases e with e | e; exact Or.inl e; exact Or.inr (Or.inl e)), fun j hj => ?_⟩
  · have h1 := ha.2 k e
    have h2 := (h.lt k (Or.inr (Or.inr (Or.inr e)))).2
    exact ⟨h1.1, by rcases hg with rfl | hg; exact h1.2; omega⟩
  · rcases hj with rfl | rfl | rfl | e
    · exact Or.inl (Or.inl rfl)
    · rcases hg with rfl | hg
      · exact Or.inl (Or.inr (Or.inl rfl))
      · exact Or.inr hg
    · exact Or.inl (Or.inr (Or.inr (Or.inl rfl)))
    · exact Or.inl (Or.inr (Or.inr (Or.inr e)))
theorem Pr.keepD {w0 w w' : World} {N b g c : Nat} {tv : Value} {ds ds' ts : List Int} (h : Pr w0 w N b g c tv ds ts) (hd : DN w0 w' b ds' N g) (hf : Fr (fun j => j = b ∨ j = g) w w') (hF : Fr (fun _ => False) w0 w') : Pr w0 w' N b g c tv ds' ts ∧ Stp w (Ow b g c tv) w' (Ow b g c tv) := by
  have ha := h.ap
  exact ⟨⟨hd, h.r.fr hf (by omega) (fun k e => by have := ha.2 k e; omega), h.nc, h.ap, hF⟩, hf.mono (fun j _ e => by rcases e with e | e; exact Or.inl e; exact Or.inr (Or.inl e)), fun j hj => Or.inl hj⟩
theorem Pr.pop {w0 w : World} {N b g c : Nat} {tv : Value} {ds ts : List Int} (h : Pr w0 w N b g c tv ds ts) (hN : N ≤ 35184372088832) :
    Calls Try.prog 12 #[.pointer (some ⟨b, 0, none⟩)] w fun e w' => e = .returned (.tuple #[vI (popX ds).1, .bool (popX ds).2]) ∧ Pr w0 w' N b g c tv ds.dropLast ts ∧ Stp w (Ow b g c tv) w' (Ow b g c tv) := by
  refine (pop_dn w0 w b g ds N (by omega) h.d h.fr).mono ?_
  rintro _ w' ⟨rfl, hd, hf, hF⟩
  exact ⟨rfl, h.keepD hd hf hF⟩
theorem Pr.steal {w0 w : World} {N b g c : Nat} {tv : Value} {ds ts : List Int} (h : Pr w0 w N b g c tv ds ts) (hN : N ≤ 35184372088832) :
    Calls Try.prog 10 #[.pointer (some ⟨b, 0, none⟩)] w fun e w' => e = .returned (.tuple #[vI (stealX ds).1, .bool (stealX ds).2]) ∧ Pr w0 w' N b g c tv ds.tail ts ∧ Stp w (Ow b g c tv) w' (Ow b g c tv) := by
  refine (steal_dn w0 w b g ds N (by omega) h.d h.fr).mono ?_
  rintro _ w' ⟨rfl, hd, hf, hF⟩
  exact ⟨rfl, h.keepD hd hf hF⟩
theorem Pr.len {w0 w : World} {N b g c : Nat} {tv : Value} {ds ts : List Int} (h : Pr w0 w N b g c tv ds ts) :
    Calls Try.prog 11 #[.pointer (some ⟨b, 0, none⟩)] w fun e w' => e = .returned (vI ds.length) ∧ Pr w0 w' N b g c tv ds ts ∧ Stp w (Ow b g c tv) w' (Ow b g c tv) := by
  refine (len_dn w0 w b g ds N h.d h.fr).mono ?_
  rintro _ w' ⟨rfl, hd, hf, hF⟩
  exact ⟨rfl, h.keepD hd (hf.mono (fun _ _ h => Or.inl h)) hF⟩
theorem Pr.flen {w0 w : World} {N b g c : Nat} {tv : Value} {ds ts : List Int} (h : Pr w0 w N b g c tv ds ts) :
    Calls Try.prog 17 #[.pointer (some ⟨c, 0, none⟩)] w fun e w' => e = .returned (vI ts.length) ∧ w' = w := flen_any w _ c tv ts h.r
theorem Pr.keepR {w0 w w' : World} {N b g c : Nat} {tv tv' : Value} {ds ts ts' : List Int} (h : Pr w0 w N b g c tv ds ts) (hr : Rf w' w0.heap.size c tv' ts') (hf : Fr (fun j => j = c ∨ tv.ownBlock = some j) w w') (hb : ∀ k, tv'.ownBlock = some k → tv.ownBlock = some k ∨ w.heap.size ≤ k) :
    Pr w0 w' N b g c tv' ds ts' ∧ Stp w (Ow b g c tv) w' (Ow b g c tv') := by
  have ha := h.ap
  have h1 := (h.lt b (Or.inl rfl)).2
  have h2 := (h.lt g (Or.inr (Or.inl rfl))).2
  have hs : Stp w (Ow b g c tv) w' (Ow b g c tv') := by
    refine ⟨hf.mono (fun j _ e => Or.inr (Or.inr e)), fun j hj => ?_⟩
    rcases hj with e | e | e | e
    · exact Or.inl (Or.inl e)
    · exact Or.inl (Or.inr (Or.inl e))
    · exact Or.inl (Or.inr (Or.inr (Or.inl e)))
    · rcases hb j e with e | e
      · exact Or.inl (Or.inr (Or.inr (Or.inr e)))
      · exact Or.inr e
  refine ⟨⟨h.d.fr hf (fun e => ?_) (fun e => ?_), hr, h.nc, ⟨ha.1, fun k e => ?_⟩, stp_new h.fr hs (fun j hj => (h.lt j hj).1)⟩, hs⟩
  · rcases e with e | e
    · exact ha.1.1 e.symm
    · exact (ha.2 b e).1 rfl
  · rcases e with e | e
    · exact ha.1.2 e.symm
    · exact (ha.2 g e).2 rfl
  · rcases hb k e with e | e
    · exact ha.2 k e
    · exact ⟨by omega, by omega⟩
theorem Pr.fpush {w0 w : World} {N b g c : Nat} {tv : Value} {ds ts : List Int} (h : Pr w0 w N b g c tv ds ts) (x : Int) (hl : ts.length ≤ 17592186044416) :
    Calls Try.prog 24 #[.pointer (some ⟨c, 0, none⟩), vI x] w fun e w' => e = .returned (.tuple #[]) ∧ ∃ tv', Pr w0 w' N b g c tv' ds (ts ++ [x]) ∧ Stp w (Ow b g c tv) w' (Ow b g c tv') := by
  refine (fpush_any w _ c tv ts x h.fr.size hl h.r).mono ?_
  rintro _ w' ⟨rfl, tv', hr, hf, hb⟩
  exact ⟨rfl, tv', h.keepR hr hf hb⟩
theorem Pr.fpop {w0 w : World} {N b g c : Nat} {tv : Value} {ds ts : List Int} (h : Pr w0 w N b g c tv ds ts) (hl : ts.length ≤ 17592186044416) :
    Calls Try.prog 25 #[.pointer (some ⟨c, 0, none⟩)] w fun e w' => e = .returned (.tuple #[vI (popX ts).1, .bool (popX ts).2]) ∧ ∃ tv', Pr w0 w' N b g c tv' ds ts.dropLast ∧ Stp w (Ow b g c tv) w' (Ow b g c tv') := by
  refine (fpop_any w _ c tv ts hl h.r).mono ?_
  rintro _ w' ⟨rfl, tv', hr, hf, hb⟩
  exact ⟨rfl, tv', h.keepR hr (hf.mono (fun _ _ e => Or.inl e)) (fun k e => Or.inl (by rw [← hb]; exact e))⟩
theorem Pr.fsteal {w0 w : World} {N b g c : Nat} {tv : Value} {ds ts : List Int} (h : Pr w0 w N b g c tv ds ts) (hl : ts.length ≤ 17592186044416) :
    Calls Try.prog 26 #[.pointer (some ⟨c, 0, none⟩)] w fun e w' => e = .returned (.tuple #[vI (stealX ts).1, .bool (stealX ts).2]) ∧ ∃ tv', Pr w0 w' N b g c tv' ds ts.tail ∧ Stp w (Ow b g c tv) w' (Ow b g c tv') := by
  refine (fsteal_any w _ c tv ts hl h.r).mono ?_
  rintro _ w' ⟨rfl, tv', hr, hf, hb⟩
  exact ⟨rfl, tv', h.keepR hr (hf.mono (fun _ _ e => Or.inl e)) (fun k e => Or.inl (by rw [← hb]; exact e))⟩
end Go.Proofs.Ytkkfiipnpdlkeaa
