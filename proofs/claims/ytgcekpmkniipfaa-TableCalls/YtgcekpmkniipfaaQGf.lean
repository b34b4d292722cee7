import Derived.Test.YtgcekpmkniipfaaQGdJ
namespace Go.Proofs.Ytgcekpmkniipfaa
open Go.RowKit (wrap32 wrap64)
set_option linter.unusedVariables false
set_option linter.unusedSimpArgs false

section
variable {P : Program} {ops : Array Oper} {Q : Exit → Act → World → Prop} {md : Region.Mode} {S : World → Prop} {t : Nat}
/-- Two may come up. -/
theorem wpAnyT_two {i j : Nat} {oi oj : Oper} {fuel : Nat} {listed : Array Bool} {a : Act} {w : World} (hi : ops[i]? = some oi) (hj : ops[j]? = some oj) (hr : Region.ready md ops listed = [i, j])
    (h1 : ∀ K' : Act → World → Prop, Shut (∀ a w, (i ≠ t → S w) → wpAnyT P md ops Q S t fuel (listed.setIfInBounds i true) a w → K' a w) → if Region.wanted oi (yielded ops a.tmps) = true then Oper.wp P oi a w K' Q else K' (a.put oi.dst undef) w)
    (h2 : ∀ K' : Act → World → Prop, Shut (∀ a w, (j ≠ t → S w) → wpAnyT P md ops Q S t fuel (listed.setIfInBounds j true) a w → K' a w) → if Region.wanted oj (yielded ops a.tmps) = true then Oper.wp P oj a w K' Q else K' (a.put oj.dst undef) w) : wpAnyT P md ops Q S t (fuel + 1) listed a w := by
  refine ⟨fun h0 => (by rw [hr] at h0; cases h0), fun k hk => ?_⟩
  rw [hr] at hk
  simp only [List.mem_cons, List.not_mem_nil, or_false] at hk
  rcases hk with rfl | rfl
  · exact wpOp_step hi (fun K' hK => h1 K' (fun a w h1 h2 => hK a w ⟨h1, h2⟩))
  · exact wpOp_step hj (fun K' hK => h2 K' (fun a w h1 h2 => hK a w ⟨h1, h2⟩))
end

section
variable {w0 w w5 W6 : World} {B : Nat} {own0 own own2 : Nat → Nat} {p q p' q' : TS} {r s r' s' : RS} {gs gs' : List KR} {kb : Nat} {lv wv : Value} {sum : Nat} {ls ws : List KR} {bs : List (Nat × Obj)} {z o' : Obj}
/-- A box that was made ahead of a call is written over behind it. -/
theorem Ak.reset (h : Ak w0 w B own0 own p q r s gs kb lv wv sum ls ws bs) (h2 : Ak w0 w5 B own0 own2 p' q' r' s' gs' kb lv wv sum ls ws ((w.heap.size, z) :: bs)) (f : Fr (fun j => j = w.heap.size) w5 W6) (ho : W6.heap[w.heap.size]? = some o') :
    Ak w0 W6 B own0 own2 p' q' r' s' gs' kb lv wv sum ls ws ((w.heap.size, o') :: bs) := by
  have ob : own2 w.heap.size = 0 := (h2.loc _ List.mem_cons_self).2
  have hlt : ∀ x ∈ bs, x.1 < w.heap.size := fun x hx => heap_lt (h.loc x hx).1
  have k := h2.kp
  refine ⟨h2.sy.fr f (fun j hj e => hj (by rw [e]; exact ob)), ⟨(f.block kb (heap_lt k.obj) (fun e => by have := k.ob; rw [e, ob] at this; cases this)).trans k.obj, k.ob, ownsRow_fr k.lr f (fun j e e2 => by have := k.lo j e; rw [e2, ob] at this; cases this), k.lo, ownsRow_fr k.wr f (fun j e e2 => by have := k.wo j e; rw [e2, ob] at this; cases this), k.wo, fun i hi => ?_⟩, fun x hx => ?_, h2.fr.joins f (fun j hj e => by have := h.fr.size; omega), h2.ext, Nat.le_trans h2.hB f.size⟩
  · obtain ⟨h1, h2', h3, h4⟩ := k.wl i hi
    obtain ⟨-, -, g3, g4⟩ := h.kp.wl i hi
    exact ⟨(h1.fr f (Nat.le_refl _) (fun j e e2 => by have := (g3 j e).2; omega)).mono f.size, (h2'.fr f (Nat.le_refl _) (fun j e e2 => by have := (g4 j e).2; omega)).mono f.size, fun j e => ⟨(h3 j e).1, Nat.lt_of_lt_of_le (h3 j e).2 f.size⟩, fun j e => ⟨(h4 j e).1, Nat.lt_of_lt_of_le (h4 j e).2 f.size⟩⟩
  · rcases List.mem_cons.1 hx with rfl | hx
    · exact ⟨ho, ob⟩
    · obtain ⟨g1, g2⟩ := h2.loc x (List.mem_cons_of_mem _ hx)
      exact ⟨(f.block x.1 (heap_lt g1) (fun e => by have := hlt x hx; omega)).trans g1, g2⟩
end

section
variable {w wr : World} {b1 b2 c1 c2 kb : Nat} {bs : List (Nat × Obj)} {i sum : Nat}
theorem Rs.doesBox (h : Rs w wr b1 b2 c1 c2 kb bs i sum) (hi : i ≤ 2200000000) (kd ky : Int) (x : ByteArray) (hkd : kd = 1 ∨ kd = 2 ∨ kd = 3) (hk : In64 ky) (z : Obj) :
    Calls Try.prog 17 #[.pointer (some ⟨b1, 0, none⟩), opV kd ky x] (wr.alloc z) fun e w' => ∃ ok val ka kn kc va vn vc, e = .returned (.agg #[.bool ok, .string val, .slice ka kn kc, .slice va vn vc]) ∧ w'.heap[wr.heap.size]? = some z ∧ (∀ b o, (b, o) ∈ bs → w'.heap[b]? = some o) ∧
      ∀ W6 o', Fr (fun j => j = wr.heap.size) w' W6 → W6.heap[wr.heap.size]? = some o' → Rh w W6 b1 b2 c1 c2 kb ((wr.heap.size, o') :: bs) i sum (kd, ky, x) ok val (.slice ka kn kc) (.slice va vn vc) := by
  obtain ⟨own, p, q, r, s, lv, wv, ls, ws, h, rfl, rfl, rfl, rfl⟩ := h
  obtain ⟨n1, n2, n3, n4, n5, n6⟩ := h.nb
  refine ((h.ak.box z).does (by omega) kd ky x hkd hk).mono ?_
  rintro _ w' ⟨ka, kn, kc, va, vn, vc, p', own', rfl, hA, e1, e2, e3⟩
  rw [h.pr] at hA e2
  refine ⟨_, _, ka, kn, kc, va, vn, vc, by rw [h.pr], hA.loc.get List.mem_cons_self, fun b o hx => hA.loc.get (List.mem_cons_of_mem _ hx), fun W6 o' f ho => ?_⟩
  exact ⟨own', p', q, r, s, lv, wv, ls, ws, h.ak.reset hA f ho, rfl, rfl, e2, h.qs, h.eq, h.le, ⟨n1, n2, by omega, n4, n5, n6⟩, e1, rfl, rfl, rfl⟩
theorem Rh.doneBox {kd ky : Int} {x : ByteArray} {ok : Bool} {val : ByteArray} {rk ru : Value} (h : Rh w wr b1 b2 c1 c2 kb bs i sum (kd, ky, x) ok val rk ru) (hi : i ≤ 2200000000) (hkd : kd = 1 ∨ kd = 2 ∨ kd = 3) (z : Obj) :
    Calls Try.prog 18 #[.pointer (some ⟨c1, 0, none⟩), opV kd ky x] (wr.alloc z) fun e w' => ∃ ka kn kc va vn vc, e = .returned (.agg #[.bool ok, .string val, .slice ka kn kc, .slice va vn vc]) ∧ w'.heap[wr.heap.size]? = some z ∧ (∀ b o, (b, o) ∈ bs → w'.heap[b]? = some o) ∧
      ∀ W6 o', Fr (fun j => j = wr.heap.size) w' W6 → W6.heap[wr.heap.size]? = some o' → Rs w W6 b1 b2 c1 c2 kb ((wr.heap.size, o') :: bs) (i + 1) sum ∧
      ∀ W, Fr (fun _ => False) W6 W → Calls Try.prog 19 #[.agg #[.bool ok, .string val, rk, ru], .agg #[.bool ok, .string val, .slice ka kn kc, .slice va vn vc]] W fun e w'' => e = .returned (.bool true) ∧ Fr (fun _ => False) W w'' := by
  obtain ⟨own, p, q, r, s, lv, wv, ls, ws, h, e1, e2, e3, e4, e5, e6, ⟨n1, n2, n3, n4, n5, n6⟩, rfl, rfl, rfl, rfl⟩ := h
  have hb := h.box z
  refine (do_any (wr.alloc z) w.heap.size r.c r.kv r.vv r.L kd ky x hkd hb.sy.rt hb.hB (by omega)).mono ?_
  rintro _ w' ⟨rv, rfl, hd⟩
  obtain ⟨rk', ru', r', own1, er, h1, f1, f2, hrk, hru, he, hf⟩ := hb.sy.done hd
  have hA : Ak w w' w.heap.size (fun _ => 0) own1 p q r' s (ls ++ [⟨rk, ru, doR r.L (kd, ky, x)⟩]) kb lv wv sum ls ws ((wr.heap.size, z) :: bs) :=
    ⟨h1, hb.kp.fr hf (fun j _ hj => by omega) he, hb.loc.fr hf (fun j hj => by omega) he, hb.fr.joins hf (fun j hj hj2 => by have h0 : own j = 0 := hb.ext j hj; omega), fun j hj => (he j (Nat.lt_of_lt_of_le hj hb.fr.size)).trans (hb.ext j hj), Nat.le_trans hb.hB hf.size⟩
  have hl := doT_len r.L (kd, ky, x)
  have hlr : (doR r.L (kd, ky, x)).L.length ≤ 4000000000 := by
    unfold doR
    split
    · simp
    · split
      · simp
      · simp; omega
  have hk := RowAt.own hrk
  have hv := RowAt.own hru
  have lk := fun j e => (World.ownsRow.lt hrk j e).1
  have lu := fun j e => (World.ownsRow.lt hru j e).1
  have hsz : (wr.alloc z).heap.size = wr.heap.size + 1 := by simp
  have hk2 := hk
  have hv2 := hv
  obtain ⟨ka, kc, ek, -⟩ := hk2
  obtain ⟨va, vc, ev, -⟩ := hv2
  subst ek ev
  refine ⟨_, _, _, _, _, _, by rw [er, e1, e2], hA.loc.get List.mem_cons_self, fun b o hx => hA.loc.get (List.mem_cons_of_mem _ hx), fun W6 o' f ho => ?_⟩
  have hR := h.reset hA f ho
  have hm := hR.sy.mem (x := ⟨rk, ru, doR r.L (kd, ky, x)⟩) (by simp)
  simp only at hm
  refine ⟨⟨own1, p, q, r', s, lv, wv, ls, ws, ⟨hR.unkeep, e5, e6, by rw [e3, f2], e4, ⟨by rw [f2]; omega, by omega, by omega, by omega, by omega, n6⟩⟩, rfl, rfl, f1, rfl⟩, fun W hW => ?_⟩
  rw [e1, e2]
  refine eqReply_same W W6.heap.size w'.heap.size (doR r.L (kd, ky, x)) _ _ (hm.fr hW (Nat.le_refl _) (fun _ _ h => h)) ⟨_, _, rfl, ?_, ?_⟩ hW.size (Nat.le_trans f.size hW.size) hlr
  · exact (hk.fr f (Nat.le_refl _) (fun j e e2 => by have := lk j e; omega)).fr hW f.size (fun _ _ h => h)
  · exact (hv.fr f (Nat.le_refl _) (fun j e e2 => by have := lu j e; omega)).fr hW f.size (fun _ _ h => h)
end
end Go.Proofs.Ytgcekpmkniipfaa
