import Derived.Test.YtingenonbkencaaDoorQYi4J
import Derived.Test.YtingenonbkencaaDoorQTaJ
set_option linter.unusedVariables false
set_option linter.unusedSimpArgs false
namespace Go.Proofs.YtingenonbkencaaDoor
open Go.RowKit (wrap32 wrap64)
theorem mustE_kp {ok : Bool} {e E : Int} (h : ¬ E = 0) : mustE ok e E = E := by unfold mustE; simp [h]
theorem mustE_ys {e E : Int} : mustE true e E = E := by unfold mustE; simp
theorem mustE_nn {e : Int} : mustE false e 0 = e := by unfold mustE; simp
theorem headOk_sml (s : WS) (p : Int) : headOk s p = if smallB s.fP s.fR s.fV && decide (s.len ≤ 4096) then (if 0 < s.len then .ok () else .error (19, p)) else .error (20, p) := by
 unfold headOk
 by_cases h1 : 0 ≤ s.fV ∧ s.fV ≤ 255
 ·rw [if_neg (by simpa using h1)]
  by_cases h2 : 0 ≤ s.fP ∧ s.fP ≤ (if s.fV < 8 then s.fV else 8)
  ·rw [if_neg (fun h => h h2)]
   have h2' : 0 ≤ s.fP ∧ s.fP ≤ 8 ∧ s.fP ≤ s.fV := by
    obtain ⟨a, c⟩ := h2
    split at c <;> omega
   by_cases h3 : 0 ≤ s.fR ∧ s.fR ≤ 4
   ·rw [if_neg (fun h => h h3)]
    by_cases h4 : s.len ≤ 4096
    ·rw [if_neg (fun h => h h4)]
     rw [if_pos (show (smallB s.fP s.fR s.fV && decide (s.len ≤ 4096)) = true by unfold smallB; simp; omega)]
     by_cases h5 : 0 < s.len
     ·rw [if_neg (fun h => h h5), if_pos h5]
     ·rw [if_pos h5, if_neg h5]
    ·rw [if_pos h4, if_neg (show ¬ (smallB s.fP s.fR s.fV && decide (s.len ≤ 4096)) = true by simp; omega)]
   ·rw [if_pos h3, if_neg (show ¬ (smallB s.fP s.fR s.fV && decide (s.len ≤ 4096)) = true by unfold smallB; simp; omega)]
  ·rw [if_pos h2, if_neg (show ¬ (smallB s.fP s.fR s.fV && decide (s.len ≤ 4096)) = true by
    unfold smallB; simp
    intro a c d
    exfalso
    refine h2 ⟨a, ?_⟩
    split <;> omega)]
 ·rw [if_pos (by simpa using h1), if_neg (show ¬ (smallB s.fP s.fR s.fV && decide (s.len ≤ 4096)) = true by unfold smallB; simp; omega)]
structure OkS (bs : List UInt8) (y : WS) (s : DS) : Prop where
 e : s.E = 0
 at' : y.at' = s.p
 le : s.p ≤ bs.length
 lo : y.locs = s.L + 1
 l0 : 0 ≤ s.L
 l1 : s.L + 1 ≤ 1048576
def ErS (z : Int × Int) (s : DS) : Prop := s.E = z.1 ∧ z.1 ≠ 0 ∧ s.o = z.2
def AgR (bs : List UInt8) {ρ : Type} (st : ρ → WS) (r : X ρ) (s : DS) (P : ρ → Prop) : Prop := match r with
 | .ok y => OkS bs (st y) s ∧ P y
 | .error z => ErS z s
theorem AgR.cast {bs : List UInt8} {ρ : Type} {st : ρ → WS} {r q : X ρ} {s t : DS} {P : ρ → Prop} (h : AgR bs st q t P) (e : r = q) (e2 : s = t) : AgR bs st r s P := by rw [e, e2]; exact h
theorem AgR.mono {bs : List UInt8} {ρ : Type} {st : ρ → WS} {r : X ρ} {s : DS} {P Q : ρ → Prop} (h : AgR bs st r s P) (hPQ : ∀ y, OkS bs (st y) s → P y → Q y) : AgR bs st r s Q := by
 cases r with
 | error z => exact h
 | ok y => exact ⟨h.1, hPQ y h.1 h.2⟩
theorem AgR.then {bs : List UInt8} {ρ ρ' : Type} {st : ρ → WS} {st' : ρ' → WS} {r : X ρ} {s s' : DS} {P : ρ → Prop} {P' : ρ' → Prop} {f : ρ → X ρ'} (h : AgR bs st r s P)
 (hk : s.E ≠ 0 → s'.E = s.E ∧ s'.o = s.o) (hf : ∀ y, OkS bs (st y) s → P y → AgR bs st' (f y) s' P') : AgR bs st' (thenX r f) s' P' := by
 cases r with
 | error z =>
   obtain ⟨h1, h2, h3⟩ := h
   obtain ⟨k1, k2⟩ := hk (by rw [h1]; exact h2)
   exact ⟨k1.trans h1, h2, k2.trans h3⟩
 | ok y => exact hf y h.1 h.2
theorem thingD_shut {bs : List UInt8} {n : Nat} {s : DS} (h : s.E ≠ 0) : thingD bs n s = (0, s) := if_neg h
theorem mustD_shut {ok : Bool} {er : Int} {s : DS} (h : s.E ≠ 0) : (mustD ok er s).E = s.E ∧ (mustD ok er s).o = s.o := by
 have e : mustE ok er s.E = s.E := mustE_kp h
 refine ⟨e, ?_⟩
 show toldO (s.E == 0) _ s.q s.o = s.o
 refine if_neg (fun k => ?_)
 have := k.1
 simp at this
 exact h this
theorem next_ag {b : Nat} {rv : Value} {bs : List UInt8} (hL : bs.length ≤ 1000000000000000) {x : WS × Unit} {s : DS} (h : OkS bs x.1 s) (o size : Nat) (hs8 : size ≤ 8) :
 AgR bs (·.1) (nextX (reading b rv bs) o size x) (thingD bs size s).2 (fun y => y = ({ x.1.set o (thingD bs size s).1 with at' := (s.p + size : Nat) }, ()) ∧ (thingD bs size s).2 = { s with p := s.p + size, q := s.p }) := by
 obtain ⟨x, u⟩ := x
 have hp : x.at'.toNat = s.p := by rw [h.at']; simp
 have hadv : adv x.at' size = (s.p + size : Nat) := by
  have := h.le
  rw [h.at', adv_small _ _ (by omega) (by omega) hs8]; omega
 have e : thingD bs size s = (match rd bs s.p size with | .ok v => (v, { s with p := s.p + size, q := s.p }) | .error z => (0, { s with o := z.2, E := z.1 })) := if_pos h.e
 unfold nextX
 simp only [reading, hp]
 rw [e]
 cases hx : rd bs s.p size with
 | ok v =>
   simp only
   rw [hadv]
   have hl : (x.set o v).locs = s.L + 1 := by rw [set_locs]; exact h.lo
   exact ⟨⟨h.e, rfl, rd_fits hx, hl, h.l0, h.l1⟩, rfl, trivial⟩
 | error z =>
   simp only
   refine ⟨rfl, ?_, rfl⟩
   unfold rd at hx
   split at hx
   ·cases hx
   ·cases hx; exact (show (11 : Int) ≠ 0 by decide)
theorem ask_ag {b : Nat} {rv : Value} {bs : List UInt8} (hL : bs.length ≤ 1000000000000000) {x : WS × Unit} {s : DS} (h : OkS bs x.1 s) (o size : Nat) (hs8 : size ≤ 8) (c : WS → Bool) (er : Int) (he0 : er ≠ 0) (he11 : er ≠ 11) (ok : Bool)
 (hc : (thingD bs size s).2.E = 0 → c { x.1.set o (thingD bs size s).1 with at' := (s.p + size : Nat) } = ok) :
 AgR bs (·.1) (askX (reading b rv bs) o size c er x) (mustD ok er (thingD bs size s).2) (fun y => y = ({ x.1.set o (thingD bs size s).1 with at' := (s.p + size : Nat) }, ())) := by
 refine AgR.cast ?_ (askX_then (reading b rv bs) o size c er x) rfl
 refine (next_ag hL h o size hs8).then (fun hE => mustD_shut hE) ?_
 rintro y hO ⟨rfl, hT⟩
 have h0 := hO.e
 rw [hc h0]
 cases ok with
 | true =>
   have e : mustD true er (thingD bs size s).2 = (thingD bs size s).2 := by
    unfold mustD
    rw [h0, mustE_ys]
    have : toldO ((0 : Int) == 0) 0 (thingD bs size s).2.q (thingD bs size s).2.o = (thingD bs size s).2.o := if_neg (fun k => k.2.1 rfl)
    rw [this]
    conv => rhs; rw [hT]
    rw [hT] at h0 ⊢
    simp only at h0 ⊢
    rw [h0]
   rw [if_pos rfl, e]
   exact ⟨hO, rfl⟩
 | false =>
   rw [if_neg (by decide)]
   refine ⟨?_, he0, ?_⟩
   ·show mustE false er (thingD bs size s).2.E = er
    rw [h0, mustE_nn]
   ·show toldO ((thingD bs size s).2.E == 0) (mustE false er (thingD bs size s).2.E) (thingD bs size s).2.q (thingD bs size s).2.o = x.1.at'
    rw [h0, mustE_nn, hT, h.at']
    exact if_pos ⟨rfl, he0, he11⟩
theorem mustD_id {ok : Bool} {er : Int} {s : DS} (h : s.E ≠ 0) : mustD ok er s = s := by
 obtain ⟨h1, h2⟩ := mustD_shut (ok := ok) (er := er) h
 cases s
 simp only at h1 h2
 unfold mustD at *
 simp only at h1 h2 ⊢
 rw [h1] at h2 ⊢
 rw [h2]
theorem numD_must (bs : List UInt8) (sz : Nat) (W : Int → Int → Int) (s : DS) (ok : Bool) (er : Int) (h : W (thingD bs sz s).1 0 = mustE ok er 0) : (numD bs sz W s).2 = mustD ok er (thingD bs sz s).2 := by
 unfold numD
 by_cases h0 : (thingD bs sz s).2.E = 0
 ·rw [if_pos h0, h]
  unfold mustD
  rw [h0]
  rfl
 ·rw [if_neg h0, mustD_id h0]
structure CorD (G V fl : Int) (y : WS) (c : PI) : Prop where
 g : y.globals = G
 v : y.fV = V
 l : y.len = fl
 op : y.op = c.op
 r : y.r = c.r
 ss : y.s = c.s
 t : y.t = c.t
 n : y.n = c.n
 a : c.args = []
 b : c.rets = []
def AgC (bs : List UInt8) (G V fl : Int) (r : X (WS × Unit)) (x : PI × DS) : Prop := AgR bs (fun y : WS × Unit => y.1) r x.2 (fun y => CorD G V fl y.1 x.1)
theorem AgC.ask {b : Nat} {rv : Value} {bs : List UInt8} (hL : bs.length ≤ 1000000000000000) {G V fl : Int} {r : X (WS × Unit)} {x : PI × DS} (h : AgC bs G V fl r x) (o size : Nat) (hs8 : size ≤ 8) (c : WS → Bool) (er : Int) (he0 : er ≠ 0) (he11 : er ≠ 11) (ok : Bool)
 (hc : ∀ y, CorD G V fl y x.1 → c { y.set o (thingD bs size x.2).1 with at' := (x.2.p + size : Nat) } = ok) (c' : PI)
 (hcor : ∀ y a, CorD G V fl y x.1 → CorD G V fl { y.set o (thingD bs size x.2).1 with at' := a } c') :
 AgC bs G V fl (thenX r (askX (reading b rv bs) o size c er)) (if x.2.E = 0 then (c', mustD ok er (thingD bs size x.2).2) else x) := by
 cases r with
 | error z =>
   have h1 : ErS z x.2 := h
   rw [if_neg (by rw [h1.1]; exact h1.2.1)]
   exact h
 | ok y =>
   obtain ⟨hO, hC⟩ := h
   rw [if_pos hO.e]
   refine AgR.mono (ask_ag (b := b) (rv := rv) hL hO o size hs8 c er he0 he11 ok (fun _ => hc y.1 hC)) ?_
   rintro y' - rfl
   exact hcor _ _ hC
theorem dq {V v : Int} (h0 : 0 ≤ V) (h1 : V ≤ 1000000) (hv : 0 ≤ v) : decide (0 ≤ v ∧ v ≤ IntKind.i64.wrap (V - 1)) = decide (v < V) := by
 rw [wrap_small (V - 1) (by omega) (by omega), Bool.eq_iff_iff]; simp; omega
theorem nq {V v : Int} (h0 : 0 ≤ V) (h1 : V ≤ 1000000) : decide (0 ≤ v ∧ v ≤ IntKind.i64.wrap (V - 1)) = numB 0 V v := by
 rw [wrap_small (V - 1) (by omega) (by omega), Bool.eq_iff_iff]; unfold numB; simp; omega
section
variable {b : Nat} {rv : Value} {bs : List UInt8} {G V R fl : Int} {r : X (WS × Unit)} {x : PI × DS} {hs : List HT}
theorem AgC.l82 (hL : bs.length ≤ 1000000000000000) (hV0 : 0 ≤ V) (hV1 : V ≤ 255) (h : AgC bs G V fl r x) : AgC bs G V fl (thenX r (varPart (reading b rv bs) 155)) (letS bs G hs R V fl x 82) :=
 h.ask hL 155 1 (by omega) _ 13 (by decide) (by decide) (decide ((thingD bs 1 x.2).1 < V)) (fun y hy => by
  show decide (0 ≤ (thingD bs 1 x.2).1 ∧ (thingD bs 1 x.2).1 ≤ IntKind.i64.wrap (y.fV - 1)) = _
  rw [hy.v]; exact dq hV0 (by omega) thingD_byte.1) { x.1 with r := (thingD bs 1 x.2).1 } (fun y a hy => ⟨hy.g, hy.v, hy.l, hy.op, rfl, hy.ss, hy.t, hy.n, hy.a, hy.b⟩)
theorem AgC.l83 (hL : bs.length ≤ 1000000000000000) (hV0 : 0 ≤ V) (hV1 : V ≤ 255) (h : AgC bs G V fl r x) : AgC bs G V fl (thenX r (varPart (reading b rv bs) 156)) (letS bs G hs R V fl x 83) :=
 h.ask hL 156 1 (by omega) _ 13 (by decide) (by decide) (decide ((thingD bs 1 x.2).1 < V)) (fun y hy => by
  show decide (0 ≤ (thingD bs 1 x.2).1 ∧ (thingD bs 1 x.2).1 ≤ IntKind.i64.wrap (y.fV - 1)) = _
  rw [hy.v]; exact dq hV0 (by omega) thingD_byte.1) { x.1 with s := (thingD bs 1 x.2).1 } (fun y a hy => ⟨hy.g, hy.v, hy.l, hy.op, hy.r, rfl, hy.t, hy.n, hy.a, hy.b⟩)
theorem AgC.l84 (hL : bs.length ≤ 1000000000000000) (hV0 : 0 ≤ V) (hV1 : V ≤ 255) (h : AgC bs G V fl r x) : AgC bs G V fl (thenX r (varPart (reading b rv bs) 157)) (letS bs G hs R V fl x 84) :=
 h.ask hL 157 1 (by omega) _ 13 (by decide) (by decide) (decide ((thingD bs 1 x.2).1 < V)) (fun y hy => by
  show decide (0 ≤ (thingD bs 1 x.2).1 ∧ (thingD bs 1 x.2).1 ≤ IntKind.i64.wrap (y.fV - 1)) = _
  rw [hy.v]; exact dq hV0 (by omega) thingD_byte.1) { x.1 with t := (thingD bs 1 x.2).1 } (fun y a hy => ⟨hy.g, hy.v, hy.l, hy.op, hy.r, hy.ss, rfl, hy.n, hy.a, hy.b⟩)
theorem AgC.num (hL : bs.length ≤ 1000000000000000) (h : AgC bs G V fl r x) (u : UInt8) (hu : letD bs G hs R V fl u x = ({ x.1 with n := (numD bs (numS u) (numW G hs.length fl u) x.2).1 }, (numD bs (numS u) (numW G hs.length fl u) x.2).2))
 (sz : Nat) (hsz : numS u = sz) (h8 : sz ≤ 8) (c : WS → Bool) (er : Int) (he0 : er ≠ 0) (he11 : er ≠ 11) (ok : Bool) (hok : numW G hs.length fl u (thingD bs sz x.2).1 0 = mustE ok er 0)
 (hc : ∀ y, CorD G V fl y x.1 → c { y.set 158 (thingD bs sz x.2).1 with at' := (x.2.p + sz : Nat) } = ok) :
 AgC bs G V fl (thenX r (askX (reading b rv bs) 158 sz c er)) (letS bs G hs R V fl x u) := by
 subst hsz
 unfold letS
 rw [hu, numD_must bs (numS u) _ x.2 ok er hok]
 exact h.ask hL 158 (numS u) h8 c er he0 he11 ok hc _ (fun y a hy => ⟨hy.g, hy.v, hy.l, hy.op, hy.r, hy.ss, hy.t, rfl, hy.a, hy.b⟩)
theorem AgC.l99 (hL : bs.length ≤ 1000000000000000) (h : AgC bs G V fl r x) : AgC bs G V fl (thenX r (fieldsPart (reading b rv bs))) (letS bs G hs R V fl x 99) :=
 h.num hL 99 rfl 1 rfl (by omega) _ 17 (by decide) (by decide) (numB 1 9 (thingD bs 1 x.2).1) rfl (fun y _ => by
  show decide (1 ≤ (thingD bs 1 x.2).1 ∧ (thingD bs 1 x.2).1 ≤ 8) = _
  unfold numB; rw [Bool.eq_iff_iff]; simp; omega)
theorem AgC.l102 (hL : bs.length ≤ 1000000000000000) (h : AgC bs G V fl r x) : AgC bs G V fl (thenX r (fieldPart (reading b rv bs))) (letS bs G hs R V fl x 102) :=
 h.num hL 102 rfl 1 rfl (by omega) _ 17 (by decide) (by decide) (numB 0 8 (thingD bs 1 x.2).1) rfl (fun y _ => by
  show decide (0 ≤ (thingD bs 1 x.2).1 ∧ (thingD bs 1 x.2).1 ≤ 7) = _
  unfold numB; rw [Bool.eq_iff_iff]; simp; omega)
theorem AgC.l103 (hL : bs.length ≤ 1000000000000000) (hG0 : 0 ≤ G) (hG1 : G ≤ 16) (h : AgC bs G V fl r x) : AgC bs G V fl (thenX r (globalPart (reading b rv bs))) (letS bs G hs R V fl x 103) :=
 h.num hL 103 rfl 1 rfl (by omega) _ 18 (by decide) (by decide) (numB 0 G (thingD bs 1 x.2).1) rfl (fun y hy => by
  show decide (0 ≤ (thingD bs 1 x.2).1 ∧ (thingD bs 1 x.2).1 ≤ IntKind.i64.wrap (y.globals - 1)) = _
  rw [hy.g]; exact nq hG0 (by omega))
theorem AgC.l74 (hL : bs.length ≤ 1000000000000000) (hf0 : 0 ≤ fl) (hf1 : fl ≤ 4096) (h : AgC bs G V fl r x) : AgC bs G V fl (thenX r (targetPart (reading b rv bs))) (letS bs G hs R V fl x 74) :=
 h.num hL 74 rfl 2 rfl (by omega) _ 16 (by decide) (by decide) (numB 0 fl (thingD bs 2 x.2).1) rfl (fun y hy => by
  show decide (0 ≤ (thingD bs 2 x.2).1 ∧ (thingD bs 2 x.2).1 ≤ IntKind.i64.wrap (y.len - 1)) = _
  rw [hy.l]; exact nq hf0 (by omega))
theorem AgC.l70 (hL : bs.length ≤ 1000000000000000) (hn : hs.length ≤ 65535) (nf : Nat) (hnf : nf = hs.length) (h : AgC bs G V fl r x) : AgC bs G V fl (thenX r (calleePart (reading b rv bs) nf)) (letS bs G hs R V fl x 70) :=
 h.num hL 70 rfl 2 rfl (by omega) _ 14 (by decide) (by decide) (numB 0 hs.length (thingD bs 2 x.2).1) rfl (fun y hy => by
  show decide (0 ≤ (thingD bs 2 x.2).1 ∧ (thingD bs 2 x.2).1 ≤ IntKind.i64.wrap ((nf : Int) - 1)) = _
  rw [hnf]; exact nq (by omega) (by omega))
theorem AgC.l105 (hL : bs.length ≤ 1000000000000000) (h : AgC bs G V fl r x) : AgC bs G V fl (thenX r (intPart (reading b rv bs))) (letS bs G hs R V fl x 105) := by
 cases r with
 | error z =>
   have h1 : ErS z x.2 := h
   have e : letS bs G hs R V fl x 105 = x := if_neg (by rw [h1.1]; exact h1.2.1)
   rw [e]
   exact h
 | ok y =>
   obtain ⟨hO, hC⟩ := h
   have e : letS bs G hs R V fl x 105 = ({ x.1 with n := (thingD bs 8 x.2).1 }, (numD bs 8 (numW G hs.length fl 105) x.2).2) := if_pos hO.e
   have e2 : (numD bs 8 (numW G hs.length fl 105) x.2).2 = (thingD bs 8 x.2).2 := by
    rw [numD_must bs 8 _ x.2 true 1 rfl]
    by_cases h0 : (thingD bs 8 x.2).2.E = 0
    ·unfold mustD
     rw [h0, mustE_ys]
     have : toldO ((0 : Int) == 0) 0 (thingD bs 8 x.2).2.q (thingD bs 8 x.2).2.o = (thingD bs 8 x.2).2.o := if_neg (fun k => k.2.1 rfl)
     rw [this]
     generalize (thingD bs 8 x.2).2 = t at h0 ⊢
     cases t
     simp only at h0
     rw [h0]
    ·exact mustD_id h0
   rw [e, e2]
   refine AgR.mono (next_ag (b := b) (rv := rv) hL hO 158 8 (by omega)) ?_
   rintro y' - ⟨rfl, -⟩
   exact ⟨hC.g, hC.v, hC.l, hC.op, hC.r, hC.ss, hC.t, rfl, hC.a, hC.b⟩
end
theorem varsD_shut {bs : List UInt8} {V : Int} {k : Nat} {s : DS} (h : s.E ≠ 0) : varsD bs V k s = ([], s) := by
 cases k with
 | zero => rfl
 | succ k => exact if_neg h
theorem one_ag {b : Nat} {rv : Value} {bs : List UInt8} (hL : bs.length ≤ 1000000000000000) {x : WS × Unit} {s : DS} (h : OkS bs x.1 s) (hV0 : 0 ≤ x.1.fV) (hV1 : x.1.fV ≤ 255) (old : Int) :
 AgR bs (fun q : Int × (WS × Unit) => q.2.1) (oneX (reading b rv bs) old x) (varD bs x.1.fV s).2 (fun q => q.1 = (varD bs x.1.fV s).1 ∧ q.2 = ({ x.1 with at' := (s.p + 1 : Nat) }, ())) := by
 obtain ⟨x, u⟩ := x
 have hp : x.at'.toNat = s.p := by rw [h.at']; simp
 have hadv : adv x.at' 1 = (s.p + 1 : Nat) := by
  have := h.le
  rw [h.at', adv_small _ _ (by omega) (by omega) (by omega)]; omega
 have e : thingD bs 1 s = (match rd bs s.p 1 with | .ok v => (v, { s with p := s.p + 1, q := s.p }) | .error z => (0, { s with o := z.2, E := z.1 })) := if_pos h.e
 have hb := thingD_byte (bs := bs) (s := s)
 unfold oneX varD
 simp only [reading, hp]
 have hV0 : 0 ≤ x.fV := hV0
 have hV1 : x.fV ≤ 255 := hV1
 have hvo : ∀ v, 0 ≤ v → varOk x.fV v = decide (v < x.fV) := fun v hv => dq hV0 (by omega) hv
 rw [e] at hb ⊢
 cases hx : rd bs s.p 1 with
 | ok v =>
   rw [hx] at hb
   simp only at hb ⊢
   rw [hvo v hb.1, hadv]
   by_cases hlt : v < x.fV
   ·rw [if_pos (by simpa using hlt), show decide (v < x.fV) = true by simpa using hlt]
    have e2 : mustD true 13 { s with p := s.p + 1, q := s.p } = { s with p := s.p + 1, q := s.p } := by
     unfold mustD
     simp only
     rw [h.e, mustE_ys]
     rw [show toldO ((0 : Int) == 0) 0 (s.p : Int) s.o = s.o from if_neg (fun k => k.2.1 rfl)]
    rw [e2]
    exact ⟨⟨h.e, rfl, rd_fits hx, h.lo, h.l0, h.l1⟩, rfl, rfl⟩
   ·rw [if_neg (by simpa using hlt), show decide (v < x.fV) = false by simpa using hlt]
    refine ⟨?_, show (13 : Int) ≠ 0 by decide, ?_⟩
    ·show mustE false 13 s.E = 13
     rw [h.e, mustE_nn]
    ·show toldO (s.E == 0) (mustE false 13 s.E) s.p s.o = x.at'
     rw [h.e, mustE_nn, h.at']
     exact if_pos ⟨rfl, by decide, by decide⟩
 | error z =>
   have hz : z = (11, (bs.length : Int)) := by
    unfold rd at hx
    split at hx
    ·cases hx
    ·cases hx; rfl
   subst hz
   simp only
   rw [mustD_id (show ({ s with o := (bs.length : Int), E := 11 } : DS).E ≠ 0 from (show (11 : Int) ≠ 0 by decide))]
   exact ⟨rfl, show (11 : Int) ≠ 0 by decide, rfl⟩
theorem vars_ag {b : Nat} {rv : Value} {bs : List UInt8} (hL : bs.length ≤ 1000000000000000) : ∀ (k : Nat) (x : WS × Unit) (s : DS), OkS bs x.1 s → 0 ≤ x.1.fV → x.1.fV ≤ 255 →
 AgR bs (fun q : List Int × (WS × Unit) => q.2.1) (varsX (reading b rv bs) (List.replicate k 0) x) (varsD bs x.1.fV k s).2 (fun q => q.1 = (varsD bs x.1.fV k s).1 ∧ ∃ a, q.2.1 = { x.1 with at' := a })
 | 0, x, s, h, _, _ => ⟨h, rfl, x.1.at', rfl⟩
 | k + 1, x, s, h, h0, h1 => by
   have e : varsD bs x.1.fV (k + 1) s = ((varD bs x.1.fV s).1 :: (varsD bs x.1.fV k (varD bs x.1.fV s).2).1, (varsD bs x.1.fV k (varD bs x.1.fV s).2).2) := if_pos h.e
   refine AgR.cast (q := thenX (oneX (reading b rv bs) 0 x) fun q => thenX (varsX (reading b rv bs) (List.replicate k 0) q.2) fun q' => .ok (q.1 :: q'.1, q'.2)) (t := (varsD bs x.1.fV k (varD bs x.1.fV s).2).2) ?_ (varsX_then (reading b rv bs) 0 (List.replicate k 0) x) (by rw [e])
   rw [e]
   refine (one_ag (b := b) (rv := rv) hL h h0 h1 0).then (fun hE => by rw [varsD_shut hE]; exact ⟨rfl, rfl⟩) ?_
   rintro ⟨v, y⟩ hO ⟨h2, h3⟩
   simp only at h2 h3 hO ⊢
   subst h3
   refine (vars_ag (b := b) (rv := rv) hL k ({ x.1 with at' := (s.p + 1 : Nat) }, ()) _ hO h0 h1).then (fun _ => ⟨rfl, rfl⟩) ?_
   rintro ⟨vs, y'⟩ hO' ⟨h4, a, h5⟩
   simp only at h4 h5 hO'
   exact ⟨hO', by simp only; rw [h2, h4], a, h5⟩
theorem list_ag {b : Nat} {rv : Value} {bs : List UInt8} (hL : bs.length ≤ 1000000000000000) {x : WS × Unit} {s : DS} (h : OkS bs x.1 s) (h0 : 0 ≤ x.1.fV) (h1 : x.1.fV ≤ 255) (n : Nat) (m : Int) (hm : m = n) :
 AgR bs (fun q : List Int × (WS × Unit) => q.2.1) (listX (reading b rv bs) n [] x) (listD bs x.1.fV m s).2 (fun q => q.1 = (listD bs x.1.fV m s).1 ∧ ∃ a k, q.2.1 = { x.1 with at' := a, count := k }) := by
 refine AgR.cast ?_ (listX_then (reading b rv bs) n [] x) rfl
 have hl : (if (([] : List Int).length = n) then [] else List.replicate n 0) = List.replicate n (0 : Int) := by
  split
  ·rename_i e; simp at e; subst e; rfl
  ·rfl
 rw [hl]
 have h' : OkS bs ({ x.1 with count := (([] : List Int).length : Nat) }) s := ⟨h.e, h.at', h.le, h.lo, h.l0, h.l1⟩
 refine (next_ag (b := b) (rv := rv) (x := ({ x.1 with count := (([] : List Int).length : Nat) }, ())) hL h' 161 1 (by omega)).then (fun hE => ?_) ?_
 ·unfold listD
  rw [if_neg hE]
  exact ⟨rfl, rfl⟩
 ·rintro y hO ⟨rfl, hT⟩
  have hE := hO.e
  unfold listD
  rw [if_pos hE]
  have hct : ({ ({ x.1 with count := (([] : List Int).length : Nat) } : WS).set 161 (thingD bs 1 s).1 with at' := (s.p + 1 : Nat) } : WS) = { x.1 with at' := (s.p + 1 : Nat), count := (thingD bs 1 s).1 } := rfl
  rw [hct] at hO ⊢
  simp only
  by_cases hq : (thingD bs 1 s).1 = n
  ·have e2 : mustD ((thingD bs 1 s).1 == m) 15 (thingD bs 1 s).2 = (thingD bs 1 s).2 := by
    rw [hm, hq]
    simp only [beq_self_eq_true]
    unfold mustD
    rw [hE, mustE_ys]
    rw [show toldO ((0 : Int) == 0) 0 (thingD bs 1 s).2.q (thingD bs 1 s).2.o = (thingD bs 1 s).2.o from if_neg (fun k => k.2.1 rfl)]
    generalize (thingD bs 1 s).2 = t at hE ⊢
    cases t
    simp only at hE
    rw [hE]
   rw [if_pos hq, e2, show (thingD bs 1 s).1.toNat = n by rw [hq]; simp]
   refine AgR.mono (vars_ag (b := b) (rv := rv) hL n ({ x.1 with at' := (s.p + 1 : Nat), count := (thingD bs 1 s).1 }, ()) _ hO h0 h1) ?_
   rintro q - ⟨h2, a, h3⟩
   exact ⟨h2, a, _, h3⟩
  ·have hne : ((thingD bs 1 s).1 == m) = false := by rw [hm]; simpa using hq
   rw [if_neg hq, hne]
   have e3 : (mustD false 15 (thingD bs 1 s).2).E = 15 := by
    show mustE false 15 (thingD bs 1 s).2.E = 15
    rw [hE, mustE_nn]
   rw [varsD_shut (by rw [e3]; decide)]
   refine ⟨e3, show (15 : Int) ≠ 0 by decide, ?_⟩
   show toldO ((thingD bs 1 s).2.E == 0) (mustE false 15 (thingD bs 1 s).2.E) (thingD bs 1 s).2.q (thingD bs 1 s).2.o = x.1.at'
   rw [hE, mustE_nn, hT, h.at']
   exact if_pos ⟨rfl, by decide, by decide⟩
theorem letS_shut {bs : List UInt8} {G R V fl : Int} {hs : List HT} {u : UInt8} {x : PI × DS} (h : x.2.E ≠ 0) : letS bs G hs R V fl x u = x := if_neg h
theorem front_ag {b : Nat} {rv : Value} {bs : List UInt8} {G V : Int} {fl : Nat} {x : WS × Unit} {t : DS} (i : Nat) (hi : i < fl) (c : PI) (hC : CorD G V fl x.1 c) (hO : OkS bs x.1 t) (p : Int) (hp : t.q = p) (hop : 1 ≤ c.op ∧ c.op ≤ 17)
 (ends makes : Bool) (he : ends = (c.op == 13 || c.op == 15)) (hm : makes = (c.op == 6)) (last : Bool) (hla : last = ((i : Int) == (fl : Int) - 1)) :
 AgC bs G V fl (frontOk (reading b rv bs) ends makes true i p x) (c, { t with L := opL c.op t.L, E := opE c.op true last t.L 0, o := toldO true (opE c.op true last t.L 0) t.q t.o }) := by
 obtain ⟨x, u⟩ := x
 have hob : opB c.op = true := by unfold opB; simp [hop.1, hop.2]
 have hlb : (ends || decide ((i : Int) < x.len - 1)) = lastB last c.op := by
  rw [show x.len = fl from hC.l, he, hla]
  unfold lastB
  cases hx : (c.op == 13 || c.op == 15)
  ·rw [Bool.or_false, Bool.false_or, Bool.eq_iff_iff]; simp; omega
  ·simp
 unfold frontOk opE
 rw [hob, mustE_ys, mustE_ys, if_neg (by decide)]
 simp only
 rw [hlb]
 cases lastB last c.op with
 | false =>
   rw [if_pos rfl, mustE_nn, mustE_kp (by decide)]
   refine ⟨rfl, show (19 : Int) ≠ 0 by decide, ?_⟩
   show toldO true 19 t.q t.o = p
   rw [hp]
   exact if_pos ⟨rfl, by decide, by decide⟩
 | true =>
   rw [if_neg (by decide), mustE_ys, hm]
   by_cases h6 : c.op = 6
   ·have e : opL c.op t.L = t.L + 1 := by unfold opL; rw [if_pos h6]
    rw [e, if_pos (by simp [h6])]
    unfold locX
    simp only
    have e2 : wrap64 (x.locs + 1) = t.L + 1 + 1 := by
     have h1 := hO.lo
     have h2 := hO.l0
     have h3 := hO.l1
     simp only at h1
     rw [h1]
     exact w64r (by omega) (by omega)
    rw [e2]
    by_cases hle : t.L + 1 + 1 ≤ 1048576
    ·rw [if_pos hle, show decide (t.L + 1 + 1 ≤ 1048576) = true by simpa using hle, mustE_ys]
     have h2 := hO.l0
     refine ⟨⟨rfl, hO.at', hO.le, rfl, ?_, hle⟩, ⟨hC.g, hC.v, hC.l, hC.op, hC.r, hC.ss, hC.t, hC.n, hC.a, hC.b⟩⟩
     show 0 ≤ t.L + 1
     omega
    ·rw [if_neg hle, show decide (t.L + 1 + 1 ≤ 1048576) = false by simpa using hle, mustE_nn]
     refine ⟨rfl, show (21 : Int) ≠ 0 by decide, ?_⟩
     show toldO true 21 t.q t.o = p
     rw [hp]
     exact if_pos ⟨rfl, by decide, by decide⟩
   ·have e : opL c.op t.L = t.L := by unfold opL; rw [if_neg h6]
    have hL1 := hO.l1
    rw [e, if_neg (by simp [h6]), show decide (t.L + 1 ≤ 1048576) = true by simpa using hL1, mustE_ys]
    exact ⟨⟨rfl, hO.at', hO.le, hO.lo, hO.l0, hO.l1⟩, hC⟩
theorem pi_eq {c : PI} {ll : List Int × List Int} {s : WS} (h1 : s.op = c.op) (h2 : s.r = c.r) (h3 : s.s = c.s) (h4 : s.t = c.t) (h5 : s.n = c.n) (h6 : ll.1 = c.args) (h7 : ll.2 = c.rets) : c = pi (aiOf ll s) := by
 obtain ⟨op, r, s', t, n, a, b⟩ := c
 simp only at h1 h2 h3 h4 h5 h6 h7
 unfold pi aiOf
 simp only
 rw [h1, h2, h3, h4, h5, h6, h7]
def AgI (bs : List UInt8) (G V fl : Int) (r : X ((List Int × List Int) × (WS × Unit))) (x : PI × DS) : Prop :=
 AgR bs (fun q : (List Int × List Int) × (WS × Unit) => q.2.1) r x.2 (fun q => x.1 = pi (aiOf q.1 q.2.1) ∧ q.2.1.globals = G ∧ q.2.1.fV = V ∧ q.2.1.len = fl)
theorem AgI.cast {bs : List UInt8} {G V fl : Int} {r q : X ((List Int × List Int) × (WS × Unit))} {x y : PI × DS} (h : AgI bs G V fl q y) (e : r = q) (e2 : x = y) : AgI bs G V fl r x := by rw [e, e2]; exact h
theorem AgC.plain {bs : List UInt8} {G V fl : Int} {r : X (WS × Unit)} {x : PI × DS} (h : AgC bs G V fl r x) : AgI bs G V fl (thenX r fun y' => .ok (([], []), y')) x := by
 refine AgR.then h (fun _ => ⟨rfl, rfl⟩) ?_
 intro y hO hC
 exact ⟨hO, pi_eq hC.op hC.r hC.ss hC.t hC.n hC.a.symm hC.b.symm, hC.g, hC.v, hC.l⟩
theorem AgC.ret {b : Nat} {rv : Value} {bs : List UInt8} (hL : bs.length ≤ 1000000000000000) {G V fl R : Int} {hs : List HT} (hV0 : 0 ≤ V) (hV1 : V ≤ 255) {r : X (WS × Unit)} {x : PI × DS} (h : AgC bs G V fl r x) (n : Nat) (hR : R = n) :
 AgI bs G V fl (retX (reading b rv bs) n r) (letS bs G hs R V fl x 86) := by
 unfold retX
 refine AgR.then h (fun hE => by rw [letS_shut hE]; exact ⟨rfl, rfl⟩) ?_
 intro y hO hC
 have e : letS bs G hs R V fl x 86 = ({ x.1 with args := (listD bs V R x.2).1 }, (listD bs V R x.2).2) := if_pos hO.e
 rw [e]
 have hl := list_ag (b := b) (rv := rv) hL hO (by rw [hC.v]; exact hV0) (by rw [hC.v]; exact hV1) n R hR
 rw [hC.v] at hl
 refine AgR.then hl (fun _ => ⟨rfl, rfl⟩) ?_
 rintro ⟨l, y'⟩ hO' ⟨h1, a, k, h2⟩
 simp only at h1 h2 hO' ⊢
 refine ⟨hO', ?_, ?_, ?_, ?_⟩
 ·refine pi_eq ?_ ?_ ?_ ?_ ?_ h1 hC.b.symm
  ·show y'.1.op = x.1.op; rw [h2]; exact hC.op
  ·show y'.1.r = x.1.r; rw [h2]; exact hC.r
  ·show y'.1.s = x.1.s; rw [h2]; exact hC.ss
  ·show y'.1.t = x.1.t; rw [h2]; exact hC.t
  ·show y'.1.n = x.1.n; rw [h2]; exact hC.n
 ·show y'.1.globals = G; rw [h2]; exact hC.g
 ·show y'.1.fV = V; rw [h2]; exact hC.v
 ·show y'.1.len = fl; rw [h2]; exact hC.l
def FineH (h : HT) : Prop := (0 ≤ h.2.2.1 ∧ h.2.2.1 ≤ 255) ∧ (0 ≤ h.1 ∧ h.1 ≤ 8) ∧ (0 ≤ h.2.1 ∧ h.2.1 ≤ 4) ∧ 0 < h.2.2.2 ∧ h.2.2.2 ≤ 4096
def ofHT (l : List HT) : List (Nat × Nat) := l.map (fun h => (h.1.toNat, h.2.1.toNat))
theorem AgC.call {b : Nat} {rv : Value} {bs : List UInt8} (hL : bs.length ≤ 1000000000000000) {G V fl R : Int} {hs : List HT} (hF : ∀ h ∈ hs, FineH h) (hn : hs.length ≤ 65535) (hV0 : 0 ≤ V) (hV1 : V ≤ 255) {r : X (WS × Unit)} {x : PI × DS} (h : AgC bs G V fl r x) :
 AgI bs G V fl (callX (reading b rv bs) (ofHT hs) r) ([70, 65, 66].foldl (letS bs G hs R V fl) x) := by
 have h70 := h.l70 (R := R) (b := b) (rv := rv) hL hn (ofHT hs).length (by unfold ofHT; simp)
 -- behind the callee's number it is one
 have hno : (letS bs G hs R V fl x 70).2.E = 0 → 0 ≤ (letS bs G hs R V fl x 70).1.n ∧ (letS bs G hs R V fl x 70).1.n < hs.length := by
  intro h0
  by_cases hx : x.2.E = 0
  ·have e : letS bs G hs R V fl x 70 = ({ x.1 with n := (thingD bs 2 x.2).1 }, (numD bs 2 (numW G hs.length fl 70) x.2).2) := if_pos hx
   rw [e] at h0 ⊢
   rw [numD_must bs 2 _ x.2 (numB 0 hs.length (thingD bs 2 x.2).1) 14 rfl] at h0
   have h1 : mustE (numB 0 hs.length (thingD bs 2 x.2).1) 14 (thingD bs 2 x.2).2.E = 0 := h0
   cases hb : numB 0 hs.length (thingD bs 2 x.2).1 with
   | true => unfold numB at hb; simp at hb; exact hb
   | false =>
     rw [hb] at h1
     unfold mustE at h1
     by_cases h2 : (thingD bs 2 x.2).2.E = 0
     ·simp [h2] at h1
     ·simp [h2] at h1
  ·rw [letS_shut hx] at h0
   exact absurd h0 hx
 show AgI bs G V fl (callX (reading b rv bs) (ofHT hs) r) (letS bs G hs R V fl (letS bs G hs R V fl (letS bs G hs R V fl x 70) 65) 66)
 generalize letS bs G hs R V fl x 70 = x1 at h70 hno ⊢
 unfold callX
 refine AgR.then h70 (fun hE => ?_) ?_
 ·rw [letS_shut (x := x1) hE, letS_shut hE]; exact ⟨rfl, rfl⟩
 intro y hO hC
 obtain ⟨n0, n1⟩ := hno hO.e
 have hlt : x1.1.n.toNat < hs.length := by omega
 have hyn : y.1.n.toNat = x1.1.n.toNat := by rw [hC.n]
 have hg : (ofHT hs).getD y.1.n.toNat (0, 0) = (hs[x1.1.n.toNat].1.toNat, hs[x1.1.n.toNat].2.1.toNat) := by
  rw [hyn]; unfold ofHT; rw [List.getD_eq_getElem?_getD, List.getElem?_map, List.getElem?_eq_getElem hlt]; rfl
 have hf := hF _ (List.getElem_mem hlt)
 have cP : calP hs x1.1.n = (hs[x1.1.n.toNat].1.toNat : Nat) := by
  unfold calP; rw [List.getElem?_eq_getElem hlt]; show hs[x1.1.n.toNat].1 = _; have := hf.2.1; omega
 have cR : calR hs x1.1.n = (hs[x1.1.n.toNat].2.1.toNat : Nat) := by
  unfold calR; rw [List.getElem?_eq_getElem hlt]; show hs[x1.1.n.toNat].2.1 = _; have := hf.2.2.1; omega
 rw [hg]
 have e : letS bs G hs R V fl x1 65 = ({ x1.1 with args := (listD bs V (calP hs x1.1.n) x1.2).1 }, (listD bs V (calP hs x1.1.n) x1.2).2) := if_pos hO.e
 rw [e]
 have hl := list_ag (b := b) (rv := rv) hL hO (by rw [hC.v]; exact hV0) (by rw [hC.v]; exact hV1) _ _ cP
 rw [hC.v] at hl
 refine AgR.then hl (fun hE => by rw [letS_shut hE]; exact ⟨rfl, rfl⟩) ?_
 rintro ⟨l, y'⟩ hO' ⟨h1, a, k, h2⟩
 simp only at h1 h2 hO' ⊢
 have hv' : y'.1.fV = V := by rw [h2]; exact hC.v
 have e' : letS bs G hs R V fl ({ x1.1 with args := (listD bs V (calP hs x1.1.n) x1.2).1 }, (listD bs V (calP hs x1.1.n) x1.2).2) 66 = ({ x1.1 with args := (listD bs V (calP hs x1.1.n) x1.2).1, rets := (listD bs V (calR hs x1.1.n) (listD bs V (calP hs x1.1.n) x1.2).2).1 }, (listD bs V (calR hs x1.1.n) (listD bs V (calP hs x1.1.n) x1.2).2).2) := if_pos hO'.e
 rw [e']
 have hl2 := list_ag (b := b) (rv := rv) hL hO' (by rw [hv']; exact hV0) (by rw [hv']; exact hV1) _ _ cR
 rw [hv'] at hl2
 refine AgR.then hl2 (fun _ => ⟨rfl, rfl⟩) ?_
 rintro ⟨l2, y2⟩ hO2 ⟨k1, a2, k2, k3⟩
 simp only at k1 k3 hO2 ⊢
 refine ⟨hO2, ?_, ?_, ?_, ?_⟩
 ·refine pi_eq ?_ ?_ ?_ ?_ ?_ h1 k1
  ·show y2.1.op = x1.1.op; rw [k3, h2]; exact hC.op
  ·show y2.1.r = x1.1.r; rw [k3, h2]; exact hC.r
  ·show y2.1.s = x1.1.s; rw [k3, h2]; exact hC.ss
  ·show y2.1.t = x1.1.t; rw [k3, h2]; exact hC.t
  ·show y2.1.n = x1.1.n; rw [k3, h2]; exact hC.n
 ·show y2.1.globals = G; rw [k3, h2]; exact hC.g
 ·show y2.1.fV = V; rw [k3, h2]; exact hC.v
 ·show y2.1.len = fl; rw [k3, h2]; exact hC.l
theorem instrD_fold (bs : List UInt8) (G : Int) (hs : List HT) (R V fl : Int) (last : Bool) (s : DS) (k : Nat) (h : (opD bs last s).1.op.toNat = k) : instrD bs G hs R V fl last s = (partsN k).toList.foldl (letS bs G hs R V fl) (opD bs last s) := by
 unfold instrD; rw [h]
theorem foldS_shut {bs : List UInt8} {G R V fl : Int} {hs : List HT} : ∀ (l : List UInt8) {x : PI × DS}, x.2.E ≠ 0 → l.foldl (letS bs G hs R V fl) x = x
 | [], _, _ => rfl
 | u :: l, x, h => by
   show l.foldl (letS bs G hs R V fl) (letS bs G hs R V fl x u) = x
   rw [letS_shut h]
   exact foldS_shut l h
theorem tail_ag {b : Nat} {rv : Value} {bs : List UInt8} (hL : bs.length ≤ 1000000000000000) {G V R : Int} {fl : Nat} {hs : List HT} (hF : ∀ h ∈ hs, FineH h) (hn : hs.length ≤ 65535) (hG0 : 0 ≤ G) (hG1 : G ≤ 16) (hV0 : 0 ≤ V) (hV1 : V ≤ 255) (hR : 0 ≤ R) (hfl : fl ≤ 4096)
 (i : Nat) (hi : i < fl) (y : WS × Unit) (t : DS) (hO : OkS bs y.1 t) (p : Int) (hq : t.q = p) (k : Nat) (hk : 1 ≤ k ∧ k ≤ 17) (hC : CorD G V fl y.1 ⟨k, 0, 0, 0, 0, [], []⟩) (X : PI × DS)
 (hX : X = (⟨k, 0, 0, 0, 0, [], []⟩, { t with L := opL k t.L, E := opE k true ((i : Int) == (fl : Int) - 1) t.L 0, o := toldO true (opE k true ((i : Int) == (fl : Int) - 1) t.L 0) t.q t.o })) :
 AgI bs G V fl (if 1 ≤ y.1.op ∧ y.1.op ≤ 17 then
  (if y.1.op = 15 then retX (reading b rv bs) R.toNat (frontOk (reading b rv bs) true false true i p y)
   else if y.1.op = 11 then callX (reading b rv bs) (ofHT hs) (frontOk (reading b rv bs) false false true i p y)
   else thenX (partsX (reading b rv bs) y.1.op.toNat (frontOk (reading b rv bs) (y.1.op == 13) (y.1.op == 6) true i p y)) fun y' => .ok (([], []), y'))
 else .error (12, p)) ((partsN k).toList.foldl (letS bs G hs R V fl) X) := by
 have hop : y.1.op = k := hC.op
 have hfr := fun (ends makes : Bool) (he : ends = ((k : Int) == 13 || (k : Int) == 15)) (hm : makes = ((k : Int) == 6)) => front_ag (b := b) (rv := rv) i hi ⟨k, 0, 0, 0, 0, [], []⟩ hC hO p hq (show 1 ≤ (k : Int) ∧ (k : Int) ≤ 17 by omega) ends makes he hm ((i : Int) == (fl : Int) - 1) rfl
 simp only at hfr
 rw [← hX] at hfr
 rw [hop, if_pos (show 1 ≤ (k : Int) ∧ (k : Int) ≤ 17 by omega)]
 clear hX hC hO hop
 rcases (show k = 1 ∨ k = 2 ∨ k = 3 ∨ k = 4 ∨ k = 5 ∨ k = 6 ∨ k = 7 ∨ k = 8 ∨ k = 9 ∨ k = 10 ∨ k = 11 ∨ k = 12 ∨ k = 13 ∨ k = 14 ∨ k = 15 ∨ k = 16 ∨ k = 17 by omega) with rfl | rfl | rfl | rfl | rfl | rfl | rfl | rfl | rfl | rfl | rfl | rfl | rfl | rfl | rfl | rfl | rfl
 case inr.inr.inr.inr.inr.inr.inr.inr.inr.inr.inl =>
  exact AgI.cast ((hfr false false rfl rfl).call (b := b) (rv := rv) hL hF hn hV0 hV1) ((if_neg (by decide)).trans (if_pos (by decide))) rfl
 case inr.inr.inr.inr.inr.inr.inr.inr.inr.inr.inr.inr.inr.inr.inl =>
  exact AgI.cast ((hfr true false rfl rfl).ret (b := b) (rv := rv) hL hV0 hV1 R.toNat (show R = (R.toNat : Int) by omega)) (if_pos (by decide)) rfl
 ·exact AgI.cast ((((hfr _ _ rfl rfl).l82 (b := b) (rv := rv) (hs := hs) (R := R) hL hV0 hV1).l105 (b := b) (rv := rv) (hs := hs) (R := R) hL).plain) ((if_neg (by decide)).trans (if_neg (by decide))) rfl
 ·exact AgI.cast ((((hfr _ _ rfl rfl).l82 (b := b) (rv := rv) (hs := hs) (R := R) hL hV0 hV1).l83 (b := b) (rv := rv) (hs := hs) (R := R) hL hV0 hV1).plain) ((if_neg (by decide)).trans (if_neg (by decide))) rfl
 ·exact AgI.cast (((((hfr _ _ rfl rfl).l82 (b := b) (rv := rv) (hs := hs) (R := R) hL hV0 hV1).l83 (b := b) (rv := rv) (hs := hs) (R := R) hL hV0 hV1).l84 (b := b) (rv := rv) (hs := hs) (R := R) hL hV0 hV1).plain) ((if_neg (by decide)).trans (if_neg (by decide))) rfl
 ·exact AgI.cast (((((hfr _ _ rfl rfl).l82 (b := b) (rv := rv) (hs := hs) (R := R) hL hV0 hV1).l83 (b := b) (rv := rv) (hs := hs) (R := R) hL hV0 hV1).l84 (b := b) (rv := rv) (hs := hs) (R := R) hL hV0 hV1).plain) ((if_neg (by decide)).trans (if_neg (by decide))) rfl
 ·exact AgI.cast ((((hfr _ _ rfl rfl).l82 (b := b) (rv := rv) (hs := hs) (R := R) hL hV0 hV1).l83 (b := b) (rv := rv) (hs := hs) (R := R) hL hV0 hV1).plain) ((if_neg (by decide)).trans (if_neg (by decide))) rfl
 ·exact AgI.cast ((((hfr _ _ rfl rfl).l82 (b := b) (rv := rv) (hs := hs) (R := R) hL hV0 hV1).l99 (b := b) (rv := rv) (hs := hs) (R := R) hL).plain) ((if_neg (by decide)).trans (if_neg (by decide))) rfl
 ·exact AgI.cast (((((hfr _ _ rfl rfl).l82 (b := b) (rv := rv) (hs := hs) (R := R) hL hV0 hV1).l83 (b := b) (rv := rv) (hs := hs) (R := R) hL hV0 hV1).l102 (b := b) (rv := rv) (hs := hs) (R := R) hL).plain) ((if_neg (by decide)).trans (if_neg (by decide))) rfl
 ·exact AgI.cast (((((hfr _ _ rfl rfl).l82 (b := b) (rv := rv) (hs := hs) (R := R) hL hV0 hV1).l83 (b := b) (rv := rv) (hs := hs) (R := R) hL hV0 hV1).l102 (b := b) (rv := rv) (hs := hs) (R := R) hL).plain) ((if_neg (by decide)).trans (if_neg (by decide))) rfl
 ·exact AgI.cast ((((hfr _ _ rfl rfl).l82 (b := b) (rv := rv) (hs := hs) (R := R) hL hV0 hV1).l103 (b := b) (rv := rv) (hs := hs) (R := R) hL hG0 hG1).plain) ((if_neg (by decide)).trans (if_neg (by decide))) rfl
 ·exact AgI.cast ((((hfr _ _ rfl rfl).l83 (b := b) (rv := rv) (hs := hs) (R := R) hL hV0 hV1).l103 (b := b) (rv := rv) (hs := hs) (R := R) hL hG0 hG1).plain) ((if_neg (by decide)).trans (if_neg (by decide))) rfl
 ·exact AgI.cast (((hfr _ _ rfl rfl).l83 (b := b) (rv := rv) (hs := hs) (R := R) hL hV0 hV1).plain) ((if_neg (by decide)).trans (if_neg (by decide))) rfl
 ·exact AgI.cast (((hfr _ _ rfl rfl).l74 (b := b) (rv := rv) (hs := hs) (R := R) hL (by omega) (by omega)).plain) ((if_neg (by decide)).trans (if_neg (by decide))) rfl
 ·exact AgI.cast ((((hfr _ _ rfl rfl).l83 (b := b) (rv := rv) (hs := hs) (R := R) hL hV0 hV1).l74 (b := b) (rv := rv) (hs := hs) (R := R) hL (by omega) (by omega)).plain) ((if_neg (by decide)).trans (if_neg (by decide))) rfl
 ·exact AgI.cast (((hfr _ _ rfl rfl).l82 (b := b) (rv := rv) (hs := hs) (R := R) hL hV0 hV1).plain) ((if_neg (by decide)).trans (if_neg (by decide))) rfl
 ·exact AgI.cast (((((hfr _ _ rfl rfl).l82 (b := b) (rv := rv) (hs := hs) (R := R) hL hV0 hV1).l83 (b := b) (rv := rv) (hs := hs) (R := R) hL hV0 hV1).l84 (b := b) (rv := rv) (hs := hs) (R := R) hL hV0 hV1).plain) ((if_neg (by decide)).trans (if_neg (by decide))) rfl
theorem instr_ag {b : Nat} {rv : Value} {bs : List UInt8} (hL : bs.length ≤ 1000000000000000) {G V R : Int} {fl : Nat} {hs : List HT} (hF : ∀ h ∈ hs, FineH h) (hn : hs.length ≤ 65535) (hG0 : 0 ≤ G) (hG1 : G ≤ 16) (hV0 : 0 ≤ V) (hV1 : V ≤ 255) (hR : 0 ≤ R) (hfl : fl ≤ 4096)
 {s : DS} (i : Nat) (hi : i < fl) (x : WS × Unit) (hO : OkS bs x.1 s) (hg : x.1.globals = G) (hv : x.1.fV = V) (hl : x.1.len = fl) :
 AgI bs G V fl (instrX (reading b rv bs) (ofHT hs) R.toNat i (blank x.1, ())) (instrD bs G hs R V fl ((i : Int) == (fl : Int) - 1) s) := by
 unfold instrX
 have hO' : OkS bs (blank x.1) s := ⟨hO.e, hO.at', hO.le, hO.lo, hO.l0, hO.l1⟩
 refine AgR.then (next_ag (b := b) (rv := rv) (x := (blank x.1, ())) hL hO' 154 1 (by omega)) (fun hE => ?_) ?_
 ·have e0 : opD bs ((i : Int) == (fl : Int) - 1) s = (⟨(thingD bs 1 s).1, 0, 0, 0, 0, [], []⟩, (thingD bs 1 s).2) := by
   unfold opD; rw [if_neg hE]
  unfold instrD
  rw [e0, foldS_shut _ hE]
  exact ⟨rfl, rfl⟩
 rintro y hO1 ⟨hy, hT⟩
 have hE := hO1.e
 have hb := thingD_byte (bs := bs) (s := s)
 obtain ⟨k, hk⟩ : ∃ k : Nat, (thingD bs 1 s).1 = k := ⟨(thingD bs 1 s).1.toNat, by omega⟩
 have hC : CorD G V fl y.1 ⟨k, 0, 0, 0, 0, [], []⟩ := by rw [hy, hk]; exact ⟨hg, hv, hl, rfl, rfl, rfl, rfl, rfl, rfl, rfl⟩
 have hq : (thingD bs 1 s).2.q = (blank x.1).at' := by rw [hT]; exact hO.at'.symm
 have e0 : opD bs ((i : Int) == (fl : Int) - 1) s = (⟨k, 0, 0, 0, 0, [], []⟩, { (thingD bs 1 s).2 with L := opL k (thingD bs 1 s).2.L, E := opE k true ((i : Int) == (fl : Int) - 1) (thingD bs 1 s).2.L 0, o := toldO true (opE k true ((i : Int) == (fl : Int) - 1) (thingD bs 1 s).2.L 0) (thingD bs 1 s).2.q (thingD bs 1 s).2.o }) := by
  unfold opD; rw [if_pos hE, hk]
 have hN : (opD bs ((i : Int) == (fl : Int) - 1) s).1.op.toNat = k := by rw [e0]; simp
 by_cases hop : 1 ≤ k ∧ k ≤ 17
 ·exact AgI.cast (tail_ag (b := b) (rv := rv) hL hF hn hG0 hG1 hV0 hV1 hR hfl i hi y _ hO1 (blank x.1).at' hq k hop hC _ e0) rfl (instrD_fold bs G hs R V fl _ s k hN)
 ·have hyo : y.1.op = k := hC.op
  have hob : opB k = false := by unfold opB; simp; omega
  have e1 : opE k true ((i : Int) == (fl : Int) - 1) (thingD bs 1 s).2.L 0 = 12 := by
   unfold opE
   rw [hob, mustE_nn, mustE_ys, mustE_kp (E := 12) (by decide), mustE_kp (E := 12) (by decide)]
  have e2 : (partsN k).toList = [] := by
   rcases Nat.lt_or_ge k 18 with h | h
   ·have : k = 0 := by omega
    rw [this]; rfl
   ·exact parts_far _ h
  rw [instrD_fold bs G hs R V fl _ s k hN, e0, e1, e2]
  refine AgI.cast (q := .error (12, (blank x.1).at')) ?_ (if_neg (by rw [hyo]; omega)) rfl
  refine ⟨rfl, show (12 : Int) ≠ 0 by decide, ?_⟩
  show toldO true 12 (thingD bs 1 s).2.q (thingD bs 1 s).2.o = (blank x.1).at'
  rw [← hq]
  exact if_pos ⟨rfl, by decide, by decide⟩
theorem code_ag {b : Nat} {rv : Value} {bs : List UInt8} (hL : bs.length ≤ 1000000000000000) {G V R : Int} {fl : Nat} {hs : List HT} (hF : ∀ h ∈ hs, FineH h) (hn : hs.length ≤ 65535) (hG0 : 0 ≤ G) (hG1 : G ≤ 16) (hV0 : 0 ≤ V) (hV1 : V ≤ 255) (hR : 0 ≤ R) (hfl : fl ≤ 4096) :
 ∀ (m : Nat), m ≤ fl → ∀ (x : WS × Unit) (s : DS), OkS bs x.1 s → x.1.globals = G → x.1.fV = V → x.1.len = fl →
  AgR bs (fun q : List AI × (WS × Unit) => q.2.1) (codeX (reading b rv bs) (ofHT hs) R.toNat fl m x) (codeD bs G hs R V fl m s).2 (fun q => (codeD bs G hs R V fl m s).1 = q.1.map pi ∧ q.2.1.globals = G)
 | 0, _, x, s, h, hg, _, _ => ⟨h, rfl, hg⟩
 | m + 1, hm, x, s, h, hg, hv, hl => by
   have e : codeD bs G hs R V fl (m + 1) s = ((instrD bs G hs R V fl (m == 0) s).1 :: (codeD bs G hs R V fl m (instrD bs G hs R V fl (m == 0) s).2).1, (codeD bs G hs R V fl m (instrD bs G hs R V fl (m == 0) s).2).2) := if_pos h.e
   have hi := instr_ag (b := b) (rv := rv) hL hF hn hG0 hG1 hV0 hV1 hR hfl (fl - (m + 1)) (by omega) x h hg hv hl
   have hla : (((fl - (m + 1) : Nat) : Int) == (fl : Int) - 1) = (m == 0) := by rw [Bool.eq_iff_iff]; simp; omega
   rw [hla] at hi
   rw [e]
   refine AgR.cast ?_ (codeX_then (reading b rv bs) (ofHT hs) R.toNat fl m x) rfl
   refine AgR.then hi (fun hE => by rw [codeD_shut hE]; exact ⟨rfl, rfl⟩) ?_
   rintro ⟨ll, y⟩ hO ⟨h1, h2, h3, h4⟩
   simp only at h1 h2 h3 h4 hO ⊢
   refine AgR.then (code_ag (b := b) (rv := rv) hL hF hn hG0 hG1 hV0 hV1 hR hfl m (by omega) y _ hO h2 h3 h4) (fun _ => ⟨rfl, rfl⟩) ?_
   rintro ⟨l, y'⟩ hO' ⟨k1, k2⟩
   simp only at k1 k2 hO' ⊢
   exact ⟨hO', by rw [h1, k1]; rfl, k2⟩
theorem thenE {α β : Type} {c : X α} {p : α → X β} {z : Int × Int} (h : c = .error z) : thenX c p = .error z := by rw [h]; rfl
theorem thenK {α β : Type} {c : X α} {p : α → X β} {y : α} (h : c = .ok y) : thenX c p = p y := by rw [h]; rfl
theorem next_yes {b : Nat} {rv : Value} {bs : List UInt8} (hL : bs.length ≤ 1000000000000000) {x : WS × Unit} {s : DS} (h : OkS bs x.1 s) (o size : Nat) (hs8 : size ≤ 8) (hf : s.p + size ≤ bs.length) :
 nextX (reading b rv bs) o size x = .ok ({ x.1.set o (thingD bs size s).1 with at' := (s.p + size : Nat) }, ()) ∧ (thingD bs size s).2 = { s with p := s.p + size, q := s.p } ∧ OkS bs { x.1.set o (thingD bs size s).1 with at' := (s.p + size : Nat) } (thingD bs size s).2 := by
 have h1 := next_ag (b := b) (rv := rv) hL h o size hs8
 have e : (thingD bs size s).2.E = 0 := by
  unfold thingD
  rw [if_pos h.e]
  unfold rd
  rw [if_pos hf]
  exact h.e
 cases hx : nextX (reading b rv bs) o size x with
 | error z =>
   rw [hx] at h1
   exact absurd e (by rw [h1.1]; exact h1.2.1)
 | ok y =>
   rw [hx] at h1
   obtain ⟨k1, k2, k3⟩ := h1
   refine ⟨congrArg Except.ok k2, k3, ?_⟩
   have : y.1 = { x.1.set o (thingD bs size s).1 with at' := (s.p + size : Nat) } := by rw [k2]
   rw [← this]
   exact k1
theorem next_no {b : Nat} {rv : Value} {bs : List UInt8} {x : WS × Unit} {s : DS} (h : OkS bs x.1 s) (o size : Nat) (hf : ¬ s.p + size ≤ bs.length) : nextX (reading b rv bs) o size x = .error (11, bs.length) := by
 have hp : x.1.at'.toNat = s.p := by rw [h.at']; simp
 unfold nextX
 simp only [reading, hp]
 unfold rd
 rw [if_neg hf]
theorem head_ag {b : Nat} {rv : Value} {bs : List UInt8} (hL : bs.length ≤ 1000000000000000) {x : WS × Unit} {s : DS} (h : OkS bs x.1 s) :
 AgR bs (fun y : WS × Unit => y.1) (headX (reading b rv bs) x) (headD bs s).2 (fun y => (headD bs s).1 = (y.1.fP, y.1.fR, y.1.fV, y.1.len) ∧ FineH (headD bs s).1 ∧ y.1.globals = x.1.globals) := by
 refine AgR.cast ?_ (headX_then (reading b rv bs) x) rfl
 unfold headD
 by_cases hsh : bs.length < s.p + 5
 ·rw [if_pos hsh]
  have key : ∀ r : X (WS × Unit), r = .error (11, (bs.length : Int)) → AgR bs (fun y : WS × Unit => y.1) r { s with E := 11, o := (bs.length : Nat) } (fun y => ((0 : Int), (0 : Int), (0 : Int), (0 : Int)) = (y.1.fP, y.1.fR, y.1.fV, y.1.len) ∧ FineH ((0 : Int), (0 : Int), (0 : Int), (0 : Int)) ∧ y.1.globals = x.1.globals) := fun r hr => by
   rw [hr]; exact ⟨rfl, show (11 : Int) ≠ 0 by decide, rfl⟩
  refine key _ ?_
  by_cases h1 : s.p + 1 ≤ bs.length
  rotate_left
  ·exact thenE (next_no h 149 1 h1)
  obtain ⟨e1, t1, O1⟩ := next_yes (b := b) (rv := rv) hL h 149 1 (by omega) h1
  refine (thenK e1).trans ?_
  show thenX (nextX (reading b rv bs) 150 1 ({ x.1.set 149 (thingD bs 1 s).1 with at' := (s.p + 1 : Nat) }, ())) _ = _
  have p1 : (thingD bs 1 s).2.p = s.p + 1 := by rw [t1]
  generalize ({ x.1.set 149 (thingD bs 1 s).1 with at' := (s.p + 1 : Nat) } : WS) = x1 at O1 ⊢
  generalize (thingD bs 1 s).2 = s1 at O1 p1
  by_cases h2 : s.p + 2 ≤ bs.length
  rotate_left
  ·exact thenE (next_no (x := (x1, ())) O1 150 1 (by rw [p1]; omega))
  obtain ⟨e2, t2, O2⟩ := next_yes (b := b) (rv := rv) (x := (x1, ())) hL O1 150 1 (by omega) (by rw [p1]; omega)
  refine (thenK e2).trans ?_
  show thenX (nextX (reading b rv bs) 151 1 ({ x1.set 150 (thingD bs 1 s1).1 with at' := (s1.p + 1 : Nat) }, ())) _ = _
  have p2 : (thingD bs 1 s1).2.p = s.p + 2 := by rw [t2, p1]
  generalize ({ x1.set 150 (thingD bs 1 s1).1 with at' := (s1.p + 1 : Nat) } : WS) = x2 at O2 ⊢
  generalize (thingD bs 1 s1).2 = s2 at O2 p2
  by_cases h3 : s.p + 3 ≤ bs.length
  rotate_left
  ·exact thenE (next_no (x := (x2, ())) O2 151 1 (by rw [p2]; omega))
  obtain ⟨e3, t3, O3⟩ := next_yes (b := b) (rv := rv) (x := (x2, ())) hL O2 151 1 (by omega) (by rw [p2]; omega)
  refine (thenK e3).trans ?_
  show thenX (nextX (reading b rv bs) 153 2 ({ x2.set 151 (thingD bs 1 s2).1 with at' := (s2.p + 1 : Nat) }, ())) _ = _
  have p3 : (thingD bs 1 s2).2.p = s.p + 3 := by rw [t3, p2]
  generalize ({ x2.set 151 (thingD bs 1 s2).1 with at' := (s2.p + 1 : Nat) } : WS) = x3 at O3 ⊢
  generalize (thingD bs 1 s2).2 = s3 at O3 p3
  exact thenE (next_no (x := (x3, ())) O3 153 2 (by rw [p3]; omega))
 ·rw [if_neg hsh]
  obtain ⟨e1, t1, O1⟩ := next_yes (b := b) (rv := rv) hL h 149 1 (by omega) (by omega)
  have p1 : (thingD bs 1 s).2.p = s.p + 1 := by rw [t1]
  obtain ⟨e2, t2, O2⟩ := next_yes (b := b) (rv := rv) (x := ({ x.1.set 149 (thingD bs 1 s).1 with at' := (s.p + 1 : Nat) }, ())) hL O1 150 1 (by omega) (by rw [p1]; omega)
  have p2 : (thingD bs 1 (thingD bs 1 s).2).2.p = s.p + 2 := by rw [t2, p1]
  obtain ⟨e3, t3, O3⟩ := next_yes (b := b) (rv := rv) (x := ({ ({ x.1.set 149 (thingD bs 1 s).1 with at' := (s.p + 1 : Nat) } : WS).set 150 (thingD bs 1 (thingD bs 1 s).2).1 with at' := ((thingD bs 1 s).2.p + 1 : Nat) }, ())) hL O2 151 1 (by omega) (by rw [p2]; omega)
  have p3 : (thingD bs 1 (thingD bs 1 (thingD bs 1 s).2).2).2.p = s.p + 3 := by rw [t3, p2]
  obtain ⟨e4, t4, O4⟩ := next_yes (b := b) (rv := rv) (x := ({ ({ ({ x.1.set 149 (thingD bs 1 s).1 with at' := (s.p + 1 : Nat) } : WS).set 150 (thingD bs 1 (thingD bs 1 s).2).1 with at' := ((thingD bs 1 s).2.p + 1 : Nat) } : WS).set 151 (thingD bs 1 (thingD bs 1 (thingD bs 1 s).2).2).1 with at' := ((thingD bs 1 (thingD bs 1 s).2).2.p + 1 : Nat) }, ())) hL O3 153 2 (by omega) (by rw [p3]; omega)
  have ef : fourD bs s = (((thingD bs 1 s).1, (thingD bs 1 (thingD bs 1 s).2).1, (thingD bs 1 (thingD bs 1 (thingD bs 1 s).2).2).1, (thingD bs 2 (thingD bs 1 (thingD bs 1 (thingD bs 1 s).2).2).2).1), (thingD bs 2 (thingD bs 1 (thingD bs 1 (thingD bs 1 s).2).2).2).2) := rfl
  rw [ef]
  refine AgR.cast ?_ (thenK e1) rfl
  show AgR bs _ (thenX (nextX (reading b rv bs) 150 1 ({ x.1.set 149 (thingD bs 1 s).1 with at' := (s.p + 1 : Nat) }, ())) _) _ _
  refine AgR.cast ?_ (thenK e2) rfl
  show AgR bs _ (thenX (nextX (reading b rv bs) 151 1 ({ ({ x.1.set 149 (thingD bs 1 s).1 with at' := (s.p + 1 : Nat) } : WS).set 150 (thingD bs 1 (thingD bs 1 s).2).1 with at' := ((thingD bs 1 s).2.p + 1 : Nat) }, ())) _) _ _
  refine AgR.cast ?_ (thenK e3) rfl
  show AgR bs _ (thenX (nextX (reading b rv bs) 153 2 ({ ({ ({ x.1.set 149 (thingD bs 1 s).1 with at' := (s.p + 1 : Nat) } : WS).set 150 (thingD bs 1 (thingD bs 1 s).2).1 with at' := ((thingD bs 1 s).2.p + 1 : Nat) } : WS).set 151 (thingD bs 1 (thingD bs 1 (thingD bs 1 s).2).2).1 with at' := ((thingD bs 1 (thingD bs 1 s).2).2.p + 1 : Nat) }, ())) _) _ _
  refine AgR.cast ?_ (thenK e4) rfl
  have e5 : (thingD bs 2 (thingD bs 1 (thingD bs 1 (thingD bs 1 s).2).2).2).2.E = 0 := O4.e
  clear e1 e2 e3 e4 t1 t2 t3 t4 O1 O2 O3 ef
  generalize (thingD bs 2 (thingD bs 1 (thingD bs 1 (thingD bs 1 s).2).2).2).2 = t at O4 e5 ⊢
  generalize (thingD bs 2 (thingD bs 1 (thingD bs 1 (thingD bs 1 s).2).2).2).1 = n at O4 ⊢
  generalize (thingD bs 1 (thingD bs 1 (thingD bs 1 s).2).2).1 = V at O4 ⊢
  generalize (thingD bs 1 (thingD bs 1 s).2).1 = R at O4 ⊢
  generalize (thingD bs 1 s).1 = P at O4 ⊢
  obtain ⟨y, g8⟩ : ∃ y : WS, y = { ({ ({ ({ x.1.set 149 P with at' := (s.p + 1 : Nat) } : WS).set 150 R with at' := ((thingD bs 1 s).2.p + 1 : Nat) } : WS).set 151 V with at' := ((thingD bs 1 (thingD bs 1 s).2).2.p + 1 : Nat) } : WS).set 153 n with at' := ((thingD bs 1 (thingD bs 1 (thingD bs 1 s).2).2).2.p + 2 : Nat) } := ⟨_, rfl⟩
  have g2 : y.fP = P := by rw [g8]; rfl
  have g3 : y.fR = R := by rw [g8]; rfl
  have g4 : y.fV = V := by rw [g8]; rfl
  have g5 : y.len = n := by rw [g8]; rfl
  have g6 : y.globals = x.1.globals := by rw [g8]; rfl
  have g7 : OkS bs y t := by rw [g8]; exact O4
  show AgR bs (fun y : WS × Unit => y.1) (thenX (headOk ({ ({ ({ ({ x.1.set 149 P with at' := (s.p + 1 : Nat) } : WS).set 150 R with at' := ((thingD bs 1 s).2.p + 1 : Nat) } : WS).set 151 V with at' := ((thingD bs 1 (thingD bs 1 s).2).2.p + 1 : Nat) } : WS).set 153 n with at' := ((thingD bs 1 (thingD bs 1 (thingD bs 1 s).2).2).2.p + 2 : Nat) }) x.1.at') fun _ => locX (reading b rv bs) V x.1.at' ({ ({ ({ ({ x.1.set 149 P with at' := (s.p + 1 : Nat) } : WS).set 150 R with at' := ((thingD bs 1 s).2.p + 1 : Nat) } : WS).set 151 V with at' := ((thingD bs 1 (thingD bs 1 s).2).2.p + 1 : Nat) } : WS).set 153 n with at' := ((thingD bs 1 (thingD bs 1 (thingD bs 1 s).2).2).2.p + 2 : Nat) }, ())) (askH (P, R, V, n) s.p t) (fun y => (P, R, V, n) = (y.1.fP, y.1.fR, y.1.fV, y.1.len) ∧ FineH (P, R, V, n) ∧ y.1.globals = x.1.globals)
  rw [← g8]
  clear g8 O4 p1 p2 p3
  rw [headOk_sml, g2, g3, g4, g5]
  unfold askH
  rw [if_pos e5]
  simp only
  have hto : ∀ E o, E ≠ 0 → E ≠ 11 → toldO true E (s.p : Int) o = x.1.at' := fun E o k1 k2 => by rw [h.at']; exact if_pos ⟨rfl, k1, k2⟩
  cases hsm : (smallB P R V && decide (n ≤ 4096)) with
  | false =>
    have e2 : headE2 P R V n 0 = 20 := by unfold headE2; rw [hsm, mustE_nn, mustE_kp (by decide)]
    have e3 : headE P R V n t.L 0 = 20 := by unfold headE; rw [e2, mustE_kp (by decide)]
    rw [if_neg (by decide), e3]
    exact ⟨rfl, show (20 : Int) ≠ 0 by decide, hto 20 t.o (by decide) (by decide)⟩
  | true =>
    rw [if_pos rfl]
    by_cases hn1 : 0 < n
    ·have e2 : headE2 P R V n 0 = 0 := by
      unfold headE2; rw [hsm, mustE_ys, show decide (1 ≤ n) = true by simp; omega, mustE_ys]
     have e3 : headL P R V n t.L 0 = t.L + V := by unfold headL; rw [e2]; rfl
     have hsm2 : (0 ≤ P ∧ P ≤ 8 ∧ P ≤ V ∧ 0 ≤ R ∧ R ≤ 4 ∧ V ≤ 255) ∧ n ≤ 4096 := by
      unfold smallB at hsm; simp at hsm; omega
     rw [if_pos hn1, e3]
     show AgR bs (fun y : WS × Unit => y.1) (locX (reading b rv bs) V x.1.at' (y, ())) _ _
     unfold locX headE
     rw [e2, e3]
     have e4 : wrap64 (y.locs + V) = t.L + V + 1 := by
      have h1 := g7.lo
      have h2 := g7.l0
      have h3 := g7.l1
      rw [h1]
      rw [w64r (by omega) (by omega)]
      omega
     simp only
     rw [e4]
     by_cases hle : t.L + V + 1 ≤ 1048576
     ·rw [if_pos hle, show decide (t.L + V + 1 ≤ 1048576) = true by simpa using hle, mustE_ys]
      have h2 := g7.l0
      refine ⟨⟨rfl, g7.at', g7.le, rfl, ?_, hle⟩, ?_, ⟨⟨?_, ?_⟩, ⟨?_, ?_⟩, ⟨?_, ?_⟩, ?_, ?_⟩, g6⟩
      ·show 0 ≤ t.L + V; omega
      ·show (P, R, V, n) = (y.fP, y.fR, y.fV, y.len); rw [g2, g3, g4, g5]
      all_goals simp only; omega
     ·rw [if_neg hle, show decide (t.L + V + 1 ≤ 1048576) = false by simpa using hle, mustE_nn]
      exact ⟨rfl, show (21 : Int) ≠ 0 by decide, hto 21 t.o (by decide) (by decide)⟩
    ·have e2 : headE2 P R V n 0 = 19 := by
      unfold headE2; rw [hsm, mustE_ys, show decide (1 ≤ n) = false by simp; omega, mustE_nn]
     have e3 : headE P R V n t.L 0 = 19 := by unfold headE; rw [e2, mustE_kp (by decide)]
     rw [if_neg hn1, e3]
     exact ⟨rfl, show (19 : Int) ≠ 0 by decide, hto 19 t.o (by decide) (by decide)⟩
def tup (h : HD) : HT := (h.P, h.R, h.V, h.len)
theorem headsD_sh {bs : List UInt8} {m : Nat} {s : DS} (h : s.E ≠ 0) : headsD bs m s = ([], s) := by
 cases m with
 | zero => rfl
 | succ m => exact if_neg h
theorem heads_ag {b : Nat} {rv : Value} {bs : List UInt8} (hL : bs.length ≤ 1000000000000000) : ∀ (m : Nat) (x : WS × Unit) (s : DS), OkS bs x.1 s →
 AgR bs (fun q : List HD × (WS × Unit) => q.2.1) (headsX (reading b rv bs) m x) (headsD bs m s).2 (fun q => (headsD bs m s).1 = q.1.map tup ∧ (∀ h ∈ (headsD bs m s).1, FineH h) ∧ q.2.1.globals = x.1.globals)
 | 0, x, s, h => ⟨h, rfl, (fun _ h => by cases h), rfl⟩
 | m + 1, x, s, h => by
   have e : headsD bs (m + 1) s = ((headD bs s).1 :: (headsD bs m (headD bs s).2).1, (headsD bs m (headD bs s).2).2) := if_pos h.e
   rw [e]
   refine AgR.cast ?_ (headsX_then (reading b rv bs) m x) rfl
   refine AgR.then (head_ag (b := b) (rv := rv) hL h) (fun hE => by rw [headsD_sh hE]; exact ⟨rfl, rfl⟩) ?_
   rintro y hO ⟨h1, h2, h3⟩
   refine AgR.then (heads_ag (b := b) (rv := rv) hL m y _ hO) (fun _ => ⟨rfl, rfl⟩) ?_
   rintro ⟨l, y'⟩ hO' ⟨k1, k2, k3⟩
   simp only at k1 k2 k3 hO' ⊢
   refine ⟨hO', ?_, ?_, k3.trans h3⟩
   ·rw [h1, k1]; rfl
   ·intro h hh
    rcases List.mem_cons.1 hh with rfl | hh
    ·exact h2
    ·exact k2 h hh
theorem headsD_len (bs : List UInt8) : ∀ (m : Nat) (s : DS), (headsD bs m s).1.length ≤ m
 | 0, _ => Nat.le_refl _
 | m + 1, s => by
   unfold headsD
   split
   ·have := headsD_len bs m (headD bs s).2
    simp; exact this
   ·simp
theorem funcs_ag {b : Nat} {rv : Value} {bs : List UInt8} (hL : bs.length ≤ 1000000000000000) {G : Int} {hs : List HT} (hF : ∀ h ∈ hs, FineH h) (hn : hs.length ≤ 65535) (hG0 : 0 ≤ G) (hG1 : G ≤ 16) : ∀ (l : List HD), (∀ h ∈ l, FineH (tup h)) → ∀ (x : WS × Unit) (s : DS), OkS bs x.1 s → x.1.globals = G →
 AgR bs (fun q : List (List AI) × (WS × Unit) => q.2.1) (funcsX (reading b rv bs) (ofHT hs) l x) (funcsD bs G hs (l.map tup) s).2 (fun q => (funcsD bs G hs (l.map tup) s).1 = q.1.map (List.map pi))
 | [], _, x, s, h, _ => ⟨h, rfl⟩
 | d :: r, hd, x, s, h, hg => by
   have hf := hd d List.mem_cons_self
   obtain ⟨⟨f1, f2⟩, -, ⟨f5, f6⟩, f7, f8⟩ := hf
   have e : funcsD bs G hs ((d :: r).map tup) s = ((codeD bs G hs d.R d.V d.len d.len.toNat s).1 :: (funcsD bs G hs (r.map tup) (codeD bs G hs d.R d.V d.len d.len.toNat s).2).1, (funcsD bs G hs (r.map tup) (codeD bs G hs d.R d.V d.len d.len.toNat s).2).2) := if_pos h.e
   rw [e]
   refine AgR.cast ?_ (funcsX_then (reading b rv bs) (ofHT hs) d r x) rfl
   have hlen : ((d.len.toNat : Nat) : Int) = d.len := by have : 0 < d.len := f7; omega
   have hc := code_ag (b := b) (rv := rv) (R := d.R) (fl := d.len.toNat) hL hF hn hG0 hG1 f1 f2 f5 (by have : d.len ≤ 4096 := f8; omega) d.len.toNat (Nat.le_refl _) (inFunc d x.1, ()) s ⟨h.e, h.at', h.le, h.lo, h.l0, h.l1⟩ hg rfl rfl
   simp only [tup] at hc
   rw [hlen] at hc
   refine AgR.then hc (fun hE => by rw [funcsD_shut hE]; exact ⟨rfl, rfl⟩) ?_
   rintro ⟨c, y⟩ hO ⟨h1, h2⟩
   simp only at h1 h2 hO ⊢
   refine AgR.then (funcs_ag (b := b) (rv := rv) hL hF hn hG0 hG1 r (fun h hh => hd h (List.mem_cons_of_mem _ hh)) y _ hO h2) (fun _ => ⟨rfl, rfl⟩) ?_
   rintro ⟨ls, y'⟩ hO' k1
   simp only at k1 hO' ⊢
   exact ⟨hO', by rw [h1, k1]; rfl⟩
theorem decD_is {rv : Value} {bs : List UInt8} (hL : bs.length ≤ 1000000000000000) (num fv : Value) : match throughX 0 rv bs (WS.start num) fv with
 | .error z => ErS z (decD bs).2.2.2
 | .ok (G, done, ls) => (decD bs).2.2.2.E = 0 ∧ (decD bs).1 = G ∧ (decD bs).2.1 = done.map tup ∧ (decD bs).2.2.1 = ls.map (List.map pi) := by
 have goal : AgR bs (fun _ : Int × List HD × List (List AI) => ({ WS.start num with at' := (decD bs).2.2.2.p, locs := (decD bs).2.2.2.L + 1 } : WS)) (throughX 0 rv bs (WS.start num) fv) (decD bs).2.2.2 (fun q => (decD bs).1 = q.1 ∧ (decD bs).2.1 = q.2.1.map tup ∧ (decD bs).2.2.1 = q.2.2.map (List.map pi)) := by
  rw [throughX_body]
  by_cases hm : bs.take 6 = magicL.take bs.length
  rotate_left
  ·rw [if_neg hm]
   have e1 : magicD bs ⟨0, 0, 0, 0, 0⟩ = ⟨0, 0, 0, 0, 10⟩ := if_neg hm
   have e2 : decD bs = (0, [], [], ⟨0, 0, 0, 0, 10⟩) := by
    unfold decD
    rw [e1]
    have g1 : globD bs ⟨0, 0, 0, 0, 10⟩ = (0, ⟨0, 0, 0, 0, 10⟩) := by unfold globD; rw [thingD_shut (by decide)]; rfl
    rw [g1]
    have g2 : manyD bs ⟨0, 0, 0, 0, 10⟩ = (0, ⟨0, 0, 0, 0, 10⟩) := by unfold manyD; rw [thingD_shut (by decide)]; rfl
    simp only
    rw [g2]
    simp only
    rw [headsD_sh (by decide)]
    simp only
    rw [funcsD_shut (by decide)]
    rfl
   rw [e2]
   exact ⟨rfl, show (10 : Int) ≠ 0 by decide, rfl⟩
  ·rw [if_pos hm]
   have hend : ∀ s : DS, s.E ≠ 0 → (endD bs s).E = s.E ∧ (endD bs s).o = s.o := fun s h => by
    unfold endD; rw [if_neg (fun k => h k.1)]; exact ⟨rfl, rfl⟩
   have e1 : magicD bs ⟨0, 0, 0, 0, 0⟩ = (thingD bs 6 ⟨0, 0, 0, 0, 0⟩).2 := if_pos hm
   by_cases h6 : 6 ≤ bs.length
   ·have e2 : (thingD bs 6 ⟨0, 0, 0, 0, 0⟩).2 = ⟨6, 0, 0, 0, 0⟩ := by
     unfold thingD
     rw [if_pos rfl]
     unfold rd
     simp only
     rw [if_pos (by omega)]
     rfl
    have hO : OkS bs (WS.start num) ⟨6, 0, 0, 0, 0⟩ := ⟨rfl, rfl, h6, rfl, by decide, by decide⟩
    unfold decD
    rw [e1, e2]
    simp only
    unfold bodyX
    refine AgR.then (s := (funcsD bs (globD bs ⟨6, 0, 0, 0, 0⟩).1 (headsD bs (manyD bs (globD bs ⟨6, 0, 0, 0, 0⟩).2).1.toNat (manyD bs (globD bs ⟨6, 0, 0, 0, 0⟩).2).2).1 (headsD bs (manyD bs (globD bs ⟨6, 0, 0, 0, 0⟩).2).1.toNat (manyD bs (globD bs ⟨6, 0, 0, 0, 0⟩).2).2).1 (headsD bs (manyD bs (globD bs ⟨6, 0, 0, 0, 0⟩).2).1.toNat (manyD bs (globD bs ⟨6, 0, 0, 0, 0⟩).2).2).2).2)
     (st := fun q : (Int × List HD × List (List AI)) × (WS × Unit) => q.2.1)
     (P := fun q => (globD bs ⟨6, 0, 0, 0, 0⟩).1 = q.1.1 ∧ (headsD bs (manyD bs (globD bs ⟨6, 0, 0, 0, 0⟩).2).1.toNat (manyD bs (globD bs ⟨6, 0, 0, 0, 0⟩).2).2).1 = q.1.2.1.map tup ∧ (funcsD bs (globD bs ⟨6, 0, 0, 0, 0⟩).1 (headsD bs (manyD bs (globD bs ⟨6, 0, 0, 0, 0⟩).2).1.toNat (manyD bs (globD bs ⟨6, 0, 0, 0, 0⟩).2).2).1 (headsD bs (manyD bs (globD bs ⟨6, 0, 0, 0, 0⟩).2).1.toNat (manyD bs (globD bs ⟨6, 0, 0, 0, 0⟩).2).2).1 (headsD bs (manyD bs (globD bs ⟨6, 0, 0, 0, 0⟩).2).1.toNat (manyD bs (globD bs ⟨6, 0, 0, 0, 0⟩).2).2).2).1 = q.1.2.2.map (List.map pi)) ?_ (hend _) ?_
    ·have hb := thingD_byte (bs := bs) (s := ⟨6, 0, 0, 0, 0⟩)
     have hg := ask_ag (b := 0) (rv := rv) (x := (WS.start num, ())) hL hO 146 1 (by omega) (fun s => decide (0 ≤ s.globals ∧ s.globals ≤ 16)) 18 (by decide) (by decide) (decide ((thingD bs 1 ⟨6, 0, 0, 0, 0⟩).1 ≤ 16)) (fun _ => by
      show decide (0 ≤ (thingD bs 1 ⟨6, 0, 0, 0, 0⟩).1 ∧ (thingD bs 1 ⟨6, 0, 0, 0, 0⟩).1 ≤ 16) = _
      rw [Bool.eq_iff_iff]; simp; omega)
     have hgd : globD bs ⟨6, 0, 0, 0, 0⟩ = ((thingD bs 1 ⟨6, 0, 0, 0, 0⟩).1, mustD (decide ((thingD bs 1 ⟨6, 0, 0, 0, 0⟩).1 ≤ 16)) 18 (thingD bs 1 ⟨6, 0, 0, 0, 0⟩).2) := rfl
     have hmg : (globD bs ⟨6, 0, 0, 0, 0⟩).2.E = 0 → (globD bs ⟨6, 0, 0, 0, 0⟩).1 ≤ 16 := fun h0 => by
      rw [hgd] at h0 ⊢
      have h1 : mustE (decide ((thingD bs 1 ⟨6, 0, 0, 0, 0⟩).1 ≤ 16)) 18 (thingD bs 1 ⟨6, 0, 0, 0, 0⟩).2.E = 0 := h0
      unfold mustE at h1
      by_cases hle : (thingD bs 1 ⟨6, 0, 0, 0, 0⟩).1 ≤ 16
      ·exact hle
      ·simp [hle] at h1
       split at h1
       ·cases h1
       ·rename_i k; exact absurd h1 k
     have hG0 : 0 ≤ (globD bs ⟨6, 0, 0, 0, 0⟩).1 := hb.1
     have hgg : (thingD bs 1 ⟨6, 0, 0, 0, 0⟩).1 = (globD bs ⟨6, 0, 0, 0, 0⟩).1 := rfl
     rw [hgg] at hg
     have hg2 : mustD (decide ((globD bs ⟨6, 0, 0, 0, 0⟩).1 ≤ 16)) 18 (thingD bs 1 ⟨6, 0, 0, 0, 0⟩).2 = (globD bs ⟨6, 0, 0, 0, 0⟩).2 := rfl
     rw [hg2] at hg
     clear hgd hgg hg2 hb e1 e2
     generalize (globD bs ⟨6, 0, 0, 0, 0⟩).1 = G at *
     generalize (globD bs ⟨6, 0, 0, 0, 0⟩).2 = s2 at *
     have shut3 : s2.E ≠ 0 → (funcsD bs G (headsD bs (manyD bs s2).1.toNat (manyD bs s2).2).1 (headsD bs (manyD bs s2).1.toNat (manyD bs s2).2).1 (headsD bs (manyD bs s2).1.toNat (manyD bs s2).2).2).2 = s2 := fun h0 => by
      have g2 : (manyD bs s2).2 = s2 := by unfold manyD; simp only; rw [thingD_shut h0]; exact mustD_id h0
      rw [g2, headsD_sh h0]
      rfl
     refine AgR.then hg (fun h0 => by rw [shut3 h0]; exact ⟨rfl, rfl⟩) ?_
     rintro y2 hO2 hy2
     have hg2 : y2.1.globals = G := by rw [hy2]; rfl
     have hle := hmg hO2.e
     have hb2 := thingD_two (bs := bs) (s := s2)
     have hm2 := ask_ag (b := 0) (rv := rv) (x := y2) hL hO2 161 2 (by omega) (fun s => decide (1 ≤ s.count ∧ s.count ≤ 65535)) 20 (by decide) (by decide) (decide (1 ≤ (thingD bs 2 s2).1)) (fun _ => by
      show decide (1 ≤ (thingD bs 2 s2).1 ∧ (thingD bs 2 s2).1 ≤ 65535) = _
      rw [Bool.eq_iff_iff]; simp; omega)
     have e3 : (manyD bs s2).1 = (thingD bs 2 s2).1 := rfl
     have e4 : (manyD bs s2).2 = mustD (decide (1 ≤ (thingD bs 2 s2).1)) 20 (thingD bs 2 s2).2 := rfl
     rw [← e4, ← e3] at hm2
     rw [← e3] at hb2
     have shut4 : ∀ (n : Nat) (s : DS), s.E ≠ 0 → (funcsD bs G (headsD bs n s).1 (headsD bs n s).1 (headsD bs n s).2).2 = s := fun n s h0 => by rw [headsD_sh h0]; rfl
     refine AgR.then hm2 (fun h0 => by rw [shut4 _ _ h0]; exact ⟨rfl, rfl⟩) ?_
     rintro y3 hO3 hy3
     have hc3 : y3.1.count = (manyD bs s2).1 := by rw [hy3]; rfl
     have hg3 : y3.1.globals = G := by rw [hy3]; exact hg2
     rw [hc3]
     clear hm2 e3 e4 hy3 hy2
     have hlen := headsD_len bs (manyD bs s2).1.toNat (manyD bs s2).2
     have hhs := heads_ag (b := 0) (rv := rv) hL (manyD bs s2).1.toNat y3 _ hO3
     have hnn : (manyD bs s2).1.toNat ≤ 65535 := by omega
     generalize (manyD bs s2).1.toNat = nn at *
     generalize headsD bs nn (manyD bs s2).2 = hd at *
     obtain ⟨hs, s6⟩ := hd
     simp only at hhs hlen ⊢
     refine AgR.then hhs (fun h0 => by rw [funcsD_shut h0]; exact ⟨rfl, rfl⟩) ?_
     rintro ⟨done, y6⟩ hO6 ⟨k1, k2, k3⟩
     simp only at k1 k2 k3 hO6 ⊢
     have hho : headsOf done = ofHT hs := by rw [k1]; unfold headsOf ofHT; rw [List.map_map]; rfl
     rw [hho]
     have hfs := funcs_ag (b := 0) (rv := rv) hL k2 (by omega) hG0 hle done (fun h hh => k2 _ (by rw [k1]; exact List.mem_map_of_mem hh)) ({ y6.1 with funcs := fv }, ()) s6 ⟨hO6.e, hO6.at', hO6.le, hO6.lo, hO6.l0, hO6.l1⟩ (by show y6.1.globals = G; rw [k3, hg3])
     rw [← k1] at hfs
     refine AgR.then hfs (fun _ => ⟨rfl, rfl⟩) ?_
     rintro ⟨ls, y7⟩ hO7 k7
     simp only at k7 hO7 ⊢
     exact ⟨hO7, by rw [hg3], k1, k7⟩
    ·rintro ⟨q, y⟩ hO7 ⟨k1, k2, k3⟩
     simp only at k1 k2 k3 hO7 ⊢
     generalize (funcsD bs (globD bs ⟨6, 0, 0, 0, 0⟩).1 (headsD bs (manyD bs (globD bs ⟨6, 0, 0, 0, 0⟩).2).1.toNat (manyD bs (globD bs ⟨6, 0, 0, 0, 0⟩).2).2).1 (headsD bs (manyD bs (globD bs ⟨6, 0, 0, 0, 0⟩).2).1.toNat (manyD bs (globD bs ⟨6, 0, 0, 0, 0⟩).2).2).1 (headsD bs (manyD bs (globD bs ⟨6, 0, 0, 0, 0⟩).2).1.toNat (manyD bs (globD bs ⟨6, 0, 0, 0, 0⟩).2).2).2) = d at *
     obtain ⟨dl, s7⟩ := d
     simp only at k3 hO7 ⊢
     by_cases he : s7.p = bs.length
     ·have e5 : endD bs s7 = s7 := if_neg (fun k => k.2 he)
      rw [if_pos (by rw [hO7.at', he]), e5]
      exact ⟨⟨hO7.e, rfl, hO7.le, rfl, hO7.l0, hO7.l1⟩, k1, k2, k3⟩
     ·have e5 : endD bs s7 = { s7 with E := 22, o := s7.p } := if_pos ⟨hO7.e, he⟩
      rw [if_neg (by rw [hO7.at']; omega), e5]
      exact ⟨rfl, show (22 : Int) ≠ 0 by decide, hO7.at'.symm⟩
   ·have e2 : (thingD bs 6 ⟨0, 0, 0, 0, 0⟩).2 = ⟨0, 0, bs.length, 0, 11⟩ := by
     unfold thingD
     rw [if_pos rfl]
     unfold rd
     simp only
     rw [if_neg (by omega)]
    have e3 : decD bs = (0, [], [], ⟨0, 0, bs.length, 0, 11⟩) := by
     unfold decD
     rw [e1, e2]
     have h11 : (⟨0, 0, bs.length, 0, 11⟩ : DS).E ≠ 0 := show (11 : Int) ≠ 0 by decide
     have g1 : globD bs ⟨0, 0, bs.length, 0, 11⟩ = (0, ⟨0, 0, bs.length, 0, 11⟩) := by unfold globD; rw [thingD_shut h11, mustD_id h11]
     rw [g1]
     have g2 : manyD bs ⟨0, 0, bs.length, 0, 11⟩ = (0, ⟨0, 0, bs.length, 0, 11⟩) := by unfold manyD; rw [thingD_shut h11, mustD_id h11]
     simp only
     rw [g2]
     simp only
     rw [headsD_sh h11]
     simp only
     rw [funcsD_shut h11]
     unfold endD
     rw [if_neg (fun k => h11 k.1)]
    rw [e3]
    have e4 : bodyX 0 rv bs (WS.start num) fv = .error (11, bs.length) := by
     unfold bodyX
     refine thenE ?_
     refine (askX_then (reading 0 rv bs) 146 1 _ 18 (WS.start num, ())).trans (thenE ?_)
     unfold nextX
     simp only [reading]
     unfold rd
     rw [if_neg (show ¬ (WS.start num).at'.toNat + 1 ≤ bs.length by show ¬ (6 + 1 ≤ bs.length); omega)]
    rw [e4]
    exact ⟨rfl, show (11 : Int) ≠ 0 by decide, rfl⟩
 cases hx : throughX 0 rv bs (WS.start num) fv with
 | error z => rw [hx] at goal; exact goal
 | ok q =>
   rw [hx] at goal
   obtain ⟨h1, h2, h3, h4⟩ := goal
   exact ⟨h1.e, h2, h3, h4⟩
end Go.Proofs.YtingenonbkencaaDoor
