import Derived.Test.YtchilccmnaihkaaQA4J
import Derived.Test.YtchilccmnaihkaaQA9J
namespace Go.Proofs.Ytchilccmnaihkaa
open Go.RowKit (wrap32 wrap64)
set_option linter.unusedVariables false
set_option linter.unusedSimpArgs false

abbrev vB (n : Int) : Value := .int .u8 n
/-- Bytes that lie somewhere. -/
def BA (w : World) (v : Value) (l : List Int) : Prop :=
  ∃ a c, v = .slice a l.length c ∧ (l ≠ [] → ∃ k o, a = some ⟨k, o, none⟩ ∧ k < w.heap.size ∧ ∀ j (h : j < l.length), w.cell? ⟨k, o + j, none⟩ = some (vB l[j]))
theorem BA.stay {w w' : World} {v : Value} {l : List Int} (h : BA w v l) (f : Fr (fun _ => False) w w') : BA w' v l := by
  obtain ⟨a, c, rfl, h⟩ := h
  refine ⟨a, c, rfl, fun hne => ?_⟩
  obtain ⟨k, o, rfl, hk, hc⟩ := h hne
  exact ⟨k, o, rfl, Nat.lt_of_lt_of_le hk f.size, fun j hj => (f.cell hk (fun e => e)).trans (hc j hj)⟩
def BOwn (w : World) (B : Nat) (v : Value) (l : List Int) : Prop := w.ownsRow B 5 1 v l.length (l.map vB)
theorem BOwn.fr {S : Nat → Prop} {w w' : World} {B : Nat} {v : Value} {l : List Int} (h : BOwn w B v l) (f : Fr S w w') (hS : ∀ k, v.ownBlock = some k → ¬ S k) : BOwn w' B v l := ownsRow_fr h f hS
theorem BOwn.ge {w : World} {B : Nat} {v : Value} {l : List Int} (h : BOwn w B v l) : ∀ k, v.ownBlock = some k → B ≤ k ∧ k < w.heap.size := World.ownsRow.lt h
theorem BOwn.ba {w : World} {B : Nat} {v : Value} {l : List Int} (h : BOwn w B v l) : BA w v l := by
  obtain ⟨a, c, e⟩ := own_slice h
  refine ⟨a, c, e, fun hne => ?_⟩
  have h0 : 0 < l.length := List.length_pos_iff.2 hne
  obtain ⟨g, cap, e', hg, -⟩ := own_cell h (j := 0) (u := vB l[0]) (by simp [List.getElem?_eq_getElem h0])
  rw [e] at e'
  cases e'
  refine ⟨g, 0, rfl, hg, fun j hj => ?_⟩
  obtain ⟨g', cap', e'', -, hc⟩ := own_cell h (j := j) (u := vB l[j]) (by simp [List.getElem?_eq_getElem hj])
  rw [e] at e''
  cases e''
  rw [Nat.zero_add]; exact hc

set_option maxRecDepth 100000 in
set_option maxHeartbeats 1000000 in
theorem eqBytes_any (v1 v2 : Value) (a b : List Int) (w : World) (h1 : BA w v1 a) (h2 : BA w v2 b) (hz : a.length ≤ 140737488351232) (hzb : b.length ≤ 140737488351232) :
    Calls Try.prog 19 #[v1, v2] w fun e w' => e = .returned (.bool (all2 eqB a b)) ∧ Fr (fun _ => False) w w' := by
  obtain ⟨a1, c1, rfl, hc1⟩ := h1
  obtain ⟨a2, c2, rfl, hc2⟩ := h2
  have H1 : Hd _ := hc1
  have H2 : Hd _ := hc2
  clear hc1 hc2
  by_cases hl : a.length = b.length
  · obtain ⟨n, hn⟩ : ∃ n, a.length = n := ⟨_, rfl⟩
    have hnb : b.length = n := by rw [← hl]; exact hn
    have HN : Hd (a.length = n) := hn
    have HNB : Hd (b.length = n) := hnb
    have HL : Hd (a.length = b.length) := hl
    have hnz : n ≤ 140737488351232 := by rw [← hn]; exact hz
    rw [hn, hnb]
    clear hn hnb hl hz hzb
    go_enter Try.func19, Try.ntmps19
    go_wp2_with fail
    go_loopw [5] (fun v wr => ∃ (k : Nat), v = .int .i64 k ∧ k ≤ n ∧ Hd (∀ i (hi : i < a.length) (hk : i < b.length), i < k → eqB a[i] b[i] = true) ∧ Hd (Fr (fun _ => False) w wr)) (fun v _ => match v with | .int _ q => n - q.toNat | _ => 0)
    case atStart => exact ⟨0, rfl, Nat.zero_le _, fun i _ _ h => absurd h (by omega), Fr.refl _ _⟩
    case round =>
      obtain ⟨k, rfl, hk, HP, HF⟩ := hrel
      by_cases hltn : k < n
      · have hlt : k < a.length := by rw [HN.out]; exact hltn
        have hlb : k < b.length := by rw [HNB.out]; exact hltn
        obtain ⟨k1, o1, rfl, hk1, g1⟩ := H1.out (by intro e; simp [e] at hlt)
        obtain ⟨k2, o2, rfl, hk2, g2⟩ := H2.out (by intro e; simp [e] at hlb)
        have q1 := (HF.out.cell (o := o1 + k) hk1 (fun h => h)).trans (g1 k hlt)
        have q2 := (HF.out.cell (o := o2 + k) hk2 (fun h => h)).trans (g2 k hlb)
        have HB : Hd (eqB a[k] b[k] = false → all2 eqB a b = false) := fun e => all2_bad hlt hlb e
        have HS : Hd (eqB a[k] b[k] = true → ∀ i (hi : i < a.length) (hk : i < b.length), i < k + 1 → eqB a[i] b[i] = true) := fun e i hi hk' h => by
          by_cases e2 : i = k
          · subst e2; exact e
          · exact HP.out i hi hk' (by omega)
        generalize a[k] = x at *
        generalize b[k] = y at *
        have hk0 : (0 : Int) ≤ k := by omega
        have hk3 : (k : Int) < n := by omega
        clear g1 g2 HP hlt hlb
        by_cases hxy : x = y
        · have HS2 : Hd (∀ i (hi : i < a.length) (hk : i < b.length), i < k + 1 → eqB a[i] b[i] = true) := HS.out (by simp [eqB, hxy])
          clear HS HB
          subst hxy
          go_wp2_with fail
          refine wp_region_still_tail 8 mixed (by kernel_rfl) ?_
          simp only [List.take_succ_cons, List.take_zero, List.drop_succ_cons, List.drop_zero]
          repeat still_step
          refine wpStill_nil ?_
          go_wp2_with fail
          refine ⟨⟨k + 1, by simp, by omega, HS2.out, HF.out.drew⟩, by simp; omega⟩
        · have HB2 : Hd (all2 eqB a b = false) := HB.out (by simp [eqB, hxy])
          have hxb : (x != y) = true := by simp [hxy]
          clear HS HB
          go_wp2_with fail
          refine wp_region_still_tail 8 mixed (by kernel_rfl) ?_
          simp only [List.take_succ_cons, List.take_zero, List.drop_succ_cons, List.drop_zero]
          repeat still_step
          refine wpStill_nil ?_
          go_wp2_with fail
          go_ret
          exact ⟨by rw [HB2.out]; rfl, HF.out.drew⟩
      · have hdk : decide ((k : Int) < n) = false := by simp; omega
        go_wp2_with fail
        go_ret
        exact ⟨by rw [all2_take HL.out HP.out (by rw [HN.out]; omega)]; rfl, HF.out⟩
  · have hneq : ((a.length : Int) != b.length) = true := by simp; omega
    go_enter Try.func19, Try.ntmps19
    go_wp2_with fail
    go_ret
    exact ⟨by rw [all2_short hl]; rfl, Fr.refl _ _⟩

end Go.Proofs.Ytchilccmnaihkaa

namespace Go.Proofs.Ytchilccmnaihkaa
open Go.RowKit (wrap32 wrap64)
set_option linter.unusedVariables false
set_option linter.unusedSimpArgs false

/-- A function's head. -/
structure PH where
  P : Int
  R : Int
  V : Int
  ca : Option Addr
  cn : Nat
  cc : Nat
abbrev PH.val (f : PH) : Value := .agg #[vI f.P, vI f.R, vI f.V, .slice f.ca f.cn f.cc]
def FsA (w : World) (v : Value) (fs : List PH) : Prop :=
  ∃ a c, v = .slice a fs.length c ∧ (fs ≠ [] → ∃ k, a = some ⟨k, 0, none⟩ ∧ k < w.heap.size ∧ ∀ j (h : j < fs.length), w.cell? ⟨k, j * 4, none⟩ = some (vI fs[j].P) ∧ w.cell? ⟨k, j * 4 + 1, none⟩ = some (vI fs[j].R) ∧ w.cell? ⟨k, j * 4 + 2, none⟩ = some (vI fs[j].V) ∧ w.cell? ⟨k, j * 4 + 3, none⟩ = some (.slice fs[j].ca fs[j].cn fs[j].cc))
def SsA (w : World) (v : Value) (ss : List PS) : Prop :=
  ∃ a c, v = .slice a ss.length c ∧ (ss ≠ [] → ∃ k, a = some ⟨k, 0, none⟩ ∧ k < w.heap.size ∧ ∀ j (h : j < ss.length), ∃ hv rv, w.cell? ⟨k, j * 2, none⟩ = some hv ∧ w.cell? ⟨k, j * 2 + 1, none⟩ = some rv ∧ IA w hv ss[j].heap ∧ LA w rv ss[j].res)
theorem FsA.stay {w w' : World} {v : Value} {fs : List PH} (h : FsA w v fs) (f : Fr (fun _ => False) w w') : FsA w' v fs := by
  obtain ⟨a, c, rfl, h⟩ := h
  refine ⟨a, c, rfl, fun hne => ?_⟩
  obtain ⟨k, rfl, hk, hc⟩ := h hne
  have e := fun o => f.cell (o := o) hk (fun e => e)
  refine ⟨k, rfl, Nat.lt_of_lt_of_le hk f.size, fun j hj => ?_⟩
  rw [e, e, e, e]; exact hc j hj
theorem SsA.stay {w w' : World} {v : Value} {ss : List PS} (h : SsA w v ss) (f : Fr (fun _ => False) w w') : SsA w' v ss := by
  obtain ⟨a, c, rfl, h⟩ := h
  refine ⟨a, c, rfl, fun hne => ?_⟩
  obtain ⟨k, rfl, hk, hc⟩ := h hne
  refine ⟨k, rfl, Nat.lt_of_lt_of_le hk f.size, fun j hj => ?_⟩
  obtain ⟨hv, rv, h1, h2, h3, h4⟩ := hc j hj
  exact ⟨hv, rv, (f.cell hk (fun e => e)).trans h1, (f.cell hk (fun e => e)).trans h2, h3.stay f, h4.stay f⟩

set_option maxRecDepth 100000 in
set_option maxHeartbeats 1000000 in
theorem shapes_any (v : Value) (fs : List PH) (w : World) (h1 : FsA w v fs) (hz : fs.length ≤ 4000000000000) :
    Calls Try.prog 31 #[v] w fun e w' => e = .returned (.bool (fs.all fun f => shapeB f.P f.R)) ∧ Fr (fun _ => False) w w' := by
  obtain ⟨a1, c1, rfl, hc1⟩ := h1
  have H1 : Hd (fs ≠ [] → _) := hc1
  clear hc1
  go_enter Try.func31, Try.ntmps31
  go_wp2_with fail
  go_loopw [7] (fun v wr => ∃ (k : Nat), v = .int .i64 k ∧ k ≤ fs.length ∧ Hd (∀ i (hi : i < fs.length), i < k → shapeB fs[i].P fs[i].R = true) ∧ Hd (Fr (fun _ => False) w wr)) (fun v _ => match v with | .int _ q => fs.length - q.toNat | _ => 0)
  case atStart => exact ⟨0, rfl, Nat.zero_le _, fun i _ h => absurd h (by omega), Fr.refl _ _⟩
  case round =>
    obtain ⟨k, rfl, hk, HP, HF⟩ := hrel
    by_cases hlt : k < fs.length
    · obtain ⟨k1, rfl, hk1, g1⟩ := H1.out (by intro e; simp [e] at hlt)
      obtain ⟨r0, r1, r2, r3⟩ := g1 k hlt
      have q0 := (HF.out.cell hk1 (fun h => h)).trans r0
      have q1 := (HF.out.cell hk1 (fun h => h)).trans r1
      have q2 := (HF.out.cell hk1 (fun h => h)).trans r2
      have q3 := (HF.out.cell hk1 (fun h => h)).trans r3
      have HB : Hd (shapeB fs[k].P fs[k].R = false → (fs.all fun f => shapeB f.P f.R) = false) := fun e => by
        rw [Bool.eq_false_iff]; intro e2
        have := List.all_eq_true.1 e2 _ (List.getElem_mem hlt)
        rw [e] at this; cases this
      have HS : Hd (shapeB fs[k].P fs[k].R = true → ∀ i (hi : i < fs.length), i < k + 1 → shapeB fs[i].P fs[i].R = true) := fun e i hi h => by
        by_cases e2 : i = k
        · subst e2; exact e
        · exact HP.out i hi (by omega)
      obtain ⟨f, hf⟩ : ∃ f, fs[k] = f := ⟨_, rfl⟩
      rw [hf] at q0 q1 q2 q3 HB HS
      obtain ⟨P, R, V, ca, cn, cc⟩ := f
      simp only at q0 q1 q2 q3 HB HS
      have hk0 : (0 : Int) ≤ k := by omega
      have hk3 : (k : Int) < fs.length := by omega
      clear g1 HP r0 r1 r2 r3 hf
      go_wp2_with fail
      have HF0 : Hd (Fr (fun _ => False) w (wr.alloc (.cells #[vI P, vI R, vI V, .slice ca cn cc] 28))) := HF.out.alloc _
      refine (show Calls Try.prog 25 #[.agg #[vI P, vI R, vI V, .slice ca cn cc]] _ _ from shape_any P R V ca cn cc _).mono ?_
      rintro e w1 ⟨rfl, hF1⟩
      have HF1 : Hd (Fr (fun _ => False) w w1) := HF0.out.trans hF1
      clear hF1 HF HF0 q0 q1 q2 q3
      cases hp : shapeB P R with
      | false =>
        go_wp2_with fail
        go_ret
        exact ⟨by rw [HB.out hp]; rfl, HF1.out⟩
      | true =>
        go_wp2_with fail
        refine ⟨⟨k + 1, by simp, by omega, HS.out hp, HF1.out⟩, by simp; omega⟩
    · have hdk : decide ((k : Int) < fs.length) = false := by simp; omega
      go_wp2_with fail
      go_ret
      refine ⟨?_, HF.out⟩
      rw [List.all_eq_true.2 (fun x hx => by
        obtain ⟨i, hi, rfl⟩ := List.getElem_of_mem hx
        exact HP.out i hi (by omega))]
      rfl

def rightP (f : PH) (s : PS) : Bool := s.right f.P f.R

set_option maxRecDepth 100000 in
set_option maxHeartbeats 1000000 in
theorem equal26 (v1 v2 : Value) (fs : List PH) (ss : List PS) (w : World) (h1 : FsA w v1 fs) (h2 : SsA w v2 ss) (hz : fs.length ≤ 4000000000000) (hzb : ss.length ≤ 4000000000000) (hfit : ∀ s ∈ ss, s.Fits) :
    Calls Try.prog 42 #[v1, v2, .func (.func 26) #[] #[]] w fun e w' => e = .returned (.bool (all2 rightP fs ss)) ∧ Fr (fun _ => False) w w' := by
  obtain ⟨a1, c1, rfl, hc1⟩ := h1
  obtain ⟨a2, c2, rfl, hc2⟩ := h2
  have H1 : Hd (fs ≠ [] → _) := hc1
  have H2 : Hd (ss ≠ [] → _) := hc2
  have HFit : Hd (∀ s ∈ ss, s.Fits) := hfit
  clear hc1 hc2 hfit
  by_cases hl : fs.length = ss.length
  · obtain ⟨n, hn⟩ : ∃ n, fs.length = n := ⟨_, rfl⟩
    have hnb : ss.length = n := by rw [← hl]; exact hn
    have HN : Hd (fs.length = n) := hn
    have HNB : Hd (ss.length = n) := hnb
    have HL : Hd (fs.length = ss.length) := hl
    have hnz : n ≤ 4000000000000 := by rw [← hn]; exact hz
    rw [hn, hnb]
    clear hn hnb hl hz hzb
    go_enter Try.func42, Try.ntmps42
    go_wp2_with fail
    go_loopw [17] (fun v wr => ∃ (k : Nat), v = .int .i64 k ∧ k ≤ n ∧ Hd (∀ i (hi : i < fs.length) (hk : i < ss.length), i < k → rightP fs[i] ss[i] = true) ∧ Hd (Fr (fun _ => False) w wr)) (fun v _ => match v with | .int _ q => n - q.toNat | _ => 0)
    case atStart => exact ⟨0, rfl, Nat.zero_le _, fun i _ _ h => absurd h (by omega), Fr.refl _ _⟩
    case round =>
      obtain ⟨k, rfl, hk, HP, HF⟩ := hrel
      by_cases hltn : k < n
      · have hlt : k < fs.length := by rw [HN.out]; exact hltn
        have hlb : k < ss.length := by rw [HNB.out]; exact hltn
        obtain ⟨k1, rfl, hk1, g1⟩ := H1.out (by intro e; simp [e] at hlt)
        obtain ⟨k2, rfl, hk2, g2⟩ := H2.out (by intro e; simp [e] at hlb)
        obtain ⟨r0, r1, r2, r3⟩ := g1 k hlt
        obtain ⟨hv, rv, s0, s1, s2, s3⟩ := g2 k hlb
        have q0 := (HF.out.cell hk1 (fun h => h)).trans r0
        have q1 := (HF.out.cell hk1 (fun h => h)).trans r1
        have q2 := (HF.out.cell hk1 (fun h => h)).trans r2
        have q3 := (HF.out.cell hk1 (fun h => h)).trans r3
        have t0 := (HF.out.cell hk2 (fun h => h)).trans s0
        have t1 := (HF.out.cell hk2 (fun h => h)).trans s1
        have HSA : Hd (∀ W, Fr (fun _ => False) wr W → SA W (.agg #[hv, rv]) ss[k]) := fun W f => ⟨hv, rv, rfl, s2.stay (HF.out.trans f), s3.stay (HF.out.trans f)⟩
        have HFt : Hd ss[k].Fits := HFit.out _ (List.getElem_mem hlb)
        have HB : Hd (rightP fs[k] ss[k] = false → all2 rightP fs ss = false) := fun e => all2_bad hlt hlb e
        have HS : Hd (rightP fs[k] ss[k] = true → ∀ i (hi : i < fs.length) (hk : i < ss.length), i < k + 1 → rightP fs[i] ss[i] = true) := fun e i hi hk' h => by
          by_cases e2 : i = k
          · subst e2; exact e
          · exact HP.out i hi hk' (by omega)
        obtain ⟨ha, hc, ehv, -⟩ := s2
        obtain ⟨ra, rc, erv, -⟩ := s3
        obtain ⟨f, hf⟩ : ∃ f, fs[k] = f := ⟨_, rfl⟩
        rw [hf] at q0 q1 q2 q3 HB HS
        obtain ⟨P, R, V, ca, cn, cc⟩ := f
        simp only at q0 q1 q2 q3 HB HS
        clear hf r0 r1 r2 r3 g1 g2 s0 s1
        generalize ss[k] = y at *
        subst ehv
        subst erv
        have hk0 : (0 : Int) ≤ k := by omega
        have hk3 : (k : Int) < n := by omega
        have hkl1 : k1 < wr.heap.size := Nat.lt_of_lt_of_le hk1 HF.out.size
        have hkl2 : k2 < wr.heap.size := Nat.lt_of_lt_of_le hk2 HF.out.size
        have ne1 : wr.heap.size ≠ k2 := by omega
        have ne2 : k2 ≠ wr.heap.size := by omega
        clear HP hlt hlb
        go_wp2_with fail
        have HFX : Hd (Fr (fun _ => False) wr ((wr.alloc (.cells #[vI P, vI R, vI V, .slice ca cn cc] 28)).alloc (.cells #[.slice ha y.heap.length hc, .slice ra y.res.length rc] 31))) := Fr.alloc (Fr.alloc (Fr.refl _ wr) _) _
        refine (show Calls Try.prog 26 #[.agg #[vI P, vI R, vI V, .slice ca cn cc], .agg #[.slice ha y.heap.length hc, .slice ra y.res.length rc]] ((wr.alloc (.cells #[vI P, vI R, vI V, .slice ca cn cc] 28)).alloc (.cells #[.slice ha y.heap.length hc, .slice ra y.res.length rc] 31)) _ from right_any P R V ca cn cc _ y _ (HSA.out _ HFX.out) HFt.out).mono ?_
        rintro e w1 ⟨rfl, hF1⟩
        have HF1 : Hd (Fr (fun _ => False) w w1) := (HF.out.trans HFX.out).trans hF1
        clear hF1 HF HFX q0 q1 q2 q3 t0 t1 HSA ne1 ne2 hkl1 hkl2
        cases hp : y.right P R with
        | false =>
          go_wp2_with fail
          go_ret
          exact ⟨by rw [HB.out hp]; rfl, HF1.out⟩
        | true =>
          go_wp2_with fail
          refine ⟨⟨k + 1, by simp, by omega, HS.out hp, HF1.out⟩, by simp; omega⟩
      · have hdk : decide ((k : Int) < n) = false := by simp; omega
        go_wp2_with fail
        go_ret
        refine ⟨?_, HF.out⟩
        rw [all2_iff.2 ⟨HL.out, fun i hi hk' => HP.out i hi hk' (by rw [HN.out] at hi; omega)⟩]; rfl
  · have hneq : ((fs.length : Int) != ss.length) = true := by simp; omega
    go_enter Try.func42, Try.ntmps42
    go_wp2_with fail
    go_ret
    exact ⟨by rw [all2_short hl]; rfl, Fr.refl _ _⟩

set_option maxRecDepth 100000 in
set_option maxHeartbeats 1000000 in
theorem allRight_any (v1 v2 : Value) (fs : List PH) (ss : List PS) (w : World) (h1 : FsA w v1 fs) (h2 : SsA w v2 ss) (hz : fs.length ≤ 4000000000000) (hzb : ss.length ≤ 4000000000000) (hfit : ∀ s ∈ ss, s.Fits) :
    Calls Try.prog 32 #[v1, v2] w fun e w' => e = .returned (.bool (all2 rightP fs ss)) ∧ Fr (fun _ => False) w w' := by
  have H1 : Hd _ := h1
  have H2 : Hd _ := h2
  have H3 : Hd _ := hfit
  obtain ⟨a1, c1, rfl, -⟩ := h1
  obtain ⟨a2, c2, rfl, -⟩ := h2
  clear hfit
  go_enter Try.func32, Try.ntmps32
  go_wp2_with fail
  refine (show Calls Try.prog 42 #[.slice a1 fs.length c1, .slice a2 ss.length c2, .func (.func 26) #[] #[]] w _ from equal26 _ _ fs ss w H1.out H2.out hz hzb H3.out).mono ?_
  rintro e w1 ⟨rfl, hF1⟩
  have HF1 : Hd (Fr (fun _ => False) w w1) := hF1
  clear hF1
  go_wp2_with fail
  go_ret
  exact ⟨rfl, HF1.out⟩

end Go.Proofs.Ytchilccmnaihkaa

namespace Go.Proofs.Ytchilccmnaihkaa
open Go.RowKit (wrap32 wrap64)
set_option linter.unusedVariables false
set_option linter.unusedSimpArgs false

def layL : List Int → List (List Int) → List Int
  | x :: hs, l :: ls => x :: (l ++ layL hs ls)
  | _, _ => []
theorem layL_take : ∀ (hs : List Int) (ls : List (List Int)) (k : Nat) (h : k < hs.length) (h' : k < ls.length), layL (hs.take (k + 1)) (ls.take (k + 1)) = layL (hs.take k) (ls.take k) ++ (hs[k] :: ls[k])
  | x :: hs, l :: ls, 0, _, _ => by simp [layL]
  | x :: hs, l :: ls, k + 1, h, h' => by
    have := layL_take hs ls k (by simpa using h) (by simpa using h')
    simp only [List.take_succ_cons, layL, this, List.getElem_cons_succ, List.append_assoc, List.cons_append]
theorem u8w {x : Int} (h : okN x = true) : IntKind.u8.wrap x = x := by
  have : x = 0 ∨ x = 1 ∨ x = 2 ∨ x = 3 ∨ x = 9 := by simp [okN] at h; omega
  rcases this with rfl | rfl | rfl | rfl | rfl <;> rfl
theorem under42 : Try.prog.underlying 42 = some (.slice 5) := by kernel_rfl
theorem grow_frB {w wr w6 : World} {v : Value} {B : Nat} (h : Fr (fun k => B ≤ k) w wr) (hg : wr.grownBy w6 v.ownBlock) (hb : ∀ k, v.ownBlock = some k → B ≤ k) : Fr (fun k => B ≤ k) w w6 :=
  h.then (grown_frL hg) (fun j _ e => hb j e)
/-- A block of another type stays as the row grows. -/
theorem grow_keep {wr w6 : World} {v : Value} {B n H : Nat} {xs : List Value} {cs : Array Value} {t : TypeId} (ho : wr.ownsRow B 5 1 v n xs) (hg : wr.grownBy w6 v.ownBlock) (hc : wr.heap[H]? = some (.cells cs t)) (ht : t ≠ 5) : w6.heap[H]? = some (.cells cs t) := by
  refine ((grown_fr hg).block H (heap_lt hc) (fun e => ?_)).trans hc
  rcases ho.2 with ⟨e1, -⟩ | ⟨g, cap, cur, e1, -, k2, -⟩
  · rw [e1] at e; cases e
  · rw [e1] at e
    cases e
    rw [hc] at k2
    injection (Option.some.inj k2) with _ e3
    exact ht e3

set_option maxRecDepth 100000 in
set_option maxHeartbeats 2000000 in
theorem lay_any (bv x1 y1 : Value) (xs : List Int) (s : PS) (p r B : Nat) (w : World) (hb : BOwn w B bv xs) (hB : B ≤ w.heap.size) (w0 : World) (hs1 : IA w0 x1 s.heap) (hs2 : LA w0 y1 s.res) (h0 : w0.heap.size ≤ B) (f0 : Fr (fun k => B ≤ k) w0 w) (hr : PS.Right p r s) (hp8 : p ≤ 8) (hr4 : r ≤ 4) (hx : xs.length ≤ 130000000000000) :
    Calls Try.prog 33 #[bv, .agg #[x1, y1]] w fun e w' => ∃ v', e = .returned v' ∧ BOwn w' B v' (xs ++ layL s.heap s.res) ∧ Fr (fun k => B ≤ k) w w' := by
  obtain ⟨i5, hi5, hz5, hs5, hb5⟩ := info_parts (P := Try.prog) (e := 5) (z := .int .u8 0) (size := 1) (bytes := 1) (by kernel_rfl)
  obtain ⟨a1, b1, e1, hcl1⟩ := hs1
  obtain ⟨a2, b2, e2, hcl2⟩ := hs2
  have HC1 : Hd (s.heap ≠ [] → _) := hcl1
  have HC2 : Hd (s.res ≠ [] → _) := hcl2
  have H0 : Hd (w0.heap.size ≤ B) := h0
  have F0 : Hd (Fr (fun k => B ≤ k) w0 w) := f0
  obtain ⟨ba, bc, eb⟩ := own_slice hb
  rw [hr.hl] at e1
  rw [hr.rl] at e2
  have HRt : Hd (PS.Right p r s) := hr
  obtain ⟨wa, hwa⟩ : ∃ wa, wa = w.alloc (.cells #[x1, y1] 31) := ⟨_, rfl⟩
  have hF : Fr (fun k => B ≤ k) w wa := by rw [hwa]; exact Fr.alloc (Fr.refl _ w) _
  obtain ⟨H, hH⟩ : ∃ H, H = w.heap.size := ⟨_, rfl⟩
  have bH : wa.heap[H]? = some (.cells #[x1, y1] 31) := by rw [hwa, hH]; exact heap_new w _
  have hBa : BOwn wa B bv xs := by rw [hwa]; exact World.ownsRow.alloc hb _
  have HWA : Hd (wa = w.alloc (.cells #[x1, y1] 31)) := hwa
  have HH : Hd (H = w.heap.size) := hH
  have HBH : Hd (wa.heap[H]? = some (.cells #[x1, y1] 31)) := bH
  have HF0 : Hd (Fr (fun k => B ≤ k) w wa) := hF
  have HBa : Hd (BOwn wa B bv xs) := hBa
  have hBw : Hd (B ≤ w.heap.size) := hB
  have c0 : wa.cell? ⟨H, 0, none⟩ = some x1 := by rw [cell_of bH]; rfl
  subst e1; subst e2; subst eb
  clear hcl1 hcl2 h0 f0 hr hwa hH hF bH hBa hb hB
  go_enter Try.func33, Try.ntmps33
  go_upto_region 1 with fail
  rw [← HWA.out, ← HH.out]
  clear HWA
  go_wp2_with fail
  clear c0
  go_loopw [0, 12] (fun bw v wr => ∃ (k : Nat), v = .int .i64 k ∧ k ≤ p ∧ Hd (BOwn wr B bw (xs ++ layL (s.heap.take k) (s.res.take k))) ∧ Hd ((layL (s.heap.take k) (s.res.take k)).length ≤ 5 * k) ∧ Hd (wr.heap[H]? = some (.cells #[.slice a1 p b1, .slice a2 p b2] 31)) ∧ Hd (Fr (fun k => B ≤ k) w wr)) (fun _ v _ => match v with | .int _ q => p - q.toNat | _ => 0)
  case atStart => exact ⟨0, rfl, Nat.zero_le _, by unfold Hd; simpa [layL] using HBa.out, by unfold Hd; simp [layL], HBH.out, HF0.out⟩
  case round =>
    clear HBa HBH HF0
    obtain ⟨k, rfl, hk, HO, HLN, HBH, HF⟩ := hrel
    by_cases hlt : k < p
    · have hla : k < s.heap.length := by rw [HRt.out.hl]; exact hlt
      have hlb : k < s.res.length := by rw [HRt.out.rl]; exact hlt
      obtain ⟨k1, o1, rfl, hk1, g1⟩ := HC1.out (by intro e; simp [e] at hla)
      have q1 := ((F0.out.trans HF.out).cell hk1 (by have := H0.out; omega)).trans (g1 k hla)
      have hok : okN s.heap[k] = true := HRt.out.ho _ (List.getElem_mem hla)
      have HTK : Hd (layL (s.heap.take (k + 1)) (s.res.take (k + 1)) = layL (s.heap.take k) (s.res.take k) ++ (s.heap[k] :: s.res[k])) := layL_take s.heap s.res k hla hlb
      have HR1 := HRt.out.ro _ (List.getElem_mem hlb)
      have HRk : Hd (s.res[k].length = r ∧ ∀ x ∈ s.res[k], okN x = true) := HR1
      have hwx := u8w hok
      have HML := HLN.out
      obtain ⟨E, hE⟩ : ∃ E, E = xs ++ layL (s.heap.take k) (s.res.take k) := ⟨_, rfl⟩
      have hEl : E.length ≤ 130000000000040 := by rw [hE, List.length_append]; omega
      have HE : Hd (E = xs ++ layL (s.heap.take k) (s.res.take k)) := hE
      rw [← hE] at HO
      have HKL : Hd ((layL (s.heap.take (k + 1)) (s.res.take (k + 1))).length ≤ 5 * (k + 1)) := by
        unfold Hd; rw [HTK.out]; simp [HR1.1]; omega
      obtain ⟨z, hz⟩ : ∃ z, z = s.res[k] := ⟨_, rfl⟩
      obtain ⟨ua, uo, rfl, hua, hcc⟩ := HC2.out (by intro e; simp [e] at hlb)
      obtain ⟨u, hu1, hu2⟩ := hcc k hlb
      rw [← hz] at hu2
      obtain ⟨va, vc, eu, hcu⟩ := hu2
      rw [hz, HR1.1] at eu
      subst eu
      have HQ2 : Hd (∀ W, Fr (fun k => B ≤ k) w W → W.cell? ⟨ua, uo + k, none⟩ = some (.slice va r vc)) := fun W f => ((F0.out.trans f).cell hua (by have := H0.out; omega)).trans hu1
      have HCU : Hd (z ≠ [] → _) := hcu
      rw [← hz] at HTK HRk
      obtain ⟨x, hxx⟩ : ∃ x, x = s.heap[k] := ⟨_, rfl⟩
      rw [← hxx] at hwx HTK q1
      have hk0 : (0 : Int) ≤ k := by omega
      have hk1' : (k : Int) < p := by omega
      have HO1 : Hd ((wr.alloc (.cells #[vB x] 5)).ownsRow B 5 1 u0 E.length (E.map vB)) := World.ownsRow.alloc HO.out _
      have hnews : ∀ j u, [vB x][j]? = some u → (wr.alloc (.cells #[vB x] 5)).cell? ((⟨wr.heap.size, 0, none⟩ : Addr).add j) = some u :=
        World.news_of_block (cs := #[vB x]) (heap_new wr (.cells #[vB x] 5))
      have hbase : B ≤ (wr.alloc (.cells #[vB x] 5)).heap.size := by have h9 := hBw.out; have h8 := HF.out.size; simp; omega
      have HBH1 : Hd ((wr.alloc (.cells #[vB x] 5)).heap[H]? = some (.cells #[.slice (some ⟨k1, o1, none⟩) p b1, .slice (some ⟨ua, uo, none⟩) p b2] 31)) := keepA HBH.out _
      clear g1 hk1 hok HR1 hE hz hxx hla hlb HML hcc hu1 hcu hua
      go_wp2_with ((at_builtin; refine Hd.out ?_))
      unfold Hd
      refine wpList_append_lies _ rfl (.tmp 17) (.tmp 20) 42 rfl B 5 i5 (.int .u8 0) 1 1 under42 hi5 hz5 hs5 hb5 rfl (by omega) u0 E.length _ rfl HO1.out ⟨wr.heap.size, 0, none⟩ 1 1 [vB x] rfl rfl hnews (by intro u hu; simp at hu; subst hu; rfl) (by omega) (by unfold maxLen; omega) (by omega) hbase (wr.heap.size + 1) (by simp) ?_
      intro g6 cap6 w6 hown6 hgrow6 hat6 hlt6
      have HO6 : Hd (BOwn w6 B (.slice (some ⟨g6, 0, none⟩) (E.length + 1) cap6) (E ++ [x])) := by unfold Hd BOwn; rw [List.map_append, List.length_append]; exact hown6
      have HF6 : Hd (Fr (fun k => B ≤ k) w w6) := grow_frB (HF.out.alloc _) hgrow6 (fun k hk => (HO.out.ge k hk).1)
      have HBH6 : Hd (w6.heap[H]? = some (.cells #[.slice (some ⟨k1, o1, none⟩) p b1, .slice (some ⟨ua, uo, none⟩) p b2] 31)) := grow_keep HO1.out hgrow6 HBH1.out (by decide)
      clear hown6 hgrow6 hat6 hlt6 HO HF HO1 hnews hbase q1 hwx HBH HBH1
      have q2 := HQ2.out w6 HF6.out
      have q3 : w6.cell? ⟨H, 1, none⟩ = some (.slice (some ⟨ua, uo, none⟩) p b2) := by rw [cell_of HBH6.out]; rfl
      go_wp2_with fail
      clear q2 q3
      go_loopw [0, 28] (fun bw v wr => ∃ (j : Nat), v = .int .i64 j ∧ j ≤ r ∧ Hd (BOwn wr B bw (E ++ [x] ++ z.take j)) ∧ Hd (wr.heap[H]? = some (.cells #[.slice (some ⟨k1, o1, none⟩) p b1, .slice (some ⟨ua, uo, none⟩) p b2] 31)) ∧ Hd (Fr (fun k => B ≤ k) w wr)) (fun _ v _ => match v with | .int _ q => r - q.toNat | _ => 0)
      case atStart => exact ⟨0, rfl, Nat.zero_le _, by unfold Hd; simpa using HO6.out, HBH6.out, HF6.out⟩
      case round =>
        obtain ⟨j, rfl, hj, HO, HBH, HF⟩ := hrel
        by_cases hltj : j < r
        · have hjz : j < z.length := by rw [HRk.out.1]; exact hltj
          obtain ⟨vk, vo, rfl, hvk, hvc⟩ := HCU.out (by intro e; simp [e] at hjz)
          have q4 := ((F0.out.trans HF.out).cell hvk (by have := H0.out; omega)).trans (hvc j hjz)
          have hokj : okN z[j] = true := HRk.out.2 _ (List.getElem_mem hjz)
          have hwy := u8w hokj
          have HTJ : Hd (z.take (j + 1) = z.take j ++ [z[j]]) := by unfold Hd; rw [List.take_add_one, List.getElem?_eq_getElem hjz]; rfl
          obtain ⟨y, hy⟩ : ∃ y, y = z[j] := ⟨_, rfl⟩
          rw [← hy] at hwy q4 HTJ
          obtain ⟨D, hD⟩ : ∃ D, D = E ++ [x] ++ z.take j := ⟨_, rfl⟩
          have hDl : D.length ≤ 130000000000050 := by rw [hD]; simp; omega
          have HD : Hd (D = E ++ [x] ++ z.take j) := hD
          rw [← hD] at HO
          have hj0 : (0 : Int) ≤ j := by omega
          have hj1 : (j : Int) < r := by omega
          have HO1 : Hd ((wr.alloc (.cells #[vB y] 5)).ownsRow B 5 1 u0 D.length (D.map vB)) := World.ownsRow.alloc HO.out _
          have hnews : ∀ j u, [vB y][j]? = some u → (wr.alloc (.cells #[vB y] 5)).cell? ((⟨wr.heap.size, 0, none⟩ : Addr).add j) = some u :=
            World.news_of_block (cs := #[vB y]) (heap_new wr (.cells #[vB y] 5))
          have hbase : B ≤ (wr.alloc (.cells #[vB y] 5)).heap.size := by have h9 := hBw.out; have h8 := HF.out.size; simp; omega
          have HBH1 : Hd ((wr.alloc (.cells #[vB y] 5)).heap[H]? = some (.cells #[.slice (some ⟨k1, o1, none⟩) p b1, .slice (some ⟨ua, uo, none⟩) p b2] 31)) := keepA HBH.out _
          clear hvk hvc hokj hy hD hjz
          go_wp2_with ((at_builtin; refine Hd.out ?_))
          unfold Hd
          refine wpList_append_lies _ rfl (.tmp 32) (.tmp 35) 42 rfl B 5 i5 (.int .u8 0) 1 1 under42 hi5 hz5 hs5 hb5 rfl (by omega) u0 D.length _ rfl HO1.out ⟨wr.heap.size, 0, none⟩ 1 1 [vB y] rfl rfl hnews (by intro u hu; simp at hu; subst hu; rfl) (by omega) (by unfold maxLen; omega) (by omega) hbase (wr.heap.size + 1) (by simp) ?_
          intro g8 cap8 w8 hown8 hgrow8 hat8 hlt8
          have HO8 : Hd (BOwn w8 B (.slice (some ⟨g8, 0, none⟩) (D.length + 1) cap8) (D ++ [y])) := by unfold Hd BOwn; rw [List.map_append, List.length_append]; exact hown8
          have HF8 : Hd (Fr (fun k => B ≤ k) w w8) := grow_frB (HF.out.alloc _) hgrow8 (fun k hk => (HO.out.ge k hk).1)
          have HBH8 : Hd (w8.heap[H]? = some (.cells #[.slice (some ⟨k1, o1, none⟩) p b1, .slice (some ⟨ua, uo, none⟩) p b2] 31)) := grow_keep HO1.out hgrow8 HBH1.out (by decide)
          have HO9 : Hd (BOwn w8 B (.slice (some ⟨g8, 0, none⟩) (D.length + 1) cap8) (E ++ [x] ++ z.take (j + 1))) := by
            unfold Hd; rw [HTJ.out, ← List.append_assoc, ← HD.out]; exact HO8.out
          clear hown8 hgrow8 hat8 hlt8 HO HF HO1 hnews hbase q4 hwy HBH HBH1 HO8
          go_wp2_with fail
          exact ⟨⟨j + 1, by simp, by omega, HO9.out, HBH8.out, HF8.out⟩, by simp; omega⟩
        · have hdj : decide ((j : Int) < r) = false := by simp; omega
          have HO2 : Hd (BOwn wr B u0 (xs ++ layL (s.heap.take (k + 1)) (s.res.take (k + 1)))) := by
            have := HO.out
            rw [List.take_of_length_le (by rw [HRk.out.1]; omega), HE.out] at this
            unfold Hd; rw [HTK.out]; simpa using this
          clear HO
          go_wp2_with fail
          exact ⟨⟨k + 1, by simp, by omega, HO2.out, HKL.out, HBH.out, HF.out⟩, by simp; omega⟩
    · have hke : k = p := by omega
      have hdk : decide ((k : Int) < p) = false := by simp; omega
      have HO2 : Hd (BOwn wr B u0 (xs ++ layL s.heap s.res)) := by
        have := HO.out
        rw [List.take_of_length_le (by rw [HRt.out.hl]; omega), List.take_of_length_le (by rw [HRt.out.rl]; omega)] at this
        exact this
      clear HO hke
      go_wp2_with fail
      go_ret
      exact ⟨u0, rfl, HO2.out, HF.out⟩

end Go.Proofs.Ytchilccmnaihkaa

namespace Go.Proofs.Ytchilccmnaihkaa
open Go.RowKit (wrap32 wrap64)
set_option linter.unusedVariables false
set_option linter.unusedSimpArgs false

theorem right_of {P R : Int} {s : PS} (h1 : shapeB P R = true) (h2 : s.right P R = true) : ∃ p r : Nat, P = p ∧ R = r ∧ p ≤ 8 ∧ r ≤ 4 ∧ PS.Right p r s := by
  simp only [shapeB, Bool.and_eq_true, decide_eq_true_eq] at h1
  simp only [PS.right, rightListB, Bool.and_eq_true, decide_eq_true_eq, List.all_eq_true] at h2
  obtain ⟨⟨⟨h11, h12⟩, h13⟩, h14⟩ := h1
  obtain ⟨p, rfl⟩ := Int.eq_ofNat_of_zero_le h11
  obtain ⟨r, rfl⟩ := Int.eq_ofNat_of_zero_le h13
  refine ⟨p, r, rfl, rfl, by omega, by omega, ?_⟩
  obtain ⟨⟨⟨a1, a2⟩, a3⟩, a4⟩ := h2
  exact ⟨by omega, by omega, a2, fun l hl => ⟨by have := (a4 l hl).1; omega, (a4 l hl).2⟩⟩
theorem of_right {p r : Nat} {s : PS} (h : PS.Right p r s) : s.right p r = true := by
  simp only [PS.right, rightListB, Bool.and_eq_true, decide_eq_true_eq, List.all_eq_true]
  exact ⟨⟨⟨by rw [h.hl], h.ho⟩, by rw [h.rl]⟩, fun l hl => ⟨by rw [(h.ro l hl).1], (h.ro l hl).2⟩⟩
theorem layL_len {p r : Nat} {s : PS} (h : PS.Right p r s) (hp : p ≤ 8) (hr : r ≤ 4) : (layL s.heap s.res).length ≤ 40 := by
  have : ∀ (hs : List Int) (ls : List (List Int)) (_ : ∀ l ∈ ls, l.length ≤ 4), (layL hs ls).length ≤ 5 * hs.length := by
    intro hs
    induction hs with
    | nil => intro ls _; cases ls <;> simp [layL]
    | cons x hs ih =>
      intro ls hl
      cases ls with
      | nil => simp [layL]
      | cons l ls =>
        have h1 := hl l (by simp)
        have h2 := ih ls (fun l h => hl l (by simp [h]))
        simp [layL]; omega
  have := this s.heap s.res (fun l hl => by have := (h.ro l hl).1; omega)
  rw [h.hl] at this
  omega
def encE (fs : List PH) (ss : List PS) : Int := if (fs.all fun f => shapeB f.P f.R) = true then (if all2 rightP fs ss = true then 0 else 90) else 1
def encB (ss : List PS) : List Int := ss.flatMap fun s => layL s.heap s.res
theorem encB_take {ss : List PS} {k : Nat} (h : k < ss.length) : encB (ss.take (k + 1)) = encB (ss.take k) ++ layL ss[k].heap ss[k].res := by
  unfold encB
  rw [List.take_add_one, List.getElem?_eq_getElem h, List.flatMap_append]
  simp

set_option maxRecDepth 100000 in
set_option maxHeartbeats 2000000 in
theorem encode_any (v1 v2 : Value) (fs : List PH) (ss : List PS) (w : World) (h1 : FsA w v1 fs) (h2 : SsA w v2 ss) (hz : fs.length ≤ 4000000000000) (hzb : ss.length ≤ 3200000000000) (hfit : ∀ s ∈ ss, s.Fits) :
    Calls Try.prog 15 #[v1, v2] w fun e w' => ∃ bv, e = .returned (.tuple #[bv, vI (encE fs ss)]) ∧ (encE fs ss = 0 → BOwn w' w.heap.size bv (encB ss)) ∧ Fr (fun _ => False) w w' := by
  have H1 : Hd (FsA w v1 fs) := h1
  have H2 : Hd (SsA w v2 ss) := h2
  have H3 : Hd (∀ s ∈ ss, s.Fits) := hfit
  obtain ⟨a1, c1, rfl, -⟩ := h1
  obtain ⟨a2, c2, rfl, hc2⟩ := h2
  have HC2 : Hd (ss ≠ [] → _) := hc2
  obtain ⟨Z, hZ⟩ : ∃ Z, Z = encE fs ss := ⟨_, rfl⟩
  have HZ : Hd (Z = encE fs ss) := hZ
  rw [← hZ]
  clear hfit hc2 hZ
  go_enter Try.func15, Try.ntmps15
  go_wp2_with fail
  refine (show Calls Try.prog 31 #[.slice a1 fs.length c1] w _ from shapes_any _ fs w H1.out hz).mono ?_
  rintro e w1 ⟨rfl, hF1⟩
  have HF1 : Hd (Fr (fun _ => False) w w1) := hF1
  clear hF1
  cases hp : (fs.all fun f => shapeB f.P f.R) with
  | false =>
    have HZ1 : Hd (Z = 1) := by unfold Hd; rw [HZ.out]; unfold encE; rw [if_neg (by rw [hp]; simp)]
    clear hp
    go_wp2_with fail
    go_ret2
    exact ⟨_, by rw [HZ1.out]; rfl, fun e => absurd (HZ1.out.symm.trans e) (by decide), HF1.out⟩
  | true =>
    have HP : Hd ((fs.all fun f => shapeB f.P f.R) = true) := hp
    clear hp
    go_wp2_with fail
    refine (show Calls Try.prog 32 #[.slice a1 fs.length c1, .slice a2 ss.length c2] w1 _ from allRight_any _ _ fs ss w1 (H1.out.stay HF1.out) (H2.out.stay HF1.out) hz (by omega) H3.out).mono ?_
    rintro e w2 ⟨rfl, hF2⟩
    have HF2 : Hd (Fr (fun _ => False) w w2) := HF1.out.trans hF2
    clear hF2
    cases hq : all2 rightP fs ss with
    | false =>
      have HZ1 : Hd (Z = 90) := by unfold Hd; rw [HZ.out]; unfold encE; rw [if_pos HP.out, if_neg (by rw [hq]; simp)]
      clear hq
      go_wp2_with fail
      go_ret2
      exact ⟨_, by rw [HZ1.out]; rfl, fun e => absurd (HZ1.out.symm.trans e) (by decide), HF2.out⟩
    | true =>
      have HZ1 : Hd (Z = 0) := by unfold Hd; rw [HZ.out]; unfold encE; rw [if_pos HP.out, if_pos hq]
      have HQ : Hd (all2 rightP fs ss = true) := hq
      have HRI : Hd (∀ i (hi : i < ss.length), ∃ p r : Nat, p ≤ 8 ∧ r ≤ 4 ∧ PS.Right p r ss[i]) := fun i hi => by
        obtain ⟨hl, ha⟩ := all2_iff.1 HQ.out
        have h1 := ha i (by omega) hi
        have h2 := List.all_eq_true.1 HP.out _ (List.getElem_mem (by omega : i < fs.length))
        obtain ⟨p, r, -, -, h3, h4, h5⟩ := right_of h2 h1
        exact ⟨p, r, h3, h4, h5⟩
      clear hq
      obtain ⟨B, hB⟩ : ∃ B, B = w.heap.size := ⟨_, rfl⟩
      have HBB : Hd (B = w.heap.size) := hB
      clear hB
      go_wp2_with fail
      go_loopw [6, 18] (fun bw v wr => ∃ (k : Nat), v = .int .i64 k ∧ k ≤ ss.length ∧ Hd (BOwn wr B bw (encB (ss.take k))) ∧ Hd ((encB (ss.take k)).length ≤ 40 * k) ∧ Hd (Fr (fun k => B ≤ k) w wr)) (fun _ v _ => match v with | .int _ q => ss.length - q.toNat | _ => 0)
      case atStart => exact ⟨0, rfl, Nat.zero_le _, World.ownsRow_nil _ _ _ _, by unfold Hd; simp [encB], HF2.out.mono (fun _ _ e => e.elim)⟩
      case round =>
        obtain ⟨k, rfl, hk, HO, HLN, HF⟩ := hrel
        by_cases hlt : k < ss.length
        · obtain ⟨k2, rfl, hk2, g2⟩ := HC2.out (by intro e; simp [e] at hlt)
          obtain ⟨hv, rv, s0, s1, s2, s3⟩ := g2 k hlt
          have t0 := (HF.out.cell (o := k * 2) hk2 (by have := HBB.out; omega)).trans s0
          have t1 := (HF.out.cell (o := k * 2 + 1) hk2 (by have := HBB.out; omega)).trans s1
          obtain ⟨p, r, hp8, hr4, hri⟩ := HRI.out k hlt
          have HRi : Hd (PS.Right p r ss[k]) := hri
          have HI : Hd (IA w hv ss[k].heap) := s2
          have HLa : Hd (LA w rv ss[k].res) := s3
          have HT : Hd (encB (ss.take (k + 1)) = encB (ss.take k) ++ layL ss[k].heap ss[k].res) := encB_take hlt
          have HT2 : Hd ((layL ss[k].heap ss[k].res).length ≤ 40) := layL_len hri hp8 hr4
          obtain ⟨ha, hc, ehv, -⟩ := s2
          obtain ⟨ra, rc, erv, -⟩ := s3
          obtain ⟨ba, bc, ebv⟩ := own_slice HO.out
          generalize ss[k] = y at *
          subst ehv
          subst erv
          have hk0 : (0 : Int) ≤ k := by omega
          have hk3 : (k : Int) < ss.length := by omega
          have HFX : Hd (Fr (fun k => B ≤ k) w (wr.alloc (.cells #[.slice ha y.heap.length hc, .slice ra y.res.length rc] 31))) := HF.out.alloc _
          have HOX : Hd (BOwn (wr.alloc (.cells #[.slice ha y.heap.length hc, .slice ra y.res.length rc] 31)) B u6 (encB (ss.take k))) := World.ownsRow.alloc HO.out _
          have HXL : Hd ((encB (ss.take k)).length ≤ 130000000000000) := by have h9 := HLN.out; unfold Hd; omega
          have HBS : Hd (B ≤ (wr.alloc (.cells #[.slice ha y.heap.length hc, .slice ra y.res.length rc] 31)).heap.size) := by have h9 := HF.out.size; have h8 := HBB.out; unfold Hd; simp; omega
          clear g2 s0 s1 hri
          subst ebv
          go_wp2_with fail
          refine (show Calls Try.prog 33 #[.slice ba (encB (ss.take k)).length bc, .agg #[.slice ha y.heap.length hc, .slice ra y.res.length rc]] (wr.alloc (.cells #[.slice ha y.heap.length hc, .slice ra y.res.length rc] 31)) _ from lay_any _ _ _ _ y p r B _ HOX.out HBS.out w HI.out HLa.out (by rw [HBB.out]; exact Nat.le_refl _) HFX.out HRi.out hp8 hr4 HXL.out).mono ?_
          rintro e w3 ⟨v', rfl, hO3, hF3⟩
          have HO3 : Hd (BOwn w3 B v' (encB (ss.take (k + 1)))) := by unfold Hd; rw [HT.out]; exact hO3
          have HF3 : Hd (Fr (fun k => B ≤ k) w w3) := HFX.out.trans hF3
          have HL3 : Hd ((encB (ss.take (k + 1))).length ≤ 40 * (k + 1)) := by have h9 := HLN.out; have h8 := HT2.out; unfold Hd; rw [HT.out, List.length_append]; omega
          clear hO3 hF3 HFX HOX HO HF t0 t1
          go_wp2_with fail
          exact ⟨⟨k + 1, by simp, by omega, HO3.out, HL3.out, HF3.out⟩, by simp; omega⟩
        · have hdk : decide ((k : Int) < ss.length) = false := by simp; omega
          have HO2 : Hd (BOwn wr B u6 (encB ss)) := by have := HO.out; rw [List.take_of_length_le (by omega)] at this; exact this
          have HFz : Hd (Fr (fun _ => False) w wr) := HF.out.mono (fun j hj e => by have := HBB.out; omega)
          clear HO HF
          go_wp2_with fail
          go_ret2
          refine ⟨u6, by rw [HZ1.out]; rfl, fun _ => by rw [← HBB.out]; exact HO2.out, HFz.out⟩

end Go.Proofs.Ytchilccmnaihkaa
