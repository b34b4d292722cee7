import Derived.Test.YtchilccmnaihkaaQL1J
namespace Go.Proofs.Ytchilccmnaihkaa
open Go.RowKit (wrap32 wrap64)
set_option linter.unusedVariables false
set_option linter.unusedSimpArgs false

set_option maxRecDepth 100000 in
set_option maxHeartbeats 1000000 in
theorem equal41 (v1 v2 : Value) (a b : List Int) (w : World) (h1 : IA w v1 a) (h2 : IA w v2 b) (hz : a.length ≤ 17592186043904) (hzb : b.length ≤ 17592186043904) :
    Calls Try.prog 37 #[v1, v2, .func (.func 41) #[] #[]] w fun e w' => e = .returned (.bool (all2 pairB a b)) ∧ Fr (fun _ => False) w w' := by
  obtain ⟨a1, c1, rfl, hc1⟩ := h1
  obtain ⟨a2, c2, rfl, hc2⟩ := h2
  have H1 : Hd _ := hc1
  have H2 : Hd _ := hc2
  clear hc1 hc2
  by_cases hl : a.length = b.length
  · obtain ⟨n, hn⟩ : ∃ n, a.length = n := ⟨_, rfl⟩
    have hnb : b.length = n := by rw [← hl]; exact hn
    have HN : Hd (a.length = n) := hn
    have HNB : Hd (b.length = n) := hnb
    have HL : Hd (a.length = b.length) := hl
    have hnz : n ≤ 17592186043904 := by rw [← hn]; exact hz
    rw [hn, hnb]
    clear hn hnb hl hz hzb
    go_enter Try.func37, Try.ntmps37
    go_wp2_with fail
    go_loopw [17] (fun v wr => ∃ (k : Nat), v = .int .i64 k ∧ k ≤ n ∧ Hd (∀ i (hi : i < a.length) (hk : i < b.length), i < k → pairB a[i] b[i] = true) ∧ Hd (Fr (fun _ => False) w wr)) (fun v _ => match v with | .int _ q => n - q.toNat | _ => 0)
    case atStart => exact ⟨0, rfl, Nat.zero_le _, fun i _ _ h => absurd h (by omega), Fr.refl _ _⟩
    case round =>
      obtain ⟨k, rfl, hk, HP, HF⟩ := hrel
      by_cases hltn : k < n
      · have hlt : k < a.length := by rw [HN.out]; exact hltn
        have hlb : k < b.length := by rw [HNB.out]; exact hltn
        obtain ⟨k1, o1, rfl, hk1, g1⟩ := H1.out (by intro e; simp [e] at hlt)
        obtain ⟨k2, o2, rfl, hk2, g2⟩ := H2.out (by intro e; simp [e] at hlb)
        have q1 := (HF.out.cell (o := o1 + k) hk1 (fun h => h)).trans (g1 k hlt)
        have q2 := (HF.out.cell (o := o2 + k) hk2 (fun h => h)).trans (g2 k hlb)
        have HB : Hd (pairB a[k] b[k] = false → all2 pairB a b = false) := fun e => all2_bad hlt hlb e
        have HS : Hd (pairB a[k] b[k] = true → ∀ i (hi : i < a.length) (hk : i < b.length), i < k + 1 → pairB a[i] b[i] = true) := fun e i hi hk' h => by
          by_cases e2 : i = k
          · subst e2; exact e
          · exact HP.out i hi hk' (by omega)
        generalize a[k] = x at *
        generalize b[k] = y at *
        have hk0 : (0 : Int) ≤ k := by omega
        have hk3 : (k : Int) < n := by omega
        clear g1 g2 HP hlt hlb
        go_wp2_with fail
        refine (show Calls Try.prog 41 #[vI x, vI y] wr _ from paired1_any x y wr).mono ?_
        rintro e w1 ⟨rfl, hF1⟩
        have HF1 : Hd (Fr (fun _ => False) w w1) := HF.out.trans hF1
        clear hF1 HF q1 q2
        cases hp : pairB x y with
        | false =>
          go_wp2_with fail
          go_ret
          exact ⟨by rw [HB.out hp]; rfl, HF1.out⟩
        | true =>
          go_wp2_with fail
          refine ⟨⟨k + 1, by simp, by omega, HS.out hp, HF1.out⟩, by simp; omega⟩
      · have hdk : decide ((k : Int) < n) = false := by simp; omega
        go_wp2_with fail
        go_ret
        exact ⟨by rw [all2_take HL.out HP.out (by rw [HN.out]; omega)]; rfl, HF.out⟩
  · have hneq : ((a.length : Int) != b.length) = true := by simp; omega
    go_enter Try.func37, Try.ntmps37
    go_wp2_with fail
    go_ret
    exact ⟨by rw [all2_short hl]; rfl, Fr.refl _ _⟩

set_option maxRecDepth 100000 in
set_option maxHeartbeats 1000000 in
theorem paired_any (v1 v2 : Value) (a b : List Int) (w : World) (h1 : IA w v1 a) (h2 : IA w v2 b) (hz : a.length ≤ 17592186043904) (hzb : b.length ≤ 17592186043904) :
    Calls Try.prog 27 #[v1, v2] w fun e w' => e = .returned (.bool (all2 pairB a b)) ∧ Fr (fun _ => False) w w' := by
  have H1 : Hd _ := h1
  have H2 : Hd _ := h2
  obtain ⟨a1, c1, rfl, -⟩ := h1
  obtain ⟨a2, c2, rfl, -⟩ := h2
  go_enter Try.func27, Try.ntmps27
  go_wp2_with fail
  refine (show Calls Try.prog 37 #[.slice a1 a.length c1, .slice a2 b.length c2, .func (.func 41) #[] #[]] w _ from equal41 _ _ a b w H1.out H2.out hz hzb).mono ?_
  rintro e w1 ⟨rfl, hF1⟩
  have HF1 : Hd (Fr (fun _ => False) w w1) := hF1
  clear hF1
  go_wp2_with fail
  go_ret
  exact ⟨rfl, HF1.out⟩

set_option maxRecDepth 100000 in
set_option maxHeartbeats 1000000 in
theorem equalL27 (v1 v2 : Value) (a b : List (List Int)) (w : World) (h1 : LA w v1 a) (h2 : LA w v2 b) (hz : a.length ≤ 17592186043904) (hzb : b.length ≤ 17592186043904) (ha : ∀ l ∈ a, l.length ≤ 17592186043904) (hb : ∀ l ∈ b, l.length ≤ 17592186043904) :
    Calls Try.prog 22 #[v1, v2, .func (.func 27) #[] #[]] w fun e w' => e = .returned (.bool (all2 (all2 pairB) a b)) ∧ Fr (fun _ => False) w w' := by
  obtain ⟨a1, c1, rfl, hc1⟩ := h1
  obtain ⟨a2, c2, rfl, hc2⟩ := h2
  have H1 : Hd (a ≠ [] → _) := hc1
  have H2 : Hd (b ≠ [] → _) := hc2
  have HA : Hd (∀ l ∈ a, l.length ≤ 17592186043904) := ha
  have HBl : Hd (∀ l ∈ b, l.length ≤ 17592186043904) := hb
  clear hc1 hc2 ha hb
  by_cases hl : a.length = b.length
  · obtain ⟨n, hn⟩ : ∃ n, a.length = n := ⟨_, rfl⟩
    have hnb : b.length = n := by rw [← hl]; exact hn
    have HN : Hd (a.length = n) := hn
    have HNB : Hd (b.length = n) := hnb
    have HL : Hd (a.length = b.length) := hl
    have hnz : n ≤ 17592186043904 := by rw [← hn]; exact hz
    rw [hn, hnb]
    clear hn hnb hl hz hzb
    go_enter Try.func22, Try.ntmps22
    go_wp2_with fail
    go_loopw [17] (fun v wr => ∃ (k : Nat), v = .int .i64 k ∧ k ≤ n ∧ Hd (∀ i (hi : i < a.length) (hk : i < b.length), i < k → all2 pairB a[i] b[i] = true) ∧ Hd (Fr (fun _ => False) w wr)) (fun v _ => match v with | .int _ q => n - q.toNat | _ => 0)
    case atStart => exact ⟨0, rfl, Nat.zero_le _, fun i _ _ h => absurd h (by omega), Fr.refl _ _⟩
    case round =>
      obtain ⟨k, rfl, hk, HP, HF⟩ := hrel
      by_cases hltn : k < n
      · have hlt : k < a.length := by rw [HN.out]; exact hltn
        have hlb : k < b.length := by rw [HNB.out]; exact hltn
        obtain ⟨k1, o1, rfl, hk1, g1⟩ := H1.out (by intro e; simp [e] at hlt)
        obtain ⟨k2, o2, rfl, hk2, g2⟩ := H2.out (by intro e; simp [e] at hlb)
        obtain ⟨u1, p1, i1⟩ := g1 k hlt
        obtain ⟨u2, p2, i2⟩ := g2 k hlb
        have q1 := (HF.out.cell hk1 (fun h => h)).trans p1
        have q2 := (HF.out.cell hk2 (fun h => h)).trans p2
        have hza : a[k].length ≤ 17592186043904 := HA.out _ (List.getElem_mem hlt)
        have hzb : b[k].length ≤ 17592186043904 := HBl.out _ (List.getElem_mem hlb)
        have I1 : Hd (IA wr u1 a[k]) := i1.stay HF.out
        have I2 : Hd (IA wr u2 b[k]) := i2.stay HF.out
        have HB : Hd (all2 pairB a[k] b[k] = false → all2 (all2 pairB) a b = false) := fun e => all2_bad hlt hlb e
        have HS : Hd (all2 pairB a[k] b[k] = true → ∀ i (hi : i < a.length) (hk : i < b.length), i < k + 1 → all2 pairB a[i] b[i] = true) := fun e i hi hk' h => by
          by_cases e2 : i = k
          · subst e2; exact e
          · exact HP.out i hi hk' (by omega)
        generalize a[k] = x at *
        generalize b[k] = y at *
        obtain ⟨x1, y1, rfl, -⟩ := I1.out
        obtain ⟨x2, y2, rfl, -⟩ := I2.out
        have hk0 : (0 : Int) ≤ k := by omega
        have hk3 : (k : Int) < n := by omega
        clear g1 g2 HP hlt hlb i1 i2 p1 p2
        go_wp2_with fail
        refine (show Calls Try.prog 27 #[.slice x1 x.length y1, .slice x2 y.length y2] wr _ from paired_any _ _ x y wr I1.out I2.out hza hzb).mono ?_
        rintro e w1 ⟨rfl, hF1⟩
        have HF1 : Hd (Fr (fun _ => False) w w1) := HF.out.trans hF1
        clear hF1 HF q1 q2 I1 I2
        cases hp : all2 pairB x y with
        | false =>
          go_wp2_with fail
          go_ret
          exact ⟨by rw [HB.out hp]; rfl, HF1.out⟩
        | true =>
          go_wp2_with fail
          refine ⟨⟨k + 1, by simp, by omega, HS.out hp, HF1.out⟩, by simp; omega⟩
      · have hdk : decide ((k : Int) < n) = false := by simp; omega
        go_wp2_with fail
        go_ret
        refine ⟨?_, HF.out⟩
        rw [all2_iff.2 ⟨HL.out, fun i hi hk' => HP.out i hi hk' (by rw [HN.out] at hi; omega)⟩]; rfl
  · have hneq : ((a.length : Int) != b.length) = true := by simp; omega
    go_enter Try.func22, Try.ntmps22
    go_wp2_with fail
    go_ret
    exact ⟨by rw [all2_short hl]; rfl, Fr.refl _ _⟩

end Go.Proofs.Ytchilccmnaihkaa

namespace Go.Proofs.Ytchilccmnaihkaa
open Go.RowKit (wrap32 wrap64)
set_option linter.unusedVariables false
set_option linter.unusedSimpArgs false

/-- A summary that lies somewhere; its lists are not too long for a memory. -/
def SA (w : World) (v : Value) (s : PS) : Prop := ∃ hv rv, v = .agg #[hv, rv] ∧ IA w hv s.heap ∧ LA w rv s.res
theorem SA.stay {w w' : World} {v : Value} {s : PS} (h : SA w v s) (f : Fr (fun _ => False) w w') : SA w' v s := by
  obtain ⟨hv, rv, rfl, h1, h2⟩ := h; exact ⟨hv, rv, rfl, h1.stay f, h2.stay f⟩
structure PS.Fits (s : PS) : Prop where
  h : s.heap.length ≤ 17592186043904
  r : s.res.length ≤ 17592186043904
  l : ∀ l ∈ s.res, l.length ≤ 17592186043904
theorem PS.Right.fits {p r : Nat} {s : PS} (h : PS.Right p r s) (hp : p ≤ 8) (hr : r ≤ 4) : s.Fits :=
  ⟨by have := h.hl; omega, by have := h.rl; omega, fun l hl => by have := (h.ro l hl).1; omega⟩
theorem keepA {W : World} {k : Nat} {o' : Obj} (h : W.heap[k]? = some o') (o : Obj) : (W.alloc o).heap[k]? = some o' := by rw [Go.RowKit.Below.heap_alloc _ _ _ (heap_lt h)]; exact h
theorem keepF {W W' : World} {k : Nat} {o' : Obj} (h : W.heap[k]? = some o') (f : Fr (fun _ => False) W W') : W'.heap[k]? = some o' := (f.block k (heap_lt h) (fun e => e)).trans h

def eqB (x y : Int) : Bool := decide (x = y)
theorem all2_eq {α : Type} {p : α → α → Bool} (hp : ∀ x y, p x y = true ↔ x = y) {a b : List α} : all2 p a b = true ↔ a = b := by
  rw [all2_iff]
  constructor
  · rintro ⟨h, k⟩; exact List.ext_getElem h (fun i hi hj => (hp _ _).1 (k i hi hj))
  · rintro rfl; exact ⟨rfl, fun i hi _ => (hp _ _).2 rfl⟩
theorem eqB_iff (x y : Int) : eqB x y = true ↔ x = y := by simp [eqB]
def PS.eq (a b : PS) : Bool := all2 eqB a.heap b.heap && all2 (all2 eqB) a.res b.res
theorem PS.eq_iff {a b : PS} : a.eq b = true ↔ a = b := by
  simp only [PS.eq, Bool.and_eq_true]
  rw [all2_eq eqB_iff, all2_eq (fun x y => all2_eq eqB_iff)]
  obtain ⟨x, y⟩ := a; obtain ⟨z, t⟩ := b
  simp

set_option maxRecDepth 100000 in
set_option maxHeartbeats 1000000 in
theorem above_any (v1 v2 : Value) (a b : PS) (w : World) (ha : SA w v1 a) (hb : SA w v2 b) (fa : a.Fits) (fb : b.Fits) :
    Calls Try.prog 9 #[v1, v2] w fun e w' => e = .returned (.bool (a.above b)) ∧ Fr (fun _ => False) w w' := by
  obtain ⟨x1, y1, rfl, h1, h2⟩ := ha
  obtain ⟨x2, y2, rfl, h3, h4⟩ := hb
  obtain ⟨a1, b1, e1, -⟩ := id h1
  obtain ⟨a2, b2, e2, -⟩ := id h2
  obtain ⟨a3, b3, e3, -⟩ := id h3
  obtain ⟨a4, b4, e4, -⟩ := id h4
  obtain ⟨wa, hwa⟩ : ∃ wa, wa = (w.alloc (.cells #[x1, y1] 31)).alloc (.cells #[x2, y2] 31) := ⟨_, rfl⟩
  have hF : Fr (fun _ => False) w wa := by rw [hwa]; exact Fr.alloc (Fr.alloc (Fr.refl _ w) _) _
  have b1' : wa.heap[w.heap.size]? = some (.cells #[x1, y1] 31) := by
    rw [hwa, Go.RowKit.Below.heap_alloc _ _ _ (by simp)]; exact heap_new w _
  have b2' : wa.heap[w.heap.size + 1]? = some (.cells #[x2, y2] 31) := by
    rw [hwa, show w.heap.size + 1 = (w.alloc (.cells #[x1, y1] 31)).heap.size by simp]; exact heap_new _ _
  have HWA : Hd (wa = (w.alloc (.cells #[x1, y1] 31)).alloc (.cells #[x2, y2] 31)) := hwa
  have HF : Hd (Fr (fun _ => False) w wa) := hF
  have G1 : Hd (IA wa x1 a.heap) := h1.stay hF
  have G2 : Hd (LA wa y1 a.res) := h2.stay hF
  have G3 : Hd (IA wa x2 b.heap) := h3.stay hF
  have G4 : Hd (LA wa y2 b.res) := h4.stay hF
  obtain ⟨H, hH⟩ : ∃ H, H = w.heap.size := ⟨_, rfl⟩
  have HH : Hd (H = w.heap.size) := hH
  rw [← hH] at b1' b2'
  have B1 : Hd (wa.heap[H]? = some (.cells #[x1, y1] 31)) := b1'
  have B2 : Hd (wa.heap[H + 1]? = some (.cells #[x2, y2] 31)) := b2'
  have FA : Hd a.Fits := fa
  have FB : Hd b.Fits := fb
  have c0 : wa.cell? ⟨H, 0, none⟩ = some x1 := by rw [cell_of b1']; rfl
  have d0 : wa.cell? ⟨H + 1, 0, none⟩ = some x2 := by rw [cell_of b2']; rfl
  subst e1; subst e2; subst e3; subst e4
  clear h1 h2 h3 h4 hF hwa hH b1' b2' fa fb
  obtain ⟨R, hR⟩ : ∃ R, R = a.above b := ⟨_, rfl⟩
  have HR : Hd (R = (all2 leB a.heap b.heap && all2 (all2 leB) a.res b.res)) := hR
  rw [← hR]
  clear hR
  go_enter Try.func9, Try.ntmps9
  go_upto_region 1 with fail
  rw [← HWA.out, ← HH.out]
  clear HWA
  go_wp2_with fail
  refine (show Calls Try.prog 21 #[.slice a1 a.heap.length b1, .slice a3 b.heap.length b3] wa _ from atMost_any _ _ _ _ wa G1.out G3.out FA.out.h FB.out.h).mono ?_
  rintro e w1 ⟨rfl, hF1⟩
  have G2' : Hd (LA w1 (.slice a2 a.res.length b2) a.res) := LA.stay G2.out hF1
  have G4' : Hd (LA w1 (.slice a4 b.res.length b4) b.res) := LA.stay G4.out hF1
  have p6 : w1.cell? ⟨H, 1, none⟩ = some (.slice a2 a.res.length b2) := by rw [hF1.cell (heap_lt B1.out) (fun e => e), cell_of B1.out]; rfl
  have r6 : w1.cell? ⟨H + 1, 1, none⟩ = some (.slice a4 b.res.length b4) := by rw [hF1.cell (heap_lt B2.out) (fun e => e), cell_of B2.out]; rfl
  have HF1 : Hd (Fr (fun _ => False) w w1) := HF.out.trans hF1
  clear hF1 c0 d0 B1 B2
  cases hp : all2 leB a.heap b.heap with
  | false =>
    have HR2 : Hd (R = false) := by unfold Hd; rw [HR.out, hp]; rfl
    clear hp
    go_wp2_with fail
    go_ret
    exact ⟨by rw [HR2.out]; rfl, HF1.out⟩
  | true =>
    have HR2 : Hd (R = all2 (all2 leB) a.res b.res) := by unfold Hd; rw [HR.out, hp]; rfl
    clear hp
    go_wp2_with fail
    refine (show Calls Try.prog 22 #[.slice a2 a.res.length b2, .slice a4 b.res.length b4, .func (.func 21) #[] #[]] w1 _ from equalL21 _ _ _ _ w1 G2'.out G4'.out FA.out.r FB.out.r FA.out.l FB.out.l).mono ?_
    rintro e w2 ⟨rfl, hF2⟩
    have HF2 : Hd (Fr (fun _ => False) w w2) := HF1.out.trans hF2
    clear hF2
    go_wp2_with fail
    go_ret
    exact ⟨by rw [HR2.out]; rfl, HF2.out⟩

end Go.Proofs.Ytchilccmnaihkaa

namespace Go.Proofs.Ytchilccmnaihkaa
open Go.RowKit (wrap32 wrap64)
set_option linter.unusedVariables false
set_option linter.unusedSimpArgs false

set_option maxRecDepth 100000 in
set_option maxHeartbeats 1000000 in
theorem eqInts_any (v1 v2 : Value) (a b : List Int) (w : World) (h1 : IA w v1 a) (h2 : IA w v2 b) (hz : a.length ≤ 17592186043904) (hzb : b.length ≤ 17592186043904) :
    Calls Try.prog 23 #[v1, v2] w fun e w' => e = .returned (.bool (all2 eqB a b)) ∧ Fr (fun _ => False) w w' := by
  obtain ⟨a1, c1, rfl, hc1⟩ := h1
  obtain ⟨a2, c2, rfl, hc2⟩ := h2
  have H1 : Hd _ := hc1
  have H2 : Hd _ := hc2
  clear hc1 hc2
  by_cases hl : a.length = b.length
  · obtain ⟨n, hn⟩ : ∃ n, a.length = n := ⟨_, rfl⟩
    have hnb : b.length = n := by rw [← hl]; exact hn
    have HN : Hd (a.length = n) := hn
    have HNB : Hd (b.length = n) := hnb
    have HL : Hd (a.length = b.length) := hl
    have hnz : n ≤ 17592186043904 := by rw [← hn]; exact hz
    rw [hn, hnb]
    clear hn hnb hl hz hzb
    go_enter Try.func23, Try.ntmps23
    go_wp2_with fail
    go_loopw [5] (fun v wr => ∃ (k : Nat), v = .int .i64 k ∧ k ≤ n ∧ Hd (∀ i (hi : i < a.length) (hk : i < b.length), i < k → eqB a[i] b[i] = true) ∧ Hd (Fr (fun _ => False) w wr)) (fun v _ => match v with | .int _ q => n - q.toNat | _ => 0)
    case atStart => exact ⟨0, rfl, Nat.zero_le _, fun i _ _ h => absurd h (by omega), Fr.refl _ _⟩
    case round =>
      obtain ⟨k, rfl, hk, HP, HF⟩ := hrel
      by_cases hltn : k < n
      · have hlt : k < a.length := by rw [HN.out]; exact hltn
        have hlb : k < b.length := by rw [HNB.out]; exact hltn
        obtain ⟨k1, o1, rfl, hk1, g1⟩ := H1.out (by intro e; simp [e] at hlt)
        obtain ⟨k2, o2, rfl, hk2, g2⟩ := H2.out (by intro e; simp [e] at hlb)
        have q1 := (HF.out.cell (o := o1 + k) hk1 (fun h => h)).trans (g1 k hlt)
        have q2 := (HF.out.cell (o := o2 + k) hk2 (fun h => h)).trans (g2 k hlb)
        have HB : Hd (eqB a[k] b[k] = false → all2 eqB a b = false) := fun e => all2_bad hlt hlb e
        have HS : Hd (eqB a[k] b[k] = true → ∀ i (hi : i < a.length) (hk : i < b.length), i < k + 1 → eqB a[i] b[i] = true) := fun e i hi hk' h => by
          by_cases e2 : i = k
          · subst e2; exact e
          · exact HP.out i hi hk' (by omega)
        generalize a[k] = x at *
        generalize b[k] = y at *
        have hk0 : (0 : Int) ≤ k := by omega
        have hk3 : (k : Int) < n := by omega
        clear g1 g2 HP hlt hlb
        by_cases hxy : x = y
        · have HS2 : Hd (∀ i (hi : i < a.length) (hk : i < b.length), i < k + 1 → eqB a[i] b[i] = true) := HS.out (by simp [eqB, hxy])
          clear HS HB
          subst hxy
          go_wp2_with fail
          refine wp_region_still_tail 8 mixed (by kernel_rfl) ?_
          simp only [List.take_succ_cons, List.take_zero, List.drop_succ_cons, List.drop_zero]
          repeat still_step
          refine wpStill_nil ?_
          go_wp2_with fail
          refine ⟨⟨k + 1, by simp, by omega, HS2.out, HF.out.drew⟩, by simp; omega⟩
        · have HB2 : Hd (all2 eqB a b = false) := HB.out (by simp [eqB, hxy])
          have hxb : (x != y) = true := by simp [hxy]
          clear HS HB
          go_wp2_with fail
          refine wp_region_still_tail 8 mixed (by kernel_rfl) ?_
          simp only [List.take_succ_cons, List.take_zero, List.drop_succ_cons, List.drop_zero]
          repeat still_step
          refine wpStill_nil ?_
          go_wp2_with fail
          go_ret
          exact ⟨by rw [HB2.out]; rfl, HF.out.drew⟩
      · have hdk : decide ((k : Int) < n) = false := by simp; omega
        go_wp2_with fail
        go_ret
        exact ⟨by rw [all2_take HL.out HP.out (by rw [HN.out]; omega)]; rfl, HF.out⟩
  · have hneq : ((a.length : Int) != b.length) = true := by simp; omega
    go_enter Try.func23, Try.ntmps23
    go_wp2_with fail
    go_ret
    exact ⟨by rw [all2_short hl]; rfl, Fr.refl _ _⟩

set_option maxRecDepth 100000 in
set_option maxHeartbeats 1000000 in
theorem eqLists_any (v1 v2 : Value) (a b : List (List Int)) (w : World) (h1 : LA w v1 a) (h2 : LA w v2 b) (hz : a.length ≤ 17592186043904) (hzb : b.length ≤ 17592186043904) (ha : ∀ l ∈ a, l.length ≤ 17592186043904) (hb : ∀ l ∈ b, l.length ≤ 17592186043904) :
    Calls Try.prog 24 #[v1, v2] w fun e w' => e = .returned (.bool (all2 (all2 eqB) a b)) ∧ Fr (fun _ => False) w w' := by
  obtain ⟨a1, c1, rfl, hc1⟩ := h1
  obtain ⟨a2, c2, rfl, hc2⟩ := h2
  have H1 : Hd (a ≠ [] → _) := hc1
  have H2 : Hd (b ≠ [] → _) := hc2
  have HA : Hd (∀ l ∈ a, l.length ≤ 17592186043904) := ha
  have HBl : Hd (∀ l ∈ b, l.length ≤ 17592186043904) := hb
  clear hc1 hc2 ha hb
  by_cases hl : a.length = b.length
  · obtain ⟨n, hn⟩ : ∃ n, a.length = n := ⟨_, rfl⟩
    have hnb : b.length = n := by rw [← hl]; exact hn
    have HN : Hd (a.length = n) := hn
    have HNB : Hd (b.length = n) := hnb
    have HL : Hd (a.length = b.length) := hl
    have hnz : n ≤ 17592186043904 := by rw [← hn]; exact hz
    rw [hn, hnb]
    clear hn hnb hl hz hzb
    go_enter Try.func24, Try.ntmps24
    go_wp2_with fail
    go_loopw [5] (fun v wr => ∃ (k : Nat), v = .int .i64 k ∧ k ≤ n ∧ Hd (∀ i (hi : i < a.length) (hk : i < b.length), i < k → all2 eqB a[i] b[i] = true) ∧ Hd (Fr (fun _ => False) w wr)) (fun v _ => match v with | .int _ q => n - q.toNat | _ => 0)
    case atStart => exact ⟨0, rfl, Nat.zero_le _, fun i _ _ h => absurd h (by omega), Fr.refl _ _⟩
    case round =>
      obtain ⟨k, rfl, hk, HP, HF⟩ := hrel
      by_cases hltn : k < n
      · have hlt : k < a.length := by rw [HN.out]; exact hltn
        have hlb : k < b.length := by rw [HNB.out]; exact hltn
        obtain ⟨k1, o1, rfl, hk1, g1⟩ := H1.out (by intro e; simp [e] at hlt)
        obtain ⟨k2, o2, rfl, hk2, g2⟩ := H2.out (by intro e; simp [e] at hlb)
        obtain ⟨u1, p1, i1⟩ := g1 k hlt
        obtain ⟨u2, p2, i2⟩ := g2 k hlb
        have q1 := (HF.out.cell hk1 (fun h => h)).trans p1
        have q2 := (HF.out.cell hk2 (fun h => h)).trans p2
        have hza : a[k].length ≤ 17592186043904 := HA.out _ (List.getElem_mem hlt)
        have hzb : b[k].length ≤ 17592186043904 := HBl.out _ (List.getElem_mem hlb)
        have I1 : Hd (IA wr u1 a[k]) := i1.stay HF.out
        have I2 : Hd (IA wr u2 b[k]) := i2.stay HF.out
        have HB : Hd (all2 eqB a[k] b[k] = false → all2 (all2 eqB) a b = false) := fun e => all2_bad hlt hlb e
        have HS : Hd (all2 eqB a[k] b[k] = true → ∀ i (hi : i < a.length) (hk : i < b.length), i < k + 1 → all2 eqB a[i] b[i] = true) := fun e i hi hk' h => by
          by_cases e2 : i = k
          · subst e2; exact e
          · exact HP.out i hi hk' (by omega)
        generalize a[k] = x at *
        generalize b[k] = y at *
        obtain ⟨x1, y1, rfl, -⟩ := I1.out
        obtain ⟨x2, y2, rfl, -⟩ := I2.out
        have hk0 : (0 : Int) ≤ k := by omega
        have hk3 : (k : Int) < n := by omega
        clear g1 g2 HP i1 i2 p1 p2 hlt hlb
        go_wp2_with fail
        refine wp_region_still_tail 8 mixed (by kernel_rfl) ?_
        simp only [List.take_succ_cons, List.take_zero, List.drop_succ_cons, List.drop_zero]
        repeat still_step
        refine wpStill_nil ?_
        go_wp2_with fail
        refine (show Calls Try.prog 23 #[.slice x1 x.length y1, .slice x2 y.length y2] wr.drew _ from eqInts_any _ _ x y wr.drew I1.out I2.out hza hzb).mono ?_
        rintro e w1 ⟨rfl, hF1⟩
        have HF1 : Hd (Fr (fun _ => False) w w1) := HF.out.drew.trans hF1
        clear hF1 HF q1 q2 I1 I2
        cases hp : all2 eqB x y with
        | false =>
          go_wp2_with fail
          go_ret
          exact ⟨by rw [HB.out hp]; rfl, HF1.out⟩
        | true =>
          go_wp2_with fail
          refine ⟨⟨k + 1, by simp, by omega, HS.out hp, HF1.out⟩, by simp; omega⟩
      · have hdk : decide ((k : Int) < n) = false := by simp; omega
        go_wp2_with fail
        go_ret
        refine ⟨?_, HF.out⟩
        rw [all2_iff.2 ⟨HL.out, fun i hi hk' => HP.out i hi hk' (by rw [HN.out] at hi; omega)⟩]; rfl
  · have hneq : ((a.length : Int) != b.length) = true := by simp; omega
    go_enter Try.func24, Try.ntmps24
    go_wp2_with fail
    go_ret
    exact ⟨by rw [all2_short hl]; rfl, Fr.refl _ _⟩

set_option maxRecDepth 100000 in
set_option maxHeartbeats 1000000 in
theorem eqSummary_any (v1 v2 : Value) (a b : PS) (w : World) (ha : SA w v1 a) (hb : SA w v2 b) (fa : a.Fits) (fb : b.Fits) :
    Calls Try.prog 10 #[v1, v2] w fun e w' => e = .returned (.bool (a.eq b)) ∧ Fr (fun _ => False) w w' := by
  obtain ⟨x1, y1, rfl, h1, h2⟩ := ha
  obtain ⟨x2, y2, rfl, h3, h4⟩ := hb
  obtain ⟨a1, b1, e1, -⟩ := id h1
  obtain ⟨a2, b2, e2, -⟩ := id h2
  obtain ⟨a3, b3, e3, -⟩ := id h3
  obtain ⟨a4, b4, e4, -⟩ := id h4
  obtain ⟨wa, hwa⟩ : ∃ wa, wa = (w.alloc (.cells #[x1, y1] 31)).alloc (.cells #[x2, y2] 31) := ⟨_, rfl⟩
  have hF : Fr (fun _ => False) w wa := by rw [hwa]; exact Fr.alloc (Fr.alloc (Fr.refl _ w) _) _
  have b1' : wa.heap[w.heap.size]? = some (.cells #[x1, y1] 31) := by
    rw [hwa, Go.RowKit.Below.heap_alloc _ _ _ (by simp)]; exact heap_new w _
  have b2' : wa.heap[w.heap.size + 1]? = some (.cells #[x2, y2] 31) := by
    rw [hwa, show w.heap.size + 1 = (w.alloc (.cells #[x1, y1] 31)).heap.size by simp]; exact heap_new _ _
  have HWA : Hd (wa = (w.alloc (.cells #[x1, y1] 31)).alloc (.cells #[x2, y2] 31)) := hwa
  have HF : Hd (Fr (fun _ => False) w wa) := hF
  have G1 : Hd (IA wa x1 a.heap) := h1.stay hF
  have G2 : Hd (LA wa y1 a.res) := h2.stay hF
  have G3 : Hd (IA wa x2 b.heap) := h3.stay hF
  have G4 : Hd (LA wa y2 b.res) := h4.stay hF
  obtain ⟨H, hH⟩ : ∃ H, H = w.heap.size := ⟨_, rfl⟩
  have HH : Hd (H = w.heap.size) := hH
  rw [← hH] at b1' b2'
  have B1 : Hd (wa.heap[H]? = some (.cells #[x1, y1] 31)) := b1'
  have B2 : Hd (wa.heap[H + 1]? = some (.cells #[x2, y2] 31)) := b2'
  have FA : Hd a.Fits := fa
  have FB : Hd b.Fits := fb
  have c0 : wa.cell? ⟨H, 0, none⟩ = some x1 := by rw [cell_of b1']; rfl
  have d0 : wa.cell? ⟨H + 1, 0, none⟩ = some x2 := by rw [cell_of b2']; rfl
  subst e1; subst e2; subst e3; subst e4
  clear h1 h2 h3 h4 hF hwa hH b1' b2' fa fb
  obtain ⟨R, hR⟩ : ∃ R, R = a.eq b := ⟨_, rfl⟩
  have HR : Hd (R = (all2 eqB a.heap b.heap && all2 (all2 eqB) a.res b.res)) := hR
  rw [← hR]
  clear hR
  go_enter Try.func10, Try.ntmps10
  go_upto_region 1 with fail
  rw [← HWA.out, ← HH.out]
  clear HWA
  go_wp2_with fail
  refine (show Calls Try.prog 23 #[.slice a1 a.heap.length b1, .slice a3 b.heap.length b3] wa _ from eqInts_any _ _ _ _ wa G1.out G3.out FA.out.h FB.out.h).mono ?_
  rintro e w1 ⟨rfl, hF1⟩
  have G2' : Hd (LA w1 (.slice a2 a.res.length b2) a.res) := LA.stay G2.out hF1
  have G4' : Hd (LA w1 (.slice a4 b.res.length b4) b.res) := LA.stay G4.out hF1
  have p6 : w1.cell? ⟨H, 1, none⟩ = some (.slice a2 a.res.length b2) := by rw [hF1.cell (heap_lt B1.out) (fun e => e), cell_of B1.out]; rfl
  have r6 : w1.cell? ⟨H + 1, 1, none⟩ = some (.slice a4 b.res.length b4) := by rw [hF1.cell (heap_lt B2.out) (fun e => e), cell_of B2.out]; rfl
  have HF1 : Hd (Fr (fun _ => False) w w1) := HF.out.trans hF1
  clear hF1 c0 d0 B1 B2
  cases hp : all2 eqB a.heap b.heap with
  | false =>
    have HR2 : Hd (R = false) := by unfold Hd; rw [HR.out, hp]; rfl
    clear hp
    go_wp2_with fail
    go_ret
    exact ⟨by rw [HR2.out]; rfl, HF1.out⟩
  | true =>
    have HR2 : Hd (R = all2 (all2 eqB) a.res b.res) := by unfold Hd; rw [HR.out, hp]; rfl
    clear hp
    go_wp2_with fail
    refine (show Calls Try.prog 24 #[.slice a2 a.res.length b2, .slice a4 b.res.length b4] w1 _ from eqLists_any _ _ _ _ w1 G2'.out G4'.out FA.out.r FB.out.r FA.out.l FB.out.l).mono ?_
    rintro e w2 ⟨rfl, hF2⟩
    have HF2 : Hd (Fr (fun _ => False) w w2) := HF1.out.trans hF2
    clear hF2
    go_wp2_with fail
    go_ret
    exact ⟨by rw [HR2.out]; rfl, HF2.out⟩

end Go.Proofs.Ytchilccmnaihkaa

namespace Go.Proofs.Ytchilccmnaihkaa
open Go.RowKit (wrap32 wrap64)
set_option linter.unusedVariables false
set_option linter.unusedSimpArgs false

def shapeB (P R : Int) : Bool := decide (0 ≤ P) && decide (P ≤ 8) && decide (0 ≤ R) && decide (R ≤ 4)
def rightListB (l : List Int) (m : Int) : Bool := decide ((l.length : Int) = m) && l.all okN
def PS.right (P R : Int) (s : PS) : Bool := rightListB s.heap P && decide ((s.res.length : Int) = P) && s.res.all (rightListB · R)

set_option maxRecDepth 100000 in
set_option maxHeartbeats 1000000 in
theorem shape_any (P R V : Int) (ca : Option Addr) (cn cc : Nat) (w : World) : Calls Try.prog 25 #[.agg #[vI P, vI R, vI V, .slice ca cn cc]] w fun e w' => e = .returned (.bool (shapeB P R)) ∧ Fr (fun _ => False) w w' := by
  have HF : Hd (Fr (fun _ => False) w (w.alloc (.cells #[vI P, vI R, vI V, .slice ca cn cc] 28))) := Fr.alloc (Fr.refl _ w) _
  unfold shapeB
  by_cases h0 : 0 ≤ P
  · by_cases h1 : P ≤ 8
    · by_cases h2 : 0 ≤ R
      · by_cases h3 : R ≤ 4
        · go_enter Try.func25, Try.ntmps25
          go_wp2_with fail
          go_ret
          exact ⟨by simp [h0, h1, h2, h3], HF.out⟩
        · go_enter Try.func25, Try.ntmps25
          go_wp2_with fail
          go_ret
          exact ⟨by simp [h0, h1, h2, h3], HF.out⟩
      · go_enter Try.func25, Try.ntmps25
        go_wp2_with fail
        go_ret
        exact ⟨by simp [h0, h1, h2]; intros; omega, HF.out⟩
    · go_enter Try.func25, Try.ntmps25
      go_wp2_with fail
      go_ret
      exact ⟨by simp [h0, h1]; intros; omega, HF.out⟩
  · go_enter Try.func25, Try.ntmps25
    go_wp2_with fail
    go_ret
    exact ⟨by simp [h0]; intros; omega, HF.out⟩

set_option maxRecDepth 100000 in
set_option maxHeartbeats 1000000 in
theorem index47 (v : Value) (a : List Int) (w : World) (h1 : IA w v a) (hz : a.length ≤ 17592186043904) :
    Calls Try.prog 51 #[v, .func (.func 47) #[] #[]] w fun e w' => (∃ j : Int, e = .returned (vI j) ∧ decide (j ≥ 0) = !a.all okN) ∧ Fr (fun _ => False) w w' := by
  obtain ⟨a1, c1, rfl, hc1⟩ := h1
  have H1 : Hd _ := hc1
  clear hc1
  go_enter Try.func51, Try.ntmps51
  go_wp2_with fail
  go_loopw [8] (fun v wr => ∃ (k : Nat), v = .int .i64 k ∧ k ≤ a.length ∧ Hd (∀ i (hi : i < a.length), i < k → okN a[i] = true) ∧ Hd (Fr (fun _ => False) w wr)) (fun v _ => match v with | .int _ q => a.length - q.toNat | _ => 0)
  case atStart => exact ⟨0, rfl, Nat.zero_le _, fun i _ h => absurd h (by omega), Fr.refl _ _⟩
  case round =>
    obtain ⟨k, rfl, hk, HP, HF⟩ := hrel
    by_cases hlt : k < a.length
    · obtain ⟨k1, o1, rfl, hk1, g1⟩ := H1.out (by intro e; simp [e] at hlt)
      have q1 := (HF.out.cell (o := o1 + k) hk1 (fun h => h)).trans (g1 k hlt)
      have HB : Hd (okN a[k] = false → a.all okN = false) := fun e => by
        rw [Bool.eq_false_iff]; intro e2
        have := List.all_eq_true.1 e2 _ (List.getElem_mem hlt)
        rw [e] at this; cases this
      have HS : Hd (okN a[k] = true → ∀ i (hi : i < a.length), i < k + 1 → okN a[i] = true) := fun e i hi h => by
        by_cases e2 : i = k
        · subst e2; exact e
        · exact HP.out i hi (by omega)
      generalize a[k] = x at *
      have hk0 : (0 : Int) ≤ k := by omega
      have hk3 : (k : Int) < a.length := by omega
      clear g1 HP
      go_wp2_with fail
      refine (show Calls Try.prog 47 #[vI x] wr _ from rightList1_any x wr).mono ?_
      rintro e w1 ⟨rfl, hF1⟩
      have HF1 : Hd (Fr (fun _ => False) w w1) := HF.out.trans hF1
      clear hF1 HF q1
      cases hp : okN x with
      | false =>
        go_wp2_with fail
        go_ret
        exact ⟨⟨k, rfl, by rw [HB.out hp]; simp⟩, HF1.out⟩
      | true =>
        go_wp2_with fail
        refine ⟨⟨k + 1, by simp, by omega, HS.out hp, HF1.out⟩, by simp; omega⟩
    · have hdk : decide ((k : Int) < a.length) = false := by simp; omega
      go_wp2_with fail
      go_ret
      refine ⟨⟨-1, rfl, ?_⟩, HF.out⟩
      rw [List.all_eq_true.2 (fun x hx => by
        obtain ⟨i, hi, rfl⟩ := List.getElem_of_mem hx
        exact HP.out i hi (by omega))]
      rfl

set_option maxRecDepth 100000 in
set_option maxHeartbeats 1000000 in
theorem contains47 (v : Value) (a : List Int) (w : World) (h1 : IA w v a) (hz : a.length ≤ 17592186043904) :
    Calls Try.prog 46 #[v, .func (.func 47) #[] #[]] w fun e w' => e = .returned (.bool (!a.all okN)) ∧ Fr (fun _ => False) w w' := by
  have H1 : Hd _ := h1
  obtain ⟨a1, c1, rfl, -⟩ := h1
  go_enter Try.func46, Try.ntmps46
  go_wp2_with fail
  refine (show Calls Try.prog 51 #[.slice a1 a.length c1, .func (.func 47) #[] #[]] w _ from index47 _ a w H1.out hz).mono ?_
  rintro e w1 ⟨⟨j, rfl, hj⟩, hF1⟩
  have HJ : Hd _ := hj
  have HF1 : Hd (Fr (fun _ => False) w w1) := hF1
  clear hF1 hj
  go_wp2_with fail
  go_ret
  exact ⟨by rw [← HJ.out]; rfl, HF1.out⟩

set_option maxRecDepth 100000 in
set_option maxHeartbeats 1000000 in
theorem rightList_any (v : Value) (a : List Int) (m : Int) (w : World) (h1 : IA w v a) (hz : a.length ≤ 17592186043904) :
    Calls Try.prog 40 #[v, vI m] w fun e w' => e = .returned (.bool (rightListB a m)) ∧ Fr (fun _ => False) w w' := by
  have H1 : Hd _ := h1
  obtain ⟨a1, c1, rfl, -⟩ := h1
  unfold rightListB
  by_cases hm : (a.length : Int) = m
  · have HM : Hd ((a.length : Int) = m) := hm
    subst hm
    go_enter Try.func40, Try.ntmps40
    go_wp2_with fail
    refine (show Calls Try.prog 46 #[.slice a1 a.length c1, .func (.func 47) #[] #[]] w _ from contains47 _ a w H1.out hz).mono ?_
    rintro e w1 ⟨rfl, hF1⟩
    have HF1 : Hd (Fr (fun _ => False) w w1) := hF1
    clear hF1
    go_wp2_with fail
    go_ret
    exact ⟨by simp, HF1.out⟩
  · have hmb : ((a.length : Int) == m) = false := by simpa using hm
    go_enter Try.func40, Try.ntmps40
    go_wp2_with fail
    go_ret
    exact ⟨by simp [hm], Fr.refl _ _⟩

end Go.Proofs.Ytchilccmnaihkaa

namespace Go.Proofs.Ytchilccmnaihkaa
open Go.RowKit (wrap32 wrap64)
set_option linter.unusedVariables false
set_option linter.unusedSimpArgs false

set_option maxRecDepth 100000 in
set_option maxHeartbeats 1000000 in
theorem right_any (P R V : Int) (ca : Option Addr) (cn cc : Nat) (v : Value) (s : PS) (w : World) (hs : SA w v s) (fs : s.Fits) :
    Calls Try.prog 26 #[.agg #[vI P, vI R, vI V, .slice ca cn cc], v] w fun e w' => e = .returned (.bool (s.right P R)) ∧ Fr (fun _ => False) w w' := by
  obtain ⟨x1, y1, rfl, h1, h2⟩ := hs
  obtain ⟨a1, b1, e1, -⟩ := id h1
  obtain ⟨a2, b2, e2, hl⟩ := id h2
  obtain ⟨wa, hwa⟩ : ∃ wa, wa = (w.alloc (.cells #[vI P, vI R, vI V, .slice ca cn cc] 28)).alloc (.cells #[x1, y1] 31) := ⟨_, rfl⟩
  have hF : Fr (fun _ => False) w wa := by rw [hwa]; exact Fr.alloc (Fr.alloc (Fr.refl _ w) _) _
  have b1' : wa.heap[w.heap.size]? = some (.cells #[vI P, vI R, vI V, .slice ca cn cc] 28) := by
    rw [hwa, Go.RowKit.Below.heap_alloc _ _ _ (by simp)]; exact heap_new w _
  have b2' : wa.heap[w.heap.size + 1]? = some (.cells #[x1, y1] 31) := by
    rw [hwa, show w.heap.size + 1 = (w.alloc (.cells #[vI P, vI R, vI V, .slice ca cn cc] 28)).heap.size by simp]; exact heap_new _ _
  have HWA : Hd (wa = (w.alloc (.cells #[vI P, vI R, vI V, .slice ca cn cc] 28)).alloc (.cells #[x1, y1] 31)) := hwa
  have HF : Hd (Fr (fun _ => False) w wa) := hF
  have G1 : Hd (IA wa x1 s.heap) := h1.stay hF
  have HL : Hd (s.res ≠ [] → _) := hl
  obtain ⟨H, hH⟩ : ∃ H, H = w.heap.size := ⟨_, rfl⟩
  have HH : Hd (H = w.heap.size) := hH
  rw [← hH] at b1' b2'
  have B1 : Hd (wa.heap[H]? = some (.cells #[vI P, vI R, vI V, .slice ca cn cc] 28)) := b1'
  have B2 : Hd (wa.heap[H + 1]? = some (.cells #[x1, y1] 31)) := b2'
  have FS : Hd s.Fits := fs
  have hrl := fs.r
  have c0 : wa.cell? ⟨H, 0, none⟩ = some (vI P) := by rw [cell_of b1']; rfl
  have d0 : wa.cell? ⟨H + 1, 0, none⟩ = some x1 := by rw [cell_of b2']; rfl
  subst e1; subst e2
  clear h1 h2 hl hF hwa hH b1' b2' fs
  obtain ⟨Z, hZ⟩ : ∃ Z, Z = s.right P R := ⟨_, rfl⟩
  have HZ : Hd (Z = (rightListB s.heap P && decide ((s.res.length : Int) = P) && s.res.all (rightListB · R))) := hZ
  rw [← hZ]
  clear hZ
  go_enter Try.func26, Try.ntmps26
  go_upto_region 1 with fail
  rw [← HWA.out, ← HH.out]
  clear HWA
  go_wp2_with fail
  refine (show Calls Try.prog 40 #[.slice a1 s.heap.length b1, vI P] wa _ from rightList_any _ _ _ wa G1.out FS.out.h).mono ?_
  rintro e w1 ⟨rfl, hF1⟩
  have p0 : w1.cell? ⟨H, 0, none⟩ = some (vI P) := by rw [hF1.cell (heap_lt B1.out) (fun e => e), cell_of B1.out]; rfl
  have p6 : w1.cell? ⟨H + 1, 1, none⟩ = some (.slice a2 s.res.length b2) := by rw [hF1.cell (heap_lt B2.out) (fun e => e), cell_of B2.out]; rfl
  have B1' : Hd (w1.heap[H]? = some (.cells #[vI P, vI R, vI V, .slice ca cn cc] 28)) := keepF B1.out hF1
  have HF1 : Hd (Fr (fun _ => False) w w1) := HF.out.trans hF1
  clear hF1 c0 d0 B1 B2
  cases hp : rightListB s.heap P with
  | false =>
    have HR2 : Hd (Z = false) := by unfold Hd; rw [HZ.out, hp]; rfl
    clear hp
    go_wp2_with fail
    go_ret
    exact ⟨by rw [HR2.out]; rfl, HF1.out⟩
  | true =>
    by_cases hP : (s.res.length : Int) = P
    · have HR2 : Hd (Z = s.res.all (rightListB · R)) := by unfold Hd; rw [HZ.out, hp]; simp [hP]
      clear hp
      subst hP
      go_wp2_with fail
      go_loopw [24] (fun v wr => ∃ (k : Nat), v = .int .i64 k ∧ k ≤ s.res.length ∧ Hd (∀ i (hi : i < s.res.length), i < k → rightListB s.res[i] R = true) ∧ Hd (Fr (fun _ => False) w1 wr)) (fun v _ => match v with | .int _ q => s.res.length - q.toNat | _ => 0)
      case atStart => exact ⟨0, rfl, Nat.zero_le _, fun i _ h => absurd h (by omega), Fr.refl _ _⟩
      case round =>
        obtain ⟨k, rfl, hk, HP, HF⟩ := hrel
        by_cases hlt : k < s.res.length
        · obtain ⟨k1, o1, rfl, hk1, g1⟩ := HL.out (by intro e; simp [e] at hlt)
          obtain ⟨u1, p1, i1⟩ := g1 k hlt
          have hfw : Fr (fun _ => False) w wr := HF1.out.trans HF.out
          have q1 := (hfw.cell hk1 (fun h => h)).trans p1
          have q2 : wr.cell? ⟨H, 1, none⟩ = some (vI R) := by rw [cell_of (keepF B1'.out HF.out)]; rfl
          have hza : s.res[k].length ≤ 17592186043904 := FS.out.l _ (List.getElem_mem hlt)
          have I1 : Hd (IA wr u1 s.res[k]) := i1.stay hfw
          have HB : Hd (rightListB s.res[k] R = false → s.res.all (rightListB · R) = false) := fun e => by
            rw [Bool.eq_false_iff]; intro e2
            have := List.all_eq_true.1 e2 _ (List.getElem_mem hlt)
            rw [e] at this; cases this
          have HS : Hd (rightListB s.res[k] R = true → ∀ i (hi : i < s.res.length), i < k + 1 → rightListB s.res[i] R = true) := fun e i hi h => by
            by_cases e2 : i = k
            · subst e2; exact e
            · exact HP.out i hi (by omega)
          generalize s.res[k] = x at *
          obtain ⟨x1, y1, rfl, -⟩ := I1.out
          have hk0 : (0 : Int) ≤ k := by omega
          have hk3 : (k : Int) < s.res.length := by omega
          clear g1 HP i1 p1 hfw
          go_wp2_with fail
          refine (show Calls Try.prog 40 #[.slice x1 x.length y1, vI R] wr _ from rightList_any _ _ _ wr I1.out hza).mono ?_
          rintro e w2 ⟨rfl, hF2⟩
          have HF2 : Hd (Fr (fun _ => False) w1 w2) := HF.out.trans hF2
          clear hF2 HF q1 q2 I1
          cases hp : rightListB x R with
          | false =>
            go_wp2_with fail
            go_ret
            exact ⟨by rw [HR2.out, HB.out hp]; rfl, HF1.out.trans HF2.out⟩
          | true =>
            go_wp2_with fail
            refine ⟨⟨k + 1, by simp, by omega, HS.out hp, HF2.out⟩, by simp; omega⟩
        · have hdk : decide ((k : Int) < s.res.length) = false := by simp; omega
          go_wp2_with fail
          go_ret
          refine ⟨?_, HF1.out.trans HF.out⟩
          rw [HR2.out, List.all_eq_true.2 (fun x hx => by
            obtain ⟨i, hi, rfl⟩ := List.getElem_of_mem hx
            exact HP.out i hi (by omega))]
          rfl
    · have HR2 : Hd (Z = false) := by unfold Hd; rw [HZ.out, hp]; simp [hP]
      have hPb : ((s.res.length : Int) != P) = true := by simpa using hP
      clear hp
      go_wp2_with fail
      go_ret
      exact ⟨by rw [HR2.out]; rfl, HF1.out⟩

def checkE (P R : Int) (s : PS) : Int := if shapeB P R then if s.right P R then 0 else 90 else 1

set_option maxRecDepth 100000 in
set_option maxHeartbeats 1000000 in
theorem check_any (P R V : Int) (ca : Option Addr) (cn cc : Nat) (v : Value) (s : PS) (w : World) (hs : SA w v s) (fs : s.Fits) :
    Calls Try.prog 11 #[.agg #[vI P, vI R, vI V, .slice ca cn cc], v] w fun e w' => e = .returned (vI (checkE P R s)) ∧ Fr (fun _ => False) w w' := by
  have HS0 : Hd (SA w v s) := hs
  have FS : Hd s.Fits := fs
  obtain ⟨x1, y1, rfl, h1, h2⟩ := hs
  obtain ⟨a1, b1, e1, -⟩ := id h1
  obtain ⟨a2, b2, e2, -⟩ := id h2
  obtain ⟨wa, hwa⟩ : ∃ wa, wa = (w.alloc (.cells #[vI P, vI R, vI V, .slice ca cn cc] 28)).alloc (.cells #[x1, y1] 31) := ⟨_, rfl⟩
  have hF : Fr (fun _ => False) w wa := by rw [hwa]; exact Fr.alloc (Fr.alloc (Fr.refl _ w) _) _
  have b1' : wa.heap[w.heap.size]? = some (.cells #[vI P, vI R, vI V, .slice ca cn cc] 28) := by
    rw [hwa, Go.RowKit.Below.heap_alloc _ _ _ (by simp)]; exact heap_new w _
  have b2' : wa.heap[w.heap.size + 1]? = some (.cells #[x1, y1] 31) := by
    rw [hwa, show w.heap.size + 1 = (w.alloc (.cells #[vI P, vI R, vI V, .slice ca cn cc] 28)).heap.size by simp]; exact heap_new _ _
  have HWA : Hd (wa = (w.alloc (.cells #[vI P, vI R, vI V, .slice ca cn cc] 28)).alloc (.cells #[x1, y1] 31)) := hwa
  have HF : Hd (Fr (fun _ => False) w wa) := hF
  obtain ⟨H, hH⟩ : ∃ H, H = w.heap.size := ⟨_, rfl⟩
  have HH : Hd (H = w.heap.size) := hH
  rw [← hH] at b1' b2'
  have B1 : Hd (wa.heap[H]? = some (.cells #[vI P, vI R, vI V, .slice ca cn cc] 28)) := b1'
  have B2 : Hd (wa.heap[H + 1]? = some (.cells #[x1, y1] 31)) := b2'
  have c0 : wa.cell? ⟨H, 0, none⟩ = some (vI P) := by rw [cell_of b1']; rfl
  have c1 : wa.cell? ⟨H, 1, none⟩ = some (vI R) := by rw [cell_of b1']; rfl
  have c2 : wa.cell? ⟨H, 2, none⟩ = some (vI V) := by rw [cell_of b1']; rfl
  have c3 : wa.cell? ⟨H, 3, none⟩ = some (.slice ca cn cc) := by rw [cell_of b1']; rfl
  subst e1; subst e2
  clear h1 h2 hF hwa hH b1' b2' fs
  obtain ⟨Z, hZ⟩ : ∃ Z, Z = checkE P R s := ⟨_, rfl⟩
  have HZ : Hd (Z = checkE P R s) := hZ
  rw [← hZ]
  clear hZ
  go_enter Try.func11, Try.ntmps11
  go_upto_region 1 with fail
  rw [← HWA.out, ← HH.out]
  clear HWA
  go_wp2_with fail
  refine (show Calls Try.prog 25 #[.agg #[vI P, vI R, vI V, .slice ca cn cc]] wa _ from shape_any _ _ _ _ _ _ wa).mono ?_
  rintro e w1 ⟨rfl, hF1⟩
  have HF1 : Hd (Fr (fun _ => False) w w1) := HF.out.trans hF1
  cases hp : shapeB P R with
  | false =>
    have HR2 : Hd (Z = 1) := by unfold Hd; rw [HZ.out]; unfold checkE; rw [if_neg (by rw [hp]; simp)]
    clear hp hF1 c0 c1 c2 c3
    go_wp2_with fail
    go_ret
    exact ⟨by rw [HR2.out]; rfl, HF1.out⟩
  | true =>
    have B1' := keepF B1.out hF1
    have B2' := keepF B2.out hF1
    have p0 : w1.cell? ⟨H, 0, none⟩ = some (vI P) := by rw [cell_of B1']; rfl
    have p1 : w1.cell? ⟨H, 1, none⟩ = some (vI R) := by rw [cell_of B1']; rfl
    have p2 : w1.cell? ⟨H, 2, none⟩ = some (vI V) := by rw [cell_of B1']; rfl
    have p3 : w1.cell? ⟨H, 3, none⟩ = some (.slice ca cn cc) := by rw [cell_of B1']; rfl
    have q0 : w1.cell? ⟨H + 1, 0, none⟩ = some (.slice a1 s.heap.length b1) := by rw [cell_of B2']; rfl
    have q1 : w1.cell? ⟨H + 1, 1, none⟩ = some (.slice a2 s.res.length b2) := by rw [cell_of B2']; rfl
    have HP : Hd (shapeB P R = true) := hp
    clear hp hF1 c0 c1 c2 c3 B1' B2'
    go_wp2_with fail
    refine (show Calls Try.prog 26 #[.agg #[vI P, vI R, vI V, .slice ca cn cc], .agg #[.slice a1 s.heap.length b1, .slice a2 s.res.length b2]] w1 _ from right_any _ _ _ _ _ _ _ s w1 (HS0.out.stay HF1.out) FS.out).mono ?_
    rintro e w2 ⟨rfl, hF2⟩
    have HF2 : Hd (Fr (fun _ => False) w w2) := HF1.out.trans hF2
    clear hF2
    cases hq : s.right P R with
    | false =>
      have HR2 : Hd (Z = 90) := by unfold Hd; rw [HZ.out]; unfold checkE; rw [if_pos HP.out, if_neg (by rw [hq]; simp)]
      clear hq p0 p1 p2 p3 q0 q1
      go_wp2_with fail
      go_ret
      exact ⟨by rw [HR2.out]; rfl, HF2.out⟩
    | true =>
      have HR2 : Hd (Z = 0) := by unfold Hd; rw [HZ.out]; unfold checkE; rw [if_pos HP.out, if_pos hq]
      clear hq p0 p1 p2 p3 q0 q1
      go_wp2_with fail
      go_ret
      exact ⟨by rw [HR2.out]; rfl, HF2.out⟩

end Go.Proofs.Ytchilccmnaihkaa
