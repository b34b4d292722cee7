import Derived.Test.YtingenonbkencaaDoorQTa
set_option linter.unusedVariables false
set_option linter.unusedSimpArgs false
namespace Go.Proofs.YtingenonbkencaaDoor
open Go.RowKit (wrap32 wrap64)
variable {b br wb g0 K : Nat} {rv : Value}
theorem le_ltT : ∀ (l : List UInt8), le l < 256 ^ l.length
  | [] => by simp [le]
  | c :: r => by
    have h := le_ltT r
    have hc : c.toNat < 256 := c.toNat_lt
    simp only [le, List.length_cons, Nat.pow_succ]
    omega
theorem leBytes_le : ∀ (l : List UInt8), leBytes l.length (le l) = l
  | [] => rfl
  | c :: r => by
    have hc : c.toNat < 256 := c.toNat_lt
    have e1 : (c.toNat + 256 * le r) % 256 = c.toNat := by omega
    have e2 : (c.toNat + 256 * le r) / 256 = le r := by omega
    simp only [le, List.length_cons, leBytes]
    rw [e1, e2, leBytes_le r]
    simp
theorem wrap_back (N : Nat) (h : N < 18446744073709551616) : (IntKind.u64.wrap (wrap64 (N : Int))).toNat = N ∧ (-9223372036854775808 ≤ wrap64 (N : Int) ∧ wrap64 (N : Int) < 9223372036854775808) := by
  simp only [u64_eq, w64_eq]
  omega
theorem pow8T {size : Nat} (hs : size ≤ 8) : (256 : Nat) ^ size ≤ 18446744073709551616 := by
  have h3 := Nat.pow_le_pow_right (n := 256) (by omega) hs
  have h4 : (256 : Nat) ^ 8 = 18446744073709551616 := by decide
  rw [h4] at h3
  exact h3
theorem leAt_ltT (bs : List UInt8) (p size : Nat) (hl : p + size ≤ bs.length) : leAt bs p size < 256 ^ size ∧ leBytes size (leAt bs p size) = (bs.drop p).take size := by
  have hlen : ((bs.drop p).take size).length = size := by simp; omega
  have h1 := le_ltT ((bs.drop p).take size)
  have h2 := leBytes_le ((bs.drop p).take size)
  rw [hlen] at h1 h2
  exact ⟨h1, h2⟩
theorem rd_fwd {bs : List UInt8} {p size : Nat} {v : Int} (hs : size ≤ 8) (h : rd bs p size = .ok v) : p + size ≤ bs.length ∧ leBytes size (IntKind.u64.wrap v).toNat = (bs.drop p).take size ∧ (-9223372036854775808 ≤ v ∧ v < 9223372036854775808) := by
  unfold rd at h
  by_cases hl : p + size ≤ bs.length
  · rw [if_pos hl] at h
    obtain ⟨h1, h2⟩ := leAt_ltT bs p size hl
    have h3 := Nat.lt_of_lt_of_le h1 (pow8T hs)
    obtain ⟨w1, w2⟩ := wrap_back _ h3
    have hv : wrap64 ((leAt bs p size : Nat) : Int) = v := Except.ok.inj h
    rw [hv] at w1 w2
    rw [w1]
    exact ⟨hl, h2, w2⟩
  · rw [if_neg hl] at h
    cases h
structure Bk (bs : List UInt8) (x : WS × (Nat × List UInt8)) (t : WS) : Prop where
  pos : x.1.at' = t.at'
  loc : x.1.locs = t.locs
  low : 0 ≤ t.at'
  high : t.at' ≤ (bs.length : Nat)
  bytes : x.2.2 = bs.take t.at'.toNat
theorem rdX_eq {bs : List UInt8} {o size : Nat} {t t' : WS} (h : nextX (reading br rv bs) o size (t, ()) = .ok (t', ())) : ∃ v, rd bs t.at'.toNat size = .ok v ∧ t' = { t.set o v with at' := adv t.at' size } := by
  unfold nextX at h
  simp only [reading] at h
  cases e : rd bs t.at'.toNat size with
  | error z => rw [e] at h; cases h
  | ok v =>
    rw [e] at h
    exact ⟨v, rfl, ((Prod.mk.inj (Except.ok.inj h)).1).symm⟩
theorem bk_next {bs : List UInt8} {o size : Nat} {t t' : WS} {x : WS × (Nat × List UInt8)} (hL : bs.length ≤ 1000000000000) (ho : o ∈ places) (hs : size ≤ 8) (h : nextX (reading br rv bs) o size (t, ()) = .ok (t', ())) (hB : Bk bs x t) (hr : 1 ≤ x.2.1) (hv : x.1.get o = t'.get o) :
    ∃ y, nextX (writing b wb g0 K) o size x = .ok y ∧ Bk bs y t' ∧ (∀ o', o' ∈ places → y.1.get o' = x.1.get o') ∧ x.2.1 = y.2.1 + 1 := by
  obtain ⟨v, e, rfl⟩ := rdX_eq h
  obtain ⟨h1, h2, -⟩ := rd_fwd hs e
  have hlow := hB.low
  have hhigh := hB.high
  have gv : ({ t.set o v with at' := adv t.at' size } : WS).get o = v := by
    rw [get_at, get_set _ _ _ _ ho ho, if_pos rfl]
  rw [gv] at hv
  have ea : adv t.at' size = t.at' + size := adv_small _ _ hlow (by omega) hs
  refine ⟨({ x.1 with at' := adv x.1.at' size }, (x.2.1 - 1, x.2.2 ++ leBytes size (IntKind.u64.wrap v).toNat)), ?_, ⟨?_, ?_, ?_, ?_, ?_⟩, fun o' ho' => rfl, ?_⟩
  · unfold nextX
    simp only [writing]
    rw [if_neg (by omega)]
    simp only [hv]
    have e5 : x.1.set o v = x.1 := by rw [← hv]; exact set_getT _ _ ho
    rw [e5]
  · show adv x.1.at' size = adv t.at' size
    rw [hB.pos]
  · show x.1.locs = (t.set o v).locs
    rw [set_locs]; exact hB.loc
  · show 0 ≤ adv t.at' size
    rw [ea]; omega
  · show adv t.at' size ≤ (bs.length : Nat)
    rw [ea]; omega
  · show x.2.2 ++ leBytes size (IntKind.u64.wrap v).toNat = bs.take (adv t.at' size).toNat
    have e3 : (adv t.at' size).toNat = t.at'.toNat + size := by rw [ea]; omega
    rw [hB.bytes, h2, e3, List.take_add]
  · show x.2.1 = x.2.1 - 1 + 1
    omega
theorem rd_keep {bs : List UInt8} {o size : Nat} {t t' : WS} (ho : o ∈ places) (h : nextX (reading br rv bs) o size (t, ()) = .ok (t', ())) : ∀ o', o' ∈ places → o' ≠ o → t'.get o' = t.get o' := by
  obtain ⟨v, -, rfl⟩ := rdX_eq h
  intro o' ho' hne
  rw [get_at, get_set _ _ _ _ ho ho', if_neg hne]
structure Sr (bs : List UInt8) (F O : List Nat) (q : WS × Unit → X (WS × Unit)) (p : WS × (Nat × List UInt8) → X (WS × (Nat × List UInt8))) : Prop where
  keep : ∀ t t', q (t, ()) = .ok (t', ()) → ∀ o, o ∈ places → o ∉ O → t'.get o = t.get o
  sim : ∀ t t' x, q (t, ()) = .ok (t', ()) → Bk bs x t → O.length ≤ x.2.1 → (∀ o, o ∈ places → o ∉ F → x.1.get o = t'.get o) → ∃ y, p x = .ok y ∧ Bk bs y t' ∧ (∀ o, o ∈ places → o ≠ 161 → y.1.get o = x.1.get o) ∧ x.2.1 ≤ y.2.1 + O.length
theorem Sr.then {bs : List UInt8} {F O1 O2 : List Nat} {q q2 : WS × Unit → X (WS × Unit)} {p p2 : WS × (Nat × List UInt8) → X (WS × (Nat × List UInt8))} (h161 : 161 ∈ F) (h : Sr bs (O2 ++ F) O1 q p) (k : Sr bs F O2 q2 p2) :
    Sr bs F (O1 ++ O2) (fun t => thenX (q t) q2) (fun x => thenX (p x) p2) := by
  refine ⟨fun t t' ht o ho hn => ?_, fun t t' x ht hB hr hv => ?_⟩
  · obtain ⟨⟨t1, ⟨⟩⟩, h1, h2⟩ := then_ok ht
    rw [k.keep t1 t' h2 o ho (fun hh => hn (by simp [hh])), h.keep t t1 h1 o ho (fun hh => hn (by simp [hh]))]
  · obtain ⟨⟨t1, ⟨⟩⟩, h1, h2⟩ := then_ok ht
    rw [List.length_append] at hr
    obtain ⟨y1, e1, B1, g1, r1⟩ := h.sim t t1 x h1 hB (by omega) (fun o ho hn => by
      rw [hv o ho (fun hh => hn (by simp [hh])), k.keep t1 t' h2 o ho (fun hh => hn (by simp [hh]))])
    obtain ⟨y2, e2, B2, g2, r2⟩ := k.sim t1 t' y1 h2 B1 (by omega) (fun o ho hn => by
      rw [g1 o ho (fun e => hn (e ▸ h161))]; exact hv o ho hn)
    exact ⟨y2, by simp only [e1, thenX]; exact e2, B2, fun o ho hn => (g2 o ho hn).trans (g1 o ho hn), by rw [List.length_append]; omega⟩
theorem Sr.next {bs : List UInt8} {F : List Nat} {o size : Nat} (hL : bs.length ≤ 1000000000000) (ho : o ∈ places) (hs : size ≤ 8) (hF : o ∉ F) : Sr bs F [o] (nextX (reading br rv bs) o size) (nextX (writing b wb g0 K) o size) := by
  refine ⟨fun t t' ht o' ho' hn => rd_keep ho ht o' ho' (by simpa using hn), fun t t' x ht hB hr hv => ?_⟩
  obtain ⟨y, e, B, g, r⟩ := bk_next hL ho hs ht hB hr (hv o ho hF)
  exact ⟨y, e, B, fun o ho _ => g o ho, by show x.2.1 ≤ y.2.1 + 1; omega⟩
theorem Sr.ask {bs : List UInt8} {F : List Nat} {o size : Nat} {c : WS → Bool} {er : Int} (hL : bs.length ≤ 1000000000000) (ho : o ∈ places) (hs : size ≤ 8) (hF : o ∉ F) (h161 : 161 ∈ F) (hc : ∀ s t : WS, (∀ o, o ∈ places → o ∉ F → s.get o = t.get o) → c s = c t) :
    Sr bs F [o] (askX (reading br rv bs) o size c er) (askX (writing b wb g0 K) o size c er) := by
  have N := Sr.next (b := b) (br := br) (wb := wb) (g0 := g0) (K := K) (rv := rv) (size := size) hL ho hs hF
  refine ⟨fun t t' ht => N.keep t t' (ask_next (M := reading br rv bs) ht).1, fun t t' x ht hB hr hv => ?_⟩
  obtain ⟨h1, h2⟩ := ask_next (M := reading br rv bs) ht
  obtain ⟨y, e, B, g, r⟩ := N.sim t t' x h1 hB hr hv
  refine ⟨y, ask_of_next (M := writing b wb g0 K) e ?_, B, g, r⟩
  rw [← h2]
  exact hc y.1 t' (fun o' ho' hn => by rw [g o' ho' (fun e => hn (e ▸ h161))]; exact hv o' ho' hn)
theorem sr_var {bs : List UInt8} {F : List Nat} (hL : bs.length ≤ 1000000000000) (h161 : 161 ∈ F) (o : Nat) (ho : o ∈ places) (h1 : o ∉ F) (h2 : 151 ∉ F) : Sr bs F [o] (varPart (reading br rv bs) o) (varPart (writing b wb g0 K) o) := by
  refine Sr.ask (b := b) (bs := bs) (br := br) (rv := rv) (c := fun s => decide (0 ≤ s.get o ∧ s.get o ≤ IntKind.i64.wrap (s.fV - 1))) (er := 13) (size := 1) hL ho (by omega) h1 h161 (fun s t hA => ?_)
  have e1 := hA o ho h1
  have e2 : s.fV = t.fV := hA 151 (by simp [places]) h2
  rw [e1, e2]
theorem sr_n {bs : List UInt8} {F : List Nat} (hL : bs.length ≤ 1000000000000) (h161 : 161 ∈ F) (size : Nat) (hs : size ≤ 8) (c : Int → Int → Int → Bool) (er : Int) (h1 : 158 ∉ F) (h2 : 146 ∉ F) (h3 : 153 ∉ F) :
    Sr bs F [158] (askX (reading br rv bs) 158 size (fun s => c s.n s.globals s.len) er) (askX (writing b wb g0 K) 158 size (fun s => c s.n s.globals s.len) er) := by
  refine Sr.ask (b := b) (bs := bs) (br := br) (rv := rv) (o := 158) (size := size) hL (by simp [places]) hs h1 h161 (fun s t hA => ?_)
  have e1 : s.n = t.n := hA 158 (by simp [places]) h1
  have e2 : s.globals = t.globals := hA 146 (by simp [places]) h2
  have e3 : s.len = t.len := hA 153 (by simp [places]) h3
  rw [e1, e2, e3]
theorem parts_sr {bs : List UInt8} (hL : bs.length ≤ 1000000000000) (op : Nat) : Sr bs [161] (namesK op) (fun t => partsX (reading br rv bs) op (.ok t)) (fun x => partsX (writing b wb g0 K) op (.ok x)) := by
  have v : ∀ {F : List Nat} (o : Nat), 161 ∈ F → o ∈ places → o ∉ F → 151 ∉ F → Sr bs F [o] (varPart (reading br rv bs) o) (varPart (writing b wb g0 K) o) := fun o h1 h2 h3 h4 => sr_var hL h1 o h2 h3 h4
  have i : Sr bs [161] [158] (intPart (reading br rv bs)) (intPart (writing b wb g0 K)) := Sr.next (b := b) (br := br) (wb := wb) (g0 := g0) (K := K) (rv := rv) (size := 8) hL (by simp [places]) (by omega) (by simp)
  have f : Sr bs [161] [158] (fieldsPart (reading br rv bs)) (fieldsPart (writing b wb g0 K)) := sr_n hL (by simp) 1 (by omega) (fun n _ _ => decide (1 ≤ n ∧ n ≤ 8)) 17 (by simp) (by simp) (by simp)
  have d : Sr bs [161] [158] (fieldPart (reading br rv bs)) (fieldPart (writing b wb g0 K)) := sr_n hL (by simp) 1 (by omega) (fun n _ _ => decide (0 ≤ n ∧ n ≤ 7)) 17 (by simp) (by simp) (by simp)
  have g : Sr bs [161] [158] (globalPart (reading br rv bs)) (globalPart (writing b wb g0 K)) := sr_n hL (by simp) 1 (by omega) (fun n g _ => decide (0 ≤ n ∧ n ≤ IntKind.i64.wrap (g - 1))) 18 (by simp) (by simp) (by simp)
  have tg : Sr bs [161] [158] (targetPart (reading br rv bs)) (targetPart (writing b wb g0 K)) := sr_n hL (by simp) 2 (by omega) (fun n _ l => decide (0 ≤ n ∧ n ≤ IntKind.i64.wrap (l - 1))) 16 (by simp) (by simp) (by simp)
  have v2 : ∀ o1 o2, o1 ∈ places → o2 ∈ places → o1 ∉ [o2, 161] → 151 ∉ [o2, 161] → o2 ∉ [161] → Sr bs [161] [o1, o2] (fun t => thenX (varPart (reading br rv bs) o1 t) (varPart (reading br rv bs) o2)) (fun x => thenX (varPart (writing b wb g0 K) o1 x) (varPart (writing b wb g0 K) o2)) :=
    fun o1 o2 h1 h2 h3 h4 h5 => Sr.then (O1 := [o1]) (O2 := [o2]) (by simp) (v o1 (by simp) h1 h3 h4) (v o2 (by simp) h2 h5 (by simp))
  have v3 : ∀ {q3 : WS × Unit → X (WS × Unit)} {p3 : WS × (Nat × List UInt8) → X (WS × (Nat × List UInt8))} (o3 : Nat), 155 ∉ [156, o3, 161] → 156 ∉ [o3, 161] → 151 ∉ [156, o3, 161] → Sr bs [161] [o3] q3 p3 →
      Sr bs [161] [155, 156, o3] (fun t => thenX (thenX (varPart (reading br rv bs) 155 t) (varPart (reading br rv bs) 156)) q3) (fun x => thenX (thenX (varPart (writing b wb g0 K) 155 x) (varPart (writing b wb g0 K) 156)) p3) := fun o3 h1 h2 h3 k =>
    Sr.then (O1 := [155, 156]) (O2 := [o3]) (by simp) (Sr.then (F := [o3, 161]) (O1 := [155]) (O2 := [156]) (by simp) (v 155 (by simp) (by simp [places]) h1 h3) (v 156 (by simp) (by simp [places]) h2 (by simp at h3 ⊢; exact h3))) k
  match op with
  | 1 => exact Sr.then (O1 := [155]) (O2 := [158]) (by simp) (v 155 (by simp) (by simp [places]) (by simp) (by simp)) i
  | 2 => exact v2 155 156 (by simp [places]) (by simp [places]) (by simp) (by simp) (by simp)
  | 3 => exact v3 157 (by simp) (by simp) (by simp) (v 157 (by simp) (by simp [places]) (by simp) (by simp))
  | 4 => exact v3 157 (by simp) (by simp) (by simp) (v 157 (by simp) (by simp [places]) (by simp) (by simp))
  | 5 => exact v2 155 156 (by simp [places]) (by simp [places]) (by simp) (by simp) (by simp)
  | 6 => exact Sr.then (O1 := [155]) (O2 := [158]) (by simp) (v 155 (by simp) (by simp [places]) (by simp) (by simp)) f
  | 7 => exact v3 158 (by simp) (by simp) (by simp) d
  | 8 => exact v3 158 (by simp) (by simp) (by simp) d
  | 9 => exact Sr.then (O1 := [155]) (O2 := [158]) (by simp) (v 155 (by simp) (by simp [places]) (by simp) (by simp)) g
  | 10 => exact Sr.then (O1 := [156]) (O2 := [158]) (by simp) (v 156 (by simp) (by simp [places]) (by simp) (by simp)) g
  | 12 => exact v 156 (by simp) (by simp [places]) (by simp) (by simp)
  | 13 => exact tg
  | 14 => exact Sr.then (O1 := [156]) (O2 := [158]) (by simp) (v 156 (by simp) (by simp [places]) (by simp) (by simp)) tg
  | 16 => exact v 155 (by simp) (by simp [places]) (by simp) (by simp)
  | 17 => exact v3 157 (by simp) (by simp) (by simp) (v 157 (by simp) (by simp [places]) (by simp) (by simp))
  | 0 => exact ⟨fun t t' h => by cases h; exact fun _ _ _ => rfl, fun t t' x h hB _ _ => by cases h; exact ⟨x, rfl, hB, fun _ _ _ => rfl, by simp⟩⟩
  | 11 => exact ⟨fun t t' h => by cases h; exact fun _ _ _ => rfl, fun t t' x h hB _ _ => by cases h; exact ⟨x, rfl, hB, fun _ _ _ => rfl, by simp⟩⟩
  | 15 => exact ⟨fun t t' h => by cases h; exact fun _ _ _ => rfl, fun t t' x h hB _ _ => by cases h; exact ⟨x, rfl, hB, fun _ _ _ => rfl, by simp⟩⟩
  | m + 18 => exact ⟨fun t t' h => by cases h; exact fun _ _ _ => rfl, fun t t' x h hB _ _ => by cases h; exact ⟨x, rfl, hB, fun _ _ _ => rfl, by simp⟩⟩
theorem front_sr {bs : List UInt8} {ends makes : Bool} {i : Nat} {p p' : Int} {t t' : WS} {x : WS × (Nat × List UInt8)} (h : frontOk (reading br rv bs) ends makes true i p (t, ()) = .ok (t', ())) (hB : Bk bs x t) (hl : x.1.len = t.len) :
    (∀ o, o ∈ places → t'.get o = t.get o) ∧ ∃ y, frontOk (writing b wb g0 K) ends makes true i p' x = .ok y ∧ Bk bs y t' ∧ (∀ o, o ∈ places → y.1.get o = x.1.get o) ∧ y.2 = x.2 := by
  unfold frontOk at h
  rw [if_neg (by simp)] at h
  by_cases h2 : (ends || decide ((i : Int) < t.len - 1)) = false
  · rw [if_pos h2] at h; cases h
  · rw [if_neg h2] at h
    have h2' : ¬ (ends || decide ((i : Int) < x.1.len - 1)) = false := by rw [hl]; exact h2
    by_cases hm : makes = true
    · rw [if_pos hm] at h
      unfold locX at h
      by_cases h3 : wrap64 (t.locs + 1) ≤ 1048576
      · rw [if_pos h3] at h
        have et : t' = { t with locs := wrap64 (t.locs + 1) } := ((Prod.mk.inj (Except.ok.inj h)).1).symm
        subst et
        refine ⟨fun _ _ => rfl, ({ x.1 with locs := wrap64 (x.1.locs + 1) }, x.2), ?_, ⟨hB.pos, ?_, hB.low, hB.high, hB.bytes⟩, fun _ _ => rfl, rfl⟩
        · unfold frontOk
          rw [if_neg (by simp), if_neg h2', if_pos hm]
          unfold locX
          rw [if_pos (by rw [hB.loc]; exact h3)]
        · show wrap64 (x.1.locs + 1) = wrap64 (t.locs + 1)
          rw [hB.loc]
      · rw [if_neg h3] at h; cases h
    · rw [if_neg hm] at h
      cases h
      refine ⟨fun _ _ => rfl, x, ?_, hB, fun _ _ => rfl, rfl⟩
      unfold frontOk
      rw [if_neg (by simp), if_neg h2', if_neg hm]
theorem one_sr {bs : List UInt8} {old v : Int} {t t' : WS} {x : WS × (Nat × List UInt8)} (hL : bs.length ≤ 1000000000000) (h : oneX (reading br rv bs) old (t, ()) = .ok (v, (t', ()))) (hB : Bk bs x t) (hr : 1 ≤ x.2.1) (hV : x.1.fV = t.fV) :
    (∀ o, o ∈ places → t'.get o = t.get o) ∧ ∃ y, oneK (writing b wb g0 K) v x = .ok y ∧ Bk bs y t' ∧ (∀ o, o ∈ places → y.1.get o = x.1.get o) ∧ x.2.1 = y.2.1 + 1 := by
  unfold oneX at h
  simp only [reading] at h
  cases e : rd bs t.at'.toNat 1 with
  | error z => rw [e] at h; cases h
  | ok v' =>
    rw [e] at h
    simp only at h
    by_cases hc : varOk t.fV v' = true
    · rw [if_pos hc] at h
      have h' := Except.ok.inj h
      have ev : v' = v := (Prod.mk.inj h').1
      have et : { t with at' := adv t.at' 1 } = t' := (Prod.mk.inj (Prod.mk.inj h').2).1
      subst ev
      subst et
      obtain ⟨h1, h2, -⟩ := rd_fwd (by omega) e
      have hlow := hB.low
      have hhigh := hB.high
      have ea : adv t.at' 1 = t.at' + ((1 : Nat) : Int) := adv_small _ _ hlow (by omega) (by omega)
      refine ⟨fun _ _ => rfl, ({ x.1 with at' := adv x.1.at' 1 }, (x.2.1 - 1, x.2.2 ++ leBytes 1 (IntKind.u64.wrap v').toNat)), ?_, ⟨?_, hB.loc, ?_, ?_, ?_⟩, fun _ _ => rfl, ?_⟩
      · unfold oneK
        simp only [writing]
        rw [if_neg (by omega)]
        simp only
        rw [if_pos (by rw [hV]; exact hc)]
      · show adv x.1.at' 1 = adv t.at' 1
        rw [hB.pos]
      · show 0 ≤ adv t.at' 1
        rw [ea]; omega
      · show adv t.at' 1 ≤ (bs.length : Nat)
        rw [ea]; omega
      · show x.2.2 ++ leBytes 1 (IntKind.u64.wrap v').toNat = bs.take (adv t.at' 1).toNat
        have e3 : (adv t.at' 1).toNat = t.at'.toNat + 1 := by rw [ea]; omega
        rw [hB.bytes, h2, e3, List.take_add]
      · show x.2.1 = x.2.1 - 1 + 1
        omega
    · rw [if_neg hc] at h; cases h
theorem vars_sr {bs : List UInt8} (hL : bs.length ≤ 1000000000000) : ∀ {old vs : List Int} {t t' : WS} {x : WS × (Nat × List UInt8)}, varsX (reading br rv bs) old (t, ()) = .ok (vs, (t', ())) → Bk bs x t → old.length ≤ x.2.1 → x.1.fV = t.fV →
    vs.length = old.length ∧ (∀ o, o ∈ places → t'.get o = t.get o) ∧ ∃ y, varsK (writing b wb g0 K) vs x = .ok y ∧ Bk bs y t' ∧ (∀ o, o ∈ places → y.1.get o = x.1.get o) ∧ x.2.1 ≤ y.2.1 + vs.length
  | [], vs, t, t', x, h, hB, _, _ => by
    unfold varsX at h
    have h' := Except.ok.inj h
    have e1 : [] = vs := (Prod.mk.inj h').1
    have e2 : t = t' := (Prod.mk.inj (Prod.mk.inj h').2).1
    subst e1
    subst e2
    exact ⟨rfl, fun _ _ => rfl, x, rfl, hB, fun _ _ => rfl, by simp⟩
  | o :: old, vs, t, t', x, h, hB, hr, hV => by
    unfold varsX at h
    cases e : oneX (reading br rv bs) o (t, ()) with
    | error z => rw [e] at h; cases h
    | ok q =>
      obtain ⟨v, t1, ⟨⟩⟩ := q
      rw [e] at h
      simp only at h
      cases e2 : varsX (reading br rv bs) old (t1, ()) with
      | error z => rw [e2] at h; cases h
      | ok q2 =>
        obtain ⟨vs2, t2, ⟨⟩⟩ := q2
        rw [e2] at h
        have h' := Except.ok.inj h
        have e3 : v :: vs2 = vs := (Prod.mk.inj h').1
        have e4 : t2 = t' := (Prod.mk.inj (Prod.mk.inj h').2).1
        subst e3
        subst e4
        simp only [List.length_cons] at hr
        obtain ⟨k1, y1, f1, B1, g1, r1⟩ := one_sr hL e hB (by omega) hV
        have hV1 : y1.1.fV = t1.fV := by
          have a1 : y1.1.fV = x.1.fV := g1 151 (by simp [places])
          have a2 : t1.fV = t.fV := k1 151 (by simp [places])
          rw [a1, a2, hV]
        obtain ⟨l2, k2, y2, f2, B2, g2, r2⟩ := vars_sr hL e2 B1 (by omega) hV1
        refine ⟨by simp [l2], fun o ho => (k2 o ho).trans (k1 o ho), y2, ?_, B2, fun o ho => (g2 o ho).trans (g1 o ho), by simp only [List.length_cons]; omega⟩
        exact (thenX_okT f1).trans f2
theorem list_sr {n : Nat} {bs : List UInt8} {l : List Int} {t t' : WS} {x : WS × (Nat × List UInt8)} (hL : bs.length ≤ 1000000000000) (h : listX (reading br rv bs) n [] (t, ()) = .ok (l, (t', ()))) (hB : Bk bs x t) (hr : n + 1 ≤ x.2.1) (hV : x.1.fV = t.fV) :
    (∀ o, o ∈ places → o ≠ 161 → t'.get o = t.get o) ∧ ∃ y, listK (writing b wb g0 K) n l x = .ok y ∧ Bk bs y t' ∧ (∀ o, o ∈ places → o ≠ 161 → y.1.get o = x.1.get o) ∧ x.2.1 ≤ y.2.1 + (n + 1) := by
  unfold listX at h
  cases e : nextX (reading br rv bs) 161 1 (({ t with count := (([] : List Int).length : Nat) } : WS), ()) with
  | error z => rw [show nextX (reading br rv bs) 161 1 ({ (t, ()).1 with count := (([] : List Int).length : Nat) }, (t, ()).2) = _ from e] at h; cases h
  | ok q =>
    obtain ⟨t1, ⟨⟩⟩ := q
    rw [show nextX (reading br rv bs) 161 1 ({ (t, ()).1 with count := (([] : List Int).length : Nat) }, (t, ()).2) = _ from e] at h
    simp only at h
    by_cases hc : t1.count = (n : Nat)
    · rw [if_pos hc] at h
      have kp := rd_keep (by simp [places]) e
      have kc : ∀ o, o ∈ places → o ≠ 161 → t1.get o = t.get o := fun o ho hne => (kp o ho hne).trans (by
        simp only [places, List.mem_cons, List.not_mem_nil, or_false] at ho
        rcases ho with rfl | rfl | rfl | rfl | rfl | rfl | rfl | rfl | rfl | rfl | rfl <;> first | rfl | exact absurd rfl hne)
      have hlo : (if ([] : List Int).length = n then [] else List.replicate n (0 : Int)).length = n := by
        split
        · rename_i h0; exact h0
        · simp
      have B0 : Bk bs (({ x.1 with count := (n : Nat) } : WS), x.2) { t with count := (([] : List Int).length : Nat) } := ⟨hB.pos, hB.loc, hB.low, hB.high, hB.bytes⟩
      obtain ⟨y1, f1, B1, g1, r1⟩ := bk_next hL (by simp [places]) (by omega) e B0 (by show 1 ≤ x.2.1; omega) (by show ((n : Nat) : Int) = t1.count; rw [hc])
      have r1 : x.2.1 = y1.2.1 + 1 := r1
      have gx : ∀ o, o ∈ places → o ≠ 161 → y1.1.get o = x.1.get o := fun o ho hne => (g1 o ho).trans (by
        simp only [places, List.mem_cons, List.not_mem_nil, or_false] at ho
        rcases ho with rfl | rfl | rfl | rfl | rfl | rfl | rfl | rfl | rfl | rfl | rfl <;> first | rfl | exact absurd rfl hne)
      have hV1 : y1.1.fV = t1.fV := by
        have a1 : y1.1.fV = x.1.fV := gx 151 (by simp [places]) (by omega)
        have a2 : t1.fV = t.fV := kc 151 (by simp [places]) (by omega)
        rw [a1, a2, hV]
      obtain ⟨l2, k2, y2, f2, B2, g2, r2⟩ := vars_sr hL h B1 (by rw [hlo]; omega) hV1
      rw [hlo] at l2
      refine ⟨fun o ho hne => (k2 o ho).trans (kc o ho hne), y2, ?_, B2, fun o ho hne => (g2 o ho).trans (gx o ho hne), by omega⟩
      subst l2
      exact (thenX_okT (p := fun y => if l.length = l.length then varsK (writing b wb g0 K) l y else .error (15, x.1.at')) f1).trans ((if_pos rfl).trans f2)
    · rw [if_neg hc] at h; cases h
theorem front_keep {M : Mode b} {ends makes nb : Bool} {i : Nat} {p : Int} {x y : WS × M.σ} (h : frontOk M ends makes nb i p x = .ok y) : ∀ o, y.1.get o = x.1.get o := by
  unfold frontOk at h
  split at h
  · cases h
  · split at h
    · cases h
    · split at h
      · unfold locX at h
        split at h
        · cases h; exact fun _ => rfl
        · cases h
      · cases h; exact fun _ => rfl
theorem oneX_keep {M : Mode b} {old v : Int} {x y : WS × M.σ} (h : oneX M old x = .ok (v, y)) : ∀ o, y.1.get o = x.1.get o := by
  unfold oneX at h
  split at h
  · split at h
    · cases h; exact fun _ => rfl
    · cases h
  · cases h
theorem varsX_keep {M : Mode b} : ∀ {old vs : List Int} {x y : WS × M.σ}, varsX M old x = .ok (vs, y) → ∀ o, y.1.get o = x.1.get o
  | [], _, _, _, h => by unfold varsX at h; cases h; exact fun _ => rfl
  | a :: old, vs, x, y, h => by
    unfold varsX at h
    cases e : oneX M a x with
    | error z => rw [e] at h; cases h
    | ok q =>
      obtain ⟨v, x1⟩ := q
      rw [e] at h
      simp only at h
      cases e2 : varsX M old x1 with
      | error z => rw [e2] at h; cases h
      | ok q2 =>
        obtain ⟨vs2, x2⟩ := q2
        rw [e2] at h
        cases h
        exact fun o => (varsX_keep e2 o).trans (oneX_keep e o)
theorem next_keepM {M : Mode b} {o size : Nat} {x y : WS × M.σ} (ho : o ∈ places) (h : nextX M o size x = .ok y) : ∀ o', o' ∈ places → o' ≠ o → y.1.get o' = x.1.get o' := by
  unfold nextX at h
  split at h
  · cases h
    intro o' ho' hne
    rw [get_at, get_set _ _ _ _ ho ho', if_neg hne]
  · cases h
theorem listX_keep {n : Nat} {M : Mode b} {l : List Int} {x y : WS × M.σ} (h : listX M n [] x = .ok (l, y)) : ∀ o, o ∈ places → o ≠ 161 → y.1.get o = x.1.get o := by
  unfold listX at h
  cases e : nextX M 161 1 ({ x.1 with count := (([] : List Int).length : Nat) }, x.2) with
  | error z => rw [e] at h; cases h
  | ok x1 =>
    rw [e] at h
    simp only at h
    split at h
    · intro o ho hne
      refine (varsX_keep h o).trans ((next_keepM (by simp [places]) e o ho hne).trans ?_)
      simp only [places, List.mem_cons, List.not_mem_nil, or_false] at ho
      rcases ho with rfl | rfl | rfl | rfl | rfl | rfl | rfl | rfl | rfl | rfl | rfl <;> first | rfl | exact absurd rfl hne
    · cases h
theorem nb_true {k : Nat} {s : WS} {la lr : Nat} (h1 : 1 ≤ k) (h17 : k ≤ 17) (hz : ∀ o, o ∈ zerosK k → s.get o = 0) (hr : k ≠ 11 → lr = 0) (ha : k ≠ 11 → k ≠ 15 → la = 0) : nbK k s la lr = true := by
  have hk : k = 1 ∨ k = 2 ∨ k = 3 ∨ k = 4 ∨ k = 5 ∨ k = 6 ∨ k = 7 ∨ k = 8 ∨ k = 9 ∨ k = 10 ∨ k = 11 ∨ k = 12 ∨ k = 13 ∨ k = 14 ∨ k = 15 ∨ k = 16 ∨ k = 17 := by omega
  rcases hk with rfl | rfl | rfl | rfl | rfl | rfl | rfl | rfl | rfl | rfl | rfl | rfl | rfl | rfl | rfl | rfl | rfl <;>
    (simp [zerosK, namesK, WS.get] at hz
     simp at hr ha
     simp [nbK, hz, hr, ha])
theorem instr_sr {bs : List UInt8} {heads : List (Nat × Nat)} {fR i : Nat} {la lr : List Int} {t t' : WS} {x : WS × (Nat × List UInt8)} (hL : bs.length ≤ 1000000000000) (hfR : fR ≤ 4) (hhd : ∀ k : Nat, (heads.getD k (0, 0)).1 ≤ 8 ∧ (heads.getD k (0, 0)).2 ≤ 4)
    (h : instrX (reading br rv bs) heads fR i (t, ()) = .ok ((la, lr), (t', ()))) (hz : ∀ o, o ∈ [155, 156, 157, 158] → t.get o = 0) (hB : Bk bs x t) (hr : 20 ≤ x.2.1) (hv : ∀ o, o ∈ places → o ≠ 161 → x.1.get o = t'.get o) :
    (∀ o, o ∈ places → o ∉ F6 → t'.get o = t.get o) ∧ ∃ y, instrK (writing b wb g0 K) heads fR i la lr x = .ok y ∧ Bk bs y t' ∧ (∀ o, o ∈ places → o ≠ 161 → y.1.get o = x.1.get o) ∧ x.2.1 ≤ y.2.1 + 20 := by
  obtain ⟨⟨t1, ⟨⟩⟩, h1, h⟩ := then_ok h
  have k1 := rd_keep (by simp [places]) h1
  have h : (if 1 ≤ t1.op ∧ t1.op ≤ 17 then
      (if t1.op = 15 then retX (reading br rv bs) fR (frontOk (reading br rv bs) true false true i t.at' (t1, ()))
       else if t1.op = 11 then callX (reading br rv bs) heads (frontOk (reading br rv bs) false false true i t.at' (t1, ()))
       else thenX (partsX (reading br rv bs) t1.op.toNat (frontOk (reading br rv bs) (t1.op == 13) (t1.op == 6) true i t.at' (t1, ()))) fun y' => .ok (([], []), y'))
    else .error (12, t.at')) = .ok ((la, lr), (t', ())) := h
  by_cases hop : 1 ≤ t1.op ∧ t1.op ≤ 17
  rotate_left
  · rw [if_neg hop] at h; cases h
  rw [if_pos hop] at h
  have first : t'.op = t1.op → ∃ y1, nextX (writing b wb g0 K) 154 1 x = .ok y1 ∧ Bk bs y1 t1 ∧ (∀ o, o ∈ places → y1.1.get o = x.1.get o) ∧ x.2.1 = y1.2.1 + 1 := fun eo =>
    bk_next hL (by simp [places]) (by omega) h1 hB (by omega) ((hv 154 (by simp [places]) (by omega)).trans eo)
  have zero : ∀ (Z : List Nat), (∀ o, o ∈ Z → o ∈ [155, 156, 157, 158]) → (∀ o, o ∈ Z → t'.get o = t1.get o) → ∀ o, o ∈ Z → x.1.get o = 0 := by
    intro Z hZ hk o ho
    have h4 := hZ o ho
    have hpl : o ∈ places := by simp at h4; rcases h4 with rfl | rfl | rfl | rfl <;> simp [places]
    rw [hv o hpl (by simp at h4; omega), hk o ho, k1 o hpl (by simp at h4; omega), hz o h4]
  by_cases h15 : t1.op = 15
  · rw [if_pos h15] at h
    obtain ⟨⟨t2, ⟨⟩⟩, h2, h⟩ := then_ok h
    obtain ⟨⟨l, t3, ⟨⟩⟩, h3, h⟩ := then_ok h
    have h' := Except.ok.inj h
    have e1 : l = la := (Prod.mk.inj (Prod.mk.inj h').1).1
    have e2 : [] = lr := (Prod.mk.inj (Prod.mk.inj h').1).2
    have e3 : t3 = t' := (Prod.mk.inj (Prod.mk.inj h').2).1
    subst e1 e2 e3
    have q2 : ∀ o, t2.get o = t1.get o := front_keep (M := reading br rv bs) h2
    have q3 : ∀ o, o ∈ places → o ≠ 161 → t3.get o = t2.get o := listX_keep (M := reading br rv bs) h3
    have hkk : ∀ o, o ∈ places → o ≠ 161 → t3.get o = t1.get o := fun o ho hne => (q3 o ho hne).trans (q2 o)
    obtain ⟨y1, f1, B1, g1, r1⟩ := first (hkk 154 (by simp [places]) (by omega))
    have ex : x.1.op = 15 := by
      have a1 : x.1.op = t3.op := hv 154 (by simp [places]) (by omega)
      have a2 : t3.op = t1.op := hkk 154 (by simp [places]) (by omega)
      rw [a1, a2, h15]
    obtain ⟨-, y2, f2, B2, g2, r2⟩ := front_sr (p' := x.1.at') h2 B1 (by
      have a1 : y1.1.len = x.1.len := g1 153 (by simp [places])
      have a2 : x.1.len = t3.len := hv 153 (by simp [places]) (by omega)
      have a3 : t3.len = t1.len := hkk 153 (by simp [places]) (by omega)
      rw [a1, a2, a3])
    obtain ⟨-, y3, f3, B3, g3, r3⟩ := list_sr hL h3 B2 (by rw [r2]; omega) (by
      have a1 : y2.1.fV = y1.1.fV := g2 151 (by simp [places])
      have a2 : y1.1.fV = x.1.fV := g1 151 (by simp [places])
      have a3 : x.1.fV = t3.fV := hv 151 (by simp [places]) (by omega)
      have a4 : t3.fV = t2.fV := q3 151 (by simp [places]) (by omega)
      rw [a1, a2, a3, a4])
    have hnb : nbK 15 x.1 l.length ([] : List Int).length = true := nb_true (by omega) (by omega) (zero _ (by simp [zerosK]) (fun o ho => hkk o (by simp [zerosK] at ho; rcases ho with rfl | rfl | rfl | rfl <;> simp [places]) (by simp [zerosK] at ho; omega))) (by simp) (by omega)
    refine ⟨fun o ho hn => (hkk o ho (fun e => hn (by simp [e]))).trans (k1 o ho (fun e => hn (by simp [e]))), y3, ?_, B3, fun o ho hne => ((g3 o ho hne).trans (g2 o ho)).trans (g1 o ho), by rw [r2] at r3; omega⟩
    unfold instrK
    refine (thenX_okT f1).trans ?_
    rw [if_pos (by omega), if_pos ex, hnb]
    exact (thenX_okT f2).trans f3
  · rw [if_neg h15] at h
    by_cases h11 : t1.op = 11
    · rw [if_pos h11] at h
      obtain ⟨⟨t3, ⟨⟩⟩, h3, h⟩ := then_ok h
      obtain ⟨⟨t2, ⟨⟩⟩, h2, h3⟩ := then_ok h3
      obtain ⟨⟨l, t4, ⟨⟩⟩, h4, h⟩ := then_ok h
      obtain ⟨⟨l2, t5, ⟨⟩⟩, h5, h⟩ := then_ok h
      have h' := Except.ok.inj h
      have e1 : l = la := (Prod.mk.inj (Prod.mk.inj h').1).1
      have e2 : l2 = lr := (Prod.mk.inj (Prod.mk.inj h').1).2
      have e3 : t5 = t' := (Prod.mk.inj (Prod.mk.inj h').2).1
      subst e1 e2 e3
      have q2 : ∀ o, t2.get o = t1.get o := front_keep (M := reading br rv bs) h2
      have S3 : Sr bs [161] [158] (calleePart (reading br rv bs) heads.length) (calleePart (writing b wb g0 K) heads.length) := sr_n hL (by simp) 2 (by omega) (fun n _ _ => decide (0 ≤ n ∧ n ≤ IntKind.i64.wrap ((heads.length : Int) - 1))) 14 (by simp) (by simp) (by simp)
      have q3 := S3.keep t2 t3 h3
      have q4 : ∀ o, o ∈ places → o ≠ 161 → t4.get o = t3.get o := listX_keep (M := reading br rv bs) h4
      have q5 : ∀ o, o ∈ places → o ≠ 161 → t5.get o = t4.get o := listX_keep (M := reading br rv bs) h5
      have hkk : ∀ o, o ∈ places → o ≠ 161 → o ≠ 158 → t5.get o = t1.get o := fun o ho hne h8 => (((q5 o ho hne).trans (q4 o ho hne)).trans (q3 o ho (by simpa using h8))).trans (q2 o)
      obtain ⟨y1, f1, B1, g1, r1⟩ := first (hkk 154 (by simp [places]) (by omega) (by omega))
      have ex : x.1.op = 11 := by
        have a1 : x.1.op = t5.op := hv 154 (by simp [places]) (by omega)
        have a2 : t5.op = t1.op := hkk 154 (by simp [places]) (by omega) (by omega)
        rw [a1, a2, h11]
      obtain ⟨-, y2, f2, B2, g2, r2⟩ := front_sr (p' := x.1.at') h2 B1 (by
        have a1 : y1.1.len = x.1.len := g1 153 (by simp [places])
        have a2 : x.1.len = t5.len := hv 153 (by simp [places]) (by omega)
        have a3 : t5.len = t1.len := hkk 153 (by simp [places]) (by omega) (by omega)
        rw [a1, a2, a3])
      obtain ⟨y3, f3, B3, g3, r3⟩ := S3.sim t2 t3 y2 h3 B2 (by rw [r2]; show 1 ≤ y1.2.1; omega) (fun o ho hn => by
        have hne : o ≠ 161 := by simpa using hn
        rw [g2 o ho, g1 o ho, hv o ho hne, q5 o ho hne, q4 o ho hne])
      have r3 : y2.2.1 ≤ y3.2.1 + 1 := r3
      rw [r2] at r3
      have en : y3.1.n = t3.n := by
        have a1 : y3.1.n = y2.1.n := g3 158 (by simp [places]) (by omega)
        have a2 : y2.1.n = y1.1.n := g2 158 (by simp [places])
        have a3 : y1.1.n = x.1.n := g1 158 (by simp [places])
        have a4 : x.1.n = t5.n := hv 158 (by simp [places]) (by omega)
        have a5 : t5.n = t4.n := q5 158 (by simp [places]) (by omega)
        have a6 : t4.n = t3.n := q4 158 (by simp [places]) (by omega)
        rw [a1, a2, a3, a4, a5, a6]
      have eV3 : y3.1.fV = t3.fV := by
        have a1 : y3.1.fV = y2.1.fV := g3 151 (by simp [places]) (by omega)
        have a2 : y2.1.fV = y1.1.fV := g2 151 (by simp [places])
        have a3 : y1.1.fV = x.1.fV := g1 151 (by simp [places])
        have a4 : x.1.fV = t5.fV := hv 151 (by simp [places]) (by omega)
        have a5 : t5.fV = t4.fV := q5 151 (by simp [places]) (by omega)
        have a6 : t4.fV = t3.fV := q4 151 (by simp [places]) (by omega)
        rw [a1, a2, a3, a4, a5, a6]
      have hb := hhd t3.n.toNat
      have h4 : listX (reading br rv bs) ((heads.getD t3.n.toNat (0, 0)).1) [] (t3, ()) = .ok (l, (t4, ())) := h4
      have h5 : listX (reading br rv bs) ((heads.getD t3.n.toNat (0, 0)).2) [] (t4, ()) = .ok (l2, (t5, ())) := h5
      obtain ⟨-, y4, f4, B4, g4, r4⟩ := list_sr hL h4 B3 (by omega) eV3
      obtain ⟨-, y5, f5, B5, g5, r5⟩ := list_sr hL h5 B4 (by omega) (by
        have a1 : y4.1.fV = y3.1.fV := g4 151 (by simp [places]) (by omega)
        have a2 : t4.fV = t3.fV := q4 151 (by simp [places]) (by omega)
        rw [a1, a2, eV3])
      have hnb : nbK 11 x.1 l.length l2.length = true := nb_true (by omega) (by omega) (zero _ (by simp [zerosK]) (fun o ho => hkk o (by simp [zerosK] at ho; rcases ho with rfl | rfl | rfl <;> simp [places]) (by simp [zerosK] at ho; omega) (by simp [zerosK] at ho; omega))) (by omega) (by omega)
      refine ⟨fun o ho hn => (hkk o ho (fun e => hn (by simp [e])) (fun e => hn (by simp [e]))).trans (k1 o ho (fun e => hn (by simp [e]))), y5, ?_, B5, fun o ho hne => ((((g5 o ho hne).trans (g4 o ho hne)).trans (g3 o ho hne)).trans (g2 o ho)).trans (g1 o ho), by omega⟩
      unfold instrK
      refine (thenX_okT f1).trans ?_
      rw [if_pos (by omega), if_neg (by omega), if_pos ex, hnb]
      have f23 : thenX (frontOk (writing b wb g0 K) false false true i x.1.at' y1) (calleePart (writing b wb g0 K) heads.length) = .ok y3 := (thenX_okT f2).trans f3
      refine (thenX_okT f23).trans ?_
      rw [← en] at f4 f5
      exact (thenX_okT f4).trans f5
    · rw [if_neg h11] at h
      obtain ⟨k, hk⟩ := Int.eq_ofNat_of_zero_le (show 0 ≤ t1.op by omega)
      have hkn : t1.op.toNat = k := by omega
      obtain ⟨⟨t3, ⟨⟩⟩, h3, h⟩ := then_ok h
      have h' := Except.ok.inj h
      have e1 : [] = la := (Prod.mk.inj (Prod.mk.inj h').1).1
      have e2 : [] = lr := (Prod.mk.inj (Prod.mk.inj h').1).2
      have e3 : t3 = t' := (Prod.mk.inj (Prod.mk.inj h').2).1
      subst e1 e2 e3
      cases h2 : frontOk (reading br rv bs) (t1.op == 13) (t1.op == 6) true i t.at' (t1, ()) with
      | error z =>
        rw [h2] at h3
        have : ∀ k, partsX (reading br rv bs) k (.error z) = .error z := by
          intro k; unfold partsX; split <;> rfl
        rw [this] at h3; cases h3
      | ok q =>
        obtain ⟨t2, ⟨⟩⟩ := q
        rw [h2, hkn] at h3
        have q2 : ∀ o, t2.get o = t1.get o := front_keep (M := reading br rv bs) h2
        have S3 := parts_sr (b := b) (br := br) (wb := wb) (g0 := g0) (K := K) (rv := rv) hL k
        have q3 := S3.keep t2 t3 h3
        have hk17 : k = 1 ∨ k = 2 ∨ k = 3 ∨ k = 4 ∨ k = 5 ∨ k = 6 ∨ k = 7 ∨ k = 8 ∨ k = 9 ∨ k = 10 ∨ k = 12 ∨ k = 13 ∨ k = 14 ∨ k = 16 ∨ k = 17 := by clear first zero h1 hkn; omega
        have names : (∀ o, o ∈ namesK k → o ∈ [155, 156, 157, 158]) ∧ (namesK k).length ≤ 3 ∧ (∀ o, o ∈ zerosK k → o ∈ [155, 156, 157, 158] ∧ o ∉ namesK k) := by
          rcases hk17 with rfl | rfl | rfl | rfl | rfl | rfl | rfl | rfl | rfl | rfl | rfl | rfl | rfl | rfl | rfl <;> simp [zerosK, namesK]
        obtain ⟨n1, n2, n3⟩ := names
        have hkk : ∀ o, o ∈ places → o ∉ namesK k → t3.get o = t1.get o := fun o ho hn => (q3 o ho hn).trans (q2 o)
        have m154 : 154 ∉ namesK k := fun hm => by have := n1 154 hm; simp at this
        have m153 : 153 ∉ namesK k := fun hm => by have := n1 153 hm; simp at this
        obtain ⟨y1, f1, B1, g1, r1⟩ := first (hkk 154 (by simp [places]) m154)
        have ex : x.1.op = t1.op := by
          have a1 : x.1.op = t3.op := hv 154 (by simp [places]) (by omega)
          have a2 : t3.op = t1.op := hkk 154 (by simp [places]) m154
          rw [a1, a2]
        obtain ⟨-, y2, f2, B2, g2, r2⟩ := front_sr (p' := x.1.at') h2 B1 (by
          have a1 : y1.1.len = x.1.len := g1 153 (by simp [places])
          have a2 : x.1.len = t3.len := hv 153 (by simp [places]) (by omega)
          have a3 : t3.len = t1.len := hkk 153 (by simp [places]) m153
          rw [a1, a2, a3])
        obtain ⟨y3, f3, B3, g3, r3⟩ := S3.sim t2 t3 y2 h3 B2 (by rw [r2]; omega) (fun o ho hn => by
          have hne : o ≠ 161 := by simpa using hn
          rw [g2 o ho, g1 o ho, hv o ho hne])
        rw [r2] at r3
        have hnb : nbK k x.1 ([] : List Int).length ([] : List Int).length = true := nb_true (by omega) (by omega) (zero _ (fun o ho => (n3 o ho).1) (fun o ho => hkk o (by have := (n3 o ho).1; simp at this; rcases this with rfl | rfl | rfl | rfl <;> simp [places]) (n3 o ho).2)) (by simp) (by simp)
        refine ⟨fun o ho hn => (hkk o ho (fun hm => hn (by have h9 := n1 o hm; simp only [List.mem_cons, List.not_mem_nil, or_false] at h9 ⊢; rcases h9 with h9 | h9 | h9 | h9 <;> simp [h9]))).trans (k1 o ho (fun e => hn (by simp [e]))), y3, ?_, B3, fun o ho hne => ((g3 o ho hne).trans (g2 o ho)).trans (g1 o ho), by clear hk hkn; omega⟩
        unfold instrK
        refine (thenX_okT f1).trans ?_
        rw [if_pos (by omega), if_neg (by omega), if_neg (by omega), ex, hkn, hnb, f2]
        exact f3
theorem names_F6 (k : Nat) : ∀ o, o ∈ namesK k → o ∈ F6 := by
  intro o ho
  unfold namesK at ho
  split at ho <;> simp only [List.mem_cons, List.not_mem_nil, or_false] at ho ⊢ <;> omega
theorem instrX_keep {bs : List UInt8} (hL : bs.length ≤ 1000000000000) {heads : List (Nat × Nat)} {fR i : Nat} {ll : List Int × List Int} {t t' : WS} (h : instrX (reading br rv bs) heads fR i (t, ()) = .ok (ll, (t', ()))) : ∀ o, o ∈ places → o ∉ F6 → t'.get o = t.get o := by
  obtain ⟨⟨t1, ⟨⟩⟩, h1, h⟩ := then_ok h
  have k1 := rd_keep (by simp [places]) h1
  intro o ho hn
  have n161 : o ≠ 161 := fun e => hn (by simp [e])
  refine Eq.trans ?_ (k1 o ho (fun e => hn (by simp [e])))
  split at h
  · split at h
    · obtain ⟨⟨t2, ⟨⟩⟩, h2, h⟩ := then_ok h
      obtain ⟨⟨l, t3, ⟨⟩⟩, h3, h⟩ := then_ok h
      have e3 : t3 = t' := (Prod.mk.inj (Prod.mk.inj (Except.ok.inj h)).2).1
      subst e3
      exact (listX_keep (M := reading br rv bs) h3 o ho n161).trans (front_keep (M := reading br rv bs) h2 o)
    · split at h
      · obtain ⟨⟨t3, ⟨⟩⟩, h3, h⟩ := then_ok h
        obtain ⟨⟨t2, ⟨⟩⟩, h2, h3⟩ := then_ok h3
        obtain ⟨⟨l, t4, ⟨⟩⟩, h4, h⟩ := then_ok h
        obtain ⟨⟨l2, t5, ⟨⟩⟩, h5, h⟩ := then_ok h
        have e3 : t5 = t' := (Prod.mk.inj (Prod.mk.inj (Except.ok.inj h)).2).1
        subst e3
        have S3 : Sr bs [161] [158] (calleePart (reading br rv bs) heads.length) (calleePart (writing 0 0 0 0) heads.length) := sr_n hL (by simp) 2 (by omega) (fun n _ _ => decide (0 ≤ n ∧ n ≤ IntKind.i64.wrap ((heads.length : Int) - 1))) 14 (by simp) (by simp) (by simp)
        exact (((listX_keep (M := reading br rv bs) h5 o ho n161).trans (listX_keep (M := reading br rv bs) h4 o ho n161)).trans (S3.keep t2 t3 h3 o ho (fun e => hn (by simp at e; simp [e])))).trans (front_keep (M := reading br rv bs) h2 o)
      · obtain ⟨⟨t3, ⟨⟩⟩, h3, h⟩ := then_ok h
        have e3 : t3 = t' := (Prod.mk.inj (Prod.mk.inj (Except.ok.inj h)).2).1
        subst e3
        cases h2 : frontOk (reading br rv bs) (t1.op == 13) (t1.op == 6) true i t.at' (t1, ()) with
        | error z =>
          have h3 : partsX (reading br rv bs) t1.op.toNat (frontOk (reading br rv bs) (t1.op == 13) (t1.op == 6) true i t.at' (t1, ())) = .ok (t3, ()) := h3
          rw [h2] at h3
          have : ∀ k, partsX (reading br rv bs) k (.error z) = .error z := by
            intro k; unfold partsX; split <;> rfl
          rw [this] at h3; cases h3
        | ok q =>
          obtain ⟨t2, ⟨⟩⟩ := q
          have h3 : partsX (reading br rv bs) t1.op.toNat (frontOk (reading br rv bs) (t1.op == 13) (t1.op == 6) true i t.at' (t1, ())) = .ok (t3, ()) := h3
          rw [h2] at h3
          exact ((parts_sr (b := 0) (br := br) (wb := 0) (g0 := 0) (K := 0) (rv := rv) hL t1.op.toNat).keep t2 t3 h3 o ho (fun hm => hn (names_F6 _ o hm))).trans (front_keep (M := reading br rv bs) h2 o)
  · cases h
def pi (a : AI) : PI := ⟨a.op, a.r, a.s, a.t, a.n, a.args, a.rets⟩
theorem code_sr {bs : List UInt8} {heads : List (Nat × Nat)} {fR len : Nat} (hL : bs.length ≤ 1000000000000) (hfR : fR ≤ 4) (hhd : ∀ k : Nat, (heads.getD k (0, 0)).1 ≤ 8 ∧ (heads.getD k (0, 0)).2 ≤ 4) :
    ∀ {m : Nat} {l : List AI} {t t' : WS} {x : WS × (Nat × List UInt8)}, m ≤ len → codeX (reading br rv bs) heads fR len m (t, ()) = .ok (l, (t', ())) → Bk bs x t → 20 * m ≤ x.2.1 → (∀ o, o ∈ places → o ∉ F6 → x.1.get o = t.get o) →
      l.length = m ∧ (∀ o, o ∈ places → o ∉ F6 → t'.get o = t.get o) ∧ ∃ y, codeK (writing b wb g0 K) heads fR (len - m) (l.map pi) x = .ok y ∧ Bk bs y t' ∧ (∀ o, o ∈ places → o ∉ F6 → y.1.get o = x.1.get o) ∧ x.2.1 ≤ y.2.1 + 20 * m
  | 0, l, t, t', x, _, h, hB, _, _ => by
    unfold codeX at h
    have h' := Except.ok.inj h
    have e1 : [] = l := (Prod.mk.inj h').1
    have e2 : t = t' := (Prod.mk.inj (Prod.mk.inj h').2).1
    subst e1 e2
    exact ⟨rfl, fun _ _ _ => rfl, x, rfl, hB, fun _ _ _ => rfl, by omega⟩
  | m + 1, l, t, t', x, hm, h, hB, hr, hA => by
    unfold codeX at h
    cases e : instrX (reading br rv bs) heads fR (len - (m + 1)) (blank t, ()) with
    | error z => rw [show instrX (reading br rv bs) heads fR (len - (m + 1)) (blank (t, ()).1, (t, ()).2) = _ from e] at h; cases h
    | ok q =>
      obtain ⟨⟨la, lr⟩, t1, ⟨⟩⟩ := q
      rw [show instrX (reading br rv bs) heads fR (len - (m + 1)) (blank (t, ()).1, (t, ()).2) = _ from e] at h
      simp only at h
      cases e2 : codeX (reading br rv bs) heads fR len m (t1, ()) with
      | error z => rw [e2] at h; cases h
      | ok q2 =>
        obtain ⟨l2, t2, ⟨⟩⟩ := q2
        rw [e2] at h
        have h' := Except.ok.inj h
        have e3 : aiOf (la, lr) t1 :: l2 = l := (Prod.mk.inj h').1
        have e4 : t2 = t' := (Prod.mk.inj (Prod.mk.inj h').2).1
        subst e3 e4
        have ks := instrX_keep hL e
        have kt : ∀ o, o ∈ places → o ∉ F6 → t1.get o = t.get o := fun o ho hn => (ks o ho hn).trans (blank_get t o ho hn)
        have B0 : Bk bs (inI (pi (aiOf (la, lr) t1)) x.1, x.2) (blank t) := ⟨hB.pos, hB.loc, hB.low, hB.high, hB.bytes⟩
        obtain ⟨-, y1, f1, B1, g1, r1⟩ := instr_sr hL hfR hhd e (by intro o ho; simp at ho; rcases ho with rfl | rfl | rfl | rfl <;> rfl) B0 (by show 20 ≤ x.2.1; omega) (fun o ho hne => by
          by_cases hn : o ∈ F6
          · simp only [List.mem_cons, List.not_mem_nil, or_false] at hn
            rcases hn with rfl | rfl | rfl | rfl | rfl | rfl
            · rfl
            · rfl
            · rfl
            · rfl
            · rfl
            · exact absurd rfl hne
          · rw [inI_get _ _ o ho hn, hA o ho hn, kt o ho hn])
        have g1' : ∀ o, o ∈ places → o ∉ F6 → y1.1.get o = x.1.get o := fun o ho hn => (g1 o ho (fun e => hn (by simp [e]))).trans (inI_get _ _ o ho hn)
        have r1 : x.2.1 ≤ y1.2.1 + 20 := r1
        obtain ⟨l3, k3, y2, f2, B2, g2, r2⟩ := code_sr hL hfR hhd (m := m) (by omega) e2 B1 (by omega) (fun o ho hn => by rw [g1' o ho hn, hA o ho hn, kt o ho hn])
        have ei : len - (m + 1) + 1 = len - m := by omega
        refine ⟨by simp [l3], fun o ho hn => (k3 o ho hn).trans (kt o ho hn), y2, ?_, B2, fun o ho hn => (g2 o ho hn).trans (g1' o ho hn), by omega⟩
        show thenX (instrK (writing b wb g0 K) heads fR (len - (m + 1)) la lr (inI (pi (aiOf (la, lr) t1)) x.1, x.2)) (codeK (writing b wb g0 K) heads fR (len - (m + 1) + 1) (l2.map pi)) = _
        rw [ei]
        exact (thenX_okT f1).trans f2
theorem head_sr {bs : List UInt8} {t t' : WS} {x : WS × (Nat × List UInt8)} (hL : bs.length ≤ 1000000000000) (h : headX (reading br rv bs) (t, ()) = .ok (t', ())) (hB : Bk bs x t) (hr : 4 ≤ x.2.1) (hv : ∀ o, o ∈ [149, 150, 151, 153] → x.1.get o = t'.get o) :
    (∀ o, o ∈ places → o ∉ [149, 150, 151, 153] → t'.get o = t.get o) ∧ ((0 ≤ t'.fV ∧ t'.fV ≤ 255) ∧ (0 ≤ t'.fP ∧ t'.fP ≤ 8) ∧ (0 ≤ t'.fR ∧ t'.fR ≤ 4) ∧ 0 < t'.len ∧ t'.len ≤ 4096) ∧
    ∃ y, headX (writing b wb g0 K) x = .ok y ∧ Bk bs y t' ∧ (∀ o, o ∈ places → y.1.get o = x.1.get o) ∧ x.2.1 ≤ y.2.1 + 4 := by
  have h := (headX_then (reading br rv bs) (t, ())).symm.trans h
  obtain ⟨⟨t1, ⟨⟩⟩, h1, h⟩ := then_ok h
  obtain ⟨⟨t2, ⟨⟩⟩, h2, h⟩ := then_ok h
  obtain ⟨⟨t3, ⟨⟩⟩, h3, h⟩ := then_ok h
  obtain ⟨⟨t4, ⟨⟩⟩, h4, h⟩ := then_ok h
  obtain ⟨u, h5, h⟩ := then_ok h
  have k1 := rd_keep (by simp [places]) h1
  have k2 := rd_keep (by simp [places]) h2
  have k3 := rd_keep (by simp [places]) h3
  have k4 := rd_keep (by simp [places]) h4
  have h : locX (reading br rv bs) t4.fV t.at' (t4, ()) = .ok (t', ()) := h
  unfold locX at h
  by_cases hc : wrap64 (t4.locs + t4.fV) ≤ 1048576
  rotate_left
  · rw [if_neg hc] at h; cases h
  rw [if_pos hc] at h
  have et : { t4 with locs := wrap64 (t4.locs + t4.fV) } = t' := (Prod.mk.inj (Except.ok.inj h)).1
  subst et
  have hk : _ := headOk_told (s := t4) (p := t.at') h5
  have v1 : x.1.get 149 = t1.get 149 := (hv 149 (by simp)).trans (((k4 149 (by simp [places]) (by omega)).trans (k3 149 (by simp [places]) (by omega))).trans (k2 149 (by simp [places]) (by omega)))
  obtain ⟨y1, f1, B1, g1, r1⟩ := bk_next hL (by simp [places]) (by omega) h1 hB (by omega) v1
  have v2 : y1.1.get 150 = t2.get 150 := (g1 150 (by simp [places])).trans ((hv 150 (by simp)).trans ((k4 150 (by simp [places]) (by omega)).trans (k3 150 (by simp [places]) (by omega))))
  obtain ⟨y2, f2, B2, g2, r2⟩ := bk_next hL (by simp [places]) (by omega) h2 B1 (by omega) v2
  have v3 : y2.1.get 151 = t3.get 151 := (g2 151 (by simp [places])).trans ((g1 151 (by simp [places])).trans ((hv 151 (by simp)).trans (k4 151 (by simp [places]) (by omega))))
  obtain ⟨y3, f3, B3, g3, r3⟩ := bk_next hL (by simp [places]) (by omega) h3 B2 (by omega) v3
  have v4 : y3.1.get 153 = t4.get 153 := (g3 153 (by simp [places])).trans ((g2 153 (by simp [places])).trans ((g1 153 (by simp [places])).trans (hv 153 (by simp))))
  obtain ⟨y4, f4, B4, g4, r4⟩ := bk_next hL (by simp [places]) (by omega) h4 B3 (by omega) v4
  have gg : ∀ o, o ∈ places → y4.1.get o = x.1.get o := fun o ho => (((g4 o ho).trans (g3 o ho)).trans (g2 o ho)).trans (g1 o ho)
  have a1 : y4.1.fP = t4.fP := (gg 149 (by simp [places])).trans (hv 149 (by simp))
  have a2 : y4.1.fR = t4.fR := (gg 150 (by simp [places])).trans (hv 150 (by simp))
  have a3 : y4.1.fV = t4.fV := (gg 151 (by simp [places])).trans (hv 151 (by simp))
  have a4 : y4.1.len = t4.len := (gg 153 (by simp [places])).trans (hv 153 (by simp))
  have h5 : headOk t4 t.at' = .ok u := h5
  have e5 : headOk y4.1 x.1.at' = .ok u := by
    rw [← h5, hB.pos]
    unfold headOk
    rw [a1, a2, a3, a4]
  have l1 : locX (writing b wb g0 K) y4.1.fV x.1.at' y4 = .ok ({ y4.1 with locs := wrap64 (y4.1.locs + y4.1.fV) }, y4.2) := by
    unfold locX
    rw [if_pos (by rw [B4.loc, a3]; exact hc)]
  refine ⟨fun o ho hn => ?_, hk, ({ y4.1 with locs := wrap64 (y4.1.locs + y4.1.fV) }, y4.2), ?_, ⟨B4.pos, ?_, B4.low, B4.high, B4.bytes⟩, gg, ?_⟩
  · simp only [List.mem_cons, List.not_mem_nil, or_false, not_or] at hn
    exact (((k4 o ho hn.2.2.2).trans (k3 o ho hn.2.2.1)).trans (k2 o ho hn.2.1)).trans (k1 o ho hn.1)
  · exact ((headX_then (writing b wb g0 K) x).trans ((thenX_okT f1).trans ((thenX_okT f2).trans ((thenX_okT f3).trans ((thenX_okT f4).trans ((thenX_okT e5).trans l1))))))
  · show wrap64 (y4.1.locs + y4.1.fV) = wrap64 (t4.locs + t4.fV)
    rw [B4.loc, a3]
  · show x.2.1 ≤ y4.2.1 + 4
    omega
abbrev H4 : List Nat := [149, 150, 151, 153]
theorem inF_get (f : PF) (s : WS) (o : Nat) (ho : o ∈ places) (hn : o ∉ H4) : (inF f s).get o = s.get o := by
  simp only [places, List.mem_cons, List.not_mem_nil, or_false] at ho
  rcases ho with rfl | rfl | rfl | rfl | rfl | rfl | rfl | rfl | rfl | rfl | rfl <;> first | rfl | exact absurd (by simp) hn
theorem heads_sr {bs : List UInt8} (hL : bs.length ≤ 1000000000000) : ∀ {fs : List PF} {t t' : WS} {x : WS × (Nat × List UInt8)}, headsX (reading br rv bs) fs.length (t, ()) = .ok (fs.map hd, (t', ())) → Bk bs x t → 4 * fs.length ≤ x.2.1 →
    (∀ o, o ∈ places → o ∉ H4 → t'.get o = t.get o) ∧ (∀ f ∈ fs, HeadF f) ∧ ∃ y, headsK (writing b wb g0 K) fs x = .ok y ∧ Bk bs y t' ∧ (∀ o, o ∈ places → o ∉ H4 → y.1.get o = x.1.get o) ∧ x.2.1 ≤ y.2.1 + 4 * fs.length
  | [], t, t', x, h, hB, _ => by
    unfold headsX at h
    have e2 : t = t' := (Prod.mk.inj (Prod.mk.inj (Except.ok.inj h)).2).1
    subst e2
    exact ⟨fun _ _ _ => rfl, by simp, x, rfl, hB, fun _ _ _ => rfl, by simp⟩
  | f :: r, t, t', x, h, hB, hr => by
    simp only [List.length_cons, List.map_cons] at h hr
    unfold headsX at h
    cases e : headX (reading br rv bs) (t, ()) with
    | error z => rw [e] at h; cases h
    | ok q =>
      obtain ⟨t1, ⟨⟩⟩ := q
      rw [e] at h
      simp only at h
      cases e2 : headsX (reading br rv bs) r.length (t1, ()) with
      | error z => rw [e2] at h; cases h
      | ok q2 =>
        obtain ⟨l2, t2, ⟨⟩⟩ := q2
        rw [e2] at h
        have h' := Except.ok.inj h
        have e3 : hdOf t1 :: l2 = hd f :: r.map hd := (Prod.mk.inj h').1
        have e4 : t2 = t' := (Prod.mk.inj (Prod.mk.inj h').2).1
        subst e4
        have eh : hdOf t1 = hd f := (List.cons.inj e3).1
        have el : l2 = r.map hd := (List.cons.inj e3).2
        subst el
        unfold hdOf hd at eh
        have p1 : t1.fP = f.P := congrArg HD.P eh
        have p2 : t1.fR = f.R := congrArg HD.R eh
        have p3 : t1.fV = f.V := congrArg HD.V eh
        have p4 : t1.len = (f.code.length : Nat) := congrArg HD.len eh
        have B0 : Bk bs (inF f x.1, x.2) t := ⟨hB.pos, hB.loc, hB.low, hB.high, hB.bytes⟩
        obtain ⟨k1, hk, y1, f1, B1, g1, r1⟩ := head_sr hL e B0 (by show 4 ≤ x.2.1; omega) (fun o ho => by
          simp only [List.mem_cons, List.not_mem_nil, or_false] at ho
          rcases ho with rfl | rfl | rfl | rfl
          · exact p1.symm
          · exact p2.symm
          · exact p3.symm
          · exact p4.symm)
        have r1 : x.2.1 ≤ y1.2.1 + 4 := r1
        have g1' : ∀ o, o ∈ places → o ∉ H4 → y1.1.get o = x.1.get o := fun o ho hn => (g1 o ho).trans (inF_get f x.1 o ho hn)
        obtain ⟨k2, hF, y2, f2, B2, g2, r2⟩ := heads_sr hL e2 B1 (by omega)
        rw [p1, p2, p3, p4] at hk
        refine ⟨fun o ho hn => (k2 o ho hn).trans (k1 o ho hn), fun f' hf' => ?_, y2, (thenX_okT f1).trans f2, B2, fun o ho hn => (g2 o ho hn).trans (g1' o ho hn), by simp only [List.length_cons]; omega⟩
        rcases List.mem_cons.1 hf' with rfl | h9
        · exact ⟨hk.1, hk.2.1, hk.2.2.1, by have := hk.2.2.2; omega, by have := hk.2.2.2; omega⟩
        · exact hF f' h9
abbrev H10 : List Nat := 149 :: 150 :: 151 :: 153 :: F6
theorem funcs_sr {bs : List UInt8} {heads : List (Nat × Nat)} (hL : bs.length ≤ 1000000000000) (hhd : ∀ k : Nat, (heads.getD k (0, 0)).1 ≤ 8 ∧ (heads.getD k (0, 0)).2 ≤ 4) : ∀ {fs : List PF} {ls : List (List AI)} {t t' : WS} {x : WS × (Nat × List UInt8)},
    (∀ f ∈ fs, HeadF f) → funcsX (reading br rv bs) heads (fs.map hd) (t, ()) = .ok (ls, (t', ())) → fs.map PF.code = ls.map (List.map pi) → Bk bs x t → 81920 * fs.length ≤ x.2.1 → (∀ o, o ∈ places → o ∉ H10 → x.1.get o = t.get o) →
      ∃ y, funcsK (writing b wb g0 K) heads fs x = .ok y ∧ Bk bs y t'
  | [], ls, t, t', x, _, h, _, hB, _, _ => by
    unfold funcsX at h
    have e2 : t = t' := (Prod.mk.inj (Prod.mk.inj (Except.ok.inj h)).2).1
    subst e2
    exact ⟨x, rfl, hB⟩
  | f :: r, ls, t, t', x, hF, h, hc, hB, hr, hA => by
    have hf := hF f (by simp)
    simp only [List.length_cons] at hr
    have eL : (hd f).len.toNat = f.code.length := by unfold hd; simp
    have eR : (((hd f).R.toNat : Nat) : Int) = f.R := Int.toNat_of_nonneg hf.2.2.1.1
    unfold funcsX at h
    simp only [List.map_cons] at h
    cases e : codeX (reading br rv bs) heads (hd f).R.toNat (hd f).len.toNat (hd f).len.toNat (({ t with fP := (hd f).P, fR := ((hd f).R.toNat : Nat), fV := (hd f).V, fC := .slice none 0 0, len := ((hd f).len.toNat : Nat) } : WS), ()) with
    | error z => rw [e] at h; cases h
    | ok q =>
      obtain ⟨l, t1, ⟨⟩⟩ := q
      rw [e] at h
      simp only at h
      cases e2 : funcsX (reading br rv bs) heads (r.map hd) (t1, ()) with
      | error z => rw [e2] at h; cases h
      | ok q2 =>
        obtain ⟨l2, t2, ⟨⟩⟩ := q2
        rw [e2] at h
        have h' := Except.ok.inj h
        have e3 : l :: l2 = ls := (Prod.mk.inj h').1
        have e4 : t2 = t' := (Prod.mk.inj (Prod.mk.inj h').2).1
        subst e3 e4
        simp only [List.map_cons] at hc
        have c1 : f.code = l.map pi := (List.cons.inj hc).1
        have c2 : r.map PF.code = l2.map (List.map pi) := (List.cons.inj hc).2
        have B0 : Bk bs (inF f x.1, x.2) ({ t with fP := (hd f).P, fR := ((hd f).R.toNat : Nat), fV := (hd f).V, fC := .slice none 0 0, len := ((hd f).len.toNat : Nat) } : WS) := ⟨hB.pos, hB.loc, hB.low, hB.high, hB.bytes⟩
        have hA0 : ∀ o, o ∈ places → o ∉ F6 → (inF f x.1).get o = ({ t with fP := (hd f).P, fR := ((hd f).R.toNat : Nat), fV := (hd f).V, fC := .slice none 0 0, len := ((hd f).len.toNat : Nat) } : WS).get o := by
          intro o ho hn
          by_cases h4 : o ∈ H4
          · simp only [List.mem_cons, List.not_mem_nil, or_false] at h4
            rcases h4 with rfl | rfl | rfl | rfl
            · rfl
            · exact eR.symm
            · rfl
            · show ((f.code.length : Nat) : Int) = (((hd f).len.toNat : Nat) : Int); rw [eL]
          · have h3 := hA o ho (fun h5 => by
              simp only [List.mem_cons, List.not_mem_nil, or_false] at h4 h5 hn
              omega)
            simp only [places, List.mem_cons, List.not_mem_nil, or_false] at ho
            rcases ho with rfl | rfl | rfl | rfl | rfl | rfl | rfl | rfl | rfl | rfl | rfl <;> first | exact h3 | exact absurd (by simp) h4 | exact absurd (by simp) hn
        obtain ⟨-, k1, y1, f1, B1, g1, r1⟩ := code_sr (fR := (hd f).R.toNat) hL (by have := hf.2.2.1; show f.R.toNat ≤ 4; omega) hhd (Nat.le_refl _) e B0 (by rw [eL]; have := hf.2.2.2.2; show 20 * f.code.length ≤ x.2.1; omega) hA0
        rw [eL] at r1
        have r1 : x.2.1 ≤ y1.2.1 + 20 * f.code.length := r1
        obtain ⟨y2, f2, B2⟩ := funcs_sr hL hhd (fs := r) (fun f' h9 => hF f' (by simp [h9])) e2 c2 B1 (by have := hf.2.2.2.2; omega) (fun o ho hn => by
          have hn6 : o ∉ F6 := fun h9 => hn (by simp only [List.mem_cons, List.not_mem_nil, or_false] at h9 ⊢; omega)
          rw [g1 o ho hn6, hA0 o ho hn6, k1 o ho hn6])
        refine ⟨y2, ?_, B2⟩
        rw [Nat.sub_self, ← c1] at f1
        exact (thenX_okT (p := funcsK (writing b wb g0 K) heads r) f1).trans f2
theorem over_forth {room : Nat} {G : Int} {bs : List UInt8} {fs : List PF} {ls : List (List AI)} {vw vr fv : Value} (hL : bs.length ≤ 1000000000000) (hroom : 5368971270 ≤ room) (h : throughX br rv bs (WS.start vr) fv = .ok (G, fs.map hd, ls)) (hc : fs.map PF.code = ls.map (List.map pi)) :
    ∃ y, overK (writing b wb g0 K) G fs (WS.start vw, ((room, magicL) : Nat × List UInt8)) = .ok y ∧ y.2.2 = bs ∧ y.1.at' = (bs.length : Nat) := by
  rw [throughX_body] at h
  by_cases hm : bs.take 6 = magicL.take bs.length
  rotate_left
  · rw [if_neg hm] at h; cases h
  rw [if_pos hm] at h
  obtain ⟨⟨⟨G', done, ls'⟩, t4, ⟨⟩⟩, h0, h⟩ := then_ok h
  have h : (if t4.at' = (bs.length : Nat) then Except.ok (G', done, ls') else Except.error (22, t4.at') : X (Int × List HD × List (List AI))) = .ok (G, fs.map hd, ls) := h
  by_cases hend : t4.at' = (bs.length : Nat)
  rotate_left
  · rw [if_neg hend] at h; cases h
  rw [if_pos hend] at h
  have h' := Except.ok.inj h
  have e1 : G' = G := (Prod.mk.inj h').1
  have e2 : done = fs.map hd := (Prod.mk.inj (Prod.mk.inj h').2).1
  have e3 : ls' = ls := (Prod.mk.inj (Prod.mk.inj h').2).2
  subst e1 e2 e3
  unfold bodyX at h0
  obtain ⟨⟨t1, ⟨⟩⟩, q1, h0⟩ := then_ok h0
  obtain ⟨⟨t2, ⟨⟩⟩, q2, h0⟩ := then_ok h0
  obtain ⟨⟨done, t3, ⟨⟩⟩, q3, h0⟩ := then_ok h0
  obtain ⟨⟨ls2, t5, ⟨⟩⟩, q4, h0⟩ := then_ok h0
  have h0' := Except.ok.inj h0
  have eG : t2.globals = G' := (Prod.mk.inj (Prod.mk.inj h0').1).1
  have ed : done = fs.map hd := (Prod.mk.inj (Prod.mk.inj (Prod.mk.inj h0').1).2).1
  have el : ls2 = ls' := (Prod.mk.inj (Prod.mk.inj (Prod.mk.inj h0').1).2).2
  have et : t5 = t4 := (Prod.mk.inj (Prod.mk.inj h0').2).1
  subst ed el et
  obtain ⟨n1, c1⟩ := ask_next (M := reading br rv bs) q1
  obtain ⟨n2, c2⟩ := ask_next (M := reading br rv bs) q2
  have k1 := rd_keep (by simp [places]) n1
  have k2 := rd_keep (by simp [places]) n2
  have c1 := of_decide_eq_true c1
  have c2 := of_decide_eq_true c2
  have c1 : 0 ≤ t1.globals ∧ t1.globals ≤ 16 := c1
  have c2 : 1 ≤ t2.count ∧ t2.count ≤ 65535 := c2
  have q3 : headsX (reading br rv bs) t2.count.toNat (t2, ()) = .ok (fs.map hd, (t3, ())) := q3
  -- as many heads as were told
  have hl : ∀ (m : Nat) (t t' : WS) (l : List HD), headsX (reading br rv bs) m (t, ()) = .ok (l, (t', ())) → l.length = m := by
    intro m
    induction m with
    | zero =>
      intro t t' l h
      unfold headsX at h
      have : [] = l := (Prod.mk.inj (Except.ok.inj h)).1
      subst this; rfl
    | succ m ih =>
      intro t t' l h
      unfold headsX at h
      cases e : headX (reading br rv bs) (t, ()) with
      | error z => rw [e] at h; cases h
      | ok q =>
        obtain ⟨t1, ⟨⟩⟩ := q
        rw [e] at h
        simp only at h
        cases e2 : headsX (reading br rv bs) m (t1, ()) with
        | error z => rw [e2] at h; cases h
        | ok q2 =>
          obtain ⟨l2, t2, ⟨⟩⟩ := q2
          rw [e2] at h
          have : hdOf t1 :: l2 = l := (Prod.mk.inj (Except.ok.inj h)).1
          subst this
          simp [ih t1 t2 l2 e2]
  have en : fs.length = t2.count.toNat := by have := hl _ _ _ _ q3; simpa using this
  have ecount : t2.count = (fs.length : Nat) := by omega
  rw [← en] at q3
  have g12 : t2.globals = t1.globals := k2 146 (by simp [places]) (by omega)
  -- the magic bytes
  have hmag : bs.take 6 = magicL := by
    obtain ⟨v, e, -⟩ := rdX_eq n1
    obtain ⟨p1, -, -⟩ := rd_fwd (by omega) e
    have p1 : 6 + 1 ≤ bs.length := p1
    rw [hm]
    exact List.take_of_length_le (by show 6 ≤ bs.length; omega)
  have B0 : Bk bs (({ WS.start vw with globals := G', count := (fs.length : Nat) } : WS), ((room, magicL) : Nat × List UInt8)) (WS.start vr) := by
    refine ⟨rfl, rfl, by show (0 : Int) ≤ 6; omega, ?_, hmag.symm⟩
    obtain ⟨v, e, -⟩ := rdX_eq n1
    obtain ⟨p1, -, -⟩ := rd_fwd (by omega) e
    have p1 : 6 + 1 ≤ bs.length := p1
    show (6 : Int) ≤ (bs.length : Nat)
    omega
  obtain ⟨y1, f1, B1, g1, r1⟩ := bk_next (x := (({ WS.start vw with globals := G', count := (fs.length : Nat) } : WS), ((room, magicL) : Nat × List UInt8))) hL (by simp [places]) (by omega) n1 B0 (by show 1 ≤ room; omega) (by show G' = t1.globals; rw [← g12, eG])
  have r1 : room = y1.2.1 + 1 := r1
  have y1c : y1.1.count = (fs.length : Nat) := g1 161 (by simp [places])
  have y1g : y1.1.globals = G' := g1 146 (by simp [places])
  obtain ⟨y2, f2, B2, g2, r2⟩ := bk_next hL (by simp [places]) (by omega) n2 B1 (by omega) (by show y1.1.count = t2.count; rw [y1c, ecount])
  have y2c : y2.1.count = (fs.length : Nat) := (g2 161 (by simp [places])).trans y1c
  obtain ⟨k3, hF, y3, f3, B3, g3, r3⟩ := heads_sr hL q3 B2 (by omega)
  have hhd : ∀ k : Nat, ((headsOfP fs).getD k (0, 0)).1 ≤ 8 ∧ ((headsOfP fs).getD k (0, 0)).2 ≤ 4 := fun k => by
    by_cases hk : k < fs.length
    · have e : (headsOfP fs).getD k (0, 0) = (fs[k].P.toNat, fs[k].R.toNat) := by simp [headsOfP, List.getD, hk]
      rw [e]
      have := hF fs[k] (List.getElem_mem hk)
      obtain ⟨-, w2, w3, -⟩ := this
      exact ⟨by show fs[k].P.toNat ≤ 8; omega, by show fs[k].R.toNat ≤ 4; omega⟩
    · have e : (headsOfP fs).getD k (0, 0) = (0, 0) := by simp [headsOfP, List.getD, Nat.le_of_not_lt hk]
      rw [e]
      exact ⟨Nat.zero_le _, Nat.zero_le _⟩
  have eho : headsOf (fs.map hd) = headsOfP fs := by
    unfold headsOf headsOfP
    rw [List.map_map]
    rfl
  have q4 : funcsX (reading br rv bs) (headsOfP fs) (fs.map hd) (({ t3 with funcs := fv } : WS), ()) = .ok (ls2, (t5, ())) := by rw [← eho]; exact q4
  have B3' : Bk bs y3 { t3 with funcs := fv } := ⟨B3.pos, B3.loc, B3.low, B3.high, B3.bytes⟩
  obtain ⟨y4, f4, B4⟩ := funcs_sr hL hhd hF q4 hc B3' (by omega) (fun o ho hn => by
    have hn4 : o ∉ H4 := fun h9 => hn (by simp only [List.mem_cons, List.not_mem_nil, or_false] at h9 ⊢; omega)
    have o146 : o = 146 := by
      simp only [places, List.mem_cons, List.not_mem_nil, or_false] at ho hn
      omega
    subst o146
    have a1 : y3.1.get 146 = y2.1.get 146 := g3 146 (by simp [places]) hn4
    have a2 : y2.1.get 146 = y1.1.get 146 := g2 146 (by simp [places])
    have a3 : t3.get 146 = t2.get 146 := k3 146 (by simp [places]) hn4
    show y3.1.get 146 = t3.get 146
    rw [a1, a2, a3]
    show y1.1.globals = t2.globals
    rw [y1g, eG])
  refine ⟨y4, ?_, ?_, ?_⟩
  · have s1 : askX (writing b wb g0 K) 146 1 (fun s => decide (0 ≤ s.globals ∧ s.globals ≤ 16)) 18 (({ WS.start vw with globals := G', count := (fs.length : Nat) } : WS), ((room, magicL) : Nat × List UInt8)) = .ok y1 := ask_of_next (M := writing b wb g0 K) (c := fun s => decide (0 ≤ s.globals ∧ s.globals ≤ 16)) f1 (by show decide (0 ≤ y1.1.globals ∧ y1.1.globals ≤ 16) = true; rw [y1g, ← eG, g12]; exact decide_eq_true c1)
    have s2 : askX (writing b wb g0 K) 161 2 (fun s => decide (1 ≤ s.count ∧ s.count ≤ 65535)) 20 y1 = .ok y2 := ask_of_next (M := writing b wb g0 K) (c := fun s => decide (1 ≤ s.count ∧ s.count ≤ 65535)) f2 (by show decide (1 ≤ y2.1.count ∧ y2.1.count ≤ 65535) = true; rw [y2c, ← ecount]; exact decide_eq_true c2)
    exact (thenX_okT s1).trans ((thenX_okT s2).trans ((thenX_okT f3).trans f4))
  · rw [B4.bytes, hend]
    simp
  · rw [B4.pos, hend]
end Go.Proofs.YtingenonbkencaaDoor
