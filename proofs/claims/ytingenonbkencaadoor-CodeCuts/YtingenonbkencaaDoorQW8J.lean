import Derived.Test.YtingenonbkencaaDoorQRgJ
import Derived.Test.YtingenonbkencaaDoorQS3J
import Derived.Deep.DeepAppendWide
import Derived.Test.YtingenonbkencaaDoorQLcJ
import Derived.Test.YtingenonbkencaaDoorQN8J
set_option linter.unusedVariables false
set_option linter.unusedSimpArgs false
namespace Go.Proofs.YtingenonbkencaaDoor
open Go.RowKit (wrap32 wrap64)
set_option maxRecDepth 100000
set_option maxHeartbeats 1000000
theorem least_any (w : World) : Calls Tryd.prog 28 #[] w fun e w' => Fr (fun _ => False) w w' ∧ ∃ fb cb, e = .returned (.agg #[vI 0, .slice (some ⟨fb, 0, none⟩) 1 1]) ∧ Least w' fb cb := by
  go_enter Tryd.func28, Tryd.ntmps28
  go_wp2_with fail
  have hlast : ∀ (v : World) (o : Obj) (n : Nat), v.heap.size = n → (v.alloc o).heap[n]? = some o := fun v o n h => by rw [← h]; exact heap_alloc_last v o
  have hpast : ∀ (v : World) (o : Obj) (n : Nat), n < v.heap.size → (v.alloc o).heap[n]? = v.heap[n]? := fun v o n h => Go.RowKit.Below.heap_alloc v o n h
  refine ⟨rfl, .agg #[vI 0, .slice (some ⟨w.heap.size + 2, 0, none⟩) 1 1], ?_, Fr.alloc (Fr.alloc (Fr.alloc (Fr.refl _ w) _) _) _, w.heap.size + 2, w.heap.size + 1, rfl, ?_, ?_⟩
  · rw [results_cell (p := 0) (ty := 26) Tryd.results28]
    simp [go_sem]
  · rw [hlast _ _ _ (by simp)]
  · rw [hpast _ _ _ (by simp), hlast _ _ _ (by simp)]
theorem works_any (w : World) (hT : Tab w) (h0 : 0 < w.heap.size) : Calls Tryd.prog 9 #[] w fun e w' => e = .returned (.bool true) ∧ Fr (fun _ => False) w w' := by
  go_enter Tryd.func9, Tryd.ntmps9
  go_wp2_with fail
  refine (least_any w).mono ?_
  rintro e w1 ⟨hf1, fb, cb, rfl, hl1⟩
  have hT1 : Tab w1 := hT.fr hf1 (fun h => h)
  have hs1 := hf1.size
  go_wp2_with fail
  refine (encode_least w1 fb cb hl1 hT1 (by omega)).mono ?_
  rintro e w2 ⟨⟨bv, rfl, hbh, a, c, rfl⟩, hf2⟩
  have hT2 : Tab w2 := hT1.fr hf2 (fun h => h)
  have hs2 := hf2.size
  clear hl1 hT1
  go_wp2_with fail
  refine (decode_said _ leastB w2 hbh hT2 (by omega)).mono ?_
  rintro e w3 ⟨hf3, hr3⟩
  rw [dec_least] at hr3
  obtain ⟨v, rfl, hlp⟩ := hr3
  obtain ⟨fb3, cb3, fc3, cc3, hy3⟩ := hlp.lay
  have hv := hy3.val
  have hT3 : Tab w3 := hT2.fr hf3 (fun h => h)
  have hs3 := hf3.size
  clear hlp hbh hT2
  subst hv
  go_wp2_with fail
  have hf4 : Fr (fun _ => False) w3 (w3.alloc (.cells #[vI 0, .slice (some ⟨fb3, 0, none⟩) 1 fc3] 26)) := Fr.alloc (Fr.refl _ w3) _
  have hp4 : (w3.alloc (.cells #[vI 0, .slice (some ⟨fb3, 0, none⟩) 1 fc3] 26)).heap[w3.heap.size]? = some (.cells #[vI 0, .slice (some ⟨fb3, 0, none⟩) 1 fc3] 26) := heap_alloc_last _ _
  have hy4 := hy3.fr hf4
  have hT4 := hT3.fr hf4 (fun h => h)
  have hfw4 : Fr (fun _ => False) w (w3.alloc (.cells #[vI 0, .slice (some ⟨fb3, 0, none⟩) 1 fc3] 26)) := ((hf1.trans hf2).trans hf3).trans hf4
  generalize (w3.alloc (.cells #[vI 0, .slice (some ⟨fb3, 0, none⟩) 1 fc3] 26)) = w4 at hf4 hp4 hy4 hT4 hfw4 ⊢
  generalize w3.heap.size = pq at hp4 ⊢
  have hpl : pq < w4.heap.size := (Array.getElem?_eq_some_iff.1 hp4).1
  have p0 : w4.cell? ⟨pq, 0, none⟩ = some (vI 0) := by unfold World.cell?; simp [hp4]
  have p1 : w4.cell? ⟨pq, 1, none⟩ = some (.slice (some ⟨fb3, 0, none⟩) 1 fc3) := by unfold World.cell?; simp [hp4]
  have HP : Hd (w4.heap[pq]? = some (.cells #[vI 0, .slice (some ⟨fb3, 0, none⟩) 1 fc3] 26)) := hp4
  have HY : Hd (Lay1 w4 (.agg #[vI 0, .slice (some ⟨fb3, 0, none⟩) 1 fc3]) fb3 cb3 fc3 cc3) := hy4
  clear hp4 hy4 hy3 hf3 hf2 hf1 hs1 hs2 hs3 hT3 hT h0 hf4
  have hfin : Hd (∀ w7, Fr (fun _ => False) w4 w7 → Fr (fun _ => False) w w7 ∧ Tab w7) := fun w7 h7 => ⟨hfw4.trans h7, hT4.fr h7 (fun h => h)⟩
  have h04 : 0 < w4.heap.size := by omega
  clear hfw4 hT4
  go_region_with ((
    first
      | (go_at_call 28
         refine (least_any _).mono ?_
         rintro e w5 ⟨hf5, fb5, cb5, rfl, hl5⟩
         have hf45 : Fr (fun _ => False) w4 w5 := (Fr.refl _ w4).drew.trans hf5
         have k0 : w5.cell? ⟨pq, 0, none⟩ = some (vI 0) := (hf45.cell hpl (fun h => h)).trans p0
         have k1 : w5.cell? ⟨pq, 1, none⟩ = some (.slice (some ⟨fb3, 0, none⟩) 1 fc3) := (hf45.cell hpl (fun h => h)).trans p1)
      | (go_at_call 15
         refine (eqProgram_1 _ _ _ fb3 cb3 fc3 cc3 fb5 cb5 1 1 (HY.out.fr hf45) hl5.lay).mono ?_
         rintro e w6 ⟨rfl, hf6⟩
         have hf46 : Fr (fun _ => False) w4 w6 := hf45.trans hf6)))
  all_goals
    clear hf45 k0 k1 hl5 hf5 hf6
    have hs6 := hf46.size
    go_wp2_with fail
    refine (least_any w6).mono ?_
    rintro e w7 ⟨hf7, fb7, cb7, rfl, hl7⟩
    have hf47 := hf46.trans hf7
    have hs7 := hf7.size
    clear hf46 hf7
    go_wp2_with fail
    refine (check_least w7 fb7 cb7 hl7 (hfin.out w7 hf47).2 (by omega)).mono ?_
    rintro e w8 ⟨rfl, hf8⟩
    have hf48 := hf47.trans hf8
    have hs8 := hf8.size
    clear hf47 hf8 hl7
    go_wp2_with fail
    refine (least_any w8).mono ?_
    rintro e w9 ⟨hf9, fb9, cb9, rfl, hl9⟩
    have hf49 := hf48.trans hf9
    have hs9 := hf9.size
    clear hf48 hf9
    go_wp2_with fail
    refine (locations_least w9 fb9 cb9 hl9 (hfin.out w9 hf49).2 (by omega)).mono ?_
    rintro e w10 ⟨rfl, hf10⟩
    have hf410 := hf49.trans hf10
    clear hf49 hf10 hl9
    go_wp2_with fail
    go_ret
    exact ⟨rfl, (hfin.out w10 hf410).1⟩
theorem take_map_succ (bs : List UInt8) (k : Nat) (h : k < bs.length) : (bs.take (k + 1)).map u8v = (bs.take k).map u8v ++ [u8v bs[k]] := by
  rw [List.take_add_one, List.getElem?_eq_getElem h, List.map_append]; rfl
theorem BytesIn.grow {w w' : World} {v : Value} {bs : List UInt8} (h : BytesIn w v bs) (f : Fr (fun _ => False) w w') : BytesIn w' v bs := by
  obtain ⟨h1, a, c, h2, h3, h4⟩ := h
  refine ⟨h1, a, c, h2, h3, fun hne => ?_⟩
  obtain ⟨k, o, e, hk, hc⟩ := h4 hne
  exact ⟨k, o, e, Nat.lt_of_lt_of_le hk f.size, fun i hi => (f.cell hk (fun h => h)).trans (hc i hi)⟩
theorem owns_handed {w : World} {base : Nat} {rv : Value} {bs : List UInt8} (h : w.ownsRow base 5 1 rv bs.length (bs.map u8v)) (hl : bs.length ≤ 1000000000000000) (hnil : bs = [] → rv = .slice none 0 0) : Handed w rv bs := by
  refine ⟨hl, ?_⟩
  rcases h.2 with ⟨e, e0⟩ | ⟨g, cap, cur, e, h1, h2, h3, h4, h5, h6⟩
  · exact Or.inl ⟨List.length_eq_zero_iff.1 e0, e⟩
  · by_cases hne : bs = []
    · exact Or.inl ⟨hne, hnil hne⟩
    · refine Or.inr ⟨hne, g, 0, cap, e, h3, (Array.getElem?_eq_some_iff.1 h2).1, fun i hi => ?_⟩
      have := World.ownsRow.cells h (g := g) (by rw [e]; rfl) i (u8v bs[i]) (by simp [hi])
      rw [addr_add] at this
      rw [Nat.zero_add]
      exact this
def Bd (L : Nat) {ρ : Type} (st : ρ → WS) (a : Int) (K : Nat) (r : X ρ) : Prop :=
  match r with
  | .ok y => a ≤ (st y).at' ∧ (st y).at' ≤ L ∧ (st y).at' ≤ a + K
  | .error z => z.1 ≠ 11 → z.2 ≤ a + K
theorem Bd.then {L : Nat} {ρ τ : Type} {st : ρ → WS} {st2 : τ → WS} {a : Int} {K K' : Nat} {r : X ρ} {g : ρ → X τ} (h : Bd L st a K r)
    (hg : ∀ y, r = .ok y → a ≤ (st y).at' → (st y).at' ≤ L → Bd L st2 (st y).at' K' (g y)) : Bd L st2 a (K + K') (thenX r g) := by
  cases r with
  | error z =>
    intro hz
    have h1 : z.2 ≤ a + K := h hz
    omega
  | ok y =>
    obtain ⟨h1, h2, h3⟩ := h
    have hk := hg y rfl h1 h2
    show Bd L st2 a (K + K') (g y)
    cases hgy : g y with
    | error z =>
      rw [hgy] at hk
      intro hz
      have h4 : z.2 ≤ (st y).at' + K' := hk hz
      omega
    | ok u =>
      rw [hgy] at hk
      obtain ⟨k1, k2, k3⟩ := hk
      exact ⟨by omega, k2, by omega⟩
theorem Bd.mono {L : Nat} {ρ : Type} {st : ρ → WS} {a : Int} {K K' : Nat} {r : X ρ} (h : Bd L st a K r) (hK : K ≤ K') : Bd L st a K' r := by
  cases r with
  | error z =>
    intro hz
    have h1 : z.2 ≤ a + K := h hz
    omega
  | ok y =>
    obtain ⟨h1, h2, h3⟩ := h
    exact ⟨h1, h2, by omega⟩
theorem Bd.cast {L : Nat} {ρ : Type} {st : ρ → WS} {a : Int} {K : Nat} {r s : X ρ} (h : r = s) (k : Bd L st a K s) : Bd L st a K r := by subst h; exact k
theorem Bd.ok {L : Nat} {ρ : Type} {st : ρ → WS} {a : Int} {K : Nat} {y : ρ} (ha : a = (st y).at') (hl : (st y).at' ≤ L) : Bd L st a K (.ok y) := ⟨by omega, hl, by omega⟩
theorem Bd.err {L : Nat} {ρ : Type} {st : ρ → WS} {a : Int} {K : Nat} {z : Int × Int} (h : z.2 ≤ a) : Bd L st a K (.error z : X ρ) := fun _ => by omega
section
variable {b : Nat} {rv : Value} {bs : List UInt8}
theorem next_err {o size : Nat} {x : WS × Unit} {z : Int × Int} (h : nextX (reading b rv bs) o size x = .error z) : z.1 = 11 := by
  unfold nextX at h
  split at h
  · cases h
  · rename_i z' hv
    cases h
    have hv' : (match rd bs x.1.at'.toNat size with | .ok v => Except.ok (v, ()) | .error z => .error z : X (Int × Unit)) = .error z := hv
    unfold rd at hv'
    by_cases hin : x.1.at'.toNat + size ≤ bs.length
    · rw [if_pos hin] at hv'; cases hv'
    · rw [if_neg hin] at hv'; cases hv'; rfl
theorem next_bd (hL : bs.length ≤ 1000000000000000) (o size : Nat) (x : WS × Unit) (h0 : 0 ≤ x.1.at') (h1 : x.1.at' ≤ 2000000000000000) (hs : size ≤ 8) : Bd bs.length st0 x.1.at' 8 (nextX (reading b rv bs) o size x) := by
  cases h : nextX (reading b rv bs) o size x with
  | error z => exact fun hz => absurd (next_err h) hz
  | ok y =>
    obtain ⟨e1, e2⟩ := nextX_at h h0 h1 hs hL
    exact ⟨by show x.1.at' ≤ y.1.at'; omega, by show y.1.at' ≤ _; omega, by show y.1.at' ≤ _; omega⟩
theorem next_count {x y : WS × Unit} (h : nextX (reading b rv bs) 161 1 x = .ok y) : y.1.count ≤ 255 := by
  unfold nextX at h
  split at h
  · rename_i v st hv
    have hv' : (match rd bs x.1.at'.toNat 1 with | .ok v => Except.ok (v, ()) | .error z => .error z : X (Int × Unit)) = .ok (v, st) := hv
    unfold rd at hv'
    by_cases hin : x.1.at'.toNat + 1 ≤ bs.length
    · rw [if_pos hin] at hv'
      cases hv'
      cases h
      have hlt := leAt_lt bs x.1.at'.toNat 1
      show wrap64 (leAt bs x.1.at'.toNat 1) ≤ 255
      unfold wrap64
      omega
    · rw [if_neg hin] at hv'; cases hv'
  · cases h
theorem ask_bd (hL : bs.length ≤ 1000000000000000) (o size : Nat) (c : WS → Bool) (er : Int) (x : WS × Unit) (h0 : 0 ≤ x.1.at') (h1 : x.1.at' ≤ 2000000000000000) (hs : size ≤ 8) : Bd bs.length st0 x.1.at' 8 (askX (reading b rv bs) o size c er x) := by
  refine Bd.cast (askX_then (reading b rv bs) o size c er x) (Bd.then (K' := 0) (next_bd hL o size x h0 h1 hs) fun y _ k1 k2 => ?_)
  split
  · exact Bd.ok rfl k2
  · exact Bd.err k1
theorem loc_bd (n p : Int) (x : WS × Unit) (hl : x.1.at' ≤ bs.length) (hp : p ≤ x.1.at') : Bd bs.length st0 x.1.at' 0 (locX (reading b rv bs) n p x) := by
  unfold locX
  split
  · exact Bd.ok rfl hl
  · exact Bd.err hp
theorem head_bd (hL : bs.length ≤ 1000000000000000) (x : WS × Unit) (h0 : 0 ≤ x.1.at') (h1 : x.1.at' ≤ 1000000000000000) : Bd bs.length st0 x.1.at' 32 (headX (reading b rv bs) x) := by
  refine Bd.cast (headX_then (reading b rv bs) x) (Bd.then (K' := 24) (next_bd hL 149 1 x h0 (by omega) (by omega)) fun y1 _ a1 b1 => ?_)
  have a1' : x.1.at' ≤ y1.1.at' := a1
  have b1' : y1.1.at' ≤ bs.length := b1
  refine Bd.then (K := 8) (K' := 16) (next_bd hL 150 1 y1 (by omega) (by omega) (by omega)) fun y2 _ a2 b2 => ?_
  have a2' : y1.1.at' ≤ y2.1.at' := a2
  have b2' : y2.1.at' ≤ bs.length := b2
  refine Bd.then (K := 8) (K' := 8) (next_bd hL 151 1 y2 (by omega) (by omega) (by omega)) fun y3 _ a3 b3 => ?_
  have a3' : y2.1.at' ≤ y3.1.at' := a3
  have b3' : y3.1.at' ≤ bs.length := b3
  refine Bd.then (K := 8) (K' := 0) (next_bd hL 153 2 y3 (by omega) (by omega) (by omega)) fun y4 _ a4 b4 => ?_
  have a4' : y3.1.at' ≤ y4.1.at' := a4
  have b4' : y4.1.at' ≤ bs.length := b4
  refine Bd.then (K := 0) (K' := 0) (st := fun _ => y4.1) ?_ fun _ _ _ _ => loc_bd _ _ y4 b4' (by omega)
  cases hk : headOk y4.1 x.1.at' with
  | ok u => exact Bd.ok rfl b4'
  | error z =>
    have := headOk_err hk
    exact Bd.err (by show z.2 ≤ y4.1.at'; omega)
theorem rdX_err {x : WS × Unit} {z : Int × Int} (h : rdX bs x = .error z) : z.1 = 11 := by
  unfold rdX rd at h
  by_cases hin : x.1.at'.toNat + 1 ≤ bs.length
  · rw [if_pos hin] at h; cases h
  · rw [if_neg hin] at h; cases h; rfl
theorem one_bd (old : Int) (x : WS × Unit) (h0 : 0 ≤ x.1.at') (h1 : x.1.at' ≤ 1000000000000000) : Bd bs.length st1 x.1.at' 1 (oneX (reading b rv bs) old x) := by
  refine Bd.cast (oneX_then b rv bs old x) (Bd.then (K := 1) (K' := 0) (st := st1) ?_ fun y hy k1 k2 => ?_)
  · cases h : rdX bs x with
    | error z => exact fun hz => absurd (rdX_err h) hz
    | ok q =>
      obtain ⟨e1, e2⟩ := rdX_at h h0 (by omega)
      exact ⟨by show x.1.at' ≤ q.2.1.at'; omega, by show q.2.1.at' ≤ _; omega, by show q.2.1.at' ≤ _; omega⟩
  · split
    · exact Bd.ok rfl k2
    · exact Bd.err k1
theorem vars_bd (hL : bs.length ≤ 1000000000000000) : ∀ (l : List Int) (x : WS × Unit), 0 ≤ x.1.at' → x.1.at' ≤ bs.length → Bd bs.length st1 x.1.at' l.length (varsX (reading b rv bs) l x)
  | [], x, _, hl => by
    have e : varsX (reading b rv bs) [] x = .ok ([], x) := rfl
    exact Bd.cast e (Bd.ok rfl hl)
  | old :: r, x, h0, hl => by
    refine Bd.cast (varsX_then (reading b rv bs) old r x) ?_
    refine Bd.mono (Bd.then (K := 1) (K' := r.length) (one_bd old x h0 (by omega)) fun y _ k1 k2 => ?_) (by simp only [List.length_cons]; omega)
    have k1' : x.1.at' ≤ y.2.1.at' := k1
    exact Bd.then (K := r.length) (K' := 0) (vars_bd hL r y.2 (by omega) k2) fun z _ _ hz => Bd.ok rfl hz
theorem list_bd (hL : bs.length ≤ 1000000000000000) (n : Nat) (l : List Int) (x : WS × Unit) (h0 : 0 ≤ x.1.at') (hl : x.1.at' ≤ 1000000000000000) : Bd bs.length st1 x.1.at' 263 (listX (reading b rv bs) n l x) := by
  refine Bd.cast (listX_then (reading b rv bs) n l x) ?_
  have hn := next_bd (b := b) (rv := rv) hL 161 1 ({ x.1 with count := l.length }, x.2) h0 (by show x.1.at' ≤ _; omega) (by omega)
  refine Bd.then (K := 8) (K' := 255) (a := x.1.at') hn fun y hy k1 k2 => ?_
  have k1' : x.1.at' ≤ y.1.at' := k1
  have hc := next_count hy
  split
  · rename_i e
    refine (vars_bd hL _ y (by omega) k2).mono ?_
    split
    · omega
    · rw [List.length_replicate]; omega
  · exact Bd.err k1
theorem front_bd (ends makes nb : Bool) (i : Nat) (p : Int) (y : WS × Unit) (hl : y.1.at' ≤ bs.length) (hp : p ≤ y.1.at') : Bd bs.length st0 y.1.at' 0 (frontOk (reading b rv bs) ends makes nb i p y) := by
  unfold frontOk
  split
  · exact Bd.err hp
  · split
    · exact Bd.err hp
    · split
      · exact loc_bd 1 p y hl hp
      · exact Bd.ok rfl hl
theorem Bd.part {a : Int} {K : Nat} {c : X (WS × Unit)} {p : WS × Unit → X (WS × Unit)} (hL : bs.length ≤ 1000000000000000) (hc : Bd bs.length st0 a K c) (h0 : 0 ≤ a)
    (hp : ∀ x : WS × Unit, 0 ≤ x.1.at' → x.1.at' ≤ 2000000000000000 → Bd bs.length st0 x.1.at' 8 (p x)) : Bd bs.length st0 a (K + 8) (thenX c p) :=
  Bd.then hc fun y _ h1 h2 => hp y (by have : a ≤ y.1.at' := h1; omega) (by have : y.1.at' ≤ bs.length := h2; omega)
theorem parts_bd (hL : bs.length ≤ 1000000000000000) (op : Nat) {a : Int} {K : Nat} {c : X (WS × Unit)} (hc : Bd bs.length st0 a K c) (h0 : 0 ≤ a) : Bd bs.length st0 a (K + 24) (partsX (reading b rv bs) op c) := by
  have hv : ∀ o (x : WS × Unit), 0 ≤ x.1.at' → x.1.at' ≤ 2000000000000000 → Bd bs.length st0 x.1.at' 8 (varPart (reading b rv bs) o x) := fun o x k0 k1 => ask_bd hL o 1 _ 13 x k0 k1 (by omega)
  have hf1 : ∀ (x : WS × Unit), 0 ≤ x.1.at' → x.1.at' ≤ 2000000000000000 → Bd bs.length st0 x.1.at' 8 (fieldsPart (reading b rv bs) x) := fun x k0 k1 => ask_bd hL 158 1 _ 17 x k0 k1 (by omega)
  have hf2 : ∀ (x : WS × Unit), 0 ≤ x.1.at' → x.1.at' ≤ 2000000000000000 → Bd bs.length st0 x.1.at' 8 (fieldPart (reading b rv bs) x) := fun x k0 k1 => ask_bd hL 158 1 _ 17 x k0 k1 (by omega)
  have hg : ∀ (x : WS × Unit), 0 ≤ x.1.at' → x.1.at' ≤ 2000000000000000 → Bd bs.length st0 x.1.at' 8 (globalPart (reading b rv bs) x) := fun x k0 k1 => ask_bd hL 158 1 _ 18 x k0 k1 (by omega)
  have ht : ∀ (x : WS × Unit), 0 ≤ x.1.at' → x.1.at' ≤ 2000000000000000 → Bd bs.length st0 x.1.at' 8 (targetPart (reading b rv bs) x) := fun x k0 k1 => ask_bd hL 158 2 _ 16 x k0 k1 (by omega)
  have hi : ∀ (x : WS × Unit), 0 ≤ x.1.at' → x.1.at' ≤ 2000000000000000 → Bd bs.length st0 x.1.at' 8 (intPart (reading b rv bs) x) := fun x k0 k1 => next_bd hL 158 8 x k0 k1 (by omega)
  match op with
  | 1 => exact ((hc.part hL h0 (hv 155)).part hL h0 hi).mono (by omega)
  | 2 => exact ((hc.part hL h0 (hv 155)).part hL h0 (hv 156)).mono (by omega)
  | 3 => exact (((hc.part hL h0 (hv 155)).part hL h0 (hv 156)).part hL h0 (hv 157)).mono (by omega)
  | 4 => exact (((hc.part hL h0 (hv 155)).part hL h0 (hv 156)).part hL h0 (hv 157)).mono (by omega)
  | 5 => exact ((hc.part hL h0 (hv 155)).part hL h0 (hv 156)).mono (by omega)
  | 6 => exact ((hc.part hL h0 (hv 155)).part hL h0 hf1).mono (by omega)
  | 7 => exact (((hc.part hL h0 (hv 155)).part hL h0 (hv 156)).part hL h0 hf2).mono (by omega)
  | 8 => exact (((hc.part hL h0 (hv 155)).part hL h0 (hv 156)).part hL h0 hf2).mono (by omega)
  | 9 => exact ((hc.part hL h0 (hv 155)).part hL h0 hg).mono (by omega)
  | 10 => exact ((hc.part hL h0 (hv 156)).part hL h0 hg).mono (by omega)
  | 12 => exact (hc.part hL h0 (hv 156)).mono (by omega)
  | 13 => exact (hc.part hL h0 ht).mono (by omega)
  | 14 => exact ((hc.part hL h0 (hv 156)).part hL h0 ht).mono (by omega)
  | 16 => exact (hc.part hL h0 (hv 155)).mono (by omega)
  | 17 => exact (((hc.part hL h0 (hv 155)).part hL h0 (hv 156)).part hL h0 (hv 157)).mono (by omega)
  | 0 => exact hc.mono (by omega)
  | 11 => exact hc.mono (by omega)
  | 15 => exact hc.mono (by omega)
  | n + 18 => exact hc.mono (by omega)
theorem ret_bd (hL : bs.length ≤ 1000000000000000) (n : Nat) {a : Int} {K : Nat} {c : X (WS × Unit)} (hc : Bd bs.length st0 a K c) (h0 : 0 ≤ a) : Bd bs.length st1 a (K + 263) (retX (reading b rv bs) n c) := by
  refine Bd.then hc fun y _ h1 h2 => ?_
  have h1' : a ≤ y.1.at' := h1
  have h2' : y.1.at' ≤ bs.length := h2
  exact Bd.then (K := 263) (K' := 0) (list_bd hL n [] y (by omega) (by omega)) fun z _ _ hl => Bd.ok rfl hl
theorem call_bd (hL : bs.length ≤ 1000000000000000) (heads : List (Nat × Nat)) {a : Int} {K : Nat} {c : X (WS × Unit)} (hc : Bd bs.length st0 a K c) (h0 : 0 ≤ a) : Bd bs.length st1 a (K + 8 + 526) (callX (reading b rv bs) heads c) := by
  refine Bd.then (hc.part hL h0 fun x k0 k1 => ask_bd hL 158 2 _ 14 x k0 k1 (by omega)) fun y _ h1 h2 => ?_
  have h1' : a ≤ y.1.at' := h1
  have h2' : y.1.at' ≤ bs.length := h2
  refine Bd.then (K := 263) (K' := 263) (list_bd hL _ [] y (by omega) (by omega)) fun z _ h3 h4 => ?_
  have h3' : y.1.at' ≤ z.2.1.at' := h3
  have h4' : z.2.1.at' ≤ bs.length := h4
  exact Bd.then (K := 263) (K' := 0) (list_bd hL _ [] z.2 (by omega) (by omega)) fun u _ _ hl => Bd.ok rfl hl
theorem instr_bd (hL : bs.length ≤ 1000000000000000) (heads : List (Nat × Nat)) (fR i : Nat) (x : WS × Unit) (h0 : 0 ≤ x.1.at') (h1 : x.1.at' ≤ 1000000000000000) : Bd bs.length st1 x.1.at' 600 (instrX (reading b rv bs) heads fR i x) := by
  refine Bd.then (K := 8) (K' := 592) (next_bd hL 154 1 x h0 (by omega) (by omega)) fun y hy k1 k2 => ?_
  have k1' : x.1.at' ≤ y.1.at' := k1
  have hy0 : 0 ≤ y.1.at' := by omega
  have hf : ∀ ends makes : Bool, Bd bs.length st0 y.1.at' 0 (frontOk (reading b rv bs) ends makes true i x.1.at' y) := fun ends makes => front_bd ends makes true i x.1.at' y k2 k1'
  split
  · split
    · exact (ret_bd hL fR (hf _ _) hy0).mono (by omega)
    · split
      · exact (call_bd hL heads (hf _ _) hy0).mono (by omega)
      · refine Bd.mono (K := 24 + 0) ?_ (by omega)
        exact Bd.then (K := 24) (K' := 0) (Bd.mono (K := 0 + 24) (parts_bd hL _ (hf _ _) hy0) (by omega)) fun z _ _ hl => Bd.ok rfl hl
  · exact Bd.err k1'
theorem code_bd (hL : bs.length ≤ 1000000000000000) (heads : List (Nat × Nat)) (fR len : Nat) : ∀ (m : Nat) (x : WS × Unit), 0 ≤ x.1.at' → x.1.at' ≤ bs.length → Bd bs.length st1 x.1.at' (m * 600) (codeX (reading b rv bs) heads fR len m x)
  | 0, x, _, hl => Bd.ok (y := ([], x)) rfl hl
  | m + 1, x, h0, hl => by
    refine Bd.cast (codeX_then (reading b rv bs) heads fR len m x) ?_
    have hi := instr_bd (b := b) (rv := rv) hL heads fR (len - (m + 1)) (blank x.1, x.2) h0 (by show x.1.at' ≤ _; omega)
    refine Bd.mono (Bd.then (K := 600) (K' := m * 600) (a := x.1.at') hi fun y _ k1 k2 => ?_) (by omega)
    have k1' : x.1.at' ≤ y.2.1.at' := k1
    refine Bd.mono (Bd.then (K := m * 600) (K' := 0) (code_bd hL heads fR len m y.2 (by omega) k2) fun z _ _ hz => Bd.ok rfl hz) (by omega)
theorem heads_bd (hL : bs.length ≤ 1000000000000000) : ∀ (m : Nat) (x : WS × Unit), 0 ≤ x.1.at' → x.1.at' ≤ bs.length → Bd bs.length st1 x.1.at' (m * 32) (headsX (reading b rv bs) m x)
  | 0, x, _, hl => Bd.ok (y := ([], x)) rfl hl
  | m + 1, x, h0, hl => by
    refine Bd.cast (headsX_then (reading b rv bs) m x) ?_
    refine Bd.mono (Bd.then (K := 32) (K' := m * 32) (head_bd hL x h0 (by omega)) fun y _ k1 k2 => ?_) (by omega)
    have k1' : x.1.at' ≤ y.1.at' := k1
    refine Bd.mono (Bd.then (K := m * 32) (K' := 0) (heads_bd hL m y (by omega) k2) fun z _ _ hz => Bd.ok rfl hz) (by omega)
theorem head_len {x y : WS × Unit} (h : headX (reading b rv bs) x = .ok y) : y.1.len ≤ 4096 := by
  have h := (headX_then (reading b rv bs) x).symm.trans h
  obtain ⟨y1, -, h⟩ := thenX_ok h
  obtain ⟨y2, -, h⟩ := thenX_ok h
  obtain ⟨y3, -, h⟩ := thenX_ok h
  obtain ⟨y4, -, h⟩ := thenX_ok h
  obtain ⟨u, hu, h⟩ := thenX_ok h
  have h4 : y4.1.len ≤ 4096 := by
    unfold headOk at hu
    repeat' split at hu
    all_goals first | (cases hu; done) | omega
  unfold locX at h
  split at h
  · cases h; exact h4
  · cases h
theorem heads_len : ∀ (m : Nat) (x : WS × Unit) (q : List HD × (WS × Unit)), headsX (reading b rv bs) m x = .ok q → q.1.length = m ∧ ∀ h ∈ q.1, h.len ≤ 4096
  | 0, x, q, h => by
    have e : headsX (reading b rv bs) 0 x = .ok ([], x) := rfl
    rw [e] at h
    cases h
    exact ⟨rfl, fun h hh => by cases hh⟩
  | m + 1, x, q, h => by
    have h := (headsX_then (reading b rv bs) m x).symm.trans h
    obtain ⟨y, hy, h⟩ := thenX_ok h
    obtain ⟨r, hr, h⟩ := thenX_ok h
    obtain ⟨h1, h2⟩ := heads_len m y r hr
    cases h
    refine ⟨by simp [h1], fun d hd => ?_⟩
    rcases List.mem_cons.1 hd with rfl | hd
    · exact head_len hy
    · exact h2 d hd
theorem funcs_bd (hL : bs.length ≤ 1000000000000000) (heads : List (Nat × Nat)) : ∀ (l : List HD) (x : WS × Unit), (∀ h ∈ l, h.len ≤ 4096) → 0 ≤ x.1.at' → x.1.at' ≤ bs.length → Bd bs.length st1 x.1.at' (l.length * 2457600) (funcsX (reading b rv bs) heads l x)
  | [], x, _, _, hl => Bd.ok (y := ([], x)) rfl hl
  | d :: r, x, hd, h0, hl => by
    have h4 := hd d List.mem_cons_self
    refine Bd.cast (funcsX_then (reading b rv bs) heads d r x) ?_
    have hi := code_bd (b := b) (rv := rv) hL heads d.R.toNat d.len.toNat d.len.toNat (inFunc d x.1, x.2) h0 hl
    refine Bd.mono (Bd.then (K := 2457600) (K' := r.length * 2457600) (a := x.1.at') (hi.mono (by omega)) fun y _ k1 k2 => ?_) (by simp only [List.length_cons]; omega)
    have k1' : x.1.at' ≤ y.2.1.at' := k1
    refine Bd.mono (Bd.then (K := r.length * 2457600) (K' := 0) (funcs_bd hL heads r y.2 (fun h hh => hd h (List.mem_cons_of_mem _ hh)) (by omega) k2) fun z _ _ hz => Bd.ok rfl hz) (by omega)
theorem body_bd (hL : bs.length ≤ 1000000000000000) (s : WS) (h6 : s.at' = 6) (fv : Value) : Bd bs.length st1 6 200000000000 (bodyX b rv bs s fv) := by
  have k0 := ask_bd (b := b) (rv := rv) hL 146 1 (fun s => decide (0 ≤ s.globals ∧ s.globals ≤ 16)) 18 (s, ()) (by show 0 ≤ s.at'; omega) (by show s.at' ≤ _; omega) (by omega)
  rw [show ((s, ()) : WS × Unit).1.at' = 6 from h6] at k0
  refine Bd.mono (Bd.then (K := 8) (K' := 180000000000) k0 fun y2 _ a2 l2 => ?_) (by omega)
  have a2' : 6 ≤ y2.1.at' := a2
  have l2' : y2.1.at' ≤ bs.length := l2
  refine Bd.mono (Bd.then (K := 8) (K' := 170000000000) (ask_bd hL 161 2 _ 20 y2 (by omega) (by omega) (by omega)) fun y3 hy3 a3 l3 => ?_) (by omega)
  have a3' : y2.1.at' ≤ y3.1.at' := a3
  have l3' : y3.1.at' ≤ bs.length := l3
  have hc : y3.1.count ≤ 65535 := by
    have hy3 := (askX_then (reading b rv bs) 161 2 (fun s => decide (1 ≤ s.count ∧ s.count ≤ 65535)) 20 y2).symm.trans hy3
    obtain ⟨y, -, h⟩ := thenX_ok hy3
    split at h
    · rename_i hd
      cases h
      exact (of_decide_eq_true hd).2
    · cases h
  refine Bd.mono (Bd.then (K := 2097120) (K' := 161058816000) ((heads_bd hL _ y3 (by omega) l3').mono (by omega)) fun q hq a4 l4 => ?_) (by omega)
  have a4' : y3.1.at' ≤ q.2.1.at' := a4
  obtain ⟨e1, e2⟩ := heads_len _ _ _ hq
  have hi := funcs_bd (b := b) (rv := rv) hL (headsOf q.1) q.1 ({ q.2.1 with funcs := fv }, q.2.2) e2 (by show 0 ≤ q.2.1.at'; omega) l4
  exact Bd.then (K := 161058816000) (K' := 0) (a := q.2.1.at') (hi.mono (by omega)) fun z _ _ hz => Bd.ok rfl hz
end
set_option maxRecDepth 100000
set_option maxHeartbeats 1000000
theorem copyBytes_wide (v : Value) (bs : List UInt8) (w : World) (h : BytesIn w v bs) (hl : bs.length ≤ 140737488351232) :
    Calls Tryd.prog 11 #[v] w fun e w' => Fr (fun _ => False) w w' ∧ ∃ rv, e = .returned rv ∧ w'.ownsRow w.heap.size 5 1 rv bs.length (bs.map u8v) ∧ (bs = [] → rv = .slice none 0 0) := by
  obtain ⟨-, a, c, rfl, hc, hcell⟩ := h
  obtain ⟨i5, hi5, hz5, hs5, hb5⟩ := info_parts (P := Tryd.prog) (e := 5) (z := .int .u8 0) (size := 1) (bytes := 1) (by kernel_rfl)
  go_enter Tryd.func11, Tryd.ntmps11
  go_wp2_with fail
  go_loopw [3, 4] (fun m i wr => ∃ (k : Nat), k ≤ bs.length ∧ i = .int .i64 k ∧ wr.ownsRow w.heap.size 5 1 m k ((bs.take k).map u8v) ∧ Fr (fun j => w.heap.size ≤ j) w wr ∧ (k = 0 → m = .slice none 0 0)) (fun _ i _ => match i with | .int _ q => bs.length - q.toNat | _ => 0)
  case atStart => exact ⟨0, Nat.zero_le _, rfl, World.ownsRow_nil _ _ _ _, Fr.refl _ _, fun _ => rfl⟩
  case round =>
    obtain ⟨k, hk, rfl, hown, hfr, hkz⟩ := hrel
    have HKZ : Hd (k = 0 → u3 = .slice none 0 0) := hkz
    clear hkz
    by_cases hlt : k < bs.length
    · obtain ⟨g, o, rfl, hg, hcs⟩ := hcell (by intro e; simp [e] at hlt)
      have hck : wr.cell? ⟨g, o + k, none⟩ = some (.int .u8 bs[k].toNat) := (hfr.cell hg (by omega)).trans (hcs k hlt)
      have hgl : g < wr.heap.size := Nat.lt_of_lt_of_le hg hfr.size
      have htk : Hd ((bs.take (k + 1)).map u8v = (bs.take k).map u8v ++ [u8v bs[k]]) := take_map_succ bs k hlt
      generalize hbk : bs[k] = bk at hck htk
      have hkb : k + 1 ≤ maxLen := by unfold maxLen; omega
      have hws := hfr.size
      have hcell1 : ∀ (j : Nat) (u : Value), [u8v bk][j]? = some u → (wr.alloc (.cells #[u8v bk] 5)).cell? ((⟨wr.heap.size, 0, none⟩ : Addr).add j) = some u := by
        intro j u hu
        rw [addr_add, World.cell?_alloc_new]
        simpa using hu
      have hkn : (0 : Int) ≤ k ∧ (k : Int) < bs.length := by omega
      clear hcell hcs hbk
      go_wp2_with ((at_builtin; refine wpList_append_own _ rfl (.tmp 11) (.tmp 16) 22 rfl w.heap.size 5 i5 (.int .u8 0) 1 1 Tryd.underlying22 hi5 hz5 hs5 hb5 rfl (by omega) u3 k _ rfl (hown.alloc _) ⟨wr.heap.size, 0, none⟩ 1 1 [u8v bk] rfl rfl hcell1 (by intro u hu; simp at hu; subst hu; rfl) hkb (by omega) (by simp; omega) ?_; intro v1 w6 hown6 hgrow6 hnil6))
      have hnb : ∀ j, u3.ownBlock = some j → w.heap.size ≤ j := fun j hj => (World.ownsRow.lt hown j hj).1
      refine ⟨⟨k + 1, by omega, by simp, by rw [htk.out]; exact hown6, hfr.trans (Fr.trans (Fr.alloc (Fr.refl _ wr) _) ((grown_fr hgrow6).mono (fun j _ hj => hnb j hj))), fun e => by omega⟩, by simp; omega⟩
    · have hkl : k = bs.length := by omega
      subst hkl
      go_wp2_with fail
      go_ret
      rw [List.take_of_length_le (Nat.le_refl _)] at hown
      exact ⟨hfr.mono (fun j hj hS => by omega), _, rfl, hown, fun e => HKZ.out (by rw [e]; rfl)⟩
theorem IA.il {w : World} {v : Value} {l : List Int} (h : IA w v l) {b : Nat} (hb : w.heap.size ≤ b) : IL b w v l := by
  obtain ⟨a, c, e, h⟩ := h
  refine ⟨a, c, e, fun hne => ?_⟩
  obtain ⟨k, o, e, hk, hc⟩ := h hne
  exact ⟨k, o, e, hk, by omega, hc⟩
theorem CA.cl {w : World} {v : Value} {cs : List PI} (h : CA w v cs) (hn : FineC cs) {b : Nat} (hb : w.heap.size ≤ b) : CL b w v cs := by
  obtain ⟨a, c, e, h⟩ := h
  refine ⟨by have := hn.1; omega, a, c, e, fun hne => ?_⟩
  obtain ⟨k, o, e, hk, hc⟩ := h hne
  refine ⟨k, o, e, hk, by omega, fun j hj => ?_⟩
  obtain ⟨av, rv, h1, h2, h3, h4, h5, h6, h7, h8, h9⟩ := hc j hj
  have hf := hn.2 _ (List.getElem_mem hj)
  exact ⟨av, rv, h1, h2, h3, h4, h5, h6, h7, h8.il hb, h9.il hb, by omega, by omega⟩
theorem FA.fl {w : World} {v : Value} {fs : List PF} (h : FA w v fs) (hn : FineP fs) {b : Nat} (hb : w.heap.size ≤ b) : FL b w v fs := by
  obtain ⟨a, c, e, h⟩ := h
  refine ⟨by have := hn.1; omega, a, c, e, fun hne => ?_⟩
  obtain ⟨k, o, e, hk, hc⟩ := h hne
  refine ⟨k, o, e, hk, by omega, fun j hj => ?_⟩
  obtain ⟨cv, h1, h2, h3, h4, h5⟩ := hc j hj
  exact ⟨cv, h1, h2, h3, h4, h5.cl (hn.2 _ (List.getElem_mem hj)) hb⟩
theorem tmod_bound (k n : Int) (hn : 1 ≤ n) : -n < k.tmod n ∧ k.tmod n < n := by
  have h := Int.natAbs_tmod k n
  have h2 : k.natAbs % n.natAbs < n.natAbs := Nat.mod_lt _ (by omega)
  omega
theorem w64r {n : Int} (h1 : -9223372036854775808 ≤ n) (h2 : n ≤ 9223372036854775807) : wrap64 n = n := by unfold wrap64; omega
end Go.Proofs.YtingenonbkencaaDoor
