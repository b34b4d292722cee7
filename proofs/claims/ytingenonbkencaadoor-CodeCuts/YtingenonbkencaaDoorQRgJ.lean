import Derived.Test.YtingenonbkencaaDoorQRf
import Derived.Test.YtingenonbkencaaDoorQN8J
import Derived.Test.YtingenonbkencaaDoorQS3J
set_option linter.unusedVariables false
set_option linter.unusedSimpArgs false
namespace Go.Proofs.YtingenonbkencaaDoor
open Go.RowKit (wrap32 wrap64)
set_option maxRecDepth 100000
set_option maxHeartbeats 1000000
theorem enc1_gen (wv pv b : Nat) (G : Int) (fv : Value) (w : World) (hw : w.cell? ⟨wv, 0, none⟩ = some (.pointer (some ⟨b, 0, none⟩))) (h0 : w.cell? ⟨pv, 0, none⟩ = some (vI G)) (a : Option Addr) (l c : Nat) (hfv : fv = .slice a l c) (h1 : w.cell? ⟨pv, 1, none⟩ = some fv) (J : World → Prop) (Pn : Int → Int → World → Prop)
    (ho : Calls Tryd.prog 36 #[.pointer (some ⟨b, 0, none⟩), .agg #[vI G, fv]] w fun e w' => (e = .returned (.tuple #[]) ∧ J w') ∨ ∃ er at', e = .panicked (viol er at') ∧ Pn er at' w') :
    Calls Tryd.prog 35 #[.pointer (some ⟨wv, 0, none⟩), .pointer (some ⟨pv, 0, none⟩)] w fun e w' => (e = .returned (.tuple #[]) ∧ J w') ∨ ∃ er at', e = .panicked (viol er at') ∧ Pn er at' w' := by
  subst hfv
  go_enter Tryd.func35, Tryd.ntmps35
  go_wp2_with fail
  refine ho.mono ?_
  rintro e w1 (⟨rfl, hQ⟩ | ⟨er, at', rfl, hQ⟩)
  · clear ho
    go_wp2_with fail
    go_end0
    exact Or.inl ⟨rfl, hQ⟩
  · clear ho
    go_wp2_with fail
    exact ⟨rfl, Or.inr ⟨er, at', rfl, hQ⟩⟩
theorem first_enc1 {R : Nat} (hR : RoomOk R) (w : World) (G : Int) (fs : List PF) (fv : Value) (b0 : Nat) (hl : FL b0 w fv fs) (hc : ∀ f ∈ fs, ∀ c ∈ f.code, In64n c) (hT : Tab w) (h0 : 0 < w.heap.size) :
    Calls Tryd.prog 31 #[.func (.func 35) #[] #[.pointer (some ⟨w.heap.size + 5, 0, none⟩), .pointer (some ⟨w.heap.size, 0, none⟩)]]
      ((((((w.alloc (.cells #[vI G, fv] 26)).alloc (.cells magicC 5 (6, 7))).alloc (.cells #[.slice (some ⟨w.heap.size + 1, 0, none⟩) 6 6] 53)).alloc (.cells rowsC 85)).alloc (.cells (WS.start (writerFn (w.heap.size + 2))).cells 87)).alloc (.cells #[.pointer (some ⟨w.heap.size + 4, 0, none⟩)] 46))
      (Said1 (w.heap.size + 6) (EncJ R w G fs fv) (EncN R w G fs fv)) := by
  obtain ⟨s0, s1, s2, s4, s5, s6, hsz, hsf⟩ := startP_at w G fv
  have e6 : ((((((w.alloc (.cells #[vI G, fv] 26)).alloc (.cells magicC 5 (6, 7))).alloc (.cells #[.slice (some ⟨w.heap.size + 1, 0, none⟩) 6 6] 53)).alloc (.cells rowsC 85)).alloc (.cells (WS.start (writerFn (w.heap.size + 2))).cells 87)).alloc (.cells #[.pointer (some ⟨w.heap.size + 4, 0, none⟩)] 46)).heap.size = w.heap.size + 6 := by simp
  have := firstViolation_any 35 #[.pointer (some ⟨w.heap.size + 5, 0, none⟩), .pointer (some ⟨w.heap.size, 0, none⟩)]
    ((((((w.alloc (.cells #[vI G, fv] 26)).alloc (.cells magicC 5 (6, 7))).alloc (.cells #[.slice (some ⟨w.heap.size + 1, 0, none⟩) 6 6] 53)).alloc (.cells rowsC 85)).alloc (.cells (WS.start (writerFn (w.heap.size + 2))).cells 87)).alloc (.cells #[.pointer (some ⟨w.heap.size + 4, 0, none⟩)] 46))
    (EncJ R w G fs fv) (EncN R w G fs fv) (fun _ => by kernel_rfl) ?_
  · rw [e6] at this; exact this
  · obtain ⟨-, a, c, ea, -⟩ := id hl
    have hun : ∀ w', Fr (fun k => k = w.heap.size + 4 ∨ k = w.heap.size + 2) (startP w G fv) w' → Unsaid ((((((w.alloc (.cells #[vI G, fv] 26)).alloc (.cells magicC 5 (6, 7))).alloc (.cells #[.slice (some ⟨w.heap.size + 1, 0, none⟩) 6 6] 53)).alloc (.cells rowsC 85)).alloc (.cells (WS.start (writerFn (w.heap.size + 2))).cells 87)).alloc (.cells #[.pointer (some ⟨w.heap.size + 4, 0, none⟩)] 46)).heap.size w' := fun w' hf => by
      rw [e6]
      refine unsaid_of ?_
      rw [hf.block _ (by omega) (by omega)]
      exact s6
    refine (enc1_gen (w.heap.size + 5) w.heap.size (w.heap.size + 4) G fv (startP w G fv) ?_ ?_ a fs.length c ea ?_ (EncJ R w G fs fv) (EncN R w G fs fv) (over_encP hR w G fs fv b0 hl hc hT h0)).mono ?_
    · unfold World.cell?; simp [s5]
    · unfold World.cell?; simp [s0]
    · unfold World.cell?; simp [s0]
    · rintro e w' (⟨rfl, hJ⟩ | ⟨er, at', rfl, hN⟩)
      · exact ⟨hun w' hJ.1, Or.inl ⟨rfl, hJ⟩⟩
      · exact ⟨hun w' hN.1, Or.inr ⟨er, at', rfl, hN⟩⟩
def EncE (R : Nat) (w : World) (G : Int) (fs : List PF) (e : Ending) (w' : World) : Prop :=
  Fr (fun _ => False) w w' ∧ match encK w.heap.size R G fs with
    | .ok y => ∃ a c, e = .returned (.tuple #[.slice a y.2.2.length c, vI 0]) ∧ Handed w' (.slice a y.2.2.length c) y.2.2
    | .error z => e = .returned (.tuple #[.slice none 0 0, vI z.1])
theorem encode_any {R : Nat} (hR : RoomOk R) (w : World) (G : Int) (fs : List PF) (fv : Value) (b0 : Nat) (hl : FL b0 w fv fs) (hc : ∀ f ∈ fs, ∀ c ∈ f.code, In64n c) (hT : Tab w) (h0 : 0 < w.heap.size) :
    Calls Tryd.prog 12 #[.agg #[vI G, fv]] w (EncE R w G fs) := by
  have hmf : ∀ (fn : _root_.Go.Fn) (first cap : Array Value) (w : World), (Instr.makeFunc fn first cap).run Tryd.prog w = .ok (.func fn first cap) w := fun _ _ _ _ => rfl
  obtain ⟨s0, s1, s2, s4, s5, s6, hsz, hsf⟩ := startP_at w G fv
  have hcv : (convert 22 22 (.slice (some ⟨w.heap.size + 1, 0, none⟩) 6 6)).run Tryd.prog ((w.alloc (.cells #[vI G, fv] 26)).alloc (.cells magicC 5)) = .ok (.slice (some ⟨w.heap.size + 1, 0, none⟩) 6 6) ((w.alloc (.cells #[vI G, fv] 26)).alloc (.cells magicC 5 (6, 7))) := by
    have := Go.Lib.run_convert_bytes_const (P := Tryd.prog) (w.alloc (.cells #[vI G, fv] 26)) 22 5 magicC 6 6 Tryd.underlying22 (by kernel_rfl)
    simpa using this
  have hfv := first_enc1 hR w G fs fv b0 hl hc hT h0
  obtain ⟨-, a, c, ea, -⟩ := hl
  subst ea
  unfold writerFn at hfv
  clear hc
  go_enter Tryd.func12, Tryd.ntmps12
  go_wp2_with fail
  refine (newWalk_any _ _ _ _).mono ?_
  rintro e w1 ⟨rfl, rfl⟩
  go_wp2_with fail
  refine hfv.mono ?_
  rintro e w2 ⟨er, at', w3, rfl, rfl, hcase⟩
  clear hfv hcv
  have hfd : ∀ (v : World), (Instr.field 50 (.agg #[vI er, vI at']) 0).run Tryd.prog v = .ok (vI er) v := fun _ => by kernel_rfl
  have hf4 : Fr (fun k => k = w.heap.size + 6) w3 ((w3.setCell ⟨w.heap.size + 6, 0, none⟩ (vI er)).setCell ⟨w.heap.size + 6, 1, none⟩ (vI at')) := Fr.setCell (Fr.setCell (Fr.refl (fun k => k = w.heap.size + 6) w3) _ _ (Or.inl rfl)) _ _ (Or.inl rfl)
  have hff : Fr (fun k => k = w.heap.size + 4 ∨ k = w.heap.size + 2) (startP w G (.slice a fs.length c)) w3 := hcase.elim (fun h => h.2.2.1) (fun h => h.1)
  have hend : Hd (∀ w4, Fr (fun k => k = w.heap.size + 6) w3 w4 → Fr (fun _ => False) w w4) := fun w4 h4 => by
    have h1 : Fr (fun k => w.heap.size ≤ k) w w4 := ((hsf.mono (fun _ _ h => h.elim)).trans (hff.mono (fun k _ hk => by omega))).trans (h4.mono (fun k _ hk => by omega))
    exact h1.mono (fun k hk hS => by omega)
  have h6' : w3.heap[w.heap.size + 6]? = some (.cells #[vI 0, vI 0] 50) := by rw [hff.block _ (by omega) (by omega)]; exact s6
  rcases hcase with ⟨rfl, rfl, -, y, bv, hy, hb2, hbh, a2, c2, rfl⟩ | ⟨-, hy⟩
  · have HY : Hd (encK w.heap.size R G fs = .ok y) := hy
    clear hy hff
    have hb4 : ((w3.setCell ⟨w.heap.size + 6, 0, none⟩ (vI 0)).setCell ⟨w.heap.size + 6, 1, none⟩ (vI 0)).heap[w.heap.size + 2]? = some (.cells #[.slice a2 y.2.2.length c2] 53) := by
      rw [hf4.block _ (Array.getElem?_eq_some_iff.1 hb2).1 (by omega)]; exact hb2
    have HB : Hd (∀ w4, Fr (fun k => k = w.heap.size + 6) w3 w4 → Handed w4 (.slice a2 y.2.2.length c2) y.2.2) := fun w4 h4 => hbh.spared h4 h6'
    clear hbh hb2 h6'
    generalize ((w3.setCell ⟨w.heap.size + 6, 0, none⟩ (vI 0)).setCell ⟨w.heap.size + 6, 1, none⟩ (vI 0)) = w4 at hf4 hb4 ⊢
    have hfin : Hd (∀ w5, Fr (fun k => k = w.heap.size + 6) w3 w5 → EncE R w G fs (.returned (.tuple #[.slice a2 y.2.2.length c2, vI 0])) w5) := fun w5 h5 => by
      refine ⟨hend.out _ h5, ?_⟩
      rw [HY.out]
      exact ⟨a2, c2, rfl, HB.out _ h5⟩
    have c2' : w4.cell? ⟨w.heap.size + 1 + 1, 0, none⟩ = some (.slice a2 y.2.2.length c2) := by unfold World.cell?; simp [hb4]
    have hl2 : w.heap.size + 1 + 1 < w4.heap.size := cell_lt c2'
    clear HB HY hend
    generalize y.2.2.length = ny at c2' hfin ⊢
    go_wp2_with fail
    go_ret2
    exact hfin.out _ (hf4.trans (Fr.alloc (Fr.refl _ w4) _))
  · have hne : (er == 0) = false := by
      have := encK_told hR hy
      simpa using this
    have HY : Hd (encK w.heap.size R G fs = .error (er, at')) := hy
    clear hy hff h6'
    generalize ((w3.setCell ⟨w.heap.size + 6, 0, none⟩ (vI er)).setCell ⟨w.heap.size + 6, 1, none⟩ (vI at')) = w4 at hf4 ⊢
    go_wp2_with fail
    go_region
    all_goals go_wp2_with fail
    all_goals go_ret2
    all_goals
      refine ⟨hend.out _ (hf4.trans ?_), ?_⟩
      · repeat first
          | exact Fr.refl _ _
          | refine Fr.drew ?_
          | refine Fr.alloc ?_ _
      · rw [HY.out]; rfl
section
variable {b wb g0 K : Nat}
theorem len_next {o size : Nat} {x y : WS × (Nat × List UInt8)} (ho : o ∈ places) (hs : size ≤ 8) (hx : Pos x) (h : nextX (writing b wb g0 K) o size x = .ok y) : y.2.2.length = x.2.2.length + size ∧ Pos y := by
  obtain ⟨e, w⟩ := wr_next (b := b) ho hs hx h
  refine ⟨?_, w.pos⟩
  rw [e]
  simp [leBytes_length]
def Lg (n : Nat) (c : X (WS × (Nat × List UInt8))) : Prop := ∀ y, c = .ok y → n ≤ y.2.2.length ∧ Pos y
theorem Lg.next {n o size : Nat} {c : X (WS × (Nat × List UInt8))} (h : Lg n c) (ho : o ∈ places) (hs : size ≤ 8) : Lg (n + size) (thenX c (nextX (writing b wb g0 K) o size)) := fun y hy => by
  obtain ⟨x, hx, hxy⟩ := then_ok hy
  obtain ⟨h1, h2⟩ := h x hx
  obtain ⟨l, p⟩ := len_next ho hs h2 hxy
  exact ⟨by omega, p⟩
theorem Lg.ask {n o size : Nat} {t : WS → Bool} {er : Int} {c : X (WS × (Nat × List UInt8))} (h : Lg n c) (ho : o ∈ places) (hs : size ≤ 8) : Lg (n + size) (thenX c (askX (writing b wb g0 K) o size t er)) := fun y hy => by
  obtain ⟨x, hx, hxy⟩ := then_ok hy
  obtain ⟨h1, h2⟩ := h x hx
  obtain ⟨l, p⟩ := len_next ho hs h2 (ask_next hxy).1
  exact ⟨by omega, p⟩
theorem Lg.mono {n m : Nat} {c : X (WS × (Nat × List UInt8))} (h : Lg n c) (hm : m ≤ n) : Lg m c := fun y hy => ⟨Nat.le_trans hm (h y hy).1, (h y hy).2⟩
theorem lg_parts {n : Nat} {c : X (WS × (Nat × List UInt8))} (op : Nat) (h1 : 1 ≤ op ∧ op ≤ 17 ∧ op ≠ 11 ∧ op ≠ 15) (h : Lg n c) : Lg (n + 1) (partsX (writing b wb g0 K) op c) := by
  have hv : ∀ {n : Nat} {c : X (WS × (Nat × List UInt8))} (o : Nat), o ∈ places → Lg n c → Lg (n + 1) (thenX c (varPart (writing b wb g0 K) o)) := fun o ho h => h.ask ho (by omega)
  have m5 : 155 ∈ places := by simp [places]
  have m6 : 156 ∈ places := by simp [places]
  have m7 : 157 ∈ places := by simp [places]
  have m8 : 158 ∈ places := by simp [places]
  match op with
  | 1 => exact ((hv 155 m5 h).next m8 (by omega)).mono (by omega)
  | 2 => exact (hv 156 m6 (hv 155 m5 h)).mono (by omega)
  | 3 => exact (hv 157 m7 (hv 156 m6 (hv 155 m5 h))).mono (by omega)
  | 4 => exact (hv 157 m7 (hv 156 m6 (hv 155 m5 h))).mono (by omega)
  | 5 => exact (hv 156 m6 (hv 155 m5 h)).mono (by omega)
  | 6 => exact ((hv 155 m5 h).ask m8 (by omega)).mono (by omega)
  | 7 => exact ((hv 156 m6 (hv 155 m5 h)).ask m8 (by omega)).mono (by omega)
  | 8 => exact ((hv 156 m6 (hv 155 m5 h)).ask m8 (by omega)).mono (by omega)
  | 9 => exact ((hv 155 m5 h).ask m8 (by omega)).mono (by omega)
  | 10 => exact ((hv 156 m6 h).ask m8 (by omega)).mono (by omega)
  | 12 => exact hv 156 m6 h
  | 13 => exact (h.ask m8 (by omega)).mono (by omega)
  | 14 => exact ((hv 156 m6 h).ask m8 (by omega)).mono (by omega)
  | 16 => exact hv 155 m5 h
  | 17 => exact (hv 157 m7 (hv 156 m6 (hv 155 m5 h))).mono (by omega)
  | 0 => omega
  | 11 => omega
  | 15 => omega
  | m + 18 => omega
theorem instr_two {heads : List (Nat × Nat)} {fR i : Nat} {la lr : List Int} {x y : WS × (Nat × List UInt8)} (hx : Pos x) (h : instrK (writing b wb g0 K) heads fR i la lr x = .ok y) : x.2.2.length + 2 ≤ y.2.2.length := by
  obtain ⟨x1, h1, h⟩ := then_ok h
  obtain ⟨l1, p1⟩ := len_next (o := 154) (by simp [places]) (by omega) hx h1
  have hfr : ∀ ends makes nb, Lg (x1.2.2.length) (frontOk (writing b wb g0 K) ends makes nb i x.1.at' x1) := fun ends makes nb z hz => by
    have e : z.2 = x1.2 := front_snd hz
    exact ⟨by rw [e]; exact Nat.le_refl _, (front_sm (b := b) (bs := []) (br := 0) (rv := nilS) (F := []) (p' := 0) _ _ p1 hz).2.1.pos⟩
  split at h
  · rename_i hop
    split at h
    · obtain ⟨x2, h2, h3⟩ := then_ok h
      obtain ⟨g1, g2⟩ := hfr _ _ _ x2 h2
      obtain ⟨z, h4, h5⟩ := then_ok h3
      have w0 := wr_count (v := (la.length : Int)) g2
      obtain ⟨l2, p2⟩ := len_next (o := 161) (by simp [places]) (by omega) w0.pos h4
      have l2 : z.2.2.length = x2.2.2.length + 1 := l2
      split at h5
      · have := (vars_wr p2 h5).pre.length_le
        omega
      · cases h5
    · split at h
      · obtain ⟨x3, h3, h⟩ := then_ok h
        obtain ⟨x2, h2, h3⟩ := then_ok h3
        obtain ⟨g1, g2⟩ := hfr _ _ _ x2 h2
        obtain ⟨n3, -⟩ := ask_next h3
        obtain ⟨l3, p3⟩ := len_next (o := 158) (by simp [places]) (by omega) g2 n3
        obtain ⟨x4, h4, h5⟩ := then_ok h
        have w4 := (list_wr p3 h4).1
        have w5 := (list_wr w4.pos h5).1
        have e4 := w4.pre.length_le
        have e5 := w5.pre.length_le
        omega
      · rename_i h15 h11
        have := (lg_parts x.1.op.toNat (by omega) (hfr _ _ _) y h).1
        omega
  · cases h
theorem head_five {x y : WS × (Nat × List UInt8)} (hx : Pos x) (h : headX (writing b wb g0 K) x = .ok y) : x.2.2.length + 5 ≤ y.2.2.length := by
  have h := (headX_then (writing b wb g0 K) x).symm.trans h
  obtain ⟨y1, h1, h⟩ := then_ok h
  obtain ⟨y2, h2, h⟩ := then_ok h
  obtain ⟨y3, h3, h⟩ := then_ok h
  obtain ⟨y4, h4, h⟩ := then_ok h
  obtain ⟨u, -, h⟩ := then_ok h
  obtain ⟨l1, p1⟩ := len_next (o := 149) (by simp [places]) (by omega) hx h1
  obtain ⟨l2, p2⟩ := len_next (o := 150) (by simp [places]) (by omega) p1 h2
  obtain ⟨l3, p3⟩ := len_next (o := 151) (by simp [places]) (by omega) p2 h3
  obtain ⟨l4, p4⟩ := len_next (o := 153) (by simp [places]) (by omega) p3 h4
  have e : y.2 = y4.2 := loc_snd h
  rw [e]
  omega
theorem over_len {room : Nat} {G : Int} {fs : List PF} {vw : Value} {y : WS × (Nat × List UInt8)} (hroom : 6 + 8 * room ≤ 1000000000000) (hc : ∀ f ∈ fs, ∀ c ∈ f.code, In64n c)
    (h : overK (writing b wb g0 K) G fs (WS.start vw, ((room, magicL) : Nat × List UInt8)) = .ok y) : Pos y ∧ 16 ≤ y.2.2.length := by
  obtain ⟨-, hF, hn1, -⟩ := over_back (br := 0) (rv := nilS) (vr := nilS) (fv := nilS) hroom hc h
  obtain ⟨x1, h1, h⟩ := then_ok h
  obtain ⟨x2, h2, h⟩ := then_ok h
  obtain ⟨x3, h3, h4⟩ := then_ok h
  have p0 : Pos (({ WS.start vw with globals := G, count := (fs.length : Nat) } : WS), ((room, magicL) : Nat × List UInt8)) := ⟨rfl, hroom⟩
  obtain ⟨l1, p1⟩ := len_next (o := 146) (by simp [places]) (by omega) p0 (ask_next h1).1
  obtain ⟨l2, p2⟩ := len_next (o := 161) (by simp [places]) (by omega) p1 (ask_next h2).1
  have l1 : x1.2.2.length = 6 + 1 := l1
  have hlh : (headsOfP fs).length = fs.length := by simp [headsOfP]
  have hhd : ∀ k : Nat, ((headsOfP fs).getD k (0, 0)).1 ≤ 255 ∧ ((headsOfP fs).getD k (0, 0)).2 ≤ 255 := fun k => by
    by_cases hk : k < fs.length
    · have e : (headsOfP fs).getD k (0, 0) = (fs[k].P.toNat, fs[k].R.toNat) := by simp [headsOfP, List.getD, hk]
      rw [e]
      obtain ⟨-, q2, q3, -⟩ := hF fs[k] (List.getElem_mem hk)
      exact ⟨by show fs[k].P.toNat ≤ 255; omega, by show fs[k].R.toNat ≤ 255; omega⟩
    · have e : (headsOfP fs).getD k (0, 0) = (0, 0) := by simp [headsOfP, List.getD, Nat.le_of_not_lt hk]
      rw [e]
      exact ⟨Nat.zero_le _, Nat.zero_le _⟩
  have hH : (headsOfP fs).length ≤ 65535 := by omega
  generalize headsOfP fs = H at h4 hH hhd
  have c1 := of_decide_eq_true (ask_next h1).2
  have g1 : x1.1.globals = G := by rw [(wr_next (b := b) (o := 146) (by simp [places]) (by omega) p0 (ask_next h1).1).1]
  have g2 : x2.1.globals = G := by rw [(wr_next (b := b) (o := 161) (by simp [places]) (by omega) p1 (ask_next h2).1).1]; exact g1
  rw [g1] at c1
  cases fs with
  | nil => simp at hn1
  | cons f r =>
    obtain ⟨a, ha, hr⟩ := then_ok h3
    obtain ⟨wa, -, -⟩ := head_sm (br := 0) (rv := nilS) (bs := []) (x := (inF f x2.1, x2.2)) p2 ha
    have l3 := head_five (x := (inF f x2.1, x2.2)) p2 ha
    have l3 : x2.2.2.length + 5 ≤ a.2.2.length := l3
    obtain ⟨wr, -, -⟩ := heads_sm (br := 0) (rv := nilS) (bs := []) wa.pos hr
    have l4 := wr.pre.length_le
    obtain ⟨z, hz, hr2⟩ := then_ok h4
    obtain ⟨-, -, -, hpos, -⟩ := hF f (by simp)
    have eg : x3.1.globals = G := by
      have e1 : a.1.globals = x2.1.globals := wa.num 146 (by simp [places]) (by omega)
      rw [wr.glob, e1, g2]
    have hF6 : ∀ f' ∈ r, HeadF f' := fun f' h' => hF f' (by simp [h'])
    have hc6 : ∀ f' ∈ r, ∀ c ∈ f'.code, In64n c := fun f' h' => hc f' (by simp [h'])
    have wz := code_wr (b := b) (x := (inF f x3.1, x3.2)) hH wr.pos hz
    have ez : z.1.globals = G := by
      have : z.1.globals = x3.1.globals := wz.num 146 (by simp [places]) (by simp)
      rw [this, eg]
    obtain ⟨⟨w5, p5⟩, -⟩ := funcs_sm (br := 0) (rv := nilS) (bs := []) hH hhd wz.pos (by rw [ez]; exact c1) hF6 hc6 hr2
    have l5 := w5.length_le
    refine ⟨p5, ?_⟩
    cases hcd : f.code with
    | nil => rw [hcd] at hpos; simp at hpos
    | cons c cs =>
      rw [hcd] at hz
      obtain ⟨a2, ha2, hcs⟩ := then_ok hz
      have l6 := instr_two (x := (inI c (inF f x3.1), x3.2)) wr.pos ha2
      have l6 : x3.2.2.length + 2 ≤ a2.2.2.length := l6
      have w7 := instr_wr (b := b) (x := (inI c (inF f x3.1), x3.2)) wr.pos hH ha2
      have l7 := (code_wr (b := b) hH w7.pos hcs).pre.length_le
      omega
end
theorem enc_dec {n R : Nat} (hR : RoomOk R) {G : Int} {fs : List PF} {y : WS × (Nat × List UInt8)} (hc : ∀ f ∈ fs, ∀ c ∈ f.code, In64n c) (h : encK n R G fs = .ok y) :
    decX y.2.2 = .ok (G, fs.map hd, fs.map (fun f => f.code.map ai)) ∧ y.2.2.length ≤ 1000000000000 ∧ 16 ≤ y.2.2.length := by
  have h : overK (writing (n + 4) (n + 2) (n + 1) (n + 8)) G fs (WS.start (writerFn (n + 2)), ((R, magicL) : Nat × List UInt8)) = .ok y := h
  obtain ⟨h1, -⟩ := over_back (br := 0) (rv := nilS) (vr := nilS) (fv := nilS) hR.2 hc h
  obtain ⟨p, l⟩ := over_len hR.2 hc h
  exact ⟨h1, by have := p.2; omega, l⟩
theorem dec_cut {bs : List UInt8} {P : Int × List HD × List (List AI)} (hL : bs.length ≤ 1000000000000000) (h : decX bs = .ok P) (k : Nat) (hk : k < bs.length) : decX (bs.take k) = .error (11, k) :=
  through_cut hL rfl rfl h k hk
theorem dec_more {bs more : List UInt8} {P : Int × List HD × List (List AI)} (hL : bs.length ≤ 1000000000000000) (hL' : (bs ++ more).length ≤ 1000000000000000) (h : decX bs = .ok P) : decX (bs ++ more) = if more = [] then .ok P else .error (22, bs.length) :=
  through_more hL hL' rfl rfl h
set_option maxRecDepth 100000
set_option maxHeartbeats 1000000
theorem run_empty_string (w : World) (a : Option Addr) (c : Nat) : (convert 22 9 (.slice a 0 c)).run Tryd.prog w = .ok (.string ⟨#[]⟩) w := by
  rw [run_convert_bytes_string w 22 9 5 _ _ _ Tryd.underlying22 (by kernel_rfl) (by kernel_rfl)]
  cases a <;> rfl
theorem begins_empty (k o c : Nat) (w : World) :
    Calls Tryd.prog 60 #[.agg #[.slice (some ⟨k, o, none⟩) 0 c]] w fun e w' => e = .returned (.tuple #[]) ∧ w' = (w.alloc (.cells #[.slice (some ⟨k, o, none⟩) 0 c] 45)).drew := by
  have hcv := run_empty_string
  have hc0 : (0 : Int) ≤ c := by omega
  go_enter Tryd.func60, Tryd.ntmps60
  go_wp2_with fail
  have hcr : (w.alloc (.cells #[.slice (some ⟨k, o, none⟩) 0 c] 45)).cell? ⟨w.heap.size, 0, none⟩ = some (.slice (some ⟨k, o, none⟩) 0 c) := by simp
  generalize hwa : (w.alloc (.cells #[.slice (some ⟨k, o, none⟩) 0 c] 45)) = wa at hcr ⊢
  have Hwa : Hd (w.alloc (.cells #[.slice (some ⟨k, o, none⟩) 0 c] 45) = wa) := hwa
  clear hwa
  refine wp_region_still_tail 8 mixed (by kernel_rfl) ?_
  simp only [List.take_succ_cons, List.take_zero, List.drop_succ_cons, List.drop_zero]
  repeat still_step
  refine wpStill_nil ?_
  go_wp2_with fail
  refine (must_true 10 0 _).mono ?_
  rintro e w' ⟨rfl, rfl⟩
  go_wp2_with fail
  go_end0
  exact ⟨rfl, by rw [Hwa.out]⟩
theorem decode_empty (k o c : Nat) (w : World) (hk : k < w.heap.size) (hT : Tab w) (h0 : 0 < w.heap.size) :
    Calls Tryd.prog 10 #[.slice (some ⟨k, o, none⟩) 0 c] w (DecEnds w []) := by
  obtain ⟨rv, hrv⟩ : ∃ rv, rv = Value.slice (some ⟨k, o, none⟩) 0 c := ⟨_, rfl⟩
  rw [← hrv]
  have hL : ([] : List UInt8).length ≤ 1000000000000000 := by simp
  have hsz := startW_size w rv
  have hsf := startW_fr w rv
  obtain ⟨s0, s3, s5, s6⟩ := startW_at w rv
  have hBO : BytesOf (w.heap.size + 3) (startW w rv) rv [] := ⟨hL, some ⟨k, o, none⟩, c, hrv, by simp, fun h => absurd rfl h⟩
  have hon : On (reading (w.heap.size + 3) rv []) (startW w rv) (WS.start (readerFn rv), ()) :=
    ⟨s3, rfl, hBO, by show (0 : Int) ≤ 6; omega, by show (6 : Int) ≤ _; omega, by omega, hT.fr hsf (fun h => h)⟩
  have hU : Under (w.heap.size + 3) rv (startW w rv).heap.size := ⟨by omega, by omega, fun k' o' n' c' e hne => by
    rw [hrv] at e; cases e; exact absurd rfl hne⟩
  have hbeg : ∀ w1, Fr (fun k => k = w.heap.size + 3) (startW w rv) w1 → Calls Tryd.prog 60 #[.agg #[rv]] w1 fun e w' => (if ([] : List UInt8).take 6 = magicL.take ([] : List UInt8).length then e = .returned (.tuple #[]) else e = .panicked (viol 10 0)) ∧ w' = (w1.alloc (.cells #[rv] 45)).drew := by
    intro w1 hf1
    rw [hrv]
    refine (begins_empty k o c w1).mono ?_
    rintro e w' ⟨h3, h4⟩
    exact ⟨by rw [if_pos (by simp)]; exact h3, h4⟩
  have ht := through_said (w.heap.size + 3) rv [] (WS.start (readerFn rv)) (startW w rv) hon hU rfl hbeg (some ⟨k, o, none⟩) 0 c hrv
  subst hrv
  clear hbeg hon hU hBO
  have hsp : ∀ w0, Fr (fun k => k = w.heap.size + 3) (startW w (.slice (some ⟨k, o, none⟩) 0 c)) w0 → Spared w.heap.size w0 ∧ (∃ u0 u1, w0.cell? ⟨w.heap.size + 5, 0, none⟩ = some u0 ∧ w0.cell? ⟨w.heap.size + 5, 1, none⟩ = some u1) ∧ ∀ o, w0.frozen? ⟨w.heap.size + 5, o, none⟩ = false := by
    intro w0 hf
    have e0 : w0.heap[w.heap.size]? = some (.cells #[vI 0, .slice none 0 0] 26) := by rw [hf.block _ (by omega) (by omega)]; exact s0
    have e5 : w0.heap[w.heap.size + 5]? = some (.cells #[vI 0, .slice none 0 0] 26) := by rw [hf.block _ (by omega) (by omega)]; exact s5
    have e6 : w0.heap[w.heap.size + 6]? = some (.cells #[vI 0, vI 0] 50) := by rw [hf.block _ (by omega) (by omega)]; exact s6
    refine ⟨⟨e0, ?_, ?_, ?_⟩, ⟨vI 0, .slice none 0 0, ?_, ?_⟩, ?_⟩
    · unfold World.cell?; simp [e6]
    · unfold World.cell?; simp [e6]
    · intro o; unfold World.frozen?; simp [e6]
    · unfold World.cell?; simp [e5]
    · unfold World.cell?; simp [e5]
    · intro o; unfold World.frozen?; simp [e5]
  have hd0 : decX [] = .error (11, 0) := by kernel_rfl
  refine (decode_any (some ⟨k, o, none⟩) 0 c w
    (fun G a n c' w0 => False)
    (fun er at' w0 => Fr (fun k => k = w.heap.size + 3) (startW w (.slice (some ⟨k, o, none⟩) 0 c)) w0 ∧ decX [] = .error (er, at'))
    (fun G a n c w0 h => h.elim) (fun er at' w0 h => ⟨decX_told hL h.2, (hsp w0 h.1).1⟩) ?_).mono ?_
  · refine ht.mono ?_
    rintro e w0 ⟨hf, fv, hr⟩
    rw [decX_eq hL, hd0] at hr
    exact Or.inr ⟨11, 0, hr, hf, hd0⟩
  · have hfin : ∀ w0 w', Fr (fun k => k = w.heap.size + 3) (startW w (.slice (some ⟨k, o, none⟩) 0 c)) w0 → Fr (fun k => w.heap.size ≤ k ∧ k < w.heap.size + 7) w0 w' → Fr (fun _ => False) w w' := by
      intro w0 w' f1 f2
      have h1 : Fr (fun k => w.heap.size ≤ k) w w' := ((hsf.mono (fun _ _ h => h.elim)).trans (f1.mono (fun k _ hk => by omega))).trans (f2.mono (fun k _ hk => hk.1))
      exact h1.mono (fun k hk hS => by omega)
    rintro e w' (⟨G, a, l, c', w0, hfls, rfl, hf'⟩ | ⟨er, at', w0, ⟨hf, hd⟩, rfl, hf'⟩)
    · exact hfls.elim
    · refine ⟨hfin w0 w' hf hf', ?_⟩
      rw [hd]
theorem decode_cut (k o n c : Nat) (bs : List UInt8) (w : World) (hn : n ≤ bs.length) (hL : bs.length ≤ 1000000000000000) (hc : bs.length ≤ c) (hk : k < w.heap.size) (hcell : ∀ i, (h : i < bs.length) → w.cell? ⟨k, o + i, none⟩ = some (.int .u8 bs[i].toNat)) (hT : Tab w) (h0 : 0 < w.heap.size) :
    Calls Tryd.prog 10 #[.slice (some ⟨k, o, none⟩) n c] w (DecEnds w (bs.take n)) := by
  have hl : (bs.take n).length = n := by rw [List.length_take]; omega
  rcases Nat.eq_zero_or_pos n with rfl | hp
  · exact decode_empty k o c w hk hT h0
  · refine decode_said _ _ w ⟨by omega, Or.inr ⟨fun e => by rw [e] at hl; simp at hl; omega, k, o, c, by rw [hl], by omega, hk, fun i hi => ?_⟩⟩ hT h0
    rw [hl] at hi
    rw [hcell i (by omega)]
    simp
set_option maxRecDepth 100000
set_option maxHeartbeats 1000000
theorem dec_least : decX leastB = .ok (0, [⟨0, 0, 0, 1⟩], [[⟨15, 0, 0, 0, 0, [], []⟩]]) := by kernel_rfl
theorem eqInts_nil (a a' : Option Addr) (c c' : Nat) (w : World) : Calls Tryd.prog 105 #[.slice a 0 c, .slice a' 0 c'] w fun e w' => e = .returned (.bool true) ∧ w' = w := by
  go_enter Tryd.func105, Tryd.ntmps105
  go_wp2_with fail
  go_loopw [5] (fun i wr => i = .int .i64 0 ∧ wr = w) (fun _ _ => 0)
  case atStart => exact ⟨rfl, rfl⟩
  case round =>
    obtain ⟨rfl, rfl⟩ := hrel
    go_wp2_with fail
    go_ret
    exact ⟨rfl, rfl⟩
theorem eqInstr_1 (a5 a6 b5 b6 : Option Addr) (c5 c6 d5 d6 : Nat) (w : World) : Calls Tryd.prog 102 #[.agg #[vI 15, vI 0, vI 0, vI 0, vI 0, .slice a5 0 c5, .slice a6 0 c6], .agg #[vI 15, vI 0, vI 0, vI 0, vI 0, .slice b5 0 d5, .slice b6 0 d6]] w fun e w' => e = .returned (.bool true) ∧ Fr (fun _ => False) w w' := by
  go_enter Tryd.func102, Tryd.ntmps102
  go_wp2_with fail
  refine (eqInts_nil _ _ _ _ _).mono ?_
  rintro e w1 ⟨rfl, rfl⟩
  go_wp2_with fail
  refine (eqInts_nil _ _ _ _ _).mono ?_
  rintro e w1 ⟨rfl, rfl⟩
  go_wp2_with fail
  go_ret
  exact ⟨rfl, Fr.alloc (Fr.alloc (Fr.refl _ w) _) _⟩
structure Lay1 (w : World) (v : Value) (fb cb : Nat) (fc cc : Nat) : Prop where
  val : v = .agg #[vI 0, .slice (some ⟨fb, 0, none⟩) 1 fc]
  f : w.cell? ⟨fb, 0, none⟩ = some (vI 0) ∧ w.cell? ⟨fb, 1, none⟩ = some (vI 0) ∧ w.cell? ⟨fb, 2, none⟩ = some (vI 0) ∧ w.cell? ⟨fb, 3, none⟩ = some (.slice (some ⟨cb, 0, none⟩) 1 cc)
  c : w.cell? ⟨cb, 0, none⟩ = some (vI 15) ∧ w.cell? ⟨cb, 1, none⟩ = some (vI 0) ∧ w.cell? ⟨cb, 2, none⟩ = some (vI 0) ∧ w.cell? ⟨cb, 3, none⟩ = some (vI 0) ∧ w.cell? ⟨cb, 4, none⟩ = some (vI 0) ∧
    (∃ a n, w.cell? ⟨cb, 5, none⟩ = some (.slice a 0 n)) ∧ ∃ a n, w.cell? ⟨cb, 6, none⟩ = some (.slice a 0 n)
theorem Lay1.fr {w w' : World} {v : Value} {fb cb fc cc : Nat} (h : Lay1 w v fb cb fc cc) (f : Fr (fun _ => False) w w') : Lay1 w' v fb cb fc cc := by
  have h1 := cell_lt h.f.1
  have h2 := cell_lt h.c.1
  have e1 : ∀ o, w'.cell? ⟨fb, o, none⟩ = w.cell? ⟨fb, o, none⟩ := fun o => f.cell h1 (fun h => h)
  have e2 : ∀ o, w'.cell? ⟨cb, o, none⟩ = w.cell? ⟨cb, o, none⟩ := fun o => f.cell h2 (fun h => h)
  exact ⟨h.val, by simp only [e1]; exact h.f, by simp only [e2]; exact h.c⟩
theorem eqCode_1 (w : World) (v v' : Value) (fb cb fc cc fb' cb' fc' cc' : Nat) (h : Lay1 w v fb cb fc cc) (h' : Lay1 w v' fb' cb' fc' cc') :
    Calls Tryd.prog 95 #[.slice (some ⟨cb, 0, none⟩) 1 cc, .slice (some ⟨cb', 0, none⟩) 1 cc'] w fun e w' => e = .returned (.bool true) ∧ Fr (fun _ => False) w w' := by
  go_enter Tryd.func95, Tryd.ntmps95
  go_wp2_with fail
  go_loopw [5] (fun i wr => Fr (fun _ => False) w wr ∧ (i = .int .i64 0 ∨ i = .int .i64 1)) (fun i _ => match i with | .int _ q => 1 - q.toNat | _ => 0)
  case atStart => exact ⟨Fr.refl _ _, Or.inl rfl⟩
  case round =>
    obtain ⟨hfr, rfl | rfl⟩ := hrel
    · have hr := h.fr hfr
      have hr' := h'.fr hfr
      obtain ⟨a0, a1, a2, a3, a4, ⟨p5, n5, a5⟩, p6, n6, a6⟩ := hr.c
      obtain ⟨b0, b1, b2, b3, b4, ⟨q5, m5, b5⟩, q6, m6, b6⟩ := hr'.c
      have hx := eqInstr_1 p5 p6 q5 q6 n5 n6 m5 m6 wr.drew
      clear hr hr'
      go_wp2_with fail
      refine wp_region_still_tail 8 mixed (by kernel_rfl) ?_
      simp only [List.take_succ_cons, List.take_zero, List.drop_succ_cons, List.drop_zero]
      repeat still_step
      refine wpStill_nil ?_
      go_wp2_with fail
      refine hx.mono ?_
      rintro e w1 ⟨rfl, hf⟩
      clear hx
      go_wp2_with fail
      exact ⟨⟨hfr.drew.trans hf, Or.inr (by simp)⟩, by simp⟩
    · go_wp2_with fail
      go_ret
      exact ⟨rfl, hfr⟩
theorem eqFunc_1 (w : World) (v v' : Value) (fb cb fc cc fb' cb' fc' cc' : Nat) (h : Lay1 w v fb cb fc cc) (h' : Lay1 w v' fb' cb' fc' cc') :
    Calls Tryd.prog 67 #[.agg #[vI 0, vI 0, vI 0, .slice (some ⟨cb, 0, none⟩) 1 cc], .agg #[vI 0, vI 0, vI 0, .slice (some ⟨cb', 0, none⟩) 1 cc']] w fun e w' => e = .returned (.bool true) ∧ Fr (fun _ => False) w w' := by
  have hx := eqCode_1 ((w.alloc (.cells #[vI 0, vI 0, vI 0, .slice (some ⟨cb, 0, none⟩) 1 cc] 67)).alloc (.cells #[vI 0, vI 0, vI 0, .slice (some ⟨cb', 0, none⟩) 1 cc'] 67)) v v' fb cb fc cc fb' cb' fc' cc' (h.fr (Fr.alloc (Fr.alloc (Fr.refl _ w) _) _)) (h'.fr (Fr.alloc (Fr.alloc (Fr.refl _ w) _) _))
  go_enter Tryd.func67, Tryd.ntmps67
  go_wp2_with fail
  refine hx.mono ?_
  rintro e w1 ⟨rfl, hf⟩
  go_wp2_with fail
  go_ret
  exact ⟨rfl, (Fr.alloc (Fr.alloc (Fr.refl _ w) _) _).trans hf⟩
theorem eqFuncs_1 (w : World) (v v' : Value) (fb cb fc cc fb' cb' fc' cc' : Nat) (h : Lay1 w v fb cb fc cc) (h' : Lay1 w v' fb' cb' fc' cc') :
    Calls Tryd.prog 40 #[.slice (some ⟨fb, 0, none⟩) 1 fc, .slice (some ⟨fb', 0, none⟩) 1 fc'] w fun e w' => e = .returned (.bool true) ∧ Fr (fun _ => False) w w' := by
  go_enter Tryd.func40, Tryd.ntmps40
  go_wp2_with fail
  go_loopw [5] (fun i wr => Fr (fun _ => False) w wr ∧ (i = .int .i64 0 ∨ i = .int .i64 1)) (fun i _ => match i with | .int _ q => 1 - q.toNat | _ => 0)
  case atStart => exact ⟨Fr.refl _ _, Or.inl rfl⟩
  case round =>
    obtain ⟨hfr, rfl | rfl⟩ := hrel
    · have hr := h.fr hfr
      have hr' := h'.fr hfr
      obtain ⟨a0, a1, a2, a3⟩ := hr.f
      obtain ⟨b0, b1, b2, b3⟩ := hr'.f
      have hx := eqFunc_1 wr.drew v v' fb cb fc cc fb' cb' fc' cc' (hr.fr (Fr.refl _ _).drew) (hr'.fr (Fr.refl _ _).drew)
      clear hr hr'
      go_wp2_with fail
      refine wp_region_still_tail 8 mixed (by kernel_rfl) ?_
      simp only [List.take_succ_cons, List.take_zero, List.drop_succ_cons, List.drop_zero]
      repeat still_step
      refine wpStill_nil ?_
      go_wp2_with fail
      refine hx.mono ?_
      rintro e w1 ⟨rfl, hf⟩
      clear hx
      go_wp2_with fail
      exact ⟨⟨hfr.drew.trans hf, Or.inr (by simp)⟩, by simp⟩
    · go_wp2_with fail
      go_ret
      exact ⟨rfl, hfr⟩
theorem eqProgram_1 (w : World) (v v' : Value) (fb cb fc cc fb' cb' fc' cc' : Nat) (h : Lay1 w v fb cb fc cc) (h' : Lay1 w v' fb' cb' fc' cc') :
    Calls Tryd.prog 15 #[v, v'] w fun e w' => e = .returned (.bool true) ∧ Fr (fun _ => False) w w' := by
  have hx := eqFuncs_1 ((w.alloc (.cells #[vI 0, .slice (some ⟨fb, 0, none⟩) 1 fc] 26)).alloc (.cells #[vI 0, .slice (some ⟨fb', 0, none⟩) 1 fc'] 26)) v v' fb cb fc cc fb' cb' fc' cc' (h.fr (Fr.alloc (Fr.alloc (Fr.refl _ w) _) _)) (h'.fr (Fr.alloc (Fr.alloc (Fr.refl _ w) _) _))
  obtain ⟨rfl, -, -⟩ := h
  obtain ⟨rfl, -, -⟩ := h'
  go_enter Tryd.func15, Tryd.ntmps15
  go_wp2_with fail
  refine hx.mono ?_
  rintro e w1 ⟨rfl, hf⟩
  go_wp2_with fail
  go_ret
  exact ⟨rfl, (Fr.alloc (Fr.alloc (Fr.refl _ w) _) _).trans hf⟩
theorem Least.lay {w : World} {fb cb : Nat} (h : Least w fb cb) : Lay1 w (.agg #[vI 0, .slice (some ⟨fb, 0, none⟩) 1 1]) fb cb 1 1 := by
  obtain ⟨k0, k1, k2, k3, -⟩ := least_cells h
  obtain ⟨c0, c1, c2, c3, c4, c5, c6, -⟩ := least_code h
  exact ⟨rfl, ⟨k0, k1, k2, k3⟩, ⟨c0, c1, c2, c3, c4, ⟨_, _, c5⟩, _, _, c6⟩⟩
theorem LaidP.lay {w0 w : World} {v : Value} (h : LaidP w0 w v 0 [⟨0, 0, 0, 1⟩] [[⟨15, 0, 0, 0, 0, [], []⟩]]) : ∃ fb cb fc cc, Lay1 w v fb cb fc cc := by
  obtain ⟨g, cap, cs, tl, h1, h2, h3, h4, h5, h6, h7, h8, h9⟩ := h
  match cs, h3, h8 with
  | [c], _, h8 =>
    obtain ⟨⟨gc, cells, k1, k2, k3, av, rv, rest, k4, k5, k6, k7⟩, -⟩ := h8
    rw [show rest = [] from k7] at k4
    have e5 : ∃ a n, av = .slice a 0 n := by
      rcases k5 with ⟨-, e⟩ | ⟨g', -, e, h'⟩
      · exact ⟨none, 0, e⟩
      · exact ⟨_, _, e⟩
    have e6 : ∃ a n, rv = .slice a 0 n := by
      rcases k6 with ⟨-, e⟩ | ⟨g', -, e, h'⟩
      · exact ⟨none, 0, e⟩
      · exact ⟨_, _, e⟩
    obtain ⟨p5, n5, rfl⟩ := e5
    obtain ⟨p6, n6, rfl⟩ := e6
    subst k4 k2
    refine ⟨g, gc, cap, 1, h2, ?_, ?_⟩
    · refine ⟨?_, ?_, ?_, ?_⟩ <;> (unfold World.cell?; simp [h7, funcCells])
    · refine ⟨?_, ?_, ?_, ?_, ?_, ⟨p5, n5, ?_⟩, p6, n6, ?_⟩ <;> (unfold World.cell?; simp [k3])
end Go.Proofs.YtingenonbkencaaDoor
