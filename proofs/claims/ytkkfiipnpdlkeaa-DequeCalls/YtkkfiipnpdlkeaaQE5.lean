import Derived.Test.YtkkfiipnpdlkeaaQE4
namespace Go.Proofs.Ytkkfiipnpdlkeaa
open Go.RowKit (wrap32 wrap64)
open Go.MuLone
set_option linter.unusedVariables false
set_option linter.unusedSimpArgs false

abbrev OpT := Int × Int × Int
/-- Calls as they lie. -/
def OpsAt (w : World) (B : Nat) (v : Value) (ops : List OpT) : Prop :=
  ∃ a cp, v = .slice a ops.length cp ∧ (ops ≠ [] → ∃ k o, a = some ⟨k, o, none⟩ ∧ k < B ∧ ∀ j (h : j < ops.length), w.cell? ⟨k, o + j * 3, none⟩ = some (vI ops[j].1) ∧ w.cell? ⟨k, o + j * 3 + 1, none⟩ = some (vI ops[j].2.1) ∧ w.cell? ⟨k, o + j * 3 + 2, none⟩ = some (vI ops[j].2.2))

theorem cs_new {w0 w1 w2 w3 w5 w6 : World} {N : Nat} (d0 : DN w0 w2 w1.heap.size [] N w1.heap.size) (f2 : Fr (fun _ => False) w0 w2) (d1 : DN w0 w3 w2.heap.size [] N w2.heap.size) (f3 : Fr (fun _ => False) w2 w3)
    (r5 : Rf w5 w0.heap.size (w3.heap.size + 1) (.slice none 0 0) []) (f5 : Fr (fun _ => False) (w3.alloc (.cells #[pP w1.heap.size, pP w2.heap.size] 23)) w5)
    (r6 : Rf w6 w0.heap.size w5.heap.size (.slice none 0 0) []) (f6 : Fr (fun _ => False) w5 w6) :
    Cs w0 (w6.alloc (.cells #[pP (w3.heap.size + 1), pP w5.heap.size] 36)) N w3.heap.size w6.heap.size 0 ⟨w1.heap.size, w1.heap.size, w3.heap.size + 1, .slice none 0 0, []⟩ ⟨w2.heap.size, w2.heap.size, w5.heap.size, .slice none 0 0, []⟩ := by
  have e1 := d0.dq.blt
  have e2 := d1.dq.blt
  have e3 : (w3.alloc (.cells #[pP w1.heap.size, pP w2.heap.size] 23)).heap.size = w3.heap.size + 1 := by simp
  have e5 := heap_lt r5.obj
  have e6 := heap_lt r6.obj
  have e0 := d0.nb
  have F5 : Fr (fun _ => False) w3 w5 := ((Fr.refl _ w3).alloc _).trans f5
  have F7 : Fr (fun _ => False) w5 (w6.alloc (.cells #[pP (w3.heap.size + 1), pP w5.heap.size] 36)) := f6.trans ((Fr.refl _ w6).alloc _)
  have G7 : Fr (fun _ => False) w6 (w6.alloc (.cells #[pP (w3.heap.size + 1), pP w5.heap.size] 36)) := (Fr.refl _ w6).alloc _
  have F0 : Fr (fun _ => False) w0 (w6.alloc (.cells #[pP (w3.heap.size + 1), pP w5.heap.size] 36)) := ((f2.trans f3).trans F5).trans F7
  refine ⟨⟨(d0.fr f3 (fun h => h) (fun h => h)).fr (F5.trans F7) (fun h => h) (fun h => h), r5.fr F7 (fun h => h) (fun _ _ h => h), by show w0.heap.size ≤ w3.heap.size + 1; omega, ⟨⟨by show w3.heap.size + 1 ≠ w1.heap.size; omega, by show w3.heap.size + 1 ≠ w1.heap.size; omega⟩, fun k e => by cases e⟩, F0⟩,
    ⟨d1.fr (F5.trans F7) (fun h => h) (fun h => h), r6.fr G7 (fun h => h) (fun _ _ h => h), by show w0.heap.size ≤ w5.heap.size; omega, ⟨⟨by show w5.heap.size ≠ w2.heap.size; omega, by show w5.heap.size ≠ w2.heap.size; omega⟩, fun k e => by cases e⟩, F0⟩, fun j a b => ?_, ?_, ?_, by omega, fun j hj => ?_, ⟨by omega, by omega⟩⟩
  · rcases a with a | a | a | a
    · rcases b with b | b | b | b
      · simp only at a b; omega
      · simp only at a b; omega
      · simp only at a b; omega
      · cases b
    · rcases b with b | b | b | b
      · simp only at a b; omega
      · simp only at a b; omega
      · simp only at a b; omega
      · cases b
    · rcases b with b | b | b | b
      · simp only at a b; omega
      · simp only at a b; omega
      · simp only at a b; omega
      · cases b
    · cases a
  · rw [F7.block _ (by omega) (fun h => h), f5.block _ (by omega) (fun h => h)]
    exact heap_alloc_last _ _
  · exact heap_alloc_last _ _
  · rcases hj with a | a
    · rcases a with a | a | a | a
      · simp only at a; omega
      · simp only at a; omega
      · simp only at a; omega
      · cases a
    · rcases a with a | a | a | a
      · simp only at a; omega
      · simp only at a; omega
      · simp only at a; omega
      · cases a

/-- How long the slice at a cell is. -/
def lenAt (w : World) (c : Nat) : Nat := match w.cell? ⟨c, 0, none⟩ with | some (.slice _ l _) => l | _ => 0
theorem Cs.lenAt {w0 w : World} {N kd kr k : Nat} {P Q : PD} (h : Cs w0 w N kd kr k P Q) : lenAt w P.c = P.xs.length := by
  obtain ⟨a, cap, e, -⟩ := h.p.r.s.len
  unfold Go.Proofs.Ytkkfiipnpdlkeaa.lenAt
  rw [cell_of h.p.r.obj]
  simp [e]
theorem Cs.flen {w0 w : World} {N kd kr k : Nat} {P Q : PD} (h : Cs w0 w N kd kr k P Q) : Calls Try.prog 17 #[pP P.c] w fun e w' => e = .returned (vI P.xs.length) ∧ w' = w := h.p.flen
theorem Cs.len {w0 w : World} {N kd kr k : Nat} {P Q : PD} (h : Cs w0 w N kd kr k P Q) : Calls Try.prog 11 #[pP P.b] w fun e w' => e = .returned (vI P.xs.length) ∧ Cs w0 w' N kd kr k P Q := by
  refine h.p.len.mono ?_
  rintro _ w' ⟨rfl, hp, hs⟩
  have hlt := h.lt
  exact ⟨rfl, hp, h.q.frame hs.fr (fun j hq hp => h.ap j hp hq) hp.fr, h.ap, (hs.fr.block kd hlt.1 (fun e => (h.nd kd (Or.inl e)).1 rfl)).trans h.cd, (hs.fr.block kr hlt.2 (fun e => (h.nd kr (Or.inl e)).2 rfl)).trans h.cr, h.ne, h.nd, h.ld⟩

set_option maxRecDepth 100000 in
set_option maxHeartbeats 8000000 in
theorem calls_any (v : Value) (ops : List OpT) (w : World) (hv : OpsAt w w.heap.size v ops) (hl : ops.length ≤ 17592186043904) :
    Calls Try.prog 6 #[v] w fun e w' => e = .returned (.bool true) ∧ Fr (fun _ => False) w w' := by
  obtain ⟨a, cp, rfl, hc⟩ := hv
  have HC : Hd (ops ≠ [] → ∃ k o, a = some ⟨k, o, none⟩ ∧ k < w.heap.size ∧ ∀ j (h : j < ops.length), w.cell? ⟨k, o + j * 3, none⟩ = some (vI ops[j].1) ∧ w.cell? ⟨k, o + j * 3 + 1, none⟩ = some (vI ops[j].2.1) ∧ w.cell? ⟨k, o + j * 3 + 2, none⟩ = some (vI ops[j].2.2)) := hc
  obtain ⟨N, hN⟩ : ∃ N, N = 2 * ops.length + 2 := ⟨_, rfl⟩
  have HN : Hd (N = 2 * ops.length + 2) := hN
  have HN1 : Hd (N ≤ 35184372088832) := by show N ≤ _; omega
  obtain ⟨n, hn⟩ : ∃ n, n = ops.length := ⟨_, rfl⟩
  have HZ : Hd (n = ops.length) := hn
  have HL : Hd (ops.length ≤ 17592186043904) := hl
  rw [← hn]
  clear hc hN hn hl
  have HW : Hd (Calls Try.prog 7 #[] w fun e w' => e = .returned (.bool true) ∧ Fr (fun _ => False) w w') := fixed_any w
  go_enter Try.func6, Try.ntmps6
  go_wp2_with fail
  refine HW.out.mono ?_
  rintro _ w1 ⟨rfl, F1⟩
  go_wp2_with fail
  refine (new_dn w w1 F1 N).mono ?_
  rintro _ w2 ⟨rfl, D2, -, F2⟩
  go_wp2_with fail
  refine (new_dn w w2 F2 N).mono ?_
  rintro _ w3 ⟨rfl, D3, F3, -⟩
  go_wp2_with fail
  refine (fnew_any _ w.heap.size).mono ?_
  rintro _ w5 ⟨rfl, R5, F5⟩
  go_wp2_with fail
  refine (fnew_any _ w.heap.size).mono ?_
  rintro _ w6 ⟨rfl, R6, F6⟩
  go_wp2_with fail
  have R5' : Rf w5 w.heap.size (w3.heap.size + 1) (.slice none 0 0) [] := by simpa using R5
  have hC := cs_new D2 F2 D3 F3 R5' F5 R6 F6
  obtain ⟨w7, hw7⟩ : ∃ w7, w7 = w6.alloc (.cells #[pP (w3.heap.size + 1), pP w5.heap.size] 36) := ⟨_, rfl⟩
  rw [← hw7] at hC ⊢
  obtain ⟨kd, hkd⟩ : ∃ k, k = w3.heap.size := ⟨_, rfl⟩
  obtain ⟨kr, hkr⟩ : ∃ k, k = w6.heap.size := ⟨_, rfl⟩
  rw [← hkd, ← hkr] at hC ⊢
  have H0 : Hd (∃ P Q : PD, P.xs = [] ∧ Q.xs = [] ∧ Cs w w7 N kd kr 0 P Q) := ⟨_, _, rfl, rfl, hC⟩
  clear hC hw7 D2 F2 D3 F3 R5 R5' F5 R6 F6 F1 HW
  obtain ⟨b0, hb0⟩ : ∃ k, k = w1.heap.size := ⟨_, rfl⟩
  obtain ⟨b1, hb1⟩ : ∃ k, k = w2.heap.size := ⟨_, rfl⟩
  obtain ⟨c1, hc1⟩ : ∃ k, k = w5.heap.size := ⟨_, rfl⟩
  rw [← hb0, ← hb1, ← hc1]
  clear hb0 hb1 hc1 hkd hkr
  go_loopw [3, 6] (fun o v wr => o = .bool true ∧ ∃ (i : Nat) (P Q : PD), v = .int .i64 i ∧ i ≤ n ∧ P.xs.length ≤ i ∧ Q.xs.length ≤ i ∧ Hd (Cs w wr N kd kr 0 P Q)) (fun _ v _ => match v with | .int _ q => n - q.toNat | _ => 0)
  case atStart =>
    obtain ⟨P, Q, hp, hq, hC⟩ := H0.out
    exact ⟨rfl, 0, P, Q, rfl, by omega, by rw [hp]; simp, by rw [hq]; simp, hC⟩
  case round =>
    obtain ⟨rfl, i, P, Q, rfl, hi, hp, hq, H⟩ := hrel
    clear H0
    by_cases hlt : i < n
    · have hlt' : (i : Int) < n := by omega
      have hltd : decide (i < n) = true := by simpa using hlt
      have h0 : (0 : Int) ≤ i := by omega
      have hz := HZ.out
      have hll := HL.out
      have hw : wrap64 ((i : Int) + 1) = ((i + 1 : Nat) : Int) := by rw [w64 (by omega) (by omega)]; omega
      have hzl : i < ops.length := by omega
      obtain ⟨sk, so, rfl, hk, hcell⟩ := HC.out (by rintro rfl; simp at hzl)
      obtain ⟨hc0, hc1, hc2⟩ := hcell i hzl
      obtain ⟨kn, hkn⟩ : ∃ z, z = ops[i].1 := ⟨_, rfl⟩
      obtain ⟨on, hon⟩ : ∃ z, z = ops[i].2.1 := ⟨_, rfl⟩
      obtain ⟨tk, htk⟩ : ∃ z, z = ops[i].2.2 := ⟨_, rfl⟩
      rw [← hkn] at hc0
      rw [← hon] at hc1
      rw [← htk] at hc2
      obtain ⟨k, hkk⟩ : ∃ k : Nat, on % 2 = k := ⟨(on % 2).toNat, by omega⟩
      have hk2 : k < 2 := by omega
      have hba : bits .and .i64 on 1 = (k : Int) := by rw [and_one, hkk]
      have k0 : (0 : Int) ≤ k := by omega
      have k1 : (k : Int) < 2 := by omega
      have HKK : Hd (k < 2) := hk2
      have HS : Hd (∀ w', Fr (fun _ => False) w w' → w'.cell? ⟨sk, so + i * 3, none⟩ = some (vI kn) ∧ w'.cell? ⟨sk, so + i * 3 + 1, none⟩ = some (vI on) ∧ w'.cell? ⟨sk, so + i * 3 + 2, none⟩ = some (vI tk)) := fun w' f =>
        ⟨(f.cell hk (fun h => h)).trans hc0, (f.cell hk (fun h => h)).trans hc1, (f.cell hk (fun h => h)).trans hc2⟩
      have HNB : Hd (2 * i + 2 ≤ N) := by have := HN.out; show 2 * i + 2 ≤ N; omega
      -- the pair that is called, and the other
      obtain ⟨P', Q', hp', hq', HC1⟩ : ∃ P' Q' : PD, P'.xs.length ≤ i ∧ Q'.xs.length ≤ i ∧ Hd (Cs w wr N kd kr k P' Q') := by
        rcases Nat.lt_or_ge k 1 with hk | hk
        · obtain rfl : k = 0 := by omega
          exact ⟨P, Q, hp, hq, H⟩
        · obtain rfl : k = 1 := by omega
          exact ⟨Q, P, hq, hp, H.out.symm (by omega)⟩
      have HBK : Hd (∀ (w' : World) (P2 : PD), Cs w w' N kd kr k P2 Q' → P2.xs.length ≤ i + 1 → ∃ P3 Q3 : PD, P3.xs.length ≤ i + 1 ∧ Q3.xs.length ≤ i + 1 ∧ Cs w w' N kd kr 0 P3 Q3) := by
        intro w' P2 h2 hl2
        rcases Nat.lt_or_ge k 1 with hk | hk
        · obtain rfl : k = 0 := by omega
          exact ⟨P2, Q', hl2, by omega, h2⟩
        · obtain rfl : k = 1 := by omega
          exact ⟨Q', P2, by omega, hl2, h2.symm (by omega)⟩
      have HDO : Hd (∀ (w' : World) (P2 : PD), Cs w w' N kd kr k P2 Q' → P2.xs.length ≤ i → Calls Try.prog 16 #[pP P2.b, pP P2.c, .agg #[vI kn, vI on, vI tk]] w' fun e w'' => e = .returned (.bool true) ∧ ∃ P3 Q3 : PD, P3.xs.length ≤ i + 1 ∧ Q3.xs.length ≤ i + 1 ∧ Cs w w'' N kd kr 0 P3 Q3) := by
        intro w' P2 h2 hl2
        refine (h2.does kn on tk (by have := HNB.out; omega) HN1.out).mono ?_
        rintro _ w'' ⟨rfl, P3, h3, -, -, hx3⟩
        exact ⟨rfl, HBK.out w'' P3 h3 (by rw [hx3]; have := doX_len kn tk P2.xs; omega)⟩
      obtain ⟨s0, s1, s2⟩ := HS.out wr HC1.out.p.fr
      obtain ⟨x0, x1, x2, x3⟩ := HC1.out.cells hk2
      have HP' : Hd (P'.xs.length ≤ i) := hp'
      clear hcell hc0 hc1 hc2 hkn hon htk hkk hk2 H HC hp hq hp' hq' hz hll hzl HBK hi
      by_cases k5 : kn = 5
      · subst k5
        obtain ⟨bn, hbn⟩ : ∃ z, z = wr.heap.size := ⟨_, rfl⟩
        have HNW : Hd (Calls Try.prog 8 #[] wr fun e w' => e = .returned (pP bn) ∧ (DN w w' bn [] N bn ∧ Fr (fun _ => False) wr w') ∧ w'.cell? ⟨kd, k, none⟩ = some (pP P'.b) ∧ w'.frozen? ⟨kd, k, none⟩ = false) := by
          refine (new_dn w wr HC1.out.p.fr N).mono ?_
          rintro _ w10 ⟨rfl, D10, F10, -⟩
          rw [← hbn] at D10 ⊢
          have hlt10 := HC1.out.lt
          exact ⟨rfl, ⟨D10, F10⟩, (F10.cell hlt10.1 (fun h => h)).trans x0, (F10.frozen hlt10.1 (fun h => h)).trans x2⟩
        have HFN : Hd (∀ w10, DN w w10 bn [] N bn ∧ Fr (fun _ => False) wr w10 → Calls Try.prog 15 #[] (w10.setCell ⟨kd, k, none⟩ (pP bn)) fun e w' => ∃ cn, e = .returned (pP cn) ∧ w'.cell? ⟨kr, k, none⟩ = some (pP P'.c) ∧ w'.frozen? ⟨kr, k, none⟩ = false ∧ ∃ P2 : PD, P2.b = bn ∧ P2.c = cn ∧ P2.xs.length ≤ i ∧ Hd (Cs w (w'.setCell ⟨kr, k, none⟩ (pP cn)) N kd kr k P2 Q')) := by
          rintro w10 ⟨D10, F10⟩
          have hlt10 := HC1.out.lt
          refine (fnew_any _ w.heap.size).mono ?_
          rintro _ w11 ⟨rfl, R11, F11⟩
          have e10 : (w10.setCell ⟨kd, k, none⟩ (pP bn)).heap.size = w10.heap.size := by simp
          rw [e10] at R11 ⊢
          subst hbn
          have HRN := HC1.out.renew HKK.out D10 F10 R11 F11
          have hb11 : w11.heap[kr]? = wr.heap[kr]? := by
            rw [F11.block kr (by rw [e10]; exact Nat.lt_of_lt_of_le hlt10.2 F10.size) (fun h => h), Go.RowKit.Below.heap_setCell _ _ _ _ (fun e => HC1.out.ne e.symm)]
            exact F10.block kr hlt10.2 (fun h => h)
          exact ⟨_, rfl, (World.cell?_of_block hb11).trans x1, frozen_of (hb11.trans HC1.out.cr) k, _, rfl, rfl, by simp, HRN⟩
        clear hbn HC1 x0 x1 x2 x3
        go_wp2_with fail
        refine HNW.out.mono ?_
        rintro _ w10 ⟨rfl, H10, y0, y1⟩
        clear HNW s0 s1 s2
        go_wp2_with fail
        refine (HFN.out w10 H10).mono ?_
        rintro _ w11 ⟨cn, rfl, y2, y3, P2, hPb, hPc, hPx, HRN⟩
        have HPX : Hd (P2.xs.length ≤ i) := hPx
        clear hPx
        subst hPb hPc
        clear HFN H10 y0 y1
        go_wp2_with fail
        generalize w11.setCell ⟨kr, k, none⟩ (Value.pointer (some ⟨P2.c, 0, none⟩)) = w12 at HRN ⊢
        obtain ⟨s0, s1, s2⟩ := HS.out w12 HRN.out.p.fr
        obtain ⟨x0, x1, -, -⟩ := HRN.out.cells HKK.out
        go_region_with (go_at_call 16; refine (HDO.out _ P2 HRN.out.drew HPX.out).mono ?_; rintro _ w9 ⟨rfl, H9⟩)
        all_goals go_wp2_with fail
        all_goals (obtain ⟨P3, Q3, hl3, hl4, H9⟩ := H9; exact ⟨⟨rfl, i + 1, P3, Q3, by simp [hw], by omega, hl3, hl4, H9⟩, by simp [hw]; omega⟩)
      · have b5 : (kn == 5) = false := by simpa using k5
        go_wp2_with fail
        go_region_with (go_at_call 16; refine (HDO.out _ P' HC1.out.drew HP'.out).mono ?_; rintro _ w9 ⟨rfl, H9⟩)
        all_goals go_wp2_with fail
        all_goals (obtain ⟨P3, Q3, hl3, hl4, H9⟩ := H9; exact ⟨⟨rfl, i + 1, P3, Q3, by simp [hw], by omega, hl3, hl4, H9⟩, by simp [hw]; omega⟩)
    · have hltd : decide (i < n) = false := by simp; omega
      have HB : Hd (2 * P.xs.length + 2 ≤ N ∧ 2 * Q.xs.length + 2 ≤ N) := by have := HN.out; have := HZ.out; exact ⟨by omega, by omega⟩
      clear HC hp hq hi
      go_wp2_with fail
      go_loopw [3] (fun o wr => o = .bool true ∧ ∃ P2 : PD, P2.b = P.b ∧ P2.c = P.c ∧ 2 * P2.xs.length + 2 ≤ N ∧ Hd (Cs w wr N kd kr 0 P2 Q)) (fun _ wr => lenAt wr P.c)
      case atStart => exact ⟨rfl, P, rfl, rfl, HB.out.1, H.out⟩
      case round =>
        obtain ⟨rfl, P2, hPb, hPc, hPx, HC2⟩ := hrel
        obtain ⟨x0, x1, -, -⟩ := HC2.out.cells (by omega)
        have hm : lenAt wr P.c = P2.xs.length := by rw [← hPc]; exact HC2.out.lenAt
        have HM : Hd (lenAt wr P.c = P2.xs.length) := hm
        have HPX : Hd (2 * P2.xs.length + 2 ≤ N) := hPx
        have HPC : Hd (P2.b = P.b ∧ P2.c = P.c) := ⟨hPb, hPc⟩
        clear hm hPx hPb hPc H
        obtain ⟨L, hL⟩ : ∃ L, L = P2.xs.length := ⟨_, rfl⟩
        have HFL : Hd (Calls Try.prog 17 #[pP P2.c] wr fun e w' => e = .returned (vI L) ∧ wr = w') := by rw [hL]; refine HC2.out.flen.mono ?_; rintro _ _ ⟨rfl, rfl⟩; exact ⟨rfl, rfl⟩
        have HL2 : Hd (L = P2.xs.length) := hL
        clear hL
        by_cases h0L : L = 0
        · subst h0L
          go_wp2_with (go_at_call 17; refine HFL.out.mono ?_; rintro _ _ ⟨rfl, rfl⟩)
          have HP2 : Hd (P2.xs = []) := List.eq_nil_of_length_eq_zero HL2.out.symm
          have H3 : Hd (Cs w wr N kd kr 1 Q P2) := HC2.out.symm (by omega)
          have HQB : Hd (2 * Q.xs.length + 2 ≤ N) := HB.out.2
          clear HC2 x0 x1 HM HFL HL2 HPX HPC HB
          go_loopw [3] (fun o wr => o = .bool true ∧ ∃ Q2 : PD, Q2.b = Q.b ∧ Q2.c = Q.c ∧ 2 * Q2.xs.length + 2 ≤ N ∧ Hd (Cs w wr N kd kr 1 Q2 P2)) (fun _ wr => lenAt wr Q.c)
          case atStart => exact ⟨rfl, Q, rfl, rfl, HQB.out, H3.out⟩
          case round =>
            obtain ⟨rfl, Q2, hPb, hPc, hPx, HC2⟩ := hrel
            obtain ⟨x0, x1, -, -⟩ := HC2.out.cells (by omega)
            have hm : lenAt wr Q.c = Q2.xs.length := by rw [← hPc]; exact HC2.out.lenAt
            have HM : Hd (lenAt wr Q.c = Q2.xs.length) := hm
            have HPX : Hd (2 * Q2.xs.length + 2 ≤ N) := hPx
            have HPC : Hd (Q2.b = Q.b ∧ Q2.c = Q.c) := ⟨hPb, hPc⟩
            clear hm hPx hPb hPc H3 HQB
            obtain ⟨L, hL⟩ : ∃ L, L = Q2.xs.length := ⟨_, rfl⟩
            have HFL : Hd (Calls Try.prog 17 #[pP Q2.c] wr fun e w' => e = .returned (vI L) ∧ wr = w') := by rw [hL]; refine HC2.out.flen.mono ?_; rintro _ _ ⟨rfl, rfl⟩; exact ⟨rfl, rfl⟩
            have HL2 : Hd (L = Q2.xs.length) := hL
            clear hL
            by_cases h0L : L = 0
            · subst h0L
              have HQ2 : Hd (Q2.xs = []) := List.eq_nil_of_length_eq_zero HL2.out.symm
              obtain ⟨z0, -, -, -⟩ := (HC2.out.symm (by omega)).cells (by omega)
              have HE : Hd (Calls Try.prog 11 #[pP P2.b] wr fun e w' => e = .returned (vI 0) ∧ Cs w w' N kd kr 1 Q2 P2) := by
                refine (HC2.out.symm (by omega)).len.mono ?_
                rintro _ w' ⟨rfl, h1⟩
                exact ⟨by rw [HP2.out]; rfl, h1.symm (by omega)⟩
              have HE2 : Hd (∀ w1, Cs w w1 N kd kr 1 Q2 P2 → Calls Try.prog 11 #[pP Q2.b] w1 fun e w' => e = .returned (vI 0) ∧ Fr (fun _ => False) w w') := by
                intro w1 h1
                refine h1.len.mono ?_
                rintro _ w' ⟨rfl, h2⟩
                exact ⟨by rw [HQ2.out]; rfl, h2.p.fr⟩
              clear HC2
              go_wp2_with (go_at_call 17; refine HFL.out.mono ?_; rintro _ _ ⟨rfl, rfl⟩)
              refine HE.out.mono ?_
              rintro _ w8 ⟨rfl, H8⟩
              obtain ⟨x8, -, -, -⟩ := H8.cells (by omega)
              clear HE HFL
              go_wp2_with fail
              refine (HE2.out _ H8).mono ?_
              rintro _ w9 ⟨rfl, F9⟩
              go_wp2_with fail
              go_ret
              exact ⟨rfl, F9⟩
            · have hL0 : (0 : Int) < L := by omega
              have hL1 : decide (0 < L) = true := by simp; omega
              have HDO : Hd (∀ w', Cs w w' N kd kr 1 Q2 P2 → Calls Try.prog 16 #[pP Q2.b, pP Q2.c, .agg #[vI 3, vI 0, vI 0]] w' fun e w'' => e = .returned (.bool true) ∧ ∃ P3 : PD, P3.b = Q.b ∧ P3.c = Q.c ∧ 2 * P3.xs.length + 2 ≤ N ∧ Hd (Cs w w'' N kd kr 1 P3 P2) ∧ lenAt w'' Q.c < lenAt wr Q.c) := by
                intro w' h2
                refine (h2.does 3 0 0 HPX.out HN1.out).mono ?_
                rintro _ w'' ⟨rfl, P3, h3, hb3, hc3, hx3⟩
                have hx4 : P3.xs.length = Q2.xs.length - 1 := by rw [hx3]; show Q2.xs.tail.length = _; simp
                have := HL2.out
                have := HPX.out
                refine ⟨rfl, P3, hb3.trans HPC.out.1, hc3.trans HPC.out.2, by omega, h3, ?_⟩
                rw [HM.out, ← HPC.out.2, ← hc3, h3.lenAt]
                omega
              go_wp2_with (go_at_call 17; refine HFL.out.mono ?_; rintro _ _ ⟨rfl, rfl⟩)
              go_region_with (go_at_call 16; refine (HDO.out _ HC2.out.drew).mono ?_; rintro _ w9 ⟨rfl, H9⟩)
              all_goals obtain ⟨P3, hb3, hc3, hx3, H9, hm9⟩ := H9
              all_goals go_roundw
              all_goals first | exact hm9 | ((repeat apply Exists.intro); exact ⟨⟨rfl, P3, hb3, hc3, hx3, H9⟩, rfl⟩)
        · have hL0 : (0 : Int) < L := by omega
          have hL1 : decide (0 < L) = true := by simp; omega
          have HDO : Hd (∀ w', Cs w w' N kd kr 0 P2 Q → Calls Try.prog 16 #[pP P2.b, pP P2.c, .agg #[vI 2, vI 0, vI 0]] w' fun e w'' => e = .returned (.bool true) ∧ ∃ P3 : PD, P3.b = P.b ∧ P3.c = P.c ∧ 2 * P3.xs.length + 2 ≤ N ∧ Hd (Cs w w'' N kd kr 0 P3 Q) ∧ lenAt w'' P.c < lenAt wr P.c) := by
            intro w' h2
            refine (h2.does 2 0 0 HPX.out HN1.out).mono ?_
            rintro _ w'' ⟨rfl, P3, h3, hb3, hc3, hx3⟩
            have hx4 : P3.xs.length = P2.xs.length - 1 := by rw [hx3]; show P2.xs.dropLast.length = _; simp
            have := HL2.out
            have := HPX.out
            refine ⟨rfl, P3, hb3.trans HPC.out.1, hc3.trans HPC.out.2, by omega, h3, ?_⟩
            rw [HM.out, ← HPC.out.2, ← hc3, h3.lenAt]
            omega
          go_wp2_with (go_at_call 17; refine HFL.out.mono ?_; rintro _ _ ⟨rfl, rfl⟩)
          go_region_with (go_at_call 16; refine (HDO.out _ HC2.out.drew).mono ?_; rintro _ w9 ⟨rfl, H9⟩)
          all_goals obtain ⟨P3, hb3, hc3, hx3, H9, hm9⟩ := H9
          all_goals go_roundw
          all_goals first | exact hm9 | ((repeat apply Exists.intro); exact ⟨⟨rfl, P3, hb3, hc3, hx3, H9⟩, rfl⟩)
end Go.Proofs.Ytkkfiipnpdlkeaa
