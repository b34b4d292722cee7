import Derived.Test.YtjmbfjaahadbhaaGreatDoorQOf
import Derived.Test.YtjmbfjaahadbhaaGreatDoorQIbJ
import Derived.BigQuiet
set_option linter.unusedVariables false
set_option linter.unusedSimpArgs false
namespace Go.Proofs.YtjmbfjaahadbhaaGreatDoor
open Go.RowKit (wrap32 wrap64)

/-! ### the document's graph, read -/
theorem hit_dd {N : Nat} {of : Nat → Nat} {cl : Nat → List Nat} (c d : Nat) : hitX N of (fun f => ddX (cl f)) c d = hitX N of cl c d := by
  rw [Bool.eq_iff_iff, hitX_iff, hitX_iff]
  constructor
  · rintro ⟨f, h1, h2, g, h3, h4⟩; exact ⟨f, h1, h2, g, mem_ddX.1 h3, h4⟩
  · rintro ⟨f, h1, h2, g, h3, h4⟩; exact ⟨f, h1, h2, g, mem_ddX.2 h3, h4⟩
theorem IB.ia {n0 : Nat} {w : World} {v : Value} {l : List Int} (h : IB n0 w v l) (hn : n0 ≤ w.heap.size) : IA w v l := by
  obtain ⟨a, c, e, h⟩ := h
  refine ⟨a, c, e, fun hne => ?_⟩
  obtain ⟨k, o, e, hk, h⟩ := h hne
  exact ⟨k, o, e, by omega, h⟩
theorem lb_addr {n0 m : Nat} {w : World} {v : Value} {ls : List (List Int)} (h : LB n0 w v ls) (hm : ls.length = m) (h0 : 0 < m) : ∃ k o c, v = .slice (some ⟨k, o, none⟩) m c := by
  obtain ⟨a, c, e, h⟩ := h
  obtain ⟨k, o, e2, -⟩ := h (fun e => by rw [e] at hm; simp at hm; omega)
  exact ⟨k, o, c, by rw [e, e2, hm]⟩
theorem lb_at {n0 k o m c : Nat} {w : World} {ls : List (List Int)} (h : LB n0 w (.slice (some ⟨k, o, none⟩) m c) ls) {i : Nat} (hi : i < ls.length) : k < n0 ∧ ∃ u, w.cell? ⟨k, o + i, none⟩ = some u ∧ IB n0 w u ls[i] := by
  obtain ⟨a, c, e, h⟩ := h
  obtain ⟨k', o', e2, hk, h⟩ := h (fun e => by rw [e] at hi; simp at hi)
  rw [e2] at e
  injection e with e1
  injection e1 with e1
  injection e1 with e3 e4
  subst e3 e4
  exact ⟨hk, h i hi⟩
/-- The document's graph as far as its calls read it. -/
structure Dv (w : World) (N n : Nat) (of : Nat → Nat) (cl : Nat → List Nat) (b lg lo lc wg wc ck co cc : Nat) : Prop where
  box : w.heap[b]? = some (.cells #[.slice (some ⟨lg, lo, none⟩) n lc, .slice (some ⟨wg, 0, none⟩) N wc, .slice (some ⟨ck, co, none⟩) N cc] 54)
  l : LB w.heap.size w (.slice (some ⟨lg, lo, none⟩) n lc) (zLs n (memX N of))
  wh : ∀ x, x < N → w.cell? ⟨wg, x, none⟩ = some (vI (of x : Nat))
  wb : wg < w.heap.size
  c : LB w.heap.size w (.slice (some ⟨ck, co, none⟩) N cc) (zLs N (fun f => ddX (cl f)))
theorem Dv.stay {w w' : World} {N n : Nat} {of : Nat → Nat} {cl : Nat → List Nat} {b lg lo lc wg wc ck co cc : Nat} (h : Dv w N n of cl b lg lo lc wg wc ck co cc) (f : Fr (fun _ => False) w w') : Dv w' N n of cl b lg lo lc wg wc ck co cc :=
  ⟨keepF h.box f, (h.l.fr (Nat.le_refl _) f (fun _ _ e => e)).up f.size, fun x hx => (f.cell h.wb (fun e => e)).trans (h.wh x hx), Nat.lt_of_lt_of_le h.wb f.size, (h.c.fr (Nat.le_refl _) f (fun _ _ e => e)).up f.size⟩
theorem Dg.dv {w : World} {N n : Nat} {of : Nat → Nat} {cl : Nat → List Nat} {B b : Nat} (h : Dg w N n of cl B b) (hN : 0 < N) (hn : 0 < n) : ∃ lg lo lc wg wc ck co cc, Dv w N n of cl b lg lo lc wg wc ck co cc := by
  obtain ⟨lv, cv, wg, wc, us, cus, h1, -, h3, h4, h50⟩ := h.told
  have h5 := h50.lb
  have h6 := h4.lb
  obtain ⟨lg, lo, lc, e1⟩ := lb_addr h6 (m := n) (by simp) hn
  obtain ⟨ck, co, cc, e2⟩ := lb_addr h5 (m := N) (by simp) hN
  subst e1 e2
  exact ⟨lg, lo, lc, wg, wc, ck, co, cc, h1, h6, fun x hx => h3.at hx, (h3.ge wg rfl).2, h5⟩

/-! ### rows of lists that grow -/
/-- One list more. -/
theorem wpList_loc {w : World} {ops : Array Oper} {rest : List Oper} {o : Oper} {a : Act} {Q : Exit → Act → World → Prop} (hgd : o.guard = none) (s x : Operand) (ho : o.op = .call { callee := .builtin .append, args := #[s, x], argTypes := #[48, 48] })
    {B k H c : Nat} {v u : Value} {us : List Value} {ls : List (List Int)} {l : List Int} (hs : a.eval s = v) (hx : a.eval x = .slice (some ⟨H, 0, none⟩) 1 c)
    (h : LOc w B v us ls) (hu : IOwn w B u l) (hk : us.length = k) (hb : w.heap[H]? = some (.cells #[u] 25)) (hl : k ≤ 1000000000) (hB : B ≤ w.heap.size)
    (K : ∀ g cap w', LOc w' B (.slice (some ⟨g, 0, none⟩) (k + 1) cap) (us ++ [u]) (ls ++ [l]) → Fr (fun q => v.ownBlock = some q) w w' → (v.ownBlock = some g ∨ g = w.heap.size) → wpList Tryz.prog ops Q rest (a.put o.dst (.slice (some ⟨g, 0, none⟩) (k + 1) cap)) w') :
    wpList Tryz.prog ops Q (o :: rest) a w := by
  subst hk
  obtain ⟨i3, hi3, hz3, hs3, hb3⟩ := info_parts (P := Tryz.prog) (e := 25) (z := .slice none 0 0) (size := 1) (bytes := 24) (by kernel_rfl)
  obtain ⟨ua, uc, eu⟩ := own_slice hu
  refine wpList_append_lies _ hgd s x 48 ho B 25 i3 (.slice none 0 0) 1 24 under53 hi3 hz3 hs3 hb3 rfl (by omega) v us.length us hs h.row ⟨H, 0, none⟩ 1 c [u] hx rfl (World.news_of_block (cs := #[u]) hb) (by intro y hy; rw [List.mem_singleton] at hy; rw [hy, eu]; rfl) (by omega) (by unfold maxLen; omega) (by omega) hB w.heap.size rfl ?_
  intro g cap w' hown hgrow hat _
  exact K g cap w' (h.grow hu hgrow hown) (grown_frL hgrow) hat
/-- Lists of their own, each apart from the others. -/
structure LOd (w : World) (B : Nat) (v : Value) (us : List Value) (ls : List (List Int)) : Prop extends LOc w B v us ls where
  ap : ∀ i j (hi : i < us.length) (hj : j < us.length), i ≠ j → ∀ q, us[i].ownBlock = some q → us[j].ownBlock ≠ some q
theorem LOd.stay {w w' : World} {B : Nat} {v : Value} {us : List Value} {ls : List (List Int)} (h : LOd w B v us ls) (f : Fr (fun _ => False) w w') : LOd w' B v us ls := ⟨h.toLOc.stay f, h.ap⟩
theorem LOd.grown {w w' : World} {B B' : Nat} {v v' u : Value} {us : List Value} {ls ls' : List (List Int)} (h : LOd w B v us ls) (k : LOc w' B v' (us ++ [u]) ls') {w0 : World} {l : List Int} (hu : IOwn w0 B' u l) (hb : ∀ i (hi : i < us.length) q, us[i].ownBlock = some q → q < B') : LOd w' B v' (us ++ [u]) ls' := by
  refine ⟨k, fun i j hi hj hne q e e2 => ?_⟩
  rw [List.length_append, List.length_singleton] at hi hj
  by_cases h1 : i < us.length
  · rw [List.getElem_append_left h1] at e
    by_cases h2 : j < us.length
    · rw [List.getElem_append_left h2] at e2
      exact h.ap i j h1 h2 hne q e e2
    · rw [List.getElem_append_right (by omega)] at e2
      simp only [List.getElem_singleton] at e2
      have := hb i h1 q e
      have := (hu.ge q e2).1
      omega
  · rw [List.getElem_append_right (by omega)] at e
    simp only [List.getElem_singleton] at e
    by_cases h2 : j < us.length
    · rw [List.getElem_append_left h2] at e2
      have := hb j h2 q e2
      have := (hu.ge q e).1
      omega
    · omega
theorem LOc.below {w : World} {B : Nat} {v : Value} {us : List Value} {ls : List (List Int)} (h : LOc w B v us ls) {i : Nat} (hi : i < us.length) {q : Nat} (e : us[i].ownBlock = some q) : B ≤ q ∧ q < w.heap.size := (h.each i hi (by rw [← h.ul]; exact hi)).ge q e

theorem LB.stay {w w' : World} {v : Value} {ls : List (List Int)} (h : LB w.heap.size w v ls) (f : Fr (fun _ => False) w w') : LB w'.heap.size w' v ls := (h.fr (Nat.le_refl _) f (fun _ _ e => e)).up f.size

theorem Fr.drewN {S : Nat → Prop} {a w : World} (h : Fr S a w) (n : Nat) : Fr S a (w.drewN n) := ⟨h.os, h.tape, h.output, h.size, h.block⟩
section
variable {w : World} {N n : Nat} {of : Nat → Nat} {cl : Nat → List Nat} {b lg lo lc wg wc ck co cc : Nat}
set_option maxRecDepth 100000 in
theorem rlen_any (h : Dv w N n of cl b lg lo lc wg wc ck co cc) (hn : n ≤ 1000000) : Calls Tryz.prog 27 #[.pointer (some ⟨b, 0, none⟩)] w fun e w' => e = .returned (vI (n : Int)) ∧ w' = w := by
  have c1 : w.cell? ⟨b, 0, none⟩ = some (.slice (some ⟨lg, lo, none⟩) n lc) := by rw [cell_of0 h.box]; rfl
  clear h
  go_enter Tryz.func27, Tryz.ntmps27
  go_wp2_with fail
  go_ret
  exact ⟨rfl, rfl⟩
set_option maxRecDepth 100000 in
set_option maxHeartbeats 1000000 in
theorem rmembers_any (i : Nat) (h : Dv w N n of cl b lg lo lc wg wc ck co cc) (hi : i < n) (hn : n ≤ 1000000) (hN : N ≤ 1000000) :
    Calls Tryz.prog 32 #[.pointer (some ⟨b, 0, none⟩), vI (i : Int)] w fun e w' => ∃ v', e = .returned v' ∧ IOwn w' w.heap.size v' (zL (memX N of i)) ∧ Fr (fun _ => False) w w' := by
  have c1 : w.cell? ⟨b, 0, none⟩ = some (.slice (some ⟨lg, lo, none⟩) n lc) := by rw [cell_of0 h.box]; rfl
  obtain ⟨hlg, u, p0, hu⟩ := lb_at h.l (i := i) (by simpa using hi)
  rw [show (zLs n (memX N of))[i]'(by simpa using hi) = zL (memX N of i) by simp] at hu
  have hia := hu.ia (Nat.le_refl _)
  have hml : (zL (memX N of i)).length ≤ 17592186043904 := by
    rw [List.length_map]
    have := (len_le (memX_rise (N := N) (of := of) i) (fun x hx => (mem_memX.1 hx).1)); omega
  obtain ⟨a, c, eu, -⟩ := id hia
  have HC : Hd (Calls Tryz.prog 58 #[.slice a (zL (memX N of i)).length c] w fun e w' => ∃ v', e = .returned v' ∧ IOwn w' w.heap.size v' (zL (memX N of i)) ∧ Fr (fun _ => False) w w') := copyInts_any _ _ w (by rw [← eu]; exact hia) hml
  subst eu
  have hi0 : (0 : Int) ≤ i := by omega
  have hi1 : (i : Int) < n := by omega
  have d1 : decide ((i : Int) < 0) = false := by simp
  have d2 : decide ((i : Int) ≥ n) = false := by simp; omega
  have d3 : decide ((n : Int) ≤ i) = false := by simp; omega
  clear h hu hia hml
  generalize zL (memX N of i) = l at *
  go_enter Tryz.func32, Tryz.ntmps32
  go_wp2_with fail
  refine Calls.mono HC.out ?_
  rintro e w1 ⟨v', rfl, hO, hF⟩
  have HO : Hd (IOwn w1 w.heap.size v' l) := hO
  have HF : Hd (Fr (fun _ => False) w w1) := hF
  clear hO hF HC c1 p0
  go_wp2_with fail
  go_ret
  exact ⟨v', rfl, HO.out, HF.out⟩
set_option maxRecDepth 100000 in
set_option maxHeartbeats 4000000 in
theorem rcalls_any (c d : Nat) (h : Dv w N n of cl b lg lo lc wg wc ck co cc) (hc : c < n) (hcl : ∀ x, x < N → ∀ z ∈ cl x, z < N) (hll : ∀ x, x < N → (ddX (cl x)).length ≤ 1000000000) (hn : n ≤ 1000000) (hN : N ≤ 1000000) :
    Calls Tryz.prog 59 #[.pointer (some ⟨b, 0, none⟩), vI (c : Int), vI (d : Int)] w fun e w' => e = .returned (.bool (hitX N of cl c d)) ∧ Fr (fun _ => False) w w' := by
  obtain ⟨ms, hms⟩ : ∃ ms, ms = memX N of c := ⟨_, rfl⟩
  have HMS : Hd (ms = memX N of c) := hms
  obtain ⟨ua, uc, p1, hlg, hu⟩ := lb_rows h.l hc
  rw [← hms] at p1 hu
  have HML : Hd (ms.length ≤ 1000000) := by
    unfold Hd
    rw [hms]
    have := (len_le (memX_rise (N := N) (of := of) c) (fun x hx => (mem_memX.1 hx).1)); omega
  have hml := HML.out
  have HB : Hd (w.heap[b]? = some (.cells #[.slice (some ⟨lg, lo, none⟩) n lc, .slice (some ⟨wg, 0, none⟩) N wc, .slice (some ⟨ck, co, none⟩) N cc] 54)) := h.box
  have HP1 : Hd (∀ W, Fr (fun _ => False) w W → W.cell? ⟨lg, lo + c, none⟩ = some (.slice ua ms.length uc)) := fun W f => (f.cell hlg (fun e => e)).trans p1
  have HMI : Hd (∀ (i z : Nat), ms[i]? = some z → ∃ uk uo, ua = some ⟨uk, uo, none⟩ ∧ ∀ W, Fr (fun _ => False) w W → W.cell? ⟨uk, uo + i, none⟩ = some (vI (z : Int))) := fun i z hz => by
    obtain ⟨uk, uo, e, hk, hcell⟩ := hu i z hz
    exact ⟨uk, uo, e, fun W f => (f.cell hk (fun e => e)).trans hcell⟩
  have HWH : Hd (∀ W, Fr (fun _ => False) w W → ∀ x, x < N → W.cell? ⟨wg, x, none⟩ = some (vI (of x : Nat))) := fun W f x hx => (f.cell h.wb (fun e => e)).trans (h.wh x hx)
  have HLB : Hd (LB w.heap.size w (.slice (some ⟨ck, co, none⟩) N cc) (zLs N (fun f => ddX (cl f)))) := h.c
  have HCL : Hd ((∀ x, x < N → ∀ z ∈ cl x, z < N) ∧ ∀ x, x < N → (ddX (cl x)).length ≤ 1000000000) := ⟨hcl, hll⟩
  have HF0 : Hd (Fr (fun _ => False) w w) := Fr.refl _ _
  have c0 : (0 : Int) ≤ c := by omega
  have c1 : (c : Int) < n := by omega
  clear h hcl hll hms hu p1 hlg
  go_enter Tryz.func59, Tryz.ntmps59
  go_wp2_with fail
  go_loopw [7] (fun v wx => ∃ i : Nat, v = .int .i64 i ∧ i ≤ ms.length ∧ Hd (∀ x ∈ ms.take i, ∀ z ∈ cl x, of z ≠ d) ∧ Hd (Fr (fun _ => False) w wx)) (fun v _ => match v with | .int _ q => ms.length - q.toNat | _ => 0)
  case atStart => exact ⟨0, by simp, Nat.zero_le _, by unfold Hd; simp, HF0.out⟩
  case round =>
    clear HF0
    obtain ⟨i, rfl, hi, HA, HF⟩ := hrel
    have b0 : wr.cell? ⟨b, 0, none⟩ = some (.slice (some ⟨lg, lo, none⟩) n lc) := by rw [cell_of0 (keepF HB.out HF.out)]; rfl
    have b1 : wr.cell? ⟨b, 1, none⟩ = some (.slice (some ⟨wg, 0, none⟩) N wc) := by rw [cell_of0 (keepF HB.out HF.out)]; rfl
    have b2 : wr.cell? ⟨b, 2, none⟩ = some (.slice (some ⟨ck, co, none⟩) N cc) := by rw [cell_of0 (keepF HB.out HF.out)]; rfl
    have p1 := HP1.out wr HF.out
    by_cases hlt : i < ms.length
    · have d1 : decide ((i : Int) < (ms.length : Int)) = true := by simp; omega
      have i0 : (0 : Int) ≤ i := by omega
      have i1 : (i : Int) < ms.length := by omega
      obtain ⟨y, hy⟩ : ∃ y, ms[i]? = some y := ⟨_, List.getElem?_eq_getElem hlt⟩
      have hym : y ∈ ms := List.mem_of_getElem? hy
      have hyc := mem_memX.1 (by rw [← HMS.out]; exact hym : y ∈ memX N of c)
      obtain ⟨uk, uo, rfl, hcy⟩ := HMI.out i y hy
      have p0 := hcy wr HF.out
      have HTK : Hd (ms.take (i + 1) = ms.take i ++ [y] ∧ y < N ∧ of y = c) := ⟨by rw [List.take_add_one, hy]; rfl, hyc.1, hyc.2⟩
      have hyN := hyc.1
      obtain ⟨va, vc, p2, hck, hv⟩ := lb_rows HLB.out hyN
      have p2r : wr.cell? ⟨ck, co + y, none⟩ = some (.slice va (ddX (cl y)).length vc) := (HF.out.cell hck (fun e => e)).trans p2
      have HV : Hd (∀ (k z : Nat), (ddX (cl y))[k]? = some z → ∃ vk vo, va = some ⟨vk, vo, none⟩ ∧ ∀ W, Fr (fun _ => False) w W → W.cell? ⟨vk, vo + k, none⟩ = some (vI (z : Int))) := fun k z hz => by
        obtain ⟨vk, vo, e, hvk, hc⟩ := hv k z hz
        exact ⟨vk, vo, e, fun W fW => (fW.cell hvk (fun e => e)).trans hc⟩
      have y0 : (0 : Int) ≤ y := by omega
      have y1 : (y : Int) < N := by omega
      have HYL : Hd ((ddX (cl y)).length ≤ 1000000000 ∧ (∀ z ∈ ddX (cl y), z < N) ∧ ∀ z, z ∈ ddX (cl y) ↔ z ∈ cl y) := ⟨HCL.out.2 y hyN, fun z hz => HCL.out.1 y hyN z (mem_ddX.1 hz), fun z => mem_ddX⟩
      have hyl := HYL.out.1
      have HF1 : Hd (∀ nq, Fr (fun _ => False) w (wr.drewN nq)) := fun nq => HF.out.drewN nq
      generalize ddX (cl y) = L at *
      clear p2 hck hv HF hcy hy hym hyc hlt
      go_wp2_with fail
      go_quiet (fail)
      go_wp2_with fail
      go_loopw [9] (fun v wx => ∃ k : Nat, v = .int .i64 k ∧ k ≤ L.length ∧ Hd (∀ z ∈ L.take k, of z ≠ d) ∧ Hd (Fr (fun _ => False) w wx)) (fun v _ => match v with | .int _ q => L.length - q.toNat | _ => 0)
      case atStart => exact ⟨0, by simp, Nat.zero_le _, by unfold Hd; simp, HF1.out _⟩
      case round =>
        clear HF1 p0 p1 p2r b0 b1 b2
        obtain ⟨k, rfl, hk, HBk, HF⟩ := hrel
        by_cases hltk : k < L.length
        · have d2 : decide ((k : Int) < (L.length : Int)) = true := by simp; omega
          have k0 : (0 : Int) ≤ k := by omega
          have k1 : (k : Int) < (L.length : Int) := by omega
          obtain ⟨z, hz⟩ : ∃ z, L[k]? = some z := ⟨_, List.getElem?_eq_getElem hltk⟩
          have hzm : z ∈ L := List.mem_of_getElem? hz
          have hzN := HYL.out.2.1 z hzm
          obtain ⟨vk, vo, rfl, hcz⟩ := HV.out k z hz
          have q0 := hcz wr HF.out
          have q1 := HWH.out wr HF.out z hzN
          have b1 : wr.cell? ⟨b, 1, none⟩ = some (.slice (some ⟨wg, 0, none⟩) N wc) := by rw [cell_of0 (keepF HB.out HF.out)]; rfl
          have HTK2 : Hd (L.take (k + 1) = L.take k ++ [z] ∧ z ∈ cl y) := ⟨by rw [List.take_add_one, hz]; rfl, (HYL.out.2.2 z).1 hzm⟩
          have z0 : (0 : Int) ≤ z := by omega
          have z1 : (z : Int) < N := by omega
          have HF1 : Hd (∀ nq, Fr (fun _ => False) w (wr.drewN nq)) := fun nq => HF.out.drewN nq
          clear hcz hz hzm HF hltk
          obtain ⟨oz, hoz⟩ : ∃ oz, oz = of z := ⟨_, rfl⟩
          have HOZ : Hd (oz = of z) := hoz
          rw [← hoz] at q1
          clear hoz
          by_cases e : oz = d
          · have e1 : ((oz : Int) == (d : Int)) = true := by simp [e]
            have HX : Hd (hitX N of cl c d = true) := hitX_iff.2 ⟨y, HTK.out.2.1, HTK.out.2.2, z, HTK2.out.2, by rw [← HOZ.out]; exact e⟩
            clear e
            go_wp2_with fail
            go_quiet (fail)
            go_wp2_with fail
            go_ret
            exact ⟨by rw [HX.out]; rfl, HF1.out _⟩
          · have e1 : ((oz : Int) == (d : Int)) = false := by simp; omega
            have HB2 : Hd (∀ q ∈ L.take (k + 1), of q ≠ d) := fun q hq => by
              rw [HTK2.out.1, List.mem_append, List.mem_singleton] at hq
              rcases hq with hq | rfl
              · exact HBk.out q hq
              · rw [← HOZ.out]; exact e
            clear e
            go_wp2_with fail
            go_quiet (fail)
            go_wp2_with fail
            go_roundw
            case measure => simp; omega
            case rel => exact ⟨k + 1, by simp, by omega, HB2.out, HF1.out _⟩
        · have d2 : decide ((k : Int) < (L.length : Int)) = false := by simp; omega
          have d2n : ¬ k < L.length := hltk
          have HA2 : Hd (∀ x ∈ ms.take (i + 1), ∀ z ∈ cl x, of z ≠ d) := fun x hx z hz => by
            rw [HTK.out.1, List.mem_append, List.mem_singleton] at hx
            rcases hx with hx | rfl
            · exact HA.out x hx z hz
            · exact HBk.out z (by rw [List.take_of_length_le (by omega)]; exact (HYL.out.2.2 z).2 hz)
          clear hltk HBk HV
          go_wp2_with fail
          go_roundw
          case measure => simp; omega
          case rel => exact ⟨i + 1, by simp, by omega, HA2.out, HF.out⟩
    · have d1 : decide ((i : Int) < (ms.length : Int)) = false := by simp; omega
      have d1n : ¬ i < ms.length := hlt
      have HX : Hd (hitX N of cl c d = false) := by
        unfold Hd
        rw [Bool.eq_false_iff]
        intro e
        obtain ⟨f, h1, h2, g, h3, h4⟩ := hitX_iff.1 e
        exact HA.out f (by rw [List.take_of_length_le (by omega), HMS.out]; exact mem_memX.2 ⟨h1, h2⟩) g h3 h4
      have HE : Hd (Fr (fun _ => False) w wr) := HF.out
      clear hlt HA
      go_wp2_with fail
      go_ret
      exact ⟨by rw [HX.out]; rfl, HE.out⟩
end

/-- append to a row of one's own; what else lies in its block ahead of its end stays. -/
theorem run_append_keeps {P : Program} (w : World) (t ty : TypeId) (base : Nat) (e : TypeId) (i : TypeInfo) (z : Value) (size bytes : Nat) (ht : P.underlying t = some (.slice e)) (hi : P.info? e = some i) (hz : i.zero = some z)
    (hsize : i.size = size) (hby : i.bytes = bytes) (hzs : z.cells.size = size) (hsz : 0 < size)
    (v : Value) (n : Nat) (xs : List Value) (hown : w.ownsRow base e size v n xs)
    (ad : Addr) (m c : Nat) (news : List Value) (hl : news.length = m * size) (hnews : ∀ j u, news[j]? = some u → w.cell? (ad.add j) = some u) (h1 : ∀ u ∈ news, u.oneCell' = true)
    (hm : 0 < m) (h63 : n + m ≤ maxLen) (hbytes : (n + m) * bytes ≤ 140737488355328) (hbase : base ≤ w.heap.size) (H : Nat) (hH : w.heap.size = H) :
    ∃ g cap w', (Builtin.append_ #[t, t] ty #[v, .slice (some ad) m c]).run P w = .ok (.slice (some ⟨g, 0, none⟩) (n + m) cap) w' ∧
      w'.ownsRow base e size (.slice (some ⟨g, 0, none⟩) (n + m) cap) (n + m) (xs ++ news) ∧ w.grownBy w' v.ownBlock ∧ (v.ownBlock = some g ∨ g = H) ∧ g < w'.heap.size ∧
      ∀ (B k cap0 g0 : Nat) (ys : List Value), w.ownsRow B e size (.slice (some ⟨g0, 0, none⟩) k cap0) k ys → (v.ownBlock = some g0 → k ≤ n) → w'.ownsRow B e size (.slice (some ⟨g0, 0, none⟩) k cap0) k ys := by
  obtain ⟨g, cap, w', hr, h2, h3, h4, h5⟩ := run_append_lies (P := P) w t ty base e i z size bytes ht hi hz hsize hby hzs hsz v n xs hown ad m c news hl hnews h1 hm h63 hbytes hbase H hH
  refine ⟨g, cap, w', hr, h2, h3, h4, h5, fun B k cap0 g0 ys hrow hk => ?_⟩
  by_cases hv : v.ownBlock = some g0
  · have hkn := hk hv
    rcases hown.2 with ⟨rfl, rfl⟩ | ⟨g1, cap1, cur, rfl, hbg, hg, hnc, hcm, hcs, htake⟩
    · cases hv
    · cases hv
      subst hsize
      rcases hrow.2 with ⟨e1, -⟩ | ⟨g2, cap2, cur2, e1, k1, k2, k3, k4, k5, k6⟩
      · cases e1
      · cases e1
        rw [hg] at k2
        cases k2
        by_cases hroom : n + m ≤ cap1
        · have hfit : n * i.size + news.length ≤ cur.size := by rw [hl, hcs, ← Nat.add_mul]; exact Nat.mul_le_mul_right _ hroom
          have hr2 := run_append_room (P := P) w t ty e i ht hi g1 n cap1 cur hg ad m c news hl hnews h1 hroom hfit
          have hw := hr.symm.trans hr2
          injection hw with hw1 hw2
          subst hw2
          refine ⟨hrow.1, Or.inr ⟨g1, cap0, _, rfl, k1, setRow_heap w g1 cur _ e _ hg, k3, k4, ?_, ?_⟩⟩
          · simp only [List.size_toArray, List.length_append, List.length_take, List.length_drop, Array.length_toList]
            omega
          · rw [← k6, List.append_assoc]
            have hle : k * i.size ≤ n * i.size := Nat.mul_le_mul_right _ hkn
            rw [List.take_append_of_le_length (by rw [List.length_take, Array.length_toList]; omega), List.take_take]
            congr 1
            omega
        · have holds : ∀ j u, xs[j]? = some u → w.cell? ((⟨g1, 0, none⟩ : Addr).add j) = some u := hown.cells (g := g1) rfl
          have hr2 := run_append_grow (P := P) w t ty e i z ht hi hz ⟨g1, 0, none⟩ n cap1 xs hown.1 holds ad m c news hl hnews (by omega) (by simp only [maxLen] at h63; omega) (growslice_fits (by omega) (by rw [hby]; exact hbytes))
          have hw := hr.symm.trans hr2
          injection hw with hw1 hw2
          subst hw2
          refine ⟨hrow.1, Or.inr ⟨g1, cap0, cur, rfl, k1, ?_, k3, k4, k5, k6⟩⟩
          exact (Go.RowKit.Below.heap_alloc w.drew _ g1 (heap_lt hg)).trans hg
  · exact ownsRow_frL hrow (grown_frL h3) (fun j ej e => by cases ej; exact hv e)

theorem wpList_append_keeps {P : Program} {w : World} {ops : Array Oper} {rest : List Oper} {o : Oper} {a : Act} {Q : Exit → Act → World → Prop} (hgd : o.guard = none) (s x : Operand) (t : TypeId)
    (ho : o.op = .call { callee := .builtin .append, args := #[s, x], argTypes := #[t, t] })
    (base : Nat) (e : TypeId) (i : TypeInfo) (z : Value) (size bytes : Nat) (ht : P.underlying t = some (.slice e)) (hi : P.info? e = some i) (hz : i.zero = some z)
    (hsize : i.size = size) (hby : i.bytes = bytes) (hzs : z.cells.size = size) (hsz : 0 < size)
    (v : Value) (n : Nat) (xs : List Value) (hs : a.eval s = v) (hown : w.ownsRow base e size v n xs)
    (ad : Addr) (m c : Nat) (news : List Value) (hx : a.eval x = .slice (some ad) m c) (hl : news.length = m * size) (hnews : ∀ j u, news[j]? = some u → w.cell? (ad.add j) = some u) (h1 : ∀ u ∈ news, u.oneCell' = true)
    (hm : 0 < m) (h63 : n + m ≤ maxLen) (hbytes : (n + m) * bytes ≤ 140737488355328) (hbase : base ≤ w.heap.size) (H : Nat) (hH : w.heap.size = H)
    (h : ∀ g cap w', w'.ownsRow base e size (.slice (some ⟨g, 0, none⟩) (n + m) cap) (n + m) (xs ++ news) → w.grownBy w' v.ownBlock → (v.ownBlock = some g ∨ g = H) → g < w'.heap.size →
      (∀ (B k cap0 g0 : Nat) (ys : List Value), w.ownsRow B e size (.slice (some ⟨g0, 0, none⟩) k cap0) k ys → (v.ownBlock = some g0 → k ≤ n) → w'.ownsRow B e size (.slice (some ⟨g0, 0, none⟩) k cap0) k ys) →
      wpList P ops Q rest (a.put o.dst (.slice (some ⟨g, 0, none⟩) (n + m) cap)) w') : wpList P ops Q (o :: rest) a w :=
  wpList_plain hgd fun _ hK => by
    obtain ⟨g, cap, w', hr, h2, h3, h4, h5, h6⟩ := run_append_keeps (P := P) w t o.type base e i z size bytes ht hi hz hsize hby hzs hsz v n xs hown ad m c news hl hnews h1 hm h63 hbytes hbase H hH
    unfold Oper.wp execOp
    simp only [ho, resolve, invoke, builtin, Sem.run_bind, Sem.run_pure, Result.andThen_ok, List.map_toArray, List.map_cons, List.map_nil, hs, hx, hr]
    exact hK _ _ (h g cap w' h2 h3 h4 h5 h6)


/-! ### lists that are written over and gone on with -/
/-- Rows of numbers that are no longer than the one that is gone on with stay. -/
def KpI (w w' : World) (v : Value) (n : Nat) : Prop := ∀ (B k cap0 g0 : Nat) (ys : List Value), w.ownsRow B 3 1 (.slice (some ⟨g0, 0, none⟩) k cap0) k ys → (v.ownBlock = some g0 → k ≤ n) → w'.ownsRow B 3 1 (.slice (some ⟨g0, 0, none⟩) k cap0) k ys
theorem IOwn.kept {w w' : World} {B n : Nat} {v v0 : Value} {l : List Int} (h : IOwn w B v0 l) (k : KpI w w' v n) (hn : ∀ q, v.ownBlock = some q → v0.ownBlock = some q → l.length ≤ n) : IOwn w' B v0 l := by
  rcases h.2 with ⟨e1, e2⟩ | ⟨g, cap, cur, e, -⟩
  · exact ⟨h.1, Or.inl ⟨e1, e2⟩⟩
  · subst e
    exact k _ _ _ _ _ h (fun e => hn g e rfl)
/-- One number more. -/
theorem wpList_int {w : World} {ops : Array Oper} {rest : List Oper} {o : Oper} {a : Act} {Q : Exit → Act → World → Prop} (hgd : o.guard = none) (s x : Operand) (ho : o.op = .call { callee := .builtin .append, args := #[s, x], argTypes := #[25, 25] })
    {B k H c : Nat} {v : Value} {l : List Int} {z : Int} (hs : a.eval s = v) (hx : a.eval x = .slice (some ⟨H, 0, none⟩) 1 c)
    (h : IOwn w B v l) (hk : l.length = k) (hb : w.heap[H]? = some (.cells #[vI z] 3)) (hl : k ≤ 2000000000) (hB : B ≤ w.heap.size)
    (K : ∀ g cap w', IOwn w' B (.slice (some ⟨g, 0, none⟩) (k + 1) cap) (l ++ [z]) → Fr (fun q => v.ownBlock = some q) w w' → (v.ownBlock = some g ∨ g = w.heap.size) → KpI w w' v k → wpList Tryz.prog ops Q rest (a.put o.dst (.slice (some ⟨g, 0, none⟩) (k + 1) cap)) w') :
    wpList Tryz.prog ops Q (o :: rest) a w := by
  subst hk
  obtain ⟨i3, hi3, hz3, hs3, hb3⟩ := info_parts (P := Tryz.prog) (e := 3) (z := .int .i64 0) (size := 1) (bytes := 8) (by kernel_rfl)
  refine wpList_append_keeps hgd s x 25 ho B 3 i3 (.int .i64 0) 1 8 under64 hi3 hz3 hs3 hb3 rfl (by omega) v l.length (l.map vI) hs h ⟨H, 0, none⟩ 1 c [vI z] hx rfl (World.news_of_block (cs := #[vI z]) hb) (by intro y hy; rw [List.mem_singleton] at hy; rw [hy]; rfl) (by omega) (by unfold maxLen; omega) (by omega) hB w.heap.size rfl ?_
  intro g cap w' hown hgrow hat _ hkp
  exact K g cap w' (by unfold IOwn; simpa using hown) (grown_frL hgrow) hat hkp
/-- m lists, each in a row of its own below B2. -/
structure Lm (w : World) (B1 B2 : Nat) (v : Value) (m : Nat) (U : Nat → Value) (xs : Nat → List Int) : Prop where
  row : w.ownsRow B1 25 1 v m ((List.range m).map U)
  own : ∀ j, j < m → IOwn w B1 (U j) (xs j)
  ap : ∀ i j, i < m → j < m → i ≠ j → ∀ q, (U i).ownBlock = some q → (U j).ownBlock ≠ some q
  lt : ∀ j, j < m → ∀ q, (U j).ownBlock = some q → q < B2
  vb : ∀ q, v.ownBlock = some q → q < B2
theorem LOd.lm {w : World} {B : Nat} {v : Value} {us : List Value} {ls : List (List Int)} {m : Nat} (h : LOd w B v us ls) (hm : ls.length = m) : Lm w B w.heap.size v m (fun i => us.getD i undef) (fun i => ls.getD i []) := by
  have hu : us.length = m := by rw [h.ul, hm]
  have hg : ∀ i (hi : i < m), us.getD i undef = us[i]'(by omega) := fun i hi => by rw [List.getD_eq_getElem?_getD, List.getElem?_eq_getElem (by omega)]; rfl
  refine ⟨?_, fun j hj => ?_, fun i j hi hj hne q e e2 => ?_, fun j hj q e => ?_, fun q e => (World.ownsRow.lt h.row q e).2⟩
  · have e : (List.range m).map (fun i => us.getD i undef) = us := by
      apply List.ext_getElem
      · simp [hu]
      · intro i h1 h2
        rw [List.getElem_map, List.getElem_range, hg i (by omega)]
    rw [e, ← hu]
    exact h.row
  · have := h.each j (by omega) (by omega)
    rw [hg j hj, List.getD_eq_getElem?_getD, List.getElem?_eq_getElem (by omega)]
    exact this
  · have e : (us.getD i undef).ownBlock = some q := e
    have e2 : (us.getD j undef).ownBlock = some q := e2
    rw [hg i hi] at e
    rw [hg j hj] at e2
    exact h.ap i j (by omega) (by omega) hne q e e2
  · have e : (us.getD j undef).ownBlock = some q := e
    rw [hg j hj] at e
    exact (h.toLOc.below (by omega) e).2
section
variable {w : World} {B1 B2 m : Nat} {v : Value} {U : Nat → Value} {xs : Nat → List Int}
theorem Lm.stay {w' : World} (h : Lm w B1 B2 v m U xs) (f : Fr (fun _ => False) w w') : Lm w' B1 B2 v m U xs :=
  ⟨ownsRow_frL h.row f (fun _ _ e => e), fun j hj => (h.own j hj).fr f (fun _ _ e => e), h.ap, h.lt, h.vb⟩
theorem Lm.at (h : Lm w B1 B2 v m U xs) {i : Nat} (hi : i < m) : ∃ g c a ca, v = .slice (some ⟨g, 0, none⟩) m c ∧ w.cell? ⟨g, i, none⟩ = some (.slice a (xs i).length ca) ∧ U i = .slice a (xs i).length ca ∧ g < w.heap.size := by
  obtain ⟨g, c, e, hg, hc⟩ := own_cell h.row (j := i) (u := U i) (by rw [List.getElem?_map, List.getElem?_range hi]; rfl)
  obtain ⟨a, ca, e2⟩ := iown_cap (h.own i hi)
  exact ⟨g, c, a, ca, e, by rw [← e2]; exact hc, e2, hg⟩
/-- A number is written over. -/
theorem Lm.set {i t g c : Nat} (h : Lm w B1 B2 v m U xs) (hi : i < m) (e : U i = .slice (some ⟨g, 0, none⟩) (xs i).length c) (z : Int) : Lm (w.setCell ⟨g, t, none⟩ (vI z)) B1 B2 v m U (at1 xs i ((xs i).set t z)) ∧ w.frozen? ⟨g, t, none⟩ = false ∧ B1 ≤ g ∧ g < B2 ∧ g < w.heap.size := by
  have f := setCell_fr w g t (vI z)
  have ho := h.own i hi
  have eb : (U i).ownBlock = some g := by rw [e]; rfl
  have hk : (w.ownsRow B1 3 1 (.slice (some ⟨g, 0, none⟩) (xs i).length c) (xs i).length ((xs i).map vI)) := by rw [← e]; exact ho
  have hs := row_set (j := t) hk (vI z)
  refine ⟨⟨ownsRow_frL h.row f (fun q e1 e2 => ?_), fun j hj => ?_, h.ap, h.lt, h.vb⟩, hs.2, (ho.ge g eb).1, h.lt i hi g eb, (ho.ge g eb).2⟩
  · have e2 : q = g := e2
    subst e2
    exact own_apart h.row ho (by decide) q eb e1
  · by_cases hij : j = i
    · subst hij
      rw [at1_self]
      unfold IOwn
      rw [List.length_set, e, List.map_set]
      exact hs.1
    · rw [at1_ne _ _ hij]
      exact (h.own j hj).fr f (fun q e1 e2 => by
        have e2 : q = g := e2
        subst e2
        exact h.ap j i hj hi hij q e1 eb)
end
/-- The marks of list j. -/
def mrX (n : Nat → Nat) (j : Nat) : List Int := List.replicate (n j) (1000 + (j : Int))
theorem mrX_len (n : Nat → Nat) (j : Nat) : (mrX n j).length = n j := by unfold mrX; simp
theorem marked {xs : List Int} {n j : Nat} {f : Nat → Nat} (hl : xs.length = f j) (h : ∀ t, t < f j → xs[t]? = some (1000 + (j : Int))) : xs = mrX f j := by
  apply List.ext_getElem?
  intro t
  unfold mrX
  by_cases ht : t < f j
  · rw [h t ht, List.getElem?_replicate, if_pos ht]
  · rw [List.getElem?_eq_none (by omega), List.getElem?_eq_none (by simp; omega)]
/-- While the lists are gone on with. -/
structure FmX (w3 w : World) (B1 B2 : Nat) (v : Value) (m : Nat) (U : Nat → Value) (n : Nat → Nat) (fv : Value) (F : Nat → Value) (i : Nat) : Prop where
  l : Lm w B1 B2 v m U (mrX n)
  far : w.ownsRow w3.heap.size 25 1 fv i ((List.range i).map F)
  fown : ∀ j, j < i → IOwn w B1 (F j) (mrX n j ++ List.replicate 64 (-1000 - (j : Int)))
  fat : ∀ j, j < i → ∀ q, (F j).ownBlock = some q → (U j).ownBlock = some q ∨ w3.heap.size ≤ q
  fr : Fr (fun q => B1 ≤ q ∧ q < B2) w3 w
  b3 : B2 ≤ w3.heap.size
/-- One of them, k numbers on. -/
structure GmX (w3 w : World) (B1 B2 : Nat) (v : Value) (m : Nat) (U : Nat → Value) (n : Nat → Nat) (fv : Value) (F : Nat → Value) (i k : Nat) (wv : Value) : Prop extends FmX w3 w B1 B2 v m U n fv F i where
  wo : IOwn w B1 wv (mrX n i ++ List.replicate k (-1000 - (i : Int)))
  wat : ∀ q, wv.ownBlock = some q → ((U i).ownBlock = some q ∨ w3.heap.size ≤ q) ∧ ∀ j, j < i → (F j).ownBlock ≠ some q
section
variable {w3 w : World} {B1 B2 m : Nat} {v : Value} {U : Nat → Value} {n : Nat → Nat} {fv : Value} {F : Nat → Value} {i k : Nat} {wv : Value}
theorem FmX.stay {w' : World} (h : FmX w3 w B1 B2 v m U n fv F i) (f : Fr (fun _ => False) w w') : FmX w3 w' B1 B2 v m U n fv F i :=
  ⟨h.l.stay f, ownsRow_frL h.far f (fun _ _ e => e), fun j hj => (h.fown j hj).fr f (fun _ _ e => e), h.fat, h.fr.then f (fun _ _ e => e.elim), h.b3⟩
theorem GmX.stay {w' : World} (h : GmX w3 w B1 B2 v m U n fv F i k wv) (f : Fr (fun _ => False) w w') : GmX w3 w' B1 B2 v m U n fv F i k wv :=
  ⟨h.toFmX.stay f, h.wo.fr f (fun _ _ e => e), h.wat⟩
theorem FmX.gm (h : FmX w3 w B1 B2 v m U n fv F i) (hi : i < m) : GmX w3 w B1 B2 v m U n fv F i 0 (U i) := by
  refine ⟨h, by rw [List.replicate_zero, List.append_nil]; exact h.l.own i hi, fun q e => ⟨Or.inl e, fun j hj e2 => ?_⟩⟩
  have h1 := h.l.lt i hi q e
  have h3 := h.b3
  rcases h.fat j hj q e2 with e3 | e3
  · exact h.l.ap j i (by omega) hi (by omega) q e3 e
  · omega
theorem GmX.more {w' : World} {g cap : Nat} (h : GmX w3 w B1 B2 v m U n fv F i k wv) (hi : i < m) (ho : IOwn w' B1 (.slice (some ⟨g, 0, none⟩) (n i + k + 1) cap) (mrX n i ++ List.replicate k (-1000 - (i : Int)) ++ [-1000 - (i : Int)])) (f : Fr (fun q => wv.ownBlock = some q) w w') (hat : wv.ownBlock = some g ∨ g = w.heap.size) (hk : KpI w w' wv (n i + k)) :
    GmX w3 w' B1 B2 v m U n fv F i (k + 1) (.slice (some ⟨g, 0, none⟩) (n i + k + 1) cap) := by
  have hb3 := h.b3
  have hsz := h.fr.size
  have hub : ∀ j, j < m → j ≠ i → ∀ q, (U j).ownBlock = some q → wv.ownBlock ≠ some q := fun j hj hne q e e2 => by
    have h1 := h.l.lt j hj q e
    rcases (h.wat q e2).1 with e3 | e3
    · exact h.l.ap j i hj hi hne q e e3
    · omega
  refine ⟨⟨⟨ownsRow_frL h.l.row f (fun q e e2 => own_apart h.l.row h.wo (by decide) q e2 e), fun j hj => ?_, h.l.ap, h.l.lt, h.l.vb⟩, ownsRow_frL h.far f (fun q e e2 => own_apart h.far h.wo (by decide) q e2 e), fun j hj => (h.fown j hj).fr f (fun q e e2 => (h.wat q e2).2 j hj e), h.fat, h.fr.then f (fun q hq e => ?_), hb3⟩, ?_, fun q e => ?_⟩
  · refine (h.l.own j hj).kept hk (fun q e e2 => ?_)
    by_cases hij : j = i
    · rw [hij, mrX_len]; omega
    · exact absurd e (hub j hj hij q e2)
  · rcases (h.wat q e).1 with e3 | e3
    · exact ⟨(h.l.own i hi |>.ge q e3).1, h.l.lt i hi q e3⟩
    · omega
  · rw [List.replicate_succ', ← List.append_assoc]; exact ho
  · have e : g = q := by injection e
    subst e
    rcases hat with hat | hat
    · exact h.wat _ hat
    · refine ⟨Or.inr (by omega), fun j hj e2 => ?_⟩
      have := ((h.fown j hj).ge _ e2).2
      omega
/-- A list that was gone on with is told. -/
theorem GmX.told {w' : World} {g cap : Nat} (h : GmX w3 w B1 B2 v m U n fv F i 64 wv) (ho : w'.ownsRow w3.heap.size 25 1 (.slice (some ⟨g, 0, none⟩) (i + 1) cap) (i + 1) ((List.range i).map F ++ [wv])) (f : Fr (fun q => fv.ownBlock = some q) w w') :
    FmX w3 w' B1 B2 v m U n (.slice (some ⟨g, 0, none⟩) (i + 1) cap) (at1 F i wv) (i + 1) := by
  have hb3 := h.b3
  have hfb : ∀ q, fv.ownBlock = some q → w3.heap.size ≤ q := fun q e => (World.ownsRow.lt h.far q e).1
  have ka : ∀ u l, IOwn w B1 u l → IOwn w' B1 u l := fun u l hu => hu.fr f (fun q e e2 => own_apart h.far hu (by decide) q e e2)
  refine ⟨⟨ownsRow_frL h.l.row f (fun q e e2 => ?_), fun j hj => ka _ _ (h.l.own j hj), h.l.ap, h.l.lt, h.l.vb⟩, ?_, fun j hj => ?_, fun j hj q e => ?_, h.fr.then f (fun q hq e => ?_), hb3⟩
  · have := h.l.vb q e
    have := hfb q e2
    omega
  · rw [List.range_succ, List.map_append, List.map_singleton, at1_self]
    have e : (List.range i).map (at1 F i wv) = (List.range i).map F := List.map_congr_left (fun x hx => at1_ne _ _ (by have := List.mem_range.1 hx; omega))
    rw [e]
    exact ho
  · by_cases hij : j = i
    · rw [hij, at1_self]; exact ka _ _ h.wo
    · rw [at1_ne _ _ hij]; exact ka _ _ (h.fown j (by omega))
  · by_cases hij : j = i
    · rw [hij, at1_self] at e
      rw [hij]
      exact (h.wat q e).1
    · rw [at1_ne _ _ hij] at e
      exact h.fat j (by omega) q e
  · have := hfb q e; omega
end
end Go.Proofs.YtjmbfjaahadbhaaGreatDoor
