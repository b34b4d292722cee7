import Derived.Test.YtihicdbplmdjiaaQNc
namespace Go.Proofs.Ytihicdbplmdjiaa
open Go.RowKit (wrap32 wrap64)
set_option linter.unusedVariables false
set_option linter.unusedSimpArgs false

/-- The moments with marks lie as a history does. -/
theorem SpH.hat {w w0 : World} {B : Nat} {lv hv : Value} {h : List Mo} (x : SpH w B lv h) (hh : HAt2 w0 hv h) : ∃ ms, HAt2 w lv ms ∧ ms.map Mo.pl = h.map Mo.pl ∧ ms.length = h.length := by
  obtain ⟨g, cap, ms, rfl, hown, hlen, hsp⟩ := x
  have hpl := spm_pl hsp hlen
  obtain ⟨-, -, -, -, h2⟩ := hh.1
  have key : ∀ m' ∈ ms, m'.R.At w ∧ m'.R.r.keys.length ≤ 1000000000000000000 ∧ In64 m'.c ∧ MOk m' := fun m' hm' => by
    obtain ⟨k, hk⟩ := List.getElem?_of_mem hm'
    obtain ⟨m, hm, ⟨kv, vv, e⟩, hl⟩ := hsp k m' hk
    have hmem := List.mem_of_getElem? hm
    have h3 := h2 m hmem
    have h4 := hh.2 m hmem
    have ha := hl.at
    subst e
    exact ⟨ha, h3.2.1, h3.2.2, ⟨h4.len, h4.ky, h4.keys⟩⟩
  refine ⟨ms, ⟨⟨some ⟨g, 0, none⟩, cap, by rw [hlen], fun hne => ⟨g, 0, rfl, fun i hi j hj => ?_⟩, fun m hm => ⟨(key m hm).1, (key m hm).2.1, (key m hm).2.2.1⟩⟩, fun m hm => (key m hm).2.2.2⟩, hpl, hlen⟩
  obtain ⟨ad, cap', e, hx⟩ := hown.at
  obtain ⟨g', o', e2, hc⟩ := hx (fun e => by have := congrArg List.length e; rw [List.length_append, mkMs_len] at this; simp at this)
  simp only [Value.slice.injEq] at e
  obtain ⟨e, -, -⟩ := e
  subst e
  cases e2
  have hlt : i < (ms ++ mkMs 64).length := by rw [List.length_append]; omega
  rw [hc i hlt j hj, List.getElem_append_left hi]
set_option maxRecDepth 100000 in
set_option maxHeartbeats 4000000 in
/-- stays. -/
theorem stays_any (lv hv : Value) (h : List Mo) (B : Nat) (w : World) (hs : SpH w B lv h) (hh : HAt2 w hv h) (hl : h.length ≤ 3000000000) (hL : ∀ m ∈ h, m.R.r.keys.length ≤ 3000000000 ∧ m.R.r.vals.length ≤ 3000000000) :
    Calls Try.prog 22 #[lv, hv] w fun e w' => e = .returned (.bool true) ∧ Fr (fun _ => False) w w' := by
  have heq : Calls Try.prog 36 #[lv, hv] w fun e w' => e = .returned (.bool true) ∧ Fr (fun _ => False) w w' := by
    obtain ⟨ms, q1, q2, -⟩ := hs.hat hh
    exact eqHistory_any lv hv ms h w q1.1 hh.1 (by omega) (fun m hm => by have := hL m hm; omega) q2
  obtain ⟨g, cap, ms, rfl, hown, hlen, hsp⟩ := hs
  obtain ⟨ad', cap', rfl, h1', h2'⟩ := hh.1
  have HX' : Hd (∀ i (hi : i < h.length), ∃ g o, ad' = some ⟨g, o, none⟩ ∧ ∀ W, Fr (fun _ => False) w W → ∀ j, j < 9 → W.cell? ⟨g, o + i * 9 + j, none⟩ = (m9 h[i])[j]?) := fun i hi => by
    obtain ⟨g, o, ea, hc⟩ := h1' (fun e => by rw [e] at hi; simp at hi)
    refine ⟨g, o, ea, fun W f j hj => (f.cell ?_ (fun e => e)).trans (hc i hi j hj)⟩
    have := hc i hi j hj
    rw [List.getElem?_eq_getElem (by exact hj)] at this
    exact cell_lt this
  have HXS : Hd (∀ i (hi : i < (ms ++ mkMs 64).length), ∀ W, Fr (fun _ => False) w W → ∀ j, j < 9 → W.cell? ⟨g, i * 9 + j, none⟩ = (m9 (ms ++ mkMs 64)[i])[j]?) := fun i hi W f j hj => by
    obtain ⟨ad, c2, e, hx⟩ := hown.at
    obtain ⟨g', o', e2, hc⟩ := hx (fun e => by rw [e] at hi; simp at hi)
    simp only [Value.slice.injEq] at e
    obtain ⟨e, -, -⟩ := e
    subst e
    cases e2
    have := hc i hi j hj
    rw [Nat.zero_add] at this
    refine (f.cell ?_ (fun e => e)).trans this
    rw [List.getElem?_eq_getElem (by exact hj)] at this
    exact cell_lt this
  have HSP : Hd (SpM w B h ms ∧ (∀ m ∈ h, m.R.At w ∧ m.R.r.keys.length ≤ 3000000000 ∧ m.R.r.vals.length ≤ 3000000000)) := ⟨hsp, fun m hm => ⟨(h2' m hm).1, hL m hm⟩⟩
  have hcap : h.length + 64 ≤ cap := by
    have := hown
    unfold MsOwn at this
    rw [show (ms ++ mkMs 64).length = h.length + 64 by rw [List.length_append, mkMs_len, hlen]] at this
    exact (row_cap this).1
  obtain ⟨n, en⟩ : ∃ n, n = h.length := ⟨_, rfl⟩
  have EN : Hd (n = h.length ∧ n = ms.length) := ⟨en, by omega⟩
  rw [← en] at heq hl hcap ⊢
  clear hown hsp h1' h2' hh hL hlen en
  have q0 : (0 : Int) ≤ (n : Int) + 64 := by omega
  have q1 : (n : Int) + 64 ≤ cap := by omega
  go_enter Try.func22, Try.ntmps22
  go_upto_region 5 with (go_at_call 36; refine heq.mono ?_; rintro _ w1 ⟨rfl, hf1⟩; have HF1 : Hd (Fr (fun _ => False) w w1) := hf1; clear hf1)
  clear heq
  go_loopw [6] (fun v wr => ∃ j : Nat, v = vI j ∧ j ≤ 64 ∧ Hd (Fr (fun _ => False) w wr)) (fun v _ => match v with | .int _ q => 64 - q.toNat | _ => 0)
  case atStart => exact ⟨0, rfl, by omega, HF1.out⟩
  case round =>
    clear HF1
    obtain ⟨j, rfl, hj, HR⟩ := hrel
    by_cases hj64 : j < 64
    · have j0 : (0 : Int) ≤ j := by omega
      have j1 : (j : Int) < 64 := by omega
      have hx := HXS.out (n + j) (by rw [List.length_append, mkMs_len]; have := EN.out.2; omega) wr HR.out 0 (by omega)
      rw [List.getElem_append_right (by have := EN.out.2; omega)] at hx
      have hz : (m9 ((mkMs 64)[n + j - ms.length]'(by rw [mkMs_len]; have := EN.out.2; omega)))[0]? = some (vI (-22 - (j : Int))) := by
        have e1 : n + j - ms.length = j := by have := EN.out.2; omega
        simp only [e1]
        unfold mkMs
        rw [List.getElem_map, List.getElem_range]
        rfl
      rw [hz] at hx
      have e3 : ((n : Int) + j).toNat * 9 = (n + j) * 9 := by omega
      have hx2 : wr.cell? ⟨g, (n + j) * 9, none⟩ = some (vI (-22 - (j : Int))) := hx
      have hx3 : wr.cell? ⟨g, ((n : Int) + j).toNat * 9, none⟩ = some (vI (-22 - (j : Int))) := by rw [e3]; exact hx2
      have q2 : (0 : Int) ≤ (n : Int) + j := by omega
      have q3 : (n : Int) + j < (n : Int) + 64 := by omega
      have hee : ((-22 - (j : Int)) == (-22 - (j : Int))) = true := by simp
      clear hz hx
      go_wp2_with fail
      exact ⟨⟨j + 1, by simp, by omega, HR.out⟩, by simp; omega⟩
    · have j2 : ¬ (j : Int) < 64 := by omega
      have HFW : Hd (Fr (fun _ => False) w wr) := HR.out
      clear HR
      go_upto_region 10 with fail
      go_loopw [7] (fun v w2 => ∃ i : Nat, v = vI i ∧ i ≤ n ∧ Hd (Fr (fun _ => False) w w2)) (fun v _ => match v with | .int _ q => n - q.toNat | _ => 0)
      case atStart => exact ⟨0, rfl, by omega, HFW.out⟩
      case round =>
        clear HFW
        obtain ⟨i, rfl, hi, HR⟩ := hrel
        by_cases hin : i < n
        · have i0 : (0 : Int) ≤ i := by omega
          have i1 : (i : Int) < n := by omega
          have hih : i < h.length := by have := EN.out.1; omega
          have him : i < ms.length := by have := EN.out.2; omega
          obtain ⟨g', o', rfl, hc'⟩ := HX'.out i hih
          have hcw := hc' wr HR.out
          have hs := HXS.out i (by rw [List.length_append]; omega) wr HR.out
          rw [List.getElem_append_left him] at hs
          obtain ⟨m, hm, ⟨kv, vv, em⟩, hspl⟩ := HSP.out.1 i ms[i] (List.getElem?_eq_getElem him)
          have hmm : m = h[i] := by rw [List.getElem?_eq_getElem hih] at hm; exact (Option.some.inj hm).symm
          have hma := HSP.out.2 m (List.mem_of_getElem? hm)
          rw [← hmm] at hcw
          rw [em] at hs hspl
          obtain ⟨gk, ck, gv, cv, ek, ev, hok, hov⟩ := hspl
          unfold Mo.with at hs ek ev
          simp only at ek ev
          subst ek ev
          obtain ⟨mc, mbeg, mkd, mky, mv, ⟨⟨mok, mval, ks, vs⟩, mkv, mvv⟩⟩ := m
          obtain ⟨ka, kc, ekv⟩ := row_slice hma.1.1
          obtain ⟨va, vc, evv⟩ := row_slice hma.1.2
          simp only [List.length_map] at ekv evv hok hov hma hs
          subst ekv evv
          unfold m9 at hcw hs
          have x7 := hcw 7 (by omega)
          have x8 := hcw 8 (by omega)
          have z7 := hs 7 (by omega)
          have z8 := hs 8 (by omega)
          simp only [List.getElem?_cons_zero, List.getElem?_cons_succ] at x7 x8 z7 z8
          have hck := (row_cap hok).1
          have hcv := (row_cap hov).1
          obtain ⟨nk, enk⟩ : ∃ nk, nk = ks.length := ⟨_, rfl⟩
          obtain ⟨nv, env⟩ : ∃ nv, nv = vs.length := ⟨_, rfl⟩
          rw [← enk] at x7 z7 hck hok
          rw [← env] at x8 z8 hcv hov
          have HOK : Hd ((∀ j (hj : j < 64), ∀ W, Fr (fun _ => False) w W → W.cell? ⟨gk, nk + j, none⟩ = some (vI (-21 - (j : Int))) ∧ W.cell? ⟨gv, nv + j, none⟩ = some (.string spB)) ∧ nk ≤ 3000000000 ∧ nv ≤ 3000000000) := by
            refine ⟨fun j hj W f => ⟨?_, ?_⟩, by rw [enk]; exact hma.2.1, by rw [env]; exact hma.2.2⟩
            · have h1 := (row_cell hok (nk + j) (by omega)).1
              rw [List.getElem?_append_right (by rw [List.length_map]; omega), List.length_map, ← enk, show nk + j - nk = j by omega] at h1
              have h2 : (mkK 64)[j]? = some (vI (-21 - (j : Int))) := by unfold mkK; rw [List.getElem?_map, List.getElem?_range hj]; rfl
              rw [h2] at h1
              exact (f.cell (cell_lt h1) (fun e => e)).trans h1
            · have h1 := (row_cell hov (nv + j) (by omega)).1
              rw [List.getElem?_append_right (by rw [List.length_map]; omega), List.length_map, ← env, show nv + j - nv = j by omega] at h1
              have h2 : (mkV 64)[j]? = some (.string spB) := by unfold mkV; rw [List.getElem?_replicate, if_pos hj]
              rw [h2] at h1
              exact (f.cell (cell_lt h1) (fun e => e)).trans h1
          have q4 : (0 : Int) ≤ (nk : Int) + 64 := by omega
          have q5 : (nk : Int) + 64 ≤ ck := by omega
          have q6 : (0 : Int) ≤ (nv : Int) + 64 := by omega
          have q7 : (nv : Int) + 64 ≤ cv := by omega
          have hb1 : nk ≤ 3000000000 := HOK.out.2.1
          have hb2 : nv ≤ 3000000000 := HOK.out.2.2
          clear hcw hc' hs hok hov hck hcv enk env hm hmm hma em him hih
          go_upto_region 17 with fail
          clear x7 x8 z7 z8
          go_loopw [12] (fun v w2 => ∃ p : Nat, v = vI p ∧ p ≤ 64 ∧ Hd (Fr (fun _ => False) w w2)) (fun v _ => match v with | .int _ q => 64 - q.toNat | _ => 0)
          case atStart => exact ⟨0, rfl, by omega, HR.out⟩
          case round =>
            clear HR
            obtain ⟨p, rfl, hp, HR⟩ := hrel
            by_cases hp64 : p < 64
            · have p0 : (0 : Int) ≤ p := by omega
              have p1 : (p : Int) < 64 := by omega
              obtain ⟨c1, c2⟩ := HOK.out.1 p hp64 wr HR.out
              have c3 : wr.cell? ⟨gk, ((nk : Int) + p).toNat, none⟩ = some (vI (-21 - (p : Int))) := by rw [show ((nk : Int) + p).toNat = nk + p by omega]; exact c1
              have c4 : wr.cell? ⟨gv, ((nv : Int) + p).toNat, none⟩ = some (.string spB) := by rw [show ((nv : Int) + p).toNat = nv + p by omega]; exact c2
              have r0 : (0 : Int) ≤ (nk : Int) + p := by omega
              have r1 : (nk : Int) + p < (nk : Int) + 64 := by omega
              have r2 : (0 : Int) ≤ (nv : Int) + p := by omega
              have r3 : (nv : Int) + p < (nv : Int) + 64 := by omega
              have hee : ((-21 - (p : Int)) == (-21 - (p : Int))) = true := by simp
              go_wp2_with fail
              exact ⟨⟨p + 1, by simp, by omega, HR.out⟩, by simp; omega⟩
            · have p2 : ¬ (p : Int) < 64 := by omega
              go_wp2_with fail
              exact ⟨⟨i + 1, by simp, by omega, HR.out⟩, by simp; omega⟩
        · have i2 : ¬ (i : Int) < n := by omega
          go_wp2_with fail
          go_ret
          exact ⟨rfl, HR.out⟩
end Go.Proofs.Ytihicdbplmdjiaa

namespace Go.Proofs.Ytihicdbplmdjiaa
open Go.RowKit (wrap32 wrap64)
set_option linter.unusedVariables false
set_option linter.unusedSimpArgs false

/-- append to a row of one's own; what else lies in its block ahead of its end stays. -/
theorem run_append_keeps {P : Program} (w : World) (t ty : TypeId) (base : Nat) (e : TypeId) (i : TypeInfo) (z : Value) (size bytes : Nat) (ht : P.underlying t = some (.slice e)) (hi : P.info? e = some i) (hz : i.zero = some z)
    (hsize : i.size = size) (hby : i.bytes = bytes) (hzs : z.cells.size = size) (hsz : 0 < size)
    (v : Value) (n : Nat) (xs : List Value) (hown : w.ownsRow base e size v n xs)
    (ad : Addr) (m c : Nat) (news : List Value) (hl : news.length = m * size) (hnews : ∀ j u, news[j]? = some u → w.cell? (ad.add j) = some u) (h1 : ∀ u ∈ news, u.oneCell' = true)
    (hm : 0 < m) (h63 : n + m ≤ maxLen) (hbytes : (n + m) * bytes ≤ 140737488355328) (hbase : base ≤ w.heap.size) (H : Nat) (hH : w.heap.size = H) :
    ∃ g cap w', (Builtin.append_ #[t, t] ty #[v, .slice (some ad) m c]).run P w = .ok (.slice (some ⟨g, 0, none⟩) (n + m) cap) w' ∧
      w'.ownsRow base e size (.slice (some ⟨g, 0, none⟩) (n + m) cap) (n + m) (xs ++ news) ∧ w.grownBy w' v.ownBlock ∧ (v.ownBlock = some g ∨ g = H) ∧ g < w'.heap.size ∧
      ∀ (B k cap0 g0 : Nat) (ys : List Value), w.ownsRow B e size (.slice (some ⟨g0, 0, none⟩) k cap0) k ys → (v.ownBlock = some g0 → k ≤ n) → w'.ownsRow B e size (.slice (some ⟨g0, 0, none⟩) k cap0) k ys := by
  obtain ⟨g, cap, w', hr, h2, h3, h4, h5⟩ := run_append_lies (P := P) w t ty base e i z size bytes ht hi hz hsize hby hzs hsz v n xs hown ad m c news hl hnews h1 hm h63 hbytes hbase H hH
  refine ⟨g, cap, w', hr, h2, h3, h4, h5, fun B k cap0 g0 ys hrow hk => ?_⟩
  by_cases hv : v.ownBlock = some g0
  · have hkn := hk hv
    rcases hown.2 with ⟨rfl, rfl⟩ | ⟨g1, cap1, cur, rfl, hbg, hg, hnc, hcm, hcs, htake⟩
    · cases hv
    · cases hv
      subst hsize
      rcases hrow.2 with ⟨e1, -⟩ | ⟨g2, cap2, cur2, e1, k1, k2, k3, k4, k5, k6⟩
      · cases e1
      · cases e1
        rw [hg] at k2
        cases k2
        by_cases hroom : n + m ≤ cap1
        · have hfit : n * i.size + news.length ≤ cur.size := by rw [hl, hcs, ← Nat.add_mul]; exact Nat.mul_le_mul_right _ hroom
          have hr2 := run_append_room (P := P) w t ty e i ht hi g1 n cap1 cur hg ad m c news hl hnews h1 hroom hfit
          have hw := hr.symm.trans hr2
          injection hw with hw1 hw2
          subst hw2
          refine ⟨hrow.1, Or.inr ⟨g1, cap0, _, rfl, k1, setRow_heap w g1 cur _ e _ hg, k3, k4, ?_, ?_⟩⟩
          · simp only [List.size_toArray, List.length_append, List.length_take, List.length_drop, Array.length_toList]
            omega
          · rw [← k6, List.append_assoc]
            have hle : k * i.size ≤ n * i.size := Nat.mul_le_mul_right _ hkn
            rw [List.take_append_of_le_length (by rw [List.length_take, Array.length_toList]; omega), List.take_take]
            congr 1
            omega
        · have holds : ∀ j u, xs[j]? = some u → w.cell? ((⟨g1, 0, none⟩ : Addr).add j) = some u := hown.cells (g := g1) rfl
          have hr2 := run_append_grow (P := P) w t ty e i z ht hi hz ⟨g1, 0, none⟩ n cap1 xs hown.1 holds ad m c news hl hnews (by omega) (by simp only [maxLen] at h63; omega) (growslice_fits (by omega) (by rw [hby]; exact hbytes))
          have hw := hr.symm.trans hr2
          injection hw with hw1 hw2
          subst hw2
          refine ⟨hrow.1, Or.inr ⟨g1, cap0, cur, rfl, k1, ?_, k3, k4, k5, k6⟩⟩
          exact (Go.RowKit.Below.heap_alloc w.drew _ g1 (heap_lt hg)).trans hg
  · exact ownsRow_fr hrow (grown_fr h3) (fun j ej e => by cases ej; exact hv e)

theorem wpList_append_keeps {P : Program} {w : World} {ops : Array Oper} {rest : List Oper} {o : Oper} {a : Act} {Q : Exit → Act → World → Prop} (hgd : o.guard = none) (s x : Operand) (t : TypeId)
    (ho : o.op = .call { callee := .builtin .append, args := #[s, x], argTypes := #[t, t] })
    (base : Nat) (e : TypeId) (i : TypeInfo) (z : Value) (size bytes : Nat) (ht : P.underlying t = some (.slice e)) (hi : P.info? e = some i) (hz : i.zero = some z)
    (hsize : i.size = size) (hby : i.bytes = bytes) (hzs : z.cells.size = size) (hsz : 0 < size)
    (v : Value) (n : Nat) (xs : List Value) (hs : a.eval s = v) (hown : w.ownsRow base e size v n xs)
    (ad : Addr) (m c : Nat) (news : List Value) (hx : a.eval x = .slice (some ad) m c) (hl : news.length = m * size) (hnews : ∀ j u, news[j]? = some u → w.cell? (ad.add j) = some u) (h1 : ∀ u ∈ news, u.oneCell' = true)
    (hm : 0 < m) (h63 : n + m ≤ maxLen) (hbytes : (n + m) * bytes ≤ 140737488355328) (hbase : base ≤ w.heap.size) (H : Nat) (hH : w.heap.size = H)
    (h : ∀ g cap w', w'.ownsRow base e size (.slice (some ⟨g, 0, none⟩) (n + m) cap) (n + m) (xs ++ news) → w.grownBy w' v.ownBlock → (v.ownBlock = some g ∨ g = H) → g < w'.heap.size →
      (∀ (B k cap0 g0 : Nat) (ys : List Value), w.ownsRow B e size (.slice (some ⟨g0, 0, none⟩) k cap0) k ys → (v.ownBlock = some g0 → k ≤ n) → w'.ownsRow B e size (.slice (some ⟨g0, 0, none⟩) k cap0) k ys) →
      wpList P ops Q rest (a.put o.dst (.slice (some ⟨g, 0, none⟩) (n + m) cap)) w') : wpList P ops Q (o :: rest) a w :=
  wpList_plain hgd fun _ hK => by
    obtain ⟨g, cap, w', hr, h2, h3, h4, h5, h6⟩ := run_append_keeps (P := P) w t o.type base e i z size bytes ht hi hz hsize hby hzs hsz v n xs hown ad m c news hl hnews h1 hm h63 hbytes hbase H hH
    unfold Oper.wp execOp
    simp only [ho, resolve, invoke, builtin, Sem.run_bind, Sem.run_pure, Result.andThen_ok, List.map_toArray, List.map_cons, List.map_nil, hs, hx, hr]
    exact hK _ _ (h g cap w' h2 h3 h4 h5 h6)


theorem und25' : Try.prog.underlying 25 = some (.slice 3) := und25
/-- One number more; a shorter row of the same block stays. -/
theorem app_keeps {w : World} {B n k : Nat} {v av : Value} {xs ys : List Value} {z : Int} (h : w.ownsRow B 3 1 v n xs) (ha : w.ownsRow B 3 1 av k ys) (hk : k ≤ n) (hB : B ≤ w.heap.size) (hn : n ≤ 4000000000) :
    ∃ g cap w2, (Builtin.append_ #[25, 25] 25 #[v, .slice (some ⟨w.heap.size, 0, none⟩) 1 1]).run Try.prog (w.alloc (.cells #[vI z] 3)) = .ok (.slice (some ⟨g, 0, none⟩) (n + 1) cap) w2 ∧ w2.ownsRow B 3 1 (.slice (some ⟨g, 0, none⟩) (n + 1) cap) (n + 1) (xs ++ [vI z]) ∧ w2.ownsRow B 3 1 av k ys ∧ Fr (fun j => v.ownBlock = some j) w w2 ∧ (v.ownBlock = some g ∨ w.heap.size ≤ g) := by
  obtain ⟨i, hi, hz, hs, hby⟩ := info_parts info3
  obtain ⟨g, cap, w2, hr, hown, hgr, hw, -, hkp⟩ := run_append_keeps (P := Try.prog) (w.alloc (.cells #[vI z] 3)) 25 25 B 3 i (vI 0) 1 8 und25 hi hz hs hby rfl (by omega) v n xs (World.ownsRow.alloc h _) ⟨w.heap.size, 0, none⟩ 1 1 [vI z] rfl (World.news_of_block (heap_alloc_last w _)) (by intro u hu; rw [List.mem_singleton.1 hu]; rfl) (by omega) (by unfold maxLen; omega) (by omega) (by simp; omega) _ rfl
  refine ⟨g, cap, w2, hr, hown, ?_, ((Fr.refl _ w).alloc _).trans (grown_fr hgr), by rcases hw with e | e; exact Or.inl e; right; rw [e]; simp⟩
  rcases ha.2 with ⟨rfl, hk0⟩ | ⟨g0, c0, cur, rfl, -⟩
  · exact ⟨ha.1, Or.inl ⟨rfl, hk0⟩⟩
  · exact hkp B k c0 g0 ys (World.ownsRow.alloc ha _) (fun _ => hk)
theorem own_put {w : World} {B g n cap : Nat} {xs : List Value} (h : w.ownsRow B 3 1 (.slice (some ⟨g, 0, none⟩) n cap) n xs) (i : Nat) (hi : i < n) (u : Value) : (w.setCell ⟨g, i, none⟩ u).ownsRow B 3 1 (.slice (some ⟨g, 0, none⟩) n cap) n (xs.set i u) := by
  obtain ⟨h0, h1⟩ := h
  rcases h1 with ⟨e1, -⟩ | ⟨g', cap', cur, e1, k1, k2, k3, k4, k5, k6⟩
  · cases e1
  · cases e1
    refine ⟨by rw [List.length_set]; exact h0, Or.inr ⟨g, cap, cur.setIfInBounds i u, rfl, k1, set_of k2 _ u, k3, k4, by simpa using k5, ?_⟩⟩
    rw [← k6, Array.toList_setIfInBounds, List.take_set]
/-- What Order tells, as numbers. -/
def OrdIs (h : List Mo) (os : List Int) : Prop :=
  (callsX h = none ∧ os = []) ∨ ∃ cs, callsX h = some cs ∧ (((possibleB (madeX cs) cs = false ∨ Ord (waitsX cs) (2 ^ cs.length - 1) [] none) ∧ os = []) ∨ ∃ acc, possibleB (madeX cs) cs = true ∧ Ord (waitsX cs) (2 ^ cs.length - 1) [] (some acc) ∧ os = acc.map (bI cs))
theorem OrdIs.own {h : List Mo} {os : List Int} (x : OrdIs h os) {w w' : World} {lv : Value} {ok : Bool} {er : Int} (o : OrderE h w w' lv ok er) : w'.ownsRow w.heap.size 3 1 lv os.length (os.map vI) := by
  rcases o with ⟨h1, rfl, -, -⟩ | ⟨cs, h1, -, h2⟩
  · rcases x with ⟨-, rfl⟩ | ⟨cs, e, -⟩
    · exact World.ownsRow_nil _ _ _ _
    · rw [h1] at e; cases e
  · rcases x with ⟨e, -⟩ | ⟨cs', e, hx⟩
    · rw [h1] at e; cases e
    · rw [h1] at e; cases e
      rcases h2 with ⟨hno, rfl, -⟩ | ⟨acc, hp, ho, -, hown⟩
      · rcases hx with ⟨-, rfl⟩ | ⟨acc, hp, ho, -⟩
        · exact World.ownsRow_nil _ _ _ _
        · rcases hno with h3 | h3
          · rw [hp] at h3; cases h3
          · have := h3.unique ho; cases this
      · rcases hx with ⟨hno, -⟩ | ⟨acc', hp', ho', rfl⟩
        · rcases hno with h3 | h3
          · rw [hp] at h3; cases h3
          · have := h3.unique ho; cases this
        · have := ho.unique ho'
          cases this
          have h4 := hown
          rw [List.length_map, List.map_map]
          simpa [Function.comp_def, bI_eq] using h4
theorem OrdIs.same {h h' : List Mo} {os : List Int} (e : h'.map Mo.pl = h.map Mo.pl) (x : OrdIs h os) : OrdIs h' os := by
  rcases calls_same e with ⟨e1, e2⟩ | ⟨cs', cs, e1, e2, hc⟩
  · rcases x with ⟨-, rfl⟩ | ⟨cs, q, -⟩
    · exact Or.inl ⟨e1, rfl⟩
    · rw [e2] at q; cases q
  · rcases x with ⟨q, -⟩ | ⟨cs2, q, hx⟩
    · rw [e2] at q; cases q
    · rw [e2] at q; cases q
      have hl : cs'.length = cs.length := by simpa using congrArg List.length hc
      refine Or.inr ⟨cs', e1, ?_⟩
      rw [possibleX_same hc, waits_same hc, hl]
      rcases hx with hx | ⟨acc, hp, ho, rfl⟩
      · exact Or.inl hx
      · refine Or.inr ⟨acc, hp, ho, List.map_congr_left fun i _ => ?_⟩
        rw [← bI_eq, ← bI_eq]
        have := pl_get hc i
        cases e3 : cs'[i]? <;> cases e4 : cs[i]? <;> rw [e3, e4] at this <;> simp at this ⊢
        have h5 := (Cl.pl_eq.1 this).1
        omega
def mkF (k : Nat) : List Value := (List.range k).map (fun j : Nat => vI (-24 - (j : Int)))
theorem mkF_succ (k : Nat) : mkF (k + 1) = mkF k ++ [vI (-24 - (k : Int))] := by unfold mkF; rw [List.range_succ, List.map_append]; rfl
theorem mkF_len (k : Nat) : (mkF k).length = k := by simp [mkF]
end Go.Proofs.Ytihicdbplmdjiaa
