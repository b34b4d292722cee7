import Derived.Test.YtchilccmnaihkaaQCc
import Derived.Deep.DeepAppendWide
import Derived.Laws.OwnMore
import Derived.Defers
import Derived.Recover
namespace Go.Proofs.Ytchilccmnaihkaa
open Go.RowKit (wrap32 wrap64)
set_option linter.unusedVariables false
set_option linter.unusedSimpArgs false

set_option maxRecDepth 100000 in
set_option maxHeartbeats 1000000 in
theorem end_yes (B b : Nat) (w : World) (h : Rd B w b []) : Calls Try.prog 45 #[.pointer (some ⟨b, 0, none⟩)] w fun e w' => e = .returned (.tuple #[]) ∧ w' = w := by
  obtain ⟨-, -, -, -, v, hb, a, c, rfl, -, -⟩ := h
  have c0 : w.cell? ⟨b, 0, none⟩ = some (.slice a 0 c) := by rw [cell_of hb]; rfl
  clear hb
  go_enter Try.func45, Try.ntmps45
  go_wp2_with fail
  refine (show Calls Try.prog 50 #[.bool true] w _ from must_yes w).mono ?_
  rintro e w' ⟨rfl, rfl⟩
  go_wp2_with fail
  go_end0
  exact ⟨rfl, rfl⟩

set_option maxRecDepth 100000 in
set_option maxHeartbeats 1000000 in
theorem end_no (B b : Nat) (l : List Int) (w : World) (h : Rd B w b l) (hl : l ≠ []) : Calls Try.prog 45 #[.pointer (some ⟨b, 0, none⟩)] w fun e w' => e = .panicked thrown ∧ w' = w := by
  obtain ⟨-, -, hlz, -, v, hb, a, c, rfl, -, -⟩ := h
  have hl0 : 0 < l.length := List.length_pos_iff.2 hl
  obtain ⟨n, hn⟩ : ∃ n, n = l.length := ⟨_, rfl⟩
  rw [← hn] at hb hl0 hlz
  have c0 : w.cell? ⟨b, 0, none⟩ = some (.slice a n c) := by rw [cell_of hb]; rfl
  have hd : ((n : Int) == 0) = false := by simp; omega
  clear hb hn
  go_enter Try.func45, Try.ntmps45
  go_wp2_with fail
  refine (show Calls Try.prog 50 #[.bool false] w _ from must_no w).mono ?_
  rintro e w' ⟨rfl, rfl⟩
  go_wp2_with fail
  exact ⟨rfl, rfl, rfl⟩

end Go.Proofs.Ytchilccmnaihkaa

namespace Go.Proofs.Ytchilccmnaihkaa
open Go.RowKit (wrap32 wrap64)
set_option linter.unusedVariables false
set_option linter.unusedSimpArgs false

section
variable {P : Program}
/-- append onto an owned row, the bound widened towards growslice's own; where the row lies afterwards. -/
theorem run_append_lw (w : World) (t ty : TypeId) (base : Nat) (e : TypeId) (i : TypeInfo) (z : Value) (size bytes : Nat) (ht : P.underlying t = some (.slice e)) (hi : P.info? e = some i) (hz : i.zero = some z)
    (hsize : i.size = size) (hby : i.bytes = bytes) (hzs : z.cells.size = size) (hsz : 0 < size)
    (v : Value) (n : Nat) (xs : List Value) (hown : w.ownsRow base e size v n xs)
    (ad : Addr) (m c : Nat) (news : List Value) (hl : news.length = m * size) (hnews : ∀ j u, news[j]? = some u → w.cell? (ad.add j) = some u) (h1 : ∀ u ∈ news, u.oneCell' = true)
    (hm : 0 < m) (h63 : n + m ≤ maxLen) (hbytes : ((n + m) + (n + m) / 4 + 192) * bytes ≤ 281474976710656) (hbase : base ≤ w.heap.size) (H : Nat) (hH : w.heap.size = H) :
    ∃ g cap w', (Builtin.append_ #[t, t] ty #[v, .slice (some ad) m c]).run P w = .ok (.slice (some ⟨g, 0, none⟩) (n + m) cap) w' ∧
      w'.ownsRow base e size (.slice (some ⟨g, 0, none⟩) (n + m) cap) (n + m) (xs ++ news) ∧ w.grownBy w' v.ownBlock ∧ (v.ownBlock = some g ∨ g = H) ∧ g < w'.heap.size := by
  obtain ⟨v', w', hr, h2, h3, -⟩ := run_append_own_wide (P := P) w base t ty e i z size bytes ht hi hz hsize hby hzs hsz v n xs hown ad m c news hl hnews h1 h63 hbytes hbase
  obtain ⟨g, cap, rfl, _, hlt⟩ := h2.form (by omega)
  refine ⟨g, cap, w', hr, h2, h3, ?_, hlt⟩
  have hsmall : n + m ≤ 9223372036854775807 := by simp only [maxLen] at h63; omega
  have hfit : ∀ old, old < n + m → Builtin.nextslicecap (n + m) old * i.bytes ≤ 281474976710656 := fun old ho => growslice_fits_wide ho (by rw [hby]; exact hbytes)
  rcases hown.2 with ⟨rfl, rfl⟩ | ⟨g0, cap0, cur, rfl, hb0, hg0, hnc, hcm, hcs, htake⟩
  · have h4 := run_append_nil (P := P) w t ty e i z ht hi hz ad m c news (by rw [hsize]; exact hl) hnews hm (by omega) (by
      have := hfit 0 (by omega)
      rw [nextslicecap_zero (by omega)] at this
      simpa using this)
    rw [h4] at hr
    injection hr with q1 q2
    injection q1 with q1 _ _
    injection q1 with q1
    injection q1 with q1 _ _
    exact Or.inr (by rw [← q1, hH])
  · by_cases hroom : n + m ≤ cap0
    · obtain ⟨w'', hr2, -⟩ := run_append_fits (P := P) w base t ty e i size ht hi hsize g0 n cap0 xs hown ad m c news hl hnews h1 hroom
      rw [hr2] at hr
      injection hr with q1 q2
      injection q1 with q1 _ _
      injection q1 with q1
      injection q1 with q1 _ _
      exact Or.inl (by rw [← q1]; rfl)
    · have h4 := run_append_grow (P := P) w t ty e i z ht hi hz ⟨g0, 0, none⟩ n cap0 xs (by rw [hsize]; exact hown.1) (fun j u hj => by
        obtain ⟨g', c', e', -, hc⟩ := own_cell hown hj
        cases e'
        rw [addr_add]; exact hc) ad m c news (by rw [hsize]; exact hl) hnews (by omega) (by omega) (hfit cap0 (by omega))
      rw [h4] at hr
      injection hr with q1 q2
      injection q1 with q1 _ _
      injection q1 with q1
      injection q1 with q1 _ _
      exact Or.inr (by rw [← q1, hH])

theorem wp_append_lw {w : World} {o : Oper} {a : Act} {K : Act → World → Prop} {Q : Exit → Act → World → Prop} (s x : Operand) (t : TypeId)
    (ho : o.op = .call { callee := .builtin .append, args := #[s, x], argTypes := #[t, t] })
    (base : Nat) (e : TypeId) (i : TypeInfo) (z : Value) (size bytes : Nat) (ht : P.underlying t = some (.slice e)) (hi : P.info? e = some i) (hz : i.zero = some z)
    (hsize : i.size = size) (hby : i.bytes = bytes) (hzs : z.cells.size = size) (hsz : 0 < size)
    (v : Value) (n : Nat) (xs : List Value) (hs : a.eval s = v) (hown : w.ownsRow base e size v n xs)
    (ad : Addr) (m c : Nat) (news : List Value) (hx : a.eval x = .slice (some ad) m c) (hl : news.length = m * size) (hnews : ∀ j u, news[j]? = some u → w.cell? (ad.add j) = some u) (h1 : ∀ u ∈ news, u.oneCell' = true)
    (hm : 0 < m) (h63 : n + m ≤ maxLen) (hbytes : ((n + m) + (n + m) / 4 + 192) * bytes ≤ 281474976710656) (hbase : base ≤ w.heap.size) (H : Nat) (hH : w.heap.size = H)
    (h : ∀ g cap w', w'.ownsRow base e size (.slice (some ⟨g, 0, none⟩) (n + m) cap) (n + m) (xs ++ news) → w.grownBy w' v.ownBlock → (v.ownBlock = some g ∨ g = H) → g < w'.heap.size → K (a.put o.dst (.slice (some ⟨g, 0, none⟩) (n + m) cap)) w') : Oper.wp P o a w K Q := by
  obtain ⟨g, cap, w', hr, h2, h3, h4, h5⟩ := run_append_lw (P := P) w t o.type base e i z size bytes ht hi hz hsize hby hzs hsz v n xs hown ad m c news hl hnews h1 hm h63 hbytes hbase H hH
  unfold Oper.wp execOp
  simp only [ho, resolve, invoke, builtin, Sem.run_bind, Sem.run_pure, Result.andThen_ok, List.map_toArray, List.map_cons, List.map_nil, hs, hx, hr]
  exact h g cap w' h2 h3 h4 h5
theorem wpList_append_lw (w : World) {ops : Array Oper} {rest : List Oper} {o : Oper} {a : Act} {Q : Exit → Act → World → Prop} (hgd : o.guard = none) (s x : Operand) (t : TypeId)
    (ho : o.op = .call { callee := .builtin .append, args := #[s, x], argTypes := #[t, t] })
    (base : Nat) (e : TypeId) (i : TypeInfo) (z : Value) (size bytes : Nat) (ht : P.underlying t = some (.slice e)) (hi : P.info? e = some i) (hz : i.zero = some z)
    (hsize : i.size = size) (hby : i.bytes = bytes) (hzs : z.cells.size = size) (hsz : 0 < size)
    (v : Value) (n : Nat) (xs : List Value) (hs : a.eval s = v) (hown : w.ownsRow base e size v n xs)
    (ad : Addr) (m c : Nat) (news : List Value) (hx : a.eval x = .slice (some ad) m c) (hl : news.length = m * size) (hnews : ∀ j u, news[j]? = some u → w.cell? (ad.add j) = some u) (h1 : ∀ u ∈ news, u.oneCell' = true)
    (hm : 0 < m) (h63 : n + m ≤ maxLen) (hbytes : ((n + m) + (n + m) / 4 + 192) * bytes ≤ 281474976710656) (hbase : base ≤ w.heap.size) (H : Nat) (hH : w.heap.size = H)
    (h : ∀ g cap w', w'.ownsRow base e size (.slice (some ⟨g, 0, none⟩) (n + m) cap) (n + m) (xs ++ news) → w.grownBy w' v.ownBlock → (v.ownBlock = some g ∨ g = H) → g < w'.heap.size → wpList P ops Q rest (a.put o.dst (.slice (some ⟨g, 0, none⟩) (n + m) cap)) w') : wpList P ops Q (o :: rest) a w :=
  wpList_plain hgd fun _ hK => wp_append_lw s x t ho base e i z size bytes ht hi hz hsize hby hzs hsz v n xs hs hown ad m c news hx hl hnews h1 hm h63 hbytes hbase H hH fun g cap w' h2 h3 h4 h5 => hK _ _ (h g cap w' h2 h3 h4 h5)
end

end Go.Proofs.Ytchilccmnaihkaa

namespace Go.Proofs.Ytchilccmnaihkaa
open Go.RowKit (wrap32 wrap64)
set_option linter.unusedVariables false
set_option linter.unusedSimpArgs false

/-- Functions' heads of these shapes. -/
structure Shp (fs : List PH) (sh : List (Nat × Nat)) : Prop where
  len : fs.length = sh.length
  at' : ∀ j (h : j < fs.length) (h' : j < sh.length), fs[j].P = (sh[j].1 : Int) ∧ fs[j].R = (sh[j].2 : Int) ∧ sh[j].1 ≤ 8 ∧ sh[j].2 ≤ 4
theorem take_snoc {α : Type} (l : List α) (k : Nat) (h : k < l.length) : l.take (k + 1) = l.take k ++ [l[k]] := by
  rw [List.take_add_one, List.getElem?_eq_getElem h]; rfl
theorem totT_one (l : List (Nat × Nat)) (k : Nat) (h : k < l.length) : totT (l.take (k + 1)) = totT (l.take k) + l[k].1 * (l[k].2 + 1) := by
  rw [take_snoc l k h, totT_append]; simp [totT]
theorem totT_le (l : List (Nat × Nat)) (k : Nat) : totT (l.take k) ≤ totT l := by
  have := totT_append (l.take k) (l.drop k)
  rw [List.take_append_drop] at this
  omega
theorem dec_no {sh : List (Nat × Nat)} {l : List Int} {k : Nat} (hk : k < sh.length) (h : okT (l.drop (totT (sh.take k))) (sh[k].1 * (sh[k].2 + 1)) = false) : decT sh l = false := by
  cases hq : decT sh l with
  | false => rfl
  | true =>
    simp only [decT, Bool.and_eq_true] at hq
    have h1 := okT_mono hq.1 (totT_le sh (k + 1))
    rw [totT_one sh k hk, okT_add, h, Bool.and_false] at h1
    cases h1
theorem dec_end {sh : List (Nat × Nat)} {l : List Int} (h : okT l (totT sh) = true) : decT sh l = decide (l.drop (totT sh) = []) := by
  have hl := okT_le h
  unfold decT
  rw [h, Bool.true_and, decide_eq_decide, List.drop_eq_nil_iff]
  omega
theorem SAq.lt {Q : Nat → Prop} {w : World} {v : Value} {s : PS} (h : SAq Q w v s) : SAq (fun j => Q j ∧ j < w.heap.size) w v s := by
  obtain ⟨hv, rv, rfl, ⟨a', c', rfl, h1⟩, a, c, rfl, h2⟩ := h
  refine ⟨_, _, rfl, ⟨a', c', rfl, fun hne => ?_⟩, a, c, rfl, fun hne => ?_⟩
  · obtain ⟨k, o, rfl, hq, hk, hc⟩ := h1 hne; exact ⟨k, o, rfl, ⟨hq, hk⟩, hk, hc⟩
  · obtain ⟨k, o, rfl, hq, hk, hc⟩ := h2 hne
    refine ⟨k, o, rfl, ⟨hq, hk⟩, hk, fun j hj => ?_⟩
    obtain ⟨u, q1, a3, c3, e3, h3⟩ := hc j hj
    exact ⟨u, q1, a3, c3, e3, fun hne => by obtain ⟨k, o, e, hq, hk, hc⟩ := h3 hne; exact ⟨k, o, e, ⟨hq, hk⟩, hk, hc⟩⟩
theorem SAq.two {Q : Nat → Prop} {w : World} {x y : Value} {s : PS} (h : SAq Q w (.agg #[x, y]) s) : ∃ a n c a' n' c', x = .slice a n c ∧ y = .slice a' n' c' := by
  obtain ⟨hv, rv, e1, ⟨a', c', rfl, -⟩, a, c, rfl, -⟩ := h
  injection e1 with e1
  have e2 := congrArg Array.toList e1
  simp only [List.cons.injEq, and_true] at e2
  exact ⟨_, _, _, _, _, _, e2.1, e2.2⟩
/-- A summary that was made since: the list of summaries goes on holding, beside it. -/
theorem SR.since {Q : Nat → Prop} {wb w2 : World} {B : Nat} {v : Value} {ss : List PS} {S : Nat → Prop} (h : SR wb B Q v ss) (f : Fr S wb w2) (hv : ∀ k, v.ownBlock = some k → ¬ S k) (hQ : ∀ k, Q k → ¬ S k) : SR w2 B (fun j => Q j ∨ (wb.heap.size ≤ j ∧ j < w2.heap.size)) v ss := by
  have h4 := h.ge
  have h2 := h.fr f hv hQ
  obtain ⟨vs, e1, e2, e3, e4, e5⟩ := h2
  refine ⟨vs, e1, e2, fun k e => ?_, fun k hk => ?_, fun j hj hj' => (e5 j hj hj').mono (fun k => Or.inl)⟩
  · rintro (q | q)
    · exact e3 k e q
    · have := (h4 k e).2; omega
  · rcases hk with q | q
    · exact e4 k q
    · exact q.2
theorem under46 : Try.prog.underlying 46 = some (.slice 31) := by kernel_rfl

set_option maxRecDepth 100000 in
set_option maxHeartbeats 2000000 in
theorem summaries_any (B b : Nat) (fv : Value) (fs : List PH) (sh : List (Nat × Nat)) (l : List Int) (w : World) (h : Rd B w b l) (hf : FsA w fv fs) (hfb : fs ≠ [] → ∀ k, fv.ownBlock = some k → k ≠ b) (hs : Shp fs sh) (hz : fs.length ≤ 3300000000000) :
    Calls Try.prog 36 #[.pointer (some ⟨b, 0, none⟩), fv] w fun e w' => Fr (fun k => k = b) w w' ∧ ((decT sh l = true ∧ ∃ v Q, e = .returned v ∧ SR w' w.heap.size Q v (ssT sh l) ∧ ∀ k, Q k → w.heap.size ≤ k) ∨ (decT sh l = false ∧ e = .panicked thrown)) := by
  obtain ⟨fa, fc, rfl, hfin⟩ := hf
  have HE : Hd (fs ≠ [] → _) := hfin
  have HFB : Hd (fs ≠ [] → ∀ k, (Value.slice fa fs.length fc).ownBlock = some k → k ≠ b) := hfb
  have HSH : Hd (Shp fs sh) := hs
  have HBG : Hd (b < B ∧ B ≤ w.heap.size) := ⟨h.lt, h.size⟩
  have HR : Hd (Rd B w b l) := h
  clear hfin hfb hs h
  obtain ⟨i31, hi31, hz31, hs31, hb31⟩ := info_parts (P := Try.prog) (e := 31) (z := .agg #[.slice none 0 0, .slice none 0 0]) (size := 2) (bytes := 48) (by kernel_rfl)
  go_enter Try.func36, Try.ntmps36
  go_wp2_with fail
  go_loopw [5, 10] (fun mv v wr => ∃ (k : Nat) (Q : Nat → Prop), v = .int .i64 k ∧ k ≤ fs.length ∧ Hd (okT l (totT (sh.take k)) = true) ∧ Hd (SR wr w.heap.size Q mv (ssT (sh.take k) l)) ∧ Hd (∀ k, Q k → w.heap.size ≤ k) ∧ Hd (Rd B wr b (l.drop (totT (sh.take k)))) ∧ Hd (Fr (fun k => k = b) w wr)) (fun _ v _ => match v with | .int _ q => fs.length - q.toNat | _ => 0)
  case atStart => exact ⟨0, fun _ => False, rfl, Nat.zero_le _, okT_zero l, SR.nil _ _ (fun _ h => h.elim), fun _ h => h.elim, HR.out, Fr.refl _ _⟩
  case round =>
    clear HR
    obtain ⟨k, Q, rfl, hk, HK, HO, HQ, HD, HF⟩ := hrel
    by_cases hlt : k < fs.length
    · obtain ⟨pk, rfl, hpk, hcs⟩ := HE.out (by intro e; simp [e] at hlt)
      have hpb : ¬ pk = b := HFB.out (by intro e; simp [e] at hlt) pk rfl
      obtain ⟨hc0, hc1, hc2, hc3⟩ := hcs k hlt
      have p0 := (HF.out.cell (o := k * 4) hpk hpb).trans hc0
      have p1 := (HF.out.cell (o := k * 4 + 1) hpk hpb).trans hc1
      have p2 := (HF.out.cell (o := k * 4 + 2) hpk hpb).trans hc2
      have p3 := (HF.out.cell (o := k * 4 + 3) hpk hpb).trans hc3
      have hlk : k < sh.length := by have := HSH.out.len; omega
      obtain ⟨eP, eR, hP8, hR4⟩ := HSH.out.at' k hlt hlk
      have HT1 : Hd (totT (sh.take (k + 1)) = totT (sh.take k) + sh[k].1 * (sh[k].2 + 1)) := totT_one sh k hlk
      have HT2 : Hd (ssT (sh.take (k + 1)) l = ssT (sh.take k) l ++ [psT sh[k].1 sh[k].2 (l.drop (totT (sh.take k)))]) := by
        unfold Hd; rw [take_snoc sh k hlk, ssT_append]; rfl
      have HNO : Hd (okT (l.drop (totT (sh.take k))) (sh[k].1 * (sh[k].2 + 1)) = false → decT sh l = false) := dec_no hlk
      rw [eP] at p0
      rw [eR] at p1
      generalize sh[k] = s at *
      obtain ⟨P, R⟩ := s
      simp only at *
      generalize fs[k].V = V at *
      generalize fs[k].ca = ca at *
      generalize fs[k].cn = cn at *
      generalize fs[k].cc = cc at *
      have hk0 : (0 : Int) ≤ k := by omega
      have hk1 : (k : Int) < fs.length := by omega
      clear hcs hc0 hc1 hc2 hc3 eP eR
      obtain ⟨wb, hwb⟩ : ∃ wb, wb = wr.alloc (.cells #[vI P, vI R, vI V, .slice ca cn cc] 28) := ⟨_, rfl⟩
      have fb : Fr (fun _ => False) wr wb := by rw [hwb]; exact Fr.alloc (Fr.refl _ wr) _
      have bb : wb.heap[wr.heap.size]? = some (.cells #[vI P, vI R, vI V, .slice ca cn cc] 28) := by rw [hwb]; exact heap_new wr _
      have HWB : Hd (wb = wr.alloc (.cells #[vI P, vI R, vI V, .slice ca cn cc] 28)) := hwb
      have HFb : Hd (Fr (fun _ => False) wr wb) := fb
      have q0 : wb.cell? ⟨wr.heap.size, 0, none⟩ = some (vI P) := by rw [cell_of bb]; rfl
      have q1 : wb.cell? ⟨wr.heap.size, 1, none⟩ = some (vI R) := by rw [cell_of bb]; rfl
      have q2 : wb.cell? ⟨wr.heap.size, 2, none⟩ = some (vI V) := by rw [cell_of bb]; rfl
      have q3 : wb.cell? ⟨wr.heap.size, 3, none⟩ = some (.slice ca cn cc) := by rw [cell_of bb]; rfl
      clear hwb fb bb
      have HSZ : Hd (wr.heap.size ≤ wb.heap.size) := HFb.out.size
      go_wp2_with fail
      rw [show wr.alloc (Obj.cells #[Value.int IntKind.i64 P, Value.int IntKind.i64 R, Value.int IntKind.i64 V, Value.slice ca cn cc] 28) = wb from HWB.out.symm]
      refine (show Calls Try.prog 44 #[.pointer (some ⟨b, 0, none⟩), .agg #[vI P, vI R, vI V, .slice ca cn cc]] wb _ from summary_any B b P R V ca cn cc (l.drop (totT (sh.take k))) wb (HD.out.stay HFb.out) hP8 hR4).mono ?_
      rintro e w2 ⟨hf2, (⟨ho, x, y, rfl, hsa, hd⟩ | ⟨ho, rfl⟩)⟩
      · have HK1 : Hd (okT l (totT (sh.take (k + 1))) = true) := by unfold Hd; rw [HT1.out, okT_add, HK.out, ho]; rfl
        have HD1 : Hd (Rd B w2 b (l.drop (totT (sh.take (k + 1))))) := by unfold Hd; rw [HT1.out, ← List.drop_drop]; exact hd
        have HF1 : Hd (Fr (fun k => k = b) w w2) := (HF.out.then HFb.out (fun _ _ e => e.elim)).trans hf2
        have hrow := HO.out.ge
        obtain ⟨Q1, hQ1⟩ : ∃ Q1 : Nat → Prop, Q1 = fun j => Q j ∨ (wb.heap.size ≤ j ∧ j < w2.heap.size) := ⟨_, rfl⟩
        have HO1 : Hd (SR w2 w.heap.size Q1 u5 (ssT (sh.take k) l)) := by
          rw [hQ1]
          exact (HO.out.fr HFb.out (fun _ _ e => e) (fun _ _ e => e)).since hf2 (fun j e e2 => by have := (hrow j e).1; have := HBG.out; omega) (fun j e e2 => by have := HQ.out j e; have := HBG.out; omega)
        have HQ1 : Hd (∀ j, Q1 j → w.heap.size ≤ j) := fun j hj => by
          rw [hQ1] at hj
          rcases hj with q | q
          · exact HQ.out j q
          · have := HF.out.size; have := HSZ.out; omega
        have HSA : Hd (SAq Q1 w2 (.agg #[x, y]) (psT P R (l.drop (totT (sh.take k))))) := by rw [hQ1]; exact hsa.lt.mono (fun j => Or.inr)
        obtain ⟨xa, xn, xc, ya, yn, yc, rfl, rfl⟩ := hsa.two
        clear hQ1
        have fa : Fr (fun _ => False) w2 (w2.alloc (.cells #[.slice xa xn xc, .slice ya yn yc] 31)) := Fr.alloc (Fr.refl _ _) _
        have HO2 : Hd (SR (w2.alloc (.cells #[.slice xa xn xc, .slice ya yn yc] 31)) w.heap.size Q1 u5 (ssT (sh.take k) l)) := HO1.out.fr fa (fun _ _ e => e) (fun _ _ e => e)
        have HSA2 : Hd (SAq Q1 (w2.alloc (.cells #[.slice xa xn xc, .slice ya yn yc] 31)) (.agg #[.slice xa xn xc, .slice ya yn yc]) (psT P R (l.drop (totT (sh.take k))))) := HSA.out.fr fa (fun _ _ e => e)
        obtain ⟨vs, e1, e2, e3, e4, e5⟩ := id HO2.out
        have HE1 : Hd _ := e1
        have HE2 : Hd _ := e2
        have HE3 : Hd _ := e3
        have HE4 : Hd (∀ j, Q1 j → j < w2.heap.size) := by obtain ⟨_, _, _, _, q, _⟩ := HO1.out; exact q
        have HE5 : Hd _ := e5
        have hvl : vs.length ≤ 3300000000000 := by rw [e1, ssT_len, List.length_take]; omega
        have hnews : ∀ j u, [Value.slice xa xn xc, Value.slice ya yn yc][j]? = some u → (w2.alloc (.cells #[.slice xa xn xc, .slice ya yn yc] 31)).cell? ((⟨w2.heap.size, 0, none⟩ : Addr).add j) = some u :=
          World.news_of_block (cs := #[.slice xa xn xc, .slice ya yn yc]) (heap_new w2 (.cells #[.slice xa xn xc, .slice ya yn yc] 31))
        have hbase : w.heap.size ≤ (w2.alloc (.cells #[.slice xa xn xc, .slice ya yn yc] 31)).heap.size := by have := HF1.out.size; simp; omega
        have HROW : Hd (∀ j, u5.ownBlock = some j → w.heap.size ≤ j ∧ j < w2.heap.size) := HO1.out.ge
        clear hd hsa hf2 ho hrow e1 e2 e3 e4 e5 fa HO HF HQ HD HSA p0 p1 p2 p3 q0 q1 q2 q3 HWB HFb HSZ HNO HK
        go_wp2_with ((at_builtin; refine Hd.out ?_))
        unfold Hd
        refine wpList_append_lw _ rfl (.tmp 14) (.tmp 18) 46 rfl w.heap.size 31 i31 (.agg #[.slice none 0 0, .slice none 0 0]) 2 48 under46 hi31 hz31 hs31 hb31 rfl (by omega) u5 vs.length _ rfl HE2.out ⟨w2.heap.size, 0, none⟩ 1 1 [.slice xa xn xc, .slice ya yn yc] rfl rfl hnews (by intro u hu; simp at hu; rcases hu with rfl | rfl <;> rfl) (by omega) (by unfold maxLen; omega) (by omega) hbase (w2.heap.size + 1) (by simp) ?_
        intro g6 cap6 w6 hown hgrow hat hg6
        have f6 := grown_fr hgrow
        have fz : Fr (fun _ => False) w2 (w2.alloc (.cells #[.slice xa xn xc, .slice ya yn yc] 31)) := Fr.alloc (Fr.refl _ _) _
        have HZ : Hd (SR w6 w.heap.size Q1 (.slice (some ⟨g6, 0, none⟩) (vs.length + 1) cap6) (ssT (sh.take (k + 1)) l)) := by
          unfold Hd; rw [HT2.out]
          refine SR.push HE1.out HE3.out (fun j hj => Nat.lt_of_lt_of_le (HE4.out j hj) fz.size) HE5.out HSA2.out hown f6 (fun j hj e => HE3.out j e hj) (fun hq => ?_)
          rcases hat with e | e
          · exact HE3.out _ e hq
          · have := HE4.out _ hq; omega
        have HDz : Hd (Rd B w6 b (l.drop (totT (sh.take (k + 1))))) := (HD1.out.stay fz).fr f6 (fun j hj e => by have := (HROW.out j e).1; have := HBG.out; omega)
        have HFz : Hd (Fr (fun k => k = b) w w6) := (HF1.out.then fz (fun _ _ e => e.elim)).then f6 (fun j hj e => by have := (HROW.out j e).1; omega)
        clear hown hgrow hat hg6 f6 fz hnews hbase HE1 HE2 HE3 HE4 HE5 HROW HO1 HO2 HSA2 HD1 HF1
        go_wp2_with fail
        exact ⟨⟨k + 1, Q1, by simp, by omega, HK1.out, HZ.out, HQ1.out, HDz.out, HFz.out⟩, by simp; omega⟩
      · have HX : Hd (Fr (fun k => k = b) w w2 ∧ decT sh l = false) := ⟨(HF.out.then HFb.out (fun _ _ e => e.elim)).trans hf2, HNO.out ho⟩
        clear hf2 ho
        go_wp2_with fail
        exact ⟨rfl, HX.out.1, Or.inr ⟨HX.out.2, rfl⟩⟩
    · have hke : k = fs.length := by omega
      have HT : Hd (sh.take k = sh) := List.take_of_length_le (by have := HSH.out.len; omega)
      rw [HT.out] at HK HO HD
      subst hke
      have HDE : Hd (decT sh l = decide (l.drop (totT sh) = [])) := dec_end HK.out
      by_cases hn : l.drop (totT sh) = []
      · rw [hn] at HD
        go_wp2_with fail
        refine (show Calls Try.prog 45 #[.pointer (some ⟨b, 0, none⟩)] wr _ from end_yes B b wr HD.out).mono ?_
        rintro e w2 ⟨rfl, rfl⟩
        go_wp2_with fail
        go_ret
        exact ⟨HF.out, Or.inl ⟨by rw [HDE.out, hn]; rfl, _, Q, rfl, HO.out, HQ.out⟩⟩
      · go_wp2_with fail
        refine (show Calls Try.prog 45 #[.pointer (some ⟨b, 0, none⟩)] wr _ from end_no B b _ wr HD.out hn).mono ?_
        rintro e w2 ⟨rfl, rfl⟩
        go_wp2_with fail
        exact ⟨rfl, HF.out, Or.inr ⟨by rw [HDE.out]; simpa using hn, rfl⟩⟩

end Go.Proofs.Ytchilccmnaihkaa

namespace Go.Proofs.Ytchilccmnaihkaa
open Go.RowKit (wrap32 wrap64)
set_option linter.unusedVariables false
set_option linter.unusedSimpArgs false

set_option maxRecDepth 100000 in
set_option maxHeartbeats 400000 in
/-- The deferred closure of caught, of a frame that panics with a refusal. -/
theorem catch_panicking (pb : Nat) (older : List PanicEntry) (w : World) (h0 : w.cell? ⟨pb, 0, none⟩ = some (vI 0)) (hz : w.frozen? ⟨pb, 0, none⟩ = false) :
    CallsD Try.prog 43 #[.pointer (some ⟨pb, 0, none⟩)] (.panicking ({ v := .iface 78 (.agg #[vI 90]), recovered := false } :: older)) w fun e u' w' =>
      e = .returned (.tuple #[]) ∧ u' = .panicking ({ v := .iface 78 (.agg #[vI 90]), recovered := true } :: older) ∧ w' = w.setCell ⟨pb, 0, none⟩ (vI 90) := by
  refine callsD_of_wpS Try.func43 rfl fun c₀ cs hu => ?_
  apply wpS_seq
  apply wpS_region
  simp [wpOpsS, go_sem, recoverD, hu, Try.ntmps43, Exit.thenS]
  have hq : ∀ w, (binOp .neq 20 (.iface 78 (.agg #[vI 90])) .nilIface).run Try.prog w = .ok (.bool true) w := fun _ => by kernel_rfl
  have hta : ∀ w, (Instr.typeAssert (.iface 78 (.agg #[vI 90])) 20 78 false).run Try.prog w = .ok (.agg #[vI 90]) w := fun _ => by kernel_rfl
  have hfd : ∀ w, (Instr.field 78 (.agg #[vI 90]) 0).run Try.prog w = .ok (vI 90) w := fun _ => by kernel_rfl
  refine wpS_of_wp ?_
  rw [show (#[Value.pointer (some ⟨pb, 0, none⟩)] ++ ((Array.replicate 7 undef).setIfInBounds 1 (Value.iface 78 (Value.agg #[vI 90]))).setIfInBounds 0 (Value.iface 78 (Value.agg #[vI 90]))) = #[Value.pointer (some ⟨pb, 0, none⟩), Value.iface 78 (Value.agg #[vI 90]), Value.iface 78 (Value.agg #[vI 90]), undef, undef, undef, undef, undef] from rfl]
  generalize hQ : (fun (e : Exit) (a' : Act) (w' : World) => bodyPostS Try.prog Try.f43 c₀ cs _ e a' _ w') = Q
  go_wp2_with fail
  subst hQ
  refine ⟨rfl, _, rfl, .tuple #[], ?_, rfl, rfl, rfl⟩
  simp [results, Try.results43]

set_option maxRecDepth 100000 in
set_option maxHeartbeats 400000 in
theorem catch_idle (p : Addr) (w : World) :
    CallsD Try.prog 43 #[.pointer (some p)] .returning w fun e u' w' => e = .returned (.tuple #[]) ∧ u' = .returning ∧ w' = w := by
  refine callsD_of_wpS Try.func43 rfl fun c₀ cs hu => ?_
  apply wpS_seq
  apply wpS_region
  simp [wpOpsS, go_sem, recoverD, hu, Try.ntmps43, Exit.thenS]
  have hq : ∀ w, (binOp .neq 20 .nilIface .nilIface).run Try.prog w = .ok (.bool false) w := fun _ => by kernel_rfl
  refine wpS_of_wp ?_
  rw [show (#[Value.pointer (some p)] ++ ((Array.replicate 7 undef).setIfInBounds 1 Value.nilIface).setIfInBounds 0 Value.nilIface) = #[Value.pointer (some p), Value.nilIface, Value.nilIface, undef, undef, undef, undef, undef] from rfl]
  generalize hQ : (fun (e : Exit) (a' : Act) (w' : World) => bodyPostS Try.prog Try.f43 c₀ cs _ e a' _ w') = Q
  go_wp2_with fail
  subst hQ
  refine ⟨rfl, .returning, by rw [← hu], .tuple #[], ?_, rfl, rfl, rfl⟩
  simp [results, Try.results43]

/-- How the reading may end: the result's variable is as it was made. -/
def Walked (pb : Nat) (J Pn : World → Prop) (e : Ending) (w1 : World) : Prop :=
  w1.cell? ⟨pb, 0, none⟩ = some (vI 0) ∧ w1.frozen? ⟨pb, 0, none⟩ = false ∧ ((e = .returned (.tuple #[]) ∧ J w1) ∨ (e = .panicked thrown ∧ Pn w1))
/-- How caught itself ends. -/
def Said1 (pb : Nat) (J Pn : World → Prop) (e : Ending) (w' : World) : Prop :=
  ∃ er w1, w' = w1.setCell ⟨pb, 0, none⟩ (vI er) ∧ e = .returned (vI er) ∧ ((er = 0 ∧ J w1) ∨ (er = 90 ∧ Pn w1))

set_option maxRecDepth 100000 in
set_option maxHeartbeats 400000 in
theorem caught_any (fn : Nat) (cap : Array Value) (w : World) (J Pn : World → Prop)
    (hen : ∀ w, (callFunc fn cap).run Try.prog w = .ok (.enter fn cap) w)
    (hc : Calls Try.prog fn cap (w.alloc (.cells #[vI 0] 35)) (Walked w.heap.size J Pn)) :
    Calls Try.prog 34 #[.func (.func fn) #[] cap] w (Said1 w.heap.size J Pn) := by
  have hmf : ∀ (fn : Fn) (first cap : Array Value) (w : World), (Instr.makeFunc fn first cap).run Try.prog w = .ok (.func fn first cap) w := fun _ _ _ _ => rfl
  go_enter_defers Try.func34, Try.ntmps34
  go_wp2_with fail
  refine hc.mono ?_
  rintro e w1 ⟨u0, uz, (⟨rfl, hJ⟩ | ⟨rfl, hP⟩)⟩
  · clear hc hen
    go_wp2_with fail
    refine leaves_cons (f := 43) (args := #[.pointer (some ⟨w.heap.size, 0, none⟩)]) (by simp) (by simp [go_sem]) ?_
    refine (catch_idle ⟨w.heap.size, 0, none⟩ _).mono ?_
    rintro e u' w'' ⟨rfl, rfl, rfl⟩
    refine ⟨vI 0, ?_, 0, w1, rfl, rfl, Or.inl ⟨rfl, hJ⟩⟩
    rw [results_cell (p := 2) (ty := 35) Try.results34]
    simp [go_sem, u0]
  · clear hc hen
    go_wp2_with fail
    refine leaves_cons (f := 43) (args := #[.pointer (some ⟨w.heap.size, 0, none⟩)]) (by simp) (by simp [go_sem]) ?_
    refine (catch_panicking w.heap.size [] _ u0 uz).mono ?_
    rintro e u' w'' ⟨rfl, rfl, rfl⟩
    refine ⟨vI 90, ?_, 90, w1, rfl, rfl, Or.inr ⟨rfl, hP⟩⟩
    rw [results_cell (p := 2) (ty := 35) Try.results34]
    simp [go_sem, u0]

/-- What the reading leaves. -/
def Read (w : World) (L b : Nat) (sh : List (Nat × Nat)) (l : List Int) (w' : World) : Prop :=
  Fr (fun k => k = b ∨ k = L) w w' ∧ ∃ v Q, w'.heap[L]? = some (.cells #[v] 46) ∧ SR w' w.heap.size Q v (ssT sh l) ∧ ∀ k, Q k → w.heap.size ≤ k

set_option maxRecDepth 100000 in
set_option maxHeartbeats 400000 in
theorem decode1_any (B b F L E : Nat) (fv : Value) (fs : List PH) (sh : List (Nat × Nat)) (l : List Int) (w : World) (h : Rd B w b l) (hf : FsA w fv fs) (hfb : fs ≠ [] → ∀ k, fv.ownBlock = some k → k ≠ b) (hs : Shp fs sh) (hz : fs.length ≤ 3300000000000)
    (hF : w.heap[F]? = some (.cells #[fv] 45)) (hL : w.heap[L]? = some (.cells #[.slice none 0 0] 46)) (hE : w.heap[E]? = some (.cells #[vI 0] 35)) (hLb : L ≠ b) (hEb : E ≠ b) :
    Calls Try.prog 35 #[.pointer (some ⟨b, 0, none⟩), .pointer (some ⟨F, 0, none⟩), .pointer (some ⟨L, 0, none⟩)] w (Walked E (fun w' => decT sh l = true ∧ Read w L b sh l w') (fun w' => decT sh l = false ∧ Fr (fun k => k = b ∨ k = L) w w')) := by
  have c0 : w.cell? ⟨F, 0, none⟩ = some fv := by rw [cell_of hF]; rfl
  have hEL : E ≠ L := fun e => by subst e; injection (Option.some.inj (hE.symm.trans hL)) with _ e; exact absurd e (by decide)
  obtain ⟨fa, fc, efv, -⟩ := id hf
  have H1 : Hd (Rd B w b l) := h
  have H2 : Hd (FsA w fv fs) := hf
  have H3 : Hd (fs ≠ [] → ∀ k, fv.ownBlock = some k → k ≠ b) := hfb
  have H4 : Hd (Shp fs sh) := hs
  have HL : Hd (w.heap[L]? = some (.cells #[.slice none 0 0] 46)) := hL
  have HE : Hd (w.heap[E]? = some (.cells #[vI 0] 35)) := hE
  subst efv
  clear h hf hfb hs hF hL hE
  go_enter Try.func35, Try.ntmps35
  go_wp2_with fail
  refine (show Calls Try.prog 36 #[.pointer (some ⟨b, 0, none⟩), .slice fa fs.length fc] w _ from summaries_any B b _ fs sh l w H1.out H2.out H3.out H4.out hz).mono ?_
  rintro e w2 ⟨hf2, (⟨hd, v, Q, rfl, hsr, hq⟩ | ⟨hd, rfl⟩)⟩
  · have bL : w2.heap[L]? = some (.cells #[.slice none 0 0] 46) := (hf2.block L (heap_lt HL.out) hLb).trans HL.out
    have bE : w2.heap[E]? = some (.cells #[vI 0] 35) := (hf2.block E (heap_lt HE.out) hEb).trans HE.out
    have f2 := setCell_fr w2 L 0 v
    have hLl : L < w.heap.size := heap_lt HL.out
    have HBE : Hd ((w2.setCell ⟨L, 0, none⟩ v).heap[E]? = some (.cells #[vI 0] 35)) := (f2.block E (heap_lt bE) hEL).trans bE
    have HR : Hd (decT sh l = true ∧ Read w L b sh l (w2.setCell ⟨L, 0, none⟩ v)) := by
      refine ⟨hd, (hf2.mono (fun _ _ e => Or.inl e)).trans (f2.mono (fun _ _ e => Or.inr e)), v, Q, set_of bL 0 v, hsr.fr f2 (fun k e e2 => by have := (hsr.ge k e).1; omega) (fun k e e2 => by have := hq k e; omega), hq⟩
    obtain ⟨va, vc, ev⟩ := hsr.shape
    have y0 : w2.cell? ⟨L, 0, none⟩ = some (.slice none 0 0) := by rw [cell_of bL]; rfl
    have z0 := frozen_of bL 0
    subst ev
    clear hf2 hd hsr hq bL bE f2
    go_wp2_with fail
    go_end0
    exact ⟨by rw [cell_of HBE.out]; rfl, frozen_of HBE.out 0, Or.inl ⟨rfl, HR.out⟩⟩
  · have bE : w2.heap[E]? = some (.cells #[vI 0] 35) := (hf2.block E (heap_lt HE.out) hEb).trans HE.out
    have HR : Hd (decT sh l = false ∧ Fr (fun k => k = b ∨ k = L) w w2) := ⟨hd, hf2.mono (fun _ _ e => Or.inl e)⟩
    have HBE : Hd _ := bE
    clear hf2 hd bE
    go_wp2_with fail
    exact ⟨rfl, by rw [cell_of HBE.out]; rfl, frozen_of HBE.out 0, Or.inr ⟨rfl, HR.out⟩⟩

end Go.Proofs.Ytchilccmnaihkaa

namespace Go.Proofs.Ytchilccmnaihkaa
open Go.RowKit (wrap32 wrap64)
set_option linter.unusedVariables false
set_option linter.unusedSimpArgs false

/-- Bytes that lie somewhere, with their room. -/
def BC (w : World) (v : Value) (l : List Int) : Prop :=
  ∃ a c, v = .slice a l.length c ∧ l.length ≤ c ∧ (l ≠ [] → ∃ k o, a = some ⟨k, o, none⟩ ∧ k < w.heap.size ∧ ∀ j (h : j < l.length), w.cell? ⟨k, o + j, none⟩ = some (vB l[j]))
theorem BC.stay {w w' : World} {v : Value} {l : List Int} (h : BC w v l) (f : Fr (fun _ => False) w w') : BC w' v l := by
  obtain ⟨a, c, rfl, hc', h⟩ := h
  refine ⟨a, c, rfl, hc', fun hne => ?_⟩
  obtain ⟨k, o, rfl, hk, hc⟩ := h hne
  exact ⟨k, o, rfl, Nat.lt_of_lt_of_le hk f.size, fun j hj => (f.cell hk (fun e => e)).trans (hc j hj)⟩
theorem own_cap {w : World} {B e sz n : Nat} {v : Value} {xs : List Value} (h : w.ownsRow B e sz v n xs) : ∃ a c, v = .slice a n c ∧ n ≤ c := by
  rcases h.2 with ⟨rfl, rfl⟩ | ⟨g, cap, cur, rfl, -, -, h3, -⟩
  · exact ⟨_, _, rfl, Nat.le_refl _⟩
  · exact ⟨_, _, rfl, h3⟩
theorem BOwn.bc {w : World} {B : Nat} {v : Value} {l : List Int} (h : BOwn w B v l) : BC w v l := by
  obtain ⟨a, c, e, hc⟩ := own_cap h
  obtain ⟨a', c', e', hin⟩ := h.ba
  rw [e] at e'
  cases e'
  exact ⟨a, c, e, hc, hin⟩
theorem own_mono {w : World} {B B' e sz n : Nat} {v : Value} {xs : List Value} (h : w.ownsRow B e sz v n xs) (hB : B' ≤ B) : w.ownsRow B' e sz v n xs := by
  refine ⟨h.1, ?_⟩
  rcases h.2 with h2 | ⟨g, cap, cur, e1, h3, h4⟩
  · exact Or.inl h2
  · exact Or.inr ⟨g, cap, cur, e1, Nat.le_trans hB h3, h4⟩
theorem SR.low {Q : Nat → Prop} {w : World} {B B' : Nat} {v : Value} {ss : List PS} (h : SR w B Q v ss) (hB : B' ≤ B) : SR w B' Q v ss := by
  obtain ⟨vs, h1, h2, h3⟩ := h; exact ⟨vs, h1, own_mono h2 hB, h3⟩
theorem Shp.all {fs : List PH} {sh : List (Nat × Nat)} (h : Shp fs sh) : (fs.all fun f => shapeB f.P f.R) = true := by
  rw [List.all_eq_true]
  intro f hf
  obtain ⟨j, hj, rfl⟩ := List.mem_iff_getElem.1 hf
  obtain ⟨e1, e2, e3, e4⟩ := h.at' j hj (by rw [← h.len]; exact hj)
  rw [e1, e2]
  simp [shapeB]
  omega

/-- What Decode answers. -/
def Decd (w : World) (sh : List (Nat × Nat)) (l : List Int) (e : Ending) (w' : World) : Prop :=
  Fr (fun _ => False) w w' ∧ ((decT sh l = true ∧ ∃ v Q, e = .returned (.tuple #[v, vI 0]) ∧ SR w' w.heap.size Q v (ssT sh l) ∧ ∀ k, Q k → w.heap.size ≤ k) ∨ (decT sh l = false ∧ e = .returned (.tuple #[.slice none 0 0, vI 90])))

set_option maxRecDepth 100000 in
set_option maxHeartbeats 1000000 in
theorem decode_any (fv bv : Value) (fs : List PH) (sh : List (Nat × Nat)) (l : List Int) (w : World) (hf : FsA w fv fs) (hs : Shp fs sh) (hz : fs.length ≤ 3300000000000) (hb : BC w bv l) (hlz : l.length ≤ 140737488351232) (hby : ∀ x ∈ l, 0 ≤ x ∧ x ≤ 255) :
    Calls Try.prog 16 #[fv, bv] w (Decd w sh l) := by
  have hmf : ∀ (fn : Fn) (first cap : Array Value) (w : World), (Instr.makeFunc fn first cap).run Try.prog w = .ok (.func fn first cap) w := fun _ _ _ _ => rfl
  obtain ⟨F, hF⟩ : ∃ F, F = w.heap.size := ⟨_, rfl⟩
  obtain ⟨wa, hwa⟩ : ∃ wa, wa = w.alloc (.cells #[fv] 45) := ⟨_, rfl⟩
  have fa : Fr (fun _ => False) w wa := by rw [hwa]; exact Fr.alloc (Fr.refl _ w) _
  have bF : wa.heap[F]? = some (.cells #[fv] 45) := by rw [hwa, hF]; exact heap_new w _
  have c0 : wa.cell? ⟨F, 0, none⟩ = some fv := by rw [cell_of bF]; rfl
  obtain ⟨va, vc, efv, -⟩ := id hf
  obtain ⟨ba, bc, ebv, -⟩ := id hb
  have HWA : Hd (wa = w.alloc (.cells #[fv] 45)) := hwa
  have HF : Hd (F = w.heap.size) := hF
  have HFa : Hd (Fr (fun _ => False) w wa) := fa
  have HBF : Hd (wa.heap[F]? = some (.cells #[fv] 45)) := bF
  have H1 : Hd (FsA wa fv fs) := hf.stay fa
  have H2 : Hd (BC wa bv l) := hb.stay fa
  have H3 : Hd (Shp fs sh) := hs
  have H4 : Hd (∀ x ∈ l, 0 ≤ x ∧ x ≤ 255) := hby
  have H5 : Hd (fs ≠ [] → ∀ k, fv.ownBlock = some k → k < w.heap.size) := fun hne k e => by
    obtain ⟨a, c, rfl, hin⟩ := hf
    obtain ⟨k', rfl, hk, -⟩ := hin hne
    cases e
    exact hk
  subst efv
  subst ebv
  clear hf hb hs hby fa hwa hF bF
  go_enter Try.func16, Try.ntmps16
  go_wp2_with fail
  rw [← HWA.out]
  refine (show Calls Try.prog 31 #[.slice va fs.length vc] wa _ from shapes_any _ fs wa H1.out (by omega)).mono ?_
  rintro e w2 ⟨rfl, hf2⟩
  rw [H3.out.all]
  have HF2 : Hd (Fr (fun _ => False) w w2) := HFa.out.trans hf2
  obtain ⟨wz, hwz⟩ : ∃ wz, wz = (w2.alloc (.cells #[.slice none 0 0] 46)).alloc (.cells #[.slice ba l.length bc] 69) := ⟨_, rfl⟩
  obtain ⟨L, hL⟩ : ∃ L, L = w2.heap.size := ⟨_, rfl⟩
  have fz : Fr (fun _ => False) w2 wz := by rw [hwz]; exact Fr.alloc (Fr.alloc (Fr.refl _ _) _) _
  have bL : wz.heap[L]? = some (.cells #[.slice none 0 0] 46) := by rw [hwz, hL]; exact keepA (heap_new w2 _) _
  have bb : wz.heap[L + 1]? = some (.cells #[.slice ba l.length bc] 69) := by
    have h9 := heap_new (w2.alloc (.cells #[.slice none 0 0] 46)) (.cells #[.slice ba l.length bc] 69)
    rw [World.size_alloc] at h9
    rw [hwz, hL]; exact h9
  have hsz : wz.heap.size = L + 2 := by rw [hwz, hL]; simp
  have hFL : F < L := by rw [hL]; exact Nat.lt_of_lt_of_le (heap_lt HBF.out) hf2.size
  obtain ⟨we, hwe⟩ : ∃ we, we = wz.alloc (.cells #[vI 0] 35) := ⟨_, rfl⟩
  have fe : Fr (fun _ => False) wz we := by rw [hwe]; exact Fr.alloc (Fr.refl _ _) _
  have hse : we.heap.size = L + 3 := by rw [hwe]; simp [hsz]
  have HRD : Hd (Rd (L + 2) we (L + 1) l) := by
    obtain ⟨a', c', e', hcap, hin⟩ := (H2.out.stay hf2)
    cases e'
    refine ⟨by omega, by omega, hlz, H4.out, _, keepF bb fe, _, _, rfl, hcap, fun hne => ?_⟩
    obtain ⟨k, o, e1, hk, hc⟩ := hin hne
    refine ⟨k, o, e1, by omega, by omega, fun j hj => ?_⟩
    rw [(fz.trans fe).cell hk (fun e => e)]
    exact hc j hj
  have HD1 : Hd (Calls Try.prog 35 #[.pointer (some ⟨L + 1, 0, none⟩), .pointer (some ⟨F, 0, none⟩), .pointer (some ⟨L, 0, none⟩)] we (Walked wz.heap.size (fun w' => decT sh l = true ∧ Read we L (L + 1) sh l w') (fun w' => decT sh l = false ∧ Fr (fun k => k = L + 1 ∨ k = L) we w'))) := by
    have hBe : we.heap[wz.heap.size]? = some (.cells #[vI 0] 35) := by rw [hwe]; exact heap_new wz _
    exact decode1_any (L + 2) (L + 1) F L wz.heap.size (.slice va fs.length vc) fs sh l we HRD.out (((H1.out.stay hf2).stay fz).stay fe) (fun hne k e => by have := H5.out hne k e; have := HF2.out.size; omega) H3.out hz (keepF (keepF (keepF HBF.out hf2) fz) fe) (keepF bL fe) hBe (by omega) (by omega)
  have hen : ∀ (cap : Array Value) (w : World), (callFunc 35 cap).run Try.prog w = .ok (.enter 35 cap) w := fun _ _ => by kernel_rfl
  have HC : Hd (Calls Try.prog 34 #[.func (.func 35) #[] #[.pointer (some ⟨L + 1, 0, none⟩), .pointer (some ⟨F, 0, none⟩), .pointer (some ⟨L, 0, none⟩)]] wz (Said1 wz.heap.size (fun w' => decT sh l = true ∧ Read we L (L + 1) sh l w') (fun w' => decT sh l = false ∧ Fr (fun k => k = L + 1 ∨ k = L) we w'))) := by
    refine caught_any 35 _ wz _ _ (hen _) ?_
    rw [← hwe]
    exact HD1.out
  have HWZ : Hd (wz = (w2.alloc (.cells #[.slice none 0 0] 46)).alloc (.cells #[.slice ba l.length bc] 69)) := hwz
  have HL : Hd (L = w2.heap.size) := hL
  have HFe : Hd (Fr (fun _ => False) w we) := (HF2.out.trans fz).trans fe
  have HSE : Hd (we.heap.size = L + 3 ∧ wz.heap.size = L + 2) := ⟨hse, hsz⟩
  have HLw : Hd (w.heap.size ≤ L) := by unfold Hd; rw [hL]; exact HF2.out.size
  clear hf2 fz fe bL bb hsz hse hFL hwe hL hwz hen HRD HD1 HF2 H1 H2 H3 H4 H5 HBF HFa HWA c0
  go_wp2_with fail
  rw [← HWZ.out, ← HL.out, ← HF.out]
  refine HC.out.mono ?_
  rintro e w4 ⟨er, w1, rfl, rfl, (⟨rfl, hd, hfr, v, Q, hbL, hsr, hq⟩ | ⟨rfl, hd, hfr⟩)⟩
  · have f4 := setCell_fr w1 wz.heap.size 0 (vI 0)
    have s9 := HSE.out
    have s8 := HLw.out
    have bL : (w1.setCell ⟨wz.heap.size, 0, none⟩ (vI 0)).heap[L]? = some (.cells #[v] 46) := (f4.block L (heap_lt hbL) (by omega)).trans hbL
    have c0 : (w1.setCell ⟨wz.heap.size, 0, none⟩ (vI 0)).cell? ⟨L, 0, none⟩ = some v := by rw [cell_of bL]; rfl
    have HZ : Hd (Decd w sh l (.returned (.tuple #[v, vI 0])) (w1.setCell ⟨wz.heap.size, 0, none⟩ (vI 0))) := by
      refine ⟨?_, Or.inl ⟨hd, v, Q, rfl, (hsr.fr f4 (fun k e e2 => by have := (hsr.ge k e).1; omega) (fun k e e2 => by have := hq k e; omega)).low (by omega), fun k hk => by have := hq k hk; omega⟩⟩
      exact (HFe.out.then hfr (fun j hj e => by omega)).then f4 (fun j hj e => by omega)
    obtain ⟨xa, xc, ev⟩ := hsr.shape
    subst ev
    clear f4 s9 s8 bL hsr hq hbL hfr hd
    generalize w1.setCell ⟨wz.heap.size, 0, none⟩ (vI 0) = wy at *
    go_wp2_with fail
    go_ret2
    exact HZ.out
  · have f4 := setCell_fr w1 wz.heap.size 0 (vI 90)
    have s9 := HSE.out
    have s8 := HLw.out
    have HZ : Hd (Decd w sh l (.returned (.tuple #[.slice none 0 0, vI 90])) (w1.setCell ⟨wz.heap.size, 0, none⟩ (vI 90))) := by
      refine ⟨?_, Or.inr ⟨hd, rfl⟩⟩
      exact (HFe.out.then hfr (fun j hj e => by omega)).then f4 (fun j hj e => by omega)
    clear f4 s9 s8 hfr hd
    generalize w1.setCell ⟨wz.heap.size, 0, none⟩ (vI 90) = wy at *
    go_wp2_with fail
    go_ret2
    exact HZ.out

end Go.Proofs.Ytchilccmnaihkaa
