import Derived.Test.YtngbakjalmgciaaGreatQQs
import Derived.Test.YtngbakjalmgciaaGreatQQt
import Derived.Deep.AppendLies
namespace Go.Proofs.YtngbakjalmgciaaGreat
open Go.RowKit (wrap32 wrap64)
set_option linter.unusedVariables false
set_option linter.unusedSimpArgs false

theorem run_append_keeps {P : Program} (w : World) (t ty : TypeId) (base : Nat) (e : TypeId) (i : TypeInfo) (z : Value) (size bytes : Nat) (ht : P.underlying t = some (.slice e)) (hi : P.info? e = some i) (hz : i.zero = some z)
    (hsize : i.size = size) (hby : i.bytes = bytes) (hzs : z.cells.size = size) (hsz : 0 < size)
    (v : Value) (n : Nat) (xs : List Value) (hown : w.ownsRow base e size v n xs)
    (ad : Addr) (m c : Nat) (news : List Value) (hl : news.length = m * size) (hnews : ∀ j u, news[j]? = some u → w.cell? (ad.add j) = some u) (h1 : ∀ u ∈ news, u.oneCell' = true)
    (hm : 0 < m) (h63 : n + m ≤ maxLen) (hbytes : (n + m) * bytes ≤ 140737488355328) (hbase : base ≤ w.heap.size) (H : Nat) (hH : w.heap.size = H) :
    ∃ g cap w', (Builtin.append_ #[t, t] ty #[v, .slice (some ad) m c]).run P w = .ok (.slice (some ⟨g, 0, none⟩) (n + m) cap) w' ∧
      w'.ownsRow base e size (.slice (some ⟨g, 0, none⟩) (n + m) cap) (n + m) (xs ++ news) ∧ w.grownBy w' v.ownBlock ∧ (v.ownBlock = some g ∨ g = H) ∧ g < w'.heap.size ∧
      ∀ (B k cap0 g0 : Nat) (ys : List Value), w.ownsRow B e size (.slice (some ⟨g0, 0, none⟩) k cap0) k ys → (v.ownBlock = some g0 → k ≤ n) → w'.ownsRow B e size (.slice (some ⟨g0, 0, none⟩) k cap0) k ys := by
  obtain ⟨g, cap, w', hr, h2, h3, h4, h5⟩ := run_append_lies (P := P) w t ty base e i z size bytes ht hi hz hsize hby hzs hsz v n xs hown ad m c news hl hnews h1 hm h63 hbytes hbase H hH
  refine ⟨g, cap, w', hr, h2, h3, h4, h5, fun B k cap0 g0 ys hrow hk => ?_⟩
  by_cases hv : v.ownBlock = some g0
  · have hkn := hk hv
    rcases hown.2 with ⟨rfl, rfl⟩ | ⟨g1, cap1, cur, rfl, hbg, hg, hnc, hcm, hcs, htake⟩
    · cases hv
    · cases hv
      subst hsize
      rcases hrow.2 with ⟨e1, -⟩ | ⟨g2, cap2, cur2, e1, k1, k2, k3, k4, k5, k6⟩
      · cases e1
      · cases e1
        rw [hg] at k2
        cases k2
        by_cases hroom : n + m ≤ cap1
        · have hfit : n * i.size + news.length ≤ cur.size := by rw [hl, hcs, ← Nat.add_mul]; exact Nat.mul_le_mul_right _ hroom
          have hr2 := run_append_room (P := P) w t ty e i ht hi g1 n cap1 cur hg ad m c news hl hnews h1 hroom hfit
          have hw := hr.symm.trans hr2
          injection hw with hw1 hw2
          subst hw2
          refine ⟨hrow.1, Or.inr ⟨g1, cap0, _, rfl, k1, setRow_heap w g1 cur _ e _ hg, k3, k4, ?_, ?_⟩⟩
          · simp only [List.size_toArray, List.length_append, List.length_take, List.length_drop, Array.length_toList]
            omega
          · rw [← k6, List.append_assoc]
            have hle : k * i.size ≤ n * i.size := Nat.mul_le_mul_right _ hkn
            rw [List.take_append_of_le_length (by rw [List.length_take, Array.length_toList]; omega), List.take_take]
            congr 1
            omega
        · have holds : ∀ j u, xs[j]? = some u → w.cell? ((⟨g1, 0, none⟩ : Addr).add j) = some u := hown.cells (g := g1) rfl
          have hr2 := run_append_grow (P := P) w t ty e i z ht hi hz ⟨g1, 0, none⟩ n cap1 xs hown.1 holds ad m c news hl hnews (by omega) (by simp only [maxLen] at h63; omega) (growslice_fits (by omega) (by rw [hby]; exact hbytes))
          have hw := hr.symm.trans hr2
          injection hw with hw1 hw2
          subst hw2
          refine ⟨hrow.1, Or.inr ⟨g1, cap0, cur, rfl, k1, ?_, k3, k4, k5, k6⟩⟩
          exact (Go.RowKit.Below.heap_alloc w.drew _ g1 (heap_lt hg)).trans hg
  · exact ownsRow_fr hrow (grown_fr h3) (fun j ej e => by cases ej; exact hv e)

theorem owP_not {mvs : List MV} {g : Nat} (h : ∀ x ∈ mvs, x.kv.ownBlock ≠ some g ∧ x.vv.ownBlock ≠ some g) : owP mvs g < 10 := by
  unfold owP
  split
  · rename_i hm
    unfold obl at hm
    obtain ⟨x, hx, hy⟩ := List.mem_flatMap.1 hm
    simp at hy
    rcases hy with e | e
    · exact absurd e.symm (h x hx).1
    · exact absurd e.symm (h x hx).2
  · omega
/-- A history of one's own, with what it is made of. -/
structure MoX (w : World) (B : Nat) (mv : Value) (ms : List MomT) (mvs : List MV) (O : Nat → Prop) : Prop where
  row : w.ownsRow B 44 9 mv ms.length ((mvs.map m9).flatten)
  moms : mvs.map MV.m = ms
  reps : ∀ x ∈ mvs, RepAt w O B x.kv x.vv x.m.rp.L
  own : ∀ j, mv.ownBlock = some j → O j
  nd : ((mvs.map mbk).flatten).Nodup
theorem MomsAp.ex {w : World} {B : Nat} {mv : Value} {ms : List MomT} (h : MomsAp w B mv ms) : ∃ mvs O, MoX w B mv ms mvs O := by
  obtain ⟨mvs, O, h1, h2, h3, h4, h5⟩ := h
  exact ⟨mvs, O, h1, h2, h3, h4, h5⟩
theorem MoX.ap {w : World} {B : Nat} {mv : Value} {ms : List MomT} {mvs : List MV} {O : Nat → Prop} (h : MoX w B mv ms mvs O) : MomsAp w B mv ms := ⟨mvs, O, h.row, h.moms, h.reps, h.own, h.nd⟩
theorem MoX.fr0 {w w' : World} {B : Nat} {mv : Value} {ms : List MomT} {mvs : List MV} {O : Nat → Prop} (h : MoX w B mv ms mvs O) (f : Fr (fun _ => False) w w') : MoX w' B mv ms mvs O :=
  ⟨ownsRow_fr h.row f (fun _ _ e => e), h.moms, fun x hx => (h.reps x hx).keep f (fun _ _ e => e.elim) (fun _ _ e => e), h.own, h.nd⟩
theorem MoX.lists {w : World} {B : Nat} {mv : Value} {ms : List MomT} {mvs : List MV} {O : Nat → Prop} (h : MoX w B mv ms mvs O) : ∀ x ∈ mvs, ∀ j, (x.kv.ownBlock = some j ∨ x.vv.ownBlock = some j) → j < w.heap.size := fun x hx j hj => by
  rcases h.reps x hx with ⟨e1, e2, -⟩ | ⟨kb, vb, e1, e2, -, -, -, -, hs⟩
  · rw [e1, e2] at hj; rcases hj with e | e <;> cases e
  · rw [e1, e2] at hj
    have l1 := heap_lt hs.ks
    have l2 := heap_lt hs.vs
    rcases hj with e | e
    · have : kb = j := Option.some.inj e; omega
    · have : vb = j := Option.some.inj e; omega
theorem MomsAp.fr0 {w w' : World} {B : Nat} {mv : Value} {ms : List MomT} (h : MomsAp w B mv ms) (f : Fr (fun _ => False) w w') : MomsAp w' B mv ms := by
  obtain ⟨mvs, O, h1, h2, h3, h4, h5⟩ := h
  exact ⟨mvs, O, ownsRow_fr h1 f (fun _ _ e => e), h2, fun x hx => (h3 x hx).keep f (fun _ _ e => e.elim) (fun _ _ e => e), h4, h5⟩
/-- The cells of one more moment, as far is gone on with. -/
def fm (k : Nat) : List Value := [vI (-5 - (k : Int)), .bool false, vI 0, vI 0, .string ⟨#[]⟩, .bool false, .string ⟨#[]⟩, .slice none 0 0, .slice none 0 0]
def fms (q : Nat) : List Value := ((List.range q).map fm).flatten
theorem fms_succ (q : Nat) : fms (q + 1) = fms q ++ fm q := by unfold fms; rw [List.range_succ, List.map_append, List.flatten_append]; simp
/-- far, gone on with q times; the history itself as it was. -/
structure Far2 (w : World) (B : Nat) (hv v : Value) (mvs : List MV) (q : Nat) : Prop where
  row : w.ownsRow B 44 9 v (mvs.length + q) ((mvs.map m9).flatten ++ fms q)
  old : w.ownsRow B 44 9 hv mvs.length ((mvs.map m9).flatten)
theorem Far2.more {w : World} {B : Nat} {hv v : Value} {mvs : List MV} {q : Nat} (h : Far2 w B hv v mvs q) (hB : B ≤ w.heap.size) (hn : mvs.length ≤ 10000000000) (hq : q < 64) :
    ∃ g cap w2, (Builtin.append_ #[28, 28] 28 #[v, .slice (some ⟨w.heap.size, 0, none⟩) 1 1]).run Tryz.prog (w.alloc (.cells #[vI (-5 - (q : Int)), .bool false, vI 0, vI 0, .string ⟨#[]⟩, .bool false, .string ⟨#[]⟩, .slice none 0 0, .slice none 0 0] 44)) = .ok (.slice (some ⟨g, 0, none⟩) (mvs.length + q + 1) cap) w2 ∧ Far2 w2 B hv (.slice (some ⟨g, 0, none⟩) (mvs.length + q + 1) cap) mvs (q + 1) ∧ Fr (fun j => v.ownBlock = some j) w w2 ∧ (v.ownBlock = some g ∨ w.heap.size ≤ g) := by
  obtain ⟨i, hi, hz, hs, hby⟩ := info_parts infoM
  obtain ⟨g, cap, w2, hr, hown, hgr, hw, -, hkp⟩ := run_append_keeps (P := Tryz.prog) (w.alloc (.cells #[vI (-5 - (q : Int)), .bool false, vI 0, vI 0, .string ⟨#[]⟩, .bool false, .string ⟨#[]⟩, .slice none 0 0, .slice none 0 0] 44)) 28 28 B 44 i _ 9 120 underM hi hz hs hby rfl (by omega) v (mvs.length + q) _ (World.ownsRow.alloc h.row _) ⟨w.heap.size, 0, none⟩ 1 1 (fm q) rfl (World.news_of_block (heap_alloc_last w _)) (by intro u hu; simp [fm] at hu; rcases hu with rfl | rfl | rfl | rfl | rfl | rfl | rfl | rfl | rfl <;> rfl) (by omega) (by unfold maxLen; omega) (by omega) (by simp; omega) _ rfl
  refine ⟨g, cap, w2, hr, ⟨?_, ?_⟩, ((Fr.refl _ w).alloc _).trans (grown_fr hgr), by rcases hw with e | e; exact Or.inl e; right; rw [e]; simp⟩
  · rw [fms_succ, ← List.append_assoc]; exact hown
  · have ho := World.ownsRow.alloc h.old (.cells #[vI (-5 - (q : Int)), .bool false, vI 0, vI 0, .string ⟨#[]⟩, .bool false, .string ⟨#[]⟩, .slice none 0 0, .slice none 0 0] 44)
    rcases ho.2 with ⟨e1, e2⟩ | ⟨g0, cap0, cur, e1, -⟩
    · refine ⟨h.old.1, Or.inl ⟨e1, e2⟩⟩
    · rw [e1] at ho ⊢
      exact hkp B _ cap0 g0 _ ho (fun _ => by omega)
/-- What is asked while the history is written over. -/
structure Fz (w : World) (hb fg N : Nat) : Prop where
  old : 0 < N → ∃ cur, w.heap[hb]? = some (.cells cur 44) ∧ N * 9 ≤ cur.size
  far : ∃ cur, w.heap[fg]? = some (.cells cur 44) ∧ ∀ k, k < 64 → cur[(N + k) * 9]? = some (vI (-5 - (k : Int)))
theorem Fz.set {w : World} {hb fg N : Nat} (h : Fz w hb fg N) {o : Nat} (ho : o < N * 9) (u : Value) : Fz (w.setCell ⟨hb, o, none⟩ u) hb fg N := by
  obtain ⟨cur, hc, hs⟩ := h.old (by omega)
  obtain ⟨fc, hf, hk⟩ := h.far
  refine ⟨fun _ => ⟨_, set_of hc _ _, by simpa using hs⟩, ?_⟩
  by_cases e : fg = hb
  · rw [e] at hf ⊢
    refine ⟨_, set_of hf _ _, fun k hk' => ?_⟩
    rw [Array.getElem?_setIfInBounds, if_neg (by omega)]
    exact hk k hk'
  · exact ⟨fc, by rw [Go.RowKit.Below.heap_setCell _ _ _ _ (by exact e)]; exact hf, hk⟩
theorem Far2.fz {w : World} {B : Nat} {hv v : Value} {mvs : List MV} (h : Far2 w B hv v mvs 64) : ∃ ha hc fg fc, hv = .slice ha mvs.length hc ∧ v = .slice (some ⟨fg, 0, none⟩) (mvs.length + 64) fc ∧ ∃ hb, (0 < mvs.length → ha = some ⟨hb, 0, none⟩ ∧ B ≤ hb) ∧ Fz w hb fg mvs.length := by
  rcases h.row.2 with ⟨-, e⟩ | ⟨fg, fc, cur, e1, b1, b2, b3, b4, b5, b6⟩
  · omega
  · have hlen : ∀ r ∈ mvs.map m9 ++ (List.range 64).map fm, r.length = 9 := fun r hr => by
      rcases List.mem_append.1 hr with e | e
      · obtain ⟨o, -, rfl⟩ := List.mem_map.1 e; rfl
      · obtain ⟨o, -, rfl⟩ := List.mem_map.1 e; rfl
    have hfar : ∀ k, k < 64 → cur[(mvs.length + k) * 9]? = some (vI (-5 - (k : Int))) := fun k hk => by
      have e2 : cur[(mvs.length + k) * 9]? = ((mvs.map m9).flatten ++ fms 64)[(mvs.length + k) * 9]? := by rw [← b6, List.getElem?_take, if_pos (by omega), Array.getElem?_toList]
      have e3 : (mvs.map m9).flatten ++ fms 64 = (mvs.map m9 ++ (List.range 64).map fm).flatten := by unfold fms; rw [List.flatten_append]
      have e4 := flat_get hlen (mvs.length + k) 0 (by simp; omega) (by omega)
      rw [Nat.add_zero] at e4
      rw [e2, e3, e4, List.getElem_append_right (by simp)]
      simp [fm]
    rcases h.old.2 with ⟨e2, e3⟩ | ⟨hb, hc, cur2, e2, c1, c2, c3, c4, c5, c6⟩
    · exact ⟨none, 0, fg, fc, by rw [e2, e3], e1, 0, fun hp => by omega, ⟨fun hp => by omega, ⟨cur, b2, hfar⟩⟩⟩
    · exact ⟨_, hc, fg, fc, e2, e1, hb, fun _ => ⟨rfl, c1⟩, ⟨fun _ => ⟨cur2, c2, by rw [c5]; exact Nat.mul_le_mul_right 9 c3⟩, ⟨cur, b2, hfar⟩⟩⟩
end Go.Proofs.YtngbakjalmgciaaGreat
