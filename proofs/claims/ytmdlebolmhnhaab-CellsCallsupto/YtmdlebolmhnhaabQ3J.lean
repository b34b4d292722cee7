import Derived.Test.YtmdlebolmhnhaabQ2
import Derived.Test.YtmdlebolmhnhaabV8J
namespace Go.Proofs.Ytmdlebolmhnhaab
open Go.RowKit (wrap32 wrap64)
open Go.Maps (Keyed)
set_option linter.unusedVariables false
set_option linter.unusedSimpArgs false

/-! ### Live -/
def rthereB (a : RA) (i : Nat) : Bool := (a.cells[i]?.map (·.there)).getD false
/-- The places of the cells that are there, below k. -/
def rliveL (a : RA) (k : Nat) : List Nat := (List.range k).filter (rthereB a)

theorem rliveL_succ (a : RA) (k : Nat) : rliveL a (k + 1) = rliveL a k ++ if rthereB a k then [k] else [] := by
  unfold rliveL
  rw [List.range_succ, List.filter_append]
  congr 1
  simp only [List.filter_cons, List.filter_nil]
theorem rliveL_len (a : RA) (k : Nat) : (rliveL a k).length ≤ k := by
  unfold rliveL
  exact Nat.le_trans (List.length_filter_le _ _) (by simp)

set_option maxRecDepth 100000 in
set_option maxHeartbeats 1000000 in
theorem rlive_any (b : Nat) (g : RG) (a : RA) (w : World) (h : RMem w b g a) (hlen : a.cells.length ≤ 100000000) :
    Calls Try.prog 21 #[rptr b] w fun e w' => ∃ v, e = .returned v ∧ w'.ownsRow w.heap.size 3 1 v (rliveL a a.cells.length).length ((rliveL a a.cells.length).map fun i : Nat => vI ((i : Int) + 1)) ∧ Fr (fun _ => False) w w' := by
  obtain ⟨ad, cap, hcv, -, had⟩ := row_shape h.cls
  have HM : Hd _ := h
  clear h
  go_enter Try.func21, Try.ntmps21
  go_wp2_with fail
  go_loopw [3, 4] (fun u v wr => ∃ (k : Nat), v = .int .i64 k ∧ k ≤ a.cells.length ∧ Hd (wr.ownsRow w.heap.size 3 1 u (rliveL a k).length ((rliveL a k).map fun i : Nat => vI ((i : Int) + 1))) ∧ Hd (Fr (fun _ => False) w wr)) (fun _ v _ => match v with | .int _ q => a.cells.length - q.toNat | _ => 0)
  case atStart => exact ⟨0, rfl, Nat.zero_le _, World.ownsRow_nil _ _ _ _, Fr.refl _ _⟩
  case round =>
    obtain ⟨k, rfl, hk, HRow, HF⟩ := hrel
    have hMk := HM.out.keep HF.out
    obtain ⟨c0, c1, c2⟩ := hMk.heads
    rw [hcv] at c2
    by_cases hlt : k < a.cells.length
    · obtain ⟨c, hc⟩ : ∃ c, a.cells[k]? = some c := ⟨_, List.getElem?_eq_getElem hlt⟩
      obtain ⟨cb, cap', u', hcv', hu', q0, q1, q2, -⟩ := hMk.cellAt hc
      rw [hcv] at hcv'
      cases hcv'
      have HTB : Hd (rthereB a k = c.there) := by unfold Hd rthereB; rw [hc]; rfl
      have hk0 : (0 : Int) ≤ k := by omega
      have hk1 : (k : Int) < a.cells.length := by omega
      have hln := rliveL_len a k
      clear had hMk c0 c1 hu' q0 q1 hcv hc
      cases ht : c.there
      · rw [ht] at q2 HTB
        clear ht
        go_wp2_with fail
        refine ⟨⟨k + 1, by simp, by omega, ?_, HF.out⟩, by simp; omega⟩
        unfold Hd
        rw [rliveL_succ, HTB.out]
        simpa using HRow.out
      · rw [ht] at q2 HTB
        clear ht
        obtain ⟨i3, hi, hz3, hs3, hb3⟩ := info_parts (P := Try.prog) (e := 3) (z := .int .i64 0) (size := 1) (bytes := 8) (by kernel_rfl)
        obtain ⟨ts, hts⟩ : ∃ ts, rliveL a k = ts := ⟨_, rfl⟩
        rw [hts] at HRow hln
        have HTS : Hd _ := hts
        clear hts
        have HRowA : Hd ((wr.alloc (.cells #[vI ((k : Int) + 1)] 3)).ownsRow w.heap.size 3 1 u3 ts.length (ts.map fun i : Nat => vI ((i : Int) + 1))) := World.ownsRow.alloc HRow.out (.cells #[vI ((k : Int) + 1)] 3)
        have hnews : ∀ j u, [vI ((k : Int) + 1)][j]? = some u → (wr.alloc (.cells #[vI ((k : Int) + 1)] 3)).cell? ((⟨wr.heap.size, 0, none⟩ : Addr).add j) = some u :=
          World.news_of_block (w := (wr.alloc (.cells #[vI ((k : Int) + 1)] 3))) (cs := #[vI ((k : Int) + 1)]) (heap_alloc_last wr (.cells #[vI ((k : Int) + 1)] 3))
        have hsw := HF.out.size
        have hw1 : (wr.alloc (.cells #[vI ((k : Int) + 1)] 3)).heap.size = wr.heap.size + 1 := by simp
        have hbase : w.heap.size ≤ (wr.alloc (.cells #[vI ((k : Int) + 1)] 3)).heap.size := by rw [hw1]; omega
        have hmx : ts.length + 1 ≤ maxLen := by unfold maxLen; omega
        go_wp2_with ((at_builtin; refine wpList_append_lies _ rfl (.tmp 24) (.tmp 27) 29 rfl w.heap.size 3 i3 (.int .i64 0) 1 8 under39 hi hz3 hs3 hb3 rfl (by omega) u3 ts.length _ rfl HRowA.out ⟨wr.heap.size, 0, none⟩ 1 1 [vI ((k : Int) + 1)] rfl rfl hnews (by intro u hu; simp at hu; subst hu; rfl) (by omega) hmx (by omega) hbase (wr.heap.size + 1) hw1 ?_; intro g6 cap6 w6 hown6 hgrow6 hat6 hlt6))
        have hF6 : Fr (fun j => u3.ownBlock = some j) (wr.alloc (.cells #[vI ((k : Int) + 1)] 3)) w6 := grown_fr hgrow6
        have hFa : Fr (fun _ => False) wr (wr.alloc (.cells #[vI ((k : Int) + 1)] 3)) := Fr.alloc (Fr.refl _ wr) _
        have hG6 : Fr (fun _ => False) w w6 := (HF.out.trans hFa).then hF6 (fun j hj e => by have := (World.ownsRow.lt HRow.out j e).1; omega)
        refine ⟨⟨k + 1, by simp, by omega, ?_, hG6⟩, by simp; omega⟩
        unfold Hd
        rw [rliveL_succ, HTB.out, if_pos rfl, show rliveL a k = ts from HTS.out, List.length_append, List.map_append]
        exact hown6
    · have hke : k = a.cells.length := by omega
      subst hke
      clear hMk
      go_wp2_with fail
      go_ret
      exact ⟨u3, rfl, HRow.out, HF.out⟩

/-! ### New -/
def rnewX (n : Nat) : RA := ⟨List.replicate n (0, 0), [], []⟩

theorem rmem_new (w : World) : RMem (w.alloc (.cells #[.slice none 0 0, .slice none 0 0, .slice none 0 0] 56)) w.heap.size ⟨fun k => if k = w.heap.size then 1 else 0, .slice none 0 0, .slice none 0 0, .slice none 0 0, [], []⟩ (rnewX 0) where
  blk := heap_alloc_last w _
  gls := World.ownsRow_nil _ _ _ _
  frs := World.ownsRow_nil _ _ _ _
  fro := fun i u l h => by simp at h
  cls := World.ownsRow_nil _ _ _ _
  flo := fun i u c h => by simp at h
  lfl := rfl
  ob := if_pos rfl
  og := fun j e => by cases e
  of := fun j e => by cases e
  oc := fun j e => by cases e
  ofr := fun i u j h => by simp at h
  ofl := fun i u j h => by simp at h
  olt := fun k hk => by
    have hk : (if k = w.heap.size then 1 else 0) ≠ 0 := hk
    split at hk
    · rename_i e; subst e; simp
    · exact absurd rfl hk

set_option maxRecDepth 100000 in
set_option maxHeartbeats 2000000 in
theorem rnew_any (n : Int) (w : World) :
    Calls Try.prog 14 #[vI n] w fun e w' => ∃ b g, e = .returned (rptr b) ∧ RMem w' b g (rnewX (min n.toNat 16)) ∧ Fr (fun _ => False) w w' ∧ ∀ k, g.own k ≠ 0 → w.heap.size ≤ k := by
  have HM : Hd _ := rmem_new w
  have HF : Hd (Fr (fun _ => False) w (w.alloc (.cells #[.slice none 0 0, .slice none 0 0, .slice none 0 0] 56))) := Fr.alloc (Fr.refl _ w) _
  go_enter Try.func14, Try.ntmps14
  go_wp2_with fail
  generalize w.alloc (.cells #[.slice none 0 0, .slice none 0 0, .slice none 0 0] 56) = w1 at *
  obtain ⟨b, hb⟩ : ∃ b, b = w.heap.size := ⟨_, rfl⟩
  have HB : Hd (w.heap.size ≤ b) := Nat.le_of_eq hb.symm
  rw [← hb] at HM ⊢
  have HO : Hd (∀ k, (⟨fun k => if k = b then 1 else 0, .slice none 0 0, .slice none 0 0, .slice none 0 0, [], []⟩ : RG).own k ≠ 0 → w.heap.size ≤ k) := fun k hk => by
    have hk : (if k = b then 1 else 0) ≠ 0 := hk
    split at hk
    · omega
    · exact absurd rfl hk
  clear hb
  go_loopw [4] (fun v wr => ∃ (k : Nat) (g : RG), v = .int .i64 k ∧ k ≤ min n.toNat 16 ∧ Hd (RMem wr b g (rnewX k)) ∧ Hd (Fr (fun _ => False) w wr) ∧ Hd (∀ k, g.own k ≠ 0 → w.heap.size ≤ k)) (fun v _ => match v with | .int _ q => min n.toNat 16 - q.toNat | _ => 0)
  case atStart => exact ⟨0, _, rfl, Nat.zero_le _, HM.out, HF.out, HO.out⟩
  case round =>
    obtain ⟨k, g, rfl, hk, HMk, HFk, HOk⟩ := hrel
    clear HM HF HO
    by_cases hlt : k < min n.toNat 16
    · have d1 : decide ((k : Int) < n) = true := by simp; omega
      have d2 : decide ((k : Int) < 16) = true := by simp; omega
      obtain ⟨i28, hi, hz, hs, hb⟩ := info_parts (P := Try.prog) (e := 28) (z := vv (0, 0)) (size := 2) (bytes := 16) (by kernel_rfl)
      obtain ⟨c0, c1, c2⟩ := HMk.out.heads
      have hFa : Fr (fun _ => False) wr (wr.alloc (.cells #[vI 0, vI 0] 28)) := Fr.alloc (Fr.refl _ wr) _
      have HMa : Hd _ := HMk.out.keep hFa
      have HFA : Hd _ := hFa
      have hnews : ∀ j u, [vI 0, vI 0][j]? = some u → (wr.alloc (.cells #[vI 0, vI 0] 28)).cell? ((⟨wr.heap.size, 0, none⟩ : Addr).add j) = some u :=
        World.news_of_block (w := (wr.alloc (.cells #[vI 0, vI 0] 28))) (cs := #[vI 0, vI 0]) (heap_alloc_last wr (.cells #[vI 0, vI 0] 28))
      have hw1 : (wr.alloc (.cells #[vI 0, vI 0] 28)).heap.size = wr.heap.size + 1 := by simp
      have hmx : k + 1 ≤ maxLen := by unfold maxLen; omega
      have t1 : (vv (0, 0)).cells.size = 2 := rfl
      have t2 : ∀ u ∈ [vI 0, vI 0], u.oneCell' = true := by intro u hu; simp at hu; subst hu; rfl
      have t4 : [vI 0, vI 0].length = 1 * 2 := rfl
      have hgl : (rnewX k).gl.length = k := by simp [rnewX]
      have HGL : Hd ((wr.alloc (.cells #[vI 0, vI 0] 28)).ownsRow 0 28 2 g.gv k (flat (rnewX k).gl)) := by have := HMa.out.gls; rw [hgl] at this; exact this
      have HAFT : Hd (∀ w6 : World, (wr.alloc (.cells #[vI 0, vI 0] 28)).grownBy w6 g.gv.ownBlock → w6.cell? ⟨b, 0, none⟩ = some g.gv ∧ w6.frozen? ⟨b, 0, none⟩ = false) := fun w6 hg => by
        have hc6 : w6.heap[b]? = some (.cells #[g.gv, g.fv, g.cv] 56) := by
          rw [hg.block b (heap_lt HMa.out.blk) (fun e => rne HMa.out.ob (HMa.out.og b e.symm) (by omega) rfl)]
          exact HMa.out.blk
        exact ⟨by rw [cell_of hc6]; rfl, frozen_of hc6 0⟩
      clear hFa c1 c2 hgl
      go_wp2_with ((at_builtin; refine wpList_append_lies _ rfl (.tmp 20) (.tmp 22) 53 rfl 0 28 i28 (vv (0, 0)) 2 16 under22 hi hz hs hb t1 (by omega) g.gv k (flat (rnewX k).gl) rfl HGL.out ⟨wr.heap.size, 0, none⟩ 1 1 [vI 0, vI 0] rfl t4 hnews t2 (by omega) hmx (by omega) (Nat.zero_le _) (wr.heap.size + 1) hw1 ?_; intro g6 cap6 w6 hown6 hgrow6 hat6 hlt6; obtain ⟨y0, z0⟩ := HAFT.out w6 hgrow6))
      have hgl : (rnewX k).gl.length = k := by simp [rnewX]
      obtain ⟨g', m1, m2, m3, m4⟩ := HMa.out.grewGl (x := (0, 0)) (by rw [hgl]; exact hown6) hgrow6 (by rw [hw1]; exact hat6)
      rw [hgl] at m1 m2
      have hx : ({ rnewX k with gl := (rnewX k).gl ++ [(0, 0)] } : RA) = rnewX (k + 1) := by simp [rnewX, List.replicate_succ']
      rw [hx] at m1
      refine ⟨⟨k + 1, g', by simp, by omega, m1, (HFk.out.trans HFA.out).then m2 (fun j hj e => by have := HOk.out j e; omega), fun j hj => ?_⟩, by simp; omega⟩
      rcases m4 j hj with h1 | h1
      · exact HOk.out j h1
      · have := HFk.out.size
        rw [hw1] at h1
        omega
    · have hke : k = min n.toNat 16 := by omega
      by_cases h1 : (k : Int) < n
      · have d1 : decide ((k : Int) < n) = true := by simpa using h1
        have d2 : decide ((k : Int) < 16) = false := by simp; omega
        have HKE : Hd _ := hke
        clear hke
        go_wp2_with fail
        go_ret
        rw [← show k = min n.toNat 16 from HKE.out]
        first
          | exact ⟨b, g, rfl, HMk.out, HFk.out, HOk.out⟩
          | exact ⟨b, rfl, g, HMk.out, HFk.out, HOk.out⟩
      · have d1 : decide ((k : Int) < n) = false := by simpa using h1
        have HKE : Hd _ := hke
        clear hke
        go_wp2_with fail
        go_ret
        rw [← show k = min n.toNat 16 from HKE.out]
        first
          | exact ⟨b, g, rfl, HMk.out, HFk.out, HOk.out⟩
          | exact ⟨b, rfl, g, HMk.out, HFk.out, HOk.out⟩

end Go.Proofs.Ytmdlebolmhnhaab

namespace Go.Proofs.Ytmdlebolmhnhaab
open Go.RowKit (wrap32 wrap64)
open Go.Maps (Keyed)
set_option linter.unusedVariables false
set_option linter.unusedSimpArgs false

/-- What the program's memory is to the document's. -/
structure Rel (a : Abs) (r : RA) : Prop where
  gl : a.gl = r.gl
  made : a.made = r.cells.length
  cell : ∀ (i : Nat) (c : CellR), r.cells[i]? = some c → a.cells (i + 1) = if c.there then some c.fields else none
  inn : ∀ i, (a.cells i).isSome = true → 1 ≤ i ∧ i ≤ a.made
  frl : a.frs.length = r.frs.length
  fsort : a.frs.Pairwise (· ≤ ·)
  fmade : ∀ x ∈ a.frs, x ≤ a.made
  num : ∀ (t : Nat) (l : List Nat), r.frs[t]? = some l → ∀ n ∈ l, 1 ≤ n ∧ n ≤ a.made ∧ (∃ x, a.frs[t]? = some x ∧ x < n) ∧ ∀ y, a.frs[t + 1]? = some y → n ≤ y
  psort : a.pss.Pairwise (· < ·)
  pin : ∀ (i : Nat) (c : CellR), r.cells[i]? = some c → c.there = true → c.heap = false → i + 1 ∈ a.pss
  pis : ∀ p ∈ a.pss, ∃ (i : Nat) (c : CellR) (t : Nat) (l : List Nat), p = i + 1 ∧ r.cells[i]? = some c ∧ c.heap = false ∧ r.frs[t]? = some l ∧ p ∈ l

theorem Rel.wf {a : Abs} {r : RA} (h : Rel a r) : RWf r := fun l hl n hn => by
  obtain ⟨t, ht⟩ := List.getElem?_of_mem hl
  have := h.num t l ht n hn
  exact ⟨this.1, by have := h.made; omega⟩

theorem rel_new (n : Nat) : Rel (newX n) (rnewX n) where
  gl := rfl
  made := rfl
  cell := fun i c h => by simp [rnewX] at h
  inn := fun i h => by simp [newX] at h
  frl := rfl
  fsort := List.Pairwise.nil
  fmade := fun x h => by simp [newX] at h
  num := fun t l h => by simp [rnewX] at h
  psort := List.Pairwise.nil
  pin := fun i c h => by simp [rnewX] at h
  pis := fun p h => by simp [newX] at h

theorem Rel.push {a : Abs} {r : RA} (h : Rel a r) : Rel (pushX a) { r with frs := r.frs ++ [[]] } where
  gl := h.gl
  made := h.made
  cell := h.cell
  inn := h.inn
  frl := by simp [pushX, h.frl]
  fsort := by
    refine List.pairwise_append.2 ⟨h.fsort, List.pairwise_singleton _ _, fun x hx y hy => ?_⟩
    simp at hy
    subst hy
    exact h.fmade x hx
  fmade := fun x hx => by
    simp [pushX] at hx
    rcases hx with hx | hx
    · exact h.fmade x hx
    · exact Nat.le_of_eq hx
  num := fun t l hl n hn => by
    rcases snoc_get (show (r.frs ++ [[]])[t]? = some l from hl) with ⟨ht, hl⟩ | ⟨ht, rfl⟩
    · obtain ⟨h1, h2, ⟨x, h3, h4⟩, h5⟩ := h.num t l hl n hn
      have hte : t < a.frs.length := by rw [h.frl]; exact ht
      refine ⟨h1, h2, ⟨x, by show (a.frs ++ [a.made])[t]? = _; rw [List.getElem?_append_left hte]; exact h3, h4⟩, fun y hy => ?_⟩
      have hy : (a.frs ++ [a.made])[t + 1]? = some y := hy
      rcases Nat.lt_or_ge (t + 1) a.frs.length with hl | hl
      · rw [List.getElem?_append_left hl] at hy
        exact h5 y hy
      · rw [List.getElem?_append_right hl] at hy
        have : t + 1 - a.frs.length = 0 := by omega
        rw [this] at hy
        simp at hy
        omega
    · simp at hn
  psort := h.psort
  pin := h.pin
  pis := fun p hp => by
    obtain ⟨i, c, t, l, h1, h2, h3, h4, h5⟩ := h.pis p hp
    exact ⟨i, c, t, l, h1, h2, h3, by show (r.frs ++ [[]])[t]? = _; rw [List.getElem?_append_left (List.getElem?_eq_some_iff.1 h4).1]; exact h4, h5⟩

theorem Rel.right {a : Abs} {r : RA} (h : Rel a r) (v : Val) : rightB a.made v = rightB r.cells.length v := by rw [h.made]

theorem Rel.load {a : Abs} {r : RA} (h : Rel a r) (v : Val) (f : Int) : loadX a v f = rloadX r v f := by
  obtain ⟨k, n⟩ := v
  unfold loadX rloadX atX
  rw [h.right]
  cases hr : rightB r.cells.length (k, n)
  · simp
  · by_cases h2 : k = 2
    · subst h2
      have hn : 1 ≤ n ∧ n ≤ r.cells.length := by simpa [rightB] using hr
      obtain ⟨i, rfl⟩ : ∃ i : Nat, n = ((i + 1 : Nat) : Int) := ⟨(n - 1).toNat, by omega⟩
      obtain ⟨c, hc⟩ : ∃ c, r.cells[i]? = some c := ⟨_, List.getElem?_eq_getElem (by omega)⟩
      simp only [Int.toNat_natCast, Nat.add_sub_cancel, hc, h.cell i c hc]
      cases ht : c.there
      · simp
      · by_cases hf : 0 ≤ f ∧ f < c.fields.length
        · simp [hf]
        · simp [hf]
    · simp [h2]

theorem Rel.global {a : Abs} {r : RA} (h : Rel a r) (n : Int) : globalX a n = rglobalX r n := by
  unfold globalX rglobalX
  rw [h.gl]

end Go.Proofs.Ytmdlebolmhnhaab
