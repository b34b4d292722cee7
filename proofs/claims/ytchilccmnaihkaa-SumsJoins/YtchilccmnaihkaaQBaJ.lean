import Derived.Test.YtchilccmnaihkaaQA9J
import Derived.Test.YtchilccmnaihkaaQCdJ
import Derived.Test.YtchilccmnaihkaaQA4J
import Derived.Test.YtchilccmnaihkaaQAg
namespace Go.Proofs.Ytchilccmnaihkaa
open Go.RowKit (wrap32 wrap64)
set_option linter.unusedVariables false
set_option linter.unusedSimpArgs false

set_option maxRecDepth 100000 in
set_option maxHeartbeats 1000000 in
theorem copyInts_any (v : Value) (es : List Int) (w : World) (hE : IA w v es) (hel : es.length ≤ 17592186043904) : Calls Try.prog 29 #[v] w fun e w' => ∃ v', e = .returned v' ∧ IOwn w' w.heap.size v' es ∧ Fr (fun _ => False) w w' := by
  obtain ⟨ea, ec, rfl, hein⟩ := hE
  have HE : Hd _ := hein
  clear hein
  obtain ⟨i3, hi3, hz3, hs3, hb3⟩ := info_parts (P := Try.prog) (e := 3) (z := .int .i64 0) (size := 1) (bytes := 8) (by kernel_rfl)
  go_enter Try.func29, Try.ntmps29
  go_wp2_with fail
  go_loopw [3, 4] (fun mv v wr => ∃ (k : Nat), v = .int .i64 k ∧ k ≤ es.length ∧ Hd (IOwn wr w.heap.size mv (es.take k)) ∧ Hd (Fr (fun _ => False) w wr)) (fun _ v _ => match v with | .int _ q => es.length - q.toNat | _ => 0)
  case atStart => exact ⟨0, rfl, Nat.zero_le _, World.ownsRow_nil _ _ _ _, Fr.refl _ _⟩
  case round =>
    obtain ⟨k, rfl, hk, HO, HF⟩ := hrel
    by_cases hlt : k < es.length
    · obtain ⟨pk, po, rfl, hpk, hcs⟩ := HE.out (by intro e; simp [e] at hlt)
      have d0 := hcs k hlt
      have p0 := (HF.out.cell (o := po + k) hpk (fun h => h)).trans d0
      clear hcs d0
      have HT : Hd (es.take (k + 1) = es.take k ++ [es[k]]) := by unfold Hd; rw [List.take_add_one, List.getElem?_eq_getElem hlt]; rfl
      have HTL : Hd ((es.take k).length = k) := by unfold Hd; rw [List.length_take]; omega
      obtain ⟨e, he⟩ : ∃ e, es[k] = e := ⟨_, rfl⟩
      rw [he] at p0 HT
      clear he
      obtain ⟨E, hE⟩ : ∃ E, E = es.take k := ⟨_, rfl⟩
      rw [← hE] at HO HT HTL
      clear hE
      have hk0 : (0 : Int) ≤ k := by omega
      have hk1 : (k : Int) < es.length := by omega
      have hsz := HF.out.size
      have HO1 : Hd ((wr.alloc (.cells #[vI e] 3)).ownsRow w.heap.size 3 1 u3 E.length (E.map vI)) := World.ownsRow.alloc HO.out _
      have hnews : ∀ j u, [vI e][j]? = some u → (wr.alloc (.cells #[vI e] 3)).cell? ((⟨wr.heap.size, 0, none⟩ : Addr).add j) = some u :=
        World.news_of_block (cs := #[vI e]) (heap_new wr (.cells #[vI e] 3))
      have hbase : w.heap.size ≤ (wr.alloc (.cells #[vI e] 3)).heap.size := by simp; omega
      have hEl : E.length + 1 ≤ 17592186043905 := by have := HTL.out; omega
      go_wp2_with ((at_builtin; refine Hd.out ?_))
      unfold Hd
      refine wpList_append_lies _ rfl (.tmp 11) (.tmp 16) 22 rfl w.heap.size 3 i3 (.int .i64 0) 1 8 under22i hi3 hz3 hs3 hb3 rfl (by omega) u3 E.length _ rfl HO1.out ⟨wr.heap.size, 0, none⟩ 1 1 [vI e] rfl rfl hnews (by intro u hu; simp at hu; subst hu; rfl) (by omega) (by unfold maxLen; omega) (by omega) hbase (wr.heap.size + 1) (by simp) ?_
      intro g6 cap6 w6 hown6 hgrow6 hat6 hlt6
      have HO6 : Hd (IOwn w6 w.heap.size (.slice (some ⟨g6, 0, none⟩) (E.length + 1) cap6) (E ++ [e])) := by unfold Hd IOwn; rw [List.map_append, List.length_append]; exact hown6
      have HF6 : Hd (Fr (fun _ => False) w w6) := grow_fr0 (HF.out.alloc _) hgrow6 (fun k hk => (HO.out.ge k hk).1)
      clear hown6 hgrow6 hat6 hlt6 HO HF HO1 hnews hbase p0
      go_wp2_with fail
      refine ⟨⟨k + 1, by simp, by omega, ?_, HF6.out⟩, by simp; omega⟩
      unfold Hd; rw [HT.out]; exact HO6.out
    · have hke : k = es.length := by omega
      subst hke
      have HO2 : Hd (IOwn wr w.heap.size u3 es) := by have := HO.out; rw [List.take_length] at this; exact this
      clear HO
      go_wp2_with fail
      go_ret
      exact ⟨u3, rfl, HO2.out, HF.out⟩


/-- Lists of their own, in a row of its own, each apart from the others. -/
structure LO (w : World) (B : Nat) (rv : Value) (us : List Value) (ls : List (List Int)) : Prop where
  row : w.ownsRow B 22 1 rv us.length us
  ul : us.length = ls.length
  each : ∀ i (h : i < us.length) (h' : i < ls.length), IOwn w B us[i] ls[i]
  apart : ∀ i j (h : i < us.length) (h' : j < us.length), i ≠ j → ∀ k, us[i].ownBlock = some k → us[j].ownBlock ≠ some k
theorem LO.nil (w : World) (B : Nat) : LO w B (.slice none 0 0) [] [] := ⟨World.ownsRow_nil _ _ _ _, rfl, fun i h => by simp at h, fun i j h => by simp at h⟩
theorem LO.keep {w w' : World} {B : Nat} {rv : Value} {us : List Value} {ls : List (List Int)} (h : LO w B rv us ls) (f : Fr (fun _ => False) w w') : LO w' B rv us ls :=
  ⟨ownsRow_fr h.row f (fun _ _ e => e), h.ul, fun i hi hk => (h.each i hi hk).fr f (fun _ _ e => e), h.apart⟩
theorem LO.grow {w w6 : World} {B g cap : Nat} {rv x : Value} {us : List Value} {ls : List (List Int)} {l : List Int} (h : LO w B rv us ls) (hx : IOwn w B x l) (ha : ∀ i (hi : i < us.length), ∀ k, us[i].ownBlock = some k → x.ownBlock ≠ some k) (hg : w.grownBy w6 rv.ownBlock) (ho : w6.ownsRow B 22 1 (.slice (some ⟨g, 0, none⟩) (us.length + 1) cap) (us.length + 1) (us ++ [x])) :
    LO w6 B (.slice (some ⟨g, 0, none⟩) (us.length + 1) cap) (us ++ [x]) (ls ++ [l]) := by
  have f := grown_fr hg
  have ke : ∀ y s, IOwn w B y s → IOwn w6 B y s := fun y s hy => hy.fr f (fun j e e2 => own_apart h.row hy (by decide) j e e2)
  refine ⟨by rw [List.length_append]; exact ho, by rw [List.length_append, List.length_append, h.ul]; rfl, fun i hi hk => ?_, fun i j hi hj hne k e => ?_⟩
  · have hul := h.ul
    by_cases e : i < us.length
    · rw [List.getElem_append_left e, List.getElem_append_left (by omega)]
      exact ke _ _ (h.each i e (by omega))
    · have ei : i = us.length := by simp at hi; omega
      subst ei
      have e1 : (us ++ [x])[us.length] = x := by simp
      have e2 : (ls ++ [l])[us.length] = l := by simp [hul]
      rw [e1, e2]
      exact ke _ _ hx
  · have hi' : i < us.length + 1 := by simpa using hi
    have hj' : j < us.length + 1 := by simpa using hj
    by_cases ei : i < us.length
    · rw [List.getElem_append_left ei] at e
      by_cases ej : j < us.length
      · rw [List.getElem_append_left ej]; exact h.apart i j ei ej hne k e
      · have e3 : j = us.length := by omega
        subst e3
        have e1 : (us ++ [x])[us.length] = x := by simp
        rw [e1]; exact ha i ei k e
    · have e3 : i = us.length := by omega
      subst e3
      have e1 : (us ++ [x])[us.length] = x := by simp
      rw [e1] at e
      have ej : j < us.length := by omega
      rw [List.getElem_append_left ej]
      intro e2
      exact ha j ej k e2 e
theorem LO.la {w : World} {B : Nat} {rv : Value} {us : List Value} {ls : List (List Int)} (h : LO w B rv us ls) : LA w rv ls := by
  obtain ⟨ra, rc, erv⟩ := own_slice h.row
  refine ⟨ra, rc, by rw [erv, h.ul], fun hne => ?_⟩
  have hl0 : 0 < us.length := by rw [h.ul]; exact List.length_pos_iff.2 hne
  obtain ⟨g, cap, e, hgl, -⟩ := own_cell h.row (j := 0) (u := us[0]) (List.getElem?_eq_getElem hl0)
  rw [erv] at e
  cases e
  refine ⟨g, 0, rfl, hgl, fun j hj => ?_⟩
  have hj' : j < us.length := by rw [h.ul]; exact hj
  obtain ⟨g', cap', e', -, hc⟩ := own_cell h.row (j := j) (u := us[j]) (List.getElem?_eq_getElem hj')
  rw [erv] at e'
  cases e'
  exact ⟨us[j], by rw [Nat.zero_add]; exact hc, (h.each j hj' hj).ia⟩

set_option maxRecDepth 100000 in
set_option maxHeartbeats 1000000 in
theorem copyLists_any (v : Value) (ls : List (List Int)) (w : World) (hE : LA w v ls) (hel : ls.length ≤ 1000000000000) (hll : ∀ l ∈ ls, l.length ≤ 17592186043904) : Calls Try.prog 30 #[v] w fun e w' => ∃ v' us, e = .returned v' ∧ LO w' w.heap.size v' us ls ∧ Fr (fun _ => False) w w' := by
  obtain ⟨ea, ec, rfl, hein⟩ := hE
  have HE : Hd (ls ≠ [] → _) := hein
  have HLL : Hd (∀ l ∈ ls, l.length ≤ 17592186043904) := hll
  clear hein hll
  obtain ⟨i22, hi22, hz22, hs22, hb22⟩ := info_parts (P := Try.prog) (e := 22) (z := .slice none 0 0) (size := 1) (bytes := 24) (by kernel_rfl)
  go_enter Try.func30, Try.ntmps30
  go_wp2_with fail
  go_loopw [3, 4] (fun mv v wr => ∃ (k : Nat) (us : List Value), v = .int .i64 k ∧ k ≤ ls.length ∧ Hd (LO wr w.heap.size mv us (ls.take k)) ∧ Hd (Fr (fun _ => False) w wr)) (fun _ v _ => match v with | .int _ q => ls.length - q.toNat | _ => 0)
  case atStart => exact ⟨0, [], rfl, Nat.zero_le _, LO.nil _ _, Fr.refl _ _⟩
  case round =>
    obtain ⟨k, us, rfl, hk, HO, HF⟩ := hrel
    by_cases hlt : k < ls.length
    · obtain ⟨pk, po, rfl, hpk, hcs⟩ := HE.out (by intro e; simp [e] at hlt)
      obtain ⟨u, hu1, hu2⟩ := hcs k hlt
      have p0 := (HF.out.cell (o := po + k) hpk (fun h => h)).trans hu1
      have HI : Hd (IA wr u ls[k]) := hu2.stay HF.out
      have hzk : ls[k].length ≤ 17592186043904 := HLL.out _ (List.getElem_mem hlt)
      have HT : Hd (ls.take (k + 1) = ls.take k ++ [ls[k]]) := by unfold Hd; rw [List.take_add_one, List.getElem?_eq_getElem hlt]; rfl
      have HUL : Hd (us.length = k) := by have h9 := HO.out.ul; unfold Hd; rw [h9, List.length_take]; omega
      obtain ⟨va, vc, eu, -⟩ := hu2
      generalize ls[k] = z at *
      subst eu
      have hk0 : (0 : Int) ≤ k := by omega
      have hk1 : (k : Int) < ls.length := by omega
      clear hcs hu1
      go_wp2_with fail
      refine (show Calls Try.prog 29 #[.slice va z.length vc] wr _ from copyInts_any _ z wr HI.out hzk).mono ?_
      rintro e w2 ⟨x, rfl, hx, hF2⟩
      have HX : Hd (IOwn w2 w.heap.size x z) := hx.mono HF.out.size
      have HXA : Hd (∀ i (hi : i < us.length), ∀ k, us[i].ownBlock = some k → x.ownBlock ≠ some k) := fun i hi j e e2 => by
        have h1 := (hx.ge j e2).1
        have h2 := ((HO.out.each i hi (by have := HO.out.ul; omega)).ge j e).2
        omega
      obtain ⟨xa, xc, ex⟩ := own_slice hx
      have HO2 : Hd (LO w2 w.heap.size u3 us (ls.take k)) := HO.out.keep hF2
      have HF2 : Hd (Fr (fun _ => False) w w2) := HF.out.trans hF2
      have hsz := HF2.out.size
      have HO1 : Hd (LO (w2.alloc (.cells #[x] 22)) w.heap.size u3 us (ls.take k)) := HO2.out.keep (Fr.alloc (Fr.refl _ _) _)
      have HX1 : Hd (IOwn (w2.alloc (.cells #[x] 22)) w.heap.size x z) := HX.out.fr (Fr.alloc (Fr.refl (fun _ => False) _) _) (fun _ _ e => e)
      have hnews : ∀ j u, [x][j]? = some u → (w2.alloc (.cells #[x] 22)).cell? ((⟨w2.heap.size, 0, none⟩ : Addr).add j) = some u :=
        World.news_of_block (cs := #[x]) (heap_new w2 (.cells #[x] 22))
      have hbase : w.heap.size ≤ (w2.alloc (.cells #[x] 22)).heap.size := by simp; omega
      have hUl : us.length + 1 ≤ 1000000000001 := by have := HUL.out; omega
      subst ex
      clear hx hF2 HF HO HI p0
      go_wp2_with ((at_builtin; refine Hd.out ?_))
      unfold Hd
      refine wpList_append_lies _ rfl (.tmp 17) (.tmp 19) 29 rfl w.heap.size 22 i22 (.slice none 0 0) 1 24 under29 hi22 hz22 hs22 hb22 rfl (by omega) u3 us.length _ rfl HO1.out.row ⟨w2.heap.size, 0, none⟩ 1 1 [.slice xa z.length xc] rfl rfl hnews (by intro u hu; simp at hu; subst hu; rfl) (by omega) (by unfold maxLen; omega) (by omega) hbase (w2.heap.size + 1) (by simp) ?_
      intro g6 cap6 w6 hown6 hgrow6 hat6 hlt6
      have HO6 : Hd (LO w6 w.heap.size (.slice (some ⟨g6, 0, none⟩) (us.length + 1) cap6) (us ++ [.slice xa z.length xc]) (ls.take (k + 1))) := by unfold Hd; rw [HT.out]; exact HO1.out.grow HX1.out HXA.out hgrow6 hown6
      have HF6 : Hd (Fr (fun _ => False) w w6) := grow_fr0 (HF2.out.alloc _) hgrow6 (fun k hk => (World.ownsRow.lt HO1.out.row k hk).1)
      clear hown6 hgrow6 hat6 hlt6 HO1 hnews hbase HO2 HF2 HX HX1 HXA
      go_wp2_with fail
      exact ⟨⟨k + 1, _, by simp, by omega, HO6.out, HF6.out⟩, by simp; omega⟩
    · have hdk : decide ((k : Int) < ls.length) = false := by simp; omega
      have HO2 : Hd (LO wr w.heap.size u3 us ls) := by have := HO.out; rw [List.take_of_length_le (by omega)] at this; exact this
      clear HO
      go_wp2_with fail
      go_ret
      exact ⟨u3, us, rfl, HO2.out, HF.out⟩

end Go.Proofs.Ytchilccmnaihkaa

namespace Go.Proofs.Ytchilccmnaihkaa
open Go.RowKit (wrap32 wrap64)
set_option linter.unusedVariables false
set_option linter.unusedSimpArgs false

set_option maxRecDepth 100000 in
set_option maxHeartbeats 1000000 in
theorem copyBytes_any (v : Value) (es : List Int) (w : World) (hE : BA w v es) (hel : es.length ≤ 130000000000000) : Calls Try.prog 18 #[v] w fun e w' => ∃ v', e = .returned v' ∧ BOwn w' w.heap.size v' es ∧ Fr (fun _ => False) w w' := by
  obtain ⟨ea, ec, rfl, hein⟩ := hE
  have HE : Hd _ := hein
  clear hein
  obtain ⟨i5, hi5, hz5, hs5, hb5⟩ := info_parts (P := Try.prog) (e := 5) (z := .int .u8 0) (size := 1) (bytes := 1) (by kernel_rfl)
  go_enter Try.func18, Try.ntmps18
  go_wp2_with fail
  go_loopw [3, 4] (fun mv v wr => ∃ (k : Nat), v = .int .i64 k ∧ k ≤ es.length ∧ Hd (BOwn wr w.heap.size mv (es.take k)) ∧ Hd (Fr (fun _ => False) w wr)) (fun _ v _ => match v with | .int _ q => es.length - q.toNat | _ => 0)
  case atStart => exact ⟨0, rfl, Nat.zero_le _, World.ownsRow_nil _ _ _ _, Fr.refl _ _⟩
  case round =>
    obtain ⟨k, rfl, hk, HO, HF⟩ := hrel
    by_cases hlt : k < es.length
    · obtain ⟨pk, po, rfl, hpk, hcs⟩ := HE.out (by intro e; simp [e] at hlt)
      have d0 := hcs k hlt
      have p0 := (HF.out.cell (o := po + k) hpk (fun h => h)).trans d0
      clear hcs d0
      have HT : Hd (es.take (k + 1) = es.take k ++ [es[k]]) := by unfold Hd; rw [List.take_add_one, List.getElem?_eq_getElem hlt]; rfl
      have HTL : Hd ((es.take k).length = k) := by unfold Hd; rw [List.length_take]; omega
      obtain ⟨e, he⟩ : ∃ e, es[k] = e := ⟨_, rfl⟩
      rw [he] at p0 HT
      clear he
      obtain ⟨E, hE⟩ : ∃ E, E = es.take k := ⟨_, rfl⟩
      rw [← hE] at HO HT HTL
      clear hE
      have hk0 : (0 : Int) ≤ k := by omega
      have hk1 : (k : Int) < es.length := by omega
      have hsz := HF.out.size
      have HO1 : Hd ((wr.alloc (.cells #[vB e] 5)).ownsRow w.heap.size 5 1 u3 E.length (E.map vB)) := World.ownsRow.alloc HO.out _
      have hnews : ∀ j u, [vB e][j]? = some u → (wr.alloc (.cells #[vB e] 5)).cell? ((⟨wr.heap.size, 0, none⟩ : Addr).add j) = some u :=
        World.news_of_block (cs := #[vB e]) (heap_new wr (.cells #[vB e] 5))
      have hbase : w.heap.size ≤ (wr.alloc (.cells #[vB e] 5)).heap.size := by simp; omega
      have hEl : E.length + 1 ≤ 130000000000001 := by have := HTL.out; omega
      go_wp2_with ((at_builtin; refine Hd.out ?_))
      unfold Hd
      refine wpList_append_lies _ rfl (.tmp 11) (.tmp 16) 42 rfl w.heap.size 5 i5 (.int .u8 0) 1 1 under42 hi5 hz5 hs5 hb5 rfl (by omega) u3 E.length _ rfl HO1.out ⟨wr.heap.size, 0, none⟩ 1 1 [vB e] rfl rfl hnews (by intro u hu; simp at hu; subst hu; rfl) (by omega) (by unfold maxLen; omega) (by omega) hbase (wr.heap.size + 1) (by simp) ?_
      intro g6 cap6 w6 hown6 hgrow6 hat6 hlt6
      have HO6 : Hd (BOwn w6 w.heap.size (.slice (some ⟨g6, 0, none⟩) (E.length + 1) cap6) (E ++ [e])) := by unfold Hd BOwn; rw [List.map_append, List.length_append]; exact hown6
      have HF6 : Hd (Fr (fun _ => False) w w6) := grow_fr0 (HF.out.alloc _) hgrow6 (fun k hk => (HO.out.ge k hk).1)
      clear hown6 hgrow6 hat6 hlt6 HO HF HO1 hnews hbase p0
      go_wp2_with fail
      refine ⟨⟨k + 1, by simp, by omega, ?_, HF6.out⟩, by simp; omega⟩
      unfold Hd; rw [HT.out]; exact HO6.out
    · have hke : k = es.length := by omega
      subst hke
      have HO2 : Hd (BOwn wr w.heap.size u3 es) := by have := HO.out; rw [List.take_length] at this; exact this
      clear HO
      go_wp2_with fail
      go_ret
      exact ⟨u3, rfl, HO2.out, HF.out⟩

set_option maxRecDepth 100000 in
set_option maxHeartbeats 1000000 in
/-- Two lists of the same summaries are alike. -/
theorem eqSums_same (v1 v2 : Value) (a : List PS) (w : World) (h1 : SsA w v1 a) (h2 : SsA w v2 a) (hz : a.length ≤ 4000000000000) (hfit : ∀ s ∈ a, s.Fits) :
    Calls Try.prog 17 #[v1, v2] w fun e w' => e = .returned (.bool true) ∧ Fr (fun _ => False) w w' := by
  obtain ⟨a1, c1, rfl, hc1⟩ := h1
  obtain ⟨a2, c2, rfl, hc2⟩ := h2
  have H1 : Hd (a ≠ [] → _) := hc1
  have H2 : Hd (a ≠ [] → _) := hc2
  have HA : Hd (∀ s ∈ a, s.Fits) := hfit
  clear hc1 hc2 hfit
  obtain ⟨n, hn⟩ : ∃ n, a.length = n := ⟨_, rfl⟩
  have HN : Hd (a.length = n) := hn
  have hnz : n ≤ 4000000000000 := by rw [← hn]; exact hz
  rw [hn]
  clear hn hz
  go_enter Try.func17, Try.ntmps17
  go_wp2_with fail
  go_loopw [5] (fun v wr => ∃ (k : Nat), v = .int .i64 k ∧ k ≤ n ∧ Hd (Fr (fun _ => False) w wr)) (fun v _ => match v with | .int _ q => n - q.toNat | _ => 0)
  case atStart => exact ⟨0, rfl, Nat.zero_le _, Fr.refl _ _⟩
  case round =>
    obtain ⟨k, rfl, hk, HF⟩ := hrel
    by_cases hltn : k < n
    · have hlt : k < a.length := by rw [HN.out]; exact hltn
      obtain ⟨k1, rfl, hk1, g1⟩ := H1.out (by intro e; simp [e] at hlt)
      obtain ⟨k2, rfl, hk2, g2⟩ := H2.out (by intro e; simp [e] at hlt)
      obtain ⟨x1, y1, p1, p1', i1, j1⟩ := g1 k hlt
      obtain ⟨x2, y2, p2, p2', i2, j2⟩ := g2 k hlt
      have q1 := (HF.out.cell hk1 (fun h => h)).trans p1
      have q1' := (HF.out.cell hk1 (fun h => h)).trans p1'
      have q2 := (HF.out.cell hk2 (fun h => h)).trans p2
      have q2' := (HF.out.cell hk2 (fun h => h)).trans p2'
      have hft : a[k].Fits := HA.out _ (List.getElem_mem hlt)
      have I1 : Hd (SA wr (.agg #[x1, y1]) a[k]) := ⟨_, _, rfl, i1.stay HF.out, j1.stay HF.out⟩
      have I2 : Hd (SA wr (.agg #[x2, y2]) a[k]) := ⟨_, _, rfl, i2.stay HF.out, j2.stay HF.out⟩
      have HFT : Hd a[k].Fits := hft
      obtain ⟨m1, m2, rfl, -⟩ := i1
      obtain ⟨m3, m4, rfl, -⟩ := j1
      obtain ⟨m5, m6, rfl, -⟩ := i2
      obtain ⟨m7, m8, rfl, -⟩ := j2
      generalize a[k] = x at *
      have hk0 : (0 : Int) ≤ k := by omega
      have hk3 : (k : Int) < n := by omega
      clear g1 g2 p1 p1' p2 p2' hlt hft
      go_wp2_with fail
      refine wp_region_still_tail 8 mixed (by kernel_rfl) ?_
      simp only [List.take_succ_cons, List.take_zero, List.drop_succ_cons, List.drop_zero]
      repeat still_step
      refine wpStill_nil ?_
      go_wp2_with fail
      refine (show Calls Try.prog 10 #[.agg #[.slice m1 x.heap.length m2, .slice m3 x.res.length m4], .agg #[.slice m5 x.heap.length m6, .slice m7 x.res.length m8]] wr.drew _ from eqSummary_any _ _ x x wr.drew (I1.out.stay (Fr.drew (Fr.refl _ _))) (I2.out.stay (Fr.drew (Fr.refl _ _))) HFT.out HFT.out).mono ?_
      rintro e w1 ⟨rfl, hF1⟩
      rw [PS.eq_iff.2 rfl]
      have HF1 : Hd (Fr (fun _ => False) w w1) := HF.out.drew.trans hF1
      clear hF1 HF q1 q2 q1' q2' I1 I2
      go_wp2_with fail
      exact ⟨⟨k + 1, by simp, by omega, HF1.out⟩, by simp; omega⟩
    · have hke : k = n := by omega
      subst hke
      go_wp2_with fail
      go_ret
      exact ⟨rfl, HF.out⟩

end Go.Proofs.Ytchilccmnaihkaa

namespace Go.Proofs.Ytchilccmnaihkaa
open Go.RowKit (wrap32 wrap64)
set_option linter.unusedVariables false
set_option linter.unusedSimpArgs false

/-- A shape with numbers for three summaries. -/
structure T3 where
  p : Int
  r : Int
  la : List Int
  lb : List Int
  lc : List Int
structure T3.Fits (x : T3) : Prop where
  a : x.la.length ≤ 17592186043904
  b : x.lb.length ≤ 17592186043904
/-- Some that lie somewhere. -/
def ThA (w : World) (v : Value) (xs : List T3) : Prop :=
  ∃ a c, v = .slice a xs.length c ∧ (xs ≠ [] → ∃ k o, a = some ⟨k, o, none⟩ ∧ k < w.heap.size ∧ ∀ j (h : j < xs.length), ∃ av bv cv, w.cell? ⟨k, o + j * 5, none⟩ = some (vI xs[j].p) ∧ w.cell? ⟨k, o + j * 5 + 1, none⟩ = some (vI xs[j].r) ∧ w.cell? ⟨k, o + j * 5 + 2, none⟩ = some av ∧ w.cell? ⟨k, o + j * 5 + 3, none⟩ = some bv ∧ w.cell? ⟨k, o + j * 5 + 4, none⟩ = some cv ∧ IA w av xs[j].la ∧ IA w bv xs[j].lb ∧ IA w cv xs[j].lc)
abbrev fB (P R : Nat) : Obj := .cells #[vI P, vI R, vI 0, .slice none 0 0] 28
abbrev hB (P R : Nat) : PH := ⟨P, R, 0, none, 0, 0⟩

theorem shaped_q (p r : Int) (P R : Nat) (v : Value) (l : List Int) (w : World) (hl : IA w v l) (hz : l.length ≤ 17592186043904) (hP : modX p 9 = P) (hR : modX r 5 = R) :
    Calls Try.prog 8 #[vI p, vI r, v] w fun e w' => ∃ s ha hc ra rc, e = .returned (.tuple #[.agg #[vI P, vI R, vI 0, .slice none 0 0], .agg #[.slice ha P hc, .slice ra P rc]]) ∧ SAq (fun j => w.heap.size ≤ j) w' (.agg #[.slice ha P hc, .slice ra P rc]) s ∧ PS.Right P R s ∧ Fr (fun _ => False) w w' := by
  have h : Calls Try.prog 8 #[vI p, vI r, v] w fun e w' => ∃ s v', e = .returned (.tuple #[.agg #[vI P, vI R, vI 0, .slice none 0 0], v']) ∧ SAq (fun j => w.heap.size ≤ j) w' v' s ∧ PS.Right P R s ∧ Fr (fun _ => False) w w' := by
    by_cases h0 : l.length = 0
    · exact shaped_nil p r P R v l w hl hz hP hR h0
    · exact shaped_cons p r P R v l w hl hz hP hR h0
  refine h.mono ?_
  rintro e w' ⟨s, v', rfl, h1, h2, h3⟩
  obtain ⟨ha, hc, ra, rc, rfl⟩ := h1.sa.form h2
  exact ⟨s, ha, hc, ra, rc, rfl, h1, h2, h3⟩

/-- Behind 'f, s := shaped(..)': both lie in boxes of their own. -/
def Two (wr wx : World) (P R : Nat) (x y : Value) : Prop :=
  ∃ XF XS s ha hc ra rc, x = .pointer (some ⟨XF, 0, none⟩) ∧ y = .pointer (some ⟨XS, 0, none⟩) ∧ wx.heap[XF]? = some (fB P R) ∧ wx.heap[XS]? = some (.cells #[.slice ha P hc, .slice ra P rc] 31) ∧ SAq (fun j => wr.heap.size ≤ j) wx (.agg #[.slice ha P hc, .slice ra P rc]) s ∧ PS.Right P R s ∧ Fr (fun _ => False) wr wx ∧ wr.heap.size ≤ XF ∧ wr.heap.size ≤ XS

theorem Shp.snoc {fs : List PH} {sh : List (Nat × Nat)} (h : Shp fs sh) {P R : Nat} (hP : P ≤ 8) (hR : R ≤ 4) : Shp (fs ++ [hB P R]) (sh ++ [(P, R)]) := by
  have hl := h.len
  refine ⟨by simp [hl], fun j hj hj' => ?_⟩
  by_cases e : j < fs.length
  · simp only [List.getElem_append_left e, List.getElem_append_left (show j < sh.length by omega)]
    exact h.at' j e (by omega)
  · have e1 : j = fs.length := by simp at hj; omega
    subst e1
    have q1 : (fs ++ [hB P R])[fs.length] = hB P R := by simp
    have q2 : (sh ++ [(P, R)])[fs.length] = (P, R) := by simp [hl]
    rw [q1, q2]
    exact ⟨rfl, rfl, hP, hR⟩
theorem Fit.snoc {sh : List (Nat × Nat)} {ss : List PS} (h : Fit sh ss) {P R : Nat} {s : PS} (hs : PS.Right P R s) : Fit (sh ++ [(P, R)]) (ss ++ [s]) := h.append (Fit.cons hs Fit.nil)

/-- Functions and their summaries, made so far. -/
structure Bun (w wr : World) (u v : Value) (fs : List PH) (ss : List PS) (sh : List (Nat × Nat)) (Q : Nat → Prop) : Prop where
  f : FOwn wr w.heap.size u fs
  sr : SR wr w.heap.size Q v ss
  a : ∀ j, u.ownBlock = some j → ¬ Q j
  shp : Shp fs sh
  fit : Fit sh ss
  fr : Fr (fun _ => False) w wr
theorem Bun.keep {w wr w' : World} {u v : Value} {fs : List PH} {ss : List PS} {sh : List (Nat × Nat)} {Q : Nat → Prop} (h : Bun w wr u v fs ss sh Q) (f : Fr (fun _ => False) wr w') : Bun w w' u v fs ss sh Q :=
  ⟨h.f.fr f (fun _ _ e => e), h.sr.fr f (fun _ _ e => e) (fun _ _ e => e), h.a, h.shp, h.fit, h.fr.trans f⟩
/-- A summary since. -/
theorem Bun.since {w wr wx : World} {u v : Value} {fs : List PH} {ss : List PS} {sh : List (Nat × Nat)} {Q : Nat → Prop} (h : Bun w wr u v fs ss sh Q) (f : Fr (fun _ => False) wr wx) : Bun w wx u v fs ss sh (fun j => Q j ∨ (wr.heap.size ≤ j ∧ j < wx.heap.size)) :=
  ⟨h.f.fr f (fun _ _ e => e), h.sr.since f (fun _ _ e => e) (fun _ _ e => e), fun j e => by
    rintro (q | q)
    · exact h.a j e q
    · have := (h.f.ge j e).2; omega, h.shp, h.fit, h.fr.trans f⟩
/-- The list of functions has grown by one; the list of summaries is to follow. -/
structure Bun1 (w w6 : World) (u v : Value) (fs : List PH) (ss : List PS) (sh : List (Nat × Nat)) (Q : Nat → Prop) (P R : Nat) (x y : Value) (s : PS) : Prop where
  f : FOwn w6 w.heap.size u (fs ++ [hB P R])
  sr : SR w6 w.heap.size Q v ss
  a : ∀ j, u.ownBlock = some j → ¬ Q j
  shp : Shp (fs ++ [hB P R]) (sh ++ [(P, R)])
  fit : Fit (sh ++ [(P, R)]) (ss ++ [s])
  fr : Fr (fun _ => False) w w6
  sa : SAq Q w6 (.agg #[x, y]) s
theorem Bun1.keep {w w6 w' : World} {u v : Value} {fs : List PH} {ss : List PS} {sh : List (Nat × Nat)} {Q : Nat → Prop} {P R : Nat} {x y : Value} {s : PS} (h : Bun1 w w6 u v fs ss sh Q P R x y s) (f : Fr (fun _ => False) w6 w') : Bun1 w w' u v fs ss sh Q P R x y s :=
  ⟨h.f.fr f (fun _ _ e => e), h.sr.fr f (fun _ _ e => e) (fun _ _ e => e), h.a, h.shp, h.fit, h.fr.trans f, h.sa.fr f (fun _ _ e => e)⟩
theorem SR.apart {w : World} {B B' : Nat} {Q : Nat → Prop} {u v : Value} {fs : List PH} {ss : List PS} (h : FOwn w B u fs) (k : SR w B' Q v ss) : ∀ j, v.ownBlock = some j → u.ownBlock ≠ some j := by
  obtain ⟨vs, -, k2, -⟩ := k
  exact own_apart h k2 (by decide)
theorem Bun.grow {w wz w6 : World} {u v : Value} {fs : List PH} {ss : List PS} {sh : List (Nat × Nat)} {Q : Nat → Prop} {P R g cap : Nat} {x y : Value} {s : PS} (h : Bun w wz u v fs ss sh Q) (hs : SAq Q wz (.agg #[x, y]) s) (hr : PS.Right P R s) (hP : P ≤ 8) (hR : R ≤ 4) (ho : w6.ownsRow w.heap.size 28 4 (.slice (some ⟨g, 0, none⟩) (fs.length + 1) cap) (fs.length + 1) (fs.flatMap PH.cells ++ (hB P R).cells)) (hg : wz.grownBy w6 u.ownBlock) (hat : u.ownBlock = some g ∨ g = wz.heap.size) : Bun1 w w6 (.slice (some ⟨g, 0, none⟩) (fs.length + 1) cap) v fs ss sh Q P R x y s := by
  have f := grown_fr hg
  have h4 : ∀ k, Q k → k < wz.heap.size := by obtain ⟨_, _, _, _, q, _⟩ := h.sr; exact q
  refine ⟨FOwn.of ho, h.sr.fr f (fun j e e2 => SR.apart h.f h.sr j e e2) (fun j hq e => h.a j e hq), fun j e => ?_, h.shp.snoc hP hR, h.fit.snoc hr, h.fr.then f (fun j hj e => by have := (h.f.ge j e).1; omega), hs.fr f (fun j hq e => h.a j e hq)⟩
  cases e
  intro hq
  rcases hat with e | e
  · exact h.a _ e hq
  · have : g < wz.heap.size := h4 _ hq
    omega
theorem Bun1.grow {w wz w6 : World} {u v : Value} {fs : List PH} {ss : List PS} {sh : List (Nat × Nat)} {Q : Nat → Prop} {P R g cap : Nat} {x y : Value} {s : PS} {vs : List (Value × Value)} (h : Bun1 w wz u v fs ss sh Q P R x y s) (h1 : vs.length = ss.length) (h2 : ∀ k, v.ownBlock = some k → ¬ Q k) (h3 : ∀ j (_ : j < vs.length) (_ : j < ss.length), SAq Q wz (.agg #[vs[j].1, vs[j].2]) ss[j]) (ho : w6.ownsRow w.heap.size 31 2 (.slice (some ⟨g, 0, none⟩) (vs.length + 1) cap) (vs.length + 1) (vs.flatMap pairC ++ [x, y])) (hg : wz.grownBy w6 v.ownBlock) (hat : v.ownBlock = some g ∨ g = wz.heap.size) : Bun w w6 u (.slice (some ⟨g, 0, none⟩) (vs.length + 1) cap) (fs ++ [hB P R]) (ss ++ [s]) (sh ++ [(P, R)]) Q := by
  have f := grown_fr hg
  have h4 : ∀ k, Q k → k < wz.heap.size := by obtain ⟨_, _, _, _, q, _⟩ := h.sr; exact q
  refine ⟨h.f.fr f (fun j e e2 => SR.apart h.f h.sr j e2 e), SR.push h1 h2 h4 h3 h.sa ho f (fun j hq e => h2 j e hq) (fun hq => ?_), h.a, h.shp, h.fit, h.fr.then f (fun j hj e => by have := (h.sr.ge j e).1; omega)⟩
  rcases hat with e | e
  · exact h2 _ e hq
  · have : g < wz.heap.size := h4 _ hq
    omega
theorem under45 : Try.prog.underlying 45 = some (.slice 28) := by kernel_rfl

end Go.Proofs.Ytchilccmnaihkaa

namespace Go.Proofs.Ytchilccmnaihkaa
open Go.RowKit (wrap32 wrap64)
set_option linter.unusedVariables false
set_option linter.unusedSimpArgs false

abbrev sF (W : World) (X P R : Nat) : World := (((W.setCell ⟨X, 0, none⟩ (vI P)).setCell ⟨X, 1, none⟩ (vI R)).setCell ⟨X, 2, none⟩ (vI 0)).setCell ⟨X, 3, none⟩ (.slice none 0 0)
abbrev sS (W : World) (X : Nat) (x y : Value) : World := (W.setCell ⟨X, 0, none⟩ x).setCell ⟨X, 1, none⟩ y
theorem sF_is {W : World} {X P R : Nat} (h : W.heap[X]? = some zeroF) : (sF W X P R).heap[X]? = some (fB P R) := set_of (set_of (set_of (set_of h 0 _) 1 _) 2 _) 3 _
theorem sF_fr (W : World) (X P R : Nat) : Fr (fun j => j = X) W (sF W X P R) := (((setCell_fr W X 0 _).trans (setCell_fr _ X 1 _)).trans (setCell_fr _ X 2 _)).trans (setCell_fr _ X 3 _)
theorem sS_is {W : World} {X : Nat} {x y : Value} (h : W.heap[X]? = some nil2) : (sS W X x y).heap[X]? = some (.cells #[x, y] 31) := set_of (set_of h 0 _) 1 _
theorem sS_fr (W : World) (X : Nat) (x y : Value) : Fr (fun j => j = X) W (sS W X x y) := (setCell_fr W X 0 _).trans (setCell_fr _ X 1 _)
theorem sF_size (W : World) (X P R : Nat) : (sF W X P R).heap.size = W.heap.size := by simp
theorem sS_size (W : World) (X : Nat) (x y : Value) : (sS W X x y).heap.size = W.heap.size := by simp

section
variable {wr w2 : World} {P R : Nat} {s : PS} {ha ra : Option Addr} {hc rc : Nat}
theorem two_a (hG : Fr (fun _ => False) wr w2) (hS : SAq (fun j => wr.heap.size + 0 ≤ j) w2 (.agg #[.slice ha P hc, .slice ra P rc]) s) (hr : PS.Right P R s) : Two wr ((w2.alloc (fB P R)).alloc (.cells #[.slice ha P hc, .slice ra P rc] 31)) P R (.pointer (some ⟨w2.heap.size, 0, none⟩)) (.pointer (some ⟨w2.heap.size + 1, 0, none⟩)) := by
  have f : Fr (fun _ => False) w2 ((w2.alloc (fB P R)).alloc (.cells #[.slice ha P hc, .slice ra P rc] 31)) := ((Fr.refl _ _).alloc _).alloc _
  have h1 := heap_new (w2.alloc (fB P R)) (.cells #[.slice ha P hc, .slice ra P rc] 31)
  rw [World.size_alloc] at h1
  have := hG.size
  exact ⟨_, _, s, ha, hc, ra, rc, rfl, rfl, keepA (heap_new w2 _) _, h1, hS.fr f (fun _ _ e => e), hr, hG.trans f, by omega, by omega⟩
theorem two_b (hG : Fr (fun _ => False) wr w2) (hS : SAq (fun j => wr.heap.size + 0 ≤ j) w2 (.agg #[.slice ha P hc, .slice ra P rc]) s) (hr : PS.Right P R s) : Two wr ((w2.alloc (.cells #[.slice ha P hc, .slice ra P rc] 31)).alloc (fB P R)) P R (.pointer (some ⟨w2.heap.size + 1, 0, none⟩)) (.pointer (some ⟨w2.heap.size, 0, none⟩)) := by
  have f : Fr (fun _ => False) w2 ((w2.alloc (.cells #[.slice ha P hc, .slice ra P rc] 31)).alloc (fB P R)) := ((Fr.refl _ _).alloc _).alloc _
  have h1 := heap_new (w2.alloc (.cells #[.slice ha P hc, .slice ra P rc] 31)) (fB P R)
  rw [World.size_alloc] at h1
  have := hG.size
  exact ⟨_, _, s, ha, hc, ra, rc, rfl, rfl, h1, keepA (heap_new w2 _) _, hS.fr f (fun _ _ e => e), hr, hG.trans f, by omega, by omega⟩
theorem two_c (hG : Fr (fun _ => False) wr w2) (hF : w2.heap[wr.heap.size]? = some zeroF) (hS : SAq (fun j => wr.heap.size + 1 ≤ j) w2 (.agg #[.slice ha P hc, .slice ra P rc]) s) (hr : PS.Right P R s) : Two wr ((sF w2 wr.heap.size P R).alloc (.cells #[.slice ha P hc, .slice ra P rc] 31)) P R (.pointer (some ⟨wr.heap.size, 0, none⟩)) (.pointer (some ⟨w2.heap.size, 0, none⟩)) := by
  have f1 := sF_fr w2 wr.heap.size P R
  have h1 := heap_new (sF w2 wr.heap.size P R) (.cells #[.slice ha P hc, .slice ra P rc] 31)
  rw [sF_size] at h1
  have h2 := hG.size
  have f : Fr (fun j => j = wr.heap.size) w2 ((sF w2 wr.heap.size P R).alloc (.cells #[.slice ha P hc, .slice ra P rc] 31)) := f1.alloc _
  exact ⟨_, _, s, ha, hc, ra, rc, rfl, rfl, keepA (sF_is hF) _, h1, (hS.fr f (fun j hj e => by omega)).mono (fun j hj => by omega), hr, hG.then f (fun j hj e => by omega), by omega, by omega⟩
theorem two_e (hG : Fr (fun _ => False) wr w2) (hF : w2.heap[wr.heap.size]? = some nil2) (hS : SAq (fun j => wr.heap.size + 1 ≤ j) w2 (.agg #[.slice ha P hc, .slice ra P rc]) s) (hr : PS.Right P R s) : Two wr ((sS w2 wr.heap.size (.slice ha P hc) (.slice ra P rc)).alloc (fB P R)) P R (.pointer (some ⟨w2.heap.size, 0, none⟩)) (.pointer (some ⟨wr.heap.size, 0, none⟩)) := by
  have f1 := sS_fr w2 wr.heap.size (.slice ha P hc) (.slice ra P rc)
  have h1 := heap_new (sS w2 wr.heap.size (.slice ha P hc) (.slice ra P rc)) (fB P R)
  rw [sS_size] at h1
  have h2 := hG.size
  have f : Fr (fun j => j = wr.heap.size) w2 ((sS w2 wr.heap.size (.slice ha P hc) (.slice ra P rc)).alloc (fB P R)) := f1.alloc _
  exact ⟨_, _, s, ha, hc, ra, rc, rfl, rfl, h1, keepA (sS_is hF) _, (hS.fr f (fun j hj e => by omega)).mono (fun j hj => by omega), hr, hG.then f (fun j hj e => by omega), by omega, by omega⟩
theorem two_x {XF XS : Nat} (hG : Fr (fun _ => False) wr w2) (hF : w2.heap[XF]? = some zeroF) (hX : w2.heap[XS]? = some nil2) (h0 : wr.heap.size ≤ XF) (h1 : wr.heap.size ≤ XS) (h2 : XF < wr.heap.size + 2) (h3 : XS < wr.heap.size + 2) (hne : XF ≠ XS) (hS : SAq (fun j => wr.heap.size + 2 ≤ j) w2 (.agg #[.slice ha P hc, .slice ra P rc]) s) (hr : PS.Right P R s) : Two wr (sS (sF w2 XF P R) XS (.slice ha P hc) (.slice ra P rc)) P R (.pointer (some ⟨XF, 0, none⟩)) (.pointer (some ⟨XS, 0, none⟩)) := by
  have f1 := sF_fr w2 XF P R
  have k1 := sF_is (P := P) (R := R) hF
  have k2 := (f1.block XS (heap_lt hX) (fun e => hne e.symm)).trans hX
  have f2 := sS_fr (sF w2 XF P R) XS (.slice ha P hc) (.slice ra P rc)
  have k3 := sS_is (x := .slice ha P hc) (y := .slice ra P rc) k2
  have k4 := (f2.block XF (heap_lt k1) hne).trans k1
  have f : Fr (fun j => j = XF ∨ j = XS) w2 (sS (sF w2 XF P R) XS (.slice ha P hc) (.slice ra P rc)) := (f1.mono (fun _ _ e => Or.inl e)).trans (f2.mono (fun _ _ e => Or.inr e))
  exact ⟨_, _, s, ha, hc, ra, rc, rfl, rfl, k4, k3, (hS.fr f (fun j hj e => by omega)).mono (fun j hj => by omega), hr, hG.then f (fun j hj e => by omega), h0, h1⟩
end

end Go.Proofs.Ytchilccmnaihkaa

namespace Go.Proofs.Ytchilccmnaihkaa
open Go.RowKit (wrap32 wrap64)
set_option linter.unusedVariables false
set_option linter.unusedSimpArgs false

/-! ### what the walk of SumsRounds asks -/
set_option maxRecDepth 100000 in
set_option maxHeartbeats 1000000 in
theorem mod_big (k n : Int) (hn : 1 ≤ n) (hn2 : n ≤ 140737488355328) (w : World) : Calls Try.prog 14 #[vI k, vI n] w fun e w' => e = .returned (vI (modX k n)) ∧ w' = w := by
  have hb := tmod_bound k n hn
  have h0 : ¬ n = 0 := by omega
  have hw : wrap64 (k.tmod n) = k.tmod n := w64 (by omega) (by omega)
  unfold modX
  by_cases hlt : k.tmod n < 0
  · rw [if_pos hlt]
    have hw2 : wrap64 (k.tmod n + n) = k.tmod n + n := w64 (by omega) (by omega)
    go_enter Try.func14, Try.ntmps14
    go_wp2_with fail
    go_ret
    exact ⟨by first | rfl | (show Ending.returned (vI (wrap64 (k.tmod n + n))) = _; rw [hw2]), rfl⟩
  · rw [if_neg hlt]
    go_enter Try.func14, Try.ntmps14
    go_wp2_with fail
    go_ret
    exact ⟨rfl, rfl⟩

set_option maxRecDepth 100000 in
set_option maxHeartbeats 1000000 in
theorem encode_no (v1 v2 : Value) (fs : List PH) (ss : List PS) (w : World) (h1 : FsA w v1 fs) (h2 : SsA w v2 ss) (hz : fs.length ≤ 4000000000000) (hzb : ss.length ≤ 2000000000000) (hfit : ∀ s ∈ ss, s.Fits) (hp : (fs.all fun f => shapeB f.P f.R) = true) (hq : all2 rightP fs ss = false) :
    Calls Try.prog 15 #[v1, v2] w fun e w' => e = .returned (.tuple #[.slice none 0 0, vI 90]) ∧ Fr (fun _ => False) w w' := by
  have H1 : Hd (FsA w v1 fs) := h1
  have H2 : Hd (SsA w v2 ss) := h2
  have H3 : Hd (∀ s ∈ ss, s.Fits) := hfit
  have HP : Hd _ := hp
  have HQ : Hd _ := hq
  obtain ⟨a1, c1, rfl, -⟩ := h1
  obtain ⟨a2, c2, rfl, hc2⟩ := h2
  clear hfit hc2 hp hq
  go_enter Try.func15, Try.ntmps15
  go_wp2_with fail
  refine (show Calls Try.prog 31 #[.slice a1 fs.length c1] w _ from shapes_any _ fs w H1.out hz).mono ?_
  rintro e w1 ⟨rfl, hF1⟩
  rw [HP.out]
  have HF1 : Hd (Fr (fun _ => False) w w1) := hF1
  clear hF1
  go_wp2_with fail
  refine (show Calls Try.prog 32 #[.slice a1 fs.length c1, .slice a2 ss.length c2] w1 _ from allRight_any _ _ fs ss w1 (H1.out.stay HF1.out) (H2.out.stay HF1.out) hz (by omega) H3.out).mono ?_
  rintro e w2 ⟨rfl, hF2⟩
  rw [HQ.out]
  have HF2 : Hd (Fr (fun _ => False) w w2) := HF1.out.trans hF2
  clear hF2
  go_wp2_with fail
  go_ret2
  exact ⟨rfl, HF2.out⟩

theorem okN_byte {x : Int} (h : okN x = true) : 0 ≤ x ∧ x ≤ 255 := by simp [okN] at h; omega
theorem Fit.fits {sh : List (Nat × Nat)} {ss : List PS} (h : Fit sh ss) (hb : ∀ p ∈ sh, p.1 ≤ 8 ∧ p.2 ≤ 4) : ∀ s ∈ ss, s.Fits := by
  induction h with
  | nil => intro s hs; simp at hs
  | @cons f fs s ss hr _ ih =>
    intro x hx
    rcases List.mem_cons.1 hx with rfl | hx
    · have := hb f (by simp); exact hr.fits this.1 this.2
    · exact ih (fun p hp => hb p (by simp [hp])) x hx
theorem Shp.bd {fs : List PH} {sh : List (Nat × Nat)} (h : Shp fs sh) : ∀ p ∈ sh, p.1 ≤ 8 ∧ p.2 ≤ 4 := fun p hp => by
  obtain ⟨j, hj, rfl⟩ := List.mem_iff_getElem.1 hp
  exact (h.at' j (by rw [h.len]; exact hj) hj).2.2
theorem tot_bd : ∀ (sh : List (Nat × Nat)) (_ : ∀ p ∈ sh, p.1 ≤ 8 ∧ p.2 ≤ 4), totT sh ≤ 40 * sh.length
  | [], _ => by simp [totT]
  | f :: sh, h => by
    have h1 := h f (by simp)
    have h2 := tot_bd sh (fun p hp => h p (by simp [hp]))
    have h3 : f.1 * (f.2 + 1) ≤ 8 * 5 := Nat.mul_le_mul h1.1 (by omega)
    simp [totT]; omega
theorem enc_ok {fs : List PH} {sh : List (Nat × Nat)} {ss : List PS} (h : Shp fs sh) (hf : Fit sh ss) : encE fs ss = 0 := by
  unfold encE
  rw [if_pos h.all, if_pos]
  rw [all2_iff]
  have hl := h.len
  refine ⟨by rw [hf.len]; exact hl, fun i hi hk => ?_⟩
  have hi' : i < sh.length := by omega
  obtain ⟨e1, e2, e3, e4⟩ := h.at' i hi hi'
  unfold rightP
  rw [e1, e2]
  refine of_right ?_
  clear h hl e1 e2 e3 e4 hi
  induction hf generalizing i with
  | nil => simp at hi'
  | cons hr _ ih =>
    cases i with
    | zero => exact hr
    | succ i => exact ih i (by simpa using hk) (by simpa using hi')
theorem dec_more {sh : List (Nat × Nat)} {l : List Int} (x : Int) (h : l.length = totT sh) : decT sh (l ++ [x]) = false := by
  unfold decT
  rw [show decide ((l ++ [x]).length = totT sh) = false by simp; omega, Bool.and_false]
theorem dec_less {sh : List (Nat × Nat)} {l : List Int} (h : l.length = totT sh) (h0 : 0 < l.length) : decT sh (l.take (l.length - 1)) = false := by
  unfold decT
  rw [show decide ((l.take (l.length - 1)).length = totT sh) = false by simp; omega, Bool.and_false]
theorem dec_set {sh : List (Nat × Nat)} {l : List Int} {k : Nat} (x : Int) (h : l.length = totT sh) (ho : ∀ z ∈ l, okN z = true) (hk : k < l.length) : decT sh (l.set k x) = okN x := by
  cases hx : okN x with
  | true =>
    refine all_decT (by simpa using h) (fun z hz => ?_)
    rcases List.mem_or_eq_of_mem_set hz with q | q
    · exact ho z q
    · rw [q]; exact hx
  | false =>
    cases hd : decT sh (l.set k x) with
    | false => rfl
    | true =>
      simp only [decT, Bool.and_eq_true] at hd
      have := okT_at hd.1 (j := k) (by omega)
      rw [List.getD_eq_getElem?_getD, List.getElem?_set_self hk] at this
      rw [← hx]; exact this.symm
theorem BOwn.set {w : World} {B : Nat} {v : Value} {l : List Int} (h : BOwn w B v l) {i g c : Nat} (hi : i < l.length) (hv : v = .slice (some ⟨g, 0, none⟩) l.length c) (x : Int) : BC (w.setCell ⟨g, i, none⟩ (vB x)) v (l.set i x) := by
  obtain ⟨a, c', e, hc⟩ := own_cap h
  obtain ⟨g', cap', e', hg, -⟩ := own_cell h (j := i) (u := vB l[i]) (by simp [List.getElem?_eq_getElem hi])
  rw [hv] at e
  cases e
  rw [hv] at e'
  cases e'
  refine ⟨_, _, by rw [hv, List.length_set], by rw [List.length_set]; exact hc, fun _ => ⟨g, 0, rfl, by simpa using hg, fun j hj => ?_⟩⟩
  have hj' : j < l.length := by simpa using hj
  obtain ⟨g2, cap2, e2, -, hcj⟩ := own_cell h (j := j) (u := vB l[j]) (by simp [List.getElem?_eq_getElem hj'])
  rw [hv] at e2
  cases e2
  rcases h.2 with ⟨q1, -⟩ | ⟨g3, cap3, cur, q1, -, q2, -⟩
  · rw [hv] at q1; cases q1
  · rw [hv] at q1
    cases q1
    rw [Nat.zero_add, cell_of (set_of q2 i (vB x)), Array.getElem?_setIfInBounds]
    rw [cell_of q2] at hcj
    by_cases e : i = j
    · subst e
      have hcs : i < cur.size := (Array.getElem?_eq_some_iff.1 hcj).1
      simp [hcs]
    · rw [if_neg e, hcj]
      simp [List.getElem_set_ne e]
theorem BC.take {w : World} {a : Option Addr} {c : Nat} {l : List Int} (h : BC w (.slice a l.length c) l) (n : Nat) (hn : n ≤ l.length) : BC w (.slice a n c) (l.take n) := by
  obtain ⟨a', c', e, hc, hin⟩ := h
  cases e
  have hl : (l.take n).length = n := by simp; omega
  refine ⟨a, c, by rw [hl], by omega, fun hne => ?_⟩
  obtain ⟨k, o, rfl, hk, hcs⟩ := hin (by rintro rfl; simp at hne)
  refine ⟨k, o, rfl, hk, fun j hj => ?_⟩
  have := hcs j (by omega)
  rw [this, List.getElem_take]
theorem BC.ba {w : World} {v : Value} {l : List Int} (h : BC w v l) : BA w v l := by
  obtain ⟨a, c, e, -, hin⟩ := h; exact ⟨a, c, e, hin⟩

end Go.Proofs.Ytchilccmnaihkaa
