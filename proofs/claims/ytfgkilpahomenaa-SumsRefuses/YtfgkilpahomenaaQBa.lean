import Derived.Test.YtfgkilpahomenaaQA9J
namespace Go.Proofs.Ytfgkilpahomenaa
open Go.RowKit (wrap32 wrap64)
set_option linter.unusedVariables false
set_option linter.unusedSimpArgs false

set_option maxRecDepth 100000 in
set_option maxHeartbeats 1000000 in
theorem copyInts_any (v : Value) (es : List Int) (w : World) (hE : IA w v es) (hel : es.length ≤ 17592186043904) : Calls Try.prog 29 #[v] w fun e w' => ∃ v', e = .returned v' ∧ IOwn w' w.heap.size v' es ∧ Fr (fun _ => False) w w' := by
  obtain ⟨ea, ec, rfl, hein⟩ := hE
  have HE : Hd _ := hein
  clear hein
  obtain ⟨i3, hi3, hz3, hs3, hb3⟩ := info_parts (P := Try.prog) (e := 3) (z := .int .i64 0) (size := 1) (bytes := 8) (by kernel_rfl)
  go_enter Try.func29, Try.ntmps29
  go_wp2_with fail
  go_loopw [3, 4] (fun mv v wr => ∃ (k : Nat), v = .int .i64 k ∧ k ≤ es.length ∧ Hd (IOwn wr w.heap.size mv (es.take k)) ∧ Hd (Fr (fun _ => False) w wr)) (fun _ v _ => match v with | .int _ q => es.length - q.toNat | _ => 0)
  case atStart => exact ⟨0, rfl, Nat.zero_le _, World.ownsRow_nil _ _ _ _, Fr.refl _ _⟩
  case round =>
    obtain ⟨k, rfl, hk, HO, HF⟩ := hrel
    by_cases hlt : k < es.length
    · obtain ⟨pk, po, rfl, hpk, hcs⟩ := HE.out (by intro e; simp [e] at hlt)
      have d0 := hcs k hlt
      have p0 := (HF.out.cell (o := po + k) hpk (fun h => h)).trans d0
      clear hcs d0
      have HT : Hd (es.take (k + 1) = es.take k ++ [es[k]]) := by unfold Hd; rw [List.take_add_one, List.getElem?_eq_getElem hlt]; rfl
      have HTL : Hd ((es.take k).length = k) := by unfold Hd; rw [List.length_take]; omega
      obtain ⟨e, he⟩ : ∃ e, es[k] = e := ⟨_, rfl⟩
      rw [he] at p0 HT
      clear he
      obtain ⟨E, hE⟩ : ∃ E, E = es.take k := ⟨_, rfl⟩
      rw [← hE] at HO HT HTL
      clear hE
      have hk0 : (0 : Int) ≤ k := by omega
      have hk1 : (k : Int) < es.length := by omega
      have hsz := HF.out.size
      have HO1 : Hd ((wr.alloc (.cells #[vI e] 3)).ownsRow w.heap.size 3 1 u3 E.length (E.map vI)) := World.ownsRow.alloc HO.out _
      have hnews : ∀ j u, [vI e][j]? = some u → (wr.alloc (.cells #[vI e] 3)).cell? ((⟨wr.heap.size, 0, none⟩ : Addr).add j) = some u :=
        World.news_of_block (cs := #[vI e]) (heap_new wr (.cells #[vI e] 3))
      have hbase : w.heap.size ≤ (wr.alloc (.cells #[vI e] 3)).heap.size := by simp; omega
      have hEl : E.length + 1 ≤ 17592186043905 := by have := HTL.out; omega
      go_wp2_with ((at_builtin; refine Hd.out ?_))
      unfold Hd
      refine wpList_append_lies _ rfl (.tmp 11) (.tmp 16) 22 rfl w.heap.size 3 i3 (.int .i64 0) 1 8 under22i hi3 hz3 hs3 hb3 rfl (by omega) u3 E.length _ rfl HO1.out ⟨wr.heap.size, 0, none⟩ 1 1 [vI e] rfl rfl hnews (by intro u hu; simp at hu; subst hu; rfl) (by omega) (by unfold maxLen; omega) (by omega) hbase (wr.heap.size + 1) (by simp) ?_
      intro g6 cap6 w6 hown6 hgrow6 hat6 hlt6
      have HO6 : Hd (IOwn w6 w.heap.size (.slice (some ⟨g6, 0, none⟩) (E.length + 1) cap6) (E ++ [e])) := by unfold Hd IOwn; rw [List.map_append, List.length_append]; exact hown6
      have HF6 : Hd (Fr (fun _ => False) w w6) := grow_fr0 (HF.out.alloc _) hgrow6 (fun k hk => (HO.out.ge k hk).1)
      clear hown6 hgrow6 hat6 hlt6 HO HF HO1 hnews hbase p0
      go_wp2_with fail
      refine ⟨⟨k + 1, by simp, by omega, ?_, HF6.out⟩, by simp; omega⟩
      unfold Hd; rw [HT.out]; exact HO6.out
    · have hke : k = es.length := by omega
      subst hke
      have HO2 : Hd (IOwn wr w.heap.size u3 es) := by have := HO.out; rw [List.take_length] at this; exact this
      clear HO
      go_wp2_with fail
      go_ret
      exact ⟨u3, rfl, HO2.out, HF.out⟩


/-- Lists of their own, in a row of its own, each apart from the others. -/
structure LO (w : World) (B : Nat) (rv : Value) (us : List Value) (ls : List (List Int)) : Prop where
  row : w.ownsRow B 22 1 rv us.length us
  ul : us.length = ls.length
  each : ∀ i (h : i < us.length) (h' : i < ls.length), IOwn w B us[i] ls[i]
  apart : ∀ i j (h : i < us.length) (h' : j < us.length), i ≠ j → ∀ k, us[i].ownBlock = some k → us[j].ownBlock ≠ some k
theorem LO.nil (w : World) (B : Nat) : LO w B (.slice none 0 0) [] [] := ⟨World.ownsRow_nil _ _ _ _, rfl, fun i h => by simp at h, fun i j h => by simp at h⟩
theorem LO.keep {w w' : World} {B : Nat} {rv : Value} {us : List Value} {ls : List (List Int)} (h : LO w B rv us ls) (f : Fr (fun _ => False) w w') : LO w' B rv us ls :=
  ⟨ownsRow_fr h.row f (fun _ _ e => e), h.ul, fun i hi hk => (h.each i hi hk).fr f (fun _ _ e => e), h.apart⟩
theorem LO.grow {w w6 : World} {B g cap : Nat} {rv x : Value} {us : List Value} {ls : List (List Int)} {l : List Int} (h : LO w B rv us ls) (hx : IOwn w B x l) (ha : ∀ i (hi : i < us.length), ∀ k, us[i].ownBlock = some k → x.ownBlock ≠ some k) (hg : w.grownBy w6 rv.ownBlock) (ho : w6.ownsRow B 22 1 (.slice (some ⟨g, 0, none⟩) (us.length + 1) cap) (us.length + 1) (us ++ [x])) :
    LO w6 B (.slice (some ⟨g, 0, none⟩) (us.length + 1) cap) (us ++ [x]) (ls ++ [l]) := by
  have f := grown_fr hg
  have ke : ∀ y s, IOwn w B y s → IOwn w6 B y s := fun y s hy => hy.fr f (fun j e e2 => own_apart h.row hy (by decide) j e e2)
  refine ⟨by rw [List.length_append]; exact ho, by rw [List.length_append, List.length_append, h.ul]; rfl, fun i hi hk => ?_, fun i j hi hj hne k e => ?_⟩
  · have hul := h.ul
    by_cases e : i < us.length
    · rw [List.getElem_append_left e, List.getElem_append_left (by omega)]
      exact ke _ _ (h.each i e (by omega))
    · have ei : i = us.length := by simp at hi; omega
      subst ei
      have e1 : (us ++ [x])[us.length] = x := by simp
      have e2 : (ls ++ [l])[us.length] = l := by simp [hul]
      rw [e1, e2]
      exact ke _ _ hx
  · have hi' : i < us.length + 1 := by simpa using hi
    have hj' : j < us.length + 1 := by simpa using hj
    by_cases ei : i < us.length
    · rw [List.getElem_append_left ei] at e
      by_cases ej : j < us.length
      · rw [List.getElem_append_left ej]; exact h.apart i j ei ej hne k e
      · have e3 : j = us.length := by omega
        subst e3
        have e1 : (us ++ [x])[us.length] = x := by simp
        rw [e1]; exact ha i ei k e
    · have e3 : i = us.length := by omega
      subst e3
      have e1 : (us ++ [x])[us.length] = x := by simp
      rw [e1] at e
      have ej : j < us.length := by omega
      rw [List.getElem_append_left ej]
      intro e2
      exact ha j ej k e2 e
theorem LO.la {w : World} {B : Nat} {rv : Value} {us : List Value} {ls : List (List Int)} (h : LO w B rv us ls) : LA w rv ls := by
  obtain ⟨ra, rc, erv⟩ := own_slice h.row
  refine ⟨ra, rc, by rw [erv, h.ul], fun hne => ?_⟩
  have hl0 : 0 < us.length := by rw [h.ul]; exact List.length_pos_iff.2 hne
  obtain ⟨g, cap, e, hgl, -⟩ := own_cell h.row (j := 0) (u := us[0]) (List.getElem?_eq_getElem hl0)
  rw [erv] at e
  cases e
  refine ⟨g, 0, rfl, hgl, fun j hj => ?_⟩
  have hj' : j < us.length := by rw [h.ul]; exact hj
  obtain ⟨g', cap', e', -, hc⟩ := own_cell h.row (j := j) (u := us[j]) (List.getElem?_eq_getElem hj')
  rw [erv] at e'
  cases e'
  exact ⟨us[j], by rw [Nat.zero_add]; exact hc, (h.each j hj' hj).ia⟩

set_option maxRecDepth 100000 in
set_option maxHeartbeats 1000000 in
theorem copyLists_any (v : Value) (ls : List (List Int)) (w : World) (hE : LA w v ls) (hel : ls.length ≤ 1000000000000) (hll : ∀ l ∈ ls, l.length ≤ 17592186043904) : Calls Try.prog 30 #[v] w fun e w' => ∃ v' us, e = .returned v' ∧ LO w' w.heap.size v' us ls ∧ Fr (fun _ => False) w w' := by
  obtain ⟨ea, ec, rfl, hein⟩ := hE
  have HE : Hd (ls ≠ [] → _) := hein
  have HLL : Hd (∀ l ∈ ls, l.length ≤ 17592186043904) := hll
  clear hein hll
  obtain ⟨i22, hi22, hz22, hs22, hb22⟩ := info_parts (P := Try.prog) (e := 22) (z := .slice none 0 0) (size := 1) (bytes := 24) (by kernel_rfl)
  go_enter Try.func30, Try.ntmps30
  go_wp2_with fail
  go_loopw [3, 4] (fun mv v wr => ∃ (k : Nat) (us : List Value), v = .int .i64 k ∧ k ≤ ls.length ∧ Hd (LO wr w.heap.size mv us (ls.take k)) ∧ Hd (Fr (fun _ => False) w wr)) (fun _ v _ => match v with | .int _ q => ls.length - q.toNat | _ => 0)
  case atStart => exact ⟨0, [], rfl, Nat.zero_le _, LO.nil _ _, Fr.refl _ _⟩
  case round =>
    obtain ⟨k, us, rfl, hk, HO, HF⟩ := hrel
    by_cases hlt : k < ls.length
    · obtain ⟨pk, po, rfl, hpk, hcs⟩ := HE.out (by intro e; simp [e] at hlt)
      obtain ⟨u, hu1, hu2⟩ := hcs k hlt
      have p0 := (HF.out.cell (o := po + k) hpk (fun h => h)).trans hu1
      have HI : Hd (IA wr u ls[k]) := hu2.stay HF.out
      have hzk : ls[k].length ≤ 17592186043904 := HLL.out _ (List.getElem_mem hlt)
      have HT : Hd (ls.take (k + 1) = ls.take k ++ [ls[k]]) := by unfold Hd; rw [List.take_add_one, List.getElem?_eq_getElem hlt]; rfl
      have HUL : Hd (us.length = k) := by have h9 := HO.out.ul; unfold Hd; rw [h9, List.length_take]; omega
      obtain ⟨va, vc, eu, -⟩ := hu2
      generalize ls[k] = z at *
      subst eu
      have hk0 : (0 : Int) ≤ k := by omega
      have hk1 : (k : Int) < ls.length := by omega
      clear hcs hu1
      go_wp2_with fail
      refine (show Calls Try.prog 29 #[.slice va z.length vc] wr _ from copyInts_any _ z wr HI.out hzk).mono ?_
      rintro e w2 ⟨x, rfl, hx, hF2⟩
      have HX : Hd (IOwn w2 w.heap.size x z) := hx.mono HF.out.size
      have HXA : Hd (∀ i (hi : i < us.length), ∀ k, us[i].ownBlock = some k → x.ownBlock ≠ some k) := fun i hi j e e2 => by
        have h1 := (hx.ge j e2).1
        have h2 := ((HO.out.each i hi (by have := HO.out.ul; omega)).ge j e).2
        omega
      obtain ⟨xa, xc, ex⟩ := own_slice hx
      have HO2 : Hd (LO w2 w.heap.size u3 us (ls.take k)) := HO.out.keep hF2
      have HF2 : Hd (Fr (fun _ => False) w w2) := HF.out.trans hF2
      have hsz := HF2.out.size
      have HO1 : Hd (LO (w2.alloc (.cells #[x] 22)) w.heap.size u3 us (ls.take k)) := HO2.out.keep (Fr.alloc (Fr.refl _ _) _)
      have HX1 : Hd (IOwn (w2.alloc (.cells #[x] 22)) w.heap.size x z) := HX.out.fr (Fr.alloc (Fr.refl (fun _ => False) _) _) (fun _ _ e => e)
      have hnews : ∀ j u, [x][j]? = some u → (w2.alloc (.cells #[x] 22)).cell? ((⟨w2.heap.size, 0, none⟩ : Addr).add j) = some u :=
        World.news_of_block (cs := #[x]) (heap_new w2 (.cells #[x] 22))
      have hbase : w.heap.size ≤ (w2.alloc (.cells #[x] 22)).heap.size := by simp; omega
      have hUl : us.length + 1 ≤ 1000000000001 := by have := HUL.out; omega
      subst ex
      clear hx hF2 HF HO HI p0
      go_wp2_with ((at_builtin; refine Hd.out ?_))
      unfold Hd
      refine wpList_append_lies _ rfl (.tmp 17) (.tmp 19) 29 rfl w.heap.size 22 i22 (.slice none 0 0) 1 24 under29 hi22 hz22 hs22 hb22 rfl (by omega) u3 us.length _ rfl HO1.out.row ⟨w2.heap.size, 0, none⟩ 1 1 [.slice xa z.length xc] rfl rfl hnews (by intro u hu; simp at hu; subst hu; rfl) (by omega) (by unfold maxLen; omega) (by omega) hbase (w2.heap.size + 1) (by simp) ?_
      intro g6 cap6 w6 hown6 hgrow6 hat6 hlt6
      have HO6 : Hd (LO w6 w.heap.size (.slice (some ⟨g6, 0, none⟩) (us.length + 1) cap6) (us ++ [.slice xa z.length xc]) (ls.take (k + 1))) := by unfold Hd; rw [HT.out]; exact HO1.out.grow HX1.out HXA.out hgrow6 hown6
      have HF6 : Hd (Fr (fun _ => False) w w6) := grow_fr0 (HF2.out.alloc _) hgrow6 (fun k hk => (World.ownsRow.lt HO1.out.row k hk).1)
      clear hown6 hgrow6 hat6 hlt6 HO1 hnews hbase HO2 HF2 HX HX1 HXA
      go_wp2_with fail
      exact ⟨⟨k + 1, _, by simp, by omega, HO6.out, HF6.out⟩, by simp; omega⟩
    · have hdk : decide ((k : Int) < ls.length) = false := by simp; omega
      have HO2 : Hd (LO wr w.heap.size u3 us ls) := by have := HO.out; rw [List.take_of_length_le (by omega)] at this; exact this
      clear HO
      go_wp2_with fail
      go_ret
      exact ⟨u3, us, rfl, HO2.out, HF.out⟩

end Go.Proofs.Ytfgkilpahomenaa
