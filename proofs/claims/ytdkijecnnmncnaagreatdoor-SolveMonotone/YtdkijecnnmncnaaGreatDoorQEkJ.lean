import Derived.Test.YtdkijecnnmncnaaGreatDoorQEbJ
import Derived.Test.YtdkijecnnmncnaaGreatDoorQEaJ
import Derived.Deep.RegionHeld3
import Derived.Test.YtdkijecnnmncnaaGreatDoorRows
import Derived.ProofKit
import Derived.OpenShut
import Derived.ChangeOld
import Derived.Below
import Derived.Carry
import Derived.Deep.Slices
import Derived.SizedLaws
import Derived.Test.YtdkijecnnmncnaaGreatDoorQA3J
import Derived.RangeFuncNested
import Derived.RangeFuncLeaves
namespace Go.Proofs.YtdkijecnnmncnaaGreatDoor
open Go.RowKit (wrap32 wrap64)
set_option linter.unusedVariables false
set_option linter.unusedSimpArgs false
set_option maxRecDepth 100000
set_option maxHeartbeats 4000000
abbrev nil2 : Obj := .cells #[.slice none 0 0, .slice none 0 0] 33
theorem underL32 : Tryz.prog.underlying 31 = some (.slice 30) := by kernel_rfl
theorem own_slice {w : World} {B e sz n : Nat} {v : Value} {xs : List Value} (h : w.ownsRow B e sz v n xs) : ∃ a c, v = .slice a n c := by
 rcases h.2 with ⟨e, e2⟩ | ⟨g, cap, cur, e, -⟩
 ·exact ⟨none, 0, by rw [e, e2]⟩
 ·exact ⟨_, _, e⟩
theorem keepA {W : World} {k : Nat} {o' : Obj} (h : W.heap[k]? = some o') (o : Obj) : (W.alloc o).heap[k]? = some o' := by rw [Go.RowKit.Below.heap_alloc _ _ _ (heap_lt h)]; exact h
theorem keepF {W W' : World} {k : Nat} {o' : Obj} (h : W.heap[k]? = some o') (f : Fr (fun _ => False) W W') : W'.heap[k]? = some o' := (f.block k (heap_lt h) (fun e => e)).trans h
structure LO (w : World) (B : Nat) (rv : Value) (us : List Value) (ls : List (List Int)) : Prop where
 row : w.ownsRow B 30 1 rv us.length us
 ul : us.length = ls.length
 each : ∀ i (h : i < us.length) (h' : i < ls.length), IOwn w B us[i] ls[i]
 apart : ∀ i j (h : i < us.length) (h' : j < us.length), i ≠ j → ∀ k, us[i].ownBlock = some k → us[j].ownBlock ≠ some k
theorem LO.nil (w : World) (B : Nat) : LO w B (.slice none 0 0) [] [] := ⟨World.ownsRow_nil _ _ _ _, rfl, fun i h => by simp at h, fun i j h => by simp at h⟩
theorem LO.keep {w w' : World} {B : Nat} {rv : Value} {us : List Value} {ls : List (List Int)} (h : LO w B rv us ls) (f : Fr (fun _ => False) w w') : LO w' B rv us ls :=
 ⟨ownsRow_frL h.row f (fun _ _ e => e), h.ul, fun i hi hk => (h.each i hi hk).fr f (fun _ _ e => e), h.apart⟩
theorem LO.grow {w w6 : World} {B g cap : Nat} {rv x : Value} {us : List Value} {ls : List (List Int)} {l : List Int} (h : LO w B rv us ls) (hx : IOwn w B x l) (ha : ∀ i (hi : i < us.length), ∀ k, us[i].ownBlock = some k → x.ownBlock ≠ some k) (hg : w.grownBy w6 rv.ownBlock) (ho : w6.ownsRow B 30 1 (.slice (some ⟨g, 0, none⟩) (us.length + 1) cap) (us.length + 1) (us ++ [x])) :
 LO w6 B (.slice (some ⟨g, 0, none⟩) (us.length + 1) cap) (us ++ [x]) (ls ++ [l]) := by
 have f := grown_frL hg
 have ke : ∀ y s, IOwn w B y s → IOwn w6 B y s := fun y s hy => hy.fr f (fun j e e2 => own_apart h.row hy (by decide) j e e2)
 refine ⟨by rw [List.length_append]; exact ho, by rw [List.length_append, List.length_append, h.ul]; rfl, fun i hi hk => ?_, fun i j hi hj hne k e => ?_⟩
 ·have hul := h.ul
  by_cases e : i < us.length
  ·rw [List.getElem_append_left e, List.getElem_append_left (by omega)]
   exact ke _ _ (h.each i e (by omega))
  ·have ei : i = us.length := by simp at hi; omega
   subst ei
   have e1 : (us ++ [x])[us.length] = x := by simp
   have e2 : (ls ++ [l])[us.length] = l := by simp [hul]
   rw [e1, e2]
   exact ke _ _ hx
 ·have hi' : i < us.length + 1 := by simpa using hi
  have hj' : j < us.length + 1 := by simpa using hj
  by_cases ei : i < us.length
  ·rw [List.getElem_append_left ei] at e
   by_cases ej : j < us.length
   ·rw [List.getElem_append_left ej]; exact h.apart i j ei ej hne k e
   ·have e3 : j = us.length := by omega
    subst e3
    have e1 : (us ++ [x])[us.length] = x := by simp
    rw [e1]; exact ha i ei k e
  ·have e3 : i = us.length := by omega
   subst e3
   have e1 : (us ++ [x])[us.length] = x := by simp
   rw [e1] at e
   have ej : j < us.length := by omega
   rw [List.getElem_append_left ej]
   intro e2
   exact ha j ej k e2 e
theorem LO.la {w : World} {B : Nat} {rv : Value} {us : List Value} {ls : List (List Int)} (h : LO w B rv us ls) : LA w rv ls := by
 obtain ⟨ra, rc, erv⟩ := own_slice h.row
 refine ⟨ra, rc, by rw [erv, h.ul], fun hne => ?_⟩
 have hl0 : 0 < us.length := by rw [h.ul]; exact List.length_pos_iff.2 hne
 obtain ⟨g, cap, e, hgl, -⟩ := own_cell h.row (j := 0) (u := us[0]) (List.getElem?_eq_getElem hl0)
 rw [erv] at e
 cases e
 refine ⟨g, 0, rfl, hgl, fun j hj => ?_⟩
 have hj' : j < us.length := by rw [h.ul]; exact hj
 obtain ⟨g', cap', e', -, hc⟩ := own_cell h.row (j := j) (u := us[j]) (List.getElem?_eq_getElem hj')
 rw [erv] at e'
 cases e'
 exact ⟨us[j], by rw [Nat.zero_add]; exact hc, (h.each j hj' hj).ia⟩
theorem copyLists_any (v : Value) (ls : List (List Int)) (w : World) (hE : LA w v ls) (hel : ls.length ≤ 5864062014634) (hll : ∀ l ∈ ls, l.length ≤ 17592186043904) : Calls Tryz.prog 84 #[v] w fun e w' => ∃ v' us, e = .returned v' ∧ LO w' w.heap.size v' us ls ∧ Fr (fun _ => False) w w' := by
 obtain ⟨ea, ec, rfl, hein⟩ := hE
 have HE : Hd (ls ≠ [] → _) := hein
 have HLL : Hd (∀ l ∈ ls, l.length ≤ 17592186043904) := hll
 clear hein hll
 obtain ⟨i22, hi22, hz22, hs22, hb22⟩ := info_parts (P := Tryz.prog) (e := 30) (z := .slice none 0 0) (size := 1) (bytes := 24) (by kernel_rfl)
 go_enter Tryz.func84, Tryz.ntmps84
 go_wp2_with fail
 go_loopw [3, 4] (fun mv v wr => ∃ (k : Nat) (us : List Value), v = .int .i64 k ∧ k ≤ ls.length ∧ Hd (LO wr w.heap.size mv us (ls.take k)) ∧ Hd (Fr (fun _ => False) w wr)) (fun _ v _ => match v with | .int _ q => ls.length - q.toNat | _ => 0)
 case atStart => exact ⟨0, [], rfl, Nat.zero_le _, LO.nil _ _, Fr.refl _ _⟩
 case round =>
  obtain ⟨k, us, rfl, hk, HO, HF⟩ := hrel
  by_cases hlt : k < ls.length
  ·obtain ⟨pk, po, rfl, hpk, hcs⟩ := HE.out (by intro e; simp [e] at hlt)
   obtain ⟨u, hu1, hu2⟩ := hcs k hlt
   have p0 := (HF.out.cell (o := po + k) hpk (fun h => h)).trans hu1
   have HI : Hd (IA wr u ls[k]) := hu2.stay HF.out
   have hzk : ls[k].length ≤ 17592186043904 := HLL.out _ (List.getElem_mem hlt)
   have HT : Hd (ls.take (k + 1) = ls.take k ++ [ls[k]]) := by unfold Hd; rw [List.take_add_one, List.getElem?_eq_getElem hlt]; rfl
   have HUL : Hd (us.length = k) := by have h9 := HO.out.ul; unfold Hd; rw [h9, List.length_take]; omega
   obtain ⟨va, vc, eu, -⟩ := hu2
   generalize ls[k] = z at *
   subst eu
   have hk0 : (0 : Int) ≤ k := by omega
   have hk1 : (k : Int) < ls.length := by omega
   clear hcs hu1
   go_wp2_with fail
   refine (show Calls Tryz.prog 83 #[.slice va z.length vc] wr _ from copyInts_any _ z wr HI.out hzk).mono ?_
   rintro e w2 ⟨x, rfl, hx, hF2⟩
   have HX : Hd (IOwn w2 w.heap.size x z) := hx.mono HF.out.size
   have HXA : Hd (∀ i (hi : i < us.length), ∀ k, us[i].ownBlock = some k → x.ownBlock ≠ some k) := fun i hi j e e2 => by
    have h1 := (hx.ge j e2).1
    have h2 := ((HO.out.each i hi (by have := HO.out.ul; omega)).ge j e).2
    omega
   obtain ⟨xa, xc, ex⟩ := own_slice hx
   have HO2 : Hd (LO w2 w.heap.size u3 us (ls.take k)) := HO.out.keep hF2
   have HF2 : Hd (Fr (fun _ => False) w w2) := HF.out.trans hF2
   have hsz := HF2.out.size
   have HO1 : Hd (LO (w2.alloc (.cells #[x] 30)) w.heap.size u3 us (ls.take k)) := HO2.out.keep (Fr.alloc (Fr.refl _ _) _)
   have HX1 : Hd (IOwn (w2.alloc (.cells #[x] 30)) w.heap.size x z) := HX.out.fr (Fr.alloc (Fr.refl (fun _ => False) _) _) (fun _ _ e => e)
   have hnews : ∀ j u, [x][j]? = some u → (w2.alloc (.cells #[x] 30)).cell? ((⟨w2.heap.size, 0, none⟩ : Addr).add j) = some u :=
    World.news_of_block (cs := #[x]) (heap_new w2 (.cells #[x] 30))
   have hbase : w.heap.size ≤ (w2.alloc (.cells #[x] 30)).heap.size := by simp; omega
   have hUl : us.length + 1 ≤ 5864062014634 := by have := HUL.out; omega
   subst ex
   clear hx hF2 HF HO HI p0
   go_wp2_with ((at_builtin; refine Hd.out ?_))
   unfold Hd
   refine wpList_append_lies _ rfl (.tmp 17) (.tmp 19) 31 rfl w.heap.size 30 i22 (.slice none 0 0) 1 24 underL32 hi22 hz22 hs22 hb22 rfl (by omega) u3 us.length _ rfl HO1.out.row ⟨w2.heap.size, 0, none⟩ 1 1 [.slice xa z.length xc] rfl rfl hnews (by intro u hu; simp at hu; subst hu; rfl) (by omega) (by unfold maxLen; omega) (by omega) hbase (w2.heap.size + 1) (by simp) ?_
   intro g6 cap6 w6 hown6 hgrow6 hat6 hlt6
   have HO6 : Hd (LO w6 w.heap.size (.slice (some ⟨g6, 0, none⟩) (us.length + 1) cap6) (us ++ [.slice xa z.length xc]) (ls.take (k + 1))) := by unfold Hd; rw [HT.out]; exact HO1.out.grow HX1.out HXA.out hgrow6 hown6
   have HF6 : Hd (Fr (fun _ => False) w w6) := grow_fr0 (HF2.out.alloc _) hgrow6 (fun k hk => (World.ownsRow.lt HO1.out.row k hk).1)
   clear hown6 hgrow6 hat6 hlt6 HO1 hnews hbase HO2 HF2 HX HX1 HXA
   go_wp2_with fail
   exact ⟨⟨k + 1, _, by simp, by omega, HO6.out, HF6.out⟩, by simp; omega⟩
  ·have hdk : decide ((k : Int) < ls.length) = false := by simp; omega
   have HO2 : Hd (LO wr w.heap.size u3 us ls) := by have := HO.out; rw [List.take_of_length_le (by omega)] at this; exact this
   clear HO
   go_wp2_with fail
   go_ret
   exact ⟨u3, us, rfl, HO2.out, HF.out⟩
structure SO (w : World) (B : Nat) (hv rv : Value) (us : List Value) (s : PS) : Prop where
 oh : IOwn w B hv s.H
 lo : LO w B rv us s.R
 ap : ∀ i (h : i < us.length), ∀ k, us[i].ownBlock = some k → hv.ownBlock ≠ some k
theorem SO.keep {w w' : World} {B : Nat} {hv rv : Value} {us : List Value} {s : PS} (h : SO w B hv rv us s) (f : Fr (fun _ => False) w w') : SO w' B hv rv us s := ⟨h.oh.fr f (fun _ _ e => e), h.lo.keep f, h.ap⟩
theorem SO.sa {w : World} {B : Nat} {hv rv : Value} {us : List Value} {s : PS} (h : SO w B hv rv us s) : (IA w hv s.H ∧ LA w rv s.R) := ⟨h.oh.ia, h.lo.la⟩
theorem LO.fr {S : Nat → Prop} {w w' : World} {B : Nat} {rv : Value} {us : List Value} {ls : List (List Int)} (h : LO w B rv us ls) (f : Fr S w w') (hS : ∀ k, B ≤ k → ¬ S k) : LO w' B rv us ls :=
 ⟨ownsRow_frL h.row f (fun k e => hS k (World.ownsRow.lt h.row k e).1), h.ul, fun i hi hk => (h.each i hi hk).fr f (fun k e => hS k ((h.each i hi hk).ge k e).1), h.apart⟩
theorem LO.mono {w : World} {B B' : Nat} {rv : Value} {us : List Value} {ls : List (List Int)} (h : LO w B rv us ls) (hB : B' ≤ B) : LO w B' rv us ls := ⟨World.ownsRow.mono h.row hB, h.ul, fun i hi hk => (h.each i hi hk).mono hB, h.apart⟩
theorem copySummary_any (x1 y1 : Value) (s : PS) (w : World) (h1 : IA w x1 s.H) (h2 : LA w y1 s.R) (fh : s.H.length ≤ 17592186043904) (hr : s.R.length ≤ 5864062014634) (fl : ∀ l ∈ s.R, l.length ≤ 17592186043904) : Calls Tryz.prog 43 #[.agg #[x1, y1]] w fun e w' => ∃ hv rv us, e = .returned (.agg #[hv, rv]) ∧ SO w' (w.heap.size + 2) hv rv us s ∧ Fr (fun _ => False) w w' := by
 obtain ⟨a1, b1, e1, -⟩ := id h1
 obtain ⟨a2, b2, e2, -⟩ := id h2
 obtain ⟨wa, hwa⟩ : ∃ wa, wa = (w.alloc (.cells #[x1, y1] 33)).alloc nil2 := ⟨_, rfl⟩
 have hF : Fr (fun _ => False) w wa := by rw [hwa]; exact Fr.alloc (Fr.alloc (Fr.refl _ w) _) _
 obtain ⟨H, hH⟩ : ∃ H, H = w.heap.size := ⟨_, rfl⟩
 have b1' : wa.heap[H]? = some (.cells #[x1, y1] 33) := by rw [hwa, hH]; exact keepA (heap_new w _) _
 have b2' : wa.heap[H + 1]? = some nil2 := by
  have := heap_new (w.alloc (.cells #[x1, y1] 33)) nil2
  rw [World.size_alloc] at this
  rw [hwa, hH]; exact this
 have hsz : wa.heap.size = H + 2 := by rw [hwa, hH]; simp
 have HWA : Hd (wa = (w.alloc (.cells #[x1, y1] 33)).alloc nil2) := hwa
 have HSZ : Hd (wa.heap.size = H + 2) := hsz
 have HF : Hd (Fr (fun _ => False) w wa) := hF
 have HH : Hd (H = w.heap.size) := hH
 have B2 : Hd (wa.heap[H + 1]? = some nil2) := b2'
 have HI1 : Hd (∀ W, Fr (fun _ => False) wa W → IA W x1 s.H) := fun W f => h1.stay (hF.trans f)
 have HI2 : Hd (∀ W, Fr (fun _ => False) wa W → LA W y1 s.R) := fun W f => h2.stay (hF.trans f)
 have FL : Hd (∀ l ∈ s.R, l.length ≤ 17592186043904) := fl
 have c0 : wa.cell? ⟨H, 0, none⟩ = some x1 := by rw [cell_of b1']; rfl
 have c1 : wa.cell? ⟨H, 1, none⟩ = some y1 := by rw [cell_of b1']; rfl
 have d0 : wa.cell? ⟨H + 1, 0, none⟩ = some (.slice none 0 0) := by rw [cell_of b2']; rfl
 have d1 : wa.cell? ⟨H + 1, 1, none⟩ = some (.slice none 0 0) := by rw [cell_of b2']; rfl
 have z0 := frozen_of b2' 0
 have z1 := frozen_of b2' 1
 have hHl : H < wa.heap.size := heap_lt b1'
 have hHl1 : H + 1 < wa.heap.size := heap_lt b2'
 subst e1; subst e2
 clear h1 h2 hF hwa hH b1' b2' fl hsz
 go_enter Tryz.func43, Tryz.ntmps43
 go_upto_region 1 with fail
 rw [← HWA.out, ← HH.out]
 clear HWA
 go_region_held3 (fun w' => w'.cell? ⟨H, 0, none⟩ = some (.slice a1 s.H.length b1) ∧ w'.cell? ⟨H, 1, none⟩ = some (.slice a2 s.R.length b2)) (go_keep) ((
  first
   |(go_at_call 83
     refine (show Calls Tryz.prog 83 #[.slice a1 s.H.length b1] _ _ from copyInts_any _ s.H _ (by first | exact HI1.out _ (Fr.drew (Fr.refl _ _)) | exact HI1.out _ HGb.out) fh).mono ?_
     rintro e wx ⟨hv, rfl, hxo, hfx⟩
     obtain ⟨xa, xc, ehv⟩ := own_slice hxo
     subst ehv
     have HGa : Hd (Fr (fun _ => False) wa wx) := by first | exact (Fr.drew (Fr.refl _ _)).trans hfx | exact HGb.out.trans hfx
     have HOa : Hd _ := hxo
     have s0 := (HGa.out.cell hHl (fun h => h)).trans c0
     have s1 := (HGa.out.cell hHl (fun h => h)).trans c1
     have s2 := (HGa.out.cell hHl1 (fun h => h)).trans d0
     have s3 := (HGa.out.cell hHl1 (fun h => h)).trans d1
     have s4 := frozen_of (keepF B2.out HGa.out) 0
     have s5 := frozen_of (keepF B2.out HGa.out) 1
     have HFXa : Hd _ := hfx
     clear hxo hfx)
   |(go_at_call 84
     refine (show Calls Tryz.prog 84 #[.slice a2 s.R.length b2] _ _ from copyLists_any _ s.R _ (by first | exact HI2.out _ (Fr.drew (Fr.refl _ _)) | exact HI2.out _ HGa.out) hr FL.out).mono ?_
     rintro e wy ⟨rv, us, rfl, hyo, hfy⟩
     obtain ⟨ya, yc, erv⟩ := own_slice hyo.row
     subst erv
     have HGb : Hd (Fr (fun _ => False) wa wy) := by first | exact (Fr.drew (Fr.refl _ _)).trans hfy | exact HGa.out.trans hfy
     have HOb : Hd _ := hyo
     have t0 := (HGb.out.cell hHl (fun h => h)).trans c0
     have t1 := (HGb.out.cell hHl (fun h => h)).trans c1
     have t2 := (HGb.out.cell hHl1 (fun h => h)).trans d0
     have t3 := (HGb.out.cell hHl1 (fun h => h)).trans d1
     have t4 := frozen_of (keepF B2.out HGb.out) 0
     have t5 := frozen_of (keepF B2.out HGb.out) 1
     have HFXb : Hd _ := hfy
     clear hyo hfy)))
 have f : Fr (fun j => j = H + 1) wy ((wy.setCell ⟨H + 1, 0, none⟩ (.slice xa s.H.length xc)).setCell ⟨H + 1, 1, none⟩ (.slice ya us.length yc)) := (setCell_fr wy (H + 1) 0 _).trans (setCell_fr _ (H + 1) 1 _)
 have HZ : Hd (((wy.setCell ⟨H + 1, 0, none⟩ (.slice xa s.H.length xc)).setCell ⟨H + 1, 1, none⟩ (.slice ya us.length yc)).heap[H + 1]? = some (.cells #[.slice xa s.H.length xc, .slice ya us.length yc] 33)) := set_of (set_of (keepF B2.out HGb.out) 0 _) 1 _
 have hO1 : IOwn wx wa.heap.size (.slice xa s.H.length xc) s.H := HOa.out
 have hL1 : LO wy wx.heap.size (.slice ya us.length yc) us s.R := HOb.out
 have hFxy : Fr (fun _ => False) wx wy := HFXb.out
 have hsx : wa.heap.size ≤ wx.heap.size := HGa.out.size
 have hsz := HSZ.out
 have HSO : Hd (SO ((wy.setCell ⟨H + 1, 0, none⟩ (.slice xa s.H.length xc)).setCell ⟨H + 1, 1, none⟩ (.slice ya us.length yc)) (w.heap.size + 2) (.slice xa s.H.length xc) (.slice ya us.length yc) us s) := by
  have hw := HH.out
  have h1 : IOwn wy (w.heap.size + 2) (.slice xa s.H.length xc) s.H := (hO1.fr hFxy (fun _ _ e => e)).mono (by omega)
  refine ⟨h1.fr f (fun j e e2 => by have := (h1.ge j e).1; omega), (hL1.mono (by omega)).fr f (fun j hj e => by omega), fun i hi j e e2 => ?_⟩
  have h2 := ((hL1.each i hi (by have := hL1.ul; omega)).ge j e).1
  have h3 := (hO1.ge j e2).2
  omega
 have HFz : Hd (Fr (fun _ => False) w ((wy.setCell ⟨H + 1, 0, none⟩ (.slice xa s.H.length xc)).setCell ⟨H + 1, 1, none⟩ (.slice ya us.length yc))) := (HF.out.trans HGb.out).then f (fun j hj e => by have := HH.out; omega)
 clear f hO1 hL1 hFxy hsx hsz s0 s1 s2 s3 s4 s5 t0 t1 t2 t3 t4 t5 c0 c1 d0 d1 z0 z1
 go_wp2_with fail
 generalize (wy.setCell ⟨H + 1, 0, none⟩ (.slice xa s.H.length xc)).setCell ⟨H + 1, 1, none⟩ (.slice ya us.length yc) = wz at *
 have e0 : wz.cell? ⟨H + 1, 0, none⟩ = some (.slice xa s.H.length xc) := by rw [cell_of HZ.out]; rfl
 have e1 : wz.cell? ⟨H + 1, 1, none⟩ = some (.slice ya us.length yc) := by rw [cell_of HZ.out]; rfl
 refine bodyPost_ret (v := .agg #[.slice xa s.H.length xc, .slice ya us.length yc]) ?_ rfl ⟨_, _, us, rfl, HSO.out, HFz.out⟩
 rw [results_cell (p := 2) (ty := 33) Tryz.results43]
 simp [go_sem, e0, e1]
end Go.Proofs.YtdkijecnnmncnaaGreatDoor
namespace Go.Proofs.YtdkijecnnmncnaaGreatDoor
open Go.RowKit (wrap32 wrap64)
set_option linter.unusedVariables false
set_option linter.unusedSimpArgs false
abbrev SI := PS × Value × Value × List Value
abbrev rowS (x : SI) : List Value := [x.2.1, x.2.2.1]
structure SsO (w : World) (B : Nat) (v : Value) (L : List SI) : Prop where
 row : w.ownsRow B 33 2 v L.length (L.flatMap rowS)
 each : ∀ x ∈ L, SO w B x.2.1 x.2.2.1 x.2.2.2 x.1
theorem SsO.sa {w : World} {B : Nat} {v : Value} {L : List SI} (h : SsO w B v L) : SsA w v (L.map (·.1)) := by
 rcases h.row.2 with ⟨h2, h3⟩ | ⟨g, cap, cur, e, -⟩
 ·refine ⟨none, 0, by rw [h2, List.length_map, h3], fun hne => ?_⟩
  exact absurd (by rw [List.eq_nil_of_length_eq_zero h3]; rfl) hne
 ·refine ⟨some ⟨g, 0, none⟩, cap, by rw [e, List.length_map], fun _ => ⟨g, 0, rfl, (World.ownsRow.lt h.row g (by rw [e]; rfl)).2, fun j hj => ?_⟩⟩
  have hj' : j < L.length := by simpa using hj
  have pc : ∀ o u, o < 2 → (rowS L[j])[o]? = some u → w.cell? ⟨g, j * 2 + o, none⟩ = some u := fun o u ho hu => by
   obtain ⟨g', cap', e', -, hc⟩ := own_cell h.row (j := j * 2 + o) (u := u) (by rw [flat_get rowS 2 (fun _ => rfl) L j o hj' ho]; exact hu)
   rw [e] at e'
   cases e'
   exact hc
  have hi := (h.each L[j] (List.getElem_mem hj')).sa
  rw [Nat.zero_add]
  simp only [List.getElem_map]
  exact ⟨L[j].2.1, L[j].2.2.1, pc 0 _ (by omega) rfl, pc 1 _ (by omega) rfl, hi.1, hi.2⟩
theorem SsO.stay {w w' : World} {B : Nat} {v : Value} {L : List SI} (h : SsO w B v L) (f : Fr (fun _ => False) w w') : SsO w' B v L := ⟨ownsRow_frL h.row f (fun _ _ e => e), fun x hx => (h.each x hx).keep f⟩
theorem SO.mono {w : World} {B B' : Nat} {hv rv : Value} {us : List Value} {s : PS} (h : SO w B hv rv us s) (hB : B' ≤ B) : SO w B' hv rv us s := ⟨h.oh.mono hB, h.lo.mono hB, h.ap⟩
theorem SO.other {S : Nat → Prop} {w w' : World} {B : Nat} {hv rv : Value} {us : List Value} {s : PS} (h : SO w B hv rv us s) (f : Fr S w w') (h1 : ∀ k, hv.ownBlock = some k → ¬ S k) (h2 : ∀ k, rv.ownBlock = some k → ¬ S k) (h3 : ∀ i (h : i < us.length), ∀ k, us[i].ownBlock = some k → ¬ S k) : SO w' B hv rv us s :=
 ⟨h.oh.fr f h1, ⟨ownsRow_frL h.lo.row f h2, h.lo.ul, fun i hi hk => (h.lo.each i hi hk).fr f (h3 i hi), h.lo.apart⟩, h.ap⟩
theorem under25 : Tryz.prog.underlying 25 = some (.slice 33) := by kernel_rfl
end Go.Proofs.YtdkijecnnmncnaaGreatDoor
namespace Go.Proofs.YtdkijecnnmncnaaGreatDoor
open Go.ChangeShapes Go.WideShapes Go.ChangeAt Go.RowKit
set_option linter.unusedVariables false
set_option linter.unusedSimpArgs false
theorem addr_off (b off i : Nat) : (⟨b, off, none⟩ : Addr).add i = ⟨b, off + i, none⟩ := by unfold Addr.add; split <;> simp_all
def fld (name : String) (type offset byteOffset : Nat) : Field := { name := name, type := type, offset := offset, embedded := false, tag := "", pkgPath := "", byteOffset := byteOffset }
theorem und3 : Tryz.prog.underlying 3 = some (.int .i64) := by kernel_rfl
theorem und71 : Tryz.prog.underlying 79 = some (.struct #[fld "Op" 3 0 0, fld "R" 3 1 8, fld "S" 3 2 16, fld "T" 3 3 24, fld "N" 3 4 32, fld "Args" 30 5 40, fld "Rets" 30 6 64]) := by kernel_rfl
theorem und67 : Tryz.prog.underlying 45 = some (.struct #[fld "Params" 3 0 0, fld "Results" 3 1 8, fld "Vars" 3 2 16, fld "Code" 41 3 24]) := by kernel_rfl
theorem cel3 : Tryz.prog.cellsOf 3 = 1 := by kernel_rfl
theorem cel64 : Tryz.prog.cellsOf 30 = 1 := by kernel_rfl
theorem cel65 : Tryz.prog.cellsOf 41 = 1 := by kernel_rfl
theorem cel71 : Tryz.prog.cellsOf 79 = 7 := by kernel_rfl
theorem cel67 : Tryz.prog.cellsOf 45 = 4 := by kernel_rfl
theorem len_cons {n : Nat} : ∀ {cs : List Value}, cs.length = n + 1 → ∃ c r, cs = c :: r ∧ r.length = n
 | c :: r, h => ⟨c, r, rfl, by simpa using h⟩
theorem int_of {H : Type} {enc : TypeId × Value → H} {W : World} {n : Nat} {c : Value} {x : DataW H × List MemPlace} (h : DataW.trod enc Tryz.prog W 0 (fun _ => true) true n 3 [c] = some x) : ∃ z : Int, c = vI z := by
 obtain ⟨z, e, -, -⟩ := DataW.trod_int und3 h
 exact ⟨z, (List.cons.inj e).1⟩
theorem reach_is : reachBytes = 140737488351232 := by decide
def Szd {H : Type} (d : DataW H) (t : Nat) : Prop := ∀ q ∈ d.weights Tryz.prog t, q ≤ reachBytes
theorem weightsAll_mem {H : Type} {P : Program} {e : TypeId} {d : DataW H} {n : Nat} (hn : n ∈ d.weights P e) : ∀ {ds : List (DataW H)}, d ∈ ds → n ∈ DataW.weightsAll P e ds
 | a :: r, h => by
   simp only [DataW.weightsAll, List.mem_append]
   rcases List.mem_cons.1 h with rfl | h
   ·exact Or.inl hn
   ·exact Or.inr (weightsAll_mem hn h)
theorem rows_sz {H : Type} {enc : TypeId × Value → H} {W : World} {n t e sz by' : Nat} {c : Value} {x : DataW H × List MemPlace} (ht : Tryz.prog.underlying t = some (.slice e)) (hsz : Tryz.prog.cellsOf e = sz) (hby : Tryz.prog.bytesOf e = by') (hs0 : 0 < sz)
 (h : DataW.trod enc Tryz.prog W 0 (fun _ => true) true n t [c] = some x) (hx : Szd x.1 t) {α : Type} (dflt : α) (Pr : α → List Value → Prop)
 (hel : ∀ n cs (y : DataW H × List MemPlace), DataW.trod enc Tryz.prog W 0 (fun _ => true) true n e cs = some y → Szd y.1 e → ∃ q, Pr q cs) :
 ∃ l : List α, l.length * by' ≤ reachBytes ∧ ∃ a cp, c = .slice a l.length cp ∧ (l ≠ [] → ∃ k o, a = some ⟨k, o, none⟩ ∧ k < W.heap.size ∧ ∀ j (h : j < l.length), ∃ cs, Pr l[j] cs ∧ ∀ i, i < sz → W.cell? ⟨k, o + j * sz + i, none⟩ = cs[i]?) := by
 rcases Deep.open_slice ht h with ⟨hcs, hx⟩ | ⟨a, len, cap, m, k, D, Pl, hcs, _, hl, hm, hmm, hxx, hc⟩
 ·have hcs := (List.cons.inj hcs).1
  subst hcs
  exact ⟨[], by simp, none, 0, rfl, fun h => absurd rfl h⟩
 ·have hcs := (List.cons.inj hcs).1
  subst hcs
  have hmc : m = cap := by simpa using hmm
  subst hmc
  have hw : ∀ q, q ∈ (((((List.range len).map D).length + ((List.range (m - len)).map fun j => D (len + j)).length) * by') :: DataW.weightsAll Tryz.prog e ((List.range len).map D)) → q ≤ reachBytes := by
   intro q hq
   apply hx
   rw [hxx]
   simp only [DataW.weights, ht, hby]
   rcases List.mem_cons.1 hq with rfl | hq
   ·exact List.mem_cons_self
   ·exact List.mem_cons_of_mem _ (List.mem_append_left _ hq)
  have hlw : len * by' ≤ reachBytes := by
   have := hw _ List.mem_cons_self
   simp only [List.length_map, List.length_range] at this
   exact Nat.le_trans (Nat.mul_le_mul_right by' (by omega)) this
  have hv : ∀ i, ∃ q : α × List Value, i < len → Pr q.1 q.2 ∧ q.2.length = sz ∧ ∀ j, j < sz → W.cell? ((a.add (i * sz)).add j) = q.2[j]? := by
   intro i
   by_cases hi : i < len
   ·obtain ⟨cs', r0, r1⟩ := hc i (by omega)
    rw [hsz] at r0
    obtain ⟨-, hcl, hcell⟩ := World.cells?_some r0
    obtain ⟨q, hq⟩ := hel _ _ _ r1 (fun q hq => hw q (List.mem_cons_of_mem _ (weightsAll_mem hq (List.mem_map.2 ⟨i, List.mem_range.2 hi, rfl⟩))))
    exact ⟨(q, cs'), fun _ => ⟨hq, hcl, hcell⟩⟩
   ·exact ⟨(dflt, []), fun h => absurd h hi⟩
  obtain ⟨Q, hQ⟩ : ∃ Q : Nat → α × List Value, ∀ i, i < len → Pr (Q i).1 (Q i).2 ∧ (Q i).2.length = sz ∧ ∀ j, j < sz → W.cell? ((a.add (i * sz)).add j) = (Q i).2[j]? :=
   ⟨fun i => (hv i).choose, fun i => (hv i).choose_spec⟩
  have hlen : ((List.range len).map fun i => (Q i).1).length = len := by simp
  refine ⟨(List.range len).map fun i => (Q i).1, by rw [hlen]; exact hlw, some a, m, by rw [hlen], fun hne => ?_⟩
  obtain ⟨b, off, spot⟩ := a
  have hpos : 0 < len := by
   rcases Nat.eq_zero_or_pos len with h0 | h0
   ·exfalso; apply hne; rw [h0]; rfl
   ·exact h0
  have h00 : W.cell? ((({ block := b, off := off, spot := spot } : Addr).add (0 * sz)).add 0) = some ((Q 0).2[0]'(by rw [(hQ 0 hpos).2.1]; exact hs0)) := by
   rw [(hQ 0 hpos).2.2 0 hs0]; exact List.getElem?_eq_getElem _
  have hspot : spot = none := by
   have := World.cell?_spot h00
   simpa [Addr.add] using this
  subst hspot
  simp only [addr_off] at hQ h00
  refine ⟨b, off, rfl, cell_lt h00, fun j hj => ?_⟩
  have hj' : j < len := by simpa using hj
  refine ⟨(Q j).2, ?_, (hQ j hj').2.2⟩
  have := (hQ j hj').1
  simpa using this
theorem byt3 : Tryz.prog.bytesOf 3 = 8 := by kernel_rfl
theorem byt71 : Tryz.prog.bytesOf 79 = 88 := by kernel_rfl
theorem byt67 : Tryz.prog.bytesOf 45 = 48 := by kernel_rfl
theorem ints_sz {H : Type} {enc : TypeId × Value → H} {W : World} {n : Nat} {c : Value} {x : DataW H × List MemPlace} (h : DataW.trod enc Tryz.prog W 0 (fun _ => true) true n 30 [c] = some x) (hx : Szd x.1 30) : ∃ l, IA W c l ∧ l.length ≤ 17592186043904 := by
 obtain ⟨l, hl, a, cp, e, hh⟩ := rows_sz under64 cel3 byt3 (by omega) h hx (0 : Int) (fun q cs => cs = [vI q]) (fun n cs y hy _ => by
  obtain ⟨z, e, -, -⟩ := DataW.trod_int und3 hy
  exact ⟨z, e⟩)
 have hr := reach_is
 refine ⟨l, ⟨a, cp, e, fun hne => ?_⟩, by omega⟩
 obtain ⟨k, o, ea, hk, hc⟩ := hh hne
 refine ⟨k, o, ea, hk, fun j hj => ?_⟩
 obtain ⟨cs, rfl, h1⟩ := hc j hj
 have := h1 0 (by omega)
 rw [Nat.mul_one] at this
 exact this
def IsIz (W : World) (c : PI) (cs : List Value) : Prop := ∃ av rv, cs = [vI c.op, vI c.r, vI c.s, vI c.t, vI c.n, av, rv] ∧ IA W av c.args ∧ IA W rv c.rets ∧ c.args.length ≤ 17592186043904 ∧ c.rets.length ≤ 17592186043904
theorem instr_sz {H : Type} {enc : TypeId × Value → H} {W : World} {n : Nat} {cs : List Value} {x : DataW H × List MemPlace} (h : DataW.trod enc Tryz.prog W 0 (fun _ => true) true n 79 cs = some x) (hx : Szd x.1 79) : ∃ c : PI, IsIz W c cs := by
 obtain ⟨xs, k, -, rfl, hcl, hxl, hf⟩ := DataW.trod_struct und71 h
 rw [cel71] at hcl
 have hxl : xs.length = 7 := hxl
 obtain ⟨c0, r0, rfl, hl1⟩ := len_cons hcl
 obtain ⟨c1, r1, rfl, hl2⟩ := len_cons hl1
 obtain ⟨c2, r2, rfl, hl3⟩ := len_cons hl2
 obtain ⟨c3, r3, rfl, hl4⟩ := len_cons hl3
 obtain ⟨c4, r4, rfl, hl5⟩ := len_cons hl4
 obtain ⟨c5, r5, rfl, hl6⟩ := len_cons hl5
 obtain ⟨c6, r6, rfl, hl7⟩ := len_cons hl6
 obtain rfl := List.length_eq_zero_iff.1 hl7
 have g0 := hf 0 (fld "Op" 3 0 0) rfl
 have g1 := hf 1 (fld "R" 3 1 8) rfl
 have g2 := hf 2 (fld "S" 3 2 16) rfl
 have g3 := hf 3 (fld "T" 3 3 24) rfl
 have g4 := hf 4 (fld "N" 3 4 32) rfl
 have g5 := hf 5 (fld "Args" 30 5 40) rfl
 have g6 := hf 6 (fld "Rets" 30 6 64) rfl
 have ee : ∀ i (hi : i < 7), xs[i]? = some (xs[i]'(by omega)) := fun i hi => List.getElem?_eq_getElem (by omega)
 rw [ee 0 (by omega)] at g0
 rw [ee 1 (by omega)] at g1
 rw [ee 2 (by omega)] at g2
 rw [ee 3 (by omega)] at g3
 rw [ee 4 (by omega)] at g4
 rw [ee 5 (by omega)] at g5
 rw [ee 6 (by omega)] at g6
 simp only [fld, cel3, cel64, List.drop_zero, List.drop_succ_cons, List.take_succ_cons, List.take_zero] at g0 g1 g2 g3 g4 g5 g6
 obtain ⟨z0, rfl⟩ := int_of g0
 obtain ⟨z1, rfl⟩ := int_of g1
 obtain ⟨z2, rfl⟩ := int_of g2
 obtain ⟨z3, rfl⟩ := int_of g3
 obtain ⟨z4, rfl⟩ := int_of g4
 have bb : ∀ i (hi : i < 7) u, (#[fld "Op" 3 0 0, fld "R" 3 1 8, fld "S" 3 2 16, fld "T" 3 3 24, fld "N" 3 4 32, fld "Args" 30 5 40, fld "Rets" 30 6 64].toList.map (·.type))[i]? = some u → Szd (xs[i]'(by omega)).1 u := fun i hi u hu q hq => by
  apply hx
  simp only [DataW.weights, und71]
  exact DataW.weights_mem_each (j := i) (t := u) (d := (xs[i]'(by omega)).1) hu (by rw [List.getElem?_map, ee i hi]; rfl) q hq
 obtain ⟨la, hA, hla⟩ := ints_sz g5 (bb 5 (by omega) 30 rfl)
 obtain ⟨lr, hR, hlr⟩ := ints_sz g6 (bb 6 (by omega) 30 rfl)
 exact ⟨⟨z0, z1, z2, z3, z4, la, lr⟩, c5, c6, rfl, hA, hR, hla, hlr⟩
theorem code_sz {H : Type} {enc : TypeId × Value → H} {W : World} {n : Nat} {c : Value} {x : DataW H × List MemPlace} (h : DataW.trod enc Tryz.prog W 0 (fun _ => true) true n 41 [c] = some x) (hx : Szd x.1 41) : ∃ l, CA W c l ∧ FineC l := by
 obtain ⟨l, hl, a, cp, e, hh⟩ := rows_sz under65 cel71 byt71 (by omega) h hx (⟨0, 0, 0, 0, 0, [], []⟩ : PI) (IsIz W) (fun n cs y hy hs => instr_sz hy hs)
 have hr := reach_is
 refine ⟨l, ⟨a, cp, e, fun hne => ?_⟩, by omega, fun c hc => ?_⟩
 ·obtain ⟨k, o, ea, hk, hc⟩ := hh hne
  refine ⟨k, o, ea, hk, fun j hj => ?_⟩
  obtain ⟨cs, ⟨av, rv, rfl, h2, h3, -⟩, h1⟩ := hc j hj
  exact ⟨av, rv, h1 0 (by omega), h1 1 (by omega), h1 2 (by omega), h1 3 (by omega), h1 4 (by omega), h1 5 (by omega), h1 6 (by omega), h2, h3⟩
 ·obtain ⟨j, hj, rfl⟩ := List.getElem_of_mem hc
  obtain ⟨k, o, ea, hk, hcc⟩ := hh (by intro e; simp [e] at hj)
  obtain ⟨cs, ⟨av, rv, -, -, -, h4, h5⟩, -⟩ := hcc j hj
  exact ⟨h4, h5⟩
def IsFz (W : World) (f : PF) (cs : List Value) : Prop := ∃ cv, cs = [vI f.P, vI f.R, vI f.V, cv] ∧ CA W cv f.code ∧ FineC f.code
theorem func_sz {H : Type} {enc : TypeId × Value → H} {W : World} {n : Nat} {cs : List Value} {x : DataW H × List MemPlace} (h : DataW.trod enc Tryz.prog W 0 (fun _ => true) true n 45 cs = some x) (hx : Szd x.1 45) : ∃ f : PF, IsFz W f cs := by
 obtain ⟨xs, k, -, rfl, hcl, hxl, hf⟩ := DataW.trod_struct und67 h
 rw [cel67] at hcl
 have hxl : xs.length = 4 := hxl
 obtain ⟨c0, r0, rfl, hl1⟩ := len_cons hcl
 obtain ⟨c1, r1, rfl, hl2⟩ := len_cons hl1
 obtain ⟨c2, r2, rfl, hl3⟩ := len_cons hl2
 obtain ⟨c3, r3, rfl, hl4⟩ := len_cons hl3
 obtain rfl := List.length_eq_zero_iff.1 hl4
 have g0 := hf 0 (fld "Params" 3 0 0) rfl
 have g1 := hf 1 (fld "Results" 3 1 8) rfl
 have g2 := hf 2 (fld "Vars" 3 2 16) rfl
 have g3 := hf 3 (fld "Code" 41 3 24) rfl
 have ee : ∀ i (hi : i < 4), xs[i]? = some (xs[i]'(by omega)) := fun i hi => List.getElem?_eq_getElem (by omega)
 rw [ee 0 (by omega)] at g0
 rw [ee 1 (by omega)] at g1
 rw [ee 2 (by omega)] at g2
 rw [ee 3 (by omega)] at g3
 simp only [fld, cel3, cel65, List.drop_zero, List.drop_succ_cons, List.take_succ_cons, List.take_zero] at g0 g1 g2 g3
 obtain ⟨z0, rfl⟩ := int_of g0
 obtain ⟨z1, rfl⟩ := int_of g1
 obtain ⟨z2, rfl⟩ := int_of g2
 have bb : Szd (xs[3]'(by omega)).1 41 := fun q hq => by
  apply hx
  simp only [DataW.weights, und67]
  exact DataW.weights_mem_each (j := 3) (t := 41) (d := (xs[3]'(by omega)).1) rfl (by rw [List.getElem?_map, ee 3 (by omega)]; rfl) q hq
 obtain ⟨l, hC, hl⟩ := code_sz g3 bb
 exact ⟨⟨z0, z1, z2, l⟩, c3, rfl, hC, hl⟩
end Go.Proofs.YtdkijecnnmncnaaGreatDoor
namespace Go.Proofs.YtdkijecnnmncnaaGreatDoor
open Go Go.RowKit
set_option linter.unusedVariables false
set_option linter.unusedSimpArgs false
variable {F : Fence} {n : Nat} {P : Program}
def SeqGivesC {α : Type} (F : Fence) (n : Nat) (P : Program) (g : Nat) (fst lb : Array Value) (encs : α → Array Value) (Kp : Nat → World → World → Prop) (S : List α → Prop) (N : Nat) (w : World) : Prop :=
 ∀ (l : Nat) (J : List α → World → Prop) (W : World), Below w.heap.size w W → w.heap.size ≤ l → l < W.heap.size → OwnFrom W.heap.size J →
  (∀ pre x W1, J pre W1 → pre.length < N → YieldAt F (n - 1) P l (encs x) W1 fun e W' => e = .returned (.bool true) ∧ J (pre ++ [x]) W' ∧ Kp l W1 W') →
  J [] W →
  CallsIn F n P g (fst ++ #[.func (.yield l) #[] #[]] ++ lb) W fun e W' => (∃ v, e = .returned v) ∧ ∃ xs, S xs ∧ J xs W'
def GoesOn {α : Type} (B : Nat) (Kp : World → World → Prop) (I : List α → World → Prop) (xs : List α) (W : World) : Exit → Act → World → Prop
 | .normal, _, W' => KeepsFrom B W W' ∧ Kp W W' ∧ I xs W'
 | _, _, _ => False
theorem later_block {A B : World} {row : Option Nat} (hg : A.grownBy B row) {k m : Nat} {o : Obj} (hk : A.heap[k]? = some o) (hkm : k < m) (hr : ∀ r, row = some r → m ≤ r ∧ ∃ o : Obj, A.heap[r]? = some o ∧ o.isCells = false) : B.heap[k]? = some o :=
 (hg.block k (Array.getElem?_eq_some_iff.1 hk).1 (fun e => by have := (hr k e.symm).1; omega)).trans hk
theorem wpIn_rangeC {α : Type} {g : Operand} {ps : Array Tmp} {assign body : Code} {Q : Exit → Act → World → Prop} {a : Act} {w : World}
 (hro : F.round = none) (h1 : 1 ≤ n) {gf : Nat} {fst lb : Array Value} (hg : a.eval g = .func (.func gf) fst lb) (hFg : F.fn gf) (eg : ∀ args w, (callFunc gf args).run P w = .ok (.enter gf args) w)
 {encs : α → Array Value} {Kp : Nat → World → World → Prop} {S : List α → Prop} {N : Nat} {w0 : World} (hseq : SeqGivesC F (n - 1) P gf fst lb encs Kp S N w0)
 (hKt : ∀ (l : Nat) (A B C : World), Kp l A B → Kp l B C → Kp l A C) (hKb : ∀ (l : Nat) (W : World) (r : Loop) (o' : Obj), w.heap.size ≤ l → W.heap[l]? = some (.loop r) → Kp l W (W.putObj l o')) (hb0 : Below w0.heap.size w0 w) (hps : ∀ x, (encs x).size = ps.size)
 (I : List α → World → Prop) (hI : OwnFrom w.heap.size I) (h0 : I [] w) (Ax : α → Act → World → Prop) (hAx : ∀ x a', OwnFrom w.heap.size (fun (_ : Unit) W => Ax x a' W))
 (hassign : ∀ (l : Nat) (pre : List α) (x : α) (W : World) (K : Act → World → Prop), w.heap.size ≤ l → I pre W → (∀ a' W', KeepsFrom w.heap.size W W' → Kp l W W' → I pre W' → Ax x a' W' → K a' W') →
   assign.wpIn (F.inRound l) (n - 1 - 1) P (Exit.then K (fun _ _ _ => False)) { tmps := (ps.zip (encs x)).foldl (fun t (p, v) => t.setIfInBounds p v) a.tmps, defers := [] } W)
 (hbody : ∀ (l : Nat) (pre : List α) (x : α) (a' : Act) (W : World), w.heap.size ≤ l → I pre W → Ax x a' W → pre.length < N → body.wpIn (F.inRound l) (n - 1 - 1) P (GoesOn w.heap.size (Kp l) I (pre ++ [x]) W) a' W)
 (hdone : ∀ (D : Nat) (xs : List α) (W : World), w.heap.size ≤ D → S xs → I xs W → W.heap[D]? = some (.deferred (some [])) → Q .normal { a with defers := { target := .collected D, args := #[] } :: a.defers } W) :
 (Code.rangeFunc g ps assign body).wpIn F n P Q a w := by
 refine wpIn_rangeFunc (fun fn hfn => ?_)
 rw [hro]
 let rec_ : LoopState → Loop := fun st => { state := st, pending := none, fn, tmps := a.tmps, params := ps, assign, body, defers := w.heap.size }
 have hrec : ∀ st, rec_ st = { state := st, pending := none, fn, tmps := a.tmps, params := ps, assign, body, defers := w.heap.size } := fun _ => rfl
 clear_value rec_
 obtain ⟨V, hV⟩ : ∃ V, V = (w.alloc (.deferred (some []))).alloc (.loop (rec_ .ready)) := ⟨_, rfl⟩
 have hVs : V.heap.size = w.heap.size + 2 := by rw [hV]; simp
 have hVd : V.heap[w.heap.size]? = some (.deferred (some [])) := by
  rw [hV, Below.heap_alloc _ _ _ (by simp)]; exact World.alloc_heap_new w _
 have hVl : V.heap[w.heap.size + 1]? = some (.loop (rec_ .ready)) := by
  have := World.alloc_heap_new (w.alloc (.deferred (some []))) (.loop (rec_ .ready))
  rw [World.size_alloc] at this
  rw [hV]; exact this
 have hVI : I [] V := by rw [hV]; exact hI.alloc _ (hI.alloc _ h0)
 have hVb : Below w0.heap.size w0 V := by
  rw [hV]; exact hb0.trans ((((Below.refl _ w).alloc (Nat.le_refl _) _).alloc (by simp) _).mono hb0.size)
 refine ⟨w.heap.size + 1, [{ target := .collected w.heap.size, args := #[] }], V, { target := .fn (.func gf) lb, args := fst ++ #[.func (.yield (w.heap.size + 1)) #[] #[]] }, V, gf, fst ++ #[.func (.yield (w.heap.size + 1)) #[] #[]] ++ lb, V, ?_, ?_, ?_, ?_, fun _ => h1, ?_⟩
 ·rw [hV, hrec]; exact run_enterLoop_outer _ _ _ _ _
 ·simp only [resolve, hg]
  simp [go_sem]
 ·intro f' hf'; simp [Target.leads] at hf'; subst hf'; exact hFg
 ·simp [invoke, go_sem, eg]
 ·refine (hseq (w.heap.size + 1) (fun pre W => I pre W ∧ W.heap[w.heap.size + 1]? = some (.loop (rec_ .ready)) ∧ W.heap[w.heap.size]? = some (.deferred (some []))) V hVb (by have := hb0.size; omega) (by omega)
   (fun s A B row hs hgr hr => ⟨hI s A B row hs.1 hgr (fun r e => ⟨by have := (hr r e).1; omega, (hr r e).2⟩), later_block hgr hs.2.1 (by omega) hr, later_block hgr hs.2.2 (by omega) hr⟩) ?_ ⟨hVI, hVl, hVd⟩).mono ?_
  ·rintro pre x W ⟨hi, hl, hk⟩ hlen
   have hy := run_yield (P := P) (args := encs x) hl (by rw [hrec]; exact hps x)
   rw [hrec] at hy
   refine ⟨fn, _, assign, body, hy, roundIn_of_wpIn hfn (hassign (w.heap.size + 1) pre x W _ (by omega) hi ?_)⟩
   intro a' Wa ka kpa ia axa
   have hla := ka.same _ _ (by omega) hl rfl
   have hka := ka.same _ _ (Nat.le_refl _) hk rfl
   have hlt := (Array.getElem?_eq_some_iff.1 hla).1
   refine ⟨_, run_beginRound hla (by rw [hrec]), ?_⟩
   have hl2 : (Wa.putObj (w.heap.size + 1) (.loop { rec_ .ready with state := .busy })).heap[w.heap.size + 1]? = some (.loop { rec_ .ready with state := .busy }) := World.putObj_heap_same hlt
   have hk2 : (Wa.putObj (w.heap.size + 1) (.loop { rec_ .ready with state := .busy })).heap[w.heap.size]? = some (.deferred (some [])) := (World.putObj_heap_other (by omega)).trans hka
   refine wpIn_mono (hbody (w.heap.size + 1) pre x a' _ (by omega) (hI.putObj _ ia (by omega) hla rfl) ((hAx x a').putObj (s := ()) _ axa (by omega) hla rfl) hlen) ?_
   rintro e a3 W3 hp
   cases e with
   | normal =>
     obtain ⟨k3, kp3, i3⟩ := hp
     have hl3 := k3.same _ _ (by omega) hl2 rfl
     have hd3 := k3.same _ _ (Nat.le_refl _) hk2 rfl
     have hend := run_endRound (P := P) none hl3
     rw [hrec] at hend
     refine ⟨_, _, hend, rfl, ⟨hI.putObj _ i3 (by omega) hl3 rfl, ?_, (World.putObj_heap_other (by omega)).trans hd3⟩, hKt _ _ _ _ kpa (hKt _ _ _ _ (hKt _ _ _ _ (hKb _ _ _ _ (by omega) hla) kp3) (hKb _ _ _ _ (by omega) hl3))⟩
     rw [World.putObj_heap_same (Array.getElem?_eq_some_iff.1 hl3).1, hrec]
     rfl
   | ret => exact hp.elim
   | exit id => exact hp.elim
   | goto t => exact hp.elim
   | panic ch => exact hp.elim
   | outgrown => exact hp.elim
  ·rintro e W2 ⟨⟨v, rfl⟩, xs, hS, hi, hl, hk⟩
   have hend := run_endLoop (P := P) hl (by rw [hrec]; simp)
   rw [hrec] at hend
   exact ⟨none, _, hend, hdone _ xs _ (Nat.le_refl _) hS (hI.putObj _ hi (by omega) hl rfl) ((World.putObj_heap_other (by omega)).trans hk)⟩
end Go.Proofs.YtdkijecnnmncnaaGreatDoor
