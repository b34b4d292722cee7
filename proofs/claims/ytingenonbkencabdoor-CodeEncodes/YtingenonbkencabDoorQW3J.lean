import Derived.Test.YtingenonbkencabDoorQW1
import Derived.Test.YtingenonbkencabDoorQW2
import Derived.Test.YtingenonbkencabDoorQS1
import Derived.Test.YtingenonbkencabDoorQE5J
set_option linter.unusedVariables false
set_option linter.unusedSimpArgs false
namespace Go.Proofs.YtingenonbkencabDoor
open Go.RowKit (wrap32 wrap64)
set_option maxRecDepth 100000
set_option maxHeartbeats 1000000
theorem next_writes (b wb g0 K : Nat) (l : List UInt8) (bv : Value) (p : Addr) (at' v : Int) (size : Nat) (w : World) (h0 : w.cell? ⟨b, 0, none⟩ = some (writerFn wb)) (h1 : w.cell? ⟨b, 1, none⟩ = some (vI at')) (f1 : w.frozen? ⟨b, 1, none⟩ = false)
 (hp : w.cell? p = some (vI v)) (hs : size ≤ 8) (hr : Row w wb g0 K l bv) (hl : l.length + size ≤ 1000000000000) (hbS : ¬ (b = wb ∨ K ≤ b)) (hb : b < w.heap.size) :
 Calls Tryd.prog 64 #[.pointer (some ⟨b, 0, none⟩), .pointer (some p), .int .i64 size] w fun e w' =>
  e = .returned (vI at') ∧ ∃ w1 bv', Row w1 wb g0 K (l ++ leBytes size (IntKind.u64.wrap v).toNat) bv' ∧ Fr (fun k => k = wb ∨ K ≤ k) w w1 ∧ w' = w1.setCell ⟨b, 1, none⟩ (vI (adv at' size)) := by
 unfold adv
 rw [← wrap64_wrap]
 have hw := writes_any wb g0 K l bv p at' v size w hp hs hr hl
 unfold writerFn at h0
 go_enter Tryd.func64, Tryd.ntmps64
 go_wp2_with fail
 refine hw.mono ?_
 rintro e w1 ⟨rfl, ⟨bv', hr1⟩, hf1⟩
 have d1 : w1.cell? ⟨b, 1, none⟩ = some (vI at') := (hf1.cell hb hbS).trans h1
 have z1 : w1.frozen? ⟨b, 1, none⟩ = false := (hf1.frozen hb hbS).trans f1
 clear hw
 go_wp2_with fail
 go_ret
 exact ⟨rfl, w1, bv', hr1, hf1, rfl⟩
theorem writing_at (b wb g0 K : Nat) : NextAt (writing b wb g0 K) (fun st => st.1) := by
 intro o ho x size w hroom hx hs1 hs8
 obtain ⟨s, st⟩ := x
 obtain ⟨hl, hn, hI⟩ := hx
 have hroom' : 1 ≤ st.1 := hroom
 simp only at hl hn
 obtain ⟨h1, h2, h3, h4, h5, h6, h7, h8, h9, bv, hrow⟩ := hI
 simp only at h1
 have h2' : st.2.length + 8 * st.1 ≤ 1000000000000 := h2
 have hbS : ¬ (b = wb ∨ K ≤ b) := by omega
 have h0 : w.cell? ⟨b, 0, none⟩ = some (writerFn wb) := by rw [hl.facts.1, hn]; rfl
 have hu : w.cell? ⟨b, o, none⟩ = some (vI (s.get o)) := by rw [hl.cell, cells_get s o ho]
 refine (next_writes b wb g0 K st.2 bv ⟨b, o, none⟩ s.at' (s.get o) size w h0 hl.facts.2.1 (hl.frozen 1) hu hs8 hrow (by omega) hbS hl.lt).mono ?_
 rintro e w' ⟨rfl, w1, bv', hr1, hf1, rfl⟩
 have hfb : Fr (fun k => k = b) w1 (w1.setCell ⟨b, 1, none⟩ (vI (adv s.at' size))) := Fr.setCell (Fr.refl (fun k => k = b) w1) _ _ (Or.inl rfl)
 refine ⟨(hf1.mono (fun k _ hk => Or.inr hk)).trans (hfb.mono (fun k _ hk => Or.inl hk)), ?_⟩
 have hadv : adv s.at' size = s.at' + size := adv_small _ _ (by omega) (by omega) hs8
 have hl1 : Lies w1 b s := hl.fr hf1 hbS
 have hT1 : Tab w1 := h9.fr hf1 (by omega)
 have e : nextX (writing b wb g0 K) o size (s, st) = .ok ({ s with at' := adv s.at' size }, (st.1 - 1, st.2 ++ leBytes size (IntKind.u64.wrap (s.get o)).toNat)) := by
  unfold nextX
  simp only [writing]
  rw [if_neg (by omega)]
  simp only [set_get]
 rw [e]
 refine ⟨rfl, hl1.setCell 1 _ (cells_at _ _), hn, ?_, ?_, h3, h4, h5, h6, h7, h8, hT1.fr hfb (by omega), bv', hr1.fr hfb (fun e => h7 e.symm) h8 (fun k hk e => by omega)⟩
 ·show adv s.at' size = ((st.2 ++ leBytes size (IntKind.u64.wrap (s.get o)).toNat).length : Nat)
  rw [List.length_append, leBytes_length, hadv, h1]; simp
 ·show (st.2 ++ leBytes size (IntKind.u64.wrap (s.get o)).toNat).length + 8 * (st.1 - 1) ≤ 1000000000000
  rw [List.length_append, leBytes_length]; omega
theorem writing_goes (b wb g0 K : Nat) : RoomGoes (writing b wb g0 K) (fun st => st.1) := by
 intro o size x y h
 unfold nextX at h
 simp only [writing] at h
 split at h
 ·rename_i v st hv
  split at hv
  ·cases hv
  ·cases hv
   cases h
   show x.2.1 ≤ x.2.1 - 1 + 1
   omega
 ·cases h
theorem leaving_goes (b : Nat) : RoomGoes (leaving b) (fun _ => 1000) := fun _ _ _ _ _ => by show 1000 ≤ 1000 + 1; omega
set_option maxRecDepth 100000
set_option maxHeartbeats 1000000
theorem spareInts_any (v : Value) (l : List Int) (B : Nat) (w : World) (hl : WI w B v l) (hn : l.length ≤ 17592186043904) : Calls Tryd.prog 48 #[v] w fun e w' => e = .returned (.bool true) ∧ w' = w := by
 obtain ⟨g, rfl, -, hR⟩ := hl
 have HR : Hd (Rws w 3 1 g (l.length + 64) (fun i => [vI (wideI l i)])) := hR
 clear hR
 obtain ⟨n, hnl⟩ : ∃ n, n = l.length := ⟨_, rfl⟩
 have HN : Hd (n = l.length) := hnl
 rw [← hnl] at hn HR ⊢
 clear hnl
 have hn0 : (0 : Int) ≤ (n : Int) + 64 := by omega
 have hn1 : (n : Int) + 64 ≤ ((n + 64 : Nat) : Int) := by omega
 have ht : ((n : Int) + 64).toNat = n + 64 := by omega
 go_enter Tryd.func48, Tryd.ntmps48
 go_wp2_with fail
 go_loopw [4] (fun v wr => ∃ (k : Nat), v = .int .i64 k ∧ n ≤ k ∧ k ≤ n + 64 ∧ wr = w) (fun v _ => match v with | .int _ q => n + 64 - q.toNat | _ => 0)
 case atStart => exact ⟨n, rfl, Nat.le_refl _, by omega, rfl⟩
 case round =>
  obtain ⟨k, rfl, hk, hk2, rfl⟩ := hrel
  by_cases hlt : k < n + 64
  ·have hk0 : (0 : Int) ≤ k := by omega
   have hk1 : (k : Int) < (n : Int) + 64 := by omega
   have hk3 : (k : Int) < ((n + 64 : Nat) : Int) := by omega
   have p0 := HR.out.cell (i := k) (o := 0) hlt (by omega)
   rw [Nat.mul_one, Nat.add_zero] at p0
   have hx : wideI l k = -123456 := by unfold wideI; rw [if_neg (by have := HN.out; omega)]
   rw [hx] at p0
   have p1 : wr.cell? ⟨g, k, none⟩ = some (vI (-123456)) := p0
   clear p0
   go_wp2_with fail
   exact ⟨⟨k + 1, by simp, by omega, by omega, by trivial⟩, by simp; omega⟩
  ·have hke : k = n + 64 := by omega
   subst hke
   go_wp2_with fail
   go_ret
   exact ⟨rfl, rfl⟩
def IOwn (w : World) (B : Nat) (v : Value) (l : List Int) : Prop := w.ownsRow B 3 1 v l.length (l.map vI)
theorem ownsRow_frL {S : Nat → Prop} {w w' : World} {B e size n : Nat} {v : Value} {xs : List Value} (h : w.ownsRow B e size v n xs) (f : Fr S w w') (hS : ∀ g, v.ownBlock = some g → ¬ S g) : w'.ownsRow B e size v n xs := by
 refine ⟨h.1, ?_⟩
 rcases h.2 with h2 | ⟨g, cap, cur, rfl, h3, h4, h5⟩
 ·exact Or.inl h2
 ·exact Or.inr ⟨g, cap, cur, rfl, h3, by rw [f.block g ((Array.getElem?_eq_some_iff.1 h4).1) (hS g rfl)]; exact h4, h5⟩
theorem IOwn.fr {S : Nat → Prop} {w w' : World} {B : Nat} {v : Value} {l : List Int} (h : IOwn w B v l) (f : Fr S w w') (hS : ∀ k, v.ownBlock = some k → ¬ S k) : IOwn w' B v l := ownsRow_frL h f hS
theorem IOwn.ge {w : World} {B : Nat} {v : Value} {l : List Int} (h : IOwn w B v l) : ∀ k, v.ownBlock = some k → B ≤ k ∧ k < w.heap.size := World.ownsRow.lt h
theorem IOwn.mono {w : World} {B B' : Nat} {v : Value} {l : List Int} (h : IOwn w B v l) (hB : B' ≤ B) : IOwn w B' v l := World.ownsRow.mono h hB
theorem IOwn.ia {w : World} {B : Nat} {v : Value} {l : List Int} (h : IOwn w B v l) : IA w v l := by
 rcases h.2 with ⟨h2, h3⟩ | ⟨g, cap, cur, e, h3, h4, h5, h6, h7, h8⟩
 ·exact ⟨none, 0, by rw [h2, h3], fun hne => absurd (List.eq_nil_of_length_eq_zero h3) hne⟩
 ·refine ⟨_, cap, e, fun _ => ⟨g, 0, rfl, heap_lt h4, fun i hi => ?_⟩⟩
  rw [Nat.zero_add, cell_of h4]
  have : cur[i]? = (l.map vI)[i]? := by rw [← h8, List.getElem?_take, if_pos (by omega), Array.getElem?_toList]
  rw [this]
  simp [hi]
theorem grown_frL {w w' : World} {row : Option Nat} (h : w.grownBy w' row) : Fr (fun k => row = some k) w w' :=
 ⟨h.os, h.tape, h.output, h.size, fun k hk hS => h.block k hk (fun e => hS e.symm)⟩
theorem grow_fr0 {w wr w6 : World} {v : Value} (h : Fr (fun _ => False) w wr) (hg : wr.grownBy w6 v.ownBlock) (hb : ∀ k, v.ownBlock = some k → w.heap.size ≤ k) : Fr (fun _ => False) w w6 :=
 h.then (grown_frL hg) (fun j hj e => by have := hb j e; omega)
theorem copyInts_any (v : Value) (es : List Int) (w : World) (hE : IA w v es) (hel : es.length ≤ 17592186043904) : Calls Tryd.prog 82 #[v] w fun e w' => ∃ v', e = .returned v' ∧ IOwn w' w.heap.size v' es ∧ Fr (fun _ => False) w w' := by
 obtain ⟨ea, ec, rfl, hein⟩ := hE
 have HE : Hd _ := hein
 clear hein
 obtain ⟨i3, hi3, hz3, hs3, hb3⟩ := info_parts (P := Tryd.prog) (e := 3) (z := .int .i64 0) (size := 1) (bytes := 8) (by kernel_rfl)
 go_enter Tryd.func82, Tryd.ntmps82
 go_wp2_with fail
 go_loopw [3, 4] (fun mv v wr => ∃ (k : Nat), v = .int .i64 k ∧ k ≤ es.length ∧ Hd (IOwn wr w.heap.size mv (es.take k)) ∧ Hd (Fr (fun _ => False) w wr)) (fun _ v _ => match v with | .int _ q => es.length - q.toNat | _ => 0)
 case atStart => exact ⟨0, rfl, Nat.zero_le _, World.ownsRow_nil _ _ _ _, Fr.refl _ _⟩
 case round =>
  obtain ⟨k, rfl, hk, HO, HF⟩ := hrel
  by_cases hlt : k < es.length
  ·obtain ⟨pk, po, rfl, hpk, hcs⟩ := HE.out (by intro e; simp [e] at hlt)
   have d0 := hcs k hlt
   have p0 := (HF.out.cell (o := po + k) hpk (fun h => h)).trans d0
   clear hcs d0
   have HT : Hd (es.take (k + 1) = es.take k ++ [es[k]]) := by unfold Hd; rw [List.take_add_one, List.getElem?_eq_getElem hlt]; rfl
   have HTL : Hd ((es.take k).length = k) := by unfold Hd; rw [List.length_take]; omega
   obtain ⟨e, he⟩ : ∃ e, es[k] = e := ⟨_, rfl⟩
   rw [he] at p0 HT
   clear he
   obtain ⟨E, hE⟩ : ∃ E, E = es.take k := ⟨_, rfl⟩
   rw [← hE] at HO HT HTL
   clear hE
   have hk0 : (0 : Int) ≤ k := by omega
   have hk1 : (k : Int) < es.length := by omega
   have hsz := HF.out.size
   have HO1 : Hd ((wr.alloc (.cells #[vI e] 3)).ownsRow w.heap.size 3 1 u3 E.length (E.map vI)) := World.ownsRow.alloc HO.out _
   have hnews : ∀ j u, [vI e][j]? = some u → (wr.alloc (.cells #[vI e] 3)).cell? ((⟨wr.heap.size, 0, none⟩ : Addr).add j) = some u :=
    World.news_of_block (cs := #[vI e]) (heap_new wr (.cells #[vI e] 3))
   have hbase : w.heap.size ≤ (wr.alloc (.cells #[vI e] 3)).heap.size := by simp; omega
   have hEl : E.length + 1 ≤ 17592186043905 := by have := HTL.out; omega
   go_wp2_with ((at_builtin; refine Hd.out ?_))
   unfold Hd
   refine wpList_append_lies _ rfl (.tmp 11) (.tmp 16) 55 rfl w.heap.size 3 i3 (.int .i64 0) 1 8 under64 hi3 hz3 hs3 hb3 rfl (by omega) u3 E.length _ rfl HO1.out ⟨wr.heap.size, 0, none⟩ 1 1 [vI e] rfl rfl hnews (by intro u hu; simp at hu; subst hu; rfl) (by omega) (by unfold maxLen; omega) (by omega) hbase (wr.heap.size + 1) (by simp) ?_
   intro g6 cap6 w6 hown6 hgrow6 hat6 hlt6
   have HO6 : Hd (IOwn w6 w.heap.size (.slice (some ⟨g6, 0, none⟩) (E.length + 1) cap6) (E ++ [e])) := by unfold Hd IOwn; rw [List.map_append, List.length_append]; exact hown6
   have HF6 : Hd (Fr (fun _ => False) w w6) := grow_fr0 (HF.out.alloc _) hgrow6 (fun k hk => (HO.out.ge k hk).1)
   clear hown6 hgrow6 hat6 hlt6 HO HF HO1 hnews hbase p0
   go_wp2_with fail
   refine ⟨⟨k + 1, by simp, by omega, ?_, HF6.out⟩, by simp; omega⟩
   unfold Hd; rw [HT.out]; exact HO6.out
  ·have hke : k = es.length := by omega
   subst hke
   have HO2 : Hd (IOwn wr w.heap.size u3 es) := by have := HO.out; rw [List.take_length] at this; exact this
   clear HO
   go_wp2_with fail
   go_ret
   exact ⟨u3, rfl, HO2.out, HF.out⟩
theorem eqInts_same (v1 v2 : Value) (zs : List Int) (w : World) (h1 : IA w v1 zs) (h2 : IA w v2 zs) (hz : zs.length ≤ 17592186043904) :
 Calls Tryd.prog 81 #[v1, v2] w fun e w' => e = .returned (.bool true) ∧ Fr (fun _ => False) w w' := by
 obtain ⟨a1, c1, rfl, hc1⟩ := h1
 obtain ⟨a2, c2, rfl, hc2⟩ := h2
 have H1 : Hd _ := hc1
 have H2 : Hd _ := hc2
 clear hc1 hc2
 go_enter Tryd.func81, Tryd.ntmps81
 go_wp2_with fail
 go_loopw [5] (fun v wr => ∃ (k : Nat), v = .int .i64 k ∧ k ≤ zs.length ∧ Hd (Fr (fun _ => False) w wr)) (fun v _ => match v with | .int _ q => zs.length - q.toNat | _ => 0)
 case atStart => exact ⟨0, rfl, Nat.zero_le _, Fr.refl _ _⟩
 case round =>
  obtain ⟨k, rfl, hk, HF⟩ := hrel
  by_cases hlt : k < zs.length
  ·have hne : zs ≠ [] := by intro e; simp [e] at hlt
   obtain ⟨k1, o1, rfl, hk1, g1⟩ := H1.out hne
   obtain ⟨k2, o2, rfl, hk2, g2⟩ := H2.out hne
   have q1 := (HF.out.cell (o := o1 + k) hk1 (fun h => h)).trans (g1 k hlt)
   have q2 := (HF.out.cell (o := o2 + k) hk2 (fun h => h)).trans (g2 k hlt)
   generalize zs[k] = z at *
   have hk0 : (0 : Int) ≤ k := by omega
   have hk3 : (k : Int) < zs.length := by omega
   clear g1 g2
   go_wp2_with fail
   refine wp_region_still_tail 8 mixed (by kernel_rfl) ?_
   simp only [List.take_succ_cons, List.take_zero, List.drop_succ_cons, List.drop_zero]
   repeat still_step
   refine wpStill_nil ?_
   go_wp2_with fail
   exact ⟨⟨k + 1, by simp, by omega, HF.out.drew⟩, by simp; omega⟩
  ·have hke : k = zs.length := by omega
   subst hke
   go_wp2_with fail
   go_ret
   exact ⟨rfl, HF.out⟩
end Go.Proofs.YtingenonbkencabDoor
