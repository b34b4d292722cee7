import Derived.Test.YtdkijecnnmncnaaGreatDoorQD1J
import Derived.StillTail
import Derived.StillTailTactics
import Derived.BigQuiet
namespace Go.Proofs.YtdkijecnnmncnaaGreatDoor
open Go.RowKit (wrap32 wrap64)
set_option linter.unusedVariables false
set_option linter.unusedSimpArgs false
set_option maxRecDepth 100000
set_option maxHeartbeats 2000000
structure PS where
 H : List Int
 R : List (List Int)
def derOk (d : Int) : Bool := d == 9 || (decide (0 ≤ d) && decide (d ≤ 3))
def dersX (l : List Int) (n : Int) : Bool := decide ((l.length : Int) = n) && l.all derOk
def fitsX (s : PS) (P R : Int) : Bool := decide ((s.R.length : Int) = P) && (dersX s.H P && s.R.all (fun l => dersX l R))
def LA (w : World) (v : Value) (ls : List (List Int)) : Prop :=
 ∃ a c, v = .slice a ls.length c ∧ (ls ≠ [] → ∃ k o, a = some ⟨k, o, none⟩ ∧ k < w.heap.size ∧ ∀ j (h : j < ls.length), ∃ x, w.cell? ⟨k, o + j, none⟩ = some x ∧ IA w x ls[j])
theorem LA.stay {w w' : World} {v : Value} {ls : List (List Int)} (h : LA w v ls) (f : Fr (fun _ => False) w w') : LA w' v ls := by
 obtain ⟨a, c, rfl, h⟩ := h
 refine ⟨a, c, rfl, fun hne => ?_⟩
 obtain ⟨k, o, rfl, hk, hc⟩ := h hne
 refine ⟨k, o, rfl, Nat.lt_of_lt_of_le hk f.size, fun j hj => ?_⟩
 obtain ⟨x, h1, h2⟩ := hc j hj
 exact ⟨x, (f.cell hk (fun h => h)).trans h1, h2.stay f⟩
theorem all_take_succ {α : Type} (l : List α) (p : α → Bool) (k : Nat) (h : k < l.length) : (l.take (k + 1)).all p = ((l.take k).all p && p l[k]) := by
 rw [List.take_succ_eq_append_getElem h, List.all_append]
 simp
theorem all_bad {α : Type} {l : List α} {p : α → Bool} {k : Nat} (h : k < l.length) (hp : p l[k] = false) : l.all p = false := by
 apply List.all_eq_false.2
 exact ⟨l[k], List.getElem_mem h, by simp [hp]⟩
theorem derefs_any (v : Value) (l : List Int) (n : Int) (w : World) (h : IA w v l) (hl : l.length ≤ 17592186043904) :
 Calls Tryz.prog 153 #[v, vI n] w fun e w' => e = .returned (.bool (dersX l n)) ∧ w' = w := by
 obtain ⟨a, c, rfl, hc⟩ := h
 have HC : Hd (l ≠ [] → ∃ k o, a = some ⟨k, o, none⟩ ∧ k < w.heap.size ∧ ∀ j (h : j < l.length), w.cell? ⟨k, o + j, none⟩ = some (vI l[j])) := hc
 clear hc
 go_enter Tryz.func153, Tryz.ntmps153
 by_cases hn : (l.length : Int) = n
 ·have hd1 : ((l.length : Int) != n) = false := by simp [hn]
  have hd2 : ((l.length : Int) == n) = true := by simp [hn]
  have HX : Hd (dersX l n = l.all derOk) := by unfold Hd dersX; rw [decide_eq_true hn]; rfl
  subst hn
  go_wp2_with fail
  go_loopw [13] (fun v wr => ∃ (k : Nat), v = .int .i64 k ∧ k ≤ l.length ∧ wr = w ∧ Hd ((l.take k).all derOk = true)) (fun v _ => match v with | .int _ q => l.length - q.toNat | _ => 0)
  case atStart => exact ⟨0, rfl, by omega, rfl, rfl⟩
  case round =>
   obtain ⟨k, rfl, hk, rfl, HA⟩ := hrel
   by_cases hlt : k < l.length
   ·obtain ⟨g, o, rfl, hg, hcs⟩ := HC.out (by intro e; rw [e] at hlt; simp at hlt)
    have hck := hcs k hlt
    have HS := all_take_succ l derOk k hlt
    have HB : Hd (derOk l[k] = false → l.all derOk = false) := fun e => all_bad hlt e
    have hk0 : (0 : Int) ≤ k := by omega
    have hk1 : (k : Int) < l.length := by omega
    clear hcs
    generalize l[k] = d at *
    by_cases h9 : d = 9
    ·have e1 : (d != 9) = false := by simp [h9]
     have e2 : (d == 9) = true := by simp [h9]
     have HN : Hd ((l.take (k + 1)).all derOk = true) := by unfold Hd; rw [HS, HA.out]; simp [derOk, h9]
     clear HS HB h9
     go_wp2_with fail
     exact ⟨⟨k + 1, by simp, by omega, by trivial, HN⟩, by simp; omega⟩
    ·have e1 : (d != 9) = true := by simp [h9]
     have e2 : (d == 9) = false := by simp [h9]
     by_cases h0 : d < 0
     ·have e3 : decide (d < 0) = true := by simp [h0]
      have HN : Hd (l.all derOk = false) := HB.out (by simp [derOk, h9]; omega)
      clear HS HB
      go_wp2_with fail
      go_ret
      rw [HX.out, HN.out]
      exact ⟨rfl, rfl⟩
     ·have e3 : decide (d < 0) = false := by simp; omega
      by_cases h3 : d > 3
      ·have e4 : decide (d > 3) = true := by simp; omega
       have e5 : decide (3 < d) = true := by simp; omega
       have HN : Hd (l.all derOk = false) := HB.out (by simp [derOk, h9]; omega)
       clear HS HB
       go_wp2_with fail
       go_ret
       rw [HX.out, HN.out]
       exact ⟨rfl, rfl⟩
      ·have e4 : decide (d > 3) = false := by simp; omega
       have e5 : decide (3 < d) = false := by simp; omega
       have HN : Hd ((l.take (k + 1)).all derOk = true) := by unfold Hd; rw [HS, HA.out]; simp [derOk]; right; omega
       clear HS HB
       go_wp2_with fail
       exact ⟨⟨k + 1, by simp, by omega, by trivial, HN⟩, by simp; omega⟩
   ·have hke : k = l.length := by omega
    subst hke
    go_wp2_with fail
    go_ret
    have := HA.out
    rw [List.take_of_length_le (Nat.le_refl _)] at this
    rw [HX.out, this]
    exact ⟨rfl, rfl⟩
 ·have hd1 : ((l.length : Int) != n) = true := by simp [hn]
  have hd2 : ((l.length : Int) == n) = false := by simp [hn]
  have HX : Hd (dersX l n = false) := by unfold Hd dersX; rw [decide_eq_false hn]; rfl
  go_wp2_with fail
  go_ret
  rw [HX.out]
  exact ⟨rfl, rfl⟩
theorem fits_any (hv rv : Value) (s : PS) (P R V : Int) (ca : Option Addr) (cn cc : Nat) (w : World) (h1 : IA w hv s.H) (h2 : LA w rv s.R) (b1 : s.H.length ≤ 17592186043904) (b2 : s.R.length ≤ 17592186043904) (b3 : ∀ l ∈ s.R, l.length ≤ 17592186043904) :
 Calls Tryz.prog 123 #[.agg #[hv, rv], .agg #[vI P, vI R, vI V, .slice ca cn cc]] w fun e w' => e = .returned (.bool (fitsX s P R)) ∧ Fr (fun _ => False) w w' := by
 obtain ⟨W, hW⟩ : ∃ W, W = (w.alloc (.cells #[hv, rv] 33)).alloc (.cells #[vI P, vI R, vI V, .slice ca cn cc] 45) := ⟨_, rfl⟩
 have HW : Hd (W = (w.alloc (.cells #[hv, rv] 33)).alloc (.cells #[vI P, vI R, vI V, .slice ca cn cc] 45)) := hW
 have hF : Fr (fun _ => False) w W := by rw [hW]; exact Fr.alloc (Fr.alloc (Fr.refl _ w) _) _
 have k1 : W.heap[w.heap.size]? = some (.cells #[hv, rv] 33) := by
  rw [hW, Go.RowKit.Below.heap_alloc _ _ _ (by simp)]; exact heap_new w _
 have k2 : W.heap[w.heap.size + 1]? = some (.cells #[vI P, vI R, vI V, .slice ca cn cc] 45) := by
  have := heap_new (w.alloc (.cells #[hv, rv] 33)) (.cells #[vI P, vI R, vI V, .slice ca cn cc] 45)
  rw [World.size_alloc] at this
  rw [hW]; exact this
 obtain ⟨X, hX⟩ : ∃ X, X = w.heap.size := ⟨_, rfl⟩
 have HX : Hd (X = w.heap.size) := hX
 rw [← hX] at k1 k2
 have H1 : Hd (IA W hv s.H) := h1.stay hF
 have H2 : Hd (LA W rv s.R) := h2.stay hF
 have HF : Hd (Fr (fun _ => False) w W) := hF
 have HB3 : Hd (∀ l ∈ s.R, l.length ≤ 17592186043904) := b3
 obtain ⟨ha, hc, ehv, -⟩ := h1
 obtain ⟨la, lc, erv, -⟩ := h2
 subst ehv erv
 have c0 : W.cell? ⟨X, 0, none⟩ = some (.slice ha s.H.length hc) := by rw [cell_of k1]; rfl
 have c1 : W.cell? ⟨X, 1, none⟩ = some (.slice la s.R.length lc) := by rw [cell_of k1]; rfl
 have d0 : W.cell? ⟨X + 1, 0, none⟩ = some (vI P) := by rw [cell_of k2]; rfl
 have d1 : W.cell? ⟨X + 1, 1, none⟩ = some (vI R) := by rw [cell_of k2]; rfl
 clear hW hF k1 k2 hX b3
 go_enter Tryz.func123, Tryz.ntmps123
 go_upto_region 1 with fail
 rw [← HW.out, ← HX.out]
 clear HW HX
 by_cases hn : (s.R.length : Int) = P
 ·have hd1 : ((s.R.length : Int) != P) = false := by simp [hn]
  have hd2 : ((s.R.length : Int) == P) = true := by simp [hn]
  have HFX : Hd (fitsX s P R = (dersX s.H P && s.R.all (fun l => dersX l R))) := by unfold Hd fitsX; rw [decide_eq_true hn]; rfl
  clear hn
  go_wp2_with fail
  refine (derefs_any _ s.H P W H1.out b1).mono ?_
  rintro _ w1 ⟨rfl, rfl⟩
  cases hb : dersX s.H P with
  | false =>
    rw [hb] at HFX
    go_wp2_with fail
    go_ret
    exact ⟨by rw [HFX.out]; rfl, HF.out⟩
  | true =>
    rw [hb] at HFX
    clear hb
    go_wp2_with fail
    go_loopw [24] (fun v wr => ∃ (k : Nat), v = .int .i64 k ∧ k ≤ s.R.length ∧ wr = w1 ∧ Hd ((s.R.take k).all (fun l => dersX l R) = true)) (fun v _ => match v with | .int _ q => s.R.length - q.toNat | _ => 0)
    case atStart => exact ⟨0, rfl, by omega, rfl, rfl⟩
    case round =>
     obtain ⟨k, rfl, hk, rfl, HA⟩ := hrel
     by_cases hlt : k < s.R.length
     ·obtain ⟨a', c', e', hcs⟩ := H2.out
      cases e'
      obtain ⟨g, o, rfl, hg, hcs⟩ := hcs (by intro e; rw [e] at hlt; simp at hlt)
      obtain ⟨x, hck, hix⟩ := hcs k hlt
      have HS := all_take_succ s.R (fun l => dersX l R) k hlt
      have HB : Hd (dersX s.R[k] R = false → s.R.all (fun l => dersX l R) = false) := fun e => all_bad (p := fun l => dersX l R) hlt e
      have hlk := HB3.out s.R[k] (List.getElem_mem hlt)
      have hk0 : (0 : Int) ≤ k := by omega
      have hk1 : (k : Int) < s.R.length := by omega
      clear hcs
      generalize s.R[k] = l at *
      have HIX : Hd (IA wr x l) := hix
      obtain ⟨xa, xc, ex, -⟩ := hix
      subst ex
      go_wp2_with fail
      refine (derefs_any _ l R wr HIX.out hlk).mono ?_
      rintro _ w2 ⟨rfl, rfl⟩
      cases hb : dersX l R with
      | false =>
        have HN : Hd (s.R.all (fun l => dersX l R) = false) := HB.out hb
        clear HS HB hb
        go_wp2_with fail
        go_ret
        exact ⟨by rw [HFX.out, HN.out]; rfl, HF.out⟩
      | true =>
        have HN : Hd ((s.R.take (k + 1)).all (fun l => dersX l R) = true) := by unfold Hd; rw [HS, HA.out]; simp [hb]
        clear HS HB hb
        go_wp2_with fail
        exact ⟨⟨k + 1, by simp, by omega, by trivial, HN⟩, by simp; omega⟩
     ·have hke : k = s.R.length := by omega
      subst hke
      go_wp2_with fail
      go_ret
      have := HA.out
      rw [List.take_of_length_le (Nat.le_refl _)] at this
      exact ⟨by rw [HFX.out, this]; rfl, HF.out⟩
 ·have hd1 : ((s.R.length : Int) != P) = true := by simp [hn]
  have hd2 : ((s.R.length : Int) == P) = false := by simp [hn]
  have HFX : Hd (fitsX s P R = false) := by unfold Hd fitsX; rw [decide_eq_false hn]; rfl
  go_wp2_with fail
  go_ret
  exact ⟨by rw [HFX.out]; rfl, HF.out⟩
end Go.Proofs.YtdkijecnnmncnaaGreatDoor
namespace Go.Proofs.YtdkijecnnmncnaaGreatDoor
open Go.RowKit (wrap32 wrap64)
set_option linter.unusedVariables false
set_option linter.unusedSimpArgs false
set_option maxRecDepth 100000
set_option maxHeartbeats 4000000
def SsA (w : World) (v : Value) (ss : List PS) : Prop :=
 ∃ a c, v = .slice a ss.length c ∧ (ss ≠ [] → ∃ k o, a = some ⟨k, o, none⟩ ∧ k < w.heap.size ∧ ∀ j (h : j < ss.length), ∃ hv rv, w.cell? ⟨k, o + j * 2, none⟩ = some hv ∧ w.cell? ⟨k, o + j * 2 + 1, none⟩ = some rv ∧ IA w hv ss[j].H ∧ LA w rv ss[j].R)
theorem SsA.stay {w w' : World} {v : Value} {ss : List PS} (h : SsA w v ss) (f : Fr (fun _ => False) w w') : SsA w' v ss := by
 obtain ⟨a, c, rfl, h⟩ := h
 refine ⟨a, c, rfl, fun hne => ?_⟩
 obtain ⟨k, o, rfl, hk, hc⟩ := h hne
 refine ⟨k, o, rfl, Nat.lt_of_lt_of_le hk f.size, fun j hj => ?_⟩
 obtain ⟨x, y, h1, h2, h3, h4⟩ := hc j hj
 exact ⟨x, y, (f.cell hk (fun h => h)).trans h1, (f.cell hk (fun h => h)).trans h2, h3.stay f, h4.stay f⟩
def FineS (ss : List PS) : Prop := ss.length ≤ 2932031007317 ∧ ∀ s ∈ ss, s.H.length ≤ 17592186043904 ∧ s.R.length ≤ 5864062014634 ∧ ∀ l ∈ s.R, l.length ≤ 17592186043904
def fitI (fs : List PF) (ss : List PS) (x : PI) : Bool := if x.op = 11 then fitsX (ss.getD x.n.toNat ⟨[], []⟩) (fs.getD x.n.toNat ⟨0, 0, 0, []⟩).P (fs.getD x.n.toNat ⟨0, 0, 0, []⟩).R else true
def toldX (fs : List PF) (ss : List PS) (c : List PI) : Bool := c.all (fitI fs ss)
theorem told_any (G : Int) (fv sv : Value) (fs : List PF) (ss : List PS) (i : Nat) (hi : i < fs.length) (w : World) (h1 : FA w fv fs) (h2 : SsA w sv ss) (hls : ss.length = fs.length) (b1 : FineP fs) (b2 : FineS ss)
 (hcall : ∀ c ∈ fs[i].code, c.op = 11 → 0 ≤ c.n ∧ c.n < fs.length) :
 Calls Tryz.prog 86 #[.agg #[vI G, fv], vI (i : Int), sv] w fun e w' => e = .returned (.bool (toldX fs ss fs[i].code)) ∧ Fr (fun _ => False) w w' := by
 obtain ⟨W, hW⟩ : ∃ W, W = w.alloc (.cells #[vI G, fv] 24) := ⟨_, rfl⟩
 have HW : Hd (W = w.alloc (.cells #[vI G, fv] 24)) := hW
 have hF : Fr (fun _ => False) w W := by rw [hW]; exact Fr.alloc (Fr.refl _ w) _
 have k1 : W.heap[w.heap.size]? = some (.cells #[vI G, fv] 24) := by rw [hW]; exact heap_new w _
 obtain ⟨X, hX⟩ : ∃ X, X = w.heap.size := ⟨_, rfl⟩
 have HX : Hd (X = w.heap.size) := hX
 rw [← hX] at k1
 have K1 : Hd (W.heap[X]? = some (.cells #[vI G, fv] 24)) := k1
 have H1 : Hd (FA W fv fs) := h1.stay hF
 have H2 : Hd (SsA W sv ss) := h2.stay hF
 have HF : Hd (Fr (fun _ => False) w W) := hF
 have HBP : Hd (FineP fs) := b1
 have HBS : Hd (FineS ss) := b2
 have HLS : Hd (ss.length = fs.length) := hls
 clear hls
 have HCL : Hd (∀ c ∈ fs[i].code, c.op = 11 → 0 ≤ c.n ∧ c.n < fs.length) := hcall
 obtain ⟨fa, fc, efv, hfs⟩ := h1.stay hF
 obtain ⟨fk, fo, efa, hfk, hfc⟩ := hfs (by intro e; rw [e] at hi; simp at hi)
 obtain ⟨cv, f0, f1, f2, f3, hcv⟩ := hfc i hi
 obtain ⟨sa, sc, esv, -⟩ := h2
 subst efa efv esv
 have HCV : Hd (CA W cv fs[i].code) := hcv
 obtain ⟨ca, cc, ecv, -⟩ := hcv
 subst ecv
 have hi0 : (0 : Int) ≤ i := by omega
 have hi1 : (i : Int) < fs.length := by omega
 have d0 : W.cell? ⟨X, 0, none⟩ = some (vI G) := by rw [cell_of k1]; rfl
 have d1 : W.cell? ⟨X, 1, none⟩ = some (.slice (some ⟨fk, fo, none⟩) fs.length fc) := by rw [cell_of k1]; rfl
 have hm : fs[i].code.length ≤ 1599289640354 := (b1.2 fs[i] (List.getElem_mem hi)).1
 have HFI : Hd (∀ c ∈ fs[i].code, c.args.length ≤ 17592186043904 ∧ c.rets.length ≤ 17592186043904) := (b1.2 fs[i] (List.getElem_mem hi)).2
 clear hW hF k1 hX hfs hfc h1 b1 b2 hcall f0 f1 f2
 generalize fs[i].code = cs at *
 go_enter Tryz.func86, Tryz.ntmps86
 go_upto_region 1 with fail
 rw [← HW.out, ← HX.out]
 clear HW HX
 go_wp2_with fail
 clear d0 d1 f3
 go_loopw [16] (fun v wr => ∃ (k : Nat), v = .int .i64 k ∧ k ≤ cs.length ∧ Hd (Fr (fun _ => False) W wr) ∧ Hd ((cs.take k).all (fitI fs ss) = true)) (fun v _ => match v with | .int _ q => cs.length - q.toNat | _ => 0)
 case atStart => exact ⟨0, rfl, by omega, Fr.refl _ _, rfl⟩
 case round =>
  obtain ⟨k, rfl, hk, HFr, HA⟩ := hrel
  by_cases hlt : k < cs.length
  ·obtain ⟨a', c', e', hcs⟩ := HCV.out.stay HFr.out
   cases e'
   obtain ⟨g, o, rfl, hg, hcs⟩ := hcs (by intro e; rw [e] at hlt; simp at hlt)
   obtain ⟨av, rv, c0, c1, c2, c3, c4, c5, c6, ha, hr⟩ := hcs k hlt
   obtain ⟨aa, ac, rfl, -⟩ := ha
   obtain ⟨ra, rc, rfl, -⟩ := hr
   have HS := all_take_succ cs (fitI fs ss) k hlt
   have HB : Hd (fitI fs ss cs[k] = false → cs.all (fitI fs ss) = false) := fun e => all_bad (p := fitI fs ss) hlt e
   have HN := HCL.out cs[k] (List.getElem_mem hlt)
   have hk0 : (0 : Int) ≤ k := by omega
   have hk1 : (k : Int) < cs.length := by omega
   clear hcs
   generalize cs[k] = x at *
   obtain ⟨V, hV⟩ : ∃ V, V = wr.alloc (.cells #[vI x.op, vI x.r, vI x.s, vI x.t, vI x.n, .slice aa x.args.length ac, .slice ra x.rets.length rc] 79) := ⟨_, rfl⟩
   have HV : Hd (V = wr.alloc (.cells #[vI x.op, vI x.r, vI x.s, vI x.t, vI x.n, .slice aa x.args.length ac, .slice ra x.rets.length rc] 79)) := hV
   have hFV : Fr (fun _ => False) wr V := by rw [hV]; exact Fr.alloc (Fr.refl _ wr) _
   have v1 : V.heap[wr.heap.size]? = some (.cells #[vI x.op, vI x.r, vI x.s, vI x.t, vI x.n, .slice aa x.args.length ac, .slice ra x.rets.length rc] 79) := by rw [hV]; exact heap_new wr _
   obtain ⟨Y, hY⟩ : ∃ Y, Y = wr.heap.size := ⟨_, rfl⟩
   have HY : Hd (Y = wr.heap.size) := hY
   rw [← hY] at v1
   have HFV : Hd (Fr (fun _ => False) W V) := HFr.out.trans hFV
   have y0 : V.cell? ⟨Y, 0, none⟩ = some (vI x.op) := by rw [cell_of v1]; rfl
   have y4 : V.cell? ⟨Y, 4, none⟩ = some (vI x.n) := by rw [cell_of v1]; rfl
   clear hV hFV v1 hY
   go_upto_region 4 with fail
   rw [← HV.out, ← HY.out]
   clear HV HY c0 c1 c2 c3 c4 c5 c6
   by_cases h11 : x.op = 11
   ·obtain ⟨q, hq⟩ : ∃ q : Nat, x.n = q := ⟨x.n.toNat, by have := HN h11; omega⟩
    have hqf : q < fs.length := by have := HN h11; omega
    have hqs : q < ss.length := by have := HLS.out; omega
    have hfit : fitI fs ss x = fitsX ss[q] fs[q].P fs[q].R := by
     unfold fitI
     rw [if_pos h11, hq]
     simp [hqf, hqs]
    obtain ⟨a', c', e', hss⟩ := H2.out.stay HFV.out
    cases e'
    obtain ⟨sk, so, rfl, hsk, hss⟩ := hss (by intro e; rw [e] at hqs; simp at hqs)
    obtain ⟨hv, rv, s0, s1, hH, hR⟩ := hss q hqs
    obtain ⟨a', c', e', hff⟩ := H1.out.stay HFV.out
    cases e'
    obtain ⟨fk', fo', e', hfk', hff⟩ := hff (by intro e; rw [e] at hqf; simp at hqf)
    cases e'
    obtain ⟨cv, f0, f1, f2, f3, hcv⟩ := hff q hqf
    obtain ⟨na, nc, rfl, -⟩ := hcv
    have d1 : V.cell? ⟨X, 1, none⟩ = some (.slice (some ⟨fk, fo, none⟩) fs.length fc) := by rw [HFV.out.cell (heap_lt K1.out) (fun h => h), cell_of K1.out]; rfl
    obtain ⟨bs1, bs2, bs3⟩ := HBS.out.2 ss[q] (List.getElem_mem hqs)
    have hct := fits_any hv rv ss[q] fs[q].P fs[q].R fs[q].V na fs[q].code.length nc V.drew (hH.stay (Fr.refl (fun _ => False) V).drew) (hR.stay (Fr.refl (fun _ => False) V).drew) bs1 (by omega) bs3
    obtain ⟨ha, hc, rfl, -⟩ := hH
    obtain ⟨la, lc, rfl, -⟩ := hR
    rw [h11] at y0
    rw [hq] at y4
    have hq0 : (0 : Int) ≤ q := by omega
    have hq1 : (q : Int) < fs.length := by omega
    have hq2 : (q : Int) < ss.length := by omega
    clear hss hff HN
    generalize hfx : fitsX ss[q] fs[q].P fs[q].R = fx at *
    generalize fs[q] = fq at *
    generalize ss[q] = sq at *
    refine wp_region_still_tail 15 mixed (by kernel_rfl) ?_
    simp only [List.take_succ_cons, List.take_zero, List.drop_succ_cons, List.drop_zero]
    repeat still_step
    refine wpStill_nil ?_
    go_wp2_with fail
    refine hct.mono ?_
    rintro _ w6 ⟨rfl, hF6⟩
    have HF6 : Hd (Fr (fun _ => False) W w6) := HFV.out.trans (((Fr.refl (fun _ => False) V).drew).trans hF6)
    clear hct hF6 y0 y4 s0 s1 f0 f1 f2 f3 d1
    cases fx with
    | true =>
      have HT : Hd ((cs.take (k + 1)).all (fitI fs ss) = true) := by unfold Hd; rw [HS, HA.out, hfit]; rfl
      clear HS HB hfit hfx
      go_wp2_with fail
      exact ⟨⟨k + 1, by simp, by omega, HF6, HT⟩, by simp; omega⟩
    | false =>
      have HT : Hd (cs.all (fitI fs ss) = false) := HB.out hfit
      clear HS HB hfit hfx
      go_wp2_with fail
      go_ret
      exact ⟨by unfold toldX; rw [HT.out]; rfl, HF.out.trans HF6.out⟩
   ·have e1 : (x.op == 11) = false := by simpa using h11
    have HT : Hd ((cs.take (k + 1)).all (fitI fs ss) = true) := by unfold Hd; rw [HS, HA.out]; unfold fitI; rw [if_neg h11]; rfl
    clear HS HB HN
    go_quiet (fail)
    go_wp2_with fail
    exact ⟨⟨k + 1, by simp, by omega, ⟨HFV.out.os, HFV.out.tape, HFV.out.output, HFV.out.size, HFV.out.block⟩, HT⟩, by simp; omega⟩
  ·have hke : k = cs.length := by omega
   subst hke
   go_wp2_with fail
   go_ret
   have := HA.out
   rw [List.take_of_length_le (Nat.le_refl _)] at this
   exact ⟨by unfold toldX; rw [this]; rfl, HF.out.trans HFr.out⟩
end Go.Proofs.YtdkijecnnmncnaaGreatDoor
