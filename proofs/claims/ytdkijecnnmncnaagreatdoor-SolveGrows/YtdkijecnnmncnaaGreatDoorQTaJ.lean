import Derived.Test.YtdkijecnnmncnaaGreatDoorQSaJ
import Derived.Test.YtdkijecnnmncnaaGreatDoorQWA6J
import Derived.Test.YtdkijecnnmncnaaGreatDoorQLjJ
namespace Go.Proofs.YtdkijecnnmncnaaGreatDoor
open Go.RowKit (wrap32 wrap64)
set_option linter.unusedVariables false
set_option linter.unusedSimpArgs false
set_option maxRecDepth 100000
set_option maxHeartbeats 1000000
theorem fr_of {S : Nat → Prop} {w w' : World} (h : Wg.Fr S w w') : Fr S w w' := ⟨h.os, h.tape, h.output, h.size, h.block⟩
theorem fr_to {S : Nat → Prop} {w w' : World} (h : Fr S w w') : Wg.Fr S w w' := ⟨h.os, h.tape, h.output, h.size, h.block⟩
theorem reach_of {es : List Ed} {rs : List Int} {i d : Int} (h : Wg.Reach es rs i d) : Reach es rs i d := by
 induction h with
 | root hr => exact .root hr
 | step he _ ih => exact .step he ih
theorem least_of {n : Nat} {es : List Ed} {rs : List Int} {x : Nat → Int} (h : Wg.Least n es rs x) : Least n es rs x :=
 ⟨h.root, h.edge, fun i hi => (h.way i hi).imp id reach_of⟩
theorem right_to {n : Int} {es : List Ed} {rs : List Int} (h : RightG n es rs) : Wg.RightG n es rs := h
theorem stold_any (P R V : Int) (a : Option Addr) (cn cc : Nat) (ea : Option Addr) (en ec : Nat) (x : Nat → Int) (b n : Nat) (v : Int) (w : World) (hr : Wg.Row w 3 b n (fun i => vI (x i))) (k : Nat) (hk : varX R V v = k) (hkn : k < n) :
 Calls Tryz.prog 89 #[.agg #[vI P, vI R, vI V, .slice a cn cc, .slice ea en ec], .slice (some ⟨b, 0, none⟩) n n, vI v] w fun e w' => e = .returned (vI (max (x k) 0)) ∧ Fr (fun _ => False) w w' := by
 obtain ⟨wa, hwa⟩ : ∃ wa, wa = w.alloc (.cells #[vI P, vI R, vI V, .slice a cn cc, .slice ea en ec] 89) := ⟨_, rfl⟩
 have hb : wa.heap[w.heap.size]? = some (.cells #[vI P, vI R, vI V, .slice a cn cc, .slice ea en ec] 89) := by rw [hwa]; exact heap_new0 w _
 have HWA : Hd (wa = w.alloc (.cells #[vI P, vI R, vI V, .slice a cn cc, .slice ea en ec] 89)) := hwa
 obtain ⟨H, hH⟩ : ∃ H, H = w.heap.size := ⟨_, rfl⟩
 have HH : Hd (H = w.heap.size) := hH
 rw [← hH] at hb
 have c0 : wa.cell? ⟨H, 0, none⟩ = some (vI P) := by rw [cell_of0 hb]; rfl
 have c1 : wa.cell? ⟨H, 1, none⟩ = some (vI R) := by rw [cell_of0 hb]; rfl
 have c2 : wa.cell? ⟨H, 2, none⟩ = some (vI V) := by rw [cell_of0 hb]; rfl
 have c3 : wa.cell? ⟨H, 3, none⟩ = some (.slice a cn cc) := by rw [cell_of0 hb]; rfl
 have hFa : Fr (fun _ => False) w wa := by rw [hwa]; exact Fr.alloc (Fr.refl _ w) _
 have HFA : Hd (Fr (fun _ => False) w wa) := hFa
 have HR : Hd (Wg.Row w 3 b n (fun i => vI (x i))) := hr
 have hkn' : (0 : Int) ≤ k ∧ (k : Int) < n := by omega
 clear hwa hH hb hFa hr
 go_enter Tryz.func89, Tryz.ntmps89
 go_upto_region 1 with fail
 rw [← HWA.out, ← HH.out]
 clear HWA
 go_wp2_with fail
 refine (show Calls Tryz.prog 128 #[.agg #[vI P, vI R, vI V, .slice a cn cc], vI v] wa _ from variable_any P R V v a cn cc wa).mono ?_
 rintro e w1 ⟨rfl, hf1⟩
 rw [hk]
 have hF : Fr (fun _ => False) w w1 := HFA.out.trans hf1
 have hcell : w1.cell? ⟨b, k, none⟩ = some (vI (x k)) := (hF.cell HR.out.lt (fun e => e)).trans (HR.out.cell hkn)
 have HF : Hd (Fr (fun _ => False) w w1) := hF
 clear hF hf1 c0 c1 c2 c3
 go_wp2_with fail
 ·go_ret
  have e : max (x k) 0 = 0 := by omega
  rw [e]
  exact ⟨rfl, HF.out⟩
 ·go_ret
  have e : max (x k) 0 = x k := by omega
  rw [e]
  exact ⟨rfl, HF.out⟩
end Go.Proofs.YtdkijecnnmncnaaGreatDoor
namespace Go.Proofs.YtdkijecnnmncnaaGreatDoor
open Go.RowKit (wrap32 wrap64)
set_option linter.unusedVariables false
set_option linter.unusedSimpArgs false
set_option maxRecDepth 100000
set_option maxHeartbeats 2000000
theorem ints_stay {w w' : World} {v : Value} {zs : List Int} (h : Wg.IntsAt w.heap.size w v zs) (f : Fr (fun _ => False) w w') : Wg.IntsAt w'.heap.size w' v zs := by
 obtain ⟨a, c, e, hc, h⟩ := h
 refine ⟨a, c, e, hc, fun hne => ?_⟩
 obtain ⟨k, o, e', hk, hh⟩ := h hne
 exact ⟨k, o, e', Nat.lt_of_lt_of_le hk f.size, fun i hi => (f.cell hk (fun e => e)).trans (hh i hi)⟩
theorem edges_stay {w w' : World} {v : Value} {es : List Ed} (h : Wg.EdgesAt w.heap.size w v es) (f : Fr (fun _ => False) w w') : Wg.EdgesAt w'.heap.size w' v es := by
 obtain ⟨a, c, e, hc, h⟩ := h
 refine ⟨a, c, e, hc, fun hne => ?_⟩
 obtain ⟨k, o, e', hk, hh⟩ := h hne
 refine ⟨k, o, e', Nat.lt_of_lt_of_le hk f.size, fun i hi => ?_⟩
 obtain ⟨h1, h2, h3⟩ := hh i hi
 exact ⟨(f.cell hk (fun e => e)).trans h1, (f.cell hk (fun e => e)).trans h2, (f.cell hk (fun e => e)).trans h3⟩
def FlwE (n : Nat) (es : List Ed) (rs : List Int) (w : World) (e : Ending) (w' : World) : Prop :=
 Fr (fun _ => False) w w' ∧ ∃ b x, e = .returned (.slice (some ⟨b, 0, none⟩) n n) ∧ w.heap.size ≤ b ∧ Wg.Row w' 3 b n (fun i => vI (x i)) ∧ Least n es rs x
theorem flows_any (fs : List PF) (f : PF) (hf : FunR fs f) (a : Option Addr) (c : Nat) (ea : Option Addr) (ec : Nat) (es : List Ed) (ra : Option Addr) (rc : Nat) (rs : List Int) (w : World) (hC : CA w (.slice a f.code.length c) f.code) (hE : Wg.EdgesAt w.heap.size w (.slice ea es.length ec) es) (hR : Wg.IntsAt w.heap.size w (.slice ra rs.length rc) rs) (hG : RightG (locN f) es rs) (hel : es.length ≤ 11000000000000) (hrl : rs.length ≤ 100000000000000) :
 Calls Tryz.prog 88 #[.agg #[vI f.P, vI f.R, vI f.V, .slice a f.code.length c, .slice ea es.length ec], .slice ra rs.length rc] w (FlwE (locN f) es rs w) := by
 have hfl := floc_is hf
 have hlen := hf.len
 obtain ⟨wa, hwa⟩ : ∃ wa, wa = w.alloc (.cells #[vI f.P, vI f.R, vI f.V, .slice a f.code.length c, .slice ea es.length ec] 89) := ⟨_, rfl⟩
 have hb : wa.heap[w.heap.size]? = some (.cells #[vI f.P, vI f.R, vI f.V, .slice a f.code.length c, .slice ea es.length ec] 89) := by rw [hwa]; exact heap_new0 w _
 have HWA : Hd (wa = w.alloc (.cells #[vI f.P, vI f.R, vI f.V, .slice a f.code.length c, .slice ea es.length ec] 89)) := hwa
 obtain ⟨H, hH⟩ : ∃ H, H = w.heap.size := ⟨_, rfl⟩
 have HH : Hd (H = w.heap.size) := hH
 rw [← hH] at hb
 have HS : Hd (∀ wx, Fr (fun _ => False) wa wx → wx.cell? ⟨H, 0, none⟩ = some (vI f.P) ∧ wx.cell? ⟨H, 1, none⟩ = some (vI f.R) ∧ wx.cell? ⟨H, 2, none⟩ = some (vI f.V) ∧ wx.cell? ⟨H, 3, none⟩ = some (.slice a f.code.length c) ∧ wx.cell? ⟨H, 4, none⟩ = some (.slice ea es.length ec)) := fun wx hx => by
  have hb := (hx.block H (heap_lt0 hb) (fun e => e)).trans hb
  exact ⟨by rw [cell_of0 hb]; rfl, by rw [cell_of0 hb]; rfl, by rw [cell_of0 hb]; rfl, by rw [cell_of0 hb]; rfl, by rw [cell_of0 hb]; rfl⟩
 have hFa : Fr (fun _ => False) w wa := by rw [hwa]; exact Fr.alloc (Fr.refl _ w) _
 have HFA : Hd (Fr (fun _ => False) w wa) := hFa
 have HL : Hd (Calls Tryz.prog 127 #[.agg #[vI f.P, vI f.R, vI f.V, .slice a f.code.length c]] wa.drew fun e w' => e = .returned (vI (locN f : Nat)) ∧ Fr (fun _ => False) wa.drew w') := by
  have := locations_any f (.slice a f.code.length c) wa.drew (hC.stay (Fr.drew hFa)) (by omega)
  rw [hfl] at this
  exact this
 have HFR : Hd (∀ wx, Fr (fun _ => False) w wx → Calls Tryz.prog 126 #[vI (locN f : Nat), .slice ea es.length ec, .slice ra rs.length rc] wx fun e w' => Fr (fun _ => False) wx w' ∧ ∃ b x, e = .returned (.tuple #[.slice (some ⟨b, 0, none⟩) (locN f) (locN f), vI 0]) ∧ wx.heap.size ≤ b ∧ Wg.Row w' 3 b (locN f) (fun i => vI (x i)) ∧ Least (locN f) es rs x) := fun wx hx => by
  refine (Wg.from_any (locN f : Nat) _ _ es rs wx (edges_stay hE hx) (ints_stay hR hx) hel hrl).mono ?_
  rintro e w' ⟨h1, h2⟩
  refine ⟨fr_of h1, ?_⟩
  rcases h2 with ⟨hn, -⟩ | ⟨-, b, x, he, hb, hr, hl⟩
  ·exact absurd (right_to hG) hn
  ·exact ⟨b, x, he, hb, hr, least_of hl⟩
 obtain ⟨s0, s1, s2, s3, s4⟩ := HS.out wa (Fr.refl _ wa)
 generalize locN f = n at *
 clear hwa hH hb hFa hC hE hR hG hfl hf
 go_enter Tryz.func88, Tryz.ntmps88
 go_upto_region 1 with fail
 rw [← HWA.out, ← HH.out]
 clear HWA
 go_cut [5] (fun x5 wx => ∃ b x, x5 = .slice (some ⟨b, 0, none⟩) n n ∧ Hd (w.heap.size ≤ b ∧ Wg.Row wx 3 b n (fun i => vI (x i)) ∧ Least n es rs x ∧ Fr (fun _ => False) w wx))
 case first =>
  go_region_with ((
   first
    |(go_at_call 127
      refine HL.out.mono ?_
      rintro e w3 ⟨rfl, hF3⟩
      have HF3 : Hd (Fr (fun _ => False) w w3) := (Fr.drew HFA.out).trans hF3
      obtain ⟨s0, s1, s2, s3, s4⟩ := HS.out w3 ((Fr.drew (Fr.refl _ wa)).trans hF3)
      clear hF3)
    |(go_at_call 126
      refine (HFR.out w3 HF3.out).mono ?_
      rintro e w4 ⟨hF4, b, x, rfl, h4⟩
      have H4 : Hd (w.heap.size ≤ b ∧ Wg.Row w4 3 b n (fun i => vI (x i)) ∧ Least n es rs x ∧ Fr (fun _ => False) w w4) := ⟨Nat.le_trans HF3.out.size h4.1, h4.2.1, h4.2.2, HF3.out.trans hF4⟩
      clear hF4 h4)))
  all_goals
   go_wp2_with fail
   go_meet
   exact ⟨_, _, rfl, H4.out⟩
 case rest =>
  obtain ⟨b, x, rfl, h4⟩ := hcut
  go_wp2_with fail
  go_ret
  exact ⟨h4.2.2.2, b, x, rfl, h4.1, h4.2.1, h4.2.2.1⟩
end Go.Proofs.YtdkijecnnmncnaaGreatDoor
namespace Go.Proofs.YtdkijecnnmncnaaGreatDoor
open Go.RowKit (wrap32 wrap64)
set_option linter.unusedVariables false
set_option linter.unusedSimpArgs false
set_option maxRecDepth 100000
set_option maxHeartbeats 1000000
theorem nones_any (n : Nat) (hn : n ≤ 8) (w : World) :
 Calls Tryz.prog 75 #[vI n] w fun e w' => ∃ g, e = .returned (.slice (some ⟨g, 0, none⟩) n n) ∧ w.heap.size ≤ g ∧ w'.heap[g]? = some (.cells (List.replicate n (vI 9)).toArray 3) ∧ Fr (fun _ => False) w w' := by
 have HF : Hd (Fr (fun _ => False) w (w.alloc (.cells #[vI 9] 3))) := Fr.alloc (Fr.refl _ w) _
 have hx : (w.alloc (.cells #[vI 9] 3)).cell? ⟨w.heap.size, 0, none⟩ = some (vI 9) := by rw [cell_of (heap_new w _)]; rfl
 have HX : Hd _ := hx
 clear hx
 go_enter Tryz.func75, Tryz.ntmps75
 go_wp2_with fail
 refine (show Calls Tryz.prog 119 #[.slice (some ⟨w.heap.size, 0, none⟩) 1 1, .int .i64 n] (w.alloc (.cells #[vI 9] 3)) _ from Wg.repeat_nine w.heap.size n (by omega) _ HX.out).mono ?_
 rintro e w1 ⟨rfl, hg, hF1⟩
 have hF1 := fr_of hF1
 have HG : Hd (w1.heap[w.heap.size + 1]? = some (.cells (List.replicate n (vI 9)).toArray 3)) := by unfold Hd; simpa using hg
 have HF1 : Hd (Fr (fun _ => False) w w1) := HF.out.trans hF1
 clear hg hF1
 go_wp2_with fail
 go_ret
 exact ⟨_, rfl, Nat.le_succ _, HG.out, HF1.out⟩
end Go.Proofs.YtdkijecnnmncnaaGreatDoor
