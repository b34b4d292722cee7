import Derived.Test.YtcjfmfddkhpfnabQFa
namespace Go.Proofs.Ytcjfmfddkhpfnab
open Go.RowKit (wrap32 wrap64)
set_option linter.unusedVariables false
set_option linter.unusedSimpArgs false

theorem own_isE {w : World} {B : Nat} {v : Value} {zs : List Ed} (h : OwnE w B v zs) {n : Nat} (hn : zs.length = n) (hz : 0 < n) : ∃ g c, v = .slice (some ⟨g, 0, none⟩) n c ∧ n ≤ c := by
  subst hn
  rcases h.2 with ⟨h2, h3⟩ | ⟨g, cap', cur, e, h3, h4, h5, -⟩
  · omega
  · exact ⟨g, cap', e, h5⟩
theorem own_isI {w : World} {B : Nat} {v : Value} {zs : List Int} (h : OwnI w B v zs) {n : Nat} (hn : zs.length = n) (hz : 0 < n) : ∃ g c, v = .slice (some ⟨g, 0, none⟩) n c ∧ n ≤ c := by
  subst hn
  rcases h.2 with ⟨h2, h3⟩ | ⟨g, cap', cur, e, h3, h4, h5, -⟩
  · omega
  · exact ⟨g, cap', e, h5⟩

theorem Hv.efront {w0 w : World} {wb N : Nat} {sm : Int} {H gb : Nat} {l : Int} {ev rv : Value} {es : List Ed} {rs : List Int} {eb ec rb rc : Nat} {L M : List (Value × List Int)} (h : Hv w0 wb N sm H gb l ev rv es rs eb ec rb rc L M w) {n : Nat} (hn : es.length = n) : EdgesAt w.heap.size w (.slice (some ⟨eb, 0, none⟩) n ec) es := by
  subst hn
  obtain ⟨g, e, k⟩ := h.E.front (by simp [mkE, List.range, List.range.loop])
  cases e
  exact k.at
theorem Hv.rfront {w0 w : World} {wb N : Nat} {sm : Int} {H gb : Nat} {l : Int} {ev rv : Value} {es : List Ed} {rs : List Int} {eb ec rb rc : Nat} {L M : List (Value × List Int)} (h : Hv w0 wb N sm H gb l ev rv es rs eb ec rb rc L M w) {n : Nat} (hn : rs.length = n) : IntsAt w.heap.size w (.slice (some ⟨rb, 0, none⟩) n rc) rs := by
  subst hn
  obtain ⟨g, e, k⟩ := h.R.front (by simp [mkI, List.range, List.range.loop])
  cases e
  exact k.at

theorem Hv.efrontO {w0 w : World} {wb N : Nat} {sm : Int} {H gb : Nat} {l : Int} {ev rv : Value} {es : List Ed} {rs : List Int} {eb ec rb rc : Nat} {L M : List (Value × List Int)} (h : Hv w0 wb N sm H gb l ev rv es rs eb ec rb rc L M w) {n : Nat} (hn : es.length = n) : OwnE w w0.heap.size (.slice (some ⟨eb, 0, none⟩) n ec) es := by
  subst hn
  obtain ⟨g, e, k⟩ := h.E.front (by simp [mkE, List.range, List.range.loop])
  cases e
  exact World.ownsRow.mono k h.base
theorem Hv.rfrontO {w0 w : World} {wb N : Nat} {sm : Int} {H gb : Nat} {l : Int} {ev rv : Value} {es : List Ed} {rs : List Int} {eb ec rb rc : Nat} {L M : List (Value × List Int)} (h : Hv w0 wb N sm H gb l ev rv es rs eb ec rb rc L M w) {n : Nat} (hn : rs.length = n) : OwnI w w0.heap.size (.slice (some ⟨rb, 0, none⟩) n rc) rs := by
  subst hn
  obtain ⟨g, e, k⟩ := h.R.front (by simp [mkI, List.range, List.range.loop])
  cases e
  exact World.ownsRow.mono k h.base

set_option maxRecDepth 100000 in
set_option maxHeartbeats 16000000 in
theorem asks_any {w0 w : World} {wb N : Nat} {sm : Int} {P : Nat → Prop} (h : St w0 wb N sm P w) (hN : N ≤ 90000000) (l : Int) (ev rv : Value) (es : List Ed) (rs : List Int) (hE : EdgesAt w.heap.size w ev es) (hR : IntsAt w.heap.size w rv rs) (n m : Nat) (hel : es.length = n) (hrl : rs.length = m) (hn : n ≤ 1048576) (hm : m ≤ 1048576) :
    Calls Try.prog 6 #[.pointer (some ⟨wb, 0, none⟩), .agg #[vI l, ev, rv]] w fun e w' => e = .returned (.bool true) ∧ St w0 wb (N + 12) sm (fun k => k < w'.heap.size) w' := by
  obtain ⟨ea, ecap, hev, -⟩ := id hE
  obtain ⟨ra, rcap, hrv, -⟩ := id hR
  rw [hel] at hev
  rw [hrl] at hrv
  subst hev
  subst hrv
  have hF1 : Fr (fun _ => False) w (w.alloc (.cells #[vI l, .slice ea n ecap, .slice ra m rcap] 31)) := (Fr.refl _ w).alloc _
  have HG1 : Hd ((w.alloc (.cells #[vI l, .slice ea n ecap, .slice ra m rcap] 31)).heap[w.heap.size]? = some (.cells #[vI l, .slice ea n ecap, .slice ra m rcap] 31)) := heap_alloc_last w _
  have HS1 : Hd (St w0 wb N sm (fun k => k < w.heap.size) (w.alloc (.cells #[vI l, .slice ea n ecap, .slice ra m rcap] 31))) := h.top.keep hF1
  have HE1 : Hd (EdgesAt (w.alloc (.cells #[vI l, .slice ea n ecap, .slice ra m rcap] 31)).heap.size (w.alloc (.cells #[vI l, .slice ea n ecap, .slice ra m rcap] 31)) (.slice ea n ecap) es) := hE.stay hF1
  have HR1 : Hd (IntsAt (w.alloc (.cells #[vI l, .slice ea n ecap, .slice ra m rcap] 31)).heap.size (w.alloc (.cells #[vI l, .slice ea n ecap, .slice ra m rcap] 31)) (.slice ra m rcap) rs) := hR.stay hF1
  have HB : Hd (w0.heap.size ≤ w.heap.size) := h.old.size
  have HEL : Hd (es.length = n) := hel
  have HRL : Hd (rs.length = m) := hrl
  have hs1 : w.heap.size < (w.alloc (.cells #[vI l, .slice ea n ecap, .slice ra m rcap] 31)).heap.size := by simp
  clear hF1 hE hR h
  go_enter Try.func6, Try.ntmps6
  go_wp2_with fail
  obtain ⟨H, hH⟩ : ∃ H, H = w.heap.size := ⟨_, rfl⟩
  rw [← hH] at HG1 HS1 HB hs1 ⊢
  generalize w.alloc (.cells #[vI l, .slice ea n ecap, .slice ra m rcap] 31) = w1 at *
  clear hH hel hrl
  refine (show Calls Try.prog 10 #[.slice ea n ecap] w1 _ from edges_any _ es w1 HE1.out (by have := HEL.out; omega)).mono ?_
  rintro e w2 ⟨v2, rfl, hO2, hF2⟩
  obtain ⟨eb, ec, rfl, hec⟩ := own_isE (n := n + 64) hO2 (by rw [List.length_append, mkE_length, HEL.out]) (by omega)
  have HO2 : Hd (OwnE w2 w1.heap.size (.slice (some ⟨eb, 0, none⟩) (n + 64) ec) (es ++ mkE 64)) := hO2
  have HF2 : Hd (Fr (fun _ => False) w1 w2) := hF2
  have p1 : w2.cell? ⟨H, 2, none⟩ = some (.slice ra m rcap) := by rw [(hF2.cell (heap_lt HG1.out) (fun e => e)), cell_of HG1.out]; rfl
  have HR2 : Hd (IntsAt w2.heap.size w2 (.slice ra m rcap) rs) := HR1.out.stay hF2
  clear hO2 hF2
  go_wp2_with fail
  refine (show Calls Try.prog 11 #[.slice ra m rcap] w2 _ from ints_any _ rs w2 HR2.out (by have := HRL.out; omega)).mono ?_
  rintro e w3 ⟨v3, rfl, hO3, hF3⟩
  obtain ⟨rb, rc, rfl, hrc⟩ := own_isI (n := m + 64) hO3 (by rw [List.length_append, mkI_length, HRL.out]) (by omega)
  have HV : Hd (Hv w0 wb N sm H H l (.slice ea n ecap) (.slice ra m rcap) es rs eb ec rb rc [] [] w3) := by
    have f13 := HF2.out.trans hF3
    have e1 := HO2.out.ge eb rfl
    have e2 := hO3.ge rb rfl
    refine ⟨(f13.block H hs1 (fun e => e)).trans HG1.out, Nat.le_refl _, HB.out, ?_, ?_, ⟨by omega, by omega, by have := HF2.out.size; omega⟩, fun p hp => by simp at hp, fun p hp => by simp at hp, fun p hp => by simp at hp, by simp, (HS1.out.keep f13).mono (Nat.le_refl _) (fun k _ _ hk => ?_)⟩
    · rw [List.length_append, mkE_length, HEL.out]
      exact OwnE.fr (B := H) (World.ownsRow.mono HO2.out (by omega)) hF3 (fun _ _ e => e)
    · rw [List.length_append, mkI_length, HRL.out]
      exact World.ownsRow.mono hO3 (by have := HF2.out.size; omega)
    · rintro (e | e | e | ⟨p, hp, e⟩)
      · omega
      · omega
      · have := HF2.out.size; omega
      · simp at hp
  have HE3 : Hd (EdgesAt w3.heap.size w3 (.slice ea n ecap) es) := HE1.out.stay (HF2.out.trans hF3)
  have HR3 : Hd (IntsAt w3.heap.size w3 (.slice ra m rcap) rs) := HR2.out.stay hF3
  clear hO3 hF3 HO2 HF2 p1 HR2 HE1 HR1 HG1 HS1 HB hs1
  have p0 : w3.cell? ⟨H, 0, none⟩ = some (vI l) := by rw [cell_of HV.out.g]; rfl
  have p1 : w3.cell? ⟨H, 1, none⟩ = some (.slice ea n ecap) := by rw [cell_of HV.out.g]; rfl
  have p2 : w3.cell? ⟨H, 2, none⟩ = some (.slice ra m rcap) := by rw [cell_of HV.out.g]; rfl
  have hn0 : (0 : Int) ≤ n := by omega
  have hn1 : (n : Int) ≤ ec := by omega
  have hm0 : (0 : Int) ≤ m := by omega
  have hm1 : (m : Int) ≤ rc := by omega
  have HEf : Hd (EdgesAt w3.heap.size w3 (.slice (some ⟨eb, 0, none⟩) n ec) es) := HV.out.efront HEL.out
  have HRf : Hd (IntsAt w3.heap.size w3 (.slice (some ⟨rb, 0, none⟩) m rc) rs) := HV.out.rfront HRL.out
  go_upto_region 5 with fail
  go_region_held3 (fun w' => w'.cell? ⟨H, 0, none⟩ = some (vI l)) (go_keep) ((
    go_at_call 8
    refine (show Calls Try.prog 8 #[.int .i64 l, .slice (some ⟨eb, 0, none⟩) n ec, .slice (some ⟨rb, 0, none⟩) m rc] w3.drew _ from from_own l _ _ es rs w3.drew HEf.out HRf.out (by have := HEL.out; omega) (by have := HRL.out; omega)).mono ?_
    rintro e w4 ⟨xv, zs, er, rfl, hfr, hO4, hF4⟩
    have HFR : Hd (FromR l es rs zs er) := hfr
    have hG4 : Fr (fun _ => False) w3 w4 := (Fr.refl _ w3).drew.trans hF4
    have HV4 : Hd (Hv w0 wb N sm H H l (.slice ea n ecap) (.slice ra m rcap) es rs eb ec rb rc [(xv, zs)] [] w4) := HV.out.addO hG4 hO4
    have HE4 : Hd (EdgesAt w4.heap.size w4 (.slice ea n ecap) es) := HE3.out.stay hG4
    have HR4 : Hd (IntsAt w4.heap.size w4 (.slice ra m rcap) rs) := HR3.out.stay hG4
    have s0 : w4.cell? ⟨H, 0, none⟩ = some (vI l) := (hG4.cell (heap_lt HV.out.g) (fun e => e)).trans p0
    clear hfr hO4 hF4 hG4))
  clear HV HE3 HR3 s0 p0 p1 p2
  have hzl := HFR.out.len
  clear HEf HRf
  have HEf : Hd (EdgesAt w4.heap.size w4 (.slice (some ⟨eb, 0, none⟩) n ec) es) := HV4.out.efront HEL.out
  have HRf : Hd (IntsAt w4.heap.size w4 (.slice (some ⟨rb, 0, none⟩) m rc) rs) := HV4.out.rfront HRL.out
  have q0 : w4.cell? ⟨H, 0, none⟩ = some (vI l) := by rw [cell_of HV4.out.g]; rfl
  go_upto_region 6 with fail
  go_region_held3 (fun w' => w'.cell? ⟨H, 0, none⟩ = some (vI l)) (go_keep) ((
    go_at_call 8
    refine (show Calls Try.prog 8 #[.int .i64 l, .slice (some ⟨eb, 0, none⟩) n ec, .slice (some ⟨rb, 0, none⟩) m rc] w4.drew _ from from_as HFR.out _ _ w4.drew HEf.out HRf.out (by have := HEL.out; omega) (by have := HRL.out; omega)).mono ?_
    rintro e w5 ⟨nv, rfl, hO4, hF4⟩
    have hG4 : Fr (fun _ => False) w4 w5 := (Fr.refl _ w4).drew.trans hF4
    have HV5 : Hd (Hv w0 wb N sm H H l (.slice ea n ecap) (.slice ra m rcap) es rs eb ec rb rc [(xv, zs), (nv, zs)] [] w5) := HV4.out.addO hG4 hO4
    have HE5 : Hd (EdgesAt w5.heap.size w5 (.slice ea n ecap) es) := HE4.out.stay hG4
    have HR5 : Hd (IntsAt w5.heap.size w5 (.slice ra m rcap) rs) := HR4.out.stay hG4
    have s0 : w5.cell? ⟨H, 0, none⟩ = some (vI l) := (hG4.cell (heap_lt HV4.out.g) (fun e => e)).trans q0
    clear hO4 hF4 hG4))
  clear HV4 HE4 HR4 s0 q0
  clear HEf HRf
  have hFa : Fr (fun _ => False) w5 ((w5.alloc (.cells #[vI 0, vI 2, vI 2] 39)).alloc (.cells #[vI 0] 3)) := ((Fr.refl _ w5).alloc _).alloc _
  have hEa : EdgesAt ((w5.alloc (.cells #[vI 0, vI 2, vI 2] 39)).alloc (.cells #[vI 0] 3)).heap.size ((w5.alloc (.cells #[vI 0, vI 2, vI 2] 39)).alloc (.cells #[vI 0] 3)) (.slice (some ⟨w5.heap.size, 0, none⟩) 1 1) [(0, 2, 2)] := (edges_lit _ _ [(0, 2, 2)] (heap_alloc_last w5 _)).stay ((Fr.refl _ _).alloc _)
  have hRa : IntsAt ((w5.alloc (.cells #[vI 0, vI 2, vI 2] 39)).alloc (.cells #[vI 0] 3)).heap.size ((w5.alloc (.cells #[vI 0, vI 2, vI 2] 39)).alloc (.cells #[vI 0] 3)) (.slice (some ⟨w5.heap.size + 1, 0, none⟩) 1 1) [0] := by
    have := root_lit (w5.alloc (.cells #[vI 0, vI 2, vI 2] 39))
    rw [show (w5.alloc (.cells #[vI 0, vI 2, vI 2] 39)).heap.size = w5.heap.size + 1 by simp] at this
    exact this
  have HEA : Hd _ := hEa
  have HRA : Hd _ := hRa
  have HFA : Hd _ := hFa
  clear hEa hRa hFa
  go_wp2_with fail
  refine (show Calls Try.prog 8 #[.int .i64 3, .slice (some ⟨w5.heap.size, 0, none⟩) 1 1, .slice (some ⟨w5.heap.size + 1, 0, none⟩) 1 1] ((w5.alloc (.cells #[vI 0, vI 2, vI 2] 39)).alloc (.cells #[vI 0] 3)) _ from from_as fromR_three _ _ _ HEA.out HRA.out (by simp) (by simp)).mono ?_
  rintro e w6 ⟨ov, rfl, hO4, hF4⟩
  have hG4 : Fr (fun _ => False) w5 w6 := HFA.out.trans hF4
  have HV6 : Hd (Hv w0 wb N sm H H l (.slice ea n ecap) (.slice ra m rcap) es rs eb ec rb rc [(xv, zs), (nv, zs), (ov, [0, 9, 2])] [] w6) := HV5.out.addO hG4 (World.ownsRow.mono hO4 (by simp; omega))
  have HE6 : Hd (EdgesAt w6.heap.size w6 (.slice ea n ecap) es) := HE5.out.stay hG4
  have HR6 : Hd (IntsAt w6.heap.size w6 (.slice ra m rcap) rs) := HR5.out.stay hG4
  clear hO4 hF4 hG4 HEA HRA HFA HV5 HE5 HR5
  have HEf : Hd True := trivial
  have HRf : Hd True := trivial
  clear HEf HRf
  have HEf : Hd (EdgesAt w6.heap.size w6 (.slice (some ⟨eb, 0, none⟩) n ec) es) := HV6.out.efront HEL.out
  have HRf : Hd (IntsAt w6.heap.size w6 (.slice (some ⟨rb, 0, none⟩) m rc) rs) := HV6.out.rfront HRL.out
  have q0 : w6.cell? ⟨H, 0, none⟩ = some (vI l) := by rw [cell_of HV6.out.g]; rfl
  go_upto_region 8 with fail
  go_region_held3 (fun w' => w'.cell? ⟨H, 0, none⟩ = some (vI l)) (go_keep) ((
    go_at_call 8
    refine (show Calls Try.prog 8 #[.int .i64 l, .slice (some ⟨eb, 0, none⟩) n ec, .slice (some ⟨rb, 0, none⟩) m rc] w6.drew _ from from_as HFR.out _ _ w6.drew HEf.out HRf.out (by have := HEL.out; omega) (by have := HRL.out; omega)).mono ?_
    rintro e w7 ⟨zv, rfl, hO4, hF4⟩
    have hG4 : Fr (fun _ => False) w6 w7 := (Fr.refl _ w6).drew.trans hF4
    have HV7 : Hd (Hv w0 wb N sm H H l (.slice ea n ecap) (.slice ra m rcap) es rs eb ec rb rc [(xv, zs), (nv, zs), (ov, [0, 9, 2]), (zv, zs)] [] w7) := HV6.out.addO hG4 hO4
    have HE7 : Hd (EdgesAt w7.heap.size w7 (.slice ea n ecap) es) := HE6.out.stay hG4
    have HR7 : Hd (IntsAt w7.heap.size w7 (.slice ra m rcap) rs) := HR6.out.stay hG4
    have s0 : w7.cell? ⟨H, 0, none⟩ = some (vI l) := (hG4.cell (heap_lt HV6.out.g) (fun e => e)).trans q0
    clear hO4 hF4 hG4))
  clear HV6 HE6 HR6 s0 q0
  clear HEf HRf
  have q0 : w7.cell? ⟨H, 0, none⟩ = some (vI l) := by rw [cell_of HV7.out.g]; rfl
  have q1 : w7.cell? ⟨H, 1, none⟩ = some (.slice ea n ecap) := by rw [cell_of HV7.out.g]; rfl
  have q2 : w7.cell? ⟨H, 2, none⟩ = some (.slice ra m rcap) := by rw [cell_of HV7.out.g]; rfl
  go_wp2_with fail
  refine (show Calls Try.prog 12 #[.int .i64 l, .slice ea n ecap, .slice ra m rcap] w7 _ from rfrom_as HFR.out _ _ w7 HE7.out HR7.out (by have := HEL.out; omega) (by have := HRL.out; omega)).mono ?_
  rintro e w8 ⟨yv, rfl, hI, hIb, hF⟩
  have HV8 : Hd (Hv w0 wb N sm H H l (.slice ea n ecap) (.slice ra m rcap) es rs eb ec rb rc [(xv, zs), (nv, zs), (ov, [0, 9, 2]), (zv, zs)] [(yv, zs)] w8) := HV7.out.addM hF hI hIb
  have HE8 : Hd (EdgesAt w8.heap.size w8 (.slice ea n ecap) es) := HE7.out.stay hF
  have HR8 : Hd (IntsAt w8.heap.size w8 (.slice ra m rcap) rs) := HR7.out.stay hF
  clear hI hIb hF HV7 HE7 HR7 q0 q1 q2
  go_wp2_with fail
  refine (show Calls Try.prog 9 #[xv, yv] w8 _ from eqInts_any _ _ zs zs w8 (HV8.out.own (xv, zs) (by simp)).at (HV8.out.red (yv, zs) (by simp)).1 (by have := HFR.out.len; omega) (by have := HFR.out.len; omega)).mono ?_
  rintro e w9 ⟨rfl, hF⟩
  rw [decide_eq_true rfl]
  have HV9 : Hd (Hv w0 wb N sm H H l (.slice ea n ecap) (.slice ra m rcap) es rs eb ec rb rc [(xv, zs), (nv, zs), (ov, [0, 9, 2]), (zv, zs)] [(yv, zs)] w9) := HV8.out.keep hF
  have HE9 : Hd (EdgesAt w9.heap.size w9 (.slice ea n ecap) es) := HE8.out.stay hF
  have HR9 : Hd (IntsAt w9.heap.size w9 (.slice ra m rcap) rs) := HR8.out.stay hF
  clear hF HV8 HE8 HR8
  go_wp2_with fail
  refine (show Calls Try.prog 9 #[nv, yv] w9 _ from eqInts_any _ _ zs zs w9 (HV9.out.own (nv, zs) (by simp)).at (HV9.out.red (yv, zs) (by simp)).1 (by have := HFR.out.len; omega) (by have := HFR.out.len; omega)).mono ?_
  rintro e w10 ⟨rfl, hF⟩
  rw [decide_eq_true rfl]
  have HV10 : Hd (Hv w0 wb N sm H H l (.slice ea n ecap) (.slice ra m rcap) es rs eb ec rb rc [(xv, zs), (nv, zs), (ov, [0, 9, 2]), (zv, zs)] [(yv, zs)] w10) := HV9.out.keep hF
  have HE10 : Hd (EdgesAt w10.heap.size w10 (.slice ea n ecap) es) := HE9.out.stay hF
  have HR10 : Hd (IntsAt w10.heap.size w10 (.slice ra m rcap) rs) := HR9.out.stay hF
  clear hF HV9 HE9 HR9
  go_wp2_with fail
  refine (show Calls Try.prog 9 #[zv, yv] w10 _ from eqInts_any _ _ zs zs w10 (HV10.out.own (zv, zs) (by simp)).at (HV10.out.red (yv, zs) (by simp)).1 (by have := HFR.out.len; omega) (by have := HFR.out.len; omega)).mono ?_
  rintro e w11 ⟨rfl, hF⟩
  rw [decide_eq_true rfl]
  have HV11 : Hd (Hv w0 wb N sm H H l (.slice ea n ecap) (.slice ra m rcap) es rs eb ec rb rc [(xv, zs), (nv, zs), (ov, [0, 9, 2]), (zv, zs)] [(yv, zs)] w11) := HV10.out.keep hF
  have HE11 : Hd (EdgesAt w11.heap.size w11 (.slice ea n ecap) es) := HE10.out.stay hF
  have HR11 : Hd (IntsAt w11.heap.size w11 (.slice ra m rcap) rs) := HR10.out.stay hF
  clear hF HV10 HE10 HR10
  have hFb : Fr (fun _ => False) w11 (w11.alloc (.cells #[vI 0, vI 9, vI 2] 3)) := (Fr.refl _ w11).alloc _
  have HUa : Hd (IntsAt (w11.alloc (.cells #[vI 0, vI 9, vI 2] 3)).heap.size (w11.alloc (.cells #[vI 0, vI 9, vI 2] 3)) (.slice (some ⟨w11.heap.size, 0, none⟩) 3 3) [0, 9, 2]) := ints_lit _ _ [0, 9, 2] (heap_alloc_last w11 _)
  have HV12 : Hd (Hv w0 wb N sm H H l (.slice ea n ecap) (.slice ra m rcap) es rs eb ec rb rc [(xv, zs), (nv, zs), (ov, [0, 9, 2]), (zv, zs)] [(yv, zs)] (w11.alloc (.cells #[vI 0, vI 9, vI 2] 3))) := HV11.out.keep hFb
  have HE12 : Hd (EdgesAt (w11.alloc (.cells #[vI 0, vI 9, vI 2] 3)).heap.size (w11.alloc (.cells #[vI 0, vI 9, vI 2] 3)) (.slice ea n ecap) es) := HE11.out.stay hFb
  have HR12 : Hd (IntsAt (w11.alloc (.cells #[vI 0, vI 9, vI 2] 3)).heap.size (w11.alloc (.cells #[vI 0, vI 9, vI 2] 3)) (.slice ra m rcap) rs) := HR11.out.stay hFb
  clear hFb HV11 HE11 HR11
  go_wp2_with fail
  obtain ⟨uv, huv⟩ : ∃ uv, uv = Value.slice (some ⟨w11.heap.size, 0, none⟩) 3 3 := ⟨_, rfl⟩
  rw [← huv] at HUa ⊢
  generalize w11.alloc (.cells #[vI 0, vI 9, vI 2] 3) = w12 at *
  clear huv
  refine (show Calls Try.prog 9 #[ov, uv] w12 _ from eqInts_any _ _ [0, 9, 2] [0, 9, 2] w12 (HV12.out.own (ov, [0, 9, 2]) (by simp)).at HUa.out (by simp) (by simp)).mono ?_
  rintro e w13 ⟨rfl, hF⟩
  rw [decide_eq_true rfl]
  have HV13 : Hd (Hv w0 wb N sm H H l (.slice ea n ecap) (.slice ra m rcap) es rs eb ec rb rc [(xv, zs), (nv, zs), (ov, [0, 9, 2]), (zv, zs)] [(yv, zs)] w13) := HV12.out.keep hF
  have HE13 : Hd (EdgesAt w13.heap.size w13 (.slice ea n ecap) es) := HE12.out.stay hF
  have HR13 : Hd (IntsAt w13.heap.size w13 (.slice ra m rcap) rs) := HR12.out.stay hF
  clear hF HV12 HE12 HR12 HUa
  have q1 : w13.cell? ⟨H, 1, none⟩ = some (.slice ea n ecap) := by rw [cell_of HV13.out.g]; rfl
  go_wp2_with fail
  refine (show Calls Try.prog 10 #[.slice ea n ecap] w13 _ from edges_any _ es w13 HE13.out (by have := HEL.out; omega)).mono ?_
  rintro e w14 ⟨cv, rfl, hO, hF⟩
  have HC14 : Hd (OwnE w14 w13.heap.size cv (es ++ mkE 64)) := hO
  have HV14 : Hd (Hv w0 wb N sm H H l (.slice ea n ecap) (.slice ra m rcap) es rs eb ec rb rc [(xv, zs), (nv, zs), (ov, [0, 9, 2]), (zv, zs)] [(yv, zs)] w14) := HV13.out.keep hF
  have HR14 : Hd (IntsAt w14.heap.size w14 (.slice ra m rcap) rs) := HR13.out.stay hF
  have HD14 : Hd (OwnE w14 H (.slice (some ⟨eb, 0, none⟩) (n + 64) ec) (es ++ mkE 64)) := by
    have := HV14.out.E
    rw [List.length_append, mkE_length, HEL.out] at this
    exact this
  have HLE : Hd ((es ++ mkE 64).length = n + 64) := by unfold Hd; rw [List.length_append, mkE_length, HEL.out]
  clear hO hF HV13 HE13 HR13 q1
  go_wp2_with fail
  refine (show Calls Try.prog 13 #[.slice (some ⟨eb, 0, none⟩) (n + 64) ec, cv] w14 _ from eqEdges_same _ _ (es ++ mkE 64) w14 HD14.out.at HC14.out.at (by have := HLE.out; omega)).mono ?_
  rintro e w15 ⟨rfl, hF⟩
  have HV15 : Hd (Hv w0 wb N sm H H l (.slice ea n ecap) (.slice ra m rcap) es rs eb ec rb rc [(xv, zs), (nv, zs), (ov, [0, 9, 2]), (zv, zs)] [(yv, zs)] w15) := HV14.out.keep hF
  have HR15 : Hd (IntsAt w15.heap.size w15 (.slice ra m rcap) rs) := HR14.out.stay hF
  clear hF HV14 HR14 HC14 HD14 HLE
  have q2 : w15.cell? ⟨H, 2, none⟩ = some (.slice ra m rcap) := by rw [cell_of HV15.out.g]; rfl
  go_wp2_with fail
  refine (show Calls Try.prog 11 #[.slice ra m rcap] w15 _ from ints_any _ rs w15 HR15.out (by have := HRL.out; omega)).mono ?_
  rintro e w16 ⟨dv, rfl, hO, hF⟩
  have HC16 : Hd (OwnI w16 w15.heap.size dv (rs ++ mkI 64)) := hO
  have HV16 : Hd (Hv w0 wb N sm H H l (.slice ea n ecap) (.slice ra m rcap) es rs eb ec rb rc [(xv, zs), (nv, zs), (ov, [0, 9, 2]), (zv, zs)] [(yv, zs)] w16) := HV15.out.keep hF
  have HD16 : Hd (OwnI w16 H (.slice (some ⟨rb, 0, none⟩) (m + 64) rc) (rs ++ mkI 64)) := by
    have := HV16.out.R
    rw [List.length_append, mkI_length, HRL.out] at this
    exact this
  have HLR : Hd ((rs ++ mkI 64).length = m + 64) := by unfold Hd; rw [List.length_append, mkI_length, HRL.out]
  clear hO hF HV15 HR15 q2
  go_wp2_with fail
  refine (show Calls Try.prog 9 #[.slice (some ⟨rb, 0, none⟩) (m + 64) rc, dv] w16 _ from eqInts_any _ _ (rs ++ mkI 64) (rs ++ mkI 64) w16 HD16.out.at HC16.out.at (by have := HLR.out; omega) (by have := HLR.out; omega)).mono ?_
  rintro e w17 ⟨rfl, hF⟩
  rw [decide_eq_true rfl]
  have HV17 : Hd (Hv w0 wb N sm H H l (.slice ea n ecap) (.slice ra m rcap) es rs eb ec rb rc [(xv, zs), (nv, zs), (ov, [0, 9, 2]), (zv, zs)] [(yv, zs)] w17) := HV16.out.keep hF
  clear hF HV16 HC16 HD16 HLR
  obtain ⟨xa, xc, rfl⟩ := OwnI.shape (v := xv) (zs := zs) (HV17.out.own (xv, zs) (by simp))
  go_wp2_with fail
  refine (show Calls Try.prog 14 #[.pointer (some ⟨wb, 0, none⟩), .slice xa zs.length xc] w17 _ from keep_hv HV17.out (by omega)).mono ?_
  rintro e w18 ⟨rfl, hk⟩
  have HK : Hd ((zs.length ≤ 4096 ∧ Hv w0 wb (N + 2) sm H H l (.slice ea n ecap) (.slice ra m rcap) es rs eb ec rb rc [(nv, zs), (ov, [0, 9, 2]), (zv, zs)] [(yv, zs)] w18) ∨ (4096 < zs.length ∧ Hv w0 wb (N + 2) sm H H l (.slice ea n ecap) (.slice ra m rcap) es rs eb ec rb rc [(.slice xa zs.length xc, zs), (nv, zs), (ov, [0, 9, 2]), (zv, zs)] [(yv, zs)] w18)) := hk
  clear hk HV17
  go_upto_if 126 with fail
  go_cut [] (fun wx => Hd (Hv w0 wb (N + 2) sm H H l (.slice ea n ecap) (.slice ra m rcap) es rs eb ec rb rc [(nv, zs), (ov, [0, 9, 2]), (zv, zs)] [(yv, zs)] wx))
  case first =>
    rcases HK.out with ⟨hz, hv⟩ | ⟨hz, hv⟩
    · have hd : decide ((zs.length : Int) > 4096) = false := by apply decide_eq_false; omega
      have HV1 : Hd (Hv w0 wb (N + 2) sm H H l (.slice ea n ecap) (.slice ra m rcap) es rs eb ec rb rc [(nv, zs), (ov, [0, 9, 2]), (zv, zs)] [(yv, zs)] w18) := hv
      clear hv HK
      go_wp2_with fail
      go_meet
      exact HV1.out
    · have hd : decide ((zs.length : Int) > 4096) = true := by apply decide_eq_true; omega
      have HV1 : Hd (Hv w0 wb (N + 2) sm H H l (.slice ea n ecap) (.slice ra m rcap) es rs eb ec rb rc [(.slice xa zs.length xc, zs), (nv, zs), (ov, [0, 9, 2]), (zv, zs)] [(yv, zs)] w18) := hv
      clear hv HK
      obtain ⟨xg, xc2, heq⟩ := own_is (n := zs.length) (zs := zs) (HV1.out.own (.slice xa zs.length xc, zs) (by simp)) rfl (by omega)
      injection heq with h1 h2 h3
      subst h1
      clear h2 h3
      go_wp2_with fail
      go_loopw [21] (fun v wr => ∃ (k : Nat) (Z : List Int), v = .int .i64 k ∧ k ≤ zs.length ∧ Hd (Z.length = zs.length) ∧ Hd (Hv w0 wb (N + 2) sm H H l (.slice ea n ecap) (.slice ra m rcap) es rs eb ec rb rc [(.slice (some ⟨xg, 0, none⟩) zs.length xc, Z), (nv, zs), (ov, [0, 9, 2]), (zv, zs)] [(yv, zs)] wr)) (fun v _ => match v with | .int _ q => zs.length - q.toNat | _ => 0)
      case atStart => exact ⟨0, zs, rfl, Nat.zero_le _, rfl, HV1.out⟩
      case round =>
        clear HV1
        obtain ⟨k, Z, rfl, hk, HZ, HB⟩ := hrel
        by_cases hlt : k < zs.length
        · have hO := HB.out.own (.slice (some ⟨xg, 0, none⟩) zs.length xc, Z) (by simp)
          obtain ⟨z, hz0, p0, hz1⟩ := OwnI.cells hO HZ.out hlt
          have z0 := hz1 k
          have HB1 : Hd _ := HB.out.turn (setCell_fr' wr xg k (vI (-7)) zs.length xc) (OwnI.set hO HZ.out k (-7))
          have hk0 : (0 : Int) ≤ k := by omega
          have hk1 : (k : Int) < zs.length := by omega
          clear hz1 hz0 hO
          go_wp2_with fail
          exact ⟨⟨k + 1, _, by simp, by omega, by unfold Hd; rw [List.length_set]; exact HZ.out, HB1.out⟩, by simp; omega⟩
        · have hke : k = zs.length := by omega
          have HV2 : Hd (Hv w0 wb (N + 2) sm H H l (.slice ea n ecap) (.slice ra m rcap) es rs eb ec rb rc [(nv, zs), (ov, [0, 9, 2]), (zv, zs)] [(yv, zs)] wr) := HB.out.drop
          clear HB
          subst hke
          go_wp2_with fail
          go_meet
          exact HV2.out
  case rest =>
    clear HK
    have HV19 : Hd (Hv w0 wb (N + 2) sm H H l (.slice ea n ecap) (.slice ra m rcap) es rs eb ec rb rc [(nv, zs), (ov, [0, 9, 2]), (zv, zs)] [(yv, zs)] wc) := hcut
    clear hcut
    generalize wc = w19 at *
    go_wp2_with fail
    refine (show Calls Try.prog 9 #[zv, yv] w19 _ from eqInts_any _ _ zs zs w19 (HV19.out.own (zv, zs) (by simp)).at (HV19.out.red (yv, zs) (by simp)).1 (by omega) (by omega)).mono ?_
    rintro e w20 ⟨rfl, hF⟩
    rw [decide_eq_true rfl]
    have HV20 : Hd (Hv w0 wb (N + 2) sm H H l (.slice ea n ecap) (.slice ra m rcap) es rs eb ec rb rc [(nv, zs), (ov, [0, 9, 2]), (zv, zs)] [(yv, zs)] w20) := HV19.out.keep hF
    clear hF HV19
    go_wp2_with fail
    refine (show Calls Try.prog 9 #[nv, yv] w20 _ from eqInts_any _ _ zs zs w20 (HV20.out.own (nv, zs) (by simp)).at (HV20.out.red (yv, zs) (by simp)).1 (by omega) (by omega)).mono ?_
    rintro e w21 ⟨rfl, hF⟩
    rw [decide_eq_true rfl]
    have HV21 : Hd (Hv w0 wb (N + 2) sm H H l (.slice ea n ecap) (.slice ra m rcap) es rs eb ec rb rc [(nv, zs), (ov, [0, 9, 2]), (zv, zs)] [(yv, zs)] w21) := HV20.out.keep hF
    clear hF HV20
    obtain ⟨na, nc, rfl⟩ := OwnI.shape (v := nv) (zs := zs) (HV21.out.own (nv, zs) (by simp))
    go_wp2_with fail
    refine (show Calls Try.prog 14 #[.pointer (some ⟨wb, 0, none⟩), .slice na zs.length nc] w21 _ from keep_hv HV21.out (by omega)).mono ?_
    rintro e w22 ⟨rfl, hk⟩
    have HK : Hd ((zs.length ≤ 4096 ∧ Hv w0 wb (N + 4) sm H H l (.slice ea n ecap) (.slice ra m rcap) es rs eb ec rb rc [(ov, [0, 9, 2]), (zv, zs)] [(yv, zs)] w22) ∨ (4096 < zs.length ∧ Hv w0 wb (N + 4) sm H H l (.slice ea n ecap) (.slice ra m rcap) es rs eb ec rb rc [(.slice na zs.length nc, zs), (ov, [0, 9, 2]), (zv, zs)] [(yv, zs)] w22)) := hk
    clear hk HV21
    go_upto_if 149 with fail
    go_cut [] (fun wx => Hd (Hv w0 wb (N + 4) sm H H l (.slice ea n ecap) (.slice ra m rcap) es rs eb ec rb rc [(ov, [0, 9, 2]), (zv, zs)] [(yv, zs)] wx))
    case first =>
      rcases HK.out with ⟨hz, hv⟩ | ⟨hz, hv⟩
      · have hd : decide ((zs.length : Int) > 4096) = false := by apply decide_eq_false; omega
        have HV1 : Hd (Hv w0 wb (N + 4) sm H H l (.slice ea n ecap) (.slice ra m rcap) es rs eb ec rb rc [(ov, [0, 9, 2]), (zv, zs)] [(yv, zs)] w22) := hv
        clear hv HK
        go_wp2_with fail
        go_meet
        exact HV1.out
      · have hd : decide ((zs.length : Int) > 4096) = true := by apply decide_eq_true; omega
        have HV1 : Hd (Hv w0 wb (N + 4) sm H H l (.slice ea n ecap) (.slice ra m rcap) es rs eb ec rb rc [(.slice na zs.length nc, zs), (ov, [0, 9, 2]), (zv, zs)] [(yv, zs)] w22) := hv
        clear hv HK
        obtain ⟨ng, nc2, heq⟩ := own_is (n := zs.length) (zs := zs) (HV1.out.own (.slice na zs.length nc, zs) (by simp)) rfl (by omega)
        injection heq with h1 h2 h3
        subst h1
        clear h2 h3
        go_wp2_with fail
        go_loopw [23] (fun v wr => ∃ (k : Nat) (Z : List Int), v = .int .i64 k ∧ k ≤ zs.length ∧ Hd (Z.length = zs.length) ∧ Hd (Hv w0 wb (N + 4) sm H H l (.slice ea n ecap) (.slice ra m rcap) es rs eb ec rb rc [(.slice (some ⟨ng, 0, none⟩) zs.length nc, Z), (ov, [0, 9, 2]), (zv, zs)] [(yv, zs)] wr)) (fun v _ => match v with | .int _ q => zs.length - q.toNat | _ => 0)
        case atStart => exact ⟨0, zs, rfl, Nat.zero_le _, rfl, HV1.out⟩
        case round =>
          clear HV1
          obtain ⟨k, Z, rfl, hk, HZ, HB⟩ := hrel
          by_cases hlt : k < zs.length
          · have hO := HB.out.own (.slice (some ⟨ng, 0, none⟩) zs.length nc, Z) (by simp)
            obtain ⟨z, hz0, p0, hz1⟩ := OwnI.cells hO HZ.out hlt
            have z0 := hz1 k
            have HB1 : Hd _ := HB.out.turn (setCell_fr' wr ng k (vI (-8)) zs.length nc) (OwnI.set hO HZ.out k (-8))
            have hk0 : (0 : Int) ≤ k := by omega
            have hk1 : (k : Int) < zs.length := by omega
            clear hz1 hz0 hO
            go_wp2_with fail
            exact ⟨⟨k + 1, _, by simp, by omega, by unfold Hd; rw [List.length_set]; exact HZ.out, HB1.out⟩, by simp; omega⟩
          · have hke : k = zs.length := by omega
            have HV2 : Hd (Hv w0 wb (N + 4) sm H H l (.slice ea n ecap) (.slice ra m rcap) es rs eb ec rb rc [(ov, [0, 9, 2]), (zv, zs)] [(yv, zs)] wr) := HB.out.drop
            clear HB
            subst hke
            go_wp2_with fail
            go_meet
            exact HV2.out
    case rest =>
      clear HK
      have HV23 : Hd (Hv w0 wb (N + 4) sm H H l (.slice ea n ecap) (.slice ra m rcap) es rs eb ec rb rc [(ov, [0, 9, 2]), (zv, zs)] [(yv, zs)] wc) := hcut
      clear hcut
      generalize wc = w23 at *
      go_wp2_with fail
      refine (show Calls Try.prog 9 #[zv, yv] w23 _ from eqInts_any _ _ zs zs w23 (HV23.out.own (zv, zs) (by simp)).at (HV23.out.red (yv, zs) (by simp)).1 (by omega) (by omega)).mono ?_
      rintro e w24 ⟨rfl, hF⟩
      rw [decide_eq_true rfl]
      have HV24 : Hd (Hv w0 wb (N + 4) sm H H l (.slice ea n ecap) (.slice ra m rcap) es rs eb ec rb rc [(ov, [0, 9, 2]), (zv, zs)] [(yv, zs)] w24) := HV23.out.keep hF
      clear hF HV23
      have HV25 : Hd (Hv w0 wb (N + 4) sm H H l (.slice ea n ecap) (.slice ra m rcap) es rs eb ec rb rc [(zv, zs), (ov, [0, 9, 2])] [(yv, zs)] w24) := HV24.out.swap
      clear HV24
      go_wp2_with fail
      refine (show Calls Try.prog 14 #[.pointer (some ⟨wb, 0, none⟩), zv] w24 _ from keep_hv' HV25.out (by omega)).mono ?_
      rintro e w25 ⟨rfl, hk⟩
      have HV26 : Hd (Hv w0 wb (N + 6) sm H H l (.slice ea n ecap) (.slice ra m rcap) es rs eb ec rb rc [(ov, [0, 9, 2])] [(yv, zs)] w25) := hk
      clear hk HV25
      go_wp2_with fail
      refine (show Calls Try.prog 14 #[.pointer (some ⟨wb, 0, none⟩), ov] w25 _ from keep_hv' HV26.out (by omega)).mono ?_
      rintro e w26 ⟨rfl, hk⟩
      have HV27 : Hd (Hv w0 wb (N + 8) sm H H l (.slice ea n ecap) (.slice ra m rcap) es rs eb ec rb rc [] [(yv, zs)] w26) := hk
      clear hk HV26
      have q0 : w26.cell? ⟨H, 0, none⟩ = some (vI l) := by rw [cell_of HV27.out.g]; rfl
      go_upto_region 28 with fail
      go_region_held3 (fun w' => w'.cell? ⟨H, 0, none⟩ = some (vI l)) (go_keep) ((
        go_at_call 15
        refine (show Calls Try.prog 15 #[.pointer (some ⟨wb, 0, none⟩), .int .i64 l, .slice (some ⟨eb, 0, none⟩) n ec, .slice (some ⟨rb, 0, none⟩) m rc] w26.drew _ from other_any (HV27.out.keep (Fr.refl _ w26).drew).sh (by omega) l eb ec n es HEL.out (HV27.out.efrontO HEL.out) rb rc m rs HRL.out (HV27.out.rfrontO HRL.out) (fun e => e (Or.inr (Or.inl rfl))) (fun e => e (Or.inr (Or.inr (Or.inl rfl)))) HV27.out.ap0.1 (by omega) (by omega)).mono ?_
        rintro e w27 ⟨rfl, hS, E, hEl, hEo, hF⟩
        have HS27 : Hd (St w0 wb (N + 10) sm (fun k => ¬ Ours H eb rb ([] ++ [(yv, zs)]) k ∨ w26.heap.size ≤ k) w27) := hS
        have HEl : Hd (E.length = n) := hEl
        have HEo : Hd (OwnE w27 w0.heap.size (.slice (some ⟨eb, 0, none⟩) n ec) E) := hEo
        have HF27 : Hd (Fr (fun j => ¬ Ours H eb rb ([] ++ [(yv, zs)]) j ∨ j = eb) w26 w27) := (Fr.refl _ w26).drew.trans hF
        have s0 : w27.cell? ⟨H, 0, none⟩ = some (vI l) := (HF27.out.cell (heap_lt HV27.out.g) (fun e => by
          rcases e with e | e
          · exact e (Or.inl rfl)
          · exact HV27.out.ap0.2.1 e.symm)).trans q0
        clear hS hEl hEo hF))
      have HRo : Hd (OwnI w27 w0.heap.size (.slice (some ⟨rb, 0, none⟩) m rc) rs) := (HV27.out.rfrontO HRL.out).fr HF27.out (fun j e e2 => by
        have e : rb = j := by cases e; rfl
        subst e
        rcases e2 with e2 | e2
        · exact e2 (Or.inr (Or.inr (Or.inl rfl)))
        · exact HV27.out.ap0.1 e2.symm)
      have HPE : Hd (¬ (¬ Ours H eb rb ([] ++ [(yv, zs)]) eb ∨ w26.heap.size ≤ eb)) := fun e => by
        rcases e with e | e
        · exact e (Or.inr (Or.inl rfl))
        · have := HV27.out.lts; omega
      have HPR : Hd (¬ (¬ Ours H eb rb ([] ++ [(yv, zs)]) rb ∨ w26.heap.size ≤ rb)) := fun e => by
        rcases e with e | e
        · exact e (Or.inr (Or.inr (Or.inl rfl)))
        · have := HV27.out.lts; omega
      have HAP : Hd (eb ≠ rb) := HV27.out.ap0.1
      clear q0 HF27
      have hee : (er == er) = true := by simp
      go_upto_region 29 with fail
      go_region_held3 (fun w' => w'.cell? ⟨H, 0, none⟩ = some (vI l)) (go_keep) ((
        go_at_call 16
        refine (show Calls Try.prog 16 #[.pointer (some ⟨wb, 0, none⟩), .int .i64 l, .slice (some ⟨eb, 0, none⟩) n ec, .slice (some ⟨rb, 0, none⟩) m rc] w27.drew _ from turned_any (HS27.out.keep (Fr.refl _ w27).drew) (by omega) l eb ec n E HEl.out HEo.out rb rc m rs HRL.out HRo.out HPE.out HPR.out HAP.out (by omega) (by omega)).mono ?_
        rintro e w28 ⟨rfl, hS, hF⟩
        have HS28 : Hd (St w0 wb (N + 12) sm (fun k => (¬ Ours H eb rb ([] ++ [(yv, zs)]) k ∨ w26.heap.size ≤ k) ∨ w27.heap.size ≤ k) w28) := hS
        have s1 : w28.cell? ⟨H, 0, none⟩ = some (vI l) := (((Fr.refl _ w27).drew.trans hF).cell (cell_lt0 s0) (fun e => by
          have hl := HV27.out.lts
          rcases e with (e | e) | e | e
          · exact e (Or.inl rfl)
          · omega
          · exact HV27.out.ap0.2.1 e.symm
          · exact HV27.out.ap0.2.2 e.symm)).trans s0
        clear hS hF))
      all_goals
        clear HS27 HEl HEo HRo HPE HPR HAP HV27 s0 s1
        go_wp2_with fail
        go_ret
        exact ⟨rfl, HS28.out.top⟩

end Go.Proofs.Ytcjfmfddkhpfnab
