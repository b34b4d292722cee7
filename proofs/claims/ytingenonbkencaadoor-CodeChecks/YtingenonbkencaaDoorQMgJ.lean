import Derived.Test.YtingenonbkencaaDoorQMdJ
import Derived.Test.YtingenonbkencaaDoorQLmJ
import Derived.Test.YtingenonbkencaaDoorQW6J
import Derived.Test.YtingenonbkencaaDoorRows
import Derived.ProofKit
import Derived.OpenShut
import Derived.ChangeOld
import Derived.Below
import Derived.Carry
import Derived.Deep.Slices
import Derived.SizedLaws
namespace Go.Proofs.YtingenonbkencaaDoor
open Go.RowKit (wrap32 wrap64)
set_option linter.unusedVariables false
set_option linter.unusedSimpArgs false

theorem IA.il {w : World} {v : Value} {l : List Int} (h : IA w v l) {b : Nat} (hb : w.heap.size ≤ b) : IL b w v l := by
  obtain ⟨a, c, e, h⟩ := h
  refine ⟨a, c, e, fun hne => ?_⟩
  obtain ⟨k, o, e, hk, hc⟩ := h hne
  exact ⟨k, o, e, hk, by omega, hc⟩
theorem CA.cl {w : World} {v : Value} {cs : List PI} (h : CA w v cs) (hn : FineC cs) {b : Nat} (hb : w.heap.size ≤ b) : CL b w v cs := by
  obtain ⟨a, c, e, h⟩ := h
  refine ⟨by have := hn.1; omega, a, c, e, fun hne => ?_⟩
  obtain ⟨k, o, e, hk, hc⟩ := h hne
  refine ⟨k, o, e, hk, by omega, fun j hj => ?_⟩
  obtain ⟨av, rv, h1, h2, h3, h4, h5, h6, h7, h8, h9⟩ := hc j hj
  have hf := hn.2 _ (List.getElem_mem hj)
  exact ⟨av, rv, h1, h2, h3, h4, h5, h6, h7, h8.il hb, h9.il hb, by omega, by omega⟩
theorem FA.fl {w : World} {v : Value} {fs : List PF} (h : FA w v fs) (hn : FineP fs) {b : Nat} (hb : w.heap.size ≤ b) : FL b w v fs := by
  obtain ⟨a, c, e, h⟩ := h
  refine ⟨by have := hn.1; omega, a, c, e, fun hne => ?_⟩
  obtain ⟨k, o, e, hk, hc⟩ := h hne
  refine ⟨k, o, e, hk, by omega, fun j hj => ?_⟩
  obtain ⟨cv, h1, h2, h3, h4, h5⟩ := hc j hj
  exact ⟨cv, h1, h2, h3, h4, h5.cl (hn.2 _ (List.getElem_mem hj)) hb⟩

theorem check_fa (w : World) (G : Int) (fs : List PF) (fv : Value) (h : FA w fv fs) (hn : FineP fs) (hT : Tab w) (h0 : 0 < w.heap.size) :
    Calls Tryd.prog 14 #[.agg #[vI G, fv]] w fun e w' => e = .returned (vI (rAll G fs).2) ∧ Fr (fun _ => False) w w' := by
  have := check_prog w G fs fv (h.fl hn (by omega)) hT h0
  rw [checkP_eq] at this
  exact this
theorem locs_fa (w : World) (G : Int) (fs : List PF) (fv : Value) (h : FA w fv fs) (hn : FineP fs) (hT : Tab w) (h0 : 0 < w.heap.size) :
    Calls Tryd.prog 23 #[.agg #[vI G, fv]] w fun e w' => e = .returned (vI (rLocs G fs)) ∧ Fr (fun _ => False) w w' := by
  have := locations_prog w G fs fv (h.fl hn (by omega)) hT h0
  rw [locsP_eq] at this
  exact this

set_option maxRecDepth 100000 in
set_option maxHeartbeats 4000000 in
/-- CodeChecks. -/
theorem checks_any (w : World) (G : Int) (fs : List PF) (fv : Value) (h : FA w fv fs) (hn : FineP fs) (hT : Tab w) (h0 : 0 < w.heap.size) :
    Calls Tryd.prog 8 #[.agg #[vI G, fv]] w fun e w' => e = .returned (.bool true) ∧ Fr (fun _ => False) w w' := by
  obtain ⟨fa, fc, efv, -⟩ := id h
  have hfa : Fr (fun _ => False) w (w.alloc (.cells #[vI G, fv] 26)) := Fr.alloc (Fr.refl _ w) _
  have HA : Hd (FA (w.alloc (.cells #[vI G, fv] 26)) fv fs) := h.stay hfa
  have HN : Hd (FineP fs) := hn
  have HT : Hd (Tab (w.alloc (.cells #[vI G, fv] 26))) := hT.fr hfa (fun h => h)
  have HP : Hd ((w.alloc (.cells #[vI G, fv] 26)).heap[w.heap.size]? = some (.cells #[vI G, fv] 26)) := heap_new w _
  have HF0 : Hd (Fr (fun _ => False) w (w.alloc (.cells #[vI G, fv] 26))) := hfa
  have H0 : Hd (0 < (w.alloc (.cells #[vI G, fv] 26)).heap.size) := Nat.lt_of_lt_of_le h0 hfa.size
  clear h hn hT h0 hfa
  subst efv
  obtain ⟨H, hH⟩ : ∃ H, H = w.heap.size := ⟨_, rfl⟩
  have qz : ∀ z : Int, (z == z) = true := fun z => by simp
  have qn : ∀ z : Int, (z != z) = false := fun z => by simp
  go_enter Tryd.func8, Tryd.ntmps8
  go_upto_region 1 with fail
  rw [← hH] at HP ⊢
  clear hH
  generalize w.alloc (.cells #[vI G, .slice fa fs.length fc] 26) = wa at *
  -- what every later world holds
  have PK : Hd (∀ wx, Fr (fun _ => False) wa wx → wx.cell? ⟨H, 0, none⟩ = some (vI G) ∧ wx.cell? ⟨H, 1, none⟩ = some (.slice fa fs.length fc) ∧ FA wx (.slice fa fs.length fc) fs ∧ Tab wx ∧ 0 < wx.heap.size ∧ Fr (fun _ => False) w wx) := fun wx f => by
    have hb := (f.block H (heap_lt HP.out) (fun h => h)).trans HP.out
    exact ⟨by rw [cell_of hb]; rfl, by rw [cell_of hb]; rfl, HA.out.stay f, HT.out.fr f (fun h => h), Nat.lt_of_lt_of_le H0.out f.size, HF0.out.trans f⟩
  go_wp2_with fail
  refine (works_any wa HT.out H0.out).mono ?_
  rintro e w1 ⟨rfl, f1⟩
  have F1 : Hd (Fr (fun _ => False) wa w1) := f1
  clear f1 HP HF0 HA HT H0
  obtain ⟨p0, p1, -⟩ := PK.out w1 F1.out
  go_wp2_with fail
  refine (wideProgram_any G _ fs w1 (PK.out w1 F1.out).2.2.1 HN.out).mono ?_
  rintro e w2 ⟨v', g, cv, rfl, hwf, f2⟩
  have hv := hwf.val
  subst hv
  have F2 : Hd (Fr (fun _ => False) wa (w2.alloc (.cells #[vI G, .slice (some ⟨g, 0, none⟩) fs.length (fs.length + 64)] 26))) := (F1.out.trans f2).alloc _
  have fx : Fr (fun _ => False) w2 (w2.alloc (.cells #[vI G, .slice (some ⟨g, 0, none⟩) fs.length (fs.length + 64)] 26)) := Fr.alloc (Fr.refl _ w2) _
  have XB : Hd ((w2.alloc (.cells #[vI G, .slice (some ⟨g, 0, none⟩) fs.length (fs.length + 64)] 26)).heap[w2.heap.size]? = some (.cells #[vI G, .slice (some ⟨g, 0, none⟩) fs.length (fs.length + 64)] 26)) := heap_new w2 _
  have HW : Hd (WF (w2.alloc (.cells #[vI G, .slice (some ⟨g, 0, none⟩) fs.length (fs.length + 64)] 26)) w1.heap.size (.slice (some ⟨g, 0, none⟩) fs.length (fs.length + 64)) fs g cv) := hwf.stay fx
  have HG : Hd (g < w2.heap.size) := hwf.row.lt
  have HC : Hd (∀ i, i < fs.length → ∀ k, (cv i).ownBlock = some k → k < w2.heap.size) := fun i hi k hk => ((hwf.code i fs[i] (List.getElem?_eq_getElem hi)).ge k hk).2
  have HB : Hd (wa.heap.size ≤ w1.heap.size) := F1.out.size
  have HB2 : Hd (w1.heap.size ≤ w2.heap.size) := f2.size
  clear f2 fx hwf p0 p1 F1
  go_upto_region 3 with fail
  obtain ⟨wb, hwb⟩ : ∃ wb, wb = w2.alloc (.cells #[vI G, (.slice (some ⟨g, 0, none⟩) fs.length (fs.length + 64))] 26) := ⟨_, rfl⟩
  obtain ⟨X, hX⟩ : ∃ X, X = w2.heap.size := ⟨_, rfl⟩
  rw [← hwb] at F2 XB HW
  rw [← hX] at XB HG HC HB2
  rw [show w2.alloc (.cells #[.int .i64 G, (.slice (some ⟨g, 0, none⟩) fs.length (fs.length + 64))] 26) = wb from hwb.symm, ← hX]
  obtain ⟨B, hB⟩ : ∃ B, B = w1.heap.size := ⟨_, rfl⟩
  rw [← hB] at HW HB HB2
  clear hwb hX hB
  have XK : Hd (∀ wx, Fr (fun _ => False) wb wx → wx.cell? ⟨X, 0, none⟩ = some (vI G) ∧ wx.cell? ⟨X, 1, none⟩ = some (.slice (some ⟨g, 0, none⟩) fs.length (fs.length + 64)) ∧ WF wx B (.slice (some ⟨g, 0, none⟩) fs.length (fs.length + 64)) fs g cv ∧ wx.heap[X]? = some (.cells #[vI G, (.slice (some ⟨g, 0, none⟩) fs.length (fs.length + 64))] 26)) := fun wx f => by
    have hb := (f.block X (heap_lt XB.out) (fun h => h)).trans XB.out
    exact ⟨by rw [cell_of hb]; rfl, by rw [cell_of hb]; rfl, HW.out.stay f, hb⟩
  have F3 : Hd (Fr (fun _ => False) wb wb) := Fr.refl _ wb
  clear HW XB
  obtain ⟨x0, x1, -⟩ := XK.out wb F3.out
  go_wp2_with fail
  refine (check_fa wb G fs _ (XK.out wb F3.out).2.2.1.fa HN.out (PK.out wb F2.out).2.2.2.1 (PK.out wb F2.out).2.2.2.2.1).mono ?_
  rintro e w4 ⟨rfl, f4⟩
  have F4 : Hd (Fr (fun _ => False) wb w4) := f4
  have P4 : Hd (Fr (fun _ => False) wa w4) := F2.out.trans f4
  clear f4 x0 x1 F3
  obtain ⟨x0, x1, -⟩ := XK.out w4 F4.out
  obtain ⟨zE, HZE⟩ : ∃ z, Hd (z = (rAll G fs).2) := ⟨_, rfl⟩
  rw [← HZE.out]
  go_wp2_with fail
  refine (locs_fa w4 G fs _ (XK.out w4 F4.out).2.2.1.fa HN.out (PK.out w4 P4.out).2.2.2.1 (PK.out w4 P4.out).2.2.2.2.1).mono ?_
  rintro e w5 ⟨rfl, f5⟩
  have F5 : Hd (Fr (fun _ => False) wb w5) := F4.out.trans f5
  have P5 : Hd (Fr (fun _ => False) wa w5) := P4.out.trans f5
  clear f5 x0 x1 F4 P4
  obtain ⟨x0, x1, -⟩ := XK.out w5 F5.out
  obtain ⟨p0, p1, -⟩ := PK.out w5 P5.out
  obtain ⟨zL, HZL⟩ : ∃ z, Hd (z = rLocs G fs) := ⟨_, rfl⟩
  rw [← HZL.out]
  go_wp2_with fail
  refine (eqProgram_same G fs _ _ w5 (XK.out w5 F5.out).2.2.1.fa (PK.out w5 P5.out).2.2.1 HN.out).mono ?_
  rintro e w6 ⟨rfl, f6⟩
  have F6 : Hd (Fr (fun _ => False) wb w6) := F5.out.trans f6
  have P6 : Hd (Fr (fun _ => False) wa w6) := P5.out.trans f6
  clear f6 x0 x1 p0 p1 F5 P5
  obtain ⟨x0, x1, -⟩ := XK.out w6 F6.out
  go_wp2_with fail
  refine (spareProgram_any G _ fs B g cv w6 (XK.out w6 F6.out).2.2.1 HN.out).mono ?_
  rintro e w7 ⟨rfl, f7⟩
  have F7 : Hd (Fr (fun _ => False) wb w7) := F6.out.trans f7
  have P7 : Hd (Fr (fun _ => False) wa w7) := P6.out.trans f7
  clear f7 x0 x1 F6 P6
  obtain ⟨p0, p1, -⟩ := PK.out w7 P7.out
  go_wp2_with fail
  refine (rcheck_any w7 G fs _ ((PK.out w7 P7.out).2.2.1.fl HN.out (by omega))).mono ?_
  rintro e w8 ⟨rfl, f8⟩
  rw [← HZE.out]
  have F8 : Hd (Fr (fun _ => False) wb w8) := F7.out.trans f8
  have P8 : Hd (Fr (fun _ => False) wa w8) := P7.out.trans f8
  clear f8 p0 p1 F7 P7
  obtain ⟨p0, p1, -⟩ := PK.out w8 P8.out
  go_wp2_with fail
  refine (rlocations_any w8 G fs _ ((PK.out w8 P8.out).2.2.1.fl HN.out (by omega))).mono ?_
  rintro e w9 ⟨rfl, f9⟩
  rw [← HZL.out]
  have F9 : Hd (Fr (fun _ => False) wb w9) := F8.out.trans f9
  have P9 : Hd (Fr (fun _ => False) wa w9) := P8.out.trans f9
  clear f9 p0 p1 F8 P8
  obtain ⟨x0, x1, -, -⟩ := XK.out w9 F9.out
  go_wp2_with fail
  refine (turned_any G (.slice (some ⟨g, 0, none⟩) fs.length (fs.length + 64)) fs B g cv X w9 (XK.out w9 F9.out).2.2.1 HN.out HG.out HC.out).mono ?_
  rintro e wc ⟨rfl, fc', fs', hn', hw'⟩
  have hvl := hw'.val
  have hX := (fc'.block X (heap_lt (XK.out w9 F9.out).2.2.2) (fun h => by omega)).trans (XK.out w9 F9.out).2.2.2
  have PC : Hd (Fr (fun _ => False) wa wc) := P9.out.then fc' (fun j hj hS => by have := HB.out; omega)
  have HN' : Hd (FineP fs') := hn'
  have HW : Hd (FA wc (.slice (some ⟨g, 0, none⟩) fs.length (fs.length + 64)) fs') := hw'.fa
  have XB : Hd (wc.heap[X]? = some (.cells #[vI G, (.slice (some ⟨g, 0, none⟩) fs.length (fs.length + 64))] 26)) := hX
  clear XK HN HC HG HB HB2 F9 P9 fc' hn' hw' hvl hX x0 x1 F2
  have XK : Hd (∀ wx, Fr (fun _ => False) wc wx → wx.cell? ⟨X, 0, none⟩ = some (vI G) ∧ wx.cell? ⟨X, 1, none⟩ = some (.slice (some ⟨g, 0, none⟩) fs.length (fs.length + 64)) ∧ FA wx (.slice (some ⟨g, 0, none⟩) fs.length (fs.length + 64)) fs') := fun wx f => by
    have hb := (f.block X (heap_lt XB.out) (fun h => h)).trans XB.out
    exact ⟨by rw [cell_of hb]; rfl, by rw [cell_of hb]; rfl, HW.out.stay f⟩
  obtain ⟨x0, x1, -⟩ := XK.out wc (Fr.refl _ wc)
  clear XB HW
  go_wp2_with fail
  refine (copyProgram_any G _ fs' wc (XK.out wc (Fr.refl _ wc)).2.2 HN'.out).mono ?_
  rintro e wd ⟨qv, rfl, hq, fd⟩
  obtain ⟨qa, qc, rfl, -⟩ := id hq
  have fx : Fr (fun _ => False) wd (wd.alloc (.cells #[vI G, .slice qa fs'.length qc] 26)) := Fr.alloc (Fr.refl _ wd) _
  have FE : Hd (Fr (fun _ => False) wc (wd.alloc (.cells #[vI G, .slice qa fs'.length qc] 26))) := fd.trans fx
  have QB : Hd ((wd.alloc (.cells #[vI G, .slice qa fs'.length qc] 26)).heap[wd.heap.size]? = some (.cells #[vI G, .slice qa fs'.length qc] 26)) := heap_new wd _
  have HQ : Hd (FA (wd.alloc (.cells #[vI G, .slice qa fs'.length qc] 26)) (.slice qa fs'.length qc) fs') := hq.stay fx
  clear fd fx hq x0 x1
  go_upto_region 10 with fail
  obtain ⟨we, hwe⟩ : ∃ we, we = wd.alloc (.cells #[vI G, .slice qa fs'.length qc] 26) := ⟨_, rfl⟩
  obtain ⟨Y, hY⟩ : ∃ Y, Y = wd.heap.size := ⟨_, rfl⟩
  rw [← hwe] at FE QB HQ
  rw [← hY] at QB
  rw [show wd.alloc (.cells #[.int .i64 G, .slice qa fs'.length qc] 26) = we from hwe.symm, ← hY]
  clear hwe hY
  have PE : Hd (Fr (fun _ => False) wa we) := PC.out.trans FE.out
  have QK : Hd (∀ wx, Fr (fun _ => False) we wx → wx.cell? ⟨Y, 0, none⟩ = some (vI G) ∧ wx.cell? ⟨Y, 1, none⟩ = some (.slice qa fs'.length qc) ∧ FA wx (.slice qa fs'.length qc) fs' ∧ wx.cell? ⟨X, 0, none⟩ = some (vI G) ∧ wx.cell? ⟨X, 1, none⟩ = some (.slice (some ⟨g, 0, none⟩) fs.length (fs.length + 64)) ∧ FA wx (.slice (some ⟨g, 0, none⟩) fs.length (fs.length + 64)) fs' ∧ Tab wx ∧ 0 < wx.heap.size ∧ Fr (fun _ => False) w wx) := fun wx f => by
    have hb := (f.block Y (heap_lt QB.out) (fun h => h)).trans QB.out
    obtain ⟨k1, k2, k3⟩ := XK.out wx (FE.out.trans f)
    obtain ⟨-, -, -, k4, k5, k6⟩ := PK.out wx (PE.out.trans f)
    exact ⟨by rw [cell_of hb]; rfl, by rw [cell_of hb]; rfl, HQ.out.stay f, k1, k2, k3, k4, k5, k6⟩
  have F0 : Hd (Fr (fun _ => False) we we) := Fr.refl _ we
  clear QB HQ FE PE PC XK PK HZE HZL
  obtain ⟨-, -, -, x0, x1, hxa, hxt, hx0, -⟩ := QK.out we F0.out
  have XA : Hd _ := hxa
  have XT : Hd _ := hxt
  clear hxa hxt
  obtain ⟨yE, HYE⟩ : ∃ z, Hd (z = (rAll G fs').2) := ⟨_, rfl⟩
  obtain ⟨yL, HYL⟩ : ∃ z, Hd (z = rLocs G fs') := ⟨_, rfl⟩
  go_wp2_with fail
  refine (check_fa we G fs' _ XA.out HN'.out XT.out hx0).mono ?_
  rintro e wf ⟨rfl, ff⟩
  rw [← HYE.out]
  have F1 : Hd (Fr (fun _ => False) we wf) := ff
  clear ff x0 x1 XA XT hx0
  obtain ⟨-, -, -, x0, x1, hxa, hxt, hx0, -⟩ := QK.out wf F1.out
  have XA : Hd _ := hxa
  have XT : Hd _ := hxt
  clear hxa hxt
  go_wp2_with fail
  refine (locs_fa wf G fs' _ XA.out HN'.out XT.out hx0).mono ?_
  rintro e wg ⟨rfl, fg⟩
  rw [← HYL.out]
  have F2 : Hd (Fr (fun _ => False) we wg) := F1.out.trans fg
  clear fg x0 x1 XA XT hx0 F1
  obtain ⟨y0, y1, -⟩ := QK.out wg F2.out
  go_wp2_with fail
  refine (rcheck_any wg G fs' _ ((QK.out wg F2.out).2.2.1.fl HN'.out (by omega))).mono ?_
  rintro e wh ⟨rfl, fh⟩
  rw [← HYE.out]
  have F3 : Hd (Fr (fun _ => False) we wh) := F2.out.trans fh
  clear fh y0 y1 F2
  obtain ⟨y0, y1, -⟩ := QK.out wh F3.out
  go_wp2_with fail
  refine (rlocations_any wh G fs' _ ((QK.out wh F3.out).2.2.1.fl HN'.out (by omega))).mono ?_
  rintro e wi ⟨rfl, fi⟩
  rw [← HYL.out]
  have F4 : Hd (Fr (fun _ => False) w wi) := (QK.out wi (F3.out.trans fi)).2.2.2.2.2.2.2.2
  clear fi y0 y1 F3
  go_wp2_with fail
  go_ret
  exact ⟨rfl, F4.out⟩

end Go.Proofs.YtingenonbkencaaDoor

namespace Go.Proofs.YtingenonbkencaaDoor
open Go.ChangeShapes Go.WideShapes Go.ChangeAt Go.RowKit
set_option linter.unusedVariables false
set_option linter.unusedSimpArgs false

theorem addr_off (b off i : Nat) : (⟨b, off, none⟩ : Addr).add i = ⟨b, off + i, none⟩ := by unfold Addr.add; split <;> simp_all
theorem bulk_pos {H : Type} (d : DataW H) : 1 ≤ Rows.uptoBulk d := by
  cases d with
  | lit l => cases l <;> simp [Rows.uptoBulk]
  | _ => simp [Rows.uptoBulk]
theorem bulk_len {H : Type} : ∀ (l : List (DataW H)), l.length ≤ Rows.uptoBulkAll l
  | [] => by simp
  | d :: r => by
    have h1 := bulk_pos d
    have h2 := bulk_len r
    simp only [Rows.uptoBulkAll, List.length_cons]
    omega
theorem bulk_mem {H : Type} : ∀ {l : List (DataW H)} {d : DataW H}, d ∈ l → Rows.uptoBulk d ≤ Rows.uptoBulkAll l
  | a :: r, d, h => by
    simp only [Rows.uptoBulkAll]
    rcases List.mem_cons.1 h with rfl | h
    · omega
    · have := bulk_mem h; omega

/-- A slice that came in, element by element. -/
theorem rows_of {H : Type} {enc : TypeId × Value → H} {W : World} {n t e sz : Nat} {c : Value} {x : DataW H × List MemPlace} (ht : Tryd.prog.underlying t = some (.slice e)) (hsz : Tryd.prog.cellsOf e = sz) (hs0 : 0 < sz)
    (h : DataW.trod enc Tryd.prog W 0 (fun _ => true) true n t [c] = some x) {α : Type} (dflt : α) (Pr : α → List Value → Nat → Prop) (hmono : ∀ q cs a b, a ≤ b → Pr q cs a → Pr q cs b)
    (hel : ∀ n cs (y : DataW H × List MemPlace), DataW.trod enc Tryd.prog W 0 (fun _ => true) true n e cs = some y → ∃ q, Pr q cs (Rows.uptoBulk y.1)) :
    ∃ l : List α, l.length ≤ Rows.uptoBulk x.1 ∧ ∃ a cp, c = .slice a l.length cp ∧ (l ≠ [] → ∃ k o, a = some ⟨k, o, none⟩ ∧ k < W.heap.size ∧ ∀ j (h : j < l.length), ∃ cs, Pr l[j] cs (Rows.uptoBulk x.1) ∧ ∀ i, i < sz → W.cell? ⟨k, o + j * sz + i, none⟩ = cs[i]?) := by
  rcases Deep.open_slice ht h with ⟨hcs, hx⟩ | ⟨a, len, cap, m, k, D, Pl, hcs, _, hl, hm, hmm, hx, hc⟩
  · have hcs := (List.cons.inj hcs).1
    subst hcs
    exact ⟨[], by simp, none, 0, rfl, fun h => absurd rfl h⟩
  · have hcs := (List.cons.inj hcs).1
    subst hcs
    have hmc : m = cap := by simpa using hmm
    subst hmc
    have hb : Rows.uptoBulkAll ((List.range len).map D) ≤ Rows.uptoBulk x.1 := by
      rw [hx]; simp only [Rows.uptoBulk]; omega
    have hv : ∀ i, ∃ q : α × List Value, i < len → Pr q.1 q.2 (Rows.uptoBulk x.1) ∧ q.2.length = sz ∧ ∀ j, j < sz → W.cell? ((a.add (i * sz)).add j) = q.2[j]? := by
      intro i
      by_cases hi : i < len
      · obtain ⟨cs', r0, r1⟩ := hc i (by omega)
        rw [hsz] at r0
        obtain ⟨-, hcl, hcell⟩ := World.cells?_some r0
        obtain ⟨q, hq⟩ := hel _ _ _ r1
        have h1 : Rows.uptoBulk (D i) ≤ Rows.uptoBulkAll ((List.range len).map D) := bulk_mem (List.mem_map.2 ⟨i, List.mem_range.2 hi, rfl⟩)
        exact ⟨(q, cs'), fun _ => ⟨hmono _ _ _ _ (Nat.le_trans h1 hb) hq, hcl, hcell⟩⟩
      · exact ⟨(dflt, []), fun h => absurd h hi⟩
    obtain ⟨Q, hQ⟩ : ∃ Q : Nat → α × List Value, ∀ i, i < len → Pr (Q i).1 (Q i).2 (Rows.uptoBulk x.1) ∧ (Q i).2.length = sz ∧ ∀ j, j < sz → W.cell? ((a.add (i * sz)).add j) = (Q i).2[j]? :=
      ⟨fun i => (hv i).choose, fun i => (hv i).choose_spec⟩
    have hlen : ((List.range len).map fun i => (Q i).1).length = len := by simp
    refine ⟨(List.range len).map fun i => (Q i).1, ?_, some a, m, by rw [hlen], fun hne => ?_⟩
    · rw [hlen]
      have h1 := bulk_len ((List.range len).map D)
      simp only [List.length_map, List.length_range] at h1
      omega
    · obtain ⟨b, off, spot⟩ := a
      have hpos : 0 < len := by
        rcases Nat.eq_zero_or_pos len with h0 | h0
        · exfalso; apply hne; rw [h0]; rfl
        · exact h0
      have h00 : W.cell? ((({ block := b, off := off, spot := spot } : Addr).add (0 * sz)).add 0) = some ((Q 0).2[0]'(by rw [(hQ 0 hpos).2.1]; exact hs0)) := by
        rw [(hQ 0 hpos).2.2 0 hs0]; exact List.getElem?_eq_getElem _
      have hspot : spot = none := by
        have := World.cell?_spot h00
        simpa [Addr.add] using this
      subst hspot
      simp only [addr_off] at hQ h00
      refine ⟨b, off, rfl, cell_lt h00, fun j hj => ?_⟩
      have hj' : j < len := by simpa using hj
      refine ⟨(Q j).2, ?_, (hQ j hj').2.2⟩
      have := (hQ j hj').1
      simpa using this

def fld (name : String) (type offset byteOffset : Nat) : Field := { name := name, type := type, offset := offset, embedded := false, tag := "", pkgPath := "", byteOffset := byteOffset }
theorem und3 : Tryd.prog.underlying 3 = some (.int .i64) := by kernel_rfl
theorem und71 : Tryd.prog.underlying 71 = some (.struct #[fld "Op" 3 0 0, fld "R" 3 1 8, fld "S" 3 2 16, fld "T" 3 3 24, fld "N" 3 4 32, fld "Args" 64 5 40, fld "Rets" 64 6 64]) := by kernel_rfl
theorem und67 : Tryd.prog.underlying 67 = some (.struct #[fld "Params" 3 0 0, fld "Results" 3 1 8, fld "Vars" 3 2 16, fld "Code" 65 3 24]) := by kernel_rfl
theorem und26 : Tryd.prog.underlying 26 = some (.struct #[fld "Globals" 3 0 0, fld "Funcs" 24 1 8]) := by kernel_rfl
theorem cel3 : Tryd.prog.cellsOf 3 = 1 := by kernel_rfl
theorem cel64 : Tryd.prog.cellsOf 64 = 1 := by kernel_rfl
theorem cel65 : Tryd.prog.cellsOf 65 = 1 := by kernel_rfl
theorem cel24 : Tryd.prog.cellsOf 24 = 1 := by kernel_rfl
theorem cel71 : Tryd.prog.cellsOf 71 = 7 := by kernel_rfl
theorem cel67 : Tryd.prog.cellsOf 67 = 4 := by kernel_rfl
theorem cel26 : Tryd.prog.cellsOf 26 = 2 := by kernel_rfl
theorem len_cons {n : Nat} : ∀ {cs : List Value}, cs.length = n + 1 → ∃ c r, cs = c :: r ∧ r.length = n
  | c :: r, h => ⟨c, r, rfl, by simpa using h⟩
theorem int_of {H : Type} {enc : TypeId × Value → H} {W : World} {n : Nat} {c : Value} {x : DataW H × List MemPlace} (h : DataW.trod enc Tryd.prog W 0 (fun _ => true) true n 3 [c] = some x) : ∃ z : Int, c = vI z := by
  obtain ⟨z, e, -, -⟩ := DataW.trod_int und3 h
  exact ⟨z, (List.cons.inj e).1⟩

/-- Numbers that came in. -/
theorem ints_in {H : Type} {enc : TypeId × Value → H} {W : World} {n : Nat} {c : Value} {x : DataW H × List MemPlace} (h : DataW.trod enc Tryd.prog W 0 (fun _ => true) true n 64 [c] = some x) : ∃ l, IA W c l ∧ l.length ≤ Rows.uptoBulk x.1 := by
  obtain ⟨l, hl, a, cp, e, hh⟩ := rows_of under64 cel3 (by omega) h (0 : Int) (fun q cs _ => cs = [vI q]) (fun _ _ _ _ _ h => h) (fun n cs y hy => by
    obtain ⟨z, e, -, -⟩ := DataW.trod_int und3 hy
    exact ⟨z, e⟩)
  refine ⟨l, ⟨a, cp, e, fun hne => ?_⟩, hl⟩
  obtain ⟨k, o, ea, hk, hc⟩ := hh hne
  refine ⟨k, o, ea, hk, fun j hj => ?_⟩
  obtain ⟨cs, rfl, h1⟩ := hc j hj
  have := h1 0 (by omega)
  rw [Nat.mul_one] at this
  exact this

def LeC (N : Nat) (cs : List PI) : Prop := cs.length ≤ N ∧ ∀ c ∈ cs, c.args.length ≤ N ∧ c.rets.length ≤ N
def LeP (N : Nat) (fs : List PF) : Prop := fs.length ≤ N ∧ ∀ f ∈ fs, LeC N f.code
theorem LeC.mono {a b : Nat} {cs : List PI} (h : LeC a cs) (hab : a ≤ b) : LeC b cs := ⟨Nat.le_trans h.1 hab, fun c hc => ⟨Nat.le_trans (h.2 c hc).1 hab, Nat.le_trans (h.2 c hc).2 hab⟩⟩

def IsI (W : World) (c : PI) (cs : List Value) (N : Nat) : Prop := ∃ av rv, cs = [vI c.op, vI c.r, vI c.s, vI c.t, vI c.n, av, rv] ∧ IA W av c.args ∧ IA W rv c.rets ∧ c.args.length ≤ N ∧ c.rets.length ≤ N

theorem instr_in {H : Type} {enc : TypeId × Value → H} {W : World} {n : Nat} {cs : List Value} {x : DataW H × List MemPlace} (h : DataW.trod enc Tryd.prog W 0 (fun _ => true) true n 71 cs = some x) : ∃ c : PI, IsI W c cs (Rows.uptoBulk x.1) := by
  obtain ⟨xs, k, -, rfl, hcl, hxl, hf⟩ := DataW.trod_struct und71 h
  rw [cel71] at hcl
  have hxl : xs.length = 7 := hxl
  obtain ⟨c0, r0, rfl, hl1⟩ := len_cons hcl
  obtain ⟨c1, r1, rfl, hl2⟩ := len_cons hl1
  obtain ⟨c2, r2, rfl, hl3⟩ := len_cons hl2
  obtain ⟨c3, r3, rfl, hl4⟩ := len_cons hl3
  obtain ⟨c4, r4, rfl, hl5⟩ := len_cons hl4
  obtain ⟨c5, r5, rfl, hl6⟩ := len_cons hl5
  obtain ⟨c6, r6, rfl, hl7⟩ := len_cons hl6
  obtain rfl := List.length_eq_zero_iff.1 hl7
  have g0 := hf 0 (fld "Op" 3 0 0) rfl
  have g1 := hf 1 (fld "R" 3 1 8) rfl
  have g2 := hf 2 (fld "S" 3 2 16) rfl
  have g3 := hf 3 (fld "T" 3 3 24) rfl
  have g4 := hf 4 (fld "N" 3 4 32) rfl
  have g5 := hf 5 (fld "Args" 64 5 40) rfl
  have g6 := hf 6 (fld "Rets" 64 6 64) rfl
  have ee : ∀ i (hi : i < 7), xs[i]? = some (xs[i]'(by omega)) := fun i hi => List.getElem?_eq_getElem (by omega)
  rw [ee 0 (by omega)] at g0
  rw [ee 1 (by omega)] at g1
  rw [ee 2 (by omega)] at g2
  rw [ee 3 (by omega)] at g3
  rw [ee 4 (by omega)] at g4
  rw [ee 5 (by omega)] at g5
  rw [ee 6 (by omega)] at g6
  simp only [fld, cel3, cel64, List.drop_zero, List.drop_succ_cons, List.take_succ_cons, List.take_zero] at g0 g1 g2 g3 g4 g5 g6
  obtain ⟨z0, rfl⟩ := int_of g0
  obtain ⟨z1, rfl⟩ := int_of g1
  obtain ⟨z2, rfl⟩ := int_of g2
  obtain ⟨z3, rfl⟩ := int_of g3
  obtain ⟨z4, rfl⟩ := int_of g4
  obtain ⟨la, hA, hla⟩ := ints_in g5
  obtain ⟨lr, hR, hlr⟩ := ints_in g6
  have bb : ∀ i (hi : i < 7), Rows.uptoBulk (xs[i]'(by omega)).1 ≤ Rows.uptoBulk (DataW.agg (xs.map (·.1))) := fun i hi => by
    have := bulk_mem (l := xs.map (·.1)) (List.mem_map.2 ⟨xs[i]'(by omega), List.getElem_mem _, rfl⟩)
    simp only [Rows.uptoBulk]
    omega
  exact ⟨⟨z0, z1, z2, z3, z4, la, lr⟩, c5, c6, rfl, hA, hR, Nat.le_trans hla (bb 5 (by omega)), Nat.le_trans hlr (bb 6 (by omega))⟩

theorem code_in {H : Type} {enc : TypeId × Value → H} {W : World} {n : Nat} {c : Value} {x : DataW H × List MemPlace} (h : DataW.trod enc Tryd.prog W 0 (fun _ => true) true n 65 [c] = some x) : ∃ l, CA W c l ∧ LeC (Rows.uptoBulk x.1) l := by
  obtain ⟨l, hl, a, cp, e, hh⟩ := rows_of under65 cel71 (by omega) h (⟨0, 0, 0, 0, 0, [], []⟩ : PI) (IsI W) (fun q cs a b hab ⟨av, rv, h1, h2, h3, h4, h5⟩ => ⟨av, rv, h1, h2, h3, Nat.le_trans h4 hab, Nat.le_trans h5 hab⟩) (fun n cs y hy => instr_in hy)
  refine ⟨l, ⟨a, cp, e, fun hne => ?_⟩, hl, fun c hc => ?_⟩
  · obtain ⟨k, o, ea, hk, hc⟩ := hh hne
    refine ⟨k, o, ea, hk, fun j hj => ?_⟩
    obtain ⟨cs, ⟨av, rv, rfl, h2, h3, -⟩, h1⟩ := hc j hj
    exact ⟨av, rv, h1 0 (by omega), h1 1 (by omega), h1 2 (by omega), h1 3 (by omega), h1 4 (by omega), h1 5 (by omega), h1 6 (by omega), h2, h3⟩
  · obtain ⟨j, hj, rfl⟩ := List.getElem_of_mem hc
    obtain ⟨k, o, ea, hk, hcc⟩ := hh (by intro e; simp [e] at hj)
    obtain ⟨cs, ⟨av, rv, -, -, -, h4, h5⟩, -⟩ := hcc j hj
    exact ⟨h4, h5⟩

def IsF (W : World) (f : PF) (cs : List Value) (N : Nat) : Prop := ∃ cv, cs = [vI f.P, vI f.R, vI f.V, cv] ∧ CA W cv f.code ∧ LeC N f.code

theorem func_in {H : Type} {enc : TypeId × Value → H} {W : World} {n : Nat} {cs : List Value} {x : DataW H × List MemPlace} (h : DataW.trod enc Tryd.prog W 0 (fun _ => true) true n 67 cs = some x) : ∃ f : PF, IsF W f cs (Rows.uptoBulk x.1) := by
  obtain ⟨xs, k, -, rfl, hcl, hxl, hf⟩ := DataW.trod_struct und67 h
  rw [cel67] at hcl
  have hxl : xs.length = 4 := hxl
  obtain ⟨c0, r0, rfl, hl1⟩ := len_cons hcl
  obtain ⟨c1, r1, rfl, hl2⟩ := len_cons hl1
  obtain ⟨c2, r2, rfl, hl3⟩ := len_cons hl2
  obtain ⟨c3, r3, rfl, hl4⟩ := len_cons hl3
  obtain rfl := List.length_eq_zero_iff.1 hl4
  have g0 := hf 0 (fld "Params" 3 0 0) rfl
  have g1 := hf 1 (fld "Results" 3 1 8) rfl
  have g2 := hf 2 (fld "Vars" 3 2 16) rfl
  have g3 := hf 3 (fld "Code" 65 3 24) rfl
  have ee : ∀ i (hi : i < 4), xs[i]? = some (xs[i]'(by omega)) := fun i hi => List.getElem?_eq_getElem (by omega)
  rw [ee 0 (by omega)] at g0
  rw [ee 1 (by omega)] at g1
  rw [ee 2 (by omega)] at g2
  rw [ee 3 (by omega)] at g3
  simp only [fld, cel3, cel65, List.drop_zero, List.drop_succ_cons, List.take_succ_cons, List.take_zero] at g0 g1 g2 g3
  obtain ⟨z0, rfl⟩ := int_of g0
  obtain ⟨z1, rfl⟩ := int_of g1
  obtain ⟨z2, rfl⟩ := int_of g2
  obtain ⟨l, hC, hl⟩ := code_in g3
  have bb : Rows.uptoBulk (xs[3]'(by omega)).1 ≤ Rows.uptoBulk (DataW.agg (xs.map (·.1))) := by
    have := bulk_mem (l := xs.map (·.1)) (List.mem_map.2 ⟨xs[3]'(by omega), List.getElem_mem _, rfl⟩)
    simp only [Rows.uptoBulk]
    omega
  exact ⟨⟨z0, z1, z2, l⟩, c3, rfl, hC, hl.mono bb⟩

theorem funcs_in {H : Type} {enc : TypeId × Value → H} {W : World} {n : Nat} {c : Value} {x : DataW H × List MemPlace} (h : DataW.trod enc Tryd.prog W 0 (fun _ => true) true n 24 [c] = some x) : ∃ l, FA W c l ∧ LeP (Rows.uptoBulk x.1) l := by
  obtain ⟨l, hl, a, cp, e, hh⟩ := rows_of under24 cel67 (by omega) h (⟨0, 0, 0, []⟩ : PF) (IsF W) (fun q cs a b hab ⟨cv, h1, h2, h3⟩ => ⟨cv, h1, h2, h3.mono hab⟩) (fun n cs y hy => func_in hy)
  refine ⟨l, ⟨a, cp, e, fun hne => ?_⟩, hl, fun c hc => ?_⟩
  · obtain ⟨k, o, ea, hk, hc⟩ := hh hne
    refine ⟨k, o, ea, hk, fun j hj => ?_⟩
    obtain ⟨cs, ⟨cv, rfl, h2, -⟩, h1⟩ := hc j hj
    exact ⟨cv, h1 0 (by omega), h1 1 (by omega), h1 2 (by omega), h1 3 (by omega), h2⟩
  · obtain ⟨j, hj, rfl⟩ := List.getElem_of_mem hc
    obtain ⟨k, o, ea, hk, hcc⟩ := hh (by intro e; simp [e] at hj)
    obtain ⟨cs, ⟨cv, -, -, h4⟩, -⟩ := hcc j hj
    exact h4

/-- A program that came in. -/
theorem program_in {H : Type} {enc : TypeId × Value → H} {W : World} {n : Nat} {cs : List Value} {x : DataW H × List MemPlace} (h : DataW.trod enc Tryd.prog W 0 (fun _ => true) true n 26 cs = some x) : ∃ (G : Int) (fv : Value) (fs : List PF), cs = [vI G, fv] ∧ FA W fv fs ∧ LeP (Rows.uptoBulk x.1) fs := by
  obtain ⟨xs, k, -, rfl, hcl, hxl, hf⟩ := DataW.trod_struct und26 h
  rw [cel26] at hcl
  have hxl : xs.length = 2 := hxl
  obtain ⟨c0, r0, rfl, hl1⟩ := len_cons hcl
  obtain ⟨c1, r1, rfl, hl2⟩ := len_cons hl1
  obtain rfl := List.length_eq_zero_iff.1 hl2
  have g0 := hf 0 (fld "Globals" 3 0 0) rfl
  have g1 := hf 1 (fld "Funcs" 24 1 8) rfl
  have ee : ∀ i (hi : i < 2), xs[i]? = some (xs[i]'(by omega)) := fun i hi => List.getElem?_eq_getElem (by omega)
  rw [ee 0 (by omega)] at g0
  rw [ee 1 (by omega)] at g1
  simp only [fld, cel3, cel24, List.drop_zero, List.drop_succ_cons, List.take_succ_cons, List.take_zero] at g0 g1
  obtain ⟨z0, rfl⟩ := int_of g0
  obtain ⟨l, hC, hl⟩ := funcs_in g1
  have bb : Rows.uptoBulk (xs[1]'(by omega)).1 ≤ Rows.uptoBulk (DataW.agg (xs.map (·.1))) := by
    have := bulk_mem (l := xs.map (·.1)) (List.mem_map.2 ⟨xs[1]'(by omega), List.getElem_mem _, rfl⟩)
    simp only [Rows.uptoBulk]
    omega
  exact ⟨z0, c1, l, rfl, hC, Nat.le_trans hl.1 bb, fun f hf => (hl.2 f hf).mono bb⟩

end Go.Proofs.YtingenonbkencaaDoor

namespace Go.Proofs.YtingenonbkencaaDoor
open Go.ChangeShapes Go.WideShapes Go.ChangeAt Go.RowKit
set_option linter.unusedVariables false
set_option linter.unusedSimpArgs false

theorem reach_is : reachBytes = 140737488351232 := by decide
/-- All that came in lies within the reach. -/
def Szd {H : Type} (d : DataW H) (t : Nat) : Prop := ∀ q ∈ d.weights Tryd.prog t, q ≤ reachBytes
theorem weightsAll_mem {H : Type} {P : Program} {e : TypeId} {d : DataW H} {n : Nat} (hn : n ∈ d.weights P e) : ∀ {ds : List (DataW H)}, d ∈ ds → n ∈ DataW.weightsAll P e ds
  | a :: r, h => by
    simp only [DataW.weightsAll, List.mem_append]
    rcases List.mem_cons.1 h with rfl | h
    · exact Or.inl hn
    · exact Or.inr (weightsAll_mem hn h)

/-- A slice that came in, element by element, within the reach. -/
theorem rows_sz {H : Type} {enc : TypeId × Value → H} {W : World} {n t e sz by' : Nat} {c : Value} {x : DataW H × List MemPlace} (ht : Tryd.prog.underlying t = some (.slice e)) (hsz : Tryd.prog.cellsOf e = sz) (hby : Tryd.prog.bytesOf e = by') (hs0 : 0 < sz)
    (h : DataW.trod enc Tryd.prog W 0 (fun _ => true) true n t [c] = some x) (hx : Szd x.1 t) {α : Type} (dflt : α) (Pr : α → List Value → Prop)
    (hel : ∀ n cs (y : DataW H × List MemPlace), DataW.trod enc Tryd.prog W 0 (fun _ => true) true n e cs = some y → Szd y.1 e → ∃ q, Pr q cs) :
    ∃ l : List α, l.length * by' ≤ reachBytes ∧ ∃ a cp, c = .slice a l.length cp ∧ (l ≠ [] → ∃ k o, a = some ⟨k, o, none⟩ ∧ k < W.heap.size ∧ ∀ j (h : j < l.length), ∃ cs, Pr l[j] cs ∧ ∀ i, i < sz → W.cell? ⟨k, o + j * sz + i, none⟩ = cs[i]?) := by
  rcases Deep.open_slice ht h with ⟨hcs, hx⟩ | ⟨a, len, cap, m, k, D, Pl, hcs, _, hl, hm, hmm, hxx, hc⟩
  · have hcs := (List.cons.inj hcs).1
    subst hcs
    exact ⟨[], by simp, none, 0, rfl, fun h => absurd rfl h⟩
  · have hcs := (List.cons.inj hcs).1
    subst hcs
    have hmc : m = cap := by simpa using hmm
    subst hmc
    have hw : ∀ q, q ∈ (((((List.range len).map D).length + ((List.range (m - len)).map fun j => D (len + j)).length) * by') :: DataW.weightsAll Tryd.prog e ((List.range len).map D)) → q ≤ reachBytes := by
      intro q hq
      apply hx
      rw [hxx]
      simp only [DataW.weights, ht, hby]
      rcases List.mem_cons.1 hq with rfl | hq
      · exact List.mem_cons_self
      · exact List.mem_cons_of_mem _ (List.mem_append_left _ hq)
    have hlw : len * by' ≤ reachBytes := by
      have := hw _ List.mem_cons_self
      simp only [List.length_map, List.length_range] at this
      exact Nat.le_trans (Nat.mul_le_mul_right by' (by omega)) this
    have hv : ∀ i, ∃ q : α × List Value, i < len → Pr q.1 q.2 ∧ q.2.length = sz ∧ ∀ j, j < sz → W.cell? ((a.add (i * sz)).add j) = q.2[j]? := by
      intro i
      by_cases hi : i < len
      · obtain ⟨cs', r0, r1⟩ := hc i (by omega)
        rw [hsz] at r0
        obtain ⟨-, hcl, hcell⟩ := World.cells?_some r0
        obtain ⟨q, hq⟩ := hel _ _ _ r1 (fun q hq => hw q (List.mem_cons_of_mem _ (weightsAll_mem hq (List.mem_map.2 ⟨i, List.mem_range.2 hi, rfl⟩))))
        exact ⟨(q, cs'), fun _ => ⟨hq, hcl, hcell⟩⟩
      · exact ⟨(dflt, []), fun h => absurd h hi⟩
    obtain ⟨Q, hQ⟩ : ∃ Q : Nat → α × List Value, ∀ i, i < len → Pr (Q i).1 (Q i).2 ∧ (Q i).2.length = sz ∧ ∀ j, j < sz → W.cell? ((a.add (i * sz)).add j) = (Q i).2[j]? :=
      ⟨fun i => (hv i).choose, fun i => (hv i).choose_spec⟩
    have hlen : ((List.range len).map fun i => (Q i).1).length = len := by simp
    refine ⟨(List.range len).map fun i => (Q i).1, by rw [hlen]; exact hlw, some a, m, by rw [hlen], fun hne => ?_⟩
    obtain ⟨b, off, spot⟩ := a
    have hpos : 0 < len := by
      rcases Nat.eq_zero_or_pos len with h0 | h0
      · exfalso; apply hne; rw [h0]; rfl
      · exact h0
    have h00 : W.cell? ((({ block := b, off := off, spot := spot } : Addr).add (0 * sz)).add 0) = some ((Q 0).2[0]'(by rw [(hQ 0 hpos).2.1]; exact hs0)) := by
      rw [(hQ 0 hpos).2.2 0 hs0]; exact List.getElem?_eq_getElem _
    have hspot : spot = none := by
      have := World.cell?_spot h00
      simpa [Addr.add] using this
    subst hspot
    simp only [addr_off] at hQ h00
    refine ⟨b, off, rfl, cell_lt h00, fun j hj => ?_⟩
    have hj' : j < len := by simpa using hj
    refine ⟨(Q j).2, ?_, (hQ j hj').2.2⟩
    have := (hQ j hj').1
    simpa using this

theorem byt3 : Tryd.prog.bytesOf 3 = 8 := by kernel_rfl
theorem byt71 : Tryd.prog.bytesOf 71 = 88 := by kernel_rfl
theorem byt67 : Tryd.prog.bytesOf 67 = 48 := by kernel_rfl

theorem ints_sz {H : Type} {enc : TypeId × Value → H} {W : World} {n : Nat} {c : Value} {x : DataW H × List MemPlace} (h : DataW.trod enc Tryd.prog W 0 (fun _ => true) true n 64 [c] = some x) (hx : Szd x.1 64) : ∃ l, IA W c l ∧ l.length ≤ 17592186043904 := by
  obtain ⟨l, hl, a, cp, e, hh⟩ := rows_sz under64 cel3 byt3 (by omega) h hx (0 : Int) (fun q cs => cs = [vI q]) (fun n cs y hy _ => by
    obtain ⟨z, e, -, -⟩ := DataW.trod_int und3 hy
    exact ⟨z, e⟩)
  have hr := reach_is
  refine ⟨l, ⟨a, cp, e, fun hne => ?_⟩, by omega⟩
  obtain ⟨k, o, ea, hk, hc⟩ := hh hne
  refine ⟨k, o, ea, hk, fun j hj => ?_⟩
  obtain ⟨cs, rfl, h1⟩ := hc j hj
  have := h1 0 (by omega)
  rw [Nat.mul_one] at this
  exact this

def IsIz (W : World) (c : PI) (cs : List Value) : Prop := ∃ av rv, cs = [vI c.op, vI c.r, vI c.s, vI c.t, vI c.n, av, rv] ∧ IA W av c.args ∧ IA W rv c.rets ∧ c.args.length ≤ 17592186043904 ∧ c.rets.length ≤ 17592186043904

theorem instr_sz {H : Type} {enc : TypeId × Value → H} {W : World} {n : Nat} {cs : List Value} {x : DataW H × List MemPlace} (h : DataW.trod enc Tryd.prog W 0 (fun _ => true) true n 71 cs = some x) (hx : Szd x.1 71) : ∃ c : PI, IsIz W c cs := by
  obtain ⟨xs, k, -, rfl, hcl, hxl, hf⟩ := DataW.trod_struct und71 h
  rw [cel71] at hcl
  have hxl : xs.length = 7 := hxl
  obtain ⟨c0, r0, rfl, hl1⟩ := len_cons hcl
  obtain ⟨c1, r1, rfl, hl2⟩ := len_cons hl1
  obtain ⟨c2, r2, rfl, hl3⟩ := len_cons hl2
  obtain ⟨c3, r3, rfl, hl4⟩ := len_cons hl3
  obtain ⟨c4, r4, rfl, hl5⟩ := len_cons hl4
  obtain ⟨c5, r5, rfl, hl6⟩ := len_cons hl5
  obtain ⟨c6, r6, rfl, hl7⟩ := len_cons hl6
  obtain rfl := List.length_eq_zero_iff.1 hl7
  have g0 := hf 0 (fld "Op" 3 0 0) rfl
  have g1 := hf 1 (fld "R" 3 1 8) rfl
  have g2 := hf 2 (fld "S" 3 2 16) rfl
  have g3 := hf 3 (fld "T" 3 3 24) rfl
  have g4 := hf 4 (fld "N" 3 4 32) rfl
  have g5 := hf 5 (fld "Args" 64 5 40) rfl
  have g6 := hf 6 (fld "Rets" 64 6 64) rfl
  have ee : ∀ i (hi : i < 7), xs[i]? = some (xs[i]'(by omega)) := fun i hi => List.getElem?_eq_getElem (by omega)
  rw [ee 0 (by omega)] at g0
  rw [ee 1 (by omega)] at g1
  rw [ee 2 (by omega)] at g2
  rw [ee 3 (by omega)] at g3
  rw [ee 4 (by omega)] at g4
  rw [ee 5 (by omega)] at g5
  rw [ee 6 (by omega)] at g6
  simp only [fld, cel3, cel64, List.drop_zero, List.drop_succ_cons, List.take_succ_cons, List.take_zero] at g0 g1 g2 g3 g4 g5 g6
  obtain ⟨z0, rfl⟩ := int_of g0
  obtain ⟨z1, rfl⟩ := int_of g1
  obtain ⟨z2, rfl⟩ := int_of g2
  obtain ⟨z3, rfl⟩ := int_of g3
  obtain ⟨z4, rfl⟩ := int_of g4
  have bb : ∀ i (hi : i < 7) u, (#[fld "Op" 3 0 0, fld "R" 3 1 8, fld "S" 3 2 16, fld "T" 3 3 24, fld "N" 3 4 32, fld "Args" 64 5 40, fld "Rets" 64 6 64].toList.map (·.type))[i]? = some u → Szd (xs[i]'(by omega)).1 u := fun i hi u hu q hq => by
    apply hx
    simp only [DataW.weights, und71]
    exact DataW.weights_mem_each (j := i) (t := u) (d := (xs[i]'(by omega)).1) hu (by rw [List.getElem?_map, ee i hi]; rfl) q hq
  obtain ⟨la, hA, hla⟩ := ints_sz g5 (bb 5 (by omega) 64 rfl)
  obtain ⟨lr, hR, hlr⟩ := ints_sz g6 (bb 6 (by omega) 64 rfl)
  exact ⟨⟨z0, z1, z2, z3, z4, la, lr⟩, c5, c6, rfl, hA, hR, hla, hlr⟩

theorem code_sz {H : Type} {enc : TypeId × Value → H} {W : World} {n : Nat} {c : Value} {x : DataW H × List MemPlace} (h : DataW.trod enc Tryd.prog W 0 (fun _ => true) true n 65 [c] = some x) (hx : Szd x.1 65) : ∃ l, CA W c l ∧ FineC l := by
  obtain ⟨l, hl, a, cp, e, hh⟩ := rows_sz under65 cel71 byt71 (by omega) h hx (⟨0, 0, 0, 0, 0, [], []⟩ : PI) (IsIz W) (fun n cs y hy hs => instr_sz hy hs)
  have hr := reach_is
  refine ⟨l, ⟨a, cp, e, fun hne => ?_⟩, by omega, fun c hc => ?_⟩
  · obtain ⟨k, o, ea, hk, hc⟩ := hh hne
    refine ⟨k, o, ea, hk, fun j hj => ?_⟩
    obtain ⟨cs, ⟨av, rv, rfl, h2, h3, -⟩, h1⟩ := hc j hj
    exact ⟨av, rv, h1 0 (by omega), h1 1 (by omega), h1 2 (by omega), h1 3 (by omega), h1 4 (by omega), h1 5 (by omega), h1 6 (by omega), h2, h3⟩
  · obtain ⟨j, hj, rfl⟩ := List.getElem_of_mem hc
    obtain ⟨k, o, ea, hk, hcc⟩ := hh (by intro e; simp [e] at hj)
    obtain ⟨cs, ⟨av, rv, -, -, -, h4, h5⟩, -⟩ := hcc j hj
    exact ⟨h4, h5⟩

def IsFz (W : World) (f : PF) (cs : List Value) : Prop := ∃ cv, cs = [vI f.P, vI f.R, vI f.V, cv] ∧ CA W cv f.code ∧ FineC f.code

theorem func_sz {H : Type} {enc : TypeId × Value → H} {W : World} {n : Nat} {cs : List Value} {x : DataW H × List MemPlace} (h : DataW.trod enc Tryd.prog W 0 (fun _ => true) true n 67 cs = some x) (hx : Szd x.1 67) : ∃ f : PF, IsFz W f cs := by
  obtain ⟨xs, k, -, rfl, hcl, hxl, hf⟩ := DataW.trod_struct und67 h
  rw [cel67] at hcl
  have hxl : xs.length = 4 := hxl
  obtain ⟨c0, r0, rfl, hl1⟩ := len_cons hcl
  obtain ⟨c1, r1, rfl, hl2⟩ := len_cons hl1
  obtain ⟨c2, r2, rfl, hl3⟩ := len_cons hl2
  obtain ⟨c3, r3, rfl, hl4⟩ := len_cons hl3
  obtain rfl := List.length_eq_zero_iff.1 hl4
  have g0 := hf 0 (fld "Params" 3 0 0) rfl
  have g1 := hf 1 (fld "Results" 3 1 8) rfl
  have g2 := hf 2 (fld "Vars" 3 2 16) rfl
  have g3 := hf 3 (fld "Code" 65 3 24) rfl
  have ee : ∀ i (hi : i < 4), xs[i]? = some (xs[i]'(by omega)) := fun i hi => List.getElem?_eq_getElem (by omega)
  rw [ee 0 (by omega)] at g0
  rw [ee 1 (by omega)] at g1
  rw [ee 2 (by omega)] at g2
  rw [ee 3 (by omega)] at g3
  simp only [fld, cel3, cel65, List.drop_zero, List.drop_succ_cons, List.take_succ_cons, List.take_zero] at g0 g1 g2 g3
  obtain ⟨z0, rfl⟩ := int_of g0
  obtain ⟨z1, rfl⟩ := int_of g1
  obtain ⟨z2, rfl⟩ := int_of g2
  have bb : Szd (xs[3]'(by omega)).1 65 := fun q hq => by
    apply hx
    simp only [DataW.weights, und67]
    exact DataW.weights_mem_each (j := 3) (t := 65) (d := (xs[3]'(by omega)).1) rfl (by rw [List.getElem?_map, ee 3 (by omega)]; rfl) q hq
  obtain ⟨l, hC, hl⟩ := code_sz g3 bb
  exact ⟨⟨z0, z1, z2, l⟩, c3, rfl, hC, hl⟩

theorem funcs_sz {H : Type} {enc : TypeId × Value → H} {W : World} {n : Nat} {c : Value} {x : DataW H × List MemPlace} (h : DataW.trod enc Tryd.prog W 0 (fun _ => true) true n 24 [c] = some x) (hx : Szd x.1 24) : ∃ l, FA W c l ∧ FineP l := by
  obtain ⟨l, hl, a, cp, e, hh⟩ := rows_sz under24 cel67 byt67 (by omega) h hx (⟨0, 0, 0, []⟩ : PF) (IsFz W) (fun n cs y hy hs => func_sz hy hs)
  have hr := reach_is
  refine ⟨l, ⟨a, cp, e, fun hne => ?_⟩, by omega, fun c hc => ?_⟩
  · obtain ⟨k, o, ea, hk, hc⟩ := hh hne
    refine ⟨k, o, ea, hk, fun j hj => ?_⟩
    obtain ⟨cs, ⟨cv, rfl, h2, -⟩, h1⟩ := hc j hj
    exact ⟨cv, h1 0 (by omega), h1 1 (by omega), h1 2 (by omega), h1 3 (by omega), h2⟩
  · obtain ⟨j, hj, rfl⟩ := List.getElem_of_mem hc
    obtain ⟨k, o, ea, hk, hcc⟩ := hh (by intro e; simp [e] at hj)
    obtain ⟨cs, ⟨cv, -, -, h4⟩, -⟩ := hcc j hj
    exact h4

/-- A program that came in. -/
theorem program_sz {H : Type} {enc : TypeId × Value → H} {W : World} {n : Nat} {cs : List Value} {x : DataW H × List MemPlace} (h : DataW.trod enc Tryd.prog W 0 (fun _ => true) true n 26 cs = some x) (hx : Szd x.1 26) : ∃ (G : Int) (fv : Value) (fs : List PF), cs = [vI G, fv] ∧ FA W fv fs ∧ FineP fs := by
  obtain ⟨xs, k, -, rfl, hcl, hxl, hf⟩ := DataW.trod_struct und26 h
  rw [cel26] at hcl
  have hxl : xs.length = 2 := hxl
  obtain ⟨c0, r0, rfl, hl1⟩ := len_cons hcl
  obtain ⟨c1, r1, rfl, hl2⟩ := len_cons hl1
  obtain rfl := List.length_eq_zero_iff.1 hl2
  have g0 := hf 0 (fld "Globals" 3 0 0) rfl
  have g1 := hf 1 (fld "Funcs" 24 1 8) rfl
  have ee : ∀ i (hi : i < 2), xs[i]? = some (xs[i]'(by omega)) := fun i hi => List.getElem?_eq_getElem (by omega)
  rw [ee 0 (by omega)] at g0
  rw [ee 1 (by omega)] at g1
  simp only [fld, cel3, cel24, List.drop_zero, List.drop_succ_cons, List.take_succ_cons, List.take_zero] at g0 g1
  obtain ⟨z0, rfl⟩ := int_of g0
  have bb : Szd (xs[1]'(by omega)).1 24 := fun q hq => by
    apply hx
    simp only [DataW.weights, und26]
    exact DataW.weights_mem_each (j := 1) (t := 24) (d := (xs[1]'(by omega)).1) rfl (by rw [List.getElem?_map, ee 1 (by omega)]; rfl) q hq
  obtain ⟨l, hC, hl⟩ := funcs_sz g1 bb
  exact ⟨z0, c1, l, rfl, hC, hl⟩

end Go.Proofs.YtingenonbkencaaDoor
