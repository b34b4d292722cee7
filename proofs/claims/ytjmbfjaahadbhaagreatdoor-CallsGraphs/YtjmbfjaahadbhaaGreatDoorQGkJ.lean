import Derived.Test.YtjmbfjaahadbhaaGreatDoorQGdJ
import Derived.Test.YtjmbfjaahadbhaaGreatDoorQN4J
import Derived.Test.YtjmbfjaahadbhaaGreatDoorQMeJ
set_option linter.unusedVariables false
set_option linter.unusedSimpArgs false
namespace Go.Proofs.YtjmbfjaahadbhaaGreatDoor
open Go.RowKit (wrap32 wrap64)

/-- The functions that some instructions call. -/
def callX (cs : List PI) : List Nat := (cs.filter (fun c => c.op == 11)).map (fun c => c.n.toNat)
/-- By function those that it calls. -/
def clX (fs : List PF) (f : Nat) : List Nat := callX ((fs[f]?.map (·.code)).getD [])
theorem clX_at {fs : List PF} {f : Nat} (h : f < fs.length) : clX fs f = callX fs[f].code := by unfold clX; rw [List.getElem?_eq_getElem h]; rfl
/-- Every call is of a function. -/
def CallOk (fs : List PF) : Prop := ∀ f ∈ fs, ∀ c ∈ f.code, c.op = 11 → 0 ≤ c.n ∧ c.n < (fs.length : Int)
theorem clX_lt {fs : List PF} (h : CallOk fs) {f : Nat} (hf : f < fs.length) : ∀ z ∈ clX fs f, z < fs.length := by
  intro z hz
  rw [clX_at hf] at hz
  unfold callX at hz
  rw [List.mem_map] at hz
  obtain ⟨c, hc, rfl⟩ := hz
  rw [List.mem_filter] at hc
  have := h _ (List.getElem_mem hf) c hc.1 (by simpa using hc.2)
  omega
theorem clX_len {fs : List PF} {f : Nat} (hf : f < fs.length) : (clX fs f).length ≤ fs[f].code.length := by
  rw [clX_at hf]
  unfold callX
  rw [List.length_map]
  exact List.length_filter_le _ _
theorem callX_next {cs : List PI} {k : Nat} (hk : k < cs.length) : callX (cs.take (k + 1)) = callX (cs.take k) ++ if cs[k].op = 11 then [cs[k].n.toNat] else [] := by
  unfold callX
  rw [List.take_add_one, List.getElem?_eq_getElem hk, List.filter_append, List.map_append]
  congr 1
  by_cases e : cs[k].op = 11
  · simp [e]
  · simp [e]
theorem make53 (n : Nat) (hn : n ≤ 1000000000000) (w : World) : (Instr.makeSlice 48 (.int .i64 n) (.int .i64 n)).run Tryz.prog w = .ok (.slice (some ⟨w.heap.size, 0, none⟩) n n) (w.alloc (.cells (Array.replicate n (.slice none 0 0)) 25)) := by
  rw [run_make_of 48 25 (.slice none 0 0) 1 24 (by kernel_rfl) (by kernel_rfl) (by kernel_rfl) (by kernel_rfl) n (by omega) (by omega) w, Nat.mul_one]
  congr 2
  congr 1
  unfold madeCells
  apply Array.ext
  · simp
  · intro i h1 h2
    simp [Nat.mod_one, Value.cells]
theorem Cr.congr {w : World} {B cg r : Nat} {cv : Nat → Value} {cl cl' : Nat → List Int} (h : Cr w B cg r cv cl) (e : ∀ i, i < r → cl i = cl' i) : Cr w B cg r cv cl' :=
  ⟨h.row, fun i hi => by rw [← e i hi]; exact h.own i hi, h.ap⟩
theorem Cr.mono {w : World} {B B' cg r : Nat} {cv : Nat → Value} {cl : Nat → List Int} (h : Cr w B cg r cv cl) (hB : B' ≤ B) : Cr w B' cg r cv cl :=
  ⟨h.row, fun i hi => (h.own i hi).mono hB, h.ap⟩
/-- What calledBy leaves. -/
def CbE (fs : List PF) (w : World) (e : Ending) (w' : World) : Prop :=
  ∃ g cv, e = .returned (.slice (some ⟨g, 0, none⟩) fs.length fs.length) ∧ w.heap.size ≤ g ∧ Cr w' w.heap.size g fs.length cv (fun i => zL (clX fs i)) ∧ Fr (fun _ => False) w w'
theorem fr_new {w w' : World} (f : Fr (fun k => w.heap.size ≤ k) w w') : Fr (fun _ => False) w w' := ⟨f.os, f.tape, f.output, f.size, fun k hk _ => f.block k hk (by omega)⟩

set_option maxRecDepth 100000 in
set_option maxHeartbeats 8000000 in
theorem calledBy_any (G : Int) (fv : Value) (fs : List PF) (w : World) (h : FA w fv fs) (hok : CallOk fs) (hN : fs.length ≤ 1000000) (hL : ∀ f ∈ fs, f.code.length ≤ 1000000000) :
    Calls Tryz.prog 16 #[.agg #[vI G, fv]] w (CbE fs w) := by
  obtain ⟨a0, c0, efv, -⟩ := id h
  subst efv
  have HFA : Hd (FA w (.slice a0 fs.length c0) fs) := h
  have HOK : Hd (CallOk fs) := hok
  have HL : Hd (∀ f ∈ fs, f.code.length ≤ 1000000000) := hL
  have hmk : ∀ W : World, (Instr.makeSlice 48 (.int .i64 fs.length) (.int .i64 fs.length)).run Tryz.prog W = .ok (.slice (some ⟨W.heap.size, 0, none⟩) fs.length fs.length) (W.alloc (.cells (Array.replicate fs.length (.slice none 0 0)) 25)) := fun W => make53 fs.length (by omega) W
  obtain ⟨wa, hwa⟩ : ∃ wa, wa = w.alloc (.cells #[vI G, .slice a0 fs.length c0] 24) := ⟨_, rfl⟩
  obtain ⟨H, hH⟩ : ∃ H, H = w.heap.size := ⟨_, rfl⟩
  have HH : Hd (H = w.heap.size) := hH
  have hFa : Fr (fun _ => False) w wa := by rw [hwa]; exact Fr.alloc (Fr.refl _ w) _
  have hba : wa.heap[H]? = some (.cells #[vI G, .slice a0 fs.length c0] 24) := by rw [hwa, hH]; exact heap_new0 w _
  have hsa : wa.heap.size = H + 1 := by rw [hwa, World.size_alloc, hH]
  obtain ⟨wb, hwb⟩ : ∃ wb, wb = wa.alloc (.cells (Array.replicate fs.length (.slice none 0 0)) 25) := ⟨_, rfl⟩
  have hFb : Fr (fun _ => False) wa wb := by rw [hwb]; exact Fr.alloc (Fr.refl _ wa) _
  have HBB : Hd (wb.heap[H]? = some (.cells #[vI G, .slice a0 fs.length c0] 24)) := keepF hba hFb
  have HCB : Hd (∃ cv, Cr wb (H + 2) (H + 1) fs.length cv (fun i => zL (if i < 0 then clX fs i else []))) := by
    refine ⟨fun _ => .slice none 0 0, ?_⟩
    have := Wg.Row.made wa 25 fs.length (.slice none 0 0)
    rw [← hwb, hsa] at this
    have e : (fun i => zL (if i < 0 then clX fs i else [])) = fun _ => [] := by funext i; simp
    rw [e]
    exact Cr.nils this
  have HSB : Hd (H + 2 ≤ wb.heap.size) := by unfold Hd; rw [hwb, World.size_alloc, hsa]; exact Nat.le_refl _
  have HFB : Hd (Fr (fun k => H ≤ k) w wb) := (hFa.trans hFb).mono (fun _ _ e => e.elim)
  have HWA : Hd (wa = w.alloc (.cells #[vI G, .slice a0 fs.length c0] 24)) := hwa
  have HWB : Hd (wb = wa.alloc (.cells (Array.replicate fs.length (.slice none 0 0)) 25)) := hwb
  have c1 : wa.cell? ⟨H, 1, none⟩ = some (.slice a0 fs.length c0) := by rw [cell_of0 hba]; rfl
  have c1b : wb.cell? ⟨H, 1, none⟩ = some (.slice a0 fs.length c0) := by rw [cell_of0 HBB.out]; rfl
  have HSA : Hd (wa.heap.size = H + 1) := hsa
  clear h hok hL hwa hH hFa hba hsa hwb hFb
  go_enter Tryz.func16, Tryz.ntmps16
  go_upto_region 1 with fail
  rw [← HWA.out, ← HH.out]
  clear HWA
  go_upto_region 2 with fail
  rw [← HWB.out, HSA.out]
  clear HWB HSA c1 hmk
  go_wp2_with fail
  go_loopw [14] (fun v wx => ∃ k : Nat, v = .int .i64 k ∧ k ≤ fs.length ∧ Hd (∃ cv, Cr wx (H + 2) (H + 1) fs.length cv (fun i => zL (if i < k then clX fs i else []))) ∧ Hd (wx.heap[H]? = some (.cells #[vI G, .slice a0 fs.length c0] 24)) ∧ Hd (Fr (fun k => H ≤ k) w wx) ∧ Hd (H + 2 ≤ wx.heap.size)) (fun v _ => match v with | .int _ q => fs.length - q.toNat | _ => 0)
  case atStart => exact ⟨0, rfl, Nat.zero_le _, HCB.out, HBB.out, HFB.out, HSB.out⟩
  case round =>
    clear HCB HBB HFB HSB c1b
    obtain ⟨k, rfl, hk, HC, HB, HF, HS⟩ := hrel
    have c1 : wr.cell? ⟨H, 1, none⟩ = some (.slice a0 fs.length c0) := by rw [cell_of0 HB.out]; rfl
    by_cases hlt : k < fs.length
    · have d1 : decide ((k : Int) < (fs.length : Int)) = true := by simp; omega
      have k0 : (0 : Int) ≤ k := by omega
      have k1 : (k : Int) < fs.length := by omega
      obtain ⟨a, cp, e, hh⟩ := HFA.out
      obtain ⟨fk, fo, e2, hfk, hg⟩ := hh (fun e => by simp [e] at hlt)
      obtain ⟨cv0, -, -, -, p3, hca⟩ := hg k hlt
      rw [e2] at e
      injection e with e eL eC
      clear eL eC
      subst e
      obtain ⟨ca, cc, ecv, hcode⟩ := id hca
      subst ecv
      have p3r : wr.cell? ⟨fk, fo + k * 4 + 3, none⟩ = some (.slice ca fs[k].code.length cc) := (HF.out.cell hfk (by have := HH.out; omega)).trans p3
      have hcl := HL.out _ (List.getElem_mem hlt)
      have HCD : Hd (CA w (.slice ca fs[k].code.length cc) fs[k].code) := hca
      have HCK : Hd (∀ c ∈ fs[k].code, c.op = 11 → 0 ≤ c.n ∧ c.n < (fs.length : Int)) := HOK.out _ (List.getElem_mem hlt)
      have HCX : Hd (clX fs k = callX fs[k].code) := clX_at hlt
      have HC0 : Hd (∃ cv, Cr wr (H + 2) (H + 1) fs.length cv (fun i => zL (if i < k then clX fs i else if i = k then callX (fs[k].code.take 0) else []))) := by
        obtain ⟨cv, hc⟩ := HC.out
        refine ⟨cv, ?_⟩
        have e : (fun i => zL (if i < k then clX fs i else if i = k then callX (fs[k].code.take 0) else [])) = fun i => zL (if i < k then clX fs i else []) := by funext i; simp [callX]
        rw [e]
        exact hc
      generalize hcs : fs[k].code = cs at *
      clear hcs hg hh hca hcode p3 HC hlt
      go_wp2_with fail
      obtain ⟨wi, hwi⟩ : ∃ wi, wi = wr := ⟨_, rfl⟩
      rw [← hwi] at HC0 HB HF HS ⊢
      clear hwi c1 p3r
      go_loopw [24] (fun v wx => ∃ j : Nat, v = .int .i64 j ∧ j ≤ cs.length ∧ Hd (∃ cv, Cr wx (H + 2) (H + 1) fs.length cv (fun i => zL (if i < k then clX fs i else if i = k then callX (cs.take j) else []))) ∧ Hd (wx.heap[H]? = some (.cells #[vI G, .slice (some ⟨fk, fo, none⟩) fs.length c0] 24)) ∧ Hd (Fr (fun k => H ≤ k) w wx) ∧ Hd (H + 2 ≤ wx.heap.size)) (fun v _ => match v with | .int _ q => cs.length - q.toNat | _ => 0)
      case atStart => exact ⟨0, rfl, Nat.zero_le _, HC0.out, HB.out, HF.out, HS.out⟩
      case round =>
        clear HC0 HB HF HS
        obtain ⟨j, rfl, hj, HC, HB, HF, HS⟩ := hrel
        by_cases hlj : j < cs.length
        · have d2 : decide ((j : Int) < (cs.length : Int)) = true := by simp; omega
          have j0 : (0 : Int) ≤ j := by omega
          have j1 : (j : Int) < cs.length := by omega
          obtain ⟨a, cp, e, hh⟩ := HCD.out
          obtain ⟨ck, co, e2, hck, hg⟩ := hh (fun e => by simp [e] at hlj)
          obtain ⟨av, rv, q0, q1, q2, q3, q4, q5, q6, ⟨aa, ac, ea, -⟩, ⟨ra, rc, er, -⟩⟩ := hg j hlj
          rw [e2] at e
          injection e with e eL eC
          clear eL eC
          subst e ea er
          have m : ∀ o, wr.cell? ⟨ck, o, none⟩ = w.cell? ⟨ck, o, none⟩ := fun o => HF.out.cell hck (by have := HH.out; omega)
          rw [← m] at q0 q1 q2 q3 q4 q5 q6
          have HT : Hd (callX (cs.take (j + 1)) = callX (cs.take j) ++ if cs[j].op = 11 then [cs[j].n.toNat] else []) := callX_next hlj
          have HKJ : Hd (cs[j].op = 11 → 0 ≤ cs[j].n ∧ cs[j].n < (fs.length : Int)) := HCK.out _ (List.getElem_mem hlj)
          have hlen : (callX (cs.take j)).length ≤ 1000000000 := by
            unfold callX
            rw [List.length_map]
            have := List.length_filter_le (fun c => c.op == 11) (cs.take j)
            rw [List.length_take] at this
            omega
          generalize cs[j] = c at *
          obtain ⟨wb, hwb⟩ : ∃ wb, wb = wr.alloc (.cells #[vI c.op, vI c.r, vI c.s, vI c.t, vI c.n, .slice aa c.args.length ac, .slice ra c.rets.length rc] 43) := ⟨_, rfl⟩
          have hFb : Fr (fun _ => False) wr wb := by rw [hwb]; exact Fr.alloc (Fr.refl _ wr) _
          obtain ⟨X, hX⟩ : ∃ X, X = wr.heap.size := ⟨_, rfl⟩
          have hbx : wb.heap[X]? = some (.cells #[vI c.op, vI c.r, vI c.s, vI c.t, vI c.n, .slice aa c.args.length ac, .slice ra c.rets.length rc] 43) := by rw [hwb, hX]; exact heap_new0 wr _
          have HX : Hd (X = wr.heap.size) := hX
          have HWB : Hd (wb = wr.alloc (.cells #[vI c.op, vI c.r, vI c.s, vI c.t, vI c.n, .slice aa c.args.length ac, .slice ra c.rets.length rc] 43)) := hwb
          have HBX : Hd (wb.heap[X]? = some (.cells #[vI c.op, vI c.r, vI c.s, vI c.t, vI c.n, .slice aa c.args.length ac, .slice ra c.rets.length rc] 43)) := hbx
          have x0 : wb.cell? ⟨X, 0, none⟩ = some (vI c.op) := by rw [cell_of0 hbx]; rfl
          have HC2 : Hd (∃ cv, Cr wb (H + 2) (H + 1) fs.length cv (fun i => zL (if i < k then clX fs i else if i = k then callX (cs.take j) else []))) := by
            obtain ⟨cv, hc⟩ := HC.out
            exact ⟨cv, hc.stay hFb⟩
          have HB2 : Hd (wb.heap[H]? = some (.cells #[vI G, .slice (some ⟨fk, fo, none⟩) fs.length c0] 24)) := keepF HB.out hFb
          have HF2 : Hd (Fr (fun k => H ≤ k) w wb) := HF.out.trans (hFb.mono (fun _ _ e => e.elim))
          have HS2 : Hd (H + 2 ≤ wb.heap.size) := Nat.le_trans HS.out hFb.size
          have HXS : Hd (H + 2 ≤ X) := by unfold Hd; rw [hX]; exact HS.out
          clear hg hh m hwb hFb hX hbx HC HB HF HS hlj
          by_cases hop : c.op = 11
          · have eop : (c.op == 11) = true := by simp [hop]
            obtain ⟨n, hn⟩ : ∃ n : Nat, c.n = (n : Int) := ⟨c.n.toNat, by have := HKJ.out hop; omega⟩
            have HT2 : Hd (callX (cs.take (j + 1)) = callX (cs.take j) ++ [n]) := by
              unfold Hd
              rw [HT.out, if_pos hop, hn]
              rfl
            have x4 : wb.cell? ⟨X, 4, none⟩ = some (vI (n : Int)) := by rw [cell_of0 HBX.out, ← hn]; rfl
            rw [hn] at q4 HWB HBX
            clear hn hop HT HKJ
            go_upto_region 8 with fail
            rw [← HWB.out, ← HX.out]
            clear HWB q0 q1 q2 q3 q4 q5 q6
            obtain ⟨cv, hc⟩ := HC2.out
            obtain ⟨Lk, hLk⟩ : ∃ Lk : Nat → List Int, Lk = fun i => zL (if i < k then clX fs i else if i = k then callX (cs.take j) else []) := ⟨_, rfl⟩
            rw [← hLk] at hc
            have el : Lk k = zL (callX (cs.take j)) := by rw [hLk]; simp
            obtain ⟨va, vc, ev, p0, ho⟩ := hc.cell (i := k) (by omega)
            rw [el, List.length_map] at ev p0 ho
            have hCz : Fr (fun _ => False) wb (wb.alloc (.cells #[vI (n : Int)] 3)).drew := (Fr.alloc (Fr.refl _ wb) _).drew
            have HFz : Hd (Fr (fun _ => False) wb (wb.alloc (.cells #[vI (n : Int)] 3)).drew) := hCz
            have HCV : Hd (Cr wb (H + 2) (H + 1) fs.length cv Lk) := hc
            have HLK : Hd (Lk = fun i => zL (if i < k then clX fs i else if i = k then callX (cs.take j) else [])) := hLk
            have HEV : Hd (cv k = .slice va (callX (cs.take j)).length vc) := ev
            have HRW : Hd ((wb.alloc (.cells #[vI (n : Int)] 3)).drew.ownsRow (H + 2) 3 1 (.slice va (callX (cs.take j)).length vc) (callX (cs.take j)).length ((zL (callX (cs.take j))).map vI)) := ownsRow_frL ho hCz (fun _ _ e => e)
            have HNW : Hd (∀ j' u, [vI (n : Int)][j']? = some u → (wb.alloc (.cells #[vI (n : Int)] 3)).drew.cell? ((⟨wb.heap.size, 0, none⟩ : Addr).add j') = some u) := World.news_of_block (w := wb.alloc (.cells #[vI (n : Int)] 3)) (cs := #[vI (n : Int)]) (heap_new0 wb _)
            have HSZ : Hd ((wb.alloc (.cells #[vI (n : Int)] 3)).drew.heap.size = wb.heap.size + 1) := by unfold Hd; show (wb.alloc (.cells #[vI (n : Int)] 3)).heap.size = _; rw [World.size_alloc]
            have HBS : Hd (H + 2 ≤ (wb.alloc (.cells #[vI (n : Int)] 3)).drew.heap.size) := by have := HSZ.out; have := HS2.out; unfold Hd; omega
            have p0z : (wb.alloc (.cells #[vI (n : Int)] 3)).drew.cell? ⟨H + 1, k, none⟩ = some (.slice va (callX (cs.take j)).length vc) := (hCz.cell hc.row.lt (fun e => e)).trans p0
            have p0y : (wb.alloc (.cells #[vI (n : Int)] 3)).cell? ⟨H + 1, k, none⟩ = some (.slice va (callX (cs.take j)).length vc) := p0z
            have HEL : Hd (Lk k = zL (callX (cs.take j))) := el
            have hkl : k < fs.length := by omega
            clear hCz hc ev ho HC2 el hLk
            go_upto_region 9 with fail
            go_region_law ((
              obtain ⟨i3, hi3, hz3, hs3, hb3⟩ := info_parts (P := Tryz.prog) (e := 3) (z := .int .i64 0) (size := 1) (bytes := 8) (by kernel_rfl)
              refine step_append_lies _ rfl (.tmp 36) (.tmp 39) 25 rfl (H + 2) 3 i3 (.int .i64 0) 1 8 under64 hi3 hz3 hs3 hb3 rfl (by omega) (.slice va (callX (cs.take j)).length vc) (callX (cs.take j)).length _ (by simp [Act.eval, Act.put]) HRW.out ⟨wb.heap.size, 0, none⟩ 1 1 [vI (n : Int)] (by simp [Act.eval, Act.put]) rfl HNW.out (by intro u hu; simp at hu; subst hu; rfl) (by omega) (by unfold maxLen; omega) (by omega) HBS.out (wb.heap.size + 1) (by simp) ?_
              intro g6 cap6 w9 hown6 hgrow6 hat6 hlt6
              obtain ⟨HQ1, p0, z0, hF9, hG9⟩ := Cr.push (x := (n : Int)) HCV.out HFz.out HSZ.out hkl HEV.out (by rw [HEL.out, List.length_map]) hgrow6 (by rw [HEL.out]; exact hown6) hat6
              have HC4 : Hd (∃ cv, Cr (w9.setCell ⟨H + 1, k, none⟩ (.slice (some ⟨g6, 0, none⟩) ((callX (cs.take j)).length + 1) cap6)) (H + 2) (H + 1) fs.length cv (fun i => zL (if i < k then clX fs i else if i = k then callX (cs.take (j + 1)) else []))) := by
                refine ⟨_, HQ1.congr (fun i hi => ?_)⟩
                by_cases e : i = k
                · rw [e, Wg.upd_same, HEL.out, if_neg (by omega), if_pos rfl, HT2.out, zL_app]
                · rw [Wg.upd_ne _ _ e, HLK.out]
                  show zL (if i < k then clX fs i else if i = k then callX (cs.take j) else []) = _
                  rw [if_neg e, if_neg e]
              have HB4 : Hd ((w9.setCell ⟨H + 1, k, none⟩ (.slice (some ⟨g6, 0, none⟩) ((callX (cs.take j)).length + 1) cap6)).heap[H]? = some (.cells #[vI G, .slice (some ⟨fk, fo, none⟩) fs.length c0] 24)) := (hF9.block H (heap_lt0 HB2.out) (by omega)).trans HB2.out
              have HF4 : Hd (Fr (fun k => H ≤ k) w (w9.setCell ⟨H + 1, k, none⟩ (.slice (some ⟨g6, 0, none⟩) ((callX (cs.take j)).length + 1) cap6))) := HF2.out.trans (hF9.mono (fun k _ e => by rcases e with e | e <;> omega))
              have HS4 : Hd (H + 2 ≤ (w9.setCell ⟨H + 1, k, none⟩ (.slice (some ⟨g6, 0, none⟩) ((callX (cs.take j)).length + 1) cap6)).heap.size) := Nat.le_trans HS2.out hF9.size
              clear HQ1 hown6 hgrow6 hat6 hlt6 hi3 hz3 hs3 hb3 hF9 hG9))
            all_goals
              go_wp2_with fail
              go_roundw
              case measure => simp; omega
              case rel => exact ⟨j + 1, by simp, by omega, HC4.out, HB4.out, HF4.out, HS4.out⟩
          · have eop : (c.op == 11) = false := by simp [hop]
            have HT2 : Hd (callX (cs.take (j + 1)) = callX (cs.take j)) := by
              unfold Hd
              rw [HT.out, if_neg hop, List.append_nil]
            have HC3 : Hd (∃ cv, Cr wb (H + 2) (H + 1) fs.length cv (fun i => zL (if i < k then clX fs i else if i = k then callX (cs.take (j + 1)) else []))) := by unfold Hd; rw [HT2.out]; exact HC2.out
            clear hop HT HKJ HT2 HC2
            go_upto_region 8 with fail
            rw [← HWB.out, ← HX.out]
            clear HWB q0 q1 q2 q3 q4 q5 q6
            go_wp2_with fail
            go_roundw
            case measure => simp; omega
            case rel => exact ⟨j + 1, by simp, by omega, HC3.out, HB2.out, HF2.out, HS2.out⟩
        · have d2 : decide ((j : Int) < (cs.length : Int)) = false := by simp; omega
          have d2n : ¬ j < cs.length := by omega
          have HC3 : Hd (∃ cv, Cr wr (H + 2) (H + 1) fs.length cv (fun i => zL (if i < k + 1 then clX fs i else []))) := by
            obtain ⟨cv, hc⟩ := HC.out
            refine ⟨cv, hc.congr (fun i hi => ?_)⟩
            congr 1
            by_cases e : i = k
            · subst e
              rw [if_neg (by omega), if_pos rfl, if_pos (by omega), HCX.out, List.take_of_length_le (by omega)]
            · by_cases e2 : i < k
              · rw [if_pos e2, if_pos (by omega)]
              · rw [if_neg e2, if_neg e, if_neg (by omega)]
          clear HC hlj
          go_wp2_with fail
          go_roundw
          case measure => simp; omega
          case rel => exact ⟨k + 1, by simp, by omega, HC3.out, HB.out, HF.out, HS.out⟩
    · have d1 : decide ((k : Int) < (fs.length : Int)) = false := by simp; omega
      have d1n : ¬ k < fs.length := by omega
      have HE : Hd (CbE fs w (.returned (.slice (some ⟨H + 1, 0, none⟩) fs.length fs.length)) wr) := by
        obtain ⟨cv, hc⟩ := HC.out
        have e := HH.out
        subst e
        exact ⟨w.heap.size + 1, cv, rfl, by omega, (hc.congr (fun i hi => by rw [if_pos (by omega)])).mono (by omega), fr_new HF.out⟩
      clear HC hlt
      go_wp2_with fail
      go_ret
      exact HE.out

/-! ### what is known of a program that Check lets by -/
theorem mustE_iff {ok : Bool} {e E : Int} (he : e ≠ 0) : mustE ok e E = 0 ↔ ok = true ∧ E = 0 :=
  ⟨mustE_zero he, fun ⟨h1, h2⟩ => by rw [h1, h2]; rfl⟩
def InsOk (G : Int) (fs : List PF) (R V : Int) (fl : Nat) (c : PI) (last : Bool) : Prop :=
  opB c.op = true ∧ plainB c.op c.r c.s c.t c.n c.args.length c.rets.length = true ∧ lastB last c.op = true ∧ ∀ u ∈ (partsN c.op.toNat).toList, letE G fs R V fl c u 0 = 0
theorem fold_iff {G : Int} {fs : List PF} {R V : Int} {fl : Nat} {c : PI} : ∀ (l : List UInt8) (E : Int), l.foldl (fun E u => letE G fs R V fl c u E) E = 0 ↔ E = 0 ∧ ∀ u ∈ l, letE G fs R V fl c u 0 = 0
  | [], E => by simp
  | u :: l, E => by
    rw [List.foldl_cons, fold_iff l]
    constructor
    · rintro ⟨h1, h2⟩
      have e := letE_zero h1
      subst e
      refine ⟨rfl, fun x hx => ?_⟩
      rcases List.mem_cons.1 hx with rfl | hx
      · exact h1
      · exact h2 x hx
    · rintro ⟨rfl, h⟩
      exact ⟨h u (List.mem_cons_self ..), fun x hx => h x (List.mem_cons_of_mem _ hx)⟩
theorem instrE_iff {G : Int} {fs : List PF} {R V : Int} {fl : Nat} {c : PI} {last : Bool} {L : Int} : instrE G fs R V fl c last L 0 = 0 ↔ InsOk G fs R V fl c last ∧ opL c.op L + 1 ≤ 1048576 := by
  unfold instrE InsOk
  rw [fold_iff]
  unfold opE
  rw [mustE_iff (by decide), mustE_iff (by decide), mustE_iff (by decide), mustE_iff (by decide)]
  simp only [decide_eq_true_eq]
  constructor
  · rintro ⟨⟨h1, h2, h3, h4, -⟩, h5⟩
    exact ⟨⟨h4, h3, h2, h5⟩, h1⟩
  · rintro ⟨⟨h4, h3, h2, h5⟩, h1⟩
    exact ⟨⟨h1, h2, h3, h4, trivial⟩, h5⟩
def newsC : List PI → Int
  | [] => 0
  | c :: cs => (if c.op = 6 then 1 else 0) + newsC cs
theorem newsC_ge : ∀ cs, 0 ≤ newsC cs
  | [] => by simp [newsC]
  | c :: cs => by have := newsC_ge cs; unfold newsC; split <;> omega
theorem opL_is (op L : Int) : opL op L = L + (if op = 6 then 1 else 0) := by unfold opL; split <;> omega
theorem rCode_iff {G : Int} {fs : List PF} {R V : Int} {fl : Nat} : ∀ (cs : List PI) (i : Nat) (L : Int), L + 1 ≤ 1048576 →
    ((rCode G fs R V fl i cs L 0).2 = 0 ↔ (∀ j (h : j < cs.length), InsOk G fs R V fl cs[j] (((i + j : Nat) : Int) == (fl : Int) - 1)) ∧ L + newsC cs + 1 ≤ 1048576) ∧ ((rCode G fs R V fl i cs L 0).2 = 0 → (rCode G fs R V fl i cs L 0).1 = L + newsC cs)
  | [], i, L, hL => by simp [rCode, newsC]; exact hL
  | c :: cs, i, L, hL => by
    have hn := newsC_ge cs
    have hx := @instrE_iff G fs R V fl c ((i : Int) == (fl : Int) - 1) L
    have e1 : rCode G fs R V fl i (c :: cs) L 0 = rCode G fs R V fl (i + 1) cs (opL c.op L) (instrE G fs R V fl c ((i : Int) == (fl : Int) - 1) L 0) := by simp [rCode]
    rw [e1]
    have eL := opL_is c.op L
    have eN : newsC (c :: cs) = (if c.op = 6 then 1 else 0) + newsC cs := rfl
    by_cases hz : instrE G fs R V fl c ((i : Int) == (fl : Int) - 1) L 0 = 0
    · rw [hz]
      obtain ⟨h1, h2⟩ := hx.1 hz
      obtain ⟨ih, ih2⟩ := rCode_iff cs (i + 1) (opL c.op L) h2
      refine ⟨?_, fun h => by rw [ih2 h]; omega⟩
      rw [ih]
      constructor
      · rintro ⟨k1, k2⟩
        refine ⟨fun j hj => ?_, by omega⟩
        cases j with
        | zero => exact h1
        | succ j =>
          have := k1 j (by simpa using hj)
          rw [show i + (j + 1) = i + 1 + j by omega]
          exact this
      · rintro ⟨k1, k2⟩
        refine ⟨fun j hj => ?_, by omega⟩
        have := k1 (j + 1) (by simpa using hj)
        rw [show i + (j + 1) = i + 1 + j by omega] at this
        exact this
    · rw [rCode_ne _ _ _ _ _ _ _ _ hz]
      refine ⟨⟨fun h => absurd h hz, fun ⟨k1, k2⟩ => absurd (hx.2 ⟨k1 0 (by simp), ?_⟩) hz⟩, fun h => absurd h hz⟩
      split at eL <;> omega
def HeadOk (P R V n : Int) : Prop := smallB P R V = true ∧ n ≤ 4096 ∧ 1 ≤ n
theorem HeadOk.V {P R V n : Int} (h : HeadOk P R V n) : 0 ≤ V ∧ V ≤ 255 := by
  have := h.1
  unfold smallB at this
  simp at this
  omega
theorem headE2_iff {P R V n : Int} : headE2 P R V n 0 = 0 ↔ HeadOk P R V n := by
  unfold headE2 HeadOk
  rw [mustE_iff (by decide), mustE_iff (by decide)]
  simp only [decide_eq_true_eq, Bool.and_eq_true]
  constructor
  · rintro ⟨h1, ⟨h2, h3⟩, -⟩; exact ⟨h2, h3, h1⟩
  · rintro ⟨h2, h3, h1⟩; exact ⟨h1, ⟨h2, h3⟩, trivial⟩
theorem headE_iff {P R V n L : Int} : headE P R V n L 0 = 0 ↔ HeadOk P R V n ∧ L + V + 1 ≤ 1048576 := by
  unfold headE
  rw [mustE_iff (by decide), headE2_iff]
  simp only [decide_eq_true_eq]
  constructor
  · rintro ⟨h1, h2⟩
    unfold headL at h1
    rw [if_pos (headE2_iff.2 h2)] at h1
    exact ⟨h2, h1⟩
  · rintro ⟨h2, h1⟩
    refine ⟨?_, h2⟩
    unfold headL
    rw [if_pos (headE2_iff.2 h2)]
    exact h1
def sumV : List PF → Int
  | [] => 0
  | f :: fs => f.V + sumV fs
theorem rHeads_iff : ∀ (hs : List PF) (L : Int), L + 1 ≤ 1048576 →
    ((rHeads hs L 0).2 = 0 ↔ (∀ h ∈ hs, HeadOk h.P h.R h.V h.code.length) ∧ L + sumV hs + 1 ≤ 1048576) ∧ ((rHeads hs L 0).2 = 0 → (rHeads hs L 0).1 = L + sumV hs)
  | [], L, hL => by simp [rHeads, sumV]; exact hL
  | f :: hs, L, hL => by
    have e1 : rHeads (f :: hs) L 0 = rHeads hs (headL f.P f.R f.V f.code.length L 0) (headE f.P f.R f.V f.code.length L 0) := by simp [rHeads]
    rw [e1]
    have eN : sumV (f :: hs) = f.V + sumV hs := rfl
    by_cases hz : headE f.P f.R f.V f.code.length L 0 = 0
    · rw [hz]
      obtain ⟨h1, h2⟩ := headE_iff.1 hz
      have eL : headL f.P f.R f.V f.code.length L 0 = L + f.V := by unfold headL; rw [if_pos (headE2_iff.2 h1)]
      rw [eL]
      obtain ⟨ih, ih2⟩ := rHeads_iff hs (L + f.V) h2
      refine ⟨?_, fun h => by rw [ih2 h]; omega⟩
      rw [ih]
      constructor
      · rintro ⟨k1, k2⟩
        refine ⟨fun h hh => ?_, by omega⟩
        rcases List.mem_cons.1 hh with rfl | hh
        · exact h1
        · exact k1 h hh
      · rintro ⟨k1, k2⟩
        exact ⟨fun h hh => k1 h (List.mem_cons_of_mem _ hh), by omega⟩
    · rw [rHeads_ne _ _ hz]
      refine ⟨⟨fun h => absurd h hz, fun ⟨k1, k2⟩ => absurd (headE_iff.2 ⟨k1 f (List.mem_cons_self ..), ?_⟩) hz⟩, fun h => absurd h hz⟩
      have : 0 ≤ sumV hs := by
        clear k2 e1 eN
        have : ∀ l : List PF, (∀ h ∈ l, HeadOk h.P h.R h.V h.code.length) → 0 ≤ sumV l := by
          intro l
          induction l with
          | nil => intro _; simp [sumV]
          | cons a l ih =>
            intro h
            have h1 := (h a (List.mem_cons_self ..)).V
            have h2 := ih (fun x hx => h x (List.mem_cons_of_mem _ hx))
            unfold sumV
            omega
        exact this hs (fun h hh => k1 h (List.mem_cons_of_mem _ hh))
      omega
theorem rFuncs_ok {G : Int} {FS : List PF} : ∀ (hs : List PF) (L : Int), L + 1 ≤ 1048576 → (rFuncs G FS hs L 0).2 = 0 → ∀ f ∈ hs, ∀ j (h : j < f.code.length), InsOk G FS f.R f.V f.code.length f.code[j] ((j : Int) == (f.code.length : Int) - 1)
  | [], _, _, _, f, hf => by cases hf
  | g :: hs, L, hL, h, f, hf => by
    have e1 : rFuncs G FS (g :: hs) L 0 = rFuncs G FS hs (rCode G FS g.R g.V g.code.length 0 g.code L 0).1 (rCode G FS g.R g.V g.code.length 0 g.code L 0).2 := by simp [rFuncs]
    rw [e1] at h
    obtain ⟨c1, c2⟩ := @rCode_iff G FS g.R g.V g.code.length g.code 0 L hL
    by_cases hz : (rCode G FS g.R g.V g.code.length 0 g.code L 0).2 = 0
    · obtain ⟨k1, k2⟩ := c1.1 hz
      rw [hz, c2 hz] at h
      rcases List.mem_cons.1 hf with rfl | hf
      · intro j hj
        have := k1 j hj
        rw [Nat.zero_add] at this
        exact this
      · exact rFuncs_ok hs _ k2 h f hf
    · rw [rFuncs_ne _ _ _ _ hz] at h
      exact absurd h hz
theorem check_len {G : Int} {fs : List PF} (h : checkP G fs = 0) : 1 ≤ fs.length ∧ fs.length ≤ 65535 := by
  rw [checkP_eq] at h
  unfold rAll rHd at h
  by_cases he : rE1 G fs.length = 0
  · unfold rE1 rE0 at he
    rw [mustE_iff (by decide), mustE_iff (by decide)] at he
    simp only [Bool.and_eq_true, decide_eq_true_eq, and_true] at he
    omega
  · rw [rHeads_ne _ _ he] at h
    rw [rFuncs_ne _ _ _ _ he] at h
    exact absurd h he
theorem IA.il {w : World} {v : Value} {l : List Int} (h : IA w v l) {b : Nat} (hb : w.heap.size ≤ b) : IL b w v l := by
  obtain ⟨a, c, e, h⟩ := h
  refine ⟨a, c, e, fun hne => ?_⟩
  obtain ⟨k, o, e, hk, hc⟩ := h hne
  exact ⟨k, o, e, hk, by omega, hc⟩
theorem CA.cl {w : World} {v : Value} {cs : List PI} (h : CA w v cs) (hn : FineC cs) {b : Nat} (hb : w.heap.size ≤ b) : CL b w v cs := by
  obtain ⟨a, c, e, h⟩ := h
  refine ⟨by have := hn.1; omega, a, c, e, fun hne => ?_⟩
  obtain ⟨k, o, e, hk, hc⟩ := h hne
  refine ⟨k, o, e, hk, by omega, fun j hj => ?_⟩
  obtain ⟨av, rv, h1, h2, h3, h4, h5, h6, h7, h8, h9⟩ := hc j hj
  have hf := hn.2 _ (List.getElem_mem hj)
  exact ⟨av, rv, h1, h2, h3, h4, h5, h6, h7, h8.il hb, h9.il hb, by omega, by omega⟩
theorem FA.fl {w : World} {v : Value} {fs : List PF} (h : FA w v fs) (hn : FineP fs) {b : Nat} (hb : w.heap.size ≤ b) : FL b w v fs := by
  obtain ⟨a, c, e, h⟩ := h
  refine ⟨by have := hn.1; omega, a, c, e, fun hne => ?_⟩
  obtain ⟨k, o, e, hk, hc⟩ := h hne
  refine ⟨k, o, e, hk, by omega, fun j hj => ?_⟩
  obtain ⟨cv, h1, h2, h3, h4, h5⟩ := hc j hj
  exact ⟨cv, h1, h2, h3, h4, h5.cl (hn.2 _ (List.getElem_mem hj)) hb⟩
theorem rcheck_fa (w : World) (G : Int) (fs : List PF) (fv : Value) (h : FA w fv fs) (hn : FineP fs) :
    Calls Tryz.prog 20 #[.agg #[vI G, fv]] w fun e w' => e = .returned (vI (checkP G fs)) ∧ Fr (fun _ => False) w w' := by
  have := rcheck_any w G fs fv (h.fl hn (by omega))
  rw [← checkP_eq] at this
  exact this
theorem check_fa (w : World) (G : Int) (fs : List PF) (fv : Value) (h : FA w fv fs) (hn : FineP fs) (hT : Tab w) (h0 : 0 < w.heap.size) :
    Calls Tryz.prog 15 #[.agg #[vI G, fv]] w fun e w' => e = .returned (vI (checkP G fs)) ∧ Fr (fun _ => False) w w' := check_prog w G fs fv (h.fl hn (by omega)) hT h0
theorem check_calls {G : Int} {fs : List PF} (h : checkP G fs = 0) : CallOk fs ∧ ∀ f ∈ fs, f.code.length ≤ 4096 := by
  rw [checkP_eq] at h
  unfold rAll rHd at h
  by_cases he : rE1 G fs.length = 0
  · rw [he] at h
    obtain ⟨r1, r2⟩ := rHeads_iff fs 0 (by omega)
    by_cases hz : (rHeads fs 0 0).2 = 0
    · obtain ⟨q1, q2⟩ := r1.1 hz
      rw [hz, r2 hz] at h
      refine ⟨fun f hf c hc hop => ?_, fun f hf => ?_⟩
      · obtain ⟨j, hj, rfl⟩ := List.getElem_of_mem hc
        obtain ⟨-, -, -, k4⟩ := rFuncs_ok fs _ q2 h f hf j hj
        rw [hop] at k4
        have := k4 70 (by decide)
        unfold letE at this
        rw [if_neg (by decide), if_neg (by decide), if_neg (by decide), if_neg (by decide), if_neg (by decide), if_neg (by decide), if_neg (by decide), if_neg (by decide), if_neg (by decide), if_pos rfl] at this
        rw [mustE_iff (by decide)] at this
        have k := this.1
        unfold numB at k
        simp only [Bool.and_eq_true, decide_eq_true_eq] at k
        exact k
      · have := (q1 f hf).2.1
        omega
    · rw [rFuncs_ne _ _ _ _ hz] at h
      exact absurd h hz
  · rw [rHeads_ne _ _ he] at h
    rw [rFuncs_ne _ _ _ _ he] at h
    exact absurd h he
end Go.Proofs.YtjmbfjaahadbhaaGreatDoor
