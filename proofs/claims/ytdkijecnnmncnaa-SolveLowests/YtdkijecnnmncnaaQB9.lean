import Derived.Test.YtdkijecnnmncnaaQB2J
import Derived.Test.YtdkijecnnmncnaaQB6J
import Derived.Test.YtdkijecnnmncnaaQB8
namespace Go.Proofs.Ytdkijecnnmncnaa
open Go.RowKit (wrap32 wrap64)
set_option linter.unusedVariables false
set_option linter.unusedSimpArgs false

/-- The statement's own function. -/
def cOwn : PI := ⟨15, 0, 0, 0, 0, [1], []⟩
def fOwn : PF := ⟨2, 1, 2, [cOwn]⟩
theorem owns_new {w : World} {B g e sz n : Nat} {cur : Array Value} {xs : List Value} (h : w.heap[g]? = some (.cells cur e)) (hB : B ≤ g) (hc : cur.toList = xs) (hl : xs.length = n * sz) (hn : n ≤ 1000) : w.ownsRow B e sz (.slice (some ⟨g, 0, none⟩) n n) n xs := by
  refine ⟨hl, Or.inr ⟨g, n, cur, rfl, hB, h, Nat.le_refl _, by unfold maxLen; omega, ?_, ?_⟩⟩
  · rw [← hl, ← hc]; simp
  · rw [hc, ← hl, List.take_length]

abbrev ownI (g : Nat) : Obj := .cells #[vI 15, vI 0, vI 0, vI 0, vI 0, .slice (some ⟨g, 0, none⟩) 1 1, .slice none 0 0] 29
abbrev ownF (g : Nat) : Obj := .cells #[vI 2, vI 1, vI 2, .slice (some ⟨g, 0, none⟩) 1 1] 32

set_option maxRecDepth 100000 in
set_option maxHeartbeats 4000000 in
theorem lowests_any (fv : Value) (fs : List PF) (w : World) (hfa : FA w fv fs) (hn : FineP fs) :
    Calls Try.prog 3 #[fv] w fun e w' => e = .returned (.bool true) ∧ Fr (fun _ => False) w w' := by
  obtain ⟨fa, fc, rfl, -⟩ := id hfa
  obtain ⟨i32, hi32, hz32, hs32, hb32⟩ := info_parts (P := Try.prog) (e := 32) (z := .agg #[vI 0, vI 0, vI 0, .slice none 0 0]) (size := 4) (bytes := 48) (by kernel_rfl)
  have HFA : Hd (FA w (.slice fa fs.length fc) fs) := hfa
  have HFI : Hd (FineP fs) := hn
  clear hfa hn
  go_enter Try.func3, Try.ntmps3
  go_wp2_with fail
  refine (show Calls Try.prog 4 #[.agg #[vI 0, .slice fa fs.length fc]] w _ from long_any 0 _ fs w HFA.out HFI.out).mono ?_
  rintro e w1 ⟨b, rfl, hF1, hb⟩
  cases b with
  | true =>
    have HF1 : Hd (Fr (fun _ => False) w w1) := hF1
    clear hF1 hb
    go_wp2_with fail
    go_ret
    exact ⟨rfl, HF1.out⟩
  | false =>
    have HSM : Hd (fs.length ≤ 2147483647 ∧ ∀ f ∈ fs, SmC 2147483647 f.code) := hb rfl
    have HF1 : Hd (Fr (fun _ => False) w w1) := hF1
    have HFA1 : Hd (FA w1 (.slice fa fs.length fc) fs) := HFA.out.stay hF1
    clear hF1 hb HFA
    go_wp2_with fail
    refine (show Calls Try.prog 5 #[.slice fa fs.length fc] w1 _ from copyFuncs_any _ fs w1 HFA1.out HFI.out).mono ?_
    rintro e w2 ⟨v2, L, rfl, hv2, hL, hF2⟩
    have HL : Hd (L.map (·.1) = fs) := hL
    have HLL : Hd (L.length = fs.length) := by have := congrArg List.length hL; simp at this; exact this
    obtain ⟨va, vc, ev2⟩ : ∃ va vc, v2 = .slice va L.length vc := by
      rcases hv2.row.2 with ⟨h2, h3⟩ | ⟨g, cap, cur, e, -⟩
      · exact ⟨none, 0, by rw [h2, h3]⟩
      · exact ⟨_, _, e⟩
    subst ev2
    obtain ⟨w3, hw3⟩ : ∃ w3, w3 = ((w2.alloc (.cells #[vI 1] 3)).alloc (ownI w2.heap.size)).alloc (ownF (w2.heap.size + 1)) := ⟨_, rfl⟩
    have HW3 : Hd (w3 = ((w2.alloc (.cells #[vI 1] 3)).alloc (ownI w2.heap.size)).alloc (ownF (w2.heap.size + 1))) := hw3
    have hF3 : Fr (fun _ => False) w2 w3 := by rw [hw3]; exact Fr.alloc (Fr.alloc (Fr.alloc (Fr.refl _ w2) _) _) _
    have k1 : w3.heap[w2.heap.size]? = some (.cells #[vI 1] 3) := by
      have := heap_new w2 (.cells #[vI 1] 3)
      rw [hw3, Go.RowKit.Below.heap_alloc _ _ _ (by simp; omega), Go.RowKit.Below.heap_alloc _ _ _ (by simp)]; exact this
    have k2 : w3.heap[w2.heap.size + 1]? = some (ownI w2.heap.size) := by
      have := heap_new (w2.alloc (.cells #[vI 1] 3)) (ownI w2.heap.size)
      rw [World.size_alloc] at this
      rw [hw3, Go.RowKit.Below.heap_alloc _ _ _ (by simp)]; exact this
    have k3 : w3.heap[w2.heap.size + 2]? = some (ownF (w2.heap.size + 1)) := by
      have := heap_new ((w2.alloc (.cells #[vI 1] 3)).alloc (ownI w2.heap.size)) (ownF (w2.heap.size + 1))
      rw [World.size_alloc, World.size_alloc] at this
      rw [hw3]; exact this
    have hs3 : w3.heap.size = w2.heap.size + 3 := by rw [hw3]; simp
    have hB2 : w1.heap.size ≤ w2.heap.size := hF2.size
    have HO3 : Hd (FO w3 w1.heap.size (.slice va L.length vc) L) := hv2.stay hF3
    have HC3 : Hd (CO w3 w1.heap.size (.slice (some ⟨w2.heap.size + 1, 0, none⟩) 1 1) [(cOwn, .slice (some ⟨w2.heap.size, 0, none⟩) 1 1, .slice none 0 0)]) :=
      ⟨owns_new k2 (by omega) rfl rfl (by omega), fun x hx => by
        simp at hx; subst hx
        exact ⟨owns_new k1 hB2 rfl rfl (by omega), World.ownsRow_nil _ _ _ _⟩⟩
    have HF3 : Hd (Fr (fun _ => False) w1 w3) := hF2.trans hF3
    have hnews : ∀ j u, [vI 2, vI 1, vI 2, .slice (some ⟨w2.heap.size + 1, 0, none⟩) 1 1][j]? = some u → w3.cell? ((⟨w2.heap.size + 2, 0, none⟩ : Addr).add j) = some u := by
      exact World.news_of_block (cs := #[vI 2, vI 1, vI 2, .slice (some ⟨w2.heap.size + 1, 0, none⟩) 1 1]) k3
    have hbase : w1.heap.size ≤ w3.heap.size := HF3.out.size
    have hEl : L.length + 1 ≤ 2147483648 := by have := HLL.out; have := HSM.out.1; omega
    clear hw3 hF3 k1 k2 k3 hv2 hF2 hL HFA1
    go_wp2_with ((at_builtin; refine Hd.out ?_))
    rw [← HW3.out]
    clear HW3
    unfold Hd
    refine wpList_append_lies _ rfl (.tmp 12) (.tmp 17) 22 rfl w1.heap.size 32 i32 (.agg #[vI 0, vI 0, vI 0, .slice none 0 0]) 4 48 under22 hi32 hz32 hs32 hb32 rfl (by omega) (.slice va L.length vc) L.length _ rfl HO3.out.row ⟨w2.heap.size + 2, 0, none⟩ 1 1 [vI 2, vI 1, vI 2, .slice (some ⟨w2.heap.size + 1, 0, none⟩) 1 1] rfl rfl hnews (by intro u hu; simp at hu; rcases hu with rfl | rfl | rfl | rfl <;> rfl) (by omega) (by unfold maxLen; omega) (by omega) hbase (w2.heap.size + 3) hs3 ?_
    intro g6 cap6 w6 hown6 hgrow6 hat6 hlt6
    have hF6 := grown_fr hgrow6
    have keep : ∀ (v : Value) (M : List CI), CO w3 w1.heap.size v M → CO w6 w1.heap.size v M := fun v M hM =>
      hM.fr hF6 (fun j e e2 => own_apart HO3.out.row hM.row (by decide) j e e2) (fun y hy j e e2 => by
        rcases e with e | e
        · exact own_apart HO3.out.row (hM.ints y hy).1 (by decide) j e e2
        · exact own_apart HO3.out.row (hM.ints y hy).2 (by decide) j e e2)
    have hFO : FO w6 w1.heap.size (.slice (some ⟨g6, 0, none⟩) (L.length + 1) cap6) (L ++ [(fOwn, .slice (some ⟨w2.heap.size + 1, 0, none⟩) 1 1, [(cOwn, .slice (some ⟨w2.heap.size, 0, none⟩) 1 1, .slice none 0 0)])]) := by
      refine ⟨?_, fun x hx => ?_⟩
      · rw [List.length_append, List.flatMap_append]
        exact hown6
      · rcases List.mem_append.1 hx with hx | hx
        · exact ⟨keep _ _ (HO3.out.code x hx).1, (HO3.out.code x hx).2⟩
        · simp at hx
          subst hx
          exact ⟨keep _ _ HC3.out, rfl⟩
    obtain ⟨gs, hgs⟩ : ∃ gs, gs = fs ++ [fOwn] := ⟨_, rfl⟩
    have HA : Hd (FA w6 (.slice (some ⟨g6, 0, none⟩) gs.length cap6) gs) := by
      have h1 := hFO.fa
      have e1 : (L ++ [(fOwn, Value.slice (some ⟨w2.heap.size + 1, 0, none⟩) 1 1, [(cOwn, Value.slice (some ⟨w2.heap.size, 0, none⟩) 1 1, Value.slice none 0 0)])]).map (·.1) = gs := by rw [List.map_append, HL.out, hgs]; rfl
      have e2 : L.length + 1 = gs.length := by rw [hgs, HLL.out]; simp
      rw [e1, e2] at h1
      exact h1
    have HGS : Hd (gs.length ≤ 2147483648 ∧ ∀ f ∈ gs, SmC 2147483647 f.code) := by
      unfold Hd
      refine ⟨by rw [hgs]; simp; exact HSM.out.1, fun f hf => ?_⟩
      rw [hgs] at hf
      rcases List.mem_append.1 hf with hf | hf
      · exact HSM.out.2 f hf
      · simp at hf; subst hf
        exact ⟨by decide, fun c hc => by simp [fOwn] at hc; subst hc; decide⟩
    have HF6 : Hd (Fr (fun _ => False) w w6) := grow_fr0 (HF1.out.trans HF3.out) hgrow6 (fun k hk => by have := (World.ownsRow.lt HO3.out.row k hk).1; have := HF1.out.size; omega)
    have HEL : Hd (L.length + 1 = gs.length) := by unfold Hd; rw [hgs, HLL.out]; simp
    clear hown6 hgrow6 hat6 hlt6 hF6 keep hFO hgs HO3 HC3 hnews hbase hs3 HF3 HF1 HL HSM hB2 hEl
    rw [HEL.out]
    clear HEL HLL
    obtain ⟨HROW, hg6⟩ : Hd (∀ j (h : j < gs.length), ∃ cv, w6.cell? ⟨g6, j * 4, none⟩ = some (vI gs[j].P) ∧ w6.cell? ⟨g6, j * 4 + 1, none⟩ = some (vI gs[j].R) ∧ w6.cell? ⟨g6, j * 4 + 2, none⟩ = some (vI gs[j].V) ∧ w6.cell? ⟨g6, j * 4 + 3, none⟩ = some cv ∧ CA w6 cv gs[j].code) ∧ Hd (gs ≠ [] → g6 < w6.heap.size) := by
      obtain ⟨a, cp, e, h⟩ := HA.out
      cases e
      refine ⟨fun j hj => ?_, fun hne => ?_⟩
      · obtain ⟨k', o', e2, -, hc⟩ := h (by intro e; simp [e] at hj)
        cases e2
        obtain ⟨cv, h1⟩ := hc j hj
        rw [Nat.zero_add] at h1
        exact ⟨cv, h1⟩
      · obtain ⟨k', o', e2, hk, -⟩ := h hne
        cases e2
        exact hk
    clear HA
    go_wp2_with fail
    go_loopw [3] (fun v wr => ∃ (k : Nat), v = .int .i64 k ∧ k ≤ gs.length ∧ Hd (Fr (fun _ => False) w6 wr)) (fun v _ => match v with | .int _ q => gs.length - q.toNat | _ => 0)
    case atStart => exact ⟨0, rfl, Nat.zero_le _, Fr.refl _ _⟩
    case round =>
      obtain ⟨k, rfl, hk, HFr⟩ := hrel
      have hgl : gs.length ≤ 2147483648 := HGS.out.1
      by_cases hlt : k < gs.length
      · have hk0 : (0 : Int) ≤ k := by omega
        have hk1 : (k : Int) < gs.length := by omega
        have hgk : g6 < w6.heap.size := hg6.out (by intro e; simp [e] at hlt)
        obtain ⟨cv, p0, p1, p2, p3, hcv⟩ := HROW.out k hlt
        have HSf : Hd (SmC 2147483647 gs[k].code) := HGS.out.2 _ (List.getElem_mem hlt)
        have HP : Hd (∀ wx, Fr (fun _ => False) w6 wx → wx.cell? ⟨g6, k * 4, none⟩ = some (vI gs[k].P) ∧ wx.cell? ⟨g6, k * 4 + 1, none⟩ = some (vI gs[k].R) ∧ wx.cell? ⟨g6, k * 4 + 2, none⟩ = some (vI gs[k].V) ∧ wx.cell? ⟨g6, k * 4 + 3, none⟩ = some cv) := fun wx hx => ⟨(hx.cell hgk (fun e => e)).trans p0, (hx.cell hgk (fun e => e)).trans p1, (hx.cell hgk (fun e => e)).trans p2, (hx.cell hgk (fun e => e)).trans p3⟩
        have HCV : Hd (CA w6 cv gs[k].code) := hcv
        clear p0 p1 p2 p3
        generalize gs[k] = f at *
        obtain ⟨ca, cc, ecv, -⟩ := hcv
        subst ecv
        obtain ⟨p0, p1, p2, p3⟩ := HP.out wr HFr.out
        have HSl : Hd (f.code.length ≤ 3000000000 ∧ ∀ c ∈ f.code, c.args.length ≤ 3000000000 ∧ c.rets.length ≤ 3000000000) := ⟨by have := HSf.out.1; omega, fun c hc => ⟨by have := (HSf.out.2 c hc).1; omega, by have := (HSf.out.2 c hc).2; omega⟩⟩
        have hfl : f.code.length ≤ 3000000000 := HSl.out.1
        go_wp2_with fail
        refine (show Calls Try.prog 6 #[.agg #[vI f.P, vI f.R, vI f.V, .slice ca f.code.length cc]] wr _ from spareFunc_any f _ wr (HCV.out.stay HFr.out) HSl.out.1 HSl.out.2).mono ?_
        rintro e wa ⟨x', rfl, hx, hFa⟩
        have HX : Hd (SC wa wr.heap.size x' f.code) := hx
        obtain ⟨gx, xc, Lx, exx, hxc, -, -⟩ := hx
        subst exx
        have HFa : Hd (Fr (fun _ => False) wr wa) := hFa
        obtain ⟨wb, hwb⟩ : ∃ wb, wb = wa.alloc (.cells #[vI f.P, vI f.R, vI f.V, .slice (some ⟨gx, 0, none⟩) f.code.length xc] 32) := ⟨_, rfl⟩
        have HWB : Hd (wb = wa.alloc (.cells #[vI f.P, vI f.R, vI f.V, .slice (some ⟨gx, 0, none⟩) f.code.length xc] 32)) := hwb
        have hFb : Fr (fun _ => False) wa wb := by rw [hwb]; exact Fr.alloc (Fr.refl _ wa) _
        have bF : wb.heap[wa.heap.size]? = some (.cells #[vI f.P, vI f.R, vI f.V, .slice (some ⟨gx, 0, none⟩) f.code.length xc] 32) := by rw [hwb]; exact heap_new wa _
        obtain ⟨FB, hFB⟩ : ∃ FB, FB = wa.heap.size := ⟨_, rfl⟩
        have HFB : Hd (FB = wa.heap.size) := hFB
        rw [← hFB] at bF
        have HBF : Hd (wb.heap[FB]? = some (.cells #[vI f.P, vI f.R, vI f.V, .slice (some ⟨gx, 0, none⟩) f.code.length xc] 32)) := bF
        have HXb : Hd (SC wb wr.heap.size (.slice (some ⟨gx, 0, none⟩) f.code.length xc) f.code) := HX.out.stay hFb
        have HFb : Hd (Fr (fun _ => False) wr wb) := hFa.trans hFb
        have HFBg : Hd (wr.heap.size ≤ FB) := by unfold Hd; rw [hFB]; exact hFa.size
        have b0 : wb.cell? ⟨FB, 0, none⟩ = some (vI f.P) := by rw [cell_of bF]; rfl
        have b1 : wb.cell? ⟨FB, 1, none⟩ = some (vI f.R) := by rw [cell_of bF]; rfl
        have b2 : wb.cell? ⟨FB, 2, none⟩ = some (vI f.V) := by rw [cell_of bF]; rfl
        have b3 : wb.cell? ⟨FB, 3, none⟩ = some (.slice (some ⟨gx, 0, none⟩) f.code.length xc) := by rw [cell_of bF]; rfl
        clear hwb hFb bF hFB hFa HX HFa p0 p1 p2 p3
        go_upto_region 8 with fail
        rw [← HWB.out, ← HFB.out]
        clear HWB HFB
        go_wp2_with fail
        refine (show Calls Try.prog 7 #[.agg #[vI f.P, vI f.R, vI f.V, .slice (some ⟨gx, 0, none⟩) f.code.length xc]] wb _ from lowest_any f.P f.R f.V _ _ _ wb).mono ?_
        rintro e wc ⟨v, rfl, hlow, hFc⟩
        obtain ⟨hv, rv, rfl, hI, hIB, hLB⟩ := hlow
        have hLs := hLB.la
        obtain ⟨ha, hc, ehv, -⟩ := id hI
        obtain ⟨ra, rc, erv, -⟩ := id hLs
        subst ehv; subst erv
        obtain ⟨wd, hwd⟩ : ∃ wd, wd = wc.alloc (.cells #[.slice ha (lowH f.P f.R).length hc, .slice ra (lowL f.P f.R).length rc] 36) := ⟨_, rfl⟩
        have HWD : Hd (wd = wc.alloc (.cells #[.slice ha (lowH f.P f.R).length hc, .slice ra (lowL f.P f.R).length rc] 36)) := hwd
        have hFd : Fr (fun _ => False) wc wd := by rw [hwd]; exact Fr.alloc (Fr.refl _ wc) _
        have bS : wd.heap[wc.heap.size]? = some (.cells #[.slice ha (lowH f.P f.R).length hc, .slice ra (lowL f.P f.R).length rc] 36) := by rw [hwd]; exact heap_new wc _
        obtain ⟨SB, hSB⟩ : ∃ SB, SB = wc.heap.size := ⟨_, rfl⟩
        have HSB : Hd (SB = wc.heap.size) := hSB
        rw [← hSB] at bS
        have HBS : Hd (wd.heap[SB]? = some (.cells #[.slice ha (lowH f.P f.R).length hc, .slice ra (lowL f.P f.R).length rc] 36)) := bS
        have hFbd : Fr (fun _ => False) wb wd := hFc.trans hFd
        have HBFd : Hd (wd.heap[FB]? = some (.cells #[vI f.P, vI f.R, vI f.V, .slice (some ⟨gx, 0, none⟩) f.code.length xc] 32)) := keepF HBF.out hFbd
        have HXd : Hd (SC wd wr.heap.size (.slice (some ⟨gx, 0, none⟩) f.code.length xc) f.code) := HXb.out.stay hFbd
        have HFd : Hd (Fr (fun _ => False) wr wd) := HFb.out.trans hFbd
        have HSBg : Hd (wr.heap.size ≤ SB) := by unfold Hd; rw [hSB]; exact Nat.le_trans HFb.out.size hFc.size
        have HId : Hd (IA wd (.slice ha (lowH f.P f.R).length hc) (lowH f.P f.R)) := hI.stay hFd
        have HLd : Hd (LA wd (.slice ra (lowL f.P f.R).length rc) (lowL f.P f.R)) := hLs.stay hFd
        have HCd : Hd (CA wd (.slice ca f.code.length cc) f.code) := HCV.out.stay (HFr.out.trans HFd.out)
        clear hwd hFd bS hSB hFc hI hLs hIB hLB hFbd HXb HFb HBF b0 b1 b2 b3
        go_upto_region 9 with fail
        rw [← HWD.out, ← HSB.out]
        clear HWD HSB
        have HS : Hd (∀ wx, Fr (fun _ => False) wd wx → (fun w' => w'.cell? ⟨SB, 0, none⟩ = some (.slice ha (lowH f.P f.R).length hc) ∧ w'.cell? ⟨SB, 1, none⟩ = some (.slice ra (lowL f.P f.R).length rc) ∧ w'.cell? ⟨FB, 0, none⟩ = some (vI f.P) ∧ w'.cell? ⟨FB, 1, none⟩ = some (vI f.R) ∧ w'.cell? ⟨FB, 2, none⟩ = some (vI f.V) ∧ w'.cell? ⟨FB, 3, none⟩ = some (.slice (some ⟨gx, 0, none⟩) f.code.length xc) ∧ w'.cell? ⟨g6, k * 4, none⟩ = some (vI f.P) ∧ w'.cell? ⟨g6, k * 4 + 1, none⟩ = some (vI f.R) ∧ w'.cell? ⟨g6, k * 4 + 2, none⟩ = some (vI f.V) ∧ w'.cell? ⟨g6, k * 4 + 3, none⟩ = some (.slice ca f.code.length cc)) wx) := fun wx hx => by
          obtain ⟨p0, p1, p2, p3⟩ := HP.out wx ((HFr.out.trans HFd.out).trans hx)
          have bS := keepF HBS.out hx
          have bF := keepF HBFd.out hx
          exact ⟨by rw [cell_of bS]; rfl, by rw [cell_of bS]; rfl, by rw [cell_of bF]; rfl, by rw [cell_of bF]; rfl, by rw [cell_of bF]; rfl, by rw [cell_of bF]; rfl, p0, p1, p2, p3⟩
        obtain ⟨s0, s1, b0, b1, b2, b3, p0, p1, p2, p3⟩ := HS.out wd (Fr.refl _ wd)
        have hlH : (lowH f.P f.R).length ≤ 8 := lowH_len _ _
        have hlL : (lowL f.P f.R).length ≤ 8 := lowL_len _ _
        go_cut [48] (fun x48 wx => x48 = .bool false ∧ Hd (Fr (fun _ => False) wd wx))
        case first =>
          go_region_held3 (fun w' => w'.cell? ⟨SB, 0, none⟩ = some (.slice ha (lowH f.P f.R).length hc) ∧ w'.cell? ⟨SB, 1, none⟩ = some (.slice ra (lowL f.P f.R).length rc) ∧ w'.cell? ⟨FB, 0, none⟩ = some (vI f.P) ∧ w'.cell? ⟨FB, 1, none⟩ = some (vI f.R) ∧ w'.cell? ⟨FB, 2, none⟩ = some (vI f.V) ∧ w'.cell? ⟨FB, 3, none⟩ = some (.slice (some ⟨gx, 0, none⟩) f.code.length xc) ∧ w'.cell? ⟨g6, k * 4, none⟩ = some (vI f.P) ∧ w'.cell? ⟨g6, k * 4 + 1, none⟩ = some (vI f.R) ∧ w'.cell? ⟨g6, k * 4 + 2, none⟩ = some (vI f.V) ∧ w'.cell? ⟨g6, k * 4 + 3, none⟩ = some (.slice ca f.code.length cc)) (go_keep) ((
            first
              | (go_at_call 9
                 refine (show Calls Try.prog 9 #[.agg #[vI f.P, vI f.R, vI f.V, .slice ca f.code.length cc]] wd.drew _ from rlowest_any f.P f.R f.V _ _ _ wd.drew).mono ?_
                 rintro e w7 ⟨v7, rfl, hl7, hF7⟩
                 obtain ⟨h7, r7, rfl, hI7, -, hLB7⟩ := hl7
                 have hL7 := hLB7.la
                 obtain ⟨ha7, hc7, eh7, -⟩ := id hI7
                 obtain ⟨ra7, rc7, er7, -⟩ := id hL7
                 subst eh7; subst er7
                 have hG7 : Fr (fun _ => False) wd w7 := (Fr.drew (Fr.refl _ wd)).trans hF7
                 have HG7 : Hd (Fr (fun _ => False) wd w7) := hG7
                 obtain ⟨s0, s1, b0, b1, b2, b3, p0, p1, p2, p3⟩ := HS.out w7 hG7
                 have HI7 : Hd (IA w7 (.slice ha7 (lowH f.P f.R).length hc7) (lowH f.P f.R)) := hI7
                 have HL7 : Hd (LA w7 (.slice ra7 (lowL f.P f.R).length rc7) (lowL f.P f.R)) := hL7
                 clear hI7 hL7 hF7 hG7 hLB7)
              | (go_at_call 8
                 refine (show Calls Try.prog 8 #[.agg #[.slice ha (lowH f.P f.R).length hc, .slice ra (lowL f.P f.R).length rc], .agg #[.slice ha7 (lowH f.P f.R).length hc7, .slice ra7 (lowL f.P f.R).length rc7]] w7 _ from eqSummary_same _ _ _ _ (lowH f.P f.R) (lowL f.P f.R) w7 (HId.out.stay HG7.out) (HLd.out.stay HG7.out) HI7.out HL7.out (by omega) (by omega) (lowL_each _ _)).mono ?_
                 rintro e w8 ⟨rfl, hF8⟩
                 have hG8 : Fr (fun _ => False) wd w8 := HG7.out.trans hF8
                 have HG8 : Hd (Fr (fun _ => False) wd w8) := hG8
                 obtain ⟨s0, s1, b0, b1, b2, b3, p0, p1, p2, p3⟩ := HS.out w8 hG8
                 clear hF8 hG8)
              | (go_at_call 10
                 refine (show Calls Try.prog 10 #[.agg #[vI f.P, vI f.R, vI f.V, .slice (some ⟨gx, 0, none⟩) f.code.length xc], .agg #[vI f.P, vI f.R, vI f.V, .slice ca f.code.length cc]] w8 _ from staysFunc_any f _ _ wr.heap.size w8 (HXd.out.stay HG8.out) (HCd.out.stay HG8.out) HSl.out.1 HSl.out.2).mono ?_
                 rintro e w9 ⟨rfl, hF9⟩
                 have hG9 : Fr (fun _ => False) wd w9 := HG8.out.trans hF9
                 have HG9 : Hd (Fr (fun _ => False) wd w9) := hG9
                 obtain ⟨s0, s1, b0, b1, b2, b3, p0, p1, p2, p3⟩ := HS.out w9 hG9
                 clear hF9 hG9)))
          go_wp2_with fail
          go_meet
          exact ⟨rfl, HG9.out⟩
        case rest =>
          obtain ⟨rfl, HFe⟩ := hcut
          obtain ⟨W0, hW0⟩ : ∃ W0, W0 = wr := ⟨_, rfl⟩
          have HW0 : Hd (Fr (fun _ => False) w6 W0) := by rw [hW0]; exact HFr.out
          have HFq : Hd (Fr (fun _ => False) W0 wc) := by rw [hW0]; exact HFd.out.trans HFe.out
          have HFg : Hd (W0.heap.size ≤ FB) := by rw [hW0]; exact HFBg.out
          have HSg : Hd (W0.heap.size ≤ SB) := by rw [hW0]; exact HSBg.out
          have HBF : Hd (wc.heap[FB]? = some (.cells #[vI f.P, vI f.R, vI f.V, .slice (some ⟨gx, 0, none⟩) f.code.length xc] 32)) := keepF HBFd.out HFe.out
          have HBS2 : Hd (∃ x y, wc.heap[SB]? = some (.cells #[x, y] 36)) := ⟨_, _, keepF HBS.out HFe.out⟩
          obtain ⟨HGg, HGX⟩ : Hd (W0.heap.size ≤ gx) ∧ Hd (∃ cur, wc.heap[gx]? = some (.cells cur 29) ∧ f.code.length * 7 ≤ cur.size) := by
            obtain ⟨g', c', L', e, hcap, hL', hCS⟩ := HXd.out
            cases e
            rcases hCS.row.2 with ⟨e, -⟩ | ⟨g2, cap2, cur2, e, h3, h4, h5, h6, h7, -⟩
            · cases e
            · simp only [Value.slice.injEq, Option.some.injEq, Addr.mk.injEq, and_true] at e
              obtain ⟨e1, e2, e3⟩ := e
              subst e1
              refine ⟨by rw [hW0]; exact h3, cur2, keepF h4 HFe.out, ?_⟩
              rw [h7]; omega
          clear hW0 s0 s1 b0 b1 b2 b3 p0 p1 p2 p3 HS HFe HFd HBFd HBS HXd HId HLd HCd HFBg HSBg HFr hlH hlL
          go_wp2_with fail
          go_loopw [6] (fun v wr => ∃ (j : Nat), v = .int .i64 j ∧ j ≤ f.code.length ∧ Hd (∃ cur, wr.heap[gx]? = some (.cells cur 29) ∧ f.code.length * 7 ≤ cur.size) ∧ Hd (wr.heap[FB]? = some (.cells #[vI f.P, vI f.R, vI f.V, .slice (some ⟨gx, 0, none⟩) f.code.length xc] 32)) ∧ Hd (∃ x y, wr.heap[SB]? = some (.cells #[x, y] 36)) ∧ Hd (Fr (fun _ => False) W0 wr)) (fun v _ => match v with | .int _ q => f.code.length - q.toNat | _ => 0)
          case atStart => exact ⟨0, rfl, Nat.zero_le _, HGX.out, HBF.out, HBS2.out, HFq.out⟩
          case round =>
            clear HGX HBF HBS2 HFq
            obtain ⟨j, rfl, hj, HGX, HBF, HBS, HFq⟩ := hrel
            have b3 : wr.cell? ⟨FB, 3, none⟩ = some (.slice (some ⟨gx, 0, none⟩) f.code.length xc) := by rw [cell_of HBF.out]; rfl
            have nFg : FB ≠ gx := fun e => by
              obtain ⟨cur, h, -⟩ := HGX.out
              rw [← e] at h
              injection (Option.some.inj (HBF.out.symm.trans h)) with _ e; exact absurd e (by decide)
            have nSg : SB ≠ gx := fun e => by
              obtain ⟨cur, h, -⟩ := HGX.out
              obtain ⟨x, y, h2⟩ := HBS.out
              rw [← e] at h
              injection (Option.some.inj (h2.symm.trans h)) with _ e; exact absurd e (by decide)
            have nSF : SB ≠ FB := fun e => by
              obtain ⟨x, y, h2⟩ := HBS.out
              rw [e] at h2
              injection (Option.some.inj (HBF.out.symm.trans h2)) with _ e; exact absurd e (by decide)
            by_cases hltj : j < f.code.length
            · have hj0 : (0 : Int) ≤ j := by omega
              have hj1 : (j : Int) < f.code.length := by omega
              obtain ⟨cur, hcur, hsz⟩ := HGX.out
              have q : ∀ o, o < 7 → wr.cell? ⟨gx, j * 7 + o, none⟩ = some (cur.getD (j * 7 + o) undef) := fun o ho => by
                rw [cell_of hcur]
                have : j * 7 + o < cur.size := by omega
                simp [this]
              have q0 := q 0 (by omega)
              have q1 := q 1 (by omega)
              have q2 := q 2 (by omega)
              have q3 := q 3 (by omega)
              have q4 := q 4 (by omega)
              have q5 := q 5 (by omega)
              have q6 := q 6 (by omega)
              rw [Nat.add_zero] at q0
              have z0 := frozen_of hcur (j * 7)
              have z1 := frozen_of hcur (j * 7 + 1)
              have z2 := frozen_of hcur (j * 7 + 2)
              have z3 := frozen_of hcur (j * 7 + 3)
              have z4 := frozen_of hcur (j * 7 + 4)
              have z5 := frozen_of hcur (j * 7 + 5)
              have z6 := frozen_of hcur (j * 7 + 6)
              have fz := sev7_fr wr gx (j * 7) [vI 16, vI (j : Int), vI 0, vI 0, vI 0, .slice none 0 0, .slice none 0 0]
              have HGz : Hd (∃ cur, (sev7 wr gx (j * 7) [vI 16, vI (j : Int), vI 0, vI 0, vI 0, .slice none 0 0, .slice none 0 0]).heap[gx]? = some (.cells cur 29) ∧ f.code.length * 7 ≤ cur.size) :=
                ⟨_, set_of (set_of (set_of (set_of (set_of (set_of (set_of hcur _ _) _ _) _ _) _ _) _ _) _ _) _ _, by simpa using hsz⟩
              have HBz : Hd ((sev7 wr gx (j * 7) [vI 16, vI (j : Int), vI 0, vI 0, vI 0, .slice none 0 0, .slice none 0 0]).heap[FB]? = some (.cells #[vI f.P, vI f.R, vI f.V, .slice (some ⟨gx, 0, none⟩) f.code.length xc] 32)) := (fz.block FB (heap_lt HBF.out) nFg).trans HBF.out
              have HSz : Hd (∃ x y, (sev7 wr gx (j * 7) [vI 16, vI (j : Int), vI 0, vI 0, vI 0, .slice none 0 0, .slice none 0 0]).heap[SB]? = some (.cells #[x, y] 36)) := by
                obtain ⟨x, y, h2⟩ := HBS.out
                exact ⟨x, y, (fz.block SB (heap_lt h2) nSg).trans h2⟩
              have HFz : Hd (Fr (fun _ => False) W0 (sev7 wr gx (j * 7) [vI 16, vI (j : Int), vI 0, vI 0, vI 0, .slice none 0 0, .slice none 0 0])) := HFq.out.then fz (fun i hi e => by have := HGg.out; omega)
              clear q fz hcur hsz HGX HBF HBS HFq nFg nSg nSF
              generalize cur.getD (j * 7) undef = u0 at *
              generalize cur.getD (j * 7 + 1) undef = u1 at *
              generalize cur.getD (j * 7 + 2) undef = u2 at *
              generalize cur.getD (j * 7 + 3) undef = u3 at *
              generalize cur.getD (j * 7 + 4) undef = u4 at *
              generalize cur.getD (j * 7 + 5) undef = u5 at *
              generalize cur.getD (j * 7 + 6) undef = u6 at *
              go_upto_region 13 with fail
              change Code.wp Try.prog _ _ _ (sev7 wr gx (j * 7) [vI 16, vI (j : Int), vI 0, vI 0, vI 0, .slice none 0 0, .slice none 0 0])
              clear q0 q1 q2 q3 q4 q5 q6 z0 z1 z2 z3 z4 z5 z6 b3
              generalize sev7 wr gx (j * 7) [vI 16, vI (j : Int), vI 0, vI 0, vI 0, .slice none 0 0, .slice none 0 0] = wz at *
              go_wp2_with fail
              exact ⟨⟨j + 1, by simp, by omega, HGz.out, HBz.out, HSz.out, HFz.out⟩, by simp; omega⟩
            · have hdj : decide ((j : Int) < f.code.length) = false := by simp; omega
              obtain ⟨p0, p1, -, -⟩ := HP.out wr (HW0.out.trans HFq.out)
              have b0 : wr.cell? ⟨FB, 0, none⟩ = some (vI f.P) := by rw [cell_of HBF.out]; rfl
              have z0 := frozen_of HBF.out 0
              have fz := setCell_fr wr FB 0 (vI f.R)
              have C1 : Hd ((wr.setCell ⟨FB, 0, none⟩ (vI f.R)).heap[FB]? = some (.cells #[vI f.R, vI f.R, vI f.V, .slice (some ⟨gx, 0, none⟩) f.code.length xc] 32)) := set_of HBF.out 0 _
              have D1 : Hd (∃ x y, (wr.setCell ⟨FB, 0, none⟩ (vI f.R)).heap[SB]? = some (.cells #[x, y] 36)) := by
                obtain ⟨x, y, h2⟩ := HBS.out
                exact ⟨x, y, (fz.block SB (heap_lt h2) nSF).trans h2⟩
              have E1 : Hd (Fr (fun _ => False) W0 (wr.setCell ⟨FB, 0, none⟩ (vI f.R))) := HFq.out.then fz (fun i hi e => by have := HFg.out; omega)
              clear fz HGX HBF HBS HFq nFg nSg
              go_upto_region 16 with fail
              clear b0 z0 p0 p1 b3
              generalize wr.setCell ⟨FB, 0, none⟩ (vI f.R) = w20 at *
              obtain ⟨p0, p1, -, -⟩ := HP.out w20 (HW0.out.trans E1.out)
              have b1 : w20.cell? ⟨FB, 1, none⟩ = some (vI f.R) := by rw [cell_of C1.out]; rfl
              have z1 := frozen_of C1.out 1
              have fz := setCell_fr w20 FB 1 (vI f.P)
              have C2 : Hd ((w20.setCell ⟨FB, 1, none⟩ (vI f.P)).heap[FB]? = some (.cells #[vI f.R, vI f.P, vI f.V, .slice (some ⟨gx, 0, none⟩) f.code.length xc] 32)) := set_of C1.out 1 _
              have D2 : Hd (∃ x y, (w20.setCell ⟨FB, 1, none⟩ (vI f.P)).heap[SB]? = some (.cells #[x, y] 36)) := by
                obtain ⟨x, y, h2⟩ := D1.out
                exact ⟨x, y, (fz.block SB (heap_lt h2) nSF).trans h2⟩
              have E2 : Hd (Fr (fun _ => False) W0 (w20.setCell ⟨FB, 1, none⟩ (vI f.P))) := E1.out.then fz (fun i hi e => by have := HFg.out; omega)
              clear fz C1 D1 E1
              go_upto_region 17 with fail
              clear b1 z1 p0 p1
              generalize w20.setCell ⟨FB, 1, none⟩ (vI f.P) = w21 at *
              have b0 : w21.cell? ⟨FB, 0, none⟩ = some (vI f.R) := by rw [cell_of C2.out]; rfl
              have b1 : w21.cell? ⟨FB, 1, none⟩ = some (vI f.P) := by rw [cell_of C2.out]; rfl
              have b2 : w21.cell? ⟨FB, 2, none⟩ = some (vI f.V) := by rw [cell_of C2.out]; rfl
              have b3 : w21.cell? ⟨FB, 3, none⟩ = some (.slice (some ⟨gx, 0, none⟩) f.code.length xc) := by rw [cell_of C2.out]; rfl
              go_wp2_with fail
              refine (show Calls Try.prog 9 #[.agg #[vI f.R, vI f.P, vI f.V, .slice (some ⟨gx, 0, none⟩) f.code.length xc]] w21 _ from rlowest_any f.R f.P f.V _ _ _ w21).mono ?_
              rintro e w22 ⟨v, rfl, hlow, hF22⟩
              obtain ⟨hv, rv, rfl, hI, hIB, hLB⟩ := hlow
              have hLs := hLB.la
              obtain ⟨ha1, hc1, ehv, -⟩ := id hI
              obtain ⟨ra1, rc1, erv, -⟩ := id hLs
              subst ehv; subst erv
              obtain ⟨w23, hw23⟩ : ∃ w23, w23 = w22.alloc (.cells #[.slice ha1 (lowH f.R f.P).length hc1, .slice ra1 (lowL f.R f.P).length rc1] 36) := ⟨_, rfl⟩
              have HW23 : Hd (w23 = w22.alloc (.cells #[.slice ha1 (lowH f.R f.P).length hc1, .slice ra1 (lowL f.R f.P).length rc1] 36)) := hw23
              have hF23 : Fr (fun _ => False) w22 w23 := by rw [hw23]; exact Fr.alloc (Fr.refl _ w22) _
              have bT : w23.heap[w22.heap.size]? = some (.cells #[.slice ha1 (lowH f.R f.P).length hc1, .slice ra1 (lowL f.R f.P).length rc1] 36) := by rw [hw23]; exact heap_new w22 _
              obtain ⟨TB, hTB⟩ : ∃ TB, TB = w22.heap.size := ⟨_, rfl⟩
              have HTB : Hd (TB = w22.heap.size) := hTB
              rw [← hTB] at bT
              have HBT : Hd (w23.heap[TB]? = some (.cells #[.slice ha1 (lowH f.R f.P).length hc1, .slice ra1 (lowL f.R f.P).length rc1] 36)) := bT
              have HS21 : Hd (SB < w21.heap.size) := by
                obtain ⟨x, y, h2⟩ := D2.out
                exact heap_lt h2
              have HIB1 : Hd (∀ b, (Value.slice ha1 (lowH f.R f.P).length hc1).ownBlock = some b → w21.heap.size ≤ b) := hIB
              have HLB1 : Hd (LAB w23 w21.heap.size (.slice ra1 (lowL f.R f.P).length rc1) (lowL f.R f.P)) := hLB.fr hF23 (fun _ _ e => e)
              have nST : SB ≠ TB := by
                obtain ⟨x, y, h2⟩ := D2.out
                have := heap_lt (keepF h2 hF22)
                omega
              have C3 : Hd (w23.heap[FB]? = some (.cells #[vI f.R, vI f.P, vI f.V, .slice (some ⟨gx, 0, none⟩) f.code.length xc] 32)) := keepF C2.out (hF22.trans hF23)
              have D3 : Hd (∃ x y, w23.heap[SB]? = some (.cells #[x, y] 36)) := by
                obtain ⟨x, y, h2⟩ := D2.out
                exact ⟨x, y, keepF h2 (hF22.trans hF23)⟩
              have E3 : Hd (Fr (fun _ => False) W0 w23) := E2.out.trans (hF22.trans hF23)
              have HI3 : Hd (IA w23 (.slice ha1 (lowH f.R f.P).length hc1) (lowH f.R f.P)) := hI.stay hF23
              have HL3 : Hd (LA w23 (.slice ra1 (lowL f.R f.P).length rc1) (lowL f.R f.P)) := hLs.stay hF23
              clear hw23 hF23 bT hTB hF22 hI hLs hIB hLB C2 D2 E2 b0 b1 b2 b3
              go_upto_region 18 with fail
              rw [← HW23.out, ← HTB.out]
              clear HW23 HTB
              have b0 : w23.cell? ⟨FB, 0, none⟩ = some (vI f.R) := by rw [cell_of C3.out]; rfl
              have b1 : w23.cell? ⟨FB, 1, none⟩ = some (vI f.P) := by rw [cell_of C3.out]; rfl
              have b2 : w23.cell? ⟨FB, 2, none⟩ = some (vI f.V) := by rw [cell_of C3.out]; rfl
              have b3 : w23.cell? ⟨FB, 3, none⟩ = some (.slice (some ⟨gx, 0, none⟩) f.code.length xc) := by rw [cell_of C3.out]; rfl
              go_wp2_with fail
              refine (show Calls Try.prog 7 #[.agg #[vI f.R, vI f.P, vI f.V, .slice (some ⟨gx, 0, none⟩) f.code.length xc]] w23 _ from lowest_any f.R f.P f.V _ _ _ w23).mono ?_
              rintro e w24 ⟨v, rfl, hlow, hF24⟩
              obtain ⟨hv, rv, rfl, hI, hIB, hLB⟩ := hlow
              have hLs := hLB.la
              obtain ⟨ha2, hc2, ehv, -⟩ := id hI
              obtain ⟨ra2, rc2, erv, -⟩ := id hLs
              subst ehv; subst erv
              obtain ⟨xS, yS, bS⟩ := D3.out
              have bS24 := keepF bS hF24
              have s0 : w24.cell? ⟨SB, 0, none⟩ = some xS := by rw [cell_of bS24]; rfl
              have s1 : w24.cell? ⟨SB, 1, none⟩ = some yS := by rw [cell_of bS24]; rfl
              have z0 := frozen_of bS24 0
              have z1 := frozen_of bS24 1
              have fz : Fr (fun i => i = SB) w24 ((w24.setCell ⟨SB, 0, none⟩ (.slice ha2 (lowH f.R f.P).length hc2)).setCell ⟨SB, 1, none⟩ (.slice ra2 (lowL f.R f.P).length rc2)) := (setCell_fr w24 SB 0 _).trans (setCell_fr _ SB 1 _)
              have HBS5 : Hd (((w24.setCell ⟨SB, 0, none⟩ (.slice ha2 (lowH f.R f.P).length hc2)).setCell ⟨SB, 1, none⟩ (.slice ra2 (lowL f.R f.P).length rc2)).heap[SB]? = some (.cells #[.slice ha2 (lowH f.R f.P).length hc2, .slice ra2 (lowL f.R f.P).length rc2] 36)) := set_of (set_of bS24 0 _) 1 _
              have bT24 := keepF HBT.out hF24
              have HBT5 : Hd (((w24.setCell ⟨SB, 0, none⟩ (.slice ha2 (lowH f.R f.P).length hc2)).setCell ⟨SB, 1, none⟩ (.slice ra2 (lowL f.R f.P).length rc2)).heap[TB]? = some (.cells #[.slice ha1 (lowH f.R f.P).length hc1, .slice ra1 (lowL f.R f.P).length rc1] 36)) := (fz.block TB (heap_lt bT24) (fun e => nST e.symm)).trans bT24
              have E5 : Hd (Fr (fun _ => False) W0 ((w24.setCell ⟨SB, 0, none⟩ (.slice ha2 (lowH f.R f.P).length hc2)).setCell ⟨SB, 1, none⟩ (.slice ra2 (lowL f.R f.P).length rc2))) := (E3.out.trans hF24).then fz (fun i hi e => by have := HSg.out; omega)
              have hS23 : SB < w23.heap.size := heap_lt bS
              have HX5 : Hd (IA ((w24.setCell ⟨SB, 0, none⟩ (.slice ha2 (lowH f.R f.P).length hc2)).setCell ⟨SB, 1, none⟩ (.slice ra2 (lowL f.R f.P).length rc2)) (.slice ha2 (lowH f.R f.P).length hc2) (lowH f.R f.P)) := hI.fr fz (fun b e e2 => by have := hIB b e; omega)
              have HY5 : Hd (LA ((w24.setCell ⟨SB, 0, none⟩ (.slice ha2 (lowH f.R f.P).length hc2)).setCell ⟨SB, 1, none⟩ (.slice ra2 (lowL f.R f.P).length rc2)) (.slice ra2 (lowL f.R f.P).length rc2) (lowL f.R f.P)) := (hLB.fr fz (fun b hb e2 => by omega)).la
              have HX6 : Hd (IA ((w24.setCell ⟨SB, 0, none⟩ (.slice ha2 (lowH f.R f.P).length hc2)).setCell ⟨SB, 1, none⟩ (.slice ra2 (lowL f.R f.P).length rc2)) (.slice ha1 (lowH f.R f.P).length hc1) (lowH f.R f.P)) := (HI3.out.stay hF24).fr fz (fun b e e2 => by have := HIB1.out b e; have := HS21.out; omega)
              have HY6 : Hd (LA ((w24.setCell ⟨SB, 0, none⟩ (.slice ha2 (lowH f.R f.P).length hc2)).setCell ⟨SB, 1, none⟩ (.slice ra2 (lowL f.R f.P).length rc2)) (.slice ra1 (lowL f.R f.P).length rc1) (lowL f.R f.P)) := ((HLB1.out.fr hF24 (fun _ _ e => e)).fr fz (fun b hb e2 => by have := HS21.out; omega)).la
              clear bS bS24 bT24 fz hF24 hI hLs hIB hLB
              go_upto_region 19 with fail
              clear s0 s1 z0 z1 b0 b1 b2 b3
              generalize (w24.setCell ⟨SB, 0, none⟩ (.slice ha2 (lowH f.R f.P).length hc2)).setCell ⟨SB, 1, none⟩ (.slice ra2 (lowL f.R f.P).length rc2) = w25 at *
              have s0 : w25.cell? ⟨SB, 0, none⟩ = some (.slice ha2 (lowH f.R f.P).length hc2) := by rw [cell_of HBS5.out]; rfl
              have s1 : w25.cell? ⟨SB, 1, none⟩ = some (.slice ra2 (lowL f.R f.P).length rc2) := by rw [cell_of HBS5.out]; rfl
              have t0 : w25.cell? ⟨TB, 0, none⟩ = some (.slice ha1 (lowH f.R f.P).length hc1) := by rw [cell_of HBT5.out]; rfl
              have t1 : w25.cell? ⟨TB, 1, none⟩ = some (.slice ra1 (lowL f.R f.P).length rc1) := by rw [cell_of HBT5.out]; rfl
              have hlH : (lowH f.R f.P).length ≤ 8 := lowH_len _ _
              have hlL : (lowL f.R f.P).length ≤ 8 := lowL_len _ _
              go_wp2_with fail
              refine (show Calls Try.prog 8 #[.agg #[.slice ha2 (lowH f.R f.P).length hc2, .slice ra2 (lowL f.R f.P).length rc2], .agg #[.slice ha1 (lowH f.R f.P).length hc1, .slice ra1 (lowL f.R f.P).length rc1]] w25 _ from eqSummary_same _ _ _ _ (lowH f.R f.P) (lowL f.R f.P) w25 HX5.out HY5.out HX6.out HY6.out (by omega) (by omega) (lowL_each _ _)).mono ?_
              rintro e w26 ⟨rfl, hF26⟩
              have HFE : Hd (Fr (fun _ => False) w6 w26) := HW0.out.trans (E5.out.trans hF26)
              clear hF26 s0 s1 t0 t1 hlH hlL
              go_wp2_with fail
              exact ⟨⟨k + 1, by simp, by omega, HFE.out⟩, by simp; omega⟩
      · have hke : k = gs.length := by omega
        subst hke
        go_wp2_with fail
        go_ret
        exact ⟨rfl, HF6.out.trans HFr.out⟩

end Go.Proofs.Ytdkijecnnmncnaa
