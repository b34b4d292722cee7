import Derived.Test.YtjmbfjaahadbhaaGreatDoorQOeJ
set_option linter.unusedVariables false
set_option linter.unusedSimpArgs false
namespace Go.Proofs.YtjmbfjaahadbhaaGreatDoor
open Go.RowKit (wrap32 wrap64)

section
variable {N n : Nat} {of : Nat → Nat} {cl : Nat → List Nat}
theorem Rg.dd (h : Rg N cl n of) : Rg N (fun f => ddX (cl f)) n of := by
  have e : ∀ {x y : Nat}, Rch (fun f => ddX (cl f)) x y ↔ Rch cl x y := fun {x y} => rch_same (fun _ _ => mem_ddX)
  exact ⟨h.lt, h.on, fun x y hx hy => by rw [e, e]; exact h.eq x y hx hy, fun x y hx hy k => h.dn x y hx hy (e.1 k)⟩
theorem rdy_ask (h : Gp N cl n of) (hcl : ∀ x, x < N → ∀ z ∈ cl x, z < N) {k d : Nat} (hd : d < n) : (∀ x ∈ memX N of d, ∀ z ∈ ddX (cl x), z ∈ memX N of d ∨ 0 ≤ whX of k z) ↔ Rdy N n of cl k d := by
  rw [rdy_iff h hcl hd]
  constructor
  · intro a x hx z hz
    rcases a x hx z (mem_ddX.2 hz) with e | e
    · exact Or.inl e
    · exact Or.inr (whX_ge.1 e)
  · intro a x hx z hz
    rcases a x hx z (mem_ddX.1 hz) with e | e
    · exact Or.inl e
    · exact Or.inr (whX_ge.2 e)
/-- The components' rows, as they stand ever after. -/
theorem rows_at {U : Nat → Value} {wT : World} {B9 b wg : Nat} (hU : ∀ f ∈ cmpX N of, IOwn wT B9 (U f) (zL (memX N of (of f)))) (hb : b < B9) (hw : wg < B9) {f : Nat} (hf : f ∈ cmpX N of) :
    ∃ ug uc, U f = .slice (some ⟨ug, 0, none⟩) (memX N of (of f)).length uc ∧ B9 ≤ ug ∧ ug < wT.heap.size ∧ ∀ W, Fr (fun q => q = b ∨ q = wg) wT W → ∀ j (hj : j < (memX N of (of f)).length), W.cell? ⟨ug, j, none⟩ = some (vI ((memX N of (of f))[j] : Nat)) := by
  have hm : f ∈ memX N of (of f) := mem_memX.2 ⟨(mem_cmpX.1 hf).1, rfl⟩
  have hl : 0 < (memX N of (of f)).length := List.length_pos_of_mem hm
  have ho := hU f hf
  obtain ⟨ug, uc, e, -, hc⟩ := iown_some ho (by rw [List.length_map]; exact hl)
  rw [List.length_map] at e
  have hg := ho.ge ug (by rw [e]; rfl)
  refine ⟨ug, uc, e, hg.1, hg.2, fun W fW j hj => ?_⟩
  rw [fW.cell hg.2 (by omega), hc j (by rw [List.length_map]; exact hj)]
  simp
end
theorem Dk.congr {N : Nat} {of : Nat → Nat} {U : Nat → Value} {wT wx : World} {b wg wc B9 k : Nat} {cv lv v7 : Value} {wf wf' : Nat → Int} {l7 : List Nat} (h : Dk N of U wT b wg wc B9 cv wx k wf lv v7 l7) (e : ∀ x, x < N → wf x = wf' x) : Dk N of U wT b wg wc B9 cv wx k wf' lv v7 l7 := by
  refine ⟨h.box, ?_, h.l, h.left, h.ap, h.fr⟩
  rw [← show (List.range N).map wf = (List.range N).map wf' from List.map_congr_left (fun x hx => e x (List.mem_range.1 hx))]
  exact h.wh
theorem whM_next {of : Nat → Nat} {k y : Nat} {d : List Nat} : (fun x => if x = y then (k : Int) else whM of k d x) = whM of k (d ++ [y]) := by
  funext x
  unfold whM
  by_cases e : x = y
  · rw [if_pos e, if_pos (by rw [e]; simp)]
  · rw [if_neg e]
    by_cases e2 : x ∈ d
    · rw [if_pos e2, if_pos (by simp [e2])]
    · rw [if_neg e2, if_neg (by simp [e, e2])]
/-- The number that a value is. -/
def mI (v : Value) : Nat := match v with | .int _ q => q.toNat | _ => 0
theorem mI_int (t : IntKind) (q : Int) : mI (.int t q) = q.toNat := rfl
theorem erase_next {l : List Nat} {p j : Nat} (hj : j < l.length) : (l.take (j + 1)).eraseIdx p = if j = p then (l.take j).eraseIdx p else (l.take j).eraseIdx p ++ [l[j]] := by
  have ht : l.take (j + 1) = l.take j ++ [l[j]] := by rw [List.take_add_one, List.getElem?_eq_getElem hj]; rfl
  have hl : (l.take j).length = j := by rw [List.length_take]; omega
  rw [ht]
  by_cases e : p < j
  · rw [if_neg (by omega), List.eraseIdx_append_of_lt_length (by omega)]
  · by_cases e2 : j = p
    · subst e2
      rw [if_pos rfl, List.eraseIdx_append_of_length_le (by omega), hl, Nat.sub_self, List.eraseIdx_of_length_le (l := l.take j) (by omega)]
      simp
    · rw [if_neg e2, List.eraseIdx_append_of_length_le (by omega), hl, List.eraseIdx_of_length_le (l := [l[j]]) (by simp; omega), List.eraseIdx_of_length_le (l := l.take j) (by omega)]
/-- How long a slice is. -/
def mS (v : Value) : Nat := match v with | .slice _ m _ => m | _ => 0
theorem mS_slice (a : Option Addr) (m c : Nat) : mS (.slice a m c) = m := rfl
/-- The document's graph in memory, numbered. -/
structure Dg (w : World) (N n : Nat) (of : Nat → Nat) (cl : Nat → List Nat) (B b : Nat) : Prop where
  told : ∃ (lv cv : Value) (wg wc : Nat) (us cus : List Value), w.heap[b]? = some (.cells #[lv, .slice (some ⟨wg, 0, none⟩) N wc, cv] 54) ∧ B ≤ b ∧
    IOwn w B (.slice (some ⟨wg, 0, none⟩) N wc) ((List.range N).map (fun x => (of x : Int))) ∧ LOc w B lv us ((List.range n).map (fun c => zL (memX N of c))) ∧ LOc w B cv cus (zLs N (fun f => ddX (cl f)))
/-- What the document's New leaves. -/
def RnE (G : Int) (fs : List PF) (n : Nat) (of : Nat → Nat) (w : World) (e : Ending) (w' : World) : Prop :=
  Fr (fun _ => False) w w' ∧ ((checkP G fs ≠ 0 ∧ e = .returned (.tuple #[.pointer none, vI (checkP G fs)])) ∨
    (checkP G fs = 0 ∧ ∃ b, e = .returned (.tuple #[.pointer (some ⟨b, 0, none⟩), vI 0]) ∧ Dg w' fs.length n of (clX fs) w.heap.size b))
set_option maxRecDepth 100000 in
set_option maxHeartbeats 16000000 in
theorem rnew_any (G : Int) (fs : List PF) (fv : Value) (n : Nat) (of : Nat → Nat) (w : World) (h : FA w fv fs) (hn : FineP fs) (hgp : checkP G fs = 0 → Gp fs.length (clX fs) n of) (hnN : checkP G fs = 0 → n ≤ fs.length) :
    Calls Tryz.prog 8 #[.agg #[vI G, fv]] w (RnE G fs n of w) := by
  obtain ⟨a0, cp0, efv, -⟩ := id h
  subst efv
  obtain ⟨wa, hwa⟩ : ∃ wa, wa = w.alloc (.cells #[vI G, .slice a0 fs.length cp0] 24) := ⟨_, rfl⟩
  obtain ⟨H, hH⟩ : ∃ H, H = w.heap.size := ⟨_, rfl⟩
  have HH : Hd (H = w.heap.size) := hH
  have hFa : Fr (fun _ => False) w wa := by rw [hwa]; exact Fr.alloc (Fr.refl _ w) _
  have hba : wa.heap[H]? = some (.cells #[vI G, .slice a0 fs.length cp0] 24) := by rw [hwa, hH]; exact heap_new0 w _
  have HWA : Hd (wa = w.alloc (.cells #[vI G, .slice a0 fs.length cp0] 24)) := hwa
  have HFA : Hd (Fr (fun _ => False) w wa) := hFa
  have HFP : Hd (FA w (.slice a0 fs.length cp0) fs ∧ FineP fs ∧ (checkP G fs = 0 → Gp fs.length (clX fs) n of)) := ⟨h, hn, hgp⟩
  have HBX : Hd (∀ W, Fr (fun q => H < q) wa W → W.cell? ⟨H, 0, none⟩ = some (vI G) ∧ W.cell? ⟨H, 1, none⟩ = some (.slice a0 fs.length cp0)) := fun W fW => by
    have := (fW.block H (heap_lt hba) (by omega)).trans hba
    exact ⟨by rw [cell_of0 this]; rfl, by rw [cell_of0 this]; rfl⟩
  have HSA : Hd (H < wa.heap.size) := heap_lt hba
  have HCK : Hd (Calls Tryz.prog 20 #[.agg #[vI G, .slice a0 fs.length cp0]] wa fun e w' => e = .returned (vI (checkP G fs)) ∧ Fr (fun _ => False) wa w') := rcheck_fa wa G fs _ (h.stay hFa) hn
  obtain ⟨c0, c1⟩ := HBX.out wa (Fr.refl _ _)
  clear h hn hgp hwa hH hFa hba
  go_enter Tryz.func8, Tryz.ntmps8
  go_upto_region 1 with fail
  rw [← HWA.out, ← HH.out]
  clear HWA
  go_wp2_with fail
  refine Calls.mono HCK.out ?_
  rintro e w1 ⟨rfl, hF1⟩
  have HF1 : Hd (Fr (fun _ => False) wa w1 ∧ Fr (fun _ => False) w w1) := ⟨hF1, HFA.out.trans hF1⟩
  clear hF1 HCK c0 c1
  obtain ⟨ck, hck⟩ : ∃ ck, ck = checkP G fs := ⟨_, rfl⟩
  have HCK : Hd (ck = checkP G fs) := hck
  rw [← hck]
  clear hck
  by_cases hz : ck = 0
  · subst hz
    obtain ⟨c0, c1⟩ := HBX.out w1 (HF1.out.1.mono (fun _ _ e => e.elim))
    have HC2 : Hd (Calls Tryz.prog 21 #[.agg #[vI G, .slice a0 fs.length cp0]] w1 (RlE fs w1)) := by
      obtain ⟨k1, k2⟩ := check_calls HCK.out.symm
      obtain ⟨k3, k4⟩ := check_len HCK.out.symm
      exact rcallees_any G _ fs w1 (HFP.out.1.stay HF1.out.2) k1 (by omega) (fun f hf => by have := k2 f hf; omega)
    go_wp2_with fail
    refine Calls.mono HC2.out ?_
    rintro e w2 ⟨cv, cus, rfl, hlb, hlo, hF2⟩
    obtain ⟨ca, cc, ecv, hcv⟩ := id hlb
    rw [show (zLs fs.length (fun f => ddX (clX fs f))).length = fs.length by simp [zLs]] at ecv
    obtain ⟨qk, qo, eca, -, -⟩ := hcv (fun e => by have h1 := (check_len HCK.out.symm).1; have h2 := congrArg List.length e; simp [zLs] at h2; rw [h2] at h1; simp at h1)
    subst ecv
    subst eca
    obtain ⟨N, hN⟩ : ∃ N, N = fs.length := ⟨_, rfl⟩
    have HLB2 : Hd (LB w2.heap.size w2 (.slice (some ⟨qk, qo, none⟩) N cc) (zLs N (fun f => ddX (clX fs f)))) := by rw [hN]; exact hlb
    have HLO2 : Hd (LOc w2 w.heap.size (.slice (some ⟨qk, qo, none⟩) N cc) cus (zLs N (fun f => ddX (clX fs f)))) := by rw [hN]; exact hlo.mono HF1.out.2.size
    have HF2 : Hd (Fr (fun _ => False) wa w2 ∧ Fr (fun _ => False) w w2) := ⟨HF1.out.1.trans hF2, HF1.out.2.trans hF2⟩
    have HNN : Hd (N = fs.length ∧ 1 ≤ N ∧ N ≤ 65535) := ⟨hN, by rw [hN]; exact check_len HCK.out.symm⟩
    have hnN : n ≤ N := by rw [hN]; exact hnN HCK.out.symm
    have HGP : Hd (Gp N (clX fs) n of) := by unfold Hd; rw [hN]; exact HFP.out.2.2 HCK.out.symm
    have HLL : Hd ((∀ x, x < N → ∀ z ∈ clX fs x, z < N) ∧ ∀ x, x < N → (ddX (clX fs x)).length ≤ 1000000000) := by
      obtain ⟨k1, k2⟩ := check_calls HCK.out.symm
      refine ⟨fun x hx => by rw [hN] at hx ⊢; exact clX_lt k1 hx, fun x hx => ?_⟩
      rw [hN] at hx
      have h1 := ddX_len (clX fs x)
      have h2 := clX_len hx
      have h3 := k2 _ (List.getElem_mem hx)
      omega
    obtain ⟨b, hb⟩ : ∃ b, b = w2.heap.size := ⟨_, rfl⟩
    obtain ⟨wb, hwb⟩ : ∃ wb, wb = w2.alloc (.cells #[.slice none 0 0, .slice none 0 0, .slice (some ⟨qk, qo, none⟩) N cc] 54) := ⟨_, rfl⟩
    have HWB : Hd (wb = w2.alloc (.cells #[.slice none 0 0, .slice none 0 0, .slice (some ⟨qk, qo, none⟩) N cc] 54)) := hwb
    have HB : Hd (b = w2.heap.size) := hb
    have HSB : Hd (wb.heap.size = b + 1 ∧ H < b) := by
      refine ⟨by rw [hwb, World.size_alloc, hb], ?_⟩
      have := HF2.out.1.size
      have := HSA.out
      omega
    have HXB : Hd (wb.heap[b]? = some (.cells #[.slice none 0 0, .slice none 0 0, .slice (some ⟨qk, qo, none⟩) N cc] 54)) := by unfold Hd; rw [hwb, hb]; exact heap_new0 w2 _
    have HFB : Hd (Fr (fun _ => False) w2 wb) := by unfold Hd; rw [hwb]; exact Fr.alloc (Fr.refl _ _) _
    rw [← hN]
    have HI0 : Hd (IOwn wb (b + 1) (.slice none 0 0) (List.replicate 0 (-1))) := World.ownsRow_nil _ _ _ _
    have HFR : Hd (Fr (fun q => q = b) wb wb) := Fr.refl _ _
    clear hlb hlo hF2 hN hb hwb hcv HC2 c0 c1
    go_upto_region 5 with fail
    rw [← HWB.out, ← HB.out]
    go_wp2_with fail
    go_loopw [6] (fun v wx => ∃ (k : Nat) (wv : Value), v = .int .i64 k ∧ k ≤ N ∧ Hd (wx.heap[b]? = some (.cells #[.slice none 0 0, wv, .slice (some ⟨qk, qo, none⟩) N cc] 54)) ∧ Hd (IOwn wx (b + 1) wv (List.replicate k (-1))) ∧ Hd (Fr (fun q => q = b) wb wx)) (fun v _ => match v with | .int _ q => N - q.toNat | _ => 0)
    case atStart => exact ⟨0, .slice none 0 0, by simp, Nat.zero_le _, HXB.out, HI0.out, HFR.out⟩
    case round =>
      clear HXB HI0 HFR
      obtain ⟨k, wv, rfl, hk, HX, HI, HFR⟩ := hrel
      have HFA2 : Hd (Fr (fun q => H < q) wa wr) := ((HF2.out.1.trans HFB.out).mono (fun _ _ e => e.elim)).then HFR.out (fun q _ e => by have := HSB.out.2; have e : q = b := e; show H < q; omega)
      obtain ⟨c0, c1⟩ := HBX.out wr HFA2.out
      have x0 : wr.cell? ⟨b, 0, none⟩ = some (.slice none 0 0) := by rw [cell_of0 HX.out]; rfl
      have x1 : wr.cell? ⟨b, 1, none⟩ = some wv := by rw [cell_of0 HX.out]; rfl
      have x2 : wr.cell? ⟨b, 2, none⟩ = some (.slice (some ⟨qk, qo, none⟩) N cc) := by rw [cell_of0 HX.out]; rfl
      rw [← HNN.out.1] at c1
      obtain ⟨hN1, hN2⟩ := HNN.out.2
      by_cases hlt : k < N
      · have d1 : decide ((k : Int) < (N : Int)) = true := by simp; omega
        obtain ⟨va, vc, ev⟩ := iown_cap HI.out
        rw [List.length_replicate] at ev
        subst ev
        obtain ⟨we, hwe⟩ : ∃ we, we = wr.alloc (.cells #[vI (-1)] 3) := ⟨_, rfl⟩
        have hFe : Fr (fun _ => False) wr we := by rw [hwe]; exact Fr.alloc (Fr.refl _ _) _
        have HWE : Hd (we = wr.alloc (.cells #[vI (-1)] 3)) := hwe
        have HRW : Hd (we.ownsRow (b + 1) 3 1 (.slice va k vc) k ((List.replicate k (-1 : Int)).map vI)) := by
          have := HI.out.fr hFe (fun _ _ e => e)
          unfold IOwn at this
          rw [List.length_replicate] at this
          exact this
        have HNW : Hd (∀ j' u, [vI (-1)][j']? = some u → we.cell? ((⟨wr.heap.size, 0, none⟩ : Addr).add j') = some u) := by
          unfold Hd
          rw [hwe]
          exact World.news_of_block (w := wr.alloc (.cells #[vI (-1)] 3)) (cs := #[vI (-1)]) (heap_new0 wr _)
        have HBS : Hd (b + 1 ≤ we.heap.size) := by unfold Hd; have := hFe.size; have := HFR.out.size; have := HSB.out.1; omega
        have HFE : Hd (Fr (fun _ => False) wr we) := hFe
        have HXE : Hd (we.heap[b]? = some (.cells #[.slice none 0 0, .slice va k vc, .slice (some ⟨qk, qo, none⟩) N cc] 54)) := keepF HX.out hFe
        clear hwe hFe
        go_wp2_with ((at_builtin; refine Hd.out ?_))
        unfold Hd
        rw [← HWE.out]
        obtain ⟨i3, hi3, hz3, hs3, hb3⟩ := info_parts (P := Tryz.prog) (e := 3) (z := .int .i64 0) (size := 1) (bytes := 8) (by kernel_rfl)
        refine wpList_append_lies _ rfl (.tmp 32) (.tmp 33) 25 rfl (b + 1) 3 i3 (.int .i64 0) 1 8 under64 hi3 hz3 hs3 hb3 rfl (by omega) (.slice va k vc) k _ rfl HRW.out ⟨wr.heap.size, 0, none⟩ 1 1 [vI (-1)] rfl rfl HNW.out (by intro u hu; rw [List.mem_singleton] at hu; rw [hu]; rfl) (by omega) (by unfold maxLen; omega) (by omega) HBS.out we.heap.size rfl ?_
        intro g6 cap6 w6 hown6 hgrow6 hat6 hlt6
        clear hi3 hz3 hs3 hb3
        have hfr6 := grown_frL hgrow6
        have hne6 : ∀ q, (Value.slice va k vc).ownBlock = some q → b + 1 ≤ q := fun q e => (World.ownsRow.lt HRW.out q e).1
        have hb6 : w6.heap[b]? = some (.cells #[.slice none 0 0, .slice va k vc, .slice (some ⟨qk, qo, none⟩) N cc] 54) := by
          rw [hfr6.block b (heap_lt HXE.out) (fun e => by have := hne6 b e; omega)]; exact HXE.out
        have hs6 := setCell_fr w6 b 1 (.slice (some ⟨g6, 0, none⟩) (k + 1) cap6)
        have HX6 : Hd ((w6.setCell ⟨b, 1, none⟩ (.slice (some ⟨g6, 0, none⟩) (k + 1) cap6)).heap[b]? = some (.cells #[.slice none 0 0, .slice (some ⟨g6, 0, none⟩) (k + 1) cap6, .slice (some ⟨qk, qo, none⟩) N cc] 54)) := by unfold Hd; rw [set_of hb6]; rfl
        have HI6 : Hd (IOwn (w6.setCell ⟨b, 1, none⟩ (.slice (some ⟨g6, 0, none⟩) (k + 1) cap6)) (b + 1) (.slice (some ⟨g6, 0, none⟩) (k + 1) cap6) (List.replicate (k + 1) (-1))) := by
          have hg6 := (World.ownsRow.lt hown6 g6 rfl).1
          refine ownsRow_frL ?_ hs6 (fun q e e2 => by have e2 : q = b := e2; have e : g6 = q := by injection e
                                                      omega)
          rw [List.length_replicate, show List.replicate (k + 1) (-1 : Int) = List.replicate k (-1) ++ [-1] from List.replicate_succ', List.map_append]
          exact hown6
        have HFR6 : Hd (Fr (fun q => q = b) wb (w6.setCell ⟨b, 1, none⟩ (.slice (some ⟨g6, 0, none⟩) (k + 1) cap6))) := by
          refine ((HFR.out.then HFE.out (fun _ _ e => e.elim)).then hfr6 (fun q hq e => ?_)).then hs6 (fun _ _ e => e)
          have := hne6 q e
          have := HSB.out.1
          exfalso
          omega
        have z6 : w6.frozen? ⟨b, 1, none⟩ = false := frozen_of hb6 1
        have x6 : w6.cell? ⟨b, 1, none⟩ = some (.slice va k vc) := by rw [cell_of0 hb6]; rfl
        clear hown6 hgrow6 hat6 hlt6 hfr6 hne6 hb6 hs6 HRW HNW HBS HFE HXE HX HI HFR x0 x1 x2
        go_wp2_with fail
        go_roundw
        case measure => simp; omega
        case rel => exact ⟨k + 1, _, by simp, by omega, HX6.out, HI6.out, HFR6.out⟩
      · have d1 : decide ((k : Int) < (N : Int)) = false := by simp; omega
        have ek : N = k := by omega
        subst ek
        clear hlt hk
        obtain ⟨wg, wc, ewv, -, -⟩ := iown_some HI.out (by simp; omega)
        rw [List.length_replicate] at ewv
        subst ewv
        have HLBr : Hd (LB w2.heap.size wr (.slice (some ⟨qk, qo, none⟩) N cc) (zLs N (fun f => ddX (clX fs f)))) := (HLB2.out.fr (Nat.le_refl _) HFB.out (fun _ _ e => e)).fr (by have := HSB.out.1; have := HB.out; omega) HFR.out (fun q hq e => by have := HB.out; have e : q = b := e; omega)
        have HDN : Hd ((wr.heap.size ≤ wr.heap.size) ∧ b < wg ∧ wg < wr.heap.size) := ⟨Nat.le_refl _, (HI.out.ge wg rfl).1, (HI.out.ge wg rfl).2⟩
        obtain ⟨w9, hw9⟩ : ∃ w9, w9 = wr := ⟨_, rfl⟩
        rw [← hw9] at HLBr HX HI HFR HFA2 HDN x0 x1 x2 c0 c1 ⊢
        have HCM : Hd (Calls Tryz.prog 22 #[.slice (some ⟨qk, qo, none⟩) N cc] w9 (CmE N of w9)) := rcomponents_any w9 (HLBr.out.up (by have := HFR.out.size; have := HSB.out.1; have := HB.out; omega)) (fun x hx z hz => HLL.out.1 x hx z (mem_ddX.1 hz)) HLL.out.2 hN2 HGP.out.toRg.dd
        clear hw9
        go_wp2_with fail
        refine Calls.mono HCM.out ?_
        rintro e wT ⟨v7, us, rfl, hLO, hFT⟩
        obtain ⟨U, hU⟩ := by_name (us := us) (rise_nodup (cmpX_rise (N := N) (of := of))) (by rw [hLO.ul, List.length_map])
        subst hU
        have HUU : Hd (∀ f ∈ cmpX N of, IOwn wT w9.heap.size (U f) (zL (memX N of (of f)))) := fun f hf => by
          obtain ⟨i, hi, e⟩ := List.getElem_of_mem hf
          have := hLO.each i (by rw [List.length_map]; exact hi) (by rw [List.length_map]; exact hi)
          rw [List.getElem_map, List.getElem_map, e] at this
          exact this
        obtain ⟨B9, hB9⟩ : ∃ B9, B9 = w9.heap.size := ⟨_, rfl⟩
        have HBD : Hd (b < wg ∧ wg < B9 ∧ B9 ≤ wT.heap.size) := by rw [hB9]; exact ⟨HDN.out.2.1, HDN.out.2.2, hFT.size⟩
        have HLT : Hd (LB w2.heap.size wT (.slice (some ⟨qk, qo, none⟩) N cc) (zLs N (fun f => ddX (clX fs f)))) := HLBr.out.fr (by have := HFR.out.size; have := HSB.out.1; have := HB.out; omega) hFT (fun _ _ e => e)
        have HW2 : Hd (Fr (fun _ => False) w2 wT) := (HFB.out.then HFR.out (fun q hq e => by have := HB.out; have e : q = b := e; omega)).trans hFT
        have HD0 : Hd (Dk N of U wT b wg wc B9 (.slice (some ⟨qk, qo, none⟩) N cc) wT 0 (whX of 0) (.slice none 0 0) v7 (lefX N of 0)) := by
          refine ⟨keepF HX.out hFT, ?_, World.ownsRow_nil _ _ _ _, ?_, fun q e => (by cases e), Fr.refl _ _⟩
          · have := HI.out.fr hFT (fun _ _ e => e)
            rw [show (List.range N).map (whX of 0) = List.replicate N (-1) by rw [List.eq_replicate_iff]; exact ⟨by simp, fun z hz => by obtain ⟨x, -, rfl⟩ := List.mem_map.1 hz; simp [whX]⟩]
            exact this
          · rw [lefX_zero, hB9]
            have := hLO.row
            rw [List.length_map] at this
            exact this
        have HFT : Hd (Fr (fun q => H < q) wa wT ∧ Fr (fun _ => False) w wT) := by
          refine ⟨HFA2.out.then hFT (fun _ _ e => e.elim), HFA.out.then (HFA2.out.then hFT (fun _ _ e => e.elim)) (fun q hq e => ?_)⟩
          have e : H < q := e
          have := HH.out
          omega
        rw [← hB9] at HUU
        clear hLO hFT HX HI HDN HCM HLBr hB9 x0 x1 x2 c0 c1 HFR
        go_wp2_with fail
        go_loopw [7] (fun v7 wx => ∃ (k : Nat) (lv : Value), k ≤ n ∧ Hd (Dk N of U wT b wg wc B9 (.slice (some ⟨qk, qo, none⟩) N cc) wx k (whX of k) lv v7 (lefX N of k))) (fun v _ => mS v)
        case atStart => exact ⟨0, _, Nat.zero_le _, HD0.out⟩
        case round =>
          clear HD0
          obtain ⟨k, lv, hk, HD⟩ := hrel
          obtain ⟨va, vc, ev⟩ := own_slice HD.out.left
          subst ev
          obtain ⟨la, lc, elv⟩ := own_slice HD.out.l
          subst elv
          by_cases hlt : k < n
          · obtain ⟨p, hp1, hp2, hp3, hp4⟩ := first_ready HGP.out HLL.out.1 hlt
            have hpl : p < (lefX N of k).length := by
              by_cases e : p < (lefX N of k).length
              · exact e
              · rw [List.getElem?_eq_none (by omega)] at hp1; cases hp1
            have hll : (lefX N of k).length ≤ N := by
              unfold lefX cmpX
              have h1 := List.length_filter_le (fun f => decide (k ≤ of f)) ((List.range N).filter (fun f => lwX N of (of f) == f))
              have h2 := List.length_filter_le (fun f => lwX N of (of f) == f) (List.range N)
              rw [List.length_range] at h2
              omega
            obtain ⟨lf, hlf⟩ : ∃ lf, lf = lefX N of k := ⟨_, rfl⟩
            have HLF : Hd (lf = lefX N of k) := hlf
            rw [← hlf] at HD hp1 hp4 hpl hll ⊢
            have HP : Hd (lf[p]? = some (lwX N of k) ∧ of (lwX N of k) = k ∧ Rdy N n of (clX fs) k k ∧ ∀ q g : Nat, q < p → lf[q]? = some g → ¬ Rdy N n of (clX fs) k (of g)) := ⟨hp1, hp2, hp3, hp4⟩
            obtain ⟨vg, vc', ev, -, -⟩ := own_cell HD.out.left (j := p) (u := U (lwX N of k)) (by rw [List.getElem?_map, hp1]; rfl)
            injection ev with ev
            subst ev
            have hkk : lwX N of k ∈ cmpX N of := (List.mem_filter.1 (by rw [show (cmpX N of).filter (fun f => decide (k ≤ of f)) = lefX N of k from rfl, ← hlf]; exact List.mem_of_getElem? hp1)).1
            have HMC : Hd (∀ f ∈ lf, f ∈ cmpX N of) := fun f hf => by rw [hlf] at hf; exact (List.mem_filter.1 hf).1
            obtain ⟨ws, hws⟩ : ∃ ws, ws = wr := ⟨_, rfl⟩
            rw [← hws] at HD ⊢
            have HRY : Hd (∀ f ∈ lf, ∀ W, Fr (fun _ => False) ws W → Calls Tryz.prog 23 #[.slice (some ⟨qk, qo, none⟩) N cc, U f, .slice (some ⟨wg, 0, none⟩) N wc] W (fun e w' => ∃ bb, e = .returned (.bool bb) ∧ (bb = true ↔ Rdy N n of (clX fs) k (of f)) ∧ Fr (fun _ => False) W w')) := fun f hf W fW => by
              obtain ⟨ug, uc, eU, hu1, hu2, hu3⟩ := rows_at HUU.out (b := b) (wg := wg) (by have := HBD.out; omega) HBD.out.2.1 (HMC.out f hf)
              have hD := HD.out.stay fW
              rw [eU]
              refine (ready_any (mo := 0) (wh := whX of k) W ((HLT.out.fr (by have := HBD.out; have := HB.out; omega) hD.fr (fun q hq e => by have := HB.out; have := HBD.out; rcases e with e | e <;> omega)).up (by have := hD.fr.size; have := HBD.out; have := HB.out; omega)) (fun x hx z hz => HLL.out.1 x hx z (mem_ddX.1 hz)) HLL.out.2 hN2 (fun W2 fW2 j hj => by rw [Nat.zero_add]; exact hu3 W2 (hD.fr.then fW2 (fun _ _ e => e.elim)) j hj) (fun x hx => (mem_memX.1 hx).1) ?_ (fun W2 fW2 x hx => (hD.wh.fr fW2 (fun _ _ e => e)).at hx)).mono ?_
              · unfold memX
                have h2 := List.length_filter_le (fun x => of x == of f) (List.range N)
                rw [List.length_range] at h2
                omega
              · rintro e w5 ⟨bb, rfl, h1, h2⟩
                exact ⟨bb, rfl, h1.trans (rdy_ask HGP.out HLL.out.1 (HGP.out.lt f (mem_cmpX.1 (HMC.out f hf)).1)), h2⟩
            have dq : decide ((0 : Int) < ((lf.length : Nat) : Int)) = true := by simp; omega
            have dq2 : decide (((lf.length : Nat) : Int) > 0) = true := by simp; omega
            have HF3 : Hd (Fr (fun _ => False) ws ws) := Fr.refl _ _
            have HHP : Hd (lf.length ≤ N ∧ p < lf.length) := ⟨hll, hpl⟩
            clear hp1 hp2 hp3 hp4 hws hlf hkk
            go_wp2_with fail
            go_loopw [8] (fun v wx => ∃ p' : Nat, v = .int .i64 p' ∧ p' ≤ p ∧ Hd (Fr (fun _ => False) ws wx)) (fun v _ => match v with | .int _ q => p - q.toNat | _ => 0)
            case atStart => exact ⟨0, by simp, Nat.zero_le _, HF3.out⟩
            case round =>
              clear HF3 dq dq2
              obtain ⟨p', rfl, hp', HF3⟩ := hrel
              obtain ⟨f, hf⟩ : ∃ f, lf[p']? = some f := ⟨_, List.getElem?_eq_getElem (by omega)⟩
              have hfm : f ∈ lf := List.mem_of_getElem? hf
              have HRD : Hd (∀ W, Fr (fun _ => False) ws W → W.cell? ⟨b, 1, none⟩ = some (.slice (some ⟨wg, 0, none⟩) N wc) ∧ W.cell? ⟨b, 2, none⟩ = some (.slice (some ⟨qk, qo, none⟩) N cc) ∧ W.cell? ⟨vg, p', none⟩ = some (U f) ∧ (0 : Int) ≤ (p' : Int) ∧ (p' : Int) < (lf.length : Int)) := fun W fW => by
                have hD := HD.out.stay fW
                obtain ⟨g', c', e', -, hc⟩ := own_cell hD.left (j := p') (u := U f) (by rw [List.getElem?_map, hf]; rfl)
                injection e' with e'
                injection e' with e'
                injection e' with e'
                subst e'
                exact ⟨by rw [cell_of0 hD.box]; rfl, by rw [cell_of0 hD.box]; rfl, hc, by omega, by have := HHP.out; omega⟩
              have HRF : Hd (∀ W, Fr (fun _ => False) ws W → Calls Tryz.prog 23 #[.slice (some ⟨qk, qo, none⟩) N cc, U f, .slice (some ⟨wg, 0, none⟩) N wc] W (fun e w' => ∃ bb, e = .returned (.bool bb) ∧ (bb = true ↔ Rdy N n of (clX fs) k (of f)) ∧ Fr (fun _ => False) W w')) := HRY.out f hfm
              obtain ⟨uf, huf⟩ : ∃ uf, uf = U f := ⟨_, rfl⟩
              rw [← huf] at HRD HRF
              have HFF : Hd (lf[p']? = some f) := hf
              obtain ⟨q0, q1, q2, q3, q4⟩ := HRD.out wr.drew HF3.out.drew
              have HUV : Hd (uf = U f) := huf
              clear hf hfm huf
              go_upto_region 12 with fail
              refine wp_region_held_drew (S := fun W => Fr (fun _ => False) ws W) (by kernel_rfl) (HF3.out.drew) (fun hHeld => ?_)
              refine heldTake (i := 0) 45 (v := ?_) rfl rfl (by kernel_rfl) (by kernel_rfl) (by kernel_rfl) (fun _ _ _ h => h) (by kernel_rfl) (fun w2 hSw => (by obtain ⟨q0, q1, q2, q3, q4⟩ := HRD.out w2 hSw; go_simp; try with_reducible rfl)) hHeld ?_
              simp only [Act.put, List.setIfInBounds_toArray, List.set_cons_zero, List.set_cons_succ]
              refine heldTake (i := 1) 46 (v := ?_) rfl rfl (by kernel_rfl) (by kernel_rfl) (by kernel_rfl) (fun _ _ _ h => h) (by kernel_rfl) (fun w2 hSw => (by obtain ⟨q0, q1, q2, q3, q4⟩ := HRD.out w2 hSw; go_simp; try with_reducible rfl)) hHeld ?_
              simp only [Act.put, List.setIfInBounds_toArray, List.set_cons_zero, List.set_cons_succ]
              refine heldTake (i := 2) 47 (v := ?_) rfl rfl (by kernel_rfl) (by kernel_rfl) (by kernel_rfl) (fun _ _ _ h => h) (by kernel_rfl) (fun w2 hSw => (by obtain ⟨q0, q1, q2, q3, q4⟩ := HRD.out w2 hSw; go_simp; try with_reducible rfl)) hHeld ?_
              simp only [Act.put, List.setIfInBounds_toArray, List.set_cons_zero, List.set_cons_succ]
              refine heldTake (i := 3) 48 (v := ?_) rfl rfl (by kernel_rfl) (by kernel_rfl) (by kernel_rfl) (fun _ _ _ h => h) (by kernel_rfl) (fun w2 hSw => (by obtain ⟨q0, q1, q2, q3, q4⟩ := HRD.out w2 hSw; go_simp; try with_reducible rfl)) hHeld ?_
              simp only [Act.put, List.setIfInBounds_toArray, List.set_cons_zero, List.set_cons_succ]
              refine heldTake (i := 4) 49 (v := ?_) rfl rfl (by kernel_rfl) (by kernel_rfl) (by kernel_rfl) (fun _ _ _ h => h) (by kernel_rfl) (fun w2 hSw => (by obtain ⟨q0, q1, q2, q3, q4⟩ := HRD.out w2 hSw; go_simp; try with_reducible rfl)) hHeld ?_
              simp only [Act.put, List.setIfInBounds_toArray, List.set_cons_zero, List.set_cons_succ]
              refine heldTake (i := 5) 50 (v := ?_) rfl rfl (by kernel_rfl) (by kernel_rfl) (by kernel_rfl) (fun _ _ _ h => h) (by kernel_rfl) (fun w2 hSw => (by obtain ⟨q0, q1, q2, q3, q4⟩ := HRD.out w2 hSw; go_simp; try with_reducible rfl)) hHeld ?_
              simp only [Act.put, List.setIfInBounds_toArray, List.set_cons_zero, List.set_cons_succ]
              refine heldTake (i := 6) 51 (v := ?_) rfl rfl (by kernel_rfl) (by kernel_rfl) (by kernel_rfl) (fun _ _ _ h => h) (by kernel_rfl) (fun w2 hSw => (by obtain ⟨q0, q1, q2, q3, q4⟩ := HRD.out w2 hSw; go_simp; try with_reducible rfl)) hHeld ?_
              simp only [Act.put, List.setIfInBounds_toArray, List.set_cons_zero, List.set_cons_succ]
              refine heldTake (i := 7) 52 (v := ?_) rfl rfl (by kernel_rfl) (by kernel_rfl) (by kernel_rfl) (fun _ _ _ h => h) (by kernel_rfl) (fun w2 hSw => (by obtain ⟨q0, q1, q2, q3, q4⟩ := HRD.out w2 hSw; go_simp; try with_reducible rfl)) hHeld ?_
              simp only [Act.put, List.setIfInBounds_toArray, List.set_cons_zero, List.set_cons_succ]
              refine heldTake (i := 8) 53 (v := ?_) rfl rfl (by kernel_rfl) (by kernel_rfl) (by kernel_rfl) (fun _ _ _ h => h) (by kernel_rfl) (fun w2 hSw => (by obtain ⟨q0, q1, q2, q3, q4⟩ := HRD.out w2 hSw; go_simp; try with_reducible rfl)) hHeld ?_
              simp only [Act.put, List.setIfInBounds_toArray, List.set_cons_zero, List.set_cons_succ]
              refine heldTake (i := 9) 54 (v := ?_) rfl rfl (by kernel_rfl) (by kernel_rfl) (by kernel_rfl) (fun _ _ _ h => h) (by kernel_rfl) (fun w2 hSw => (by obtain ⟨q0, q1, q2, q3, q4⟩ := HRD.out w2 hSw; go_simp; try with_reducible rfl)) hHeld ?_
              simp only [Act.put, List.setIfInBounds_toArray, List.set_cons_zero, List.set_cons_succ]
              refine heldTake (i := 10) 55 (v := ?_) rfl rfl (by kernel_rfl) (by kernel_rfl) (by kernel_rfl) (fun _ _ _ h => h) (by kernel_rfl) (fun w2 hSw => (by obtain ⟨q0, q1, q2, q3, q4⟩ := HRD.out w2 hSw; go_simp; try with_reducible rfl)) hHeld ?_
              simp only [Act.put, List.setIfInBounds_toArray, List.set_cons_zero, List.set_cons_succ]
              refine heldTake (i := 11) 56 (v := ?_) rfl rfl (by kernel_rfl) (by kernel_rfl) (by kernel_rfl) (fun _ _ _ h => h) (by kernel_rfl) (fun w2 hSw => (by obtain ⟨q0, q1, q2, q3, q4⟩ := HRD.out w2 hSw; go_simp; try with_reducible rfl)) hHeld ?_
              simp only [Act.put, List.setIfInBounds_toArray, List.set_cons_zero, List.set_cons_succ]
              refine heldOne (i := 12) rfl (by kernel_rfl) (fun KK hKK => ?_)
              go_simp
              go_wp2_with ((go_at_call 23; refine Calls.mono (HRF.out _ hHeld) ?_; rintro e w8 ⟨bb, rfl, hbb, hF8⟩; have hHeld2 : Fr (fun _ => False) ws w8 := hHeld.trans hF8; have HBB : Hd (bb = true ↔ Rdy N n of (clX fs) k (of f)) := hbb; clear hbb hF8 hHeld))
              refine hKK.out _ _ hHeld2 ?_
              clear hKK KK
              have hHeld := hHeld2
              clear hHeld2
              refine heldTake (i := 13) 58 (v := ?_) rfl rfl (by kernel_rfl) (by kernel_rfl) (by kernel_rfl) (fun _ _ _ h => h) (by kernel_rfl) (fun w2 hSw => (by go_simp; try with_reducible rfl)) hHeld ?_
              simp only [Act.put, List.setIfInBounds_toArray, List.set_cons_zero, List.set_cons_succ]
              refine wpAnyH_done (by kernel_rfl) ?_ _
              have HF8 : Hd (Fr (fun _ => False) ws w8) := hHeld
              clear hHeld HF3 q0 q1 q2 HRF HRD
              cases bb with
              | false =>
                have hne : p' < p := by
                  rcases Nat.lt_or_ge p' p with e | e
                  · exact e
                  · exfalso
                    have e2 : p' = p := by omega
                    subst e2
                    have e3 := HFF.out.symm.trans HP.out.1
                    injection e3 with e3
                    have := HBB.out.2 (by rw [e3, HP.out.2.1]; exact HP.out.2.2.1)
                    cases this
                clear HBB HFF
                go_wp2_with fail
                go_roundw
                case measure => simp; omega
                case rel => exact ⟨p' + 1, by simp, by omega, HF8.out⟩
              | true =>
                have heq : p' = p := by
                  rcases Nat.lt_or_ge p' p with e | e
                  · exact absurd (HBB.out.1 rfl) (HP.out.2.2.2 p' f e HFF.out)
                  · omega
                subst heq
                have hef : f = lwX N of k := by have e3 := HFF.out.symm.trans HP.out.1; injection e3
                have HD8 : Hd (Dk N of U wT b wg wc B9 (.slice (some ⟨qk, qo, none⟩) N cc) w8 k (whM of k ((memX N of k).take 0)) (.slice la k lc) (.slice (some ⟨vg, 0, none⟩) lf.length vc) lf) := by
                  unfold Hd
                  rw [List.take_zero, whM_nil]
                  exact HD.out.stay HF8.out
                obtain ⟨ug, uc, eU, hu1, hu2, hu3⟩ := rows_at HUU.out (b := b) (wg := wg) (by have := HBD.out; omega) HBD.out.2.1 (HMC.out _ (List.mem_of_getElem? HP.out.1))
                rw [HP.out.2.1] at eU hu3
                have HUF : Hd (uf = U (lwX N of k) ∧ uf = .slice (some ⟨ug, 0, none⟩) (memX N of k).length uc) := ⟨by rw [HUV.out, hef], by rw [HUV.out, hef, eU]⟩
                have HUG : Hd (B9 ≤ ug ∧ ug < wT.heap.size) := ⟨hu1, hu2⟩
                obtain ⟨ms, hms⟩ : ∃ ms, ms = memX N of k := ⟨_, rfl⟩
                have HMS : Hd (ms = memX N of k ∧ ∀ W, Fr (fun q => q = b ∨ q = wg) wT W → ∀ j (hj : j < ms.length), W.cell? ⟨ug, j, none⟩ = some (vI (ms[j] : Nat))) := ⟨hms, by rw [hms]; exact hu3⟩
                rw [← hms] at HUF HD8
                have hml : ms.length ≤ N := by
                  rw [hms]
                  unfold memX
                  have h2 := List.length_filter_le (fun x => of x == k) (List.range N)
                  rw [List.length_range] at h2
                  omega
                have HMN : Hd (∀ x ∈ ms, x < N) := fun x hx => by rw [hms] at hx; exact (mem_memX.1 hx).1
                obtain ⟨p, hp⟩ : ∃ p : Nat, p = p' := ⟨_, rfl⟩
                rw [← hp] at HFF HP HHP q3 q4 ⊢
                clear HBB hef hu1 hu2 hu3 eU hms HRY HD HF8 hp hp' hpl
                have HRP : Hd (∀ W lv2 wf, Dk N of U wT b wg wc B9 (.slice (some ⟨qk, qo, none⟩) N cc) W k wf lv2 (.slice (some ⟨vg, 0, none⟩) lf.length vc) lf → W.cell? ⟨vg, p, none⟩ = some (.slice (some ⟨ug, 0, none⟩) ms.length uc)) := fun W lv2 wf hD => by
                  obtain ⟨g', c', e', -, hc⟩ := own_cell hD.left (j := p) (u := U (lwX N of k)) (by rw [List.getElem?_map, HP.out.1]; rfl)
                  injection e' with e'
                  injection e' with e'
                  injection e' with e'
                  subst e'
                  rw [hc, ← HUF.out.1, HUF.out.2]
                have p0 := HRP.out w8 _ _ HD8.out
                go_wp2_with fail
                clear p0
                go_loopw [9] (fun v wx => ∃ (j : Nat), v = .int .i64 j ∧ j ≤ ms.length ∧ Hd (Dk N of U wT b wg wc B9 (.slice (some ⟨qk, qo, none⟩) N cc) wx k (whM of k (ms.take j)) (.slice la k lc) (.slice (some ⟨vg, 0, none⟩) lf.length vc) lf)) (fun v _ => ms.length - mI v)
                case atStart => exact ⟨0, by simp, Nat.zero_le _, HD8.out⟩
                case round =>
                  clear HD8
                  obtain ⟨j, rfl, hj, HD⟩ := hrel
                  have p0 := HRP.out wr _ _ HD.out
                  by_cases hltj : j < ms.length
                  · have d3 : decide ((j : Int) < (ms.length : Int)) = true := by simp; omega
                    have HTK : Hd (ms.take (j + 1) = ms.take j ++ [ms[j]]) := by unfold Hd; rw [List.take_add_one, List.getElem?_eq_getElem hltj]; rfl
                    have hyN := HMN.out _ (List.getElem_mem hltj)
                    have HCJ : Hd (∀ W, Fr (fun q => q = b ∨ q = wg) wT W → W.cell? ⟨ug, j, none⟩ = some (vI (ms[j] : Nat))) := fun W fW => HMS.out.2 W fW j hltj
                    generalize ms[j] = y at *
                    have HRD : Hd (∀ W, Fr (fun q => q = wg) wr.drew W → W.cell? ⟨b, 1, none⟩ = some (.slice (some ⟨wg, 0, none⟩) N wc) ∧ W.cell? ⟨b, 0, none⟩ = some (.slice la k lc) ∧ W.cell? ⟨vg, p, none⟩ = some (.slice (some ⟨ug, 0, none⟩) ms.length uc) ∧ W.cell? ⟨ug, j, none⟩ = some (vI (y : Nat)) ∧ (0 : Int) ≤ (p : Int) ∧ (p : Int) < (lf.length : Int) ∧ (0 : Int) ≤ (j : Int) ∧ (j : Int) < (ms.length : Int) ∧ (0 : Int) ≤ (y : Int) ∧ (y : Int) < (N : Int)) := fun W fW => by
                      have hbx : W.heap[b]? = some _ := (fW.block b (heap_lt HD.out.box) (by have := HBD.out; omega)).trans HD.out.box
                      have hv := World.ownsRow.lt HD.out.left vg rfl
                      have hv1 := (fW.cell (o := p) hv.2 (by have := HBD.out; omega)).trans (show wr.drew.cell? _ = _ from p0)
                      exact ⟨by rw [cell_of0 hbx]; rfl, by rw [cell_of0 hbx]; rfl, hv1, HCJ.out W ((HD.out.fr.drew).then fW (fun q _ e => Or.inr e)), by omega, by have := HHP.out; omega, by omega, by omega, by omega, by omega⟩
                    have z5 : wr.drew.frozen? ⟨wg, y, none⟩ = false := (HD.out.stay (Fr.refl _ _).drew).wh.melt
                    have z6 : wr.drew.cell? ⟨wg, y, none⟩ = some (vI (whM of k (ms.take j) y)) := (HD.out.stay (Fr.refl _ _).drew).wh.at hyN
                    have HD2 : Hd (Dk N of U wT b wg wc B9 (.slice (some ⟨qk, qo, none⟩) N cc) (wr.drew.setCell ⟨wg, y, none⟩ (vI (k : Int))) k (whM of k (ms.take (j + 1))) (.slice la k lc) (.slice (some ⟨vg, 0, none⟩) lf.length vc) lf) := by
                      unfold Hd
                      rw [HTK.out, ← whM_next]
                      exact (HD.out.stay (Fr.refl _ _).drew).put HBD.out.1 HBD.out.2.1 HBD.out.2.2 hyN k
                    have HS5 : Hd (Fr (fun q => q = wg) wr.drew (wr.drew.setCell ⟨wg, y, none⟩ (vI (k : Int)))) := setCell_fr _ _ _ _
                    have y0 : (0 : Int) ≤ (y : Int) := by omega
                    have y1 : (y : Int) < (N : Int) := by omega
                    have j1 : (j : Int) < (ms.length : Int) := by omega
                    clear HTK hltj hyN HCJ
                    go_upto_region 17 with fail
                    refine wp_region_held_drew (S := fun W => Fr (fun q => q = wg) wr.drew W) (by kernel_rfl) (Fr.refl _ _) (fun hHeld => ?_)
                    refine heldTake (i := 0) 70 (v := ?_) rfl rfl (by kernel_rfl) (by kernel_rfl) (by kernel_rfl) (fun _ _ _ h => h) (by kernel_rfl) (fun w2 hSw => (by obtain ⟨q0, q1, q2, q3, q4, q5, q6, q7, q8, q9⟩ := HRD.out w2 hSw; go_simp; try with_reducible rfl)) hHeld ?_
                    simp only [Act.put, List.setIfInBounds_toArray, List.set_cons_zero, List.set_cons_succ]
                    refine heldTake (i := 1) 71 (v := ?_) rfl rfl (by kernel_rfl) (by kernel_rfl) (by kernel_rfl) (fun _ _ _ h => h) (by kernel_rfl) (fun w2 hSw => (by obtain ⟨q0, q1, q2, q3, q4, q5, q6, q7, q8, q9⟩ := HRD.out w2 hSw; go_simp; try with_reducible rfl)) hHeld ?_
                    simp only [Act.put, List.setIfInBounds_toArray, List.set_cons_zero, List.set_cons_succ]
                    refine heldTake (i := 2) 72 (v := ?_) rfl rfl (by kernel_rfl) (by kernel_rfl) (by kernel_rfl) (fun _ _ _ h => h) (by kernel_rfl) (fun w2 hSw => (by obtain ⟨q0, q1, q2, q3, q4, q5, q6, q7, q8, q9⟩ := HRD.out w2 hSw; go_simp; try with_reducible rfl)) hHeld ?_
                    simp only [Act.put, List.setIfInBounds_toArray, List.set_cons_zero, List.set_cons_succ]
                    refine heldTake (i := 3) 73 (v := ?_) rfl rfl (by kernel_rfl) (by kernel_rfl) (by kernel_rfl) (fun _ _ _ h => h) (by kernel_rfl) (fun w2 hSw => (by obtain ⟨q0, q1, q2, q3, q4, q5, q6, q7, q8, q9⟩ := HRD.out w2 hSw; go_simp; try with_reducible rfl)) hHeld ?_
                    simp only [Act.put, List.setIfInBounds_toArray, List.set_cons_zero, List.set_cons_succ]
                    refine heldTake (i := 4) 74 (v := ?_) rfl rfl (by kernel_rfl) (by kernel_rfl) (by kernel_rfl) (fun _ _ _ h => h) (by kernel_rfl) (fun w2 hSw => (by obtain ⟨q0, q1, q2, q3, q4, q5, q6, q7, q8, q9⟩ := HRD.out w2 hSw; go_simp; try with_reducible rfl)) hHeld ?_
                    simp only [Act.put, List.setIfInBounds_toArray, List.set_cons_zero, List.set_cons_succ]
                    refine heldTake (i := 5) 75 (v := ?_) rfl rfl (by kernel_rfl) (by kernel_rfl) (by kernel_rfl) (fun _ _ _ h => h) (by kernel_rfl) (fun w2 hSw => (by obtain ⟨q0, q1, q2, q3, q4, q5, q6, q7, q8, q9⟩ := HRD.out w2 hSw; go_simp; try with_reducible rfl)) hHeld ?_
                    simp only [Act.put, List.setIfInBounds_toArray, List.set_cons_zero, List.set_cons_succ]
                    refine heldTake (i := 6) 76 (v := ?_) rfl rfl (by kernel_rfl) (by kernel_rfl) (by kernel_rfl) (fun _ _ _ h => h) (by kernel_rfl) (fun w2 hSw => (by obtain ⟨q0, q1, q2, q3, q4, q5, q6, q7, q8, q9⟩ := HRD.out w2 hSw; go_simp; try with_reducible rfl)) hHeld ?_
                    simp only [Act.put, List.setIfInBounds_toArray, List.set_cons_zero, List.set_cons_succ]
                    refine heldTake (i := 7) 77 (v := ?_) rfl rfl (by kernel_rfl) (by kernel_rfl) (by kernel_rfl) (fun _ _ _ h => h) (by kernel_rfl) (fun w2 hSw => (by obtain ⟨q0, q1, q2, q3, q4, q5, q6, q7, q8, q9⟩ := HRD.out w2 hSw; go_simp; try with_reducible rfl)) hHeld ?_
                    simp only [Act.put, List.setIfInBounds_toArray, List.set_cons_zero, List.set_cons_succ]
                    refine heldTake (i := 8) 78 (v := ?_) rfl rfl (by kernel_rfl) (by kernel_rfl) (by kernel_rfl) (fun _ _ _ h => h) (by kernel_rfl) (fun w2 hSw => (by obtain ⟨q0, q1, q2, q3, q4, q5, q6, q7, q8, q9⟩ := HRD.out w2 hSw; go_simp; try with_reducible rfl)) hHeld ?_
                    simp only [Act.put, List.setIfInBounds_toArray, List.set_cons_zero, List.set_cons_succ]
                    refine heldTake (i := 9) 79 (v := ?_) rfl rfl (by kernel_rfl) (by kernel_rfl) (by kernel_rfl) (fun _ _ _ h => h) (by kernel_rfl) (fun w2 hSw => (by obtain ⟨q0, q1, q2, q3, q4, q5, q6, q7, q8, q9⟩ := HRD.out w2 hSw; go_simp; try with_reducible rfl)) hHeld ?_
                    simp only [Act.put, List.setIfInBounds_toArray, List.set_cons_zero, List.set_cons_succ]
                    refine heldTake (i := 10) 80 (v := ?_) rfl rfl (by kernel_rfl) (by kernel_rfl) (by kernel_rfl) (fun _ _ _ h => h) (by kernel_rfl) (fun w2 hSw => (by obtain ⟨q0, q1, q2, q3, q4, q5, q6, q7, q8, q9⟩ := HRD.out w2 hSw; go_simp; try with_reducible rfl)) hHeld ?_
                    simp only [Act.put, List.setIfInBounds_toArray, List.set_cons_zero, List.set_cons_succ]
                    refine heldTake (i := 11) 81 (v := ?_) rfl rfl (by kernel_rfl) (by kernel_rfl) (by kernel_rfl) (fun _ _ _ h => h) (by kernel_rfl) (fun w2 hSw => (by obtain ⟨q0, q1, q2, q3, q4, q5, q6, q7, q8, q9⟩ := HRD.out w2 hSw; go_simp; try with_reducible rfl)) hHeld ?_
                    simp only [Act.put, List.setIfInBounds_toArray, List.set_cons_zero, List.set_cons_succ]
                    refine heldTake (i := 12) 82 (v := ?_) rfl rfl (by kernel_rfl) (by kernel_rfl) (by kernel_rfl) (fun _ _ _ h => h) (by kernel_rfl) (fun w2 hSw => (by obtain ⟨q0, q1, q2, q3, q4, q5, q6, q7, q8, q9⟩ := HRD.out w2 hSw; go_simp; try with_reducible rfl)) hHeld ?_
                    simp only [Act.put, List.setIfInBounds_toArray, List.set_cons_zero, List.set_cons_succ]
                    refine heldTake (i := 13) 83 (v := ?_) rfl rfl (by kernel_rfl) (by kernel_rfl) (by kernel_rfl) (fun _ _ _ h => h) (by kernel_rfl) (fun w2 hSw => (by obtain ⟨q0, q1, q2, q3, q4, q5, q6, q7, q8, q9⟩ := HRD.out w2 hSw; go_simp; try with_reducible rfl)) hHeld ?_
                    simp only [Act.put, List.setIfInBounds_toArray, List.set_cons_zero, List.set_cons_succ]
                    refine heldTake (i := 14) 84 (v := ?_) rfl rfl (by kernel_rfl) (by kernel_rfl) (by kernel_rfl) (fun _ _ _ h => h) (by kernel_rfl) (fun w2 hSw => (by obtain ⟨q0, q1, q2, q3, q4, q5, q6, q7, q8, q9⟩ := HRD.out w2 hSw; go_simp; try with_reducible rfl)) hHeld ?_
                    simp only [Act.put, List.setIfInBounds_toArray, List.set_cons_zero, List.set_cons_succ]
                    refine heldTake (i := 15) 85 (v := ?_) rfl rfl (by kernel_rfl) (by kernel_rfl) (by kernel_rfl) (fun _ _ _ h => h) (by kernel_rfl) (fun w2 hSw => (by obtain ⟨q0, q1, q2, q3, q4, q5, q6, q7, q8, q9⟩ := HRD.out w2 hSw; go_simp; try with_reducible rfl)) hHeld ?_
                    simp only [Act.put, List.setIfInBounds_toArray, List.set_cons_zero, List.set_cons_succ]
                    refine heldTake (i := 16) 86 (v := ?_) rfl rfl (by kernel_rfl) (by kernel_rfl) (by kernel_rfl) (fun _ _ _ h => h) (by kernel_rfl) (fun w2 hSw => (by obtain ⟨q0, q1, q2, q3, q4, q5, q6, q7, q8, q9⟩ := HRD.out w2 hSw; go_simp; try with_reducible rfl)) hHeld ?_
                    simp only [Act.put, List.setIfInBounds_toArray, List.set_cons_zero, List.set_cons_succ]
                    refine heldOne (i := 17) rfl (by kernel_rfl) (fun KK hKK => ?_)
                    go_simp
                    refine hKK.out _ _ HS5.out ?_
                    clear hKK KK
                    refine wpAnyH_done (by kernel_rfl) ?_ _
                    clear hHeld HD HS5 HRD z5 z6 p0
                    go_wp2_with fail
                    go_roundw
                    case measure => simp [mI_int]; omega
                    case rel =>
                      refine ⟨_, _, _, _, _, _, _, _, _, _, _, _, _, _, _, _, _, _, _, _, _, _, _, _, _, _, _, ?_, rfl⟩
                      exact ⟨j + 1, by simp, by omega, HD2.out⟩
                  · have d3 : decide ((j : Int) < (ms.length : Int)) = false := by simp; omega
                    have d3n : ¬ j < ms.length := hltj
                    have HDA : Hd (Dk N of U wT b wg wc B9 (.slice (some ⟨qk, qo, none⟩) N cc) wr.drew k (whX of (k + 1)) (.slice la k lc) (.slice (some ⟨vg, 0, none⟩) lf.length vc) lf) := by
                      have h1 := HD.out.stay (Fr.refl _ _).drew
                      rw [List.take_of_length_le (by omega), HMS.out.1] at h1
                      exact h1.congr (fun x hx => whM_all hx)
                    have HS0 : wr.drew.cell? ⟨b, 0, none⟩ = some (.slice la k lc) ∧ wr.drew.cell? ⟨vg, p, none⟩ = some (.slice (some ⟨ug, 0, none⟩) ms.length uc) := ⟨by rw [cell_of0 HDA.out.box]; rfl, p0⟩
                    have HS0 : Hd (wr.drew.cell? ⟨b, 0, none⟩ = some (.slice la k lc) ∧ wr.drew.cell? ⟨vg, p, none⟩ = some (.slice (some ⟨ug, 0, none⟩) ms.length uc)) := HS0
                    obtain ⟨we, hwe⟩ : ∃ we, we = wr.drew.alloc (.cells #[.slice (some ⟨ug, 0, none⟩) ms.length uc] 25) := ⟨_, rfl⟩
                    have hFe : Fr (fun _ => False) wr.drew we := by rw [hwe]; exact Fr.alloc (Fr.refl _ _) _
                    have HWE : Hd (we = wr.drew.alloc (.cells #[.slice (some ⟨ug, 0, none⟩) ms.length uc] 25)) := hwe
                    have HDE : Hd (Dk N of U wT b wg wc B9 (.slice (some ⟨qk, qo, none⟩) N cc) we k (whX of (k + 1)) (.slice la k lc) (.slice (some ⟨vg, 0, none⟩) lf.length vc) lf) := HDA.out.stay hFe
                    have HNW : Hd (∀ j' u, [Value.slice (some ⟨ug, 0, none⟩) ms.length uc][j']? = some u → we.cell? ((⟨wr.drew.heap.size, 0, none⟩ : Addr).add j') = some u) := by
                      unfold Hd
                      rw [hwe]
                      exact World.news_of_block (cs := #[.slice (some ⟨ug, 0, none⟩) ms.length uc]) (heap_new0 wr.drew _)
                    have HS1 : Hd (we.cell? ⟨b, 0, none⟩ = some (.slice la k lc) ∧ we.cell? ⟨vg, p, none⟩ = some (.slice (some ⟨ug, 0, none⟩) ms.length uc)) := ⟨by rw [cell_of0 HDE.out.box]; rfl, HRP.out we _ _ HDE.out⟩
                    have hkN : k ≤ N := by omega
                    clear HD hltj hwe hFe
                    go_upto_region 18 with fail
                    refine wp_region_T (S := fun W => W.cell? ⟨b, 0, none⟩ = some (.slice la k lc) ∧ W.cell? ⟨vg, p, none⟩ = some (.slice (some ⟨ug, 0, none⟩) ms.length uc)) (t := 13) mixed ?_
                    refine wpAnyT_takeAt (i := 0) 87 (v := ?_) rfl rfl (by kernel_rfl) (by kernel_rfl) (by kernel_rfl) (by kernel_rfl) (fun _ _ _ h => h) (Or.inl ⟨by rfl, fun w2 hSw => (by obtain ⟨q0, q1⟩ := hSw; go_simp; try with_reducible rfl)⟩) HS0.out ?_
                    simp only [Act.put, List.setIfInBounds_toArray, List.set_cons_zero, List.set_cons_succ]
                    refine wpAnyT_takeAt (i := 1) 88 (v := ?_) rfl rfl (by kernel_rfl) (by kernel_rfl) (by kernel_rfl) (by kernel_rfl) (fun _ _ _ h => h) (Or.inl ⟨by rfl, fun w2 hSw => (by obtain ⟨q0, q1⟩ := hSw; go_simp; try with_reducible rfl)⟩) HS0.out ?_
                    simp only [Act.put, List.setIfInBounds_toArray, List.set_cons_zero, List.set_cons_succ]
                    refine wpAnyT_takeAt (i := 2) 89 (v := ?_) rfl rfl (by kernel_rfl) (by kernel_rfl) (by kernel_rfl) (by kernel_rfl) (fun _ _ _ h => h) (Or.inl ⟨by rfl, fun w2 hSw => (by obtain ⟨q0, q1⟩ := hSw; go_simp; try with_reducible rfl)⟩) HS0.out ?_
                    simp only [Act.put, List.setIfInBounds_toArray, List.set_cons_zero, List.set_cons_succ]
                    refine wpAnyT_takeAt (i := 3) 90 (v := ?_) rfl rfl (by kernel_rfl) (by kernel_rfl) (by kernel_rfl) (by kernel_rfl) (fun _ _ _ h => h) (Or.inl ⟨by rfl, fun w2 hSw => (by obtain ⟨q0, q1⟩ := hSw; go_simp; try with_reducible rfl)⟩) HS0.out ?_
                    simp only [Act.put, List.setIfInBounds_toArray, List.set_cons_zero, List.set_cons_succ]
                    refine wpAnyT_takeAt (i := 4) 91 (v := ?_) rfl rfl (by kernel_rfl) (by kernel_rfl) (by kernel_rfl) (by kernel_rfl) (fun _ _ _ h => h) (Or.inl ⟨by rfl, fun w2 hSw => (by obtain ⟨q0, q1⟩ := hSw; go_simp; try with_reducible rfl)⟩) HS0.out ?_
                    simp only [Act.put, List.setIfInBounds_toArray, List.set_cons_zero, List.set_cons_succ]
                    refine wpAnyT_takeAt (i := 5) 92 (v := ?_) rfl rfl (by kernel_rfl) (by kernel_rfl) (by kernel_rfl) (by kernel_rfl) (fun _ _ _ h => h) (Or.inl ⟨by rfl, fun w2 hSw => (by obtain ⟨q0, q1⟩ := hSw; go_simp; try with_reducible rfl)⟩) HS0.out ?_
                    simp only [Act.put, List.setIfInBounds_toArray, List.set_cons_zero, List.set_cons_succ]
                    refine wpAnyT_takeAt (i := 6) 93 (v := ?_) rfl rfl (by kernel_rfl) (by kernel_rfl) (by kernel_rfl) (by kernel_rfl) (fun _ _ _ h => h) (Or.inl ⟨by rfl, fun w2 hSw => (by obtain ⟨q0, q1⟩ := hSw; go_simp; try with_reducible rfl)⟩) HS0.out ?_
                    simp only [Act.put, List.setIfInBounds_toArray, List.set_cons_zero, List.set_cons_succ]
                    refine wpAnyT_takeAt (i := 7) 94 (v := ?_) rfl rfl (by kernel_rfl) (by kernel_rfl) (by kernel_rfl) (by kernel_rfl) (fun _ _ _ h => h) (Or.inl ⟨by rfl, fun w2 hSw => (by obtain ⟨q0, q1⟩ := hSw; go_simp; try with_reducible rfl)⟩) HS0.out ?_
                    simp only [Act.put, List.setIfInBounds_toArray, List.set_cons_zero, List.set_cons_succ]
                    refine wpAnyT_takeAt (i := 8) 95 (v := ?_) rfl rfl (by kernel_rfl) (by kernel_rfl) (by kernel_rfl) (by kernel_rfl) (fun _ _ _ h => h) (Or.inl ⟨by rfl, fun w2 hSw => (by obtain ⟨q0, q1⟩ := hSw; go_simp; try with_reducible rfl)⟩) HS0.out ?_
                    simp only [Act.put, List.setIfInBounds_toArray, List.set_cons_zero, List.set_cons_succ]
                    refine wpAnyT_one (i := 9) rfl (by kernel_rfl) ?_
                    intro K' HK
                    go_simp
                    have e9 : (wr.alloc (.cells #[.slice (some ⟨ug, 0, none⟩) ms.length uc] 25)).drew = we := by rw [HWE.out]; rfl
                    rw [e9]
                    clear e9
                    refine HK.out _ _ (fun _ => HS1.out) ?_
                    clear HK
                    refine wpAnyT_one (i := 10) rfl (by kernel_rfl) ?_
                    intro K' HK
                    obtain ⟨i3, hi3, hz3, hs3, hb3⟩ := info_parts (P := Tryz.prog) (e := 25) (z := .slice none 0 0) (size := 1) (bytes := 24) (by kernel_rfl)
                    refine step_append_lies _ rfl (.tmp 91) (.tmp 96) 48 rfl wT.heap.size 25 i3 (.slice none 0 0) 1 24 under53 hi3 hz3 hs3 hb3 rfl (by omega) (.slice la k lc) k _ rfl HDE.out.l ⟨wr.heap.size, 0, none⟩ 1 1 [.slice (some ⟨ug, 0, none⟩) ms.length uc] rfl rfl HNW.out (by intro u hu; rw [List.mem_singleton] at hu; rw [hu]; rfl) (by omega) (by unfold maxLen; omega) (by omega) HDE.out.fr.size we.heap.size rfl ?_
                    intro g6 cap6 w6 hown6 hgrow6 hat6 hlt6
                    clear hi3 hz3 hs3 hb3
                    have HD6 : Hd (Dk N of U wT b wg wc B9 (.slice (some ⟨qk, qo, none⟩) N cc) (w6.setCell ⟨b, 0, none⟩ (.slice (some ⟨g6, 0, none⟩) (k + 1) cap6)) (k + 1) (whX of (k + 1)) (.slice (some ⟨g6, 0, none⟩) (k + 1) cap6) (.slice (some ⟨vg, 0, none⟩) lf.length vc) lf) := HDE.out.more HBD.out.1 HBD.out.2.1 HBD.out.2.2 (HUF.out.2.symm.trans HUF.out.1) hgrow6 hown6 hat6
                    have hfr6 := grown_frL hgrow6
                    have hne6 : ∀ q, (Value.slice la k lc).ownBlock = some q → wT.heap.size ≤ q := fun q e => (World.ownsRow.lt HDE.out.l q e).1
                    have hb6 : w6.heap[b]? = some (.cells #[.slice la k lc, .slice (some ⟨wg, 0, none⟩) N wc, .slice (some ⟨qk, qo, none⟩) N cc] 54) := by
                      rw [hfr6.block b (heap_lt HDE.out.box) (fun e => by have := hne6 b e; have := HBD.out; omega)]; exact HDE.out.box
                    have z6 : w6.frozen? ⟨b, 0, none⟩ = false := frozen_of hb6 0
                    have x6 : w6.cell? ⟨b, 0, none⟩ = some (.slice la k lc) := by rw [cell_of0 hb6]; rfl
                    have HS2 : Hd (w6.cell? ⟨b, 0, none⟩ = some (.slice la k lc) ∧ w6.cell? ⟨vg, p, none⟩ = some (.slice (some ⟨ug, 0, none⟩) ms.length uc)) := ⟨x6, (hfr6.cell (World.ownsRow.lt HDE.out.left vg rfl).2 (fun e => HDE.out.ap vg e rfl)).trans HS1.out.2⟩
                    refine HK.out _ _ (fun _ => HS2.out) ?_
                    clear HK
                    try simp only [Act.put, List.setIfInBounds_toArray, List.set_cons_zero, List.set_cons_succ]
                    refine wpAnyT_one (i := 11) rfl (by kernel_rfl) ?_
                    intro K' HK
                    go_simp
                    refine HK.out _ _ (fun _ => HS2.out) ?_
                    clear HK
                    try simp only [Act.put, List.setIfInBounds_toArray, List.set_cons_zero, List.set_cons_succ]
                    refine wpAnyT_one (i := 12) rfl (by kernel_rfl) ?_
                    intro K' HK
                    go_simp
                    refine HK.out _ _ (fun _ => HS2.out) ?_
                    clear HK
                    try simp only [Act.put, List.setIfInBounds_toArray, List.set_cons_zero, List.set_cons_succ]
                    refine wpAnyT_one (i := 13) rfl (by kernel_rfl) ?_
                    intro K' HK
                    go_simp
                    refine HK.out _ _ (fun h => absurd rfl h) ?_
                    clear HK
                    refine wpAnyT_done (by kernel_rfl) ?_ _
                    clear HS0 HS1 HS2 HDA HDE HNW HWE hown6 hgrow6 hat6 hlt6 hfr6 hne6 hb6 z6 x6 p0 d3 d3n
                    obtain ⟨w7, hw7⟩ : ∃ w7, w7 = w6.setCell ⟨b, 0, none⟩ (.slice (some ⟨g6, 0, none⟩) (k + 1) cap6) := ⟨_, rfl⟩
                    rw [← hw7] at HD6 ⊢
                    clear hw7
                    have hpl := HHP.out.2
                    have HO0 : Hd (w7.ownsRow w7.heap.size 25 1 (.slice none 0 0) ((lf.take 0).eraseIdx p).length (((lf.take 0).eraseIdx p).map U) ∧ Fr (fun _ => False) w7 w7) := ⟨by simp; exact World.ownsRow_nil _ _ _ _, Fr.refl _ _⟩
                    go_wp2_with fail
                    go_loopw [10, 11] (fun v10 v wx => ∃ (j : Nat), v = .int .i64 j ∧ j ≤ lf.length ∧ Hd (wx.ownsRow w7.heap.size 25 1 v10 ((lf.take j).eraseIdx p).length (((lf.take j).eraseIdx p).map U) ∧ Fr (fun _ => False) w7 wx)) (fun _ v _ => lf.length - mI v)
                    case atStart => exact ⟨0, by simp, Nat.zero_le _, HO0.out⟩
                    case round =>
                      clear HO0
                      obtain ⟨j, rfl, hj, HO⟩ := hrel
                      by_cases hltj : j < lf.length
                      · have d5 : decide ((j : Int) < (lf.length : Int)) = true := by simp; omega
                        have HNX := erase_next (p := p) hltj
                        have hfm : lf[j] ∈ lf := List.getElem_mem hltj
                        have hfj : lf[j]? = some lf[j] := List.getElem?_eq_getElem hltj
                        obtain ⟨f5, hf5⟩ : ∃ f5, f5 = lf[j] := ⟨_, rfl⟩
                        rw [← hf5] at HNX hfm hfj
                        clear hf5
                        have j0 : (0 : Int) ≤ (j : Int) := by omega
                        have j1 : (j : Int) < (lf.length : Int) := by omega
                        by_cases hjp : j = p
                        · have d6 : ((j : Int) != (p : Int)) = false := by simp; omega
                          have d6a : decide ((j : Int) = (p : Int)) = true := by simp; omega
                          have d6b : ((j : Int) == (p : Int)) = true := by simp; omega
                          rw [if_pos hjp] at HNX
                          have HO2 : Hd (wr.ownsRow w7.heap.size 25 1 u10 ((lf.take (j + 1)).eraseIdx p).length (((lf.take (j + 1)).eraseIdx p).map U) ∧ Fr (fun _ => False) w7 wr) := by unfold Hd; rw [HNX]; exact HO.out
                          clear HO HNX hfm hfj
                          go_wp2_with fail
                          go_roundw
                          case measure => simp [mI_int]; omega
                          case rel => exact ⟨j + 1, by simp [hjp], by omega, HO2.out⟩
                        · have d6 : ((j : Int) != (p : Int)) = true := by simp; omega
                          have d6a : decide ((j : Int) = (p : Int)) = false := by simp; omega
                          have d6b : ((j : Int) == (p : Int)) = false := by simp; omega
                          rw [if_neg hjp] at HNX
                          obtain ⟨ug5, uc5, eU5, -, -, -⟩ := rows_at HUU.out (b := b) (wg := wg) (by have := HBD.out; omega) HBD.out.2.1 (HMC.out f5 hfm)
                          have p5 : wr.cell? ⟨vg, j, none⟩ = some (U f5) := by
                            obtain ⟨g', c', e', -, hc⟩ := own_cell (HD6.out.stay HO.out.2).left (j := j) (u := U f5) (by rw [List.getElem?_map, hfj]; rfl)
                            injection e' with e'
                            injection e' with e'
                            injection e' with e'
                            subst e'
                            exact hc
                          have HE5 : Hd (U f5 = .slice (some ⟨ug5, 0, none⟩) (memX N of (of f5)).length uc5) := eU5
                          rw [eU5] at p5
                          obtain ⟨m5, hm5⟩ : ∃ m5, m5 = (memX N of (of f5)).length := ⟨_, rfl⟩
                          rw [← hm5] at p5 HE5
                          obtain ⟨l5, hl5⟩ : ∃ l5, l5 = (lf.take j).eraseIdx p := ⟨_, rfl⟩
                          have hl5n : l5.length ≤ N := by rw [hl5, List.length_eraseIdx, List.length_take]; have := HHP.out; split <;> omega
                          rw [← hl5] at HO HNX
                          obtain ⟨xa, xc, ex⟩ := own_slice HO.out.1
                          subst ex
                          obtain ⟨we, hwe⟩ : ∃ we, we = wr.alloc (.cells #[.slice (some ⟨ug5, 0, none⟩) m5 uc5] 25) := ⟨_, rfl⟩
                          have hFe : Fr (fun _ => False) wr we := by rw [hwe]; exact Fr.alloc (Fr.refl _ _) _
                          have HWE : Hd (we = wr.alloc (.cells #[.slice (some ⟨ug5, 0, none⟩) m5 uc5] 25)) := hwe
                          have HRW : Hd (we.ownsRow w7.heap.size 25 1 (.slice xa l5.length xc) l5.length (l5.map U) ∧ Fr (fun _ => False) w7 we) := ⟨ownsRow_frL HO.out.1 hFe (fun _ _ e => e), HO.out.2.trans hFe⟩
                          have HNW : Hd (∀ j' u, [Value.slice (some ⟨ug5, 0, none⟩) m5 uc5][j']? = some u → we.cell? ((⟨wr.heap.size, 0, none⟩ : Addr).add j') = some u) := by
                            unfold Hd
                            rw [hwe]
                            exact World.news_of_block (cs := #[.slice (some ⟨ug5, 0, none⟩) m5 uc5]) (heap_new0 wr _)
                          clear hwe hFe hm5 hl5 eU5 hfm hfj HO
                          go_wp2_with ((at_builtin; refine Hd.out ?_))
                          unfold Hd
                          rw [← HWE.out]
                          obtain ⟨i3, hi3, hz3, hs3, hb3⟩ := info_parts (P := Tryz.prog) (e := 25) (z := .slice none 0 0) (size := 1) (bytes := 24) (by kernel_rfl)
                          refine wpList_append_lies _ rfl (.tmp 109) (.tmp 114) 48 rfl w7.heap.size 25 i3 (.slice none 0 0) 1 24 under53 hi3 hz3 hs3 hb3 rfl (by omega) (.slice xa l5.length xc) l5.length _ rfl HRW.out.1 ⟨wr.heap.size, 0, none⟩ 1 1 [.slice (some ⟨ug5, 0, none⟩) m5 uc5] rfl rfl HNW.out (by intro u hu; rw [List.mem_singleton] at hu; rw [hu]; rfl) (by omega) (by unfold maxLen; omega) (by omega) HRW.out.2.size we.heap.size rfl ?_
                          intro g8 cap8 w8 hown8 hgrow8 hat8 hlt8
                          clear hi3 hz3 hs3 hb3
                          have HO2 : Hd (w8.ownsRow w7.heap.size 25 1 (.slice (some ⟨g8, 0, none⟩) (l5.length + 1) cap8) ((lf.take (j + 1)).eraseIdx p).length (((lf.take (j + 1)).eraseIdx p).map U) ∧ Fr (fun _ => False) w7 w8) := by
                            refine ⟨?_, HRW.out.2.then (grown_frL hgrow8) (fun q hq e => by have := (World.ownsRow.lt HRW.out.1 q e).1; omega)⟩
                            rw [HNX, List.length_append, List.map_append, List.map_singleton, HE5.out]
                            exact hown8
                          clear hown8 hgrow8 hat8 hlt8 HRW HNW HNX
                          go_wp2_with fail
                          go_roundw
                          case measure => simp [mI_int]; omega
                          case rel => exact ⟨j + 1, by simp, by omega, HO2.out⟩
                      · have d5 : decide ((j : Int) < (lf.length : Int)) = false := by simp; omega
                        have d5n : ¬ j < lf.length := hltj
                        have HDZ : Hd (Dk N of U wT b wg wc B9 (.slice (some ⟨qk, qo, none⟩) N cc) wr (k + 1) (whX of (k + 1)) (.slice (some ⟨g6, 0, none⟩) (k + 1) cap6) u10 (lefX N of (k + 1))) := by
                          have h1 := HD6.out.stay HO.out.2
                          have h2 := HO.out.1
                          rw [List.take_of_length_le (by omega), List.eraseIdx_eq_take_drop_succ] at h2
                          rw [HLF.out] at h2
                          have h3 := lefX_next HGP.out hlt (p := p) (by rw [← HLF.out]; exact HP.out.1)
                          rw [← h3] at h2
                          have h4 := World.ownsRow.lt HD6.out.l g6 rfl
                          exact ⟨h1.box, h1.wh, h1.l, World.ownsRow.mono h2 (by have := HD6.out.fr.size; have := HBD.out; omega), fun q e e2 => by
                            have h5 := World.ownsRow.lt h2 q e2
                            have e : g6 = q := by injection e
                            omega, h1.fr⟩
                        have HLN : Hd (u10 = u10 ∧ mS u10 < lf.length) := by
                          obtain ⟨za, zc, ez⟩ := own_slice HO.out.1
                          refine ⟨rfl, ?_⟩
                          rw [ez, mS_slice, List.take_of_length_le (by omega), List.length_eraseIdx]
                          split <;> omega
                        clear hltj
                        go_wp2_with fail
                        go_roundw
                        case measure => simp [mS_slice]; exact HLN.out.2
                        case rel => exact ⟨k + 1, _, by omega, HDZ.out⟩
          · have hkn : k = n := by omega
            have hl0 : lefX N of k = [] := lefX_none HGP.out (by omega)
            rw [hl0] at HD ⊢
            have HE : Hd (RnE G fs n of w (.returned (.tuple #[.pointer (some ⟨b, 0, none⟩), vI 0])) wr) := by
              have hbd := HBD.out
              have hb := HB.out
              have hs2 := HF2.out.2.size
              have hsz := HD.out.fr.size
              refine ⟨HFT.out.2.then HD.out.fr (fun q hq e => by rcases e with e | e <;> (exfalso; omega)), Or.inr ⟨HCK.out.symm, b, rfl, ⟨⟨.slice la k lc, .slice (some ⟨qk, qo, none⟩) N cc, wg, wc, (List.range k).map (fun c => U (lwX N of c)), cus, ?_⟩⟩⟩⟩
              rw [← HNN.out.1]
              refine ⟨HD.out.box, by omega, ?_, ⟨?_, by simp; omega, fun i hi hi' => ?_⟩, HLO2.out.stay (HW2.out.then HD.out.fr (fun q hq e => by rcases e with e | e <;> (exfalso; omega)))⟩
              · have h1 := HD.out.wh.mono (B' := w.heap.size) (by omega)
                rw [show (List.range N).map (whX of k) = (List.range N).map (fun x => (of x : Int)) from List.map_congr_left (fun x hx => by have := HGP.out.lt x (List.mem_range.1 hx); unfold whX; rw [if_pos (by omega)])] at h1
                exact h1
              · rw [List.length_map, List.length_range]
                exact World.ownsRow.mono HD.out.l (by omega)
              · rw [List.length_map, List.length_range] at hi
                obtain ⟨r, -, l1, l2⟩ := HGP.out.toRg.low (c := i) (by omega)
                have h1 := HUU.out (lwX N of i) (mem_cmpX.2 ⟨l1, by rw [l2]⟩)
                rw [l2] at h1
                rw [List.getElem_map, List.getElem_map, List.getElem_range, List.getElem_range]
                exact (h1.fr HD.out.fr (fun q e e2 => by have := (h1.ge q e).1; rcases e2 with e2 | e2 <;> omega)).mono (by omega)
            go_wp2_with fail
            go_ret2
            exact HE.out
  · have dz : decide (ck = 0) = false := by simp [hz]
    have HE : Hd (RnE G fs n of w (.returned (.tuple #[.pointer none, vI ck])) w1) := ⟨HF1.out.2, Or.inl ⟨by rw [← HCK.out]; exact hz, by rw [← HCK.out]⟩⟩
    go_wp2_with fail
    go_ret2
    exact HE.out
end Go.Proofs.YtjmbfjaahadbhaaGreatDoor
