import Derived.Test.YtihicdbplmdjiaaQLdJ
import Derived.Carry
namespace Go.Proofs.Ytihicdbplmdjiaa
open Go.RowKit (wrap32 wrap64)
set_option linter.unusedVariables false
set_option linter.unusedSimpArgs false

/-- What the document's Order tells. -/
def RoE (h : List Mo) (w w' : World) (lv : Value) (ok : Bool) (er : Int) : Prop :=
  (callsX h = none ∧ lv = .slice none 0 0 ∧ ok = false ∧ er = 230) ∨ ∃ cs r, callsX h = some cs ∧ er = 0 ∧ RefO cs [] r ∧
    ((r = none ∧ lv = .slice none 0 0 ∧ ok = false) ∨ ∃ fin, r = some fin ∧ ok = true ∧ w'.ownsRow w.heap.size 3 1 lv fin.length (fin.map (fun i => vI (bI cs i))))
def RoR (h : List Mo) (w : World) (e : Ending) (w' : World) : Prop := ∃ lv ok er, e = .returned (.tuple #[lv, .bool ok, vI er]) ∧ Fr (fun _ => False) w w' ∧ RoE h w w' lv ok er
theorem refAll_snoc (cs : List Cl) (acc : List Nat) (i k : Nat) : (List.range (k + 1)).all (fun k => decide (k ∈ acc) || decide (k = i) || !aheadB (cs.getD k clZ) (cs.getD i clZ)) = ((List.range k).all (fun k => decide (k ∈ acc) || decide (k = i) || !aheadB (cs.getD k clZ) (cs.getD i clZ)) && (decide (k ∈ acc) || decide (k = i) || !aheadB (cs.getD k clZ) (cs.getD i clZ))) := by
  rw [List.range_succ, List.all_append]; simp
theorem refLeast_of {cs : List Cl} {acc : List Nat} {i : Nat} (hi : i < cs.length) (h : refFree cs acc i = true) (hb : ∀ j, j < i → refFree cs acc j = false) : refLeast cs acc = some i := by
  unfold refLeast
  rw [List.find?_eq_some_iff_append]
  refine ⟨h, List.range i, (List.range cs.length).drop (i + 1), ?_, fun a ha => by rw [hb a (List.mem_range.1 ha)]; rfl⟩
  have e1 : List.range cs.length = (List.range cs.length).take i ++ (List.range cs.length).drop i := (List.take_append_drop _ _).symm
  have e2 : (List.range cs.length).take i = List.range i := by rw [List.take_range, Nat.min_eq_left (by omega)]
  have e3 : (List.range cs.length).drop i = i :: (List.range cs.length).drop (i + 1) := by
    rw [List.drop_eq_getElem_cons (by simpa using hi), List.getElem_range]
  rw [e2, e3] at e1
  exact e1
theorem refLeast_no {cs : List Cl} {acc : List Nat} (h : ∀ j, j < cs.length → refFree cs acc j = false) : refLeast cs acc = none := by
  unfold refLeast
  exact List.find?_eq_none.2 fun j hj => by rw [h j (List.mem_range.1 hj)]; simp
set_option maxRecDepth 100000 in
set_option maxHeartbeats 4000000 in
/-- The document's Order of any history. -/
theorem rorder_any (hv : Value) (h : List Mo) (w : World) (hh : HAt w hv h) (hl : h.length ≤ 4000000000) (hm : ∀ m ∈ h, m.R.r.keys.length ≤ 4000000000 ∧ m.R.r.vals.length ≤ 4000000000) :
    Calls Try.prog 21 #[hv] w fun e w' => RoR h w e w' := by
  have hrc := rcalls_any hv h w hh hl
  have HL : Hd (∀ cs, callsX h = some cs → (∀ c ∈ cs, c.kd = 1 ∨ c.kd = 2 ∨ c.kd = 3) ∧ (cs.map Cl.b).Pairwise (· < ·) ∧ (∀ c ∈ cs, rightReplyB c.kd c.R.r = true) ∧ (∀ c ∈ cs, c.R.r.keys.length ≤ 4000000000 ∧ c.R.r.vals.length ≤ 4000000000) ∧ cs.length ≤ 64) := fun cs hc => by
    refine ⟨(calls_begun hc).1, (calls_begun hc).2, calls_right hc, fun c hcc => ?_, ?_⟩
    · obtain ⟨m, m', q⟩ := (calls_ref hc).each c hcc
      rw [q.R]
      exact hm m' (List.mem_of_getElem? q.e)
    · have h1 := (calls_ref hc).le
      have h2 := congrArg List.length (calls_ref hc).bs
      simp only [List.length_map] at h2
      omega
  clear hh hl hm
  go_enter Try.func21, Try.ntmps21
  go_upto_region 2 with (go_at_call 12; refine hrc.mono ?_; rintro _ w1 ⟨lv, ok, rfl, hf1, hE⟩; have HF1 : Hd (Fr _ _ _) := hf1; have HE : Hd (RcE _ _ _ _ _) := hE; clear hf1 hE)
  clear hrc
  rcases HE.out with ⟨hn, rfl⟩ | ⟨cs, hs, rfl, hown, hcat⟩
  · clear HE
    go_wp2_with fail
    go_ret3
    exact ⟨_, _, _, rfl, HF1.out, Or.inl ⟨hn, rfl, rfl, rfl⟩⟩
  · obtain ⟨hk, hb, hr, hlen, h64⟩ := HL.out cs hs
    have HK : Hd ((∀ c ∈ cs, c.kd = 1 ∨ c.kd = 2 ∨ c.kd = 3) ∧ (∀ c ∈ cs, rightReplyB c.kd c.R.r = true) ∧ (∀ c ∈ cs, c.R.r.keys.length ≤ 4000000000 ∧ c.R.r.vals.length ≤ 4000000000) ∧ callsX h = some cs ∧ ∀ c ∈ cs, c.R.At w1) := ⟨hk, hr, hlen, hs, fun c hc => (hcat c hc).fr HF1.out⟩
    obtain ⟨la, lc, elv⟩ := hown.val
    subst elv
    have HCS : Hd (∀ i (hi : i < cs.length), ∃ g, la = some ⟨g, 0, none⟩ ∧ ∀ W, Fr (fun _ => False) w1 W → ∀ j, j < 9 → W.cell? ⟨g, i * 9 + j, none⟩ = (c9 cs[i])[j]?) := fun i hi => by
      obtain ⟨g, cap, e, -, hgl, hx⟩ := hown.cells (fun e => by rw [e] at hi; simp at hi)
      cases e
      exact ⟨g, rfl, fun W f j hj => (f.cell hgl (fun e => e)).trans (hx i hi j hj)⟩
    obtain ⟨n, en⟩ : ∃ n, n = cs.length := ⟨_, rfl⟩
    have EN : Hd (n = cs.length) := en
    rw [← en] at h64 ⊢
    clear HE HL hk hb hr hlen hs hown hcat en
    go_upto_region 6 with fail
    obtain ⟨W2, eW2⟩ : ∃ W2, W2 = (w1.alloc (Obj.cells #[.slice none 0 0, .slice none 0 0] 66)) := ⟨_, rfl⟩
    have hb2 := heap_alloc_last w1 (Obj.cells #[.slice none 0 0, .slice none 0 0] 66)
    have hf2 : Fr (fun _ => False) w1 W2 := by rw [eW2]; exact (Fr.refl _ w1).alloc _
    have hz2 : W2.heap.size = w1.heap.size + 1 := by rw [eW2]; simp
    obtain ⟨pt, ept⟩ : ∃ pt, pt = w1.heap.size := ⟨_, rfl⟩
    have HPT : Hd (w1.heap.size = pt) := ept.symm
    rw [← eW2] at hb2 ⊢
    rw [← ept] at hb2 hz2 ⊢
    clear eW2 ept
    have hmk := make70 n h64 W2
    rw [hz2] at hmk
    have hdr := DRow.made W2 n
    rw [hz2] at hdr
    have hf3 : Fr (fun _ => False) W2 (W2.alloc (.cells (madeCells #[.bool false] n) 4)) := (Fr.refl _ W2).alloc _
    obtain ⟨W3, eW3⟩ : ∃ W3, W3 = (W2.alloc (.cells (madeCells #[.bool false] n) 4)) := ⟨_, rfl⟩
    rw [← eW3] at hmk hdr hf3
    have HS0 : Hd (PlO cs w1 W3 pt (.slice none 0 0) [] [] (.slice none 0 0) (.slice none 0 0) []) :=
      ⟨hf2.trans hf3, ⟨(hf3.block pt (heap_lt hb2) (fun e => e)).trans hb2, World.ownsRow_nil _ _ _ _, World.ownsRow_nil _ _ _ _, by simp [Value.ownBlock], by simp [Value.ownBlock], by simp [Value.ownBlock], List.Pairwise.nil⟩, World.ownsRow_nil _ _ _ _, by rw [← EN.out]; exact hdr, by simp [Value.ownBlock]⟩
    clear hb2 hf2 hz2 hdr hf3 eW3
    go_upto_region 7 with fail
    clear hmk
    go_loopw [8] (fun v8 wr => ∃ acc : List Nat, ∃ kv vv : Value, acc.length ≤ n ∧ (∃ a c, v8 = .slice a acc.length c) ∧ Hd (PlO cs w1 wr pt v8 acc acc kv vv (tabOf ((seqX cs acc).map opT)) ∧ (∀ r, RefO cs acc r → RefO cs [] r) ∧ ∀ i ∈ acc, i < cs.length)) (fun v _ => match v with | .slice _ l _ => n - l | _ => 0)
    case atStart => exact ⟨[], _, _, by simp, ⟨_, _, rfl⟩, HS0.out, fun r hr => hr, by simp⟩
    case round =>
      clear HS0
      obtain ⟨acc, kv, vv, hna, ⟨ua, uc, rfl⟩, HS⟩ := hrel
      obtain ⟨m, em⟩ : ∃ m, m = acc.length := ⟨_, rfl⟩
      have HM : Hd (m = acc.length) := em
      rw [← em] at hna HS ⊢
      clear em
      by_cases hlt : (m : Int) < n
      · obtain ⟨Wi, rfl⟩ : ∃ Wi, Wi = wr := ⟨_, rfl⟩
        go_upto_region 10 with fail
        go_loopw [10, 11] (fun v10 v11 w2 => ∃ i : Nat, ∃ x : Int, v11 = vI i ∧ v10 = vI x ∧ i ≤ n ∧ Hd (Fr (fun _ => False) Wi w2 ∧ ((x = -1 ∧ ∀ j, j < i → refFree cs acc j = false) ∨ ∃ j : Nat, x = j ∧ refLeast cs acc = some j))) (fun _ v _ => match v with | .int _ q => n - q.toNat | _ => 0)
        case atStart => exact ⟨0, -1, rfl, rfl, by omega, Fr.refl _ _, Or.inl ⟨rfl, fun j hj => absurd hj (by omega)⟩⟩
        case round =>
          obtain ⟨i, x, rfl, rfl, hi, HG⟩ := hrel
          rcases HG.out.2 with ⟨rfl, hno⟩ | ⟨j, rfl, hj⟩
          · by_cases hin : i < n
            · have i0 : (0 : Int) ≤ i := by omega
              have i1 : (i : Int) < n := by omega
              have hic : i < cs.length := by rw [← EN.out]; exact hin
              have HNO : Hd (∀ j, j < i → refFree cs acc j = false) := hno
              obtain ⟨Wj, rfl⟩ : ∃ Wj, Wj = wr := ⟨_, rfl⟩
              have HDN : Hd (∀ W, Fr (fun _ => False) Wi W → ∀ k, k < n → W.cell? ⟨pt + 1, k, none⟩ = some (.bool (decide (k ∈ acc)))) := fun W f k hk => ((HS.out.1.go f).don.at (by rw [← EN.out]; exact hk)).1
              obtain ⟨gi, rfl, hci⟩ := HCS.out i hic
              obtain ⟨ci, eci⟩ : ∃ c, c = cs[i] := ⟨_, rfl⟩
              rw [← eci] at hci
              have HCI : Hd ((∀ W, Fr (fun _ => False) Wi W → ∀ j, j < 9 → W.cell? ⟨gi, i * 9 + j, none⟩ = (c9 ci)[j]?) ∧ ci ∈ cs ∧ cs.getD i clZ = ci) := ⟨fun W f => hci W (HS.out.1.fr.trans f), by rw [eci]; exact List.getElem_mem hic, by rw [eci]; exact getD_is hic⟩
              clear eci hci hno
              have y0 := HDN.out Wj HG.out.1 i hin
              obtain ⟨di, edi⟩ : ∃ d, d = decide (i ∈ acc) := ⟨_, rfl⟩
              rw [← edi] at y0
              have HDI : Hd (di = decide (i ∈ acc)) := edi
              clear edi
              go_upto_region 14 with fail
              clear y0
              go_loopw [12, 13] (fun v12 v13 w2 => ∃ k : Nat, ∃ t : Bool, v13 = vI k ∧ v12 = .bool t ∧ k ≤ n ∧ Hd (Fr (fun _ => False) Wi w2 ∧ t = (decide (i ∉ acc) && (List.range k).all (fun k => decide (k ∈ acc) || decide (k = i) || !aheadB (cs.getD k clZ) (cs.getD i clZ))))) (fun _ v _ => match v with | .int _ q => n - q.toNat | _ => 0)
              case atStart => exact ⟨0, !di, rfl, rfl, by omega, HG.out.1, by rw [HDI.out]; simp⟩
              case round =>
                clear HG
                obtain ⟨k, t, rfl, rfl, hk, HG⟩ := hrel
                by_cases hkn : k < n
                · have k0 : (0 : Int) ≤ k := by omega
                  have k1 : (k : Int) < n := by omega
                  have hkc : k < cs.length := by rw [← EN.out]; exact hkn
                  have y0 := HDN.out wr HG.out.1 k hkn
                  obtain ⟨dk, edk⟩ : ∃ d, d = decide (k ∈ acc) := ⟨_, rfl⟩
                  rw [← edk] at y0
                  have HDK : Hd (dk = decide (k ∈ acc)) := edk
                  clear edk
                  cases dk
                  · by_cases hki : k = i
                    · subst hki
                      have hkk : ((k : Int) == (k : Int)) = true := by simp
                      go_upto_region 16 with fail
                      go_quiet (fail)
                      go_wp2_with fail
                      refine ⟨⟨k + 1, t, by simp, rfl, by omega, HG.out.1.trans (fr_drewN _ _), ?_⟩, by simp; omega⟩
                      rw [refAll_snoc, ← Bool.and_assoc, ← HG.out.2]; simp
                    · have hkk : ((k : Int) == (i : Int)) = false := by simp; omega
                      obtain ⟨gk, egk, hck⟩ := HCS.out k hkc
                      cases egk
                      obtain ⟨ck, eck⟩ : ∃ c, c = cs[k] := ⟨_, rfl⟩
                      rw [← eck] at hck
                      have HCK : Hd ((∀ W, Fr (fun _ => False) Wi W → ∀ j, j < 9 → W.cell? ⟨gi, k * 9 + j, none⟩ = (c9 ck)[j]?) ∧ ck ∈ cs ∧ cs.getD k clZ = ck) := ⟨fun W f => hck W (HS.out.1.fr.trans f), by rw [eck]; exact List.getElem_mem hkc, by rw [eck]; exact getD_is hkc⟩
                      clear eck hck
                      obtain ⟨A, eA⟩ : ∃ A, A = aheadB ck ci := ⟨_, rfl⟩
                      have HA : Hd (A = aheadB (cs.getD k clZ) (cs.getD i clZ)) := by rw [HCK.out.2.2, HCI.out.2.2]; exact eA
                      have HY : Hd (∀ W, Fr (fun _ => False) wr W → Calls Try.prog 35 #[ck.V, ci.V] W fun e w' => e = .returned (.bool A) ∧ Fr (fun _ => False) W w') := fun W f => by
                        rw [eA]
                        have fw := (HS.out.1.fr.trans HG.out.1).trans f
                        exact rahead_any ck ci W ((HK.out.2.2.2.2 ck HCK.out.2.1).fr fw) (by have := HK.out.2.2.1 ck HCK.out.2.1; omega) ((HK.out.2.2.2.2 ci HCI.out.2.1).fr fw) (by have := HK.out.2.2.1 ci HCI.out.2.1; omega)
                      clear eA
                      obtain ⟨kka, kkc, ekk⟩ := row_slice (HK.out.2.2.2.2 ck HCK.out.2.1).1
                      obtain ⟨kva, kvc, ekv⟩ := row_slice (HK.out.2.2.2.2 ck HCK.out.2.1).2
                      obtain ⟨ika, ikc, eik⟩ := row_slice (HK.out.2.2.2.2 ci HCI.out.2.1).1
                      obtain ⟨iva, ivc, eiv⟩ := row_slice (HK.out.2.2.2.2 ci HCI.out.2.1).2
                      simp only [List.length_map] at ekk ekv eik eiv
                      have HKX : Hd (∀ W, Fr (fun _ => False) wr W → ∀ j, j < 9 → W.cell? ⟨gi, k * 9 + j, none⟩ = (c9 ck)[j]?) := fun W f => HCK.out.1 W (HG.out.1.trans f)
                      have HIX : Hd (∀ W, Fr (fun _ => False) wr W → ∀ j, j < 9 → W.cell? ⟨gi, i * 9 + j, none⟩ = (c9 ci)[j]?) := fun W f => HCI.out.1 W (HG.out.1.trans f)
                      have HDW : Hd (∀ W, Fr (fun _ => False) wr W → W.cell? ⟨pt + 1, k, none⟩ = some (.bool false)) := fun W f => (HDN.out W (HG.out.1.trans f) k hkn).trans (by rw [← HDK.out])
                      have HTT : Hd ((t && !A) = (decide (i ∉ acc) && (List.range (k + 1)).all (fun k => decide (k ∈ acc) || decide (k = i) || !aheadB (cs.getD k clZ) (cs.getD i clZ)))) := by
                        show _ = _
                        rw [refAll_snoc, ← Bool.and_assoc, ← HG.out.2, ← HDK.out, ← HA.out]
                        simp [hki]
                      clear HCK HCI HA
                      obtain ⟨kb, ke, kkd, kky, kx, ⟨⟨kok, kval, kks, kvs⟩, kkv, kvv⟩⟩ := ck
                      obtain ⟨ib, ie, ikd, iky, ix, ⟨⟨iok, ival, iks, ivs⟩, ikv, ivv⟩⟩ := ci
                      simp only at ekk ekv eik eiv
                      subst ekk ekv eik eiv
                      unfold c9 at HKX HIX
                      unfold Cl.V c9 at HY
                      simp only at HY
                      go_upto_region 16 with fail
                      clear y0
                      refine wp_region_held_drew (S := fun W2 => Fr (fun _ => False) wr W2) (by kernel_rfl) ((Fr.refl _ wr).drew) (fun hHeld => ?_)
                      refine heldTake (i := 0) 54 (v := ?_) rfl rfl (by kernel_rfl) (by kernel_rfl) (by kernel_rfl) (fun _ _ _ h => h) (by kernel_rfl) (fun w hSw => (by have z := HDW.out w hSw; have k0 := HKX.out w hSw 0 (by omega); have k1 := HKX.out w hSw 1 (by omega); have k2 := HKX.out w hSw 2 (by omega); have k3 := HKX.out w hSw 3 (by omega); have k4 := HKX.out w hSw 4 (by omega); have k5 := HKX.out w hSw 5 (by omega); have k6 := HKX.out w hSw 6 (by omega); have k7 := HKX.out w hSw 7 (by omega); have k8 := HKX.out w hSw 8 (by omega); have i0 := HIX.out w hSw 0 (by omega); have i1 := HIX.out w hSw 1 (by omega); have i2 := HIX.out w hSw 2 (by omega); have i3 := HIX.out w hSw 3 (by omega); have i4 := HIX.out w hSw 4 (by omega); have i5 := HIX.out w hSw 5 (by omega); have i6 := HIX.out w hSw 6 (by omega); have i7 := HIX.out w hSw 7 (by omega); have i8 := HIX.out w hSw 8 (by omega); simp only [List.getElem?_cons_zero, List.getElem?_cons_succ, Nat.add_zero] at k0 k1 k2 k3 k4 k5 k6 k7 k8 i0 i1 i2 i3 i4 i5 i6 i7 i8; go_simp; try with_reducible rfl)) hHeld ?_
                      simp only [Act.put, List.setIfInBounds_toArray, List.set_cons_zero, List.set_cons_succ]
                      refine heldTake (i := 1) 55 (v := ?_) rfl rfl (by kernel_rfl) (by kernel_rfl) (by kernel_rfl) (fun _ _ _ h => h) (by kernel_rfl) (fun w hSw => (by have z := HDW.out w hSw; have k0 := HKX.out w hSw 0 (by omega); have k1 := HKX.out w hSw 1 (by omega); have k2 := HKX.out w hSw 2 (by omega); have k3 := HKX.out w hSw 3 (by omega); have k4 := HKX.out w hSw 4 (by omega); have k5 := HKX.out w hSw 5 (by omega); have k6 := HKX.out w hSw 6 (by omega); have k7 := HKX.out w hSw 7 (by omega); have k8 := HKX.out w hSw 8 (by omega); have i0 := HIX.out w hSw 0 (by omega); have i1 := HIX.out w hSw 1 (by omega); have i2 := HIX.out w hSw 2 (by omega); have i3 := HIX.out w hSw 3 (by omega); have i4 := HIX.out w hSw 4 (by omega); have i5 := HIX.out w hSw 5 (by omega); have i6 := HIX.out w hSw 6 (by omega); have i7 := HIX.out w hSw 7 (by omega); have i8 := HIX.out w hSw 8 (by omega); simp only [List.getElem?_cons_zero, List.getElem?_cons_succ, Nat.add_zero] at k0 k1 k2 k3 k4 k5 k6 k7 k8 i0 i1 i2 i3 i4 i5 i6 i7 i8; go_simp; try with_reducible rfl)) hHeld ?_
                      simp only [Act.put, List.setIfInBounds_toArray, List.set_cons_zero, List.set_cons_succ]
                      refine heldTake (i := 2) 56 (v := ?_) rfl rfl (by kernel_rfl) (by kernel_rfl) (by kernel_rfl) (fun _ _ _ h => h) (by kernel_rfl) (fun w hSw => (by have z := HDW.out w hSw; have k0 := HKX.out w hSw 0 (by omega); have k1 := HKX.out w hSw 1 (by omega); have k2 := HKX.out w hSw 2 (by omega); have k3 := HKX.out w hSw 3 (by omega); have k4 := HKX.out w hSw 4 (by omega); have k5 := HKX.out w hSw 5 (by omega); have k6 := HKX.out w hSw 6 (by omega); have k7 := HKX.out w hSw 7 (by omega); have k8 := HKX.out w hSw 8 (by omega); have i0 := HIX.out w hSw 0 (by omega); have i1 := HIX.out w hSw 1 (by omega); have i2 := HIX.out w hSw 2 (by omega); have i3 := HIX.out w hSw 3 (by omega); have i4 := HIX.out w hSw 4 (by omega); have i5 := HIX.out w hSw 5 (by omega); have i6 := HIX.out w hSw 6 (by omega); have i7 := HIX.out w hSw 7 (by omega); have i8 := HIX.out w hSw 8 (by omega); simp only [List.getElem?_cons_zero, List.getElem?_cons_succ, Nat.add_zero] at k0 k1 k2 k3 k4 k5 k6 k7 k8 i0 i1 i2 i3 i4 i5 i6 i7 i8; go_simp; try with_reducible rfl)) hHeld ?_
                      simp only [Act.put, List.setIfInBounds_toArray, List.set_cons_zero, List.set_cons_succ]
                      refine heldTake (i := 3) 57 (v := ?_) rfl rfl (by kernel_rfl) (by kernel_rfl) (by kernel_rfl) (fun _ _ _ h => h) (by kernel_rfl) (fun w hSw => (by have z := HDW.out w hSw; have k0 := HKX.out w hSw 0 (by omega); have k1 := HKX.out w hSw 1 (by omega); have k2 := HKX.out w hSw 2 (by omega); have k3 := HKX.out w hSw 3 (by omega); have k4 := HKX.out w hSw 4 (by omega); have k5 := HKX.out w hSw 5 (by omega); have k6 := HKX.out w hSw 6 (by omega); have k7 := HKX.out w hSw 7 (by omega); have k8 := HKX.out w hSw 8 (by omega); have i0 := HIX.out w hSw 0 (by omega); have i1 := HIX.out w hSw 1 (by omega); have i2 := HIX.out w hSw 2 (by omega); have i3 := HIX.out w hSw 3 (by omega); have i4 := HIX.out w hSw 4 (by omega); have i5 := HIX.out w hSw 5 (by omega); have i6 := HIX.out w hSw 6 (by omega); have i7 := HIX.out w hSw 7 (by omega); have i8 := HIX.out w hSw 8 (by omega); simp only [List.getElem?_cons_zero, List.getElem?_cons_succ, Nat.add_zero] at k0 k1 k2 k3 k4 k5 k6 k7 k8 i0 i1 i2 i3 i4 i5 i6 i7 i8; go_simp; try with_reducible rfl)) hHeld ?_
                      simp only [Act.put, List.setIfInBounds_toArray, List.set_cons_zero, List.set_cons_succ]
                      refine heldTake (i := 4) 58 (v := ?_) rfl rfl (by kernel_rfl) (by kernel_rfl) (by kernel_rfl) (fun _ _ _ h => h) (by kernel_rfl) (fun w hSw => (by have z := HDW.out w hSw; have k0 := HKX.out w hSw 0 (by omega); have k1 := HKX.out w hSw 1 (by omega); have k2 := HKX.out w hSw 2 (by omega); have k3 := HKX.out w hSw 3 (by omega); have k4 := HKX.out w hSw 4 (by omega); have k5 := HKX.out w hSw 5 (by omega); have k6 := HKX.out w hSw 6 (by omega); have k7 := HKX.out w hSw 7 (by omega); have k8 := HKX.out w hSw 8 (by omega); have i0 := HIX.out w hSw 0 (by omega); have i1 := HIX.out w hSw 1 (by omega); have i2 := HIX.out w hSw 2 (by omega); have i3 := HIX.out w hSw 3 (by omega); have i4 := HIX.out w hSw 4 (by omega); have i5 := HIX.out w hSw 5 (by omega); have i6 := HIX.out w hSw 6 (by omega); have i7 := HIX.out w hSw 7 (by omega); have i8 := HIX.out w hSw 8 (by omega); simp only [List.getElem?_cons_zero, List.getElem?_cons_succ, Nat.add_zero] at k0 k1 k2 k3 k4 k5 k6 k7 k8 i0 i1 i2 i3 i4 i5 i6 i7 i8; go_simp; try with_reducible rfl)) hHeld ?_
                      simp only [Act.put, List.setIfInBounds_toArray, List.set_cons_zero, List.set_cons_succ]
                      refine heldTake (i := 5) 59 (v := ?_) rfl rfl (by kernel_rfl) (by kernel_rfl) (by kernel_rfl) (fun _ _ _ h => h) (by kernel_rfl) (fun w hSw => (by have z := HDW.out w hSw; have k0 := HKX.out w hSw 0 (by omega); have k1 := HKX.out w hSw 1 (by omega); have k2 := HKX.out w hSw 2 (by omega); have k3 := HKX.out w hSw 3 (by omega); have k4 := HKX.out w hSw 4 (by omega); have k5 := HKX.out w hSw 5 (by omega); have k6 := HKX.out w hSw 6 (by omega); have k7 := HKX.out w hSw 7 (by omega); have k8 := HKX.out w hSw 8 (by omega); have i0 := HIX.out w hSw 0 (by omega); have i1 := HIX.out w hSw 1 (by omega); have i2 := HIX.out w hSw 2 (by omega); have i3 := HIX.out w hSw 3 (by omega); have i4 := HIX.out w hSw 4 (by omega); have i5 := HIX.out w hSw 5 (by omega); have i6 := HIX.out w hSw 6 (by omega); have i7 := HIX.out w hSw 7 (by omega); have i8 := HIX.out w hSw 8 (by omega); simp only [List.getElem?_cons_zero, List.getElem?_cons_succ, Nat.add_zero] at k0 k1 k2 k3 k4 k5 k6 k7 k8 i0 i1 i2 i3 i4 i5 i6 i7 i8; go_simp; try with_reducible rfl)) hHeld ?_
                      simp only [Act.put, List.setIfInBounds_toArray, List.set_cons_zero, List.set_cons_succ]
                      refine heldTake (i := 6) 60 (v := ?_) rfl rfl (by kernel_rfl) (by kernel_rfl) (by kernel_rfl) (fun _ _ _ h => h) (by kernel_rfl) (fun w hSw => (by have z := HDW.out w hSw; have k0 := HKX.out w hSw 0 (by omega); have k1 := HKX.out w hSw 1 (by omega); have k2 := HKX.out w hSw 2 (by omega); have k3 := HKX.out w hSw 3 (by omega); have k4 := HKX.out w hSw 4 (by omega); have k5 := HKX.out w hSw 5 (by omega); have k6 := HKX.out w hSw 6 (by omega); have k7 := HKX.out w hSw 7 (by omega); have k8 := HKX.out w hSw 8 (by omega); have i0 := HIX.out w hSw 0 (by omega); have i1 := HIX.out w hSw 1 (by omega); have i2 := HIX.out w hSw 2 (by omega); have i3 := HIX.out w hSw 3 (by omega); have i4 := HIX.out w hSw 4 (by omega); have i5 := HIX.out w hSw 5 (by omega); have i6 := HIX.out w hSw 6 (by omega); have i7 := HIX.out w hSw 7 (by omega); have i8 := HIX.out w hSw 8 (by omega); simp only [List.getElem?_cons_zero, List.getElem?_cons_succ, Nat.add_zero] at k0 k1 k2 k3 k4 k5 k6 k7 k8 i0 i1 i2 i3 i4 i5 i6 i7 i8; go_simp; try with_reducible rfl)) hHeld ?_
                      simp only [Act.put, List.setIfInBounds_toArray, List.set_cons_zero, List.set_cons_succ]
                      refine heldTake (i := 7) 61 (v := ?_) rfl rfl (by kernel_rfl) (by kernel_rfl) (by kernel_rfl) (fun _ _ _ h => h) (by kernel_rfl) (fun w hSw => (by have z := HDW.out w hSw; have k0 := HKX.out w hSw 0 (by omega); have k1 := HKX.out w hSw 1 (by omega); have k2 := HKX.out w hSw 2 (by omega); have k3 := HKX.out w hSw 3 (by omega); have k4 := HKX.out w hSw 4 (by omega); have k5 := HKX.out w hSw 5 (by omega); have k6 := HKX.out w hSw 6 (by omega); have k7 := HKX.out w hSw 7 (by omega); have k8 := HKX.out w hSw 8 (by omega); have i0 := HIX.out w hSw 0 (by omega); have i1 := HIX.out w hSw 1 (by omega); have i2 := HIX.out w hSw 2 (by omega); have i3 := HIX.out w hSw 3 (by omega); have i4 := HIX.out w hSw 4 (by omega); have i5 := HIX.out w hSw 5 (by omega); have i6 := HIX.out w hSw 6 (by omega); have i7 := HIX.out w hSw 7 (by omega); have i8 := HIX.out w hSw 8 (by omega); simp only [List.getElem?_cons_zero, List.getElem?_cons_succ, Nat.add_zero] at k0 k1 k2 k3 k4 k5 k6 k7 k8 i0 i1 i2 i3 i4 i5 i6 i7 i8; go_simp; try with_reducible rfl)) hHeld ?_
                      simp only [Act.put, List.setIfInBounds_toArray, List.set_cons_zero, List.set_cons_succ]
                      refine heldTake (i := 8) 62 (v := .bool true) rfl rfl (by kernel_rfl) (by kernel_rfl) (by kernel_rfl) (fun _ _ _ h => h) (by kernel_rfl) (fun w hSw => (by go_simp; (try simp [hkk]); first | done | omega | (intro e; apply hki; exact_mod_cast e) | (intro e; apply hki; omega))) hHeld ?_
                      simp only [Act.put, List.setIfInBounds_toArray, List.set_cons_zero, List.set_cons_succ]
                      refine heldTake (i := 9) 63 (v := ?_) rfl rfl (by kernel_rfl) (by kernel_rfl) (by kernel_rfl) (fun _ _ _ h => h) (by kernel_rfl) (fun w hSw => (by have z := HDW.out w hSw; have k0 := HKX.out w hSw 0 (by omega); have k1 := HKX.out w hSw 1 (by omega); have k2 := HKX.out w hSw 2 (by omega); have k3 := HKX.out w hSw 3 (by omega); have k4 := HKX.out w hSw 4 (by omega); have k5 := HKX.out w hSw 5 (by omega); have k6 := HKX.out w hSw 6 (by omega); have k7 := HKX.out w hSw 7 (by omega); have k8 := HKX.out w hSw 8 (by omega); have i0 := HIX.out w hSw 0 (by omega); have i1 := HIX.out w hSw 1 (by omega); have i2 := HIX.out w hSw 2 (by omega); have i3 := HIX.out w hSw 3 (by omega); have i4 := HIX.out w hSw 4 (by omega); have i5 := HIX.out w hSw 5 (by omega); have i6 := HIX.out w hSw 6 (by omega); have i7 := HIX.out w hSw 7 (by omega); have i8 := HIX.out w hSw 8 (by omega); simp only [List.getElem?_cons_zero, List.getElem?_cons_succ, Nat.add_zero] at k0 k1 k2 k3 k4 k5 k6 k7 k8 i0 i1 i2 i3 i4 i5 i6 i7 i8; go_simp; try with_reducible rfl)) hHeld ?_
                      simp only [Act.put, List.setIfInBounds_toArray, List.set_cons_zero, List.set_cons_succ]
                      refine heldTake (i := 10) 64 (v := ?_) rfl rfl (by kernel_rfl) (by kernel_rfl) (by kernel_rfl) (fun _ _ _ h => h) (by kernel_rfl) (fun w hSw => (by have z := HDW.out w hSw; have k0 := HKX.out w hSw 0 (by omega); have k1 := HKX.out w hSw 1 (by omega); have k2 := HKX.out w hSw 2 (by omega); have k3 := HKX.out w hSw 3 (by omega); have k4 := HKX.out w hSw 4 (by omega); have k5 := HKX.out w hSw 5 (by omega); have k6 := HKX.out w hSw 6 (by omega); have k7 := HKX.out w hSw 7 (by omega); have k8 := HKX.out w hSw 8 (by omega); have i0 := HIX.out w hSw 0 (by omega); have i1 := HIX.out w hSw 1 (by omega); have i2 := HIX.out w hSw 2 (by omega); have i3 := HIX.out w hSw 3 (by omega); have i4 := HIX.out w hSw 4 (by omega); have i5 := HIX.out w hSw 5 (by omega); have i6 := HIX.out w hSw 6 (by omega); have i7 := HIX.out w hSw 7 (by omega); have i8 := HIX.out w hSw 8 (by omega); simp only [List.getElem?_cons_zero, List.getElem?_cons_succ, Nat.add_zero] at k0 k1 k2 k3 k4 k5 k6 k7 k8 i0 i1 i2 i3 i4 i5 i6 i7 i8; go_simp; try with_reducible rfl)) hHeld ?_
                      simp only [Act.put, List.setIfInBounds_toArray, List.set_cons_zero, List.set_cons_succ]
                      refine heldTake (i := 11) 65 (v := ?_) rfl rfl (by kernel_rfl) (by kernel_rfl) (by kernel_rfl) (fun _ _ _ h => h) (by kernel_rfl) (fun w hSw => (by have z := HDW.out w hSw; have k0 := HKX.out w hSw 0 (by omega); have k1 := HKX.out w hSw 1 (by omega); have k2 := HKX.out w hSw 2 (by omega); have k3 := HKX.out w hSw 3 (by omega); have k4 := HKX.out w hSw 4 (by omega); have k5 := HKX.out w hSw 5 (by omega); have k6 := HKX.out w hSw 6 (by omega); have k7 := HKX.out w hSw 7 (by omega); have k8 := HKX.out w hSw 8 (by omega); have i0 := HIX.out w hSw 0 (by omega); have i1 := HIX.out w hSw 1 (by omega); have i2 := HIX.out w hSw 2 (by omega); have i3 := HIX.out w hSw 3 (by omega); have i4 := HIX.out w hSw 4 (by omega); have i5 := HIX.out w hSw 5 (by omega); have i6 := HIX.out w hSw 6 (by omega); have i7 := HIX.out w hSw 7 (by omega); have i8 := HIX.out w hSw 8 (by omega); simp only [List.getElem?_cons_zero, List.getElem?_cons_succ, Nat.add_zero] at k0 k1 k2 k3 k4 k5 k6 k7 k8 i0 i1 i2 i3 i4 i5 i6 i7 i8; go_simp; try with_reducible rfl)) hHeld ?_
                      simp only [Act.put, List.setIfInBounds_toArray, List.set_cons_zero, List.set_cons_succ]
                      refine heldTake (i := 12) 66 (v := ?_) rfl rfl (by kernel_rfl) (by kernel_rfl) (by kernel_rfl) (fun _ _ _ h => h) (by kernel_rfl) (fun w hSw => (by have z := HDW.out w hSw; have k0 := HKX.out w hSw 0 (by omega); have k1 := HKX.out w hSw 1 (by omega); have k2 := HKX.out w hSw 2 (by omega); have k3 := HKX.out w hSw 3 (by omega); have k4 := HKX.out w hSw 4 (by omega); have k5 := HKX.out w hSw 5 (by omega); have k6 := HKX.out w hSw 6 (by omega); have k7 := HKX.out w hSw 7 (by omega); have k8 := HKX.out w hSw 8 (by omega); have i0 := HIX.out w hSw 0 (by omega); have i1 := HIX.out w hSw 1 (by omega); have i2 := HIX.out w hSw 2 (by omega); have i3 := HIX.out w hSw 3 (by omega); have i4 := HIX.out w hSw 4 (by omega); have i5 := HIX.out w hSw 5 (by omega); have i6 := HIX.out w hSw 6 (by omega); have i7 := HIX.out w hSw 7 (by omega); have i8 := HIX.out w hSw 8 (by omega); simp only [List.getElem?_cons_zero, List.getElem?_cons_succ, Nat.add_zero] at k0 k1 k2 k3 k4 k5 k6 k7 k8 i0 i1 i2 i3 i4 i5 i6 i7 i8; go_simp; try with_reducible rfl)) hHeld ?_
                      simp only [Act.put, List.setIfInBounds_toArray, List.set_cons_zero, List.set_cons_succ]
                      refine heldTake (i := 13) 67 (v := ?_) rfl rfl (by kernel_rfl) (by kernel_rfl) (by kernel_rfl) (fun _ _ _ h => h) (by kernel_rfl) (fun w hSw => (by have z := HDW.out w hSw; have k0 := HKX.out w hSw 0 (by omega); have k1 := HKX.out w hSw 1 (by omega); have k2 := HKX.out w hSw 2 (by omega); have k3 := HKX.out w hSw 3 (by omega); have k4 := HKX.out w hSw 4 (by omega); have k5 := HKX.out w hSw 5 (by omega); have k6 := HKX.out w hSw 6 (by omega); have k7 := HKX.out w hSw 7 (by omega); have k8 := HKX.out w hSw 8 (by omega); have i0 := HIX.out w hSw 0 (by omega); have i1 := HIX.out w hSw 1 (by omega); have i2 := HIX.out w hSw 2 (by omega); have i3 := HIX.out w hSw 3 (by omega); have i4 := HIX.out w hSw 4 (by omega); have i5 := HIX.out w hSw 5 (by omega); have i6 := HIX.out w hSw 6 (by omega); have i7 := HIX.out w hSw 7 (by omega); have i8 := HIX.out w hSw 8 (by omega); simp only [List.getElem?_cons_zero, List.getElem?_cons_succ, Nat.add_zero] at k0 k1 k2 k3 k4 k5 k6 k7 k8 i0 i1 i2 i3 i4 i5 i6 i7 i8; go_simp; try with_reducible rfl)) hHeld ?_
                      simp only [Act.put, List.setIfInBounds_toArray, List.set_cons_zero, List.set_cons_succ]
                      refine heldTake (i := 14) 68 (v := ?_) rfl rfl (by kernel_rfl) (by kernel_rfl) (by kernel_rfl) (fun _ _ _ h => h) (by kernel_rfl) (fun w hSw => (by have z := HDW.out w hSw; have k0 := HKX.out w hSw 0 (by omega); have k1 := HKX.out w hSw 1 (by omega); have k2 := HKX.out w hSw 2 (by omega); have k3 := HKX.out w hSw 3 (by omega); have k4 := HKX.out w hSw 4 (by omega); have k5 := HKX.out w hSw 5 (by omega); have k6 := HKX.out w hSw 6 (by omega); have k7 := HKX.out w hSw 7 (by omega); have k8 := HKX.out w hSw 8 (by omega); have i0 := HIX.out w hSw 0 (by omega); have i1 := HIX.out w hSw 1 (by omega); have i2 := HIX.out w hSw 2 (by omega); have i3 := HIX.out w hSw 3 (by omega); have i4 := HIX.out w hSw 4 (by omega); have i5 := HIX.out w hSw 5 (by omega); have i6 := HIX.out w hSw 6 (by omega); have i7 := HIX.out w hSw 7 (by omega); have i8 := HIX.out w hSw 8 (by omega); simp only [List.getElem?_cons_zero, List.getElem?_cons_succ, Nat.add_zero] at k0 k1 k2 k3 k4 k5 k6 k7 k8 i0 i1 i2 i3 i4 i5 i6 i7 i8; go_simp; try with_reducible rfl)) hHeld ?_
                      simp only [Act.put, List.setIfInBounds_toArray, List.set_cons_zero, List.set_cons_succ]
                      refine heldTake (i := 15) 69 (v := ?_) rfl rfl (by kernel_rfl) (by kernel_rfl) (by kernel_rfl) (fun _ _ _ h => h) (by kernel_rfl) (fun w hSw => (by have z := HDW.out w hSw; have k0 := HKX.out w hSw 0 (by omega); have k1 := HKX.out w hSw 1 (by omega); have k2 := HKX.out w hSw 2 (by omega); have k3 := HKX.out w hSw 3 (by omega); have k4 := HKX.out w hSw 4 (by omega); have k5 := HKX.out w hSw 5 (by omega); have k6 := HKX.out w hSw 6 (by omega); have k7 := HKX.out w hSw 7 (by omega); have k8 := HKX.out w hSw 8 (by omega); have i0 := HIX.out w hSw 0 (by omega); have i1 := HIX.out w hSw 1 (by omega); have i2 := HIX.out w hSw 2 (by omega); have i3 := HIX.out w hSw 3 (by omega); have i4 := HIX.out w hSw 4 (by omega); have i5 := HIX.out w hSw 5 (by omega); have i6 := HIX.out w hSw 6 (by omega); have i7 := HIX.out w hSw 7 (by omega); have i8 := HIX.out w hSw 8 (by omega); simp only [List.getElem?_cons_zero, List.getElem?_cons_succ, Nat.add_zero] at k0 k1 k2 k3 k4 k5 k6 k7 k8 i0 i1 i2 i3 i4 i5 i6 i7 i8; go_simp; try with_reducible rfl)) hHeld ?_
                      simp only [Act.put, List.setIfInBounds_toArray, List.set_cons_zero, List.set_cons_succ]
                      refine heldTake (i := 16) 70 (v := ?_) rfl rfl (by kernel_rfl) (by kernel_rfl) (by kernel_rfl) (fun _ _ _ h => h) (by kernel_rfl) (fun w hSw => (by have z := HDW.out w hSw; have k0 := HKX.out w hSw 0 (by omega); have k1 := HKX.out w hSw 1 (by omega); have k2 := HKX.out w hSw 2 (by omega); have k3 := HKX.out w hSw 3 (by omega); have k4 := HKX.out w hSw 4 (by omega); have k5 := HKX.out w hSw 5 (by omega); have k6 := HKX.out w hSw 6 (by omega); have k7 := HKX.out w hSw 7 (by omega); have k8 := HKX.out w hSw 8 (by omega); have i0 := HIX.out w hSw 0 (by omega); have i1 := HIX.out w hSw 1 (by omega); have i2 := HIX.out w hSw 2 (by omega); have i3 := HIX.out w hSw 3 (by omega); have i4 := HIX.out w hSw 4 (by omega); have i5 := HIX.out w hSw 5 (by omega); have i6 := HIX.out w hSw 6 (by omega); have i7 := HIX.out w hSw 7 (by omega); have i8 := HIX.out w hSw 8 (by omega); simp only [List.getElem?_cons_zero, List.getElem?_cons_succ, Nat.add_zero] at k0 k1 k2 k3 k4 k5 k6 k7 k8 i0 i1 i2 i3 i4 i5 i6 i7 i8; go_simp; try with_reducible rfl)) hHeld ?_
                      simp only [Act.put, List.setIfInBounds_toArray, List.set_cons_zero, List.set_cons_succ]
                      refine heldTake (i := 17) 71 (v := ?_) rfl rfl (by kernel_rfl) (by kernel_rfl) (by kernel_rfl) (fun _ _ _ h => h) (by kernel_rfl) (fun w hSw => (by have z := HDW.out w hSw; have k0 := HKX.out w hSw 0 (by omega); have k1 := HKX.out w hSw 1 (by omega); have k2 := HKX.out w hSw 2 (by omega); have k3 := HKX.out w hSw 3 (by omega); have k4 := HKX.out w hSw 4 (by omega); have k5 := HKX.out w hSw 5 (by omega); have k6 := HKX.out w hSw 6 (by omega); have k7 := HKX.out w hSw 7 (by omega); have k8 := HKX.out w hSw 8 (by omega); have i0 := HIX.out w hSw 0 (by omega); have i1 := HIX.out w hSw 1 (by omega); have i2 := HIX.out w hSw 2 (by omega); have i3 := HIX.out w hSw 3 (by omega); have i4 := HIX.out w hSw 4 (by omega); have i5 := HIX.out w hSw 5 (by omega); have i6 := HIX.out w hSw 6 (by omega); have i7 := HIX.out w hSw 7 (by omega); have i8 := HIX.out w hSw 8 (by omega); simp only [List.getElem?_cons_zero, List.getElem?_cons_succ, Nat.add_zero] at k0 k1 k2 k3 k4 k5 k6 k7 k8 i0 i1 i2 i3 i4 i5 i6 i7 i8; go_simp; try with_reducible rfl)) hHeld ?_
                      simp only [Act.put, List.setIfInBounds_toArray, List.set_cons_zero, List.set_cons_succ]
                      refine heldTake (i := 18) 72 (v := ?_) rfl rfl (by kernel_rfl) (by kernel_rfl) (by kernel_rfl) (fun _ _ _ h => h) (by kernel_rfl) (fun w hSw => (by have z := HDW.out w hSw; have k0 := HKX.out w hSw 0 (by omega); have k1 := HKX.out w hSw 1 (by omega); have k2 := HKX.out w hSw 2 (by omega); have k3 := HKX.out w hSw 3 (by omega); have k4 := HKX.out w hSw 4 (by omega); have k5 := HKX.out w hSw 5 (by omega); have k6 := HKX.out w hSw 6 (by omega); have k7 := HKX.out w hSw 7 (by omega); have k8 := HKX.out w hSw 8 (by omega); have i0 := HIX.out w hSw 0 (by omega); have i1 := HIX.out w hSw 1 (by omega); have i2 := HIX.out w hSw 2 (by omega); have i3 := HIX.out w hSw 3 (by omega); have i4 := HIX.out w hSw 4 (by omega); have i5 := HIX.out w hSw 5 (by omega); have i6 := HIX.out w hSw 6 (by omega); have i7 := HIX.out w hSw 7 (by omega); have i8 := HIX.out w hSw 8 (by omega); simp only [List.getElem?_cons_zero, List.getElem?_cons_succ, Nat.add_zero] at k0 k1 k2 k3 k4 k5 k6 k7 k8 i0 i1 i2 i3 i4 i5 i6 i7 i8; go_simp; try with_reducible rfl)) hHeld ?_
                      simp only [Act.put, List.setIfInBounds_toArray, List.set_cons_zero, List.set_cons_succ]
                      refine heldOne (i := 19) rfl (by kernel_rfl) (fun K hK => ?_)
                      go_simp
                      go_wp2_with ((go_at_call 35; refine Calls.mono (HY.out _ hHeld) ?_; rintro e w8 ⟨rfl, hF8⟩; have hHeld2 : Fr (fun _ => False) wr w8 := hHeld.trans hF8; clear hF8 hHeld))
                      refine hK.out _ _ hHeld2 ?_
                      clear hK K
                      have hHeld := hHeld2
                      clear hHeld2
                      refine heldTake (i := 20) 74 (v := ?_) rfl rfl (by kernel_rfl) (by kernel_rfl) (by kernel_rfl) (fun _ _ _ h => h) (by kernel_rfl) (fun w hSw => (by have z := HDW.out w hSw; have k0 := HKX.out w hSw 0 (by omega); have k1 := HKX.out w hSw 1 (by omega); have k2 := HKX.out w hSw 2 (by omega); have k3 := HKX.out w hSw 3 (by omega); have k4 := HKX.out w hSw 4 (by omega); have k5 := HKX.out w hSw 5 (by omega); have k6 := HKX.out w hSw 6 (by omega); have k7 := HKX.out w hSw 7 (by omega); have k8 := HKX.out w hSw 8 (by omega); have i0 := HIX.out w hSw 0 (by omega); have i1 := HIX.out w hSw 1 (by omega); have i2 := HIX.out w hSw 2 (by omega); have i3 := HIX.out w hSw 3 (by omega); have i4 := HIX.out w hSw 4 (by omega); have i5 := HIX.out w hSw 5 (by omega); have i6 := HIX.out w hSw 6 (by omega); have i7 := HIX.out w hSw 7 (by omega); have i8 := HIX.out w hSw 8 (by omega); simp only [List.getElem?_cons_zero, List.getElem?_cons_succ, Nat.add_zero] at k0 k1 k2 k3 k4 k5 k6 k7 k8 i0 i1 i2 i3 i4 i5 i6 i7 i8; go_simp; try with_reducible rfl)) hHeld ?_
                      simp only [Act.put, List.setIfInBounds_toArray, List.set_cons_zero, List.set_cons_succ]
                      refine wpAnyH_done (by kernel_rfl) ?_ _
                      cases A
                      · go_wp2_with fail
                        exact ⟨⟨k + 1, t, by simp, rfl, by omega, HG.out.1.trans hHeld, by rw [← HTT.out]; simp⟩, by simp; omega⟩
                      · go_wp2_with fail
                        exact ⟨⟨k + 1, false, by simp, rfl, by omega, HG.out.1.trans hHeld, by rw [← HTT.out]; simp⟩, by simp; omega⟩
                  · go_upto_region 16 with fail
                    go_quiet (fail)
                    go_wp2_with fail
                    refine ⟨⟨k + 1, t, by simp, rfl, by omega, HG.out.1.trans (fr_drewN _ _), ?_⟩, by simp; omega⟩
                    rw [refAll_snoc, ← Bool.and_assoc, ← HG.out.2, ← HDK.out]; simp
                · have k2 : ¬ (k : Int) < n := by omega
                  have HFT : Hd (t = refFree cs acc i) := by
                    have h1 := HG.out.2
                    rw [show k = cs.length by have := EN.out; omega] at h1
                    exact h1
                  have HFW : Hd (Fr (fun _ => False) Wi wr) := HG.out.1
                  clear HG
                  cases t
                  · go_wp2_with fail
                    refine ⟨⟨i + 1, -1, by simp, rfl, by omega, HFW.out, Or.inl ⟨rfl, fun j hj => ?_⟩⟩, by simp; omega⟩
                    rcases Nat.lt_or_ge j i with h1 | h1
                    · exact HNO.out j h1
                    · have : j = i := by omega
                      subst this
                      exact HFT.out.symm
                  · go_wp2_with fail
                    exact ⟨⟨i + 1, i, by simp, rfl, by omega, HFW.out, Or.inr ⟨i, rfl, refLeast_of hic HFT.out.symm HNO.out⟩⟩, by simp; omega⟩
            · have i2 : ¬ (i : Int) < n := by omega
              have HST : Hd (RefO cs [] none) := HS.out.2.1 none (RefO.stuck acc (by have := EN.out; have := HM.out; omega) (refLeast_no fun j hj => hno j (by have := EN.out; omega)))
              clear hno
              go_wp2_with fail
              go_ret3
              exact ⟨_, _, _, rfl, HF1.out.trans (HS.out.1.fr.trans HG.out.1), Or.inr ⟨cs, none, HK.out.2.2.2.1, rfl, HST.out, Or.inl ⟨rfl, rfl, rfl⟩⟩⟩
          · have j0 : (0 : Int) ≤ j := by omega
            have j2 : ¬ ((j : Int) < 0) := by omega
            obtain ⟨hjc, hja, -⟩ := refLeast_some hj
            have j1 : (j : Int) < n := by have := EN.out; omega
            have HJ : Hd (refLeast cs acc = some j ∧ j < cs.length ∧ j ∉ acc) := ⟨hj, hjc, hja⟩
            have HSw : Hd (PlO cs w1 wr pt (.slice ua m uc) acc acc kv vv (tabOf ((seqX cs acc).map opT))) := HS.out.1.go HG.out.1
            obtain ⟨gc, rfl, hcx⟩ := HCS.out j hjc
            obtain ⟨c, ec⟩ : ∃ c, c = cs[j] := ⟨_, rfl⟩
            rw [← ec] at hcx
            have HC : Hd (c ∈ cs ∧ cs.getD j clZ = c ∧ c.R.At w1 ∧ bI cs j = c.b) := by
              have hcm : c ∈ cs := by rw [ec]; exact List.getElem_mem hjc
              exact ⟨hcm, by rw [ec]; exact getD_is hjc, HK.out.2.2.2.2 c hcm, by rw [bI_is hjc, ec]⟩
            have HX1 : Hd (∀ W, Fr (fun _ => False) w1 W → ∀ j', j' < 9 → W.cell? ⟨gc, j * 9 + j', none⟩ = (c9 c)[j']?) := hcx
            clear hcx ec hj hjc hja HCS
            by_cases hin : (i : Int) < n
            · have CALL := do_any wr (pt + 2) pt kv vv (tabOf ((seqX cs acc).map opT)) c.kd c.ky c.v (HK.out.1 c HC.out.1) HSw.out.tab (by obtain ⟨cc, h1, -⟩ := HSw.out.don; have := heap_lt h1; omega) (by have := tab_len (seqX cs acc); have h2 : (seqX cs acc).length = acc.length := (by simp [seqX]); have := HM.out; omega)
              obtain ⟨cka, ckc, eck⟩ := row_slice HC.out.2.2.1.1
              obtain ⟨cva, cvc, ecv⟩ := row_slice HC.out.2.2.1.2
              have HLN : Hd (c.R.r.keys.length = c.R.r.vals.length ∧ c.R.r.keys.length ≤ 4000000000 ∧ c.R.r.vals.length ≤ 4000000000) := ⟨right_len (HK.out.2.1 c HC.out.1), HK.out.2.2.1 c HC.out.1⟩
              have HRP : Hd (refRep cs acc j = repB (doR (tabOf ((seqX cs acc).map opT)) (opT c)) (repT c) ∧ seqX cs (acc ++ [j]) = seqX cs acc ++ [c]) := by
                refine ⟨by unfold refRep; rw [HC.out.2.1], ?_⟩
                unfold seqX
                rw [List.map_append, List.map_cons, List.map_nil, HC.out.2.1]
              simp only [List.length_map] at eck ecv
              have hma : m ≤ 64 := by omega
              obtain ⟨cb, ce, ckd, cky, cv, ⟨⟨cok, cval, cks, cvs⟩, ckv, cvv⟩⟩ := c
              simp only at eck ecv
              subst eck ecv
              have hx := HX1.out wr HSw.out.fr
              unfold c9 at hx
              have x0 := hx 0 (by omega)
              have x1 := hx 1 (by omega)
              have x2 := hx 2 (by omega)
              have x3 := hx 3 (by omega)
              have x4 := hx 4 (by omega)
              have x5 := hx 5 (by omega)
              have x6 := hx 6 (by omega)
              have x7 := hx 7 (by omega)
              have x8 := hx 8 (by omega)
              simp only [List.getElem?_cons_zero, List.getElem?_cons_succ, Nat.add_zero] at x0 x1 x2 x3 x4 x5 x6 x7 x8
              unfold opV at CALL
              simp only at CALL
              clear hx
              go_upto_region 23 with (go_at_call 32; refine CALL.mono ?_; rintro _ w5 ⟨rv, rfl, hD⟩; obtain ⟨rk, ru, kv', vv', erv, hrat, hS5⟩ := HSw.out.did HPT.out hD; obtain ⟨RR, ep⟩ : ∃ R : Rpl, R = rpOf (doR (tabOf ((seqX cs acc).map opT)) (ckd, cky, cv)) := ⟨_, rfl⟩; rw [← ep] at hrat erv; have HRR : Hd (RR = rpOf (doR (tabOf ((seqX cs acc).map opT)) (ckd, cky, cv))) := ep; clear ep; obtain ⟨pok, pval, pks, pvs⟩ := RR; obtain ⟨pka, pkc, epk⟩ := row_slice hrat.1; obtain ⟨pva, pvc, epv⟩ := row_slice hrat.2; simp only [List.length_map] at epk epv; subst epk epv; unfold RV.V at erv; simp only at erv; subst erv; have HD5 : Hd (RV.At w5 ⟨⟨pok, pval, pks, pvs⟩, .slice pka pks.length pkc, .slice pva pvs.length pvc⟩ ∧ PlO cs w1 w5 pt (.slice ua m uc) acc acc kv' vv' (doT (tabOf ((seqX cs acc).map opT)) (ckd, cky, cv))) := ⟨hrat, hS5⟩; clear hrat hS5 hD)
              clear x0 x1 x2 x3 x4 x5 x6 x7 x8 CALL
              obtain ⟨W6, eW6⟩ : ∃ W6, W6 = (w5.alloc (Obj.cells #[.bool pok, .string pval, .slice pka pks.length pkc, .slice pva pvs.length pvc] 28)) := ⟨_, rfl⟩
              have hb6 := heap_alloc_last w5 (Obj.cells #[.bool pok, .string pval, .slice pka pks.length pkc, .slice pva pvs.length pvc] 28)
              have hf6 : Fr (fun _ => False) w5 W6 := by rw [eW6]; exact (Fr.refl _ w5).alloc _
              rw [← eW6] at hb6 ⊢
              obtain ⟨pr, epr⟩ : ∃ pr, pr = w5.heap.size := ⟨_, rfl⟩
              rw [← epr] at hb6 ⊢
              have HS6 : Hd (PlO cs w1 W6 pt (.slice ua m uc) acc acc kv' vv' (doT (tabOf ((seqX cs acc).map opT)) (ckd, cky, cv))) := HD5.out.2.go hf6
              have HCW : Hd (∀ w, Fr (fun _ => False) W6 w → (w.cell? ⟨pr, 0, none⟩ = some (.bool pok) ∧ w.cell? ⟨pr, 1, none⟩ = some (.string pval) ∧ w.cell? ⟨pr, 2, none⟩ = some (.slice pka pks.length pkc) ∧ w.cell? ⟨pr, 3, none⟩ = some (.slice pva pvs.length pvc)) ∧ w.cell? ⟨gc, j * 9 + 5, none⟩ = some (.bool cok) ∧ w.cell? ⟨gc, j * 9 + 6, none⟩ = some (.string cval) ∧ w.cell? ⟨gc, j * 9 + 7, none⟩ = some (.slice cka cks.length ckc) ∧ w.cell? ⟨gc, j * 9 + 8, none⟩ = some (.slice cva cvs.length cvc)) := fun w f => by
                have hp := heap_lt hb6
                have hx := HX1.out w (HS6.out.fr.trans f)
                exact ⟨⟨(f.cell hp (fun e => e)).trans (cell_of hb6 0), (f.cell hp (fun e => e)).trans (cell_of hb6 1), (f.cell hp (fun e => e)).trans (cell_of hb6 2), (f.cell hp (fun e => e)).trans (cell_of hb6 3)⟩, hx 5 (by omega), hx 6 (by omega), hx 7 (by omega), hx 8 (by omega)⟩
              have HPL : Hd (pks.length ≤ 4000000000 ∧ pvs.length ≤ 4000000000) := by
                have h1 := doR_len (tabOf ((seqX cs acc).map opT)) (ckd, cky, cv)
                have h2 := tab_len (seqX cs acc)
                have h4 : (seqX cs acc).length = acc.length := by simp [seqX]
                have h5 := HM.out
                have h3 := HRR.out
                unfold rpOf at h3
                simp only [Rpl.mk.injEq] at h3
                exact ⟨by rw [h3.2.2.1, List.length_map]; omega, by rw [h3.2.2.2, List.length_map]; omega⟩
              obtain ⟨F, eF⟩ : ∃ F, F = rplB ⟨pok, pval, pks, pvs⟩ ⟨cok, cval, cks, cvs⟩ := ⟨_, rfl⟩
              have HY : Hd (∀ W, Fr (fun _ => False) W6 W → Calls Try.prog 33 #[.agg #[.bool pok, .string pval, .slice pka pks.length pkc, .slice pva pvs.length pvc], .agg #[.bool cok, .string cval, .slice cka cks.length ckc, .slice cva cvs.length cvc]] W fun e w' => e = .returned (.bool F) ∧ Fr (fun _ => False) W w') := fun W f => by
                rw [eF]
                exact eqReply_any ⟨⟨pok, pval, pks, pvs⟩, .slice pka pks.length pkc, .slice pva pvs.length pvc⟩ ⟨⟨cok, cval, cks, cvs⟩, .slice cka cks.length ckc, .slice cva cvs.length cvc⟩ W ((HD5.out.1.fr hf6).fr f) (HC.out.2.2.1.fr (HS6.out.fr.trans f)) HPL.out.1 HLN.out.2.1 HPL.out.2 HLN.out.2.2
              have HFF : Hd (refRep cs acc j = F) := by
                have h1 := HRP.out.1
                rw [← rp_iff (c := ⟨cb, ce, ckd, cky, cv, ⟨⟨cok, cval, cks, cvs⟩, .slice cka cks.length ckc, .slice cva cvs.length cvc⟩⟩) HLN.out.1] at h1
                rw [show rpOf (doR (tabOf ((seqX cs acc).map opT)) (opT ⟨cb, ce, ckd, cky, cv, ⟨⟨cok, cval, cks, cvs⟩, .slice cka cks.length ckc, .slice cva cvs.length cvc⟩⟩)) = ⟨pok, pval, pks, pvs⟩ from HRR.out.symm] at h1
                rw [eF]; exact h1
              clear hb6 hf6 epr eW6 eF HRR HPL HLN HD5 HSw
              refine wp_region_held_drew (S := fun W2 => Fr (fun _ => False) W6 W2) (by kernel_rfl) ((Fr.refl _ W6).drew) (fun hHeld => ?_)
              refine heldTake (i := 0) 86 (v := ?_) rfl rfl (by kernel_rfl) (by kernel_rfl) (by kernel_rfl) (fun _ _ _ h => h) (by kernel_rfl) (fun w hSw => (by obtain ⟨⟨r0, r1, r2, r3⟩, z5, z6, z7, z8⟩ := HCW.out w hSw; go_simp; try with_reducible rfl)) hHeld ?_
              simp only [Act.put, List.setIfInBounds_toArray, List.set_cons_zero, List.set_cons_succ]
              refine heldTake (i := 1) 87 (v := ?_) rfl rfl (by kernel_rfl) (by kernel_rfl) (by kernel_rfl) (fun _ _ _ h => h) (by kernel_rfl) (fun w hSw => (by obtain ⟨⟨r0, r1, r2, r3⟩, z5, z6, z7, z8⟩ := HCW.out w hSw; go_simp; try with_reducible rfl)) hHeld ?_
              simp only [Act.put, List.setIfInBounds_toArray, List.set_cons_zero, List.set_cons_succ]
              refine heldTake (i := 2) 88 (v := ?_) rfl rfl (by kernel_rfl) (by kernel_rfl) (by kernel_rfl) (fun _ _ _ h => h) (by kernel_rfl) (fun w hSw => (by obtain ⟨⟨r0, r1, r2, r3⟩, z5, z6, z7, z8⟩ := HCW.out w hSw; go_simp; try with_reducible rfl)) hHeld ?_
              simp only [Act.put, List.setIfInBounds_toArray, List.set_cons_zero, List.set_cons_succ]
              refine heldTake (i := 3) 89 (v := ?_) rfl rfl (by kernel_rfl) (by kernel_rfl) (by kernel_rfl) (fun _ _ _ h => h) (by kernel_rfl) (fun w hSw => (by obtain ⟨⟨r0, r1, r2, r3⟩, z5, z6, z7, z8⟩ := HCW.out w hSw; go_simp; try with_reducible rfl)) hHeld ?_
              simp only [Act.put, List.setIfInBounds_toArray, List.set_cons_zero, List.set_cons_succ]
              refine heldTake (i := 4) 90 (v := ?_) rfl rfl (by kernel_rfl) (by kernel_rfl) (by kernel_rfl) (fun _ _ _ h => h) (by kernel_rfl) (fun w hSw => (by obtain ⟨⟨r0, r1, r2, r3⟩, z5, z6, z7, z8⟩ := HCW.out w hSw; go_simp; try with_reducible rfl)) hHeld ?_
              simp only [Act.put, List.setIfInBounds_toArray, List.set_cons_zero, List.set_cons_succ]
              refine heldTake (i := 5) 91 (v := ?_) rfl rfl (by kernel_rfl) (by kernel_rfl) (by kernel_rfl) (fun _ _ _ h => h) (by kernel_rfl) (fun w hSw => (by obtain ⟨⟨r0, r1, r2, r3⟩, z5, z6, z7, z8⟩ := HCW.out w hSw; go_simp; try with_reducible rfl)) hHeld ?_
              simp only [Act.put, List.setIfInBounds_toArray, List.set_cons_zero, List.set_cons_succ]
              refine heldOne (i := 6) rfl (by kernel_rfl) (fun K hK => ?_)
              go_simp
              go_wp2_with ((go_at_call 33; refine Calls.mono (HY.out _ hHeld) ?_; rintro e w8 ⟨rfl, hF8⟩; have hHeld2 : Fr (fun _ => False) W6 w8 := hHeld.trans hF8; clear hF8 hHeld))
              refine hK.out _ _ hHeld2 ?_
              clear hK K
              have hHeld := hHeld2
              clear hHeld2
              refine heldTake (i := 7) 15 (v := ?_) rfl rfl (by kernel_rfl) (by kernel_rfl) (by kernel_rfl) (fun _ _ _ h => h) (by kernel_rfl) (fun w hSw => (by obtain ⟨⟨r0, r1, r2, r3⟩, z5, z6, z7, z8⟩ := HCW.out w hSw; go_simp; try with_reducible rfl)) hHeld ?_
              simp only [Act.put, List.setIfInBounds_toArray, List.set_cons_zero, List.set_cons_succ]
              refine wpAnyH_done (by kernel_rfl) ?_ _
              have HS8 : Hd (PlO cs w1 w8 pt (.slice ua m uc) acc acc kv' vv' (doT (tabOf ((seqX cs acc).map opT)) (ckd, cky, cv))) := HS6.out.go hHeld
              clear hHeld HY HCW
              have hac : acc.length < cs.length := by have := EN.out; have := HM.out; omega
              cases F
              · have HST : Hd (RefO cs [] none) := HS.out.2.1 none (RefO.wrong acc j hac HJ.out.1 HFF.out)
                go_wp2_with fail
                go_ret3
                exact ⟨_, _, _, rfl, HF1.out.trans HS8.out.fr, Or.inr ⟨cs, none, HK.out.2.2.2.1, rfl, HST.out, Or.inl ⟨rfl, rfl, rfl⟩⟩⟩
              · have HST : Hd (∀ r, RefO cs (acc ++ [j]) r → RefO cs [] r) := fun r hr => HS.out.2.1 r (RefO.step acc j r hac HJ.out.1 HFF.out hr)
                have hjn : j < cs.length := HJ.out.2.1
                obtain ⟨dz, hz⟩ : ∃ d, w8.cell? ⟨pt + 1, j, none⟩ = some (.bool d) := ⟨_, (HS8.out.don.at hjn).1⟩
                have hzf : w8.frozen? ⟨pt + 1, j, none⟩ = false := (HS8.out.don.at hjn).2
                have HS9 : Hd (PlO cs w1 (w8.setCell ⟨pt + 1, j, none⟩ (.bool true)) pt (.slice ua m uc) acc (acc ++ [j]) kv' vv' (doT (tabOf ((seqX cs acc).map opT)) (ckd, cky, cv))) := HS8.out.put HPT.out j
                clear hjn
                go_upto_region 27 with fail
                obtain ⟨W9, eW9⟩ : ∃ W9, W9 = (w8.setCell ⟨pt + 1, j, none⟩ (.bool true)) := ⟨_, rfl⟩
                rw [← eW9] at HS9 ⊢
                clear eW9 hz hzf
                have hx := HX1.out W9 HS9.out.fr
                unfold c9 at hx
                have x0 := hx 0 (by omega)
                simp only [List.getElem?_cons_zero, Nat.add_zero] at x0
                obtain ⟨g9, cap9, w9, hr9, hS9⟩ := HS9.out.app HPT.out j (by have := HM.out; omega)
                rw [← HM.out, HC.out.2.2.2] at hr9
                rw [← HM.out] at hS9
                have HA : Hd ((Builtin.append_ #[25, 25] 25 #[.slice ua m uc, .slice (some ⟨W9.heap.size, 0, none⟩) 1 1]).run Try.prog (W9.alloc (.cells #[vI cb] 3)) = .ok (.slice (some ⟨g9, 0, none⟩) (m + 1) cap9) w9) := hr9
                have HSZ : Hd (PlO cs w1 w9 pt (.slice (some ⟨g9, 0, none⟩) (m + 1) cap9) (acc ++ [j]) (acc ++ [j]) kv' vv' (tabOf ((seqX cs (acc ++ [j])).map opT))) := by rw [HRP.out.2, tab_snoc]; exact hS9
                clear hr9 hS9 hx
                go_wp2_with (at_builtin; refine wpList_append_run rfl (.tmp 98) (.tmp 104) 25 rfl _ _ _ rfl rfl HA.out ?_)
                have hl9 : (acc ++ [j]).length = m + 1 := by have := HM.out; simp; omega
                refine ⟨⟨acc ++ [j], kv', vv', by rw [hl9]; omega, ⟨_, _, by rw [hl9]⟩, HSZ.out, HST.out, fun i hi => ?_⟩, by simp; omega⟩
                rcases List.mem_append.1 hi with hi | hi
                · exact HS.out.2.2 i hi
                · rw [List.mem_singleton.1 hi]; exact HJ.out.2.1
            · have CALL := do_any wr (pt + 2) pt kv vv (tabOf ((seqX cs acc).map opT)) c.kd c.ky c.v (HK.out.1 c HC.out.1) HSw.out.tab (by obtain ⟨cc, h1, -⟩ := HSw.out.don; have := heap_lt h1; omega) (by have := tab_len (seqX cs acc); have h2 : (seqX cs acc).length = acc.length := (by simp [seqX]); have := HM.out; omega)
              obtain ⟨cka, ckc, eck⟩ := row_slice HC.out.2.2.1.1
              obtain ⟨cva, cvc, ecv⟩ := row_slice HC.out.2.2.1.2
              have HLN : Hd (c.R.r.keys.length = c.R.r.vals.length ∧ c.R.r.keys.length ≤ 4000000000 ∧ c.R.r.vals.length ≤ 4000000000) := ⟨right_len (HK.out.2.1 c HC.out.1), HK.out.2.2.1 c HC.out.1⟩
              have HRP : Hd (refRep cs acc j = repB (doR (tabOf ((seqX cs acc).map opT)) (opT c)) (repT c) ∧ seqX cs (acc ++ [j]) = seqX cs acc ++ [c]) := by
                refine ⟨by unfold refRep; rw [HC.out.2.1], ?_⟩
                unfold seqX
                rw [List.map_append, List.map_cons, List.map_nil, HC.out.2.1]
              simp only [List.length_map] at eck ecv
              have hma : m ≤ 64 := by omega
              obtain ⟨cb, ce, ckd, cky, cv, ⟨⟨cok, cval, cks, cvs⟩, ckv, cvv⟩⟩ := c
              simp only at eck ecv
              subst eck ecv
              have hx := HX1.out wr HSw.out.fr
              unfold c9 at hx
              have x0 := hx 0 (by omega)
              have x1 := hx 1 (by omega)
              have x2 := hx 2 (by omega)
              have x3 := hx 3 (by omega)
              have x4 := hx 4 (by omega)
              have x5 := hx 5 (by omega)
              have x6 := hx 6 (by omega)
              have x7 := hx 7 (by omega)
              have x8 := hx 8 (by omega)
              simp only [List.getElem?_cons_zero, List.getElem?_cons_succ, Nat.add_zero] at x0 x1 x2 x3 x4 x5 x6 x7 x8
              unfold opV at CALL
              simp only at CALL
              clear hx
              go_upto_region 23 with (go_at_call 32; refine CALL.mono ?_; rintro _ w5 ⟨rv, rfl, hD⟩; obtain ⟨rk, ru, kv', vv', erv, hrat, hS5⟩ := HSw.out.did HPT.out hD; obtain ⟨RR, ep⟩ : ∃ R : Rpl, R = rpOf (doR (tabOf ((seqX cs acc).map opT)) (ckd, cky, cv)) := ⟨_, rfl⟩; rw [← ep] at hrat erv; have HRR : Hd (RR = rpOf (doR (tabOf ((seqX cs acc).map opT)) (ckd, cky, cv))) := ep; clear ep; obtain ⟨pok, pval, pks, pvs⟩ := RR; obtain ⟨pka, pkc, epk⟩ := row_slice hrat.1; obtain ⟨pva, pvc, epv⟩ := row_slice hrat.2; simp only [List.length_map] at epk epv; subst epk epv; unfold RV.V at erv; simp only at erv; subst erv; have HD5 : Hd (RV.At w5 ⟨⟨pok, pval, pks, pvs⟩, .slice pka pks.length pkc, .slice pva pvs.length pvc⟩ ∧ PlO cs w1 w5 pt (.slice ua m uc) acc acc kv' vv' (doT (tabOf ((seqX cs acc).map opT)) (ckd, cky, cv))) := ⟨hrat, hS5⟩; clear hrat hS5 hD)
              clear x0 x1 x2 x3 x4 x5 x6 x7 x8 CALL
              obtain ⟨W6, eW6⟩ : ∃ W6, W6 = (w5.alloc (Obj.cells #[.bool pok, .string pval, .slice pka pks.length pkc, .slice pva pvs.length pvc] 28)) := ⟨_, rfl⟩
              have hb6 := heap_alloc_last w5 (Obj.cells #[.bool pok, .string pval, .slice pka pks.length pkc, .slice pva pvs.length pvc] 28)
              have hf6 : Fr (fun _ => False) w5 W6 := by rw [eW6]; exact (Fr.refl _ w5).alloc _
              rw [← eW6] at hb6 ⊢
              obtain ⟨pr, epr⟩ : ∃ pr, pr = w5.heap.size := ⟨_, rfl⟩
              rw [← epr] at hb6 ⊢
              have HS6 : Hd (PlO cs w1 W6 pt (.slice ua m uc) acc acc kv' vv' (doT (tabOf ((seqX cs acc).map opT)) (ckd, cky, cv))) := HD5.out.2.go hf6
              have HCW : Hd (∀ w, Fr (fun _ => False) W6 w → (w.cell? ⟨pr, 0, none⟩ = some (.bool pok) ∧ w.cell? ⟨pr, 1, none⟩ = some (.string pval) ∧ w.cell? ⟨pr, 2, none⟩ = some (.slice pka pks.length pkc) ∧ w.cell? ⟨pr, 3, none⟩ = some (.slice pva pvs.length pvc)) ∧ w.cell? ⟨gc, j * 9 + 5, none⟩ = some (.bool cok) ∧ w.cell? ⟨gc, j * 9 + 6, none⟩ = some (.string cval) ∧ w.cell? ⟨gc, j * 9 + 7, none⟩ = some (.slice cka cks.length ckc) ∧ w.cell? ⟨gc, j * 9 + 8, none⟩ = some (.slice cva cvs.length cvc)) := fun w f => by
                have hp := heap_lt hb6
                have hx := HX1.out w (HS6.out.fr.trans f)
                exact ⟨⟨(f.cell hp (fun e => e)).trans (cell_of hb6 0), (f.cell hp (fun e => e)).trans (cell_of hb6 1), (f.cell hp (fun e => e)).trans (cell_of hb6 2), (f.cell hp (fun e => e)).trans (cell_of hb6 3)⟩, hx 5 (by omega), hx 6 (by omega), hx 7 (by omega), hx 8 (by omega)⟩
              have HPL : Hd (pks.length ≤ 4000000000 ∧ pvs.length ≤ 4000000000) := by
                have h1 := doR_len (tabOf ((seqX cs acc).map opT)) (ckd, cky, cv)
                have h2 := tab_len (seqX cs acc)
                have h4 : (seqX cs acc).length = acc.length := by simp [seqX]
                have h5 := HM.out
                have h3 := HRR.out
                unfold rpOf at h3
                simp only [Rpl.mk.injEq] at h3
                exact ⟨by rw [h3.2.2.1, List.length_map]; omega, by rw [h3.2.2.2, List.length_map]; omega⟩
              obtain ⟨F, eF⟩ : ∃ F, F = rplB ⟨pok, pval, pks, pvs⟩ ⟨cok, cval, cks, cvs⟩ := ⟨_, rfl⟩
              have HY : Hd (∀ W, Fr (fun _ => False) W6 W → Calls Try.prog 33 #[.agg #[.bool pok, .string pval, .slice pka pks.length pkc, .slice pva pvs.length pvc], .agg #[.bool cok, .string cval, .slice cka cks.length ckc, .slice cva cvs.length cvc]] W fun e w' => e = .returned (.bool F) ∧ Fr (fun _ => False) W w') := fun W f => by
                rw [eF]
                exact eqReply_any ⟨⟨pok, pval, pks, pvs⟩, .slice pka pks.length pkc, .slice pva pvs.length pvc⟩ ⟨⟨cok, cval, cks, cvs⟩, .slice cka cks.length ckc, .slice cva cvs.length cvc⟩ W ((HD5.out.1.fr hf6).fr f) (HC.out.2.2.1.fr (HS6.out.fr.trans f)) HPL.out.1 HLN.out.2.1 HPL.out.2 HLN.out.2.2
              have HFF : Hd (refRep cs acc j = F) := by
                have h1 := HRP.out.1
                rw [← rp_iff (c := ⟨cb, ce, ckd, cky, cv, ⟨⟨cok, cval, cks, cvs⟩, .slice cka cks.length ckc, .slice cva cvs.length cvc⟩⟩) HLN.out.1] at h1
                rw [show rpOf (doR (tabOf ((seqX cs acc).map opT)) (opT ⟨cb, ce, ckd, cky, cv, ⟨⟨cok, cval, cks, cvs⟩, .slice cka cks.length ckc, .slice cva cvs.length cvc⟩⟩)) = ⟨pok, pval, pks, pvs⟩ from HRR.out.symm] at h1
                rw [eF]; exact h1
              clear hb6 hf6 epr eW6 eF HRR HPL HLN HD5 HSw
              refine wp_region_held_drew (S := fun W2 => Fr (fun _ => False) W6 W2) (by kernel_rfl) ((Fr.refl _ W6).drew) (fun hHeld => ?_)
              refine heldTake (i := 0) 86 (v := ?_) rfl rfl (by kernel_rfl) (by kernel_rfl) (by kernel_rfl) (fun _ _ _ h => h) (by kernel_rfl) (fun w hSw => (by obtain ⟨⟨r0, r1, r2, r3⟩, z5, z6, z7, z8⟩ := HCW.out w hSw; go_simp; try with_reducible rfl)) hHeld ?_
              simp only [Act.put, List.setIfInBounds_toArray, List.set_cons_zero, List.set_cons_succ]
              refine heldTake (i := 1) 87 (v := ?_) rfl rfl (by kernel_rfl) (by kernel_rfl) (by kernel_rfl) (fun _ _ _ h => h) (by kernel_rfl) (fun w hSw => (by obtain ⟨⟨r0, r1, r2, r3⟩, z5, z6, z7, z8⟩ := HCW.out w hSw; go_simp; try with_reducible rfl)) hHeld ?_
              simp only [Act.put, List.setIfInBounds_toArray, List.set_cons_zero, List.set_cons_succ]
              refine heldTake (i := 2) 88 (v := ?_) rfl rfl (by kernel_rfl) (by kernel_rfl) (by kernel_rfl) (fun _ _ _ h => h) (by kernel_rfl) (fun w hSw => (by obtain ⟨⟨r0, r1, r2, r3⟩, z5, z6, z7, z8⟩ := HCW.out w hSw; go_simp; try with_reducible rfl)) hHeld ?_
              simp only [Act.put, List.setIfInBounds_toArray, List.set_cons_zero, List.set_cons_succ]
              refine heldTake (i := 3) 89 (v := ?_) rfl rfl (by kernel_rfl) (by kernel_rfl) (by kernel_rfl) (fun _ _ _ h => h) (by kernel_rfl) (fun w hSw => (by obtain ⟨⟨r0, r1, r2, r3⟩, z5, z6, z7, z8⟩ := HCW.out w hSw; go_simp; try with_reducible rfl)) hHeld ?_
              simp only [Act.put, List.setIfInBounds_toArray, List.set_cons_zero, List.set_cons_succ]
              refine heldTake (i := 4) 90 (v := ?_) rfl rfl (by kernel_rfl) (by kernel_rfl) (by kernel_rfl) (fun _ _ _ h => h) (by kernel_rfl) (fun w hSw => (by obtain ⟨⟨r0, r1, r2, r3⟩, z5, z6, z7, z8⟩ := HCW.out w hSw; go_simp; try with_reducible rfl)) hHeld ?_
              simp only [Act.put, List.setIfInBounds_toArray, List.set_cons_zero, List.set_cons_succ]
              refine heldTake (i := 5) 91 (v := ?_) rfl rfl (by kernel_rfl) (by kernel_rfl) (by kernel_rfl) (fun _ _ _ h => h) (by kernel_rfl) (fun w hSw => (by obtain ⟨⟨r0, r1, r2, r3⟩, z5, z6, z7, z8⟩ := HCW.out w hSw; go_simp; try with_reducible rfl)) hHeld ?_
              simp only [Act.put, List.setIfInBounds_toArray, List.set_cons_zero, List.set_cons_succ]
              refine heldOne (i := 6) rfl (by kernel_rfl) (fun K hK => ?_)
              go_simp
              go_wp2_with ((go_at_call 33; refine Calls.mono (HY.out _ hHeld) ?_; rintro e w8 ⟨rfl, hF8⟩; have hHeld2 : Fr (fun _ => False) W6 w8 := hHeld.trans hF8; clear hF8 hHeld))
              refine hK.out _ _ hHeld2 ?_
              clear hK K
              have hHeld := hHeld2
              clear hHeld2
              refine heldTake (i := 7) 15 (v := ?_) rfl rfl (by kernel_rfl) (by kernel_rfl) (by kernel_rfl) (fun _ _ _ h => h) (by kernel_rfl) (fun w hSw => (by obtain ⟨⟨r0, r1, r2, r3⟩, z5, z6, z7, z8⟩ := HCW.out w hSw; go_simp; try with_reducible rfl)) hHeld ?_
              simp only [Act.put, List.setIfInBounds_toArray, List.set_cons_zero, List.set_cons_succ]
              refine wpAnyH_done (by kernel_rfl) ?_ _
              have HS8 : Hd (PlO cs w1 w8 pt (.slice ua m uc) acc acc kv' vv' (doT (tabOf ((seqX cs acc).map opT)) (ckd, cky, cv))) := HS6.out.go hHeld
              clear hHeld HY HCW
              have hac : acc.length < cs.length := by have := EN.out; have := HM.out; omega
              cases F
              · have HST : Hd (RefO cs [] none) := HS.out.2.1 none (RefO.wrong acc j hac HJ.out.1 HFF.out)
                go_wp2_with fail
                go_ret3
                exact ⟨_, _, _, rfl, HF1.out.trans HS8.out.fr, Or.inr ⟨cs, none, HK.out.2.2.2.1, rfl, HST.out, Or.inl ⟨rfl, rfl, rfl⟩⟩⟩
              · have HST : Hd (∀ r, RefO cs (acc ++ [j]) r → RefO cs [] r) := fun r hr => HS.out.2.1 r (RefO.step acc j r hac HJ.out.1 HFF.out hr)
                have hjn : j < cs.length := HJ.out.2.1
                obtain ⟨dz, hz⟩ : ∃ d, w8.cell? ⟨pt + 1, j, none⟩ = some (.bool d) := ⟨_, (HS8.out.don.at hjn).1⟩
                have hzf : w8.frozen? ⟨pt + 1, j, none⟩ = false := (HS8.out.don.at hjn).2
                have HS9 : Hd (PlO cs w1 (w8.setCell ⟨pt + 1, j, none⟩ (.bool true)) pt (.slice ua m uc) acc (acc ++ [j]) kv' vv' (doT (tabOf ((seqX cs acc).map opT)) (ckd, cky, cv))) := HS8.out.put HPT.out j
                clear hjn
                go_upto_region 27 with fail
                obtain ⟨W9, eW9⟩ : ∃ W9, W9 = (w8.setCell ⟨pt + 1, j, none⟩ (.bool true)) := ⟨_, rfl⟩
                rw [← eW9] at HS9 ⊢
                clear eW9 hz hzf
                have hx := HX1.out W9 HS9.out.fr
                unfold c9 at hx
                have x0 := hx 0 (by omega)
                simp only [List.getElem?_cons_zero, Nat.add_zero] at x0
                obtain ⟨g9, cap9, w9, hr9, hS9⟩ := HS9.out.app HPT.out j (by have := HM.out; omega)
                rw [← HM.out, HC.out.2.2.2] at hr9
                rw [← HM.out] at hS9
                have HA : Hd ((Builtin.append_ #[25, 25] 25 #[.slice ua m uc, .slice (some ⟨W9.heap.size, 0, none⟩) 1 1]).run Try.prog (W9.alloc (.cells #[vI cb] 3)) = .ok (.slice (some ⟨g9, 0, none⟩) (m + 1) cap9) w9) := hr9
                have HSZ : Hd (PlO cs w1 w9 pt (.slice (some ⟨g9, 0, none⟩) (m + 1) cap9) (acc ++ [j]) (acc ++ [j]) kv' vv' (tabOf ((seqX cs (acc ++ [j])).map opT))) := by rw [HRP.out.2, tab_snoc]; exact hS9
                clear hr9 hS9 hx
                go_wp2_with (at_builtin; refine wpList_append_run rfl (.tmp 98) (.tmp 104) 25 rfl _ _ _ rfl rfl HA.out ?_)
                have hl9 : (acc ++ [j]).length = m + 1 := by have := HM.out; simp; omega
                refine ⟨⟨acc ++ [j], kv', vv', by rw [hl9]; omega, ⟨_, _, by rw [hl9]⟩, HSZ.out, HST.out, fun i hi => ?_⟩, by simp; omega⟩
                rcases List.mem_append.1 hi with hi | hi
                · exact HS.out.2.2 i hi
                · rw [List.mem_singleton.1 hi]; exact HJ.out.2.1
      · have hmn : acc.length = cs.length := by have := EN.out; have := HM.out; omega
        have HDO : Hd (RefO cs [] (some acc)) := HS.out.2.1 _ (RefO.done acc hmn)
        have HOW : Hd (wr.ownsRow w.heap.size 3 1 (.slice ua m uc) acc.length (acc.map (fun i => vI (bI cs i))) ∧ Fr (fun _ => False) w wr) := ⟨World.ownsRow.mono HS.out.1.own (by have := HPT.out; have := HF1.out.size; omega), HF1.out.trans HS.out.1.fr⟩
        clear hmn
        go_wp2_with fail
        go_ret3
        exact ⟨_, _, _, rfl, HOW.out.2, Or.inr ⟨cs, some acc, HK.out.2.2.2.1, rfl, HDO.out, Or.inr ⟨acc, rfl, rfl, HOW.out.1⟩⟩⟩
end Go.Proofs.Ytihicdbplmdjiaa
