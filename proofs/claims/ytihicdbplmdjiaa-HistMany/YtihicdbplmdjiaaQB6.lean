import Derived.Test.YtihicdbplmdjiaaQB5
import Derived.Test.YtihicdbplmdjiaaQH0
namespace Go.Proofs.Ytihicdbplmdjiaa
open Go.RowKit (wrap32 wrap64)
set_option linter.unusedVariables false
set_option linter.unusedSimpArgs false

def canTellB (f : Mk) (c : Cl) : Bool := if c.kd = 1 then (f c.ky).isSome else if c.kd = 2 then !c.R.r.ok || hasB f c.ky c.R.r.val else (c.R.r.keys.zip c.R.r.vals).all (fun p => hasB f p.1 p.2)
set_option maxRecDepth 100000 in
set_option maxHeartbeats 4000000 in
theorem canTell_any (lv : Value) (mb N : Nat) (cs : List Cl) (f : Mk) (c : Cl) (w : World) (h : PAt w lv mb N cs f) (hc : c.R.At w) (hk : COk c) :
    Calls Try.prog 56 #[pV lv mb, c.V] w fun e w' => e = .returned (.bool (canTellB f c)) ∧ Fr (fun _ => False) w w' := by
  have HS : Hd (∀ W key val, Fr (fun _ => False) w W → In64 key → Calls Try.prog 61 #[pV lv mb, vI key, .string val] W fun e w' => e = .returned (.bool (hasB f key val)) ∧ Fr (fun _ => False) W w') := fun W key val x hk => has61 lv mb N cs f key val W (h.fr x) hk
  have HP : Hd (∀ W, Fr (fun _ => False) w W → MdM W mb N f ∧ ∀ q d, f q = some d → d.R.At W) := fun W x => ⟨(h.fr x).map, (h.fr x).ats⟩
  obtain ⟨ad, cap, rfl, -⟩ := h.cat
  have HCO : Hd (c.R.At w ∧ COk c) := ⟨hc, hk⟩
  obtain ⟨ka, kc, ek⟩ := row_slice hc.1
  obtain ⟨va, vc, ev⟩ := row_slice hc.2
  unfold pV at *
  unfold Cl.V c9
  obtain ⟨b, en', kd, ky, v, ⟨⟨ok, val, ks, vs⟩, kv, vv⟩⟩ := c
  unfold canTellB
  simp only [List.length_map] at ek ev ⊢
  subst ek ev
  clear h hc hk
  have HF : Hd (Fr (fun _ => False) w ((w.alloc (.cells #[.slice ad cs.length cap, .map (some mb)] 54)).alloc (.cells #[vI b, vI en', vI kd, vI ky, .string v, .bool ok, .string val, .slice ka ks.length kc, .slice va vs.length vc] 75))) := ((Fr.refl _ w).alloc _).alloc _
  by_cases h1 : kd = 1
  · subst h1
    have hm := (HP.out _ HF.out).1
    have ha := (HP.out _ HF.out).2 ky
    cases hf : f ky with
    | none =>
      have hq := hm.out HCO.out.2.ky hf
      unfold zeroC at hq
      clear hm ha hf
      go_enter Try.func56, Try.ntmps56
      go_wp2_with fail
      go_ret
      exact ⟨by simp, HF.out.alloc _⟩
    | some d =>
      have hq := hm.in_ HCO.out.2.ky hf
      have hd := ha d hf
      obtain ⟨ka', kc', ek⟩ := row_slice hd.1
      obtain ⟨va', vc', ev⟩ := row_slice hd.2
      unfold Cl.V c9 at hq
      obtain ⟨b', en2, kd', ky', v', ⟨⟨ok', v2, ks', vs'⟩, kv, vv⟩⟩ := d
      simp only [List.length_map] at hq ek ev ⊢
      subst ek ev
      clear hm ha hf hd
      go_enter Try.func56, Try.ntmps56
      go_wp2_with fail
      go_ret
      exact ⟨by simp, HF.out.alloc _⟩
  · by_cases h2 : kd = 2
    · subst h2
      have hc := HS.out _ ky val HF.out HCO.out.2.ky
      obtain ⟨B, hB⟩ : ∃ B, B = hasB f ky val := ⟨_, rfl⟩
      rw [← hB] at hc ⊢
      clear hB
      cases ok
      · go_enter Try.func56, Try.ntmps56
        go_wp2_with fail
        go_ret
        exact ⟨by simp, HF.out⟩
      · go_enter Try.func56, Try.ntmps56
        go_wp2_with (go_at_call 61; refine hc.mono ?_; rintro _ w3 ⟨rfl, hf3⟩; have HF3 : Hd _ := hf3; clear hf3)
        go_ret
        exact ⟨by simp, HF.out.trans HF3.out⟩
    · have h3 : kd = 3 := by rcases HCO.out.2.kinds with e | e | e; exact absurd e h1; exact absurd e h2; exact e
      subst h3
      have hvl : vs.length = ks.length := HCO.out.2.fine.vlen rfl
      have hkl : ks.length ≤ 1000000000000000000 := HCO.out.2.fine.len
      obtain ⟨n, en⟩ : ∃ n, n = ks.length := ⟨_, rfl⟩
      have EN : Hd (n = ks.length ∧ n = vs.length) := ⟨en, by omega⟩
      rw [hvl] at HF ⊢
      rw [← en] at HF hkl ⊢
      have HX : Hd (∀ i (hi : i < ks.length), ∃ g o, ka = some ⟨g, o, none⟩ ∧ ∀ W, Fr (fun _ => False) w W → W.cell? ⟨g, o + i, none⟩ = some (vI ks[i])) := fun i hi => by
        obtain ⟨a, cc, e, hx⟩ := HCO.out.1.1
        obtain ⟨g, o, ea, hx⟩ := hx (fun e => by rw [List.map_eq_nil_iff] at e; subst e; simp at hi)
        have e1 : ka = a := by injection e
        have := hx i (by simpa using hi)
        rw [List.getElem_map] at this
        exact ⟨g, o, by rw [e1, ea], fun W f => (f.cell (cell_lt this) (fun e => e)).trans this⟩
      have HY : Hd (∀ i (hi : i < vs.length), ∃ g o, va = some ⟨g, o, none⟩ ∧ ∀ W, Fr (fun _ => False) w W → W.cell? ⟨g, o + i, none⟩ = some (.string vs[i])) := fun i hi => by
        obtain ⟨a, cc, e, hx⟩ := HCO.out.1.2
        obtain ⟨g, o, ea, hx⟩ := hx (fun e => by rw [List.map_eq_nil_iff] at e; subst e; simp at hi)
        have e1 : va = a := by injection e
        have := hx i (by simpa using hi)
        rw [List.getElem_map] at this
        exact ⟨g, o, by rw [e1, ea], fun W f => (f.cell (cell_lt this) (fun e => e)).trans this⟩
      obtain ⟨A, hA⟩ : ∃ A, A = (ks.zip vs).all (fun p => hasB f p.1 p.2) := ⟨_, rfl⟩
      have EA : Hd (A = (ks.zip vs).all (fun p => hasB f p.1 p.2)) := hA
      rw [← hA]
      have b1 : ((w.alloc (.cells #[.slice ad cs.length cap, .map (some mb)] 54)).alloc (.cells #[vI b, vI en', vI 3, vI ky, .string v, .bool ok, .string val, .slice ka n kc, .slice va n vc] 75)).heap[w.heap.size]? = some (.cells #[.slice ad cs.length cap, .map (some mb)] 54) := by
        rw [Go.RowKit.Below.heap_alloc _ _ _ (by simp)]; exact heap_alloc_last w _
      have b2 : ((w.alloc (.cells #[.slice ad cs.length cap, .map (some mb)] 54)).alloc (.cells #[vI b, vI en', vI 3, vI ky, .string v, .bool ok, .string val, .slice ka n kc, .slice va n vc] 75)).heap[w.heap.size + 1]? = some (.cells #[vI b, vI en', vI 3, vI ky, .string v, .bool ok, .string val, .slice ka n kc, .slice va n vc] 75) := by
        have := heap_alloc_last (w.alloc (.cells #[.slice ad cs.length cap, .map (some mb)] 54)) (.cells #[vI b, vI en', vI 3, vI ky, .string v, .bool ok, .string val, .slice ka n kc, .slice va n vc] 75)
        rw [show (w.alloc (.cells #[.slice ad cs.length cap, .map (some mb)] 54)).heap.size = w.heap.size + 1 by simp] at this
        exact this
      obtain ⟨W, eW⟩ : ∃ W, W = ((w.alloc (.cells #[.slice ad cs.length cap, .map (some mb)] 54)).alloc (.cells #[vI b, vI en', vI 3, vI ky, .string v, .bool ok, .string val, .slice ka n kc, .slice va n vc] 75)) := ⟨_, rfl⟩
      rw [← eW] at HF b1 b2
      clear hA en hvl HP h1 h2
      go_enter Try.func56, Try.ntmps56
      go_upto_region 1 with fail
      rw [← eW]
      clear eW
      obtain ⟨bb, ebb⟩ : ∃ bb, bb = w.heap.size := ⟨_, rfl⟩
      rw [← ebb] at b1 b2 ⊢
      have HBX : Hd (∀ W2, Fr (fun _ => False) W W2 → (W2.cell? ⟨bb, 0, none⟩ = some (.slice ad cs.length cap) ∧ W2.cell? ⟨bb, 1, none⟩ = some (.map (some mb))) ∧ W2.cell? ⟨bb + 1, 2, none⟩ = some (vI 3) ∧ W2.cell? ⟨bb + 1, 7, none⟩ = some (.slice ka n kc) ∧ W2.cell? ⟨bb + 1, 8, none⟩ = some (.slice va n vc)) := fun W2 f => by
        have e1 := (f.block _ (heap_lt b1) (fun e => e)).trans b1
        have e2 := (f.block _ (heap_lt b2) (fun e => e)).trans b2
        exact ⟨⟨cell_of e1 0, cell_of e1 1⟩, cell_of e2 2, cell_of e2 7, cell_of e2 8⟩
      obtain ⟨⟨p0, p1⟩, q2, q7, q8⟩ := HBX.out W (Fr.refl _ W)
      clear ebb b1 b2
      go_wp2_with fail
      go_loopw [44] (fun v44 wr => ∃ k : Nat, v44 = vI k ∧ k ≤ n ∧ Hd (Fr (fun _ => False) W wr ∧ ∀ i (h1 : i < ks.length) (h2 : i < vs.length), i < k → hasB f ks[i] vs[i] = true)) (fun v _ => match v with | .int _ q => n - q.toNat | _ => 0)
      case atStart => exact ⟨0, rfl, by omega, Fr.refl _ _, fun i _ _ hi => absurd hi (by omega)⟩
      case round =>
        obtain ⟨k, rfl, hk, HR⟩ := hrel
        by_cases hlt : k < n
        · have k0 : (0 : Int) ≤ k := by omega
          have k1 : (k : Int) < n := by omega
          have hk1 : k < ks.length := by have := EN.out.1; omega
          have hk2 : k < vs.length := by have := EN.out.2; omega
          obtain ⟨g, o, rfl, hc0⟩ := HX.out k hk1
          obtain ⟨g2, o2, rfl, hc2⟩ := HY.out k hk2
          have x0 := hc0 wr (HF.out.trans HR.out.1)
          have HCW : Hd (∀ w2, Fr (fun _ => False) wr w2 → ((w2.cell? ⟨bb, 0, none⟩ = some (.slice ad cs.length cap) ∧ w2.cell? ⟨bb, 1, none⟩ = some (.map (some mb))) ∧ w2.cell? ⟨bb + 1, 8, none⟩ = some (.slice (some ⟨g2, o2, none⟩) n vc)) ∧ w2.cell? ⟨g2, o2 + k, none⟩ = some (.string vs[k])) := fun w2 f => by
            obtain ⟨a1, -, -, a2⟩ := HBX.out w2 (HR.out.1.trans f)
            exact ⟨⟨a1, a2⟩, hc2 w2 ((HF.out.trans HR.out.1).trans f)⟩
          have hin := HCO.out.2.keys ks[k] (List.getElem_mem hk1)
          have HC2 : Hd (∀ W2, Fr (fun _ => False) wr W2 → Calls Try.prog 61 #[.agg #[.slice ad cs.length cap, .map (some mb)], vI ks[k], .string vs[k]] W2 fun e w' => e = .returned (.bool (hasB f ks[k] vs[k])) ∧ Fr (fun _ => False) W2 w') := fun W2 x => HS.out W2 _ _ ((HF.out.trans HR.out.1).trans x) hin
          obtain ⟨key, ekey⟩ : ∃ x, x = ks[k] := ⟨_, rfl⟩
          obtain ⟨vl, evl⟩ : ∃ x, x = vs[k] := ⟨_, rfl⟩
          have HKV : Hd (ks[k]? = some key ∧ vs[k]? = some vl) := ⟨by rw [List.getElem?_eq_getElem hk1, ekey], by rw [List.getElem?_eq_getElem hk2, evl]⟩
          rw [← ekey] at x0 HC2
          rw [← evl] at HCW HC2
          obtain ⟨B, hB⟩ : ∃ B, B = hasB f key vl := ⟨_, rfl⟩
          have EB : Hd (B = hasB f key vl) := hB
          rw [← hB] at HC2
          clear hB ekey evl hin hc0 hc2 hk1 hk2 HX HY
          go_upto_region 10 with fail
          clear x0
          refine wp_region_held_drew (S := fun W2 => Fr (fun _ => False) wr W2) (by kernel_rfl) ((Fr.refl _ wr).drew) (fun hHeld => ?_)
          refine heldTake (i := 0) 49 (v := ?_) rfl rfl (by kernel_rfl) (by kernel_rfl) (by kernel_rfl) (fun _ _ _ h => h) (by kernel_rfl) (fun w hSw => (by obtain ⟨⟨⟨p0, p1⟩, q8⟩, z1⟩ := HCW.out w hSw; go_simp; try with_reducible rfl)) hHeld ?_
          simp only [Act.put, List.setIfInBounds_toArray, List.set_cons_zero, List.set_cons_succ]
          refine heldTake (i := 1) 50 (v := ?_) rfl rfl (by kernel_rfl) (by kernel_rfl) (by kernel_rfl) (fun _ _ _ h => h) (by kernel_rfl) (fun w hSw => (by obtain ⟨⟨⟨p0, p1⟩, q8⟩, z1⟩ := HCW.out w hSw; go_simp; try with_reducible rfl)) hHeld ?_
          simp only [Act.put, List.setIfInBounds_toArray, List.set_cons_zero, List.set_cons_succ]
          refine heldTake (i := 2) 51 (v := ?_) rfl rfl (by kernel_rfl) (by kernel_rfl) (by kernel_rfl) (fun _ _ _ h => h) (by kernel_rfl) (fun w hSw => (by obtain ⟨⟨⟨p0, p1⟩, q8⟩, z1⟩ := HCW.out w hSw; go_simp; try with_reducible rfl)) hHeld ?_
          simp only [Act.put, List.setIfInBounds_toArray, List.set_cons_zero, List.set_cons_succ]
          refine heldTake (i := 3) 52 (v := ?_) rfl rfl (by kernel_rfl) (by kernel_rfl) (by kernel_rfl) (fun _ _ _ h => h) (by kernel_rfl) (fun w hSw => (by obtain ⟨⟨⟨p0, p1⟩, q8⟩, z1⟩ := HCW.out w hSw; go_simp; try with_reducible rfl)) hHeld ?_
          simp only [Act.put, List.setIfInBounds_toArray, List.set_cons_zero, List.set_cons_succ]
          refine heldTake (i := 4) 53 (v := ?_) rfl rfl (by kernel_rfl) (by kernel_rfl) (by kernel_rfl) (fun _ _ _ h => h) (by kernel_rfl) (fun w hSw => (by obtain ⟨⟨⟨p0, p1⟩, q8⟩, z1⟩ := HCW.out w hSw; go_simp; try with_reducible rfl)) hHeld ?_
          simp only [Act.put, List.setIfInBounds_toArray, List.set_cons_zero, List.set_cons_succ]
          refine heldTake (i := 5) 54 (v := ?_) rfl rfl (by kernel_rfl) (by kernel_rfl) (by kernel_rfl) (fun _ _ _ h => h) (by kernel_rfl) (fun w hSw => (by obtain ⟨⟨⟨p0, p1⟩, q8⟩, z1⟩ := HCW.out w hSw; go_simp; try with_reducible rfl)) hHeld ?_
          simp only [Act.put, List.setIfInBounds_toArray, List.set_cons_zero, List.set_cons_succ]
          refine heldTake (i := 6) 55 (v := ?_) rfl rfl (by kernel_rfl) (by kernel_rfl) (by kernel_rfl) (fun _ _ _ h => h) (by kernel_rfl) (fun w hSw => (by obtain ⟨⟨⟨p0, p1⟩, q8⟩, z1⟩ := HCW.out w hSw; go_simp; try with_reducible rfl)) hHeld ?_
          simp only [Act.put, List.setIfInBounds_toArray, List.set_cons_zero, List.set_cons_succ]
          refine heldTake (i := 7) 56 (v := ?_) rfl rfl (by kernel_rfl) (by kernel_rfl) (by kernel_rfl) (fun _ _ _ h => h) (by kernel_rfl) (fun w hSw => (by obtain ⟨⟨⟨p0, p1⟩, q8⟩, z1⟩ := HCW.out w hSw; go_simp; try with_reducible rfl)) hHeld ?_
          simp only [Act.put, List.setIfInBounds_toArray, List.set_cons_zero, List.set_cons_succ]
          refine heldOne (i := 8) rfl (by kernel_rfl) (fun K hK => ?_)
          go_simp
          go_wp2_with ((go_at_call 61; refine Calls.mono (HC2.out _ hHeld) ?_; rintro e w8 ⟨rfl, hF8⟩; have hHeld2 : Fr (fun _ => False) wr w8 := hHeld.trans hF8; clear hF8 hHeld))
          refine hK.out _ _ hHeld2 ?_
          clear hK K
          have hHeld := hHeld2
          clear hHeld2
          refine heldTake (i := 9) 58 (v := ?_) rfl rfl (by kernel_rfl) (by kernel_rfl) (by kernel_rfl) (fun _ _ _ h => h) (by kernel_rfl) (fun w hSw => (by obtain ⟨⟨⟨p0, p1⟩, q8⟩, z1⟩ := HCW.out w hSw; go_simp; try with_reducible rfl)) hHeld ?_
          simp only [Act.put, List.setIfInBounds_toArray, List.set_cons_zero, List.set_cons_succ]
          refine wpAnyH_done (by kernel_rfl) ?_ _
          have HG : Hd (Fr (fun _ => False) wr w8) := hHeld
          clear hHeld HC2
          cases B
          · go_wp2_with fail
            go_ret
            refine ⟨?_, HF.out.trans (HR.out.1.trans HG.out)⟩
            have : A = false := by
              rw [EA.out, Bool.eq_false_iff]
              intro h
              rw [List.all_eq_true] at h
              obtain ⟨h1, e1⟩ := List.getElem?_eq_some_iff.1 HKV.out.1
              obtain ⟨h2, e2⟩ := List.getElem?_eq_some_iff.1 HKV.out.2
              have := h (ks[k], vs[k]) (List.mem_iff_getElem.2 ⟨k, by rw [List.length_zip]; omega, by rw [List.getElem_zip]⟩)
              rw [e1, e2, ← EB.out] at this
              cases this
            rw [this]
            rfl
          · go_wp2_with fail
            refine ⟨⟨k + 1, by simp, by omega, HR.out.1.trans HG.out, fun i h1 h2 hi => ?_⟩, by simp; omega⟩
            rcases Nat.lt_or_ge i k with h3 | h3
            · exact HR.out.2 i h1 h2 h3
            · have e : i = k := by omega
              subst e
              obtain ⟨h1, e1⟩ := List.getElem?_eq_some_iff.1 HKV.out.1
              obtain ⟨h2, e2⟩ := List.getElem?_eq_some_iff.1 HKV.out.2
              rw [e1, e2]
              exact EB.out.symm
        · have HA : Hd (A = true) := by
            show A = true
            rw [EA.out, List.all_eq_true]
            intro p hp
            obtain ⟨i, hi, e⟩ := List.mem_iff_getElem.1 hp
            rw [List.length_zip] at hi
            rw [List.getElem_zip] at e
            rw [← e]
            exact HR.out.2 i (by omega) (by omega) (by have := EN.out; omega)
          go_wp2_with fail
          go_ret
          exact ⟨by rw [HA.out]; rfl, HF.out.trans HR.out.1⟩
end Go.Proofs.Ytihicdbplmdjiaa
