import Derived.Test.YtihicdbplmdjiaaQB6
namespace Go.Proofs.Ytihicdbplmdjiaa
open Go.RowKit (wrap32 wrap64)
set_option linter.unusedVariables false
set_option linter.unusedSimpArgs false

def possibleB (f : Mk) (cs : List Cl) : Bool := cs.all (canTellB f)
/-- A call as it lies in the row. -/
theorem CAt.look {w : World} {lv : Value} {cs : List Cl} (h : CAt w lv cs) (k : Nat) (hk : k < cs.length) : ∃ g cap, lv = .slice (some ⟨g, 0, none⟩) cs.length cap ∧ cs[k].R.At w ∧ COk cs[k] ∧ ∀ W, Fr (fun _ => False) w W → ∀ j, j < 9 → W.cell? ⟨g, k * 9 + j, none⟩ = (c9 cs[k])[j]? := by
  obtain ⟨ad, cap, e, h1, h2⟩ := h
  obtain ⟨g, rfl, hx⟩ := h1 (fun e => by rw [e] at hk; simp at hk)
  refine ⟨g, cap, e, (h2 _ (List.getElem_mem hk)).1, (h2 _ (List.getElem_mem hk)).2, fun W f j hj => (f.cell ?_ (fun e => e)).trans (hx k hk j hj)⟩
  have := hx k hk j hj
  rw [List.getElem?_eq_getElem (by exact hj)] at this
  exact cell_lt this
set_option maxRecDepth 100000 in
set_option maxHeartbeats 4000000 in
theorem possible_any (lv : Value) (mb N : Nat) (cs : List Cl) (f : Mk) (w : World) (h : PAt w lv mb N cs f) (hl : cs.length ≤ 64) :
    Calls Try.prog 41 #[pV lv mb] w fun e w' => e = .returned (.bool (possibleB f cs)) ∧ Fr (fun _ => False) w w' := by
  have HS : Hd (∀ W (c : Cl), Fr (fun _ => False) w W → c.R.At w → COk c → Calls Try.prog 56 #[pV lv mb, c.V] W fun e w' => e = .returned (.bool (canTellB f c)) ∧ Fr (fun _ => False) W w') := fun W c x h1 h2 => canTell_any lv mb N cs f c W (h.fr x) (h1.fr x) h2
  have HL : Hd (∀ (k : Nat) (hk : k < cs.length), ∃ g cap, lv = .slice (some ⟨g, 0, none⟩) cs.length cap ∧ cs[k].R.At w ∧ COk cs[k] ∧ ∀ W, Fr (fun _ => False) w W → ∀ j, j < 9 → W.cell? ⟨g, k * 9 + j, none⟩ = (c9 cs[k])[j]?) := fun k hk => h.cat.look k hk
  obtain ⟨ad, cap, rfl, -⟩ := h.cat
  unfold pV at *
  obtain ⟨n, en⟩ : ∃ n, n = cs.length := ⟨_, rfl⟩
  have EN : Hd (n = cs.length) := en
  obtain ⟨A, hA⟩ : ∃ A, A = possibleB f cs := ⟨_, rfl⟩
  have EA : Hd (A = possibleB f cs) := hA
  rw [← hA]
  have HF : Hd (Fr (fun _ => False) w (w.alloc (.cells #[.slice ad n cap, .map (some mb)] 54))) := (Fr.refl _ w).alloc _
  have b1 := heap_alloc_last w (.cells #[.slice ad n cap, .map (some mb)] 54)
  obtain ⟨W, eW⟩ : ∃ W, W = (w.alloc (.cells #[.slice ad n cap, .map (some mb)] 54)) := ⟨_, rfl⟩
  rw [← eW] at HF b1
  rw [← en] at HS hl ⊢
  clear h hA en
  go_enter Try.func41, Try.ntmps41
  go_upto_region 1 with fail
  rw [← eW]
  clear eW
  obtain ⟨bb, ebb⟩ : ∃ bb, bb = w.heap.size := ⟨_, rfl⟩
  rw [← ebb] at b1 ⊢
  have HBX : Hd (∀ W2, Fr (fun _ => False) W W2 → W2.cell? ⟨bb, 0, none⟩ = some (.slice ad n cap) ∧ W2.cell? ⟨bb, 1, none⟩ = some (.map (some mb))) := fun W2 f => by
    have e1 := (f.block _ (heap_lt b1) (fun e => e)).trans b1
    exact ⟨cell_of e1 0, cell_of e1 1⟩
  obtain ⟨p0, p1⟩ := HBX.out W (Fr.refl _ W)
  clear ebb b1
  go_wp2_with fail
  go_loopw [8] (fun v8 wr => ∃ k : Nat, v8 = vI k ∧ k ≤ n ∧ Hd (Fr (fun _ => False) W wr ∧ ∀ i (h1 : i < cs.length), i < k → canTellB f cs[i] = true)) (fun v _ => match v with | .int _ q => n - q.toNat | _ => 0)
  case atStart => exact ⟨0, rfl, by omega, Fr.refl _ _, fun i _ hi => absurd hi (by omega)⟩
  case round =>
    clear p0 p1
    obtain ⟨k, rfl, hk, HR⟩ := hrel
    obtain ⟨p0, p1⟩ := HBX.out wr HR.out.1
    by_cases hlt : k < n
    · have k0 : (0 : Int) ≤ k := by omega
      have k1 : (k : Int) < n := by omega
      have hkl : k < cs.length := by rw [← EN.out]; exact hlt
      obtain ⟨g, cap2, e, hat, hok, hc0⟩ := HL.out k hkl
      obtain ⟨rfl, rfl⟩ : ad = some ⟨g, 0, none⟩ ∧ cap = cap2 := by injection e with a b c; exact ⟨a, c⟩
      have hc := hc0 wr (HF.out.trans HR.out.1)
      have HC : Hd (∀ W2, Fr (fun _ => False) wr W2 → Calls Try.prog 56 #[.agg #[.slice (some ⟨g, 0, none⟩) n cap, .map (some mb)], cs[k].V] W2 fun e w' => e = .returned (.bool (canTellB f cs[k])) ∧ Fr (fun _ => False) W2 w') := fun W2 x => HS.out W2 _ ((HF.out.trans HR.out.1).trans x) hat hok
      obtain ⟨ka, kc, ek⟩ := row_slice hat.1
      obtain ⟨va, vc, ev⟩ := row_slice hat.2
      obtain ⟨c, ec⟩ : ∃ c, c = cs[k] := ⟨_, rfl⟩
      have HCK : Hd (cs[k]? = some c) := by show cs[k]? = some c; rw [List.getElem?_eq_getElem hkl, ec]
      rw [← ec] at hc ek ev HC
      obtain ⟨B, hB⟩ : ∃ B, B = canTellB f c := ⟨_, rfl⟩
      have EB : Hd (B = canTellB f c) := hB
      rw [← hB] at HC
      clear hB hat hok ec hc0 hkl e
      unfold c9 at hc
      have x0 := hc 0 (by omega)
      have x1 := hc 1 (by omega)
      have x2 := hc 2 (by omega)
      have x3 := hc 3 (by omega)
      have x4 := hc 4 (by omega)
      have x5 := hc 5 (by omega)
      have x6 := hc 6 (by omega)
      have x7 := hc 7 (by omega)
      have x8 := hc 8 (by omega)
      simp only [List.getElem?_cons_zero, List.getElem?_cons_succ, Nat.add_zero] at x0 x1 x2 x3 x4 x5 x6 x7 x8
      clear hc
      unfold Cl.V c9 at HC
      obtain ⟨b, en', kd, ky, v, ⟨⟨ok, val, ks, vs⟩, kv, vv⟩⟩ := c
      simp only [List.length_map] at x0 x1 x2 x3 x4 x5 x6 x7 x8 ek ev HC
      subst ek ev
      go_upto_region 4 with fail
      have hq := HBX.out (wr.alloc (Obj.cells #[.int .i64 b, .int .i64 en', .int .i64 kd, .int .i64 ky, .string v, .bool ok, .string val, .slice ka ks.length kc, .slice va vs.length vc] 75)) (HR.out.1.alloc _)
      have hc := HC.out (wr.alloc (Obj.cells #[.int .i64 b, .int .i64 en', .int .i64 kd, .int .i64 ky, .string v, .bool ok, .string val, .slice ka ks.length kc, .slice va vs.length vc] 75)) ((Fr.refl _ wr).alloc _)
      have hb2 := nine (heap_alloc_last wr (Obj.cells #[.int .i64 b, .int .i64 en', .int .i64 kd, .int .i64 ky, .string v, .bool ok, .string val, .slice ka ks.length kc, .slice va vs.length vc] 75))
      have hfx := (Fr.refl (fun _ => False) wr).alloc (Obj.cells #[.int .i64 b, .int .i64 en', .int .i64 kd, .int .i64 ky, .string v, .bool ok, .string val, .slice ka ks.length kc, .slice va vs.length vc] 75)
      obtain ⟨W2, eW2⟩ : ∃ W2, W2 = (wr.alloc (Obj.cells #[.int .i64 b, .int .i64 en', .int .i64 kd, .int .i64 ky, .string v, .bool ok, .string val, .slice ka ks.length kc, .slice va vs.length vc] 75)) := ⟨_, rfl⟩
      rw [← eW2] at hq hc hb2 hfx ⊢
      have HFX : Hd _ := hfx
      obtain ⟨pm, epm⟩ : ∃ pm, pm = wr.heap.size := ⟨_, rfl⟩
      rw [← epm] at hb2 ⊢
      obtain ⟨p0, p1⟩ := hq
      obtain ⟨y0, y1, y2, y3, y4, y5, y6, y7, y8⟩ := hb2
      have HC2 : Hd (Calls Try.prog 56 #[.agg #[.slice (some ⟨g, 0, none⟩) n cap, .map (some mb)], .agg #[vI b, vI en', vI kd, vI ky, .string v, .bool ok, .string val, .slice ka ks.length kc, .slice va vs.length vc]] W2 fun e w' => e = .returned (.bool B) ∧ Fr (fun _ => False) W2 w') := hc
      clear hc hfx eW2 epm HC x0 x1 x2 x3 x4 x5 x6 x7 x8
      cases B
      · go_wp2_with (go_at_call 56; refine HC2.out.mono ?_; rintro _ w3 ⟨rfl, hf3⟩; have HF3 : Hd _ := hf3; clear hf3)
        go_ret
        refine ⟨?_, HF.out.trans (HR.out.1.trans (HFX.out.trans HF3.out))⟩
        have : A = false := by
          rw [EA.out, Bool.eq_false_iff]
          intro h
          unfold possibleB at h
          rw [List.all_eq_true] at h
          have := h _ (List.mem_of_getElem? HCK.out)
          rw [← EB.out] at this
          cases this
        rw [this]
        rfl
      · go_wp2_with (go_at_call 56; refine HC2.out.mono ?_; rintro _ w3 ⟨rfl, hf3⟩; have HF3 : Hd _ := hf3; clear hf3)
        refine ⟨⟨k + 1, by simp, by omega, HR.out.1.trans (HFX.out.trans HF3.out), fun i h1 hi => ?_⟩, by simp; omega⟩
        rcases Nat.lt_or_ge i k with h3 | h3
        · exact HR.out.2 i h1 h3
        · have e : i = k := by omega
          subst e
          obtain ⟨h1, e1⟩ := List.getElem?_eq_some_iff.1 HCK.out
          rw [e1]
          exact EB.out.symm
    · have HA : Hd (A = true) := by
        show A = true
        rw [EA.out]
        unfold possibleB
        rw [List.all_eq_true]
        intro p hp
        obtain ⟨i, hi, e⟩ := List.mem_iff_getElem.1 hp
        rw [← e]
        exact HR.out.2 i hi (by have := EN.out; omega)
      go_wp2_with fail
      go_ret
      exact ⟨by rw [HA.out]; rfl, HF.out.trans HR.out.1⟩
end Go.Proofs.Ytihicdbplmdjiaa
