import Derived.Test.YtjmbfjaahadbhaaGreatDoorQGf
set_option linter.unusedVariables false
set_option linter.unusedSimpArgs false
namespace Go.Proofs.YtjmbfjaahadbhaaGreatDoor
open Go.RowKit (wrap32 wrap64)

/-- What components leaves. -/
def CpE (N : Nat) (cl : Nat → List Nat) (w : World) (e : Ending) (w' : World) : Prop :=
  ∃ go n of, e = .returned (.slice (some ⟨go, 0, none⟩) N N) ∧ w.heap.size ≤ go ∧ Wg.Row w' 3 go N (fun i => vI (of i : Nat)) ∧ Rg N cl n of ∧ n ≤ N ∧ Fr (fun _ => False) w w'

/-- Four rows of noughts, one behind the other. -/
abbrev four (w : World) (N : Nat) : World := (((w.alloc (.cells (Array.replicate N (vI 0)) 3)).alloc (.cells (Array.replicate N (vI 0)) 3)).alloc (.cells (Array.replicate N (vI 0)) 3)).alloc (.cells (Array.replicate N (vI 0)) 3)
theorem four_rows (w : World) (N g : Nat) (h1 : w.heap.size ≤ g) (h2 : g < w.heap.size + 4) : Wg.Row (four w N) 3 g N (fun _ => vI 0) := by
  have r : ∀ W : World, Wg.Row (W.alloc (.cells (Array.replicate N (vI 0)) 3)) 3 W.heap.size N (fun _ => vI 0) := fun W => Wg.Row.made W 3 N (vI 0)
  have k : ∀ {W : World} {g : Nat}, Wg.Row W 3 g N (fun _ => vI 0) → Wg.Row (W.alloc (.cells (Array.replicate N (vI 0)) 3)) 3 g N (fun _ => vI 0) := fun {W g} h => h.fr (Fr.alloc (Fr.refl (fun _ => False) W) _) (fun e => e)
  have : g = w.heap.size ∨ g = w.heap.size + 1 ∨ g = w.heap.size + 2 ∨ g = w.heap.size + 3 := by omega
  rcases this with e | e | e | e
  · rw [e]; exact k (k (k (r w)))
  · have := r (w.alloc (.cells (Array.replicate N (vI 0)) 3))
    rw [World.size_alloc] at this
    rw [e]; exact k (k this)
  · have := r ((w.alloc (.cells (Array.replicate N (vI 0)) 3)).alloc (.cells (Array.replicate N (vI 0)) 3))
    rw [World.size_alloc, World.size_alloc] at this
    rw [e]; exact k this
  · have := r (((w.alloc (.cells (Array.replicate N (vI 0)) 3)).alloc (.cells (Array.replicate N (vI 0)) 3)).alloc (.cells (Array.replicate N (vI 0)) 3))
    rw [World.size_alloc, World.size_alloc, World.size_alloc] at this
    rw [e]; exact this
theorem sc_begin (w : World) (N : Nat) (clv : Value) (go gm gl gn : Nat) (h : w.heap.size ≤ go ∧ w.heap.size ≤ gm ∧ w.heap.size ≤ gl ∧ w.heap.size ≤ gn ∧ go < w.heap.size + 4 ∧ gm < w.heap.size + 4 ∧ gl < w.heap.size + 4 ∧ gn < w.heap.size + 4) (hne : go ≠ gm ∧ go ≠ gl ∧ go ≠ gn ∧ gm ≠ gl ∧ gm ≠ gn ∧ gl ≠ gn) :
    Sc ((four w N).alloc (.cells #[clv, .slice (some ⟨go, 0, none⟩) N N, vI 0, .slice (some ⟨gm, 0, none⟩) N N, .slice (some ⟨gl, 0, none⟩) N N, .slice (some ⟨gn, 0, none⟩) N N, .slice none 0 0, .slice none 0 0, vI 0] 72)).drew (w.heap.size + 5) (w.heap.size + 4) go gm gl gn N clv (.slice none 0 0) (.slice none 0 0) (fun _ => 0) (fun _ => 0) (fun _ => 0) (fun _ => 0) 0 0 [] [] := by
  obtain ⟨a1, a2, a3, a4, a5, a6, a7, a8⟩ := h
  have f : Fr (fun _ => False) (four w N) ((four w N).alloc (.cells #[clv, .slice (some ⟨go, 0, none⟩) N N, vI 0, .slice (some ⟨gm, 0, none⟩) N N, .slice (some ⟨gl, 0, none⟩) N N, .slice (some ⟨gn, 0, none⟩) N N, .slice none 0 0, .slice none 0 0, vI 0] 72)).drew := (Fr.alloc (Fr.refl _ _) _).drew
  have hsz : (four w N).heap.size = w.heap.size + 4 := by unfold four; rw [World.size_alloc, World.size_alloc, World.size_alloc, World.size_alloc]
  refine ⟨?_, (four_rows w N go a1 a5).fr f (fun e => e), (four_rows w N gm a2 a6).fr f (fun e => e), (four_rows w N gl a3 a7).fr f (fun e => e), (four_rows w N gn a4 a8).fr f (fun e => e), World.ownsRow_nil _ _ _ _, World.ownsRow_nil _ _ _ _, by omega, hne, fun k e => by cases e⟩
  have := heap_new0 (four w N) (.cells #[clv, .slice (some ⟨go, 0, none⟩) N N, vI 0, .slice (some ⟨gm, 0, none⟩) N N, .slice (some ⟨gl, 0, none⟩) N N, .slice (some ⟨gn, 0, none⟩) N N, .slice none 0 0, .slice none 0 0, vI 0] 72)
  rw [hsz] at this
  exact this
theorem four_fr (w : World) (N : Nat) (o : Obj) : Fr (fun _ => False) w ((four w N).alloc o).drew := (Fr.alloc (Fr.alloc (Fr.alloc (Fr.alloc (Fr.alloc (Fr.refl _ w) _) _) _) _) _).drew
theorem four_size (w : World) (N : Nat) (o : Obj) : ((four w N).alloc o).drew.heap.size = w.heap.size + 5 := by
  show ((four w N).alloc o).heap.size = _
  unfold four
  rw [World.size_alloc, World.size_alloc, World.size_alloc, World.size_alloc, World.size_alloc]

set_option maxRecDepth 100000 in
set_option maxHeartbeats 8000000 in
theorem components_any {N ck co cc : Nat} {cl : Nat → List Nat} (w : World) (h : LB w.heap.size w (.slice (some ⟨ck, co, none⟩) N cc) (zLs N cl)) (hcl : ∀ x, x < N → ∀ z ∈ cl x, z < N) (hll : ∀ x, x < N → (cl x).length ≤ 1000000000) (hN : N ≤ 1000000) :
    Calls Tryz.prog 17 #[.slice (some ⟨ck, co, none⟩) N cc] w (CpE N cl w) := by
  have HLA : Hd (LB w.heap.size w (.slice (some ⟨ck, co, none⟩) N cc) (zLs N cl)) := h
  have HCL : Hd (∀ x, x < N → ∀ z ∈ cl x, z < N) := hcl
  have HLL : Hd (∀ x, x < N → (cl x).length ≤ 1000000000) := hll
  clear h hcl hll
  go_enter Tryz.func17, Tryz.ntmps17
  go_upto_region 2 with fail
  go_cut [4] (fun x4 wx => ∃ b go gm gl gn, x4 = .pointer (some ⟨b, 0, none⟩) ∧ Hd (Sc wx (w.heap.size + 5) b go gm gl gn N (.slice (some ⟨ck, co, none⟩) N cc) (.slice none 0 0) (.slice none 0 0) (fun _ => 0) (fun _ => 0) (fun _ => 0) (fun _ => 0) 0 0 [] []) ∧ Hd (w.heap.size ≤ b ∧ w.heap.size ≤ go ∧ w.heap.size ≤ gm ∧ w.heap.size ≤ gl ∧ w.heap.size ≤ gn) ∧ Hd (w.heap.size + 5 ≤ wx.heap.size) ∧ Hd (Fr (fun _ => False) w wx))
  case first =>
    have hmk : ∀ W : World, (Instr.makeSlice 25 (.int .i64 N) (.int .i64 N)).run Tryz.prog W = .ok (.slice (some ⟨W.heap.size, 0, none⟩) N N) (W.alloc (.cells (Array.replicate N (vI 0)) 3)) := fun W => make64 N (by omega) W
    go_region
    all_goals
      go_wp2_with fail
      go_meet
      exact ⟨_, _, _, _, _, rfl, sc_begin w N _ _ _ _ _ (by omega) (by omega), (by unfold Hd; omega), Nat.le_of_eq (four_size w N _).symm, four_fr w N _⟩
  case rest =>
  obtain ⟨b, go, gm, gl, gn, rfl, HS0, HB, HSZ, HF0⟩ := hcut
  obtain ⟨w1, hw1⟩ : ∃ w1, w1 = wc := ⟨_, rfl⟩
  rw [← hw1] at HS0 HSZ HF0 ⊢
  clear hw1
  have c1 : w1.cell? ⟨b, 1, none⟩ = some (.slice (some ⟨go, 0, none⟩) N N) := by rw [cell_of0 HS0.out.blk]; rfl
  have HS1 : Hd (∃ of, Sc w1 (w.heap.size + 5) b go gm gl gn N (.slice (some ⟨ck, co, none⟩) N cc) (.slice none 0 0) (.slice none 0 0) of (fun _ => 0) (fun _ => 0) (fun _ => 0) 0 0 [] [] ∧ ∀ i, i < 0 → of i = -1) := ⟨_, HS0.out, fun i hi => by omega⟩
  have HF1 : Hd (Fr (fun k => w.heap.size ≤ k) w w1) := HF0.out.mono (fun _ _ e => e.elim)
  clear HS0 HF0
  go_wp2_with fail
  go_loopw [25] (fun v wx => ∃ k : Nat, v = .int .i64 k ∧ k ≤ N ∧ Hd (∃ of, Sc wx (w.heap.size + 5) b go gm gl gn N (.slice (some ⟨ck, co, none⟩) N cc) (.slice none 0 0) (.slice none 0 0) of (fun _ => 0) (fun _ => 0) (fun _ => 0) 0 0 [] [] ∧ ∀ i, i < k → of i = -1) ∧ Hd (Fr (fun k => w.heap.size ≤ k) w wx) ∧ Hd (w.heap.size + 5 ≤ wx.heap.size)) (fun v _ => match v with | .int _ q => N - q.toNat | _ => 0)
  case atStart => exact ⟨0, rfl, Nat.zero_le _, HS1.out, HF1.out, HSZ.out⟩
  case round =>
    clear HS1 HF1 c1
    obtain ⟨k, rfl, hk, HS, HF, HSZ2⟩ := hrel
    obtain ⟨of1, hs1, ho1⟩ := HS.out
    have c1 : wr.cell? ⟨b, 1, none⟩ = some (.slice (some ⟨go, 0, none⟩) N N) := by rw [cell_of0 hs1.blk]; rfl
    by_cases hlt : k < N
    · have d1 : decide ((k : Int) < (N : Int)) = true := by simp; omega
      have p1 := hs1.rof.cell hlt
      have z1 := hs1.rof.frozen k
      have k0 : (0 : Int) ≤ k := by omega
      have k1 : (k : Int) < N := by omega
      have HS2 : Hd (∃ of, Sc (wr.setCell ⟨go, k, none⟩ (vI (-1))) (w.heap.size + 5) b go gm gl gn N (.slice (some ⟨ck, co, none⟩) N cc) (.slice none 0 0) (.slice none 0 0) of (fun _ => 0) (fun _ => 0) (fun _ => 0) 0 0 [] [] ∧ ∀ i, i < k + 1 → of i = -1) := ⟨_, hs1.setOf k (-1), fun i hi => by
        by_cases e : i = k
        · rw [e, Wg.upd_same]
        · rw [Wg.upd_ne _ _ e]; exact ho1 i (by omega)⟩
      have HF2 : Hd (Fr (fun k => w.heap.size ≤ k) w (wr.setCell ⟨go, k, none⟩ (vI (-1)))) := HF.out.setCell _ _ (Or.inl HB.out.2.1)
      have HSZ3 : Hd (w.heap.size + 5 ≤ (wr.setCell ⟨go, k, none⟩ (vI (-1))).heap.size) := by unfold Hd; rw [World.size_setCell]; exact HSZ2.out
      clear hs1 ho1 HS HF
      go_wp2_with fail
      go_roundw
      case measure => simp; omega
      case rel => exact ⟨k + 1, by simp, by omega, HS2.out, HF2.out, HSZ3.out⟩
    · have hkN : k = N := by omega
      have d1 : decide ((k : Int) < (N : Int)) = false := by simp; omega
      have d1n : ¬ k < N := by omega
      have HSE : Hd (Se wr w.heap.size (w.heap.size + 5) b go gm gl gn N cl (.slice (some ⟨ck, co, none⟩) N cc) (fun _ => -1) (fun _ => 0) (fun _ => 0) (fun _ => 0) [] [] 0 0) := by
        have k2 : Sc wr (w.heap.size + 5) b go gm gl gn N (.slice (some ⟨ck, co, none⟩) N cc) (.slice none 0 0) (.slice none 0 0) (fun _ => -1) (fun _ => 0) (fun _ => 0) (fun _ => 0) 0 0 [] [] := { hs1 with rof := hs1.rof.congr (fun i hi => by rw [ho1 i (by omega)]) }
        obtain ⟨b1, b2, b3, b4, b5⟩ := HB.out
        exact ⟨⟨_, _, k2⟩, HLA.out.fr (Nat.le_refl _) HF.out (fun k hk => by omega), TI.begin N cl, b1, b2, b3, b4, b5, by omega, HSZ2.out⟩
      clear hs1 ho1 HS hlt hkN c1 HSZ HSZ2
      go_wp2_with fail
      obtain ⟨w2, hw2⟩ : ∃ w2, w2 = wr := ⟨_, rfl⟩
      rw [← hw2] at HSE HF ⊢
      clear hw2 d1 d1n
      go_loopw [37] (fun v wx => ∃ j : Nat, v = .int .i64 j ∧ j ≤ N ∧ Hd (∃ of met low nxt count steps, Se wx w.heap.size (w.heap.size + 5) b go gm gl gn N cl (.slice (some ⟨ck, co, none⟩) N cc) of met low nxt [] [] count steps ∧ ∀ i, i < j → met i ≠ 0) ∧ Hd (Fr (fun k => w.heap.size ≤ k) w wx)) (fun v _ => match v with | .int _ q => N - q.toNat | _ => 0)
      case atStart => exact ⟨0, rfl, Nat.zero_le _, ⟨_, _, _, _, _, _, HSE.out, fun i hi => by omega⟩, HF.out⟩
      case round =>
        clear HSE HF
        obtain ⟨j, rfl, hj, HS, HF⟩ := hrel
        obtain ⟨of1, met1, low1, nxt1, count1, steps1, hs1, hm1⟩ := HS.out
        by_cases hlt : j < N
        · have d1 : decide ((j : Int) < (N : Int)) = true := by simp; omega
          have c3 : wr.cell? ⟨b, 3, none⟩ = some (.slice (some ⟨gm, 0, none⟩) N N) := by obtain ⟨⟨_, _, k⟩, -⟩ := id hs1; rw [cell_of0 k.blk]; rfl
          have pm : wr.cell? ⟨gm, j, none⟩ = some (vI (met1 j : Int)) := by obtain ⟨⟨_, _, k⟩, -⟩ := id hs1; exact k.rme.cell hlt
          have j0 : (0 : Int) ≤ j := by omega
          have j1 : (j : Int) < N := by omega
          by_cases hm0 : met1 j = 0
          · have d2 : ((met1 j : Int) == 0) = true := by simp [hm0]
            have HFR : Hd (Calls Tryz.prog 43 #[.pointer (some ⟨b, 0, none⟩), vI (j : Int)] wr (FmE w.heap.size (w.heap.size + 5) b go gm gl gn N cl (.slice (some ⟨ck, co, none⟩) N cc) met1 j wr)) := from_any j wr hs1 hlt hm0 HCL.out HLL.out hN
            have HM1 : Hd (∀ i, i < j → met1 i ≠ 0) := hm1
            clear hs1 hm1 hm0 HS hlt
            go_wp2_with fail
            refine Calls.mono HFR.out ?_
            rintro e w5 ⟨rfl, ⟨of5, met5, low5, nxt5, count5, steps5, h5, m5, m6⟩, hF5⟩
            have HS5 : Hd (∃ of met low nxt count steps, Se w5 w.heap.size (w.heap.size + 5) b go gm gl gn N cl (.slice (some ⟨ck, co, none⟩) N cc) of met low nxt [] [] count steps ∧ ∀ i, i < j + 1 → met i ≠ 0) := ⟨_, _, _, _, _, _, h5, fun i hi => by
              by_cases e : i = j
              · rw [e]; exact m5
              · exact m6 i (HM1.out i (by omega))⟩
            have HF5 : Hd (Fr (fun k => w.heap.size ≤ k) w w5) := HF.out.trans hF5
            clear h5 m5 m6 hF5 HFR c3 pm d2
            go_wp2_with fail
            go_roundw
            case measure => simp; omega
            case rel => exact ⟨j + 1, by simp, by omega, HS5.out, HF5.out⟩
          · have d2 : ((met1 j : Int) == 0) = false := by simp; omega
            have HS5 : Hd (∃ of met low nxt count steps, Se wr w.heap.size (w.heap.size + 5) b go gm gl gn N cl (.slice (some ⟨ck, co, none⟩) N cc) of met low nxt [] [] count steps ∧ ∀ i, i < j + 1 → met i ≠ 0) := ⟨_, _, _, _, _, _, hs1, fun i hi => by
              by_cases e : i = j
              · rw [e]; exact hm0
              · exact hm1 i (by omega)⟩
            clear hs1 hm1 HS hlt
            go_wp2_with fail
            go_roundw
            case measure => simp; omega
            case rel => exact ⟨j + 1, by simp, by omega, HS5.out, HF.out⟩
        · have d1 : decide ((j : Int) < (N : Int)) = false := by simp; omega
          have d1n : ¬ j < N := by omega
          have c1 : wr.cell? ⟨b, 1, none⟩ = some (.slice (some ⟨go, 0, none⟩) N N) := by obtain ⟨⟨_, _, k⟩, -⟩ := id hs1; rw [cell_of0 k.blk]; rfl
          have HE : Hd (CpE N cl w (.returned (.slice (some ⟨go, 0, none⟩) N N)) wr) := by
            have hm : ∀ x, x < N → met1 x ≠ 0 := fun x hx => hm1 x (by omega)
            refine ⟨go, count1, fun x => (of1 x).toNat, rfl, HB.out.2.1, ?_, hs1.ti.rg hm, hs1.ti.cnt, ⟨HF.out.os, HF.out.tape, HF.out.output, HF.out.size, fun k hk _ => HF.out.block k hk (by omega)⟩⟩
            obtain ⟨⟨_, _, k⟩, -⟩ := id hs1
            refine k.rof.congr (fun i hi => ?_)
            have := (hs1.ti.rings hm i i hi hi).1
            show vI (of1 i) = vI (((of1 i).toNat : Nat) : Int)
            congr 1
            omega
          clear hs1 hm1 HS hlt
          go_wp2_with fail
          go_ret
          exact HE.out
end Go.Proofs.YtjmbfjaahadbhaaGreatDoor
