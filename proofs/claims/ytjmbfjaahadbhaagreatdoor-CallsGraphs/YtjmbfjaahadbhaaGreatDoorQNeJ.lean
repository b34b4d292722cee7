import Derived.Test.YtjmbfjaahadbhaaGreatDoorQIfJ
set_option linter.unusedVariables false
set_option linter.unusedSimpArgs false
namespace Go.Proofs.YtjmbfjaahadbhaaGreatDoor
open Go.RowKit (wrap32 wrap64)

/-- Bools in a row of one's own. -/
def OB (w : World) (B : Nat) (v : Value) (n : Nat) (f : Nat → Bool) : Prop := w.ownsRow B 4 1 v n ((List.range n).map fun i => .bool (f i))
theorem OB.fr {S : Nat → Prop} {w w' : World} {B n : Nat} {v : Value} {f : Nat → Bool} (h : OB w B v n f) (k : Fr S w w') (hS : ∀ g, v.ownBlock = some g → ¬ S g) : OB w' B v n f := ownsRow_frL h k hS
theorem OB.stay {w w' : World} {B n : Nat} {v : Value} {f : Nat → Bool} (h : OB w B v n f) (k : Fr (fun _ => False) w w') : OB w' B v n f := ownsRow_frL h k (fun _ _ e => e)
theorem OB.congr {w : World} {B n : Nat} {v : Value} {f g : Nat → Bool} (h : OB w B v n f) (e : ∀ i, i < n → f i = g i) : OB w B v n g := by
  unfold OB
  have : (List.range n).map (fun i => Value.bool (g i)) = (List.range n).map (fun i => Value.bool (f i)) := List.map_congr_left fun i hi => by rw [e i (List.mem_range.1 hi)]
  rw [this]
  exact h
theorem OB.set {w : World} {B n g cap : Nat} {f : Nat → Bool} (h : OB w B (.slice (some ⟨g, 0, none⟩) n cap) n f) (i : Nat) (b : Bool) : OB (w.setCell ⟨g, i, none⟩ (.bool b)) B (.slice (some ⟨g, 0, none⟩) n cap) n (Wg.upd f i b) ∧ w.frozen? ⟨g, i, none⟩ = false := by
  obtain ⟨h1, h2⟩ := row_set (j := i) h (.bool b)
  refine ⟨?_, h2⟩
  unfold OB
  have : ((List.range n).map fun i => Value.bool (f i)).set i (.bool b) = (List.range n).map fun j => .bool (Wg.upd f i b j) := by
    refine List.ext_getElem (by simp) fun j k1 k2 => ?_
    rw [List.getElem_set]
    simp only [List.getElem_map, List.getElem_range, Wg.upd]
    by_cases e : i = j
    · subst e; simp
    · rw [if_neg e, if_neg (fun h => e h.symm)]
  rw [← this]
  exact h1
theorem OB.cell {w : World} {B n g cap : Nat} {f : Nat → Bool} (h : OB w B (.slice (some ⟨g, 0, none⟩) n cap) n f) {i : Nat} (hi : i < n) : w.cell? ⟨g, i, none⟩ = some (.bool (f i)) := by
  obtain ⟨g', cap', e', -, hc⟩ := own_cell h (j := i) (u := .bool (f i)) (by simp [hi])
  cases e'
  exact hc
theorem OB.some {w : World} {B n : Nat} {v : Value} {f : Nat → Bool} (h : OB w B v n f) (hn : 0 < n) : ∃ g c, v = .slice (.some ⟨g, 0, none⟩) n c ∧ B ≤ g ∧ g < w.heap.size := by
  obtain ⟨g, cap, e2, hb, hl⟩ := World.ownsRow.form h hn
  exact ⟨g, cap, e2, hb, hl⟩
theorem under56 : Tryz.prog.underlying 89 = some (.slice 4) := by kernel_rfl
/-- What Reached leaves. -/
def RcE (N : Nat) (cl : Nat → List Nat) (f : Nat) (w : World) (e : Ending) (w' : World) : Prop :=
  ∃ v sn, e = .returned v ∧ OB w' w.heap.size v N sn ∧ (∀ x, x < N → (sn x = true ↔ Rch cl f x)) ∧ Fr (fun _ => False) w w'
/-- Between two steps of Reached. -/
structure Rst (w0 : World) (N : Nat) (cl : Nat → List Nat) (f sg sc : Nat) (w : World) (v7 : Value) (todo : List Nat) (k i : Nat) : Prop where
  ob : ∃ sn : Nat → Bool, OB w w0.heap.size (.slice (some ⟨sg, 0, none⟩) N sc) N sn ∧ ∀ x, x < N → (sn x = true ↔ x ∈ todo)
  io : IOwn w w0.heap.size v7 (zL todo)
  ri : RI N cl f todo k i
  fr : Fr (fun _ => False) w0 w
section
variable {w0 w w' : World} {N f sg sc k i : Nat} {cl : Nat → List Nat} {v7 : Value} {todo : List Nat}
theorem Rst.apart (h : Rst w0 N cl f sg sc w v7 todo k i) : ∀ j, v7.ownBlock = some j → j ≠ sg := by
  obtain ⟨sn, h1, -⟩ := h.ob
  intro j hj e
  subst e
  exact own_apart h1 h.io (by decide) j hj rfl
end
set_option maxRecDepth 100000 in
set_option maxHeartbeats 8000000 in
theorem reached_any {N ck co cc f : Nat} {cl : Nat → List Nat} (w : World) (h : LB w.heap.size w (.slice (some ⟨ck, co, none⟩) N cc) (zLs N cl)) (hcl : ∀ x, x < N → ∀ z ∈ cl x, z < N) (hll : ∀ x, x < N → (cl x).length ≤ 1000000000) (hN : N ≤ 1000000) (hf : f < N) :
    Calls Tryz.prog 53 #[.slice (some ⟨ck, co, none⟩) N cc, vI (f : Int)] w (RcE N cl f w) := by
  have HLB : Hd (LB w.heap.size w (.slice (some ⟨ck, co, none⟩) N cc) (zLs N cl)) := h
  have HCL : Hd (∀ x, x < N → ∀ z ∈ cl x, z < N) := hcl
  have HLL : Hd (∀ x, x < N → (cl x).length ≤ 1000000000) := hll
  have HF0 : Hd (Fr (fun _ => False) w w) := Fr.refl _ _
  have HB0 : Hd (OB w w.heap.size (.slice none 0 0) 0 (fun j => decide (j = f))) := World.ownsRow_nil _ _ _ _
  have HFN : Hd (f < N) := hf
  clear h hcl hll hf
  go_enter Tryz.func53, Tryz.ntmps53
  go_wp2_with fail
  go_loopw [5, 6] (fun v5 v wx => ∃ k : Nat, v = .int .i64 k ∧ k ≤ N ∧ Hd (OB wx w.heap.size v5 k (fun j => decide (j = f))) ∧ Hd (Fr (fun _ => False) w wx)) (fun _ v _ => match v with | .int _ q => N - q.toNat | _ => 0)
  case atStart => exact ⟨0, by simp, Nat.zero_le _, HB0.out, HF0.out⟩
  case round =>
    clear HB0 HF0
    obtain ⟨k, rfl, hk, HO, HF⟩ := hrel
    by_cases hlt : k < N
    · have d1 : decide ((k : Int) < (N : Int)) = true := by simp; omega
      obtain ⟨va, vc, ev⟩ := own_slice HO.out
      subst ev
      obtain ⟨b, hb⟩ : ∃ b : Bool, b = ((k : Int) == (f : Int)) := ⟨_, rfl⟩
      have e1 : ((k : Int) == (f : Int)) = b := hb.symm
      have HBK : Hd (b = decide (k = f)) := by
        unfold Hd
        rw [hb, Bool.eq_iff_iff]
        simp
        omega
      have hCz : Fr (fun _ => False) wr (wr.alloc (.cells #[.bool b] 4)) := Fr.alloc (Fr.refl _ wr) _
      have HFz : Hd (Fr (fun _ => False) wr (wr.alloc (.cells #[.bool b] 4))) := hCz
      have HRW : Hd ((wr.alloc (.cells #[.bool b] 4)).ownsRow w.heap.size 4 1 (.slice va k vc) k ((List.range k).map fun j => Value.bool (decide (j = f)))) := ownsRow_frL HO.out hCz (fun _ _ e => e)
      have HNW : Hd (∀ j' u, [Value.bool b][j']? = some u → (wr.alloc (.cells #[.bool b] 4)).cell? ((⟨wr.heap.size, 0, none⟩ : Addr).add j') = some u) := World.news_of_block (w := wr.alloc (.cells #[.bool b] 4)) (cs := #[.bool b]) (heap_new0 wr _)
      have HBS : Hd (w.heap.size ≤ (wr.alloc (.cells #[.bool b] 4)).heap.size) := by have := HF.out.size; have := hCz.size; unfold Hd; omega
      have HGE : Hd (∀ q, (Value.slice va k vc).ownBlock = some q → w.heap.size ≤ q) := fun q e => (World.ownsRow.lt HO.out q e).1
      clear hCz hb
      go_wp2_with ((at_builtin; refine Hd.out ?_))
      unfold Hd
      obtain ⟨i3, hi3, hz3, hs3, hb3⟩ := info_parts (P := Tryz.prog) (e := 4) (z := .bool false) (size := 1) (bytes := 1) (by kernel_rfl)
      refine wpList_append_lies _ rfl (.tmp 17) (.tmp 21) 89 rfl w.heap.size 4 i3 (.bool false) 1 1 under56 hi3 hz3 hs3 hb3 rfl (by omega) (.slice va k vc) k _ rfl HRW.out ⟨wr.heap.size, 0, none⟩ 1 1 [.bool b] rfl rfl HNW.out (by intro u hu; rw [List.mem_singleton] at hu; rw [hu]; rfl) (by omega) (by unfold maxLen; omega) (by omega) HBS.out (wr.heap.size + 1) (by simp) ?_
      intro g6 cap6 w6 hown6 hgrow6 hat6 hlt6
      clear hi3 hz3 hs3 hb3
      have HO6 : Hd (OB w6 w.heap.size (.slice (some ⟨g6, 0, none⟩) (k + 1) cap6) (k + 1) (fun j => decide (j = f))) := by
        unfold Hd OB
        rw [List.range_succ, List.map_append, List.map_singleton]
        show w6.ownsRow _ 4 1 _ _ (_ ++ [Value.bool (decide (k = f))])
        rw [← HBK.out]
        exact hown6
      have HF6 : Hd (Fr (fun _ => False) w w6) := (HF.out.trans HFz.out).then (grown_frL hgrow6) (fun q hq e => by have := HGE.out q e; omega)
      clear hown6 hgrow6 hat6 hlt6 HRW HNW HBS HFz
      go_wp2_with fail
      go_roundw
      case measure => simp; omega
      case rel => exact ⟨k + 1, by simp, by omega, HO6.out, HF6.out⟩
    · have d1 : decide ((k : Int) < (N : Int)) = false := by simp; omega
      have d1n : ¬ k < N := hlt
      have hkN : k = N := by omega
      have HO1 : Hd (OB wr w.heap.size u5 N (fun j => decide (j = f))) := by have := HO.out; rw [hkN] at this; exact this
      obtain ⟨sg, sc, ev5, hsg, -⟩ := OB.some HO1.out (by have := HFN.out; omega)
      subst ev5
      have hCz : Fr (fun _ => False) wr (wr.alloc (.cells #[vI (f : Int)] 3)) := Fr.alloc (Fr.refl _ wr) _
      have HR0 : Hd (∀ W, W = wr.alloc (.cells #[vI (f : Int)] 3) → Rst w N cl f sg sc W (.slice (some ⟨wr.heap.size, 0, none⟩) 1 1) [f] 0 0) := fun W e => by
        subst e
        refine ⟨⟨_, HO1.out.stay hCz, fun x hx => by simp⟩, ?_, RI.begin HFN.out, HF.out.trans hCz⟩
        refine ⟨rfl, Or.inr ⟨wr.heap.size, 1, #[vI (f : Int)], rfl, HF.out.size, heap_new0 wr _, Nat.le_refl _, by unfold maxLen; omega, rfl, rfl⟩⟩
      clear hCz hkN HO HO1 hlt
      go_upto_region 7 with fail
      obtain ⟨wa, hwa⟩ : ∃ wa, wa = wr.alloc (.cells #[vI (f : Int)] 3) := ⟨_, rfl⟩
      have HR1 := HR0.out wa hwa
      rw [← hwa]
      have HR2 : Hd (Rst w N cl f sg sc wa (.slice (some ⟨wr.heap.size, 0, none⟩) 1 1) [f] 0 0) := HR1
      obtain ⟨H, hH⟩ : ∃ H, H = wr.heap.size := ⟨_, rfl⟩
      rw [← hH] at HR2 ⊢
      clear HR0 HR1 hwa HF hH d1 d1n hk
      go_wp2_with fail
      go_loopw [7, 8] (fun v7 v wx => ∃ (k : Nat) (todo : List Nat), v = .int .i64 k ∧ k ≤ todo.length ∧ Hd (Rst w N cl f sg sc wx v7 todo k 0)) (fun _ v _ => match v with | .int _ q => N - q.toNat | _ => 0)
      case atStart => exact ⟨0, [f], by simp, Nat.zero_le _, HR2.out⟩
      case round =>
        clear HR2
        obtain ⟨k, todo, rfl, hk, HR⟩ := hrel
        have htl := HR.out.ri.len
        obtain ⟨ta, tc, et⟩ := iown_cap HR.out.io
        rw [List.length_map] at et
        subst et
        by_cases hlt : k < todo.length
        · have d1 : decide ((k : Int) < (todo.length : Int)) = true := by simp; omega
          obtain ⟨tg, tc', et', -, htc⟩ := iown_some HR.out.io (by rw [List.length_map]; omega)
          rw [List.length_map] at et'
          injection et' with et1 et2 et3
          clear et2 et3
          subst et1
          obtain ⟨y, hy⟩ : ∃ y, todo[k]? = some y := ⟨_, List.getElem?_eq_getElem hlt⟩
          have hyN : y < N := HR.out.ri.lt y (List.mem_of_getElem? hy)
          have p1 : wr.cell? ⟨tg, k, none⟩ = some (vI (y : Int)) := by
            rw [htc k (by rw [List.length_map]; exact hlt)]
            rw [List.getElem?_eq_getElem hlt] at hy
            injection hy with hy
            simp [hy]
          obtain ⟨ua, uc, p2, hck, hu⟩ := lb_rows HLB.out hyN
          have HP2 : Hd (∀ W, Fr (fun _ => False) w W → W.cell? ⟨ck, co + y, none⟩ = some (.slice ua (cl y).length uc)) := fun W fW => (fW.cell hck (fun e => e)).trans p2
          have HU : Hd (∀ (i z : Nat), (cl y)[i]? = some z → ∃ uk uo, ua = some ⟨uk, uo, none⟩ ∧ ∀ W, Fr (fun _ => False) w W → W.cell? ⟨uk, uo + i, none⟩ = some (vI (z : Int))) := fun i z hz => by
            obtain ⟨uk, uo, e, huk, hc⟩ := hu i z hz
            exact ⟨uk, uo, e, fun W fW => (fW.cell huk (fun e => e)).trans hc⟩
          have p2r := HP2.out wr HR.out.fr
          have k0 : (0 : Int) ≤ k := by omega
          have k1 : (k : Int) < todo.length := by omega
          have y0 : (0 : Int) ≤ y := by omega
          have y1 : (y : Int) < N := by omega
          have HYL : Hd ((cl y).length ≤ 1000000000) := HLL.out y hyN
          have HYC : Hd (∀ z ∈ cl y, z < N) := HCL.out y hyN
          have HY : Hd (k < todo.length ∧ todo[k]? = some y) := ⟨hlt, hy⟩
          obtain ⟨T0, hT0⟩ : ∃ T0, T0 = todo := ⟨_, rfl⟩
          have HI0 : Hd (T0.length ≤ todo.length ∧ todo[k]? = some y ∧ Rst w N cl f sg sc wr (.slice (some ⟨tg, 0, none⟩) todo.length tc) todo k 0) := ⟨by rw [hT0]; exact Nat.le_refl _, hy, HR.out⟩
          clear htc p2 hu hck hy hlt
          go_wp2_with fail
          have HKT : Hd (k < T0.length) := by unfold Hd; rw [hT0]; exact HY.out.1
          clear hT0 HY p1 p2r HR k1 htl
          go_loopw [7, 10] (fun v7 v wx => ∃ (i : Nat) (todo : List Nat), v = .int .i64 i ∧ i ≤ (cl y).length ∧ Hd (T0.length ≤ todo.length ∧ todo[k]? = some y ∧ Rst w N cl f sg sc wx v7 todo k i)) (fun _ v _ => match v with | .int _ q => (cl y).length - q.toNat | _ => 0)
          case atStart => exact ⟨0, todo, by simp, Nat.zero_le _, HI0.out⟩
          case round =>
            clear HI0 d1 hk
            obtain ⟨i, todo, rfl, hi, HI⟩ := hrel
            have htl := HI.out.2.2.ri.len
            have hyl := HYL.out
            obtain ⟨ta, tc2, et⟩ := iown_cap HI.out.2.2.io
            rw [List.length_map] at et
            subst et
            by_cases hlt : i < (cl y).length
            · have d2 : decide ((i : Int) < ((cl y).length : Int)) = true := by simp; omega
              obtain ⟨z, hz⟩ : ∃ z, (cl y)[i]? = some z := ⟨_, List.getElem?_eq_getElem hlt⟩
              have hzN : z < N := HYC.out z (List.mem_of_getElem? hz)
              obtain ⟨uk, uo, rfl, hcz⟩ := HU.out i z hz
              have HCZ : Hd (∀ W, Fr (fun _ => False) w W → W.cell? ⟨uk, uo + i, none⟩ = some (vI (z : Int))) := hcz
              obtain ⟨sn, hob, hsn⟩ := HI.out.2.2.ob
              have p3 := HCZ.out wr HI.out.2.2.fr
              have p4 := hob.cell hzN
              have i0 : (0 : Int) ≤ i := by omega
              have i1 : (i : Int) < ((cl y).length : Int) := by omega
              have z0 : (0 : Int) ≤ z := by omega
              have z1 : (z : Int) < N := by omega
              have HZ : Hd ((cl y)[i]? = some z ∧ z < N) := ⟨hz, hzN⟩
              by_cases hm : z ∈ todo
              · have es : sn z = true := (hsn z hzN).2 hm
                rw [es] at p4
                have HI2 : Hd (T0.length ≤ todo.length ∧ todo[k]? = some y ∧ Rst w N cl f sg sc wr (.slice ta todo.length tc2) todo k (i + 1)) := ⟨HI.out.1, HI.out.2.1, ⟨HI.out.2.2.ob, HI.out.2.2.io, HI.out.2.2.ri.old HI.out.2.1 hz hm, HI.out.2.2.fr⟩⟩
                clear es hm hsn hob hz hlt hcz HI
                go_wp2_with fail
                go_roundw
                case measure => simp; omega
                case rel => exact ⟨i + 1, todo, by simp, by omega, HI2.out⟩
              · have es : sn z = false := by
                  cases e : sn z with
                  | false => rfl
                  | true => exact absurd ((hsn z hzN).1 e) hm
                rw [es] at p4
                obtain ⟨hob2, zf⟩ := hob.set z true
                have fs := setCell_fr wr sg z (.bool true)
                have hsg2 : w.heap.size ≤ sg := hsg
                have HOB2 : Hd (OB (wr.setCell ⟨sg, z, none⟩ (.bool true)) w.heap.size (.slice (some ⟨sg, 0, none⟩) N sc) N (Wg.upd sn z true)) := hob2
                have HSN2 : Hd (∀ x, x < N → (Wg.upd sn z true x = true ↔ x ∈ todo ++ [z])) := fun x hx => by
                  by_cases e : x = z
                  · subst e; simp [Wg.upd_same]
                  · rw [Wg.upd_ne _ _ e, hsn x hx]; simp [e]
                have HFR2 : Hd (Fr (fun _ => False) w (wr.setCell ⟨sg, z, none⟩ (.bool true))) := HI.out.2.2.fr.then fs (fun q hq e => by omega)
                have HIO2 : Hd (IOwn (wr.setCell ⟨sg, z, none⟩ (.bool true)) w.heap.size (.slice ta todo.length tc2) (zL todo)) := HI.out.2.2.io.fr fs (fun j hj e => HI.out.2.2.apart j hj e)
                have HRI2 : Hd (T0.length ≤ todo.length ∧ todo[k]? = some y ∧ RI N cl f (todo ++ [z]) k (i + 1)) := ⟨HI.out.1, HI.out.2.1, HI.out.2.2.ri.new HI.out.2.1 hz hm hzN⟩
                clear es hm hsn hob hob2 hz hlt hcz HI fs
                go_upto_region 16 with fail
                have p5 := HCZ.out _ HFR2.out
                generalize wr.setCell ⟨sg, z, none⟩ (.bool true) = w5 at *
                clear p3 p4 zf
                have hCz : Fr (fun _ => False) w5 (w5.alloc (.cells #[vI (z : Int)] 3)) := Fr.alloc (Fr.refl _ w5) _
                have HFz : Hd (Fr (fun _ => False) w5 (w5.alloc (.cells #[vI (z : Int)] 3))) := hCz
                have hrow : (w5.alloc (.cells #[vI (z : Int)] 3)).ownsRow w.heap.size 3 1 (.slice ta todo.length tc2) todo.length ((zL todo).map vI) := by
                  have := ownsRow_frL HIO2.out hCz (fun _ _ e => e)
                  rw [List.length_map] at this
                  exact this
                have HRW : Hd ((w5.alloc (.cells #[vI (z : Int)] 3)).ownsRow w.heap.size 3 1 (.slice ta todo.length tc2) todo.length ((zL todo).map vI)) := hrow
                have HNW : Hd (∀ j' u, [vI (z : Int)][j']? = some u → (w5.alloc (.cells #[vI (z : Int)] 3)).cell? ((⟨w5.heap.size, 0, none⟩ : Addr).add j') = some u) := World.news_of_block (w := w5.alloc (.cells #[vI (z : Int)] 3)) (cs := #[vI (z : Int)]) (heap_new0 w5 _)
                have HBS : Hd (w.heap.size ≤ (w5.alloc (.cells #[vI (z : Int)] 3)).heap.size) := by have := HFR2.out.size; have := hCz.size; unfold Hd; omega
                have HGE : Hd (∀ q, (Value.slice ta todo.length tc2).ownBlock = some q → w.heap.size ≤ q) := fun q e => (HIO2.out.ge q e).1
                have HAP : Hd (∀ q, (Value.slice ta todo.length tc2).ownBlock = some q → q ≠ sg) := fun q e e2 => by
                  subst e2
                  exact own_apart HOB2.out HIO2.out (by decide) q e rfl
                clear hCz hrow
                go_wp2_with ((at_builtin; refine Hd.out ?_))
                unfold Hd
                obtain ⟨i3, hi3, hz3, hs3, hb3⟩ := info_parts (P := Tryz.prog) (e := 3) (z := .int .i64 0) (size := 1) (bytes := 8) (by kernel_rfl)
                refine wpList_append_lies _ rfl (.tmp 58) (.tmp 63) 25 rfl w.heap.size 3 i3 (.int .i64 0) 1 8 under64 hi3 hz3 hs3 hb3 rfl (by omega) (.slice ta todo.length tc2) todo.length _ rfl HRW.out ⟨w5.heap.size, 0, none⟩ 1 1 [vI (z : Int)] rfl rfl HNW.out (by intro u hu; rw [List.mem_singleton] at hu; rw [hu]; rfl) (by omega) (by unfold maxLen; omega) (by omega) HBS.out (w5.heap.size + 1) (by simp) ?_
                intro g6 cap6 w6 hown6 hgrow6 hat6 hlt6
                clear hi3 hz3 hs3 hb3
                have hfr : Fr (fun q => (Value.slice ta todo.length tc2).ownBlock = some q) w5 w6 := (HFz.out.mono (fun _ _ e => e.elim)).trans (grown_frL hgrow6)
                have HI6 : Hd (T0.length ≤ (todo ++ [z]).length ∧ (todo ++ [z])[k]? = some y ∧ Rst w N cl f sg sc w6 (.slice (some ⟨g6, 0, none⟩) (todo.length + 1) cap6) (todo ++ [z]) k (i + 1)) := by
                  have hk2 : k < todo.length := by have := HKT.out; have := HRI2.out.1; omega
                  refine ⟨by have := HRI2.out.1; simp; omega, by rw [List.getElem?_append_left hk2]; exact HRI2.out.2.1, ⟨⟨_, HOB2.out.fr hfr (fun q e e2 => HAP.out q e2 (by cases e; rfl)), HSN2.out⟩, ?_, HRI2.out.2.2, HFR2.out.then hfr (fun q hq e => by have := HGE.out q e; omega)⟩⟩
                  unfold IOwn
                  simpa using hown6
                clear hown6 hgrow6 hat6 hlt6 HRW HNW HBS HFz hfr
                go_wp2_with fail
                go_roundw
                case measure => simp; omega
                case rel => exact ⟨i + 1, _, by simp, by omega, HI6.out⟩
            · have d2 : decide ((i : Int) < ((cl y).length : Int)) = false := by simp; omega
              have d2n : ¬ i < (cl y).length := hlt
              have HR3 : Hd (k + 1 ≤ todo.length ∧ Rst w N cl f sg sc wr (.slice ta todo.length tc2) todo (k + 1) 0) := by
                refine ⟨by have := HKT.out; have := HI.out.1; omega, ⟨HI.out.2.2.ob, HI.out.2.2.io, HI.out.2.2.ri.next HI.out.2.1 (by omega), HI.out.2.2.fr⟩⟩
              have hkb : k + 1 ≤ 1000000 := by have := HR3.out.1; omega
              clear HI hlt
              go_wp2_with fail
              go_roundw
              case measure => have := HR3.out.1; simp; omega
              case rel => exact ⟨k + 1, todo, by simp, HR3.out.1, HR3.out.2⟩
        · have d1 : decide ((k : Int) < (todo.length : Int)) = false := by simp; omega
          have d1n : ¬ k < todo.length := hlt
          have HE : Hd (RcE N cl f w (.returned (.slice (some ⟨sg, 0, none⟩) N sc)) wr) := by
            obtain ⟨sn, h1, h2⟩ := HR.out.ob
            exact ⟨_, sn, rfl, h1, fun x hx => (h2 x hx).trans (HR.out.ri.over (by omega) x).symm, HR.out.fr⟩
          clear hlt HR
          go_wp2_with fail
          go_ret
          exact HE.out

/-- Who reaches whom, row by row. -/
structure LOb (N : Nat) (cl : Nat → List Nat) (w : World) (B : Nat) (v : Value) (us : List Value) : Prop where
  row : w.ownsRow B 89 1 v us.length us
  each : ∀ i (h : i < us.length), ∃ sn : Nat → Bool, OB w B us[i] N sn ∧ ∀ x, x < N → (sn x = true ↔ Rch cl i x)
theorem LOb.stay {N : Nat} {cl : Nat → List Nat} {w w' : World} {B : Nat} {v : Value} {us : List Value} (h : LOb N cl w B v us) (f : Fr (fun _ => False) w w') : LOb N cl w' B v us :=
  ⟨ownsRow_frL h.row f (fun _ _ e => e), fun i hi => by
    obtain ⟨sn, h1, h2⟩ := h.each i hi
    exact ⟨sn, h1.stay f, h2⟩⟩
theorem LOb.grow {N : Nat} {cl : Nat → List Nat} {w w6 : World} {B g cap : Nat} {v x : Value} {us : List Value} {sn : Nat → Bool} (h : LOb N cl w B v us) (hx : OB w B x N sn) (hsn : ∀ y, y < N → (sn y = true ↔ Rch cl us.length y)) (hg : w.grownBy w6 v.ownBlock) (ho : w6.ownsRow B 89 1 (.slice (some ⟨g, 0, none⟩) (us.length + 1) cap) (us.length + 1) (us ++ [x])) :
    LOb N cl w6 B (.slice (some ⟨g, 0, none⟩) (us.length + 1) cap) (us ++ [x]) := by
  have f := grown_frL hg
  have ke : ∀ y s, OB w B y N s → OB w6 B y N s := fun y s hy => hy.fr f (fun j e e2 => own_apart h.row hy (by decide) j e e2)
  refine ⟨by rw [List.length_append]; exact ho, fun i hi => ?_⟩
  rw [List.length_append, List.length_singleton] at hi
  by_cases e : i < us.length
  · rw [List.getElem_append_left e]
    obtain ⟨s, h1, h2⟩ := h.each i e
    exact ⟨s, ke _ _ h1, h2⟩
  · have ei : i = us.length := by omega
    subst ei
    rw [List.getElem_append_right (Nat.le_refl _)]
    simp only [Nat.sub_self, List.getElem_cons_zero]
    exact ⟨sn, ke _ _ hx, hsn⟩
/-- Read. -/
theorem LOb.at {N : Nat} {cl : Nat → List Nat} {w : World} {B : Nat} {v : Value} {us : List Value} (h : LOb N cl w B v us) (hN : us.length = N) {i : Nat} (hi : i < N) :
    ∃ g c gi ci, ∃ sn : Nat → Bool, v = .slice (some ⟨g, 0, none⟩) N c ∧ (∀ W, Fr (fun _ => False) w W → W.cell? ⟨g, i, none⟩ = some (.slice (some ⟨gi, 0, none⟩) N ci) ∧ ∀ x, x < N → W.cell? ⟨gi, x, none⟩ = some (.bool (sn x))) ∧ ∀ x, x < N → (sn x = true ↔ Rch cl i x) := by
  have hi' : i < us.length := by rw [hN]; exact hi
  obtain ⟨g, cap, e, -, hl⟩ := World.ownsRow.form h.row (by omega)
  obtain ⟨sn, h1, h2⟩ := h.each i hi'
  obtain ⟨gi, ci, e2, -, hl2⟩ := h1.some (by omega)
  obtain ⟨g', cap', e', -, hc⟩ := own_cell h.row (j := i) (u := us[i]) (List.getElem?_eq_getElem hi')
  rw [e] at e'
  cases e'
  rw [hN] at e
  rw [e2] at h1 hc
  refine ⟨g, cap, gi, ci, sn, e, fun W f => ⟨(f.cell hl (fun e => e)).trans hc, fun x hx => (f.cell hl2 (fun e => e)).trans (h1.cell hx)⟩, h2⟩
theorem IB.up {n0 n1 : Nat} {w : World} {v : Value} {l : List Int} (h : IB n0 w v l) (hn : n0 ≤ n1) : IB n1 w v l := by
  obtain ⟨a, c, e, h⟩ := h
  refine ⟨a, c, e, fun hne => ?_⟩
  obtain ⟨k, o, e, hk, h⟩ := h hne
  exact ⟨k, o, e, by omega, h⟩
theorem LB.up {n0 n1 : Nat} {w : World} {v : Value} {ls : List (List Int)} (h : LB n0 w v ls) (hn : n0 ≤ n1) : LB n1 w v ls := by
  obtain ⟨a, c, e, h⟩ := h
  refine ⟨a, c, e, fun hne => ?_⟩
  obtain ⟨k, o, e, hk, h⟩ := h hne
  refine ⟨k, o, e, by omega, fun i hi => ?_⟩
  obtain ⟨u, u1, u2⟩ := h i hi
  exact ⟨u, u1, u2.up hn⟩
theorem under55 : Tryz.prog.underlying 88 = some (.slice 89) := by kernel_rfl
end Go.Proofs.YtjmbfjaahadbhaaGreatDoor
