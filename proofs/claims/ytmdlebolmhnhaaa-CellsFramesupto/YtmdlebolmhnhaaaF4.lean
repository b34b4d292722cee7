import Derived.Test.YtmdlebolmhnhaaaF3
import Derived.Test.YtmdlebolmhnhaaaR1
import Derived.JoinedCond
namespace Go.Proofs.Ytmdlebolmhnhaaa
open Go.ChangeShapes Go.WideShapes Go.ChangeAt Go.RowKit
set_option linter.unusedVariables false
set_option linter.unusedSimpArgs false

theorem bulk_pos {H : Type} (d : DataW H) : 1 ≤ Rows.uptoBulk d := by
  cases d with
  | lit l => cases l <;> simp [Rows.uptoBulk]
  | _ => simp [Rows.uptoBulk]

theorem bulk_len {H : Type} : ∀ (l : List (DataW H)), l.length ≤ Rows.uptoBulkAll l
  | [] => by simp
  | d :: r => by
    have h1 := bulk_pos d
    have h2 := bulk_len r
    simp only [Rows.uptoBulkAll, List.length_cons]
    omega

/-- Numbers that came in, as the walk asks for them; and how many there are at most. -/
theorem nums_of {H : Type} {enc : TypeId × Value → H} {W : World} {a : Option Addr} {len cap : Nat} {d : DataW H} {ps : List MemPlace} (h : DataW.Trod enc Try.prog W 0 (fun _ => true) true 39 (.slice a len cap) d ps) :
    ∃ zs : List Int, IntsIn W (.slice a len cap) zs ∧ zs.length ≤ Rows.uptoBulk d := by
  obtain ⟨fuel, hf⟩ := h
  rcases Deep.open_slice under39 hf with ⟨hcs, hx⟩ | ⟨x, l, c, m, n, D, Pl, hcs, _, hl, hm, hmm, hx, hc⟩
  · simp [Value.cells] at hcs
    obtain ⟨rfl, rfl, rfl⟩ := hcs
    exact ⟨[], ⟨none, 0, rfl, Nat.le_refl _, fun h => absurd rfl h⟩, by simp⟩
  · simp [Value.cells] at hcs
    obtain ⟨rfl, rfl, rfl⟩ := hcs
    have hmc : m = cap := by simpa using hmm
    subst hmc
    have hv : ∀ i, ∃ q : Int, i < len → W.cell? (x.add i) = some (vI q) := fun i => by
      by_cases hi : i < len
      · obtain ⟨cs', r0, r1⟩ := hc i (by omega)
        rw [cells3, Nat.mul_one] at r0
        obtain ⟨-, hl1, hcell⟩ := World.cells?_some r0
        obtain ⟨z, rfl⟩ := ints_of r1
        have := hcell 0 (by omega)
        refine ⟨z, fun _ => ?_⟩
        have e : (x.add i).add 0 = x.add i := by simp [Addr.add]
        rw [e] at this
        simpa using this
      · exact ⟨0, fun h => absurd h hi⟩
    have hq : ∀ i, i < len → W.cell? (x.add i) = some (vI (hv i).choose) := fun i hi => (hv i).choose_spec hi
    generalize hqd : (fun i => (hv i).choose) = q at *
    have hq' : ∀ i, i < len → W.cell? (x.add i) = some (vI (q i)) := fun i hi => by rw [← hqd]; exact hq i hi
    have hlen : ((List.range len).map q).length = len := by simp
    refine ⟨(List.range len).map q, ⟨some x, m, by rw [hlen], by omega, fun hne => ?_⟩, ?_⟩
    · obtain ⟨b, off, spot⟩ := x
      have hpos : 0 < len := by
        rcases Nat.eq_zero_or_pos len with h0 | h0
        · exfalso; apply hne; rw [h0]; rfl
        · exact h0
      have hspot : spot = none := by simpa [Addr.add] using World.cell?_spot (hq' 0 hpos)
      subst hspot
      have hc' : ∀ i, i < len → W.cell? ⟨b, off + i, none⟩ = some (vI (q i)) := fun i hi => by
        have h1 := hq' i hi
        rw [addr_off] at h1
        exact h1
      refine ⟨b, off, rfl, cell_lt (hc' 0 hpos), fun i hi => ?_⟩
      have hi' : i < len := by rw [hlen] at hi; exact hi
      rw [List.getElem_map, List.getElem_range]
      exact hc' i hi'
    · rw [hlen]
      have h1 := bulk_len ((List.range len).map D)
      rw [show d = _ from congrArg Prod.fst hx]
      simp only [Rows.uptoBulk]
      simp only [List.length_map, List.length_range] at h1
      omega

theorem frames_walk (hv fv : Value) (zs ys : List Int) (w : World) (h1 : IntsIn w hv zs) (h2 : IntsIn w fv ys) (hz : zs.length ≤ 1000000000000) (hy : ys.length ≤ 1000000000000) :
    Calls Try.prog 4 #[hv, fv] w fun e w' => e = .returned (.bool true) ∧ Fr (fun _ => False) w w' := by
  by_cases hlen : ys.length < zs.length
  · exact frames_lt hv fv zs ys w h1 h2 hz hy hlen
  · exact frames_ge hv fv zs ys w h1 h2 hz hy (by omega)

set_option maxRecDepth 100000 in
theorem cellsFrames_lifted (os : Os) (started : os.Started) (H : Type) (enc : TypeId × Value → H) (F : Stop.Interp) :
    ReturnsInHanded {} Try.checked os 4 .any ((Rows.OpenSpec.upto Rows.cellsFramesSpec).pre6 enc Try.prog Try.f4 Rows.cellsFramesUptoRow.domain false) (((Rows.OpenSpec.upto Rows.cellsFramesSpec).at F).post enc Try.prog Try.f4 false true false false) := by
  refine returnsInHanded_of_cond (C := Try.checked) (s := Rows.OpenSpec.upto Rows.cellsFramesSpec) (k := Rows.uptoSmall) rfl knob started (by kernel_rfl) Try.func4
    (OpenSpec.witness (enc := enc) (C := Try.checked) (s := Rows.OpenSpec.upto Rows.cellsFramesSpec) (k := Rows.uptoSmall) rfl false ⟨#[], #[.slice none 0 0, .slice none 0 0], []⟩ 8 (by kernel_rfl) (by kernel_rfl) (by kernel_rfl)
      (x := ([.nil, .nil], [], [])) (by kernel_rfl) rfl (by kernel_rfl)) ?_
  intro W base args ds gs before hval0 hW hcnd hk _
  have hval : ∀ (j : Nat) t v, Try.f4.params[j]? = some t → args[j]? = some v → Value.okWide Try.prog W .any base t v := hval0
  have hW' := hW
  obtain ⟨p, q, hA0, hV, rfl, hfz, hnd⟩ := hW
  have hA : DataW.TrodAll enc Try.prog W 0 (fun _ => true) true Try.f4.params.toList args.toList ds p := hA0
  rw [Try.params4] at hA hval
  obtain ⟨v0, vs0, d0, ds0, p0, q0, hargs, rfl, rfl, t0, r0⟩ := trodAll_cons hA
  obtain ⟨v1, vs1, d1, ds1, p1, q1, rfl, rfl, rfl, t1, r1⟩ := trodAll_cons r0
  obtain ⟨rfl, rfl, rfl⟩ := trodAll_nil r1
  obtain rfl : args = #[v0, v1] := by cases args; simp_all
  obtain ⟨rfl, rfl⟩ := trodVars_none hV
  obtain ⟨a0, len0, cap0, rfl⟩ := okWide_slice under39 (hval 0 39 v0 rfl rfl)
  obtain ⟨a1, len1, cap1, rfl⟩ := okWide_slice under39 (hval 1 39 v1 rfl rfl)
  have lt0 : ∀ x ∈ p0, x.block < W.heap.size := by obtain ⟨m, hm⟩ := t0; exact DataW.trod_lt m _ _ _ hm
  have lt1 : ∀ x ∈ p1, x.block < W.heap.size := by obtain ⟨m, hm⟩ := t1; exact DataW.trod_lt m _ _ _ hm
  obtain ⟨zs, hzs, hzl⟩ := nums_of t0
  obtain ⟨ys, hys, hyl⟩ := nums_of t1
  have hbk := of_decide_eq_true hk
  simp only [List.append_nil, Rows.uptoBulkAll] at hbk
  clear hA0
  refine (frames_walk _ _ zs ys W hzs hys (by omega) (by omega)).mono fun e W' ⟨he, hf⟩ => ?_
  subst he
  have bel : Below W.heap.size W W' := ⟨hf.os, hf.tape, hf.output, hf.size, fun k hk => hf.block k hk (fun h => h)⟩
  exact ⟨_, rfl, _, _, _, [], _, [], hW', trodAll_mk1 (shut_bool under4 _), (trodAll_cons_mk (Below.trod laysOut (by kernel_rfl) (of_decide_eq_true (by kernel_rfl)) t0 bel lt0) (trodAll_cons_mk (Below.trod laysOut (by kernel_rfl) (of_decide_eq_true (by kernel_rfl)) t1 bel lt1) trodAll_mk0)), rfl, bel.frame _, fun h => by cases h⟩

/-- CellsFrames, up to its bulk. -/
theorem cellsFrames_said : Rows.CellsFramesUptoSaid :=
  OpenClaim.holds_of_cond 4 Try.f4 rfl rfl rfl rfl rfl rfl rfl ⟨rfl, rfl, rfl, rfl, rfl⟩ rfl rfl rfl rfl rfl (by kernel_rfl) Try.func4 (by kernel_rfl)
    (of_decide_eq_true (by kernel_rfl)) (by unfold Func.isWrapper; first | (rw [if_pos (by decide +kernel)]; kernel_rfl) | (rw [if_neg (by decide +kernel)]; exact ⟨rfl, rfl⟩))
    (fun os started H enc _ F => cellsFrames_lifted os started H enc F)

end Go.Proofs.Ytmdlebolmhnhaaa
