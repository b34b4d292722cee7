import Derived.Test.YtjmbfjaahadbhaaGreatDoorQC2J
import Derived.Test.YtjmbfjaahadbhaaGreatDoorQC3a
import Derived.Test.YtjmbfjaahadbhaaGreatDoorQC3b
import Derived.Test.YtjmbfjaahadbhaaGreatDoorQC3c
import Derived.Test.YtjmbfjaahadbhaaGreatDoorQC3d
import Derived.Test.YtjmbfjaahadbhaaGreatDoorQB5J
import Derived.Test.YtjmbfjaahadbhaaGreatDoorQA3J
set_option linter.unusedVariables false
set_option linter.unusedSimpArgs false
namespace Go.Proofs.YtjmbfjaahadbhaaGreatDoor
open Go.RowKit (wrap32 wrap64)

theorem instr_1 {b : Nat} (M : Mode b) (hN : NextOwn M) (x y : WS × M.σ) (w : World) (h : On M w x) (i : Nat) (hi : i ≤ 4096) (hx : nextX M 154 1 x = .ok y) (hk : y.1.op = 1) (hl0 : 0 ≤ y.1.len) (hl1 : y.1.len ≤ 4096) (nb : Bool)
    (hnames : ∀ w1, Lies w1 b y.1 → Calls Tryz.prog 92 #[.pointer (some ⟨b, 10, none⟩), .pointer (some ⟨b, 154, none⟩)] w1 fun e w' => e = .returned (.bool nb) ∧ w' = w1) :
    Calls Tryz.prog 65 #[.pointer (some ⟨b, 0, none⟩), .int .i64 i] w (Ends M w (partsX M 1 (frontOk M false false nb i x.1.at' y))) := by
  have hE : ∀ z w1, frontOk M false false nb i x.1.at' y = .error z → Fr M.SB w w1 → Ends M w (partsX M 1 (frontOk M false false nb i x.1.at' y)) (.panicked (viol z.1 z.2)) w1 :=
    fun z w1 hz hf => ends_error (by simp only [partsX, hz, thenX]) hf
  refine askInstr_1 M hN x y w h i hi hx hk hl0 hl1 nb hnames _ (fun j w1 => match j with | 0 => Stage M w y.1 (frontOk M false false nb i x.1.at' y) w1 | 1 => Stage M w y.1 (thenX (frontOk M false false nb i x.1.at' y) (varPart M 155)) w1 | 2 => Stage M w y.1 (thenX (thenX (frontOk M false false nb i x.1.at' y) (varPart M 155)) (intPart M)) w1 | _ => False) hE ?_ ?_ ?_ ?_ ?_ ?_
  · exact fun y' w1 hy hf hon => ⟨y', hy, hf, hon, frontOk_kept hy⟩
  · intro j w1 hj
    match j, hj with
    | 0, hj => exact Stage.lies hj
    | 1, hj => exact Stage.lies hj
    | 2, hj => exact Stage.lies hj
  · intro j w1 hj
    match j, hj with
    | 0, hj => exact Stage.drew hj
    | 1, hj => exact Stage.drew hj
    | 2, hj => exact Stage.drew hj
  · exact fun w1 hw1 => stage_step (p := varPart M 155) (fun a a' ha => askX_kept (by simp) ha) (fun z w' hz hf => ends_error (by unfold partsX; rw [hz]; try rfl) hf) (fun yy hon hkp => variable_own M hN yy w1 hon 155 (by simp [places])) hw1
  · exact fun w1 hw1 => stage_step (p := intPart M) (fun a a' ha => nextX_kept (by simp) ha) (fun z w' hz hf => ends_error (by unfold partsX; rw [hz]; try rfl) hf) (fun yy hon hkp => anyNumber_own M hN yy w1 hon 1 8 (by rw [hkp.op, hk]; rfl) (by omega) rfl (by omega) (by omega)) hw1
  · exact fun w1 hw1 => stage_end hw1

theorem instr_2 {b : Nat} (M : Mode b) (hN : NextOwn M) (x y : WS × M.σ) (w : World) (h : On M w x) (i : Nat) (hi : i ≤ 4096) (hx : nextX M 154 1 x = .ok y) (hk : y.1.op = 2) (hl0 : 0 ≤ y.1.len) (hl1 : y.1.len ≤ 4096) (nb : Bool)
    (hnames : ∀ w1, Lies w1 b y.1 → Calls Tryz.prog 92 #[.pointer (some ⟨b, 18, none⟩), .pointer (some ⟨b, 154, none⟩)] w1 fun e w' => e = .returned (.bool nb) ∧ w' = w1) :
    Calls Tryz.prog 65 #[.pointer (some ⟨b, 0, none⟩), .int .i64 i] w (Ends M w (partsX M 2 (frontOk M false false nb i x.1.at' y))) := by
  have hE : ∀ z w1, frontOk M false false nb i x.1.at' y = .error z → Fr M.SB w w1 → Ends M w (partsX M 2 (frontOk M false false nb i x.1.at' y)) (.panicked (viol z.1 z.2)) w1 :=
    fun z w1 hz hf => ends_error (by simp only [partsX, hz, thenX]) hf
  refine askInstr_2 M hN x y w h i hi hx hk hl0 hl1 nb hnames _ (fun j w1 => match j with | 0 => Stage M w y.1 (frontOk M false false nb i x.1.at' y) w1 | 1 => Stage M w y.1 (thenX (frontOk M false false nb i x.1.at' y) (varPart M 155)) w1 | 2 => Stage M w y.1 (thenX (thenX (frontOk M false false nb i x.1.at' y) (varPart M 155)) (varPart M 156)) w1 | _ => False) hE ?_ ?_ ?_ ?_ ?_ ?_
  · exact fun y' w1 hy hf hon => ⟨y', hy, hf, hon, frontOk_kept hy⟩
  · intro j w1 hj
    match j, hj with
    | 0, hj => exact Stage.lies hj
    | 1, hj => exact Stage.lies hj
    | 2, hj => exact Stage.lies hj
  · intro j w1 hj
    match j, hj with
    | 0, hj => exact Stage.drew hj
    | 1, hj => exact Stage.drew hj
    | 2, hj => exact Stage.drew hj
  · exact fun w1 hw1 => stage_step (p := varPart M 155) (fun a a' ha => askX_kept (by simp) ha) (fun z w' hz hf => ends_error (by unfold partsX; rw [hz]; try rfl) hf) (fun yy hon hkp => variable_own M hN yy w1 hon 155 (by simp [places])) hw1
  · exact fun w1 hw1 => stage_step (p := varPart M 156) (fun a a' ha => askX_kept (by simp) ha) (fun z w' hz hf => ends_error (by unfold partsX; rw [hz]; try rfl) hf) (fun yy hon hkp => variable_own M hN yy w1 hon 156 (by simp [places])) hw1
  · exact fun w1 hw1 => stage_end hw1

theorem instr_3 {b : Nat} (M : Mode b) (hN : NextOwn M) (x y : WS × M.σ) (w : World) (h : On M w x) (i : Nat) (hi : i ≤ 4096) (hx : nextX M 154 1 x = .ok y) (hk : y.1.op = 3) (hl0 : 0 ≤ y.1.len) (hl1 : y.1.len ≤ 4096) (nb : Bool)
    (hnames : ∀ w1, Lies w1 b y.1 → Calls Tryz.prog 92 #[.pointer (some ⟨b, 26, none⟩), .pointer (some ⟨b, 154, none⟩)] w1 fun e w' => e = .returned (.bool nb) ∧ w' = w1) :
    Calls Tryz.prog 65 #[.pointer (some ⟨b, 0, none⟩), .int .i64 i] w (Ends M w (partsX M 3 (frontOk M false false nb i x.1.at' y))) := by
  have hE : ∀ z w1, frontOk M false false nb i x.1.at' y = .error z → Fr M.SB w w1 → Ends M w (partsX M 3 (frontOk M false false nb i x.1.at' y)) (.panicked (viol z.1 z.2)) w1 :=
    fun z w1 hz hf => ends_error (by simp only [partsX, hz, thenX]) hf
  refine askInstr_3 M hN x y w h i hi hx hk hl0 hl1 nb hnames _ (fun j w1 => match j with | 0 => Stage M w y.1 (frontOk M false false nb i x.1.at' y) w1 | 1 => Stage M w y.1 (thenX (frontOk M false false nb i x.1.at' y) (varPart M 155)) w1 | 2 => Stage M w y.1 (thenX (thenX (frontOk M false false nb i x.1.at' y) (varPart M 155)) (varPart M 156)) w1 | 3 => Stage M w y.1 (thenX (thenX (thenX (frontOk M false false nb i x.1.at' y) (varPart M 155)) (varPart M 156)) (varPart M 157)) w1 | _ => False) hE ?_ ?_ ?_ ?_ ?_ ?_ ?_
  · exact fun y' w1 hy hf hon => ⟨y', hy, hf, hon, frontOk_kept hy⟩
  · intro j w1 hj
    match j, hj with
    | 0, hj => exact Stage.lies hj
    | 1, hj => exact Stage.lies hj
    | 2, hj => exact Stage.lies hj
    | 3, hj => exact Stage.lies hj
  · intro j w1 hj
    match j, hj with
    | 0, hj => exact Stage.drew hj
    | 1, hj => exact Stage.drew hj
    | 2, hj => exact Stage.drew hj
    | 3, hj => exact Stage.drew hj
  · exact fun w1 hw1 => stage_step (p := varPart M 155) (fun a a' ha => askX_kept (by simp) ha) (fun z w' hz hf => ends_error (by unfold partsX; rw [hz]; try rfl) hf) (fun yy hon hkp => variable_own M hN yy w1 hon 155 (by simp [places])) hw1
  · exact fun w1 hw1 => stage_step (p := varPart M 156) (fun a a' ha => askX_kept (by simp) ha) (fun z w' hz hf => ends_error (by unfold partsX; rw [hz]; try rfl) hf) (fun yy hon hkp => variable_own M hN yy w1 hon 156 (by simp [places])) hw1
  · exact fun w1 hw1 => stage_step (p := varPart M 157) (fun a a' ha => askX_kept (by simp) ha) (fun z w' hz hf => ends_error (by unfold partsX; rw [hz]; try rfl) hf) (fun yy hon hkp => variable_own M hN yy w1 hon 157 (by simp [places])) hw1
  · exact fun w1 hw1 => stage_end hw1

theorem instr_4 {b : Nat} (M : Mode b) (hN : NextOwn M) (x y : WS × M.σ) (w : World) (h : On M w x) (i : Nat) (hi : i ≤ 4096) (hx : nextX M 154 1 x = .ok y) (hk : y.1.op = 4) (hl0 : 0 ≤ y.1.len) (hl1 : y.1.len ≤ 4096) (nb : Bool)
    (hnames : ∀ w1, Lies w1 b y.1 → Calls Tryz.prog 92 #[.pointer (some ⟨b, 34, none⟩), .pointer (some ⟨b, 154, none⟩)] w1 fun e w' => e = .returned (.bool nb) ∧ w' = w1) :
    Calls Tryz.prog 65 #[.pointer (some ⟨b, 0, none⟩), .int .i64 i] w (Ends M w (partsX M 4 (frontOk M false false nb i x.1.at' y))) := by
  have hE : ∀ z w1, frontOk M false false nb i x.1.at' y = .error z → Fr M.SB w w1 → Ends M w (partsX M 4 (frontOk M false false nb i x.1.at' y)) (.panicked (viol z.1 z.2)) w1 :=
    fun z w1 hz hf => ends_error (by simp only [partsX, hz, thenX]) hf
  refine askInstr_4 M hN x y w h i hi hx hk hl0 hl1 nb hnames _ (fun j w1 => match j with | 0 => Stage M w y.1 (frontOk M false false nb i x.1.at' y) w1 | 1 => Stage M w y.1 (thenX (frontOk M false false nb i x.1.at' y) (varPart M 155)) w1 | 2 => Stage M w y.1 (thenX (thenX (frontOk M false false nb i x.1.at' y) (varPart M 155)) (varPart M 156)) w1 | 3 => Stage M w y.1 (thenX (thenX (thenX (frontOk M false false nb i x.1.at' y) (varPart M 155)) (varPart M 156)) (varPart M 157)) w1 | _ => False) hE ?_ ?_ ?_ ?_ ?_ ?_ ?_
  · exact fun y' w1 hy hf hon => ⟨y', hy, hf, hon, frontOk_kept hy⟩
  · intro j w1 hj
    match j, hj with
    | 0, hj => exact Stage.lies hj
    | 1, hj => exact Stage.lies hj
    | 2, hj => exact Stage.lies hj
    | 3, hj => exact Stage.lies hj
  · intro j w1 hj
    match j, hj with
    | 0, hj => exact Stage.drew hj
    | 1, hj => exact Stage.drew hj
    | 2, hj => exact Stage.drew hj
    | 3, hj => exact Stage.drew hj
  · exact fun w1 hw1 => stage_step (p := varPart M 155) (fun a a' ha => askX_kept (by simp) ha) (fun z w' hz hf => ends_error (by unfold partsX; rw [hz]; try rfl) hf) (fun yy hon hkp => variable_own M hN yy w1 hon 155 (by simp [places])) hw1
  · exact fun w1 hw1 => stage_step (p := varPart M 156) (fun a a' ha => askX_kept (by simp) ha) (fun z w' hz hf => ends_error (by unfold partsX; rw [hz]; try rfl) hf) (fun yy hon hkp => variable_own M hN yy w1 hon 156 (by simp [places])) hw1
  · exact fun w1 hw1 => stage_step (p := varPart M 157) (fun a a' ha => askX_kept (by simp) ha) (fun z w' hz hf => ends_error (by unfold partsX; rw [hz]; try rfl) hf) (fun yy hon hkp => variable_own M hN yy w1 hon 157 (by simp [places])) hw1
  · exact fun w1 hw1 => stage_end hw1

theorem instr_5 {b : Nat} (M : Mode b) (hN : NextOwn M) (x y : WS × M.σ) (w : World) (h : On M w x) (i : Nat) (hi : i ≤ 4096) (hx : nextX M 154 1 x = .ok y) (hk : y.1.op = 5) (hl0 : 0 ≤ y.1.len) (hl1 : y.1.len ≤ 4096) (nb : Bool)
    (hnames : ∀ w1, Lies w1 b y.1 → Calls Tryz.prog 92 #[.pointer (some ⟨b, 42, none⟩), .pointer (some ⟨b, 154, none⟩)] w1 fun e w' => e = .returned (.bool nb) ∧ w' = w1) :
    Calls Tryz.prog 65 #[.pointer (some ⟨b, 0, none⟩), .int .i64 i] w (Ends M w (partsX M 5 (frontOk M false false nb i x.1.at' y))) := by
  have hE : ∀ z w1, frontOk M false false nb i x.1.at' y = .error z → Fr M.SB w w1 → Ends M w (partsX M 5 (frontOk M false false nb i x.1.at' y)) (.panicked (viol z.1 z.2)) w1 :=
    fun z w1 hz hf => ends_error (by simp only [partsX, hz, thenX]) hf
  refine askInstr_5 M hN x y w h i hi hx hk hl0 hl1 nb hnames _ (fun j w1 => match j with | 0 => Stage M w y.1 (frontOk M false false nb i x.1.at' y) w1 | 1 => Stage M w y.1 (thenX (frontOk M false false nb i x.1.at' y) (varPart M 155)) w1 | 2 => Stage M w y.1 (thenX (thenX (frontOk M false false nb i x.1.at' y) (varPart M 155)) (varPart M 156)) w1 | _ => False) hE ?_ ?_ ?_ ?_ ?_ ?_
  · exact fun y' w1 hy hf hon => ⟨y', hy, hf, hon, frontOk_kept hy⟩
  · intro j w1 hj
    match j, hj with
    | 0, hj => exact Stage.lies hj
    | 1, hj => exact Stage.lies hj
    | 2, hj => exact Stage.lies hj
  · intro j w1 hj
    match j, hj with
    | 0, hj => exact Stage.drew hj
    | 1, hj => exact Stage.drew hj
    | 2, hj => exact Stage.drew hj
  · exact fun w1 hw1 => stage_step (p := varPart M 155) (fun a a' ha => askX_kept (by simp) ha) (fun z w' hz hf => ends_error (by unfold partsX; rw [hz]; try rfl) hf) (fun yy hon hkp => variable_own M hN yy w1 hon 155 (by simp [places])) hw1
  · exact fun w1 hw1 => stage_step (p := varPart M 156) (fun a a' ha => askX_kept (by simp) ha) (fun z w' hz hf => ends_error (by unfold partsX; rw [hz]; try rfl) hf) (fun yy hon hkp => variable_own M hN yy w1 hon 156 (by simp [places])) hw1
  · exact fun w1 hw1 => stage_end hw1

theorem instr_6 {b : Nat} (M : Mode b) (hN : NextOwn M) (x y : WS × M.σ) (w : World) (h : On M w x) (i : Nat) (hi : i ≤ 4096) (hx : nextX M 154 1 x = .ok y) (hk : y.1.op = 6) (hl0 : 0 ≤ y.1.len) (hl1 : y.1.len ≤ 4096) (nb : Bool)
    (hnames : ∀ w1, Lies w1 b y.1 → Calls Tryz.prog 92 #[.pointer (some ⟨b, 50, none⟩), .pointer (some ⟨b, 154, none⟩)] w1 fun e w' => e = .returned (.bool nb) ∧ w' = w1) :
    Calls Tryz.prog 65 #[.pointer (some ⟨b, 0, none⟩), .int .i64 i] w (Ends M w (partsX M 6 (frontOk M false true nb i x.1.at' y))) := by
  have hE : ∀ z w1, frontOk M false true nb i x.1.at' y = .error z → Fr M.SB w w1 → Ends M w (partsX M 6 (frontOk M false true nb i x.1.at' y)) (.panicked (viol z.1 z.2)) w1 :=
    fun z w1 hz hf => ends_error (by simp only [partsX, hz, thenX]) hf
  refine askInstr_6 M hN x y w h i hi hx hk hl0 hl1 nb hnames _ (fun j w1 => match j with | 0 => Stage M w y.1 (frontOk M false true nb i x.1.at' y) w1 | 1 => Stage M w y.1 (thenX (frontOk M false true nb i x.1.at' y) (varPart M 155)) w1 | 2 => Stage M w y.1 (thenX (thenX (frontOk M false true nb i x.1.at' y) (varPart M 155)) (fieldsPart M)) w1 | _ => False) hE ?_ ?_ ?_ ?_ ?_ ?_
  · exact fun y' w1 hy hf hon => ⟨y', hy, hf, hon, frontOk_kept hy⟩
  · intro j w1 hj
    match j, hj with
    | 0, hj => exact Stage.lies hj
    | 1, hj => exact Stage.lies hj
    | 2, hj => exact Stage.lies hj
  · intro j w1 hj
    match j, hj with
    | 0, hj => exact Stage.drew hj
    | 1, hj => exact Stage.drew hj
    | 2, hj => exact Stage.drew hj
  · exact fun w1 hw1 => stage_step (p := varPart M 155) (fun a a' ha => askX_kept (by simp) ha) (fun z w' hz hf => ends_error (by unfold partsX; rw [hz]; try rfl) hf) (fun yy hon hkp => variable_own M hN yy w1 hon 155 (by simp [places])) hw1
  · exact fun w1 hw1 => stage_step (p := fieldsPart M) (fun a a' ha => askX_kept (by simp) ha) (fun z w' hz hf => ends_error (by unfold partsX; rw [hz]; try rfl) hf) (fun yy hon hkp => fields_own M hN yy w1 hon 6 1 (by rw [hkp.op, hk]; rfl) (by omega) rfl (by omega) (by omega)) hw1
  · exact fun w1 hw1 => stage_end hw1

theorem instr_7 {b : Nat} (M : Mode b) (hN : NextOwn M) (x y : WS × M.σ) (w : World) (h : On M w x) (i : Nat) (hi : i ≤ 4096) (hx : nextX M 154 1 x = .ok y) (hk : y.1.op = 7) (hl0 : 0 ≤ y.1.len) (hl1 : y.1.len ≤ 4096) (nb : Bool)
    (hnames : ∀ w1, Lies w1 b y.1 → Calls Tryz.prog 92 #[.pointer (some ⟨b, 58, none⟩), .pointer (some ⟨b, 154, none⟩)] w1 fun e w' => e = .returned (.bool nb) ∧ w' = w1) :
    Calls Tryz.prog 65 #[.pointer (some ⟨b, 0, none⟩), .int .i64 i] w (Ends M w (partsX M 7 (frontOk M false false nb i x.1.at' y))) := by
  have hE : ∀ z w1, frontOk M false false nb i x.1.at' y = .error z → Fr M.SB w w1 → Ends M w (partsX M 7 (frontOk M false false nb i x.1.at' y)) (.panicked (viol z.1 z.2)) w1 :=
    fun z w1 hz hf => ends_error (by simp only [partsX, hz, thenX]) hf
  refine askInstr_7 M hN x y w h i hi hx hk hl0 hl1 nb hnames _ (fun j w1 => match j with | 0 => Stage M w y.1 (frontOk M false false nb i x.1.at' y) w1 | 1 => Stage M w y.1 (thenX (frontOk M false false nb i x.1.at' y) (varPart M 155)) w1 | 2 => Stage M w y.1 (thenX (thenX (frontOk M false false nb i x.1.at' y) (varPart M 155)) (varPart M 156)) w1 | 3 => Stage M w y.1 (thenX (thenX (thenX (frontOk M false false nb i x.1.at' y) (varPart M 155)) (varPart M 156)) (fieldPart M)) w1 | _ => False) hE ?_ ?_ ?_ ?_ ?_ ?_ ?_
  · exact fun y' w1 hy hf hon => ⟨y', hy, hf, hon, frontOk_kept hy⟩
  · intro j w1 hj
    match j, hj with
    | 0, hj => exact Stage.lies hj
    | 1, hj => exact Stage.lies hj
    | 2, hj => exact Stage.lies hj
    | 3, hj => exact Stage.lies hj
  · intro j w1 hj
    match j, hj with
    | 0, hj => exact Stage.drew hj
    | 1, hj => exact Stage.drew hj
    | 2, hj => exact Stage.drew hj
    | 3, hj => exact Stage.drew hj
  · exact fun w1 hw1 => stage_step (p := varPart M 155) (fun a a' ha => askX_kept (by simp) ha) (fun z w' hz hf => ends_error (by unfold partsX; rw [hz]; try rfl) hf) (fun yy hon hkp => variable_own M hN yy w1 hon 155 (by simp [places])) hw1
  · exact fun w1 hw1 => stage_step (p := varPart M 156) (fun a a' ha => askX_kept (by simp) ha) (fun z w' hz hf => ends_error (by unfold partsX; rw [hz]; try rfl) hf) (fun yy hon hkp => variable_own M hN yy w1 hon 156 (by simp [places])) hw1
  · exact fun w1 hw1 => stage_step (p := fieldPart M) (fun a a' ha => askX_kept (by simp) ha) (fun z w' hz hf => ends_error (by unfold partsX; rw [hz]; try rfl) hf) (fun yy hon hkp => field_own M hN yy w1 hon 7 1 (by rw [hkp.op, hk]; rfl) (by omega) rfl (by omega) (by omega)) hw1
  · exact fun w1 hw1 => stage_end hw1

theorem instr_8 {b : Nat} (M : Mode b) (hN : NextOwn M) (x y : WS × M.σ) (w : World) (h : On M w x) (i : Nat) (hi : i ≤ 4096) (hx : nextX M 154 1 x = .ok y) (hk : y.1.op = 8) (hl0 : 0 ≤ y.1.len) (hl1 : y.1.len ≤ 4096) (nb : Bool)
    (hnames : ∀ w1, Lies w1 b y.1 → Calls Tryz.prog 92 #[.pointer (some ⟨b, 66, none⟩), .pointer (some ⟨b, 154, none⟩)] w1 fun e w' => e = .returned (.bool nb) ∧ w' = w1) :
    Calls Tryz.prog 65 #[.pointer (some ⟨b, 0, none⟩), .int .i64 i] w (Ends M w (partsX M 8 (frontOk M false false nb i x.1.at' y))) := by
  have hE : ∀ z w1, frontOk M false false nb i x.1.at' y = .error z → Fr M.SB w w1 → Ends M w (partsX M 8 (frontOk M false false nb i x.1.at' y)) (.panicked (viol z.1 z.2)) w1 :=
    fun z w1 hz hf => ends_error (by simp only [partsX, hz, thenX]) hf
  refine askInstr_8 M hN x y w h i hi hx hk hl0 hl1 nb hnames _ (fun j w1 => match j with | 0 => Stage M w y.1 (frontOk M false false nb i x.1.at' y) w1 | 1 => Stage M w y.1 (thenX (frontOk M false false nb i x.1.at' y) (varPart M 155)) w1 | 2 => Stage M w y.1 (thenX (thenX (frontOk M false false nb i x.1.at' y) (varPart M 155)) (varPart M 156)) w1 | 3 => Stage M w y.1 (thenX (thenX (thenX (frontOk M false false nb i x.1.at' y) (varPart M 155)) (varPart M 156)) (fieldPart M)) w1 | _ => False) hE ?_ ?_ ?_ ?_ ?_ ?_ ?_
  · exact fun y' w1 hy hf hon => ⟨y', hy, hf, hon, frontOk_kept hy⟩
  · intro j w1 hj
    match j, hj with
    | 0, hj => exact Stage.lies hj
    | 1, hj => exact Stage.lies hj
    | 2, hj => exact Stage.lies hj
    | 3, hj => exact Stage.lies hj
  · intro j w1 hj
    match j, hj with
    | 0, hj => exact Stage.drew hj
    | 1, hj => exact Stage.drew hj
    | 2, hj => exact Stage.drew hj
    | 3, hj => exact Stage.drew hj
  · exact fun w1 hw1 => stage_step (p := varPart M 155) (fun a a' ha => askX_kept (by simp) ha) (fun z w' hz hf => ends_error (by unfold partsX; rw [hz]; try rfl) hf) (fun yy hon hkp => variable_own M hN yy w1 hon 155 (by simp [places])) hw1
  · exact fun w1 hw1 => stage_step (p := varPart M 156) (fun a a' ha => askX_kept (by simp) ha) (fun z w' hz hf => ends_error (by unfold partsX; rw [hz]; try rfl) hf) (fun yy hon hkp => variable_own M hN yy w1 hon 156 (by simp [places])) hw1
  · exact fun w1 hw1 => stage_step (p := fieldPart M) (fun a a' ha => askX_kept (by simp) ha) (fun z w' hz hf => ends_error (by unfold partsX; rw [hz]; try rfl) hf) (fun yy hon hkp => field_own M hN yy w1 hon 8 1 (by rw [hkp.op, hk]; rfl) (by omega) rfl (by omega) (by omega)) hw1
  · exact fun w1 hw1 => stage_end hw1

theorem instr_9 {b : Nat} (M : Mode b) (hN : NextOwn M) (x y : WS × M.σ) (w : World) (h : On M w x) (i : Nat) (hi : i ≤ 4096) (hx : nextX M 154 1 x = .ok y) (hk : y.1.op = 9) (hl0 : 0 ≤ y.1.len) (hl1 : y.1.len ≤ 4096) (nb : Bool)
    (hnames : ∀ w1, Lies w1 b y.1 → Calls Tryz.prog 92 #[.pointer (some ⟨b, 74, none⟩), .pointer (some ⟨b, 154, none⟩)] w1 fun e w' => e = .returned (.bool nb) ∧ w' = w1) :
    Calls Tryz.prog 65 #[.pointer (some ⟨b, 0, none⟩), .int .i64 i] w (Ends M w (partsX M 9 (frontOk M false false nb i x.1.at' y))) := by
  have hE : ∀ z w1, frontOk M false false nb i x.1.at' y = .error z → Fr M.SB w w1 → Ends M w (partsX M 9 (frontOk M false false nb i x.1.at' y)) (.panicked (viol z.1 z.2)) w1 :=
    fun z w1 hz hf => ends_error (by simp only [partsX, hz, thenX]) hf
  refine askInstr_9 M hN x y w h i hi hx hk hl0 hl1 nb hnames _ (fun j w1 => match j with | 0 => Stage M w y.1 (frontOk M false false nb i x.1.at' y) w1 | 1 => Stage M w y.1 (thenX (frontOk M false false nb i x.1.at' y) (varPart M 155)) w1 | 2 => Stage M w y.1 (thenX (thenX (frontOk M false false nb i x.1.at' y) (varPart M 155)) (globalPart M)) w1 | _ => False) hE ?_ ?_ ?_ ?_ ?_ ?_
  · exact fun y' w1 hy hf hon => ⟨y', hy, hf, hon, frontOk_kept hy⟩
  · intro j w1 hj
    match j, hj with
    | 0, hj => exact Stage.lies hj
    | 1, hj => exact Stage.lies hj
    | 2, hj => exact Stage.lies hj
  · intro j w1 hj
    match j, hj with
    | 0, hj => exact Stage.drew hj
    | 1, hj => exact Stage.drew hj
    | 2, hj => exact Stage.drew hj
  · exact fun w1 hw1 => stage_step (p := varPart M 155) (fun a a' ha => askX_kept (by simp) ha) (fun z w' hz hf => ends_error (by unfold partsX; rw [hz]; try rfl) hf) (fun yy hon hkp => variable_own M hN yy w1 hon 155 (by simp [places])) hw1
  · exact fun w1 hw1 => stage_step (p := globalPart M) (fun a a' ha => askX_kept (by simp) ha) (fun z w' hz hf => ends_error (by unfold partsX; rw [hz]; try rfl) hf) (fun yy hon hkp => global_own M hN yy w1 hon 9 1 (by rw [hkp.op, hk]; rfl) (by omega) rfl (by omega) (by omega)) hw1
  · exact fun w1 hw1 => stage_end hw1

theorem instr_10 {b : Nat} (M : Mode b) (hN : NextOwn M) (x y : WS × M.σ) (w : World) (h : On M w x) (i : Nat) (hi : i ≤ 4096) (hx : nextX M 154 1 x = .ok y) (hk : y.1.op = 10) (hl0 : 0 ≤ y.1.len) (hl1 : y.1.len ≤ 4096) (nb : Bool)
    (hnames : ∀ w1, Lies w1 b y.1 → Calls Tryz.prog 92 #[.pointer (some ⟨b, 82, none⟩), .pointer (some ⟨b, 154, none⟩)] w1 fun e w' => e = .returned (.bool nb) ∧ w' = w1) :
    Calls Tryz.prog 65 #[.pointer (some ⟨b, 0, none⟩), .int .i64 i] w (Ends M w (partsX M 10 (frontOk M false false nb i x.1.at' y))) := by
  have hE : ∀ z w1, frontOk M false false nb i x.1.at' y = .error z → Fr M.SB w w1 → Ends M w (partsX M 10 (frontOk M false false nb i x.1.at' y)) (.panicked (viol z.1 z.2)) w1 :=
    fun z w1 hz hf => ends_error (by simp only [partsX, hz, thenX]) hf
  refine askInstr_10 M hN x y w h i hi hx hk hl0 hl1 nb hnames _ (fun j w1 => match j with | 0 => Stage M w y.1 (frontOk M false false nb i x.1.at' y) w1 | 1 => Stage M w y.1 (thenX (frontOk M false false nb i x.1.at' y) (varPart M 156)) w1 | 2 => Stage M w y.1 (thenX (thenX (frontOk M false false nb i x.1.at' y) (varPart M 156)) (globalPart M)) w1 | _ => False) hE ?_ ?_ ?_ ?_ ?_ ?_
  · exact fun y' w1 hy hf hon => ⟨y', hy, hf, hon, frontOk_kept hy⟩
  · intro j w1 hj
    match j, hj with
    | 0, hj => exact Stage.lies hj
    | 1, hj => exact Stage.lies hj
    | 2, hj => exact Stage.lies hj
  · intro j w1 hj
    match j, hj with
    | 0, hj => exact Stage.drew hj
    | 1, hj => exact Stage.drew hj
    | 2, hj => exact Stage.drew hj
  · exact fun w1 hw1 => stage_step (p := varPart M 156) (fun a a' ha => askX_kept (by simp) ha) (fun z w' hz hf => ends_error (by unfold partsX; rw [hz]; try rfl) hf) (fun yy hon hkp => variable_own M hN yy w1 hon 156 (by simp [places])) hw1
  · exact fun w1 hw1 => stage_step (p := globalPart M) (fun a a' ha => askX_kept (by simp) ha) (fun z w' hz hf => ends_error (by unfold partsX; rw [hz]; try rfl) hf) (fun yy hon hkp => global_own M hN yy w1 hon 10 1 (by rw [hkp.op, hk]; rfl) (by omega) rfl (by omega) (by omega)) hw1
  · exact fun w1 hw1 => stage_end hw1

theorem instr_12 {b : Nat} (M : Mode b) (hN : NextOwn M) (x y : WS × M.σ) (w : World) (h : On M w x) (i : Nat) (hi : i ≤ 4096) (hx : nextX M 154 1 x = .ok y) (hk : y.1.op = 12) (hl0 : 0 ≤ y.1.len) (hl1 : y.1.len ≤ 4096) (nb : Bool)
    (hnames : ∀ w1, Lies w1 b y.1 → Calls Tryz.prog 92 #[.pointer (some ⟨b, 98, none⟩), .pointer (some ⟨b, 154, none⟩)] w1 fun e w' => e = .returned (.bool nb) ∧ w' = w1) :
    Calls Tryz.prog 65 #[.pointer (some ⟨b, 0, none⟩), .int .i64 i] w (Ends M w (partsX M 12 (frontOk M false false nb i x.1.at' y))) := by
  have hE : ∀ z w1, frontOk M false false nb i x.1.at' y = .error z → Fr M.SB w w1 → Ends M w (partsX M 12 (frontOk M false false nb i x.1.at' y)) (.panicked (viol z.1 z.2)) w1 :=
    fun z w1 hz hf => ends_error (by simp only [partsX, hz, thenX]) hf
  refine askInstr_12 M hN x y w h i hi hx hk hl0 hl1 nb hnames _ (fun j w1 => match j with | 0 => Stage M w y.1 (frontOk M false false nb i x.1.at' y) w1 | 1 => Stage M w y.1 (thenX (frontOk M false false nb i x.1.at' y) (varPart M 156)) w1 | _ => False) hE ?_ ?_ ?_ ?_ ?_
  · exact fun y' w1 hy hf hon => ⟨y', hy, hf, hon, frontOk_kept hy⟩
  · intro j w1 hj
    match j, hj with
    | 0, hj => exact Stage.lies hj
    | 1, hj => exact Stage.lies hj
  · intro j w1 hj
    match j, hj with
    | 0, hj => exact Stage.drew hj
    | 1, hj => exact Stage.drew hj
  · exact fun w1 hw1 => stage_step (p := varPart M 156) (fun a a' ha => askX_kept (by simp) ha) (fun z w' hz hf => ends_error (by unfold partsX; rw [hz]; try rfl) hf) (fun yy hon hkp => variable_own M hN yy w1 hon 156 (by simp [places])) hw1
  · exact fun w1 hw1 => stage_end hw1

theorem instr_13 {b : Nat} (M : Mode b) (hN : NextOwn M) (x y : WS × M.σ) (w : World) (h : On M w x) (i : Nat) (hi : i ≤ 4096) (hx : nextX M 154 1 x = .ok y) (hk : y.1.op = 13) (hl0 : 0 ≤ y.1.len) (hl1 : y.1.len ≤ 4096) (nb : Bool)
    (hnames : ∀ w1, Lies w1 b y.1 → Calls Tryz.prog 92 #[.pointer (some ⟨b, 106, none⟩), .pointer (some ⟨b, 154, none⟩)] w1 fun e w' => e = .returned (.bool nb) ∧ w' = w1) :
    Calls Tryz.prog 65 #[.pointer (some ⟨b, 0, none⟩), .int .i64 i] w (Ends M w (partsX M 13 (frontOk M true false nb i x.1.at' y))) := by
  have hE : ∀ z w1, frontOk M true false nb i x.1.at' y = .error z → Fr M.SB w w1 → Ends M w (partsX M 13 (frontOk M true false nb i x.1.at' y)) (.panicked (viol z.1 z.2)) w1 :=
    fun z w1 hz hf => ends_error (by simp only [partsX, hz, thenX]) hf
  refine askInstr_13 M hN x y w h i hi hx hk hl0 hl1 nb hnames _ (fun j w1 => match j with | 0 => Stage M w y.1 (frontOk M true false nb i x.1.at' y) w1 | 1 => Stage M w y.1 (thenX (frontOk M true false nb i x.1.at' y) (targetPart M)) w1 | _ => False) hE ?_ ?_ ?_ ?_ ?_
  · exact fun y' w1 hy hf hon => ⟨y', hy, hf, hon, frontOk_kept hy⟩
  · intro j w1 hj
    match j, hj with
    | 0, hj => exact Stage.lies hj
    | 1, hj => exact Stage.lies hj
  · intro j w1 hj
    match j, hj with
    | 0, hj => exact Stage.drew hj
    | 1, hj => exact Stage.drew hj
  · exact fun w1 hw1 => stage_step (p := targetPart M) (fun a a' ha => askX_kept (by simp) ha) (fun z w' hz hf => ends_error (by unfold partsX; rw [hz]; try rfl) hf) (fun yy hon hkp => target_own M hN yy w1 hon 13 2 (by rw [hkp.op, hk]; rfl) (by omega) rfl (by omega) (by omega)) hw1
  · exact fun w1 hw1 => stage_end hw1

theorem instr_14 {b : Nat} (M : Mode b) (hN : NextOwn M) (x y : WS × M.σ) (w : World) (h : On M w x) (i : Nat) (hi : i ≤ 4096) (hx : nextX M 154 1 x = .ok y) (hk : y.1.op = 14) (hl0 : 0 ≤ y.1.len) (hl1 : y.1.len ≤ 4096) (nb : Bool)
    (hnames : ∀ w1, Lies w1 b y.1 → Calls Tryz.prog 92 #[.pointer (some ⟨b, 114, none⟩), .pointer (some ⟨b, 154, none⟩)] w1 fun e w' => e = .returned (.bool nb) ∧ w' = w1) :
    Calls Tryz.prog 65 #[.pointer (some ⟨b, 0, none⟩), .int .i64 i] w (Ends M w (partsX M 14 (frontOk M false false nb i x.1.at' y))) := by
  have hE : ∀ z w1, frontOk M false false nb i x.1.at' y = .error z → Fr M.SB w w1 → Ends M w (partsX M 14 (frontOk M false false nb i x.1.at' y)) (.panicked (viol z.1 z.2)) w1 :=
    fun z w1 hz hf => ends_error (by simp only [partsX, hz, thenX]) hf
  refine askInstr_14 M hN x y w h i hi hx hk hl0 hl1 nb hnames _ (fun j w1 => match j with | 0 => Stage M w y.1 (frontOk M false false nb i x.1.at' y) w1 | 1 => Stage M w y.1 (thenX (frontOk M false false nb i x.1.at' y) (varPart M 156)) w1 | 2 => Stage M w y.1 (thenX (thenX (frontOk M false false nb i x.1.at' y) (varPart M 156)) (targetPart M)) w1 | _ => False) hE ?_ ?_ ?_ ?_ ?_ ?_
  · exact fun y' w1 hy hf hon => ⟨y', hy, hf, hon, frontOk_kept hy⟩
  · intro j w1 hj
    match j, hj with
    | 0, hj => exact Stage.lies hj
    | 1, hj => exact Stage.lies hj
    | 2, hj => exact Stage.lies hj
  · intro j w1 hj
    match j, hj with
    | 0, hj => exact Stage.drew hj
    | 1, hj => exact Stage.drew hj
    | 2, hj => exact Stage.drew hj
  · exact fun w1 hw1 => stage_step (p := varPart M 156) (fun a a' ha => askX_kept (by simp) ha) (fun z w' hz hf => ends_error (by unfold partsX; rw [hz]; try rfl) hf) (fun yy hon hkp => variable_own M hN yy w1 hon 156 (by simp [places])) hw1
  · exact fun w1 hw1 => stage_step (p := targetPart M) (fun a a' ha => askX_kept (by simp) ha) (fun z w' hz hf => ends_error (by unfold partsX; rw [hz]; try rfl) hf) (fun yy hon hkp => target_own M hN yy w1 hon 14 2 (by rw [hkp.op, hk]; rfl) (by omega) rfl (by omega) (by omega)) hw1
  · exact fun w1 hw1 => stage_end hw1

theorem instr_16 {b : Nat} (M : Mode b) (hN : NextOwn M) (x y : WS × M.σ) (w : World) (h : On M w x) (i : Nat) (hi : i ≤ 4096) (hx : nextX M 154 1 x = .ok y) (hk : y.1.op = 16) (hl0 : 0 ≤ y.1.len) (hl1 : y.1.len ≤ 4096) (nb : Bool)
    (hnames : ∀ w1, Lies w1 b y.1 → Calls Tryz.prog 92 #[.pointer (some ⟨b, 130, none⟩), .pointer (some ⟨b, 154, none⟩)] w1 fun e w' => e = .returned (.bool nb) ∧ w' = w1) :
    Calls Tryz.prog 65 #[.pointer (some ⟨b, 0, none⟩), .int .i64 i] w (Ends M w (partsX M 16 (frontOk M false false nb i x.1.at' y))) := by
  have hE : ∀ z w1, frontOk M false false nb i x.1.at' y = .error z → Fr M.SB w w1 → Ends M w (partsX M 16 (frontOk M false false nb i x.1.at' y)) (.panicked (viol z.1 z.2)) w1 :=
    fun z w1 hz hf => ends_error (by simp only [partsX, hz, thenX]) hf
  refine askInstr_16 M hN x y w h i hi hx hk hl0 hl1 nb hnames _ (fun j w1 => match j with | 0 => Stage M w y.1 (frontOk M false false nb i x.1.at' y) w1 | 1 => Stage M w y.1 (thenX (frontOk M false false nb i x.1.at' y) (varPart M 155)) w1 | _ => False) hE ?_ ?_ ?_ ?_ ?_
  · exact fun y' w1 hy hf hon => ⟨y', hy, hf, hon, frontOk_kept hy⟩
  · intro j w1 hj
    match j, hj with
    | 0, hj => exact Stage.lies hj
    | 1, hj => exact Stage.lies hj
  · intro j w1 hj
    match j, hj with
    | 0, hj => exact Stage.drew hj
    | 1, hj => exact Stage.drew hj
  · exact fun w1 hw1 => stage_step (p := varPart M 155) (fun a a' ha => askX_kept (by simp) ha) (fun z w' hz hf => ends_error (by unfold partsX; rw [hz]; try rfl) hf) (fun yy hon hkp => variable_own M hN yy w1 hon 155 (by simp [places])) hw1
  · exact fun w1 hw1 => stage_end hw1

theorem instr_17 {b : Nat} (M : Mode b) (hN : NextOwn M) (x y : WS × M.σ) (w : World) (h : On M w x) (i : Nat) (hi : i ≤ 4096) (hx : nextX M 154 1 x = .ok y) (hk : y.1.op = 17) (hl0 : 0 ≤ y.1.len) (hl1 : y.1.len ≤ 4096) (nb : Bool)
    (hnames : ∀ w1, Lies w1 b y.1 → Calls Tryz.prog 92 #[.pointer (some ⟨b, 138, none⟩), .pointer (some ⟨b, 154, none⟩)] w1 fun e w' => e = .returned (.bool nb) ∧ w' = w1) :
    Calls Tryz.prog 65 #[.pointer (some ⟨b, 0, none⟩), .int .i64 i] w (Ends M w (partsX M 17 (frontOk M false false nb i x.1.at' y))) := by
  have hE : ∀ z w1, frontOk M false false nb i x.1.at' y = .error z → Fr M.SB w w1 → Ends M w (partsX M 17 (frontOk M false false nb i x.1.at' y)) (.panicked (viol z.1 z.2)) w1 :=
    fun z w1 hz hf => ends_error (by simp only [partsX, hz, thenX]) hf
  refine askInstr_17 M hN x y w h i hi hx hk hl0 hl1 nb hnames _ (fun j w1 => match j with | 0 => Stage M w y.1 (frontOk M false false nb i x.1.at' y) w1 | 1 => Stage M w y.1 (thenX (frontOk M false false nb i x.1.at' y) (varPart M 155)) w1 | 2 => Stage M w y.1 (thenX (thenX (frontOk M false false nb i x.1.at' y) (varPart M 155)) (varPart M 156)) w1 | 3 => Stage M w y.1 (thenX (thenX (thenX (frontOk M false false nb i x.1.at' y) (varPart M 155)) (varPart M 156)) (varPart M 157)) w1 | _ => False) hE ?_ ?_ ?_ ?_ ?_ ?_ ?_
  · exact fun y' w1 hy hf hon => ⟨y', hy, hf, hon, frontOk_kept hy⟩
  · intro j w1 hj
    match j, hj with
    | 0, hj => exact Stage.lies hj
    | 1, hj => exact Stage.lies hj
    | 2, hj => exact Stage.lies hj
    | 3, hj => exact Stage.lies hj
  · intro j w1 hj
    match j, hj with
    | 0, hj => exact Stage.drew hj
    | 1, hj => exact Stage.drew hj
    | 2, hj => exact Stage.drew hj
    | 3, hj => exact Stage.drew hj
  · exact fun w1 hw1 => stage_step (p := varPart M 155) (fun a a' ha => askX_kept (by simp) ha) (fun z w' hz hf => ends_error (by unfold partsX; rw [hz]; try rfl) hf) (fun yy hon hkp => variable_own M hN yy w1 hon 155 (by simp [places])) hw1
  · exact fun w1 hw1 => stage_step (p := varPart M 156) (fun a a' ha => askX_kept (by simp) ha) (fun z w' hz hf => ends_error (by unfold partsX; rw [hz]; try rfl) hf) (fun yy hon hkp => variable_own M hN yy w1 hon 156 (by simp [places])) hw1
  · exact fun w1 hw1 => stage_step (p := varPart M 157) (fun a a' ha => askX_kept (by simp) ha) (fun z w' hz hf => ends_error (by unfold partsX; rw [hz]; try rfl) hf) (fun yy hon hkp => variable_own M hN yy w1 hon 157 (by simp [places])) hw1
  · exact fun w1 hw1 => stage_end hw1


/-- A list of ints of the call's own, behind it. -/
def NewL (w w' : World) (av : Value) (vs : List Int) : Prop :=
  (vs = [] ∧ av = nilS) ∨ ∃ g, w.heap.size ≤ g ∧ av = .slice (some ⟨g, 0, none⟩) vs.length vs.length ∧ w'.heap[g]? = some (.cells (vs.map vI).toArray 3)


set_option maxRecDepth 100000 in
set_option maxHeartbeats 1000000 in
theorem askInstr_noOp {b : Nat} (M : Mode b) (hN : NextOwn M) (x y : WS × M.σ) (w : World) (h : On M w x) (i : Int) (hx : nextX M 154 1 x = .ok y) (hk : ¬ (1 ≤ y.1.op ∧ y.1.op ≤ 17)) :
    Calls Tryz.prog 65 #[.pointer (some ⟨b, 0, none⟩), .int .i64 i] w fun e w' => e = .panicked (viol 12 x.1.at') ∧ Fr M.SB w w' := by
  have hk' : decide (1 ≤ y.1.op ∧ y.1.op ≤ 17) = false := by simpa using hk
  go_enter Tryz.func65, Tryz.ntmps65
  go_wp2_with fail
  refine (hN 154 (by simp [places]) x 1 _ h (by omega) (by omega)).mono ?_
  rintro e w1 ⟨hf1, hres⟩
  simp only [hx] at hres
  obtain ⟨rfl, hon1⟩ := hres
  have c154 : w1.cell? ⟨b, 154, none⟩ = some (vI y.1.op) := hon1.1.facts.2.2.2.2.2.2.2.2.2.2.1
  clear hx hk
  go_wp2_with fail
  refine (within_any _ _ _ _).mono ?_
  rintro e w' ⟨rfl, rfl⟩
  rw [hk']
  go_wp2_with fail
  refine (must_false 12 x.1.at' _).mono ?_
  rintro e w' ⟨rfl, rfl⟩
  go_wp2_with fail
  exact ⟨rfl, rfl, hf1⟩

/-- The heads' numbers in memory. -/
def HeadsAt (w : World) (fb fo : Nat) (heads : List (Nat × Nat)) : Prop :=
  ∀ j, (h : j < heads.length) → w.cell? ⟨fb, fo + j * 4, none⟩ = some (vI (heads[j].1 : Nat)) ∧ w.cell? ⟨fb, fo + j * 4 + 1, none⟩ = some (vI (heads[j].2 : Nat)) ∧ heads[j].1 ≤ 8 ∧ heads[j].2 ≤ 4

theorem HeadsAt.fr {S : Nat → Prop} {w w' : World} {fb fo : Nat} {heads : List (Nat × Nat)} (h : HeadsAt w fb fo heads) (f : Fr S w w') (hb : fb < w.heap.size) (hS : ¬ S fb) : HeadsAt w' fb fo heads := fun j hj =>
  ⟨(f.cell hb hS).trans (h j hj).1, (f.cell hb hS).trans (h j hj).2.1, (h j hj).2.2⟩

theorem NewL.fr {S : Nat → Prop} {w w1 w' : World} {av : Value} {vs : List Int} (h : NewL w w1 av vs) (f : Fr S w1 w') (hS : ∀ k, w.heap.size ≤ k → k < w1.heap.size → ¬ S k) : NewL w w' av vs := by
  rcases h with h | ⟨g, hg, ha, hb⟩
  · exact Or.inl h
  · have hlt : g < w1.heap.size := (Array.getElem?_eq_some_iff.1 hb).1
    exact Or.inr ⟨g, hg, ha, by rw [f.block g hlt (hS g hg hlt)]; exact hb⟩
theorem NewL.mono {w w1 w' : World} {av : Value} {vs : List Int} (h : NewL w1 w' av vs) (hs : w.heap.size ≤ w1.heap.size) : NewL w w' av vs := by
  rcases h with h | ⟨g, hg, ha, hb⟩
  · exact Or.inl h
  · exact Or.inr ⟨g, Nat.le_trans hs hg, ha, hb⟩


/-- How an instruction ends: its lists are new. -/
def EndsI {b : Nat} (M : Mode b) (w : World) (r : X ((List Int × List Int) × (WS × M.σ))) (e : Ending) (w' : World) : Prop :=
  Fr M.SB w w' ∧ match r with
    | .ok (ll, y) => e = .returned (.tuple #[]) ∧ ∃ av rv, NewL w w' av ll.1 ∧ NewL w w' rv ll.2 ∧ On M w' ({ y.1 with args := av, rets := rv }, y.2)
    | .error z => e = .panicked (viol z.1 z.2)

def After {b : Nat} (M : Mode b) (w : World) (r : X ((List Int × List Int) × (WS × M.σ))) (w1 : World) : Prop :=
  Fr M.SB w w1 ∧ ∃ ll y av rv, r = .ok (ll, y) ∧ NewL w w1 av ll.1 ∧ NewL w w1 rv ll.2 ∧ On M w1 ({ y.1 with args := av, rets := rv }, y.2)

theorem After.lies {b : Nat} {M : Mode b} {w : World} {r : X ((List Int × List Int) × (WS × M.σ))} {w1 : World} (h : After M w r w1) : ∃ s, Lies w1 b s := let ⟨_, _, y, av, rv, _, _, _, h⟩ := h; ⟨_, h.1⟩
theorem After.drew {b : Nat} {M : Mode b} {w : World} {r : X ((List Int × List Int) × (WS × M.σ))} {w1 : World} (h : After M w r w1) : After M w r w1.drew :=
  let ⟨hf, ll, y, av, rv, h1, h2, h3, h4⟩ := h; ⟨hf.drew, ll, y, av, rv, h1, h2, h3, h4.drew⟩
theorem After.ends {b : Nat} {M : Mode b} {w : World} {r : X ((List Int × List Int) × (WS × M.σ))} {w1 : World} (h : After M w r w1) : EndsI M w r (.returned (.tuple #[])) w1 := by
  obtain ⟨hf, ll, y, av, rv, rfl, h2, h3, h4⟩ := h
  exact ⟨hf, rfl, av, rv, h2, h3, h4⟩
def calleePart {b : Nat} (M : Mode b) (nf : Nat) (x : WS × M.σ) : X (WS × M.σ) := askX M 158 2 (fun s => decide (0 ≤ s.n ∧ s.n ≤ IntKind.i64.wrap ((nf : Int) - 1))) 14 x








def KeepsX {b : Nat} {M : Mode b} (s0 : WS) (c : X (WS × M.σ)) : Prop := ∀ y, c = .ok y → Kept s0 y.1
def KeepsP {b : Nat} {M : Mode b} (p : WS × M.σ → X (WS × M.σ)) : Prop := ∀ y y', p y = .ok y' → Kept y.1 y'.1

theorem keeps_then {b : Nat} {M : Mode b} {s0 : WS} {c : X (WS × M.σ)} {p : WS × M.σ → X (WS × M.σ)} (h : KeepsX s0 c) (hp : KeepsP p) : KeepsX s0 (thenX c p) := by
  intro y hy
  unfold thenX at hy
  split at hy
  · exact (h _ rfl).trans (hp _ _ hy)
  · cases hy

theorem keeps_var {b : Nat} (M : Mode b) (o : Nat) (ho : o = 155 ∨ o = 156 ∨ o = 157 ∨ o = 158 ∨ o = 161) : KeepsP (varPart M o) := fun _ _ h => askX_kept ho h
theorem keeps_fields {b : Nat} (M : Mode b) : KeepsP (fieldsPart M) := fun _ _ h => askX_kept (by simp) h
theorem keeps_field {b : Nat} (M : Mode b) : KeepsP (fieldPart M) := fun _ _ h => askX_kept (by simp) h
theorem keeps_global {b : Nat} (M : Mode b) : KeepsP (globalPart M) := fun _ _ h => askX_kept (by simp) h
theorem keeps_target {b : Nat} (M : Mode b) : KeepsP (targetPart M) := fun _ _ h => askX_kept (by simp) h
theorem keeps_int {b : Nat} (M : Mode b) : KeepsP (intPart M) := fun _ _ h => nextX_kept (by simp) h

theorem partsX_kept {b : Nat} {M : Mode b} {s0 : WS} (op : Nat) {c : X (WS × M.σ)} (h : KeepsX s0 c) : KeepsX s0 (partsX M op c) := by
  unfold partsX
  split
  all_goals repeat (first | exact h | (refine keeps_then ?_ (keeps_var M _ (by simp))) | (refine keeps_then ?_ (keeps_fields M)) | (refine keeps_then ?_ (keeps_field M)) | (refine keeps_then ?_ (keeps_global M)) | (refine keeps_then ?_ (keeps_target M)) | (refine keeps_then ?_ (keeps_int M)))


theorem leave_any (a b c : Value) (w : World) : Calls Tryz.prog 39 #[a, b, c] w fun e w' => e = .returned (.tuple #[]) ∧ w' = w := by
  go_enter Tryz.func39, Tryz.ntmps39
  go_wp2
  go_end0
  exact ⟨rfl, rfl⟩

/-- Numbers that stay where they stand. -/
def leaving (b : Nat) : Mode b where
  σ := Unit
  S := fun _ => False
  N := fun k => k = 0
  fn := vF 39
  I := fun _ _ w => b ≠ 0 ∧ Tab w
  eff := fun st _ _ old => .ok (old, st)
  tab := fun _ _ _ h => h.2
  stable := fun _ _ _ _ h f => ⟨h.1, h.2.fr f (fun e => h.1 e.symm)⟩

theorem wrap64_wrap (x : Int) : wrap64 x = IntKind.i64.wrap x := by
  rw [IntKind.wrap_i64]; unfold wrap64; omega

set_option maxRecDepth 100000 in
set_option maxHeartbeats 1000000 in
theorem next_leaves (b : Nat) (p : Addr) (at' : Int) (size : Nat) (w : World) (h0 : w.cell? ⟨b, 0, none⟩ = some (vF 39)) (h1 : w.cell? ⟨b, 1, none⟩ = some (vI at')) (f1 : w.frozen? ⟨b, 1, none⟩ = false) :
    Calls Tryz.prog 88 #[.pointer (some ⟨b, 0, none⟩), .pointer (some p), .int .i64 size] w fun e w' =>
      e = .returned (vI at') ∧ w' = w.setCell ⟨b, 1, none⟩ (vI (adv at' size)) := by
  unfold adv
  rw [← wrap64_wrap]
  go_enter Tryz.func88, Tryz.ntmps88
  go_wp2_with fail
  refine (leave_any _ _ _ _).mono ?_
  rintro e w' ⟨rfl, rfl⟩
  go_wp2_with fail
  go_ret
  exact ⟨rfl, rfl⟩

theorem set_get (s : WS) (o : Nat) : s.set o (s.get o) = s := by
  by_cases h146 : o = 146
  · subst h146; rfl
  by_cases h149 : o = 149
  · subst h149; rfl
  by_cases h150 : o = 150
  · subst h150; rfl
  by_cases h151 : o = 151
  · subst h151; rfl
  by_cases h153 : o = 153
  · subst h153; rfl
  by_cases h154 : o = 154
  · subst h154; rfl
  by_cases h155 : o = 155
  · subst h155; rfl
  by_cases h156 : o = 156
  · subst h156; rfl
  by_cases h157 : o = 157
  · subst h157; rfl
  by_cases h158 : o = 158
  · subst h158; rfl
  unfold WS.set WS.get
  rw [if_neg h146, if_neg h149, if_neg h150, if_neg h151, if_neg h153, if_neg h154, if_neg h155, if_neg h156, if_neg h157, if_neg h158, if_neg h146, if_neg h149, if_neg h150, if_neg h151, if_neg h153, if_neg h154, if_neg h155, if_neg h156, if_neg h157, if_neg h158]

theorem leaving_own (b : Nat) : NextOwn (leaving b) := by
  intro o ho x size w hx hs1 hs8
  obtain ⟨s, st⟩ := x
  obtain ⟨hl, hn, hI⟩ := hx
  simp only at hl hn hI
  have h0 : w.cell? ⟨b, 0, none⟩ = some (vF 39) := by rw [hl.facts.1, hn]; rfl
  refine (next_leaves b ⟨b, o, none⟩ s.at' size w h0 hl.facts.2.1 (hl.frozen 1)).mono ?_
  rintro e w' ⟨rfl, rfl⟩
  have hfr : Fr (fun k => k = b) w (w.setCell ⟨b, 1, none⟩ (vI (adv s.at' size))) := Fr.setCell (Fr.refl (fun k => k = b) w) _ _ (Or.inl rfl)
  refine ⟨hfr.mono (fun k _ hk => Or.inl hk), ?_⟩
  simp only [nextX, leaving, set_get]
  exact ⟨trivial, hl.setCell 1 _ (cells_at _ _), hn, (leaving b).stable () s.at' _ _ hI hfr⟩

end Go.Proofs.YtjmbfjaahadbhaaGreatDoor
