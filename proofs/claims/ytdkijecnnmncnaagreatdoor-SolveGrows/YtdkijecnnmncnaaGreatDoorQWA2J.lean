import Derived.Test.YtdkijecnnmncnaaGreatDoorQTxJ
import Derived.Laws.MathBits
import Derived.Laws.CopyOwn
import Derived.Laws.MakeOwn
namespace Go.Proofs.YtdkijecnnmncnaaGreatDoor.Wg
open Go.RowKit (wrap32 wrap64)
set_option linter.unusedVariables false
set_option linter.unusedSimpArgs false
set_option maxRecDepth 100000
set_option maxHeartbeats 1000000
theorem mul64_one (n : Nat) (hn : n ≤ 1048577) (w : World) : Calls Tryz.prog 190 #[.int .u64 1, .int .u64 n] w fun e w' => e = .returned (.tuple #[.int .u64 0, .int .u64 n]) ∧ w' = w := by
 have e1 : bits .and .u64 1 4294967295 = 1 := by kernel_rfl
 have e2 : bits .and .u64 (n : Int) 4294967295 = n := by rw [and_low32 _ (by omega) (by omega)]; omega
 have e3 : bits .and .u64 0 4294967295 = 0 := by kernel_rfl
 have e4 : (n : Int) / 4294967296 = 0 := by omega
 have e5 : IntKind.u64.wrap (n : Int) = n := by simp [IntKind.wrap, IntKind.bits, IntKind.signed]; omega
 have e6 : IntKind.u64.wrap (0 : Int) = 0 := by kernel_rfl
 go_enter Tryz.func190, Tryz.ntmps190
 go_wp2
 go_ret2
 exact ⟨rfl, rfl⟩
theorem mul_one (n : Nat) (hn : n ≤ 1048577) (w : World) : Calls Tryz.prog 152 #[.int .u64 1, .int .u64 n] w fun e w' => e = .returned (.tuple #[.int .u64 0, .int .u64 n]) ∧ w' = w := by
 go_enter Tryz.func152, Tryz.ntmps152
 go_wp2_with fail
 refine (mul64_one n hn w).mono ?_
 rintro e w1 ⟨rfl, rfl⟩
 go_wp2_with fail
 go_ret2
 exact ⟨rfl, rfl⟩
theorem run_make_of (t e : TypeId) (z : Value) (size bytes : Nat) (ht : Tryz.prog.underlying t = some (.slice e)) (hz : (Tryz.prog.info? e).map (·.zero) = some (some z)) (hs : (Tryz.prog.info? e).map (·.size) = some size) (hb : (Tryz.prog.info? e).map (·.bytes) = some bytes)
 (n : Nat) (hn : bytes * n ≤ 281474976710656) (hn' : n ≤ 1000000000000000) (w : World) :
 (Instr.makeSlice t (.int .i64 n) (.int .i64 n)).run Tryz.prog w = .ok (.slice (some ⟨w.heap.size, 0, none⟩) n n) (w.alloc (.cells (madeCells z.cells (n * size)) e)) := by
 cases hi : Tryz.prog.info? e with
 | none => rw [hi] at hz; cases hz
 | some i =>
   rw [hi] at hz hs hb
   simp only [Option.map_some, Option.some.injEq] at hz hs hb
   have := run_make (P := Tryz.prog) w t e i z ht hi hz .i64 .i64 n n (by omega) (by omega) (by rw [hb, ← Int.natCast_mul]; omega) (by omega)
   rw [this, hs]
   simp
theorem made_one (z : Value) (n : Nat) : madeCells #[z] n = (List.replicate n z).toArray := by
 unfold madeCells
 apply Array.ext
 ·simp
 ·intro i h1 h2
  simp [Nat.mod_one]
theorem under22 : Tryz.prog.underlying 30 = some (.slice 3) := by kernel_rfl
theorem size3 : (Tryz.prog.info? 3).map (·.size) = some 1 := by kernel_rfl
def nines (n k : Nat) : List Value := List.replicate k (vI 9) ++ List.replicate (n - k) (vI 0)
theorem nines_length (n k : Nat) (h : k ≤ n) : (nines n k).length = n := by simp [nines]; omega
theorem nines_zero (n : Nat) : nines n 0 = List.replicate n (vI 0) := by simp [nines]
theorem nines_all (n : Nat) : nines n n = List.replicate n (vI 9) := by simp [nines]
theorem nines_splice (n k m : Nat) (h : k + m ≤ n) : splice (nines n k) k (List.replicate m (vI 9)) = nines n (k + m) := by
 unfold splice nines
 rw [List.take_append_of_le_length (by simp), List.take_of_length_le (by simp), List.drop_append]
 simp only [List.length_replicate, List.drop_replicate]
 rw [show k - (k + m) = 0 by omega, show n - k - (k + m - k) = n - (k + m) by omega]
 rw [← List.append_assoc, List.replicate_append_replicate]
 simp
theorem nines_get (n k j : Nat) (h : j < k) : (nines n k)[j]? = some (vI 9) := by
 unfold nines
 rw [List.getElem?_append_left (by simpa using h)]
 simp [List.getElem?_replicate, h]
theorem below_fr {B : Nat} {w w' : World} (h : RowKit.Below B w w') (hB : B = w.heap.size) : Fr (fun _ => False) w w' :=
 ⟨h.os, h.tape, h.output, h.size, fun k hk _ => h.block k (by omega)⟩
theorem make_ints (n : Nat) (hn : n ≤ 10000000000000) (w : World) : (Instr.makeSlice 30 (.int .i64 n) (.int .i64 n)).run Tryz.prog w = .ok (.slice (some ⟨w.heap.size, 0, none⟩) n n) (w.alloc (.cells (Array.replicate n (vI 0)) 3)) := by
 rw [run_make_of 30 3 (vI 0) 1 8 under22 (by kernel_rfl) (by kernel_rfl) (by kernel_rfl) n (by omega) (by omega) w, Nat.mul_one]
 show Result.ok _ (w.alloc (.cells (madeCells #[vI 0] n) 3)) = _
 rw [made_one, List.toArray_replicate]
theorem copy_first (xb n : Nat) (w : World) (hxl : xb < w.heap.size) (hx : w.cell? ⟨xb, 0, none⟩ = some (vI 9)) :
 ∃ w2, (Builtin.copy_ #[30, 30] 3 #[.slice (some ⟨w.heap.size, 0, none⟩) n n, .slice (some ⟨xb, 0, none⟩) 1 1]).run Tryz.prog (w.alloc (.cells (Array.replicate n (vI 0)) 3)) = .ok (.int .i64 (min 1 n : Nat)) w2 ∧
  w2.heap[w.heap.size]? = some (.cells (nines n (min 1 n)).toArray 3) ∧ Fr (fun _ => False) w w2 := by
 have hg0 : (w.alloc (.cells (Array.replicate n (vI 0)) 3)).heap[w.heap.size]? = some (.cells (nines n 0).toArray 3) := by
  rw [heap_alloc_last, nines_zero, List.toArray_replicate]
 have hb0 : Fr (fun _ => False) w (w.alloc (.cells (Array.replicate n (vI 0)) 3)) := Fr.alloc (Fr.refl _ w) _
 have hsrc : ∀ j v, (List.replicate (min 1 n) (vI 9))[j]? = some v → (w.alloc (.cells (Array.replicate n (vI 0)) 3)).cell? ((⟨xb, 0, none⟩ : Addr).add j) = some v := by
  intro j v hj
  rw [List.getElem?_replicate] at hj
  split at hj
  ·rw [show j = 0 by omega]
   cases hj
   exact (hb0.cell (o := 0) hxl (fun h => h)).trans hx
  ·cases hj
 have hr := run_copy_row (P := Tryz.prog) (w.alloc (.cells (Array.replicate n (vI 0)) 3)) 30 30 3 3 w.heap.size 0 n n ⟨xb, 0, none⟩ 1 1 (nines n 0).toArray 3 (List.replicate (min 1 n) (vI 9)) under22 size3 hg0 (by simp) hsrc (by simp [nines_length]; omega) (by intro v hv; rw [List.eq_of_mem_replicate hv]; rfl)
 have e := nines_splice n 0 (min 1 n) (by omega)
 rw [Nat.zero_add] at e
 have e' : ((nines n 0).toArray.toList.take 0 ++ List.replicate (min 1 n) (vI 9) ++ (nines n 0).toArray.toList.drop (0 + (List.replicate (min 1 n) (vI 9)).length)) = nines n (min 1 n) := by rw [← e]; simp [splice]
 rw [e', List.length_replicate] at hr
 refine ⟨_, hr, setRow_heap _ _ _ _ _ _ hg0, rfl, rfl, rfl, by simp [World.setRow], fun k hk _ => ?_⟩
 rw [setRow_other _ _ _ _ (by omega)]
 exact RowKit.Below.heap_alloc w _ k hk
theorem repeat_nine (xb : Nat) (n : Nat) (hn : n ≤ 1048576) (w : World) (hx : w.cell? ⟨xb, 0, none⟩ = some (vI 9)) :
 Calls Tryz.prog 119 #[.slice (some ⟨xb, 0, none⟩) 1 1, .int .i64 n] w fun e w' => e = .returned (.slice (some ⟨w.heap.size, 0, none⟩) n n) ∧ w'.heap[w.heap.size]? = some (.cells (List.replicate n (vI 9)).toArray 3) ∧ Fr (fun _ => False) w w' := by
 have e1 : IntKind.u64.wrap (n : Int) = n := by simp [IntKind.wrap, IntKind.bits, IntKind.signed]; omega
 have e0 : ¬ (n : Int) < 0 := by omega
 have hxl : xb < w.heap.size := World.block_lt_of_cell? w ⟨xb, 0, none⟩ hx
 have hmk := make_ints n (by omega) w
 obtain ⟨w2, hcp, hN2, hF2⟩ := copy_first xb n w hxl hx
 have HN2 : Hd _ := hN2
 have HF2 : Hd _ := hF2
 clear hN2 hF2 hx
 go_enter Tryz.func119, Tryz.ntmps119
 go_wp2_with fail
 refine (mul_one n (by omega) w).mono ?_
 rintro e w1 ⟨rfl, rfl⟩
 go_wp2_with fail
 clear hmk hcp
 obtain ⟨g, hg⟩ : ∃ g, g = w1.heap.size := ⟨_, rfl⟩
 have HG : Hd (g = w1.heap.size) := hg
 rw [← hg] at HN2 ⊢
 clear hg
 obtain ⟨m0, hm0⟩ : ∃ m, m = min 1 n := ⟨_, rfl⟩
 have HM0 : Hd (m0 = min 1 n) := hm0
 rw [← hm0] at HN2 ⊢
 clear hm0
 go_loopw [8] (fun v wr => ∃ (k : Nat), v = .int .i64 k ∧ k ≤ n ∧ (k = 0 → n = 0) ∧ Hd (wr.heap[g]? = some (.cells (nines n k).toArray 3)) ∧ Hd (Fr (fun _ => False) w1 wr)) (fun v _ => match v with | .int _ q => n - q.toNat | _ => 0)
 case atStart => exact ⟨m0, rfl, by have := HM0.out; omega, by have := HM0.out; omega, HN2.out, HF2.out⟩
 case round =>
  obtain ⟨k, rfl, hk, hk0, HN, HF⟩ := hrel
  clear HN2 HF2
  by_cases hlt : k < n
  ·have hkp : 0 < k := by omega
   have hsrc : ∀ j v, (List.replicate (min k (n - k)) (vI 9))[j]? = some v → wr.cell? ((⟨g, 0, none⟩ : Addr).add j) = some v := by
    intro j v hj
    rw [List.getElem?_replicate] at hj
    split at hj
    ·cases hj
     rw [addr_add, cell_of HN.out]
     rw [List.getElem?_toArray]
     exact nines_get n k j (by omega)
    ·cases hj
   have HSR : Hd _ := hsrc
   have hki : (0 : Int) ≤ k := by omega
   have hki1 : (k : Int) ≤ n := by omega
   have HB : Hd (RowKit.Below w1.heap.size w1 wr.drew) := ⟨HF.out.os, HF.out.tape, HF.out.output, HF.out.size, fun k hk => HF.out.block k hk (fun h => h)⟩
   clear hsrc
   go_wp2_with fail
   go_region_law (
    refine step_copy_splice rfl (.tmp 41) (.tmp 44) 30 30 rfl 3 under22 size3 (some ⟨g, k, none⟩) (some ⟨g, 0, none⟩) (n - k) (n - k) k n (by simp [Act.eval, Act.put]; try omega) (by simp [Act.eval, Act.put]; try omega) g k (nines n k) 3 HN.out (List.replicate (min k (n - k)) (vI 9)) (by simp) (fun _ => ⟨rfl, _, rfl, HSR.out⟩) (by rw [nines_length _ _ (by omega), List.length_replicate]; omega) (by intro v hv; rw [List.eq_of_mem_replicate hv]; rfl) w1.heap.size w1 HB.out (by rw [HG.out]; exact Nat.le_refl _) ?_
    intro w3 HG3 HB3)
   all_goals
    have HF3 : Hd (Fr (fun _ => False) w1 w3) := below_fr HB3 rfl
    have HN3 : Hd (w3.heap[g]? = some (.cells (nines n (k + min k (n - k))).toArray 3)) := by
     have := HG3.out
     rw [nines_splice n k (min k (n - k)) (by omega)] at this
     exact this
    clear HG3 HB3 HN HF HSR HB
    obtain ⟨q, hq⟩ : ∃ q, q = min k (n - k) := ⟨_, rfl⟩
    try simp only [List.length_replicate, goInt]
    rw [← hq] at HN3 ⊢
    have hq0 : 0 < q := by omega
    have hq1 : k + q ≤ n := by omega
    clear hq
    have hw : IntKind.i64.wrap ((k : Int) + (q : Int)) = ((k + q : Nat) : Int) := by simp [IntKind.wrap, IntKind.bits, IntKind.signed]; omega
    go_wp2_with fail
    refine ⟨⟨k + q, by simp, hq1, by omega, ?_⟩, by omega⟩
    first
     | exact ⟨HN3.out, HF3.out⟩
     | exact HN3.out
  ·have hke : k = n := by omega
   subst hke
   go_wp2_with fail
   go_ret
   exact ⟨by rw [HG.out]; rfl, by have := HN.out; rw [nines_all] at this; rw [← HG.out]; exact this, HF.out⟩
end Go.Proofs.YtdkijecnnmncnaaGreatDoor.Wg
namespace Go.Proofs.YtdkijecnnmncnaaGreatDoor.Wg
set_option linter.unusedVariables false
set_option linter.unusedSimpArgs false
def eg (es : List Ed) (j : Nat) : Ed := es.getD j (0, 0, 0)
def dn (es : List Ed) (j : Nat) : Nat := (eg es j).1.toNat
def cnt (es : List Ed) : Nat → Nat → Nat
 | 0, _ => 0
 | i + 1, l => cnt es i l + if dn es i = l then 1 else 0
def beg (es : List Ed) : Nat → Nat
 | 0 => 0
 | l + 1 => beg es l + cnt es es.length l
def pos (es : List Ed) (j : Nat) : Nat := beg es (dn es j + 1) - 1 - cnt es j (dn es j)
theorem cnt_mono (es : List Ed) (l : Nat) {i j : Nat} (h : i ≤ j) : cnt es i l ≤ cnt es j l := by
 induction j with
 | zero => rw [show i = 0 by omega]; exact Nat.le_refl _
 | succ j ih =>
   by_cases e : i = j + 1
   ·rw [e]; exact Nat.le_refl _
   ·have := ih (by omega)
    simp only [cnt]
    omega
theorem cnt_lt (es : List Ed) {i j : Nat} (h : i < j) : cnt es i (dn es i) < cnt es j (dn es i) := by
 have := cnt_mono es (dn es i) (show i + 1 ≤ j from h)
 simp only [cnt, if_true] at this
 omega
theorem beg_mono (es : List Ed) {i j : Nat} (h : i ≤ j) : beg es i ≤ beg es j := by
 induction j with
 | zero => rw [show i = 0 by omega]; exact Nat.le_refl _
 | succ j ih =>
   by_cases e : i = j + 1
   ·rw [e]; exact Nat.le_refl _
   ·have := ih (by omega)
    simp only [beg]
    omega
theorem cnt_hits (es : List Ed) (l : Nat) : ∀ (N k : Nat), k < cnt es N l → ∃ j, j < N ∧ dn es j = l ∧ cnt es j l = k
 | 0, k, h => by simp [cnt] at h
 | N + 1, k, h => by
   by_cases hk : k < cnt es N l
   ·obtain ⟨j, h1, h2⟩ := cnt_hits es l N k hk
    exact ⟨j, by omega, h2⟩
   ·simp only [cnt] at h
    split at h
    ·rename_i e
     exact ⟨N, by omega, e, by omega⟩
    ·omega
def sumTo (f : Nat → Nat) : Nat → Nat
 | 0 => 0
 | l + 1 => sumTo f l + f l
theorem sumTo_congr {f g : Nat → Nat} : ∀ {n : Nat}, (∀ l, l < n → f l = g l) → sumTo f n = sumTo g n
 | 0, _ => rfl
 | n + 1, h => by simp only [sumTo]; rw [sumTo_congr (fun l hl => h l (by omega)), h n (by omega)]
theorem sumTo_add (f g : Nat → Nat) : ∀ n, sumTo (fun l => f l + g l) n = sumTo f n + sumTo g n
 | 0 => rfl
 | n + 1 => by simp only [sumTo]; rw [sumTo_add f g n]; omega
theorem sumTo_zero : ∀ n, sumTo (fun _ => 0) n = 0
 | 0 => rfl
 | n + 1 => by simp only [sumTo]; rw [sumTo_zero n]
theorem sumTo_ite (d : Nat) : ∀ n, sumTo (fun l => if d = l then 1 else 0) n = if d < n then 1 else 0
 | 0 => by simp [sumTo]
 | n + 1 => by
   simp only [sumTo]
   rw [sumTo_ite d n]
   by_cases h1 : d < n
   ·rw [if_pos h1, if_neg (by omega), if_pos (by omega)]
   ·by_cases h2 : d = n
    ·rw [if_neg h1, if_pos h2, if_pos (by omega)]
    ·rw [if_neg h1, if_neg h2, if_neg (by omega)]
theorem beg_sum (es : List Ed) : ∀ n, beg es n = sumTo (cnt es es.length) n
 | 0 => rfl
 | n + 1 => by simp only [beg, sumTo]; rw [beg_sum es n]
theorem cnt_sum (es : List Ed) (n : Nat) : ∀ i, (∀ j, j < i → dn es j < n) → sumTo (cnt es i) n = i
 | 0, _ => sumTo_zero n
 | i + 1, h => by
   have e : sumTo (cnt es (i + 1)) n = sumTo (fun l => cnt es i l + if dn es i = l then 1 else 0) n := rfl
   rw [e, sumTo_add, cnt_sum es n i (fun j hj => h j (by omega)), sumTo_ite, if_pos (h i (by omega))]
theorem cnt_none (es : List Ed) (l : Nat) : ∀ i, (∀ j, j < i → dn es j ≠ l) → cnt es i l = 0
 | 0, _ => rfl
 | i + 1, h => by
   simp only [cnt]
   rw [cnt_none es l i (fun j hj => h j (by omega)), if_neg (h i (by omega))]
section
variable {n : Nat} {es : List Ed}
theorem eg_mem {j : Nat} (hj : j < es.length) : eg es j ∈ es := by
 unfold eg
 rw [List.getD_eq_getElem?_getD, List.getElem?_eq_getElem hj]
 exact List.getElem_mem hj
theorem dn_lt (hR : ∀ e ∈ es, RightE n e) {j : Nat} (hj : j < es.length) : dn es j < n ∧ ((dn es j : Nat) : Int) = (eg es j).1 := by
 have := (hR _ (eg_mem hj)).1
 unfold dn
 omega
theorem beg_all (hR : ∀ e ∈ es, RightE n e) : beg es n = es.length := by
 rw [beg_sum]
 exact cnt_sum es n es.length (fun j hj => (dn_lt hR hj).1)
theorem beg_more (hR : ∀ e ∈ es, RightE n e) : beg es (n + 1) = es.length := by
 simp only [beg]
 rw [beg_all hR, cnt_none es n es.length (fun j hj => by have := (dn_lt hR hj).1; omega)]
 rfl
theorem pos_in {j : Nat} (hj : j < es.length) : beg es (dn es j) ≤ pos es j ∧ pos es j < beg es (dn es j + 1) ∧ pos es j + 1 + cnt es j (dn es j) = beg es (dn es j + 1) := by
 have h1 := cnt_lt es hj
 have h2 : beg es (dn es j + 1) = beg es (dn es j) + cnt es es.length (dn es j) := rfl
 unfold pos
 omega
theorem pos_lt (hR : ∀ e ∈ es, RightE n e) {j : Nat} (hj : j < es.length) : pos es j < es.length := by
 have h1 := (pos_in hj).2.1
 have h2 := beg_mono es (show dn es j + 1 ≤ n from (dn_lt hR hj).1)
 rw [beg_all hR] at h2
 omega
theorem pos_ne {i j : Nat} (hj : j < i) (hi : i < es.length) : pos es j ≠ pos es i := by
 have h1 := pos_in (show j < es.length by omega)
 have h2 := pos_in hi
 rcases Nat.lt_trichotomy (dn es j) (dn es i) with h | h | h
 ·have := beg_mono es (show dn es j + 1 ≤ dn es i from h)
  omega
 ·have := cnt_lt es hj
  rw [h] at this h1
  omega
 ·have := beg_mono es (show dn es i + 1 ≤ dn es j from h)
  omega
end
structure ByD (n : Nat) (es : List Ed) (A : Nat → Ed) (F : Nat → Nat) : Prop where
 le : ∀ l, l < n → F l ≤ F (l + 1)
 top : ∀ l, l ≤ n → F l ≤ es.length
 just : ∀ l p, l < n → F l ≤ p → p < F (l + 1) → A p ∈ es ∧ (A p).1 = l
 all : ∀ l e, l < n → e ∈ es → e.1 = (l : Nat) → ∃ p, F l ≤ p ∧ p < F (l + 1) ∧ A p = e
theorem ByD.mk' {n : Nat} {es : List Ed} {A : Nat → Ed} (hR : ∀ e ∈ es, RightE n e) (hA : ∀ j, j < es.length → A (pos es j) = eg es j) : ByD n es A (beg es) where
 le := fun l _ => beg_mono es (Nat.le_succ l)
 top := fun l hl => by have := beg_mono es hl; rw [beg_all hR] at this; exact this
 just := by
  intro l p hl h1 h2
  have h3 : beg es (l + 1) = beg es l + cnt es es.length l := rfl
  obtain ⟨j, hj, h4, h5⟩ := cnt_hits es l es.length (beg es (l + 1) - 1 - p) (by omega)
  have h6 : pos es j = p := by unfold pos; rw [h4, h5]; omega
  have h7 := hA j hj
  rw [h6] at h7
  rw [h7]
  exact ⟨eg_mem hj, by rw [← (dn_lt hR hj).2, h4]⟩
 all := by
  intro l e hl he hd
  obtain ⟨j, hj, rfl⟩ := List.getElem_of_mem he
  have e1 : eg es j = es[j] := by unfold eg; rw [List.getD_eq_getElem?_getD, List.getElem?_eq_getElem hj]; rfl
  have e2 : dn es j = l := by unfold dn; rw [e1, hd]; simp
  have h1 := pos_in hj
  rw [e2] at h1
  exact ⟨pos es j, h1.1, h1.2.1, by rw [hA j hj, e1]⟩
end Go.Proofs.YtdkijecnnmncnaaGreatDoor.Wg
