import Derived.Test.YtdkijecnnmncnaaQA1J
import Derived.Laws.MathBits
import Derived.Laws.CopyOwn
import Derived.Laws.MakeOwn
import Derived.Test.YtdkijecnnmncnaaQA5J
namespace Go.Proofs.Ytdkijecnnmncnaa
open Go.RowKit (wrap32 wrap64)
set_option linter.unusedVariables false
set_option linter.unusedSimpArgs false

theorem mul64_one (n : Nat) (hn : n ≤ 1048577) (w : World) : Calls Try.prog 27 #[.int .u64 1, .int .u64 n] w fun e w' => e = .returned (.tuple #[.int .u64 0, .int .u64 n]) ∧ w' = w := by
  have e1 : bits .and .u64 1 4294967295 = 1 := by kernel_rfl
  have e2 : bits .and .u64 (n : Int) 4294967295 = n := by rw [and_low32 _ (by omega) (by omega)]; omega
  have e3 : bits .and .u64 0 4294967295 = 0 := by kernel_rfl
  have e4 : (n : Int) / 4294967296 = 0 := by omega
  have e5 : IntKind.u64.wrap (n : Int) = n := by simp [IntKind.wrap, IntKind.bits, IntKind.signed]; omega
  have e6 : IntKind.u64.wrap (0 : Int) = 0 := by kernel_rfl
  go_enter Try.func27, Try.ntmps27
  go_wp2
  go_ret2
  exact ⟨rfl, rfl⟩

theorem mul_one (n : Nat) (hn : n ≤ 1048577) (w : World) : Calls Try.prog 24 #[.int .u64 1, .int .u64 n] w fun e w' => e = .returned (.tuple #[.int .u64 0, .int .u64 n]) ∧ w' = w := by
  go_enter Try.func24, Try.ntmps24
  go_wp2_with fail
  refine (mul64_one n hn w).mono ?_
  rintro e w1 ⟨rfl, rfl⟩
  go_wp2_with fail
  go_ret2
  exact ⟨rfl, rfl⟩

theorem made_one (z : Value) (n : Nat) : madeCells #[z] n = (List.replicate n z).toArray := by
  unfold madeCells
  apply Array.ext
  · simp
  · intro i h1 h2
    simp [Nat.mod_one]

theorem under27r : Try.prog.underlying 27 = some (.slice 3) := by kernel_rfl
theorem size3 : (Try.prog.info? 3).map (·.size) = some 1 := by kernel_rfl

/-- So many of n are 9. -/
def nines (n k : Nat) : List Value := List.replicate k (vI 9) ++ List.replicate (n - k) (vI 0)
theorem nines_length (n k : Nat) (h : k ≤ n) : (nines n k).length = n := by simp [nines]; omega
theorem nines_zero (n : Nat) : nines n 0 = List.replicate n (vI 0) := by simp [nines]
theorem nines_all (n : Nat) : nines n n = List.replicate n (vI 9) := by simp [nines]
theorem nines_splice (n k m : Nat) (h : k + m ≤ n) : splice (nines n k) k (List.replicate m (vI 9)) = nines n (k + m) := by
  unfold splice nines
  rw [List.take_append_of_le_length (by simp), List.take_of_length_le (by simp), List.drop_append]
  simp only [List.length_replicate, List.drop_replicate]
  rw [show k - (k + m) = 0 by omega, show n - k - (k + m - k) = n - (k + m) by omega]
  rw [← List.append_assoc, List.replicate_append_replicate]
  simp
theorem nines_get (n k j : Nat) (h : j < k) : (nines n k)[j]? = some (vI 9) := by
  unfold nines
  rw [List.getElem?_append_left (by simpa using h)]
  simp [List.getElem?_replicate, h]

theorem below_fr {B : Nat} {w w' : World} (h : RowKit.Below B w w') (hB : B = w.heap.size) : Fr (fun _ => False) w w' :=
  ⟨h.os, h.tape, h.output, h.size, fun k hk _ => h.block k (by omega)⟩

theorem make_ints (n : Nat) (hn : n ≤ 10000000000000) (w : World) : (Instr.makeSlice 27 (.int .i64 n) (.int .i64 n)).run Try.prog w = .ok (.slice (some ⟨w.heap.size, 0, none⟩) n n) (w.alloc (.cells (Array.replicate n (vI 0)) 3)) := by
  rw [run_make_of 27 3 (vI 0) 1 8 under27r (by kernel_rfl) (by kernel_rfl) (by kernel_rfl) n (by omega) (by omega) w, Nat.mul_one]
  show Result.ok _ (w.alloc (.cells (madeCells #[vI 0] n) 3)) = _
  rw [made_one, List.toArray_replicate]

/-- The first copy. -/
theorem copy_first (xb n : Nat) (w : World) (hxl : xb < w.heap.size) (hx : w.cell? ⟨xb, 0, none⟩ = some (vI 9)) :
    ∃ w2, (Builtin.copy_ #[27, 27] 3 #[.slice (some ⟨w.heap.size, 0, none⟩) n n, .slice (some ⟨xb, 0, none⟩) 1 1]).run Try.prog (w.alloc (.cells (Array.replicate n (vI 0)) 3)) = .ok (.int .i64 (min 1 n : Nat)) w2 ∧
      w2.heap[w.heap.size]? = some (.cells (nines n (min 1 n)).toArray 3) ∧ Fr (fun _ => False) w w2 := by
  have hg0 : (w.alloc (.cells (Array.replicate n (vI 0)) 3)).heap[w.heap.size]? = some (.cells (nines n 0).toArray 3) := by
    rw [heap_new, nines_zero, List.toArray_replicate]
  have hb0 : Fr (fun _ => False) w (w.alloc (.cells (Array.replicate n (vI 0)) 3)) := Fr.alloc (Fr.refl _ w) _
  have hsrc : ∀ j v, (List.replicate (min 1 n) (vI 9))[j]? = some v → (w.alloc (.cells (Array.replicate n (vI 0)) 3)).cell? ((⟨xb, 0, none⟩ : Addr).add j) = some v := by
    intro j v hj
    rw [List.getElem?_replicate] at hj
    split at hj
    · rw [show j = 0 by omega]
      cases hj
      exact (hb0.cell (o := 0) hxl (fun h => h)).trans hx
    · cases hj
  have hr := run_copy_row (P := Try.prog) (w.alloc (.cells (Array.replicate n (vI 0)) 3)) 27 27 3 3 w.heap.size 0 n n ⟨xb, 0, none⟩ 1 1 (nines n 0).toArray 3 (List.replicate (min 1 n) (vI 9)) under27r size3 hg0 (by simp) hsrc (by simp [nines_length]; omega) (by intro v hv; rw [List.eq_of_mem_replicate hv]; rfl)
  have e := nines_splice n 0 (min 1 n) (by omega)
  rw [Nat.zero_add] at e
  have e' : ((nines n 0).toArray.toList.take 0 ++ List.replicate (min 1 n) (vI 9) ++ (nines n 0).toArray.toList.drop (0 + (List.replicate (min 1 n) (vI 9)).length)) = nines n (min 1 n) := by rw [← e]; simp [splice]
  rw [e', List.length_replicate] at hr
  refine ⟨_, hr, setRow_heap _ _ _ _ _ _ hg0, rfl, rfl, rfl, by simp [World.setRow], fun k hk _ => ?_⟩
  rw [setRow_other _ _ _ _ (by omega)]
  exact RowKit.Below.heap_alloc w _ k hk

set_option maxRecDepth 100000 in
set_option maxHeartbeats 1000000 in
theorem repeat_nine (xb : Nat) (n : Nat) (hn : n ≤ 1048576) (w : World) (hx : w.cell? ⟨xb, 0, none⟩ = some (vI 9)) :
    Calls Try.prog 21 #[.slice (some ⟨xb, 0, none⟩) 1 1, .int .i64 n] w fun e w' => e = .returned (.slice (some ⟨w.heap.size, 0, none⟩) n n) ∧ w'.heap[w.heap.size]? = some (.cells (List.replicate n (vI 9)).toArray 3) ∧ Fr (fun _ => False) w w' := by
  have e1 : IntKind.u64.wrap (n : Int) = n := by simp [IntKind.wrap, IntKind.bits, IntKind.signed]; omega
  have e0 : ¬ (n : Int) < 0 := by omega
  have hxl : xb < w.heap.size := World.block_lt_of_cell? w ⟨xb, 0, none⟩ hx
  have hmk := make_ints n (by omega) w
  obtain ⟨w2, hcp, hN2, hF2⟩ := copy_first xb n w hxl hx
  have HN2 : Hd _ := hN2
  have HF2 : Hd _ := hF2
  clear hN2 hF2 hx
  go_enter Try.func21, Try.ntmps21
  go_wp2_with fail
  refine (mul_one n (by omega) w).mono ?_
  rintro e w1 ⟨rfl, rfl⟩
  go_wp2_with fail
  clear hmk hcp
  obtain ⟨g, hg⟩ : ∃ g, g = w1.heap.size := ⟨_, rfl⟩
  have HG : Hd (g = w1.heap.size) := hg
  rw [← hg] at HN2 ⊢
  clear hg
  obtain ⟨m0, hm0⟩ : ∃ m, m = min 1 n := ⟨_, rfl⟩
  have HM0 : Hd (m0 = min 1 n) := hm0
  rw [← hm0] at HN2 ⊢
  clear hm0
  go_loopw [8] (fun v wr => ∃ (k : Nat), v = .int .i64 k ∧ k ≤ n ∧ (k = 0 → n = 0) ∧ Hd (wr.heap[g]? = some (.cells (nines n k).toArray 3)) ∧ Hd (Fr (fun _ => False) w1 wr)) (fun v _ => match v with | .int _ q => n - q.toNat | _ => 0)
  case atStart => exact ⟨m0, rfl, by have := HM0.out; omega, by have := HM0.out; omega, HN2.out, HF2.out⟩
  case round =>
    obtain ⟨k, rfl, hk, hk0, HN, HF⟩ := hrel
    clear HN2 HF2
    by_cases hlt : k < n
    · have hkp : 0 < k := by omega
      have hsrc : ∀ j v, (List.replicate (min k (n - k)) (vI 9))[j]? = some v → wr.cell? ((⟨g, 0, none⟩ : Addr).add j) = some v := by
        intro j v hj
        rw [List.getElem?_replicate] at hj
        split at hj
        · cases hj
          rw [addr_add, cell_of HN.out]
          rw [List.getElem?_toArray]
          exact nines_get n k j (by omega)
        · cases hj
      have HSR : Hd _ := hsrc
      have hki : (0 : Int) ≤ k := by omega
      have hki1 : (k : Int) ≤ n := by omega
      have HB : Hd (RowKit.Below w1.heap.size w1 wr.drew) := ⟨HF.out.os, HF.out.tape, HF.out.output, HF.out.size, fun k hk => HF.out.block k hk (fun h => h)⟩
      clear hsrc
      go_wp2_with fail
      go_region_law (
        refine step_copy_splice rfl (.tmp 41) (.tmp 44) 27 27 rfl 3 under27r size3 (some ⟨g, k, none⟩) (some ⟨g, 0, none⟩) (n - k) (n - k) k n (by simp [Act.eval, Act.put]; try omega) (by simp [Act.eval, Act.put]; try omega) g k (nines n k) 3 HN.out (List.replicate (min k (n - k)) (vI 9)) (by simp) (fun _ => ⟨rfl, _, rfl, HSR.out⟩) (by rw [nines_length _ _ (by omega), List.length_replicate]; omega) (by intro v hv; rw [List.eq_of_mem_replicate hv]; rfl) w1.heap.size w1 HB.out (by rw [HG.out]; exact Nat.le_refl _) ?_
        intro w3 HG3 HB3)
      all_goals
        have HF3 : Hd (Fr (fun _ => False) w1 w3) := below_fr HB3 rfl
        have HN3 : Hd (w3.heap[g]? = some (.cells (nines n (k + min k (n - k))).toArray 3)) := by
          have := HG3.out
          rw [nines_splice n k (min k (n - k)) (by omega)] at this
          exact this
        clear HG3 HB3 HN HF HSR HB
        obtain ⟨q, hq⟩ : ∃ q, q = min k (n - k) := ⟨_, rfl⟩
        try simp only [List.length_replicate, goInt]
        rw [← hq] at HN3 ⊢
        have hq0 : 0 < q := by omega
        have hq1 : k + q ≤ n := by omega
        clear hq
        have hw : IntKind.i64.wrap ((k : Int) + (q : Int)) = ((k + q : Nat) : Int) := by simp [IntKind.wrap, IntKind.bits, IntKind.signed]; omega
        go_wp2_with fail
        refine ⟨⟨k + q, by simp, hq1, by omega, ?_⟩, by omega⟩
        first
          | exact ⟨HN3.out, HF3.out⟩
          | exact HN3.out
    · have hke : k = n := by omega
      subst hke
      go_wp2_with fail
      go_ret
      exact ⟨by rw [HG.out]; rfl, by have := HN.out; rw [nines_all] at this; rw [← HG.out]; exact this, HF.out⟩

end Go.Proofs.Ytdkijecnnmncnaa

namespace Go.Proofs.Ytdkijecnnmncnaa
open Go.RowKit (wrap32 wrap64)
set_option linter.unusedVariables false
set_option linter.unusedSimpArgs false

/-! ### lists with marks behind them -/
def mks (m : Int) (k : Nat) : List Int := (List.range k).map (fun (i : Nat) => m - (i : Int))
theorem mks_len (m : Int) (k : Nat) : (mks m k).length = k := by simp [mks]
theorem mks_succ (m : Int) (k : Nat) : mks m (k + 1) = mks m k ++ [m - (k : Int)] := by simp [mks, List.range_succ]
theorem mks_get (m : Int) (n k : Nat) (h : k < n) : (mks m n)[k]? = some (m - (k : Int)) := by simp [mks, h]
/-- Numbers of one's own, with 64 marks behind. -/
def SI (w : World) (B : Nat) (v : Value) (l : List Int) (m : Int) : Prop :=
  ∃ g cap, v = .slice (some ⟨g, 0, none⟩) l.length cap ∧ l.length + 64 ≤ cap ∧ IOwn w B (.slice (some ⟨g, 0, none⟩) (l.length + 64) cap) (l ++ mks m 64)
theorem SI.fr {S : Nat → Prop} {w w' : World} {B : Nat} {v : Value} {l : List Int} {m : Int} (h : SI w B v l m) (f : Fr S w w') (hS : ∀ k, v.ownBlock = some k → ¬ S k) : SI w' B v l m := by
  obtain ⟨g, cap, rfl, hc, h⟩ := h
  exact ⟨g, cap, rfl, hc, h.fr f (fun k e => hS k e)⟩
theorem SI.stay {w w' : World} {B : Nat} {v : Value} {l : List Int} {m : Int} (h : SI w B v l m) (f : Fr (fun _ => False) w w') : SI w' B v l m := h.fr f (fun _ _ e => e)
theorem SI.mono {w : World} {B B' : Nat} {v : Value} {l : List Int} {m : Int} (h : SI w B v l m) (hB : B' ≤ B) : SI w B' v l m := by
  obtain ⟨g, cap, rfl, hc, h⟩ := h
  exact ⟨g, cap, rfl, hc, h.mono hB⟩
theorem SI.ge {w : World} {B : Nat} {v : Value} {l : List Int} {m : Int} (h : SI w B v l m) : ∀ k, v.ownBlock = some k → B ≤ k ∧ k < w.heap.size := by
  obtain ⟨g, cap, rfl, hc, h⟩ := h
  exact fun k e => h.ge k e
theorem SI.cell {w : World} {B : Nat} {v : Value} {l : List Int} {m : Int} {g cap : Nat} (h : IOwn w B (.slice (some ⟨g, 0, none⟩) (l.length + 64) cap) (l ++ mks m 64)) {j : Nat} {z : Int} (hj : (l ++ mks m 64)[j]? = some z) : w.cell? ⟨g, j, none⟩ = some (vI z) := by
  obtain ⟨g', cap', e, -, hc⟩ := own_cell h (j := j) (u := vI z) (by rw [List.getElem?_map, hj]; rfl)
  simp at e
  obtain ⟨e1, -, -⟩ := e
  rw [e1]; exact hc
theorem SI.ia {w : World} {B : Nat} {v : Value} {l : List Int} {m : Int} (h : SI w B v l m) : IA w v l := by
  have hg := h.ge
  obtain ⟨g, cap, rfl, hc, h⟩ := h
  refine ⟨_, cap, rfl, fun _ => ⟨g, 0, rfl, (hg g rfl).2, fun j hj => ?_⟩⟩
  rw [Nat.zero_add]
  exact SI.cell (v := .slice none 0 0) h (by rw [List.getElem?_append_left hj]; exact List.getElem?_eq_getElem hj)

set_option maxRecDepth 100000 in
set_option maxHeartbeats 1000000 in
theorem room_any (v : Value) (l : List Int) (m : Int) (w : World) (hl : IA w v l) (hn : l.length ≤ 3000000000) (hm : -1000 ≤ m) (hm0 : m ≤ 0) :
    Calls Try.prog 13 #[v, vI m] w fun e w' => ∃ v', e = .returned v' ∧ SI w' w.heap.size v' l m ∧ Fr (fun _ => False) w w' := by
  obtain ⟨a, c, rfl, -⟩ := id hl
  obtain ⟨i3, hi3, hz3, hs3, hb3⟩ := info_parts (P := Try.prog) (e := 3) (z := .int .i64 0) (size := 1) (bytes := 8) (by kernel_rfl)
  have HL : Hd (IA w (.slice a l.length c) l) := hl
  clear hl
  go_enter Try.func13, Try.ntmps13
  go_wp2_with fail
  refine (show Calls Try.prog 20 #[.slice a l.length c] w _ from copyInts_any _ l w HL.out (by omega)).mono ?_
  rintro e w1 ⟨v1, rfl, hv1, hF1⟩
  have HV : Hd (IOwn w1 w.heap.size v1 (l ++ mks m 0)) := by unfold Hd; simpa [mks] using hv1
  have HF : Hd (Fr (fun _ => False) w w1) := hF1
  clear hv1 hF1
  go_wp2_with fail
  go_loopw [5, 6] (fun mv v wr => ∃ (k : Nat), v = .int .i64 k ∧ k ≤ 64 ∧ Hd (IOwn wr w.heap.size mv (l ++ mks m k)) ∧ Hd (Fr (fun _ => False) w wr)) (fun _ v _ => match v with | .int _ q => 64 - q.toNat | _ => 0)
  case atStart => exact ⟨0, rfl, by omega, HV.out, HF.out⟩
  case round =>
    clear HV HF
    obtain ⟨k, rfl, hk, HO, HF⟩ := hrel
    by_cases hlt : k < 64
    · have hk0 : (0 : Int) ≤ k := by omega
      have hk1 : (k : Int) < 64 := by omega
      have hsz := HF.out.size
      have hw : IntKind.i64.wrap (m - (k : Int)) = m - (k : Int) := by simp [IntKind.wrap, IntKind.bits, IntKind.signed]; omega
      have HO1 : Hd ((wr.alloc (.cells #[vI (m - (k : Int))] 3)).ownsRow w.heap.size 3 1 u5 (l ++ mks m k).length ((l ++ mks m k).map vI)) := World.ownsRow.alloc HO.out _
      have hnews : ∀ j u, [vI (m - (k : Int))][j]? = some u → (wr.alloc (.cells #[vI (m - (k : Int))] 3)).cell? ((⟨wr.heap.size, 0, none⟩ : Addr).add j) = some u :=
        World.news_of_block (cs := #[vI (m - (k : Int))]) (heap_new wr (.cells #[vI (m - (k : Int))] 3))
      have hbase : w.heap.size ≤ (wr.alloc (.cells #[vI (m - (k : Int))] 3)).heap.size := by simp; omega
      have hEl : (l ++ mks m k).length + 1 ≤ 3000000065 := by rw [List.length_append, mks_len]; omega
      obtain ⟨E, hE⟩ : ∃ E, E = l ++ mks m k := ⟨_, rfl⟩
      have HE : Hd (E ++ [m - (k : Int)] = l ++ mks m (k + 1)) := by unfold Hd; rw [hE, mks_succ, List.append_assoc]
      rw [← hE] at HO1 hEl HO
      clear hE
      go_wp2_with ((at_builtin; refine Hd.out ?_))
      unfold Hd
      refine wpList_append_lies _ rfl (.tmp 13) (.tmp 17) 27 rfl w.heap.size 3 i3 (.int .i64 0) 1 8 under27 hi3 hz3 hs3 hb3 rfl (by omega) u5 E.length _ rfl HO1.out ⟨wr.heap.size, 0, none⟩ 1 1 [vI (m - (k : Int))] rfl rfl hnews (by intro u hu; simp at hu; subst hu; rfl) (by omega) (by unfold maxLen; omega) (by omega) hbase (wr.heap.size + 1) (by simp) ?_
      intro g6 cap6 w6 hown6 hgrow6 hat6 hlt6
      have HO6 : Hd (IOwn w6 w.heap.size (.slice (some ⟨g6, 0, none⟩) (E.length + 1) cap6) (E ++ [m - (k : Int)])) := by unfold Hd IOwn; rw [List.map_append, List.length_append]; exact hown6
      have HF6 : Hd (Fr (fun _ => False) w w6) := grow_fr0 (HF.out.alloc _) hgrow6 (fun k hk => (HO.out.ge k hk).1)
      clear hown6 hgrow6 hat6 hlt6 HO HF HO1 hnews hbase
      go_wp2_with fail
      refine ⟨⟨k + 1, by simp, by omega, ?_, HF6.out⟩, by simp; omega⟩
      unfold Hd; rw [← HE.out]; exact HO6.out
    · have hke : k = 64 := by omega
      subst hke
      obtain ⟨g, cap, rfl, hcap⟩ : ∃ g cap, u5 = .slice (some ⟨g, 0, none⟩) (l.length + 64) cap ∧ l.length + 64 ≤ cap := by
        rcases HO.out.2 with ⟨-, h3⟩ | ⟨g, cap, cur, e, -, -, h5, -⟩
        · rw [List.length_append, mks_len] at h3; omega
        · rw [List.length_append, mks_len] at e h5; exact ⟨g, cap, e, h5⟩
      have HE : Hd (SI wr w.heap.size (.slice (some ⟨g, 0, none⟩) l.length cap) l m) := ⟨g, cap, rfl, hcap, HO.out⟩
      have hn0 : (0 : Int) ≤ l.length := by omega
      have hn1 : (l.length : Int) ≤ cap := by omega
      go_wp2_with fail
      go_ret
      exact ⟨_, rfl, HE.out, HF.out⟩

set_option maxRecDepth 100000 in
set_option maxHeartbeats 1000000 in
theorem kept_any (v : Value) (l : List Int) (m : Int) (B : Nat) (w : World) (h : SI w B v l m) (hn : l.length ≤ 3000000000) (hm : -1000 ≤ m) (hm0 : m ≤ 0) :
    Calls Try.prog 18 #[v, vI m] w fun e w' => e = .returned (.bool true) ∧ w' = w := by
  obtain ⟨g, cap, rfl, hcap, ho⟩ := h
  have HO : Hd (IOwn w B (.slice (some ⟨g, 0, none⟩) (l.length + 64) cap) (l ++ mks m 64)) := ho
  clear ho
  have hcl : ∀ k, k < 64 → w.cell? ⟨g, l.length + k, none⟩ = some (vI (m - (k : Int))) := fun k hk =>
    SI.cell (v := .slice none 0 0) HO.out (by rw [List.getElem?_append_right (by omega), Nat.add_sub_cancel_left]; exact mks_get m 64 k hk)
  have HC : Hd _ := hcl
  clear hcl
  obtain ⟨n, hnl⟩ : ∃ n, n = l.length := ⟨_, rfl⟩
  rw [← hnl] at hn hcap HC ⊢
  clear hnl HO
  have hn0 : (0 : Int) ≤ (n : Int) + 64 := by omega
  have hn1 : (n : Int) + 64 ≤ cap := by omega
  have ht : ((n : Int) + 64).toNat = n + 64 := by omega
  go_enter Try.func18, Try.ntmps18
  go_wp2_with fail
  go_loopw [6] (fun v wr => ∃ (k : Nat), v = .int .i64 k ∧ k ≤ 64 ∧ wr = w) (fun v _ => match v with | .int _ q => 64 - q.toNat | _ => 0)
  case atStart => exact ⟨0, rfl, by omega, rfl⟩
  case round =>
    obtain ⟨k, rfl, hk, rfl⟩ := hrel
    by_cases hlt : k < 64
    · have hk0 : (0 : Int) ≤ (n : Int) + k := by omega
      have hk1 : (k : Int) < 64 := by omega
      have hk3 : (n : Int) + k < ((n + 64 : Nat) : Int) := by omega
      have ht2 : ((n : Int) + k).toNat = n + k := by omega
      have p0 := HC.out k hlt
      have hw : IntKind.i64.wrap (m - (k : Int)) = m - (k : Int) := by simp [IntKind.wrap, IntKind.bits, IntKind.signed]; omega
      go_wp2_with fail
      exact ⟨⟨k + 1, by simp, by omega, by trivial⟩, by simp; omega⟩
    · have hke : k = 64 := by omega
      subst hke
      go_wp2_with fail
      go_ret
      exact ⟨rfl, rfl⟩

end Go.Proofs.Ytdkijecnnmncnaa
