import Derived.Test.YtihicdbplmdjiaaGreatQPlB3
import Derived.Deep.DeepCutAuto
set_option linter.unusedVariables false
set_option linter.unusedSimpArgs false
namespace Go.Proofs.YtihicdbplmdjiaaGreat.Pl
open Go.RowKit (wrap32 wrap64)

def cmpI (x y : Int) : Int := if x < y then -1 else if y < x then 1 else 0

set_option maxRecDepth 100000 in
set_option maxHeartbeats 1000000 in
theorem isNaN_any (x : Int) (w : World) : Calls Tryz.prog 87 #[vI x] w fun e w' => e = .returned (.bool false) ∧ w' = w := by
  have hx : (x != x) = false := by simp
  go_enter Tryz.func87, Tryz.ntmps87
  go_wp2_with fail
  go_ret
  first
    | exact ⟨rfl, rfl⟩
    | (simp; done)

set_option maxRecDepth 100000 in
set_option maxHeartbeats 1000000 in
theorem compare_any (x y : Int) (w : World) : Calls Tryz.prog 76 #[vI x, vI y] w fun e w' => e = .returned (vI (cmpI x y)) ∧ w' = w := by
  unfold cmpI
  by_cases h1 : x < y
  · rw [if_pos h1]
    go_enter Tryz.func76, Tryz.ntmps76
    go_wp2_with (first
      | (go_at_call 87; refine (isNaN_any _ _).mono ?_; rintro _ _ ⟨rfl, rfl⟩))
    go_ret
    exact ⟨rfl, rfl⟩
  · rw [if_neg h1]
    have d1 : decide (x < y) = false := by simp; omega
    by_cases h2 : y < x
    · rw [if_pos h2]
      clear h1
      go_enter Tryz.func76, Tryz.ntmps76
      go_wp2_with (first
        | (go_at_call 87; refine (isNaN_any _ _).mono ?_; rintro _ _ ⟨rfl, rfl⟩))
      go_ret
      exact ⟨rfl, rfl⟩
    · rw [if_neg h2]
      have d2 : decide (y < x) = false := by simp; omega
      have d3 : decide (x > y) = false := by simp; omega
      clear h1 h2
      go_enter Tryz.func76, Tryz.ntmps76
      go_wp2_with (first
        | (go_at_call 87; refine (isNaN_any _ _).mono ?_; rintro _ _ ⟨rfl, rfl⟩))
      go_ret
      exact ⟨rfl, rfl⟩

abbrev kvV (x : Kv) : Value := .agg #[vI x.1, .string x.2]
set_option maxRecDepth 100000 in
set_option maxHeartbeats 1000000 in
theorem closure28 (x y : Kv) (W : World) : Calls Tryz.prog 75 #[kvV x, kvV y] W fun e w' => e = .returned (vI (cmpI x.1 y.1)) ∧ w' = (W.alloc (.cells #[vI x.1, .string x.2] 141)).alloc (.cells #[vI y.1, .string y.2] 141) := by
  obtain ⟨r, hr⟩ : ∃ r, Hd (r = cmpI x.1 y.1) := ⟨_, rfl⟩
  have hcon : ∀ w, Calls Tryz.prog 76 #[vI x.1, vI y.1] w fun e w' => e = .returned (vI r) ∧ w' = w := fun w => by rw [hr.out]; exact compare_any x.1 y.1 w
  rw [← hr.out]
  go_enter Tryz.func75, Tryz.ntmps75
  go_wp2_with (go_at_call 76; refine (hcon _).mono ?_; rintro _ _ ⟨rfl, rfl⟩)
  go_ret
  exact ⟨rfl, rfl⟩

/-- What a Snapshot tells. -/
structure Snap (a : Ab) (L : List Kv) : Prop where
  rise : L.Pairwise (fun x y => x.1 < y.1)
  mem : ∀ k v, (k, v) ∈ L ↔ a k = some v

theorem Snap.of {a : Ab} {L L' : List Kv} (h : LL a L (fun _ => True)) (hp : L'.Perm L) (hs : L'.Pairwise (fun x y => ¬ y.1 < x.1)) : Snap a L' := by
  have hn : (L'.map Prod.fst).Nodup := (hp.map Prod.fst).nodup_iff.2 h.nodup
  refine ⟨?_, fun k v => by rw [hp.mem_iff, h.mem]; simp⟩
  have h2 : L'.Pairwise (fun x y => x.1 ≠ y.1) := List.pairwise_map.1 hn
  exact (hs.and h2).imp (fun {x y} ⟨h1, h2⟩ => by omega)

/-- It is one list. -/
theorem Snap.unique {a : Ab} {L L' : List Kv} (h : Snap a L) (h' : Snap a L') : L = L' := by
  have key : ∀ {L L' : List Kv}, L.Pairwise (fun x y => x.1 < y.1) → L'.Pairwise (fun x y => x.1 < y.1) → (∀ e, e ∈ L ↔ e ∈ L') → L = L' := by
    intro L
    induction L with
    | nil =>
      intro L' _ _ hm
      cases L' with
      | nil => rfl
      | cons y r => exact absurd ((hm y).2 (by simp)) (by simp)
    | cons x r ih =>
      intro L' h1 h2 hm
      cases L' with
      | nil => exact absurd ((hm x).1 (by simp)) (by simp)
      | cons y s =>
        have hxy : x = y := by
          rcases List.mem_cons.1 ((hm x).1 (by simp)) with e | e
          · exact e
          · rcases List.mem_cons.1 ((hm y).2 (by simp)) with e2 | e2
            · exact e2.symm
            · have a1 := (List.pairwise_cons.1 h1).1 y e2
              have a2 := (List.pairwise_cons.1 h2).1 x e
              omega
        subst hxy
        congr 1
        refine ih (List.pairwise_cons.1 h1).2 (List.pairwise_cons.1 h2).2 (fun e => ?_)
        constructor
        · intro he
          rcases List.mem_cons.1 ((hm e).1 (by simp [he])) with e2 | e2
          · subst e2; exact absurd ((List.pairwise_cons.1 h1).1 e he) (by omega)
          · exact e2
        · intro he
          rcases List.mem_cons.1 ((hm e).2 (by simp [he])) with e2 | e2
          · subst e2; exact absurd ((List.pairwise_cons.1 h2).1 e he) (by omega)
          · exact e2
  exact key h.rise h'.rise (fun ⟨k, v⟩ => by rw [h.mem, h'.mem])

/-- Pairs as they lie. -/
def PA (w : World) (v : Value) (L : List Kv) : Prop := ∃ ad cap, v = .slice ad L.length cap ∧ (L ≠ [] → ∃ g, ad = some ⟨g, 0, none⟩ ∧ g < w.heap.size ∧ ∀ i (h : i < L.length), w.cell? ⟨g, i * 2, none⟩ = some (vI L[i].1) ∧ w.cell? ⟨g, i * 2 + 1, none⟩ = some (.string L[i].2))
theorem pCells_get : ∀ (es : List Kv) (i : Nat) (h : i < es.length), (pCells es)[i * 2]? = some (vI es[i].1) ∧ (pCells es)[i * 2 + 1]? = some (.string es[i].2)
  | e :: r, 0, _ => ⟨rfl, rfl⟩
  | e :: r, i + 1, h => by
    have := pCells_get r i (by simpa using h)
    rw [show (i + 1) * 2 = i * 2 + 1 + 1 by omega]
    simpa [pCells] using this

theorem under27 : Tryz.prog.underlying 23 = some (.slice 3) := by kernel_rfl
theorem under28 : Tryz.prog.underlying 37 = some (.slice 9) := by kernel_rfl
theorem run_make_of (t e : TypeId) (z : Value) (size bytes : Nat) (ht : Tryz.prog.underlying t = some (.slice e)) (hz : (Tryz.prog.info? e).map (·.zero) = some (some z)) (hs : (Tryz.prog.info? e).map (·.size) = some size) (hb : (Tryz.prog.info? e).map (·.bytes) = some bytes)
    (n : Nat) (hn : bytes * n ≤ 281474976710656) (hn' : n ≤ 1000000000000000) (w : World) :
    (Instr.makeSlice t (.int .i64 n) (.int .i64 n)).run Tryz.prog w = .ok (.slice (some ⟨w.heap.size, 0, none⟩) n n) (w.alloc (.cells (madeCells z.cells (n * size)) e)) := by
  cases hi : Tryz.prog.info? e with
  | none => rw [hi] at hz; cases hz
  | some i =>
    rw [hi] at hz hs hb
    simp only [Option.map_some, Option.some.injEq] at hz hs hb
    have := run_make (P := Tryz.prog) w t e i z ht hi hz .i64 .i64 n n (by omega) (by omega) (by rw [hb, ← Int.natCast_mul]; omega) (by omega)
    rw [this, hs]
    simp
theorem made_one (z : Value) (n : Nat) : madeCells #[z] n = (List.replicate n z).toArray := by
  unfold madeCells
  apply Array.ext
  · simp
  · intro i h1 h2
    simp [Nat.mod_one]
theorem make_ints (n : Nat) (hn : n ≤ 10000000000000) (w : World) : (Instr.makeSlice 23 (.int .i64 n) (.int .i64 n)).run Tryz.prog w = .ok (.slice (some ⟨w.heap.size, 0, none⟩) n n) (w.alloc (.cells (Array.replicate n (vI 0)) 3)) := by
  rw [run_make_of 23 3 (vI 0) 1 8 under27 (by kernel_rfl) (by kernel_rfl) (by kernel_rfl) n (by omega) (by omega) w, Nat.mul_one]
  show Result.ok _ (w.alloc (.cells (madeCells #[vI 0] n) 3)) = _
  rw [made_one, List.toArray_replicate]
theorem make_strs (n : Nat) (hn : n ≤ 10000000000000) (w : World) : (Instr.makeSlice 37 (.int .i64 n) (.int .i64 n)).run Tryz.prog w = .ok (.slice (some ⟨w.heap.size, 0, none⟩) n n) (w.alloc (.cells (Array.replicate n (.string ⟨#[]⟩)) 9)) := by
  rw [run_make_of 37 9 (.string ⟨#[]⟩) 1 16 under28 (by kernel_rfl) (by kernel_rfl) (by kernel_rfl) n (by omega) (by omega) w, Nat.mul_one]
  show Result.ok _ (w.alloc (.cells (madeCells #[.string ⟨#[]⟩] n) 9)) = _
  rw [made_one, List.toArray_replicate]

/-- A row that is filled from the front. -/
def rowF (f : Kv → Value) (z : Value) (L : List Kv) (k : Nat) : List Value := (L.take k).map f ++ List.replicate (L.length - k) z
theorem rowF_zero (f : Kv → Value) (z : Value) (L : List Kv) : rowF f z L 0 = List.replicate L.length z := by simp [rowF]
theorem rowF_all (f : Kv → Value) (z : Value) (L : List Kv) : rowF f z L L.length = L.map f := by simp [rowF]
theorem rowF_len (f : Kv → Value) (z : Value) (L : List Kv) (k : Nat) (h : k ≤ L.length) : (rowF f z L k).length = L.length := by simp [rowF]; omega
theorem rowF_set (f : Kv → Value) (z : Value) (L : List Kv) (k : Nat) (h : k < L.length) : (rowF f z L k).set k (f L[k]) = rowF f z L (k + 1) := by
  have hl : ((L.take k).map f).length = k := by simp; omega
  unfold rowF
  rw [List.set_append, if_neg (by omega), hl, Nat.sub_self]
  obtain ⟨m, hm⟩ : ∃ m, L.length - k = m + 1 := ⟨L.length - k - 1, by omega⟩
  rw [hm, List.replicate_succ, List.set_cons_zero, show L.length - (k + 1) = m by omega, List.take_add_one, List.getElem?_eq_getElem h, List.map_append, List.append_assoc]
  rfl

theorem setArr (l : List Value) (k : Nat) (x : Value) : l.toArray.setIfInBounds k x = (l.set k x).toArray := by simp

theorem two_alloc (w : World) (o1 o2 : Obj) : ((w.alloc o1).alloc o2).drew.heap[w.heap.size]? = some o1 ∧ ((w.alloc o1).alloc o2).drew.heap[w.heap.size + 1]? = some o2 ∧ Fr (fun _ => False) w ((w.alloc o1).alloc o2).drew := by
  refine ⟨?_, ?_, (((Fr.refl _ w).alloc _).alloc _).drew⟩
  · show ((w.alloc o1).alloc o2).heap[w.heap.size]? = _
    rw [Go.RowKit.Below.heap_alloc _ _ _ (by simp)]
    exact heap_alloc_last w o1
  · have := heap_alloc_last (w.alloc o1) o2
    rw [show (w.alloc o1).heap.size = w.heap.size + 1 by simp] at this
    exact this

def SortSaid : Prop := ∀ (w : World) (B : Nat) (v : Value) (L : List Kv), OwnP w B v L → L.length ≤ 1000000000000 → Calls Tryz.prog 74 #[v, .func (.func 75) #[] #[]] w fun e w' => e = .returned (.tuple #[]) ∧ ∃ L', L'.Perm L ∧ L'.Pairwise (fun x y => ¬ y.1 < x.1) ∧ PA w' v L' ∧ Fr (fun j => v.ownBlock = some j) w w'

/-- The two lists of a Snapshot, where they lie. -/
structure SnapAt (w : World) (kb vb : Nat) (L : List Kv) : Prop where
  ks : w.heap[kb]? = some (.cells (L.map (fun e => vI e.1)).toArray 3)
  vs : w.heap[vb]? = some (.cells (L.map (fun e => .string e.2)).toArray 9)
  ne : kb ≠ vb

set_option maxRecDepth 100000 in
set_option maxHeartbeats 4000000 in
theorem snapshot_of (hsort : SortSaid) (b : Nat) (g : Gh) (N : Nat) (a : Ab) (w : World) (h : Tb w b g N a) (hN : N ≤ 100000000000) :
    Calls Tryz.prog 65 #[.pointer (some ⟨b, 0, none⟩)] w fun e w' => ∃ kb vb L, e = .returned (.tuple #[.slice (some ⟨kb, 0, none⟩) L.length L.length, .slice (some ⟨vb, 0, none⟩) L.length L.length]) ∧ w.heap.size ≤ kb ∧ w.heap.size ≤ vb ∧ SnapAt w' kb vb L ∧ Snap a L ∧ L.length ≤ N * 8 ∧ Tb w' b g N a ∧ Fr (fun j => j = b) w w' := by
  have hsort' : Hd SortSaid := hsort
  have HN : Hd (N ≤ 100000000000) := hN
  have HT0 : Hd (Tb w b g N a) := h
  have hall := all_any b g N a w h hN
  clear h hN hsort
  go_enter Tryz.func65, Tryz.ntmps65
  go_wp2_with (go_at_call 73; refine hall.mono ?_; rintro _ w1 ⟨v, L, rfl, hO, hLL, hLn, hT1, hF1⟩)
  clear hall
  refine (hsort'.out w1 w.heap.size v L hO (by have := HN.out; omega)).mono ?_
  rintro _ w2 ⟨rfl, L', hp, hsd, hPA, hF2⟩
  have hlen : L'.length = L.length := hp.length_eq
  have HF2 : Hd (Fr (fun j => j = b) w w2) := ⟨hF2.os.trans hF1.os, hF2.tape.trans hF1.tape, hF2.output.trans hF1.output, Nat.le_trans hF1.size hF2.size, fun j hj hS => (hF2.block j (Nat.lt_of_lt_of_le hj hF1.size) (fun e => by have := (hO.ge j e).1; omega)).trans (hF1.block j hj hS)⟩
  have HT2 : Hd (Tb w2 b g N a) := hT1.fr hF2 (fun j hj e => by have := (hO.ge j e).1; have := HT0.out.lt j hj; omega)
  have HSn : Hd (Snap a L') := Snap.of hLL hp hsd
  have HLn : Hd (L'.length ≤ N * 8) := by show _ ≤ _; omega
  clear hT1 hF1 hF2 hO hLL hLn hp hsd hlen HT0 hsort'
  obtain ⟨ad, cap, rfl, hcs⟩ := hPA
  have HCS : Hd (L' ≠ [] → ∃ g, ad = some ⟨g, 0, none⟩ ∧ g < w2.heap.size ∧ ∀ i (h : i < L'.length), w2.cell? ⟨g, i * 2, none⟩ = some (vI L'[i].1) ∧ w2.cell? ⟨g, i * 2 + 1, none⟩ = some (.string L'[i].2)) := hcs
  clear hcs
  obtain ⟨n, hn⟩ : ∃ n, n = L'.length := ⟨_, rfl⟩
  have HNL : Hd (n = L'.length) := hn
  have hnb : n ≤ 10000000000000 := by have := HN.out; have := HLn.out; omega
  rw [← hn]
  have mk1 := make_ints n hnb
  have mk2 := make_strs n hnb
  clear hn
  go_upto_region 5 with fail
  go_cut [5, 6] (fun x5 x6 wx => ∃ kb vb : Nat, x5 = .slice (some ⟨kb, 0, none⟩) n n ∧ x6 = .slice (some ⟨vb, 0, none⟩) n n ∧ Hd (wx.heap[kb]? = some (.cells (Array.replicate n (vI 0)) 3) ∧ wx.heap[vb]? = some (.cells (Array.replicate n (.string ⟨#[]⟩)) 9) ∧ kb ≠ vb ∧ w2.heap.size ≤ kb ∧ w2.heap.size ≤ vb ∧ Fr (fun _ => False) w2 wx))
  case first =>
    have t1 := two_alloc w2 (.cells (Array.replicate n (vI 0)) 3) (.cells (Array.replicate n (.string ⟨#[]⟩)) 9)
    have t2 := two_alloc w2 (.cells (Array.replicate n (.string ⟨#[]⟩)) 9) (.cells (Array.replicate n (vI 0)) 3)
    have T1 : Hd _ := t1
    have T2 : Hd _ := t2
    clear t1 t2
    go_region
    all_goals go_wp2_with fail
    all_goals go_meet
    all_goals first
      | exact ⟨w2.heap.size, w2.heap.size + 1, rfl, rfl, T1.out.1, T1.out.2.1, by omega, by omega, by omega, T1.out.2.2⟩
      | exact ⟨w2.heap.size + 1, w2.heap.size, rfl, rfl, T2.out.2.1, T2.out.1, by omega, by omega, by omega, T2.out.2.2⟩
  case rest =>
    obtain ⟨kb, vb, rfl, rfl, HB⟩ := hcut
    obtain ⟨hkb, hvb, hkv, hk2, hv2, hFc⟩ := HB.out
    have HFc : Hd (Fr (fun _ => False) w2 wc) := hFc
    have HK0 : Hd (wc.heap[kb]? = some (.cells (rowF (fun e => vI e.1) (vI 0) L' 0).toArray 3)) := by rw [rowF_zero, ← HNL.out, List.toArray_replicate]; exact hkb
    have HV0 : Hd (wc.heap[vb]? = some (.cells (rowF (fun e => .string e.2) (.string ⟨#[]⟩) L' 0).toArray 9)) := by rw [rowF_zero, ← HNL.out, List.toArray_replicate]; exact hvb
    have HKV : Hd (kb ≠ vb ∧ w2.heap.size ≤ kb ∧ w2.heap.size ≤ vb ∧ kb < wc.heap.size ∧ vb < wc.heap.size) := ⟨hkv, hk2, hv2, heap_lt hkb, heap_lt hvb⟩
    clear HB hkb hvb hkv hk2 hv2 hFc mk1 mk2
    go_wp2_with fail
    go_loopw [23] (fun v wr => ∃ k : Nat, v = .int .i64 k ∧ k ≤ n ∧ Hd (wr.heap[kb]? = some (.cells (rowF (fun e => vI e.1) (vI 0) L' k).toArray 3) ∧ wr.heap[vb]? = some (.cells (rowF (fun e => .string e.2) (.string ⟨#[]⟩) L' k).toArray 9) ∧ Fr (fun j => j = kb ∨ j = vb) wc wr)) (fun v _ => match v with | .int _ q => n - q.toNat | _ => 0)
    case atStart => exact ⟨0, rfl, by omega, HK0.out, HV0.out, Fr.refl _ _⟩
    case round =>
      obtain ⟨k, rfl, hk, HM⟩ := hrel
      by_cases hlt : k < n
      · obtain ⟨hK, hV, hF⟩ := HM.out
        have hkl : k < L'.length := by rw [← HNL.out]; exact hlt
        obtain ⟨gb, rfl, hgl, hcs⟩ := HCS.out (by intro e; rw [e] at hkl; simp at hkl)
        obtain ⟨d0, d1⟩ := hcs k hkl
        have hgk : gb ≠ kb ∧ gb ≠ vb := by have := HKV.out; omega
        have e0 : wr.cell? ⟨gb, k * 2, none⟩ = some (vI L'[k].1) := ((hF.cell (Nat.lt_of_lt_of_le hgl HFc.out.size) (by intro e; omega)).trans (HFc.out.cell hgl (fun h => h))).trans d0
        have e1 : wr.cell? ⟨gb, k * 2 + 1, none⟩ = some (.string L'[k].2) := ((hF.cell (Nat.lt_of_lt_of_le hgl HFc.out.size) (by intro e; omega)).trans (HFc.out.cell hgl (fun h => h))).trans d1
        have hst1 : (rowF (fun e => vI e.1) (vI 0) L' k).set k (vI L'[k].1) = rowF (fun e => vI e.1) (vI 0) L' (k + 1) := rowF_set (fun e => vI e.1) (vI 0) L' k hkl
        have hst2 : (rowF (fun e => .string e.2) (.string ⟨#[]⟩) L' k).set k (.string L'[k].2) = rowF (fun e => .string e.2) (.string ⟨#[]⟩) L' (k + 1) := rowF_set (fun e => .string e.2) (.string ⟨#[]⟩) L' k hkl
        obtain ⟨x, hx⟩ : ∃ x, L'[k].1 = x := ⟨_, rfl⟩
        obtain ⟨y, hy⟩ : ∃ y, L'[k].2 = y := ⟨_, rfl⟩
        rw [hx] at e0 hst1
        rw [hy] at e1 hst2
        clear hx hy d0 d1 hcs
        obtain ⟨ov1, hkc⟩ : ∃ ov, (wr.alloc (.cells #[vI x, .string y] 141)).cell? ⟨kb, k, none⟩ = some ov := by
          rw [World.cell?_alloc_past _ _ _ (heap_lt hK), cell_of hK, List.getElem?_toArray, List.getElem?_eq_getElem (by rw [rowF_len _ _ _ _ (by omega)]; exact hkl)]
          exact ⟨_, rfl⟩
        obtain ⟨ov2, hvc⟩ : ∃ ov, (wr.alloc (.cells #[vI x, .string y] 141)).cell? ⟨vb, k, none⟩ = some ov := by
          rw [World.cell?_alloc_past _ _ _ (heap_lt hV), cell_of hV, List.getElem?_toArray, List.getElem?_eq_getElem (by rw [rowF_len _ _ _ _ (by omega)]; exact hkl)]
          exact ⟨_, rfl⟩
        have hkz : (wr.alloc (.cells #[vI x, .string y] 141)).frozen? ⟨kb, k, none⟩ = false := by rw [World.frozen?_alloc_past _ _ _ (heap_lt hK)]; exact frozen_of hK k
        have hvz : (wr.alloc (.cells #[vI x, .string y] 141)).frozen? ⟨vb, k, none⟩ = false := by rw [World.frozen?_alloc_past _ _ _ (heap_lt hV)]; exact frozen_of hV k
        have hk3 : (k : Int) < n := by omega
        have hk0 : (0 : Int) ≤ k := by omega
        clear HM
        go_upto_region 9 with fail
        have HN1 : Hd (∀ w6 : World, w6 = ((wr.alloc (.cells #[vI x, .string y] 141)).drew.setCell ⟨kb, k, none⟩ (vI x)).setCell ⟨vb, k, none⟩ (.string y) ∨ w6 = ((wr.alloc (.cells #[vI x, .string y] 141)).drew.setCell ⟨vb, k, none⟩ (.string y)).setCell ⟨kb, k, none⟩ (vI x) →
            w6.heap[kb]? = some (.cells (rowF (fun e => vI e.1) (vI 0) L' (k + 1)).toArray 3) ∧ w6.heap[vb]? = some (.cells (rowF (fun e => .string e.2) (.string ⟨#[]⟩) L' (k + 1)).toArray 9) ∧ Fr (fun j => j = kb ∨ j = vb) wc w6) := by
          have hne := HKV.out.1
          have hK1 : (wr.alloc (.cells #[vI x, .string y] 141)).drew.heap[kb]? = some (.cells (rowF (fun e => vI e.1) (vI 0) L' k).toArray 3) := (Go.RowKit.Below.heap_alloc wr _ _ (heap_lt hK)).trans hK
          have hV1 : (wr.alloc (.cells #[vI x, .string y] 141)).drew.heap[vb]? = some (.cells (rowF (fun e => .string e.2) (.string ⟨#[]⟩) L' k).toArray 9) := (Go.RowKit.Below.heap_alloc wr _ _ (heap_lt hV)).trans hV
          have F1 : Fr (fun j => j = kb ∨ j = vb) wc (wr.alloc (.cells #[vI x, .string y] 141)).drew := (hF.alloc _).drew
          rintro w6 (rfl | rfl)
          · refine ⟨?_, ?_, (F1.setCell _ _ (Or.inl (Or.inl rfl))).setCell _ _ (Or.inl (Or.inr rfl))⟩
            · rw [Go.RowKit.Below.heap_setCell _ _ _ _ (by show kb ≠ vb; exact hne), set_of hK1, setArr, hst1]
            · have : ((wr.alloc (.cells #[vI x, .string y] 141)).drew.setCell ⟨kb, k, none⟩ (vI x)).heap[vb]? = some (.cells (rowF (fun e => .string e.2) (.string ⟨#[]⟩) L' k).toArray 9) := by
                rw [Go.RowKit.Below.heap_setCell _ _ _ _ (by show vb ≠ kb; exact hne.symm)]; exact hV1
              rw [set_of this, setArr, hst2]
          · refine ⟨?_, ?_, (F1.setCell _ _ (Or.inl (Or.inr rfl))).setCell _ _ (Or.inl (Or.inl rfl))⟩
            · have : ((wr.alloc (.cells #[vI x, .string y] 141)).drew.setCell ⟨vb, k, none⟩ (.string y)).heap[kb]? = some (.cells (rowF (fun e => vI e.1) (vI 0) L' k).toArray 3) := by
                rw [Go.RowKit.Below.heap_setCell _ _ _ _ (by show kb ≠ vb; exact hne)]; exact hK1
              rw [set_of this, setArr, hst1]
            · rw [Go.RowKit.Below.heap_setCell _ _ _ _ (by show vb ≠ kb; exact hne.symm), set_of hV1, setArr, hst2]
        have b0 : (wr.alloc (.cells #[vI x, .string y] 141)).cell? ⟨wr.heap.size, 0, none⟩ = some (vI x) := by rw [World.cell?_alloc_new]; rfl
        have b1 : (wr.alloc (.cells #[vI x, .string y] 141)).cell? ⟨wr.heap.size, 1, none⟩ = some (.string y) := by rw [World.cell?_alloc_new]; rfl
        have n1 : ¬ kb = vb := HKV.out.1
        have n2 : ¬ vb = kb := fun e => HKV.out.1 e.symm
        have n3 : ¬ kb = wr.heap.size := by have := heap_lt hK; omega
        have n4 : ¬ vb = wr.heap.size := by have := heap_lt hV; omega
        generalize wr.alloc (.cells #[vI x, .string y] 141) = w5 at *
        obtain ⟨pb, hpb⟩ : ∃ pb, pb = wr.heap.size := ⟨_, rfl⟩
        rw [← hpb] at b0 b1 n3 n4 ⊢
        clear hpb hK hV hF e0 e1 hst1 hst2
        go_region
        all_goals go_wp2_with fail
        all_goals refine ⟨⟨k + 1, by simp, by omega, HN1.out _ (by first | exact Or.inl rfl | exact Or.inr rfl)⟩, by simp; omega⟩
      · have hdk : decide ((k : Int) < n) = false := by simp; omega
        have en : Hd (k = L'.length) := by have := HNL.out; show k = _; omega
        clear hk
        go_wp2_with fail
        go_ret2
        obtain ⟨hK, hV, hF⟩ := HM.out
        rw [en.out, rowF_all] at hK hV
        have hkv := HKV.out
        have hFw : Fr (fun j => j = b) w wr := by
          have f1 := HF2.out
          have f2 := HFc.out
          exact ⟨hF.os.trans (f2.os.trans f1.os), hF.tape.trans (f2.tape.trans f1.tape), hF.output.trans (f2.output.trans f1.output), Nat.le_trans f1.size (Nat.le_trans f2.size hF.size), fun j hj hS =>
            (hF.block j (by have := f1.size; have := f2.size; omega) (by have := f1.size; omega)).trans ((f2.block j (by have := f1.size; omega) (fun h => h)).trans (f1.block j hj hS))⟩
        have hTw : Tb wr b g N a := (HT2.out.fr HFc.out (fun _ _ h => h)).fr hF (fun j hj e => by have := HT2.out.lt j hj; omega)
        exact ⟨kb, vb, L', by rw [← HNL.out]; rfl, by have := HF2.out.size; omega, by have := HF2.out.size; omega, ⟨hK, hV, hkv.1⟩, HSn.out, HLn.out, hTw, hFw⟩
end Go.Proofs.YtihicdbplmdjiaaGreat.Pl
