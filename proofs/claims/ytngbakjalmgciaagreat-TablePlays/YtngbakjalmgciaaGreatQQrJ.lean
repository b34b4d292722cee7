import Derived.Test.YtngbakjalmgciaaGreatQQqJ
import Derived.Test.YtngbakjalmgciaaGreatQQj
import Derived.Test.YtngbakjalmgciaaGreatQD1J
import Derived.Test.YtngbakjalmgciaaGreatQE7J
import Derived.Test.YtngbakjalmgciaaGreatQA8J
import Derived.Laws.BytesString
import Derived.Laws.IdiomStrings
namespace Go.Proofs.YtngbakjalmgciaaGreat
open Go.RowKit (wrap32 wrap64)
set_option linter.unusedVariables false
set_option linter.unusedSimpArgs false

theorem iter_ends {zs : List Int} {s0 : St} (h0 : StOk s0) : ∃ k, able (iter zs s0 k) = [] := by
  by_cases h : ∃ k, able (iter zs s0 k) = []
  · exact h
  · have hne : ∀ k, able (iter zs s0 k) ≠ [] := fun k e => h ⟨k, e⟩
    have hall : ∀ k, StOk (iter zs s0 k) ∧ mu (iter zs s0 k) + k ≤ mu s0 := fun k => by
      induction k with
      | zero => exact ⟨h0, Nat.le_refl _⟩
      | succ k ih =>
        rw [iter_step (hne k)]
        have hp := pick_mem (last := (iter zs s0 k).last) (zs := zs) (k := k) (hne k)
        have := step_ok ih.1 hp (pickX (iter zs s0 k).last (able (iter zs s0 k)) zs k : Int)
        exact ⟨this.1, by rw [show ∀ a b : Nat, a + (b + 1) = a + 1 + b from fun a b => by omega]; exact Nat.le_trans (Nat.add_le_add_right this.2.1 k) ih.2⟩
    have := (hall (mu s0 + 1)).2
    omega
theorem tot_le {cl : List (List OpT)} (h : total cl ≤ 2147483647) : tot cl ≤ 2147483647 ∧ cl.length ≤ 2147483647 := by
  unfold total at h
  unfold tot
  omega
set_option maxRecDepth 100000 in
theorem rplay_many (w : World) (v sv : Value) (cl : List (List OpT)) (h : ClsAt w w.heap.size v cl) (hn : 64 < cl.length) :
    Calls Tryz.prog 9 #[v, sv] w fun e w' => e = .returned (.slice none 0 0) ∧ w' = w := by
  obtain ⟨ad, cap, rfl, -⟩ := h
  obtain ⟨n, en⟩ : ∃ n, n = cl.length := ⟨_, rfl⟩
  rw [← en] at hn ⊢
  clear en
  have h1 : (64 : Int) < n := by omega
  have h2 : decide ((n : Int) > 64) = true := by simp; omega
  go_enter Tryz.func9, Tryz.ntmps9
  go_wp2_with fail
  go_ret
  exact ⟨rfl, rfl⟩
/-- The program's Play and the document's tell the same history. -/
theorem plays_same (cl : List (List OpT)) (zs : List Int) (ht : total cl ≤ 2147483647) (hz : zs.length ≤ 2147483647) (hk : ∀ l ∈ cl, ∀ o ∈ l, In64 o.2.1) :
    ∃ ms : List MomT, ms.length ≤ 4294967294 ∧ (∀ m ∈ ms, m.rp.L.length ≤ 2147483647) ∧
      (∀ (w : World) (v sv : Value), ClsAt w w.heap.size v cl → IntsAt w w.heap.size sv zs → Calls Tryz.prog 8 #[v, sv] w fun e w' => ∃ mv, e = .returned mv ∧ MomsAp w' w.heap.size mv ms ∧ Fr (fun _ => False) w w') ∧
      (∀ (w : World) (v sv : Value), ClsAt w w.heap.size v cl → IntsAt w w.heap.size sv zs → Calls Tryz.prog 9 #[v, sv] w fun e w' => ∃ mv, e = .returned mv ∧ HsAt w' w.heap.size mv ms ∧ Fr (fun _ => False) w w') := by
  obtain ⟨ht1, ht2⟩ := tot_le ht
  have hll : ∀ l ∈ cl, l.length ≤ 2147483647 := fun l hl => Nat.le_trans (total_len hl) ht
  by_cases hn : cl.length ≤ 64
  · have hmu : mu (begin0 cl) ≤ 50000000000 := by have := mu_le cl; omega
    have hok : StOk (begin0 cl) := fun c hc => by
      obtain ⟨l, hl', rfl⟩ := List.mem_map.1 hc
      exact clOk_begin l (hk l hl')
    obtain ⟨k, hke⟩ := iter_ends (zs := zs) hok
    obtain ⟨a1, a2, a3⟩ := play_alike hk zs k
    have hd := dok_all cl zs k
    refine ⟨(iter zs (begin0 cl) k).ms, ?_, ?_, fun w v sv h1 h2 => ?_, fun w v sv h1 h2 => ?_⟩
    · rw [a1.ms]; have := hd.mss; omega
    · rw [a1.ms]; exact fun m hm => Nat.le_trans (hd.mrs m hm) ht1
    · refine (play_own w v sv cl zs h1 h2 hn (fun l hl => by have := hll l hl; omega) hk hmu (by omega)).mono ?_
      rintro e w' ⟨mv, k', e1, e2, e3, e4⟩
      refine ⟨mv, e1, ?_, e4⟩
      rw [iter_end hke e2]; exact e3
    · refine (rplay_any w v sv cl zs h1 h2 hn hll ht1 hk hmu (by omega)).mono ?_
      rintro e w' ⟨mv, k', e1, e2, e3, e4⟩
      refine ⟨mv, e1, ?_, e4⟩
      rw [← play_same hk zs hke e2]; exact e3
  · refine ⟨[], by simp, (fun m hm => by cases hm), fun w v sv h1 h2 => ?_, fun w v sv h1 h2 => ?_⟩
    · refine (play_many w v sv cl h1 (by omega)).mono ?_
      rintro e w' ⟨rfl, rfl⟩
      exact ⟨_, rfl, ⟨[], fun _ => False, World.ownsRow_nil _ _ _ _, rfl, (fun x hx => by cases hx), (fun j hj => by cases hj), List.nodup_nil⟩, Fr.refl _ _⟩
    · refine (rplay_many w v sv cl h1 (by omega)).mono ?_
      rintro e w' ⟨rfl, rfl⟩
      exact ⟨_, rfl, ⟨[], World.ownsRow_nil _ _ _ _, rfl, fun x hx => by cases hx⟩, Fr.refl _ _⟩
end Go.Proofs.YtngbakjalmgciaaGreat

namespace Go.Proofs.YtngbakjalmgciaaGreat
open Go.RowKit (wrap32 wrap64)
set_option linter.unusedVariables false
set_option linter.unusedSimpArgs false

def mk3 (a b c : Int) : ByteArray := [a, b, c].foldl (fun r n => r.push (UInt8.ofNat n.toNat)) ByteArray.empty
theorem conv3 (w : World) (a b c : Int) : (convert 105 9 (.slice (some ⟨w.heap.size, 0, none⟩) 3 3)).run Tryz.prog (w.alloc (.cells #[.int .u8 a, .int .u8 b, .int .u8 c] 5)) = .ok (.string (mk3 a b c)) (w.alloc (.cells #[.int .u8 a, .int .u8 b, .int .u8 c] 5)) := by
  rw [run_convert_bytes_string _ 105 9 5 _ _ _ (by kernel_rfl) (by kernel_rfl) (by kernel_rfl)]
  refine run_bytesToString _ _ 3 3 [a, b, c] ?_
  refine run_loadCells_list (P := Tryz.prog) _ ⟨w.heap.size, 0, none⟩ ([a, b, c].map (Value.int .u8)) (fun j v hj => ?_)
  rw [adr, cell_of (heap_alloc_last w _)]
  have hlt := (List.getElem?_eq_some_iff.1 hj).1
  simp at hlt
  rcases j with _ | _ | _ | j
  · simpa using hj
  · simpa using hj
  · simpa using hj
  · omega

set_option maxRecDepth 100000 in
set_option maxHeartbeats 1000000 in
theorem mark_pos (i : Nat) (hi : i ≤ 100000000000) (w : World) : Calls Tryz.prog 32 #[vI (i : Int)] w fun e w' => e = .returned (.string (⟨#[109]⟩ ++ mk3 ((i : Int) % 256) ((i : Int) / 256 % 256) ((i : Int) / 65536 % 256))) ∧ Fr (fun _ => False) w w' := by
  have hd : decide ((i : Int) < 0) = false := by simp
  have hcv := conv3 w ((i : Int) % 256) ((i : Int) / 256 % 256) ((i : Int) / 65536 % 256)
  go_enter Tryz.func32, Tryz.ntmps32
  go_wp2_with fail
  go_ret
  exact ⟨rfl, (Fr.refl _ _).alloc _⟩
set_option maxRecDepth 100000 in
set_option maxHeartbeats 1000000 in
theorem mark_neg (i : Nat) (hi : i ≤ 100000000000) (hpos : 0 < i) (w : World) : Calls Tryz.prog 32 #[vI (-(i : Int))] w fun e w' => e = .returned (.string (⟨#[110]⟩ ++ mk3 ((i : Int) % 256) ((i : Int) / 256 % 256) ((i : Int) / 65536 % 256))) ∧ Fr (fun _ => False) w w' := by
  have hd : decide (-(i : Int) < 0) = true := by simp; omega
  have hcv := conv3 w ((i : Int) % 256) ((i : Int) / 256 % 256) ((i : Int) / 65536 % 256)
  go_enter Tryz.func32, Tryz.ntmps32
  go_wp2_with fail
  go_ret
  exact ⟨rfl, (Fr.refl _ _).alloc _⟩
def markX (i : Int) : ByteArray := if i < 0 then ⟨#[110]⟩ ++ mk3 ((-i) % 256) ((-i) / 256 % 256) ((-i) / 65536 % 256) else ⟨#[109]⟩ ++ mk3 (i % 256) (i / 256 % 256) (i / 65536 % 256)
theorem mark_any (i : Int) (h1 : -100000000000 ≤ i) (h2 : i ≤ 100000000000) (w : World) : Calls Tryz.prog 32 #[vI i] w fun e w' => e = .returned (.string (markX i)) ∧ Fr (fun _ => False) w w' := by
  by_cases h : i < 0
  · obtain ⟨k, hk⟩ : ∃ k : Nat, i = -(k : Int) := ⟨(-i).toNat, by omega⟩
    subst hk
    have e : markX (-(k : Int)) = ⟨#[110]⟩ ++ mk3 ((k : Int) % 256) ((k : Int) / 256 % 256) ((k : Int) / 65536 % 256) := by unfold markX; rw [if_pos h, Int.neg_neg]
    rw [e]
    exact mark_neg k (by omega) (by omega) w
  · obtain ⟨k, hk⟩ : ∃ k : Nat, i = (k : Int) := ⟨i.toNat, by omega⟩
    subst hk
    have e : markX (k : Int) = ⟨#[109]⟩ ++ mk3 ((k : Int) % 256) ((k : Int) / 256 % 256) ((k : Int) / 65536 % 256) := by unfold markX; rw [if_neg h]
    rw [e]
    exact mark_pos k (by omega) w
end Go.Proofs.YtngbakjalmgciaaGreat

namespace Go.Proofs.YtngbakjalmgciaaGreat
open Go.RowKit (wrap32 wrap64)
set_option linter.unusedVariables false
set_option linter.unusedSimpArgs false

/-! ### full rows -/
def Full (w : World) (B e : Nat) (v : Value) (xs : List Value) : Prop :=
  (v = .slice none 0 0 ∧ xs = []) ∨ ∃ g, v = .slice (some ⟨g, 0, none⟩) xs.length xs.length ∧ B ≤ g ∧ w.heap[g]? = some (.cells xs.toArray e)
theorem Full.row {w : World} {B e : Nat} {v : Value} {xs : List Value} (h : Full w B e v xs) (hl : xs.length ≤ maxLen) : w.ownsRow B e 1 v xs.length xs := by
  rcases h with ⟨rfl, rfl⟩ | ⟨g, rfl, hB, hg⟩
  · exact World.ownsRow_nil _ _ _ _
  · exact ⟨by omega, Or.inr ⟨g, xs.length, xs.toArray, rfl, hB, hg, Nat.le_refl _, hl, by simp, by simp⟩⟩
theorem Full.fr {S : Nat → Prop} {w w' : World} {B e : Nat} {v : Value} {xs : List Value} (h : Full w B e v xs) (f : Fr S w w') (hS : ∀ j, v.ownBlock = some j → ¬ S j) : Full w' B e v xs := by
  rcases h with h | ⟨g, rfl, hB, hg⟩
  · exact Or.inl h
  · exact Or.inr ⟨g, rfl, hB, (f.block g (heap_lt hg) (hS g rfl)).trans hg⟩
theorem Full.at {w : World} {B e : Nat} {v : Value} {xs : List Value} (h : Full w B e v xs) : RowAt w w.heap.size v xs := by
  rcases h with ⟨rfl, rfl⟩ | ⟨g, rfl, hB, hg⟩
  · exact RowAt.nil _ _
  · exact ⟨_, _, rfl, fun _ => ⟨g, 0, rfl, heap_lt hg, fun i hi => by rw [cell_of hg]; simp [hi]⟩⟩
theorem Full.some {w : World} {B e : Nat} {v : Value} {xs : List Value} (h : Full w B e v xs) (hp : 0 < xs.length) : ∃ g, v = .slice (some ⟨g, 0, none⟩) xs.length xs.length ∧ B ≤ g ∧ w.heap[g]? = some (.cells xs.toArray e) := by
  rcases h with ⟨-, rfl⟩ | h
  · simp at hp
  · exact h
theorem Full.len {w : World} {B e : Nat} {v : Value} {xs : List Value} (h : Full w B e v xs) : ∃ ad, v = .slice ad xs.length xs.length := by
  rcases h with ⟨rfl, rfl⟩ | ⟨g, rfl, -⟩
  · exact ⟨_, rfl⟩
  · exact ⟨_, rfl⟩
theorem Full.lt {w : World} {B e : Nat} {v : Value} {xs : List Value} (h : Full w B e v xs) : ∀ j, v.ownBlock = .some j → B ≤ j ∧ j < w.heap.size := by
  rcases h with ⟨rfl, rfl⟩ | ⟨g, rfl, hB, hg⟩
  · intro j hj; cases hj
  · intro j hj
    have : g = j := Option.some.inj hj
    subst this; exact ⟨hB, heap_lt hg⟩
theorem Full.set {w : World} {B e g : Nat} {n : Nat} {xs : List Value} (h : Full w B e (.slice (.some ⟨g, 0, none⟩) n n) xs) (j : Nat) (u : Value) : Full (w.setCell ⟨g, j, none⟩ u) B e (.slice (.some ⟨g, 0, none⟩) n n) (xs.set j u) := by
  rcases h with ⟨h, -⟩ | ⟨g', e', hB, hg⟩
  · cases h
  · injection e' with e1 e2 e3
    injection e1 with e1
    injection e1 with e1 _ _
    subst e1
    refine Or.inr ⟨g, by rw [List.length_set, ← e2], hB, ?_⟩
    rw [set_of hg, setArr]
theorem rebase {w : World} {B B' e n cap g : Nat} {xs : List Value} (h : w.ownsRow B e 1 (.slice (.some ⟨g, 0, none⟩) n cap) n xs) (hB : B' ≤ g) : w.ownsRow B' e 1 (.slice (.some ⟨g, 0, none⟩) n cap) n xs := by
  refine ⟨h.1, ?_⟩
  rcases h.2 with ⟨h2, -⟩ | ⟨g', cap', cur, e', h3, h4⟩
  · cases h2
  · have := e'
    injection this with e1 e2 e3
    injection e1 with e1
    injection e1 with e1 _ _
    subst e1
    exact Or.inr ⟨g, cap', cur, e', hB, h4⟩

/-- append onto a full row: a new block. -/
theorem full_append (t e : TypeId) (i : TypeInfo) (z : Value) (bytes : Nat) (ht : Tryz.prog.underlying t = some (.slice e)) (hi : Tryz.prog.info? e = some i) (hz : i.zero = some z) (hsize : i.size = 1) (hby : i.bytes = bytes) (hzs : z.cells.size = 1)
    (w : World) (B : Nat) (hB : B ≤ w.heap.size) (v : Value) (xs : List Value) (h : Full w B e v xs) (x : Value) (hx : x.oneCell' = true) (hl : (xs.length + 1) * bytes ≤ 140737488355328) (hm : xs.length + 1 ≤ maxLen) :
    ∃ cap w', (Builtin.append_ #[t, t] t #[v, .slice (.some ⟨w.heap.size, 0, none⟩) 1 1]).run Tryz.prog (w.alloc (.cells #[x] e)) = .ok (.slice (.some ⟨w.heap.size + 1, 0, none⟩) (xs.length + 1) cap) w' ∧ w'.ownsRow w.heap.size e 1 (.slice (.some ⟨w.heap.size + 1, 0, none⟩) (xs.length + 1) cap) (xs.length + 1) (xs ++ [x]) ∧ Fr (fun _ => False) w w' := by
  have hrow := World.ownsRow.alloc (h.row (by omega)) (.cells #[x] e)
  obtain ⟨g, cap, w', hr, hown, hgr, hw, -⟩ := run_append_lies (P := Tryz.prog) (w := w.alloc (.cells #[x] e)) t t B e i z 1 bytes ht hi hz hsize hby hzs (by omega) v xs.length xs hrow ⟨w.heap.size, 0, none⟩ 1 1 [x] rfl (one_new w x e) (by intro u hu; rw [List.mem_singleton.1 hu]; exact hx) (by omega) hm hl (by simp; omega) _ rfl
  have hm' : xs.length + 1 ≤ 9223372036854775807 := by simp only [maxLen] at hm; omega
  have key : g = w.heap.size + 1 ∧ Fr (fun _ => False) w w' := by
    rcases h with ⟨rfl, rfl⟩ | ⟨g0, rfl, hB0, hg0⟩
    · have h4 := run_append_nil (P := Tryz.prog) (w.alloc (.cells #[x] e)) t t e i z ht hi hz ⟨w.heap.size, 0, none⟩ 1 1 [x] (by rw [hsize]; rfl) (one_new w x e) (by omega) (by omega) (by rw [hby]; simp at hl; omega)
      rw [h4] at hr
      injection hr with q1 q2
      injection q1 with q1 _ _
      injection q1 with q1
      injection q1 with q1 _ _
      refine ⟨by rw [← q1]; simp, ?_⟩
      rw [← q2]
      exact (((Fr.refl _ w).alloc _).drew).alloc _
    · have hgl := heap_lt hg0
      have hg1 : (w.alloc (.cells #[x] e)).heap[g0]? = .some (.cells xs.toArray e) := (Go.RowKit.Below.heap_alloc w _ g0 hgl).trans hg0
      have h4 := run_append_grow (P := Tryz.prog) (w.alloc (.cells #[x] e)) t t e i z ht hi hz ⟨g0, 0, none⟩ xs.length xs.length xs (by rw [hsize]; simp) (fun j v hj => by rw [adr, cell_of hg1]; simpa using hj) ⟨w.heap.size, 0, none⟩ 1 1 [x] (by rw [hsize]; rfl) (one_new w x e) (by omega) (by omega) (by rw [hby]; exact growslice_fits (by omega) hl)
      rw [h4] at hr
      injection hr with q1 q2
      injection q1 with q1 _ _
      injection q1 with q1
      injection q1 with q1 _ _
      refine ⟨by rw [← q1]; simp, ?_⟩
      rw [← q2]
      exact (((Fr.refl _ w).alloc _).drew).alloc _
  obtain ⟨rfl, hF⟩ := key
  exact ⟨cap, w', hr, rebase hown (by omega), hF⟩

/-! ### answers that were kept -/
structure KR where
  rk : Value
  ru : Value
  R : RepT
def row4 (x : KR) : List Value := [.bool x.R.ok, .string x.R.val, x.rk, x.ru]
/-- Answers as they lie, one behind the other. -/
structure At4 (w : World) (g i : Nat) (x : KR) : Prop where
  c0 : w.cell? ⟨g, i * 4, none⟩ = .some (.bool x.R.ok)
  c1 : w.cell? ⟨g, i * 4 + 1, none⟩ = .some (.string x.R.val)
  c2 : w.cell? ⟨g, i * 4 + 2, none⟩ = .some x.rk
  c3 : w.cell? ⟨g, i * 4 + 3, none⟩ = .some x.ru
theorem At4.fr {S : Nat → Prop} {w w' : World} {g i : Nat} {x : KR} (h : At4 w g i x) (f : Fr S w w') (hg : g < w.heap.size) (hS : ¬ S g) : At4 w' g i x :=
  ⟨(f.cell hg hS).trans h.c0, (f.cell hg hS).trans h.c1, (f.cell hg hS).trans h.c2, (f.cell hg hS).trans h.c3⟩
def Rows4 (w : World) (lv : Value) (ls : List KR) : Prop := ∃ ad cap, lv = .slice ad ls.length cap ∧ (0 < ls.length → ∃ g, ad = .some ⟨g, 0, none⟩ ∧ g < w.heap.size ∧ ∀ i (h : i < ls.length), At4 w g i ls[i])

/-- The kept lists while they are written over. -/
structure Sp (w wr : World) (B : Nat) (own : Nat → Nat) (ls : List KR) (kc : Nat → List Int) (vc : Nat → List ByteArray) : Prop where
  fr : Fr (fun j => 10 ≤ own j) w wr
  k : ∀ i (h : i < ls.length), Full wr B 3 ls[i].rk ((kc i).map vI)
  v : ∀ i (h : i < ls.length), Full wr B 9 ls[i].ru ((vc i).map Value.string)
  ok : ∀ i (h : i < ls.length) (j : Nat), ls[i].rk.ownBlock = .some j → own j = 10 + 2 * i
  ov : ∀ i (h : i < ls.length) (j : Nat), ls[i].ru.ownBlock = .some j → own j = 11 + 2 * i
section
variable {w wr : World} {B : Nat} {own : Nat → Nat} {ls : List KR} {kc kc' : Nat → List Int} {vc vc' : Nat → List ByteArray}
theorem Sp.keep (h : Sp w wr B own ls kc vc) {w' : World} (f : Fr (fun _ => False) wr w') : Sp w w' B own ls kc vc :=
  ⟨h.fr.trans (f.mono (fun _ _ h => h.elim)), fun i hi => (h.k i hi).fr f (fun _ _ h => h), fun i hi => (h.v i hi).fr f (fun _ _ h => h), h.ok, h.ov⟩
theorem Sp.congr (h : Sp w wr B own ls kc vc) (hk : ∀ i, i < ls.length → kc' i = kc i) (hv : ∀ i, i < ls.length → vc' i = vc i) : Sp w wr B own ls kc' vc' :=
  ⟨h.fr, fun i hi => by rw [hk i hi]; exact h.k i hi, fun i hi => by rw [hv i hi]; exact h.v i hi, h.ok, h.ov⟩
theorem Sp.setK (h : Sp w wr B own ls kc vc) {i : Nat} (hi : i < ls.length) {g n : Nat} (hg : ls[i].rk = .slice (.some ⟨g, 0, none⟩) n n) (j : Nat) (x : Int) (hk : ∀ i', i' < ls.length → kc' i' = if i' = i then (kc i).set j x else kc i') : Sp w (wr.setCell ⟨g, j, none⟩ (vI x)) B own ls kc' vc := by
  have ho : own g = 10 + 2 * i := h.ok i hi g (by rw [hg]; rfl)
  have f := (Fr.refl (fun k => k = g) wr).setCell ⟨g, j, none⟩ (vI x) (Or.inl rfl)
  refine ⟨h.fr.setCell _ _ (Or.inl (by show 10 ≤ own g; omega)), fun i' hi' => ?_, fun i' hi' => ?_, h.ok, h.ov⟩
  · rw [hk i' hi']
    by_cases e : i' = i
    · subst e
      rw [if_pos rfl, List.map_set]
      have := h.k i' hi'
      rw [hg] at this ⊢
      exact this.set j (vI x)
    · rw [if_neg e]
      exact (h.k i' hi').fr f (fun b hb e2 => by have := h.ok i' hi' b hb; subst e2; omega)
  · exact (h.v i' hi').fr f (fun b hb e2 => by have := h.ov i' hi' b hb; subst e2; omega)
theorem Sp.setV (h : Sp w wr B own ls kc vc) {i : Nat} (hi : i < ls.length) {g n : Nat} (hg : ls[i].ru = .slice (.some ⟨g, 0, none⟩) n n) (j : Nat) (x : ByteArray) (hk : ∀ i', i' < ls.length → vc' i' = if i' = i then (vc i).set j x else vc i') : Sp w (wr.setCell ⟨g, j, none⟩ (.string x)) B own ls kc vc' := by
  have ho : own g = 11 + 2 * i := h.ov i hi g (by rw [hg]; rfl)
  have f := (Fr.refl (fun k => k = g) wr).setCell ⟨g, j, none⟩ (.string x) (Or.inl rfl)
  refine ⟨h.fr.setCell _ _ (Or.inl (by show 10 ≤ own g; omega)), fun i' hi' => ?_, fun i' hi' => ?_, h.ok, h.ov⟩
  · exact (h.k i' hi').fr f (fun b hb e2 => by have := h.ok i' hi' b hb; subst e2; omega)
  · rw [hk i' hi']
    by_cases e : i' = i
    · subst e
      rw [if_pos rfl, List.map_set]
      have := h.v i' hi'
      rw [hg] at this ⊢
      exact this.set j (.string x)
    · rw [if_neg e]
      exact (h.v i' hi').fr f (fun b hb e2 => by have := h.ov i' hi' b hb; subst e2; omega)
end
end Go.Proofs.YtngbakjalmgciaaGreat
