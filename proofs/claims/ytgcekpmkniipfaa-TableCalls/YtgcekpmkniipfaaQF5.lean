import Derived.Test.YtgcekpmkniipfaaQF1
import Derived.Test.YtgcekpmkniipfaaQF3J
namespace Go.Proofs.Ytgcekpmkniipfaa
open Go.RowKit (wrap32 wrap64)
set_option linter.unusedVariables false
set_option linter.unusedSimpArgs false

theorem ins_len (t : List Kv) (k : Int) (v : ByteArray) : (insK t k v).length = t.length + 1 := by
  induction t with
  | nil => rfl
  | cons e r ih => unfold insK; split <;> simp [ih]
theorem doT_len (t : List Kv) (o : OpT) : (doT t o).length ≤ t.length + 1 := by
  unfold doT
  split
  · split
    · omega
    · rw [ins_len]; omega
  · omega
theorem fold_len : ∀ (os : List OpT) (t : List Kv), (os.foldl doT t).length ≤ t.length + os.length
  | [], t => by simp
  | o :: os, t => by
    have h1 := fold_len os (doT t o)
    have h2 := doT_len t o
    simp only [List.foldl_cons, List.length_cons]
    omega
theorem tabOf_len (os : List OpT) : (tabOf os).length ≤ os.length := by
  have := fold_len os []
  simpa [tabOf] using this
theorem doR_len (t : List Kv) (o : OpT) : (doR t o).L.length ≤ t.length := by
  unfold doR
  split
  · simp
  · split
    · simp
    · exact Nat.le_refl _

/-- What the walk wants of a history. -/
structure OKms (ms : List MomT) : Prop where
  ends : ∀ (i : Nat) (m : MomT), ms[i]? = some m → m.beg = true → ∃ k, Ends ms i k
  cnt : nBeg ms = nEnd ms
  len : ms.length ≤ 300000
  lz : ∀ cs : List CallT, cs.length = (begsTo ms ms.length).length → (∀ (j i : Nat) (C : CallT), (begsTo ms ms.length)[j]? = some i → cs[j]? = some C → CallIs ms i C) → ∃ os rk, Lz cs os rk ∧ os.length ≤ 300000
theorem OKms.nil : OKms [] := ⟨fun i m h => by simp at h, rfl, by simp, fun cs hl _ => ⟨[], fun _ => 0, by
  have : cs = [] := List.eq_nil_of_length_eq_zero (by rw [hl]; rfl)
  subst this
  exact ⟨fun j C h => by simp at h, fun j C h => by simp at h, fun j j' h => by simp at h, fun a h => by simp at h, fun j j' C C' h => by simp at h, fun j C h => by simp at h⟩, by simp⟩⟩

theorem begs_mem (ms : List MomT) (i : Nat) : i ∈ begsTo ms ms.length ↔ ∃ m, ms[i]? = some m ∧ m.beg = true := by
  unfold begsTo
  rw [List.mem_filter, List.mem_range]
  unfold isBeg
  constructor
  · rintro ⟨h1, h2⟩
    have : ms[i]? = some ms[i] := List.getElem?_eq_getElem h1
    rw [this] at h2
    exact ⟨_, this, h2⟩
  · rintro ⟨m, h1, h2⟩
    exact ⟨get_lt h1, by rw [h1]; exact h2⟩
theorem begs_nodup (ms : List MomT) (i : Nat) : (begsTo ms i).Nodup := List.Pairwise.filter _ List.nodup_range

theorem some_total (cl : List (List OpT)) (hn : cl.length ≤ 64) : total (someX cl) ≤ 25728 := by
  unfold total
  have h1 : (someX cl).length = cl.length := by simp [someX]
  have h2 : ∀ l ∈ someX cl, l.length ≤ 401 := fun l hl => by
    unfold someX at hl
    obtain ⟨x, -, rfl⟩ := List.mem_map.1 hl
    rw [List.length_take]
    have : mostX cl.length ≤ 401 := by unfold mostX; have := Nat.div_le_self 400 cl.length; omega
    omega
  have h3 : ∀ (l : List (List OpT)), (∀ x ∈ l, x.length ≤ 401) → (l.map List.length).sum ≤ 401 * l.length := fun l => by
    induction l with
    | nil => intro _; simp
    | cons a r ih =>
      intro h
      have := ih (fun x hx => h x (List.mem_cons_of_mem _ hx))
      have := h a List.mem_cons_self
      simp only [List.map_cons, List.sum_cons, List.length_cons]
      omega
  have h4 := h3 _ h2
  omega
theorem some_keys (cl : List (List OpT)) (hk : ∀ l ∈ cl, ∀ o ∈ l, In64 o.2.1) : ∀ l ∈ someX cl, ∀ o ∈ l, In64 o.2.1 := fun l hl o ho => by
  unfold someX at hl
  obtain ⟨x, hx, rfl⟩ := List.mem_map.1 hl
  exact hk x hx o (List.mem_of_mem_take ho)

theorem play_ok {cl : List (List OpT)} (zs : List Int) (hk : ∀ l ∈ cl, ∀ o ∈ l, In64 o.2.1) (hmu : mu (begin0 cl) ≤ 300000) (k : Nat) (hab : able (iter zs (begin0 cl) k) = []) : OKms (iter zs (begin0 cl) k).ms := by
  have hP := PInv.iterates hk zs k
  have hH := hP.hist_end hab
  have h0 : StOk (begin0 cl) := (PInv.begin hk).ok
  have h1 := (iter_ms (zs := zs) h0 k).2
  have h3 : (begin0 cl).ms.length = 0 := rfl
  refine ⟨hH.ends, hH.cnt, by omega, fun cs hl hcs => ?_⟩
  obtain ⟨acs, hL, hlen⟩ := Lin.iterates hk zs k
  have hkd : ∀ A ∈ acs, A.op.1 = 1 ∨ A.op.1 = 2 ∨ A.op.1 = 3 := fun A hA => by
    obtain ⟨q, m, m', a1, a2, a3, a4, -⟩ := (hL.over hab).1 A hA
    have hc := hH.who _ _ a1
    have hl' : cl[m.c]? = some cl[m.c] := List.getElem?_eq_getElem hc
    have ha := hH.all _ _ hl'
    have hm : m.op ∈ begOps (iter zs (begin0 cl) k).ms m.c := by
      unfold begOps
      refine List.mem_map.2 ⟨m, List.mem_filter.2 ⟨List.mem_of_getElem? a1, by simp [a2]⟩, rfl⟩
    rw [← ha] at hm
    have hkn := (List.mem_filter.1 hm).2
    rw [a4] at hkn
    have := knw_true.1 hkn
    omega
  obtain ⟨rk, hz⟩ := lin_lz hL hab (begs_mem _) (begs_nodup _ _) hl hcs hkd
  exact ⟨_, rk, hz, by simp; omega⟩

/-- Play of some calls, however many the clients are. -/
theorem play_both (w : World) (v sv : Value) (cl : List (List OpT)) (zs : List Int) (h : ClsAt w w.heap.size v (someX cl)) (hz : IntsAt w w.heap.size sv zs) (hk : ∀ l ∈ cl, ∀ o ∈ l, In64 o.2.1) (hzl : zs.length ≤ 2147483647) :
    Calls Try.prog 13 #[v, sv] w fun e w' => ∃ mv ms, e = .returned mv ∧ MomsAt w' w.heap.size mv ms ∧ OKms ms ∧ Fr (fun _ => False) w w' := by
  have hsl : (someX cl).length = cl.length := by simp [someX]
  by_cases hn : 64 < cl.length
  · refine (play_many w v sv (someX cl) h (by omega)).mono ?_
    rintro _ w' ⟨rfl, rfl⟩
    exact ⟨_, [], rfl, ⟨[], fun _ => False, World.ownsRow_nil _ _ _ _, rfl, fun x hx => (by cases hx), fun j e => by cases e⟩, OKms.nil, Fr.refl _ _⟩
  · have ht := some_total cl (by omega)
    have hmu := mu_le (someX cl)
    refine (play_any w v sv (someX cl) zs h hz (by omega) (fun l hl => by have := total_len hl; omega) (some_keys cl hk) (by omega) (by omega)).mono ?_
    rintro _ w' ⟨mv, k, rfl, hab, hM, hF⟩
    exact ⟨mv, _, rfl, hM, play_ok zs (some_keys cl hk) (by omega) k hab, hF⟩

/-! ### the calls as they lie -/
structure CallAt (w : World) (g j : Nat) (C : CallT) (ka : Option Addr) (kn kc : Nat) (va : Option Addr) (vn vc : Nat) : Prop where
  c0 : w.cell? ⟨g, j * 9, none⟩ = some (vI C.fr)
  c1 : w.cell? ⟨g, j * 9 + 1, none⟩ = some (vI C.tt)
  c2 : w.cell? ⟨g, j * 9 + 2, none⟩ = some (vI C.op.1)
  c3 : w.cell? ⟨g, j * 9 + 3, none⟩ = some (vI C.op.2.1)
  c4 : w.cell? ⟨g, j * 9 + 4, none⟩ = some (.string C.op.2.2)
  c5 : w.cell? ⟨g, j * 9 + 5, none⟩ = some (.bool C.rp.ok)
  c6 : w.cell? ⟨g, j * 9 + 6, none⟩ = some (.string C.rp.val)
  c7 : w.cell? ⟨g, j * 9 + 7, none⟩ = some (.slice ka kn kc)
  c8 : w.cell? ⟨g, j * 9 + 8, none⟩ = some (.slice va vn vc)
  rk : RowAt w w.heap.size (.slice ka kn kc) (kCells C.rp.L)
  rv : RowAt w w.heap.size (.slice va vn vc) (vCells C.rp.L)
theorem CallAt.fr {w w' : World} {g j : Nat} {C : CallT} {ka va : Option Addr} {kn kc vn vc : Nat} (h : CallAt w g j C ka kn kc va vn vc) (f : Fr (fun _ => False) w w') (hg : g < w.heap.size) : CallAt w' g j C ka kn kc va vn vc := by
  have k := fun o => f.cell (o := o) hg (fun h => h)
  exact ⟨(k _).trans h.c0, (k _).trans h.c1, (k _).trans h.c2, (k _).trans h.c3, (k _).trans h.c4, (k _).trans h.c5, (k _).trans h.c6, (k _).trans h.c7, (k _).trans h.c8, (h.rk.fr f (Nat.le_refl _) (fun _ _ h => h)).mono f.size, (h.rv.fr f (Nat.le_refl _) (fun _ _ h => h)).mono f.size⟩
def CsAt (w : World) (lv : Value) (cs : List CallT) : Prop := ∃ ad cap, lv = .slice ad cs.length cap ∧ (0 < cs.length → ∃ g, ad = some ⟨g, 0, none⟩ ∧ g < w.heap.size ∧ ∀ j (h : j < cs.length), ∃ ka kn kc va vn vc, CallAt w g j cs[j] ka kn kc va vn vc)

theorem calls_exist {w2 w3 : World} {B : Nat} {lv : Value} {ms : List MomT} {kf vf : Nat → Value} {rows : List (List Value)} (hrow : w3.ownsRow B 47 9 lv rows.length rows.flatten) (hall : All2 (CallRow2 kf vf ms) (begsTo ms ms.length) rows) (hF : Fr (fun _ => False) w2 w3)
    (hl : ∀ (k : Nat) (m : MomT), ms[k]? = some m → RowAt w2 w2.heap.size (kf k) (kCells m.rp.L) ∧ RowAt w2 w2.heap.size (vf k) (vCells m.rp.L)) :
    ∃ cs : List CallT, CsAt w3 lv cs ∧ cs.length = (begsTo ms ms.length).length ∧ ∀ (j i : Nat) (C : CallT), (begsTo ms ms.length)[j]? = some i → cs[j]? = some C → CallIs ms i C := by
  have hlen := hall.len
  have hget := hall.get
  obtain ⟨f, hf⟩ : ∃ f : Nat → CallT, ∀ j (h1 : j < (begsTo ms ms.length).length) (h2 : j < rows.length), CallIs ms (begsTo ms ms.length)[j] (f j) ∧ ∃ ka kn kc va vn vc, rows[j] = [vI (f j).fr, vI (f j).tt, vI (f j).op.1, vI (f j).op.2.1, .string (f j).op.2.2, .bool (f j).rp.ok, .string (f j).rp.val, .slice ka kn kc, .slice va vn vc] ∧ RowAt w3 w3.heap.size (.slice ka kn kc) (kCells (f j).rp.L) ∧ RowAt w3 w3.heap.size (.slice va vn vc) (vCells (f j).rp.L) := by
    have : ∀ j, ∃ C : CallT, ∀ (h1 : j < (begsTo ms ms.length).length) (h2 : j < rows.length), CallIs ms (begsTo ms ms.length)[j] C ∧ ∃ ka kn kc va vn vc, rows[j] = [vI C.fr, vI C.tt, vI C.op.1, vI C.op.2.1, .string C.op.2.2, .bool C.rp.ok, .string C.rp.val, .slice ka kn kc, .slice va vn vc] ∧ RowAt w3 w3.heap.size (.slice ka kn kc) (kCells C.rp.L) ∧ RowAt w3 w3.heap.size (.slice va vn vc) (vCells C.rp.L) := fun j => by
      by_cases h1 : j < (begsTo ms ms.length).length
      · have h2 : j < rows.length := by omega
        obtain ⟨k, m, m', ka, kn, kc, va, vn, vc, e1, e2, e3, e4, e5, e6⟩ := hget j h1 h2
        refine ⟨⟨(begsTo ms ms.length)[j], k, m.op, m'.rp⟩, fun _ _ => ⟨⟨m, m', e1, e2, e3, rfl, rfl, rfl⟩, ka, kn, kc, va, vn, vc, e4, ?_, ?_⟩⟩
        · rw [← e5]; exact ((hl k m' e3).1.fr hF (Nat.le_refl _) (fun _ _ h => h)).mono hF.size
        · rw [← e6]; exact ((hl k m' e3).2.fr hF (Nat.le_refl _) (fun _ _ h => h)).mono hF.size
      · exact ⟨⟨0, 0, (0, 0, ⟨#[]⟩), rep0⟩, fun h => absurd h h1⟩
    exact Classical.axiomOfChoice this
  refine ⟨(List.range rows.length).map f, ?_, by simp [hlen], fun j i C hj hC => ?_⟩
  · rcases hrow.2 with ⟨h2, h3⟩ | ⟨g, cap, cur, e, h3, h4, h5, h6, h7, h8⟩
    · exact ⟨none, 0, by rw [h2]; simp [h3], fun hne => by simp at hne; omega⟩
    · refine ⟨_, cap, by rw [e]; simp, fun _ => ⟨g, rfl, heap_lt h4, fun j hj => ?_⟩⟩
      have hj' : j < rows.length := by simpa using hj
      have h9 : ∀ r ∈ rows, r.length = 9 := fun r hr => by
        obtain ⟨t, ht, rfl⟩ := List.getElem_of_mem hr
        obtain ⟨-, ka, kn, kc, va, vn, vc, er, -⟩ := hf t (by omega) ht
        rw [er]; rfl
      have hc : ∀ t, t < 9 → w3.cell? ⟨g, j * 9 + t, none⟩ = (rows[j])[t]? := fun t ht => by
        rw [cell_of h4]
        have : cur[j * 9 + t]? = (rows.flatten)[j * 9 + t]? := by rw [← h8, List.getElem?_take, if_pos (by omega), Array.getElem?_toList]
        rw [this, flat_get h9 j t hj' ht]
      obtain ⟨-, ka, kn, kc, va, vn, vc, er, r1, r2⟩ := hf j (by omega) hj'
      rw [er] at hc
      have ef : ((List.range rows.length).map f)[j] = f j := by simp
      rw [ef]
      exact ⟨ka, kn, kc, va, vn, vc, hc 0 (by omega), hc 1 (by omega), hc 2 (by omega), hc 3 (by omega), hc 4 (by omega), hc 5 (by omega), hc 6 (by omega), hc 7 (by omega), hc 8 (by omega), r1, r2⟩
  · obtain ⟨h1, e1⟩ := List.getElem?_eq_some_iff.1 hj
    have h2 : j < rows.length := by omega
    have eC : C = f j := by
      rw [List.getElem?_map, List.getElem?_range h2] at hC
      exact (Option.some.inj hC).symm
    rw [eC, ← e1]
    exact (hf j h1 h2).1
end Go.Proofs.Ytgcekpmkniipfaa
