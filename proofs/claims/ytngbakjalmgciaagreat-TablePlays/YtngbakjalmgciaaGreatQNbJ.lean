import Derived.Test.YtngbakjalmgciaaGreatQNaJ
import Derived.Test.YtngbakjalmgciaaGreatQQh
import Derived.BigRegion
import Derived.StillTailTactics
import Derived.BigQuiet
namespace Go.Proofs.YtngbakjalmgciaaGreat
set_option linter.unusedVariables false
set_option linter.unusedSimpArgs false

/-! ### what holds of the document's play at all times -/
def tot (cl : List (List OpT)) : Nat := (cl.map List.length).sum
def prg (d : DC) : Nat := d.at' + if d.done = true then 1 else 0
def pr2 (d : DC) : Nat := 2 * d.at' + if d.begun = true then 1 else 0
structure DOk (cl : List (List OpT)) (s : DS) : Prop where
  ops : s.cls.map DC.ops = cl.map rightX
  each : ∀ d ∈ s.cls, d.at' ≤ d.ops.length ∧ d.locked ≤ 8 ∧ (d.begun = true → d.at' < d.ops.length) ∧ (d.done = true → d.at' < d.ops.length)
  tab : s.tab.length ≤ (s.cls.map prg).sum
  ms : s.ms.length ≤ (s.cls.map pr2).sum
  rps : ∀ d ∈ s.cls, d.rp.L.length ≤ tot cl
  mrs : ∀ m ∈ s.ms, m.rp.L.length ≤ tot cl
theorem insK_len (t : List Kv) (k : Int) (v : ByteArray) : (insK t k v).length = t.length + 1 := by
  induction t with
  | nil => rfl
  | cons e r ih =>
    unfold insK
    split
    · simp [ih]
    · simp
theorem doT_len (t : List Kv) (o : OpT) : (doT t o).length ≤ t.length + 1 := by
  unfold doT
  split
  · split
    · omega
    · rw [insK_len]; omega
  · omega
theorem sum_le {α : Type} {f g : α → Nat} {l : List α} (h : ∀ x ∈ l, f x ≤ g x) : (l.map f).sum ≤ (l.map g).sum := by
  induction l with
  | nil => simp
  | cons a r ih =>
    have h1 := h a (by simp)
    have h2 := ih (fun x hx => h x (by simp [hx]))
    simp only [List.map_cons, List.sum_cons]
    omega
theorem DOk.len {cl : List (List OpT)} {s : DS} (h : DOk cl s) : (s.cls.map (fun d => d.ops.length)).sum ≤ tot cl := by
  have e : s.cls.map (fun d => d.ops.length) = (s.cls.map DC.ops).map List.length := by simp
  rw [e, h.ops]
  unfold tot
  rw [List.map_map]
  exact sum_le (fun l _ => List.length_filter_le _ _)
theorem DOk.tabs {cl : List (List OpT)} {s : DS} (h : DOk cl s) : s.tab.length ≤ tot cl := by
  refine Nat.le_trans h.tab (Nat.le_trans (sum_le (fun d hd => ?_)) h.len)
  obtain ⟨e1, e2, e3, e4⟩ := h.each d hd
  unfold prg
  split
  · rename_i e; have := e4 e; omega
  · omega
theorem DOk.mss {cl : List (List OpT)} {s : DS} (h : DOk cl s) : s.ms.length ≤ 2 * tot cl := by
  have h1 : (s.cls.map pr2).sum ≤ (s.cls.map (fun d => 2 * d.ops.length)).sum := sum_le (fun d hd => by
    obtain ⟨e1, e2, e3, e4⟩ := h.each d hd
    unfold pr2
    split
    · rename_i e; have := e3 e; omega
    · omega)
  have h2 : ∀ l : List DC, (l.map (fun d => 2 * d.ops.length)).sum = 2 * (l.map (fun d => d.ops.length)).sum := fun l => by
    induction l with
    | nil => rfl
    | cons a r ih => simp only [List.map_cons, List.sum_cons, ih]; omega
  have h3 := h.len
  have h4 := h.ms
  rw [h2] at h1
  omega
theorem sum_put {f : DC → Nat} {l : List DC} {n : Nat} (hn : n < l.length) (d : DC) : ((l.set n d).map f).sum + f l[n] = (l.map f).sum + f d := by
  have := sum_set (l := l.map f) (i := n) (x := f d) (by simpa using hn)
  rw [List.map_set]
  simpa using this
theorem DOk.set {cl : List (List OpT)} {s : DS} (h : DOk cl s) {n : Nat} (hn : n < s.cls.length) {d : DC} (h1 : d.ops = s.cls[n].ops) (h2 : d.at' ≤ d.ops.length ∧ d.locked ≤ 8 ∧ (d.begun = true → d.at' < d.ops.length) ∧ (d.done = true → d.at' < d.ops.length)) (h5 : d.rp.L.length ≤ tot cl) {tab : List Kv} {held : Nat → Int} {ms : List MomT} (h3 : tab.length + prg s.cls[n] ≤ s.tab.length + prg d) (h4 : ms.length + pr2 s.cls[n] ≤ s.ms.length + pr2 d) (h6 : ∀ m ∈ ms, m.rp.L.length ≤ tot cl) : DOk cl ⟨tab, held, s.cls.set n d, ms⟩ := by
  refine ⟨?_, fun x hx => ?_, ?_, ?_, fun x hx => ?_, h6⟩
  · rw [← h.ops]
    simp only [List.map_set, h1]
    have e : (s.cls.map DC.ops)[n]'(by simpa using hn) = s.cls[n].ops := by simp
    rw [← e, List.set_getElem_self]
  · rcases mem_set hx with e | rfl
    · exact h.each x e
    · exact h2
  · have := sum_put (f := prg) hn d
    have := h.tab
    show tab.length ≤ ((s.cls.set n d).map prg).sum
    omega
  · have := sum_put (f := pr2) hn d
    have := h.ms
    show ms.length ≤ ((s.cls.set n d).map pr2).sum
    omega
  · rcases mem_set hx with e | rfl
    · exact h.rps x e
    · exact h5
theorem DOk.step {cl : List (List OpT)} {s : DS} (h : DOk cl s) (n : Nat) : DOk cl (dStep s n) := by
  unfold dStep
  by_cases hn : n < s.cls.length
  · have hg : s.cls.getD n dc0 = s.cls[n] := by rw [List.getD_eq_getElem?_getD]; simp [hn]
    obtain ⟨e1, e2, e3, e4⟩ := h.each s.cls[n] (List.getElem_mem hn)
    have hr := h.rps s.cls[n] (List.getElem_mem hn)
    have ht := h.tabs
    simp only [hg]
    cases hop : s.cls[n].ops[s.cls[n].at']? with
    | none => exact h
    | some o =>
      have hlt : s.cls[n].at' < s.cls[n].ops.length := (List.getElem?_eq_some_iff.1 hop).1
      have hR : (doR s.tab o).L.length ≤ tot cl := by
        unfold doR
        split
        · exact Nat.zero_le _
        · split
          · exact Nat.zero_le _
          · exact ht
      simp only
      split
      · rename_i hb
        refine DOk.set (d := { s.cls[n] with begun := true }) h hn rfl ⟨e1, e2, fun _ => hlt, e4⟩ hr (Nat.le_refl _) ?_ ?_
        · simp [pr2, hb]; omega
        · intro m hm
          rcases List.mem_append.1 hm with e | e
          · exact h.mrs m e
          · simp at e; subst e; exact Nat.zero_le _
      · rename_i hb
        split
        · rename_i hd
          refine DOk.set (d := { s.cls[n] with at' := s.cls[n].at' + 1, begun := false, done := false }) h hn rfl ⟨hlt, e2, fun e => by simp at e, fun e => by simp at e⟩ hr ?_ ?_ ?_
          · simp [prg, hd]
          · simp [pr2, hb]; omega
          · intro m hm
            rcases List.mem_append.1 hm with e | e
            · exact h.mrs m e
            · simp at e; subst e; exact hr
        · rename_i hd
          split
          · rename_i h8
            exact DOk.set (d := { s.cls[n] with locked := s.cls[n].locked + 1 }) h hn rfl ⟨e1, by show s.cls[n].locked + 1 ≤ 8; omega, e3, e4⟩ hr (Nat.le_refl _) (Nat.le_refl _) h.mrs
          · split
            · exact DOk.set (d := { s.cls[n] with rp := doR s.tab o, done := true, locked := 0 }) h hn rfl ⟨e1, by show 0 ≤ 8; omega, e3, fun _ => hlt⟩ hR (by simp [prg, hd]) (Nat.le_refl _) h.mrs
            · refine DOk.set (d := { s.cls[n] with rp := doR s.tab o, done := true }) h hn rfl ⟨e1, e2, e3, fun _ => hlt⟩ hR ?_ (Nat.le_refl _) h.mrs
              have := doT_len s.tab o
              simp [prg, hd]; omega
  · have hg : s.cls.getD n dc0 = dc0 := by rw [List.getD_eq_getElem?_getD]; simp [hn]
    simp only [hg]
    exact h
theorem dok_all (cl : List (List OpT)) (zs : List Int) : ∀ k, DOk cl (dIter zs (dBegin cl) k).1
  | 0 => by
    refine ⟨by simp [dIter, dBegin], fun d hd => ?_, by simp [dIter, dBegin], by simp [dIter, dBegin], fun d hd => ?_, fun m hm => by simp [dIter, dBegin] at hm⟩
    · simp only [dIter, dBegin, List.mem_map] at hd
      obtain ⟨l, -, rfl⟩ := hd
      exact ⟨Nat.zero_le _, Nat.zero_le _, fun e => by simp at e, fun e => by simp at e⟩
    · simp only [dIter, dBegin, List.mem_map] at hd
      obtain ⟨l, -, rfl⟩ := hd
      exact Nat.zero_le _
  | k + 1 => by
    have h := dok_all cl zs k
    simp only [dIter]
    split
    · exact h
    · exact h.step _
theorem dok_facts {cl : List (List OpT)} {s : DS} (h : DOk cl s) (hl : ∀ l ∈ cl, l.length ≤ 2147483647) : ∀ d ∈ s.cls, d.ops.length ≤ 2147483647 ∧ d.locked ≤ 8 ∧ (∀ o ∈ d.ops, known o.1 = true) ∧ d.at' ≤ 2147483647 := fun d hd => by
  obtain ⟨e1, e2, -⟩ := h.each d hd
  have hm : d.ops ∈ cl.map rightX := by rw [← h.ops]; exact List.mem_map.2 ⟨d, hd, rfl⟩
  obtain ⟨l, hl', e⟩ := List.mem_map.1 hm
  have h1 : d.ops.length ≤ l.length := by rw [← e]; exact List.length_filter_le _ _
  have h2 := hl l hl'
  refine ⟨by omega, e2, fun o ho => ?_, by omega⟩
  rw [← e] at ho
  exact (List.mem_filter.1 ho).2
theorem dIter_step {zs : List Int} {s0 : DS} {k : Nat} (h : dReady (dIter zs s0 k).1 ≠ []) : dIter zs s0 (k + 1) = (dStep (dIter zs s0 k).1 (pickX (dIter zs s0 k).2 (dReady (dIter zs s0 k).1) zs k), ((pickX (dIter zs s0 k).2 (dReady (dIter zs s0 k).1) zs k : Nat) : Int)) := by
  show (if dReady (dIter zs s0 k).1 = [] then _ else _) = _
  rw [if_neg h]
/-- One step less is left. -/
theorem play_less {cl : List (List OpT)} (hcl : ∀ l ∈ cl, ∀ o ∈ l, In64 o.2.1) (zs : List Int) (k : Nat) (h : dReady (dIter zs (dBegin cl) k).1 ≠ []) : mu (iter zs (begin0 cl) (k + 1)) + 1 ≤ mu (iter zs (begin0 cl) k) := by
  obtain ⟨h1, h2, h3⟩ := play_alike hcl zs k
  have ha := rs_able h1 h2
  rw [← ha] at h
  rw [iter_step h]
  have hp := pick_mem (last := (iter zs (begin0 cl) k).last) (zs := zs) (k := k) h
  exact (step_ok h2 hp _).2.1
/-- Both histories are the same. -/
theorem play_same {cl : List (List OpT)} (hcl : ∀ l ∈ cl, ∀ o ∈ l, In64 o.2.1) (zs : List Int) {k m : Nat} (h : able (iter zs (begin0 cl) k) = []) (h' : dReady (dIter zs (dBegin cl) m).1 = []) : (dIter zs (dBegin cl) m).1.ms = (iter zs (begin0 cl) k).ms := by
  obtain ⟨h1, h2, h3⟩ := play_alike hcl zs m
  rw [← h1.ms]
  have ha := rs_able h1 h2
  rw [h'] at ha
  have e : ∀ {k : Nat}, able (iter zs (begin0 cl) k) = [] → ∀ q, iter zs (begin0 cl) (k + q) = iter zs (begin0 cl) k := fun {k} hk q => by
    induction q with
    | zero => rfl
    | succ q ih =>
      show (if able (iter zs (begin0 cl) (k + q)) = [] then _ else _) = _
      rw [if_pos (by rw [ih]; exact hk)]
      exact ih
  rcases Nat.le_total k m with hle | hle
  · obtain ⟨q, rfl⟩ := Nat.exists_eq_add_of_le hle
    rw [e h q]
  · obtain ⟨q, rfl⟩ := Nat.exists_eq_add_of_le hle
    rw [e ha q]
end Go.Proofs.YtngbakjalmgciaaGreat

namespace Go.Proofs.YtngbakjalmgciaaGreat
open Go.RowKit (wrap32 wrap64)
set_option linter.unusedVariables false
set_option linter.unusedSimpArgs false

theorem infoP : (Tryz.prog.info? 68).map (fun i => (i.zero, i.size, i.bytes)) = some (some (.pointer none), 1, 8) := by kernel_rfl
theorem underP : Tryz.prog.underlying 65 = some (.slice 68) := by kernel_rfl
/-- A history as it lies, each list from block B on. -/
def HsAt (w : World) (B : Nat) (mv : Value) (ms : List MomT) : Prop :=
  ∃ mvs : List MV, w.ownsRow B 44 9 mv ms.length ((mvs.map m9).flatten) ∧ mvs.map MV.m = ms ∧ ∀ x ∈ mvs, RowAt w w.heap.size x.kv (kCells x.m.rp.L) ∧ RowAt w w.heap.size x.vv (vCells x.m.rp.L) ∧ ∀ j, (x.kv.ownBlock = some j ∨ x.vv.ownBlock = some j) → B ≤ j ∧ j < w.heap.size
theorem Sn.hist {w : World} {B sb tb : Nat} {lv kv vv hv : Value} {ro : Nat → Nat} {dvs : List DV} {mvs : List MV} {t : DS} (h : Sn w B sb tb lv kv vv hv ro dvs mvs t) : HsAt w B hv t.ms := by
  refine ⟨mvs, h.mom, h.moms, fun x hx => ⟨(h.mrk x hx).1, (h.mrv x hx).1, fun j hj => ?_⟩⟩
  have : ro j ≠ 0 := by
    rcases hj with e | e
    · exact (h.mrk x hx).2.2 j e
    · exact (h.mrv x hx).2.2 j e
  exact ⟨h.ge j this, h.lt j this⟩
/-- While the clients are laid: what a region of one more needs. -/
theorem Sn.adds {w : World} {B sb tb : Nat} {lv : Value} {ro : Nat → Nat} {dvs : List DV} {t : DS} (h : Sn w B sb tb lv (.slice none 0 0) (.slice none 0 0) (.slice none 0 0) ro dvs [] t) {w1 : World} {ov : Value} {ops : List OpT} (f1 : Fr (fun _ => False) w w1) (ho : OpsOwn w1 w.heap.size ov ops) :
    w1.cell? ⟨sb, 9, none⟩ = some lv ∧ (w1.alloc (.cells (cl0C ov) 70)).cell? ⟨sb, 9, none⟩ = some lv ∧ ((w1.alloc (.cells (cl0C ov) 70)).alloc (.cells #[.pointer (some ⟨w1.heap.size, 0, none⟩)] 68)).cell? ⟨sb, 9, none⟩ = some lv ∧
    ((w1.alloc (.cells (cl0C ov) 70)).alloc (.cells #[.pointer (some ⟨w1.heap.size, 0, none⟩)] 68)).ownsRow B 68 1 lv dvs.length (ptrs dvs) ∧ (∀ j u, [Value.pointer (some ⟨w1.heap.size, 0, none⟩)][j]? = some u → ((w1.alloc (.cells (cl0C ov) 70)).alloc (.cells #[.pointer (some ⟨w1.heap.size, 0, none⟩)] 68)).cell? ((⟨w1.heap.size + 1, 0, none⟩ : Addr).add j) = some u) ∧
    ((w1.alloc (.cells (cl0C ov) 70)).alloc (.cells #[.pointer (some ⟨w1.heap.size, 0, none⟩)] 68)).heap.size = w1.heap.size + 2 ∧ B ≤ w1.heap.size := by
  have g0 : Fr (fun _ => False) w (w1.alloc (.cells (cl0C ov) 70)) := f1.alloc _
  have g1 : Fr (fun _ => False) w ((w1.alloc (.cells (cl0C ov) 70)).alloc (.cells #[.pointer (some ⟨w1.heap.size, 0, none⟩)] 68)) := g0.alloc _
  have hc : ∀ W, Fr (fun _ => False) w W → W.cell? ⟨sb, 9, none⟩ = some lv := fun W f => by rw [cell_of (h.fr0 f).scn]; rfl
  have hsz : (w1.alloc (.cells (cl0C ov) 70)).heap.size = w1.heap.size + 1 := by simp
  refine ⟨hc _ f1, hc _ g0, hc _ g1, (h.fr0 g1).row, ?_, by simp, Nat.le_trans h.Ble f1.size⟩
  have := heap_alloc_last (w1.alloc (.cells (cl0C ov) 70)) (.cells #[.pointer (some ⟨w1.heap.size, 0, none⟩)] 68)
  rw [hsz] at this
  exact World.news_of_block (cs := #[.pointer (some ⟨w1.heap.size, 0, none⟩)]) this
theorem dBegin_succ (cl : List (List OpT)) (k : Nat) (hk : k < cl.length) : dBegin (cl.take (k + 1)) = { dBegin (cl.take k) with cls := (dBegin (cl.take k)).cls ++ [⟨rightX cl[k], 0, false, 0, false, rep0⟩] } := by
  unfold dBegin
  rw [List.take_add_one, List.getElem?_eq_getElem hk]
  simp only [Option.toList_some, List.map_append, List.map_cons, List.map_nil]
theorem Fr.low {w a b : World} {B : Nat} (h : Fr (fun _ => False) w a) (k : Fr (fun j => B ≤ j) a b) (hB : w.heap.size ≤ B) : Fr (fun _ => False) w b := h.under k (fun j hj => by omega)
end Go.Proofs.YtngbakjalmgciaaGreat

namespace Go.Proofs.YtngbakjalmgciaaGreat
open Go.RowKit (wrap32 wrap64)
set_option linter.unusedVariables false
set_option linter.unusedSimpArgs false

/-! ### two histories that are the same -/
theorem HsAt.fr {S : Nat → Prop} {w w' : World} {B : Nat} {mv : Value} {ms : List MomT} (h : HsAt w B mv ms) (f : Fr S w w') (hS : ∀ j, B ≤ j → j < w.heap.size → ¬ S j) : HsAt w' B mv ms := by
  obtain ⟨mvs, h1, h2, h3⟩ := h
  refine ⟨mvs, ownsRow_fr h1 f (fun j hj => hS j (World.ownsRow.lt h1 j hj).1 (World.ownsRow.lt h1 j hj).2), h2, fun x hx => ?_⟩
  obtain ⟨r1, r2, r3⟩ := h3 x hx
  exact ⟨(r1.fr f (Nat.le_refl _) (fun j hj => hS j (r3 j (Or.inl hj)).1 (r3 j (Or.inl hj)).2)).mono f.size, (r2.fr f (Nat.le_refl _) (fun j hj => hS j (r3 j (Or.inr hj)).1 (r3 j (Or.inr hj)).2)).mono f.size, fun j hj => ⟨(r3 j hj).1, Nat.lt_of_lt_of_le (r3 j hj).2 f.size⟩⟩
theorem MomsAt.hs {w : World} {B : Nat} {mv : Value} {ms : List MomT} (h : MomsAt w B mv ms) : HsAt w B mv ms := by
  obtain ⟨mvs, O, h1, h2, h3, -⟩ := h
  refine ⟨mvs, h1, h2, fun x hx => ?_⟩
  rcases h3 x hx with ⟨e1, e2, e3⟩ | ⟨kb, vb, e1, e2, b1, b2, -, -, hs⟩
  · rw [e1, e2, e3]
    exact ⟨RowAt.nil _ _, RowAt.nil _ _, fun j hj => by rcases hj with e | e <;> cases e⟩
  · rw [e1, e2]
    have l1 := heap_lt hs.ks
    have l2 := heap_lt hs.vs
    refine ⟨⟨_, _, by rw [kLen], fun _ => ⟨kb, 0, rfl, l1, fun i hi => ?_⟩⟩, ⟨_, _, by rw [vLen], fun _ => ⟨vb, 0, rfl, l2, fun i hi => ?_⟩⟩, fun j hj => ?_⟩
    · rw [cell_of hs.ks, Nat.zero_add]
      unfold kCells at hi ⊢
      simp at hi
      simp [hi]
    · rw [cell_of hs.vs, Nat.zero_add]
      unfold vCells at hi ⊢
      simp at hi
      simp [hi]
    · rcases hj with e | e
      · have : kb = j := Option.some.inj e
        omega
      · have : vb = j := Option.some.inj e
        omega
def momV (m : MomT) (kv vv : Value) : Value := .agg #[vI m.c, .bool m.beg, vI m.op.1, vI m.op.2.1, .string m.op.2.2, .bool m.rp.ok, .string m.rp.val, kv, vv]
theorem HsAt.cells {w : World} {B : Nat} {mv : Value} {ms : List MomT} (h : HsAt w B mv ms) : ∃ ad cap, mv = .slice ad ms.length cap ∧ (ms ≠ [] → ∃ g, ad = some ⟨g, 0, none⟩ ∧ B ≤ g ∧ g < w.heap.size ∧ ∀ i (h : i < ms.length), ∃ ka kn kc va vn vc, RpV w w.heap.size ms[i].rp (.agg #[.bool ms[i].rp.ok, .string ms[i].rp.val, .slice ka kn kc, .slice va vn vc]) ∧ ∀ j (hj : j < 9), w.cell? ⟨g, i * 9 + j, none⟩ = #[vI ms[i].c, .bool ms[i].beg, vI ms[i].op.1, vI ms[i].op.2.1, .string ms[i].op.2.2, .bool ms[i].rp.ok, .string ms[i].rp.val, .slice ka kn kc, .slice va vn vc][j]?) := by
  obtain ⟨mvs, h1, h2, h3⟩ := h
  have hl : mvs.length = ms.length := by rw [← h2]; simp
  rcases h1.2 with ⟨e1, e2⟩ | ⟨g, cap, cur, e, b1, b2, b3, b4, b5, b6⟩
  · exact ⟨none, 0, by rw [e1, e2], fun hne => absurd (List.eq_nil_of_length_eq_zero e2) hne⟩
  · refine ⟨_, cap, e, fun _ => ⟨g, rfl, b1, heap_lt b2, fun i hi => ?_⟩⟩
    have hi' : i < mvs.length := by omega
    have em : ms[i] = mvs[i].m := by
      have : ms[i]? = (mvs.map MV.m)[i]? := by rw [h2]
      rw [List.getElem?_eq_getElem hi, List.getElem?_map, List.getElem?_eq_getElem hi'] at this
      exact Option.some.inj this
    obtain ⟨r1, r2, -⟩ := h3 mvs[i] (List.getElem_mem hi')
    have r1' := r1
    have r2' := r2
    obtain ⟨ka, kc, ek, -⟩ := r1'
    obtain ⟨va, vc, ev, -⟩ := r2'
    rw [em]
    refine ⟨ka, _, kc, va, _, vc, ⟨_, _, rfl, by rw [← ek]; exact r1, by rw [← ev]; exact r2⟩, fun j hj => ?_⟩
    have hlen : ∀ r ∈ mvs.map m9, r.length = 9 := fun r hr => by obtain ⟨o, -, rfl⟩ := List.mem_map.1 hr; rfl
    rw [cell_of b2]
    have e1 : cur[i * 9 + j]? = ((mvs.map m9).flatten)[i * 9 + j]? := by rw [← b6, List.getElem?_take, if_pos (by omega), Array.getElem?_toList]
    rw [e1, flat_get hlen i j (by simpa using hi') hj, List.getElem_map]
    unfold m9
    rw [ek, ev, List.getElem?_toArray]
set_option maxRecDepth 100000 in
set_option maxHeartbeats 4000000 in
theorem eqMoment_same (w : World) (m : MomT) (ka va la ua : Option Addr) (kn kc vn vc ln lc un uc : Nat) (h1 : RpV w w.heap.size m.rp (.agg #[.bool m.rp.ok, .string m.rp.val, .slice ka kn kc, .slice va vn vc])) (h2 : RpV w w.heap.size m.rp (.agg #[.bool m.rp.ok, .string m.rp.val, .slice la ln lc, .slice ua un uc])) (hl : m.rp.L.length ≤ 4000000000) :
    Calls Tryz.prog 30 #[momV m (.slice ka kn kc) (.slice va vn vc), momV m (.slice la ln lc) (.slice ua un uc)] w fun e w' => e = .returned (.bool true) ∧ Fr (fun _ => False) w w' := by
  have HR : Hd (∀ W, Fr (fun _ => False) w W → Calls Tryz.prog 33 #[.agg #[.bool m.rp.ok, .string m.rp.val, .slice ka kn kc, .slice va vn vc], .agg #[.bool m.rp.ok, .string m.rp.val, .slice la ln lc, .slice ua un uc]] W fun e w' => e = .returned (.bool true) ∧ Fr (fun _ => False) W w') := fun W f =>
    eqReply_same W w.heap.size w.heap.size m.rp _ _ (h1.fr f (Nat.le_refl _) (fun _ _ e => e)) (h2.fr f (Nat.le_refl _) (fun _ _ e => e)) f.size f.size hl
  unfold momV
  obtain ⟨c, beg, ⟨kd, ky, v⟩, R⟩ := m
  simp only at *
  clear h1 h2 hl
  have HF : Hd (Fr (fun _ => False) w ((w.alloc (.cells #[vI c, .bool beg, vI kd, vI ky, .string v, .bool R.ok, .string R.val, .slice ka kn kc, .slice va vn vc] 44)).alloc (.cells #[vI c, .bool beg, vI kd, vI ky, .string v, .bool R.ok, .string R.val, .slice la ln lc, .slice ua un uc] 44))) := ((Fr.refl _ w).alloc _).alloc _
  have hc := HR.out _ HF.out
  go_enter Tryz.func30, Tryz.ntmps30
  go_wp2_with (go_at_call 33; refine hc.mono ?_; rintro _ w3 ⟨rfl, hf3⟩; have HF3 : Hd _ := hf3; clear hf3)
  go_ret
  exact ⟨rfl, HF.out.trans HF3.out⟩
end Go.Proofs.YtngbakjalmgciaaGreat
