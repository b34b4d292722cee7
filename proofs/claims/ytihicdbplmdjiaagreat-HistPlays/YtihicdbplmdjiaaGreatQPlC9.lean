import Derived.Test.YtihicdbplmdjiaaGreatQPlC8
set_option linter.unusedVariables false
set_option linter.unusedSimpArgs false
namespace Go.Proofs.YtihicdbplmdjiaaGreat.Pl
open Go.RowKit (wrap32 wrap64)

theorem look_of {a : Ab} {t : List Kv} (h : Snap a t) (k : Int) : look t k = a k := by
  unfold look
  cases hf : t.find? (fun e => e.1 == k) with
  | none =>
    rw [List.find?_eq_none] at hf
    cases ha : a k with
    | none => rfl
    | some v =>
      have := hf (k, v) ((h.mem k v).2 ha)
      simp at this
  | some e =>
    have h1 := List.mem_of_find?_eq_some hf
    have h2 : e.1 = k := by simpa using List.find?_some hf
    obtain ⟨k', v⟩ := e
    simp only at h2
    subst h2
    rw [(h.mem _ _).1 h1]
    rfl
theorem ins_mem (t : List Kv) (k : Int) (v : ByteArray) (e : Kv) : e ∈ insK t k v ↔ e = (k, v) ∨ e ∈ t := by
  induction t with
  | nil => simp [insK]
  | cons x r ih =>
    unfold insK
    split
    · rw [List.mem_cons, ih, List.mem_cons]
      constructor
      · rintro (h | h | h)
        · exact Or.inr (Or.inl h)
        · exact Or.inl h
        · exact Or.inr (Or.inr h)
      · rintro (h | h | h)
        · exact Or.inr (Or.inl h)
        · exact Or.inl h
        · exact Or.inr (Or.inr h)
    · simp
theorem ins_rise {t : List Kv} {k : Int} {v : ByteArray} (h : t.Pairwise (fun x y => x.1 < y.1)) (hk : ∀ e ∈ t, e.1 ≠ k) : (insK t k v).Pairwise (fun x y => x.1 < y.1) := by
  induction t with
  | nil => simp [insK]
  | cons x r ih =>
    obtain ⟨h1, h2⟩ := List.pairwise_cons.1 h
    unfold insK
    split
    · rename_i hlt
      refine List.pairwise_cons.2 ⟨fun y hy => ?_, ih h2 (fun e he => hk e (by simp [he]))⟩
      rcases (ins_mem r k v y).1 hy with rfl | hy
      · exact hlt
      · exact h1 y hy
    · rename_i hge
      have := hk x (by simp)
      refine List.pairwise_cons.2 ⟨fun y hy => ?_, h⟩
      rcases List.mem_cons.1 hy with rfl | hy
      · show k < y.1; omega
      · have := h1 y hy; show k < y.1; omega
theorem snap_ins {a : Ab} {t : List Kv} (h : Snap a t) {k : Int} (v : ByteArray) (hk : a k = none) : Snap (upd a k v) (insK t k v) := by
  refine ⟨ins_rise h.rise (fun e he => ?_), fun x y => ?_⟩
  · intro e2
    obtain ⟨k', v'⟩ := e
    simp only at e2
    subst e2
    rw [(h.mem _ _).1 he] at hk
    cases hk
  · rw [ins_mem, h.mem]
    unfold upd
    by_cases e : x = k
    · subst e
      rw [if_pos rfl, hk]
      simp
      exact ⟨fun h => h.symm, fun h => h.symm⟩
    · rw [if_neg e]
      simp [e]

section
variable {w : World} {B pb cb tb : Nat} {g : Gh} {N : Nat} {a : Ab} {mv : Value} {cvs : List CV} {mvs : List MV} {s : St} {E : Nat → Prop}

/-- An answer without lists, behind whatever the table did. -/
theorem answer_end (h : Pl w B pb cb tb g N a mv cvs mvs s E) (i : Nat) (hi' : i < cvs.length) {w1 w3 : World} {g' : Gh} {N' : Nat} {a' : Ab} (hN : N' ≤ N + 1) (f : Fr (fun j => g.own j ≠ 0) w w1) (hg : ∀ j, j < w.heap.size → g'.own j = g.own j) (ht : Tb w1 tb g' N' a') (t' : List Kv) (hs : Snap a' t') (ok : Bool) (val : ByteArray)
    (hR3 : Rows w3 76 7 cb ((cvs.map cl7).set i [cvs[i].cv, vI 2, vI 0, .bool ok, .string val, .slice none 0 0, .slice none 0 0])) (hF3 : Fr (fun j => j = cb) w1 w3) :
    Left cvs mvs w B pb cb tb g N E { s with tab := t', cls := s.cls.set i { cvs[i].c with st := 2, lk := 0, rp := ⟨ok, val, []⟩ } } w3 := by
  have h1 := h.setTab f hg ht t' hs
  have h2 := h1.setCl hF3 i ⟨cvs[i].cv, .slice none 0 0, .slice none 0 0, { cvs[i].c with st := 2, lk := 0, rp := ⟨ok, val, []⟩ }⟩ hR3 (h1.ops cvs[i] (List.getElem_mem hi')) (RepAt.none _ _ _)
  exact ⟨g', N', a', mv, _, mvs, hN, h2, (f.mono (fun j _ e => ⟨h.bg j e, fun x => e (h.eg j x)⟩)).trans (hF3.mono (fun j _ e => by rw [e]; exact ⟨h.bc, h.ec⟩)), fun hA => hA.less (Nat.le_trans f.size hF3.size) hi' _ (Or.inl (cbk_none _ rfl rfl))⟩

set_option maxRecDepth 100000 in
set_option maxHeartbeats 4000000 in
theorem act_pub (h : Pl w B pb cb tb g N a mv cvs mvs s E) (i : Nat) (hi : i < s.cls.length) (ky : Int) (v : ByteArray) (hk : In64 ky) (hN : N < 100000000000) :
    Calls Tryz.prog 25 #[.pointer (some ⟨pb, 0, none⟩), .pointer (some ⟨cb, i * 7, none⟩), .agg #[vI 1, vI ky, .string v]] w fun e w' => e = .returned (.tuple #[]) ∧ Left cvs mvs w B pb cb tb g N E (actX s i s.cls[i] (1, ky, v)) w' := by
  obtain ⟨hi', ec⟩ := h.cl i hi
  have hlook := look_of h.snap ky
  have hi7 : i < (cvs.map cl7).length := by simpa using hi'
  obtain ⟨s', es⟩ : ∃ s' : St, s' = actX s i s.cls[i] (1, ky, v) := ⟨_, rfl⟩
  rw [← es]
  have h0 := (h.alloc (.cells #[vI 1, vI ky, .string v] 28)).drew
  have F0 : Fr (fun _ => False) w (w.alloc (.cells #[vI 1, vI ky, .string v] 28)).drew := ((Fr.refl _ w).alloc _).drew
  have hrow : ∀ w1, Fr (fun j => g.own j ≠ 0) (w.alloc (.cells #[vI 1, vI ky, .string v] 28)).drew w1 → Rows w1 76 7 cb ((cvs.map cl7).set i [cvs[i].cv, vI cvs[i].c.st, vI cvs[i].c.lk, .bool cvs[i].c.rp.ok, .string cvs[i].c.rp.val, cvs[i].kv, cvs[i].vv]) := fun w1 f => (h0.row i hi').far f (fun e => e h.gc)
  have HROW : Hd (∀ w1, Fr (fun j => g.own j ≠ 0) (w.alloc (.cells #[vI 1, vI ky, .string v] 28)).drew w1 → Rows w1 76 7 cb ((cvs.map cl7).set i [cvs[i].cv, vI cvs[i].c.st, vI cvs[i].c.lk, .bool cvs[i].c.rp.ok, .string cvs[i].c.rp.val, cvs[i].kv, cvs[i].vv])) := hrow
  have HT : Hd (Tb (w.alloc (.cells #[vI 1, vI ky, .string v] 28)).drew tb g N a) := h0.tab
  obtain ⟨p0, -, -, -, -⟩ := (h.alloc (.cells #[vI 1, vI ky, .string v] 28)).heads
  have b0 : (w.alloc (.cells #[vI 1, vI ky, .string v] 28)).cell? ⟨w.heap.size, 0, none⟩ = some (vI 1) := by rw [World.cell?_alloc_new]; rfl
  have b1 : (w.alloc (.cells #[vI 1, vI ky, .string v] 28)).cell? ⟨w.heap.size, 1, none⟩ = some (vI ky) := by rw [World.cell?_alloc_new]; rfl
  have b2 : (w.alloc (.cells #[vI 1, vI ky, .string v] 28)).cell? ⟨w.heap.size, 2, none⟩ = some (.string v) := by rw [World.cell?_alloc_new]; rfl
  have hk' : Hd (In64 ky) := hk
  have hN' : Hd (N < maxLen) := by show N < maxLen; unfold maxLen; omega
  cases ha : a ky with
  | some y =>
    have ha' : Hd (a ky = some y) := ha
    have es' : s' = { s with tab := s.tab, cls := s.cls.set i { cvs[i].c with st := 2, lk := 0, rp := ⟨false, ⟨#[]⟩, []⟩ } } := by
      rw [es]; unfold actX; rw [if_pos rfl]; simp only; rw [hlook, ha, ec]
    have HEND : Hd (∀ w1 w3, Tb w1 tb g N a → Fr (fun j => j = tb) (w.alloc (.cells #[vI 1, vI ky, .string v] 28)).drew w1 → Rows w3 76 7 cb ((cvs.map cl7).set i [cvs[i].cv, vI 2, vI 0, .bool false, .string ⟨#[]⟩, .slice none 0 0, .slice none 0 0]) → Fr (fun j => j = cb) w1 w3 → Left cvs mvs w B pb cb tb g N E s' w3) := fun w1 w3 hT hF hR hF3 => by
      rw [es']
      exact answer_end h i hi' (by omega) ((F0.mono (fun _ _ h => h.elim)).trans (hF.mono (fun j _ e => by rw [e, h.tab.own1]; decide))) (fun _ _ => rfl) hT s.tab h.snap false ⟨#[]⟩ hR hF3
    have HTO : Hd (g.own tb ≠ 0) := by show _ ≠ 0; rw [h.tab.own1]; decide
    clear h0 F0 hrow h ha es es' hlook ec hk hN
    go_enter Tryz.func25, Tryz.ntmps25
    go_upto_region 3 with fail
    generalize w.alloc (.cells #[vI 1, vI ky, .string v] 28) = w0 at *
    obtain ⟨ob, hob⟩ : ∃ ob, ob = w.heap.size := ⟨_, rfl⟩
    rw [← hob] at b0 b1 b2 ⊢
    clear hob
    go_region_with ((first
      | (go_at_call 51; refine (Publish_no tb g N a ky v y ha'.out _ HT.out).mono ?_; rintro _ w1 ⟨rfl, hT1, hF1⟩)
      | (go_at_call 50; refine (answer_any cb i (cvs.map cl7) hi7 _ _ _ _ _ _ _ false ⟨#[]⟩ none none 0 0 0 0 _ (HROW.out _ (hF1.mono (fun j _ e => by rw [e]; exact HTO.out)))).mono ?_; rintro _ w3 ⟨rfl, hR3, hF3⟩)))
    all_goals have HL : Hd (Left cvs mvs w B pb cb tb g N E s' w3) := HEND.out _ _ hT1 hF1 hR3 hF3
    all_goals clear hT1 hF1 hR3 hF3
    all_goals go_wp2_with fail
    all_goals go_end0
    all_goals exact ⟨rfl, HL.out⟩
  | none =>
    have ha' : Hd (a ky = none) := ha
    obtain ⟨W, hW⟩ : ∃ W, W = (w.alloc (.cells #[vI 1, vI ky, .string v] 28)).drew.heap.size := ⟨_, rfl⟩
    have hWs : w.heap.size < W := by rw [hW]; show _ < (w.alloc _).heap.size; simp
    have es' : s' = { s with tab := insK s.tab ky v, cls := s.cls.set i { cvs[i].c with st := 2, lk := 0, rp := ⟨true, ⟨#[]⟩, []⟩ } } := by
      rw [es]; unfold actX; rw [if_pos rfl]; simp only; rw [hlook, ha, ec]
    have HEND : Hd (∀ w1 w3, Tb w1 tb (g.more ky W) (N + 1) (upd a ky v) → Fr (fun j => g.own j ≠ 0) (w.alloc (.cells #[vI 1, vI ky, .string v] 28)).drew w1 → Rows w3 76 7 cb ((cvs.map cl7).set i [cvs[i].cv, vI 2, vI 0, .bool true, .string ⟨#[]⟩, .slice none 0 0, .slice none 0 0]) → Fr (fun j => j = cb) w1 w3 → Left cvs mvs w B pb cb tb g N E s' w3) := fun w1 w3 hT hF hR hF3 => by
      rw [es']
      exact answer_end h i hi' (by omega) ((F0.mono (fun _ _ h => h.elim)).trans hF) (fun j hj => Gh.more_own _ _ _ _ (by omega)) hT (insK s.tab ky v) (snap_ins h.snap v ha) true ⟨#[]⟩ hR hF3
    have HPY : Hd (Calls Tryz.prog 51 #[.pointer (some ⟨tb, 0, none⟩), vI ky, .string v] (w.alloc (.cells #[vI 1, vI ky, .string v] 28)).drew fun e w' => e = .returned (.bool true) ∧ Tb w' tb (g.more ky W) (N + 1) (upd a ky v) ∧ Fr (fun j => g.own j ≠ 0) (w.alloc (.cells #[vI 1, vI ky, .string v] 28)).drew w') := by
      rw [hW]; exact Publish_yes tb g N a ky hk v ha hN'.out _ HT.out
    clear h0 F0 hrow h ha es es' hlook ec hk hN hW hWs
    go_enter Tryz.func25, Tryz.ntmps25
    go_upto_region 3 with fail
    generalize w.alloc (.cells #[vI 1, vI ky, .string v] 28) = w0 at *
    obtain ⟨ob, hob⟩ : ∃ ob, ob = w.heap.size := ⟨_, rfl⟩
    rw [← hob] at b0 b1 b2 ⊢
    clear hob
    go_region_with ((first
      | (go_at_call 51; refine HPY.out.mono ?_; rintro _ w1 ⟨rfl, hT1, hF1⟩)
      | (go_at_call 50; refine (answer_any cb i (cvs.map cl7) hi7 _ _ _ _ _ _ _ true ⟨#[]⟩ none none 0 0 0 0 _ (HROW.out _ hF1)).mono ?_; rintro _ w3 ⟨rfl, hR3, hF3⟩)))
    all_goals have HL : Hd (Left cvs mvs w B pb cb tb g N E s' w3) := HEND.out _ _ hT1 hF1 hR3 hF3
    all_goals clear hT1 hF1 hR3 hF3
    all_goals go_wp2_with fail
    all_goals go_end0
    all_goals exact ⟨rfl, HL.out⟩
end
end Go.Proofs.YtihicdbplmdjiaaGreat.Pl
