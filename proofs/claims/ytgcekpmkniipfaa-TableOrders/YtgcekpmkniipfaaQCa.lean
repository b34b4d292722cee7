import Derived.Test.YtgcekpmkniipfaaQC9
namespace Go.Proofs.Ytgcekpmkniipfaa
open Go.RowKit (wrap32 wrap64)
set_option linter.unusedVariables false
set_option linter.unusedSimpArgs false

section
variable {w : World} {B pb cb tb : Nat} {g : Gh} {N : Nat} {a : Ab} {mv : Value} {cvs : List CV} {mvs : List MV} {s : St} {E : Nat → Prop}
theorem Left.pre {w0 w' : World} {s' : St} (f : Fr (fun _ => False) w w0) (h : Left w0 B pb cb tb g N E s' w') : Left w B pb cb tb g N E s' w' := by
  obtain ⟨g', N', a', mv', cvs', mvs', hN, hP, hF⟩ := h
  exact ⟨g', N', a', mv', cvs', mvs', hN, hP, (f.mono (fun _ _ h => h.elim)).trans hF⟩

set_option maxRecDepth 100000 in
set_option maxHeartbeats 4000000 in
theorem act_look (h : Pl w B pb cb tb g N a mv cvs mvs s E) (i : Nat) (hi : i < s.cls.length) (ky : Int) (v : ByteArray) (hk : In64 ky) :
    Calls Try.prog 55 #[.pointer (some ⟨pb, 0, none⟩), .pointer (some ⟨cb, i * 7, none⟩), .agg #[vI 2, vI ky, .string v]] w fun e w' => e = .returned (.tuple #[]) ∧ Left w B pb cb tb g N E (actX s i s.cls[i] (2, ky, v)) w' := by
  obtain ⟨hi', ec⟩ := h.cl i hi
  have hlook := look_of h.snap ky
  have hi7 : i < (cvs.map cl7).length := by simpa using hi'
  obtain ⟨s', es⟩ : ∃ s' : St, s' = actX s i s.cls[i] (2, ky, v) := ⟨_, rfl⟩
  rw [← es]
  have h0 := (h.alloc (.cells #[vI 2, vI ky, .string v] 23)).drew
  have F0 : Fr (fun _ => False) w (w.alloc (.cells #[vI 2, vI ky, .string v] 23)).drew := ((Fr.refl _ w).alloc _).drew
  have HROW : Hd (∀ w1, Fr (fun j => j = tb) (w.alloc (.cells #[vI 2, vI ky, .string v] 23)).drew w1 → Rows w1 118 7 cb ((cvs.map cl7).set i [cvs[i].cv, vI cvs[i].c.st, vI cvs[i].c.lk, .bool cvs[i].c.rp.ok, .string cvs[i].c.rp.val, cvs[i].kv, cvs[i].vv])) := fun w1 f => (h0.row i hi').far f (fun e => by have := h.gc; rw [e, h.tab.own1] at this; omega)
  have HLK := lookup_any tb g N a ky hk _ h0.tab
  have HLK' : Hd (Calls Try.prog 7 #[.pointer (some ⟨tb, 0, none⟩), vI ky] (w.alloc (.cells #[vI 2, vI ky, .string v] 23)).drew fun e w' => e = .returned (.tuple #[.string (lookS a ky), .bool (lookB a ky)]) ∧ Tb w' tb g N a ∧ Fr (fun j => j = tb) (w.alloc (.cells #[vI 2, vI ky, .string v] 23)).drew w') := HLK
  obtain ⟨p0, -, -, -, -⟩ := (h.alloc (.cells #[vI 2, vI ky, .string v] 23)).heads
  have b0 : (w.alloc (.cells #[vI 2, vI ky, .string v] 23)).cell? ⟨w.heap.size, 0, none⟩ = some (vI 2) := by rw [World.cell?_alloc_new]; rfl
  have b1 : (w.alloc (.cells #[vI 2, vI ky, .string v] 23)).cell? ⟨w.heap.size, 1, none⟩ = some (vI ky) := by rw [World.cell?_alloc_new]; rfl
  have es' : s' = { s with tab := s.tab, cls := s.cls.set i { cvs[i].c with st := 2, lk := 0, rp := ⟨lookB a ky, lookS a ky, []⟩ } } := by
    rw [es]; unfold actX; rw [if_neg (by simp), if_pos rfl]; simp only; rw [hlook, ec]; rfl
  have HEND : Hd (∀ w1 w3, Tb w1 tb g N a → Fr (fun j => j = tb) (w.alloc (.cells #[vI 2, vI ky, .string v] 23)).drew w1 → Rows w3 118 7 cb ((cvs.map cl7).set i [cvs[i].cv, vI 2, vI 0, .bool (lookB a ky), .string (lookS a ky), .slice none 0 0, .slice none 0 0]) → Fr (fun j => j = cb) w1 w3 → Left w B pb cb tb g N E s' w3) := fun w1 w3 hT hF hR hF3 => by
    rw [es']
    exact answer_end h i hi' (by omega) ((F0.mono (fun _ _ h => h.elim)).trans (hF.mono (fun j _ e => by rw [e, h.tab.own1]; decide))) (fun _ _ => rfl) hT s.tab h.snap _ _ hR hF3
  generalize lookB a ky = lb at *
  generalize lookS a ky = ls at *
  clear h0 F0 h es es' hlook ec hk HLK
  go_enter Try.func55, Try.ntmps55
  go_upto_region 5 with fail
  generalize w.alloc (.cells #[vI 2, vI ky, .string v] 23) = w0 at *
  obtain ⟨ob, hob⟩ : ∃ ob, ob = w.heap.size := ⟨_, rfl⟩
  rw [← hob] at b0 b1 ⊢
  clear hob
  go_region_with ((first
    | (go_at_call 7; refine HLK'.out.mono ?_; rintro _ w1 ⟨rfl, hT1, hF1⟩)))
  all_goals go_wp2_with (go_at_call 79; refine (answer_any cb i (cvs.map cl7) hi7 _ _ _ _ _ _ _ lb ls none none 0 0 0 0 _ (HROW.out _ hF1)).mono ?_; rintro _ w3 ⟨rfl, hR3, hF3⟩)
  all_goals have HL : Hd (Left w B pb cb tb g N E s' w3) := HEND.out _ _ hT1 hF1 hR3 hF3
  all_goals clear hT1 hF1 hR3 hF3
  all_goals go_end0
  all_goals exact ⟨rfl, HL.out⟩

set_option maxRecDepth 100000 in
set_option maxHeartbeats 4000000 in
theorem act_snap (h : Pl w B pb cb tb g N a mv cvs mvs s E) (i : Nat) (hi : i < s.cls.length) (ky : Int) (v : ByteArray) (hlk : s.cls[i].lk ≤ 8) (hN : N ≤ 100000000000) :
    Calls Try.prog 55 #[.pointer (some ⟨pb, 0, none⟩), .pointer (some ⟨cb, i * 7, none⟩), .agg #[vI 3, vI ky, .string v]] w fun e w' => e = .returned (.tuple #[]) ∧ Left w B pb cb tb g N E (actX s i s.cls[i] (3, ky, v)) w' := by
  have h0 := h.alloc (.cells #[vI 3, vI ky, .string v] 23)
  have F0 : Fr (fun _ => False) w (w.alloc (.cells #[vI 3, vI ky, .string v] 23)) := (Fr.refl _ w).alloc _
  have hc : Calls Try.prog 80 #[.pointer (some ⟨pb, 0, none⟩), .pointer (some ⟨cb, i * 7, none⟩)] (w.alloc (.cells #[vI 3, vI ky, .string v] 23)) fun e w' => e = .returned (.tuple #[]) ∧ Left w B pb cb tb g N E (actX s i s.cls[i] (3, ky, v)) w' := by
    by_cases hl8 : s.cls[i].lk < 8
    · refine (snap_lock h0 i hi hl8).mono ?_
      rintro e w' ⟨he, hL⟩
      refine ⟨he, ?_⟩
      have : actX s i s.cls[i] (3, ky, v) = { s with lkd := fun j => if j = s.cls[i].lk then true else s.lkd j, cls := s.cls.set i { s.cls[i] with lk := s.cls[i].lk + 1 } } := by
        unfold actX; rw [if_neg (by simp), if_neg (by simp), if_pos rfl, if_pos hl8]
      rw [this]
      exact hL.pre F0
    · refine (snap_read h0 i hi (by omega) hN).mono ?_
      rintro e w' ⟨he, hL⟩
      refine ⟨he, ?_⟩
      have : actX s i s.cls[i] (3, ky, v) = { s with lkd := fun _ => false, cls := s.cls.set i { s.cls[i] with st := 2, lk := 0, rp := ⟨true, ⟨#[]⟩, s.tab⟩ } } := by
        unfold actX; rw [if_neg (by simp), if_neg (by simp), if_pos rfl, if_neg hl8]
      rw [this]
      exact hL.pre F0
  have b0 : (w.alloc (.cells #[vI 3, vI ky, .string v] 23)).cell? ⟨w.heap.size, 0, none⟩ = some (vI 3) := by rw [World.cell?_alloc_new]; rfl
  have HC : Hd _ := hc
  obtain ⟨s', es⟩ : ∃ s' : St, s' = actX s i s.cls[i] (3, ky, v) := ⟨_, rfl⟩
  rw [← es] at hc ⊢
  clear h0 F0 h hlk es HC
  go_enter Try.func55, Try.ntmps55
  go_wp2_with (go_at_call 80; refine hc.mono ?_; rintro _ w3 ⟨rfl, hL⟩; have HL : Hd _ := hL; clear hL)
  go_end0
  exact ⟨rfl, HL.out⟩
end
end Go.Proofs.Ytgcekpmkniipfaa
