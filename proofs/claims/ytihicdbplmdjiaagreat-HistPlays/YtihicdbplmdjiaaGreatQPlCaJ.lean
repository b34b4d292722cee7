import Derived.Test.YtihicdbplmdjiaaGreatQPlC9
set_option linter.unusedVariables false
set_option linter.unusedSimpArgs false
namespace Go.Proofs.YtihicdbplmdjiaaGreat.Pl
open Go.RowKit (wrap32 wrap64)

section
variable {w : World} {B pb cb tb : Nat} {g : Gh} {N : Nat} {a : Ab} {mv : Value} {cvs : List CV} {mvs : List MV} {s : St} {E : Nat → Prop}
theorem Left.pre {w0 w' : World} {s' : St} (f : Fr (fun _ => False) w w0) (h : Left cvs mvs w0 B pb cb tb g N E s' w') : Left cvs mvs w B pb cb tb g N E s' w' := by
  obtain ⟨g', N', a', mv', cvs', mvs', hN, hP, hF, hA⟩ := h
  exact ⟨g', N', a', mv', cvs', mvs', hN, hP, (f.mono (fun _ _ h => h.elim)).trans hF, fun q => hA (q.mono f.size)⟩

set_option maxRecDepth 100000 in
set_option maxHeartbeats 4000000 in
theorem act_look (h : Pl w B pb cb tb g N a mv cvs mvs s E) (i : Nat) (hi : i < s.cls.length) (ky : Int) (v : ByteArray) (hk : In64 ky) :
    Calls Tryz.prog 25 #[.pointer (some ⟨pb, 0, none⟩), .pointer (some ⟨cb, i * 7, none⟩), .agg #[vI 2, vI ky, .string v]] w fun e w' => e = .returned (.tuple #[]) ∧ Left cvs mvs w B pb cb tb g N E (actX s i s.cls[i] (2, ky, v)) w' := by
  obtain ⟨hi', ec⟩ := h.cl i hi
  have hlook := look_of h.snap ky
  have hi7 : i < (cvs.map cl7).length := by simpa using hi'
  obtain ⟨s', es⟩ : ∃ s' : St, s' = actX s i s.cls[i] (2, ky, v) := ⟨_, rfl⟩
  rw [← es]
  have h0 := (h.alloc (.cells #[vI 2, vI ky, .string v] 28)).drew
  have F0 : Fr (fun _ => False) w (w.alloc (.cells #[vI 2, vI ky, .string v] 28)).drew := ((Fr.refl _ w).alloc _).drew
  have HROW : Hd (∀ w1, Fr (fun j => j = tb) (w.alloc (.cells #[vI 2, vI ky, .string v] 28)).drew w1 → Rows w1 76 7 cb ((cvs.map cl7).set i [cvs[i].cv, vI cvs[i].c.st, vI cvs[i].c.lk, .bool cvs[i].c.rp.ok, .string cvs[i].c.rp.val, cvs[i].kv, cvs[i].vv])) := fun w1 f => (h0.row i hi').far f (fun e => by have := h.gc; rw [e, h.tab.own1] at this; omega)
  have HLK := lookup_any tb g N a ky hk _ h0.tab
  have HLK' : Hd (Calls Tryz.prog 52 #[.pointer (some ⟨tb, 0, none⟩), vI ky] (w.alloc (.cells #[vI 2, vI ky, .string v] 28)).drew fun e w' => e = .returned (.tuple #[.string (lookS a ky), .bool (lookB a ky)]) ∧ Tb w' tb g N a ∧ Fr (fun j => j = tb) (w.alloc (.cells #[vI 2, vI ky, .string v] 28)).drew w') := HLK
  obtain ⟨p0, -, -, -, -⟩ := (h.alloc (.cells #[vI 2, vI ky, .string v] 28)).heads
  have b0 : (w.alloc (.cells #[vI 2, vI ky, .string v] 28)).cell? ⟨w.heap.size, 0, none⟩ = some (vI 2) := by rw [World.cell?_alloc_new]; rfl
  have b1 : (w.alloc (.cells #[vI 2, vI ky, .string v] 28)).cell? ⟨w.heap.size, 1, none⟩ = some (vI ky) := by rw [World.cell?_alloc_new]; rfl
  have es' : s' = { s with tab := s.tab, cls := s.cls.set i { cvs[i].c with st := 2, lk := 0, rp := ⟨lookB a ky, lookS a ky, []⟩ } } := by
    rw [es]; unfold actX; rw [if_neg (by simp), if_pos rfl]; simp only; rw [hlook, ec]; rfl
  have HEND : Hd (∀ w1 w3, Tb w1 tb g N a → Fr (fun j => j = tb) (w.alloc (.cells #[vI 2, vI ky, .string v] 28)).drew w1 → Rows w3 76 7 cb ((cvs.map cl7).set i [cvs[i].cv, vI 2, vI 0, .bool (lookB a ky), .string (lookS a ky), .slice none 0 0, .slice none 0 0]) → Fr (fun j => j = cb) w1 w3 → Left cvs mvs w B pb cb tb g N E s' w3) := fun w1 w3 hT hF hR hF3 => by
    rw [es']
    exact answer_end h i hi' (by omega) ((F0.mono (fun _ _ h => h.elim)).trans (hF.mono (fun j _ e => by rw [e, h.tab.own1]; decide))) (fun _ _ => rfl) hT s.tab h.snap _ _ hR hF3
  generalize lookB a ky = lb at *
  generalize lookS a ky = ls at *
  clear h0 F0 h es es' hlook ec hk HLK
  go_enter Tryz.func25, Tryz.ntmps25
  go_upto_region 5 with fail
  generalize w.alloc (.cells #[vI 2, vI ky, .string v] 28) = w0 at *
  obtain ⟨ob, hob⟩ : ∃ ob, ob = w.heap.size := ⟨_, rfl⟩
  rw [← hob] at b0 b1 ⊢
  clear hob
  go_region_with ((first
    | (go_at_call 52; refine HLK'.out.mono ?_; rintro _ w1 ⟨rfl, hT1, hF1⟩)))
  all_goals go_wp2_with (go_at_call 50; refine (answer_any cb i (cvs.map cl7) hi7 _ _ _ _ _ _ _ lb ls none none 0 0 0 0 _ (HROW.out _ hF1)).mono ?_; rintro _ w3 ⟨rfl, hR3, hF3⟩)
  all_goals have HL : Hd (Left cvs mvs w B pb cb tb g N E s' w3) := HEND.out _ _ hT1 hF1 hR3 hF3
  all_goals clear hT1 hF1 hR3 hF3
  all_goals go_end0
  all_goals exact ⟨rfl, HL.out⟩

set_option maxRecDepth 100000 in
set_option maxHeartbeats 4000000 in
theorem act_snap (h : Pl w B pb cb tb g N a mv cvs mvs s E) (i : Nat) (hi : i < s.cls.length) (ky : Int) (v : ByteArray) (hlk : s.cls[i].lk ≤ 8) (hN : N ≤ 100000000000) :
    Calls Tryz.prog 25 #[.pointer (some ⟨pb, 0, none⟩), .pointer (some ⟨cb, i * 7, none⟩), .agg #[vI 3, vI ky, .string v]] w fun e w' => e = .returned (.tuple #[]) ∧ Left cvs mvs w B pb cb tb g N E (actX s i s.cls[i] (3, ky, v)) w' := by
  have h0 := h.alloc (.cells #[vI 3, vI ky, .string v] 28)
  have F0 : Fr (fun _ => False) w (w.alloc (.cells #[vI 3, vI ky, .string v] 28)) := (Fr.refl _ w).alloc _
  have hc : Calls Tryz.prog 53 #[.pointer (some ⟨pb, 0, none⟩), .pointer (some ⟨cb, i * 7, none⟩)] (w.alloc (.cells #[vI 3, vI ky, .string v] 28)) fun e w' => e = .returned (.tuple #[]) ∧ Left cvs mvs w B pb cb tb g N E (actX s i s.cls[i] (3, ky, v)) w' := by
    by_cases hl8 : s.cls[i].lk < 8
    · refine (snap_lock h0 i hi hl8).mono ?_
      rintro e w' ⟨he, hL⟩
      refine ⟨he, ?_⟩
      have : actX s i s.cls[i] (3, ky, v) = { s with lkd := fun j => if j = s.cls[i].lk then true else s.lkd j, cls := s.cls.set i { s.cls[i] with lk := s.cls[i].lk + 1 } } := by
        unfold actX; rw [if_neg (by simp), if_neg (by simp), if_pos rfl, if_pos hl8]
      rw [this]
      exact hL.pre F0
    · refine (snap_read h0 i hi (by omega) hN).mono ?_
      rintro e w' ⟨he, hL⟩
      refine ⟨he, ?_⟩
      have : actX s i s.cls[i] (3, ky, v) = { s with lkd := fun _ => false, cls := s.cls.set i { s.cls[i] with st := 2, lk := 0, rp := ⟨true, ⟨#[]⟩, s.tab⟩ } } := by
        unfold actX; rw [if_neg (by simp), if_neg (by simp), if_pos rfl, if_neg hl8]
      rw [this]
      exact hL.pre F0
  have b0 : (w.alloc (.cells #[vI 3, vI ky, .string v] 28)).cell? ⟨w.heap.size, 0, none⟩ = some (vI 3) := by rw [World.cell?_alloc_new]; rfl
  have HC : Hd _ := hc
  obtain ⟨s', es⟩ : ∃ s' : St, s' = actX s i s.cls[i] (3, ky, v) := ⟨_, rfl⟩
  rw [← es] at hc ⊢
  clear h0 F0 h hlk es HC
  go_enter Tryz.func25, Tryz.ntmps25
  go_wp2_with (go_at_call 53; refine hc.mono ?_; rintro _ w3 ⟨rfl, hL⟩; have HL : Hd _ := hL; clear hL)
  go_end0
  exact ⟨rfl, HL.out⟩
end

theorem info45 : (Tryz.prog.info? 41).map (fun i => (i.zero, i.size, i.bytes)) = some (some (.agg #[vI 0, .bool false, vI 0, vI 0, .string ⟨#[]⟩, .bool false, .string ⟨#[]⟩, .slice none 0 0, .slice none 0 0]), 9, 120) := by kernel_rfl
theorem under37 : Tryz.prog.underlying 29 = some (.slice 41) := by kernel_rfl

section
variable {w : World} {B pb cb tb : Nat} {g : Gh} {N : Nat} {a : Ab} {mv : Value} {cvs : List CV} {mvs : List MV} {s : St} {E : Nat → Prop}
theorem playC_mom (tb : Nat) (lkd : Nat → Bool) (cb n : Nat) (last : Int) (mv mv' : Value) : (playC tb lkd cb n last mv).setIfInBounds 11 mv' = playC tb lkd cb n last mv' := rfl

/-- Behind the append: the play's block is told. -/
theorem Pl.told (h : Pl w B pb cb tb g N a mv cvs mvs s E) (x : MV) (hrp : RepAt w (Own pb cb g mv E) B x.kv x.vv x.m.rp.L) {w6 : World} {g6 cap6 : Nat} (o : Obj)
    (hown6 : w6.ownsRow B 41 9 (.slice (some ⟨g6, 0, none⟩) (s.ms.length + 1) cap6) (s.ms.length + 1) ((mvs.map m9).flatten ++ m9 x)) (hgrow6 : (w.drew.alloc o).grownBy w6 mv.ownBlock) (hat6 : mv.ownBlock = some g6 ∨ g6 = w.heap.size + 1) :
    w6.heap[pb]? = some (.cells (playC tb s.lkd cb s.cls.length s.last mv) 52) ∧ Pl (w6.setCell ⟨pb, 11, none⟩ (.slice (some ⟨g6, 0, none⟩) (s.ms.length + 1) cap6)) B pb cb tb g N a (.slice (some ⟨g6, 0, none⟩) (s.ms.length + 1) cap6) cvs (mvs ++ [x]) { s with ms := s.ms ++ [x.m] } E ∧ Fr (fun j => B ≤ j ∧ ¬ E j) w (w6.setCell ⟨pb, 11, none⟩ (.slice (some ⟨g6, 0, none⟩) (s.ms.length + 1) cap6)) := by
  have h1 := h.drew.alloc o
  have hp6 : w6.heap[pb]? = some (.cells (playC tb s.lkd cb s.cls.length s.last mv) 52) := (hgrow6.block pb (heap_lt h1.play) (fun e => h.mp e.symm)).trans h1.play
  have F0 : Fr (fun j => mv.ownBlock = some j) w (w.drew.alloc o) := (Fr.drew (Fr.refl _ w)).alloc _
  have F6 : Fr (fun j => mv.ownBlock = some j) w w6 := F0.trans (grown_fr hgrow6)
  refine ⟨hp6, h.grow x hown6 F6 (by rcases hat6 with e | e; exact Or.inl e; exact Or.inr (by omega)) ((Fr.refl (fun j => j = pb) w6).setCell _ _ (Or.inl rfl)) (by rw [set_of hp6, playC_mom]) hrp, ?_⟩
  exact (F6.mono (fun j _ e => ⟨(World.ownsRow.lt h.mom j e).1, fun x => h.em j x e⟩)).trans (((Fr.refl (fun j => j = pb) w6).setCell _ _ (Or.inl rfl)).mono (fun j _ e => by rw [e]; exact ⟨h.bp, h.ep⟩))

set_option maxRecDepth 100000 in
set_option maxHeartbeats 4000000 in
theorem step_begin (h : Pl w B pb cb tb g N a mv cvs mvs s E) (i : Nat) (hi : i < s.cls.length) (hn : s.cls.length ≤ 64) (o : OpT) (r : List OpT) (hop : s.cls[i].ops = o :: r) (hst : s.cls[i].st = 0) (hms : s.ms.length ≤ 100000000000) :
    Calls Tryz.prog 13 #[.pointer (some ⟨pb, 0, none⟩), vI i] w fun e w' => e = .returned (.tuple #[]) ∧ Left cvs mvs w B pb cb tb g N E { s with ms := s.ms ++ [⟨i, true, o, rep0⟩], cls := s.cls.set i { s.cls[i] with st := 1 } } w' := by
  obtain ⟨i45, hi45, hz45, hs45, hb45⟩ := info_parts info45
  obtain ⟨hi', ec⟩ := h.cl i hi
  obtain ⟨c0, c1, c2, -⟩ := h.cells i hi'
  have ho := h.ops cvs[i] (List.getElem_mem hi')
  rw [← ec] at hop hst ⊢
  obtain ⟨x, ex⟩ : ∃ x, x = cvs[i] := ⟨_, rfl⟩
  rw [← ex] at c0 c1 c2 ho hop hst ⊢
  obtain ⟨ad, cap, ecv, hcap, hx⟩ := ho
  rw [hop] at ecv hcap hx
  obtain ⟨og, oo, rfl, hog, hcs⟩ := hx (by simp)
  obtain ⟨k0, k1, k2⟩ := hcs 0 (by simp)
  simp only [List.getElem_cons_zero, Nat.zero_mul, Nat.add_zero] at k0 k1 k2
  have hlen : (o :: r).length = r.length + 1 := rfl
  rw [ecv, hlen] at c0
  rw [hst] at c1
  obtain ⟨-, p9, -⟩ := h.heads
  obtain ⟨kd, ky, v⟩ := o
  simp only at k0 k1 k2
  -- behind the box
  have hA := h.alloc (.cells #[vI kd, vI ky, .string v] 28)
  obtain ⟨-, -, -, q11, hfz⟩ := hA.heads
  have z11 := hfz 11
  have b0 : (w.alloc (.cells #[vI kd, vI ky, .string v] 28)).cell? ⟨w.heap.size, 0, none⟩ = some (vI kd) := by rw [World.cell?_alloc_new]; rfl
  have b1 : (w.alloc (.cells #[vI kd, vI ky, .string v] 28)).cell? ⟨w.heap.size, 1, none⟩ = some (vI ky) := by rw [World.cell?_alloc_new]; rfl
  have b2 : (w.alloc (.cells #[vI kd, vI ky, .string v] 28)).cell? ⟨w.heap.size, 2, none⟩ = some (.string v) := by rw [World.cell?_alloc_new]; rfl
  have a1 : (w.alloc (.cells #[vI kd, vI ky, .string v] 28)).cell? ⟨cb, i * 7 + 1, none⟩ = some (vI 0) := (World.cell?_alloc_past _ _ _ (heap_lt h.rows.blk)).trans c1
  have HA : Hd (Pl (w.alloc (.cells #[vI kd, vI ky, .string v] 28)) B pb cb tb g N a mv cvs mvs s E) := hA
  have HF0 : Hd (Fr (fun _ => False) w (w.alloc (.cells #[vI kd, vI ky, .string v] 28))) := (Fr.refl _ w).alloc _
  have hlc : pb < (w.alloc (.cells #[vI kd, vI ky, .string v] 28)).heap.size := heap_lt hA.play
  have hobl : w.heap.size < (w.alloc (.cells #[vI kd, vI ky, .string v] 28)).heap.size := by simp
  obtain ⟨n, en⟩ : ∃ n, n = s.cls.length := ⟨_, rfl⟩
  rw [← en] at p9 hn
  have hin : (i : Int) < n := by omega
  have hi0 : (0 : Int) ≤ i := by omega
  have H : Hd (Pl w B pb cb tb g N a mv cvs mvs s E) := h
  have HEX : Hd (x = cvs[i] ∧ n = s.cls.length) := ⟨ex, en⟩
  have HST : Hd (x.c.st = 0) := hst
  have HI' : Hd (i < cvs.length) := hi'
  clear hcs hx hcap hop hst h hA hfz ec ex en hlen ecv
  go_enter Tryz.func13, Tryz.ntmps13
  go_upto_region 4 with fail
  generalize w.alloc (.cells #[vI kd, vI ky, .string v] 28) = w0 at *
  obtain ⟨ob, hob⟩ : ∃ ob, ob = w.heap.size := ⟨_, rfl⟩
  rw [← hob] at b0 b1 b2 hobl ⊢
  clear hob p9 k0 k1 k2 c0 c1 c2
  have HO1 : Hd ((w0.drew.alloc (.cells #[vI i, .bool true, vI kd, vI ky, .string v, .bool false, .string ⟨#[]⟩, .slice none 0 0, .slice none 0 0] 41)).ownsRow B 41 9 mv s.ms.length ((mvs.map m9).flatten)) := World.ownsRow.alloc (HA.out.drew.mom) _
  have hnews : ∀ j u, [vI (i : Int), .bool true, vI kd, vI ky, .string v, .bool false, .string ⟨#[]⟩, .slice none 0 0, .slice none 0 0][j]? = some u → (w0.drew.alloc (.cells #[vI i, .bool true, vI kd, vI ky, .string v, .bool false, .string ⟨#[]⟩, .slice none 0 0, .slice none 0 0] 41)).cell? ((⟨w0.heap.size, 0, none⟩ : Addr).add j) = some u :=
    World.news_of_block (cs := #[vI i, .bool true, vI kd, vI ky, .string v, .bool false, .string ⟨#[]⟩, .slice none 0 0, .slice none 0 0]) (heap_alloc_last w0.drew _)
  have hw1 : (w0.drew.alloc (.cells #[vI i, .bool true, vI kd, vI ky, .string v, .bool false, .string ⟨#[]⟩, .slice none 0 0, .slice none 0 0] 41)).heap.size = w0.heap.size + 1 := by simp
  have hbase : B ≤ (w0.drew.alloc (.cells #[vI i, .bool true, vI kd, vI ky, .string v, .bool false, .string ⟨#[]⟩, .slice none 0 0, .slice none 0 0] 41)).heap.size := by rw [hw1]; have := HA.out.Ble; omega
  have HTOLD : Hd (∀ (w6 : World) (g6 cap6 : Nat), w6.ownsRow B 41 9 (.slice (some ⟨g6, 0, none⟩) (s.ms.length + 1) cap6) (s.ms.length + 1) ((mvs.map m9).flatten ++ [vI (i : Int), .bool true, vI kd, vI ky, .string v, .bool false, .string ⟨#[]⟩, .slice none 0 0, .slice none 0 0]) → (w0.drew.alloc (.cells #[vI i, .bool true, vI kd, vI ky, .string v, .bool false, .string ⟨#[]⟩, .slice none 0 0, .slice none 0 0] 41)).grownBy w6 mv.ownBlock → (mv.ownBlock = some g6 ∨ g6 = w0.heap.size + 1) → _) := fun w6 g6 cap6 p q u => HA.out.told ⟨.slice none 0 0, .slice none 0 0, ⟨i, true, (kd, ky, v), rep0⟩⟩ (RepAt.none _ _ _) _ p q u
  go_region_law (
    refine step_append_lies _ rfl (.tmp 28) (.tmp 32) 29 rfl B 41 i45 (.agg #[vI 0, .bool false, vI 0, vI 0, .string ⟨#[]⟩, .bool false, .string ⟨#[]⟩, .slice none 0 0, .slice none 0 0]) 9 120 under37 hi45 hz45 hs45 hb45 rfl (by omega) mv s.ms.length _ (by simp [Act.eval, Act.put]) HO1.out ⟨w0.heap.size, 0, none⟩ 1 1 [vI i, .bool true, vI kd, vI ky, .string v, .bool false, .string ⟨#[]⟩, .slice none 0 0, .slice none 0 0] (by simp [Act.eval, Act.put]) rfl hnews (by intro u hu; simp at hu; rcases hu with rfl | rfl | rfl | rfl | rfl | rfl | rfl | rfl | rfl <;> rfl) (by omega) (by unfold maxLen; omega) (by omega) hbase (w0.heap.size + 1) hw1 ?_
    intro g6 cap6 w6 hown6 hgrow6 hat6 hlt6
    obtain ⟨hp6, hP6, hF6⟩ := HTOLD.out w6 g6 cap6 hown6 hgrow6 hat6
    have HP6 : Hd _ := hP6
    have HF6 : Hd _ := hF6
    have e11 : w6.cell? ⟨pb, 11, none⟩ = some mv := by { rw [cell_of hp6]; rfl }
    have y11 : w6.frozen? ⟨pb, 11, none⟩ = false := frozen_of hp6 11
    have t1 : (w6.setCell ⟨pb, 11, none⟩ (.slice (some ⟨g6, 0, none⟩) (s.ms.length + 1) cap6)).cell? ⟨cb, i * 7 + 1, none⟩ = some (vI 0) := by { have := (hP6.cells i hi').2.1; rw [← HEX.out.1, HST.out] at this; exact this }
    have y1 : (w6.setCell ⟨pb, 11, none⟩ (.slice (some ⟨g6, 0, none⟩) (s.ms.length + 1) cap6)).frozen? ⟨cb, i * 7 + 1, none⟩ = false := hP6.rows.frz _
    clear hP6 hF6 hp6 hown6 hgrow6 hat6 hlt6)
  all_goals
    obtain ⟨s', es⟩ : ∃ s' : St, Hd (s' = { s with ms := s.ms ++ [⟨i, true, (kd, ky, v), rep0⟩], cls := s.cls.set i { x.c with st := 1 } }) := ⟨_, by show _ = _; rfl⟩
    have HEND : Hd (Left cvs mvs w B pb cb tb g N E s' ((w6.setCell ⟨pb, 11, none⟩ (.slice (some ⟨g6, 0, none⟩) (s.ms.length + 1) cap6)).setCell ⟨cb, i * 7 + 1, none⟩ (vI 1))) := by
      have hP := HP6.out
      have hr1 := hP.row i hi'
      rw [← HEX.out.1] at hr1
      have hr2 := Rows.put (by simpa using hi') hr1 1 (by omega) (vI 1)
      have F2 : Fr (fun j => j = cb) (w6.setCell ⟨pb, 11, none⟩ (.slice (some ⟨g6, 0, none⟩) (s.ms.length + 1) cap6)) ((w6.setCell ⟨pb, 11, none⟩ (.slice (some ⟨g6, 0, none⟩) (s.ms.length + 1) cap6)).setCell ⟨cb, i * 7 + 1, none⟩ (vI 1)) := (Fr.refl (fun j => j = cb) _).setCell _ _ (Or.inl rfl)
      have hxm : x ∈ cvs := by rw [HEX.out.1]; exact List.getElem_mem hi'
      have ho2 := hP.ops x hxm
      have hrp2 := hP.reps x hxm
      have h2 := hP.setCl F2 i { x with c := { x.c with st := 1 } } hr2 ho2 hrp2
      rw [es.out]
      exact ⟨g, N, a, _, _, _, by omega, h2, ((HF0.out.mono (fun _ _ h => h.elim)).trans HF6.out).trans (F2.mono (fun j _ e => by rw [e]; exact ⟨H.out.bc, H.out.ec⟩)), fun hA => hA.end (Nat.le_trans (Nat.le_trans HF0.out.size HF6.out.size) F2.size) hi' _ _ (by unfold cbk; rw [if_neg (by show ¬ (1 : Nat) = 2; decide)]) (Or.inl rfl)⟩
    have HEND' : Hd (Left cvs mvs w B pb cb tb g N E { s with ms := s.ms ++ [⟨i, true, (kd, ky, v), rep0⟩], cls := s.cls.set i { x.c with st := 1 } } ((w6.setCell ⟨pb, 11, none⟩ (.slice (some ⟨g6, 0, none⟩) (s.ms.length + 1) cap6)).setCell ⟨cb, i * 7 + 1, none⟩ (vI 1))) := by rw [← es.out]; exact HEND.out
    clear HP6 HF6 HEND
    go_wp2_with fail
    first | go_end0 | refine bodyPost_ret (results_none rfl _ _ _) rfl ?_
    exact ⟨rfl, HEND'.out⟩
end

theorem RepAt.shape {w : World} {O : Nat → Prop} {B : Nat} {kv vv : Value} {L : List Kv} (h : RepAt w O B kv vv L) : ∃ ka kn kc va vn vc, kv = .slice ka kn kc ∧ vv = .slice va vn vc := by
  rcases h with ⟨h1, h2, -⟩ | ⟨kb, vb, h1, h2, -⟩
  · exact ⟨_, _, _, _, _, _, h1, h2⟩
  · exact ⟨_, _, _, _, _, _, h1, h2⟩

section
variable {w : World} {B pb cb tb : Nat} {g : Gh} {N : Nat} {a : Ab} {mv : Value} {cvs : List CV} {mvs : List MV} {s : St} {E : Nat → Prop}
theorem act_any (h : Pl w B pb cb tb g N a mv cvs mvs s E) (i : Nat) (hi : i < s.cls.length) (o : OpT) (hkn : known o.1 = true) (hk : In64 o.2.1) (hlk : s.cls[i].lk ≤ 8) (hN : N < 100000000000) :
    Calls Tryz.prog 25 #[.pointer (some ⟨pb, 0, none⟩), .pointer (some ⟨cb, i * 7, none⟩), .agg #[vI o.1, vI o.2.1, .string o.2.2]] w fun e w' => e = .returned (.tuple #[]) ∧ Left cvs mvs w B pb cb tb g N E (actX s i s.cls[i] o) w' := by
  obtain ⟨kd, ky, v⟩ := o
  simp only at hkn hk ⊢
  have : kd = 1 ∨ kd = 2 ∨ kd = 3 := by simp [known] at hkn; omega
  rcases this with rfl | rfl | rfl
  · exact act_pub h i hi ky v hk hN
  · exact act_look h i hi ky v hk
  · exact act_snap h i hi ky v hlk (by omega)

set_option maxRecDepth 100000 in
set_option maxHeartbeats 4000000 in
theorem step_act (h : Pl w B pb cb tb g N a mv cvs mvs s E) (i : Nat) (hi : i < s.cls.length) (hn : s.cls.length ≤ 64) (o : OpT) (r : List OpT) (hop : s.cls[i].ops = o :: r) (hst : s.cls[i].st = 1) (hkn : known o.1 = true) (hk : In64 o.2.1) (hlk : s.cls[i].lk ≤ 8) (hN : N < 100000000000) :
    Calls Tryz.prog 13 #[.pointer (some ⟨pb, 0, none⟩), vI i] w fun e w' => e = .returned (.tuple #[]) ∧ Left cvs mvs w B pb cb tb g N E (actX s i s.cls[i] o) w' := by
  have hact := act_any (h.alloc (.cells #[vI o.1, vI o.2.1, .string o.2.2] 28)) i hi o hkn hk hlk hN
  obtain ⟨s', es⟩ : ∃ s' : St, s' = actX s i s.cls[i] o := ⟨_, rfl⟩
  rw [← es] at hact ⊢
  clear es hlk
  obtain ⟨hi', ec⟩ := h.cl i hi
  obtain ⟨c0, c1, c2, -⟩ := h.cells i hi'
  have ho := h.ops cvs[i] (List.getElem_mem hi')
  rw [← ec] at hop hst
  obtain ⟨x, ex⟩ : ∃ x, x = cvs[i] := ⟨_, rfl⟩
  rw [← ex] at c0 c1 c2 ho hop hst
  obtain ⟨ad, cap, ecv, hcap, hx⟩ := ho
  rw [hop] at ecv hcap hx
  obtain ⟨og, oo, rfl, hog, hcs⟩ := hx (by simp)
  obtain ⟨k0, k1, k2⟩ := hcs 0 (by simp)
  simp only [List.getElem_cons_zero, Nat.zero_mul, Nat.add_zero] at k0 k1 k2
  have hlen : (o :: r).length = r.length + 1 := rfl
  rw [ecv, hlen] at c0
  rw [hst] at c1
  obtain ⟨-, p9, -⟩ := h.heads
  obtain ⟨kd, ky, v⟩ := o
  simp only at k0 k1 k2 hact
  -- behind the box
  have hA := h.alloc (.cells #[vI kd, vI ky, .string v] 28)
  obtain ⟨-, -, -, q11, hfz⟩ := hA.heads
  have z11 := hfz 11
  have b0 : (w.alloc (.cells #[vI kd, vI ky, .string v] 28)).cell? ⟨w.heap.size, 0, none⟩ = some (vI kd) := by rw [World.cell?_alloc_new]; rfl
  have b1 : (w.alloc (.cells #[vI kd, vI ky, .string v] 28)).cell? ⟨w.heap.size, 1, none⟩ = some (vI ky) := by rw [World.cell?_alloc_new]; rfl
  have b2 : (w.alloc (.cells #[vI kd, vI ky, .string v] 28)).cell? ⟨w.heap.size, 2, none⟩ = some (.string v) := by rw [World.cell?_alloc_new]; rfl
  have a1 : (w.alloc (.cells #[vI kd, vI ky, .string v] 28)).cell? ⟨cb, i * 7 + 1, none⟩ = some (vI 1) := (World.cell?_alloc_past _ _ _ (heap_lt h.rows.blk)).trans c1
  have HA : Hd (Pl (w.alloc (.cells #[vI kd, vI ky, .string v] 28)) B pb cb tb g N a mv cvs mvs s E) := hA
  have HF0 : Hd (Fr (fun _ => False) w (w.alloc (.cells #[vI kd, vI ky, .string v] 28))) := (Fr.refl _ w).alloc _
  have hlc : pb < (w.alloc (.cells #[vI kd, vI ky, .string v] 28)).heap.size := heap_lt hA.play
  have hobl : w.heap.size < (w.alloc (.cells #[vI kd, vI ky, .string v] 28)).heap.size := by simp
  obtain ⟨n, en⟩ : ∃ n, n = s.cls.length := ⟨_, rfl⟩
  rw [← en] at p9 hn
  have hin : (i : Int) < n := by omega
  have hi0 : (0 : Int) ≤ i := by omega
  have H : Hd (Pl w B pb cb tb g N a mv cvs mvs s E) := h
  have HEX : Hd (x = cvs[i] ∧ n = s.cls.length) := ⟨ex, en⟩
  have HI' : Hd (i < cvs.length) := hi'
  clear hcs hx hcap hop hst h hA hfz ec ex en hlen ecv
  go_enter Tryz.func13, Tryz.ntmps13
  go_wp2_with (go_at_call 25; refine hact.mono ?_; rintro _ w3 ⟨rfl, hL⟩; have HL : Hd _ := hL; clear hL)
  go_end0
  exact ⟨rfl, Left.pre HF0.out HL.out⟩
end
end Go.Proofs.YtihicdbplmdjiaaGreat.Pl
