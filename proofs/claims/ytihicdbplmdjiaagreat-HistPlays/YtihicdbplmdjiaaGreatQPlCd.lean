import Derived.Test.YtihicdbplmdjiaaGreatQPlCaJ
set_option linter.unusedVariables false
set_option linter.unusedSimpArgs false
namespace Go.Proofs.YtihicdbplmdjiaaGreat.Pl
open Go.RowKit (wrap32 wrap64)

section
variable {w : World} {B pb cb tb : Nat} {g : Gh} {N : Nat} {a : Ab} {mv : Value} {cvs : List CV} {mvs : List MV} {s : St} {E : Nat → Prop}
set_option maxRecDepth 100000 in
set_option maxHeartbeats 4000000 in
theorem step_end (h : Pl w B pb cb tb g N a mv cvs mvs s E) (i : Nat) (hi : i < s.cls.length) (hn : s.cls.length ≤ 64) (o : OpT) (r : List OpT) (hop : s.cls[i].ops = o :: r) (hst : s.cls[i].st = 2) (hr : r.length ≤ 900000000000) (hms : s.ms.length ≤ 100000000000) :
    Calls Tryz.prog 13 #[.pointer (some ⟨pb, 0, none⟩), vI i] w fun e w' => e = .returned (.tuple #[]) ∧ Left cvs mvs w B pb cb tb g N E { s with ms := s.ms ++ [⟨i, false, o, s.cls[i].rp⟩], cls := s.cls.set i { s.cls[i] with st := 0, ops := fromK r } } w' := by
  obtain ⟨i45, hi45, hz45, hs45, hb45⟩ := info_parts info45
  obtain ⟨hi', ec⟩ := h.cl i hi
  obtain ⟨c0, c1, c2, c3, c4, c5, c6⟩ := h.cells i hi'
  have hrp0 := h.reps cvs[i] (List.getElem_mem hi')
  have ho := h.ops cvs[i] (List.getElem_mem hi')
  rw [← ec] at hop hst ⊢
  obtain ⟨x, ex⟩ : ∃ x, x = cvs[i] := ⟨_, rfl⟩
  rw [← ex] at c0 c1 c2 c3 c4 c5 c6 ho hop hst hrp0 ⊢
  have HOPS : Hd (x.c.ops = o :: r) := hop
  have HST : Hd (x.c.st = 2) := hst
  obtain ⟨ka, kn, kc, va, vn, vc, ekv, evv⟩ := hrp0.shape
  rw [ekv] at c5
  rw [evv] at c6
  obtain ⟨ad, cap, ecv, hcap, hx⟩ := ho
  rw [hop] at ecv hcap hx
  obtain ⟨og, oo, rfl, hog, hcs⟩ := hx (by simp)
  obtain ⟨k0, k1, k2⟩ := hcs 0 (by simp)
  simp only [List.getElem_cons_zero, Nat.zero_mul, Nat.add_zero] at k0 k1 k2
  have hlen : (o :: r).length = r.length + 1 := rfl
  rw [ecv, hlen] at c0
  rw [hst] at c1
  obtain ⟨-, p9, -⟩ := h.heads
  obtain ⟨kd, ky, v⟩ := o
  simp only at k0 k1 k2
  -- behind the box
  have hA := h.alloc (.cells #[vI kd, vI ky, .string v] 28)
  obtain ⟨-, -, -, q11, hfz⟩ := hA.heads
  have z11 := hfz 11
  have b0 : (w.alloc (.cells #[vI kd, vI ky, .string v] 28)).cell? ⟨w.heap.size, 0, none⟩ = some (vI kd) := by rw [World.cell?_alloc_new]; rfl
  have b1 : (w.alloc (.cells #[vI kd, vI ky, .string v] 28)).cell? ⟨w.heap.size, 1, none⟩ = some (vI ky) := by rw [World.cell?_alloc_new]; rfl
  have b2 : (w.alloc (.cells #[vI kd, vI ky, .string v] 28)).cell? ⟨w.heap.size, 2, none⟩ = some (.string v) := by rw [World.cell?_alloc_new]; rfl
  have hcl := heap_lt h.rows.blk
  have a1 : (w.alloc (.cells #[vI kd, vI ky, .string v] 28)).cell? ⟨cb, i * 7 + 1, none⟩ = some (vI 2) := (World.cell?_alloc_past _ _ _ hcl).trans c1
  have a3 : (w.alloc (.cells #[vI kd, vI ky, .string v] 28)).cell? ⟨cb, i * 7 + 3, none⟩ = some (.bool x.c.rp.ok) := (World.cell?_alloc_past _ _ _ hcl).trans c3
  have a4 : (w.alloc (.cells #[vI kd, vI ky, .string v] 28)).cell? ⟨cb, i * 7 + 4, none⟩ = some (.string x.c.rp.val) := (World.cell?_alloc_past _ _ _ hcl).trans c4
  have a5 : (w.alloc (.cells #[vI kd, vI ky, .string v] 28)).cell? ⟨cb, i * 7 + 5, none⟩ = some (.slice ka kn kc) := (World.cell?_alloc_past _ _ _ hcl).trans c5
  have a6 : (w.alloc (.cells #[vI kd, vI ky, .string v] 28)).cell? ⟨cb, i * 7 + 6, none⟩ = some (.slice va vn vc) := (World.cell?_alloc_past _ _ _ hcl).trans c6
  have HRP : Hd (RepAt (w.alloc (.cells #[vI kd, vI ky, .string v] 28)) (Own pb cb g mv E) B (.slice ka kn kc) (.slice va vn vc) x.c.rp.L) := by rw [← ekv, ← evv]; exact hA.reps x (by rw [ex]; exact List.getElem_mem hi')
  have HKV : Hd (x.kv = .slice ka kn kc ∧ x.vv = .slice va vn vc) := ⟨ekv, evv⟩
  have HA : Hd (Pl (w.alloc (.cells #[vI kd, vI ky, .string v] 28)) B pb cb tb g N a mv cvs mvs s E) := hA
  have HF0 : Hd (Fr (fun _ => False) w (w.alloc (.cells #[vI kd, vI ky, .string v] 28))) := (Fr.refl _ w).alloc _
  have hlc : pb < (w.alloc (.cells #[vI kd, vI ky, .string v] 28)).heap.size := heap_lt hA.play
  have hobl : w.heap.size < (w.alloc (.cells #[vI kd, vI ky, .string v] 28)).heap.size := by simp
  obtain ⟨n, en⟩ : ∃ n, n = s.cls.length := ⟨_, rfl⟩
  rw [← en] at p9 hn
  have hin : (i : Int) < n := by omega
  have hi0 : (0 : Int) ≤ i := by omega
  have H : Hd (Pl w B pb cb tb g N a mv cvs mvs s E) := h
  have HEX : Hd (x = cvs[i] ∧ n = s.cls.length) := ⟨ex, en⟩
  have HI' : Hd (i < cvs.length) := hi'
  have HBC : Hd (B ≤ cb ∧ ¬ E cb) := ⟨h.bc, h.ec⟩
  clear hcs hx hcap hop hst h hA hfz ec ex en hlen ecv hrp0 ekv evv hcl
  go_enter Tryz.func13, Tryz.ntmps13
  go_upto_region 9 with fail
  generalize w.alloc (.cells #[vI kd, vI ky, .string v] 28) = w0 at *
  obtain ⟨ob, hob⟩ : ∃ ob, ob = w.heap.size := ⟨_, rfl⟩
  rw [← hob] at b0 b1 b2 hobl ⊢
  clear hob p9 k0 k1 k2 c0 c1 c2 c3 c4 c5 c6
  have HO1 : Hd ((w0.drew.alloc (.cells #[vI i, .bool false, vI kd, vI ky, .string v, .bool x.c.rp.ok, .string x.c.rp.val, .slice ka kn kc, .slice va vn vc] 41)).ownsRow B 41 9 mv s.ms.length ((mvs.map m9).flatten)) := World.ownsRow.alloc (HA.out.drew.mom) _
  have hnews : ∀ j u, [vI (i : Int), .bool false, vI kd, vI ky, .string v, .bool x.c.rp.ok, .string x.c.rp.val, .slice ka kn kc, .slice va vn vc][j]? = some u → (w0.drew.alloc (.cells #[vI i, .bool false, vI kd, vI ky, .string v, .bool x.c.rp.ok, .string x.c.rp.val, .slice ka kn kc, .slice va vn vc] 41)).cell? ((⟨w0.heap.size, 0, none⟩ : Addr).add j) = some u :=
    World.news_of_block (cs := #[vI i, .bool false, vI kd, vI ky, .string v, .bool x.c.rp.ok, .string x.c.rp.val, .slice ka kn kc, .slice va vn vc]) (heap_alloc_last w0.drew _)
  have hw1 : (w0.drew.alloc (.cells #[vI i, .bool false, vI kd, vI ky, .string v, .bool x.c.rp.ok, .string x.c.rp.val, .slice ka kn kc, .slice va vn vc] 41)).heap.size = w0.heap.size + 1 := by simp
  have hbase : B ≤ (w0.drew.alloc (.cells #[vI i, .bool false, vI kd, vI ky, .string v, .bool x.c.rp.ok, .string x.c.rp.val, .slice ka kn kc, .slice va vn vc] 41)).heap.size := by rw [hw1]; have := HA.out.Ble; omega
  have HTOLD : Hd (∀ (w6 : World) (g6 cap6 : Nat), w6.ownsRow B 41 9 (.slice (some ⟨g6, 0, none⟩) (s.ms.length + 1) cap6) (s.ms.length + 1) ((mvs.map m9).flatten ++ [vI (i : Int), .bool false, vI kd, vI ky, .string v, .bool x.c.rp.ok, .string x.c.rp.val, .slice ka kn kc, .slice va vn vc]) → (w0.drew.alloc (.cells #[vI i, .bool false, vI kd, vI ky, .string v, .bool x.c.rp.ok, .string x.c.rp.val, .slice ka kn kc, .slice va vn vc] 41)).grownBy w6 mv.ownBlock → (mv.ownBlock = some g6 ∨ g6 = w0.heap.size + 1) → _) := fun w6 g6 cap6 p q u => HA.out.told ⟨.slice ka kn kc, .slice va vn vc, ⟨i, false, (kd, ky, v), x.c.rp⟩⟩ HRP.out _ p q u
  go_region_law (
    refine step_append_lies _ rfl (.tmp 51) (.tmp 59) 29 rfl B 41 i45 (.agg #[vI 0, .bool false, vI 0, vI 0, .string ⟨#[]⟩, .bool false, .string ⟨#[]⟩, .slice none 0 0, .slice none 0 0]) 9 120 under37 hi45 hz45 hs45 hb45 rfl (by omega) mv s.ms.length _ (by simp [Act.eval, Act.put]) HO1.out ⟨w0.heap.size, 0, none⟩ 1 1 [vI i, .bool false, vI kd, vI ky, .string v, .bool x.c.rp.ok, .string x.c.rp.val, .slice ka kn kc, .slice va vn vc] (by simp [Act.eval, Act.put]) rfl hnews (by intro u hu; simp at hu; rcases hu with rfl | rfl | rfl | rfl | rfl | rfl | rfl | rfl | rfl <;> rfl) (by omega) (by unfold maxLen; omega) (by omega) hbase (w0.heap.size + 1) hw1 ?_
    intro g6 cap6 w6 hown6 hgrow6 hat6 hlt6
    obtain ⟨hp6, hP6, hF6⟩ := HTOLD.out w6 g6 cap6 hown6 hgrow6 hat6
    have HP6 : Hd _ := hP6
    have HF6 : Hd _ := hF6
    have e11 : w6.cell? ⟨pb, 11, none⟩ = some mv := by { rw [cell_of hp6]; rfl }
    have y11 : w6.frozen? ⟨pb, 11, none⟩ = false := frozen_of hp6 11
    clear hP6 hF6 hp6 hown6 hgrow6 hat6 hlt6)
  all_goals
    have hxm : x ∈ cvs := by rw [HEX.out.1]; exact List.getElem_mem hi'
    have hr1 := HP6.out.row i hi'
    rw [← HEX.out.1] at hr1
    have ho2 := HP6.out.ops x hxm
    have hrp2 := HP6.out.reps x hxm
    rw [HOPS.out] at ho2
    have hlv := leave_any B cb i (cvs.map cl7) (by simpa using hi') HBC.out.1 (kd, ky, v) r x.cv (vI x.c.st) (vI x.c.lk) (.bool x.c.rp.ok) (.string x.c.rp.val) x.kv x.vv hr _ hr1 ho2
    have HRP2 : Hd _ := hrp2
    clear hr1 ho2 hrp2
    go_wp2_with fail
    refine hlv.mono ?_
    rintro _ w8 ⟨rfl, cv', hO', hR', hF'⟩
    have HEND : Hd (Left cvs mvs w B pb cb tb g N E { s with ms := s.ms ++ [⟨i, false, (kd, ky, v), x.c.rp⟩], cls := s.cls.set i { x.c with st := 0, ops := fromK r } } w8) := by
      have h2 := HP6.out.setCl hF' i ⟨cv', x.kv, x.vv, { x.c with st := 0, ops := fromK r }⟩ hR' hO' HRP2.out
      refine ⟨g, N, a, _, _, _, by omega, h2, ((HF0.out.mono (fun _ _ h => h.elim)).trans HF6.out).trans (hF'.mono (fun j _ e => by rw [e]; exact HBC.out)), fun hA => hA.end (Nat.le_trans (Nat.le_trans HF0.out.size HF6.out.size) hF'.size) hi' _ _ (by unfold cbk; rw [if_neg (by show ¬ (0 : Nat) = 2; decide)]) (Or.inr ?_)⟩
      rw [← HEX.out.1]
      unfold cbk mbk
      rw [if_pos HST.out, HKV.out.1, HKV.out.2]
    clear HP6 HF6 hO' hR' hF' hlv HRP2
    go_wp2_with fail
    first | go_end0 | refine bodyPost_ret (results_none rfl _ _ _) rfl ?_
    exact ⟨rfl, HEND.out⟩
end
end Go.Proofs.YtihicdbplmdjiaaGreat.Pl
