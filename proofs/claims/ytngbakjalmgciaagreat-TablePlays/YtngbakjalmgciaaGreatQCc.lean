import Derived.Test.YtngbakjalmgciaaGreatQCaJ
namespace Go.Proofs.YtngbakjalmgciaaGreat
open Go.RowKit (wrap32 wrap64)
set_option linter.unusedVariables false
set_option linter.unusedSimpArgs false

theorem RepAt.shape {w : World} {O : Nat → Prop} {B : Nat} {kv vv : Value} {L : List Kv} (h : RepAt w O B kv vv L) : ∃ ka kn kc va vn vc, kv = .slice ka kn kc ∧ vv = .slice va vn vc := by
  rcases h with ⟨h1, h2, -⟩ | ⟨kb, vb, h1, h2, -⟩
  · exact ⟨_, _, _, _, _, _, h1, h2⟩
  · exact ⟨_, _, _, _, _, _, h1, h2⟩

section
variable {w : World} {B pb cb tb : Nat} {g : Gh} {N : Nat} {a : Ab} {mv : Value} {cvs : List CV} {mvs : List MV} {s : St} {E : Nat → Prop}
theorem act_any (h : Pl w B pb cb tb g N a mv cvs mvs s E) (i : Nat) (hi : i < s.cls.length) (o : OpT) (hkn : known o.1 = true) (hk : In64 o.2.1) (hlk : s.cls[i].lk ≤ 8) (hN : N < 100000000000) :
    Calls Tryz.prog 40 #[.pointer (some ⟨pb, 0, none⟩), .pointer (some ⟨cb, i * 7, none⟩), .agg #[vI o.1, vI o.2.1, .string o.2.2]] w fun e w' => e = .returned (.tuple #[]) ∧ Left cvs mvs w B pb cb tb g N E (actX s i s.cls[i] o) w' := by
  obtain ⟨kd, ky, v⟩ := o
  simp only at hkn hk ⊢
  have : kd = 1 ∨ kd = 2 ∨ kd = 3 := by simp [known] at hkn; omega
  rcases this with rfl | rfl | rfl
  · exact act_pub h i hi ky v hk hN
  · exact act_look h i hi ky v hk
  · exact act_snap h i hi ky v hlk (by omega)

set_option maxRecDepth 100000 in
set_option maxHeartbeats 4000000 in
theorem step_act (h : Pl w B pb cb tb g N a mv cvs mvs s E) (i : Nat) (hi : i < s.cls.length) (hn : s.cls.length ≤ 64) (o : OpT) (r : List OpT) (hop : s.cls[i].ops = o :: r) (hst : s.cls[i].st = 1) (hkn : known o.1 = true) (hk : In64 o.2.1) (hlk : s.cls[i].lk ≤ 8) (hN : N < 100000000000) :
    Calls Tryz.prog 24 #[.pointer (some ⟨pb, 0, none⟩), vI i] w fun e w' => e = .returned (.tuple #[]) ∧ Left cvs mvs w B pb cb tb g N E (actX s i s.cls[i] o) w' := by
  have hact := act_any (h.alloc (.cells #[vI o.1, vI o.2.1, .string o.2.2] 31)) i hi o hkn hk hlk hN
  obtain ⟨s', es⟩ : ∃ s' : St, s' = actX s i s.cls[i] o := ⟨_, rfl⟩
  rw [← es] at hact ⊢
  clear es hlk
  obtain ⟨hi', ec⟩ := h.cl i hi
  obtain ⟨c0, c1, c2, -⟩ := h.cells i hi'
  have ho := h.ops cvs[i] (List.getElem_mem hi')
  rw [← ec] at hop hst
  obtain ⟨x, ex⟩ : ∃ x, x = cvs[i] := ⟨_, rfl⟩
  rw [← ex] at c0 c1 c2 ho hop hst
  obtain ⟨ad, cap, ecv, hcap, hx⟩ := ho
  rw [hop] at ecv hcap hx
  obtain ⟨og, oo, rfl, hog, hcs⟩ := hx (by simp)
  obtain ⟨k0, k1, k2⟩ := hcs 0 (by simp)
  simp only [List.getElem_cons_zero, Nat.zero_mul, Nat.add_zero] at k0 k1 k2
  have hlen : (o :: r).length = r.length + 1 := rfl
  rw [ecv, hlen] at c0
  rw [hst] at c1
  obtain ⟨-, p9, -⟩ := h.heads
  obtain ⟨kd, ky, v⟩ := o
  simp only at k0 k1 k2 hact
  -- behind the box
  have hA := h.alloc (.cells #[vI kd, vI ky, .string v] 31)
  obtain ⟨-, -, -, q11, hfz⟩ := hA.heads
  have z11 := hfz 11
  have b0 : (w.alloc (.cells #[vI kd, vI ky, .string v] 31)).cell? ⟨w.heap.size, 0, none⟩ = some (vI kd) := by rw [World.cell?_alloc_new]; rfl
  have b1 : (w.alloc (.cells #[vI kd, vI ky, .string v] 31)).cell? ⟨w.heap.size, 1, none⟩ = some (vI ky) := by rw [World.cell?_alloc_new]; rfl
  have b2 : (w.alloc (.cells #[vI kd, vI ky, .string v] 31)).cell? ⟨w.heap.size, 2, none⟩ = some (.string v) := by rw [World.cell?_alloc_new]; rfl
  have a1 : (w.alloc (.cells #[vI kd, vI ky, .string v] 31)).cell? ⟨cb, i * 7 + 1, none⟩ = some (vI 1) := (World.cell?_alloc_past _ _ _ (heap_lt h.rows.blk)).trans c1
  have HA : Hd (Pl (w.alloc (.cells #[vI kd, vI ky, .string v] 31)) B pb cb tb g N a mv cvs mvs s E) := hA
  have HF0 : Hd (Fr (fun _ => False) w (w.alloc (.cells #[vI kd, vI ky, .string v] 31))) := (Fr.refl _ w).alloc _
  have hlc : pb < (w.alloc (.cells #[vI kd, vI ky, .string v] 31)).heap.size := heap_lt hA.play
  have hobl : w.heap.size < (w.alloc (.cells #[vI kd, vI ky, .string v] 31)).heap.size := by simp
  obtain ⟨n, en⟩ : ∃ n, n = s.cls.length := ⟨_, rfl⟩
  rw [← en] at p9 hn
  have hin : (i : Int) < n := by omega
  have hi0 : (0 : Int) ≤ i := by omega
  have H : Hd (Pl w B pb cb tb g N a mv cvs mvs s E) := h
  have HEX : Hd (x = cvs[i] ∧ n = s.cls.length) := ⟨ex, en⟩
  have HI' : Hd (i < cvs.length) := hi'
  clear hcs hx hcap hop hst h hA hfz ec ex en hlen ecv
  go_enter Tryz.func24, Tryz.ntmps24
  go_wp2_with (go_at_call 40; refine hact.mono ?_; rintro _ w3 ⟨rfl, hL⟩; have HL : Hd _ := hL; clear hL)
  go_end0
  exact ⟨rfl, Left.pre HF0.out HL.out⟩
end
end Go.Proofs.YtngbakjalmgciaaGreat
