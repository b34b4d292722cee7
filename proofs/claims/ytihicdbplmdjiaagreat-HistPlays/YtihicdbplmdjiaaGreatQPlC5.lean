import Derived.Test.YtihicdbplmdjiaaGreatQPlC3J
set_option linter.unusedVariables false
set_option linter.unusedSimpArgs false
namespace Go.Proofs.YtihicdbplmdjiaaGreat.Pl
open Go.RowKit (wrap32 wrap64)

theorem needs_cases (c : Cl) : needs c = -1 ∨ ∃ j : Nat, j < 8 ∧ needs c = (j : Int) := by
  unfold needs
  split
  · exact Or.inl rfl
  · split
    · exact Or.inl rfl
    · split
      · exact Or.inr ⟨_, strp_lt _, rfl⟩
      · split
        · rename_i h; exact Or.inr ⟨_, h, rfl⟩
        · exact Or.inl rfl

section
variable {w : World} {B pb cb tb : Nat} {g : Gh} {N : Nat} {a : Ab} {mv : Value} {cvs : List CV} {mvs : List MV} {s : St} {E : Nat → Prop}
theorem Pl.heads (h : Pl w B pb cb tb g N a mv cvs mvs s E) : w.cell? ⟨pb, 0, none⟩ = some (.pointer (some ⟨tb, 0, none⟩)) ∧ w.cell? ⟨pb, 9, none⟩ = some (.slice (some ⟨cb, 0, none⟩) s.cls.length s.cls.length) ∧ w.cell? ⟨pb, 10, none⟩ = some (vI s.last) ∧ w.cell? ⟨pb, 11, none⟩ = some mv ∧ ∀ o, w.frozen? ⟨pb, o, none⟩ = false :=
  ⟨by rw [cell_of h.play]; rfl, by rw [cell_of h.play]; rfl, by rw [cell_of h.play]; rfl, by rw [cell_of h.play]; rfl, fun o => frozen_of h.play o⟩
theorem Pl.locked (h : Pl w B pb cb tb g N a mv cvs mvs s E) (j : Nat) (hj : j < 8) : w.cell? ⟨pb, 1 + j, none⟩ = some (.bool (s.lkd j)) := by
  rw [cell_of h.play]
  match j, hj with
  | 0, _ => rfl
  | 1, _ => rfl
  | 2, _ => rfl
  | 3, _ => rfl
  | 4, _ => rfl
  | 5, _ => rfl
  | 6, _ => rfl
  | 7, _ => rfl
theorem Pl.cl (h : Pl w B pb cb tb g N a mv cvs mvs s E) (i : Nat) (hi : i < s.cls.length) : ∃ hi' : i < cvs.length, cvs[i].c = s.cls[i] := by
  have hi' : i < cvs.length := by rw [h.len]; exact hi
  refine ⟨hi', ?_⟩
  have := h.cls
  have e : (cvs.map CV.c)[i]'(by simpa using hi') = s.cls[i] := by simp only [this]
  simpa using e

set_option maxRecDepth 100000 in
set_option maxHeartbeats 2000000 in
theorem canGoOn_any (h : Pl w B pb cb tb g N a mv cvs mvs s E) (hs : StOk s) (i : Nat) (hi : i < s.cls.length) :
    Calls Tryz.prog 24 #[.pointer (some ⟨pb, 0, none⟩), .pointer (some ⟨cb, i * 7, none⟩)] w fun e w' => e = .returned (.bool (canGo s s.cls[i])) ∧ w' = w := by
  obtain ⟨hi', ec⟩ := h.cl i hi
  obtain ⟨c0, c1, c2, -⟩ := h.cells i hi'
  have ho := h.ops cvs[i] (List.getElem_mem hi')
  have hok := hs s.cls[i] (List.getElem_mem hi)
  have hlkd := h.locked
  rw [← ec] at hok ⊢
  generalize cvs[i] = x at *
  obtain ⟨cv, kv, vv, c⟩ := x
  simp only at c0 c1 c2 ho hok ⊢
  clear ec hs
  have ho' : Hd (OpsAt w B cv c.ops) := ho
  obtain ⟨ad, cap, rfl, hcap, -⟩ := ho
  by_cases hne : c.ops = []
  · have hcg : canGo s c = false := by simp [canGo, hne]
    rw [hcg]
    rw [hne] at c0
    simp only [List.length_nil] at c0
    clear hlkd ho' hcap c1 c2
    go_enter Tryz.func24, Tryz.ntmps24
    go_wp2_with (go_at_call 48; refine (ended_any cb (i * 7) ad 0 cap _ c0).mono ?_; rintro _ _ ⟨rfl, rfl⟩)
    go_ret
    exact ⟨rfl, rfl⟩
  · have hz : (c.ops.length == 0) = false := by simp [hne]
    have hE := ended_any cb (i * 7) ad c.ops.length cap w c0
    rw [hz] at hE
    have hN := needs_any B cb (i * 7) _ c w hok hne ho'.out c0 c1 c2
    have hie : c.ops.isEmpty = false := by simp [hne]
    rcases needs_cases c with hn | ⟨j, hj, hn⟩
    · have hcg : canGo s c = true := by simp [canGo, hn, hie]
      rw [hcg]
      rw [hn] at hN
      clear hlkd ho' hcap c1 c2 c0 hok hn hcg hie hz hne
      go_enter Tryz.func24, Tryz.ntmps24
      go_wp2_with (first
        | (go_at_call 48; refine hE.mono ?_; rintro _ _ ⟨rfl, rfl⟩)
        | (go_at_call 49; refine hN.mono ?_; rintro _ _ ⟨rfl, rfl⟩))
      go_ret
      exact ⟨rfl, rfl⟩
    · have hcg : canGo s c = !s.lkd j := by
        simp only [canGo, hn, hie]
        have : ((j : Int) == -1) = false := by first | (simp; done) | (simp; omega)
        simp [this]
      rw [hcg]
      rw [hn] at hN
      have hl := hlkd j hj
      have hj0 : (0 : Int) ≤ j := by omega
      have hj8 : (j : Int) < 8 := by omega
      have hjm : decide ((j : Int) = -1) = false := by first | (simp; done) | (simp; omega)
      have hjm' : ((j : Int) == -1) = false := by first | (simp; done) | (simp; omega)
      have hnot : ∀ (x : Bool) (w : World), (Op.unary .not (.bool x)).run Tryz.prog w = .ok (.bool (!x)) w := fun _ _ => rfl
      generalize s.lkd j = lj at *
      clear hlkd ho' hcap c1 c2 c0 hok hn hcg hie hz hne
      go_enter Tryz.func24, Tryz.ntmps24
      go_wp2_with (first
        | (go_at_call 48; refine hE.mono ?_; rintro _ _ ⟨rfl, rfl⟩)
        | (go_at_call 49; refine hN.mono ?_; rintro _ _ ⟨rfl, rfl⟩))
      go_ret
      exact ⟨rfl, rfl⟩
end

theorem info3 : (Tryz.prog.info? 3).map (fun i => (i.zero, i.size, i.bytes)) = some (some (vI 0), 1, 8) := by kernel_rfl
def OwnI (w : World) (B : Nat) (v : Value) (zs : List Nat) : Prop := w.ownsRow B 3 1 v zs.length (zs.map (fun (z : Nat) => vI z))
theorem OwnI.ge {w : World} {B : Nat} {v : Value} {zs : List Nat} (h : OwnI w B v zs) : ∀ k, v.ownBlock = some k → B ≤ k ∧ k < w.heap.size := World.ownsRow.lt h
theorem ableTo_succ (s : St) (k : Nat) (hk : k < s.cls.length) : ableTo s (k + 1) = if canGo s s.cls[k] then ableTo s k ++ [k] else ableTo s k := by
  unfold ableTo
  rw [List.range_succ, List.filter_append]
  have : s.cls.getD k cl0 = s.cls[k] := by rw [List.getD_eq_getElem?_getD, List.getElem?_eq_getElem hk]; rfl
  cases hc : canGo s s.cls[k] with
  | true => simp [List.getElem?_eq_getElem hk, hc]
  | false => simp [List.getElem?_eq_getElem hk, hc]
theorem ableTo_len (s : St) (k : Nat) : (ableTo s k).length ≤ k := by
  unfold ableTo
  have := List.length_filter_le (fun i => canGo s (s.cls.getD i cl0)) (List.range k)
  simpa using this

set_option maxRecDepth 100000 in
set_option maxHeartbeats 4000000 in
theorem able_any {w : World} {B pb cb tb : Nat} {g : Gh} {N : Nat} {a : Ab} {mv : Value} {cvs : List CV} {mvs : List MV} {s : St} (lv : Value) (h : Pl w B pb cb tb g N a mv cvs mvs s (fun j => lv.ownBlock = some j)) (hs : StOk s) (hn : s.cls.length ≤ 64) (hl : OwnI w B lv []) :
    Calls Tryz.prog 12 #[.pointer (some ⟨pb, 0, none⟩), lv] w fun e w' => ∃ lv', e = .returned lv' ∧ OwnI w' B lv' (able s) ∧ Pl w' B pb cb tb g N a mv cvs mvs s (fun j => lv'.ownBlock = some j) ∧ Fr (fun j => lv.ownBlock = some j) w w' := by
  obtain ⟨i3, hi3, hz3, hs3, hb3⟩ := info_parts info3
  have H : Hd (Pl w B pb cb tb g N a mv cvs mvs s (fun j => lv.ownBlock = some j)) := h
  have HS : Hd (StOk s) := hs
  have HL : Hd (OwnI w B lv []) := hl
  obtain ⟨-, p9, -⟩ := h.heads
  obtain ⟨n, en⟩ : ∃ n, n = s.cls.length := ⟨_, rfl⟩
  rw [← en] at p9 hn
  have EN : Hd (n = s.cls.length) := en
  clear h hs hl en
  go_enter Tryz.func12, Tryz.ntmps12
  go_wp2_with fail
  go_loopw [1, 11] (fun v1 v wr => ∃ k : Nat, v = .int .i64 k ∧ k ≤ n ∧ Hd (OwnI wr B v1 (ableTo s k) ∧ Pl wr B pb cb tb g N a mv cvs mvs s (fun j => v1.ownBlock = some j) ∧ Fr (fun j => lv.ownBlock = some j) w wr ∧ ∀ j, v1.ownBlock = some j → lv.ownBlock = some j ∨ w.heap.size ≤ j)) (fun _ v _ => match v with | .int _ q => n - q.toNat | _ => 0)
  case atStart => exact ⟨0, rfl, by omega, HL.out, H.out, Fr.refl _ _, fun j e => Or.inl e⟩
  case round =>
    obtain ⟨k, rfl, hk, HM⟩ := hrel
    by_cases hlt : k < n
    · obtain ⟨hO, hP, hF, hE⟩ := HM.out
      have hkl : k < s.cls.length := by rw [← EN.out]; exact hlt
      obtain ⟨-, q9, -⟩ := hP.heads
      rw [← EN.out] at q9
      have hcg := canGoOn_any hP HS.out k hkl
      have hsucc := ableTo_succ s k hkl
      have hal := ableTo_len s k
      have HSU : Hd (ableTo s (k + 1) = if canGo s s.cls[k] then ableTo s k ++ [k] else ableTo s k) := hsucc
      have HX : Hd (OwnI wr B u1 (ableTo s k) ∧ Pl wr B pb cb tb g N a mv cvs mvs s (fun j => u1.ownBlock = some j) ∧ Fr (fun j => lv.ownBlock = some j) w wr ∧ ∀ j, u1.ownBlock = some j → lv.ownBlock = some j ∨ w.heap.size ≤ j) := ⟨hO, hP, hF, hE⟩
      have hk3 : (k : Int) < n := by omega
      have hk0 : (0 : Int) ≤ k := by omega
      clear HM hO hP hF hE hsucc
      cases hc : canGo s s.cls[k] with
      | false =>
        rw [hc] at hcg HSU
        clear hc
        go_wp2_with (go_at_call 24; refine hcg.mono ?_; rintro _ wz ⟨rfl, rfl⟩)
        refine ⟨⟨k + 1, by simp, by omega, ?_⟩, by simp; omega⟩
        have e := HSU.out
        simp only [if_false, Bool.false_eq_true] at e
        show OwnI _ _ _ (ableTo s (k + 1)) ∧ _
        rw [e]
        exact HX.out
      | true =>
        rw [hc] at hcg HSU
        clear hc
        obtain ⟨L, eL⟩ : ∃ L, L = ableTo s k := ⟨_, rfl⟩
        rw [← eL] at HX HSU hal
        clear eL
        have HO1 : Hd ((wr.alloc (.cells #[vI k] 3)).ownsRow B 3 1 u1 L.length (L.map (fun (z : Nat) => vI z))) := World.ownsRow.alloc HX.out.1 _
        have hnews : ∀ j u, [vI (k : Int)][j]? = some u → (wr.alloc (.cells #[vI k] 3)).cell? ((⟨wr.heap.size, 0, none⟩ : Addr).add j) = some u :=
          World.news_of_block (cs := #[vI k]) (heap_alloc_last wr (.cells #[vI k] 3))
        have hbase : B ≤ (wr.alloc (.cells #[vI k] 3)).heap.size := by have := HX.out.2.1.Ble; simp; omega
        go_wp2_with (first
          | (go_at_call 24; refine hcg.mono ?_; rintro _ wz ⟨rfl, rfl⟩)
          | ((at_builtin; refine Hd.out ?_)))
        unfold Hd
        refine wpList_append_lies _ rfl (.tmp 22) (.tmp 24) 23 rfl B 3 i3 (vI 0) 1 8 under27 hi3 hz3 hs3 hb3 rfl (by omega) u1 L.length _ rfl HO1.out ⟨wz.heap.size, 0, none⟩ 1 1 [vI k] rfl rfl hnews (by intro u hu; simp at hu; subst hu; rfl) (by omega) (by unfold maxLen; omega) (by omega) hbase (wz.heap.size + 1) (by simp) ?_
        intro g6 cap6 w6 hown6 hgrow6 hat6 hlt6
        have hge := HX.out.1.ge
        have hEND : Hd (OwnI w6 B (.slice (some ⟨g6, 0, none⟩) (L.length + 1) cap6) (ableTo s (k + 1)) ∧ Pl w6 B pb cb tb g N a mv cvs mvs s (fun j => (Value.slice (some ⟨g6, 0, none⟩) (L.length + 1) cap6).ownBlock = some j) ∧ Fr (fun j => lv.ownBlock = some j) w w6 ∧ ∀ j, (Value.slice (some ⟨g6, 0, none⟩) (L.length + 1) cap6).ownBlock = some j → lv.ownBlock = some j ∨ w.heap.size ≤ j) := by
          have e := HSU.out
          simp only [if_true] at e
          obtain ⟨hO, hP, hF, hE⟩ := HX.out
          have F6 : Fr (fun j => u1.ownBlock = some j) wz w6 := (((Fr.refl (fun j => u1.ownBlock = some j) wz).alloc _).trans (grown_fr hgrow6))
          have hsz := hF.size
          refine ⟨?_, hP.fr F6 (fun j hj => Or.inr hj) (fun j hj => ?_), ⟨F6.os.trans hF.os, F6.tape.trans hF.tape, F6.output.trans hF.output, Nat.le_trans hF.size F6.size, fun j hj hS => (F6.block j (by omega) (fun e2 => by rcases hE j e2 with e3 | e3; exact hS e3; omega)).trans (hF.block j hj hS)⟩, fun j hj => ?_⟩
          · rw [e]
            unfold OwnI
            rw [List.length_append, List.map_append]
            exact hown6
          · have e6 : g6 = j := Option.some.inj hj
            refine ⟨?_, by omega⟩
            rcases hat6 with h1 | h1
            · exact Or.inr (by rw [h1, e6])
            · exact Or.inl (by omega)
          · have e6 : g6 = j := Option.some.inj hj
            rcases hat6 with h1 | h1
            · exact hE j (by rw [h1, e6])
            · exact Or.inr (by omega)
        clear hown6 hgrow6 hat6 hlt6 HX HO1 hnews hbase hge HSU hcg
        go_wp2_with fail
        exact ⟨⟨k + 1, by simp, by omega, hEND⟩, by simp; omega⟩
    · have ek : Hd (k = s.cls.length) := by have := EN.out; show k = _; omega
      have hdk : decide ((k : Int) < n) = false := by simp; omega
      clear hk
      go_wp2_with fail
      go_ret
      obtain ⟨hO, hP, hF, hE⟩ := HM.out
      rw [ek.out] at hO
      exact ⟨u1, rfl, hO, hP, hF⟩
end Go.Proofs.YtihicdbplmdjiaaGreat.Pl
