import Derived.Test.YtcjfmfddkhpfnabQF9J
import Derived.Deep.DeepCutAuto
namespace Go.Proofs.Ytcjfmfddkhpfnab
open Go.RowKit (wrap32 wrap64)
set_option linter.unusedVariables false
set_option linter.unusedSimpArgs false

theorem rep_set (zs : List Int) (n : Int) (k : Nat) (h : k < zs.length) : ((List.replicate k n ++ zs.drop k).map vI).set k (vI n) = (List.replicate (k + 1) n ++ zs.drop (k + 1)).map vI := by
  rw [List.drop_eq_getElem_cons h, List.replicate_succ', ← List.map_set]
  generalize zs[k] = x
  generalize zs.drop (k + 1) = D
  rw [List.set_append]
  simp

theorem underLs : Try.prog.underlying 25 = some (.slice 29) := by kernel_rfl
/-- The lists of World.L behind keep. -/
def kept (l u : Value) (n : Int) (m : Nat) : List (Value × List Int) := [(l, List.replicate m n), (u, List.replicate m n ++ List.replicate 64 (-n))]

set_option maxRecDepth 100000 in
set_option maxHeartbeats 4000000 in
theorem keep_short (w0 w : World) (wb : Nat) (lv mv : Value) (us us' : List (Value × List Int)) (sm : Int) (h : Sh w0 w wb lv mv us us' sm) (hsame : us.map (·.2) = us'.map (·.2))
    (l : Value) (zs : List Int) (hl : w.ownsRow w0.heap.size 3 1 l zs.length (zs.map vI)) (hfree : ∀ j, l.ownBlock = some j → j ≠ wb ∧ ¬ LsB lv us j ∧ ¬ LsB mv us' j) (hu : us.length ≤ 100000000) (hz : zs.length ≤ 4096) :
    Calls Try.prog 14 #[.pointer (some ⟨wb, 0, none⟩), l] w fun e w' => e = .returned (.tuple #[]) ∧ ∃ lv2 mv2 us2 us2', Sh w0 w' wb lv2 mv2 us2 us2' sm ∧ us2.map (·.2) = us2'.map (·.2) ∧ us2.length = us.length + 2 ∧ (∀ p ∈ us2, p ∈ us ∨ p.2.length ≤ 4160) ∧
      Fr (fun j => j = wb ∨ LsB lv us j ∨ LsB mv us' j ∨ l.ownBlock = some j) w w' ∧ (∀ k, LsB lv2 us2 k ∨ LsB mv2 us2' k → LsB lv us k ∨ LsB mv us' k ∨ l.ownBlock = some k ∨ w.heap.size ≤ k) := by
  have HQ : Hd _ := h
  have HS : Hd (us.map (·.2) = us'.map (·.2)) := hsame
  obtain ⟨lad, lcap, hlv, -, -⟩ := row_shape h.ll.row
  obtain ⟨ad, cap, rfl, hcap, had⟩ := row_shape hl
  have hLB : ∀ j, (Value.slice ad zs.length cap).ownBlock = some j → w0.heap.size ≤ j := fun j e => (World.ownsRow.lt hl j e).1
  obtain ⟨c4, -, -⟩ := h.heads
  rw [hlv] at c4
  have HLV : Hd (lv = .slice lad us.length lcap) := hlv
  have HL : Hd _ := hl
  have HFREE : Hd _ := hfree
  have HLB : Hd _ := hLB
  have HAD : Hd _ := had
  clear h hl hfree hLB hlv had
  go_enter Try.func14, Try.ntmps14
  go_wp2_with fail
  obtain ⟨n, hn⟩ : ∃ n : Int, (1000 : Int) + (us.length : Int) = n := ⟨_, rfl⟩
  have hn0 : 0 ≤ n := by omega
  have hn1 : n ≤ 1000000000 := by omega
  rw [hn]
  clear hn
  go_loopw [5] (fun v wr => ∃ (k : Nat), v = .int .i64 k ∧ k ≤ zs.length ∧ Hd (Fr (fun j => (Value.slice ad zs.length cap).ownBlock = some j) w wr) ∧ Hd (wr.ownsRow w0.heap.size 3 1 (.slice ad zs.length cap) zs.length ((List.replicate k n ++ zs.drop k).map vI))) (fun v _ => match v with | .int _ q => zs.length - q.toNat | _ => 0)
  case atStart => exact ⟨0, rfl, Nat.zero_le _, Fr.refl _ _, by unfold Hd; simp only [List.replicate_zero, List.nil_append, List.drop_zero]; exact HL.out⟩
  case round =>
    obtain ⟨k, rfl, hk, HF, HR⟩ := hrel
    by_cases hlt : k < zs.length
    · obtain ⟨g, rfl⟩ := HAD.out (by omega)
      have hget : ((List.replicate k n ++ zs.drop k).map vI)[k]? = some (vI zs[k]) := by
        rw [List.getElem?_map, List.getElem?_append_right (by simp)]
        simp [List.getElem?_eq_getElem hlt]
      have p0 := row_cell HR.out hget
      obtain ⟨cur, hcur⟩ := row_block HR.out
      have z0 := frozen_of hcur k
      have HR2 : Hd _ := row_set HR.out k (vI n)
      have HF2 : Hd _ := HF.out.setCell ⟨g, k, none⟩ (vI n) (Or.inl rfl)
      have hk0 : (0 : Int) ≤ k := by omega
      have hk1 : (k : Int) < zs.length := by omega
      clear hget hcur
      go_wp2_with fail
      refine ⟨⟨k + 1, by simp, by omega, HF2.out, ?_⟩, by simp; omega⟩
      have hr2 := HR2.out
      rw [rep_set zs n k hlt] at hr2
      exact hr2
    · have hke : k = zs.length := by omega
      subst hke
      obtain ⟨ns, hns⟩ : ∃ ns : List Int, ns = List.replicate zs.length n := ⟨_, rfl⟩
      have hnl : ns.length = zs.length := by rw [hns]; simp
      have HR0 : Hd (wr.ownsRow w0.heap.size 3 1 (.slice ad zs.length cap) ns.length (ns.map vI)) := by
        have := HR.out
        rw [List.drop_length, List.append_nil, ← hns] at this
        unfold Hd
        rw [hnl]
        exact this
      have HQ1 : Hd _ := HQ.out.fr' HF.out (fun j e => ⟨(HFREE.out j e).1, (HFREE.out j e).2.1, (HFREE.out j e).2.2, HLB.out j e⟩)
      have HNL : Hd _ := hnl
      have HNS : Hd _ := hns
      clear HR HQ hns hnl c4
      obtain ⟨lw, hlw⟩ : ∃ lw, lw = Value.slice ad zs.length cap := ⟨_, rfl⟩
      have HFa : Hd (Fr (fun j => j = wb ∨ LsB lv us j ∨ LsB mv us' j ∨ (Value.slice ad zs.length cap).ownBlock = some j) w wr) := HF.out.mono (fun j _ e => Or.inr (Or.inr (Or.inr e)))
      clear HF
      obtain ⟨i29, hi, hz9, hs, hb⟩ := info_parts (P := Try.prog) (e := 29) (z := .slice none 0 0) (size := 1) (bytes := 24) (by kernel_rfl)
      obtain ⟨c4, -, -⟩ := HQ1.out.heads
      rw [HLV.out] at c4
      have hFal : Fr (fun _ => False) wr (wr.alloc (.cells #[Value.slice ad zs.length cap] 29)) := Fr.alloc (Fr.refl _ wr) _
      have HQa : Hd _ := HQ1.out.keep hFal
      have HRa : Hd _ := ownsRow_fr HR0.out hFal (fun _ _ e => e)
      have HFAL : Hd _ := hFal
      have hnews : ∀ j u, [Value.slice ad zs.length cap][j]? = some u → (wr.alloc (.cells #[Value.slice ad zs.length cap] 29)).cell? ((⟨wr.heap.size, 0, none⟩ : Addr).add j) = some u :=
        World.news_of_block (w := (wr.alloc (.cells #[Value.slice ad zs.length cap] 29))) (cs := #[Value.slice ad zs.length cap]) (heap_alloc_last wr (.cells #[Value.slice ad zs.length cap] 29))
      have hw1 : (wr.alloc (.cells #[Value.slice ad zs.length cap] 29)).heap.size = wr.heap.size + 1 := by simp
      have hmx : us.length + 1 ≤ maxLen := by unfold maxLen; omega
      have t2 : ∀ u ∈ [Value.slice ad zs.length cap], u.oneCell' = true := by intro u hu; simp at hu; subst hu; rfl
      have hbase : w0.heap.size ≤ (wr.alloc (.cells #[Value.slice ad zs.length cap] 29)).heap.size := HQa.out.fr.size
      have HROW : Hd _ := HQa.out.ll.row
      rw [HLV.out] at HROW
      have HAFT : Hd (∀ w6 : World, (wr.alloc (.cells #[Value.slice ad zs.length cap] 29)).grownBy w6 (Value.slice lad us.length lcap).ownBlock → w6.cell? ⟨wb, 0, none⟩ = some (.slice lad us.length lcap) ∧ w6.frozen? ⟨wb, 0, none⟩ = false) := fun w6 hg => by
        have hc6 := (hg.block wb (heap_lt HQa.out.blk) (fun e => HQa.out.wl wb (Or.inl (Or.inl (by rw [HLV.out]; exact e.symm))) rfl)).trans HQa.out.blk
        exact ⟨by rw [cell_of hc6, ← HLV.out]; rfl, frozen_of hc6 0⟩
      clear hFal
      go_upto_region 7 with (at_builtin; refine wpList_append_lies _ rfl (.tmp 31) (.tmp 33) 25 rfl w0.heap.size 29 i29 (.slice none 0 0) 1 24 underLs hi hz9 hs hb rfl (by omega) (.slice lad us.length lcap) us.length _ rfl HROW.out ⟨wr.heap.size, 0, none⟩ 1 1 [Value.slice ad zs.length cap] rfl rfl hnews t2 (by omega) hmx (by omega) hbase (wr.heap.size + 1) hw1 ?_; intro g6 cap6 w6 hown6 hgrow6 hat6 hlt6; obtain ⟨y4, z4⟩ := HAFT.out w6 hgrow6)
      have hat7 : ∀ j, (Value.slice (some ⟨g6, 0, none⟩) (us.length + 1) cap6).ownBlock = some j → lv.ownBlock = some j ∨ (wr.alloc (.cells #[Value.slice ad zs.length cap] 29)).heap.size ≤ j := fun j e => by
        have e : g6 = j := by cases e; rfl
        subst e
        rw [hw1, HLV.out]
        rcases hat6 with e | e
        · exact Or.inl e
        · exact Or.inr (by omega)
      have hf6 := grown_fr hgrow6
      rw [← HLV.out] at hf6
      have HQ7 : Hd _ := HQa.out.growL hf6 hown6 hat7 (zs := ns) HRa.out (fun j e => (HFREE.out j e).1)
      have HF7 : Hd (Fr (fun j => j = wb ∨ LsB lv us j ∨ LsB mv us' j ∨ (Value.slice ad zs.length cap).ownBlock = some j) w (w6.setCell ⟨wb, 0, none⟩ (.slice (some ⟨g6, 0, none⟩) (us.length + 1) cap6))) :=
        ((HFa.out.trans (HFAL.out.mono (fun _ _ e => e.elim))).then hf6 (fun j _ e => Or.inr (Or.inl (Or.inl e)))).then (setCell_fr w6 _ _ _) (fun j _ e => Or.inl e)
      have HP7 : Hd (∀ k, LsB (Value.slice (some ⟨g6, 0, none⟩) (us.length + 1) cap6) (us ++ [(Value.slice ad zs.length cap, ns)]) k ∨ LsB mv us' k → LsB lv us k ∨ LsB mv us' k ∨ (Value.slice ad zs.length cap).ownBlock = some k ∨ w.heap.size ≤ k) := fun k hk => by
        rcases hk with hk | hk
        · rcases LsB.snoc (w := wr.alloc (.cells #[Value.slice ad zs.length cap] 29)) hk (hat7 k) with e | e | e
          · exact Or.inl e
          · exact Or.inr (Or.inr (Or.inr (by have := HFa.out.size; rw [hw1] at e; omega)))
          · exact Or.inr (Or.inr (Or.inl e))
        · exact Or.inr (Or.inl hk)
      clear HQa HRa HFAL hnews hw1 hmx t2 hbase HROW HAFT hown6 hgrow6 hat6 hlt6 hat7 hf6 HFa HR0 HQ1 c4 y4 z4
      generalize w6.setCell ⟨wb, 0, none⟩ (.slice (some ⟨g6, 0, none⟩) (us.length + 1) cap6) = w7 at *
      generalize Value.slice (some ⟨g6, 0, none⟩) (us.length + 1) cap6 = lv7 at *
      obtain ⟨mad, mcap, hmv, -, -⟩ := row_shape HQ7.out.lm.row
      have hul : us'.length = us.length := by have := congrArg List.length HS.out; simpa using this.symm
      have HMV : Hd (mv = .slice mad us'.length mcap) := hmv
      obtain ⟨-, c5, -⟩ := HQ7.out.heads
      rw [hmv] at c5
      have HI7 : Hd (IntsAt w7.drew.heap.size w7.drew (Value.slice ad zs.length cap) ns) := OwnI.at (B := w0.heap.size) (World.ownsRow.drew (HQ7.out.ll.inn (Value.slice ad zs.length cap, ns) (by simp)))
      have HQ7d : Hd _ := HQ7.out.keep (Fr.drew (Fr.refl _ w7))
      have hnb : ns.length ≤ 100000000 := by have : ns.length = zs.length := HNL.out; omega
      have hmx : us'.length + 1 ≤ maxLen := by unfold maxLen; omega
      have hu' : us'.length ≤ 100000000 := by omega
      clear hmv hul
      go_cut [] (fun wx => ∃ (mv8 cv : Value), Hd (Sh w0 wx wb lv7 mv8 (us ++ [(Value.slice ad zs.length cap, ns)]) (us' ++ [(cv, ns)]) sm) ∧ Hd (Fr (fun j => j = wb ∨ LsB lv us j ∨ LsB mv us' j ∨ (Value.slice ad zs.length cap).ownBlock = some j) w wx) ∧ Hd (∀ k, LsB lv7 (us ++ [(Value.slice ad zs.length cap, ns)]) k ∨ LsB mv8 (us' ++ [(cv, ns)]) k → LsB lv us k ∨ LsB mv us' k ∨ (Value.slice ad zs.length cap).ownBlock = some k ∨ w.heap.size ≤ k))
      case first =>
        go_region_law ((first
          | (go_simp
             go_at_call 26
             refine (show Calls Try.prog 26 #[Value.slice ad zs.length cap] w7.drew _ from copyInts_any _ ns w7.drew HI7.out (by omega)).mono ?_
             rintro e w8 ⟨cv, rfl, hr8, hF8⟩
             obtain ⟨ca, cc, rfl, -, -⟩ := row_shape hr8
             have hQ8 := HQ7d.out.keep hF8
             obtain ⟨-, y5, -⟩ := hQ8.heads
             rw [HMV.out] at y5
             have hFb : Fr (fun _ => False) w8 (w8.alloc (.cells #[Value.slice ca ns.length cc] 29)) := Fr.alloc (Fr.refl _ w8) _
             have HQ8 : Hd _ := hQ8.keep hFb
             obtain ⟨-, y5a, -⟩ := HQ8.out.heads
             rw [HMV.out] at y5a
             have HC8 : Hd _ := ownsRow_fr (World.ownsRow.mono hr8 HQ7d.out.fr.size) hFb (fun _ _ e => e)
             have HN8 : Hd (∀ j, (Value.slice ca ns.length cc).ownBlock = some j → w7.heap.size ≤ j) := fun j e => (World.ownsRow.lt hr8 j e).1
             have HF8 : Hd (Fr (fun _ => False) w7 (w8.alloc (.cells #[Value.slice ca ns.length cc] 29))) := ((Fr.drew (Fr.refl _ w7)).trans hF8).trans hFb
             have hw8 : (w8.alloc (.cells #[Value.slice ca ns.length cc] 29)).heap.size = w8.heap.size + 1 := by simp
             have hnews : ∀ j u, [Value.slice ca ns.length cc][j]? = some u → (w8.alloc (.cells #[Value.slice ca ns.length cc] 29)).cell? ((⟨w8.heap.size, 0, none⟩ : Addr).add j) = some u :=
               World.news_of_block (w := (w8.alloc (.cells #[Value.slice ca ns.length cc] 29))) (cs := #[Value.slice ca ns.length cc]) (heap_alloc_last w8 (.cells #[Value.slice ca ns.length cc] 29))
             have t2 : ∀ u ∈ [Value.slice ca ns.length cc], u.oneCell' = true := by intro u hu; simp at hu; subst hu; rfl
             have hbase : w0.heap.size ≤ (w8.alloc (.cells #[Value.slice ca ns.length cc] 29)).heap.size := HQ8.out.fr.size
             have HROW : Hd _ := HQ8.out.lm.row
             rw [HMV.out] at HROW
             have HAFT : Hd (∀ w6 : World, (w8.alloc (.cells #[Value.slice ca ns.length cc] 29)).grownBy w6 (Value.slice mad us'.length mcap).ownBlock → w6.cell? ⟨wb, 1, none⟩ = some (.slice mad us'.length mcap) ∧ w6.frozen? ⟨wb, 1, none⟩ = false) := fun w6 hg => by
               have hc6 := (hg.block wb (heap_lt HQ8.out.blk) (fun e => HQ8.out.wl wb (Or.inr (Or.inl (by rw [HMV.out]; exact e.symm))) rfl)).trans HQ8.out.blk
               exact ⟨by rw [cell_of hc6, ← HMV.out]; rfl, frozen_of hc6 1⟩
             clear hr8 hF8 hQ8 hFb)
          | (refine step_append_lies _ rfl (.tmp 41) (.tmp 44) 25 rfl w0.heap.size 29 i29 (.slice none 0 0) 1 24 underLs hi hz9 hs hb rfl (by omega) (.slice mad us'.length mcap) us'.length _ (by simp [Act.eval, Act.put]) HROW.out ⟨w8.heap.size, 0, none⟩ 1 1 [Value.slice ca ns.length cc] (by simp [Act.eval, Act.put]) rfl hnews t2 (by omega) hmx (by omega) hbase (w8.heap.size + 1) hw8 ?_
             intro g6 cap6 w6 hown6 hgrow6 hat6 hlt6
             obtain ⟨y6, z6⟩ := HAFT.out w6 hgrow6)))
        all_goals
          have hat7 : ∀ j, (Value.slice (some ⟨g6, 0, none⟩) (us'.length + 1) cap6).ownBlock = some j → mv.ownBlock = some j ∨ (w8.alloc (.cells #[Value.slice ca ns.length cc] 29)).heap.size ≤ j := fun j e => by
            have e : g6 = j := by cases e; rfl
            subst e
            rw [hw8, HMV.out]
            rcases hat6 with e | e
            · exact Or.inl e
            · exact Or.inr (by omega)
          have hf6 := grown_fr hgrow6
          rw [← HMV.out] at hf6
          have HQ9 : Hd _ := HQ8.out.growM hf6 hown6 hat7 (zs := ns) HC8.out (fun j e e2 => by have := HN8.out j e; have := heap_lt HQ7.out.blk; omega)
          have HF9 : Hd (Fr (fun j => j = wb ∨ LsB lv us j ∨ LsB mv us' j ∨ (Value.slice ad zs.length cap).ownBlock = some j) w (w6.setCell ⟨wb, 1, none⟩ (.slice (some ⟨g6, 0, none⟩) (us'.length + 1) cap6))) :=
            ((HF7.out.trans (HF8.out.mono (fun _ _ e => e.elim))).then hf6 (fun j _ e => Or.inr (Or.inr (Or.inl (Or.inl e))))).then (setCell_fr w6 _ _ _) (fun j _ e => Or.inl e)
          have HP9 : Hd (∀ k, LsB lv7 (us ++ [(Value.slice ad zs.length cap, ns)]) k ∨ LsB (Value.slice (some ⟨g6, 0, none⟩) (us'.length + 1) cap6) (us' ++ [(Value.slice ca ns.length cc, ns)]) k → LsB lv us k ∨ LsB mv us' k ∨ (Value.slice ad zs.length cap).ownBlock = some k ∨ w.heap.size ≤ k) := fun k hk => by
            have s7 := HF7.out.size
            rcases hk with hk | hk
            · exact HP7.out k (Or.inl hk)
            · rcases LsB.snoc (w := w8.alloc (.cells #[Value.slice ca ns.length cc] 29)) hk (hat7 k) with e | e | e
              · exact HP7.out k (Or.inr e)
              · exact Or.inr (Or.inr (Or.inr (by have := HF8.out.size; omega)))
              · exact Or.inr (Or.inr (Or.inr (by have := HN8.out k e; omega)))
          go_wp2_with fail
          go_meet
          exact ⟨_, _, HQ9.out, HF9.out, HP9.out⟩
      case rest =>
        obtain ⟨mv8, cv, HQ8, HF8, HP8⟩ := hcut
        clear HQ7 HF7 HP7 HI7 HQ7d c5 HMV
        have HI8 : Hd (IntsAt wc.heap.size wc (Value.slice ad zs.length cap) ns) := OwnI.at (B := w0.heap.size) (HQ8.out.ll.inn (Value.slice ad zs.length cap, ns) (by simp))
        go_wp2_with fail
        refine (show Calls Try.prog 26 #[Value.slice ad zs.length cap] wc _ from copyInts_any _ ns wc HI8.out (by omega)).mono ?_
        rintro e w9 ⟨m9, rfl, hr9, hF9⟩
        have HQ9 : Hd (Sh w0 w9 wb lv7 mv8 (us ++ [(Value.slice ad zs.length cap, ns)]) (us' ++ [(cv, ns)]) sm) := HQ8.out.keep hF9
        have HF9 : Hd (Fr (fun j => j = wb ∨ LsB lv us j ∨ LsB mv us' j ∨ (Value.slice ad zs.length cap).ownBlock = some j) w w9) := HF8.out.trans (hF9.mono (fun _ _ e => e.elim))
        have HG1 : Hd (Gr w0 w w9 (Value.slice ad zs.length cap) wb lv7 mv8 (us ++ [(Value.slice ad zs.length cap, ns)]) (us' ++ [(cv, ns)]) (Value.slice ad zs.length cap) ns) := by
          have hrow := HQ9.out.ll.inn (Value.slice ad zs.length cap, ns) (by simp)
          refine ⟨hrow, fun j e => ⟨(HFREE.out j e).1, rows_apart HQ9.out.ll.row hrow j e, rows_apart HQ9.out.lm.row hrow j e, Or.inl e, fun p hp ep => ?_⟩⟩
          rcases hp with hp | hp
          · rcases List.mem_append.1 hp with hp | hp
            · exact absurd (Or.inr ⟨p, hp, ep⟩) (HFREE.out j e).2.1
            · simp at hp; subst hp; exact Nat.le_refl _
          · rcases List.mem_append.1 hp with hp | hp
            · exact absurd (Or.inr ⟨p, hp, ep⟩) (HFREE.out j e).2.2
            · simp at hp; subst hp; exact Nat.le_refl _
        have HN9 : Hd (∀ j, m9.ownBlock = some j → wc.heap.size ≤ j) := fun j e => (World.ownsRow.lt hr9 j e).1
        have HG6 : Hd (Gr w0 w w9 (Value.slice ad zs.length cap) wb lv7 mv8 (us ++ [(Value.slice ad zs.length cap, ns)]) (us' ++ [(cv, ns)]) m9 ns) := by
          refine ⟨World.ownsRow.mono hr9 HQ8.out.fr.size, fun j e => ?_⟩
          have hj := HN9.out j e
          refine ⟨fun e2 => ?_, fun e2 => ?_, fun e2 => ?_, Or.inr (by have := HF8.out.size; omega), fun p hp ep => ?_⟩
          · have := heap_lt HQ8.out.blk; omega
          · have := (World.ownsRow.lt HQ8.out.ll.row j e2).2; omega
          · have := (World.ownsRow.lt HQ8.out.lm.row j e2).2; omega
          · rcases hp with hp | hp
            · have := (World.ownsRow.lt (HQ8.out.ll.inn p hp) j ep).2; omega
            · have := (World.ownsRow.lt (HQ8.out.lm.inn p hp) j ep).2; omega
        have HAP : Hd (∀ j, (Value.slice ad zs.length cap).ownBlock = some j → m9.ownBlock ≠ some j) := fun j e e2 => by
          have := HN9.out j e2
          have := (World.ownsRow.lt (HQ8.out.ll.inn (Value.slice ad zs.length cap, ns) (by simp)) j e).2
          omega
        clear hr9 hF9 HN9 HI8 HQ8 HF8
        go_wp2_with fail
        go_loopw [1, 6, 7] (fun x1 x6 v wr => ∃ (k : Nat), v = .int .i64 k ∧ k ≤ 64 ∧ Hd (Sh w0 wr wb lv7 mv8 (us ++ [(Value.slice ad zs.length cap, ns)]) (us' ++ [(cv, ns)]) sm) ∧ Hd (Gr w0 w wr (Value.slice ad zs.length cap) wb lv7 mv8 (us ++ [(Value.slice ad zs.length cap, ns)]) (us' ++ [(cv, ns)]) x1 (ns ++ List.replicate k (-n))) ∧ Hd (Gr w0 w wr (Value.slice ad zs.length cap) wb lv7 mv8 (us ++ [(Value.slice ad zs.length cap, ns)]) (us' ++ [(cv, ns)]) x6 (ns ++ List.replicate k (-n))) ∧ Hd (∀ j, x1.ownBlock = some j → x6.ownBlock ≠ some j) ∧ Hd (Fr (fun j => j = wb ∨ LsB lv us j ∨ LsB mv us' j ∨ (Value.slice ad zs.length cap).ownBlock = some j) w wr)) (fun _ _ v _ => match v with | .int _ q => 64 - q.toNat | _ => 0)
        case atStart => exact ⟨0, rfl, Nat.zero_le _, HQ9.out, by unfold Hd; rw [List.replicate_zero, List.append_nil]; exact HG1.out, by unfold Hd; rw [List.replicate_zero, List.append_nil]; exact HG6.out, HAP.out, HF9.out⟩
        case round =>
          obtain ⟨k, rfl, hk, HQ, HGa, HGb, HA, HF⟩ := hrel
          clear HQ9 HG1 HG6 HAP HF9
          by_cases hlt : k < 64
          · have dk : decide ((k : Int) < 64) = true := by simp; omega
            obtain ⟨xs, hxs⟩ : ∃ xs, xs = ns ++ List.replicate k (-n) := ⟨_, rfl⟩
            have HX : Hd (xs ++ [-n] = ns ++ List.replicate (k + 1) (-n)) := by unfold Hd; rw [hxs, List.replicate_succ', List.append_assoc]
            have hxl : xs.length ≤ 100000100 := by rw [hxs]; simp; omega
            rw [← hxs] at HGa HGb
            clear hxs
            obtain ⟨i3, hi3, hz3, hs3, hb3⟩ := info_parts (P := Try.prog) (e := 3) (z := .int .i64 0) (size := 1) (bytes := 8) (by kernel_rfl)
            have hFa : Fr (fun _ => False) wr (wr.alloc (.cells #[vI (-n)] 3)) := Fr.alloc (Fr.refl _ wr) _
            have HQa : Hd _ := HQ.out.keep hFa
            have HGa1 : Hd _ := HGa.out.fr hFa (fun _ _ e => e)
            have HGb1 : Hd _ := HGb.out.fr hFa (fun _ _ e => e)
            have HFA : Hd (Fr (fun j => j = wb ∨ LsB lv us j ∨ LsB mv us' j ∨ (Value.slice ad zs.length cap).ownBlock = some j) w (wr.alloc (.cells #[vI (-n)] 3))) := HF.out.trans (hFa.mono (fun _ _ e => e.elim))
            have HROWa : Hd _ := HGa1.out.1
            have hnews : ∀ j u, [vI (-n)][j]? = some u → (wr.alloc (.cells #[vI (-n)] 3)).cell? ((⟨wr.heap.size, 0, none⟩ : Addr).add j) = some u :=
              World.news_of_block (w := (wr.alloc (.cells #[vI (-n)] 3))) (cs := #[vI (-n)]) (heap_alloc_last wr (.cells #[vI (-n)] 3))
            have t2 : ∀ u ∈ [vI (-n)], u.oneCell' = true := by intro u hu; simp at hu; subst hu; rfl
            have hw1 : (wr.alloc (.cells #[vI (-n)] 3)).heap.size = wr.heap.size + 1 := by simp
            have hbase : w0.heap.size ≤ (wr.alloc (.cells #[vI (-n)] 3)).heap.size := HQa.out.fr.size
            have hmx1 : xs.length + 1 ≤ maxLen := by unfold maxLen; omega
            clear HQ HGa HGb HF hFa
            go_wp2_with ((first
              | (at_builtin
                 refine wpList_append_keeps rfl (.tmp 54) (.tmp 57) 29 rfl w0.heap.size 3 i3 (.int .i64 0) 1 8 under22 hi3 hz3 hs3 hb3 rfl (by omega) u1 xs.length _ rfl HROWa.out ⟨wr.heap.size, 0, none⟩ 1 1 [vI (-n)] rfl rfl hnews t2 (by omega) hmx1 (by omega) hbase (wr.heap.size + 1) hw1 ?_
                 intro g6 cap6 w6 hown6 hgrow6 hat6 hlt6 hkeep6
                 obtain ⟨hQ6, hGa6, hoth⟩ := HQa.out.longer (wS := w) (x := -n) (by have := HFA.out.size; exact this) HGa1.out hown6 hgrow6 (by rw [hw1]; rcases hat6 with e | e; exact Or.inl e; exact Or.inr (by omega)) hkeep6
                 obtain ⟨hGb6, hAp6⟩ := hoth _ _ HGb1.out HA.out
                 have hF6 : Fr (fun j => j = wb ∨ LsB lv us j ∨ LsB mv us' j ∨ (Value.slice ad zs.length cap).ownBlock = some j) w w6 := HFA.out.then (grown_fr hgrow6) (fun j hj e => by
                   rcases (HGa1.out.2 j e).2.2.2.1 with e2 | e2
                   · exact Or.inr (Or.inr (Or.inr e2))
                   · omega)
                 have hFb : Fr (fun _ => False) w6 (w6.alloc (.cells #[vI (-n)] 3)) := Fr.alloc (Fr.refl _ w6) _
                 have HQb : Hd _ := hQ6.keep hFb
                 have HGa2 : Hd _ := hGa6.fr hFb (fun _ _ e => e)
                 have HGb2 : Hd _ := hGb6.fr hFb (fun _ _ e => e)
                 have HAP6 : Hd _ := hAp6
                 have HFB : Hd (Fr (fun j => j = wb ∨ LsB lv us j ∨ LsB mv us' j ∨ (Value.slice ad zs.length cap).ownBlock = some j) w (w6.alloc (.cells #[vI (-n)] 3))) := hF6.trans (hFb.mono (fun _ _ e => e.elim))
                 have HROWb : Hd _ := HGb2.out.1
                 have hnews2 : ∀ j u, [vI (-n)][j]? = some u → (w6.alloc (.cells #[vI (-n)] 3)).cell? ((⟨w6.heap.size, 0, none⟩ : Addr).add j) = some u :=
                   World.news_of_block (w := (w6.alloc (.cells #[vI (-n)] 3))) (cs := #[vI (-n)]) (heap_alloc_last w6 (.cells #[vI (-n)] 3))
                 have hw2 : (w6.alloc (.cells #[vI (-n)] 3)).heap.size = w6.heap.size + 1 := by simp
                 have hbase2 : w0.heap.size ≤ (w6.alloc (.cells #[vI (-n)] 3)).heap.size := HQb.out.fr.size
                 clear hown6 hgrow6 hat6 hlt6 hkeep6 hQ6 hGa6 hoth hGb6 hAp6 hF6 hFb hnews hw1 hbase)
              | (at_builtin
                 refine wpList_append_keeps rfl (.tmp 59) (.tmp 62) 29 rfl w0.heap.size 3 i3 (.int .i64 0) 1 8 under22 hi3 hz3 hs3 hb3 rfl (by omega) u6 xs.length _ rfl HROWb.out ⟨w6.heap.size, 0, none⟩ 1 1 [vI (-n)] rfl rfl hnews2 t2 (by omega) hmx1 (by omega) hbase2 (w6.heap.size + 1) hw2 ?_
                 intro g7 cap7 w7 hown7 hgrow7 hat7 hlt7 hkeep7)))
            obtain ⟨hQ7, hGb7, hoth⟩ := HQb.out.longer (wS := w) (x := -n) (by have := HFB.out.size; exact this) HGb2.out hown7 hgrow7 (by rw [hw2]; rcases hat7 with e | e; exact Or.inl e; exact Or.inr (by omega)) hkeep7
            obtain ⟨hGa7, hAp7⟩ := hoth _ _ HGa2.out (fun j e e2 => HAP6.out j e2 e)
            have hF7 : Fr (fun j => j = wb ∨ LsB lv us j ∨ LsB mv us' j ∨ (Value.slice ad zs.length cap).ownBlock = some j) w w7 := HFB.out.then (grown_fr hgrow7) (fun j hj e => by
              rcases (HGb2.out.2 j e).2.2.2.1 with e2 | e2
              · exact Or.inr (Or.inr (Or.inr e2))
              · omega)
            rw [HX.out] at hGa7 hGb7
            exact ⟨⟨k + 1, by simp, by omega, hQ7, hGa7, hGb7, fun j e e2 => hAp7 j e2 e, hF7⟩, by simp; omega⟩
          · have hke : k = 64 := by omega
            subst hke
            have dk : decide (((64 : Nat) : Int) < 64) = false := by simp
            obtain ⟨xs, hxs⟩ : ∃ xs, xs = ns ++ List.replicate 64 (-n) := ⟨_, rfl⟩
            have hxl : xs.length = zs.length + 64 := by rw [hxs, List.length_append, List.length_replicate]; have : ns.length = zs.length := HNL.out; omega
            rw [← hxs] at HGa HGb
            have HXL : Hd _ := hxl
            clear hxs hxl
            obtain ⟨la, lc, hl7, -, -⟩ := row_shape HQ.out.ll.row
            obtain ⟨ma, mc, hm8, -, -⟩ := row_shape HQ.out.lm.row
            obtain ⟨ua, uc, rfl, -, -⟩ := row_shape HGa.out.1
            obtain ⟨va, vc, rfl, -, -⟩ := row_shape HGb.out.1
            have hl1 : (us ++ [(Value.slice ad zs.length cap, ns)]).length = us.length + 1 := by simp
            have hl2 : (us' ++ [(cv, ns)]).length = us'.length + 1 := by simp
            rw [hl1] at hl7
            rw [hl2] at hm8
            have HL7 : Hd (lv7 = .slice la (us.length + 1) lc) := hl7
            have HM8 : Hd (mv8 = .slice ma (us'.length + 1) mc) := hm8
            obtain ⟨c4, -, -⟩ := HQ.out.heads
            rw [hl7] at c4
            clear hl7 hm8
            have hFa : Fr (fun _ => False) wr (wr.alloc (.cells #[Value.slice ua xs.length uc] 29)) := Fr.alloc (Fr.refl _ wr) _
            have HQa : Hd _ := HQ.out.keep hFa
            have HGa1 : Hd _ := HGa.out.fr hFa (fun _ _ e => e)
            have HGb1 : Hd _ := HGb.out.fr hFa (fun _ _ e => e)
            have HFA : Hd (Fr (fun j => j = wb ∨ LsB lv us j ∨ LsB mv us' j ∨ (Value.slice ad zs.length cap).ownBlock = some j) w (wr.alloc (.cells #[Value.slice ua xs.length uc] 29))) := HF.out.trans (hFa.mono (fun _ _ e => e.elim))
            have HROWa : Hd _ := HQa.out.ll.row
            rw [HL7.out, hl1] at HROWa
            have hnews : ∀ j u, [Value.slice ua xs.length uc][j]? = some u → (wr.alloc (.cells #[Value.slice ua xs.length uc] 29)).cell? ((⟨wr.heap.size, 0, none⟩ : Addr).add j) = some u :=
              World.news_of_block (w := (wr.alloc (.cells #[Value.slice ua xs.length uc] 29))) (cs := #[Value.slice ua xs.length uc]) (heap_alloc_last wr (.cells #[Value.slice ua xs.length uc] 29))
            have t2 : ∀ u ∈ [Value.slice ua xs.length uc], u.oneCell' = true := by intro u hu; simp at hu; subst hu; rfl
            have t6 : ∀ u ∈ [Value.slice va xs.length vc], u.oneCell' = true := by intro u hu; simp at hu; subst hu; rfl
            have hw1 : (wr.alloc (.cells #[Value.slice ua xs.length uc] 29)).heap.size = wr.heap.size + 1 := by simp
            have hbase : w0.heap.size ≤ (wr.alloc (.cells #[Value.slice ua xs.length uc] 29)).heap.size := HQa.out.fr.size
            have hmx1 : us.length + 1 + 1 ≤ maxLen := by unfold maxLen; omega
            have hmx2 : us'.length + 1 + 1 ≤ maxLen := by unfold maxLen; omega
            have HAFT : Hd (∀ w6 : World, (wr.alloc (.cells #[Value.slice ua xs.length uc] 29)).grownBy w6 (Value.slice la (us.length + 1) lc).ownBlock → w6.cell? ⟨wb, 0, none⟩ = some (.slice la (us.length + 1) lc) ∧ w6.frozen? ⟨wb, 0, none⟩ = false) := fun w6 hg => by
              have hc6 := (hg.block wb (heap_lt HQa.out.blk) (fun e => HQa.out.wl wb (Or.inl (Or.inl (by rw [HL7.out]; exact e.symm))) rfl)).trans HQa.out.blk
              exact ⟨by rw [cell_of hc6, ← HL7.out]; rfl, frozen_of hc6 0⟩
            have HU1 : Hd (∀ j, (Value.slice ua xs.length uc).ownBlock = some j → (Value.slice ad zs.length cap).ownBlock = some j ∨ w.heap.size ≤ j) := fun j e => (HGa1.out.2 j e).2.2.2.1
            have HU6 : Hd (∀ j, (Value.slice va xs.length vc).ownBlock = some j → (Value.slice ad zs.length cap).ownBlock = some j ∨ w.heap.size ≤ j) := fun j e => (HGb1.out.2 j e).2.2.2.1
            clear HQ HGa HGb HF hFa hl1 hl2
            go_upto_region 15 with (at_builtin; refine wpList_append_lies _ rfl (.tmp 68) (.tmp 70) 25 rfl w0.heap.size 29 i29 (.slice none 0 0) 1 24 underLs hi hz9 hs hb rfl (by omega) (.slice la (us.length + 1) lc) (us.length + 1) _ rfl HROWa.out ⟨wr.heap.size, 0, none⟩ 1 1 [Value.slice ua xs.length uc] rfl rfl hnews t2 (by omega) hmx1 (by omega) hbase (wr.heap.size + 1) hw1 ?_; intro g6 cap6 w6 hown6 hgrow6 hat6 hlt6; obtain ⟨y4, z4⟩ := HAFT.out w6 hgrow6)
            have hat7 : ∀ j, (Value.slice (some ⟨g6, 0, none⟩) (us.length + 1 + 1) cap6).ownBlock = some j → lv7.ownBlock = some j ∨ (wr.alloc (.cells #[Value.slice ua xs.length uc] 29)).heap.size ≤ j := fun j e => by
              have e : g6 = j := by cases e; rfl
              subst e
              rw [hw1, HL7.out]
              rcases hat6 with e | e
              · exact Or.inl e
              · exact Or.inr (by omega)
            have hf6 := grown_fr hgrow6
            rw [← HL7.out] at hf6
            have HQ7 : Hd _ := HQa.out.growL hf6 (by rw [List.length_append]; exact hown6) hat7 (zs := xs) HGa1.out.1 (fun j e => (HGa1.out.2 j e).1)
            have HF7 : Hd (Fr (fun j => j = wb ∨ LsB lv us j ∨ LsB mv us' j ∨ (Value.slice ad zs.length cap).ownBlock = some j) w (w6.setCell ⟨wb, 0, none⟩ (.slice (some ⟨g6, 0, none⟩) (us.length + 1 + 1) cap6))) := (HFA.out.then hf6 (fun j hj e => by
                rcases HP8.out j (Or.inl (Or.inl e)) with e | e | e | e
                · exact Or.inr (Or.inl e)
                · exact Or.inr (Or.inr (Or.inl e))
                · exact Or.inr (Or.inr (Or.inr e))
                · omega)).then (setCell_fr w6 _ _ _) (fun j _ e => Or.inl e)
            have HP7 : Hd (∀ k, LsB (.slice (some ⟨g6, 0, none⟩) (us.length + 1 + 1) cap6) ((us ++ [(Value.slice ad zs.length cap, ns)]) ++ [(Value.slice ua xs.length uc, xs)]) k ∨ LsB mv8 (us' ++ [(cv, ns)]) k → LsB lv us k ∨ LsB mv us' k ∨ (Value.slice ad zs.length cap).ownBlock = some k ∨ w.heap.size ≤ k) := fun k hk => by
              have s7 := HFA.out.size
              rcases hk with hk | hk
              · rcases LsB.snoc (w := wr.alloc (.cells #[Value.slice ua xs.length uc] 29)) hk (hat7 k) with e | e | e
                · exact HP8.out k (Or.inl e)
                · exact Or.inr (Or.inr (Or.inr (by omega)))
                · exact Or.inr (Or.inr (HU1.out k e))
              · exact HP8.out k (Or.inr hk)
            have HGb7 : Hd ((w6.setCell ⟨wb, 0, none⟩ (.slice (some ⟨g6, 0, none⟩) (us.length + 1 + 1) cap6)).ownsRow w0.heap.size 3 1 (Value.slice va xs.length vc) xs.length (xs.map vI)) :=
              ownsRow_fr (ownsRow_fr HGb1.out.1 hf6 (fun j e e2 => (HGb1.out.2 j e).2.1 e2)) (setCell_fr w6 _ _ _) (fun j e e2 => (HGb1.out.2 j e).1 e2)
            have HOb : Hd (∀ j, (Value.slice va xs.length vc).ownBlock = some j → j ≠ wb) := fun j e => (HGb1.out.2 j e).1
            clear HQa HGa1 HGb1 HFA HROWa hnews t2 hw1 hbase HAFT hown6 hgrow6 hat6 hlt6 hat7 hf6 y4 z4 c4 HP8
            generalize w6.setCell ⟨wb, 0, none⟩ (.slice (some ⟨g6, 0, none⟩) (us.length + 1 + 1) cap6) = w7 at *
            generalize Value.slice (some ⟨g6, 0, none⟩) (us.length + 1 + 1) cap6 = lv9 at *
            have hFb : Fr (fun _ => False) w7 (w7.alloc (.cells #[Value.slice va xs.length vc] 29)) := Fr.alloc (Fr.refl _ w7) _
            have HQb : Hd _ := HQ7.out.keep hFb
            have HGb8 : Hd _ := ownsRow_fr HGb7.out hFb (fun _ _ e => e)
            have HFB : Hd (Fr (fun j => j = wb ∨ LsB lv us j ∨ LsB mv us' j ∨ (Value.slice ad zs.length cap).ownBlock = some j) w (w7.alloc (.cells #[Value.slice va xs.length vc] 29))) := HF7.out.trans (hFb.mono (fun _ _ e => e.elim))
            obtain ⟨-, c5, -⟩ := HQ7.out.heads
            rw [HM8.out] at c5
            have HROWb : Hd _ := HQb.out.lm.row
            rw [HM8.out, List.length_append] at HROWb
            have hnews : ∀ j u, [Value.slice va xs.length vc][j]? = some u → (w7.alloc (.cells #[Value.slice va xs.length vc] 29)).cell? ((⟨w7.heap.size, 0, none⟩ : Addr).add j) = some u :=
              World.news_of_block (w := (w7.alloc (.cells #[Value.slice va xs.length vc] 29))) (cs := #[Value.slice va xs.length vc]) (heap_alloc_last w7 (.cells #[Value.slice va xs.length vc] 29))
            have hw2 : (w7.alloc (.cells #[Value.slice va xs.length vc] 29)).heap.size = w7.heap.size + 1 := by simp
            have hbase : w0.heap.size ≤ (w7.alloc (.cells #[Value.slice va xs.length vc] 29)).heap.size := HQb.out.fr.size
            have HAFT : Hd (∀ w6 : World, (w7.alloc (.cells #[Value.slice va xs.length vc] 29)).grownBy w6 (Value.slice ma (us'.length + 1) mc).ownBlock → w6.cell? ⟨wb, 1, none⟩ = some (.slice ma (us'.length + 1) mc) ∧ w6.frozen? ⟨wb, 1, none⟩ = false) := fun w6 hg => by
              have hc6 := (hg.block wb (heap_lt HQb.out.blk) (fun e => HQb.out.wl wb (Or.inr (Or.inl (by rw [HM8.out]; exact e.symm))) rfl)).trans HQb.out.blk
              exact ⟨by rw [cell_of hc6, ← HM8.out]; rfl, frozen_of hc6 1⟩
            clear hFb HGb7
            go_wp2_with ((at_builtin
                          refine wpList_append_lies _ rfl (.tmp 78) (.tmp 80) 25 rfl w0.heap.size 29 i29 (.slice none 0 0) 1 24 underLs hi hz9 hs hb rfl (by omega) (.slice ma (us'.length + 1) mc) (us'.length + 1) _ rfl HROWb.out ⟨w7.heap.size, 0, none⟩ 1 1 [Value.slice va xs.length vc] rfl rfl hnews t6 (by omega) hmx2 (by omega) hbase (w7.heap.size + 1) hw2 ?_
                          intro g8 cap8 w8 hown8 hgrow8 hat8 hlt8
                          obtain ⟨y5, z5⟩ := HAFT.out w8 hgrow8))
            go_end0
            have hat9 : ∀ j, (Value.slice (some ⟨g8, 0, none⟩) (us'.length + 1 + 1) cap8).ownBlock = some j → mv8.ownBlock = some j ∨ (w7.alloc (.cells #[Value.slice va xs.length vc] 29)).heap.size ≤ j := fun j e => by
              have e : g8 = j := by cases e; rfl
              subst e
              rw [hw2, HM8.out]
              rcases hat8 with e | e
              · exact Or.inl e
              · exact Or.inr (by omega)
            have hf8 := grown_fr hgrow8
            rw [← HM8.out] at hf8
            have hQ9 := HQb.out.growM hf8 (by rw [List.length_append]; exact hown8) hat9 (zs := xs) HGb8.out HOb.out
            have hsm : ((us ++ [(Value.slice ad zs.length cap, ns)]) ++ [(Value.slice ua xs.length uc, xs)]).map (·.2) = ((us' ++ [(cv, ns)]) ++ [(Value.slice va xs.length vc, xs)]).map (·.2) := by
              simp only [List.map_append, List.map_cons, List.map_nil]
              rw [HS.out]
            refine ⟨rfl, _, _, _, _, hQ9, hsm, by simp, fun p hp => ?_, (HFB.out.then hf8 (fun j hj e => ?_)).then (setCell_fr w8 _ _ _) (fun j _ e => Or.inl e), fun k hk => ?_⟩
            · have e1 : ns.length = zs.length := HNL.out
              have e2 : xs.length = zs.length + 64 := HXL.out
              simp only [List.mem_append, List.mem_singleton] at hp
              rcases hp with (hp | rfl) | rfl
              · exact Or.inl hp
              · exact Or.inr (by show ns.length ≤ _; omega)
              · exact Or.inr (by show xs.length ≤ _; omega)
            · rcases HP7.out j (Or.inr (Or.inl e)) with e | e | e | e
              · exact Or.inr (Or.inl e)
              · exact Or.inr (Or.inr (Or.inl e))
              · exact Or.inr (Or.inr (Or.inr e))
              · omega
            · have s7 := HFB.out.size
              rcases hk with hk | hk
              · exact HP7.out k (Or.inl hk)
              · rcases LsB.snoc (w := w7.alloc (.cells #[Value.slice va xs.length vc] 29)) hk (hat9 k) with e | e | e
                · exact HP7.out k (Or.inr e)
                · exact Or.inr (Or.inr (Or.inr (by omega)))
                · exact Or.inr (Or.inr (HU6.out k e))

end Go.Proofs.Ytcjfmfddkhpfnab
