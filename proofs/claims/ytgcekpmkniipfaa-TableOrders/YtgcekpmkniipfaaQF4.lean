import Derived.Test.YtgcekpmkniipfaaQE7
namespace Go.Proofs.Ytgcekpmkniipfaa
open Go.RowKit (wrap32 wrap64)
set_option linter.unusedVariables false
set_option linter.unusedSimpArgs false

theorem info48 : (Try.prog.info? 48).map (fun i => (i.zero, i.size, i.bytes)) = some (some (.slice none 0 0), 1, 24) := by kernel_rfl
theorem und34 : Try.prog.underlying 34 = some (.slice 48) := by kernel_rfl
def mostX (n : Nat) : Nat := 400 / n + 1
def SoE (w wr : World) (cl : List (List OpT)) (n i : Nat) (v3 : Value) (us : List Value) : Prop := us.length = i ∧ wr.ownsRow w.heap.size 48 1 v3 i us ∧ (∀ j (h : j < us.length) (h2 : j < cl.length), OpsAt w w.heap.size us[j] (cl[j].take (mostX n))) ∧ Fr (fun _ => False) w wr
def someX (cl : List (List OpT)) : List (List OpT) := cl.map (fun l => l.take (mostX cl.length))

set_option maxRecDepth 100000 in
set_option maxHeartbeats 4000000 in
theorem some_any (w : World) (v : Value) (cl : List (List OpT)) (h : ClsAt w w.heap.size v cl) (hn : cl.length ≤ 2147483647) (hlen : ∀ l ∈ cl, l.length ≤ 2147483647) :
    Calls Try.prog 21 #[v] w fun e w' => ∃ v', e = .returned v' ∧ ClsAt w' w'.heap.size v' (someX cl) ∧ Fr (fun _ => False) w w' := by
  obtain ⟨i48, hi48, hz48, hs48, hb48⟩ := info_parts info48
  obtain ⟨ad, cap, rfl, hx⟩ := h
  have HX : Hd (cl ≠ [] → ∃ g o, ad = some ⟨g, o, none⟩ ∧ g < w.heap.size ∧ ∀ i (h : i < cl.length), ∃ u, w.cell? ⟨g, o + i, none⟩ = some u ∧ OpsAt w w.heap.size u cl[i]) := hx
  have HL : Hd (∀ l ∈ cl, l.length ≤ 2147483647) := hlen
  obtain ⟨n, en⟩ : ∃ n, n = cl.length := ⟨_, rfl⟩
  have EN : Hd (n = cl.length) := en
  rw [← en] at hn ⊢
  clear hx hlen en
  go_enter Try.func21, Try.ntmps21
  go_wp2_with fail
  go_loopw [3, 4, 5, 6] (fun v3 v4 _ _ wr => ∃ (i : Nat) (us : List Value), v4 = .int .i64 i ∧ i ≤ n ∧ Hd (SoE w wr cl n i v3 us)) (fun _ v _ _ _ => match v with | .int _ q => n - q.toNat | _ => 0)
  case atStart => exact ⟨0, [], rfl, by omega, rfl, World.ownsRow_nil _ _ _ _, fun j h => by simp at h, Fr.refl _ _⟩
  case round =>
    obtain ⟨i, us, rfl, hi, HM⟩ := hrel
    by_cases hlt : i < n
    · have hil : i < cl.length := by rw [← EN.out]; exact hlt
      obtain ⟨g, o, rfl, hg, hcs⟩ := HX.out (by intro e; rw [e] at hil; simp at hil)
      obtain ⟨u, hu, hO⟩ := hcs i hil
      obtain ⟨hul, hrow, hall, hF⟩ := HM.out
      have du := (hF.cell hg (fun h => h)).trans hu
      have hll := HL.out cl[i] (List.getElem_mem hil)
      -- what is appended
      have key : ∀ u', OpsAt w w.heap.size u' (cl[i].take (mostX n)) → (∃ a m c, u' = .slice a m c) → ∃ g6 cap6 w6, (Builtin.append_ #[34, 34] 34 #[u3, .slice (some ⟨wr.heap.size, 0, none⟩) 1 1]).run Try.prog (wr.alloc (.cells #[u'] 48)) = .ok (.slice (some ⟨g6, 0, none⟩) (i + 1) cap6) w6 ∧ SoE w w6 cl n (i + 1) (.slice (some ⟨g6, 0, none⟩) (i + 1) cap6) (us ++ [u']) := by
        rintro u' hO' ⟨a', m', c', e'⟩
        obtain ⟨g6, cap6, w6, hr, hown, hgr, -, -⟩ := run_append_lies (P := Try.prog) (w := wr.alloc (.cells #[u'] 48)) 34 34 w.heap.size 48 i48 (.slice none 0 0) 1 24 und34 hi48 hz48 hs48 hb48 rfl (by omega) u3 i us (World.ownsRow.alloc hrow _) ⟨wr.heap.size, 0, none⟩ 1 1 [u'] rfl (one_new wr u' 48) (by intro x hx; rw [List.mem_singleton.1 hx, e']; rfl) (by omega) (by unfold maxLen; omega) (by omega) (by have := hF.size; simp; omega) _ rfl
        refine ⟨g6, cap6, w6, hr, by simp [hul], hown, fun j hj h2 => ?_, (hF.alloc _).under (grown_fr hgr) (fun j hj => (World.ownsRow.lt hrow j hj).1)⟩
        by_cases e : j < us.length
        · rw [List.getElem_append_left e]; exact hall j e h2
        · have ej : j = i := by simp at hj; omega
          subst ej
          have : (us ++ [u'])[j] = u' := by simp [hul]
          rw [this]; exact hO'
      obtain ⟨ua, uc, eu, huc, hux⟩ := hO
      have hO : OpsAt w w.heap.size u cl[i] := ⟨ua, uc, eu, huc, hux⟩
      have hi0 : (0 : Int) ≤ i := by omega
      have hi3 : (i : Int) < n := by omega
      have hn0 : ((n : Int) == 0) = false := by simp; omega
      have hn00 : ¬ n = 0 := by omega
      obtain ⟨q, eq⟩ : ∃ q, q = 400 / n := ⟨_, rfl⟩
      have hqb : q ≤ 400 := by rw [eq]; exact Nat.div_le_self _ _
      have hq : (400 : Int) / (n : Int) = (q : Int) := by
        have e1 : (400 : Int) / (n : Int) = ((400 / n : Nat) : Int) := by rw [Int.natCast_ediv]; rfl
        rw [e1, ← eq]
      have hmx : mostX n = q + 1 := by rw [eq]; rfl
      clear eq
      by_cases hbig : mostX n < cl[i].length
      · have hne : cl[i] ≠ [] := by intro e; rw [e] at hbig; simp at hbig
        obtain ⟨ug, uo, rfl, hug, hucs⟩ := hux hne
        have hO' : OpsAt w w.heap.size (.slice (some ⟨ug, uo, none⟩) (mostX n) uc) (cl[i].take (mostX n)) := by
          have hlt' : (cl[i].take (mostX n)).length = mostX n := by rw [List.length_take]; omega
          refine ⟨_, uc, by rw [hlt'], by omega, fun _ => ⟨ug, uo, rfl, hug, fun j hj => ?_⟩⟩
          have hj' : j < cl[i].length := by omega
          have := hucs j hj'
          rw [List.getElem_take]; exact this
        obtain ⟨g6, cap6, w6, hr, hend⟩ := key _ hO' ⟨_, _, _, rfl⟩
        have HA : Hd ((Builtin.append_ #[34, 34] 34 #[u3, .slice (some ⟨wr.heap.size, 0, none⟩) 1 1]).run Try.prog (wr.alloc (.cells #[.slice (some ⟨ug, uo, none⟩) (mostX n) uc] 48)) = .ok (.slice (some ⟨g6, 0, none⟩) (i + 1) cap6) w6) := hr
        have HE : Hd (SoE w w6 cl n (i + 1) (.slice (some ⟨g6, 0, none⟩) (i + 1) cap6) (us ++ [.slice (some ⟨ug, uo, none⟩) (mostX n) uc])) := hend
        subst eu
        obtain ⟨ln, eln⟩ : ∃ ln, ln = cl[i].length := ⟨_, rfl⟩
        rw [← eln] at du hbig hll huc
        rw [hmx] at HA hbig HE
        have hb1 : (q : Int) + 1 < ln := by omega
        have hb2 : (q : Int) + 1 ≤ uc := by omega
        have hb3 : (0 : Int) ≤ (q : Int) + 1 := by omega
        clear key hcs hux hucs hO hO' hr hend HM hul hrow hall hF hu eln hne hmx
        go_wp2_with (at_builtin; refine wpList_append_run rfl (.tmp 28) (.tmp 30) 34 rfl _ _ _ rfl rfl HA.out ?_)
        exact ⟨⟨i + 1, _, by simp, by omega, HE.out⟩, by simp; omega⟩
      · have et : cl[i].take (mostX n) = cl[i] := List.take_of_length_le (by omega)
        obtain ⟨g6, cap6, w6, hr, hend⟩ := key u (by rw [et]; exact hO) ⟨_, _, _, eu⟩
        subst eu
        have HA : Hd ((Builtin.append_ #[34, 34] 34 #[u3, .slice (some ⟨wr.heap.size, 0, none⟩) 1 1]).run Try.prog (wr.alloc (.cells #[.slice ua cl[i].length uc] 48)) = .ok (.slice (some ⟨g6, 0, none⟩) (i + 1) cap6) w6) := hr
        have HE : Hd (SoE w w6 cl n (i + 1) (.slice (some ⟨g6, 0, none⟩) (i + 1) cap6) (us ++ [.slice ua cl[i].length uc])) := hend
        obtain ⟨ln, eln⟩ : ∃ ln, ln = cl[i].length := ⟨_, rfl⟩
        rw [← eln] at du hbig hll huc HA HE
        rw [hmx] at hbig
        have hb1 : decide ((q : Int) + 1 < ln) = false := by simp; omega
        have hb2 : decide (q + 1 < ln) = false := by simp; omega
        clear key hcs hux hO hr hend HM hul hrow hall hF hu eln hmx et
        go_wp2_with (at_builtin; refine wpList_append_run rfl (.tmp 28) (.tmp 30) 34 rfl _ _ _ rfl rfl HA.out ?_)
        exact ⟨⟨i + 1, _, by simp, by omega, HE.out⟩, by simp; omega⟩
    · have hd : decide (i < n) = false := by simp; omega
      have ein : i = cl.length := by have := EN.out; omega
      have HE : Hd (ClsAt wr wr.heap.size u3 (someX cl) ∧ Fr (fun _ => False) w wr) := by
        obtain ⟨hul, hrow, hall, hF⟩ := HM.out
        refine ⟨?_, hF⟩
        obtain ⟨a, c, e, hx⟩ := RowAt.own hrow
        refine ⟨a, c, by rw [e]; unfold someX; congr 1; simp; omega, fun hne => ?_⟩
        have hpos : 0 < cl.length := by
          rcases Nat.eq_zero_or_pos cl.length with e0 | e0
          · exact absurd (by unfold someX; rw [List.eq_nil_of_length_eq_zero e0]; rfl) hne
          · exact e0
        obtain ⟨g, o, ea, hg, hcs⟩ := hx (by intro e0; rw [e0] at hul; simp at hul; omega)
        refine ⟨g, o, ea, hg, fun j hj => ?_⟩
        have hj' : j < cl.length := by have hsl : (someX cl).length = cl.length := by simp [someX]
                                       omega
        have hj2 : j < us.length := by omega
        refine ⟨us[j], hcs j hj2, ?_⟩
        have e2 : (someX cl)[j] = cl[j].take (mostX n) := by rw [EN.out]; simp [someX]
        rw [e2]
        exact ((hall j hj2 hj').fr hF (Nat.le_refl _) (fun _ _ h => h)).mono hF.size
      clear HM
      go_wp2_with fail
      go_ret
      exact ⟨_, rfl, HE.out.1, HE.out.2⟩
end Go.Proofs.Ytgcekpmkniipfaa
