import Derived.Test.YtingenonbkencaaDoorQX1
import Derived.Test.YtingenonbkencaaDoorQS2J
import Derived.Deep.DeepAppendWide
namespace Go.Proofs.YtingenonbkencaaDoor
open Go.RowKit (wrap32 wrap64)
set_option linter.unusedVariables false
set_option linter.unusedSimpArgs false
set_option maxRecDepth 100000
set_option maxHeartbeats 1000000
theorem copyBytes_wide (v : Value) (bs : List UInt8) (w : World) (h : BytesIn w v bs) (hl : bs.length ≤ 140737488351232) :
    Calls Tryd.prog 11 #[v] w fun e w' => Fr (fun _ => False) w w' ∧ ∃ rv, e = .returned rv ∧ w'.ownsRow w.heap.size 5 1 rv bs.length (bs.map u8v) ∧ (bs = [] → rv = .slice none 0 0) := by
  obtain ⟨-, a, c, rfl, hc, hcell⟩ := h
  obtain ⟨i5, hi5, hz5, hs5, hb5⟩ := info_parts (P := Tryd.prog) (e := 5) (z := .int .u8 0) (size := 1) (bytes := 1) (by kernel_rfl)
  go_enter Tryd.func11, Tryd.ntmps11
  go_wp2_with fail
  go_loopw [3, 4] (fun m i wr => ∃ (k : Nat), k ≤ bs.length ∧ i = .int .i64 k ∧ wr.ownsRow w.heap.size 5 1 m k ((bs.take k).map u8v) ∧ Fr (fun j => w.heap.size ≤ j) w wr ∧ (k = 0 → m = .slice none 0 0)) (fun _ i _ => match i with | .int _ q => bs.length - q.toNat | _ => 0)
  case atStart => exact ⟨0, Nat.zero_le _, rfl, World.ownsRow_nil _ _ _ _, Fr.refl _ _, fun _ => rfl⟩
  case round =>
    obtain ⟨k, hk, rfl, hown, hfr, hkz⟩ := hrel
    have HKZ : Hd (k = 0 → u3 = .slice none 0 0) := hkz
    clear hkz
    by_cases hlt : k < bs.length
    · obtain ⟨g, o, rfl, hg, hcs⟩ := hcell (by intro e; simp [e] at hlt)
      have hck : wr.cell? ⟨g, o + k, none⟩ = some (.int .u8 bs[k].toNat) := (hfr.cell hg (by omega)).trans (hcs k hlt)
      have hgl : g < wr.heap.size := Nat.lt_of_lt_of_le hg hfr.size
      have htk : Hd ((bs.take (k + 1)).map u8v = (bs.take k).map u8v ++ [u8v bs[k]]) := take_map_succ bs k hlt
      generalize hbk : bs[k] = bk at hck htk
      have hkb : k + 1 ≤ maxLen := by unfold maxLen; omega
      have hws := hfr.size
      have hcell1 : ∀ (j : Nat) (u : Value), [u8v bk][j]? = some u → (wr.alloc (.cells #[u8v bk] 5)).cell? ((⟨wr.heap.size, 0, none⟩ : Addr).add j) = some u := by
        intro j u hu
        rw [addr_add, World.cell?_alloc_new]
        simpa using hu
      have hkn : (0 : Int) ≤ k ∧ (k : Int) < bs.length := by omega
      clear hcell hcs hbk
      go_wp2_with ((at_builtin; refine wpList_append_own _ rfl (.tmp 11) (.tmp 16) 22 rfl w.heap.size 5 i5 (.int .u8 0) 1 1 Tryd.underlying22 hi5 hz5 hs5 hb5 rfl (by omega) u3 k _ rfl (hown.alloc _) ⟨wr.heap.size, 0, none⟩ 1 1 [u8v bk] rfl rfl hcell1 (by intro u hu; simp at hu; subst hu; rfl) hkb (by omega) (by simp; omega) ?_; intro v1 w6 hown6 hgrow6 hnil6))
      have hnb : ∀ j, u3.ownBlock = some j → w.heap.size ≤ j := fun j hj => (World.ownsRow.lt hown j hj).1
      refine ⟨⟨k + 1, by omega, by simp, by rw [htk.out]; exact hown6, hfr.trans (Fr.trans (Fr.alloc (Fr.refl _ wr) _) ((grown_fr hgrow6).mono (fun j _ hj => hnb j hj))), fun e => by omega⟩, by simp; omega⟩
    · have hkl : k = bs.length := by omega
      subst hkl
      go_wp2_with fail
      go_ret
      rw [List.take_of_length_le (Nat.le_refl _)] at hown
      exact ⟨hfr.mono (fun j hj hS => by omega), _, rfl, hown, fun e => HKZ.out (by rw [e]; rfl)⟩
theorem codeStays_wide (v1 v2 : Value) (bs ms : List UInt8) (w : World) (h1 : BytesIn w v1 bs) (h2 : BytesIn w v2 ms) (hl1 : bs.length ≤ 140737488351232) (hl2 : ms.length ≤ 140737488351232) (hT : Tab w) (h0 : 0 < w.heap.size) :
    Calls Tryd.prog 3 #[v1, v2] w fun e w' => e = .returned (.bool true) ∧ Fr (fun _ => False) w w' := by
  obtain ⟨a1, c1, rfl, hc1, -⟩ : ∃ a c, v1 = .slice a bs.length c ∧ bs.length ≤ c ∧ True := by obtain ⟨-, a, c, e, h, -⟩ := h1; exact ⟨a, c, e, h, trivial⟩
  obtain ⟨a2, c2, rfl, hc2, -⟩ : ∃ a c, v2 = .slice a ms.length c ∧ ms.length ≤ c ∧ True := by obtain ⟨-, a, c, e, h, -⟩ := h2; exact ⟨a, c, e, h, trivial⟩
  have H1 : Hd (BytesIn w (.slice a1 bs.length c1) bs) := h1
  have H2 : Hd (BytesIn w (.slice a2 ms.length c2) ms) := h2
  clear h1 h2
  go_enter Tryd.func3, Tryd.ntmps3
  go_wp2_with fail
  refine (works_any w hT h0).mono ?_
  rintro e w1 ⟨rfl, hf1⟩
  have hs1 := hf1.size
  go_wp2_with fail
  refine (copyBytes_wide _ bs w1 (H1.out.grow hf1) (by omega)).mono ?_
  rintro e w2 ⟨hf2, rv, rfl, hown2, hnil2⟩
  have hs2 := hf2.size
  have hf02 := hf1.trans hf2
  go_wp2_with fail
  refine (decode_said rv bs w2 (owns_handed hown2 (by omega) hnil2) (hT.fr hf02 (fun h => h)) (by omega)).mono ?_
  rintro e w3 ⟨hf3, hr3⟩
  have hf03 := hf02.trans hf3
  have hs3 := hf3.size
  clear hown2 hf1 hf2 hf3 hf02 hnil2
  cases hd : decX bs with
  | ok q =>
    obtain ⟨G, done, fs⟩ := q
    rw [hd] at hr3
    obtain ⟨v, rfl, hlp⟩ := hr3
    obtain ⟨g, cap, cs, tl, -, rfl, -⟩ := hlp
    clear hd
    go_wp2_with fail
    go_ret
    exact ⟨rfl, hf03.trans (Fr.alloc (Fr.refl _ w3) _)⟩
  | error z =>
    obtain ⟨er, p⟩ := z
    rw [hd] at hr3
    subst hr3
    have hne0 : er ≠ 0 := decX_told (by omega) hd
    have HD : Hd (decX bs = .error (er, p)) := hd
    clear hd
    have b0 : (er == 0) = false := by simpa using hne0
    by_cases h11 : er = 11
    · subst h11
      clear hne0
      go_wp2_with fail
      go_ret
      exact ⟨rfl, hf03.trans (Fr.alloc (Fr.refl _ w3) _)⟩
    by_cases h10 : er = 10
    · subst h10
      clear hne0 h11
      go_wp2_with fail
      go_ret
      exact ⟨rfl, hf03.trans (Fr.alloc (Fr.refl _ w3) _)⟩
    by_cases h22 : er = 22
    · subst h22
      clear hne0 h11 h10
      go_wp2_with fail
      go_ret
      exact ⟨rfl, hf03.trans (Fr.alloc (Fr.refl _ w3) _)⟩
    have b11 : (er == 11) = false := by simpa using h11
    have b10 : (er == 10) = false := by simpa using h10
    have b22 : (er == 22) = false := by simpa using h22
    have HE : Hd (er ≠ 10 ∧ er ≠ 11 ∧ er ≠ 22) := ⟨h10, h11, h22⟩
    have hst := fun (bs' : List UInt8) (hL' : bs'.length ≤ 1000000000000000) => through_stays (b' := 0) (rv' := nilS) (fv' := nilS) (s' := WS.start nilS) (bs' := bs') (by omega : bs.length ≤ 1000000000000000) hL' rfl rfl (HD.out : throughX 0 nilS bs (WS.start nilS) nilS = .error (er, p)) h10 h11 h22
    obtain ⟨hp0, hpl, -⟩ := hst [] (by simp)
    have hfar : p ≤ 200000000006 := decX_far (by omega) HD.out h10 h11 h22
    have hne : bs ≠ [] := by
      intro e
      have h1 := HD.out
      rw [e, show decX [] = .error (11, 0) by kernel_rfl] at h1
      cases h1
      exact h11 rfl
    have HST : Hd (∀ bs' : List UInt8, bs'.length ≤ 1000000000000000 → ∀ m : Nat, m ≤ bs'.length → bs.take m = bs'.take m → (p + 5 ≤ m ∨ bs.length ≤ m) → decX bs' = .error (er, p)) := fun bs' hL' => (hst bs' hL').2.2
    clear hst hne0 h11 h10 h22
    obtain ⟨P, hP⟩ := Int.eq_ofNat_of_zero_le hp0
    subst hP
    have HNE : Hd (bs ≠ []) := hne
    clear hne
    by_cases hPL : P + 5 ≤ bs.length
    · go_wp2_with fail
      obtain ⟨N, hN⟩ : ∃ N : Nat, N = (P + 5) := ⟨_, rfl⟩
      have hNl : N ≤ bs.length := by omega
      have hNd : (P : Int) + 5 ≤ N ∨ bs.length ≤ N := by omega
      have hN0 : 0 < N := by
        have hbl : 0 < bs.length := by have := HNE.out; cases bs with | nil => exact absurd rfl this | cons x l => simp
        omega
      have hnl : (bs.take N).length = N := by rw [List.length_take]; omega
      have hb4 : Fr (fun _ => False) w (w3.alloc (.cells #[vI 0, .slice none 0 0] 26)) := hf03.trans (Fr.alloc (Fr.refl _ w3) _)
      have e4 : (w3.alloc (.cells #[vI 0, .slice none 0 0] 26)).heap.size = w3.heap.size + 1 := by simp
      have hcall : Calls Tryd.prog 11 #[.slice a1 (P + 5) c1] (w3.alloc (.cells #[vI 0, .slice none 0 0] 26)) fun e w' => Fr (fun _ => False) w w' ∧ w3.heap.size + 1 ≤ w'.heap.size ∧ ∃ rv, e = .returned rv ∧ w'.ownsRow (w3.heap.size + 1) 5 1 rv N ((bs.take N).map u8v) := by
        have hv : Value.slice a1 (P + 5) c1 = .slice a1 N c1 := by rw [hN]
        rw [hv]
        refine (copyBytes_wide (.slice a1 N c1) (bs.take N) _ ((H1.out.grow hb4).cut N hNl) (by omega)).mono ?_
        rintro e w5 ⟨hf5, rv5, rfl, hown5, -⟩
        rw [hnl, e4] at hown5
        exact ⟨hb4.trans hf5, by have := hf5.size; omega, rv5, rfl, hown5⟩
      have hdec : Hd (decX (bs.take N ++ ms) = .error (er, P)) := HST.out _ (by rw [List.length_append, hnl]; omega) N (by rw [List.length_append, hnl]; omega) (by rw [List.take_append_of_le_length (by omega), List.take_take, Nat.min_self]) hNd
      have hne5 : Hd (bs.take N ++ ms ≠ []) := by
        intro e
        have := congrArg List.length e
        rw [List.length_append, hnl] at this
        simp at this
        omega
      have HN : Hd ((bs.take N).length = N) := hnl
      have hww3 : w.heap.size ≤ w3.heap.size := by omega
      have hNb : N ≤ 200000000011 := by omega
      obtain ⟨i5, hi5, hz5, hs5', hb5⟩ := info_parts (P := Tryd.prog) (e := 5) (z := .int .u8 0) (size := 1) (bytes := 1) (by kernel_rfl)
      refine hcall.mono ?_
      rintro e w5 ⟨hf05, hb35, rv5, rfl, hown5⟩
      clear hcall hnl HST H1 HD HNE hb4 hf03 e4 hN hN0 hNl hNd
      go_wp2_with fail
      go_loopw [10, 11] (fun m i wr => ∃ (k : Nat), k ≤ ms.length ∧ i = .int .i64 k ∧ wr.ownsRow (w3.heap.size + 1) 5 1 m (N + k) ((bs.take N).map u8v ++ (ms.take k).map u8v) ∧ Fr (fun _ => False) w wr ∧ w3.heap.size + 1 ≤ wr.heap.size) (fun _ i _ => match i with | .int _ q => ms.length - q.toNat | _ => 0)
      case atStart => exact ⟨0, Nat.zero_le _, rfl, by simpa using hown5, hf05, hb35⟩
      case round =>
        obtain ⟨k, hk, rfl, hown, hfr, hbr⟩ := hrel
        by_cases hlt : k < ms.length
        · obtain ⟨-, aa, cc, e2, -, hcell⟩ := H2.out
          cases e2
          obtain ⟨g, o, rfl, hg, hcs⟩ := hcell (by intro e; simp [e] at hlt)
          have hck : wr.cell? ⟨g, o + k, none⟩ = some (.int .u8 ms[k].toNat) := (hfr.cell hg (fun h => h)).trans (hcs k hlt)
          have hgl : g < wr.heap.size := Nat.lt_of_lt_of_le hg hfr.size
          have htk : Hd ((ms.take (k + 1)).map u8v = (ms.take k).map u8v ++ [u8v ms[k]]) := take_map_succ ms k hlt
          generalize hbk : ms[k] = bk at hck htk
          have hkb : N + k + 1 ≤ maxLen := by unfold maxLen; omega
          have hcell1 : ∀ (j : Nat) (u : Value), [u8v bk][j]? = some u → (wr.alloc (.cells #[u8v bk] 5)).cell? ((⟨wr.heap.size, 0, none⟩ : Addr).add j) = some u := by
            intro j u hu
            rw [addr_add, World.cell?_alloc_new]
            simpa using hu
          have hkn : (0 : Int) ≤ k ∧ (k : Int) < ms.length := by omega
          clear hcell hcs hbk
          go_wp2_with ((at_builtin; refine wpList_append_own_wide _ rfl (.tmp 64) (.tmp 69) 22 rfl (w3.heap.size + 1) 5 i5 (.int .u8 0) 1 1 Tryd.underlying22 hi5 hz5 hs5' hb5 rfl (by omega) u10 (N + k) _ rfl (hown.alloc _) ⟨wr.heap.size, 0, none⟩ 1 1 [u8v bk] rfl rfl hcell1 (by intro u hu; simp at hu; subst hu; rfl) hkb (by omega) (by simp; omega) ?_; intro v1 w6 hown6 hgrow6 hnil6))
          have hnb : ∀ j, u10.ownBlock = some j → w3.heap.size + 1 ≤ j := fun j hj => (World.ownsRow.lt hown j hj).1
          have hf6 : Fr (fun j => w.heap.size ≤ j) wr w6 := Fr.trans (Fr.alloc (Fr.refl _ wr) _) ((grown_fr hgrow6).mono (fun j _ hj => by have := hnb j hj; omega))
          refine ⟨⟨k + 1, by omega, by simp, ?_, ?_, by have := hf6.size; omega⟩, by simp; omega⟩
          · rw [htk.out, ← List.append_assoc]
            exact hown6
          · exact ((hfr.mono (T := fun j => w.heap.size ≤ j) (fun _ _ h => h.elim)).trans hf6).mono (fun j hj hS => by omega)
        · have hkl : k = ms.length := by omega
          subst hkl
          rw [List.take_of_length_le (Nat.le_refl ms.length), ← List.map_append] at hown
          have hl6 : (bs.take N ++ ms).length = N + ms.length := by rw [List.length_append, HN.out]
          rw [← hl6] at hown
          have hd6 := decode_said u10 (bs.take N ++ ms) wr (owns_handed hown (by omega) (fun e => absurd e hne5.out)) (hT.fr hfr (fun h => h)) (by have := hfr.size; omega)
          clear hown hl6
          go_wp2_with fail
          refine hd6.mono ?_
          rintro e w7 ⟨hf7, hr7⟩
          rw [hdec.out] at hr7
          subst hr7
          clear hd6 hdec
          go_wp2_with fail
          go_ret
          exact ⟨rfl, (hfr.trans hf7).trans (Fr.alloc (Fr.refl _ w7) _)⟩
    · go_wp2_with fail
      obtain ⟨N, hN⟩ : ∃ N : Nat, N = bs.length := ⟨_, rfl⟩
      have hNl : N ≤ bs.length := by omega
      have hNd : (P : Int) + 5 ≤ N ∨ bs.length ≤ N := by omega
      have hN0 : 0 < N := by
        have hbl : 0 < bs.length := by have := HNE.out; cases bs with | nil => exact absurd rfl this | cons x l => simp
        omega
      have hnl : (bs.take N).length = N := by rw [List.length_take]; omega
      have hb4 : Fr (fun _ => False) w (w3.alloc (.cells #[vI 0, .slice none 0 0] 26)) := hf03.trans (Fr.alloc (Fr.refl _ w3) _)
      have e4 : (w3.alloc (.cells #[vI 0, .slice none 0 0] 26)).heap.size = w3.heap.size + 1 := by simp
      have hcall : Calls Tryd.prog 11 #[.slice a1 bs.length c1] (w3.alloc (.cells #[vI 0, .slice none 0 0] 26)) fun e w' => Fr (fun _ => False) w w' ∧ w3.heap.size + 1 ≤ w'.heap.size ∧ ∃ rv, e = .returned rv ∧ w'.ownsRow (w3.heap.size + 1) 5 1 rv N ((bs.take N).map u8v) := by
        have hv : Value.slice a1 bs.length c1 = .slice a1 N c1 := by rw [hN]
        rw [hv]
        refine (copyBytes_wide (.slice a1 N c1) (bs.take N) _ ((H1.out.grow hb4).cut N hNl) (by omega)).mono ?_
        rintro e w5 ⟨hf5, rv5, rfl, hown5, -⟩
        rw [hnl, e4] at hown5
        exact ⟨hb4.trans hf5, by have := hf5.size; omega, rv5, rfl, hown5⟩
      have hdec : Hd (decX (bs.take N ++ ms) = .error (er, P)) := HST.out _ (by rw [List.length_append, hnl]; omega) N (by rw [List.length_append, hnl]; omega) (by rw [List.take_append_of_le_length (by omega), List.take_take, Nat.min_self]) hNd
      have hne5 : Hd (bs.take N ++ ms ≠ []) := by
        intro e
        have := congrArg List.length e
        rw [List.length_append, hnl] at this
        simp at this
        omega
      have HN : Hd ((bs.take N).length = N) := hnl
      have hww3 : w.heap.size ≤ w3.heap.size := by omega
      have hNb : N ≤ 200000000011 := by omega
      obtain ⟨i5, hi5, hz5, hs5', hb5⟩ := info_parts (P := Tryd.prog) (e := 5) (z := .int .u8 0) (size := 1) (bytes := 1) (by kernel_rfl)
      refine hcall.mono ?_
      rintro e w5 ⟨hf05, hb35, rv5, rfl, hown5⟩
      clear hcall hnl HST H1 HD HNE hb4 hf03 e4 hN hN0 hNl hNd
      go_wp2_with fail
      go_loopw [10, 11] (fun m i wr => ∃ (k : Nat), k ≤ ms.length ∧ i = .int .i64 k ∧ wr.ownsRow (w3.heap.size + 1) 5 1 m (N + k) ((bs.take N).map u8v ++ (ms.take k).map u8v) ∧ Fr (fun _ => False) w wr ∧ w3.heap.size + 1 ≤ wr.heap.size) (fun _ i _ => match i with | .int _ q => ms.length - q.toNat | _ => 0)
      case atStart => exact ⟨0, Nat.zero_le _, rfl, by simpa using hown5, hf05, hb35⟩
      case round =>
        obtain ⟨k, hk, rfl, hown, hfr, hbr⟩ := hrel
        by_cases hlt : k < ms.length
        · obtain ⟨-, aa, cc, e2, -, hcell⟩ := H2.out
          cases e2
          obtain ⟨g, o, rfl, hg, hcs⟩ := hcell (by intro e; simp [e] at hlt)
          have hck : wr.cell? ⟨g, o + k, none⟩ = some (.int .u8 ms[k].toNat) := (hfr.cell hg (fun h => h)).trans (hcs k hlt)
          have hgl : g < wr.heap.size := Nat.lt_of_lt_of_le hg hfr.size
          have htk : Hd ((ms.take (k + 1)).map u8v = (ms.take k).map u8v ++ [u8v ms[k]]) := take_map_succ ms k hlt
          generalize hbk : ms[k] = bk at hck htk
          have hkb : N + k + 1 ≤ maxLen := by unfold maxLen; omega
          have hcell1 : ∀ (j : Nat) (u : Value), [u8v bk][j]? = some u → (wr.alloc (.cells #[u8v bk] 5)).cell? ((⟨wr.heap.size, 0, none⟩ : Addr).add j) = some u := by
            intro j u hu
            rw [addr_add, World.cell?_alloc_new]
            simpa using hu
          have hkn : (0 : Int) ≤ k ∧ (k : Int) < ms.length := by omega
          clear hcell hcs hbk
          go_wp2_with ((at_builtin; refine wpList_append_own_wide _ rfl (.tmp 64) (.tmp 69) 22 rfl (w3.heap.size + 1) 5 i5 (.int .u8 0) 1 1 Tryd.underlying22 hi5 hz5 hs5' hb5 rfl (by omega) u10 (N + k) _ rfl (hown.alloc _) ⟨wr.heap.size, 0, none⟩ 1 1 [u8v bk] rfl rfl hcell1 (by intro u hu; simp at hu; subst hu; rfl) hkb (by omega) (by simp; omega) ?_; intro v1 w6 hown6 hgrow6 hnil6))
          have hnb : ∀ j, u10.ownBlock = some j → w3.heap.size + 1 ≤ j := fun j hj => (World.ownsRow.lt hown j hj).1
          have hf6 : Fr (fun j => w.heap.size ≤ j) wr w6 := Fr.trans (Fr.alloc (Fr.refl _ wr) _) ((grown_fr hgrow6).mono (fun j _ hj => by have := hnb j hj; omega))
          refine ⟨⟨k + 1, by omega, by simp, ?_, ?_, by have := hf6.size; omega⟩, by simp; omega⟩
          · rw [htk.out, ← List.append_assoc]
            exact hown6
          · exact ((hfr.mono (T := fun j => w.heap.size ≤ j) (fun _ _ h => h.elim)).trans hf6).mono (fun j hj hS => by omega)
        · have hkl : k = ms.length := by omega
          subst hkl
          rw [List.take_of_length_le (Nat.le_refl ms.length), ← List.map_append] at hown
          have hl6 : (bs.take N ++ ms).length = N + ms.length := by rw [List.length_append, HN.out]
          rw [← hl6] at hown
          have hd6 := decode_said u10 (bs.take N ++ ms) wr (owns_handed hown (by omega) (fun e => absurd e hne5.out)) (hT.fr hfr (fun h => h)) (by have := hfr.size; omega)
          clear hown hl6
          go_wp2_with fail
          refine hd6.mono ?_
          rintro e w7 ⟨hf7, hr7⟩
          rw [hdec.out] at hr7
          subst hr7
          clear hd6 hdec
          go_wp2_with fail
          go_ret
          exact ⟨rfl, (hfr.trans hf7).trans (Fr.alloc (Fr.refl _ w7) _)⟩
end Go.Proofs.YtingenonbkencaaDoor
