import Derived.Test.YtingenonbkencaaDoorQRgJ
import Derived.Test.YtingenonbkencaaDoorQW8J
import Derived.Test.YtingenonbkencaaDoorQLgJ
set_option linter.unusedVariables false
set_option linter.unusedSimpArgs false
namespace Go.Proofs.YtingenonbkencaaDoor
open Go.RowKit (wrap32 wrap64)
set_option maxRecDepth 100000
set_option maxHeartbeats 4000000
theorem roomR : RoomOk 100000000000 := ⟨by omega, by omega⟩
theorem Handed.addr {w : World} {a : Option Addr} {n c : Nat} {bs : List UInt8} (h : Handed w (.slice a n c) bs) (h0 : 0 < bs.length) : ∃ k o, a = some ⟨k, o, none⟩ ∧ bs.length ≤ c ∧ k < w.heap.size ∧ ∀ i, (h : i < bs.length) → w.cell? ⟨k, o + i, none⟩ = some (.int .u8 bs[i].toNat) := by
  obtain ⟨-, ⟨e, -⟩ | ⟨-, k, o, c', e, h1, h2, h3⟩⟩ := h
  · rw [e] at h0; simp at h0
  · cases e
    exact ⟨k, o, rfl, h1, h2, h3⟩
theorem bytes_lie {w w' : World} {k o n c : Nat} {bs : List UInt8} (hn : n = bs.length) (hL : bs.length ≤ 1000000000000000) (hc : bs.length ≤ c) (hk : k < w.heap.size) (hcell : ∀ i, (h : i < bs.length) → w.cell? ⟨k, o + i, none⟩ = some (.int .u8 bs[i].toNat)) (f : Fr (fun _ => False) w w') : BytesIn w' (.slice (some ⟨k, o, none⟩) n c) bs := by
  subst hn
  exact ⟨hL, _, c, rfl, hc, fun _ => ⟨k, o, rfl, Nat.lt_of_lt_of_le hk f.size, fun i hi => (f.cell hk (fun h => h)).trans (hcell i hi)⟩⟩
theorem cuts_any (w : World) (G : Int) (fs : List PF) (fv : Value) (h : FA w fv fs) (hn : FineP fs) (hc : ∀ f ∈ fs, ∀ c ∈ f.code, In64n c) (cut : Int) (v2 : Value) (ms : List UInt8) (h2 : BytesIn w v2 ms) (hl2 : ms.length ≤ 140737488351232) (hT : Tab w) (h0 : 0 < w.heap.size) :
    Calls Tryd.prog 4 #[.agg #[vI G, fv], vI cut, v2] w fun e w' => e = .returned (.bool true) ∧ Fr (fun _ => False) w w' := by
  obtain ⟨fa, fc, efv, -⟩ := id h
  obtain ⟨a2, c2, ev2, hc2⟩ : ∃ a c, v2 = .slice a ms.length c ∧ ms.length ≤ c := by obtain ⟨-, a, c, e, h, -⟩ := h2; exact ⟨a, c, e, h⟩
  have hfa : Fr (fun _ => False) w (w.alloc (.cells #[vI G, fv] 26)) := Fr.alloc (Fr.refl _ w) _
  have HA : Hd (FA (w.alloc (.cells #[vI G, fv] 26)) fv fs) := h.stay hfa
  have HM : Hd (BytesIn (w.alloc (.cells #[vI G, fv] 26)) v2 ms) := h2.grow hfa
  have HN : Hd (FineP fs) := hn
  have HC : Hd (∀ f ∈ fs, ∀ c ∈ f.code, In64n c) := hc
  have HT : Hd (Tab (w.alloc (.cells #[vI G, fv] 26))) := hT.fr hfa (fun h => h)
  have HP : Hd ((w.alloc (.cells #[vI G, fv] 26)).heap[w.heap.size]? = some (.cells #[vI G, fv] 26)) := heap_new w _
  have HF0 : Hd (Fr (fun _ => False) w (w.alloc (.cells #[vI G, fv] 26))) := hfa
  have H0 : Hd (0 < (w.alloc (.cells #[vI G, fv] 26)).heap.size) := Nat.lt_of_lt_of_le h0 hfa.size
  clear h hn hT h0 hfa hc h2
  subst efv ev2
  obtain ⟨H, hH⟩ : ∃ H, H = w.heap.size := ⟨_, rfl⟩
  go_enter Tryd.func4, Tryd.ntmps4
  go_upto_region 1 with fail
  rw [← hH] at HP ⊢
  clear hH
  generalize w.alloc (.cells #[vI G, .slice fa fs.length fc] 26) = wa at *
  have PK : Hd (∀ wx, Fr (fun _ => False) wa wx → wx.cell? ⟨H, 0, none⟩ = some (vI G) ∧ wx.cell? ⟨H, 1, none⟩ = some (.slice fa fs.length fc) ∧ FA wx (.slice fa fs.length fc) fs ∧ Tab wx ∧ 0 < wx.heap.size ∧ Fr (fun _ => False) w wx ∧ BytesIn wx (.slice a2 ms.length c2) ms) := fun wx f => by
    have hb := (f.block H (heap_lt HP.out) (fun h => h)).trans HP.out
    exact ⟨by rw [cell_of hb]; rfl, by rw [cell_of hb]; rfl, HA.out.stay f, HT.out.fr f (fun h => h), Nat.lt_of_lt_of_le H0.out f.size, HF0.out.trans f, HM.out.grow f⟩
  go_wp2_with fail
  refine (works_any wa HT.out H0.out).mono ?_
  rintro e w1 ⟨rfl, f1⟩
  have F1 : Hd (Fr (fun _ => False) wa w1) := f1
  clear f1 HP HF0 HA HT H0 HM
  obtain ⟨p0, p1, -⟩ := PK.out w1 F1.out
  go_wp2_with fail
  refine (copyProgram_any G _ fs w1 (PK.out w1 F1.out).2.2.1 HN.out).mono ?_
  rintro e w2 ⟨qv, rfl, hq, f2⟩
  obtain ⟨qa, qc, rfl, -⟩ := id hq
  have HQ : Hd (FL w2.heap.size w2 (.slice qa fs.length qc) fs) := hq.fl HN.out (Nat.le_refl _)
  have F2 : Hd (Fr (fun _ => False) wa w2) := F1.out.trans f2
  clear hq f2 p0 p1 F1
  go_wp2_with fail
  refine (encode_any roomR w2 G fs _ _ HQ.out HC.out (PK.out w2 F2.out).2.2.2.1 (PK.out w2 F2.out).2.2.2.2.1).mono ?_
  rintro e w3 ⟨f3, hr⟩
  have F3 : Hd (Fr (fun _ => False) wa w3) := F2.out.trans f3
  clear f3 HQ F2
  cases hx : encK w2.heap.size 100000000000 G fs with
  | error z =>
    rw [hx] at hr
    subst hr
    have hne : z.1 ≠ 0 := encK_told roomR hx
    obtain ⟨er, at'⟩ := z
    have hn1 : (er != 0) = true := by simpa using hne
    have hn2 : (er == 0) = false := by simpa using hne
    clear hx hne
    go_wp2_with fail
    go_ret
    exact ⟨rfl, (PK.out w3 F3.out).2.2.2.2.2.1⟩
  | ok y =>
    rw [hx] at hr
    obtain ⟨ba, bc, rfl, hh⟩ := hr
    obtain ⟨hd0, hl12, hl16⟩ := enc_dec roomR HC.out hx
    clear hx
    generalize y.2.2 = bs at *
    clear y
    obtain ⟨k, o, rfl, hbc, hk, hcell⟩ := hh.addr (by omega)
    clear hh
    obtain ⟨N, hN⟩ : ∃ N : Nat, N = bs.length := ⟨_, rfl⟩
    have HD : Hd (decX bs = .ok (G, fs.map hd, fs.map (fun f => f.code.map ai))) := hd0
    have HB : Hd (∀ wx, Fr (fun _ => False) w3 wx → BytesIn wx (.slice (some ⟨k, o, none⟩) N bc) bs) := fun wx f => bytes_lie hN (by omega) hbc hk hcell f
    have HCUT : Hd (∀ K : Nat, K < N → Calls Tryd.prog 10 #[.slice (some ⟨k, o, none⟩) K bc] w3 fun e w' => e = .returned (.tuple #[.agg #[vI 0, .slice none 0 0], vI 11, vI K]) ∧ Fr (fun _ => False) w3 w') := fun K hK => by
      refine (decode_cut k o K bc bs w3 (by omega) (by omega) hbc hk hcell (PK.out w3 F3.out).2.2.2.1 (PK.out w3 F3.out).2.2.2.2.1).mono ?_
      rintro e w' ⟨hf, hr⟩
      rw [dec_cut (by omega) hd0 K (by omega)] at hr
      exact ⟨hr, hf⟩
    have HN' : Hd (N = bs.length) := hN
    rw [← hN] at hl12 hl16 hbc ⊢
    clear hd0 hcell hk HN HC hN
    have hb := tmod_bound cut (N : Int) (by omega)
    have hN0 : ((N : Int) == 0) = false := by simp; omega
    have hlt16 : ¬ ((N : Int) < 16) := by omega
    go_upto_region 8 with fail
    generalize cut.tmod (N : Int) = T at *
    obtain ⟨i5, hi5, hz5, hs5', hb5⟩ := info_parts (P := Tryd.prog) (e := 5) (z := .int .u8 0) (size := 1) (bytes := 1) (by kernel_rfl)
    by_cases hneg : T < 0
    · obtain ⟨K, hK⟩ : ∃ K : Nat, T + N = K := Int.eq_ofNat_of_zero_le (by omega)
      have hw2 : wrap64 (T + (N : Int)) = K := by rw [hK]; exact w64r (by omega) (by omega)
      have hKN : K < N := by omega
      have hKc : K ≤ bc := by omega
      clear hK hb
      go_wp2_with fail
      refine (HCUT.out K hKN).mono ?_
      rintro e w4 ⟨rfl, f4⟩
      clear HCUT
      have f4' : Fr (fun _ => False) w3 (w4.alloc (.cells #[vI 0, .slice none 0 0] 26)) := f4.trans (Fr.alloc (Fr.refl _ w4) _)
      have F4 : Hd (Fr (fun _ => False) wa (w4.alloc (.cells #[vI 0, .slice none 0 0] 26))) := F3.out.trans f4'
      have HB4 : Hd (BytesIn (w4.alloc (.cells #[vI 0, .slice none 0 0] 26)) (.slice (some ⟨k, o, none⟩) N bc) bs) := HB.out _ f4'
      clear f4 f4' HB F3
      go_wp2_with fail
      generalize hw5 : w4.alloc (.cells #[.int .i64 0, .slice none 0 0] 26) = w5
      have hw5' : w4.alloc (.cells #[vI 0, .slice none 0 0] 26) = w5 := hw5
      rw [hw5'] at F4 HB4
      clear hw5 hw5'
      refine (copyBytes_wide _ bs w5 HB4.out (by have := HN'.out; omega)).mono ?_
      rintro e w6 ⟨f6, rv6, rfl, hown6, -⟩
      rw [← HN'.out] at hown6
      have F6 : Hd (Fr (fun _ => False) wa w6) := F4.out.trans f6
      obtain ⟨B, hB⟩ : ∃ B, B = w5.heap.size := ⟨_, rfl⟩
      rw [← hB] at hown6
      have hB6 : B ≤ w6.heap.size := by rw [hB]; exact f6.size
      have hwB : wa.heap.size ≤ B := by rw [hB]; exact F4.out.size
      clear f6 HB4 F4 hB
      go_wp2_with fail
      go_loopw [14, 15] (fun m i wr => ∃ (q : Nat), q ≤ ms.length ∧ i = .int .i64 q ∧ wr.ownsRow B 5 1 m (N + q) (bs.map u8v ++ (ms.take q).map u8v) ∧ Fr (fun _ => False) wa wr ∧ B ≤ wr.heap.size) (fun _ i _ => match i with | .int _ q => ms.length - q.toNat | _ => 0)
      case atStart => exact ⟨0, Nat.zero_le _, rfl, by simpa using hown6, F6.out, hB6⟩
      case round =>
        obtain ⟨q, hq, rfl, hown, hfr, hbr⟩ := hrel
        by_cases hlt : q < ms.length
        · obtain ⟨-, aa, cc, e2, -, hcell⟩ := (PK.out wr hfr).2.2.2.2.2.2
          cases e2
          obtain ⟨g, o', rfl, hg, hcs⟩ := hcell (by intro e; simp [e] at hlt)
          have hck : wr.cell? ⟨g, o' + q, none⟩ = some (.int .u8 ms[q].toNat) := hcs q hlt
          have htk : Hd ((ms.take (q + 1)).map u8v = (ms.take q).map u8v ++ [u8v ms[q]]) := take_map_succ ms q hlt
          generalize hbk : ms[q] = bk at hck htk
          have hkb : N + q + 1 ≤ maxLen := by unfold maxLen; omega
          have hcell1 : ∀ (j : Nat) (u : Value), [u8v bk][j]? = some u → (wr.alloc (.cells #[u8v bk] 5)).cell? ((⟨wr.heap.size, 0, none⟩ : Addr).add j) = some u := by
            intro j u hu
            rw [addr_add, World.cell?_alloc_new]
            simpa using hu
          have hkn : (0 : Int) ≤ q ∧ (q : Int) < ms.length := by omega
          clear hcell hcs hbk
          go_wp2_with ((at_builtin; refine wpList_append_own_wide _ rfl (.tmp 68) (.tmp 73) 22 rfl B 5 i5 (.int .u8 0) 1 1 Tryd.underlying22 hi5 hz5 hs5' hb5 rfl (by omega) u14 (N + q) _ rfl (hown.alloc _) ⟨wr.heap.size, 0, none⟩ 1 1 [u8v bk] rfl rfl hcell1 (by intro u hu; simp at hu; subst hu; rfl) hkb (by omega) (by simp; omega) ?_; intro v1 w7 hown7 hgrow7 hnil7))
          have hnb : ∀ j, u14.ownBlock = some j → B ≤ j := fun j hj => (World.ownsRow.lt hown j hj).1
          have hf7 : Fr (fun j => wa.heap.size ≤ j) wr w7 := Fr.trans (Fr.alloc (Fr.refl _ wr) _) ((grown_fr hgrow7).mono (fun j _ hj => by have := hnb j hj; omega))
          refine ⟨⟨q + 1, by omega, by simp, ?_, ?_, by have := hf7.size; omega⟩, by simp; omega⟩
          · rw [htk.out, ← List.append_assoc]
            exact hown7
          · exact ((hfr.mono (T := fun j => wa.heap.size ≤ j) (fun _ _ h => h.elim)).trans hf7).mono (fun j hj hS => by omega)
        · have hkl : q = ms.length := by omega
          subst hkl
          rw [List.take_of_length_le (Nat.le_refl ms.length), ← List.map_append] at hown
          have hl6 : (bs ++ ms).length = N + ms.length := by rw [List.length_append, ← HN'.out]
          rw [← hl6] at hown
          have hd6 := decode_said u14 (bs ++ ms) wr (owns_handed hown (by omega) (fun e => by rw [e] at hl6; simp at hl6; omega)) (PK.out wr hfr).2.2.2.1 (PK.out wr hfr).2.2.2.2.1
          have hmore := dec_more (more := ms) (by have := HN'.out; omega) (by rw [hl6]; omega) HD.out
          clear hown
          go_wp2_with fail
          refine hd6.mono ?_
          rintro e w7 ⟨hf7, hr7⟩
          rw [hmore] at hr7
          have HF7 : Hd (Fr (fun _ => False) w w7) := (PK.out w7 (hfr.trans hf7)).2.2.2.2.2.1
          clear hd6 hmore hf7 hl6
          by_cases hm0 : ms = []
          · rw [if_pos hm0] at hr7
            subst hm0
            obtain ⟨v, rfl, hlp⟩ := hr7
            obtain ⟨g', cap, cs, tl, -, rfl, -⟩ := hlp
            go_wp2_with fail
            go_ret
            exact ⟨rfl, HF7.out.trans (Fr.alloc (Fr.refl _ w7) _)⟩
          · rw [if_neg hm0] at hr7
            subst hr7
            have hml : ((ms.length : Int) == 0) = false := by
              have : ms.length ≠ 0 := fun e => hm0 (List.length_eq_zero_iff.1 e)
              simp; exact hm0
            rw [← HN'.out]
            go_wp2_with fail
            go_ret
            exact ⟨rfl, HF7.out.trans (Fr.alloc (Fr.refl _ w7) _)⟩
    · obtain ⟨K, hK⟩ : ∃ K : Nat, T = K := Int.eq_ofNat_of_zero_le (by omega)
      subst hK
      have hKN : K < N := by omega
      have hKc : K ≤ bc := by omega
      clear hb
      go_wp2_with fail
      refine (HCUT.out K hKN).mono ?_
      rintro e w4 ⟨rfl, f4⟩
      clear HCUT
      have f4' : Fr (fun _ => False) w3 (w4.alloc (.cells #[vI 0, .slice none 0 0] 26)) := f4.trans (Fr.alloc (Fr.refl _ w4) _)
      have F4 : Hd (Fr (fun _ => False) wa (w4.alloc (.cells #[vI 0, .slice none 0 0] 26))) := F3.out.trans f4'
      have HB4 : Hd (BytesIn (w4.alloc (.cells #[vI 0, .slice none 0 0] 26)) (.slice (some ⟨k, o, none⟩) N bc) bs) := HB.out _ f4'
      clear f4 f4' HB F3
      go_wp2_with fail
      generalize hw5 : w4.alloc (.cells #[.int .i64 0, .slice none 0 0] 26) = w5
      have hw5' : w4.alloc (.cells #[vI 0, .slice none 0 0] 26) = w5 := hw5
      rw [hw5'] at F4 HB4
      clear hw5 hw5'
      refine (copyBytes_wide _ bs w5 HB4.out (by have := HN'.out; omega)).mono ?_
      rintro e w6 ⟨f6, rv6, rfl, hown6, -⟩
      rw [← HN'.out] at hown6
      have F6 : Hd (Fr (fun _ => False) wa w6) := F4.out.trans f6
      obtain ⟨B, hB⟩ : ∃ B, B = w5.heap.size := ⟨_, rfl⟩
      rw [← hB] at hown6
      have hB6 : B ≤ w6.heap.size := by rw [hB]; exact f6.size
      have hwB : wa.heap.size ≤ B := by rw [hB]; exact F4.out.size
      clear f6 HB4 F4 hB
      go_wp2_with fail
      go_loopw [14, 15] (fun m i wr => ∃ (q : Nat), q ≤ ms.length ∧ i = .int .i64 q ∧ wr.ownsRow B 5 1 m (N + q) (bs.map u8v ++ (ms.take q).map u8v) ∧ Fr (fun _ => False) wa wr ∧ B ≤ wr.heap.size) (fun _ i _ => match i with | .int _ q => ms.length - q.toNat | _ => 0)
      case atStart => exact ⟨0, Nat.zero_le _, rfl, by simpa using hown6, F6.out, hB6⟩
      case round =>
        obtain ⟨q, hq, rfl, hown, hfr, hbr⟩ := hrel
        by_cases hlt : q < ms.length
        · obtain ⟨-, aa, cc, e2, -, hcell⟩ := (PK.out wr hfr).2.2.2.2.2.2
          cases e2
          obtain ⟨g, o', rfl, hg, hcs⟩ := hcell (by intro e; simp [e] at hlt)
          have hck : wr.cell? ⟨g, o' + q, none⟩ = some (.int .u8 ms[q].toNat) := hcs q hlt
          have htk : Hd ((ms.take (q + 1)).map u8v = (ms.take q).map u8v ++ [u8v ms[q]]) := take_map_succ ms q hlt
          generalize hbk : ms[q] = bk at hck htk
          have hkb : N + q + 1 ≤ maxLen := by unfold maxLen; omega
          have hcell1 : ∀ (j : Nat) (u : Value), [u8v bk][j]? = some u → (wr.alloc (.cells #[u8v bk] 5)).cell? ((⟨wr.heap.size, 0, none⟩ : Addr).add j) = some u := by
            intro j u hu
            rw [addr_add, World.cell?_alloc_new]
            simpa using hu
          have hkn : (0 : Int) ≤ q ∧ (q : Int) < ms.length := by omega
          clear hcell hcs hbk
          go_wp2_with ((at_builtin; refine wpList_append_own_wide _ rfl (.tmp 68) (.tmp 73) 22 rfl B 5 i5 (.int .u8 0) 1 1 Tryd.underlying22 hi5 hz5 hs5' hb5 rfl (by omega) u14 (N + q) _ rfl (hown.alloc _) ⟨wr.heap.size, 0, none⟩ 1 1 [u8v bk] rfl rfl hcell1 (by intro u hu; simp at hu; subst hu; rfl) hkb (by omega) (by simp; omega) ?_; intro v1 w7 hown7 hgrow7 hnil7))
          have hnb : ∀ j, u14.ownBlock = some j → B ≤ j := fun j hj => (World.ownsRow.lt hown j hj).1
          have hf7 : Fr (fun j => wa.heap.size ≤ j) wr w7 := Fr.trans (Fr.alloc (Fr.refl _ wr) _) ((grown_fr hgrow7).mono (fun j _ hj => by have := hnb j hj; omega))
          refine ⟨⟨q + 1, by omega, by simp, ?_, ?_, by have := hf7.size; omega⟩, by simp; omega⟩
          · rw [htk.out, ← List.append_assoc]
            exact hown7
          · exact ((hfr.mono (T := fun j => wa.heap.size ≤ j) (fun _ _ h => h.elim)).trans hf7).mono (fun j hj hS => by omega)
        · have hkl : q = ms.length := by omega
          subst hkl
          rw [List.take_of_length_le (Nat.le_refl ms.length), ← List.map_append] at hown
          have hl6 : (bs ++ ms).length = N + ms.length := by rw [List.length_append, ← HN'.out]
          rw [← hl6] at hown
          have hd6 := decode_said u14 (bs ++ ms) wr (owns_handed hown (by omega) (fun e => by rw [e] at hl6; simp at hl6; omega)) (PK.out wr hfr).2.2.2.1 (PK.out wr hfr).2.2.2.2.1
          have hmore := dec_more (more := ms) (by have := HN'.out; omega) (by rw [hl6]; omega) HD.out
          clear hown
          go_wp2_with fail
          refine hd6.mono ?_
          rintro e w7 ⟨hf7, hr7⟩
          rw [hmore] at hr7
          have HF7 : Hd (Fr (fun _ => False) w w7) := (PK.out w7 (hfr.trans hf7)).2.2.2.2.2.1
          clear hd6 hmore hf7 hl6
          by_cases hm0 : ms = []
          · rw [if_pos hm0] at hr7
            subst hm0
            obtain ⟨v, rfl, hlp⟩ := hr7
            obtain ⟨g', cap, cs, tl, -, rfl, -⟩ := hlp
            go_wp2_with fail
            go_ret
            exact ⟨rfl, HF7.out.trans (Fr.alloc (Fr.refl _ w7) _)⟩
          · rw [if_neg hm0] at hr7
            subst hr7
            have hml : ((ms.length : Int) == 0) = false := by
              have : ms.length ≠ 0 := fun e => hm0 (List.length_eq_zero_iff.1 e)
              simp; exact hm0
            rw [← HN'.out]
            go_wp2_with fail
            go_ret
            exact ⟨rfl, HF7.out.trans (Fr.alloc (Fr.refl _ w7) _)⟩
end Go.Proofs.YtingenonbkencaaDoor
