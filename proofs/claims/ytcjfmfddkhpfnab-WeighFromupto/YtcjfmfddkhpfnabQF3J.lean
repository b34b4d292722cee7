import Derived.Test.YtcjfmfddkhpfnabQA9J
namespace Go.Proofs.Ytcjfmfddkhpfnab
open Go.RowKit (wrap32 wrap64)
set_option linter.unusedVariables false
set_option linter.unusedSimpArgs false

/-- What the document's From answers of right graphs with locations. -/
def RFrom (w : World) (m : Nat) (es : List Ed) (rs : List Int) (e : Ending) (w' : World) : Prop :=
  Fr (fun _ => False) w w' ∧ ∃ g cap x, e = .returned (.tuple #[.slice (some ⟨g, 0, none⟩) m cap, vI 0]) ∧ m ≤ cap ∧ w.heap.size ≤ g ∧ IntsAt w'.heap.size w' (.slice (some ⟨g, 0, none⟩) m cap) ((List.range m).map x) ∧ Least m es rs x

set_option maxRecDepth 100000 in
set_option maxHeartbeats 4000000 in
theorem rfrom_pos (m : Nat) (hm0 : 0 < m) (ev rv : Value) (es : List Ed) (rs : List Int) (w : World) (hE : EdgesAt w.heap.size w ev es) (hR : IntsAt w.heap.size w rv rs) (hel : es.length ≤ 11000000000000) (hrl : rs.length ≤ 100000000000000) (hG : RightG m es rs) :
    Calls Try.prog 12 #[.int .i64 m, ev, rv] w (RFrom w m es rs) := by
  have HE : Hd (EdgesAt w.heap.size w ev es) := hE
  have HRI : Hd (IntsAt w.heap.size w rv rs) := hR
  obtain ⟨ea, ec, rfl, -, hein⟩ := hE
  obtain ⟨ra, rc, rfl, -, hrin⟩ := hR
  have HRS : Hd _ := hrin
  have HES : Hd _ := hein
  clear hrin hein
  have hm : m ≤ 1048576 := by have := hG.1.2; omega
  have HG : Hd (RightG m es rs) := hG
  clear hG
  obtain ⟨i3, hi3, hz3, hs3, hb3⟩ := info_parts (P := Try.prog) (e := 3) (z := .int .i64 0) (size := 1) (bytes := 8) (by kernel_rfl)
  go_enter Try.func12, Try.ntmps12
  go_wp2_with fail
  refine (rright_any m _ _ es rs w HE.out HRI.out (by omega) hrl).mono ?_
  rintro e w1 ⟨rfl, hF1⟩
  rw [decide_eq_true HG.out]
  have HF1 : Hd (Fr (fun _ => False) w w1) := hF1
  clear hF1
  go_wp2_with fail
  go_loopw [9, 10] (fun xv iv wr => ∃ (k : Nat) (zs : List Int), iv = .int .i64 k ∧ k ≤ m ∧ Hd (zs.length = k ∧ ∀ z ∈ zs, z = 9) ∧ Hd (OwnI wr w.heap.size xv zs) ∧ Hd (Fr (fun _ => False) w wr)) (fun _ v _ => match v with | .int _ q => m - q.toNat | _ => 0)
  case atStart => exact ⟨0, [], rfl, Nat.zero_le _, ⟨rfl, fun z h => absurd h List.not_mem_nil⟩, OwnI.nil _ _, HF1.out⟩
  case round =>
    obtain ⟨k, zs, rfl, hk, HZ, HO, HF⟩ := hrel
    clear HF1
    by_cases hlt : k < m
    · have hzl : zs.length + 1 ≤ 1048576 := by have := HZ.out.1; omega
      have hk1 : (k : Int) < m := by omega
      have HO1 : Hd ((wr.alloc (.cells #[vI 9] 3)).ownsRow w.heap.size 3 1 u9 zs.length (zs.map vI)) := World.ownsRow.alloc HO.out _
      have hnews : ∀ j u, [vI 9][j]? = some u → (wr.alloc (.cells #[vI 9] 3)).cell? ((⟨wr.heap.size, 0, none⟩ : Addr).add j) = some u :=
        World.news_of_block (cs := #[vI 9]) (heap_alloc_last wr (.cells #[vI 9] 3))
      have HFA : Hd (Fr (fun _ => False) w (wr.alloc (.cells #[vI 9] 3))) := HF.out.trans ((Fr.refl _ wr).alloc _)
      have hbase : w.heap.size ≤ (wr.alloc (.cells #[vI 9] 3)).heap.size := HFA.out.size
      go_wp2_with ((at_builtin; refine Hd.out ?_))
      unfold Hd
      refine wpList_append_lies _ rfl (.tmp 26) (.tmp 27) 29 rfl w.heap.size 3 i3 (.int .i64 0) 1 8 under22 hi3 hz3 hs3 hb3 rfl (by omega) u9 zs.length _ rfl HO1.out ⟨wr.heap.size, 0, none⟩ 1 1 [vI 9] rfl rfl hnews (by intro u hu; simp at hu; subst hu; rfl) (by omega) (by unfold maxLen; omega) (by omega) hbase (wr.heap.size + 1) (by simp) ?_
      intro g6 cap6 w9 hown6 hgrow6 hat6 hlt6
      have HO6 : Hd (OwnI w9 w.heap.size (.slice (some ⟨g6, 0, none⟩) (zs.length + 1) cap6) (zs ++ [9])) := OwnI.of hown6
      have HF6 : Hd (Fr (fun _ => False) w w9) := grow_fr0 HFA.out hgrow6 (fun k e => (HO.out.ge k e).1)
      have HZ6 : Hd ((zs ++ [9]).length = k + 1 ∧ ∀ z ∈ zs ++ [9], z = 9) := by
        obtain ⟨p1, p2⟩ := HZ.out
        refine ⟨by simp [p1], fun z hz => ?_⟩
        rcases List.mem_append.1 hz with h | h
        · exact p2 z h
        · simpa using h
      clear hown6 hgrow6 hat6 hlt6 HO HFA HO1 hnews hbase HF HZ
      go_wp2_with fail
      refine ⟨⟨k + 1, _, by simp, by omega, HZ6.out, HO6.out, HF6.out⟩, by simp; omega⟩
    · have hkm : k = m := by omega
      obtain ⟨g, cap, hxv, hcap, HX⟩ : ∃ g cap, u9 = .slice (some ⟨g, 0, none⟩) m cap ∧ m ≤ cap ∧ Hd (Xs w wr g m (fun _ => 9)) := by
        have hzl : zs.length = m := by have := HZ.out.1; omega
        rcases HO.out.2 with ⟨h2, h3⟩ | ⟨g, cap, cur, e, h3, h4, h5, h6, h7, h8⟩
        · omega
        · refine ⟨g, cap, by rw [e, hzl], by omega, ⟨⟨cur, h4, fun i hi => ?_⟩, (HO.out.ge g (by rw [e]; rfl)).1, HF.out⟩⟩
          have : cur[i]? = (zs.map vI)[i]? := by rw [← h8, List.getElem?_take, if_pos (by omega), Array.getElem?_toList]
          rw [this, List.getElem?_map, List.getElem?_eq_getElem (by omega)]
          rw [HZ.out.2 _ (List.getElem_mem _)]
          rfl
      subst hxv
      clear HZ HO HF hk hkm
      go_wp2_with fail
      go_loopw [11] (fun v wr => ∃ (k : Nat) (L : Nat → Int) (l : List Nat), v = .int .i64 k ∧ k ≤ rs.length ∧ Hd (Xs w wr g m L) ∧ Hd (Ini m es rs k L l)) (fun v _ => match v with | .int _ q => rs.length - q.toNat | _ => 0)
      case atStart => exact ⟨0, _, _, rfl, Nat.zero_le _, HX.out, Ini.start m es rs⟩
      case round =>
        obtain ⟨k, L, l, rfl, hk, HS, HI⟩ := hrel
        clear HX
        by_cases hlt : k < rs.length
        · obtain ⟨pk, po, rfl, hpk, hcs⟩ := HRS.out (by intro e; simp [e] at hlt)
          have p0 := (HS.out.fr.cell (o := po + k) hpk (fun h => h)).trans (hcs k hlt)
          have hr := HG.out.2.2 _ (List.getElem_mem hlt)
          have HK : Hd (rs[k]? = some rs[k]) := List.getElem?_eq_getElem hlt
          obtain ⟨r, hr'⟩ : ∃ r : Nat, rs[k] = r := ⟨rs[k].toNat, by omega⟩
          rw [hr'] at p0 hr HK
          clear hcs hr'
          have hr0 : r < m := by omega
          have z0 := HS.out.frozen r
          have c0 := HS.out.cell (i := r) hr0
          have HSA : Hd _ := HS.out.set r 0
          have HI2 : Hd _ := HI.out.step r hr0 HK.out
          have hk0 : (0 : Int) ≤ k := by omega
          have hk1 : (k : Int) < rs.length := by omega
          have hrr0 : (0 : Int) ≤ r := by omega
          have hrr1 : (r : Int) < m := by omega
          generalize L r = x at c0
          clear HS HI HK
          go_wp2_with fail
          refine ⟨⟨k + 1, _, _, by simp, by omega, HSA.out, HI2.out⟩, by simp; omega⟩
        · have hke : k = rs.length := by omega
          have HV : Hd (Wl m es rs L) := by have := HI.out; rw [hke] at this; exact ⟨this.done.way, this.done.root⟩
          clear HI
          subst hke
          go_wp2_with fail
          go_loopg [12] (mu m L [] + 1) (fun kk mv wr => ∃ (L : Nat → Int) (b : Bool), mv = .bool b ∧ Hd (Xs w wr g m L) ∧ Hd (Wl m es rs L) ∧ Hd (b = false → ∀ e ∈ es, fineE L e) ∧ Hd (mu m L [] + (if b then 1 else 0) ≤ kk))
          case atStart => exact ⟨L, true, rfl, HS.out, HV.out, (fun h => by cases h), Nat.le_refl _⟩
          case round =>
            clear HS HV
            obtain ⟨L, b, rfl, HS, HV, HC, HM⟩ := hrel
            cases b with
            | true =>
              have HM1 : Hd (mu m L [] + (if false then 1 else 0) < gk) := HM.out
              clear HC HM
              go_wp2_with fail
              go_loopw [12, 13, 14] (fun mv iv dv wr => ∃ (j : Nat) (L : Nat → Int) (b : Bool), mv = .bool b ∧ iv = .int .i64 j ∧ j ≤ es.length ∧ Hd (Xs w wr g m L) ∧ Hd (Wl m es rs L) ∧ Hd (b = false → ∀ e ∈ es.take j, fineE L e) ∧ Hd (mu m L [] + (if b then 1 else 0) < gk)) (fun _ v _ _ => match v with | .int _ q => es.length - q.toNat | _ => 0)
              case atStart => exact ⟨0, L, false, rfl, rfl, Nat.zero_le _, HS.out, HV.out, (fun _ e h => absurd h (by simp)), HM1.out⟩
              case round =>
                clear HS HV HM1
                obtain ⟨j, L, b, rfl, rfl, hj, HS, HV, HC, HM⟩ := hrel
                by_cases hlt : j < es.length
                · obtain ⟨pk, po, rfl, hpk, hcs⟩ := HES.out (by intro e; simp [e] at hlt)
                  obtain ⟨c0, c1, c2⟩ := hcs j hlt
                  have HT : Hd (es.take (j + 1) = es.take j ++ [es[j]]) := by
                    unfold Hd; rw [List.take_add_one, List.getElem?_eq_getElem hlt]; rfl
                  have HMEM : Hd (es[j] ∈ es) := List.getElem_mem hlt
                  obtain ⟨aN, sN, heq, haN, hsN⟩ := edge_nat (HG.out.2.1 _ HMEM.out)
                  obtain ⟨kk, hkk⟩ : ∃ kk, es[j].2.2 = kk := ⟨_, rfl⟩
                  rw [hkk] at heq
                  rw [heq] at c0 c1 c2 HT HMEM
                  simp only at c0 c1 c2
                  clear hcs heq hkk
                  have p0 := (HS.out.fr.cell (o := po + j * 3) hpk (fun h => h)).trans c0
                  have p1 := (HS.out.fr.cell (o := po + j * 3 + 1) hpk (fun h => h)).trans c1
                  have p2 := (HS.out.fr.cell (o := po + j * 3 + 2) hpk (fun h => h)).trans c2
                  clear c0 c1 c2
                  have HSD : Hd (Xs w wr.drew g m L) := HS.out.stay (Fr.drew (Fr.refl _ wr))
                  have q1 : wr.drew.cell? ⟨pk, po + j * 3 + 1, none⟩ = some (vI sN) := p1
                  have x0 := HS.out.cell (i := aN) haN
                  have x1 := HSD.out.cell (i := sN) hsN
                  have z1 := HSD.out.frozen sN
                  have hj0 : (0 : Int) ≤ j := by omega
                  have hj1 : (j : Int) < es.length := by omega
                  have ha0 : (0 : Int) ≤ aN := by omega
                  have ha1 : (aN : Int) < m := by omega
                  have hs0 : (0 : Int) ≤ sN := by omega
                  have hs1 : (sN : Int) < m := by omega
                  have HFA : Hd (plusX (L aN) kk < L sN → Wl m es rs (upd L sN (plusX (L aN) kk)) ∧ mu m (upd L sN (plusX (L aN) kk)) [] + 1 < gk) := fun h =>
                    ⟨HV.out.fall haN HMEM.out h, by have h1 := mu_fall0 hsN h (plusX_ge _ _); have h2 := HM.out; omega⟩
                  have HNF : Hd (¬ plusX (L aN) kk < L sN → b = false → ∀ e ∈ es.take (j + 1), fineE L e) := fun h hb e he => by
                    rw [HT.out] at he
                    rcases List.mem_append.1 he with h1 | h1
                    · exact HC.out hb e h1
                    · rw [List.mem_singleton.1 h1]
                      simp only [fineE, Int.toNat_natCast]
                      omega
                  have HSE : Hd _ := HSD.out.set sN (plusX (L aN) kk)
                  clear HS HC HT
                  go_wp2_with fail
                  refine wp_region_still_tail 14 mixed (by kernel_rfl) ?_
                  simp only [List.take_succ_cons, List.take_zero, List.drop_succ_cons, List.drop_zero]
                  repeat still_step
                  still_call (rplus_any (L aN) kk _)
                  repeat still_step
                  refine wpStill_nil ?_
                  by_cases hf : plusX (L aN) kk < L sN
                  · obtain ⟨hw, hmu⟩ := HFA.out hf
                    have HW2 : Hd _ := hw
                    have HM2 : Hd (mu m (upd L sN (plusX (L aN) kk)) [] + (if true then 1 else 0) < gk) := hmu
                    have hdec : decide (plusX (L aN) kk < L sN) = true := decide_eq_true hf
                    clear hw hmu HFA HNF p0 p1 p2 x0
                    go_wp2_with fail
                    refine ⟨⟨j + 1, _, true, rfl, by simp, by omega, HSE.out, HW2.out, (fun h => by cases h), HM2.out⟩, by simp; omega⟩
                  · have HN2 : Hd _ := HNF.out (by omega)
                    have hdec : decide (plusX (L aN) kk < L sN) = false := decide_eq_false hf
                    clear HFA HNF p0 p1 p2 x0
                    go_wp2_with fail
                    refine ⟨⟨j + 1, _, b, rfl, by simp, by omega, HSD.out, HV.out, HN2.out, HM.out⟩, by simp; omega⟩
                · have HC2 : Hd (b = false → ∀ e ∈ es, fineE L e) := fun h => by have := HC.out h; rw [List.take_of_length_le (by omega)] at this; exact this
                  clear HC
                  go_wp2_with fail
                  go_roundg (mu m L [] + (if b then 1 else 0))
                  case measure => exact HM.out
                  case rel => exact ⟨L, b, rfl, HS.out, HV.out, HC2.out, Nat.le_refl _⟩
            | false =>
              go_wp2_with fail
              go_ret2
              exact ⟨HS.out.fr, g, cap, L, rfl, hcap, HS.out.ge, HS.out.at hcap, HV.out.least (HC.out trivial)⟩

end Go.Proofs.Ytcjfmfddkhpfnab

namespace Go.Proofs.Ytcjfmfddkhpfnab
open Go.RowKit (wrap32 wrap64)
set_option linter.unusedVariables false
set_option linter.unusedSimpArgs false

set_option maxRecDepth 100000 in
set_option maxHeartbeats 4000000 in
theorem rfrom_zero (ev rv : Value) (es : List Ed) (rs : List Int) (w : World) (hE : EdgesAt w.heap.size w ev es) (hR : IntsAt w.heap.size w rv rs) (hel : es.length ≤ 11000000000000) (hrl : rs.length ≤ 100000000000000) (hG : RightG 0 es rs) :
    Calls Try.prog 12 #[.int .i64 0, ev, rv] w fun e w' => e = .returned (.tuple #[.slice none 0 0, vI 0]) ∧ Fr (fun _ => False) w w' := by
  have HE : Hd (EdgesAt w.heap.size w ev es) := hE
  have HRI : Hd (IntsAt w.heap.size w rv rs) := hR
  obtain rfl : es = [] := by
    rcases es with - | ⟨e, r⟩
    · rfl
    · have := (hG.2.1 e List.mem_cons_self).1; omega
  obtain rfl : rs = [] := by
    rcases rs with - | ⟨e, r⟩
    · rfl
    · have := hG.2.2 e List.mem_cons_self; omega
  obtain ⟨ea, ec, rfl, -, -⟩ := hE
  obtain ⟨ra, rc, rfl, -, -⟩ := hR
  have HG : Hd (RightG 0 [] []) := hG
  clear hG
  go_enter Try.func12, Try.ntmps12
  go_wp2_with fail
  refine (rright_any 0 _ _ [] [] w HE.out HRI.out (by simp) hrl).mono ?_
  rintro e w1 ⟨rfl, hF1⟩
  rw [decide_eq_true HG.out]
  have HF1 : Hd (Fr (fun _ => False) w w1) := hF1
  clear hF1
  go_wp2_with fail
  go_loopw [9, 10] (fun xv iv wr => xv = .slice none 0 0 ∧ iv = .int .i64 0 ∧ Hd (Fr (fun _ => False) w wr)) (fun _ _ _ => 0)
  case atStart => exact ⟨rfl, rfl, HF1.out⟩
  case round =>
    obtain ⟨rfl, rfl, HF⟩ := hrel
    clear HF1
    go_wp2_with fail
    go_loopw [11] (fun iv wr => iv = .int .i64 0 ∧ Hd (Fr (fun _ => False) w wr)) (fun _ _ => 0)
    case atStart => exact ⟨rfl, HF.out⟩
    case round =>
      obtain ⟨rfl, HF1⟩ := hrel
      clear HF
      go_wp2_with fail
      go_loopg [12] 1 (fun kk mv wr => ∃ (b : Bool), mv = .bool b ∧ Hd ((if b then 1 else 0) ≤ kk) ∧ Hd (Fr (fun _ => False) w wr))
      case atStart => exact ⟨true, rfl, Nat.le_refl _, HF1.out⟩
      case round =>
        obtain ⟨b, rfl, HM, HF⟩ := hrel
        clear HF1
        cases b with
        | true =>
          have HM1 : Hd (1 ≤ gk) := HM.out
          clear HM
          go_wp2_with fail
          go_loopw [12, 13] (fun mv iv wr => mv = .bool false ∧ iv = .int .i64 0 ∧ Hd (Fr (fun _ => False) w wr)) (fun _ _ _ => 0)
          case atStart => exact ⟨rfl, rfl, HF.out⟩
          case round =>
            obtain ⟨rfl, rfl, HF1⟩ := hrel
            clear HF
            go_wp2_with fail
            go_roundg 0
            case measure => exact HM1.out
            case rel => exact ⟨false, rfl, Nat.le_refl _, HF1.out⟩
        | false =>
          go_wp2_with fail
          go_ret2
          exact ⟨rfl, HF.out⟩

set_option maxRecDepth 100000 in
theorem rfrom_bad (n : Int) (ev rv : Value) (es : List Ed) (rs : List Int) (w : World) (hE : EdgesAt w.heap.size w ev es) (hR : IntsAt w.heap.size w rv rs) (hel : es.length ≤ 11000000000000) (hrl : rs.length ≤ 100000000000000) (hG : ¬ RightG n es rs) :
    Calls Try.prog 12 #[.int .i64 n, ev, rv] w fun e w' => e = .returned (.tuple #[.slice none 0 0, vI 1]) ∧ Fr (fun _ => False) w w' := by
  have HE : Hd (EdgesAt w.heap.size w ev es) := hE
  have HRI : Hd (IntsAt w.heap.size w rv rs) := hR
  have HG : Hd (¬ RightG n es rs) := hG
  clear hE hR hG
  go_enter Try.func12, Try.ntmps12
  go_wp2_with fail
  refine (rright_any n _ _ es rs w HE.out HRI.out (by omega) hrl).mono ?_
  rintro e w1 ⟨rfl, hF1⟩
  rw [decide_eq_false HG.out]
  go_wp2_with fail
  go_ret2
  exact ⟨rfl, hF1⟩

/-- The document's From: what FromEnds says of the program's. -/
theorem rfrom_any (n : Int) (ev rv : Value) (es : List Ed) (rs : List Int) (w : World) (hE : EdgesAt w.heap.size w ev es) (hR : IntsAt w.heap.size w rv rs) (hel : es.length ≤ 11000000000000) (hrl : rs.length ≤ 100000000000000) :
    Calls Try.prog 12 #[.int .i64 n, ev, rv] w fun e w' => Fr (fun _ => False) w w' ∧ ((¬ RightG n es rs ∧ e = .returned (.tuple #[.slice none 0 0, vI 1])) ∨
      (RightG n es rs ∧ ∃ v x, e = .returned (.tuple #[v, vI 0]) ∧ (∀ k, v.ownBlock = some k → w.heap.size ≤ k) ∧ IntsAt w'.heap.size w' v ((List.range n.toNat).map x) ∧ Least n.toNat es rs x)) := by
  by_cases hG : RightG n es rs
  · obtain ⟨m, rfl⟩ : ∃ m : Nat, n = m := ⟨n.toNat, by have := hG.1.1; omega⟩
    rcases Nat.eq_zero_or_pos m with rfl | hm
    · refine (rfrom_zero ev rv es rs w hE hR hel hrl hG).mono ?_
      rintro e w' ⟨rfl, hF⟩
      have he : es = [] := by
        rcases es with - | ⟨e, r⟩
        · rfl
        · have := (hG.2.1 e List.mem_cons_self).1; omega
      have hr : rs = [] := by
        rcases rs with - | ⟨e, r⟩
        · rfl
        · have := hG.2.2 e List.mem_cons_self; omega
      subst he
      subst hr
      exact ⟨hF, Or.inr ⟨hG, .slice none 0 0, fun _ => 9, rfl, (fun k h => by cases h), ⟨none, 0, rfl, Nat.le_refl _, fun h => absurd rfl h⟩, ⟨fun r h => absurd h List.not_mem_nil, fun d s k h => absurd h List.not_mem_nil, fun i hi => Or.inl rfl⟩⟩⟩
    · refine (rfrom_pos m hm ev rv es rs w hE hR hel hrl hG).mono ?_
      rintro e w' ⟨hF, g, cap, x, rfl, hc, hg, hI, hL⟩
      exact ⟨hF, Or.inr ⟨hG, _, x, rfl, (fun k h => by cases h; exact hg), by rw [Int.toNat_natCast]; exact hI, by rw [Int.toNat_natCast]; exact hL⟩⟩
  · refine (rfrom_bad n ev rv es rs w hE hR hel hrl hG).mono ?_
    rintro e w' ⟨rfl, hF⟩
    exact ⟨hF, Or.inl ⟨hG, rfl⟩⟩

end Go.Proofs.Ytcjfmfddkhpfnab

namespace Go.Proofs.Ytcjfmfddkhpfnab
open Go.RowKit (wrap32 wrap64)
set_option linter.unusedVariables false
set_option linter.unusedSimpArgs false

/-- A list of its own, of these edges. -/
def CpEnds (w : World) (es : List Ed) (e : Ending) (w' : World) : Prop := ∃ v, e = .returned v ∧ OwnE w' w.heap.size v es ∧ Fr (fun _ => False) w w'
/-- Likewise numbers. -/
def CiEnds (w : World) (zs : List Int) (e : Ending) (w' : World) : Prop := ∃ v, e = .returned v ∧ OwnI w' w.heap.size v zs ∧ Fr (fun _ => False) w w'

set_option maxRecDepth 100000 in
set_option maxHeartbeats 1000000 in
theorem copyEdges_any (v : Value) (es : List Ed) (w : World) (hE : EdgesAt w.heap.size w v es) (hel : es.length ≤ 5864062014634) :
    Calls Try.prog 25 #[v] w (CpEnds w es) := by
  obtain ⟨ea, ec, rfl, -, hein⟩ := hE
  have HE : Hd _ := hein
  clear hein
  obtain ⟨i27, hi27, hz27, hs27, hb27⟩ := info_parts (P := Try.prog) (e := 39) (z := .agg #[vI 0, vI 0, vI 0]) (size := 3) (bytes := 24) (by kernel_rfl)
  go_enter Try.func25, Try.ntmps25
  go_wp2_with fail
  go_loopw [3, 4] (fun mv v wr => ∃ (k : Nat), v = .int .i64 k ∧ k ≤ es.length ∧ Hd (OwnE wr w.heap.size mv (es.take k)) ∧ Hd (Fr (fun _ => False) w wr)) (fun _ v _ => match v with | .int _ q => es.length - q.toNat | _ => 0)
  case atStart => exact ⟨0, rfl, Nat.zero_le _, OwnE.nil _ _, Fr.refl _ _⟩
  case round =>
    obtain ⟨k, rfl, hk, HO, HF⟩ := hrel
    by_cases hlt : k < es.length
    · obtain ⟨pk, po, rfl, hpk, hcs⟩ := HE.out (by intro e; simp [e] at hlt)
      obtain ⟨d0, d1, d2⟩ := hcs k hlt
      have p0 := (HF.out.cell (o := po + k * 3) hpk (fun h => h)).trans d0
      have p1 := (HF.out.cell (o := po + k * 3 + 1) hpk (fun h => h)).trans d1
      have p2 := (HF.out.cell (o := po + k * 3 + 2) hpk (fun h => h)).trans d2
      clear hcs d0 d1 d2
      have HT : Hd (es.take (k + 1) = es.take k ++ [es[k]]) := by unfold Hd; rw [List.take_add_one, List.getElem?_eq_getElem hlt]; rfl
      have HTL : Hd ((es.take k).length = k) := by unfold Hd; rw [List.length_take]; omega
      obtain ⟨e, he⟩ : ∃ e, es[k] = e := ⟨_, rfl⟩
      rw [he] at p0 p1 p2 HT
      clear he
      obtain ⟨e0, e1, e2⟩ := e
      simp only at p0 p1 p2
      obtain ⟨E, hE⟩ : ∃ E, E = es.take k := ⟨_, rfl⟩
      rw [← hE] at HO HT HTL
      clear hE
      have hk0 : (0 : Int) ≤ k := by omega
      have hk1 : (k : Int) < es.length := by omega
      have hsz := HF.out.size
      have HO1 : Hd ((wr.alloc (.cells #[vI e0, vI e1, vI e2] 39)).ownsRow w.heap.size 39 3 u3 E.length (eCells E)) := World.ownsRow.alloc HO.out _
      have hnews : ∀ j u, [vI e0, vI e1, vI e2][j]? = some u → (wr.alloc (.cells #[vI e0, vI e1, vI e2] 39)).cell? ((⟨wr.heap.size, 0, none⟩ : Addr).add j) = some u :=
        World.news_of_block (cs := #[vI e0, vI e1, vI e2]) (heap_alloc_last wr (.cells #[vI e0, vI e1, vI e2] 39))
      have hbase : w.heap.size ≤ (wr.alloc (.cells #[vI e0, vI e1, vI e2] 39)).heap.size := by simp; omega
      have hEl : E.length + 1 ≤ 5864062014634 := by have := HTL.out; omega
      go_wp2_with ((at_builtin; refine Hd.out ?_))
      unfold Hd
      refine wpList_append_lies _ rfl (.tmp 11) (.tmp 16) 28 rfl w.heap.size 39 i27 (.agg #[vI 0, vI 0, vI 0]) 3 24 under24 hi27 hz27 hs27 hb27 rfl (by omega) u3 E.length _ rfl HO1.out ⟨wr.heap.size, 0, none⟩ 1 1 [vI e0, vI e1, vI e2] rfl rfl hnews (by intro u hu; simp at hu; rcases hu with rfl | rfl | rfl <;> rfl) (by omega) (by unfold maxLen; omega) (by omega) hbase (wr.heap.size + 1) (by simp) ?_
      intro g6 cap6 w6 hown6 hgrow6 hat6 hlt6
      have HO6 : Hd (OwnE w6 w.heap.size (.slice (some ⟨g6, 0, none⟩) (E.length + 1) cap6) (E ++ [(e0, e1, e2)])) := OwnE.of (e := (e0, e1, e2)) hown6
      have HF6 : Hd (Fr (fun _ => False) w w6) := grow_fr0 (HF.out.alloc _) hgrow6 (fun k hk => (HO.out.ge k hk).1)
      clear hown6 hgrow6 hat6 hlt6 HO HF HO1 hnews hbase p0 p1 p2
      go_wp2_with fail
      refine ⟨⟨k + 1, by simp, by omega, ?_, HF6.out⟩, by simp; omega⟩
      unfold Hd; rw [HT.out]; exact HO6.out
    · have hke : k = es.length := by omega
      subst hke
      have HO2 : Hd (OwnE wr w.heap.size u3 es) := by have := HO.out; rw [List.take_length] at this; exact this
      clear HO
      go_wp2_with fail
      go_ret
      exact ⟨u3, rfl, HO2.out, HF.out⟩

set_option maxRecDepth 100000 in
set_option maxHeartbeats 1000000 in
theorem copyInts_any (v : Value) (es : List Int) (w : World) (hE : IntsAt w.heap.size w v es) (hel : es.length ≤ 17592186043904) :
    Calls Try.prog 26 #[v] w (CiEnds w es) := by
  obtain ⟨ea, ec, rfl, -, hein⟩ := hE
  have HE : Hd _ := hein
  clear hein
  obtain ⟨i3, hi3, hz3, hs3, hb3⟩ := info_parts (P := Try.prog) (e := 3) (z := .int .i64 0) (size := 1) (bytes := 8) (by kernel_rfl)
  go_enter Try.func26, Try.ntmps26
  go_wp2_with fail
  go_loopw [3, 4] (fun mv v wr => ∃ (k : Nat), v = .int .i64 k ∧ k ≤ es.length ∧ Hd (OwnI wr w.heap.size mv (es.take k)) ∧ Hd (Fr (fun _ => False) w wr)) (fun _ v _ => match v with | .int _ q => es.length - q.toNat | _ => 0)
  case atStart => exact ⟨0, rfl, Nat.zero_le _, OwnI.nil _ _, Fr.refl _ _⟩
  case round =>
    obtain ⟨k, rfl, hk, HO, HF⟩ := hrel
    by_cases hlt : k < es.length
    · obtain ⟨pk, po, rfl, hpk, hcs⟩ := HE.out (by intro e; simp [e] at hlt)
      have d0 := hcs k hlt
      have p0 := (HF.out.cell (o := po + k) hpk (fun h => h)).trans d0
      clear hcs d0
      have HT : Hd (es.take (k + 1) = es.take k ++ [es[k]]) := by unfold Hd; rw [List.take_add_one, List.getElem?_eq_getElem hlt]; rfl
      have HTL : Hd ((es.take k).length = k) := by unfold Hd; rw [List.length_take]; omega
      obtain ⟨e, he⟩ : ∃ e, es[k] = e := ⟨_, rfl⟩
      rw [he] at p0 HT
      clear he
      obtain ⟨E, hE⟩ : ∃ E, E = es.take k := ⟨_, rfl⟩
      rw [← hE] at HO HT HTL
      clear hE
      have hk0 : (0 : Int) ≤ k := by omega
      have hk1 : (k : Int) < es.length := by omega
      have hsz := HF.out.size
      have HO1 : Hd ((wr.alloc (.cells #[vI e] 3)).ownsRow w.heap.size 3 1 u3 E.length (E.map vI)) := World.ownsRow.alloc HO.out _
      have hnews : ∀ j u, [vI e][j]? = some u → (wr.alloc (.cells #[vI e] 3)).cell? ((⟨wr.heap.size, 0, none⟩ : Addr).add j) = some u :=
        World.news_of_block (cs := #[vI e]) (heap_alloc_last wr (.cells #[vI e] 3))
      have hbase : w.heap.size ≤ (wr.alloc (.cells #[vI e] 3)).heap.size := by simp; omega
      have hEl : E.length + 1 ≤ 17592186043904 := by have := HTL.out; omega
      go_wp2_with ((at_builtin; refine Hd.out ?_))
      unfold Hd
      refine wpList_append_lies _ rfl (.tmp 11) (.tmp 16) 29 rfl w.heap.size 3 i3 (.int .i64 0) 1 8 under22 hi3 hz3 hs3 hb3 rfl (by omega) u3 E.length _ rfl HO1.out ⟨wr.heap.size, 0, none⟩ 1 1 [vI e] rfl rfl hnews (by intro u hu; simp at hu; subst hu; rfl) (by omega) (by unfold maxLen; omega) (by omega) hbase (wr.heap.size + 1) (by simp) ?_
      intro g6 cap6 w6 hown6 hgrow6 hat6 hlt6
      have HO6 : Hd (OwnI w6 w.heap.size (.slice (some ⟨g6, 0, none⟩) (E.length + 1) cap6) (E ++ [e])) := OwnI.of hown6
      have HF6 : Hd (Fr (fun _ => False) w w6) := grow_fr0 (HF.out.alloc _) hgrow6 (fun k hk => (HO.out.ge k hk).1)
      clear hown6 hgrow6 hat6 hlt6 HO HF HO1 hnews hbase p0
      go_wp2_with fail
      refine ⟨⟨k + 1, by simp, by omega, ?_, HF6.out⟩, by simp; omega⟩
      unfold Hd; rw [HT.out]; exact HO6.out
    · have hke : k = es.length := by omega
      subst hke
      have HO2 : Hd (OwnI wr w.heap.size u3 es) := by have := HO.out; rw [List.take_length] at this; exact this
      clear HO
      go_wp2_with fail
      go_ret
      exact ⟨u3, rfl, HO2.out, HF.out⟩

end Go.Proofs.Ytcjfmfddkhpfnab

namespace Go.Proofs.Ytcjfmfddkhpfnab
open Go.RowKit (wrap32 wrap64)
set_option linter.unusedVariables false
set_option linter.unusedSimpArgs false

/-- Marks behind a list of edges. -/
def mkE (k : Nat) : List Ed := (List.range k).map fun (i : Nat) => (-1 - (i : Int), (i : Int), 7)
def mkI (k : Nat) : List Int := (List.range k).map fun (i : Nat) => -1 - (i : Int)
theorem mkE_succ (k : Nat) : mkE (k + 1) = mkE k ++ [(-1 - (k : Int), (k : Int), 7)] := by simp [mkE, List.range_succ]
theorem mkI_succ (k : Nat) : mkI (k + 1) = mkI k ++ [-1 - (k : Int)] := by simp [mkI, List.range_succ]
theorem mkE_length (k : Nat) : (mkE k).length = k := by simp [mkE]
theorem mkI_length (k : Nat) : (mkI k).length = k := by simp [mkI]

set_option maxRecDepth 100000 in
set_option maxHeartbeats 1000000 in
theorem edges_any (v : Value) (es : List Ed) (w : World) (hE : EdgesAt w.heap.size w v es) (hel : es.length ≤ 5000000000000) :
    Calls Try.prog 10 #[v] w (CpEnds w (es ++ mkE 64)) := by
  have HE : Hd (EdgesAt w.heap.size w v es) := hE
  clear hE
  obtain ⟨i27, hi27, hz27, hs27, hb27⟩ := info_parts (P := Try.prog) (e := 39) (z := .agg #[vI 0, vI 0, vI 0]) (size := 3) (bytes := 24) (by kernel_rfl)
  go_enter Try.func10, Try.ntmps10
  go_wp2_with fail
  refine (copyEdges_any v es w HE.out (by omega)).mono ?_
  rintro e w1 ⟨cv, rfl, hO1, hF1⟩
  have HO : Hd (OwnE w1 w.heap.size cv es) := hO1
  have HF : Hd (Fr (fun _ => False) w w1) := hF1
  clear hO1 hF1
  go_wp2_with fail
  go_loopw [3, 4] (fun mv v wr => ∃ (k : Nat) (E : List Ed), v = .int .i64 k ∧ k ≤ 64 ∧ Hd (E = es ++ mkE k) ∧ Hd (OwnE wr w.heap.size mv E) ∧ Hd (Fr (fun _ => False) w wr)) (fun _ v _ => match v with | .int _ q => 64 - q.toNat | _ => 0)
  case atStart => exact ⟨0, es, rfl, Nat.zero_le _, by simp [Hd, mkE], HO.out, HF.out⟩
  case round =>
    clear HO HF
    obtain ⟨k, E, rfl, hk, HQ, HO, HF⟩ := hrel
    have HTL : Hd (E.length = es.length + k) := by unfold Hd; rw [show E = _ from HQ.out, List.length_append, mkE_length]
    by_cases hlt : k < 64
    · have hk1 : (k : Int) < 64 := by omega
      have hsz := HF.out.size
      have hw : wrap64 (-1 - (k : Int)) = -1 - (k : Int) := by unfold wrap64; omega
      obtain ⟨e0, he0⟩ : ∃ e0 : Int, e0 = -1 - (k : Int) := ⟨_, rfl⟩
      rw [← he0] at hw
      have HQ6 : Hd (E ++ [(e0, (k : Int), 7)] = es ++ mkE (k + 1)) := by unfold Hd; rw [mkE_succ, ← List.append_assoc, show E = _ from HQ.out, he0]
      have HO1 : Hd ((wr.alloc (.cells #[vI e0, vI k, vI 7] 39)).ownsRow w.heap.size 39 3 u3 E.length (eCells E)) := World.ownsRow.alloc HO.out _
      have hnews : ∀ j u, [vI e0, vI k, vI 7][j]? = some u → (wr.alloc (.cells #[vI e0, vI k, vI 7] 39)).cell? ((⟨wr.heap.size, 0, none⟩ : Addr).add j) = some u :=
        World.news_of_block (cs := #[vI e0, vI k, vI 7]) (heap_alloc_last wr (.cells #[vI e0, vI k, vI 7] 39))
      have hbase : w.heap.size ≤ (wr.alloc (.cells #[vI e0, vI k, vI 7] 39)).heap.size := by simp; omega
      have hEl : E.length + 1 ≤ 5864062014634 := by have := HTL.out; omega
      go_wp2_with ((at_builtin; refine Hd.out ?_))
      unfold Hd
      try rw [← he0]
      refine wpList_append_lies _ rfl (.tmp 11) (.tmp 16) 28 rfl w.heap.size 39 i27 (.agg #[vI 0, vI 0, vI 0]) 3 24 under24 hi27 hz27 hs27 hb27 rfl (by omega) u3 E.length _ rfl HO1.out ⟨wr.heap.size, 0, none⟩ 1 1 [vI e0, vI k, vI 7] rfl rfl hnews (by intro u hu; simp at hu; rcases hu with rfl | rfl | rfl <;> rfl) (by omega) (by unfold maxLen; omega) (by omega) hbase (wr.heap.size + 1) (by simp) ?_
      intro g6 cap6 w6 hown6 hgrow6 hat6 hlt6
      have HO6 : Hd (OwnE w6 w.heap.size (.slice (some ⟨g6, 0, none⟩) (E.length + 1) cap6) (E ++ [(e0, (k : Int), 7)])) := OwnE.of (e := (e0, (k : Int), 7)) hown6
      have HF6 : Hd (Fr (fun _ => False) w w6) := grow_fr0 (HF.out.alloc _) hgrow6 (fun k hk => (HO.out.ge k hk).1)
      clear hown6 hgrow6 hat6 hlt6 HO HF HO1 hnews hbase
      go_wp2_with fail
      exact ⟨⟨k + 1, _, by simp, by omega, HQ6.out, HO6.out, HF6.out⟩, by simp; omega⟩
    · have hke : k = 64 := by omega
      subst hke
      have HO2 : Hd (OwnE wr w.heap.size u3 (es ++ mkE 64)) := by rw [← show E = _ from HQ.out]; exact HO.out
      clear HO
      go_wp2_with fail
      go_ret
      exact ⟨u3, rfl, HO2.out, HF.out⟩

set_option maxRecDepth 100000 in
set_option maxHeartbeats 1000000 in
theorem ints_any (v : Value) (es : List Int) (w : World) (hE : IntsAt w.heap.size w v es) (hel : es.length ≤ 5000000000000) :
    Calls Try.prog 11 #[v] w (CiEnds w (es ++ mkI 64)) := by
  have HE : Hd (IntsAt w.heap.size w v es) := hE
  clear hE
  obtain ⟨i3, hi3, hz3, hs3, hb3⟩ := info_parts (P := Try.prog) (e := 3) (z := .int .i64 0) (size := 1) (bytes := 8) (by kernel_rfl)
  go_enter Try.func11, Try.ntmps11
  go_wp2_with fail
  refine (copyInts_any v es w HE.out (by omega)).mono ?_
  rintro e w1 ⟨cv, rfl, hO1, hF1⟩
  have HO : Hd (OwnI w1 w.heap.size cv es) := hO1
  have HF : Hd (Fr (fun _ => False) w w1) := hF1
  clear hO1 hF1
  go_wp2_with fail
  go_loopw [3, 4] (fun mv v wr => ∃ (k : Nat) (E : List Int), v = .int .i64 k ∧ k ≤ 64 ∧ Hd (E = es ++ mkI k) ∧ Hd (OwnI wr w.heap.size mv E) ∧ Hd (Fr (fun _ => False) w wr)) (fun _ v _ => match v with | .int _ q => 64 - q.toNat | _ => 0)
  case atStart => exact ⟨0, es, rfl, Nat.zero_le _, by simp [Hd, mkI], HO.out, HF.out⟩
  case round =>
    clear HO HF
    obtain ⟨k, E, rfl, hk, HQ, HO, HF⟩ := hrel
    have HTL : Hd (E.length = es.length + k) := by unfold Hd; rw [show E = _ from HQ.out, List.length_append, mkI_length]
    by_cases hlt : k < 64
    · have hk1 : (k : Int) < 64 := by omega
      have hsz := HF.out.size
      have hw : wrap64 (-1 - (k : Int)) = -1 - (k : Int) := by unfold wrap64; omega
      obtain ⟨e0, he0⟩ : ∃ e0 : Int, e0 = -1 - (k : Int) := ⟨_, rfl⟩
      rw [← he0] at hw
      have HQ6 : Hd (E ++ [e0] = es ++ mkI (k + 1)) := by unfold Hd; rw [mkI_succ, ← List.append_assoc, show E = _ from HQ.out, he0]
      have HO1 : Hd ((wr.alloc (.cells #[vI e0] 3)).ownsRow w.heap.size 3 1 u3 E.length (E.map vI)) := World.ownsRow.alloc HO.out _
      have hnews : ∀ j u, [vI e0][j]? = some u → (wr.alloc (.cells #[vI e0] 3)).cell? ((⟨wr.heap.size, 0, none⟩ : Addr).add j) = some u :=
        World.news_of_block (cs := #[vI e0]) (heap_alloc_last wr (.cells #[vI e0] 3))
      have hbase : w.heap.size ≤ (wr.alloc (.cells #[vI e0] 3)).heap.size := by simp; omega
      have hEl : E.length + 1 ≤ 5864062014634 := by have := HTL.out; omega
      go_wp2_with ((at_builtin; refine Hd.out ?_))
      unfold Hd
      try rw [← he0]
      refine wpList_append_lies _ rfl (.tmp 11) (.tmp 14) 29 rfl w.heap.size 3 i3 (.int .i64 0) 1 8 under22 hi3 hz3 hs3 hb3 rfl (by omega) u3 E.length _ rfl HO1.out ⟨wr.heap.size, 0, none⟩ 1 1 [vI e0] rfl rfl hnews (by intro u hu; simp at hu; subst hu; rfl) (by omega) (by unfold maxLen; omega) (by omega) hbase (wr.heap.size + 1) (by simp) ?_
      intro g6 cap6 w6 hown6 hgrow6 hat6 hlt6
      have HO6 : Hd (OwnI w6 w.heap.size (.slice (some ⟨g6, 0, none⟩) (E.length + 1) cap6) (E ++ [e0])) := OwnI.of hown6
      have HF6 : Hd (Fr (fun _ => False) w w6) := grow_fr0 (HF.out.alloc _) hgrow6 (fun k hk => (HO.out.ge k hk).1)
      clear hown6 hgrow6 hat6 hlt6 HO HF HO1 hnews hbase
      go_wp2_with fail
      exact ⟨⟨k + 1, _, by simp, by omega, HQ6.out, HO6.out, HF6.out⟩, by simp; omega⟩
    · have hke : k = 64 := by omega
      subst hke
      have HO2 : Hd (OwnI wr w.heap.size u3 (es ++ mkI 64)) := by rw [← show E = _ from HQ.out]; exact HO.out
      clear HO
      go_wp2_with fail
      go_ret
      exact ⟨u3, rfl, HO2.out, HF.out⟩

end Go.Proofs.Ytcjfmfddkhpfnab

namespace Go.Proofs.Ytcjfmfddkhpfnab
open Go.RowKit (wrap32 wrap64)
set_option linter.unusedVariables false
set_option linter.unusedSimpArgs false

set_option maxRecDepth 100000 in
set_option maxHeartbeats 1000000 in
/-- EqEdges of two lists of the same edges. -/
theorem eqEdges_same (v1 v2 : Value) (es : List Ed) (w : World) (h1 : EdgesAt w.heap.size w v1 es) (h2 : EdgesAt w.heap.size w v2 es) (hz : es.length ≤ 100000000000000) :
    Calls Try.prog 13 #[v1, v2] w fun e w' => e = .returned (.bool true) ∧ Fr (fun _ => False) w w' := by
  obtain ⟨a1, c1, rfl, -, hc1⟩ := h1
  obtain ⟨a2, c2, rfl, -, hc2⟩ := h2
  have H1 : Hd _ := hc1
  have H2 : Hd _ := hc2
  clear hc1 hc2
  go_enter Try.func13, Try.ntmps13
  go_wp2_with fail
  go_loopw [5] (fun v wr => ∃ (k : Nat), v = .int .i64 k ∧ k ≤ es.length ∧ Hd (Fr (fun _ => False) w wr)) (fun v _ => match v with | .int _ q => es.length - q.toNat | _ => 0)
  case atStart => exact ⟨0, rfl, Nat.zero_le _, Fr.refl _ _⟩
  case round =>
    obtain ⟨k, rfl, hk, HF⟩ := hrel
    by_cases hlt : k < es.length
    · obtain ⟨k1, o1, rfl, hk1, g1⟩ := H1.out (by intro e; simp [e] at hlt)
      obtain ⟨k2, o2, rfl, hk2, g2⟩ := H2.out (by intro e; simp [e] at hlt)
      obtain ⟨a0, a1, a2⟩ := g1 k hlt
      obtain ⟨b0, b1, b2⟩ := g2 k hlt
      have q0 := (HF.out.cell (o := o1 + k * 3) hk1 (fun h => h)).trans a0
      have q1 := (HF.out.cell (o := o1 + k * 3 + 1) hk1 (fun h => h)).trans a1
      have q2 := (HF.out.cell (o := o1 + k * 3 + 2) hk1 (fun h => h)).trans a2
      have r0 := (HF.out.cell (o := o2 + k * 3) hk2 (fun h => h)).trans b0
      have r1 := (HF.out.cell (o := o2 + k * 3 + 1) hk2 (fun h => h)).trans b1
      have r2 := (HF.out.cell (o := o2 + k * 3 + 2) hk2 (fun h => h)).trans b2
      clear a0 a1 a2 b0 b1 b2 g1 g2
      generalize es[k].1 = e0 at *
      generalize es[k].2.1 = e1 at *
      generalize es[k].2.2 = e2 at *
      have hk0 : (0 : Int) ≤ k := by omega
      have hk3 : (k : Int) < es.length := by omega
      go_wp2_with fail
      refine wp_region_still_tail 8 mixed (by kernel_rfl) ?_
      simp only [List.take_succ_cons, List.take_zero, List.drop_succ_cons, List.drop_zero]
      repeat still_step
      refine wpStill_nil ?_
      go_wp2_with fail
      refine ⟨⟨k + 1, by simp; try omega, by omega, HF.out.drew⟩, by simp; try omega⟩
    · have hke : k = es.length := by omega
      subst hke
      go_wp2_with fail
      go_ret
      exact ⟨rfl, HF.out⟩

end Go.Proofs.Ytcjfmfddkhpfnab

namespace Go.Proofs.Ytcjfmfddkhpfnab
open Go.RowKit (wrap32 wrap64)
set_option linter.unusedVariables false
set_option linter.unusedSimpArgs false

theorem cell_lt0 {w : World} {k o : Nat} {u : Value} (h : w.cell? ⟨k, o, none⟩ = some u) : k < w.heap.size := by
  unfold World.cell? at h
  rcases Nat.lt_or_ge k w.heap.size with hk | hk
  · exact hk
  · simp [Array.getElem?_eq_none hk] at h

/-- Lists of numbers. -/
def ListsAt (w : World) (sv : Value) (zss : List (List Int)) : Prop :=
  ∃ a c, sv = .slice a zss.length c ∧ (zss ≠ [] → ∃ k o, a = some ⟨k, o, none⟩ ∧ ∀ j, j < zss.length → ∃ u, w.cell? ⟨k, o + j, none⟩ = some u ∧ IntsAt w.heap.size w u (zss[j]?.getD []))

set_option maxRecDepth 100000 in
set_option maxHeartbeats 1000000 in
/-- EqLists of two lists of the same lists. -/
theorem eqLists_same (v1 v2 : Value) (zss : List (List Int)) (w : World) (h1 : ListsAt w v1 zss) (h2 : ListsAt w v2 zss) (hz : zss.length ≤ 10000000000000) (hzz : ∀ zs ∈ zss, zs.length ≤ 10000000000000) :
    Calls Try.prog 7 #[v1, v2] w fun e w' => e = .returned (.bool true) ∧ Fr (fun _ => False) w w' := by
  obtain ⟨a1, c1, rfl, hc1⟩ := h1
  obtain ⟨a2, c2, rfl, hc2⟩ := h2
  have H1 : Hd _ := hc1
  have H2 : Hd _ := hc2
  have HZ : Hd _ := hzz
  clear hc1 hc2 hzz
  go_enter Try.func7, Try.ntmps7
  go_wp2_with fail
  go_loopw [5] (fun v wr => ∃ (k : Nat), v = .int .i64 k ∧ k ≤ zss.length ∧ Hd (Fr (fun _ => False) w wr)) (fun v _ => match v with | .int _ q => zss.length - q.toNat | _ => 0)
  case atStart => exact ⟨0, rfl, Nat.zero_le _, Fr.refl _ _⟩
  case round =>
    obtain ⟨k, rfl, hk, HF⟩ := hrel
    by_cases hlt : k < zss.length
    · have hne : zss ≠ [] := by intro e; simp [e] at hlt
      obtain ⟨k1, o1, rfl, g1⟩ := H1.out hne
      obtain ⟨k2, o2, rfl, g2⟩ := H2.out hne
      obtain ⟨u1, p1, i1⟩ := g1 k hlt
      obtain ⟨u2, p2, i2⟩ := g2 k hlt
      have q1 := (HF.out.cell (cell_lt0 p1) (fun h => h)).trans p1
      have q2 := (HF.out.cell (cell_lt0 p2) (fun h => h)).trans p2
      have hzl : (zss[k]?.getD []).length ≤ 10000000000000 := by
        rw [List.getElem?_eq_getElem hlt]
        exact HZ.out _ (List.getElem_mem hlt)
      have I1 : Hd (IntsAt wr.heap.size wr u1 (zss[k]?.getD [])) := i1.stay HF.out
      have I2 : Hd (IntsAt wr.heap.size wr u2 (zss[k]?.getD [])) := i2.stay HF.out
      generalize zss[k]?.getD [] = zs at *
      obtain ⟨x1, y1, rfl, -⟩ := I1.out
      obtain ⟨x2, y2, rfl, -⟩ := I2.out
      have hk0 : (0 : Int) ≤ k := by omega
      have hk1 : (k : Int) < zss.length := by omega
      clear g1 g2 i1 i2 p1 p2
      go_wp2_with fail
      refine wp_region_still_tail 8 mixed (by kernel_rfl) ?_
      simp only [List.take_succ_cons, List.take_zero, List.drop_succ_cons, List.drop_zero]
      repeat still_step
      refine wpStill_nil ?_
      go_wp2_with fail
      refine (eqInts_any _ _ zs zs wr.drew I1.out I2.out (by omega) (by omega)).mono ?_
      rintro e w1 ⟨rfl, hF1⟩
      rw [decide_eq_true rfl]
      have HF1 : Hd _ := HF.out.drew.trans hF1
      go_wp2_with fail
      refine ⟨⟨k + 1, by simp, by omega, HF1.out⟩, by simp; omega⟩
    · have hke : k = zss.length := by omega
      subst hke
      go_wp2_with fail
      go_ret
      exact ⟨rfl, HF.out⟩

end Go.Proofs.Ytcjfmfddkhpfnab
