import Derived.Test.YtgcekpmkniipfaaQG4
import Derived.Test.YtgcekpmkniipfaaQG9
namespace Go.Proofs.Ytgcekpmkniipfaa
open Go.RowKit (wrap32 wrap64)
set_option linter.unusedVariables false
set_option linter.unusedSimpArgs false

theorem Rows4.own {w : World} {B : Nat} {lv : Value} {ls : List KR} (h : w.ownsRow B 43 4 lv ls.length (ls.map row4).flatten) :
    ∃ ad cap, lv = .slice ad ls.length cap ∧ (0 < ls.length → ∃ g, ad = some ⟨g, 0, none⟩ ∧ g < w.heap.size ∧ lv.ownBlock = some g ∧ ∀ i (h : i < ls.length), At4 w g i ls[i]) := by
  rcases h.2 with ⟨h2, h3⟩ | ⟨g, cap, cur, e', h3, h4, h5, h6, h7, h8⟩
  · refine ⟨none, 0, by rw [h2, h3], fun h => by omega⟩
  · refine ⟨_, cap, e', fun _ => ⟨g, rfl, heap_lt h4, by rw [e']; rfl, fun i hi => ?_⟩⟩
    have hlen : ∀ r ∈ ls.map row4, r.length = 4 := by
      intro r hr
      obtain ⟨x, -, rfl⟩ := List.mem_map.1 hr
      rfl
    have hc : ∀ t, t < 4 → w.cell? ⟨g, i * 4 + t, none⟩ = (row4 ls[i])[t]? := fun t ht => by
      rw [e'] at h
      rw [World.ownsRow.cellAt h (i * 4 + t) (by omega), flat_get hlen i t (by simpa using hi) ht]
      simp
    exact ⟨hc 0 (by omega), hc 1 (by omega), hc 2 (by omega), hc 3 (by omega)⟩

theorem Sy.spoil {w w' : World} {B : Nat} {own : Nat → Nat} {p q : TS} {r s : RS} {gs : List KR} (h : Sy w B own p q r s gs) (f : Fr (fun j => 10 ≤ own j) w w') : Sy w' B own p q r s [] :=
  ⟨fun j hj => ⟨(h.lt j hj).1, Nat.lt_of_lt_of_le (h.lt j hj).2 f.size⟩, h.pt.fr f (fun j hj => by rw [h.po j hj]; decide), h.po, h.qt.fr f (fun j hj => by rw [h.qo j hj]; decide), h.qo, h.rt.fr f (by rw [h.ro.1]; decide) (fun j hj => by rw [h.ro.2.1 j hj]; decide) (fun j hj => by rw [h.ro.2.2 j hj]; decide), h.ro, h.st.fr f (by rw [h.so.1]; decide) (fun j hj => by rw [h.so.2.1 j hj]; decide) (fun j hj => by rw [h.so.2.2 j hj]; decide), h.so, fun i hi => by simp at hi⟩

set_option maxRecDepth 100000 in
set_option maxHeartbeats 8000000 in
theorem alone_any (w : World) (B : Nat) (own : Nat → Nat) (p q : TS) (r s : RS) (gs : List KR) (kb : Nat) (lv wv : Value) (sum : Nat) (ws : List KR) (h : Sy w B own p q r s gs) (hK : Kp w B own kb lv wv sum gs ws) (hB : B ≤ w.heap.size)
    (hwn : ws.length = gs.length) (hnl : gs.length ≤ 10000000000) (hR : ∀ i (h : i < gs.length) (h2 : i < ws.length), ws[i].R = gs[i].R ∧ gs[i].R.L.length ≤ 3000000000) :
    Calls Try.prog 20 #[.pointer (some ⟨kb, 0, none⟩)] w fun e w' => e = .returned (.bool true) ∧ Fr (fun j => 10 ≤ own j) w w' := by
  obtain ⟨la, lc, rfl, hL⟩ := Rows4.own hK.lr
  obtain ⟨wa, wc, rfl, hW⟩ := Rows4.own hK.wr
  obtain ⟨n, en⟩ : ∃ n, n = gs.length := ⟨_, rfl⟩
  have hn : gs.length = n := en.symm
  rw [hn] at hnl
  have hobj := hK.obj
  rw [hwn, hn] at hobj
  have hkb := heap_lt hobj
  have lvo : ∀ g, la = some ⟨g, 0, none⟩ → own g = 6 := fun g e => hK.lo g (by rw [e]; rfl)
  have wvo : ∀ g, wa = some ⟨g, 0, none⟩ → own g = 7 := fun g e => hK.wo g (by rw [e]; rfl)
  have SP : ∀ W, Fr (fun _ => False) w W → Calls Try.prog 40 #[.slice la n lc, .slice wa n wc] W fun e w' => e = .returned (.bool true) ∧ Fr (fun j => 10 ≤ own j) W w' := fun W hF => by
    refine spoilt_any W la lc wa wc gs ws B n own (fun i => if h : i < gs.length then gs[i].R.L.map Prod.fst else []) (fun i => if h : i < gs.length then gs[i].R.L.map Prod.snd else []) ⟨Fr.refl _ _, fun i hi => ?_, fun i hi => ?_, fun i hi => (h.k i hi).2.2.1, fun i hi => (h.k i hi).2.2.2⟩ hn (by omega) hnl (fun hp => ?_) (fun hp => ?_) (fun i hi => ?_) (fun i hi hi2 => ?_) (Nat.le_trans hB hF.size)
    · rw [dif_pos hi, ← kCells_eq]; exact (h.k i hi).1.fr hF (fun _ _ h => h)
    · rw [dif_pos hi, ← vCells_eq]; exact (h.k i hi).2.1.fr hF (fun _ _ h => h)
    · obtain ⟨g, e, hg, -, hr⟩ := hL (by omega)
      exact ⟨g, e, Nat.lt_of_lt_of_le hg hF.size, by rw [lvo g e]; decide, fun i hi => (hr i (by omega)).fr hF hg (fun h => h)⟩
    · obtain ⟨g, e, hg, -, hr⟩ := hW (by omega)
      exact ⟨g, e, Nat.lt_of_lt_of_le hg hF.size, by rw [wvo g e]; decide, fun i hi => (hr i (by omega)).fr hF hg (fun h => h)⟩
    · obtain ⟨h1, h2, h3, h4⟩ := hK.wl i hi
      exact ⟨(h1.fr hF (Nat.le_refl _) (fun _ _ h => h)).mono hF.size, (h2.fr hF (Nat.le_refl _) (fun _ _ h => h)).mono hF.size, fun j e => by rw [(h3 j e).1]; decide, fun j e => by rw [(h4 j e).1]; decide⟩
    · rw [dif_pos hi, dif_pos hi]
      exact ⟨(hR i hi hi2).1, rfl, rfl, (hR i hi hi2).2⟩
  have EQ : ∀ W i (hi : i < gs.length) (h2 : i < ws.length), Fr (fun _ => False) w W → Calls Try.prog 19 #[.agg #[.bool gs[i].R.ok, .string gs[i].R.val, gs[i].rk, gs[i].ru], .agg #[.bool ws[i].R.ok, .string ws[i].R.val, ws[i].rk, ws[i].ru]] W fun e w' => e = .returned (.bool true) ∧ Fr (fun _ => False) W w' := fun W i hi h2 hF => by
    obtain ⟨e1, e2⟩ := hR i hi h2
    obtain ⟨k1, k2, -, -⟩ := h.k i hi
    obtain ⟨w1, w2, -, -⟩ := hK.wl i h2
    refine eqReply_same W w.heap.size w.heap.size gs[i].R _ _ ⟨_, _, rfl, k1.at.fr hF (Nat.le_refl _) (fun _ _ h => h), k2.at.fr hF (Nat.le_refl _) (fun _ _ h => h)⟩ ⟨_, _, by rw [e1], ?_, ?_⟩ hF.size hF.size (by omega)
    · rw [← e1]; exact w1.fr hF (Nat.le_refl _) (fun _ _ h => h)
    · rw [← e1]; exact w2.fr hF (Nat.le_refl _) (fun _ _ h => h)
  have HL : Hd (0 < n → ∃ g, la = some ⟨g, 0, none⟩ ∧ g < w.heap.size ∧ ∀ i (h : i < gs.length), At4 w g i gs[i]) := fun hp => by
    obtain ⟨g, e, hg, -, hr⟩ := hL (by omega); exact ⟨g, e, hg, hr⟩
  have HW : Hd (0 < n → ∃ g, wa = some ⟨g, 0, none⟩ ∧ g < w.heap.size ∧ ∀ i (h : i < ws.length), At4 w g i ws[i]) := fun hp => by
    obtain ⟨g, e, hg, -, hr⟩ := hW (by omega); exact ⟨g, e, hg, hr⟩
  have HSP : Hd (∀ W, Fr (fun _ => False) w W → Calls Try.prog 40 #[.slice la n lc, .slice wa n wc] W fun e w' => e = .returned (.bool true) ∧ Fr (fun j => 10 ≤ own j) W w') := SP
  have HEQ : Hd (∀ W i (hi : i < gs.length) (h2 : i < ws.length), Fr (fun _ => False) w W → Calls Try.prog 19 #[.agg #[.bool gs[i].R.ok, .string gs[i].R.val, gs[i].rk, gs[i].ru], .agg #[.bool ws[i].R.ok, .string ws[i].R.val, ws[i].rk, ws[i].ru]] W fun e w' => e = .returned (.bool true) ∧ Fr (fun _ => False) W w') := EQ
  have HFm : Hd (∀ i (hi : i < gs.length) (h2 : i < ws.length), (∃ a m c, gs[i].rk = .slice a m c) ∧ (∃ a m c, gs[i].ru = .slice a m c) ∧ (∃ a m c, ws[i].rk = .slice a m c) ∧ ∃ a m c, ws[i].ru = .slice a m c) := fun i hi h2 => by
    obtain ⟨k1, k2, -, -⟩ := h.k i hi
    obtain ⟨⟨a1, b1, c1, -⟩, ⟨a2, b2, c2, -⟩, -, -⟩ := hK.wl i h2
    obtain ⟨a3, e3⟩ := k1.len
    obtain ⟨a4, e4⟩ := k2.len
    exact ⟨⟨_, _, _, e3⟩, ⟨_, _, _, e4⟩, ⟨_, _, _, c1⟩, ⟨_, _, _, c2⟩⟩
  have HN : Hd (gs.length = n ∧ ws.length = n) := ⟨hn, by omega⟩
  have HC : Hd (∀ W, Fr (fun _ => False) w W → W.cell? ⟨kb, 0, none⟩ = some (.slice la n lc) ∧ W.cell? ⟨kb, 1, none⟩ = some (.slice wa n wc)) := fun W hF => ⟨(hF.cell hkb (fun h => h)).trans (cell_of hobj 0), (hF.cell hkb (fun h => h)).trans (cell_of hobj 1)⟩
  clear h hK hB hwn hR hL hW hobj hkb lvo wvo SP EQ en hn
  go_enter Try.func20, Try.ntmps20
  go_wp2_with fail
  go_loopw [3] (fun v3 wr => ∃ i : Nat, v3 = .int .i64 i ∧ i ≤ n ∧ Hd (Fr (fun _ => False) w wr)) (fun v _ => match v with | .int _ q => n - q.toNat | _ => 0)
  case atStart => exact ⟨0, rfl, by omega, Fr.refl _ _⟩
  case round =>
    obtain ⟨i, rfl, hin, HM⟩ := hrel
    obtain ⟨c0, c1⟩ := HC.out wr HM.out
    by_cases hlt : i < n
    · have hi0 : (0 : Int) ≤ i := by omega
      have hi4 : (i : Int) < n := by omega
      have hil : i < gs.length := by have := HN.out; omega
      have hiw : i < ws.length := by have := HN.out; omega
      obtain ⟨g, rfl, hg, hr⟩ := HL.out (by omega)
      obtain ⟨gw, rfl, hgw, hrw⟩ := HW.out (by omega)
      have xA := (hr i hil).fr HM.out hg (fun h => h)
      have xB := (hrw i hiw).fr HM.out hgw (fun h => h)
      have F0 : Fr (fun _ => False) w wr.drew := HM.out.drew
      have hcall := HEQ.out wr.drew i hil hiw F0
      have HF0 : Hd (Fr (fun _ => False) w wr.drew) := F0
      obtain ⟨⟨ka, kv, ok, val, L⟩, ex⟩ : ∃ x, x = gs[i] := ⟨_, rfl⟩
      obtain ⟨⟨ka', kv', ok', val', L'⟩, ex'⟩ : ∃ x, x = ws[i] := ⟨_, rfl⟩
      obtain ⟨f1, f2, f3, f4⟩ := HFm.out i hil hiw
      rw [← ex] at xA hcall f1 f2
      rw [← ex'] at xB hcall f3 f4
      obtain ⟨_, _, _, rfl⟩ := f1
      obtain ⟨_, _, _, rfl⟩ := f2
      obtain ⟨_, _, _, rfl⟩ := f3
      obtain ⟨_, _, _, rfl⟩ := f4
      obtain ⟨a0, a1, a2, a3⟩ := xA
      obtain ⟨b0, b1, b2, b3⟩ := xB
      simp only at a0 a1 a2 a3 b0 b1 b2 b3 hcall
      clear ex ex' hr hrw hil hiw HM F0
      go_wp2_with fail
      refine wp_region_still_tail 14 mixed (by kernel_rfl) ?_
      simp only [List.take_succ_cons, List.take_zero, List.drop_succ_cons, List.drop_zero]
      repeat still_step
      refine wpStill_nil ?_
      go_wp2_with fail
      refine hcall.mono ?_
      rintro _ w5 ⟨rfl, hf5⟩
      have F5 : Hd (Fr (fun _ => False) w w5) := HF0.out.trans hf5
      clear hcall hf5 a0 a1 a2 a3 b0 b1 b2 b3 c0 c1
      go_wp2_with fail
      exact ⟨⟨i + 1, by simp, by omega, F5⟩, by simp; omega⟩
    · have hd : decide (i < n) = false := by simp; omega
      have F0 : Fr (fun _ => False) w wr.drew := HM.out.drew
      have hcall := HSP.out wr.drew F0
      have HF0 : Hd (Fr (fun _ => False) w wr.drew) := F0
      clear HM F0
      go_wp2_with fail
      refine wp_region_still_tail 8 mixed (by kernel_rfl) ?_
      simp only [List.take_succ_cons, List.take_zero, List.drop_succ_cons, List.drop_zero]
      repeat still_step
      refine wpStill_nil ?_
      go_wp2_with fail
      refine hcall.mono ?_
      rintro _ w5 ⟨rfl, hf5⟩
      have F5 : Hd (Fr (fun j => 10 ≤ own j) w w5) := (HF0.out.mono (fun _ _ h => h.elim)).trans hf5
      clear hcall hf5 c0 c1
      go_wp2_with fail
      go_ret
      exact ⟨rfl, F5.out⟩
end Go.Proofs.Ytgcekpmkniipfaa

namespace Go.Proofs.Ytgcekpmkniipfaa
open Go.RowKit (wrap32 wrap64)
set_option linter.unusedVariables false
set_option linter.unusedSimpArgs false

section
variable {w0 w w' : World} {B : Nat} {own0 own : Nat → Nat} {p q : TS} {r s : RS} {gs : List KR} {kb : Nat} {lv wv : Value} {sum : Nat} {ls ws : List KR} {bs : List (Nat × Obj)}
theorem swp_zero : swp 0 = 0 := rfl
theorem Kp.swap (h : Kp w B own kb lv wv sum ls ws) : Kp w B (fun j => swp (own j)) kb lv wv sum ls ws :=
  ⟨h.obj, by rw [h.ob]; rfl, h.lr, fun j e => by rw [h.lo j e]; rfl, h.wr, fun j e => by rw [h.wo j e]; rfl, fun i hi => by
    obtain ⟨h1, h2, h3, h4⟩ := h.wl i hi
    exact ⟨h1, h2, fun j e => ⟨by rw [(h3 j e).1]; rfl, (h3 j e).2⟩, fun j e => ⟨by rw [(h4 j e).1]; rfl, (h4 j e).2⟩⟩⟩
theorem Ak.swap (h : Ak w0 w B (fun _ => 0) own p q r s gs kb lv wv sum ls ws bs) : Ak w0 w B (fun _ => 0) (fun j => swp (own j)) q p s r gs kb lv wv sum ls ws bs :=
  ⟨h.sy.swap, h.kp.swap, fun x hx => ⟨(h.loc x hx).1, by rw [(h.loc x hx).2]; rfl⟩, h.fr, fun j hj => by show swp (own j) = 0; rw [h.ext j hj]; rfl, h.hB⟩
theorem Ak.then {w1 : World} {own1 : Nat → Nat} {p' q' : TS} {r' s' : RS} {gs' : List KR} {lv' wv' : Value} {sum' : Nat} {ls' ws' : List KR} {bs' : List (Nat × Obj)} (h : Ak w0 w B own0 own p q r s gs kb lv wv sum ls ws bs) (h2 : Ak w w1 B own own1 p' q' r' s' gs' kb lv' wv' sum' ls' ws' bs') : Ak w0 w1 B own0 own1 p' q' r' s' gs' kb lv' wv' sum' ls' ws' bs :=
  ⟨h2.sy, h2.kp, h.loc.fr h2.fr (fun _ h => h) h2.ext, h.fr.joins h2.fr (fun j hj e => by rw [← h.ext j hj]; exact e), fun j hj => (h2.ext j (Nat.lt_of_lt_of_le hj h.fr.size)).trans (h.ext j hj), h2.hB⟩
/-- A call of the first table. -/
theorem Ak.does (h : Ak w0 w B own0 own p q r s gs kb lv wv sum ls ws bs) (hN : p.N ≤ 90000000000) (kd ky : Int) (x : ByteArray) (hkd : kd = 1 ∨ kd = 2 ∨ kd = 3) (hk : In64 ky) :
    Calls Try.prog 17 #[.pointer (some ⟨p.b, 0, none⟩), opV kd ky x] w fun e w' => ∃ ka kn kc va vn vc p' own', e = .returned (.agg #[.bool (doR p.L (kd, ky, x)).ok, .string (doR p.L (kd, ky, x)).val, .slice ka kn kc, .slice va vn vc]) ∧ Ak w0 w' B own0 own' p' q r s (gs ++ [⟨.slice ka kn kc, .slice va vn vc, doR p.L (kd, ky, x)⟩]) kb lv wv sum ls ws bs ∧ p'.b = p.b ∧ p'.L = doT p.L (kd, ky, x) ∧ p'.N = p.N + 1 := by
  refine (does_any w p.b p.g p.N p.L kd ky x hkd h.sy.pt hk hN).mono ?_
  rintro _ w' ⟨rv, rfl, hd⟩
  obtain ⟨rk, ru, p', own1, e1, h1, e2, e3, e4, hr, he, hf⟩ := h.sy.does h.hB hd
  obtain ⟨own2, h2, he2, -⟩ := h1.kept (R := doR p.L (kd, ky, x)) (lo := w.heap.size) h.hB hr
  have he3 : Ext own own2 w := fun j hj => (he2 j hj).trans (he j hj)
  obtain ⟨⟨ka, kc, ek, -⟩, ⟨va, vc, ev, -⟩⟩ := hr.rows
  subst ek ev
  refine ⟨_, _, _, _, _, _, p', own2, by rw [e1], ⟨h2, h.kp.fr hf (fun j _ hj => by omega) he3, h.loc.fr hf (fun j hj => by omega) he3, ?_, fun j hj => (he3 j (Nat.lt_of_lt_of_le hj h.fr.size)).trans (h.ext j hj), Nat.le_trans h.hB hf.size⟩, e2, e3, e4⟩
  exact h.fr.joins hf (fun j hj hj2 => by rw [← h.ext j hj]; omega)
/-- A call of the document's first table. -/
theorem Ak.done (h : Ak w0 w B own0 own p q r s gs kb lv wv sum ls ws bs) (hl : r.L.length ≤ 3999999999) (kd ky : Int) (x : ByteArray) (hkd : kd = 1 ∨ kd = 2 ∨ kd = 3) :
    Calls Try.prog 18 #[.pointer (some ⟨r.c, 0, none⟩), opV kd ky x] w fun e w' => ∃ ka kn kc va vn vc r' own', e = .returned (.agg #[.bool (doR r.L (kd, ky, x)).ok, .string (doR r.L (kd, ky, x)).val, .slice ka kn kc, .slice va vn vc]) ∧ Ak w0 w' B own0 own' p q r' s gs kb lv wv sum ls ws bs ∧ r'.c = r.c ∧ r'.L = doT r.L (kd, ky, x) ∧ RpV w' w'.heap.size (doR r.L (kd, ky, x)) (.agg #[.bool (doR r.L (kd, ky, x)).ok, .string (doR r.L (kd, ky, x)).val, .slice ka kn kc, .slice va vn vc]) := by
  refine (do_any w B r.c r.kv r.vv r.L kd ky x hkd h.sy.rt h.hB hl).mono ?_
  rintro _ w' ⟨rv, rfl, hd⟩
  obtain ⟨rk, ru, r', own1, e1, h1, e2, e3, hrk, hru, he, hf⟩ := h.sy.done hd
  have hk := RowAt.own hrk
  have hv := RowAt.own hru
  have hk2 := hk
  have hv2 := hv
  obtain ⟨ka, kc, ek, -⟩ := hk2
  obtain ⟨va, vc, ev, -⟩ := hv2
  subst ek ev
  refine ⟨_, _, _, _, _, _, r', own1, by rw [e1], ⟨h1, h.kp.fr hf (fun j _ hj => by omega) he, h.loc.fr hf (fun j hj => by omega) he, ?_, fun j hj => (he j (Nat.lt_of_lt_of_le hj h.fr.size)).trans (h.ext j hj), Nat.le_trans h.hB hf.size⟩, e2, e3, ⟨_, _, rfl, hk, hv⟩⟩
  exact h.fr.joins hf (fun j hj hj2 => by rw [← h.ext j hj]; omega)
theorem Ak.unkeep {x : KR} (h : Ak w0 w B own0 own p q r s (gs ++ [x]) kb lv wv sum ls ws bs) : Ak w0 w B own0 own p q r s gs kb lv wv sum ls ws bs :=
  ⟨⟨h.sy.lt, h.sy.pt, h.sy.po, h.sy.qt, h.sy.qo, h.sy.rt, h.sy.ro, h.sy.st, h.sy.so, fun i hi => by
    have := h.sy.k i (by simp; omega)
    rw [List.getElem_append_left hi] at this
    exact this⟩, h.kp, h.loc, h.fr, h.ext, h.hB⟩
theorem Ak.drop {b2 : List (Nat × Obj)} (h : Ak w0 w B own0 own p q r s gs kb lv wv sum ls ws bs) (hb : ∀ x ∈ b2, x ∈ bs) : Ak w0 w B own0 own p q r s gs kb lv wv sum ls ws b2 :=
  ⟨h.sy, h.kp, fun x hx => h.loc x (hb x hx), h.fr, h.ext, h.hB⟩
end

/-- The state of the statement between two steps. -/
structure Ms (w wr : World) (own : Nat → Nat) (p q : TS) (r s : RS) (kb : Nat) (lv wv : Value) (sum : Nat) (ls ws : List KR) (bs : List (Nat × Obj)) (k : Nat) : Prop where
  ak : Ak w wr w.heap.size (fun _ => 0) own p q r s ls kb lv wv sum ls ws bs
  eq : ws.map KR.R = ls.map KR.R
  le : ∀ x ∈ ls, x.R.L.length ≤ 3000000000
  pr : p.L = r.L
  qs : q.L = s.L
  nb : r.L.length ≤ k ∧ s.L.length ≤ k ∧ p.N ≤ 4 * k ∧ q.N ≤ 4 * k ∧ ls.length ≤ 4 * k ∧ sum ≤ 100000000000
section
variable {w wr w' : World} {own : Nat → Nat} {p q : TS} {r s : RS} {kb : Nat} {lv wv : Value} {sum : Nat} {ls ws : List KR} {bs : List (Nat × Obj)} {k : Nat}
theorem Ms.wlen (h : Ms w wr own p q r s kb lv wv sum ls ws bs k) : ws.length = ls.length := by
  have := congrArg List.length h.eq
  simpa using this
theorem Ms.swap (h : Ms w wr own p q r s kb lv wv sum ls ws bs k) : Ms w wr (fun j => swp (own j)) q p s r kb lv wv sum ls ws bs k :=
  ⟨h.ak.swap, h.eq, h.le, h.qs, h.pr, ⟨h.nb.2.1, h.nb.1, h.nb.2.2.2.1, h.nb.2.2.1, h.nb.2.2.2.2⟩⟩
theorem Ms.box (h : Ms w wr own p q r s kb lv wv sum ls ws bs k) (o : Obj) : Ms w (wr.alloc o) own p q r s kb lv wv sum ls ws ((wr.heap.size, o) :: bs) k := ⟨h.ak.box o, h.eq, h.le, h.pr, h.qs, h.nb⟩
theorem Ms.quiet (h : Ms w wr own p q r s kb lv wv sum ls ws bs k) (f : Fr (fun _ => False) wr w') : Ms w w' own p q r s kb lv wv sum ls ws bs k := ⟨h.ak.quiet f, h.eq, h.le, h.pr, h.qs, h.nb⟩
theorem Ms.drop {b2 : List (Nat × Obj)} (h : Ms w wr own p q r s kb lv wv sum ls ws bs k) (hb : ∀ x ∈ b2, x ∈ bs) : Ms w wr own p q r s kb lv wv sum ls ws b2 k := ⟨h.ak.drop hb, h.eq, h.le, h.pr, h.qs, h.nb⟩
theorem Ms.next (h : Ms w wr own p q r s kb lv wv sum ls ws bs k) : Ms w wr own p q r s kb lv wv sum ls ws bs (k + 1) := ⟨h.ak, h.eq, h.le, h.pr, h.qs, by have := h.nb; omega⟩
/-- Four Snapshots are asked for. -/
theorem Ms.asks (h : Ms w wr own p q r s kb lv wv sum ls ws bs k) (hk : k ≤ 2200000000) (hs : sum ≤ 20000000000) :
    Calls Try.prog 16 #[.pointer (some ⟨kb, 0, none⟩), .pointer (some ⟨p.b, 0, none⟩), .pointer (some ⟨q.b, 0, none⟩), .pointer (some ⟨r.c, 0, none⟩), .pointer (some ⟨s.c, 0, none⟩)] wr fun e w' => e = .returned (.bool true) ∧ ∃ own' p' q' lv' wv' sum' ls' ws', Ms w w' own' p' q' r s kb lv' wv' sum' ls' ws' bs (k + 1) ∧ p'.b = p.b ∧ q'.b = q.b ∧ sum' ≤ sum + 4 * k := by
  obtain ⟨n1, n2, n3, n4, n5, n6⟩ := h.nb
  refine (asks_any wr w.heap.size own p q r s ls kb lv wv sum ls ws h.ak.sy h.ak.kp h.ak.hB (by omega) (by omega) (by omega) (by omega) (by omega) (by have := h.wlen; omega) (by omega) h.pr h.qs).mono ?_
  rintro _ w' ⟨rfl, own', p', q', lv', wv', A, D, E, C, X, Y, bs', hA, e1, e2, e3, e4, e5, e6, rA, rD, rE, rC, rX, rY⟩
  rw [show ls ++ [A] ++ [D] ++ [E] ++ [C] = ls ++ [A, D, E, C] by simp] at hA
  refine ⟨rfl, own', p', q', lv', wv', _, _, _, ⟨h.ak.then hA, ?_, ?_, by rw [e2]; exact h.pr, by rw [e5]; exact h.qs, ?_⟩, e1, e4, by omega⟩
  · simp only [List.map_append, List.map_cons, List.map_nil, h.eq, rA, rD, rE, rC, rX, rY]
  · intro x hx
    rcases List.mem_append.1 hx with hx | hx
    · exact h.le x hx
    · simp only [List.mem_cons, List.not_mem_nil, or_false] at hx
      rcases hx with rfl | rfl | rfl | rfl
      · rw [rA]; show r.L.length ≤ _; omega
      · rw [rD]; show r.L.length ≤ _; omega
      · rw [rE]; show s.L.length ≤ _; omega
      · rw [rC]; show r.L.length ≤ _; omega
  · refine ⟨by omega, by omega, by omega, by omega, by simp; omega, by omega⟩
theorem Ms.alone (h : Ms w wr own p q r s kb lv wv sum ls ws bs k) (hk : k ≤ 2200000000) : Calls Try.prog 20 #[.pointer (some ⟨kb, 0, none⟩)] wr fun e w' => e = .returned (.bool true) ∧ Ak w w' w.heap.size (fun _ => 0) own p q r s [] kb lv wv sum ls ws bs := by
  obtain ⟨n1, n2, n3, n4, n5, n6⟩ := h.nb
  refine (alone_any wr w.heap.size own p q r s ls kb lv wv sum ws h.ak.sy h.ak.kp h.ak.hB h.wlen (by omega) (fun i hi h2 => ⟨?_, h.le _ (List.getElem_mem hi)⟩)).mono ?_
  · have e := congrArg (fun l => l[i]?) h.eq
    simp only [List.getElem?_map, List.getElem?_eq_getElem hi, List.getElem?_eq_getElem h2, Option.map_some, Option.some.injEq] at e
    exact e
  · rintro _ w' ⟨rfl, hf⟩
    refine ⟨rfl, h.ak.sy.spoil hf, h.ak.kp.fr hf (fun j _ hj => by omega) (fun _ _ => rfl), h.ak.loc.fr hf (fun j hj => by omega) (fun _ _ => rfl), h.ak.fr.joins hf (fun j hj e => by have h0 : own j = 0 := h.ak.ext j hj; omega), h.ak.ext, Nat.le_trans h.ak.hB hf.size⟩
/-- The last Snapshots. -/
theorem Ak.last (h : Ak w wr w.heap.size (fun _ => 0) own p q r s [] kb lv wv sum ls ws bs) (hp : p.N ≤ 80000000000) (hq : q.N ≤ 80000000000) (hr : r.L.length ≤ 3000000000) (hs : s.L.length ≤ 3000000000) (hls : ls.length ≤ 9000000000) (hws : ws.length ≤ 9000000000) (hsum : sum ≤ 100000000000) (hpr : p.L = r.L) (hqs : q.L = s.L) :
    Calls Try.prog 16 #[.pointer (some ⟨kb, 0, none⟩), .pointer (some ⟨p.b, 0, none⟩), .pointer (some ⟨q.b, 0, none⟩), .pointer (some ⟨r.c, 0, none⟩), .pointer (some ⟨s.c, 0, none⟩)] wr fun e w' => e = .returned (.bool true) ∧ Fr (fun _ => False) w w' := by
  refine (asks_any wr w.heap.size own p q r s [] kb lv wv sum ls ws h.sy h.kp h.hB hp hq hr hs hls hws hsum hpr hqs).mono ?_
  rintro _ w' ⟨rfl, own', p', q', lv', wv', A, D, E, C, X, Y, bs', hA, -⟩
  exact ⟨rfl, (h.then hA).fr.mono (fun j _ e => e rfl)⟩
end
end Go.Proofs.Ytgcekpmkniipfaa
