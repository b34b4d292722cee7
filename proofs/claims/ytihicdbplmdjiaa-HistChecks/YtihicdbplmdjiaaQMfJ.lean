import Derived.Test.YtihicdbplmdjiaaQMe
import Derived.Test.YtihicdbplmdjiaaQD1J
import Derived.Test.YtihicdbplmdjiaaQLeJ
namespace Go.Proofs.Ytihicdbplmdjiaa
open Go.RowKit (wrap32 wrap64)
set_option linter.unusedVariables false
set_option linter.unusedSimpArgs false

set_option maxRecDepth 100000 in
set_option maxHeartbeats 4000000 in
/-- same: of two histories alike. -/
theorem same_any (iv hv : Value) (his hs : List Mo) (w : World) (hi : HAt2 w iv his) (hh : HAt2 w hv hs) (hl : hs.length ≤ 4000000000) (hL : ∀ m ∈ hs, m.R.r.keys.length ≤ 4000000000 ∧ m.R.r.vals.length ≤ 4000000000) (hpl : his.map Mo.pl = hs.map Mo.pl) :
    Calls Try.prog 20 #[iv, hv] w fun e w' => e = .returned (.bool true) ∧ Fr (fun _ => False) w w' := by
  have HCK : Hd (Calls Try.prog 7 #[iv] w fun e w' => e = .returned (vI (chk hs)) ∧ Fr (fun _ => False) w w') := by
    have := check_any iv his w hi
    rw [← chk_same hpl]; exact this
  have HOR : Hd (∀ W, Fr (fun _ => False) w W → Calls Try.prog 8 #[iv] W fun e w' => OrderR his W e w') := fun W f => order8_any iv his W (hi.fr f)
  have HRO : Hd (∀ W, Fr (fun _ => False) w W → Calls Try.prog 21 #[hv] W fun e w' => RoR hs W e w') := fun W f => rorder_any hv hs W (hh.fr f).1 hl hL
  have HRC : Hd (∀ W, Fr (fun _ => False) w W → Calls Try.prog 15 #[hv] W fun e w' => e = .returned (vI (chk hs)) ∧ Fr (fun _ => False) W w') := fun W f => rcheck_any hv hs W (hh.fr f).1 hl
  have HPL : Hd (his.map Mo.pl = hs.map Mo.pl ∧ ∀ cs, callsX hs = some cs → cs.length ≤ 64) := ⟨hpl, fun cs e => (calls_fine hh.2 e).2⟩
  clear hi hh hl hL hpl
  go_enter Try.func20, Try.ntmps20
  go_upto_region 2 with (go_at_call 7; refine HCK.out.mono ?_; rintro _ w1 ⟨rfl, hf1⟩; have HF1 : Hd (Fr (fun _ => False) w w1) := hf1; clear hf1)
  clear HCK
  go_upto_region 3 with (go_at_call 8; refine (HOR.out _ HF1.out).mono ?_; rintro _ w2 ⟨lv, ok, er, rfl, hf2, hE⟩; replace HF1 : Hd (Fr _ _ _) := HF1.out.trans hf2; have HE : Hd _ := copy_order HPL.out.1 hE; clear hf2 hE)
  clear HOR
  have HG : Hd (Fr (fun _ => False) w2 w2) := Fr.refl _ _
  go_upto_region 4 with (go_at_call 21; refine (HRO.out _ HF1.out).mono ?_; rintro _ w3 ⟨rv, rok, rer, rfl, hf3, hE⟩; replace HF1 : Hd (Fr _ _ _) := HF1.out.trans hf3; replace HG : Hd (Fr _ _ _) := HG.out.trans hf3; have HRE : Hd (RoE _ _ _ _ _ _) := hE; clear hf3 hE)
  clear HRO
  have HX : Hd (∃ os : List Int, RowAt w2 lv (os.map vI) ∧ RowAt w3 rv (os.map vI) ∧ os.length ≤ 64 ∧ rok = ok ∧ rer = er) := by
    rcases HE.out with ⟨hn, rfl, rfl, rfl⟩ | ⟨cs, hs', rfl, hres⟩
    · rcases HRE.out with ⟨-, rfl, rfl, rfl⟩ | ⟨cs, r, e, -⟩
      · exact ⟨[], RowAt.nil _, RowAt.nil _, by simp, rfl, rfl⟩
      · rw [hn] at e; cases e
    · have h64 := HPL.out.2 cs hs'
      rcases HRE.out with ⟨hn, -⟩ | ⟨cs', r, e, rfl, hro, hr⟩
      · rw [hn] at hs'; cases hs'
      · rw [hs'] at e; cases e
        obtain ⟨q1, q2⟩ := ref_ord hs' h64 hro
        rcases hres with ⟨hno, rfl, rfl⟩ | ⟨acc, hp, ho, rfl, hown⟩
        · rcases hr with ⟨-, rfl, rfl⟩ | ⟨fin, e2, -⟩
          · exact ⟨[], RowAt.nil _, RowAt.nil _, by simp, rfl, rfl⟩
          · rw [q1 hno] at e2; cases e2
        · rcases hr with ⟨e2, -⟩ | ⟨fin, e2, rfl, hown2⟩
          · rw [q2 acc hp ho] at e2; cases e2
          · rw [q2 acc hp ho] at e2
            cases e2
            refine ⟨acc.map (bI cs), ?_, ?_, ?_, rfl, rfl⟩
            · have := ownsRow_ra hown (by simp)
              simpa [List.map_map, Function.comp_def, bI_eq] using this
            · have := ownsRow_ra hown2 (by simp)
              simpa [List.map_map, Function.comp_def] using this
            · obtain ⟨hk, hb⟩ := calls_begun hs'
              obtain ⟨hg, ha⟩ := order_good h64 ho
              have := (good_played hb hk (calls_right hs') hp hg ha).2
              rw [List.length_map]; omega
  obtain ⟨os, hr1, hr2, hos, rfl, rfl⟩ := HX.out
  have HR : Hd (RowAt w2 lv (os.map vI) ∧ RowAt w3 rv (os.map vI) ∧ os.length ≤ 64) := ⟨hr1, hr2, hos⟩
  clear HX HE HRE hr1 hr2 hos
  obtain ⟨E, eE⟩ : ∃ E, E = chk hs := ⟨_, rfl⟩
  rw [← eE] at HRC ⊢
  have HG3 : Hd (Fr (fun _ => False) w3 w3) := Fr.refl _ _
  have hee : ((E : Int) == E) = true := by simp
  have hrr : ((rer : Int) == rer) = true := by simp
  cases rok
  all_goals
    go_wp2_with ((first | (go_at_call 15; refine (HRC.out _ HF1.out).mono ?_; rintro _ w4 ⟨rfl, hf4⟩; replace HF1 : Hd (Fr _ _ _) := HF1.out.trans hf4; replace HG : Hd (Fr _ _ _) := HG.out.trans hf4; replace HG3 : Hd (Fr _ _ _) := HG3.out.trans hf4; clear hf4) | (go_at_call 14; refine (eqInts_any lv rv os os _ (HR.out.1.fr HG.out (fun _ _ _ e => e)) (HR.out.2.1.fr HG3.out (fun _ _ _ e => e)) (by have := HR.out.2.2; omega) (by have := HR.out.2.2; omega)).mono ?_; rintro _ w5 ⟨rfl, hf5⟩; replace HF1 : Hd (Fr _ _ _) := HF1.out.trans hf5; clear hf5)))
    go_ret
    exact ⟨by simp, HF1.out⟩
end Go.Proofs.Ytihicdbplmdjiaa

namespace Go.Proofs.Ytihicdbplmdjiaa
open Go.RowKit (wrap32 wrap64)
set_option linter.unusedVariables false
set_option linter.unusedSimpArgs false

/-! ### a history with marks behind each list -/
def mkK (k : Nat) : List Value := (List.range k).map (fun j : Nat => vI (-21 - (j : Int)))
abbrev spB : ByteArray := ⟨#[115, 112, 97, 114, 101]⟩
def mkV (k : Nat) : List Value := List.replicate k (.string spB)
def mkMo (j : Nat) : Mo := ⟨-22 - (j : Int), false, 0, 0, ⟨#[]⟩, rv0⟩
def mkMs (k : Nat) : List Mo := (List.range k).map mkMo
theorem mkK_succ (k : Nat) : mkK (k + 1) = mkK k ++ [vI (-21 - (k : Int))] := by unfold mkK; rw [List.range_succ, List.map_append]; rfl
theorem mkV_succ (k : Nat) : mkV (k + 1) = mkV k ++ [.string spB] := by unfold mkV; rw [List.replicate_succ']
theorem mkMs_succ (k : Nat) : mkMs (k + 1) = mkMs k ++ [mkMo k] := by unfold mkMs; rw [List.range_succ, List.map_append]; rfl
theorem mkK_len (k : Nat) : (mkK k).length = k := by simp [mkK]
theorem mkV_len (k : Nat) : (mkV k).length = k := by simp [mkV]
theorem mkMs_len (k : Nat) : (mkMs k).length = k := by simp [mkMs]
/-- Rows of two kinds lie in two blocks. -/
theorem own_ne {w : World} {B B' e e' s s' n n' : Nat} {v v' : Value} {xs xs' : List Value} (h : w.ownsRow B e s v n xs) (h' : w.ownsRow B' e' s' v' n' xs') (he : e ≠ e') : ∀ j, v.ownBlock = some j → v'.ownBlock ≠ some j := fun j hj hj' => by
  rcases h.2 with ⟨rfl, -⟩ | ⟨g, c, cur, rfl, -, hb, -⟩
  · cases hj
  · rcases h'.2 with ⟨rfl, -⟩ | ⟨g', c', cur', rfl, -, hb', -⟩
    · cases hj'
    · have e1 : g = j := by simpa [Value.ownBlock] using hj
      have e2 : g' = j := by simpa [Value.ownBlock] using hj'
      subst e1 e2
      rw [hb] at hb'
      injection hb' with hb'
      injection hb' with _ h2
      exact he h2
def SpL (w : World) (B : Nat) (kv vv : Value) (r : Rpl) : Prop :=
  ∃ gk ck gv cv, kv = .slice (some ⟨gk, 0, none⟩) r.keys.length ck ∧ vv = .slice (some ⟨gv, 0, none⟩) r.vals.length cv ∧
    w.ownsRow B 3 1 (.slice (some ⟨gk, 0, none⟩) (r.keys.length + 64) ck) (r.keys.length + 64) (r.keys.map vI ++ mkK 64) ∧
    w.ownsRow B 9 1 (.slice (some ⟨gv, 0, none⟩) (r.vals.length + 64) cv) (r.vals.length + 64) (r.vals.map Value.string ++ mkV 64)
theorem SpL.fr {S : Nat → Prop} {w w' : World} {B : Nat} {kv vv : Value} {r : Rpl} (h : SpL w B kv vv r) (f : Fr S w w') (hS : ∀ j, S j → ∃ cs, w.heap[j]? = some (.cells cs 30)) : SpL w' B kv vv r := by
  obtain ⟨gk, ck, gv, cv, e1, e2, hk, hv⟩ := h
  refine ⟨gk, ck, gv, cv, e1, e2, ownsRow_fr hk f fun j hj hs => ?_, ownsRow_fr hv f fun j hj hs => ?_⟩
  · obtain ⟨cs, hb⟩ := hS j hs
    rcases hk.2 with ⟨e, -⟩ | ⟨g, c, cur, e, -, hb', -⟩
    · cases e
    · cases e
      have e1 : gk = j := by simpa [Value.ownBlock] using hj
      subst e1
      rw [hb] at hb'
      injection hb' with hb'
      injection hb' with _ h2
      exact absurd h2 (by decide)
  · obtain ⟨cs, hb⟩ := hS j hs
    rcases hv.2 with ⟨e, -⟩ | ⟨g, c, cur, e, -, hb', -⟩
    · cases e
    · cases e
      have e1 : gv = j := by simpa [Value.ownBlock] using hj
      subst e1
      rw [hb] at hb'
      injection hb' with hb'
      injection hb' with _ h2
      exact absurd h2 (by decide)
theorem SpL.mono {w : World} {B B' : Nat} {kv vv : Value} {r : Rpl} (h : SpL w B kv vv r) (hB : B' ≤ B) : SpL w B' kv vv r := by
  obtain ⟨gk, ck, gv, cv, e1, e2, hk, hv⟩ := h
  exact ⟨gk, ck, gv, cv, e1, e2, World.ownsRow.mono hk hB, World.ownsRow.mono hv hB⟩
/-- The lists as they lie, with marks behind or not. -/
theorem row_pre {w : World} {B e n k cap g : Nat} {xs ys : List Value} (h : w.ownsRow B e 1 (.slice (some ⟨g, 0, none⟩) (n + k) cap) (n + k) (xs ++ ys)) (hn : xs.length = n) : RowAt w (.slice (some ⟨g, 0, none⟩) n cap) xs := by
  subst hn
  refine ⟨some ⟨g, 0, none⟩, cap, rfl, fun hne => ⟨g, 0, rfl, fun i hi => ?_⟩⟩
  rcases h.2 with ⟨e1, -⟩ | ⟨g', cap', cur, e1, b1, b2, b3, b4, b5, b6⟩
  · cases e1
  · cases e1
    rw [cell_of b2, Nat.zero_add]
    have e1 : cur[i]? = (xs ++ ys)[i]? := by rw [← b6, List.getElem?_take, if_pos (by omega), Array.getElem?_toList]
    rw [e1, List.getElem?_append_left hi, List.getElem?_eq_getElem hi]
theorem row_cell {w : World} {B e n cap g : Nat} {xs : List Value} (h : w.ownsRow B e 1 (.slice (some ⟨g, 0, none⟩) n cap) n xs) (i : Nat) (hi : i < n) : w.cell? ⟨g, i, none⟩ = xs[i]? ∧ w.frozen? ⟨g, i, none⟩ = false := by
  rcases h.2 with ⟨e1, -⟩ | ⟨g', cap', cur, e1, b1, b2, b3, b4, b5, b6⟩
  · cases e1
  · cases e1
    refine ⟨?_, frozen_of b2 i⟩
    rw [cell_of b2, ← b6, List.getElem?_take, if_pos (by omega), Array.getElem?_toList]
theorem row_cap {w : World} {B e s n cap : Nat} {a : Option Addr} {xs : List Value} (h : w.ownsRow B e s (.slice a n cap) n xs) : n ≤ cap ∧ cap ≤ maxLen := by
  rcases h.2 with ⟨e1, e2⟩ | ⟨g', cap', cur, e1, b1, b2, b3, b4, b5, b6⟩
  · cases e1; exact ⟨by omega, by unfold maxLen; omega⟩
  · cases e1; exact ⟨b3, b4⟩
theorem SpL.at {w : World} {B : Nat} {kv vv : Value} {r : Rpl} (h : SpL w B kv vv r) : RV.At w ⟨r, kv, vv⟩ := by
  obtain ⟨gk, ck, gv, cv, rfl, rfl, hk, hv⟩ := h
  exact ⟨row_pre hk (by simp), row_pre hv (by simp)⟩
def SpM (w : World) (B : Nat) (h ms : List Mo) : Prop := ∀ (k : Nat) (m' : Mo), ms[k]? = some m' → ∃ m : Mo, h[k]? = some m ∧ (∃ kv vv, m' = m.with kv vv) ∧ SpL w B m'.R.kv m'.R.vv m.R.r
theorem SpM.fr {S : Nat → Prop} {w w' : World} {B : Nat} {h ms : List Mo} (x : SpM w B h ms) (f : Fr S w w') (hS : ∀ j, S j → ∃ cs, w.heap[j]? = some (.cells cs 30)) : SpM w' B h ms := fun k m' e => by
  obtain ⟨m, h1, h2, h3⟩ := x k m' e
  exact ⟨m, h1, h2, h3.fr f hS⟩
def SpH (w : World) (B : Nat) (lv : Value) (h : List Mo) : Prop :=
  ∃ g cap ms, lv = .slice (some ⟨g, 0, none⟩) h.length cap ∧ MsOwn w B (.slice (some ⟨g, 0, none⟩) (h.length + 64) cap) (ms ++ mkMs 64) ∧ ms.length = h.length ∧ SpM w B h ms
theorem SpH.go {w w' : World} {B : Nat} {lv : Value} {h : List Mo} (x : SpH w B lv h) (f : Fr (fun _ => False) w w') : SpH w' B lv h := by
  obtain ⟨g, cap, ms, e, h1, h2, h3⟩ := x
  exact ⟨g, cap, ms, e, h1.fr f (fun _ _ e => e), h2, h3.fr f (fun _ e => e.elim)⟩
theorem ms_own30 {w : World} {B : Nat} {v : Value} {ms : List Mo} (h : MsOwn w B v ms) : ∀ j, v.ownBlock = some j → ∃ cs, w.heap[j]? = some (.cells cs 30) := fun j hj => by
  rcases h.2 with ⟨rfl, -⟩ | ⟨g, c, cur, rfl, -, hb, -⟩
  · cases hj
  · have e1 : g = j := by simpa [Value.ownBlock] using hj
    subst e1
    exact ⟨cur, hb⟩
theorem spm_pl {w : World} {B : Nat} {h ms : List Mo} (x : SpM w B h ms) (hl : ms.length = h.length) : ms.map Mo.pl = h.map Mo.pl := by
  refine List.ext_getElem? fun k => ?_
  rw [List.getElem?_map, List.getElem?_map]
  cases e : ms[k]? with
  | none =>
    have : ms.length ≤ k := List.getElem?_eq_none_iff.1 e
    rw [List.getElem?_eq_none (by omega)]
  | some m' =>
    obtain ⟨m, hm, ⟨kv, vv, e2⟩, -⟩ := x k m' e
    rw [hm, e2]; rfl
end Go.Proofs.Ytihicdbplmdjiaa
