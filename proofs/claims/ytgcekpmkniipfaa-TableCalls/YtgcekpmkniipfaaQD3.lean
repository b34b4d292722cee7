import Derived.Test.YtgcekpmkniipfaaQD1J
import Derived.Test.YtgcekpmkniipfaaQL1
import Derived.Deep.DeepCutAuto
namespace Go.Proofs.Ytgcekpmkniipfaa
open Go.RowKit (wrap32 wrap64)
set_option linter.unusedVariables false
set_option linter.unusedSimpArgs false

theorem info47 : (Try.prog.info? 47).map (fun i => (i.zero, i.size, i.bytes)) = some (some (.agg #[vI 0, vI 0, vI 0, vI 0, .string ⟨#[]⟩, .bool false, .string ⟨#[]⟩, .slice none 0 0, .slice none 0 0]), 9, 120) := by kernel_rfl
theorem under39 : Try.prog.underlying 39 = some (.slice 47) := by kernel_rfl

def isBeg (ms : List MomT) (j : Nat) : Bool := match ms[j]? with | some m => m.beg | none => false
def begsTo (ms : List MomT) (i : Nat) : List Nat := (List.range i).filter (isBeg ms)
theorem begsTo_succ (ms : List MomT) (i : Nat) : begsTo ms (i + 1) = if isBeg ms i then begsTo ms i ++ [i] else begsTo ms i := by
  unfold begsTo
  rw [List.range_succ, List.filter_append]
  cases h : isBeg ms i <;> simp [h]
/-- A call as it lies among the calls. -/
def CallRow (ms : List MomT) (i : Nat) (row : List Value) : Prop :=
  ∃ k m m' ka kn kc va vn vc, ms[i]? = some m ∧ Ends ms i k ∧ ms[k]? = some m' ∧ row = [vI i, vI k, vI m.op.1, vI m.op.2.1, .string m.op.2.2, .bool m'.rp.ok, .string m'.rp.val, .slice ka kn kc, .slice va vn vc]
theorem CallRow.len {ms : List MomT} {i : Nat} {row : List Value} (h : CallRow ms i row) : row.length = 9 := by
  obtain ⟨k, m, m', ka, kn, kc, va, vn, vc, -, -, -, rfl⟩ := h
  rfl
inductive All2 (p : Nat → List Value → Prop) : List Nat → List (List Value) → Prop
  | nil : All2 p [] []
  | snoc {l r a b} : All2 p l r → p a b → All2 p (l ++ [a]) (r ++ [b])
theorem All2.len {p : Nat → List Value → Prop} {l : List Nat} {r : List (List Value)} (h : All2 p l r) : l.length = r.length := by
  induction h with
  | nil => rfl
  | snoc _ _ ih => simp [ih]
theorem All2.get {p : Nat → List Value → Prop} {l : List Nat} {r : List (List Value)} (h : All2 p l r) : ∀ j (h1 : j < l.length) (h2 : j < r.length), p l[j] r[j] := by
  induction h with
  | nil => intro j h1; simp at h1
  | @snoc l r a b h' hp ih =>
    intro j h1 h2
    have hl := h'.len
    by_cases e : j < l.length
    · rw [List.getElem_append_left e, List.getElem_append_left (by omega)]
      exact ih j e (by omega)
    · have ej : j = l.length := by simp at h1; omega
      have e1 : (l ++ [a])[j] = a := by simp [ej]
      have e2 : (r ++ [b])[j] = b := by simp [ej, hl]
      rw [e1, e2]; exact hp
theorem nEnd_take (ms : List MomT) (i : Nat) (m : MomT) (h : ms[i]? = some m) : nEnd (ms.take (i + 1)) = nEnd (ms.take i) + if m.beg then 0 else 1 := by
  rw [List.take_add_one, h]
  exact nEnd_app _ m
theorem begsTo_len (ms : List MomT) : ∀ i, i ≤ ms.length → (begsTo ms i).length = nBeg (ms.take i)
  | 0, _ => rfl
  | i + 1, h => by
    have ih := begsTo_len ms i (by omega)
    have hm : ms[i]? = some ms[i] := List.getElem?_eq_getElem (by omega)
    have e : nBeg (ms.take (i + 1)) = nBeg (ms.take i) + if (ms[i]).beg then 1 else 0 := by
      rw [List.take_add_one, hm]; exact nBeg_app _ _
    rw [e, begsTo_succ, ← ih]
    have : isBeg ms i = ms[i].beg := by unfold isBeg; rw [hm]
    rw [this]
    cases ms[i].beg <;> simp

theorem Fr.drewN {S : Nat → Prop} {a w : World} (h : Fr S a w) (n : Nat) : Fr S a (w.drewN n) := ⟨h.os, h.tape, h.output, h.size, h.block⟩
theorem row_lt {w : World} {B e size n : Nat} {v : Value} {xs : List Value} (h : w.ownsRow B e size v n xs) : ∀ j, v.ownBlock = some j → j < w.heap.size := by
  intro j hj
  rcases h.2 with ⟨rfl, -⟩ | ⟨g, cap, cur, rfl, h3, h4, h5⟩
  · cases hj
  · have e : g = j := Option.some.inj hj
    subst e; exact heap_lt h4
theorem row_ge {w : World} {B e size n : Nat} {v : Value} {xs : List Value} (h : w.ownsRow B e size v n xs) : ∀ j, v.ownBlock = some j → B ≤ j := by
  intro j hj
  rcases h.2 with ⟨rfl, -⟩ | ⟨g, cap, cur, rfl, h3, h4, h5⟩
  · cases hj
  · have e : g = j := Option.some.inj hj
    subst e; exact h3
theorem row_val {w : World} {B e size n : Nat} {v : Value} {xs : List Value} (h : w.ownsRow B e size v n xs) : ∃ a c, v = .slice a n c := by
  rcases h.2 with ⟨rfl, rfl⟩ | ⟨g, cap, cur, rfl, h3, h4, h5⟩
  · exact ⟨_, _, rfl⟩
  · exact ⟨_, _, rfl⟩
set_option maxRecDepth 100000 in
set_option maxHeartbeats 4000000 in
theorem callsOf_any (w : World) (B : Nat) (mv : Value) (ms : List MomT) (h : MomsAt w B mv ms) (hE : ∀ (i : Nat) (m : MomT), ms[i]? = some m → m.beg = true → ∃ k, Ends ms i k) (hc : nBeg ms = nEnd ms) (hlen : ms.length ≤ 100000000000) :
    Calls Try.prog 14 #[mv] w fun e w' => ∃ lv rows, e = .returned (.tuple #[lv, .bool true]) ∧ w'.ownsRow w.heap.size 47 9 lv rows.length rows.flatten ∧ All2 (CallRow ms) (begsTo ms ms.length) rows ∧ Fr (fun _ => False) w w' := by
  obtain ⟨i47, hi47, hz47, hs47, hb47⟩ := info_parts info47
  obtain ⟨ad, cap, rfl, hx⟩ := h.cells
  have HX : Hd (ms ≠ [] → ∃ g, ad = some ⟨g, 0, none⟩ ∧ B ≤ g ∧ g < w.heap.size ∧ ∀ i (h : i < ms.length), MomC w g i ms[i]) := hx
  have HE : Hd (∀ (i : Nat) (m : MomT), ms[i]? = some m → m.beg = true → ∃ k, Ends ms i k) := hE
  have HC : Hd (nBeg ms = nEnd ms) := hc
  obtain ⟨n, en⟩ : ∃ n, n = ms.length := ⟨_, rfl⟩
  have EN : Hd (n = ms.length) := en
  rw [← en] at hlen ⊢
  clear h hx hE hc en
  go_enter Try.func14, Try.ntmps14
  go_wp2_with fail
  go_loopw [4, 5, 6] (fun v4 v5 v6 wr => ∃ (i q : Nat) (rows : List (List Value)), v6 = .int .i64 i ∧ v5 = .int .i64 q ∧ i ≤ n ∧ q ≤ i ∧ Hd (q = nEnd (ms.take i) ∧ wr.ownsRow w.heap.size 47 9 v4 rows.length rows.flatten ∧ All2 (CallRow ms) (begsTo ms i) rows ∧ rows.length ≤ i ∧ Fr (fun _ => False) w wr)) (fun _ _ v _ => match v with | .int _ q => n - q.toNat | _ => 0)
  case atStart => exact ⟨0, 0, [], rfl, rfl, by omega, by omega, rfl, World.ownsRow_nil _ _ _ _, All2.nil, by simp, Fr.refl _ _⟩
  case round =>
    obtain ⟨i, q, rows, rfl, rfl, hi, hq, HM⟩ := hrel
    by_cases hlt : i < n
    · have hil : i < ms.length := by rw [← EN.out]; exact hlt
      obtain ⟨g, rfl, hBg, hgw, hcs⟩ := HX.out (by intro e; rw [e] at hil; simp at hil)
      obtain ⟨hqe, hrow, hall, hrl, hF⟩ := HM.out
      have hm : ms[i]? = some ms[i] := List.getElem?_eq_getElem hil
      have hMi := hcs i hil
      have hne := nEnd_take ms i _ hm
      have hbs := begsTo_succ ms i
      have hib : isBeg ms i = ms[i].beg := by unfold isBeg; rw [hm]
      rw [hib] at hbs
      have HEi := HE.out i _ hm
      obtain ⟨m, em⟩ : ∃ m, m = ms[i] := ⟨_, rfl⟩
      rw [← em] at hm hMi hne hbs HEi
      obtain ⟨mc, mbeg, ⟨kd, ky, vs⟩, rp⟩ := m
      have a0 := (hF.cell hgw (fun h => h)).trans hMi.c0
      have a1 := (hF.cell hgw (fun h => h)).trans hMi.c1
      have a2 := (hF.cell hgw (fun h => h)).trans hMi.c2
      have a3 := (hF.cell hgw (fun h => h)).trans hMi.c3
      have a4 := (hF.cell hgw (fun h => h)).trans hMi.c4
      simp only at a0 a1 a2 a3 a4 hne hbs HEi
      have hi3 : (i : Int) < n := by omega
      have hi0 : (0 : Int) ≤ i := by omega
      cases hbg : mbeg with
      | false =>
        rw [hbg] at a1 hne hbs
        have HEND : Hd (q + 1 = nEnd (ms.take (i + 1)) ∧ wr.ownsRow w.heap.size 47 9 u4 rows.length rows.flatten ∧ All2 (CallRow ms) (begsTo ms (i + 1)) rows ∧ rows.length ≤ i + 1 ∧ Fr (fun _ => False) w wr) := by
          simp at hne hbs
          exact ⟨by omega, hrow, by rw [hbs]; exact hall, by omega, hF⟩
        clear HM hqe hrow hall hrl hF hm hMi hne hbs hib HEi em hcs
        go_wp2_with fail
        refine ⟨⟨i + 1, q + 1, rows, by simp, by simp, by omega, by omega, HEND⟩, by simp; omega⟩
      | true =>
        rw [hbg] at a1 hne hbs hm
        obtain ⟨K, hK⟩ := HEi hbg
        clear HEi
        obtain ⟨bb, ebb⟩ : ∃ bb, bb = wr.heap.size := ⟨_, rfl⟩
        have HB : Hd (bb = wr.heap.size) := ebb
        have hwb : w.heap.size ≤ bb := by rw [ebb]; exact hF.size
        have HG : Hd (q + 0 = nEnd (ms.take (i + 1)) ∧ begsTo ms (i + 1) = begsTo ms i ++ [i] ∧ All2 (CallRow ms) (begsTo ms i) rows ∧ rows.length ≤ i) := by
          simp at hne hbs
          exact ⟨by omega, hbs, hall, hrl⟩
        have HW : Hd (Fr (fun _ => False) w (wr.alloc (.cells #[vI i, vI (-1), vI kd, vI ky, .string vs, .bool false, .string ⟨#[]⟩, .slice none 0 0, .slice none 0 0] 47)) ∧ (wr.alloc (.cells #[vI i, vI (-1), vI kd, vI ky, .string vs, .bool false, .string ⟨#[]⟩, .slice none 0 0, .slice none 0 0] 47)).ownsRow w.heap.size 47 9 u4 rows.length rows.flatten ∧ (wr.alloc (.cells #[vI i, vI (-1), vI kd, vI ky, .string vs, .bool false, .string ⟨#[]⟩, .slice none 0 0, .slice none 0 0] 47)).heap[bb]? = some (.cells #[vI i, vI (-1), vI kd, vI ky, .string vs, .bool false, .string ⟨#[]⟩, .slice none 0 0, .slice none 0 0] 47)) :=
          ⟨hF.alloc _, World.ownsRow.alloc hrow _, by rw [ebb]; exact heap_alloc_last _ _⟩
        have HNB : Hd (∀ j, u4.ownBlock = some j → j < bb) := fun j hj => by rw [ebb]; exact row_lt hrow j hj
        have HKK : Hd (Ends ms i K) := hK
        have hiK := hK.lt
        have hKn : K < n := by rw [EN.out]; exact hK.hk
        have HCS : Hd (∀ (i : Nat) (h : i < ms.length), MomC w g i ms[i]) := hcs
        have HMI : Hd (ms[i]? = some ⟨mc, true, (kd, ky, vs), rp⟩) := hm
        have HM0 : Hd (MomC w g i ⟨mc, true, (kd, ky, vs), rp⟩) := by rw [hbg] at hMi; exact hMi
        clear HM hqe hrow hall hrl hF hm hMi hne hbs hib em hcs hK
        go_wp2_with fail
        rw [← ebb]
        clear ebb
        go_loopw [8] (fun v8 w2 => ∃ k : Nat, v8 = .int .i64 k ∧ i < k ∧ k ≤ K + 1 ∧ Hd (Fr (fun _ => False) w w2 ∧ w2.ownsRow w.heap.size 47 9 u4 rows.length rows.flatten ∧ ((k ≤ K ∧ w2.heap[bb]? = some (.cells #[vI i, vI (-1), vI kd, vI ky, .string vs, .bool false, .string ⟨#[]⟩, .slice none 0 0, .slice none 0 0] 47)) ∨ (k = K + 1 ∧ ∃ ok val ka kn kc va vn vc, CallRow ms i [vI i, vI K, vI kd, vI ky, .string vs, .bool ok, .string val, .slice ka kn kc, .slice va vn vc] ∧ w2.heap[bb]? = some (.cells #[vI i, vI K, vI kd, vI ky, .string vs, .bool ok, .string val, .slice ka kn kc, .slice va vn vc] 47))))) (fun v _ => match v with | .int _ q => n + 1 - q.toNat | _ => 0)
        case atStart => exact ⟨i + 1, by simp, by omega, by omega, HW.out.1, HW.out.2.1, Or.inl ⟨by omega, HW.out.2.2⟩⟩
        case round =>
          obtain ⟨k, rfl, hik, hkK, HI⟩ := hrel
          obtain ⟨hF2, hrow2, ⟨hk1, hbox⟩ | ⟨rfl, ok, val, ka, kn, kc, va, vn, vc, hcr, hbox⟩⟩ := HI.out
          · have hkl : k < ms.length := by rw [← EN.out]; omega
            have hmk : ms[k]? = some ms[k] := List.getElem?_eq_getElem hkl
            have hMk := HCS.out k hkl
            obtain ⟨m', em'⟩ : ∃ m', m' = ms[k] := ⟨_, rfl⟩
            rw [← em'] at hmk hMk
            obtain ⟨mc', mbeg', ⟨kd', ky', vs'⟩, ⟨rok, rval, rps⟩⟩ := m'
            have b0 := (hF2.cell hgw (fun h => h)).trans hMk.c0
            have b1 := (hF2.cell hgw (fun h => h)).trans hMk.c1
            have b2 := (hF2.cell hgw (fun h => h)).trans hMk.c2
            have b3 := (hF2.cell hgw (fun h => h)).trans hMk.c3
            have b4 := (hF2.cell hgw (fun h => h)).trans hMk.c4
            have b5 := (hF2.cell hgw (fun h => h)).trans hMk.c5
            have b6 := (hF2.cell hgw (fun h => h)).trans hMk.c6
            obtain ⟨ka, kn, kc, va, vn, vc, c7, c8⟩ := hMk.c78
            have b7 := (hF2.cell hgw (fun h => h)).trans c7
            have b8 := (hF2.cell hgw (fun h => h)).trans c8
            have a0' := (hF2.cell hgw (fun h => h)).trans HM0.out.c0
            have a2' := (hF2.cell hgw (fun h => h)).trans HM0.out.c2
            have a3' := (hF2.cell hgw (fun h => h)).trans HM0.out.c3
            have a4' := (hF2.cell hgw (fun h => h)).trans HM0.out.c4
            clear c7 c8
            simp only at b0 b1 b2 b3 b4 b5 b6 b7 b8 a0' a2' a3' a4'
            have d1 : wr.cell? ⟨bb, 1, none⟩ = some (vI (-1)) := cell_of hbox 1
            have f1 : wr.frozen? ⟨bb, 1, none⟩ = false := frozen_of hbox 1
            have hk3 : (k : Int) < n := by omega
            have hk0 : (0 : Int) ≤ k := by omega
            by_cases hke : k = K
            · subst hke
              obtain ⟨s1, s2, s3⟩ := HKK.out.same _ _ HMI.out hmk
              simp only at s1 s2 s3
              obtain ⟨rfl, rfl, rfl⟩ : kd' = kd ∧ ky' = ky ∧ vs' = vs := by
                simp only [Prod.mk.injEq] at s3; exact s3
              subst s1; subst s2
              have f5 : wr.frozen? ⟨bb, 5, none⟩ = false := frozen_of hbox 5
              have f6 : wr.frozen? ⟨bb, 6, none⟩ = false := frozen_of hbox 6
              have f7 : wr.frozen? ⟨bb, 7, none⟩ = false := frozen_of hbox 7
              have f8 : wr.frozen? ⟨bb, 8, none⟩ = false := frozen_of hbox 8
              have d5 : wr.cell? ⟨bb, 5, none⟩ = some (.bool false) := cell_of hbox 5
              have d6 : wr.cell? ⟨bb, 6, none⟩ = some (.string ⟨#[]⟩) := cell_of hbox 6
              have d7 : wr.cell? ⟨bb, 7, none⟩ = some (.slice none 0 0) := cell_of hbox 7
              have d8 : wr.cell? ⟨bb, 8, none⟩ = some (.slice none 0 0) := cell_of hbox 8
              have HBX : Hd (wr.heap[bb]? = some (.cells #[vI i, vI (-1), vI kd', vI ky', .string vs', .bool false, .string ⟨#[]⟩, .slice none 0 0, .slice none 0 0] 47) ∧ Fr (fun _ => False) w wr ∧ wr.ownsRow w.heap.size 47 9 u4 rows.length rows.flatten) := ⟨hbox, hF2, hrow2⟩
              have HMK : Hd (ms[k]? = some ⟨mc', false, (kd', ky', vs'), ⟨rok, rval, rps⟩⟩) := hmk
              clear HI hF2 hrow2 hbox hmk hMk em' s3
              have hgb : g ≠ bb := by omega
              have hgb' : bb ≠ g := by omega
              have HFIN : Hd (∀ N, Fr (fun _ => False) w ((((((wr.drewN N).setCell ⟨bb, 1, none⟩ (vI k)).setCell ⟨bb, 5, none⟩ (.bool rok)).setCell ⟨bb, 6, none⟩ (.string rval)).setCell ⟨bb, 7, none⟩ (.slice ka kn kc)).setCell ⟨bb, 8, none⟩ (.slice va vn vc)) ∧ ((((((wr.drewN N).setCell ⟨bb, 1, none⟩ (vI k)).setCell ⟨bb, 5, none⟩ (.bool rok)).setCell ⟨bb, 6, none⟩ (.string rval)).setCell ⟨bb, 7, none⟩ (.slice ka kn kc)).setCell ⟨bb, 8, none⟩ (.slice va vn vc)).ownsRow w.heap.size 47 9 u4 rows.length rows.flatten ∧ ((((((wr.drewN N).setCell ⟨bb, 1, none⟩ (vI k)).setCell ⟨bb, 5, none⟩ (.bool rok)).setCell ⟨bb, 6, none⟩ (.string rval)).setCell ⟨bb, 7, none⟩ (.slice ka kn kc)).setCell ⟨bb, 8, none⟩ (.slice va vn vc)).heap[bb]? = some (.cells #[vI i, vI k, vI kd', vI ky', .string vs', .bool rok, .string rval, .slice ka kn kc, .slice va vn vc] 47)) := by
                intro N
                obtain ⟨hbox, hF2, hrow2⟩ := HBX.out
                refine ⟨(((((hF2.drewN N).setCell _ _ (Or.inr hwb)).setCell _ _ (Or.inr hwb)).setCell _ _ (Or.inr hwb)).setCell _ _ (Or.inr hwb)).setCell _ _ (Or.inr hwb), ?_, ?_⟩
                · have hf : Fr (fun j => j = bb) wr _ := ((((((Fr.refl (fun j => j = bb) wr).drewN N).setCell ⟨bb, 1, none⟩ (vI k) (Or.inl rfl)).setCell ⟨bb, 5, none⟩ (.bool rok) (Or.inl rfl)).setCell ⟨bb, 6, none⟩ (.string rval) (Or.inl rfl)).setCell ⟨bb, 7, none⟩ (.slice ka kn kc) (Or.inl rfl)).setCell ⟨bb, 8, none⟩ (.slice va vn vc) (Or.inl rfl)
                  exact ownsRow_fr hrow2 hf (fun j hj e => by have := HNB.out j hj; omega)
                · have h0 : (wr.drewN N).heap[bb]? = _ := hbox
                  have h1 := set_of h0 1 (vI k)
                  have h2 := set_of h1 5 (.bool rok)
                  have h3 := set_of h2 6 (.string rval)
                  have h4 := set_of h3 7 (.slice ka kn kc)
                  exact set_of h4 8 (.slice va vn vc)
              have HCR : Hd (CallRow ms i [vI i, vI k, vI kd', vI ky', .string vs', .bool rok, .string rval, .slice ka kn kc, .slice va vn vc]) :=
                ⟨k, _, _, ka, kn, kc, va, vn, vc, HMI.out, HKK.out, HMK.out, rfl⟩
              go_wp2_with fail
              go_quiet (fail)
              go_wp2_with fail
              go_quiet (fail)
              go_wp2_with fail
              refine ⟨⟨k + 1, by simp, by omega, by omega, (HFIN.out _).1, (HFIN.out _).2.1, Or.inr ⟨rfl, rok, rval, ka, kn, kc, va, vn, vc, HCR.out, (HFIN.out _).2.2⟩⟩, by simp; omega⟩
            · have hnc : mc' ≠ mc := HKK.out.none k _ _ hik (by omega) HMI.out hmk
              have hdc : ((mc' : Int) == mc) = false := by simp; omega
              have HI2 : Hd (Fr (fun _ => False) w wr ∧ wr.ownsRow w.heap.size 47 9 u4 rows.length rows.flatten ∧ ((k + 1 ≤ K ∧ wr.heap[bb]? = some (.cells #[vI i, vI (-1), vI kd, vI ky, .string vs, .bool false, .string ⟨#[]⟩, .slice none 0 0, .slice none 0 0] 47)) ∨ (k + 1 = K + 1 ∧ ∃ ok val ka kn kc va vn vc, CallRow ms i [vI i, vI K, vI kd, vI ky, .string vs, .bool ok, .string val, .slice ka kn kc, .slice va vn vc] ∧ wr.heap[bb]? = some (.cells #[vI i, vI K, vI kd, vI ky, .string vs, .bool ok, .string val, .slice ka kn kc, .slice va vn vc] 47)))) :=
                ⟨hF2, hrow2, Or.inl ⟨by omega, hbox⟩⟩
              clear HI hF2 hrow2 hbox hmk hMk em' hnc
              go_wp2_with fail
              go_quiet (fail)
              go_wp2_with fail
              obtain ⟨h1, h2, h3⟩ := HI2.out
              refine ⟨⟨k + 1, by simp, by omega, by omega, h1.drewN _, ownsRow_fr h2 ((Fr.refl (fun _ => False) wr).drewN _) (fun _ _ h => h), h3⟩, by simp; omega⟩
          · have d0 : wr.cell? ⟨bb, 0, none⟩ = some (vI i) := cell_of hbox 0
            have d1 : wr.cell? ⟨bb, 1, none⟩ = some (vI K) := cell_of hbox 1
            have d2 : wr.cell? ⟨bb, 2, none⟩ = some (vI kd) := cell_of hbox 2
            have d3 : wr.cell? ⟨bb, 3, none⟩ = some (vI ky) := cell_of hbox 3
            have d4 : wr.cell? ⟨bb, 4, none⟩ = some (.string vs) := cell_of hbox 4
            have d5 : wr.cell? ⟨bb, 5, none⟩ = some (.bool ok) := cell_of hbox 5
            have d6 : wr.cell? ⟨bb, 6, none⟩ = some (.string val) := cell_of hbox 6
            have d7 : wr.cell? ⟨bb, 7, none⟩ = some (.slice ka kn kc) := cell_of hbox 7
            have d8 : wr.cell? ⟨bb, 8, none⟩ = some (.slice va vn vc) := cell_of hbox 8
            have hdK : decide ((K : Int) < 0) = false := by simp
            have hnews : ∀ j u, [vI i, vI K, vI kd, vI ky, .string vs, .bool ok, .string val, .slice ka kn kc, .slice va vn vc][j]? = some u → (wr.alloc (.cells #[vI i, vI K, vI kd, vI ky, .string vs, .bool ok, .string val, .slice ka kn kc, .slice va vn vc] 47)).cell? ((⟨wr.heap.size, 0, none⟩ : Addr).add j) = some u :=
              World.news_of_block (cs := #[vI i, vI K, vI kd, vI ky, .string vs, .bool ok, .string val, .slice ka kn kc, .slice va vn vc]) (heap_alloc_last wr _)
            have hbase : w.heap.size ≤ (wr.alloc (.cells #[vI i, vI K, vI kd, vI ky, .string vs, .bool ok, .string val, .slice ka kn kc, .slice va vn vc] 47)).heap.size := by have := hF2.size; simp; omega
            have HO2 : Hd ((wr.alloc (.cells #[vI i, vI K, vI kd, vI ky, .string vs, .bool ok, .string val, .slice ka kn kc, .slice va vn vc] 47)).ownsRow w.heap.size 47 9 u4 rows.length rows.flatten) := World.ownsRow.alloc hrow2 _
            have HF2 : Hd (Fr (fun _ => False) w wr) := hF2
            have HCR : Hd (CallRow ms i [vI i, vI K, vI kd, vI ky, .string vs, .bool ok, .string val, .slice ka kn kc, .slice va vn vc]) := hcr
            have hrl : rows.length ≤ i := HG.out.2.2.2
            clear HI hF2 hrow2 hbox hcr
            by_cases hKe : K + 1 < n
            · have hKe' : (K : Int) + 1 < n := by omega
              go_wp2_with ((at_builtin; refine Hd.out ?_))
              unfold Hd
              refine wpList_append_lies _ rfl (.tmp 83) (.tmp 85) 39 rfl w.heap.size 47 i47 (.agg #[vI 0, vI 0, vI 0, vI 0, .string ⟨#[]⟩, .bool false, .string ⟨#[]⟩, .slice none 0 0, .slice none 0 0]) 9 120 under39 hi47 hz47 hs47 hb47 rfl (by omega) u4 rows.length _ rfl HO2.out ⟨wr.heap.size, 0, none⟩ 1 1 [vI i, vI K, vI kd, vI ky, .string vs, .bool ok, .string val, .slice ka kn kc, .slice va vn vc] rfl rfl hnews (by intro u hu; simp at hu; rcases hu with rfl | rfl | rfl | rfl | rfl | rfl | rfl | rfl | rfl <;> rfl) (by omega) (by unfold maxLen; omega) (by omega) hbase (wr.heap.size + 1) (by simp) ?_
              intro g6 cap6 w6 hown6 hgrow6 hat6 hlt6
              have HEND : Hd (q = nEnd (ms.take (i + 1)) ∧ w6.ownsRow w.heap.size 47 9 (.slice (some ⟨g6, 0, none⟩) (rows.length + 1) cap6) (rows ++ [[vI i, vI K, vI kd, vI ky, .string vs, .bool ok, .string val, .slice ka kn kc, .slice va vn vc]]).length (rows ++ [[vI i, vI K, vI kd, vI ky, .string vs, .bool ok, .string val, .slice ka kn kc, .slice va vn vc]]).flatten ∧ All2 (CallRow ms) (begsTo ms (i + 1)) (rows ++ [[vI i, vI K, vI kd, vI ky, .string vs, .bool ok, .string val, .slice ka kn kc, .slice va vn vc]]) ∧ (rows ++ [[vI i, vI K, vI kd, vI ky, .string vs, .bool ok, .string val, .slice ka kn kc, .slice va vn vc]]).length ≤ i + 1 ∧ Fr (fun _ => False) w w6) := by
                obtain ⟨g1, g2, g3, g4⟩ := HG.out
                refine ⟨g1, ?_, by rw [g2]; exact All2.snoc g3 HCR.out, by simp; omega, ?_⟩
                · rw [List.length_append, List.flatten_append]
                  simpa using hown6
                · exact (HF2.out.alloc _).anew (grown_fr hgrow6) (fun j hj e => by have := row_ge HO2.out j e; omega)
              clear hown6 hgrow6 hat6 hlt6 HO2 HF2 HCR HG
              go_wp2_with fail
              refine ⟨⟨i + 1, q, rows ++ [[vI i, vI K, vI kd, vI ky, .string vs, .bool ok, .string val, .slice ka kn kc, .slice va vn vc]], by simp, rfl, by omega, by omega, HEND⟩, by simp; omega⟩
            · have hKe' : decide ((K : Int) + 1 < n) = false := by simp; omega
              go_wp2_with ((at_builtin; refine Hd.out ?_))
              unfold Hd
              refine wpList_append_lies _ rfl (.tmp 83) (.tmp 85) 39 rfl w.heap.size 47 i47 (.agg #[vI 0, vI 0, vI 0, vI 0, .string ⟨#[]⟩, .bool false, .string ⟨#[]⟩, .slice none 0 0, .slice none 0 0]) 9 120 under39 hi47 hz47 hs47 hb47 rfl (by omega) u4 rows.length _ rfl HO2.out ⟨wr.heap.size, 0, none⟩ 1 1 [vI i, vI K, vI kd, vI ky, .string vs, .bool ok, .string val, .slice ka kn kc, .slice va vn vc] rfl rfl hnews (by intro u hu; simp at hu; rcases hu with rfl | rfl | rfl | rfl | rfl | rfl | rfl | rfl | rfl <;> rfl) (by omega) (by unfold maxLen; omega) (by omega) hbase (wr.heap.size + 1) (by simp) ?_
              intro g6 cap6 w6 hown6 hgrow6 hat6 hlt6
              have HEND : Hd (q = nEnd (ms.take (i + 1)) ∧ w6.ownsRow w.heap.size 47 9 (.slice (some ⟨g6, 0, none⟩) (rows.length + 1) cap6) (rows ++ [[vI i, vI K, vI kd, vI ky, .string vs, .bool ok, .string val, .slice ka kn kc, .slice va vn vc]]).length (rows ++ [[vI i, vI K, vI kd, vI ky, .string vs, .bool ok, .string val, .slice ka kn kc, .slice va vn vc]]).flatten ∧ All2 (CallRow ms) (begsTo ms (i + 1)) (rows ++ [[vI i, vI K, vI kd, vI ky, .string vs, .bool ok, .string val, .slice ka kn kc, .slice va vn vc]]) ∧ (rows ++ [[vI i, vI K, vI kd, vI ky, .string vs, .bool ok, .string val, .slice ka kn kc, .slice va vn vc]]).length ≤ i + 1 ∧ Fr (fun _ => False) w w6) := by
                obtain ⟨g1, g2, g3, g4⟩ := HG.out
                refine ⟨g1, ?_, by rw [g2]; exact All2.snoc g3 HCR.out, by simp; omega, ?_⟩
                · rw [List.length_append, List.flatten_append]
                  simpa using hown6
                · exact (HF2.out.alloc _).anew (grown_fr hgrow6) (fun j hj e => by have := row_ge HO2.out j e; omega)
              clear hown6 hgrow6 hat6 hlt6 HO2 HF2 HCR HG
              go_wp2_with fail
              refine ⟨⟨i + 1, q, rows ++ [[vI i, vI K, vI kd, vI ky, .string vs, .bool ok, .string val, .slice ka kn kc, .slice va vn vc]], by simp, rfl, by omega, by omega, HEND⟩, by simp; omega⟩
    · have hdk : decide ((i : Int) < n) = false := by simp; omega
      obtain ⟨hqe, hrow, hall, hrl, hF⟩ := HM.out
      have ein : i = ms.length := by have := EN.out; omega
      obtain ⟨la, lc, rfl⟩ := row_val hrow
      have eqr : q = rows.length := by
        have h1 := hall.len
        have h2 := begsTo_len ms i (by omega)
        have h3 := HC.out
        rw [ein, List.take_length] at hqe h2
        rw [ein] at h1
        omega
      have HEND : Hd (wr.ownsRow w.heap.size 47 9 (.slice la rows.length lc) rows.length rows.flatten ∧ All2 (CallRow ms) (begsTo ms ms.length) rows ∧ Fr (fun _ => False) w wr) := ⟨hrow, by rw [← ein]; exact hall, hF⟩
      subst eqr
      clear HM hqe hrow hall hF ein
      go_wp2_with fail
      go_ret2
      have hEND := HEND.out
      rw [← EN.out] at hEND
      exact ⟨_, rows, rfl, hEND⟩
end Go.Proofs.Ytgcekpmkniipfaa
