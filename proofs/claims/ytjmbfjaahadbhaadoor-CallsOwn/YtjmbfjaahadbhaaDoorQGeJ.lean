import Derived.Test.YtjmbfjaahadbhaaDoorQPdJ
import Derived.Test.YtjmbfjaahadbhaaDoorQN4J
set_option linter.unusedVariables false
set_option linter.unusedSimpArgs false
namespace Go.Proofs.YtjmbfjaahadbhaaDoor
open Go.RowKit (wrap32 wrap64)

theorem TI.cnt {N : Nat} {cl : Nat → List Nat} {of : Nat → Int} {met low nxt : Nat → Nat} {path opn : List Nat} {count steps : Nat} (h : TI N cl of met low nxt path opn count steps) : count ≤ N := by
  have ex : ∀ k, ∃ x, k < count → of x = (k : Int) := fun k => by
    by_cases hk : k < count
    · obtain ⟨x, hx⟩ := h.cs k hk
      exact ⟨x, fun _ => hx⟩
    · exact ⟨0, fun h => absurd h hk⟩
  have hg : ∀ k, k < count → of (Classical.choose (ex k)) = (k : Int) := fun k => Classical.choose_spec (ex k)
  have := nodup_le (l := (List.range count).map (fun k => Classical.choose (ex k))) (n := N) (by
    rw [List.Nodup, List.pairwise_map]
    refine List.pairwise_lt_range.imp_of_mem (fun {a b} ha hb hlt e => ?_)
    rw [List.mem_range] at ha hb
    have k1 := hg a ha
    have k2 := hg b hb
    rw [e] at k1
    omega) (by
    intro x hx
    rw [List.mem_map] at hx
    obtain ⟨k, hk, rfl⟩ := hx
    rw [List.mem_range] at hk
    exact h.mN _ (h.cm _ (by rw [hg k hk]; omega)).1)
  rwa [List.length_map, List.length_range] at this
/-- A list of one's own that is not empty lies at the beginning of its block. -/
theorem iown_some {w : World} {B : Nat} {v : Value} {l : List Int} (h : IOwn w B v l) (hl : 0 < l.length) : ∃ g c, v = .slice (some ⟨g, 0, none⟩) l.length c ∧ l.length ≤ c ∧ ∀ i (hi : i < l.length), w.cell? ⟨g, i, none⟩ = some (vI l[i]) := by
  rcases h.2 with ⟨e, e2⟩ | ⟨g, cap, cur, e, -, -, h3, -⟩
  · omega
  · obtain ⟨a, c, e2, h4⟩ := h.ia
    obtain ⟨k, o, e3, -, h5⟩ := h4 (List.length_pos_iff.1 hl)
    rw [e] at e2
    injection e2 with e4 e5 e6
    rw [e3] at e4
    injection e4 with e4
    injection e4 with e7 e8
    subst e7 e8
    exact ⟨g, cap, by rw [e], h3, fun i hi => by have := h5 i hi; rwa [Nat.zero_add] at this⟩
/-- What leave leaves. -/
def LvE (B0 B b go gm gl gn N : Nat) (cl : Nat → List Nat) (clv : Value) (met low nxt : Nat → Nat) (r : List Nat) (steps : Nat) (w : World) (e : Ending) (w' : World) : Prop :=
  e = .returned (.tuple #[]) ∧ (∃ of' opn' count', Se w' B0 B b go gm gl gn N cl clv of' met low nxt r opn' count' steps) ∧ Fr (fun k => B0 ≤ k) w w'

set_option maxRecDepth 100000 in
set_option maxHeartbeats 4000000 in
theorem sleave_any {B0 B b go gm gl gn N : Nat} {cl : Nat → List Nat} {clv : Value} {of : Nat → Int} {met low nxt : Nat → Nat} {r opn : List Nat} {count steps f : Nat} (w : World) (h : Se w B0 B b go gm gl gn N cl clv of met low nxt (r ++ [f]) opn count steps) (hn : nxt f = (cl f).length) (hN : N ≤ 1000000) :
    Calls Tryd.prog 73 #[.pointer (some ⟨b, 0, none⟩)] w (LvE B0 B b go gm gl gn N cl clv met low nxt r steps w) := by
  have hfo : f ∈ opn := h.ti.po f (by simp)
  have hfm := (h.ti.om f).1 hfo
  have hfN : f < N := h.ti.mN f hfm.1
  have hcnt := h.ti.cnt
  have hlp : (r ++ [f]).length ≤ N := nodup_le (h.ti.ps.imp (fun h e => by rw [e] at h; omega)) (fun x hx => h.ti.mN x ((h.ti.om x).1 (h.ti.po x hx)).1)
  rw [List.length_append, List.length_singleton] at hlp
  have hnd : opn.Nodup := h.ti.os.imp (fun h e => by rw [e] at h; omega)
  have hlo : opn.length ≤ N := nodup_le hnd (fun x hx => h.ti.mN x ((h.ti.om x).1 hx).1)
  have hms : met f ≤ steps := h.ti.ms f
  have hlm := (h.ti.lo f hfo).1
  have hsN : steps ≤ N := by have := h.ti.st; omega
  have HTI : Hd (TI N cl of met low nxt (r ++ [f]) opn count steps) := h.ti
  have HLA : Hd (LB B0 w clv (zLs N cl)) := h.la
  have HB : Hd (B0 ≤ b ∧ B0 ≤ go ∧ B0 ≤ gm ∧ B0 ≤ gl ∧ B0 ≤ gn ∧ B0 ≤ B ∧ B ≤ w.heap.size) := h.hB
  obtain ⟨⟨pv, ov, hs⟩, -, -, -⟩ := h
  obtain ⟨gp, pc, epv, hpc, hpcell⟩ := iown_some hs.rp (by simp)
  obtain ⟨gO, oc, eov, -, -⟩ := iown_some hs.ro (by rw [List.length_map]; exact List.length_pos_of_mem hfo)
  have hplen : (zL (r ++ [f])).length = r.length + 1 := by simp
  rw [hplen] at epv hpc
  rw [List.length_map] at eov
  subst epv eov
  have pl : w.cell? ⟨gp, r.length, none⟩ = some (vI (f : Int)) := by
    rw [hpcell r.length (by rw [hplen]; omega)]
    simp
  have hcut := iown_cut hs.rp (m := r.length) (by omega) hplen.symm
  have htk : (zL (r ++ [f])).take r.length = zL r := by
    rw [zL_app, List.take_append_of_le_length (by simp)]
    exact List.take_of_length_le (by simp)
  rw [htk] at hcut
  obtain ⟨k1, -, -⟩ := hs.setPath (w6 := w) (Fr.refl _ w) hcut (fun k e => Or.inl e)
  obtain ⟨w1, hw1⟩ : ∃ w1, w1 = w.setCell ⟨b, 6, none⟩ (.slice (some ⟨gp, 0, none⟩) r.length pc) := ⟨_, rfl⟩
  rw [← hw1] at k1
  have HS1 : Hd (Sc w1 B b go gm gl gn N clv (.slice (some ⟨gp, 0, none⟩) r.length pc) (.slice (some ⟨gO, 0, none⟩) opn.length oc) of (zF met) (zF low) (zF nxt) count steps (zL r) (zL opn)) := k1
  have HF1 : Hd (Fr (fun k => B0 ≤ k) w w1) := by unfold Hd; rw [hw1]; exact (Fr.refl _ w).setCell _ _ (Or.inl HB.out.1)
  have HW1 : Hd (w1 = w.setCell ⟨b, 6, none⟩ (.slice (some ⟨gp, 0, none⟩) r.length pc)) := hw1
  have c6 : w.cell? ⟨b, 6, none⟩ = some (.slice (some ⟨gp, 0, none⟩) (r.length + 1) pc) := by rw [cell_of0 hs.blk]; rfl
  have z6 : w.frozen? ⟨b, 6, none⟩ = false := frozen_of hs.blk 6
  have q1 : ((r.length + 1 : Nat) : Int) - 1 = (r.length : Int) := by omega
  have q0 : (0 : Int) ≤ (r.length : Int) := by omega
  have q2 : (r.length : Int) < ((r.length + 1 : Nat) : Int) := by omega
  have q3 : (r.length : Int) < (r.length : Int) + 1 := by omega
  have q4 : (r.length : Int) ≤ (pc : Int) := by omega
  have HFM : Hd (met f ≠ 0 ∧ of f < 0) := hfm
  have HND : Hd (opn.Nodup ∧ f ∈ opn) := ⟨hnd, hfo⟩
  clear k1 hs hpcell hcut htk hw1 hplen hnd hfo hfm
  go_enter Tryd.func73, Tryd.ntmps73
  go_upto_region 3 with fail
  rw [← HW1.out]
  clear HW1 c6 z6 pl q1 q2 q3 q4
  have c3 : w1.cell? ⟨b, 3, none⟩ = some (.slice (some ⟨gm, 0, none⟩) N N) := by rw [cell_of0 HS1.out.blk]; rfl
  have c4 : w1.cell? ⟨b, 4, none⟩ = some (.slice (some ⟨gl, 0, none⟩) N N) := by rw [cell_of0 HS1.out.blk]; rfl
  have p3 : w1.cell? ⟨gm, f, none⟩ = some (vI (met f : Int)) := HS1.out.rme.cell hfN
  have p4 : w1.cell? ⟨gl, f, none⟩ = some (vI (low f : Int)) := HS1.out.rlo.cell hfN
  have g0 : (0 : Int) ≤ f := by omega
  have g1 : (f : Int) < N := by omega
  by_cases hlmf : low f = met f
  · have de : ((low f : Int) == (met f : Int)) = true := by simp [hlmf]
    have HLM : Hd (low f = met f) := hlmf
    clear hlmf
    go_quiet (fail)
    obtain ⟨W, hW⟩ : ∃ W, W = w1.drewN nq := ⟨_, rfl⟩
    have fW : Fr (fun _ => False) w1 W := by rw [hW]; exact ⟨rfl, rfl, rfl, Nat.le_refl _, fun _ _ _ => rfl⟩
    have HS2 : Hd (Sc W B b go gm gl gn N clv (.slice (some ⟨gp, 0, none⟩) r.length pc) (.slice (some ⟨gO, 0, none⟩) (zL opn).length oc) of (zF met) (zF low) (zF nxt) count steps (zL r) (zL opn)) := by
      rw [List.length_map]
      exact HS1.out.stay fW
    have HF2 : Hd (Fr (fun k => B0 ≤ k) w W) := HF1.out.trans (fW.mono (fun _ _ e => e.elim))
    rw [← hW]
    clear hW fW HS1 HF1 c3 c4 p3 p4
    go_wp2_with fail
    obtain ⟨a, b', eab⟩ := List.append_of_mem HND.out.2
    subst eab
    have hl2 : (zL (a ++ f :: b')).length = a.length + (b'.length + 1) := by simp
    refine (tell_any a.length f W HS2.out (by omega) (by simp) hfN (by
      unfold zL
      rw [List.Nodup, List.pairwise_map]
      exact HND.out.1.imp (fun h e => h (by omega))) (by
      intro x hx
      rw [List.mem_map] at hx
      obtain ⟨y, hy, rfl⟩ := hx
      have := HTI.out.mN y ((HTI.out.om y).1 hy).1
      omega) HFM.out.2 (by omega) hN (by rw [List.length_map]; omega)).mono ?_
    rintro e w4 ⟨rfl, ⟨ov', h4, -⟩, hF4⟩
    have eof : ofX of (zL (a ++ f :: b')) count a.length = (fun x => if x ∈ f :: b' then (count : Int) else of x) := by
      funext x
      unfold ofX
      have : (zL (a ++ f :: b')).drop a.length = zL (f :: b') := by
        unfold zL
        rw [List.map_append, List.drop_append_of_le_length (by simp), List.drop_of_length_le (by simp)]
        rfl
      rw [this]
      by_cases e : x ∈ f :: b'
      · rw [if_pos e, if_pos (List.mem_map.2 ⟨x, e, rfl⟩)]
      · rw [if_neg e, if_neg (fun h => e (by
          obtain ⟨y, hy, e2⟩ := List.mem_map.1 h
          have : y = x := by omega
          rw [← this]; exact hy))]
    have etk : (zL (a ++ f :: b')).take a.length = zL a := by
      unfold zL
      rw [List.map_append, List.take_append_of_le_length (by simp), List.take_of_length_le (by simp)]
    rw [eof, etk] at h4
    have HE : Hd (LvE B0 B b go gm gl gn N cl clv met low nxt r steps w (.returned (.tuple #[])) w4) := by
      obtain ⟨b1, b2, b3, b4, b5, b6, b7⟩ := HB.out
      have hF5 : Fr (fun k => B0 ≤ k) w w4 := HF2.out.trans (hF4.mono (fun k _ e => by rcases e with e | e <;> omega))
      exact ⟨rfl, ⟨_, a, count + 1, ⟨_, _, h4⟩, HLA.out.fr (by omega) hF5 (fun k hk => by omega), HTI.out.told hn HLM.out, b1, b2, b3, b4, b5, b6, Nat.le_trans b7 hF5.size⟩, hF5⟩
    clear h4 hF4 HS2 HF2
    go_wp2_with fail
    go_end0
    exact HE.out
  · have de : ((low f : Int) == (met f : Int)) = false := by simp; omega
    have HLM : Hd (low f ≠ met f) := hlmf
    clear hlmf
    go_quiet (fail)
    obtain ⟨W, hW⟩ : ∃ W, W = w1.drewN nq := ⟨_, rfl⟩
    have fW : Fr (fun _ => False) w1 W := by rw [hW]; exact ⟨rfl, rfl, rfl, Nat.le_refl _, fun _ _ _ => rfl⟩
    have HE : Hd (LvE B0 B b go gm gl gn N cl clv met low nxt r steps w (.returned (.tuple #[])) W) := by
      obtain ⟨b1, b2, b3, b4, b5, b6, b7⟩ := HB.out
      have hF5 : Fr (fun k => B0 ≤ k) w W := HF1.out.trans (fW.mono (fun _ _ e => e.elim))
      exact ⟨rfl, ⟨of, opn, count, ⟨_, _, HS1.out.stay fW⟩, HLA.out.fr (by omega) hF5 (fun k hk => by omega), HTI.out.leave hn HLM.out, b1, b2, b3, b4, b5, b6, Nat.le_trans b7 hF5.size⟩, hF5⟩
    rw [← hW]
    clear hW fW HS1 HF1 c3 c4 p3 p4
    go_wp2_with fail
    go_end0
    exact HE.out

/-- One more number in one of the lists. -/
theorem Cr.push {w wz w9 : World} {B cg r g6 cap6 m n vc : Nat} {va : Option Addr} {cv : Nat → Value} {cl : Nat → List Int} {x : Int} (h : Cr w B cg r cv cl) (fz : Fr (fun _ => False) w wz) (hsz : wz.heap.size = w.heap.size + 1) (hm : m < r) (ev : cv m = .slice va n vc) (hlen : n = (cl m).length) (hg : wz.grownBy w9 (Value.slice va n vc).ownBlock) (ho : w9.ownsRow B 3 1 (.slice (some ⟨g6, 0, none⟩) (n + 1) cap6) (n + 1) ((cl m).map vI ++ [vI x])) (hat : (Value.slice va n vc).ownBlock = some g6 ∨ g6 = w.heap.size + 1) :
    Cr (w9.setCell ⟨cg, m, none⟩ (.slice (some ⟨g6, 0, none⟩) (n + 1) cap6)) B cg r (Wg.upd cv m (.slice (some ⟨g6, 0, none⟩) (n + 1) cap6)) (Wg.upd cl m (cl m ++ [x])) ∧ w9.cell? ⟨cg, m, none⟩ = some (.slice va n vc) ∧ w9.frozen? ⟨cg, m, none⟩ = false ∧ Fr (fun k => k = cg ∨ B ≤ k) w (w9.setCell ⟨cg, m, none⟩ (.slice (some ⟨g6, 0, none⟩) (n + 1) cap6)) ∧ Fr (fun k => B ≤ k) w w9 := by
  subst hlen
  have hz := h.stay fz
  have f9 := grown_frL hg
  have hge : ∀ k, (Value.slice va (cl m).length vc).ownBlock = some k → B ≤ k := fun k e => ((h.own m hm).ge k (by rw [ev]; exact e)).1
  have hrow9 : Wg.Row w9 25 cg r cv := hz.row.fr f9 (fun e => iown_row_ne hz.row (by decide) (hz.own m hm) (by rw [ev]; exact e))
  have ho' : IOwn w9 B (.slice (some ⟨g6, 0, none⟩) ((cl m).length + 1) cap6) (cl m ++ [x]) := by unfold IOwn; simpa using ho
  have happ := Cr.app (x := x) hz hm (by rw [ev]; exact hg) ho' (by
    rw [ev]
    rcases hat with e | e
    · exact Or.inl e
    · exact Or.inr (by omega))
  have fb : Fr (fun k => B ≤ k) w w9 := (fz.mono (fun _ _ e => e.elim)).trans (f9.mono (fun k _ e => hge k e))
  refine ⟨happ, by rw [hrow9.cell hm, ev], hrow9.frozen m, ?_, fb⟩
  exact (fb.mono (fun _ _ e => Or.inr e)).trans ((setCell_fr w9 cg m _).mono (fun _ _ e => Or.inl e))
/-- What addCaller leaves. -/
def AcE (B cg n : Nat) (L : Nat → List Nat) (d c : Nat) (w : World) (e : Ending) (w' : World) : Prop :=
  e = .returned (.tuple #[]) ∧ (∃ cv', Cr w' B cg n cv' (fun i => zL (Wg.upd L d (if c = d ∨ (L d).getLast? = some c then L d else L d ++ [c]) i))) ∧ Fr (fun k => k = cg ∨ B ≤ k) w w'
theorem zL_upd (L : Nat → List Nat) (d : Nat) (l : List Nat) : (fun i => zL (Wg.upd L d l i)) = Wg.upd (fun i => zL (L i)) d (zL l) := by
  funext i
  unfold Wg.upd
  split <;> rfl

set_option maxRecDepth 100000 in
set_option maxHeartbeats 4000000 in
theorem addCaller_any {b B cg n : Nat} {x0 x1 x2 : Value} {cv : Nat → Value} {L : Nat → List Nat} (d c : Nat) (w : World) (hb : w.heap[b]? = some (.cells #[x0, x1, x2, .slice (some ⟨cg, 0, none⟩) n n] 70)) (h : Cr w B cg n cv (fun i => zL (L i))) (hbB : b < B) (hBw : B ≤ w.heap.size) (hd : d < n) (hn : n ≤ 1000000) (hc : c ≤ 1000000) (hl : (L d).length ≤ 1000000) :
    Calls Tryd.prog 55 #[.pointer (some ⟨b, 0, none⟩), vI (d : Int), vI (c : Int)] w (AcE B cg n L d c w) := by
  have c3 : w.cell? ⟨b, 3, none⟩ = some (.slice (some ⟨cg, 0, none⟩) n n) := by rw [cell_of0 hb]; rfl
  have HC : Hd (Cr w B cg n cv (fun i => zL (L i))) := h
  have HB : Hd (w.heap[b]? = some (.cells #[x0, x1, x2, .slice (some ⟨cg, 0, none⟩) n n] 70)) := hb
  obtain ⟨va, vc, ev, p0, -⟩ := h.cell hd
  simp only [List.length_map] at ev p0
  have hd0 : (0 : Int) ≤ d := by omega
  have hd1 : (d : Int) < n := by omega
  obtain ⟨l, hll⟩ : ∃ l, l = L d := ⟨_, rfl⟩
  have HLL : Hd (l = L d) := hll
  rw [← hll] at ev p0 hl
  have hEQ : ∀ (P : Prop), P → (c = d ∨ (L d).getLast? = some c) → P := fun P p _ => p
  have same : (c = d ∨ (L d).getLast? = some c) → AcE B cg n L d c w (.returned (.tuple #[])) w := fun e => by
    refine ⟨rfl, ⟨cv, ?_⟩, Fr.refl _ _⟩
    rw [if_pos e, zL_upd]
    have : Wg.upd (fun i => zL (L i)) d (zL (L d)) = fun i => zL (L i) := by
      funext i
      by_cases e : i = d
      · rw [e, Wg.upd_same]
      · rw [Wg.upd_ne _ _ e]
    rw [this]
    exact HC.out
  by_cases hcd : c = d
  · have e0 : ((c : Int) == (d : Int)) = true := by simp [hcd]
    have HE : Hd (AcE B cg n L d c w (.returned (.tuple #[])) w) := same (Or.inl hcd)
    clear same hcd hll h hb hEQ
    go_enter Tryd.func55, Tryd.ntmps55
    go_wp2_with fail
    go_end0
    exact HE.out
  · have e0 : ((c : Int) == (d : Int)) = false := by simp; omega
    have HLT : Hd (∀ hne : l ≠ [], ∃ g z, va = some ⟨g, 0, none⟩ ∧ w.cell? ⟨g, l.length - 1, none⟩ = some (vI (z : Nat)) ∧ l.getLast? = some z) := fun hne => by
      have hp : 0 < l.length := List.length_pos_iff.2 hne
      have ho := h.own d hd
      rw [ev] at ho
      show ∃ g z, _
      have hlen : (zL (L d)).length = l.length := by rw [← hll, List.length_map]
      obtain ⟨g, cp, e1, -, gg⟩ := iown_some ho (by rw [hlen]; exact hp)
      injection e1 with e2
      refine ⟨g, l[l.length - 1]'(by omega), e2, ?_, ?_⟩
      · rw [gg (l.length - 1) (by rw [hlen]; omega)]
        congr 2
        simp [hll]
      · rw [List.getLast?_eq_getElem?, List.getElem?_eq_getElem (by omega)]
    by_cases hlast : l.getLast? = some c
    · have hne : l ≠ [] := fun e => by rw [e] at hlast; cases hlast
      obtain ⟨g, z, rfl, p1, hz⟩ := HLT.out hne
      have hzk : z = c := by rw [hz] at hlast; exact Option.some.inj hlast
      have hp : 0 < l.length := List.length_pos_iff.2 hne
      have e1 : decide ((l.length : Int) > 0) = true := by simp; omega
      have e1' : decide ((0 : Int) < (l.length : Int)) = true := by simp; omega
      have e2 : ((z : Int) == (c : Int)) = true := by simp [hzk]
      have j0 : (0 : Int) ≤ (l.length : Int) - 1 := by omega
      have j1 : (l.length : Int) - 1 < l.length := by omega
      have j2 : ((l.length : Int) - 1).toNat = l.length - 1 := by omega
      have HE : Hd (AcE B cg n L d c w (.returned (.tuple #[])) w) := same (Or.inr (by rw [← hll]; exact hlast))
      clear same hlast hz hzk hne HLT hll h hb hEQ hcd
      go_enter Tryd.func55, Tryd.ntmps55
      go_wp2_with fail
      go_end0
      exact HE.out
    · by_cases hne : l = []
      · have e1 : decide ((l.length : Int) > 0) = false := by simp [hne]
        have e1' : decide ((0 : Int) < (l.length : Int)) = false := by simp [hne]
        have e1n : ¬ 0 < l.length := by simp [hne]
        have HNE : Hd (l = []) := hne
        clear hne
        have hCz : Fr (fun _ => False) w (w.alloc (.cells #[vI (c : Int)] 3)).drew := (Fr.alloc (Fr.refl _ w) _).drew
        have HFz : Hd (Fr (fun _ => False) w (w.alloc (.cells #[vI (c : Int)] 3)).drew) := hCz
        have HRW : Hd ((w.alloc (.cells #[vI (c : Int)] 3)).drew.ownsRow B 3 1 (.slice va l.length vc) l.length ((zL l).map vI)) := by
          have k9 := (HC.out.stay hCz).own d hd
          rw [ev] at k9
          rw [hll]
          unfold IOwn at k9
          rw [List.length_map, ← hll] at k9
          rw [← hll]
          exact k9
        have HNW : Hd (∀ j' u, [vI (c : Int)][j']? = some u → (w.alloc (.cells #[vI (c : Int)] 3)).drew.cell? ((⟨w.heap.size, 0, none⟩ : Addr).add j') = some u) := World.news_of_block (w := w.alloc (.cells #[vI (c : Int)] 3)) (cs := #[vI (c : Int)]) (heap_new0 w _)
        have HSZ : Hd ((w.alloc (.cells #[vI (c : Int)] 3)).drew.heap.size = w.heap.size + 1) := by unfold Hd; show (w.alloc (.cells #[vI (c : Int)] 3)).heap.size = _; rw [World.size_alloc]
        have HBS : Hd (B ≤ (w.alloc (.cells #[vI (c : Int)] 3)).drew.heap.size) := by have := HSZ.out; unfold Hd; omega
        have HBz : Hd ((w.alloc (.cells #[vI (c : Int)] 3)).drew.heap[b]? = some (.cells #[x0, x1, x2, .slice (some ⟨cg, 0, none⟩) n n] 70)) := keepF HB.out hCz
        have HEV : Hd (cv d = .slice va l.length vc) := ev
        have c3z : (w.alloc (.cells #[vI (c : Int)] 3)).drew.cell? ⟨b, 3, none⟩ = some (.slice (some ⟨cg, 0, none⟩) n n) := by rw [cell_of0 HBz.out]; rfl
        have c3y : (w.alloc (.cells #[vI (c : Int)] 3)).cell? ⟨b, 3, none⟩ = some (.slice (some ⟨cg, 0, none⟩) n n) := c3z
        have HHL : Hd (¬ (c = d ∨ (L d).getLast? = some c)) := by
          rintro (e | e)
          · exact hcd e
          · rw [← hll] at e; exact hlast e
        clear hCz ev hlast same h hb hEQ hcd hll HLT
        go_enter Tryd.func55, Tryd.ntmps55
        go_upto_region 2 with fail
        go_region_law ((
          obtain ⟨i3, hi3, hz3, hs3, hb3⟩ := info_parts (P := Tryd.prog) (e := 3) (z := .int .i64 0) (size := 1) (bytes := 8) (by kernel_rfl)
          refine step_append_lies _ rfl (.tmp 37) (.tmp 39) 25 rfl B 3 i3 (.int .i64 0) 1 8 under64 hi3 hz3 hs3 hb3 rfl (by omega) (.slice va l.length vc) l.length _ (by simp [Act.eval, Act.put]) HRW.out ⟨w.heap.size, 0, none⟩ 1 1 [vI (c : Int)] (by simp [Act.eval, Act.put]) rfl HNW.out (by intro u hu; simp at hu; subst hu; rfl) (by omega) (by unfold maxLen; omega) (by omega) HBS.out (w.heap.size + 1) (by simp) ?_
          intro g6 cap6 w9 hown6 hgrow6 hat6 hlt6
          obtain ⟨HQ1, p0, z0, hF9, hG9⟩ := Cr.push (x := (c : Int)) HC.out HFz.out HSZ.out hd HEV.out (by rw [HLL.out, List.length_map]) hgrow6 (by rw [HLL.out] at hown6; rw [HLL.out]; exact hown6) hat6
          have c3 : w9.cell? ⟨b, 3, none⟩ = some (.slice (some ⟨cg, 0, none⟩) n n) := by rw [hG9.cell (heap_lt0 HB.out) (by omega), cell_of0 HB.out]; rfl
          have HQ2 : Hd (AcE B cg n L d c w (.returned (.tuple #[])) (w9.setCell ⟨cg, d, none⟩ (.slice (some ⟨g6, 0, none⟩) (l.length + 1) cap6))) := ⟨rfl, ⟨_, by rw [if_neg HHL.out, zL_upd, zL_app]; exact HQ1⟩, hF9⟩
          clear HQ1 hown6 hgrow6 hat6 hlt6 hi3 hz3 hs3 hb3 hF9 hG9))
        all_goals
          go_wp2_with fail
          go_end0
          exact HQ2.out
      · obtain ⟨g, z, rfl, p1, hz⟩ := HLT.out hne
        have hzk : z ≠ c := fun e => by rw [hz, e] at hlast; exact hlast rfl
        have hp : 0 < l.length := List.length_pos_iff.2 hne
        have e1 : decide ((l.length : Int) > 0) = true := by simp; omega
        have e1' : decide ((0 : Int) < (l.length : Int)) = true := by simp; omega
        have e2 : ((z : Int) == (c : Int)) = false := by simp; omega
        have j0 : (0 : Int) ≤ (l.length : Int) - 1 := by omega
        have j1 : (l.length : Int) - 1 < l.length := by omega
        have j2 : ((l.length : Int) - 1).toNat = l.length - 1 := by omega
        clear hz hzk hne
        have hCz : Fr (fun _ => False) w (w.alloc (.cells #[vI (c : Int)] 3)).drew := (Fr.alloc (Fr.refl _ w) _).drew
        have HFz : Hd (Fr (fun _ => False) w (w.alloc (.cells #[vI (c : Int)] 3)).drew) := hCz
        have HRW : Hd ((w.alloc (.cells #[vI (c : Int)] 3)).drew.ownsRow B 3 1 (.slice (some ⟨g, 0, none⟩) l.length vc) l.length ((zL l).map vI)) := by
          have k9 := (HC.out.stay hCz).own d hd
          rw [ev] at k9
          rw [hll]
          unfold IOwn at k9
          rw [List.length_map, ← hll] at k9
          rw [← hll]
          exact k9
        have HNW : Hd (∀ j' u, [vI (c : Int)][j']? = some u → (w.alloc (.cells #[vI (c : Int)] 3)).drew.cell? ((⟨w.heap.size, 0, none⟩ : Addr).add j') = some u) := World.news_of_block (w := w.alloc (.cells #[vI (c : Int)] 3)) (cs := #[vI (c : Int)]) (heap_new0 w _)
        have HSZ : Hd ((w.alloc (.cells #[vI (c : Int)] 3)).drew.heap.size = w.heap.size + 1) := by unfold Hd; show (w.alloc (.cells #[vI (c : Int)] 3)).heap.size = _; rw [World.size_alloc]
        have HBS : Hd (B ≤ (w.alloc (.cells #[vI (c : Int)] 3)).drew.heap.size) := by have := HSZ.out; unfold Hd; omega
        have HBz : Hd ((w.alloc (.cells #[vI (c : Int)] 3)).drew.heap[b]? = some (.cells #[x0, x1, x2, .slice (some ⟨cg, 0, none⟩) n n] 70)) := keepF HB.out hCz
        have HEV : Hd (cv d = .slice (some ⟨g, 0, none⟩) l.length vc) := ev
        have c3z : (w.alloc (.cells #[vI (c : Int)] 3)).drew.cell? ⟨b, 3, none⟩ = some (.slice (some ⟨cg, 0, none⟩) n n) := by rw [cell_of0 HBz.out]; rfl
        have c3y : (w.alloc (.cells #[vI (c : Int)] 3)).cell? ⟨b, 3, none⟩ = some (.slice (some ⟨cg, 0, none⟩) n n) := c3z
        have HHL : Hd (¬ (c = d ∨ (L d).getLast? = some c)) := by
          rintro (e | e)
          · exact hcd e
          · rw [← hll] at e; exact hlast e
        clear hCz ev hlast same h hb hEQ hcd hll HLT
        go_enter Tryd.func55, Tryd.ntmps55
        go_upto_region 2 with fail
        go_region_law ((
          obtain ⟨i3, hi3, hz3, hs3, hb3⟩ := info_parts (P := Tryd.prog) (e := 3) (z := .int .i64 0) (size := 1) (bytes := 8) (by kernel_rfl)
          refine step_append_lies _ rfl (.tmp 37) (.tmp 39) 25 rfl B 3 i3 (.int .i64 0) 1 8 under64 hi3 hz3 hs3 hb3 rfl (by omega) (.slice (some ⟨g, 0, none⟩) l.length vc) l.length _ (by simp [Act.eval, Act.put]) HRW.out ⟨w.heap.size, 0, none⟩ 1 1 [vI (c : Int)] (by simp [Act.eval, Act.put]) rfl HNW.out (by intro u hu; simp at hu; subst hu; rfl) (by omega) (by unfold maxLen; omega) (by omega) HBS.out (w.heap.size + 1) (by simp) ?_
          intro g6 cap6 w9 hown6 hgrow6 hat6 hlt6
          obtain ⟨HQ1, p0, z0, hF9, hG9⟩ := Cr.push (x := (c : Int)) HC.out HFz.out HSZ.out hd HEV.out (by rw [HLL.out, List.length_map]) hgrow6 (by rw [HLL.out] at hown6; rw [HLL.out]; exact hown6) hat6
          have c3 : w9.cell? ⟨b, 3, none⟩ = some (.slice (some ⟨cg, 0, none⟩) n n) := by rw [hG9.cell (heap_lt0 HB.out) (by omega), cell_of0 HB.out]; rfl
          have HQ2 : Hd (AcE B cg n L d c w (.returned (.tuple #[])) (w9.setCell ⟨cg, d, none⟩ (.slice (some ⟨g6, 0, none⟩) (l.length + 1) cap6))) := ⟨rfl, ⟨_, by rw [if_neg HHL.out, zL_upd, zL_app]; exact HQ1⟩, hF9⟩
          clear HQ1 hown6 hgrow6 hat6 hlt6 hi3 hz3 hs3 hb3 hF9 hG9))
        all_goals
          go_wp2_with fail
          go_end0
          exact HQ2.out

/-- The functions that some instructions call. -/
def callX (cs : List PI) : List Nat := (cs.filter (fun c => c.op == 11)).map (fun c => c.n.toNat)
/-- By function those that it calls. -/
def clX (fs : List PF) (f : Nat) : List Nat := callX ((fs[f]?.map (·.code)).getD [])
theorem clX_at {fs : List PF} {f : Nat} (h : f < fs.length) : clX fs f = callX fs[f].code := by unfold clX; rw [List.getElem?_eq_getElem h]; rfl
/-- Every call is of a function. -/
def CallOk (fs : List PF) : Prop := ∀ f ∈ fs, ∀ c ∈ f.code, c.op = 11 → 0 ≤ c.n ∧ c.n < (fs.length : Int)
theorem clX_lt {fs : List PF} (h : CallOk fs) {f : Nat} (hf : f < fs.length) : ∀ z ∈ clX fs f, z < fs.length := by
  intro z hz
  rw [clX_at hf] at hz
  unfold callX at hz
  rw [List.mem_map] at hz
  obtain ⟨c, hc, rfl⟩ := hz
  rw [List.mem_filter] at hc
  have := h _ (List.getElem_mem hf) c hc.1 (by simpa using hc.2)
  omega
theorem clX_len {fs : List PF} {f : Nat} (hf : f < fs.length) : (clX fs f).length ≤ fs[f].code.length := by
  rw [clX_at hf]
  unfold callX
  rw [List.length_map]
  exact List.length_filter_le _ _
theorem callX_next {cs : List PI} {k : Nat} (hk : k < cs.length) : callX (cs.take (k + 1)) = callX (cs.take k) ++ if cs[k].op = 11 then [cs[k].n.toNat] else [] := by
  unfold callX
  rw [List.take_add_one, List.getElem?_eq_getElem hk, List.filter_append, List.map_append]
  congr 1
  by_cases e : cs[k].op = 11
  · simp [e]
  · simp [e]
theorem make53 (n : Nat) (hn : n ≤ 1000000000000) (w : World) : (Instr.makeSlice 53 (.int .i64 n) (.int .i64 n)).run Tryd.prog w = .ok (.slice (some ⟨w.heap.size, 0, none⟩) n n) (w.alloc (.cells (Array.replicate n (.slice none 0 0)) 25)) := by
  rw [run_make_of 53 25 (.slice none 0 0) 1 24 (by kernel_rfl) (by kernel_rfl) (by kernel_rfl) (by kernel_rfl) n (by omega) (by omega) w, Nat.mul_one]
  congr 2
  congr 1
  unfold madeCells
  apply Array.ext
  · simp
  · intro i h1 h2
    simp [Nat.mod_one, Value.cells]
theorem Cr.congr {w : World} {B cg r : Nat} {cv : Nat → Value} {cl cl' : Nat → List Int} (h : Cr w B cg r cv cl) (e : ∀ i, i < r → cl i = cl' i) : Cr w B cg r cv cl' :=
  ⟨h.row, fun i hi => by rw [← e i hi]; exact h.own i hi, h.ap⟩
theorem Cr.mono {w : World} {B B' cg r : Nat} {cv : Nat → Value} {cl : Nat → List Int} (h : Cr w B cg r cv cl) (hB : B' ≤ B) : Cr w B' cg r cv cl :=
  ⟨h.row, fun i hi => (h.own i hi).mono hB, h.ap⟩
/-- What calledBy leaves. -/
def CbE (fs : List PF) (w : World) (e : Ending) (w' : World) : Prop :=
  ∃ g cv, e = .returned (.slice (some ⟨g, 0, none⟩) fs.length fs.length) ∧ w.heap.size ≤ g ∧ Cr w' w.heap.size g fs.length cv (fun i => zL (clX fs i)) ∧ Fr (fun _ => False) w w'
theorem fr_new {w w' : World} (f : Fr (fun k => w.heap.size ≤ k) w w') : Fr (fun _ => False) w w' := ⟨f.os, f.tape, f.output, f.size, fun k hk _ => f.block k hk (by omega)⟩

set_option maxRecDepth 100000 in
set_option maxHeartbeats 8000000 in
theorem calledBy_any (G : Int) (fv : Value) (fs : List PF) (w : World) (h : FA w fv fs) (hok : CallOk fs) (hN : fs.length ≤ 1000000) (hL : ∀ f ∈ fs, f.code.length ≤ 1000000000) :
    Calls Tryd.prog 31 #[.agg #[vI G, fv]] w (CbE fs w) := by
  obtain ⟨a0, c0, efv, -⟩ := id h
  subst efv
  have HFA : Hd (FA w (.slice a0 fs.length c0) fs) := h
  have HOK : Hd (CallOk fs) := hok
  have HL : Hd (∀ f ∈ fs, f.code.length ≤ 1000000000) := hL
  have hmk : ∀ W : World, (Instr.makeSlice 53 (.int .i64 fs.length) (.int .i64 fs.length)).run Tryd.prog W = .ok (.slice (some ⟨W.heap.size, 0, none⟩) fs.length fs.length) (W.alloc (.cells (Array.replicate fs.length (.slice none 0 0)) 25)) := fun W => make53 fs.length (by omega) W
  obtain ⟨wa, hwa⟩ : ∃ wa, wa = w.alloc (.cells #[vI G, .slice a0 fs.length c0] 24) := ⟨_, rfl⟩
  obtain ⟨H, hH⟩ : ∃ H, H = w.heap.size := ⟨_, rfl⟩
  have HH : Hd (H = w.heap.size) := hH
  have hFa : Fr (fun _ => False) w wa := by rw [hwa]; exact Fr.alloc (Fr.refl _ w) _
  have hba : wa.heap[H]? = some (.cells #[vI G, .slice a0 fs.length c0] 24) := by rw [hwa, hH]; exact heap_new0 w _
  have hsa : wa.heap.size = H + 1 := by rw [hwa, World.size_alloc, hH]
  obtain ⟨wb, hwb⟩ : ∃ wb, wb = wa.alloc (.cells (Array.replicate fs.length (.slice none 0 0)) 25) := ⟨_, rfl⟩
  have hFb : Fr (fun _ => False) wa wb := by rw [hwb]; exact Fr.alloc (Fr.refl _ wa) _
  have HBB : Hd (wb.heap[H]? = some (.cells #[vI G, .slice a0 fs.length c0] 24)) := keepF hba hFb
  have HCB : Hd (∃ cv, Cr wb (H + 2) (H + 1) fs.length cv (fun i => zL (if i < 0 then clX fs i else []))) := by
    refine ⟨fun _ => .slice none 0 0, ?_⟩
    have := Wg.Row.made wa 25 fs.length (.slice none 0 0)
    rw [← hwb, hsa] at this
    have e : (fun i => zL (if i < 0 then clX fs i else [])) = fun _ => [] := by funext i; simp
    rw [e]
    exact Cr.nils this
  have HSB : Hd (H + 2 ≤ wb.heap.size) := by unfold Hd; rw [hwb, World.size_alloc, hsa]; exact Nat.le_refl _
  have HFB : Hd (Fr (fun k => H ≤ k) w wb) := (hFa.trans hFb).mono (fun _ _ e => e.elim)
  have HWA : Hd (wa = w.alloc (.cells #[vI G, .slice a0 fs.length c0] 24)) := hwa
  have HWB : Hd (wb = wa.alloc (.cells (Array.replicate fs.length (.slice none 0 0)) 25)) := hwb
  have c1 : wa.cell? ⟨H, 1, none⟩ = some (.slice a0 fs.length c0) := by rw [cell_of0 hba]; rfl
  have c1b : wb.cell? ⟨H, 1, none⟩ = some (.slice a0 fs.length c0) := by rw [cell_of0 HBB.out]; rfl
  have HSA : Hd (wa.heap.size = H + 1) := hsa
  clear h hok hL hwa hH hFa hba hsa hwb hFb
  go_enter Tryd.func31, Tryd.ntmps31
  go_upto_region 1 with fail
  rw [← HWA.out, ← HH.out]
  clear HWA
  go_upto_region 2 with fail
  rw [← HWB.out, HSA.out]
  clear HWB HSA c1 hmk
  go_wp2_with fail
  go_loopw [14] (fun v wx => ∃ k : Nat, v = .int .i64 k ∧ k ≤ fs.length ∧ Hd (∃ cv, Cr wx (H + 2) (H + 1) fs.length cv (fun i => zL (if i < k then clX fs i else []))) ∧ Hd (wx.heap[H]? = some (.cells #[vI G, .slice a0 fs.length c0] 24)) ∧ Hd (Fr (fun k => H ≤ k) w wx) ∧ Hd (H + 2 ≤ wx.heap.size)) (fun v _ => match v with | .int _ q => fs.length - q.toNat | _ => 0)
  case atStart => exact ⟨0, rfl, Nat.zero_le _, HCB.out, HBB.out, HFB.out, HSB.out⟩
  case round =>
    clear HCB HBB HFB HSB c1b
    obtain ⟨k, rfl, hk, HC, HB, HF, HS⟩ := hrel
    have c1 : wr.cell? ⟨H, 1, none⟩ = some (.slice a0 fs.length c0) := by rw [cell_of0 HB.out]; rfl
    by_cases hlt : k < fs.length
    · have d1 : decide ((k : Int) < (fs.length : Int)) = true := by simp; omega
      have k0 : (0 : Int) ≤ k := by omega
      have k1 : (k : Int) < fs.length := by omega
      obtain ⟨a, cp, e, hh⟩ := HFA.out
      obtain ⟨fk, fo, e2, hfk, hg⟩ := hh (fun e => by simp [e] at hlt)
      obtain ⟨cv0, -, -, -, p3, hca⟩ := hg k hlt
      rw [e2] at e
      injection e with e eL eC
      clear eL eC
      subst e
      obtain ⟨ca, cc, ecv, hcode⟩ := id hca
      subst ecv
      have p3r : wr.cell? ⟨fk, fo + k * 4 + 3, none⟩ = some (.slice ca fs[k].code.length cc) := (HF.out.cell hfk (by have := HH.out; omega)).trans p3
      have hcl := HL.out _ (List.getElem_mem hlt)
      have HCD : Hd (CA w (.slice ca fs[k].code.length cc) fs[k].code) := hca
      have HCK : Hd (∀ c ∈ fs[k].code, c.op = 11 → 0 ≤ c.n ∧ c.n < (fs.length : Int)) := HOK.out _ (List.getElem_mem hlt)
      have HCX : Hd (clX fs k = callX fs[k].code) := clX_at hlt
      have HC0 : Hd (∃ cv, Cr wr (H + 2) (H + 1) fs.length cv (fun i => zL (if i < k then clX fs i else if i = k then callX (fs[k].code.take 0) else []))) := by
        obtain ⟨cv, hc⟩ := HC.out
        refine ⟨cv, ?_⟩
        have e : (fun i => zL (if i < k then clX fs i else if i = k then callX (fs[k].code.take 0) else [])) = fun i => zL (if i < k then clX fs i else []) := by funext i; simp [callX]
        rw [e]
        exact hc
      generalize hcs : fs[k].code = cs at *
      clear hcs hg hh hca hcode p3 HC hlt
      go_wp2_with fail
      obtain ⟨wi, hwi⟩ : ∃ wi, wi = wr := ⟨_, rfl⟩
      rw [← hwi] at HC0 HB HF HS ⊢
      clear hwi c1 p3r
      go_loopw [24] (fun v wx => ∃ j : Nat, v = .int .i64 j ∧ j ≤ cs.length ∧ Hd (∃ cv, Cr wx (H + 2) (H + 1) fs.length cv (fun i => zL (if i < k then clX fs i else if i = k then callX (cs.take j) else []))) ∧ Hd (wx.heap[H]? = some (.cells #[vI G, .slice (some ⟨fk, fo, none⟩) fs.length c0] 24)) ∧ Hd (Fr (fun k => H ≤ k) w wx) ∧ Hd (H + 2 ≤ wx.heap.size)) (fun v _ => match v with | .int _ q => cs.length - q.toNat | _ => 0)
      case atStart => exact ⟨0, rfl, Nat.zero_le _, HC0.out, HB.out, HF.out, HS.out⟩
      case round =>
        clear HC0 HB HF HS
        obtain ⟨j, rfl, hj, HC, HB, HF, HS⟩ := hrel
        by_cases hlj : j < cs.length
        · have d2 : decide ((j : Int) < (cs.length : Int)) = true := by simp; omega
          have j0 : (0 : Int) ≤ j := by omega
          have j1 : (j : Int) < cs.length := by omega
          obtain ⟨a, cp, e, hh⟩ := HCD.out
          obtain ⟨ck, co, e2, hck, hg⟩ := hh (fun e => by simp [e] at hlj)
          obtain ⟨av, rv, q0, q1, q2, q3, q4, q5, q6, ⟨aa, ac, ea, -⟩, ⟨ra, rc, er, -⟩⟩ := hg j hlj
          rw [e2] at e
          injection e with e eL eC
          clear eL eC
          subst e ea er
          have m : ∀ o, wr.cell? ⟨ck, o, none⟩ = w.cell? ⟨ck, o, none⟩ := fun o => HF.out.cell hck (by have := HH.out; omega)
          rw [← m] at q0 q1 q2 q3 q4 q5 q6
          have HT : Hd (callX (cs.take (j + 1)) = callX (cs.take j) ++ if cs[j].op = 11 then [cs[j].n.toNat] else []) := callX_next hlj
          have HKJ : Hd (cs[j].op = 11 → 0 ≤ cs[j].n ∧ cs[j].n < (fs.length : Int)) := HCK.out _ (List.getElem_mem hlj)
          have hlen : (callX (cs.take j)).length ≤ 1000000000 := by
            unfold callX
            rw [List.length_map]
            have := List.length_filter_le (fun c => c.op == 11) (cs.take j)
            rw [List.length_take] at this
            omega
          generalize cs[j] = c at *
          obtain ⟨wb, hwb⟩ : ∃ wb, wb = wr.alloc (.cells #[vI c.op, vI c.r, vI c.s, vI c.t, vI c.n, .slice aa c.args.length ac, .slice ra c.rets.length rc] 27) := ⟨_, rfl⟩
          have hFb : Fr (fun _ => False) wr wb := by rw [hwb]; exact Fr.alloc (Fr.refl _ wr) _
          obtain ⟨X, hX⟩ : ∃ X, X = wr.heap.size := ⟨_, rfl⟩
          have hbx : wb.heap[X]? = some (.cells #[vI c.op, vI c.r, vI c.s, vI c.t, vI c.n, .slice aa c.args.length ac, .slice ra c.rets.length rc] 27) := by rw [hwb, hX]; exact heap_new0 wr _
          have HX : Hd (X = wr.heap.size) := hX
          have HWB : Hd (wb = wr.alloc (.cells #[vI c.op, vI c.r, vI c.s, vI c.t, vI c.n, .slice aa c.args.length ac, .slice ra c.rets.length rc] 27)) := hwb
          have HBX : Hd (wb.heap[X]? = some (.cells #[vI c.op, vI c.r, vI c.s, vI c.t, vI c.n, .slice aa c.args.length ac, .slice ra c.rets.length rc] 27)) := hbx
          have x0 : wb.cell? ⟨X, 0, none⟩ = some (vI c.op) := by rw [cell_of0 hbx]; rfl
          have HC2 : Hd (∃ cv, Cr wb (H + 2) (H + 1) fs.length cv (fun i => zL (if i < k then clX fs i else if i = k then callX (cs.take j) else []))) := by
            obtain ⟨cv, hc⟩ := HC.out
            exact ⟨cv, hc.stay hFb⟩
          have HB2 : Hd (wb.heap[H]? = some (.cells #[vI G, .slice (some ⟨fk, fo, none⟩) fs.length c0] 24)) := keepF HB.out hFb
          have HF2 : Hd (Fr (fun k => H ≤ k) w wb) := HF.out.trans (hFb.mono (fun _ _ e => e.elim))
          have HS2 : Hd (H + 2 ≤ wb.heap.size) := Nat.le_trans HS.out hFb.size
          have HXS : Hd (H + 2 ≤ X) := by unfold Hd; rw [hX]; exact HS.out
          clear hg hh m hwb hFb hX hbx HC HB HF HS hlj
          by_cases hop : c.op = 11
          · have eop : (c.op == 11) = true := by simp [hop]
            obtain ⟨n, hn⟩ : ∃ n : Nat, c.n = (n : Int) := ⟨c.n.toNat, by have := HKJ.out hop; omega⟩
            have HT2 : Hd (callX (cs.take (j + 1)) = callX (cs.take j) ++ [n]) := by
              unfold Hd
              rw [HT.out, if_pos hop, hn]
              rfl
            have x4 : wb.cell? ⟨X, 4, none⟩ = some (vI (n : Int)) := by rw [cell_of0 HBX.out, ← hn]; rfl
            rw [hn] at q4 HWB HBX
            clear hn hop HT HKJ
            go_upto_region 8 with fail
            rw [← HWB.out, ← HX.out]
            clear HWB q0 q1 q2 q3 q4 q5 q6
            obtain ⟨cv, hc⟩ := HC2.out
            obtain ⟨Lk, hLk⟩ : ∃ Lk : Nat → List Int, Lk = fun i => zL (if i < k then clX fs i else if i = k then callX (cs.take j) else []) := ⟨_, rfl⟩
            rw [← hLk] at hc
            have el : Lk k = zL (callX (cs.take j)) := by rw [hLk]; simp
            obtain ⟨va, vc, ev, p0, ho⟩ := hc.cell (i := k) (by omega)
            rw [el, List.length_map] at ev p0 ho
            have hCz : Fr (fun _ => False) wb (wb.alloc (.cells #[vI (n : Int)] 3)).drew := (Fr.alloc (Fr.refl _ wb) _).drew
            have HFz : Hd (Fr (fun _ => False) wb (wb.alloc (.cells #[vI (n : Int)] 3)).drew) := hCz
            have HCV : Hd (Cr wb (H + 2) (H + 1) fs.length cv Lk) := hc
            have HLK : Hd (Lk = fun i => zL (if i < k then clX fs i else if i = k then callX (cs.take j) else [])) := hLk
            have HEV : Hd (cv k = .slice va (callX (cs.take j)).length vc) := ev
            have HRW : Hd ((wb.alloc (.cells #[vI (n : Int)] 3)).drew.ownsRow (H + 2) 3 1 (.slice va (callX (cs.take j)).length vc) (callX (cs.take j)).length ((zL (callX (cs.take j))).map vI)) := ownsRow_frL ho hCz (fun _ _ e => e)
            have HNW : Hd (∀ j' u, [vI (n : Int)][j']? = some u → (wb.alloc (.cells #[vI (n : Int)] 3)).drew.cell? ((⟨wb.heap.size, 0, none⟩ : Addr).add j') = some u) := World.news_of_block (w := wb.alloc (.cells #[vI (n : Int)] 3)) (cs := #[vI (n : Int)]) (heap_new0 wb _)
            have HSZ : Hd ((wb.alloc (.cells #[vI (n : Int)] 3)).drew.heap.size = wb.heap.size + 1) := by unfold Hd; show (wb.alloc (.cells #[vI (n : Int)] 3)).heap.size = _; rw [World.size_alloc]
            have HBS : Hd (H + 2 ≤ (wb.alloc (.cells #[vI (n : Int)] 3)).drew.heap.size) := by have := HSZ.out; have := HS2.out; unfold Hd; omega
            have p0z : (wb.alloc (.cells #[vI (n : Int)] 3)).drew.cell? ⟨H + 1, k, none⟩ = some (.slice va (callX (cs.take j)).length vc) := (hCz.cell hc.row.lt (fun e => e)).trans p0
            have p0y : (wb.alloc (.cells #[vI (n : Int)] 3)).cell? ⟨H + 1, k, none⟩ = some (.slice va (callX (cs.take j)).length vc) := p0z
            have HEL : Hd (Lk k = zL (callX (cs.take j))) := el
            have hkl : k < fs.length := by omega
            clear hCz hc ev ho HC2 el hLk
            go_upto_region 9 with fail
            go_region_law ((
              obtain ⟨i3, hi3, hz3, hs3, hb3⟩ := info_parts (P := Tryd.prog) (e := 3) (z := .int .i64 0) (size := 1) (bytes := 8) (by kernel_rfl)
              refine step_append_lies _ rfl (.tmp 36) (.tmp 39) 25 rfl (H + 2) 3 i3 (.int .i64 0) 1 8 under64 hi3 hz3 hs3 hb3 rfl (by omega) (.slice va (callX (cs.take j)).length vc) (callX (cs.take j)).length _ (by simp [Act.eval, Act.put]) HRW.out ⟨wb.heap.size, 0, none⟩ 1 1 [vI (n : Int)] (by simp [Act.eval, Act.put]) rfl HNW.out (by intro u hu; simp at hu; subst hu; rfl) (by omega) (by unfold maxLen; omega) (by omega) HBS.out (wb.heap.size + 1) (by simp) ?_
              intro g6 cap6 w9 hown6 hgrow6 hat6 hlt6
              obtain ⟨HQ1, p0, z0, hF9, hG9⟩ := Cr.push (x := (n : Int)) HCV.out HFz.out HSZ.out hkl HEV.out (by rw [HEL.out, List.length_map]) hgrow6 (by rw [HEL.out]; exact hown6) hat6
              have HC4 : Hd (∃ cv, Cr (w9.setCell ⟨H + 1, k, none⟩ (.slice (some ⟨g6, 0, none⟩) ((callX (cs.take j)).length + 1) cap6)) (H + 2) (H + 1) fs.length cv (fun i => zL (if i < k then clX fs i else if i = k then callX (cs.take (j + 1)) else []))) := by
                refine ⟨_, HQ1.congr (fun i hi => ?_)⟩
                by_cases e : i = k
                · rw [e, Wg.upd_same, HEL.out, if_neg (by omega), if_pos rfl, HT2.out, zL_app]
                · rw [Wg.upd_ne _ _ e, HLK.out]
                  show zL (if i < k then clX fs i else if i = k then callX (cs.take j) else []) = _
                  rw [if_neg e, if_neg e]
              have HB4 : Hd ((w9.setCell ⟨H + 1, k, none⟩ (.slice (some ⟨g6, 0, none⟩) ((callX (cs.take j)).length + 1) cap6)).heap[H]? = some (.cells #[vI G, .slice (some ⟨fk, fo, none⟩) fs.length c0] 24)) := (hF9.block H (heap_lt0 HB2.out) (by omega)).trans HB2.out
              have HF4 : Hd (Fr (fun k => H ≤ k) w (w9.setCell ⟨H + 1, k, none⟩ (.slice (some ⟨g6, 0, none⟩) ((callX (cs.take j)).length + 1) cap6))) := HF2.out.trans (hF9.mono (fun k _ e => by rcases e with e | e <;> omega))
              have HS4 : Hd (H + 2 ≤ (w9.setCell ⟨H + 1, k, none⟩ (.slice (some ⟨g6, 0, none⟩) ((callX (cs.take j)).length + 1) cap6)).heap.size) := Nat.le_trans HS2.out hF9.size
              clear HQ1 hown6 hgrow6 hat6 hlt6 hi3 hz3 hs3 hb3 hF9 hG9))
            all_goals
              go_wp2_with fail
              go_roundw
              case measure => simp; omega
              case rel => exact ⟨j + 1, by simp, by omega, HC4.out, HB4.out, HF4.out, HS4.out⟩
          · have eop : (c.op == 11) = false := by simp [hop]
            have HT2 : Hd (callX (cs.take (j + 1)) = callX (cs.take j)) := by
              unfold Hd
              rw [HT.out, if_neg hop, List.append_nil]
            have HC3 : Hd (∃ cv, Cr wb (H + 2) (H + 1) fs.length cv (fun i => zL (if i < k then clX fs i else if i = k then callX (cs.take (j + 1)) else []))) := by unfold Hd; rw [HT2.out]; exact HC2.out
            clear hop HT HKJ HT2 HC2
            go_upto_region 8 with fail
            rw [← HWB.out, ← HX.out]
            clear HWB q0 q1 q2 q3 q4 q5 q6
            go_wp2_with fail
            go_roundw
            case measure => simp; omega
            case rel => exact ⟨j + 1, by simp, by omega, HC3.out, HB2.out, HF2.out, HS2.out⟩
        · have d2 : decide ((j : Int) < (cs.length : Int)) = false := by simp; omega
          have d2n : ¬ j < cs.length := by omega
          have HC3 : Hd (∃ cv, Cr wr (H + 2) (H + 1) fs.length cv (fun i => zL (if i < k + 1 then clX fs i else []))) := by
            obtain ⟨cv, hc⟩ := HC.out
            refine ⟨cv, hc.congr (fun i hi => ?_)⟩
            congr 1
            by_cases e : i = k
            · subst e
              rw [if_neg (by omega), if_pos rfl, if_pos (by omega), HCX.out, List.take_of_length_le (by omega)]
            · by_cases e2 : i < k
              · rw [if_pos e2, if_pos (by omega)]
              · rw [if_neg e2, if_neg e, if_neg (by omega)]
          clear HC hlj
          go_wp2_with fail
          go_roundw
          case measure => simp; omega
          case rel => exact ⟨k + 1, by simp, by omega, HC3.out, HB.out, HF.out, HS.out⟩
    · have d1 : decide ((k : Int) < (fs.length : Int)) = false := by simp; omega
      have d1n : ¬ k < fs.length := by omega
      have HE : Hd (CbE fs w (.returned (.slice (some ⟨H + 1, 0, none⟩) fs.length fs.length)) wr) := by
        obtain ⟨cv, hc⟩ := HC.out
        have e := HH.out
        subst e
        exact ⟨w.heap.size + 1, cv, rfl, by omega, (hc.congr (fun i hi => by rw [if_pos (by omega)])).mono (by omega), fr_new HF.out⟩
      clear HC hlt
      go_wp2_with fail
      go_ret
      exact HE.out
end Go.Proofs.YtjmbfjaahadbhaaDoor
