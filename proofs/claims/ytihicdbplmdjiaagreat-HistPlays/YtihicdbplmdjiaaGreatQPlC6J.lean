import Derived.Test.YtihicdbplmdjiaaGreatQPlC5
import Derived.Test.YtihicdbplmdjiaaGreatQPlB4J
import Derived.Test.YtihicdbplmdjiaaGreatQB3bJ
set_option linter.unusedVariables false
set_option linter.unusedSimpArgs false
namespace Go.Proofs.YtihicdbplmdjiaaGreat.Pl
open Go.RowKit (wrap32 wrap64)

/-- Numbers that lie below B. -/
def IntsAt (w : World) (B : Nat) (v : Value) (zs : List Int) : Prop :=
  ∃ ad cap, v = .slice ad zs.length cap ∧ (zs ≠ [] → ∃ g o, ad = some ⟨g, o, none⟩ ∧ g < B ∧ ∀ i (h : i < zs.length), w.cell? ⟨g, o + i, none⟩ = some (vI zs[i]))
theorem IntsAt.fr {w w' : World} {B : Nat} {v : Value} {zs : List Int} (h : IntsAt w B v zs) {S : Nat → Prop} (f : Fr S w w') (hB : B ≤ w.heap.size) (hS : ∀ j, j < B → ¬ S j) : IntsAt w' B v zs := by
  obtain ⟨ad, cap, e, hx⟩ := h
  refine ⟨ad, cap, e, fun hne => ?_⟩
  obtain ⟨g, o, ea, hg, hcs⟩ := hx hne
  exact ⟨g, o, ea, hg, fun i hi => (f.cell (by omega) (hS g hg)).trans (hcs i hi)⟩
theorem OwnI.at {w : World} {B : Nat} {v : Value} {zs : List Nat} (h : OwnI w B v zs) : ∃ ad cap, v = .slice ad zs.length cap ∧ (zs ≠ [] → ∃ g, ad = some ⟨g, 0, none⟩ ∧ v.ownBlock = some g ∧ ∀ i (h : i < zs.length), w.cell? ⟨g, i, none⟩ = some (vI (zs[i] : Nat))) := by
  rcases h.2 with ⟨h2, h3⟩ | ⟨g, cap, cur, e, h3, h4, h5, h6, h7, h8⟩
  · exact ⟨none, 0, by rw [h2, h3], fun hne => absurd (List.eq_nil_of_length_eq_zero h3) hne⟩
  · refine ⟨_, cap, e, fun _ => ⟨g, rfl, by rw [e]; rfl, fun i hi => ?_⟩⟩
    rw [cell_of h4]
    have : cur[i]? = (zs.map (fun (z : Nat) => vI z))[i]? := by rw [← h8, List.getElem?_take, if_pos (by omega), Array.getElem?_toList]
    rw [this]
    simp [hi]
theorem OwnI.fr {S : Nat → Prop} {w w' : World} {B : Nat} {v : Value} {zs : List Nat} (h : OwnI w B v zs) (f : Fr S w w') (hS : ∀ g, v.ownBlock = some g → ¬ S g) : OwnI w' B v zs := ownsRow_fr h f hS

set_option maxRecDepth 100000 in
set_option maxHeartbeats 2000000 in
theorem behind_any (B : Nat) (last : Int) (av : Value) (L : List Nat) (w : World) (h : OwnI w B av L) (hne : L ≠ []) (hL : L.length ≤ 64) :
    Calls Tryz.prog 28 #[vI last, av] w fun e w' => e = .returned (vI (behindX last L : Nat)) ∧ w' = w := by
  obtain ⟨ad, cap, rfl, hx⟩ := h.at
  obtain ⟨g, rfl, -, hcs⟩ := hx hne
  have hpos : 0 < L.length := List.length_pos_iff.2 hne
  have HCS : Hd (∀ i (h : i < L.length), w.cell? ⟨g, i, none⟩ = some (vI (L[i] : Nat))) := hcs
  have c0 := hcs 0 hpos
  obtain ⟨n, en⟩ : ∃ n, n = L.length := ⟨_, rfl⟩
  have EN : Hd (n = L.length) := en
  have hn64 : n ≤ 64 := by omega
  have hn0 : 0 < n := by omega
  obtain ⟨l0, el0⟩ : ∃ l0 : Nat, l0 = L[0] := ⟨_, rfl⟩
  rw [← el0] at c0
  have EL0 : Hd (L.headD 0 = l0) := by
    show _ = _
    rw [el0]
    cases L with
    | nil => exact absurd rfl hne
    | cons a r => rfl
  rw [← en]
  clear h hx hcs en el0 hpos hL
  go_enter Tryz.func28, Tryz.ntmps28
  go_wp2_with fail
  go_loopw [9] (fun v wr => wr = w ∧ ∃ k : Nat, v = .int .i64 k ∧ k ≤ n ∧ Hd (∀ i (h : i < L.length), i < k → ¬ ((L[i] : Nat) : Int) > last)) (fun v _ => match v with | .int _ q => n - q.toNat | _ => 0)
  case atStart => exact ⟨rfl, 0, rfl, by omega, fun i _ h => by omega⟩
  case round =>
    obtain ⟨rfl, k, rfl, hk, HM⟩ := hrel
    by_cases hlt : k < n
    · have hkl : k < L.length := by rw [← EN.out]; exact hlt
      have ck := HCS.out k hkl
      have HF : Hd (((L[k] : Nat) : Int) > last → behindX last L = L[k]) := fun hgt => by
        unfold behindX
        have : L.find? (fun (i : Nat) => decide ((i : Int) > last)) = some L[k] := by
          rw [List.find?_eq_some_iff_getElem]
          exact ⟨by simpa using hgt, k, hkl, rfl, fun j hj => by simpa using HM.out j (by omega) hj⟩
        rw [this]; rfl
      have HN : Hd (¬ ((L[k] : Nat) : Int) > last → ∀ i (h : i < L.length), i < k + 1 → ¬ ((L[i] : Nat) : Int) > last) := fun hng i hi hik => by
        by_cases e : i = k
        · subst e; exact hng
        · exact HM.out i hi (by omega)
      obtain ⟨y, ey⟩ : ∃ y, y = L[k] := ⟨_, rfl⟩
      rw [← ey] at ck HF HN
      clear ey HM
      have hk3 : (k : Int) < n := by omega
      have hk0 : (0 : Int) ≤ k := by omega
      by_cases hgt : (y : Int) > last
      · have hg' : last < (y : Int) := hgt
        go_wp2_with fail
        go_ret
        exact ⟨by rw [HF.out hgt]; rfl, rfl⟩
      · have hd : decide (last < (y : Int)) = false := by simp; omega
        have hd2 : decide ((y : Int) > last) = false := by simp; omega
        go_wp2_with fail
        refine ⟨⟨trivial, k + 1, by simp, by omega, HN.out hgt⟩, by simp; omega⟩
    · have hdk : decide ((k : Int) < n) = false := by simp; omega
      have HE : Hd (behindX last L = l0) := by
        show _ = _
        unfold behindX
        have : L.find? (fun (i : Nat) => decide ((i : Int) > last)) = none := by
          rw [List.find?_eq_none]
          intro x hx
          obtain ⟨i, hi, rfl⟩ := List.getElem_of_mem hx
          simpa using HM.out i hi (by have := EN.out; omega)
        rw [this]
        exact EL0.out
      have hn0' : (0 : Int) < n := by omega
      clear hk HM
      go_wp2_with fail
      go_ret
      exact ⟨by rw [HE.out]; rfl, rfl⟩

section
variable {w : World} {B pb cb tb : Nat} {g : Gh} {N : Nat} {a : Ab} {mv : Value} {cvs : List CV} {mvs : List MV} {s : St}
theorem Pl.last {E : Nat → Prop} (h : Pl w B pb cb tb g N a mv cvs mvs s E) (p : Int) : Pl (w.setCell ⟨pb, 10, none⟩ (vI p)) B pb cb tb g N a mv cvs mvs { s with last := p } E :=
  h.setPlay ((Fr.refl (fun j => j = pb) w).setCell _ _ (Or.inl rfl)) { s with last := p } (by rw [set_of h.play]; rfl) rfl rfl rfl

set_option maxRecDepth 100000 in
set_option maxHeartbeats 4000000 in
theorem pick_any (av sv : Value) (L : List Nat) (zs : List Int) (turn : Nat) (h : Pl w B pb cb tb g N a mv cvs mvs s (fun j => av.ownBlock = some j)) (hO : OwnI w B av L) (hne : L ≠ []) (hL : L.length ≤ 64) (hz : IntsAt w B sv zs) (hzl : zs.length ≤ 4000000000) (ht : turn ≤ 100000000000) :
    Calls Tryz.prog 14 #[.pointer (some ⟨pb, 0, none⟩), av, sv, vI turn] w fun e w' => e = .returned (vI (pickX s.last L zs turn : Nat)) ∧ Pl w' B pb cb tb g N a mv cvs mvs { s with last := (pickX s.last L zs turn : Nat) } (fun j => av.ownBlock = some j) ∧ Fr (fun j => j = pb) w w' := by
  have HP : Hd (∀ p : Int, Pl (w.setCell ⟨pb, 10, none⟩ (vI p)) B pb cb tb g N a mv cvs mvs { s with last := p } (fun j => av.ownBlock = some j)) := fun p => h.last p
  have HF : Hd (∀ p : Int, Fr (fun j => j = pb) w (w.setCell ⟨pb, 10, none⟩ (vI p))) := fun p => (Fr.refl (fun j => j = pb) w).setCell _ _ (Or.inl rfl)
  obtain ⟨-, -, p10, -, hfz⟩ := h.heads
  have z10 := hfz 10
  obtain ⟨sa, scap, rfl, hsx⟩ := hz
  have HOw := hO
  obtain ⟨ad, cap, eav, hx⟩ := hO.at
  obtain ⟨gb, rfl, -, hcs⟩ := hx hne
  have hbeh := behind_any B s.last av L w HOw hne hL
  unfold pickX
  subst eav
  have hpos : 0 < L.length := List.length_pos_iff.2 hne
  by_cases hlt : turn < zs.length
  · rw [if_pos hlt]
    obtain ⟨sg, so, rfl, hsg, hsc⟩ := hsx (by intro e; rw [e] at hlt; simp at hlt)
    have k0 := hsc turn hlt
    have e0 : zs.getD turn 0 = zs[turn] := by rw [List.getD_eq_getElem?_getD, List.getElem?_eq_getElem hlt]; rfl
    rw [e0]
    obtain ⟨z, ez⟩ : ∃ z, z = zs[turn] := ⟨_, rfl⟩
    rw [← ez] at k0 ⊢
    have hm0 : 0 ≤ z % (L.length : Int) := Int.emod_nonneg _ (by omega)
    have hm1 : z % (L.length : Int) < L.length := Int.emod_lt_of_pos _ (by omega)
    obtain ⟨q, eq⟩ := Int.eq_ofNat_of_zero_le hm0
    have hq : q < L.length := by omega
    have cq := hcs q hq
    have e1 : L.getD (z % (L.length : Int)).toNat 0 = L[q] := by rw [eq, List.getD_eq_getElem?_getD]; simp [hq]
    rw [e1]
    obtain ⟨y, ey⟩ : ∃ y, y = L[q] := ⟨_, rfl⟩
    rw [← ey] at cq ⊢
    obtain ⟨n, en⟩ : ∃ n, n = L.length := ⟨_, rfl⟩
    obtain ⟨m, em⟩ : ∃ m, m = zs.length := ⟨_, rfl⟩
    have hmod := mod_any z n (by omega) (by omega)
    rw [← en] at eq hq hL ⊢
    rw [eq] at hmod
    rw [← em] at hlt hzl ⊢
    have ht0 : (0 : Int) ≤ turn := by omega
    have ht1 : (turn : Int) < m := by omega
    have hq0 : (0 : Int) ≤ q := by omega
    have hq1 : (q : Int) < n := by omega
    clear hsx hsc hx hcs e0 ez e1 ey en em hm0 hm1 eq HOw hO h hbeh hne hpos hfz
    go_enter Tryz.func14, Tryz.ntmps14
    go_wp2_with (go_at_call 27; refine (hmod _).mono ?_; rintro _ _ ⟨rfl, rfl⟩)
    go_ret
    exact ⟨rfl, HP.out _, HF.out _⟩
  · rw [if_neg hlt]
    obtain ⟨y, ey⟩ : ∃ y, y = behindX s.last L := ⟨_, rfl⟩
    rw [← ey] at hbeh ⊢
    obtain ⟨n, en⟩ : ∃ n, n = L.length := ⟨_, rfl⟩
    obtain ⟨m, em⟩ : ∃ m, m = zs.length := ⟨_, rfl⟩
    rw [← en] at hbeh hL ⊢
    rw [← em] at hlt hzl ⊢
    have ht1 : decide ((turn : Int) < m) = false := by simp; omega
    clear hsx hx hcs ey en em HOw hO h hne hpos hfz
    go_enter Tryz.func14, Tryz.ntmps14
    go_wp2_with (go_at_call 28; refine hbeh.mono ?_; rintro _ _ ⟨rfl, rfl⟩)
    go_ret
    exact ⟨rfl, HP.out _, HF.out _⟩
end
end Go.Proofs.YtihicdbplmdjiaaGreat.Pl
namespace Go.Proofs.YtihicdbplmdjiaaGreat.Pl
open Go.Shelf Go.RowKit Go.Lib Go.Sort

def encP (x : Kv) : List Value := [vI x.1, .string x.2]
theorem ltP (x y : Kv) : ltOf (fun x y : Kv => cmpI x.1 y.1) x y = decide (x.1 < y.1) := by
  unfold ltOf cmpI
  by_cases h1 : x.1 < y.1
  · simp [h1]
  · by_cases h2 : y.1 < x.1 <;> simp [h1, h2]
theorem swoP : SWO (ltOf fun x y : Kv => cmpI x.1 y.1) where
  irrefl x := by rw [ltP]; simp
  trans x y z h1 h2 := by rw [ltP] at *; simp at *; omega
  ntrans x y z h1 h2 := by rw [ltP] at *; simp at *; omega

theorem cmpLays28 (blk off size : Nat) (w : World) : CmpLays Tryz.prog 75 #[] encP 2 (fun x y => cmpI x.1 y.1) blk off size w := fun m os dk hs x y => by
  refine (closure28 x y _).mono ?_
  rintro e w' ⟨he, hw⟩
  exact ⟨he, 0, _, by rw [hw, alloc_eq_grow, alloc_eq_grow, grow_grow]; rfl⟩

theorem fr_sortWorld (w : World) (blk off n : Nat) (d : Array Kv) (os : Array Obj) (hb : blk < w.heap.size) : Fr (fun j => j = blk) w (sortWorldK encP 2 w blk off n d os) := by
  refine ⟨rfl, rfl, rfl, ?_, ?_⟩
  · exact size_sortWorldK_c encP 2 w blk off n d os
  · intro j hj hne
    unfold sortWorldK grow putRowK putRow mapBlock Sort.ahead
    simp only
    rw [Array.getElem?_append_left (by simpa using hj), Array.getElem?_modify, if_neg (fun e => hne e.symm)]

theorem flat_at (d : Array Kv) (i : Nat) (h : i < d.size) : (flatK encP 2 d)[i * 2]! = vI d[i].1 ∧ (flatK encP 2 d)[i * 2 + 1]! = .string d[i].2 := by
  rw [get_flatK encP 2 d (i * 2) (by omega), get_flatK encP 2 d (i * 2 + 1) (by omega), show i * 2 / 2 = i by omega, show (i * 2 + 1) / 2 = i by omega, show i * 2 % 2 = 0 by omega, show (i * 2 + 1) % 2 = 1 by omega, getElem!_pos d i h]
  exact ⟨rfl, rfl⟩
theorem holds_of {w : World} {B g cap : Nat} {L : List Kv} (h : OwnP w B (.slice (some ⟨g, 0, none⟩) L.length cap) L) : HoldsK encP 2 w g 0 L.toArray ∧ g < w.heap.size := by
  rcases h.2 with ⟨h2, -⟩ | ⟨g', cap', cur, e, h3, h4, h5, h6, h7, h8⟩
  · cases h2
  · cases e
    refine ⟨fun j hj => ?_, heap_lt h4⟩
    rw [size_flatK] at hj
    have hj' : j < L.length * 2 := by simpa using hj
    have hfz : w.frozen? ⟨g, 0 + j, none⟩ = false := frozen_of h4 _
    refine ⟨?_, hfz⟩
    have key : cur[j]? = (pCells L)[j]? := by rw [← h8, List.getElem?_take, if_pos hj', Array.getElem?_toList]
    rw [Nat.zero_add, cell_of h4, key]
    obtain ⟨k0, k1⟩ := pCells_get L (j / 2) (by omega)
    obtain ⟨f0, f1⟩ := flat_at L.toArray (j / 2) (by simp; omega)
    by_cases e : j % 2 = 0
    · have ej : j / 2 * 2 = j := by omega
      rw [ej] at k0 f0
      rw [k0, id, f0]; simp
    · have ej : j / 2 * 2 + 1 = j := by omega
      rw [ej] at k1 f1
      rw [k1, id, f1]; simp
theorem pa_of {w : World} {g cap : Nat} {d : Array Kv} (h : HoldsK encP 2 w g 0 d) (hg : g < w.heap.size) : PA w (.slice (some ⟨g, 0, none⟩) d.size cap) d.toList := by
  refine ⟨_, cap, by simp, fun _ => ⟨g, rfl, hg, fun i hi => ?_⟩⟩
  have hi' : i < d.size := by simpa using hi
  obtain ⟨f0, f1⟩ := flat_at d i hi'
  have a0 := (h (i * 2) (by rw [size_flatK]; omega)).1
  have a1 := (h (i * 2 + 1) (by rw [size_flatK]; omega)).1
  rw [Nat.zero_add, f0] at a0
  rw [Nat.zero_add, f1] at a1
  exact ⟨by rw [a0]; simp, by rw [a1]; simp⟩

theorem sort_row (w : World) (B g cap : Nat) (L : List Kv) (h : OwnP w B (.slice (some ⟨g, 0, none⟩) L.length cap) L) (hL : L.length ≤ 1000000000000) :
    Calls Tryz.prog 74 #[.slice (some ⟨g, 0, none⟩) L.length cap, .func (.func 75) #[] #[]] w fun e w' => e = .returned (.tuple #[]) ∧ ∃ L', L'.Perm L ∧ L'.Pairwise (fun x y => ¬ y.1 < x.1) ∧ PA w' (.slice (some ⟨g, 0, none⟩) L.length cap) L' ∧ Fr (fun j => (Value.slice (some ⟨g, 0, none⟩) L.length cap).ownBlock = some j) w w' := by
  obtain ⟨hH, hg⟩ := holds_of h
  have eg : ∀ args w, (callFunc 75 args).run Tryz.prog w = .ok (.enter 75 args) w := enters_of Tryz.func75 (by kernel_rfl) rfl
  have hcon := AnyQ.slices_SortFunc sortL 2 Tryz.isAgg141 Tryz.sizeOf141 encP (fun _ => rfl) (fun x v hv => by simp [encP] at hv; rcases hv with rfl | rfl <;> rfl) (fun x y => cmpI x.1 y.1) swoP 75 #[] g 0 cap L.toArray w eg (cmpLays28 g 0 _ w) hH hg (by simp; omega)
  change Calls Tryz.prog 74 #[.slice (some ⟨g, 0, none⟩) L.toArray.size cap, _] _ _ at hcon
  rw [List.size_toArray] at hcon
  refine hcon.mono ?_
  rintro e w' ⟨rfl, d', n, os, hp, hs, rfl⟩
  have hsz : d'.size = L.length := by simpa using hp.1
  have hperm : d'.toList.Perm L := by
    have := hp.2.2
    rw [show (d'.extract 0 L.length) = d' by rw [← hsz]; simp] at this
    simpa using this
  refine ⟨rfl, d'.toList, hperm, ?_, ?_, (fr_sortWorld w g 0 n d' os hg).mono (fun j _ e => by rw [e]; rfl)⟩
  · rw [List.pairwise_iff_getElem]
    intro i j hi hj hij
    have hi' : i < d'.size := by simpa using hi
    have hj' : j < d'.size := by simpa using hj
    have h1 := hs i j (Nat.zero_le _) hij (by omega)
    rw [ltP, getElem!_pos d' i hi', getElem!_pos d' j hj'] at h1
    simpa using h1
  · have := pa_of (cap := cap) (holdsK_sortWorldK_c encP 2 w g 0 L.toArray d' n os hH hg (by simp; omega)) (lt_sortWorldK encP 2 w g 0 n d' os hg)
    rw [hsz] at this
    exact this
end Go.Proofs.YtihicdbplmdjiaaGreat.Pl
namespace Go.Proofs.YtihicdbplmdjiaaGreat.Pl
open Go.RowKit (wrap32 wrap64)

set_option maxRecDepth 100000 in
set_option maxHeartbeats 2000000 in
theorem ins_nil (fv : Value) (w : World) : Calls Tryz.prog 99 #[.slice none 0 0, vI 0, vI 0, fv] w fun e w' => e = .returned (.tuple #[]) ∧ w' = w := by
  go_enter Tryz.func99, Tryz.ntmps99
  go_wp2_with fail
  refine wp_loop_rounds 1 ?_
  rw [rounds_succ]
  go_wp2_with fail
  go_end0
  exact ⟨rfl, rfl⟩

set_option maxRecDepth 100000 in
set_option maxHeartbeats 2000000 in
theorem pdq_nil (fv : Value) (l : Int) (w : World) : Calls Tryz.prog 85 #[.slice none 0 0, vI 0, vI 0, vI l, fv] w fun e w' => e = .returned (.tuple #[]) ∧ w' = w := by
  go_enter Tryz.func85, Tryz.ntmps85
  go_wp2_with fail
  refine wp_loop_rounds 1 ?_
  rw [rounds_succ]
  go_wp2_with (go_at_call 99; refine (ins_nil fv _).mono ?_; rintro _ _ ⟨rfl, rfl⟩)
  first | go_end0 | (refine bodyPost_ret (results_none rfl _ _ _) rfl ?_)
  exact ⟨rfl, rfl⟩

set_option maxRecDepth 100000 in
set_option maxHeartbeats 2000000 in
theorem sort_nil (fv : Value) (w : World) : Calls Tryz.prog 74 #[.slice none 0 0, fv] w fun e w' => e = .returned (.tuple #[]) ∧ w' = w := by
  have hl := Any.bits_Len (SlLaysF0.n15.bits (P := Tryz.prog) (ρ := sortL_ren) { sortL with }) 0 w (by omega) (by omega)
  change Calls Tryz.prog 86 _ _ _ at hl
  go_enter Tryz.func74, Tryz.ntmps74
  go_wp2_with (first
    | (go_at_call 86; refine hl.mono ?_; rintro _ _ ⟨rfl, rfl⟩)
    | (go_at_call 85; refine (pdq_nil fv _ _).mono ?_; rintro _ _ ⟨rfl, rfl⟩))
  go_end0
  exact ⟨rfl, rfl⟩

theorem sort_any : SortSaid := fun w B v L h hL => by
  rcases h.2 with ⟨rfl, h3⟩ | ⟨g, cap, cur, rfl, h3⟩
  · obtain rfl := List.eq_nil_of_length_eq_zero h3
    refine (sort_nil _ w).mono ?_
    rintro e w' ⟨rfl, rfl⟩
    exact ⟨rfl, [], List.Perm.refl _, List.Pairwise.nil, ⟨none, 0, rfl, fun h => absurd rfl h⟩, Fr.refl _ _⟩
  · exact sort_row w B g cap L h hL

theorem snapshot_any (b : Nat) (g : Gh) (N : Nat) (a : Ab) (w : World) (h : Tb w b g N a) (hN : N ≤ 100000000000) :
    Calls Tryz.prog 65 #[.pointer (some ⟨b, 0, none⟩)] w fun e w' => ∃ kb vb L, e = .returned (.tuple #[.slice (some ⟨kb, 0, none⟩) L.length L.length, .slice (some ⟨vb, 0, none⟩) L.length L.length]) ∧ w.heap.size ≤ kb ∧ w.heap.size ≤ vb ∧ SnapAt w' kb vb L ∧ Snap a L ∧ L.length ≤ N * 8 ∧ Tb w' b g N a ∧ Fr (fun j => j = b) w w' :=
  snapshot_of sort_any b g N a w h hN
end Go.Proofs.YtihicdbplmdjiaaGreat.Pl
