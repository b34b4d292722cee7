import Derived.Test.YtihicdbplmdjiaaGreatQPlL0J
import Derived.Test.YtihicdbplmdjiaaGreatQPlCd
set_option linter.unusedVariables false
set_option linter.unusedSimpArgs false
namespace Go.Proofs.YtihicdbplmdjiaaGreat.Pl
open Go.RowKit (wrap32 wrap64)

theorem costs_ge (l : List OpT) : l.length ≤ costs l := by
  induction l with
  | nil => simp [costs]
  | cons o r ih => rw [costs_cons, List.length_cons]; have := cost_ge o; omega
theorem len_mu1 {c : Cl} (h : ClOk c) : c.ops.length ≤ mu1 c + 10 := by
  have h8 := h.lk
  unfold mu1
  split
  · have := costs_ge c.ops; omega
  · split
    · have := costs_ge c.ops; omega
    · have := costs_ge c.ops.tail
      cases hc : c.ops with
      | nil => simp
      | cons o r => rw [hc] at this; simp at this; simp; omega
theorem mu1_le (s : St) {c : Cl} (h : c ∈ s.cls) : mu1 c ≤ mu s := by
  unfold mu
  have : mu1 c ∈ s.cls.map mu1 := List.mem_map.2 ⟨c, h, rfl⟩
  generalize s.cls.map mu1 = l at this
  generalize mu1 c = x at this
  induction l with
  | nil => cases this
  | cons y r ih =>
    rcases List.mem_cons.1 this with rfl | h
    · simp
    · have := ih h; simp; omega

section
variable {w : World} {B pb cb tb : Nat} {g : Gh} {N : Nat} {a : Ab} {mv : Value} {cvs : List CV} {mvs : List MV} {s : St} {E : Nat → Prop}
theorem step_any (h : Pl w B pb cb tb g N a mv cvs mvs s E) (hs : StOk s) (i : Nat) (hi : i ∈ able s) (hn : s.cls.length ≤ 64) (hms : s.ms.length ≤ 100000000000) (hN : N < 100000000000) (hmu : mu s ≤ 100000000000) :
    Calls Tryz.prog 13 #[.pointer (some ⟨pb, 0, none⟩), vI i] w fun e w' => e = .returned (.tuple #[]) ∧ Left cvs mvs w B pb cb tb g N E (stepX s i) w' := by
  obtain ⟨hl, hc⟩ := able_mem hi
  have hok := hs s.cls[i] (List.getElem_mem hl)
  have hlen := len_mu1 hok
  have hmu1 := mu1_le s (List.getElem_mem hl)
  obtain ⟨o, r, hop⟩ : ∃ o r, s.cls[i].ops = o :: r := by
    cases hop : s.cls[i].ops with
    | nil => simp [canGo, hop] at hc
    | cons o r => exact ⟨o, r, rfl⟩
  rw [stepX_eq hl hop]
  have hk := hok.first o r hop
  rw [hop] at hlen
  have hr : r.length ≤ 900000000000 := by simp at hlen; omega
  by_cases h0 : s.cls[i].st = 0
  · rw [if_pos h0]
    exact step_begin h i hl hn o r hop h0 hms
  · rw [if_neg h0]
    by_cases h1 : s.cls[i].st = 1
    · rw [if_pos h1]
      exact step_act h i hl hn o r hop h1 hk (hok.keys o (by rw [hop]; simp)) hok.lk hN
    · rw [if_neg h1]
      have h2 : s.cls[i].st = 2 := by have := hok.st; omega
      exact step_end h i hl hn o r hop h2 hr hms
end

/-- Clients' calls as they lie. -/
def ClsAt (w : World) (B : Nat) (v : Value) (cl : List (List OpT)) : Prop :=
  ∃ ad cap, v = .slice ad cl.length cap ∧ (cl ≠ [] → ∃ g o, ad = some ⟨g, o, none⟩ ∧ g < B ∧ ∀ i (h : i < cl.length), ∃ u, w.cell? ⟨g, o + i, none⟩ = some u ∧ OpsAt w B u cl[i])
theorem ClsAt.fr {w w' : World} {B : Nat} {v : Value} {cl : List (List OpT)} (h : ClsAt w B v cl) {S : Nat → Prop} (f : Fr S w w') (hB : B ≤ w.heap.size) (hS : ∀ j, j < B → ¬ S j) : ClsAt w' B v cl := by
  obtain ⟨ad, cap, e, hx⟩ := h
  refine ⟨ad, cap, e, fun hne => ?_⟩
  obtain ⟨g, o, ea, hg, hcs⟩ := hx hne
  refine ⟨g, o, ea, hg, fun i hi => ?_⟩
  obtain ⟨u, hu, ho⟩ := hcs i hi
  exact ⟨u, (f.cell (by omega) (hS g hg)).trans hu, ho.fr f hB hS⟩

def zrow : List Value := [.slice none 0 0, vI 0, vI 0, .bool false, .string ⟨#[]⟩, .slice none 0 0, .slice none 0 0]
theorem made_rows (n : Nat) : madeCells #[.slice none 0 0, vI 0, vI 0, .bool false, .string ⟨#[]⟩, .slice none 0 0, .slice none 0 0] (n * 7) = (List.replicate n zrow).flatten.toArray := by
  have hlen : ∀ r ∈ List.replicate n zrow, r.length = 7 := fun r hr => by rw [List.eq_of_mem_replicate hr]; rfl
  apply Array.ext_getElem?
  intro j
  by_cases hj : j < n * 7
  · have hj7 : j / 7 < n := by omega
    have e := flat_get hlen (j / 7) (j % 7) (by simpa using hj7) (by omega)
    rw [show j / 7 * 7 + j % 7 = j by omega, List.getElem_replicate] at e
    have e1 : (madeCells #[.slice none 0 0, vI 0, vI 0, .bool false, .string ⟨#[]⟩, .slice none 0 0, .slice none 0 0] (n * 7))[j]? = some ((#[.slice none 0 0, vI 0, vI 0, .bool false, .string ⟨#[]⟩, .slice none 0 0, .slice none 0 0] : Array Value)[j % 7]!) := by
      unfold madeCells
      rw [Array.getElem?_map, Array.getElem?_range, if_pos hj]
      rfl
    rw [e1, List.getElem?_toArray, e]
    have h7 : j % 7 < 7 := by omega
    generalize j % 7 = q at *
    match q, h7 with
    | 0, _ => rfl
    | 1, _ => rfl
    | 2, _ => rfl
    | 3, _ => rfl
    | 4, _ => rfl
    | 5, _ => rfl
    | 6, _ => rfl
  · rw [Array.getElem?_eq_none (by rw [size_madeCells]; omega), Array.getElem?_eq_none (by rw [List.size_toArray, flat_len hlen]; simp; omega)]
theorem under99 : Tryz.prog.underlying 50 = some (.slice 76) := by kernel_rfl
theorem make_clients (n : Nat) (hn : n ≤ 64) (w : World) : (Instr.makeSlice 50 (.int .i64 n) (.int .i64 n)).run Tryz.prog w = .ok (.slice (some ⟨w.heap.size, 0, none⟩) n n) (w.alloc (.cells (List.replicate n zrow).flatten.toArray 76)) := by
  rw [run_make_of 50 76 (.agg #[.slice none 0 0, vI 0, vI 0, .bool false, .string ⟨#[]⟩, .slice none 0 0, .slice none 0 0]) 7 112 under99 (by kernel_rfl) (by kernel_rfl) (by kernel_rfl) n (by omega) (by omega) w]
  show Result.ok _ (w.alloc (.cells (madeCells #[.slice none 0 0, vI 0, vI 0, .bool false, .string ⟨#[]⟩, .slice none 0 0, .slice none 0 0] (n * 7)) 76)) = _
  rw [made_rows]

/-- Clients, some of whose calls are laid. -/
def clsK (cl : List (List OpT)) (k : Nat) : List Cl := (cl.take k).map (fun l => ⟨fromK l, 0, 0, rep0⟩) ++ List.replicate (cl.length - k) cl0
theorem clsK_len (cl : List (List OpT)) (k : Nat) (h : k ≤ cl.length) : (clsK cl k).length = cl.length := by simp [clsK]; omega
theorem clsK_all (cl : List (List OpT)) : clsK cl cl.length = cl.map (fun l => ⟨fromK l, 0, 0, rep0⟩) := by simp [clsK]
theorem clsK_set (cl : List (List OpT)) (k : Nat) (h : k < cl.length) : (clsK cl k).set k ⟨fromK cl[k], 0, 0, rep0⟩ = clsK cl (k + 1) := by
  have hl : ((cl.take k).map (fun l => (⟨fromK l, 0, 0, rep0⟩ : Cl))).length = k := by simp; omega
  unfold clsK
  rw [List.set_append, if_neg (by omega), hl, Nat.sub_self]
  obtain ⟨m, hm⟩ : ∃ m, cl.length - k = m + 1 := ⟨cl.length - k - 1, by omega⟩
  rw [hm, List.replicate_succ, List.set_cons_zero, show cl.length - (k + 1) = m by omega, List.take_add_one, List.getElem?_eq_getElem h, List.map_append, List.append_assoc]
  rfl
def stK (cl : List (List OpT)) (k : Nat) : St := ⟨[], fun _ => false, clsK cl k, -1, []⟩
theorem stK_all (cl : List (List OpT)) : stK cl cl.length = begin0 cl := by unfold stK begin0; rw [clsK_all]

/-- Clients without calls. -/
def cv0 : CV := ⟨.slice none 0 0, .slice none 0 0, .slice none 0 0, cl0⟩

/-- A play that was made. -/
theorem Pl.made {w w' : World} {B pb cb tb : Nat} {g : Gh} (cl : List (List OpT)) (hB : B = w.heap.size) (hp : w'.heap[pb]? = some (.cells (playC tb (fun _ => false) cb cl.length (-1) (.slice none 0 0)) 52)) (hc : w'.heap[cb]? = some (.cells (List.replicate cl.length zrow).flatten.toArray 76)) (ht : Tb w' tb g 0 (fun _ => none)) (hne : pb ≠ cb) (hgp : g.own pb = 0) (hgc : g.own cb = 0) (hbp : B ≤ pb) (hbc : B ≤ cb) (hbg : ∀ j, g.own j ≠ 0 → B ≤ j) :
    Pl w' B pb cb tb g 0 (fun _ => none) (.slice none 0 0) (List.replicate cl.length cv0) [] (stK cl 0) (fun _ => False) where
  play := by
    have e : (stK cl 0).cls.length = cl.length := clsK_len cl 0 (Nat.zero_le _)
    rw [e]; exact hp
  rows := ⟨by rw [List.map_replicate]; exact hc, fun r hr => by rw [List.map_replicate] at hr; rw [List.eq_of_mem_replicate hr]; rfl⟩
  cls := by rw [List.map_replicate]; simp [stK, clsK]; exact Or.inr rfl
  ops := fun x hx => by rw [List.eq_of_mem_replicate hx]; exact ⟨none, 0, rfl, by simp [cv0, cl0], fun h => absurd rfl h⟩
  reps := fun x hx => by rw [List.eq_of_mem_replicate hx]; exact RepAt.none _ _ _
  tab := ht
  snap := ⟨List.Pairwise.nil, fun k v => by simp [stK]⟩
  mom := World.ownsRow_nil _ _ _ _
  moms := rfl
  mreps := fun x hx => by cases hx
  ne := hne
  gp := hgp
  gc := hgc
  bp := hbp
  bc := hbc
  bg := hbg
  mp := fun h => by cases h
  mc := fun h => by cases h
  mg := fun j h => by cases h
  ep := fun h => h
  ec := fun h => h
  eg := fun j h => h.elim
  em := fun j h => h.elim
  eb := fun j h => h.elim
  el := fun j h => h.elim

theorem clsK_at (cl : List (List OpT)) (k : Nat) (h : k < cl.length) (h' : k < (clsK cl k).length) : (clsK cl k)[k] = cl0 := by
  have e : (clsK cl k)[k]? = some cl0 := by
    unfold clsK
    have hl : ((cl.take k).map (fun l => (⟨fromK l, 0, 0, rep0⟩ : Cl))).length = k := by simp; omega
    rw [List.getElem?_append_right (by omega), hl, Nat.sub_self, List.getElem?_replicate, if_pos (by omega)]
  rw [List.getElem?_eq_getElem h'] at e
  exact Option.some.inj e
theorem made_a (w w1 : World) (cl : List (List OpT)) (n : Nat) (en : n = cl.length) (hT : Tb w1 w.heap.size (gh0 w.heap.size) 0 (fun _ => none)) (hF : Fr (fun _ => False) w w1) :
    Pl ((w1.alloc (.cells (List.replicate n zrow).flatten.toArray 76)).alloc (.cells (playC w.heap.size (fun _ => false) w1.heap.size n (-1) (.slice none 0 0)) 52)) w.heap.size (w1.heap.size + 1) w1.heap.size w.heap.size (gh0 w.heap.size) 0 (fun _ => none) (.slice none 0 0) (List.replicate cl.length cv0) [] (stK cl 0) (fun _ => False) ∧ Fr (fun _ => False) w ((w1.alloc (.cells (List.replicate n zrow).flatten.toArray 76)).alloc (.cells (playC w.heap.size (fun _ => false) w1.heap.size n (-1) (.slice none 0 0)) 52)) := by
  subst en
  have F1 : Fr (fun _ => False) w1 ((w1.alloc (.cells (List.replicate cl.length zrow).flatten.toArray 76)).alloc (.cells (playC w.heap.size (fun _ => false) w1.heap.size cl.length (-1) (.slice none 0 0)) 52)) := ((Fr.refl _ w1).alloc _).alloc _
  have hs := hF.size
  have g0 : ∀ j, w1.heap.size ≤ j → (gh0 w.heap.size).own j = 0 := fun j hj => by
    by_cases e : (gh0 w.heap.size).own j = 0
    · exact e
    · have := hT.lt j e; omega
  refine ⟨Pl.made (w := w) cl rfl ?_ ?_ (hT.fr F1 (fun _ _ h => h)) (by omega) (g0 _ (by omega)) (g0 _ (by omega)) (by omega) (by omega) (fun j hj => gh0_from _ j hj), hF.trans F1⟩
  · have := heap_alloc_last (w1.alloc (.cells (List.replicate cl.length zrow).flatten.toArray 76)) (.cells (playC w.heap.size (fun _ => false) w1.heap.size cl.length (-1) (.slice none 0 0)) 52)
    rw [show (w1.alloc (.cells (List.replicate cl.length zrow).flatten.toArray 76)).heap.size = w1.heap.size + 1 by simp] at this
    exact this
  · rw [Go.RowKit.Below.heap_alloc _ _ _ (by simp)]
    exact heap_alloc_last w1 _
theorem made_b (w w1 : World) (cl : List (List OpT)) (n : Nat) (en : n = cl.length) (hT : Tb w1 (w.heap.size + 1) (gh0 (w.heap.size + 1)) 0 (fun _ => none)) (hF : Fr (fun _ => False) (w.alloc (.cells (List.replicate n zrow).flatten.toArray 76)) w1) :
    Pl (w1.alloc (.cells (playC (w.heap.size + 1) (fun _ => false) w.heap.size n (-1) (.slice none 0 0)) 52)) w.heap.size w1.heap.size w.heap.size (w.heap.size + 1) (gh0 (w.heap.size + 1)) 0 (fun _ => none) (.slice none 0 0) (List.replicate cl.length cv0) [] (stK cl 0) (fun _ => False) ∧ Fr (fun _ => False) w (w1.alloc (.cells (playC (w.heap.size + 1) (fun _ => false) w.heap.size n (-1) (.slice none 0 0)) 52)) := by
  subst en
  have F0 : Fr (fun _ => False) w (w.alloc (.cells (List.replicate cl.length zrow).flatten.toArray 76)) := (Fr.refl _ w).alloc _
  have F1 : Fr (fun _ => False) w1 (w1.alloc (.cells (playC (w.heap.size + 1) (fun _ => false) w.heap.size cl.length (-1) (.slice none 0 0)) 52)) := (Fr.refl _ w1).alloc _
  have hs : w.heap.size + 1 ≤ w1.heap.size := by have := hF.size; simp at this; exact this
  have g0 : ∀ j, w1.heap.size ≤ j → (gh0 (w.heap.size + 1)).own j = 0 := fun j hj => by
    by_cases e : (gh0 (w.heap.size + 1)).own j = 0
    · exact e
    · have := hT.lt j e; omega
  refine ⟨Pl.made (w := w) cl rfl (heap_alloc_last w1 _) ?_ (hT.fr F1 (fun _ _ h => h)) (by omega) (g0 _ (by omega)) (gh0_old _ _ (by omega)) (by omega) (by omega) (fun j hj => by have := gh0_from _ j hj; omega), (F0.trans hF).trans F1⟩
  rw [Go.RowKit.Below.heap_alloc _ _ _ (by omega), hF.block _ (by simp) (fun h => h)]
  exact heap_alloc_last w _

set_option maxRecDepth 100000 in
set_option maxHeartbeats 4000000 in
theorem newPlay_any (w : World) (v : Value) (cl : List (List OpT)) (h : ClsAt w w.heap.size v cl) (hn : cl.length ≤ 64) (hl : ∀ l ∈ cl, l.length ≤ 900000000000) :
    Calls Tryz.prog 11 #[v] w fun e w' => ∃ pb cb tb g cvs, e = .returned (.pointer (some ⟨pb, 0, none⟩)) ∧ Pl w' w.heap.size pb cb tb g 0 (fun _ => none) (.slice none 0 0) cvs [] (begin0 cl) (fun _ => False) ∧ Fr (fun _ => False) w w' := by
  have H : Hd (ClsAt w w.heap.size v cl) := h
  obtain ⟨ad, cap, rfl, -⟩ := h
  obtain ⟨n, en⟩ : ∃ n, n = cl.length := ⟨_, rfl⟩
  have EN : Hd (n = cl.length) := en
  have HLL : Hd (∀ l ∈ cl, l.length ≤ 900000000000) := hl
  rw [← en] at hn ⊢
  have mk := make_clients n hn
  clear en hl
  go_enter Tryz.func11, Tryz.ntmps11
  go_upto_region 1 with fail
  go_cut [3] (fun x3 wx => ∃ pb cb tb : Nat, ∃ g : Gh, x3 = .pointer (some ⟨pb, 0, none⟩) ∧ Hd (Pl wx w.heap.size pb cb tb g 0 (fun _ => none) (.slice none 0 0) (List.replicate cl.length cv0) [] (stK cl 0) (fun _ => False) ∧ Fr (fun _ => False) w wx))
  case first =>
    go_region_with ((first
      | (go_at_call 22; refine (new_any _).mono ?_; rintro _ w1 ⟨rfl, hT1, hF1⟩)))
    all_goals have HT1 : Hd _ := hT1
    all_goals have HF1 : Hd _ := hF1
    all_goals clear hT1 hF1
    all_goals go_wp2_with fail
    all_goals go_meet
    · obtain ⟨q1, q2⟩ := made_a w w1 cl n EN.out HT1.out ((Fr.drew (Fr.refl _ w)).trans HF1.out)
      exact ⟨_, _, _, _, rfl, q1, q2⟩
    · have hsz : (w.alloc (.cells (List.replicate n zrow).flatten.toArray 76)).heap.size = w.heap.size + 1 := by simp
      have ht := HT1.out
      rw [show (w.alloc (.cells (List.replicate n zrow).flatten.toArray 76)).drew.heap.size = w.heap.size + 1 from hsz] at ht
      obtain ⟨q1, q2⟩ := made_b w w1 cl n EN.out ht ((Fr.drew (Fr.refl _ _)).trans HF1.out)
      exact ⟨_, _, _, _, rfl, q1, q2⟩
  case rest =>
    obtain ⟨pb, cb, tb, g, rfl, HM⟩ := hcut
    obtain ⟨hP0, hF0⟩ := HM.out
    have HP0 : Hd _ := hP0
    have HF0 : Hd (Fr (fun _ => False) w wc) := hF0
    have HB : Hd (w.heap.size ≤ wc.heap.size) := hF0.size
    clear HM hP0 hF0 mk
    go_wp2_with fail
    go_loopw [14] (fun v wr => ∃ k : Nat, v = .int .i64 k ∧ k ≤ n ∧ Hd (∃ cvs, Pl wr w.heap.size pb cb tb g 0 (fun _ => none) (.slice none 0 0) cvs [] (stK cl k) (fun _ => False) ∧ Fr (fun j => j = cb) wc wr)) (fun v _ => match v with | .int _ q => n - q.toNat | _ => 0)
    case atStart => exact ⟨0, rfl, by omega, _, HP0.out, Fr.refl _ _⟩
    case round =>
      obtain ⟨k, rfl, hk, HM⟩ := hrel
      by_cases hlt : k < n
      · obtain ⟨cvs, hP, hF⟩ := HM.out
        have hkl : k < cl.length := by rw [← EN.out]; exact hlt
        obtain ⟨ad', cap', e', hx⟩ := H.out
        cases e'
        obtain ⟨gb, go, rfl, hgb, hcs⟩ := hx (by intro e; rw [e] at hkl; simp at hkl)
        obtain ⟨u, hu, hou⟩ := hcs k hkl
        have hgc := hP.bc
        have hFw : Fr (fun j => j = cb) w wr := (HF0.out.mono (fun _ _ h => h.elim)).trans hF
        have hu2 : wr.cell? ⟨gb, go + k, none⟩ = some u := (hFw.cell hgb (by omega)).trans hu
        have hou2 : OpsAt wr w.heap.size u cl[k] := hou.fr hFw (Nat.le_refl _) (fun j hj e => by omega)
        have hsl : (stK cl k).cls.length = cl.length := clsK_len cl k (by omega)
        have hkc : k < (stK cl k).cls.length := by rw [hsl]; exact hkl
        have hkv : k < cvs.length := by rw [hP.len]; exact hkc
        obtain ⟨-, p9, -⟩ := hP.heads
        rw [hsl, ← EN.out] at p9
        have hou3 : OpsAt wr.drew w.heap.size u cl[k] := hou2.fr (Fr.drew (Fr.refl (fun _ => False) wr)) (by have := HF0.out.size; have := hF.size; omega) (fun _ _ h => h)
        have hfk := fromKnown_any w.heap.size u cl[k] wr.drew hou3 (by have := HLL.out cl[k] (List.getElem_mem hkl); omega)
        have hrow := hP.row k hkv
        have hc0 := (hP.cells k hkv).1
        have z0 := hP.rows.frz (k * 7)
        have hpc : ¬ cb = pb := fun e => hP.ne e.symm
        have HEND : Hd (∀ (va : Option Addr) (vn vc : Nat), OpsAt wr.drew w.heap.size (.slice va vn vc) (fromK cl[k]) → (∃ cvs', Pl (wr.drew.setCell ⟨cb, k * 7, none⟩ (.slice va vn vc)) w.heap.size pb cb tb g 0 (fun _ => none) (.slice none 0 0) cvs' [] (stK cl (k + 1)) (fun _ => False) ∧ Fr (fun j => j = cb) wc (wr.drew.setCell ⟨cb, k * 7, none⟩ (.slice va vn vc)))) := fun va vn vc ho => by
          have hPd := hP.drew
          have hrd := hPd.row k hkv
          obtain ⟨hkv', ecl⟩ := hP.cl k hkc
          have hz : (stK cl k).cls[k] = cl0 := clsK_at cl k hkl hkc
          have hr2 := Rows.put (by simpa using hkv) hrd 0 (by omega) (.slice va vn vc)
          have F2 : Fr (fun j => j = cb) wr.drew (wr.drew.setCell ⟨cb, k * 7, none⟩ (.slice va vn vc)) := (Fr.refl (fun j => j = cb) _).setCell _ _ (Or.inl rfl)
          have hrp := hPd.reps cvs[k] (List.getElem_mem hkv)
          rw [hz] at ecl
          have h2 := hPd.setCl F2 k ⟨.slice va vn vc, cvs[k].kv, cvs[k].vv, ⟨fromK cl[k], cvs[k].c.st, cvs[k].c.lk, cvs[k].c.rp⟩⟩ hr2 ho hrp
          have es : ({ stK cl k with cls := (stK cl k).cls.set k ⟨fromK cl[k], cvs[k].c.st, cvs[k].c.lk, cvs[k].c.rp⟩ } : St) = stK cl (k + 1) := by
            rw [ecl]
            show (⟨[], fun _ => false, (clsK cl k).set k ⟨fromK cl[k], 0, 0, rep0⟩, -1, []⟩ : St) = _
            rw [clsK_set cl k hkl]
            rfl
          have h3 : Pl _ _ _ _ _ _ _ _ _ _ _ ({ stK cl k with cls := (stK cl k).cls.set k ⟨fromK cl[k], cvs[k].c.st, cvs[k].c.lk, cvs[k].c.rp⟩ } : St) _ := h2
          rw [es] at h3
          exact ⟨_, h3, hF.drew.trans F2⟩
        obtain ⟨ua, uc, eu, -⟩ := hou
        generalize hql : cl[k].length = q at eu
        subst eu
        have hk3 : (k : Int) < n := by omega
        have hk0 : (0 : Int) ≤ k := by omega
        generalize cvs[k].cv = ocv at hc0
        clear HM hP hF hrow hou2 hou3 hcs hx hFw hu hsl hkc hql H
        go_upto_region 5 with fail
        go_region_with ((first
          | (go_at_call 23; refine hfk.mono ?_; rintro _ wz ⟨v', rfl, ho', rfl⟩; have HO' : Hd _ := HEND.out; obtain ⟨va, vc, ev, -⟩ := (show OpsAt wr.drew w.heap.size v' (fromK cl[k]) from ho'); generalize hvn : (fromK cl[k]).length = vn at ev; subst ev; have HX : Hd _ := HEND.out va vn vc ho'; clear ho' hvn HO')))
        all_goals go_wp2_with fail
        all_goals exact ⟨⟨k + 1, by simp, by omega, HX.out⟩, by simp; omega⟩
      · have hdk : decide ((k : Int) < n) = false := by simp; omega
        have ek : Hd (k = cl.length) := by have := EN.out; show k = _; omega
        clear hk
        go_wp2_with fail
        go_ret
        obtain ⟨cvs, hP, hF⟩ := HM.out
        rw [ek.out, stK_all] at hP
        have hbc := hP.bc
        exact ⟨pb, cb, tb, g, cvs, rfl, hP, ⟨hF.os.trans HF0.out.os, hF.tape.trans HF0.out.tape, hF.output.trans HF0.out.output, Nat.le_trans HF0.out.size hF.size, fun j hj _ => (hF.block j (by have := HF0.out.size; omega) (by omega)).trans (HF0.out.block j hj (fun h => h))⟩⟩
end Go.Proofs.YtihicdbplmdjiaaGreat.Pl
