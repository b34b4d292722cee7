import Derived.Test.YtngbakjalmgciaaGreatQCd
namespace Go.Proofs.YtngbakjalmgciaaGreat
open Go.RowKit (wrap32 wrap64)
set_option linter.unusedVariables false
set_option linter.unusedSimpArgs false

theorem costs_ge (l : List OpT) : l.length ≤ costs l := by
  induction l with
  | nil => simp [costs]
  | cons o r ih => rw [costs_cons, List.length_cons]; have := cost_ge o; omega
theorem len_mu1 {c : Cl} (h : ClOk c) : c.ops.length ≤ mu1 c + 10 := by
  have h8 := h.lk
  unfold mu1
  split
  · have := costs_ge c.ops; omega
  · split
    · have := costs_ge c.ops; omega
    · have := costs_ge c.ops.tail
      cases hc : c.ops with
      | nil => simp
      | cons o r => rw [hc] at this; simp at this; simp; omega
theorem mu1_le (s : St) {c : Cl} (h : c ∈ s.cls) : mu1 c ≤ mu s := by
  unfold mu
  have : mu1 c ∈ s.cls.map mu1 := List.mem_map.2 ⟨c, h, rfl⟩
  generalize s.cls.map mu1 = l at this
  generalize mu1 c = x at this
  induction l with
  | nil => cases this
  | cons y r ih =>
    rcases List.mem_cons.1 this with rfl | h
    · simp
    · have := ih h; simp; omega
theorem stepX_eq {s : St} {i : Nat} (hl : i < s.cls.length) {o : OpT} {r : List OpT} (hop : s.cls[i].ops = o :: r) : stepX s i =
    if s.cls[i].st = 0 then { s with ms := s.ms ++ [⟨i, true, o, rep0⟩], cls := s.cls.set i { s.cls[i] with st := 1 } }
    else if s.cls[i].st = 1 then actX s i s.cls[i] o
    else { s with ms := s.ms ++ [⟨i, false, o, s.cls[i].rp⟩], cls := s.cls.set i { s.cls[i] with st := 0, ops := fromK r } } := by
  have hg : s.cls.getD i cl0 = s.cls[i] := by rw [List.getD_eq_getElem?_getD]; simp [hl]
  unfold stepX
  simp only [hg, hop]

section
variable {w : World} {B pb cb tb : Nat} {g : Gh} {N : Nat} {a : Ab} {mv : Value} {cvs : List CV} {mvs : List MV} {s : St} {E : Nat → Prop}
theorem step_any (h : Pl w B pb cb tb g N a mv cvs mvs s E) (hs : StOk s) (i : Nat) (hi : i ∈ able s) (hn : s.cls.length ≤ 64) (hms : s.ms.length ≤ 100000000000) (hN : N < 100000000000) (hmu : mu s ≤ 100000000000) :
    Calls Tryz.prog 24 #[.pointer (some ⟨pb, 0, none⟩), vI i] w fun e w' => e = .returned (.tuple #[]) ∧ Left cvs mvs w B pb cb tb g N E (stepX s i) w' := by
  obtain ⟨hl, hc⟩ := able_mem hi
  have hok := hs s.cls[i] (List.getElem_mem hl)
  have hlen := len_mu1 hok
  have hmu1 := mu1_le s (List.getElem_mem hl)
  obtain ⟨o, r, hop⟩ : ∃ o r, s.cls[i].ops = o :: r := by
    cases hop : s.cls[i].ops with
    | nil => simp [canGo, hop] at hc
    | cons o r => exact ⟨o, r, rfl⟩
  rw [stepX_eq hl hop]
  have hk := hok.first o r hop
  rw [hop] at hlen
  have hr : r.length ≤ 900000000000 := by simp at hlen; omega
  by_cases h0 : s.cls[i].st = 0
  · rw [if_pos h0]
    exact step_begin h i hl hn o r hop h0 hms
  · rw [if_neg h0]
    by_cases h1 : s.cls[i].st = 1
    · rw [if_pos h1]
      exact step_act h i hl hn o r hop h1 hk (hok.keys o (by rw [hop]; simp)) hok.lk hN
    · rw [if_neg h1]
      have h2 : s.cls[i].st = 2 := by have := hok.st; omega
      exact step_end h i hl hn o r hop h2 hr hms
end
end Go.Proofs.YtngbakjalmgciaaGreat

namespace Go.Proofs.YtngbakjalmgciaaGreat
open Go.RowKit (wrap32 wrap64)
set_option linter.unusedVariables false
set_option linter.unusedSimpArgs false

/-- Clients' calls as they lie. -/
def ClsAt (w : World) (B : Nat) (v : Value) (cl : List (List OpT)) : Prop :=
  ∃ ad cap, v = .slice ad cl.length cap ∧ (cl ≠ [] → ∃ g o, ad = some ⟨g, o, none⟩ ∧ g < B ∧ ∀ i (h : i < cl.length), ∃ u, w.cell? ⟨g, o + i, none⟩ = some u ∧ OpsAt w B u cl[i])
theorem ClsAt.fr {w w' : World} {B : Nat} {v : Value} {cl : List (List OpT)} (h : ClsAt w B v cl) {S : Nat → Prop} (f : Fr S w w') (hB : B ≤ w.heap.size) (hS : ∀ j, j < B → ¬ S j) : ClsAt w' B v cl := by
  obtain ⟨ad, cap, e, hx⟩ := h
  refine ⟨ad, cap, e, fun hne => ?_⟩
  obtain ⟨g, o, ea, hg, hcs⟩ := hx hne
  refine ⟨g, o, ea, hg, fun i hi => ?_⟩
  obtain ⟨u, hu, ho⟩ := hcs i hi
  exact ⟨u, (f.cell (by omega) (hS g hg)).trans hu, ho.fr f hB hS⟩

def zrow : List Value := [.slice none 0 0, vI 0, vI 0, .bool false, .string ⟨#[]⟩, .slice none 0 0, .slice none 0 0]
theorem made_rows (n : Nat) : madeCells #[.slice none 0 0, vI 0, vI 0, .bool false, .string ⟨#[]⟩, .slice none 0 0, .slice none 0 0] (n * 7) = (List.replicate n zrow).flatten.toArray := by
  have hlen : ∀ r ∈ List.replicate n zrow, r.length = 7 := fun r hr => by rw [List.eq_of_mem_replicate hr]; rfl
  apply Array.ext_getElem?
  intro j
  by_cases hj : j < n * 7
  · have hj7 : j / 7 < n := by omega
    have e := flat_get hlen (j / 7) (j % 7) (by simpa using hj7) (by omega)
    rw [show j / 7 * 7 + j % 7 = j by omega, List.getElem_replicate] at e
    have e1 : (madeCells #[.slice none 0 0, vI 0, vI 0, .bool false, .string ⟨#[]⟩, .slice none 0 0, .slice none 0 0] (n * 7))[j]? = some ((#[.slice none 0 0, vI 0, vI 0, .bool false, .string ⟨#[]⟩, .slice none 0 0, .slice none 0 0] : Array Value)[j % 7]!) := by
      unfold madeCells
      rw [Array.getElem?_map, Array.getElem?_range, if_pos hj]
      rfl
    rw [e1, List.getElem?_toArray, e]
    have h7 : j % 7 < 7 := by omega
    generalize j % 7 = q at *
    match q, h7 with
    | 0, _ => rfl
    | 1, _ => rfl
    | 2, _ => rfl
    | 3, _ => rfl
    | 4, _ => rfl
    | 5, _ => rfl
    | 6, _ => rfl
  · rw [Array.getElem?_eq_none (by rw [size_madeCells]; omega), Array.getElem?_eq_none (by rw [List.size_toArray, flat_len hlen]; simp; omega)]
theorem under99 : Tryz.prog.underlying 57 = some (.slice 96) := by kernel_rfl
theorem make_clients (n : Nat) (hn : n ≤ 64) (w : World) : (Instr.makeSlice 57 (.int .i64 n) (.int .i64 n)).run Tryz.prog w = .ok (.slice (some ⟨w.heap.size, 0, none⟩) n n) (w.alloc (.cells (List.replicate n zrow).flatten.toArray 96)) := by
  rw [run_make_of 57 96 (.agg #[.slice none 0 0, vI 0, vI 0, .bool false, .string ⟨#[]⟩, .slice none 0 0, .slice none 0 0]) 7 112 under99 (by kernel_rfl) (by kernel_rfl) (by kernel_rfl) n (by omega) (by omega) w]
  show Result.ok _ (w.alloc (.cells (madeCells #[.slice none 0 0, vI 0, vI 0, .bool false, .string ⟨#[]⟩, .slice none 0 0, .slice none 0 0] (n * 7)) 96)) = _
  rw [made_rows]

/-- Clients, some of whose calls are laid. -/
def clsK (cl : List (List OpT)) (k : Nat) : List Cl := (cl.take k).map (fun l => ⟨fromK l, 0, 0, rep0⟩) ++ List.replicate (cl.length - k) cl0
theorem clsK_len (cl : List (List OpT)) (k : Nat) (h : k ≤ cl.length) : (clsK cl k).length = cl.length := by simp [clsK]; omega
theorem clsK_all (cl : List (List OpT)) : clsK cl cl.length = cl.map (fun l => ⟨fromK l, 0, 0, rep0⟩) := by simp [clsK]
theorem clsK_set (cl : List (List OpT)) (k : Nat) (h : k < cl.length) : (clsK cl k).set k ⟨fromK cl[k], 0, 0, rep0⟩ = clsK cl (k + 1) := by
  have hl : ((cl.take k).map (fun l => (⟨fromK l, 0, 0, rep0⟩ : Cl))).length = k := by simp; omega
  unfold clsK
  rw [List.set_append, if_neg (by omega), hl, Nat.sub_self]
  obtain ⟨m, hm⟩ : ∃ m, cl.length - k = m + 1 := ⟨cl.length - k - 1, by omega⟩
  rw [hm, List.replicate_succ, List.set_cons_zero, show cl.length - (k + 1) = m by omega, List.take_add_one, List.getElem?_eq_getElem h, List.map_append, List.append_assoc]
  rfl
def stK (cl : List (List OpT)) (k : Nat) : St := ⟨[], fun _ => false, clsK cl k, -1, []⟩
theorem stK_all (cl : List (List OpT)) : stK cl cl.length = begin0 cl := by unfold stK begin0; rw [clsK_all]

/-- Clients without calls. -/
def cv0 : CV := ⟨.slice none 0 0, .slice none 0 0, .slice none 0 0, cl0⟩

/-- A play that was made. -/
theorem Pl.made {w w' : World} {B pb cb tb : Nat} {g : Gh} (cl : List (List OpT)) (hB : B = w.heap.size) (hp : w'.heap[pb]? = some (.cells (playC tb (fun _ => false) cb cl.length (-1) (.slice none 0 0)) 59)) (hc : w'.heap[cb]? = some (.cells (List.replicate cl.length zrow).flatten.toArray 96)) (ht : Tb w' tb g 0 (fun _ => none)) (hne : pb ≠ cb) (hgp : g.own pb = 0) (hgc : g.own cb = 0) (hbp : B ≤ pb) (hbc : B ≤ cb) (hbg : ∀ j, g.own j ≠ 0 → B ≤ j) :
    Pl w' B pb cb tb g 0 (fun _ => none) (.slice none 0 0) (List.replicate cl.length cv0) [] (stK cl 0) (fun _ => False) where
  play := by
    have e : (stK cl 0).cls.length = cl.length := clsK_len cl 0 (Nat.zero_le _)
    rw [e]; exact hp
  rows := ⟨by rw [List.map_replicate]; exact hc, fun r hr => by rw [List.map_replicate] at hr; rw [List.eq_of_mem_replicate hr]; rfl⟩
  cls := by rw [List.map_replicate]; simp [stK, clsK]; exact Or.inr rfl
  ops := fun x hx => by rw [List.eq_of_mem_replicate hx]; exact ⟨none, 0, rfl, by simp [cv0, cl0], fun h => absurd rfl h⟩
  reps := fun x hx => by rw [List.eq_of_mem_replicate hx]; exact RepAt.none _ _ _
  tab := ht
  snap := ⟨List.Pairwise.nil, fun k v => by simp [stK]⟩
  mom := World.ownsRow_nil _ _ _ _
  moms := rfl
  mreps := fun x hx => by cases hx
  ne := hne
  gp := hgp
  gc := hgc
  bp := hbp
  bc := hbc
  bg := hbg
  mp := fun h => by cases h
  mc := fun h => by cases h
  mg := fun j h => by cases h
  ep := fun h => h
  ec := fun h => h
  eg := fun j h => h.elim
  em := fun j h => h.elim
  eb := fun j h => h.elim
  el := fun j h => h.elim
end Go.Proofs.YtngbakjalmgciaaGreat
