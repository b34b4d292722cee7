import Derived.Test.YtmdlebolmhnhaaaI1
import Derived.Test.YtmdlebolmhnhaaaI2
import Derived.Test.YtmdlebolmhnhaaaH7
namespace Go.Proofs.Ytmdlebolmhnhaaa
open Go.RowKit (wrap32 wrap64)
open Go.Maps (Keyed)
set_option linter.unusedVariables false
set_option linter.unusedSimpArgs false

theorem act_any (w0 : World) (b : Nat) (g : Gh) (a : Abs) (lb d : Nat) (av : Value) (E : List Ent) (o : ActR) (w : World) (h : Both w0 w b g a lb d av E) (hq : Sq a d (ms E)) {N : Nat} (hf : Fine N a) (hN : N + 1 ≤ 2000000000000) :
    Calls Try.prog 22 #[ptr lb, actV o] w (ActEnds w0 b lb N) := by
  by_cases h4 : o.kind = 4
  · exact act_drop w0 b g a lb d av E o w h hq hf hN h4
  by_cases h5 : o.kind = 5
  · cases hh : o.heap
    · exact act_storeN w0 b g a lb d av E o w h hq hf hN h5 hh
    · exact act_storeP w0 b g a lb d av E o w h hq hf hN h5 hh
  exact act_few w0 b g a lb d av E o w h hq hf hN h4 h5

/-- Acts that came in. -/
def ActsIn (w : World) (v : Value) (os : List ActR) : Prop :=
  ∃ a c, v = .slice a os.length c ∧ os.length ≤ c ∧ (os ≠ [] → ∃ k o, a = some ⟨k, o, none⟩ ∧ k < w.heap.size ∧ ∀ i (h : i < os.length) j, j < 5 → w.cell? ⟨k, o + i * 5 + j, none⟩ = (actC os[i])[j]?)

theorem both_new {w w1 : World} {b : Nat} {g : Gh} (hM : Mem w1 b g (newX 0)) (hF : Fr (fun _ => False) w w1) (hO : OwnNew w.heap.size g) :
    Both w (w1.alloc (.cells #[ptr b, vI 0, .slice none 0 0] 52)) b g (newX 0) w1.heap.size 0 (.slice none 0 0) [] := by
  refine ⟨hM.alloc _, ⟨heap_alloc_last w1 _, World.ownsRow_nil _ _ _ _, fun i r h => by simp at h, fun i r h => by simp at h, fun i j r s k h => by simp at h, hF.size⟩, fun k hk => ?_, hO, Fr.alloc hF _⟩
  rcases hk with rfl | e | ⟨i, r, h, -⟩
  · by_cases h0 : g.own w1.heap.size = 0
    · exact h0
    · have := hM.olt _ h0; omega
  · cases e
  · simp at h

set_option maxRecDepth 100000 in
set_option maxHeartbeats 2000000 in
theorem ledger_walk (pv : Value) (os : List ActR) (w : World) (h : ActsIn w pv os) (hx : os.length ≤ 1000000000000) :
    Calls Try.prog 7 #[pv] w fun e w' => e = .returned (.bool true) ∧ Fr (fun _ => False) w w' := by
  obtain ⟨a0, c0, rfl, hc0, hin⟩ := h
  have HIN : Hd _ := hin
  clear hin
  go_enter Try.func7, Try.ntmps7
  go_wp2_with fail
  refine (fixed_any w).mono ?_
  rintro e w0 ⟨rfl, hF0⟩
  go_wp2_with fail
  refine (show Calls Try.prog 10 #[.int .i64 0] w0 _ from new_any 0 (by omega) w0).mono ?_
  rintro e w1 ⟨b, g, rfl, hM1, hF1, hO1⟩
  have HB0 : Hd _ := both_new hM1 (hF0.trans hF1) (fun k hk => Nat.le_trans hF0.size (hO1 k hk))
  have HQ0 : Hd (Sq (newX 0) 0 (ms [])) := sq_new 0
  have HF0 : Hd (Fine 0 (newX 0)) := ⟨by simp [newX], by simp [newX], by simp [newX], by simp [newX]⟩
  clear hF0 hM1 hF1 hO1
  go_wp2_with fail
  generalize w1.alloc (.cells #[ptr b, vI 0, .slice none 0 0] 52) = w2 at *
  obtain ⟨lb, hlb⟩ : ∃ lb, lb = w1.heap.size := ⟨_, rfl⟩
  rw [← hlb] at HB0 ⊢
  clear hlb
  go_loopw [3, 5] (fun ok v wr => ∃ (k : Nat) (g : Gh) (a : Abs) (d : Nat) (av : Value) (E : List Ent), ok = .bool true ∧ v = .int .i64 k ∧ k ≤ os.length ∧ Hd (Both w wr b g a lb d av E) ∧ Hd (Sq a d (ms E)) ∧ Hd (Fine k a)) (fun _ v _ => match v with | .int _ q => os.length - q.toNat | _ => 0)
  case atStart => exact ⟨0, g, newX 0, 0, _, [], rfl, rfl, Nat.zero_le _, HB0.out, HQ0.out, HF0.out⟩
  case round =>
    obtain ⟨k, g, a, d, av, E, rfl, rfl, hk, HB, HQ, HF⟩ := hrel
    clear HB0 HQ0 HF0
    by_cases hlt : k < os.length
    · obtain ⟨pk, po, rfl, hpk, hcs⟩ := HIN.out (by intro e; simp [e] at hlt)
      have HCS : ∀ j, j < 5 → wr.cell? ⟨pk, po + k * 5 + j, none⟩ = (actC os[k])[j]? := fun j hj => (HB.out.fr.cell hpk (fun h => h)).trans (hcs k hlt j hj)
      obtain ⟨o, ho⟩ : ∃ o, os[k] = o := ⟨_, rfl⟩
      rw [ho] at HCS
      have p0 : wr.cell? ⟨pk, po + k * 5, none⟩ = some (vI o.kind) := HCS 0 (by omega)
      have p1 : wr.cell? ⟨pk, po + k * 5 + 1, none⟩ = some (vI o.n) := HCS 1 (by omega)
      have p2 : wr.cell? ⟨pk, po + k * 5 + 2, none⟩ = some (.bool o.heap) := HCS 2 (by omega)
      have p3 : wr.cell? ⟨pk, po + k * 5 + 3, none⟩ = some (vI o.field) := HCS 3 (by omega)
      have p4 : wr.cell? ⟨pk, po + k * 5 + 4, none⟩ = some (vI o.x) := HCS 4 (by omega)
      have hk0 : (0 : Int) ≤ k := by omega
      have hk1 : (k : Int) < os.length := by omega
      clear HCS hcs ho
      go_wp2_with fail
      clear p0 p1 p2 p3 p4
      refine (show Calls Try.prog 22 #[ptr lb, actV o] wr _ from act_any w b g a lb d av E o wr HB.out HQ.out HF.out (by omega)).mono ?_
      rintro e w3 ⟨rfl, g', a', d', av', E', hB', hS', hf'⟩
      have HB' : Hd _ := hB'
      have HS' : Hd _ := hS'
      have HF' : Hd _ := hf'
      clear hB' hS' hf' HB HQ HF
      go_wp2_with fail
      refine (show Calls Try.prog 23 #[ptr lb] w3 _ from square_any w b g' a' lb d' av' E' w3 HB'.out HS'.out HF'.out (by omega)).mono ?_
      rintro e w4 ⟨rfl, hF4⟩
      have HB4 : Hd _ := HB'.out.keep hF4
      clear hF4
      go_wp2_with fail
      exact ⟨⟨k + 1, g', a', d', av', E', by simp, by simp, by omega, HB4.out, HS'.out, HF'.out⟩, by simp; omega⟩
    · have hke : k = os.length := by omega
      subst hke
      go_wp2_with fail
      go_ret
      exact ⟨rfl, HB.out.fr⟩

end Go.Proofs.Ytmdlebolmhnhaaa
