import Derived.Test.YtingenonbkencaaDoorQG4
namespace Go.Proofs.YtingenonbkencaaDoor
open Go.RowKit (wrap32 wrap64)
set_option linter.unusedVariables false
set_option linter.unusedSimpArgs false
def throughX (b : Nat) (rv : Value) (bs : List UInt8) (s : WS) (fv : Value) : X (Int × List HD × List (List AI)) :=
  if bs.take 6 = magicL.take bs.length then
    match askX (reading b rv bs) 146 1 (fun s => decide (0 ≤ s.globals ∧ s.globals ≤ 16)) 18 (s, ()) with
    | .error z => .error z
    | .ok y2 => match askX (reading b rv bs) 161 2 (fun s => decide (1 ≤ s.count ∧ s.count ≤ 65535)) 20 y2 with
      | .error z => .error z
      | .ok y3 => match headsX (reading b rv bs) y3.1.count.toNat y3 with
        | .error z => .error z
        | .ok (done, y) => match funcsX (reading b rv bs) (headsOf done) done ({ y.1 with funcs := fv }, y.2) with
          | .error z => .error z
          | .ok (fs, z) => if z.1.at' = bs.length then .ok (y3.1.globals, done, fs) else .error (22, z.1.at')
  else .error (10, 0)
def LaidP (w w' : World) (v : Value) (G : Int) (done : List HD) (fs : List (List AI)) : Prop :=
  ∃ g cap cs tl, w.heap.size ≤ g ∧ v = .agg #[vI G, .slice (some ⟨g, 0, none⟩) done.length cap] ∧ cs.length = done.length ∧ fs.length = done.length ∧ 1 ≤ done.length ∧ done.length ≤ 65535 ∧
    w'.heap[g]? = some (.cells (funcCells done cs ++ tl).toArray 67) ∧ CodesAt w w' fs cs ∧ ∀ h ∈ done, HeadFine h
def Thru (b : Nat) (rv : Value) (bs : List UInt8) (s : WS) (w : World) (e : Ending) (w' : World) : Prop :=
  Fr (fun k => k = b) w w' ∧ ∃ fv, match throughX b rv bs s fv with
    | .error z => e = .panicked (viol z.1 z.2)
    | .ok (G, done, fs) => ∃ v, e = .returned v ∧ LaidP w w' v G done fs
theorem fr_sb {b : Nat} {rv : Value} {bs : List UInt8} {w w' : World} (h : Fr (reading b rv bs).SB w w') : Fr (fun k => k = b) w w' := h.mono (fun _ _ hk => hk.elim id (fun h => h.elim))
theorem reading_len {b : Nat} {ra : Option Addr} {rl rc : Nat} {bs : List UInt8} {st : Unit} {p : Int} {w : World} (h : (reading b (.slice ra rl rc) bs).I st p w) : rl = bs.length := by
  obtain ⟨⟨-, a, c, e, -⟩, -⟩ := h
  cases e
  rfl
theorem fr_close {b pv : Nat} {w wl w' : World} (hB : Fr (fun k => k = b) w wl) (hp : w.heap.size ≤ pv) (hy : Fr (fun j => j = b ∨ pv ≤ j) wl w') : Fr (fun k => k = b) w w' :=
  ((hB.mono (T := fun j => j = b ∨ pv ≤ j) (fun j _ hj => Or.inl hj)).trans hy).mono (fun j hj hS => hS.elim id (fun e => by omega))
theorem headsX_err {b : Nat} {M : Mode b} {n k : Nat} {y3 y : WS × M.σ} {done : List HD} {z : Int × Int} (hv : headsX M n y3 = contH done (headsX M (n - k) y)) (hk : k < n) (hx : headX M y = .error z) : headsX M n y3 = .error z := by
  rw [hv, show n - k = (n - (k + 1)) + 1 by omega]
  simp only [headsX, hx, contH]
theorem thru_begin {b : Nat} {rv : Value} {bs : List UInt8} {s : WS} {w w' : World} (hm : ¬ bs.take 6 = magicL.take bs.length) (hf : Fr (fun k => k = b) w w') : Thru b rv bs s w (.panicked (viol 10 0)) w' :=
  ⟨hf, nilS, by unfold throughX; rw [if_neg hm]⟩
theorem thru_glob {b : Nat} {rv : Value} {bs : List UInt8} {s : WS} {w w' : World} {z : Int × Int} (hm : bs.take 6 = magicL.take bs.length)
    (h2 : askX (reading b rv bs) 146 1 (fun s => decide (0 ≤ s.globals ∧ s.globals ≤ 16)) 18 (s, ()) = .error z) (hf : Fr (fun k => k = b) w w') : Thru b rv bs s w (.panicked (viol z.1 z.2)) w' :=
  ⟨hf, nilS, by unfold throughX; rw [if_pos hm, h2]⟩
theorem thru_funs {b : Nat} {rv : Value} {bs : List UInt8} {s : WS} {w w' : World} {z : Int × Int} {y2 : WS × Unit} (hm : bs.take 6 = magicL.take bs.length)
    (h2 : askX (reading b rv bs) 146 1 (fun s => decide (0 ≤ s.globals ∧ s.globals ≤ 16)) 18 (s, ()) = .ok y2) (h3 : askX (reading b rv bs) 161 2 (fun s => decide (1 ≤ s.count ∧ s.count ≤ 65535)) 20 y2 = .error z)
    (hf : Fr (fun k => k = b) w w') : Thru b rv bs s w (.panicked (viol z.1 z.2)) w' :=
  ⟨hf, nilS, by unfold throughX; rw [if_pos hm, h2]; simp only; rw [h3]⟩
theorem thru_heads {b : Nat} {rv : Value} {bs : List UInt8} {s : WS} {w w' : World} {z : Int × Int} {y2 y3 : WS × Unit} {n : Nat} (hm : bs.take 6 = magicL.take bs.length)
    (h2 : askX (reading b rv bs) 146 1 (fun s => decide (0 ≤ s.globals ∧ s.globals ≤ 16)) 18 (s, ()) = .ok y2) (h3 : askX (reading b rv bs) 161 2 (fun s => decide (1 ≤ s.count ∧ s.count ≤ 65535)) 20 y2 = .ok y3)
    (hn : y3.1.count = n) (h4 : headsX (reading b rv bs) n y3 = .error z) (hf : Fr (fun k => k = b) w w') : Thru b rv bs s w (.panicked (viol z.1 z.2)) w' :=
  ⟨hf, nilS, by unfold throughX; rw [if_pos hm, h2]; simp only; rw [h3]; simp only; rw [hn, Int.toNat_natCast, h4]⟩
theorem thru_codes {b : Nat} {rv : Value} {bs : List UInt8} {s : WS} {w w' : World} {z : Int × Int} {y2 y3 y : WS × Unit} {n : Nat} {done : List HD} {fv : Value} (hm : bs.take 6 = magicL.take bs.length)
    (h2 : askX (reading b rv bs) 146 1 (fun s => decide (0 ≤ s.globals ∧ s.globals ≤ 16)) 18 (s, ()) = .ok y2) (h3 : askX (reading b rv bs) 161 2 (fun s => decide (1 ≤ s.count ∧ s.count ≤ 65535)) 20 y2 = .ok y3)
    (hn : y3.1.count = n) (h4 : headsX (reading b rv bs) n y3 = .ok (done, y)) (h5 : funcsX (reading b rv bs) (headsOf done) done ({ y.1 with funcs := fv }, y.2) = .error z) (hf : Fr (fun k => k = b) w w') : Thru b rv bs s w (.panicked (viol z.1 z.2)) w' :=
  ⟨hf, fv, by unfold throughX; rw [if_pos hm, h2]; simp only; rw [h3]; simp only; rw [hn, Int.toNat_natCast, h4]; simp only; rw [h5]⟩
theorem thru_trail {b : Nat} {rv : Value} {bs : List UInt8} {s : WS} {w w' : World} {y2 y3 y z : WS × Unit} {n : Nat} {done : List HD} {fs : List (List AI)} {fv : Value} (hm : bs.take 6 = magicL.take bs.length)
    (h2 : askX (reading b rv bs) 146 1 (fun s => decide (0 ≤ s.globals ∧ s.globals ≤ 16)) 18 (s, ()) = .ok y2) (h3 : askX (reading b rv bs) 161 2 (fun s => decide (1 ≤ s.count ∧ s.count ≤ 65535)) 20 y2 = .ok y3)
    (hn : y3.1.count = n) (h4 : headsX (reading b rv bs) n y3 = .ok (done, y)) (h5 : funcsX (reading b rv bs) (headsOf done) done ({ y.1 with funcs := fv }, y.2) = .ok (fs, z)) (he : ¬ z.1.at' = bs.length) (hf : Fr (fun k => k = b) w w') : Thru b rv bs s w (.panicked (viol 22 z.1.at')) w' :=
  ⟨hf, fv, by unfold throughX; rw [if_pos hm, h2]; simp only; rw [h3]; simp only; rw [hn, Int.toNat_natCast, h4]; simp only; rw [h5]; simp only; rw [if_neg he]⟩
theorem thru_ok {b : Nat} {rv : Value} {bs : List UInt8} {s : WS} {w w' : World} {y2 y3 y z : WS × Unit} {n : Nat} {done : List HD} {fs : List (List AI)} {fv v : Value} (hm : bs.take 6 = magicL.take bs.length)
    (h2 : askX (reading b rv bs) 146 1 (fun s => decide (0 ≤ s.globals ∧ s.globals ≤ 16)) 18 (s, ()) = .ok y2) (h3 : askX (reading b rv bs) 161 2 (fun s => decide (1 ≤ s.count ∧ s.count ≤ 65535)) 20 y2 = .ok y3)
    (hn : y3.1.count = n) (h4 : headsX (reading b rv bs) n y3 = .ok (done, y)) (h5 : funcsX (reading b rv bs) (headsOf done) done ({ y.1 with funcs := fv }, y.2) = .ok (fs, z)) (he : z.1.at' = bs.length) (hf : Fr (fun k => k = b) w w')
    (hl : LaidP w w' v y3.1.globals done fs) : Thru b rv bs s w (.returned v) w' :=
  ⟨hf, fv, by unfold throughX; rw [if_pos hm, h2]; simp only; rw [h3]; simp only; rw [hn, Int.toNat_natCast, h4]; simp only; rw [h5]; simp only; rw [if_pos he]; exact ⟨v, rfl, hl⟩⟩
theorem CodesAt.mono {w0 w1 w : World} (h : w0.heap.size ≤ w1.heap.size) : ∀ {ls : List (List AI)} {cs : List Value}, CodesAt w1 w ls cs → CodesAt w0 w ls cs
  | [], _, _ => trivial
  | _ :: _, [], h => h
  | l :: ls, c :: cs, ⟨⟨gc, cells, h1, h2, h3, h4⟩, h'⟩ => ⟨⟨gc, cells, Nat.le_trans h h1, h2, h3, CodeCells.mono h h4⟩, CodesAt.mono h h'⟩
theorem funcsX_err {b : Nat} {M : Mode b} {heads : List (Nat × Nat)} {done : List HD} {fs : List (List AI)} {D : HD} {r : List HD} {yf z : WS × M.σ} {er : Int × Int} (hv : funcsX M heads done yf = contF fs (funcsX M heads (D :: r) z))
    (hc : codeX M heads D.R.toNat D.len.toNat D.len.toNat ({ z.1 with fP := D.P, fR := (D.R.toNat : Nat), fV := D.V, fC := .slice none 0 0, len := (D.len.toNat : Nat) }, z.2) = .error er) : funcsX M heads done yf = .error er := by
  rw [hv]; simp only [funcsX, hc, contF]
end Go.Proofs.YtingenonbkencaaDoor
