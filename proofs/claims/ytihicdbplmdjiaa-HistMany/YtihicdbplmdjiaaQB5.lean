import Derived.Test.YtihicdbplmdjiaaQB4
namespace Go.Proofs.Ytihicdbplmdjiaa
open Go.RowKit (wrap32 wrap64)
set_option linter.unusedVariables false
set_option linter.unusedSimpArgs false

/-! ### is each value that an answer tells the one that was published? -/
def hasB (f : Mk) (key : Int) (val : ByteArray) : Bool := match f key with | some c => decide (c.v.toList = val.toList) | none => false
/-- What past holds: the calls, and by key the one that made its value. -/
structure PAt (w : World) (lv : Value) (mb N : Nat) (cs : List Cl) (f : Mk) : Prop where
  cat : CAt w lv cs
  map : MdM w mb N f
  ats : ∀ q c, f q = some c → c.R.At w
theorem PAt.fr {w w' : World} {lv : Value} {mb N : Nat} {cs : List Cl} {f : Mk} (h : PAt w lv mb N cs f) (x : Fr (fun _ => False) w w') : PAt w' lv mb N cs f :=
  ⟨h.cat.fr x, h.map.fr x (fun e => e), fun q c e => (h.ats q c e).fr x⟩
def pV (lv : Value) (mb : Nat) : Value := .agg #[lv, .map (some mb)]

set_option maxHeartbeats 2000000 in
theorem has61 (lv : Value) (mb N : Nat) (cs : List Cl) (f : Mk) (key : Int) (val : ByteArray) (w : World) (h : PAt w lv mb N cs f) (hk : In64 key) :
    Calls Try.prog 61 #[pV lv mb, vI key, .string val] w fun e w' => e = .returned (.bool (hasB f key val)) ∧ Fr (fun _ => False) w w' := by
  obtain ⟨ad, cap, rfl, -⟩ := h.cat
  unfold pV hasB
  have HF : Hd (Fr (fun _ => False) w (w.alloc (.cells #[.slice ad cs.length cap, .map (some mb)] 54))) := (Fr.refl _ w).alloc _
  have hm := h.map.fr HF.out (fun e => e)
  cases hf : f key with
  | none =>
    have hq := hm.out hk hf
    unfold zeroC at hq
    clear hm h hf
    go_enter Try.func61, Try.ntmps61
    go_wp2_with fail
    go_ret
    exact ⟨rfl, HF.out.alloc _⟩
  | some c =>
    have hq := hm.in_ hk hf
    obtain ⟨ka, kc, ek⟩ := row_slice (h.ats key c hf).1
    obtain ⟨va, vc, ev⟩ := row_slice (h.ats key c hf).2
    unfold Cl.V c9 at hq
    obtain ⟨b, en', kd, ky, v, ⟨⟨ok, v2, ks, vs⟩, kv, vv⟩⟩ := c
    simp only [List.length_map] at hq ek ev ⊢
    subst ek ev
    clear hm h hf
    by_cases hv : v.toList = val.toList
    · go_enter Try.func61, Try.ntmps61
      go_wp2_with fail
      go_ret
      exact ⟨by simp [hv], HF.out.alloc _⟩
    · go_enter Try.func61, Try.ntmps61
      go_wp2_with fail
      go_ret
      exact ⟨by simp [hv], HF.out.alloc _⟩
end Go.Proofs.Ytihicdbplmdjiaa
