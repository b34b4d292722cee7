import Derived.Test.YtingenonbkencaaDoorQW7J
import Derived.Test.YtingenonbkencaaDoorQRcJ
import Derived.Deep.DeepAppendWide
set_option linter.unusedVariables false
set_option linter.unusedSimpArgs false
namespace Go.Proofs.YtingenonbkencaaDoor
open Go.RowKit (wrap32 wrap64)
set_option maxRecDepth 100000
set_option maxHeartbeats 1000000
theorem copyBytes_wide (v : Value) (bs : List UInt8) (w : World) (h : BytesIn w v bs) (hl : bs.length ≤ 140737488351232) :
 Calls Tryd.prog 11 #[v] w fun e w' => Fr (fun _ => False) w w' ∧ ∃ rv, e = .returned rv ∧ w'.ownsRow w.heap.size 5 1 rv bs.length (bs.map u8v) ∧ (bs = [] → rv = .slice none 0 0) := by
 obtain ⟨-, a, c, rfl, hc, hcell⟩ := h
 obtain ⟨i5, hi5, hz5, hs5, hb5⟩ := info_parts (P := Tryd.prog) (e := 5) (z := .int .u8 0) (size := 1) (bytes := 1) (by kernel_rfl)
 go_enter Tryd.func11, Tryd.ntmps11
 go_wp2_with fail
 go_loopw [3, 4] (fun m i wr => ∃ (k : Nat), k ≤ bs.length ∧ i = .int .i64 k ∧ wr.ownsRow w.heap.size 5 1 m k ((bs.take k).map u8v) ∧ Fr (fun j => w.heap.size ≤ j) w wr ∧ (k = 0 → m = .slice none 0 0)) (fun _ i _ => match i with | .int _ q => bs.length - q.toNat | _ => 0)
 case atStart => exact ⟨0, Nat.zero_le _, rfl, World.ownsRow_nil _ _ _ _, Fr.refl _ _, fun _ => rfl⟩
 case round =>
  obtain ⟨k, hk, rfl, hown, hfr, hkz⟩ := hrel
  have HKZ : Hd (k = 0 → u3 = .slice none 0 0) := hkz
  clear hkz
  by_cases hlt : k < bs.length
  ·obtain ⟨g, o, rfl, hg, hcs⟩ := hcell (by intro e; simp [e] at hlt)
   have hck : wr.cell? ⟨g, o + k, none⟩ = some (.int .u8 bs[k].toNat) := (hfr.cell hg (by omega)).trans (hcs k hlt)
   have hgl : g < wr.heap.size := Nat.lt_of_lt_of_le hg hfr.size
   have htk : Hd ((bs.take (k + 1)).map u8v = (bs.take k).map u8v ++ [u8v bs[k]]) := take_map_succ bs k hlt
   generalize hbk : bs[k] = bk at hck htk
   have hkb : k + 1 ≤ maxLen := by unfold maxLen; omega
   have hws := hfr.size
   have hcell1 : ∀ (j : Nat) (u : Value), [u8v bk][j]? = some u → (wr.alloc (.cells #[u8v bk] 5)).cell? ((⟨wr.heap.size, 0, none⟩ : Addr).add j) = some u := by
    intro j u hu
    rw [addr_add, World.cell?_alloc_new]
    simpa using hu
   have hkn : (0 : Int) ≤ k ∧ (k : Int) < bs.length := by omega
   clear hcell hcs hbk
   go_wp2_with ((at_builtin; refine wpList_append_own _ rfl (.tmp 11) (.tmp 16) 22 rfl w.heap.size 5 i5 (.int .u8 0) 1 1 Tryd.underlying22 hi5 hz5 hs5 hb5 rfl (by omega) u3 k _ rfl (hown.alloc _) ⟨wr.heap.size, 0, none⟩ 1 1 [u8v bk] rfl rfl hcell1 (by intro u hu; simp at hu; subst hu; rfl) hkb (by omega) (by simp; omega) ?_; intro v1 w6 hown6 hgrow6 hnil6))
   have hnb : ∀ j, u3.ownBlock = some j → w.heap.size ≤ j := fun j hj => (World.ownsRow.lt hown j hj).1
   refine ⟨⟨k + 1, by omega, by simp, by rw [htk.out]; exact hown6, hfr.trans (Fr.trans (Fr.alloc (Fr.refl _ wr) _) ((grown_fr hgrow6).mono (fun j _ hj => hnb j hj))), fun e => by omega⟩, by simp; omega⟩
  ·have hkl : k = bs.length := by omega
   subst hkl
   go_wp2_with fail
   go_ret
   rw [List.take_of_length_le (Nat.le_refl _)] at hown
   exact ⟨hfr.mono (fun j hj hS => by omega), _, rfl, hown, fun e => HKZ.out (by rw [e]; rfl)⟩
end Go.Proofs.YtingenonbkencaaDoor
