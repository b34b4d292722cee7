import Derived.Test.YtgcekpmkniipfaaQA4
namespace Go.Proofs.Ytgcekpmkniipfaa
open Go.RowKit (wrap32 wrap64)
open Go.MuLone
open Go.Maps (Keyed)
set_option linter.unusedVariables false
set_option linter.unusedSimpArgs false

set_option maxRecDepth 100000 in
set_option maxHeartbeats 1000000 in
theorem find_any (b : Nat) (g : Gh) (N : Nat) (a : Ab) (k : Int) (hk : In64 k) (o : Nat) (ho : o = 3 * strp k) (w : World) (h : Tb w b g N a) :
    Calls Try.prog 24 #[.pointer (some ⟨b, o, none⟩), vI k] w fun e w' => e = .returned (entP g a k) ∧ w' = (w.setCell ⟨b, o, none⟩ (.int .i32 1)).setCell ⟨b, o, none⟩ (.int .i32 0) := by
  have c0 := h.lock (strp k) (strp_lt k)
  have c2 := h.map (strp k) (strp_lt k)
  rw [← ho] at c0 c2
  have f0 := h.frz o
  have hne : g.mb (strp k) ≠ b := by intro e; have h1 := h.own1; have h2 := h.own2 (strp k) (strp_lt k); rw [e] at h2; omega
  have hrun := h.look (w := w.setCell ⟨b, o, none⟩ (.int .i32 1)) k hk ((h.maps _ (strp_lt k)).setCell hne _)
  clear ho
  generalize g.mb (strp k) = bm at *
  clear hne hk
  go_enter_defers Try.func24, Try.ntmps24
  go_wp2_with (go_at_call 44; refine (lock_free muLib ⟨b, o, none⟩ _ c0 f0).mono ?_; rintro e w' ⟨rfl, rfl⟩)
  refine leaves_cons (f := 45) (args := #[.pointer (some ⟨b, o, none⟩)]) (by simp) (by simp [go_sem]) ?_
  refine (unlock_deferred muLib ⟨b, o, none⟩ .returning _ ?_ ?_).mono ?_
  · exact World.cell?_setCell_same w ⟨b, o, none⟩ (.int .i32 1) c0
  · simp [f0]
  rintro e u' w'' ⟨rfl, rfl, rfl⟩
  exact ⟨_, results_tmp rfl _ _ _, rfl, rfl⟩

set_option maxRecDepth 100000 in
set_option maxHeartbeats 1000000 in
theorem publish_no (b : Nat) (g : Gh) (N : Nat) (a : Ab) (k : Int) (v : ByteArray) (y : ByteArray) (hy : a k = some y) (o : Nat) (ho : o = 3 * strp k) (w : World) (h : Tb w b g N a) :
    Calls Try.prog 30 #[.pointer (some ⟨b, o, none⟩), vI k, .string v] w fun e w' => e = .returned (.bool false) ∧ w' = (w.setCell ⟨b, o, none⟩ (.int .i32 1)).setCell ⟨b, o, none⟩ (.int .i32 0) := by
  have c0 := h.lock (strp k) (strp_lt k)
  have c2 := h.map (strp k) (strp_lt k)
  rw [← ho] at c0 c2
  have f0 := h.frz o
  have hne : g.mb (strp k) ≠ b := by intro e; have h1 := h.own1; have h2 := h.own2 (strp k) (strp_lt k); rw [e] at h2; omega
  have hrun := h.look (w := w.setCell ⟨b, o, none⟩ (.int .i32 1)) k (h.wf k y hy) ((h.maps _ (strp_lt k)).setCell hne _)
  have heP : entP g a k = .pointer (some ⟨g.eb k, 0, none⟩) := by unfold entP; rw [hy]
  rw [heP] at hrun
  have hE := h.ownE k y hy
  have hent : (w.setCell ⟨b, o, none⟩ (.int .i32 1)).heap[g.eb k]? = some (.cells #[.string y, .int .u32 1] 111) := by
    rw [Go.RowKit.Below.heap_setCell _ _ _ _ (by show g.eb k ≠ b; intro e; rw [e, h.own1] at hE; omega)]
    exact h.ent k y hy
  clear ho heP hE
  generalize g.mb (strp k) = bm at *
  generalize g.eb k = eb at *
  clear hne
  go_enter_defers Try.func30, Try.ntmps30
  go_wp2_with (first
    | (go_at_call 44; refine (lock_free muLib ⟨b, o, none⟩ _ c0 f0).mono ?_; rintro e w' ⟨rfl, rfl⟩)
    | (go_at_call 52; refine (fill_no eb y v _ hent).mono ?_; rintro _ _ ⟨rfl, rfl⟩))
  refine leaves_cons (f := 45) (args := #[.pointer (some ⟨b, o, none⟩)]) (by simp) (by simp [go_sem]) ?_
  refine (unlock_deferred muLib ⟨b, o, none⟩ .returning _ ?_ ?_).mono ?_
  · exact World.cell?_setCell_same w ⟨b, o, none⟩ (.int .i32 1) c0
  · simp [f0]
  rintro e u' w'' ⟨rfl, rfl, rfl⟩
  exact ⟨_, results_tmp rfl _ _ _, rfl, rfl⟩

set_option maxRecDepth 100000 in
set_option maxHeartbeats 1000000 in
theorem publish_yes (b : Nat) (g : Gh) (N : Nat) (a : Ab) (k : Int) (hk : In64 k) (v : ByteArray) (hy : a k = none) (hN : N < maxLen) (o : Nat) (ho : o = 3 * strp k) (w : World) (h : Tb w b g N a) :
    Calls Try.prog 30 #[.pointer (some ⟨b, o, none⟩), vI k, .string v] w fun e w' => e = .returned (.bool true) ∧ Tb w' b (g.more k w.heap.size) (N + 1) (upd a k v) ∧ Fr (fun j => g.own j ≠ 0) w w' := by
  have c0 := h.lock (strp k) (strp_lt k)
  have c2 := h.map (strp k) (strp_lt k)
  rw [← ho] at c0 c2
  have f0 := h.frz o
  have hne : g.mb (strp k) ≠ b := by intro e; have h1 := h.own1; have h2 := h.own2 (strp k) (strp_lt k); rw [e] at h2; omega
  have hm1 := (h.maps _ (strp_lt k)).setCell (a := ⟨b, o, none⟩) hne (.int .i32 1)
  have hrun := h.look (w := w.setCell ⟨b, o, none⟩ (.int .i32 1)) k hk hm1
  have heP : entP g a k = .pointer none := by unfold entP; rw [hy]
  rw [heP] at hrun
  have hown1 := hm1.alloc newEnt
  have hkey := Maps.keyOf_int_mk under3 (wf_k k hk)
  have hP : Hd (∀ w1 : World, w1.ownsMap Try.prog 3 Rp (g.mb (strp k)) (N + 1) ((g.D (strp k)).put (.int .i64 k) (.lit (.int .i64 w.heap.size))) →
      ((w.setCell ⟨b, o, none⟩ (.int .i32 1)).alloc newEnt).mapTurned w1 (g.mb (strp k)) →
      Tb (pubW w w1 b o v) b (g.more k w.heap.size) (N + 1) (upd a k v) ∧ Fr (fun j => g.own j ≠ 0) w (pubW w w1 b o v) ∧ w1.heap[w.heap.size]? = some newEnt ∧ w1.cell? ⟨b, o, none⟩ = some (.int .i32 1)) := fun w1 p q => h.pub k v hk o ho p q
  have hbl := h.blt
  have hN' : Hd (N < maxLen) := hN
  have hRp : Rp (.pointer (some ⟨w.heap.size, 0, none⟩)) = some (.lit (.int .i64 w.heap.size), []) := rfl
  clear ho heP h hm1 hk hy hN
  obtain ⟨bm, ebm⟩ : ∃ bm, bm = g.mb (strp k) := ⟨_, rfl⟩
  rw [← ebm] at c2 hrun hown1 hP hne
  obtain ⟨D, eD⟩ : ∃ D, D = g.D (strp k) := ⟨_, rfl⟩
  rw [← eD] at hown1 hP
  clear ebm eD
  go_enter_defers Try.func30, Try.ntmps30
  go_wp2_with (first
    | (go_at_call 44; refine (lock_free muLib ⟨b, o, none⟩ _ c0 f0).mono ?_; rintro e w' ⟨rfl, rfl⟩)
    | (at_mapUpdate; refine wpList_mapUpdate_in _ rfl _ _ _ 77 rfl 3 69 keyed3 under77 _ bm N D rfl hown1 hN' _ _ _ rfl rfl hkey _ [] hRp ?_; intro w1 hown2 hturn1))
  obtain ⟨hT, hF, hnew, hl1⟩ := hP.out w1 hown2 hturn1
  have hfz := (hturn1.frozen ⟨b, o, none⟩).trans ((World.frozen?_alloc_past newEnt b o (by simpa using hbl)).trans (by simpa using f0))
  refine (fill_yes w.heap.size ⟨#[]⟩ v _ hnew).mono ?_
  rintro _ _ ⟨rfl, rfl⟩
  go_wp2_with fail
  refine leaves_cons (f := 45) (args := #[.pointer (some ⟨b, o, none⟩)]) (by simp) (by simp [go_sem]) ?_
  refine (unlock_deferred muLib ⟨b, o, none⟩ .returning _ ?_ ?_).mono ?_
  · rw [World.cell?_drew, World.cell?_setCell_other _ _ _ _ (by first | (simp; done) | (simp; omega)), World.cell?_setCell_other _ _ _ _ (by first | (simp; done) | (simp; omega))]
    exact hl1
  · simp only [World.frozen?_setCell, World.frozen?_drew]
    exact hfz
  rintro e u' w'' ⟨rfl, rfl, rfl⟩
  exact ⟨_, results_tmp rfl _ _ _, rfl, hT, hF⟩
end Go.Proofs.Ytgcekpmkniipfaa
