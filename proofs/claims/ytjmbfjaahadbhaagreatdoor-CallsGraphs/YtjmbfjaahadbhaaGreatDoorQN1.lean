import Derived.Test.YtjmbfjaahadbhaaGreatDoorQN0b
set_option linter.unusedVariables false
set_option linter.unusedSimpArgs false
namespace Go.Proofs.YtjmbfjaahadbhaaGreatDoor
open Go.RowKit (wrap32 wrap64)
set_option maxRecDepth 100000
set_option maxHeartbeats 4000000
theorem split1 (a : Bool) : (a = false ∧ (a) = false) ∨ (a = true ∧ (a) = true) := by
  cases a <;> simp
theorem split2 (a b : Bool) : (a = false ∧ (a && b) = false) ∨ (a = true ∧ b = false ∧ (a && b) = false) ∨ (a = true ∧ b = true ∧ (a && b) = true) := by
  cases a <;> cases b <;> simp
theorem split3 (a b c : Bool) : (a = false ∧ (a && b && c) = false) ∨ (a = true ∧ b = false ∧ (a && b && c) = false) ∨ (a = true ∧ b = true ∧ c = false ∧ (a && b && c) = false) ∨ (a = true ∧ b = true ∧ c = true ∧ (a && b && c) = true) := by
  cases a <;> cases b <;> cases c <;> simp
theorem split4 (a b c d : Bool) : (a = false ∧ (a && b && c && d) = false) ∨ (a = true ∧ b = false ∧ (a && b && c && d) = false) ∨ (a = true ∧ b = true ∧ c = false ∧ (a && b && c && d) = false) ∨ (a = true ∧ b = true ∧ c = true ∧ d = false ∧ (a && b && c && d) = false) ∨ (a = true ∧ b = true ∧ c = true ∧ d = true ∧ (a && b && c && d) = true) := by
  cases a <;> cases b <;> cases c <;> cases d <;> simp
theorem split5 (a b c d e : Bool) : (a = false ∧ (a && b && c && d && e) = false) ∨ (a = true ∧ b = false ∧ (a && b && c && d && e) = false) ∨ (a = true ∧ b = true ∧ c = false ∧ (a && b && c && d && e) = false) ∨ (a = true ∧ b = true ∧ c = true ∧ d = false ∧ (a && b && c && d && e) = false) ∨ (a = true ∧ b = true ∧ c = true ∧ d = true ∧ e = false ∧ (a && b && c && d && e) = false) ∨ (a = true ∧ b = true ∧ c = true ∧ d = true ∧ e = true ∧ (a && b && c && d && e) = true) := by
  cases a <;> cases b <;> cases c <;> cases d <;> cases e <;> simp
theorem split6 (a b c d e f : Bool) : (a = false ∧ (a && b && c && d && e && f) = false) ∨ (a = true ∧ b = false ∧ (a && b && c && d && e && f) = false) ∨ (a = true ∧ b = true ∧ c = false ∧ (a && b && c && d && e && f) = false) ∨ (a = true ∧ b = true ∧ c = true ∧ d = false ∧ (a && b && c && d && e && f) = false) ∨ (a = true ∧ b = true ∧ c = true ∧ d = true ∧ e = false ∧ (a && b && c && d && e && f) = false) ∨ (a = true ∧ b = true ∧ c = true ∧ d = true ∧ e = true ∧ f = false ∧ (a && b && c && d && e && f) = false) ∨ (a = true ∧ b = true ∧ c = true ∧ d = true ∧ e = true ∧ f = true ∧ (a && b && c && d && e && f) = true) := by
  cases a <;> cases b <;> cases c <;> cases d <;> cases e <;> cases f <;> simp
theorem nM {b : Nat} {s : WS} {w : World} (h : Lies w b s) {aa ra : Option Addr} {la ca lr cr : Nat} (ha : s.args = .slice aa la ca) (hr : s.rets = .slice ra lr cr) (o : Nat) (v0 v1 v2 v3 v4 v5 : Value) (hv : s.cells[o]? = some v0 ∧ s.cells[o + 1]? = some v1 ∧ s.cells[o + 2]? = some v2 ∧ s.cells[o + 3]? = some v3 ∧ s.cells[o + 4]? = some v4 ∧ s.cells[o + 5]? = some v5) :
    ∀ q v, memOf [(o, v0), (o + 1, v1), (o + 2, v2), (o + 3, v3), (o + 4, v4), (o + 5, v5), (155, vI s.r), (156, vI s.s), (157, vI s.t), (158, vI s.n), (159, .slice aa la ca), (160, .slice ra lr cr)] q = some v → w.cell? ⟨b, q, none⟩ = some v := by
  obtain ⟨r0, r1, r2, r3, r4, r5⟩ := hv
  have f := h.facts.2.2.2.2.2.2.2.2.2.2.2
  rw [ha, hr] at f
  refine memOf_sound (fun p hp => ?_)
  simp only [List.mem_cons, List.not_mem_nil, or_false] at hp
  rcases hp with rfl | rfl | rfl | rfl | rfl | rfl | rfl | rfl | rfl | rfl | rfl | rfl
  · exact (h.cell _).trans r0
  · exact (h.cell _).trans r1
  · exact (h.cell _).trans r2
  · exact (h.cell _).trans r3
  · exact (h.cell _).trans r4
  · exact (h.cell _).trans r5
  · exact f.1
  · exact f.2.1
  · exact f.2.2.1
  · exact f.2.2.2.1
  · exact f.2.2.2.2.1
  · exact f.2.2.2.2.2.1

theorem namesAll_g1 {b : Nat} (s : WS) (w : World) (h : Lies w b s) (aa ra : Option Addr) (la ca lr cr : Nat) (ha : s.args = .slice aa la ca) (hr : s.rets = .slice ra lr cr) :
    Calls Tryz.prog 92 #[.pointer (some ⟨b, 10, none⟩), .pointer (some ⟨b, 154, none⟩)] w fun e w' => e = .returned (.bool ((s.s == 0) && (s.t == 0) && ((la : Int) == 0) && ((lr : Int) == 0))) ∧ w' = w := by
  have HM := nM h ha hr 10 (vF 78) vN vN (vF 79) vN vN (by refine ⟨?_, ?_, ?_, ?_, ?_, ?_⟩ <;> kernel_rfl)
  clear h ha hr
  generalize s.r = zr at *
  generalize s.s = zs at *
  generalize s.t = zt at *
  generalize s.n = zn at *
  generalize hts : (zs == 0) = ts
  generalize htt : (zt == 0) = tt
  generalize hta : ((la : Int) == 0) = ta
  generalize hte : ((lr : Int) == 0) = te
  have HZ := zzOf_sound (l := [(28, zs, ts), (42, zt, tt), (71, (la : Int), ta), (86, (lr : Int), te)]) (fun p hp => by
    simp only [List.mem_cons, List.not_mem_nil, or_false] at hp
    rcases hp with rfl | rfl | rfl | rfl <;> assumption)
  clear hts htt hta hte
  have hc := split4 ts tt ta te
  generalize (ts && tt && ta && te) = r at hc ⊢
  go_enter Tryz.func92, Tryz.ntmps92
  iterate 11 go_step
  rcases hc with ⟨rfl, hr⟩ | ⟨rfl, rfl, hr⟩ | ⟨rfl, rfl, rfl, hr⟩ | ⟨rfl, rfl, rfl, rfl, hr⟩ | ⟨rfl, rfl, rfl, rfl, hr⟩
  all_goals
    refine wpList_names 4 (.bool r) HM HZ (by subst hr; kernel_rfl) (by kernel_rfl) (fun a' hx hd => ?_)
    simp only [Exit.then]
    go_wp2_with fail
    refine bodyPost_ret (v := .bool r) (fn := Tryz.f92) ?_ hd ⟨rfl, rfl⟩
    rw [results_tmp Tryz.results92, hx]

theorem namesAll_g2 {b : Nat} (s : WS) (w : World) (h : Lies w b s) (aa ra : Option Addr) (la ca lr cr : Nat) (ha : s.args = .slice aa la ca) (hr : s.rets = .slice ra lr cr) :
    Calls Tryz.prog 92 #[.pointer (some ⟨b, 18, none⟩), .pointer (some ⟨b, 154, none⟩)] w fun e w' => e = .returned (.bool ((s.t == 0) && (s.n == 0) && ((la : Int) == 0) && ((lr : Int) == 0))) ∧ w' = w := by
  have HM := nM h ha hr 18 (vF 78) (vF 78) vN vN vN vN (by refine ⟨?_, ?_, ?_, ?_, ?_, ?_⟩ <;> kernel_rfl)
  clear h ha hr
  generalize s.r = zr at *
  generalize s.s = zs at *
  generalize s.t = zt at *
  generalize s.n = zn at *
  generalize htt : (zt == 0) = tt
  generalize htn : (zn == 0) = tn
  generalize hta : ((la : Int) == 0) = ta
  generalize hte : ((lr : Int) == 0) = te
  have HZ := zzOf_sound (l := [(42, zt, tt), (56, zn, tn), (71, (la : Int), ta), (86, (lr : Int), te)]) (fun p hp => by
    simp only [List.mem_cons, List.not_mem_nil, or_false] at hp
    rcases hp with rfl | rfl | rfl | rfl <;> assumption)
  clear htt htn hta hte
  have hc := split4 tt tn ta te
  generalize (tt && tn && ta && te) = r at hc ⊢
  go_enter Tryz.func92, Tryz.ntmps92
  iterate 11 go_step
  rcases hc with ⟨rfl, hr⟩ | ⟨rfl, rfl, hr⟩ | ⟨rfl, rfl, rfl, hr⟩ | ⟨rfl, rfl, rfl, rfl, hr⟩ | ⟨rfl, rfl, rfl, rfl, hr⟩
  all_goals
    refine wpList_names 4 (.bool r) HM HZ (by subst hr; kernel_rfl) (by kernel_rfl) (fun a' hx hd => ?_)
    simp only [Exit.then]
    go_wp2_with fail
    refine bodyPost_ret (v := .bool r) (fn := Tryz.f92) ?_ hd ⟨rfl, rfl⟩
    rw [results_tmp Tryz.results92, hx]

theorem namesAll_g3 {b : Nat} (s : WS) (w : World) (h : Lies w b s) (aa ra : Option Addr) (la ca lr cr : Nat) (ha : s.args = .slice aa la ca) (hr : s.rets = .slice ra lr cr) :
    Calls Tryz.prog 92 #[.pointer (some ⟨b, 26, none⟩), .pointer (some ⟨b, 154, none⟩)] w fun e w' => e = .returned (.bool ((s.n == 0) && ((la : Int) == 0) && ((lr : Int) == 0))) ∧ w' = w := by
  have HM := nM h ha hr 26 (vF 78) (vF 78) (vF 78) vN vN vN (by refine ⟨?_, ?_, ?_, ?_, ?_, ?_⟩ <;> kernel_rfl)
  clear h ha hr
  generalize s.r = zr at *
  generalize s.s = zs at *
  generalize s.t = zt at *
  generalize s.n = zn at *
  generalize htn : (zn == 0) = tn
  generalize hta : ((la : Int) == 0) = ta
  generalize hte : ((lr : Int) == 0) = te
  have HZ := zzOf_sound (l := [(56, zn, tn), (71, (la : Int), ta), (86, (lr : Int), te)]) (fun p hp => by
    simp only [List.mem_cons, List.not_mem_nil, or_false] at hp
    rcases hp with rfl | rfl | rfl <;> assumption)
  clear htn hta hte
  have hc := split3 tn ta te
  generalize (tn && ta && te) = r at hc ⊢
  go_enter Tryz.func92, Tryz.ntmps92
  iterate 11 go_step
  rcases hc with ⟨rfl, hr⟩ | ⟨rfl, rfl, hr⟩ | ⟨rfl, rfl, rfl, hr⟩ | ⟨rfl, rfl, rfl, hr⟩
  all_goals
    refine wpList_names 4 (.bool r) HM HZ (by subst hr; kernel_rfl) (by kernel_rfl) (fun a' hx hd => ?_)
    simp only [Exit.then]
    go_wp2_with fail
    refine bodyPost_ret (v := .bool r) (fn := Tryz.f92) ?_ hd ⟨rfl, rfl⟩
    rw [results_tmp Tryz.results92, hx]

theorem namesAll_g4 {b : Nat} (s : WS) (w : World) (h : Lies w b s) (aa ra : Option Addr) (la ca lr cr : Nat) (ha : s.args = .slice aa la ca) (hr : s.rets = .slice ra lr cr) :
    Calls Tryz.prog 92 #[.pointer (some ⟨b, 34, none⟩), .pointer (some ⟨b, 154, none⟩)] w fun e w' => e = .returned (.bool ((s.n == 0) && ((la : Int) == 0) && ((lr : Int) == 0))) ∧ w' = w := by
  have HM := nM h ha hr 34 (vF 78) (vF 78) (vF 78) vN vN vN (by refine ⟨?_, ?_, ?_, ?_, ?_, ?_⟩ <;> kernel_rfl)
  clear h ha hr
  generalize s.r = zr at *
  generalize s.s = zs at *
  generalize s.t = zt at *
  generalize s.n = zn at *
  generalize htn : (zn == 0) = tn
  generalize hta : ((la : Int) == 0) = ta
  generalize hte : ((lr : Int) == 0) = te
  have HZ := zzOf_sound (l := [(56, zn, tn), (71, (la : Int), ta), (86, (lr : Int), te)]) (fun p hp => by
    simp only [List.mem_cons, List.not_mem_nil, or_false] at hp
    rcases hp with rfl | rfl | rfl <;> assumption)
  clear htn hta hte
  have hc := split3 tn ta te
  generalize (tn && ta && te) = r at hc ⊢
  go_enter Tryz.func92, Tryz.ntmps92
  iterate 11 go_step
  rcases hc with ⟨rfl, hr⟩ | ⟨rfl, rfl, hr⟩ | ⟨rfl, rfl, rfl, hr⟩ | ⟨rfl, rfl, rfl, hr⟩
  all_goals
    refine wpList_names 4 (.bool r) HM HZ (by subst hr; kernel_rfl) (by kernel_rfl) (fun a' hx hd => ?_)
    simp only [Exit.then]
    go_wp2_with fail
    refine bodyPost_ret (v := .bool r) (fn := Tryz.f92) ?_ hd ⟨rfl, rfl⟩
    rw [results_tmp Tryz.results92, hx]

theorem namesAll_g5 {b : Nat} (s : WS) (w : World) (h : Lies w b s) (aa ra : Option Addr) (la ca lr cr : Nat) (ha : s.args = .slice aa la ca) (hr : s.rets = .slice ra lr cr) :
    Calls Tryz.prog 92 #[.pointer (some ⟨b, 42, none⟩), .pointer (some ⟨b, 154, none⟩)] w fun e w' => e = .returned (.bool ((s.t == 0) && (s.n == 0) && ((la : Int) == 0) && ((lr : Int) == 0))) ∧ w' = w := by
  have HM := nM h ha hr 42 (vF 78) (vF 78) vN vN vN vN (by refine ⟨?_, ?_, ?_, ?_, ?_, ?_⟩ <;> kernel_rfl)
  clear h ha hr
  generalize s.r = zr at *
  generalize s.s = zs at *
  generalize s.t = zt at *
  generalize s.n = zn at *
  generalize htt : (zt == 0) = tt
  generalize htn : (zn == 0) = tn
  generalize hta : ((la : Int) == 0) = ta
  generalize hte : ((lr : Int) == 0) = te
  have HZ := zzOf_sound (l := [(42, zt, tt), (56, zn, tn), (71, (la : Int), ta), (86, (lr : Int), te)]) (fun p hp => by
    simp only [List.mem_cons, List.not_mem_nil, or_false] at hp
    rcases hp with rfl | rfl | rfl | rfl <;> assumption)
  clear htt htn hta hte
  have hc := split4 tt tn ta te
  generalize (tt && tn && ta && te) = r at hc ⊢
  go_enter Tryz.func92, Tryz.ntmps92
  iterate 11 go_step
  rcases hc with ⟨rfl, hr⟩ | ⟨rfl, rfl, hr⟩ | ⟨rfl, rfl, rfl, hr⟩ | ⟨rfl, rfl, rfl, rfl, hr⟩ | ⟨rfl, rfl, rfl, rfl, hr⟩
  all_goals
    refine wpList_names 4 (.bool r) HM HZ (by subst hr; kernel_rfl) (by kernel_rfl) (fun a' hx hd => ?_)
    simp only [Exit.then]
    go_wp2_with fail
    refine bodyPost_ret (v := .bool r) (fn := Tryz.f92) ?_ hd ⟨rfl, rfl⟩
    rw [results_tmp Tryz.results92, hx]

theorem namesAll_g6 {b : Nat} (s : WS) (w : World) (h : Lies w b s) (aa ra : Option Addr) (la ca lr cr : Nat) (ha : s.args = .slice aa la ca) (hr : s.rets = .slice ra lr cr) :
    Calls Tryz.prog 92 #[.pointer (some ⟨b, 50, none⟩), .pointer (some ⟨b, 154, none⟩)] w fun e w' => e = .returned (.bool ((s.s == 0) && (s.t == 0) && ((la : Int) == 0) && ((lr : Int) == 0))) ∧ w' = w := by
  have HM := nM h ha hr 50 (vF 78) vN vN (vF 80) vN vN (by refine ⟨?_, ?_, ?_, ?_, ?_, ?_⟩ <;> kernel_rfl)
  clear h ha hr
  generalize s.r = zr at *
  generalize s.s = zs at *
  generalize s.t = zt at *
  generalize s.n = zn at *
  generalize hts : (zs == 0) = ts
  generalize htt : (zt == 0) = tt
  generalize hta : ((la : Int) == 0) = ta
  generalize hte : ((lr : Int) == 0) = te
  have HZ := zzOf_sound (l := [(28, zs, ts), (42, zt, tt), (71, (la : Int), ta), (86, (lr : Int), te)]) (fun p hp => by
    simp only [List.mem_cons, List.not_mem_nil, or_false] at hp
    rcases hp with rfl | rfl | rfl | rfl <;> assumption)
  clear hts htt hta hte
  have hc := split4 ts tt ta te
  generalize (ts && tt && ta && te) = r at hc ⊢
  go_enter Tryz.func92, Tryz.ntmps92
  iterate 11 go_step
  rcases hc with ⟨rfl, hr⟩ | ⟨rfl, rfl, hr⟩ | ⟨rfl, rfl, rfl, hr⟩ | ⟨rfl, rfl, rfl, rfl, hr⟩ | ⟨rfl, rfl, rfl, rfl, hr⟩
  all_goals
    refine wpList_names 4 (.bool r) HM HZ (by subst hr; kernel_rfl) (by kernel_rfl) (fun a' hx hd => ?_)
    simp only [Exit.then]
    go_wp2_with fail
    refine bodyPost_ret (v := .bool r) (fn := Tryz.f92) ?_ hd ⟨rfl, rfl⟩
    rw [results_tmp Tryz.results92, hx]

theorem namesAll_g7 {b : Nat} (s : WS) (w : World) (h : Lies w b s) (aa ra : Option Addr) (la ca lr cr : Nat) (ha : s.args = .slice aa la ca) (hr : s.rets = .slice ra lr cr) :
    Calls Tryz.prog 92 #[.pointer (some ⟨b, 58, none⟩), .pointer (some ⟨b, 154, none⟩)] w fun e w' => e = .returned (.bool ((s.t == 0) && ((la : Int) == 0) && ((lr : Int) == 0))) ∧ w' = w := by
  have HM := nM h ha hr 58 (vF 78) (vF 78) vN (vF 81) vN vN (by refine ⟨?_, ?_, ?_, ?_, ?_, ?_⟩ <;> kernel_rfl)
  clear h ha hr
  generalize s.r = zr at *
  generalize s.s = zs at *
  generalize s.t = zt at *
  generalize s.n = zn at *
  generalize htt : (zt == 0) = tt
  generalize hta : ((la : Int) == 0) = ta
  generalize hte : ((lr : Int) == 0) = te
  have HZ := zzOf_sound (l := [(42, zt, tt), (71, (la : Int), ta), (86, (lr : Int), te)]) (fun p hp => by
    simp only [List.mem_cons, List.not_mem_nil, or_false] at hp
    rcases hp with rfl | rfl | rfl <;> assumption)
  clear htt hta hte
  have hc := split3 tt ta te
  generalize (tt && ta && te) = r at hc ⊢
  go_enter Tryz.func92, Tryz.ntmps92
  iterate 11 go_step
  rcases hc with ⟨rfl, hr⟩ | ⟨rfl, rfl, hr⟩ | ⟨rfl, rfl, rfl, hr⟩ | ⟨rfl, rfl, rfl, hr⟩
  all_goals
    refine wpList_names 4 (.bool r) HM HZ (by subst hr; kernel_rfl) (by kernel_rfl) (fun a' hx hd => ?_)
    simp only [Exit.then]
    go_wp2_with fail
    refine bodyPost_ret (v := .bool r) (fn := Tryz.f92) ?_ hd ⟨rfl, rfl⟩
    rw [results_tmp Tryz.results92, hx]

theorem namesAll_g8 {b : Nat} (s : WS) (w : World) (h : Lies w b s) (aa ra : Option Addr) (la ca lr cr : Nat) (ha : s.args = .slice aa la ca) (hr : s.rets = .slice ra lr cr) :
    Calls Tryz.prog 92 #[.pointer (some ⟨b, 66, none⟩), .pointer (some ⟨b, 154, none⟩)] w fun e w' => e = .returned (.bool ((s.t == 0) && ((la : Int) == 0) && ((lr : Int) == 0))) ∧ w' = w := by
  have HM := nM h ha hr 66 (vF 78) (vF 78) vN (vF 81) vN vN (by refine ⟨?_, ?_, ?_, ?_, ?_, ?_⟩ <;> kernel_rfl)
  clear h ha hr
  generalize s.r = zr at *
  generalize s.s = zs at *
  generalize s.t = zt at *
  generalize s.n = zn at *
  generalize htt : (zt == 0) = tt
  generalize hta : ((la : Int) == 0) = ta
  generalize hte : ((lr : Int) == 0) = te
  have HZ := zzOf_sound (l := [(42, zt, tt), (71, (la : Int), ta), (86, (lr : Int), te)]) (fun p hp => by
    simp only [List.mem_cons, List.not_mem_nil, or_false] at hp
    rcases hp with rfl | rfl | rfl <;> assumption)
  clear htt hta hte
  have hc := split3 tt ta te
  generalize (tt && ta && te) = r at hc ⊢
  go_enter Tryz.func92, Tryz.ntmps92
  iterate 11 go_step
  rcases hc with ⟨rfl, hr⟩ | ⟨rfl, rfl, hr⟩ | ⟨rfl, rfl, rfl, hr⟩ | ⟨rfl, rfl, rfl, hr⟩
  all_goals
    refine wpList_names 4 (.bool r) HM HZ (by subst hr; kernel_rfl) (by kernel_rfl) (fun a' hx hd => ?_)
    simp only [Exit.then]
    go_wp2_with fail
    refine bodyPost_ret (v := .bool r) (fn := Tryz.f92) ?_ hd ⟨rfl, rfl⟩
    rw [results_tmp Tryz.results92, hx]

theorem namesAll_g9 {b : Nat} (s : WS) (w : World) (h : Lies w b s) (aa ra : Option Addr) (la ca lr cr : Nat) (ha : s.args = .slice aa la ca) (hr : s.rets = .slice ra lr cr) :
    Calls Tryz.prog 92 #[.pointer (some ⟨b, 74, none⟩), .pointer (some ⟨b, 154, none⟩)] w fun e w' => e = .returned (.bool ((s.s == 0) && (s.t == 0) && ((la : Int) == 0) && ((lr : Int) == 0))) ∧ w' = w := by
  have HM := nM h ha hr 74 (vF 78) vN vN (vF 82) vN vN (by refine ⟨?_, ?_, ?_, ?_, ?_, ?_⟩ <;> kernel_rfl)
  clear h ha hr
  generalize s.r = zr at *
  generalize s.s = zs at *
  generalize s.t = zt at *
  generalize s.n = zn at *
  generalize hts : (zs == 0) = ts
  generalize htt : (zt == 0) = tt
  generalize hta : ((la : Int) == 0) = ta
  generalize hte : ((lr : Int) == 0) = te
  have HZ := zzOf_sound (l := [(28, zs, ts), (42, zt, tt), (71, (la : Int), ta), (86, (lr : Int), te)]) (fun p hp => by
    simp only [List.mem_cons, List.not_mem_nil, or_false] at hp
    rcases hp with rfl | rfl | rfl | rfl <;> assumption)
  clear hts htt hta hte
  have hc := split4 ts tt ta te
  generalize (ts && tt && ta && te) = r at hc ⊢
  go_enter Tryz.func92, Tryz.ntmps92
  iterate 11 go_step
  rcases hc with ⟨rfl, hr⟩ | ⟨rfl, rfl, hr⟩ | ⟨rfl, rfl, rfl, hr⟩ | ⟨rfl, rfl, rfl, rfl, hr⟩ | ⟨rfl, rfl, rfl, rfl, hr⟩
  all_goals
    refine wpList_names 4 (.bool r) HM HZ (by subst hr; kernel_rfl) (by kernel_rfl) (fun a' hx hd => ?_)
    simp only [Exit.then]
    go_wp2_with fail
    refine bodyPost_ret (v := .bool r) (fn := Tryz.f92) ?_ hd ⟨rfl, rfl⟩
    rw [results_tmp Tryz.results92, hx]

theorem namesAll_g10 {b : Nat} (s : WS) (w : World) (h : Lies w b s) (aa ra : Option Addr) (la ca lr cr : Nat) (ha : s.args = .slice aa la ca) (hr : s.rets = .slice ra lr cr) :
    Calls Tryz.prog 92 #[.pointer (some ⟨b, 82, none⟩), .pointer (some ⟨b, 154, none⟩)] w fun e w' => e = .returned (.bool ((s.r == 0) && (s.t == 0) && ((la : Int) == 0) && ((lr : Int) == 0))) ∧ w' = w := by
  have HM := nM h ha hr 82 vN (vF 78) vN (vF 82) vN vN (by refine ⟨?_, ?_, ?_, ?_, ?_, ?_⟩ <;> kernel_rfl)
  clear h ha hr
  generalize s.r = zr at *
  generalize s.s = zs at *
  generalize s.t = zt at *
  generalize s.n = zn at *
  generalize htr : (zr == 0) = tr
  generalize htt : (zt == 0) = tt
  generalize hta : ((la : Int) == 0) = ta
  generalize hte : ((lr : Int) == 0) = te
  have HZ := zzOf_sound (l := [(15, zr, tr), (42, zt, tt), (71, (la : Int), ta), (86, (lr : Int), te)]) (fun p hp => by
    simp only [List.mem_cons, List.not_mem_nil, or_false] at hp
    rcases hp with rfl | rfl | rfl | rfl <;> assumption)
  clear htr htt hta hte
  have hc := split4 tr tt ta te
  generalize (tr && tt && ta && te) = r at hc ⊢
  go_enter Tryz.func92, Tryz.ntmps92
  iterate 11 go_step
  rcases hc with ⟨rfl, hr⟩ | ⟨rfl, rfl, hr⟩ | ⟨rfl, rfl, rfl, hr⟩ | ⟨rfl, rfl, rfl, rfl, hr⟩ | ⟨rfl, rfl, rfl, rfl, hr⟩
  all_goals
    refine wpList_names 4 (.bool r) HM HZ (by subst hr; kernel_rfl) (by kernel_rfl) (fun a' hx hd => ?_)
    simp only [Exit.then]
    go_wp2_with fail
    refine bodyPost_ret (v := .bool r) (fn := Tryz.f92) ?_ hd ⟨rfl, rfl⟩
    rw [results_tmp Tryz.results92, hx]

theorem namesAll_g11 {b : Nat} (s : WS) (w : World) (h : Lies w b s) (aa ra : Option Addr) (la ca lr cr : Nat) (ha : s.args = .slice aa la ca) (hr : s.rets = .slice ra lr cr) :
    Calls Tryz.prog 92 #[.pointer (some ⟨b, 90, none⟩), .pointer (some ⟨b, 154, none⟩)] w fun e w' => e = .returned (.bool ((s.r == 0) && (s.s == 0) && (s.t == 0))) ∧ w' = w := by
  have HM := nM h ha hr 90 vN vN vN (vF 83) (vF 84) (vF 85) (by refine ⟨?_, ?_, ?_, ?_, ?_, ?_⟩ <;> kernel_rfl)
  clear h ha hr
  generalize s.r = zr at *
  generalize s.s = zs at *
  generalize s.t = zt at *
  generalize s.n = zn at *
  generalize htr : (zr == 0) = tr
  generalize hts : (zs == 0) = ts
  generalize htt : (zt == 0) = tt
  have HZ := zzOf_sound (l := [(15, zr, tr), (28, zs, ts), (42, zt, tt)]) (fun p hp => by
    simp only [List.mem_cons, List.not_mem_nil, or_false] at hp
    rcases hp with rfl | rfl | rfl <;> assumption)
  clear htr hts htt
  have hc := split3 tr ts tt
  generalize (tr && ts && tt) = r at hc ⊢
  go_enter Tryz.func92, Tryz.ntmps92
  iterate 11 go_step
  rcases hc with ⟨rfl, hr⟩ | ⟨rfl, rfl, hr⟩ | ⟨rfl, rfl, rfl, hr⟩ | ⟨rfl, rfl, rfl, hr⟩
  all_goals
    refine wpList_names 4 (.bool r) HM HZ (by subst hr; kernel_rfl) (by kernel_rfl) (fun a' hx hd => ?_)
    simp only [Exit.then]
    go_wp2_with fail
    refine bodyPost_ret (v := .bool r) (fn := Tryz.f92) ?_ hd ⟨rfl, rfl⟩
    rw [results_tmp Tryz.results92, hx]

theorem namesAll_g12 {b : Nat} (s : WS) (w : World) (h : Lies w b s) (aa ra : Option Addr) (la ca lr cr : Nat) (ha : s.args = .slice aa la ca) (hr : s.rets = .slice ra lr cr) :
    Calls Tryz.prog 92 #[.pointer (some ⟨b, 98, none⟩), .pointer (some ⟨b, 154, none⟩)] w fun e w' => e = .returned (.bool ((s.r == 0) && (s.t == 0) && (s.n == 0) && ((la : Int) == 0) && ((lr : Int) == 0))) ∧ w' = w := by
  have HM := nM h ha hr 98 vN (vF 78) vN vN vN vN (by refine ⟨?_, ?_, ?_, ?_, ?_, ?_⟩ <;> kernel_rfl)
  clear h ha hr
  generalize s.r = zr at *
  generalize s.s = zs at *
  generalize s.t = zt at *
  generalize s.n = zn at *
  generalize htr : (zr == 0) = tr
  generalize htt : (zt == 0) = tt
  generalize htn : (zn == 0) = tn
  generalize hta : ((la : Int) == 0) = ta
  generalize hte : ((lr : Int) == 0) = te
  have HZ := zzOf_sound (l := [(15, zr, tr), (42, zt, tt), (56, zn, tn), (71, (la : Int), ta), (86, (lr : Int), te)]) (fun p hp => by
    simp only [List.mem_cons, List.not_mem_nil, or_false] at hp
    rcases hp with rfl | rfl | rfl | rfl | rfl <;> assumption)
  clear htr htt htn hta hte
  have hc := split5 tr tt tn ta te
  generalize (tr && tt && tn && ta && te) = r at hc ⊢
  go_enter Tryz.func92, Tryz.ntmps92
  iterate 11 go_step
  rcases hc with ⟨rfl, hr⟩ | ⟨rfl, rfl, hr⟩ | ⟨rfl, rfl, rfl, hr⟩ | ⟨rfl, rfl, rfl, rfl, hr⟩ | ⟨rfl, rfl, rfl, rfl, rfl, hr⟩ | ⟨rfl, rfl, rfl, rfl, rfl, hr⟩
  all_goals
    refine wpList_names 4 (.bool r) HM HZ (by subst hr; kernel_rfl) (by kernel_rfl) (fun a' hx hd => ?_)
    simp only [Exit.then]
    go_wp2_with fail
    refine bodyPost_ret (v := .bool r) (fn := Tryz.f92) ?_ hd ⟨rfl, rfl⟩
    rw [results_tmp Tryz.results92, hx]

theorem namesAll_g13 {b : Nat} (s : WS) (w : World) (h : Lies w b s) (aa ra : Option Addr) (la ca lr cr : Nat) (ha : s.args = .slice aa la ca) (hr : s.rets = .slice ra lr cr) :
    Calls Tryz.prog 92 #[.pointer (some ⟨b, 106, none⟩), .pointer (some ⟨b, 154, none⟩)] w fun e w' => e = .returned (.bool ((s.r == 0) && (s.s == 0) && (s.t == 0) && ((la : Int) == 0) && ((lr : Int) == 0))) ∧ w' = w := by
  have HM := nM h ha hr 106 vN vN vN (vF 86) vN vN (by refine ⟨?_, ?_, ?_, ?_, ?_, ?_⟩ <;> kernel_rfl)
  clear h ha hr
  generalize s.r = zr at *
  generalize s.s = zs at *
  generalize s.t = zt at *
  generalize s.n = zn at *
  generalize htr : (zr == 0) = tr
  generalize hts : (zs == 0) = ts
  generalize htt : (zt == 0) = tt
  generalize hta : ((la : Int) == 0) = ta
  generalize hte : ((lr : Int) == 0) = te
  have HZ := zzOf_sound (l := [(15, zr, tr), (28, zs, ts), (42, zt, tt), (71, (la : Int), ta), (86, (lr : Int), te)]) (fun p hp => by
    simp only [List.mem_cons, List.not_mem_nil, or_false] at hp
    rcases hp with rfl | rfl | rfl | rfl | rfl <;> assumption)
  clear htr hts htt hta hte
  have hc := split5 tr ts tt ta te
  generalize (tr && ts && tt && ta && te) = r at hc ⊢
  go_enter Tryz.func92, Tryz.ntmps92
  iterate 11 go_step
  rcases hc with ⟨rfl, hr⟩ | ⟨rfl, rfl, hr⟩ | ⟨rfl, rfl, rfl, hr⟩ | ⟨rfl, rfl, rfl, rfl, hr⟩ | ⟨rfl, rfl, rfl, rfl, rfl, hr⟩ | ⟨rfl, rfl, rfl, rfl, rfl, hr⟩
  all_goals
    refine wpList_names 4 (.bool r) HM HZ (by subst hr; kernel_rfl) (by kernel_rfl) (fun a' hx hd => ?_)
    simp only [Exit.then]
    go_wp2_with fail
    refine bodyPost_ret (v := .bool r) (fn := Tryz.f92) ?_ hd ⟨rfl, rfl⟩
    rw [results_tmp Tryz.results92, hx]

theorem namesAll_g14 {b : Nat} (s : WS) (w : World) (h : Lies w b s) (aa ra : Option Addr) (la ca lr cr : Nat) (ha : s.args = .slice aa la ca) (hr : s.rets = .slice ra lr cr) :
    Calls Tryz.prog 92 #[.pointer (some ⟨b, 114, none⟩), .pointer (some ⟨b, 154, none⟩)] w fun e w' => e = .returned (.bool ((s.r == 0) && (s.t == 0) && ((la : Int) == 0) && ((lr : Int) == 0))) ∧ w' = w := by
  have HM := nM h ha hr 114 vN (vF 78) vN (vF 86) vN vN (by refine ⟨?_, ?_, ?_, ?_, ?_, ?_⟩ <;> kernel_rfl)
  clear h ha hr
  generalize s.r = zr at *
  generalize s.s = zs at *
  generalize s.t = zt at *
  generalize s.n = zn at *
  generalize htr : (zr == 0) = tr
  generalize htt : (zt == 0) = tt
  generalize hta : ((la : Int) == 0) = ta
  generalize hte : ((lr : Int) == 0) = te
  have HZ := zzOf_sound (l := [(15, zr, tr), (42, zt, tt), (71, (la : Int), ta), (86, (lr : Int), te)]) (fun p hp => by
    simp only [List.mem_cons, List.not_mem_nil, or_false] at hp
    rcases hp with rfl | rfl | rfl | rfl <;> assumption)
  clear htr htt hta hte
  have hc := split4 tr tt ta te
  generalize (tr && tt && ta && te) = r at hc ⊢
  go_enter Tryz.func92, Tryz.ntmps92
  iterate 11 go_step
  rcases hc with ⟨rfl, hr⟩ | ⟨rfl, rfl, hr⟩ | ⟨rfl, rfl, rfl, hr⟩ | ⟨rfl, rfl, rfl, rfl, hr⟩ | ⟨rfl, rfl, rfl, rfl, hr⟩
  all_goals
    refine wpList_names 4 (.bool r) HM HZ (by subst hr; kernel_rfl) (by kernel_rfl) (fun a' hx hd => ?_)
    simp only [Exit.then]
    go_wp2_with fail
    refine bodyPost_ret (v := .bool r) (fn := Tryz.f92) ?_ hd ⟨rfl, rfl⟩
    rw [results_tmp Tryz.results92, hx]

theorem namesAll_g15 {b : Nat} (s : WS) (w : World) (h : Lies w b s) (aa ra : Option Addr) (la ca lr cr : Nat) (ha : s.args = .slice aa la ca) (hr : s.rets = .slice ra lr cr) :
    Calls Tryz.prog 92 #[.pointer (some ⟨b, 122, none⟩), .pointer (some ⟨b, 154, none⟩)] w fun e w' => e = .returned (.bool ((s.r == 0) && (s.s == 0) && (s.t == 0) && (s.n == 0) && ((lr : Int) == 0))) ∧ w' = w := by
  have HM := nM h ha hr 122 vN vN vN vN (vF 87) vN (by refine ⟨?_, ?_, ?_, ?_, ?_, ?_⟩ <;> kernel_rfl)
  clear h ha hr
  generalize s.r = zr at *
  generalize s.s = zs at *
  generalize s.t = zt at *
  generalize s.n = zn at *
  generalize htr : (zr == 0) = tr
  generalize hts : (zs == 0) = ts
  generalize htt : (zt == 0) = tt
  generalize htn : (zn == 0) = tn
  generalize hte : ((lr : Int) == 0) = te
  have HZ := zzOf_sound (l := [(15, zr, tr), (28, zs, ts), (42, zt, tt), (56, zn, tn), (86, (lr : Int), te)]) (fun p hp => by
    simp only [List.mem_cons, List.not_mem_nil, or_false] at hp
    rcases hp with rfl | rfl | rfl | rfl | rfl <;> assumption)
  clear htr hts htt htn hte
  have hc := split5 tr ts tt tn te
  generalize (tr && ts && tt && tn && te) = r at hc ⊢
  go_enter Tryz.func92, Tryz.ntmps92
  iterate 11 go_step
  rcases hc with ⟨rfl, hr⟩ | ⟨rfl, rfl, hr⟩ | ⟨rfl, rfl, rfl, hr⟩ | ⟨rfl, rfl, rfl, rfl, hr⟩ | ⟨rfl, rfl, rfl, rfl, rfl, hr⟩ | ⟨rfl, rfl, rfl, rfl, rfl, hr⟩
  all_goals
    refine wpList_names 4 (.bool r) HM HZ (by subst hr; kernel_rfl) (by kernel_rfl) (fun a' hx hd => ?_)
    simp only [Exit.then]
    go_wp2_with fail
    refine bodyPost_ret (v := .bool r) (fn := Tryz.f92) ?_ hd ⟨rfl, rfl⟩
    rw [results_tmp Tryz.results92, hx]

theorem namesAll_g16 {b : Nat} (s : WS) (w : World) (h : Lies w b s) (aa ra : Option Addr) (la ca lr cr : Nat) (ha : s.args = .slice aa la ca) (hr : s.rets = .slice ra lr cr) :
    Calls Tryz.prog 92 #[.pointer (some ⟨b, 130, none⟩), .pointer (some ⟨b, 154, none⟩)] w fun e w' => e = .returned (.bool ((s.s == 0) && (s.t == 0) && (s.n == 0) && ((la : Int) == 0) && ((lr : Int) == 0))) ∧ w' = w := by
  have HM := nM h ha hr 130 (vF 78) vN vN vN vN vN (by refine ⟨?_, ?_, ?_, ?_, ?_, ?_⟩ <;> kernel_rfl)
  clear h ha hr
  generalize s.r = zr at *
  generalize s.s = zs at *
  generalize s.t = zt at *
  generalize s.n = zn at *
  generalize hts : (zs == 0) = ts
  generalize htt : (zt == 0) = tt
  generalize htn : (zn == 0) = tn
  generalize hta : ((la : Int) == 0) = ta
  generalize hte : ((lr : Int) == 0) = te
  have HZ := zzOf_sound (l := [(28, zs, ts), (42, zt, tt), (56, zn, tn), (71, (la : Int), ta), (86, (lr : Int), te)]) (fun p hp => by
    simp only [List.mem_cons, List.not_mem_nil, or_false] at hp
    rcases hp with rfl | rfl | rfl | rfl | rfl <;> assumption)
  clear hts htt htn hta hte
  have hc := split5 ts tt tn ta te
  generalize (ts && tt && tn && ta && te) = r at hc ⊢
  go_enter Tryz.func92, Tryz.ntmps92
  iterate 11 go_step
  rcases hc with ⟨rfl, hr⟩ | ⟨rfl, rfl, hr⟩ | ⟨rfl, rfl, rfl, hr⟩ | ⟨rfl, rfl, rfl, rfl, hr⟩ | ⟨rfl, rfl, rfl, rfl, rfl, hr⟩ | ⟨rfl, rfl, rfl, rfl, rfl, hr⟩
  all_goals
    refine wpList_names 4 (.bool r) HM HZ (by subst hr; kernel_rfl) (by kernel_rfl) (fun a' hx hd => ?_)
    simp only [Exit.then]
    go_wp2_with fail
    refine bodyPost_ret (v := .bool r) (fn := Tryz.f92) ?_ hd ⟨rfl, rfl⟩
    rw [results_tmp Tryz.results92, hx]

theorem namesAll_g17 {b : Nat} (s : WS) (w : World) (h : Lies w b s) (aa ra : Option Addr) (la ca lr cr : Nat) (ha : s.args = .slice aa la ca) (hr : s.rets = .slice ra lr cr) :
    Calls Tryz.prog 92 #[.pointer (some ⟨b, 138, none⟩), .pointer (some ⟨b, 154, none⟩)] w fun e w' => e = .returned (.bool ((s.n == 0) && ((la : Int) == 0) && ((lr : Int) == 0))) ∧ w' = w := by
  have HM := nM h ha hr 138 (vF 78) (vF 78) (vF 78) vN vN vN (by refine ⟨?_, ?_, ?_, ?_, ?_, ?_⟩ <;> kernel_rfl)
  clear h ha hr
  generalize s.r = zr at *
  generalize s.s = zs at *
  generalize s.t = zt at *
  generalize s.n = zn at *
  generalize htn : (zn == 0) = tn
  generalize hta : ((la : Int) == 0) = ta
  generalize hte : ((lr : Int) == 0) = te
  have HZ := zzOf_sound (l := [(56, zn, tn), (71, (la : Int), ta), (86, (lr : Int), te)]) (fun p hp => by
    simp only [List.mem_cons, List.not_mem_nil, or_false] at hp
    rcases hp with rfl | rfl | rfl <;> assumption)
  clear htn hta hte
  have hc := split3 tn ta te
  generalize (tn && ta && te) = r at hc ⊢
  go_enter Tryz.func92, Tryz.ntmps92
  iterate 11 go_step
  rcases hc with ⟨rfl, hr⟩ | ⟨rfl, rfl, hr⟩ | ⟨rfl, rfl, rfl, hr⟩ | ⟨rfl, rfl, rfl, hr⟩
  all_goals
    refine wpList_names 4 (.bool r) HM HZ (by subst hr; kernel_rfl) (by kernel_rfl) (fun a' hx hd => ?_)
    simp only [Exit.then]
    go_wp2_with fail
    refine bodyPost_ret (v := .bool r) (fn := Tryz.f92) ?_ hd ⟨rfl, rfl⟩
    rw [results_tmp Tryz.results92, hx]

end Go.Proofs.YtjmbfjaahadbhaaGreatDoor
