import Derived.Test.YtihicdbplmdjiaaGreatQPlCeJ
import Derived.Test.YtihicdbplmdjiaaGreatQPlL3
set_option linter.unusedVariables false
set_option linter.unusedSimpArgs false
namespace Go.Proofs.YtihicdbplmdjiaaGreat.Pl
open Go.RowKit (wrap32 wrap64)

theorem make_able (n : Nat) (hn : n ≤ 64) (w : World) : (Instr.makeSlice 23 (.int .i64 0) (.int .i64 n)).run Tryz.prog w = .ok (.slice (some ⟨w.heap.size, 0, none⟩) 0 n) (w.alloc (.cells (Array.replicate n (vI 0)) 3)) := by
  have hz : (Tryz.prog.info? 3).map (·.zero) = some (some (vI 0)) := by kernel_rfl
  have hs : (Tryz.prog.info? 3).map (·.size) = some 1 := by kernel_rfl
  have hb : (Tryz.prog.info? 3).map (·.bytes) = some 8 := by kernel_rfl
  cases hi : Tryz.prog.info? 3 with
  | none => rw [hi] at hz; cases hz
  | some i =>
    rw [hi] at hz hs hb
    simp only [Option.map_some, Option.some.injEq] at hz hs hb
    have := run_make (P := Tryz.prog) w 23 3 i (vI 0) under27 hi hz .i64 .i64 0 n (by omega) (by omega) (by rw [hb]; omega) (by omega)
    rw [this, hs]
    simp
    show w.alloc (.cells (madeCells #[vI 0] n) 3) = _
    rw [made_one, List.toArray_replicate]

theorem able_made (w : World) (B n : Nat) (hn : n ≤ 64) (hB : B ≤ w.heap.size) : OwnI (w.alloc (.cells (Array.replicate n (vI 0)) 3)) B (.slice (some ⟨w.heap.size, 0, none⟩) 0 n) [] := by
  refine ⟨rfl, Or.inr ⟨w.heap.size, n, Array.replicate n (vI 0), rfl, hB, heap_alloc_last w _, Nat.zero_le _, ?_, ?_, ?_⟩⟩
  · unfold maxLen; omega
  · simp
  · simp
theorem OwnI.cut {w : World} {B g n cap : Nat} {L : List Nat} (h : OwnI w B (.slice (some ⟨g, 0, none⟩) n cap) L) : OwnI w B (.slice (some ⟨g, 0, none⟩) 0 cap) [] := by
  rcases h.2 with ⟨h2, -⟩ | ⟨g', cap', cur, e, h3, h4, h5, h6, h7, h8⟩
  · cases h2
  · cases e
    exact ⟨rfl, Or.inr ⟨g, cap, cur, rfl, h3, h4, Nat.zero_le _, h6, h7, by simp⟩⟩

/-- A history as it lies. -/
def MomsAt (w : World) (B : Nat) (mv : Value) (ms : List MomT) : Prop :=
  ∃ (mvs : List MV) (O : Nat → Prop), w.ownsRow B 41 9 mv ms.length ((mvs.map m9).flatten) ∧ mvs.map MV.m = ms ∧ (∀ x ∈ mvs, RepAt w O B x.kv x.vv x.m.rp.L) ∧ (∀ j, mv.ownBlock = some j → O j)

/-- The lists of its answers are each its own. -/
def MomsAp (w : World) (B : Nat) (mv : Value) (ms : List MomT) : Prop :=
  ∃ (mvs : List MV) (O : Nat → Prop), w.ownsRow B 41 9 mv ms.length ((mvs.map m9).flatten) ∧ mvs.map MV.m = ms ∧ (∀ x ∈ mvs, RepAt w O B x.kv x.vv x.m.rp.L) ∧ (∀ j, mv.ownBlock = some j → O j) ∧ ((mvs.map mbk).flatten).Nodup
theorem MomsAp.at {w : World} {B : Nat} {mv : Value} {ms : List MomT} (h : MomsAp w B mv ms) : MomsAt w B mv ms := by
  obtain ⟨mvs, O, h1, h2, h3, h4, -⟩ := h
  exact ⟨mvs, O, h1, h2, h3, h4⟩
theorem able_last (s : St) (l : Int) : able { s with last := l } = able s := rfl

theorem act_ms (s : St) (i : Nat) (c : Cl) (o : OpT) : (actX s i c o).ms = s.ms := by
  unfold actX
  split
  · split <;> rfl
  · split
    · rfl
    · split
      · split <;> rfl
      · rfl
theorem step_ms (s : St) (i : Nat) : (stepX s i).ms.length ≤ s.ms.length + 1 := by
  unfold stepX
  simp only
  split
  · omega
  · split
    · simp
    · split
      · rw [act_ms]; omega
      · simp

set_option maxRecDepth 100000 in
set_option maxHeartbeats 4000000 in
theorem play_own (w : World) (v sv : Value) (cl : List (List OpT)) (zs : List Int) (h : ClsAt w w.heap.size v cl) (hz : IntsAt w w.heap.size sv zs) (hn : cl.length ≤ 64) (hl : ∀ l ∈ cl, l.length ≤ 900000000000) (hk : ∀ l ∈ cl, ∀ o ∈ l, In64 o.2.1) (hmu : mu (begin0 cl) ≤ 50000000000) (hzl : zs.length ≤ 4000000000) :
    Calls Tryz.prog 6 #[v, sv] w fun e w' => ∃ mv k, e = .returned mv ∧ able (iter zs (begin0 cl) k) = [] ∧ MomsAp w' w.heap.size mv (iter zs (begin0 cl) k).ms ∧ Fr (fun _ => False) w w' := by
  have hnp := newPlay_any w v cl h hn hl
  have H : Hd (ClsAt w w.heap.size v cl) := h
  have HZ : Hd (IntsAt w w.heap.size sv zs) := hz
  have HK : Hd (StOk (begin0 cl)) := fun c hc => by
    obtain ⟨l, hl', rfl⟩ := List.mem_map.1 hc
    exact clOk_begin l (hk l hl')
  have HMU : Hd (mu (begin0 cl) ≤ 50000000000) := hmu
  have HZST : Hd (∀ c ∈ (begin0 cl).cls, c.st = 0) := fun c hc => by
    obtain ⟨l, hl', rfl⟩ := List.mem_map.1 hc
    rfl
  have HMS0 : Hd ((begin0 cl).ms = []) := by show (begin0 cl).ms = []; rfl
  have HLEN : Hd ((begin0 cl).cls.length = cl.length) := by show (cl.map _).length = _; simp
  obtain ⟨ad, cap, rfl, -⟩ := h
  obtain ⟨n, en⟩ : ∃ n, n = cl.length := ⟨_, rfl⟩
  have EN : Hd (n = cl.length) := en
  rw [← en] at hn hnp ⊢
  have mk := make_able n hn
  have d64 : decide ((64 : Int) < n) = false := by simp; omega
  have d64' : decide ((n : Int) > 64) = false := by simp; omega
  clear en hl hk hmu hz
  obtain ⟨s0, es0⟩ : ∃ s0, s0 = begin0 cl := ⟨_, rfl⟩
  rw [← es0] at hnp HK HMU HLEN HMS0 HZST ⊢
  clear es0
  go_enter Tryz.func6, Tryz.ntmps6
  go_wp2_with (first
    | (go_at_call 11; refine hnp.mono ?_; rintro _ w1 ⟨pb, cb, tb, g, cvs, rfl, hP1, hF1⟩; have HP1 : Hd _ := hP1; have HF1 : Hd (Fr (fun _ => False) w w1) := hF1; clear hP1 hF1))
  have hsz1 : w.heap.size ≤ w1.heap.size := HF1.out.size
  have hP2 : Pl (w1.alloc (.cells (Array.replicate n (vI 0)) 3)) w.heap.size pb cb tb g 0 (fun _ => none) (.slice none 0 0) cvs [] s0 (fun j => (Value.slice (some ⟨w1.heap.size, 0, none⟩) 0 n).ownBlock = some j) :=
    HP1.out.fr ((Fr.refl (fun _ => False) w1).alloc _) (fun _ h => h.elim) (fun j hj => by have e : w1.heap.size = j := Option.some.inj hj; exact ⟨Or.inl (by omega), by simp; omega⟩)
  have hab := able_any _ hP2 HK.out (by rw [HLEN.out, ← EN.out]; exact hn) (able_made w1 w.heap.size n hn hsz1)
  have F2 : Fr (fun _ => False) w (w1.alloc (.cells (Array.replicate n (vI 0)) 3)) := HF1.out.alloc _
  refine hab.mono ?_
  rintro _ w2 ⟨lv, rfl, hO2, hP3, hF3⟩
  have HI : Hd (OwnI w2 w.heap.size lv (able s0) ∧ Pl w2 w.heap.size pb cb tb g 0 (fun _ => none) (.slice none 0 0) cvs [] s0 (fun j => lv.ownBlock = some j) ∧ Fr (fun _ => False) w w2 ∧ Apx w2 cvs []) :=
    ⟨hO2, hP3, F2.under hF3 (fun j hj => by have e : w1.heap.size = j := Option.some.inj hj; omega), Apx.start w2 (fun x hx => HZST.out x.c (by rw [← hP3.cls]; exact List.mem_map.2 ⟨x, hx, rfl⟩))⟩
  clear hab hP2 hO2 hP3 hF3 F2 HP1 HF1 mk hsz1 hnp H
  go_wp2_with fail
  go_loopw [6, 7] (fun v6 v7 wr => ∃ t : Nat, v7 = .int .i64 t ∧ Hd (∃ g N a mv cvs mvs, Pl wr w.heap.size pb cb tb g N a mv cvs mvs (iter zs s0 t) (fun j => v6.ownBlock = some j) ∧ OwnI wr w.heap.size v6 (able (iter zs s0 t)) ∧ StOk (iter zs s0 t) ∧ t + mu (iter zs s0 t) ≤ 50000000000 ∧ N ≤ t ∧ (iter zs s0 t).ms.length ≤ t ∧ (iter zs s0 t).cls.length = n ∧ Fr (fun _ => False) w wr ∧ Apx wr cvs mvs)) (fun _ v _ => match v with | .int _ q => 50000000001 - q.toNat | _ => 0)
  case atStart => exact ⟨0, rfl, _, _, _, _, _, _, HI.out.2.1, HI.out.1, HK.out, by have := HMU.out; simp [iter]; exact this, Nat.le_refl _, by show s0.ms.length ≤ 0; rw [HMS0.out]; simp, by rw [EN.out]; exact HLEN.out, HI.out.2.2.1, HI.out.2.2.2⟩
  case round =>
    obtain ⟨t, rfl, HM⟩ := hrel
    obtain ⟨g1, N1, a1, mv1, cvs1, mvs1, hP, hO, hS, hT, hN, hMs, hCl, hF, hAp⟩ := HM.out
    obtain ⟨s, es⟩ : ∃ s, s = iter zs s0 t := ⟨_, rfl⟩
    rw [← es] at hP hO hS hT hMs hCl
    by_cases hab : able s = []
    · obtain ⟨ad6, cap6, e6, -⟩ := hO.at
      rw [hab] at e6
      simp only [List.length_nil] at e6
      subst e6
      obtain ⟨-, -, -, p11, -⟩ := hP.heads
      have HEND : Hd (able (iter zs s0 t) = [] ∧ MomsAp wr w.heap.size mv1 (iter zs s0 t).ms ∧ Fr (fun _ => False) w wr) := by
        rw [← es]
        exact ⟨hab, ⟨mvs1, _, hP.mom, hP.moms, hP.mreps, fun j hj => Or.inr (Or.inr (Or.inr (Or.inl hj))), (List.nodup_append.1 hAp.nd).1⟩, hF⟩
      clear HM hP hO hS hMs hCl es hab hF hAp
      go_wp2_with fail
      go_ret
      exact ⟨mv1, t, rfl, HEND.out⟩
    · obtain ⟨p, ep⟩ : ∃ p, p = pickX s.last (able s) zs t := ⟨_, rfl⟩
      have hmem : p ∈ able s := by rw [ep]; exact pick_mem hab
      have hzs : IntsAt wr w.heap.size sv zs := HZ.out.fr hF (Nat.le_refl _) (fun _ _ h => h)
      have hal : (able s).length ≤ 64 := by have := ableTo_len s s.cls.length; unfold able; omega
      have hpk := pick_any u6 sv (able s) zs t hP hO hab hal hzs (by omega) (by omega)
      rw [← ep] at hpk
      have hok := step_ok hS hmem (p : Int)
      have hstep : Hd (∀ w', Pl w' w.heap.size pb cb tb g1 N1 a1 mv1 cvs1 mvs1 { s with last := (p : Int) } (fun j => u6.ownBlock = some j) → Calls Tryz.prog 13 #[.pointer (some ⟨pb, 0, none⟩), vI p] w' fun e w'' => e = .returned (.tuple #[]) ∧ Left cvs1 mvs1 w' w.heap.size pb cb tb g1 N1 (fun j => u6.ownBlock = some j) (stepX { s with last := (p : Int) } p) w'') := fun w' hp' =>
        step_any hp' hS p hmem (by show s.cls.length ≤ 64; omega) (by show s.ms.length ≤ _; omega) (by omega) (by show mu s ≤ _; omega)
      obtain ⟨s', es'⟩ : ∃ s', s' = stepX { s with last := (p : Int) } p := ⟨_, rfl⟩
      have hit : Hd (iter zs s0 (t + 1) = s') := by
        show _ = _
        rw [iter_step (by rw [← es]; exact hab), ← es, ← ep, es']
      have hms' : s'.ms.length ≤ s.ms.length + 1 := by rw [es']; exact step_ms _ _
      rw [← es'] at hok hstep
      obtain ⟨hS', hmu', hcl', -⟩ := hok
      obtain ⟨ad6, cap6, e6, hx6⟩ := hO.at
      obtain ⟨g6, rfl, -, -⟩ := hx6 hab
      have hpos : 0 < (able s).length := List.length_pos_iff.2 hab
      have HW : Hd (∀ w1 w2 w3 lv' g' N' a' mv' cvs' mvs', Fr (fun j => j = pb) wr w1 → (Apx w1 cvs1 mvs1 → Apx w2 cvs' mvs') → N' ≤ N1 + 1 → Fr (fun j => w.heap.size ≤ j ∧ ¬ u6.ownBlock = some j) w1 w2 → OwnI w3 w.heap.size lv' (able s') → Pl w3 w.heap.size pb cb tb g' N' a' mv' cvs' mvs' s' (fun j => lv'.ownBlock = some j) → Fr (fun j => u6.ownBlock = some j) w2 w3 →
          (∃ g N a mv cvs mvs, Pl w3 w.heap.size pb cb tb g N a mv cvs mvs (iter zs s0 (t + 1)) (fun j => lv'.ownBlock = some j) ∧ OwnI w3 w.heap.size lv' (able (iter zs s0 (t + 1))) ∧ StOk (iter zs s0 (t + 1)) ∧ t + 1 + mu (iter zs s0 (t + 1)) ≤ 50000000000 ∧ N ≤ t + 1 ∧ (iter zs s0 (t + 1)).ms.length ≤ t + 1 ∧ (iter zs s0 (t + 1)).cls.length = n ∧ Fr (fun _ => False) w w3 ∧ Apx w3 cvs mvs)) := by
        intro w1 w2 w3 lv' g' N' a' mv' cvs' mvs' f1 hA2 hN' f2 ho3 hp3 f3
        rw [hit.out]
        have hpB := hP.bp
        refine ⟨g', N', a', mv', cvs', mvs', hp3, ho3, hS', by omega, by omega, by omega, by omega, ?_, (hA2 (hAp.mono f1.size)).mono f3.size⟩
        have q1 : Fr (fun _ => False) w w1 := hF.under f1 (fun j hj => by omega)
        have q2 : Fr (fun _ => False) w w2 := q1.under f2 (fun j hj => hj.1)
        exact q2.under f3 (fun j hj => (hO.ge j hj).1)
      have HAB : Hd (∀ w1 w2 g' N' a' mv' cvs' mvs', Fr (fun j => j = pb) wr w1 → Fr (fun j => w.heap.size ≤ j ∧ ¬ u6.ownBlock = some j) w1 w2 → Pl w2 w.heap.size pb cb tb g' N' a' mv' cvs' mvs' s' (fun j => u6.ownBlock = some j) → Calls Tryz.prog 12 #[.pointer (some ⟨pb, 0, none⟩), .slice (some ⟨g6, 0, none⟩) 0 cap6] w2 fun e w3 => ∃ lv', e = .returned lv' ∧ OwnI w3 w.heap.size lv' (able s') ∧ Pl w3 w.heap.size pb cb tb g' N' a' mv' cvs' mvs' s' (fun j => lv'.ownBlock = some j) ∧ Fr (fun j => u6.ownBlock = some j) w2 w3) := by
        intro w1 w2 g' N' a' mv' cvs' mvs' f1 f2 hp2
        have hu6 : u6.ownBlock = some g6 := by rw [e6]; rfl
        have ho1 : OwnI w1 w.heap.size u6 (able s) := hO.fr f1 (fun j hj e => hP.ep (by rw [← e]; exact hj))
        have ho2 : OwnI w2 w.heap.size u6 (able s) := ho1.fr f2 (fun j hj e => e.2 hj)
        rw [e6] at ho2
        have hcut := ho2.cut
        have := able_any (.slice (some ⟨g6, 0, none⟩) 0 cap6) (by rw [e6] at hp2; exact hp2) hS' (by omega) hcut
        rw [e6]
        exact this
      obtain ⟨q, hq⟩ : ∃ q, q = (able s).length := ⟨_, rfl⟩
      rw [← hq] at e6 hpos
      subst e6
      have hq1 : (0 : Int) < q := by omega
      have ht9 : t + 1 ≤ 50000000000 := by omega
      clear HM hN hF hAp hCl hMs hT hS hO hP es hab ep hmem hzs hit hms' hS' hmu' hcl' hx6 hal hq es' HI HK HMU HMS0 HLEN HZST
      go_wp2_with (first
        | (go_at_call 14; refine hpk.mono ?_; rintro _ w1 ⟨rfl, hp1, hf1⟩; have HP1 : Hd _ := hp1; have HF1 : Hd _ := hf1; clear hp1 hf1)
        | (go_at_call 13; refine (hstep.out _ HP1.out).mono ?_; rintro _ w2 ⟨rfl, g', N', a', mv', cvs', mvs', hN', hp2, hf2, ha2⟩; have HA2 : Hd (Apx w1 cvs1 mvs1 → Apx w2 cvs' mvs') := ha2; clear ha2; have HP2 : Hd _ := hp2; have HF2 : Hd _ := hf2; have HN2 : Hd (N' ≤ N1 + 1) := hN'; clear hp2 hf2 hN')
        | (go_at_call 12; refine (HAB.out w1 w2 g' N' a' mv' cvs' mvs' HF1.out HF2.out HP2.out).mono ?_; rintro _ w3 ⟨lv', rfl, ho3, hp3, hf3⟩; have HEND : Hd _ := HW.out w1 w2 w3 lv' g' N' a' mv' cvs' mvs' HF1.out HA2.out HN2.out HF2.out ho3 hp3 hf3; clear ho3 hp3 hf3))
      exact ⟨⟨t + 1, by simp, HEND.out⟩, by simp; omega⟩
theorem play_any (w : World) (v sv : Value) (cl : List (List OpT)) (zs : List Int) (h : ClsAt w w.heap.size v cl) (hz : IntsAt w w.heap.size sv zs) (hn : cl.length ≤ 64) (hl : ∀ l ∈ cl, l.length ≤ 900000000000) (hk : ∀ l ∈ cl, ∀ o ∈ l, In64 o.2.1) (hmu : mu (begin0 cl) ≤ 50000000000) (hzl : zs.length ≤ 4000000000) :
    Calls Tryz.prog 6 #[v, sv] w fun e w' => ∃ mv k, e = .returned mv ∧ able (iter zs (begin0 cl) k) = [] ∧ MomsAt w' w.heap.size mv (iter zs (begin0 cl) k).ms ∧ Fr (fun _ => False) w w' := by
  refine (play_own w v sv cl zs h hz hn hl hk hmu hzl).mono ?_
  rintro e w' ⟨mv, k, h1, h2, h3, h4⟩
  exact ⟨mv, k, h1, h2, h3.at, h4⟩
def total (cl : List (List OpT)) : Nat := cl.length + (cl.map List.length).sum

set_option maxRecDepth 100000 in
/-- More than 64 clients: nothing happens. -/
theorem play_many (w : World) (v sv : Value) (cl : List (List OpT)) (h : ClsAt w w.heap.size v cl) (hn : 64 < cl.length) :
    Calls Tryz.prog 6 #[v, sv] w fun e w' => e = .returned (.slice none 0 0) ∧ w' = w := by
  obtain ⟨ad, cap, rfl, -⟩ := h
  obtain ⟨n, en⟩ : ∃ n, n = cl.length := ⟨_, rfl⟩
  rw [← en] at hn ⊢
  clear en
  have h1 : (64 : Int) < n := by omega
  have h2 : decide ((n : Int) > 64) = true := by simp; omega
  go_enter Tryz.func6, Tryz.ntmps6
  go_wp2_with fail
  go_ret
  exact ⟨rfl, rfl⟩

theorem fromK_len (l : List OpT) : (fromK l).length ≤ l.length := (List.dropWhile_sublist _).length_le
theorem costs_le (l : List OpT) : costs l ≤ 11 * l.length := by
  induction l with
  | nil => simp [costs]
  | cons a r ih =>
    have : cost a ≤ 11 := by unfold cost; split <;> omega
    unfold costs at *
    rw [List.map_cons, List.sum_cons, List.length_cons]
    omega
theorem mu_le (cl : List (List OpT)) : mu (begin0 cl) ≤ 11 * total cl := by
  have : ∀ cl : List (List OpT), (((cl.map (fun l => (⟨fromK l, 0, 0, rep0⟩ : Cl))).map mu1).sum) ≤ 11 * (cl.map List.length).sum := fun cl => by
    induction cl with
    | nil => simp
    | cons a r ih =>
      rw [List.map_cons, List.map_cons, List.sum_cons, List.map_cons, List.sum_cons]
      have h1 : mu1 (⟨fromK a, 0, 0, rep0⟩ : Cl) ≤ 11 * a.length := by
        have := costs_le (fromK a)
        have := fromK_len a
        simp [mu1]
        omega
      omega
  have h := this cl
  unfold mu total
  show (((cl.map (fun l => (⟨fromK l, 0, 0, rep0⟩ : Cl))).map mu1).sum) ≤ _
  omega

/-! ### the order of each client -/
theorem iter_ms {zs : List Int} {s0 : St} (h : StOk s0) : ∀ k, StOk (iter zs s0 k) ∧ (iter zs s0 k).ms.length + mu (iter zs s0 k) ≤ s0.ms.length + mu s0
  | 0 => ⟨h, Nat.le_refl _⟩
  | k + 1 => by
    obtain ⟨h1, h2⟩ := iter_ms h k
    by_cases e : able (iter zs s0 k) = []
    · have : iter zs s0 (k + 1) = iter zs s0 k := by
        show (if able (iter zs s0 k) = [] then _ else _) = _
        rw [if_pos e]
      rw [this]; exact ⟨h1, h2⟩
    · rw [iter_step e]
      have hok := step_ok h1 (pick_mem (last := (iter zs s0 k).last) (zs := zs) (k := k) e) (pickX (iter zs s0 k).last (able (iter zs s0 k)) zs k : Nat)
      have hms := step_ms { iter zs s0 k with last := ((pickX (iter zs s0 k).last (able (iter zs s0 k)) zs k : Nat) : Int) } (pickX (iter zs s0 k).last (able (iter zs s0 k)) zs k)
      refine ⟨hok.1, ?_⟩
      have h5 := hok.2.1
      have h6 : (stepX { iter zs s0 k with last := ((pickX (iter zs s0 k).last (able (iter zs s0 k)) zs k : Nat) : Int) } (pickX (iter zs s0 k).last (able (iter zs s0 k)) zs k)).ms.length ≤ (iter zs s0 k).ms.length + 1 := hms
      clear hms hok
      generalize (stepX { iter zs s0 k with last := ((pickX (iter zs s0 k).last (able (iter zs s0 k)) zs k : Nat) : Int) } (pickX (iter zs s0 k).last (able (iter zs s0 k)) zs k)) = x at *
      omega
theorem ClsAt.mono {w : World} {B B' : Nat} {v : Value} {cl : List (List OpT)} (h : ClsAt w B v cl) (hB : B ≤ B') : ClsAt w B' v cl := by
  obtain ⟨ad, cap, e, hx⟩ := h
  refine ⟨ad, cap, e, fun hne => ?_⟩
  obtain ⟨g, o, ea, hg, hcs⟩ := hx hne
  refine ⟨g, o, ea, by omega, fun i hi => ?_⟩
  obtain ⟨u, hu, ho⟩ := hcs i hi
  exact ⟨u, hu, ho.mono hB⟩
theorem IntsAt.mono {w : World} {B B' : Nat} {v : Value} {zs : List Int} (h : IntsAt w B v zs) (hB : B ≤ B') : IntsAt w B' v zs := by
  obtain ⟨ad, cap, e, hx⟩ := h
  refine ⟨ad, cap, e, fun hne => ?_⟩
  obtain ⟨g, o, ea, hg, hcs⟩ := hx hne
  exact ⟨g, o, ea, by omega, hcs⟩
theorem total_len {cl : List (List OpT)} {l : List OpT} (h : l ∈ cl) : l.length ≤ total cl := by
  have : ∀ cl : List (List OpT), l ∈ cl → l.length ≤ (cl.map List.length).sum := fun cl => by
    induction cl with
    | nil => intro h; cases h
    | cons a r ih =>
      intro h
      rw [List.map_cons, List.sum_cons]
      rcases List.mem_cons.1 h with rfl | h
      · omega
      · have := ih h; omega
  have := this cl h
  unfold total; omega

end Go.Proofs.YtihicdbplmdjiaaGreat.Pl
