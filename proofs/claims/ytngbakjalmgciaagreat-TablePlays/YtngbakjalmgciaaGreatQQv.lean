import Derived.Test.YtngbakjalmgciaaGreatQQu
import Derived.StillTailTactics
import Derived.BigRegion
import Derived.BigQuiet
namespace Go.Proofs.YtngbakjalmgciaaGreat
open Go.RowKit (wrap32 wrap64)
set_option linter.unusedVariables false
set_option linter.unusedSimpArgs false

theorem RepAt.from {w : World} {O : Nat → Prop} {B : Nat} {kv vv : Value} {L : List Kv} (h : RepAt w O B kv vv L) {j : Nat} (hj : kv.ownBlock = some j ∨ vv.ownBlock = some j) : B ≤ j := by
  rcases h with ⟨e1, e2, -⟩ | ⟨kb, vb, e1, e2, b1, b2, -⟩
  · rw [e1, e2] at hj; rcases hj with e | e <;> cases e
  · rw [e1, e2] at hj
    rcases hj with e | e
    · have : kb = j := Option.some.inj e; omega
    · have : vb = j := Option.some.inj e; omega
theorem RepAt.free {w : World} {O : Nat → Prop} {B : Nat} {kv vv : Value} {L : List Kv} (h : RepAt w O B kv vv L) {g : Nat} (hg : O g) : kv.ownBlock ≠ some g ∧ vv.ownBlock ≠ some g := by
  rcases h with ⟨e1, e2, -⟩ | ⟨kb, vb, e1, e2, -, -, n1, n2, -⟩
  · rw [e1, e2]; exact ⟨(fun e => by cases e), (fun e => by cases e)⟩
  · rw [e1, e2]
    exact ⟨fun e => by have : kb = g := Option.some.inj e; subst this; exact n1 hg, fun e => by have : vb = g := Option.some.inj e; subst this; exact n2 hg⟩
theorem wrap64_in (x : Int) : In64 (wrap64 x) := by
  unfold In64 wrap64
  omega
theorem wrap_in (x : Int) : In64 (IntKind.i64.wrap x) := by
  unfold In64
  rw [IntKind.wrap_i64 x]
  omega
def smallCl : List (List OpT) := [[(1, 3, ⟨#[121]⟩), (3, 0, ⟨#[]⟩)]]
/-- The play between: whatever it tells. -/
theorem small_any (w : World) (b : Nat) (hb : b = w.heap.size) :
    Calls Tryz.prog 8 #[.slice (some ⟨b + 1, 0, none⟩) 1 1, .slice (some ⟨b + 2, 0, none⟩) 2 2] (((w.alloc (.cells #[vI 1, vI 3, .string ⟨#[121]⟩, vI 3, vI 0, .string ⟨#[]⟩] 31)).alloc (.cells #[.slice (some ⟨b, 0, none⟩) 2 2] 32)).alloc (.cells #[vI 1, vI 2] 3)) fun e w' => ∃ mv, e = .returned mv ∧ Fr (fun _ => False) w w' := by
  obtain ⟨W, eW⟩ : ∃ W, W = (((w.alloc (.cells #[vI 1, vI 3, .string ⟨#[121]⟩, vI 3, vI 0, .string ⟨#[]⟩] 31)).alloc (.cells #[.slice (some ⟨b, 0, none⟩) 2 2] 32)).alloc (.cells #[vI 1, vI 2] 3)) := ⟨_, rfl⟩
  rw [← eW]
  have hF : Fr (fun _ => False) w W := by rw [eW]; exact (((Fr.refl _ w).alloc _).alloc _).alloc _
  have h0 : W.heap[b]? = some (.cells #[vI 1, vI 3, .string ⟨#[121]⟩, vI 3, vI 0, .string ⟨#[]⟩] 31) := by
    rw [eW, Go.RowKit.Below.heap_alloc _ _ _ (by simp; omega), Go.RowKit.Below.heap_alloc _ _ _ (by simp; omega), hb]
    exact heap_alloc_last w _
  have h1 : W.heap[b + 1]? = some (.cells #[.slice (some ⟨b, 0, none⟩) 2 2] 32) := by
    rw [eW, Go.RowKit.Below.heap_alloc _ _ _ (by simp; omega)]
    have := heap_alloc_last (w.alloc (.cells #[vI 1, vI 3, .string ⟨#[121]⟩, vI 3, vI 0, .string ⟨#[]⟩] 31)) (.cells #[.slice (some ⟨b, 0, none⟩) 2 2] 32)
    rw [show (w.alloc (.cells #[vI 1, vI 3, .string ⟨#[121]⟩, vI 3, vI 0, .string ⟨#[]⟩] 31)).heap.size = b + 1 by simp; omega] at this
    exact this
  have h2 : W.heap[b + 2]? = some (.cells #[vI 1, vI 2] 3) := by
    rw [eW]
    have := heap_alloc_last ((w.alloc (.cells #[vI 1, vI 3, .string ⟨#[121]⟩, vI 3, vI 0, .string ⟨#[]⟩] 31)).alloc (.cells #[.slice (some ⟨b, 0, none⟩) 2 2] 32)) (.cells #[vI 1, vI 2] 3)
    rw [show ((w.alloc (.cells #[vI 1, vI 3, .string ⟨#[121]⟩, vI 3, vI 0, .string ⟨#[]⟩] 31)).alloc (.cells #[.slice (some ⟨b, 0, none⟩) 2 2] 32)).heap.size = b + 2 by simp; omega] at this
    exact this
  have hops : OpsAt W W.heap.size (.slice (some ⟨b, 0, none⟩) 2 2) [(1, 3, ⟨#[121]⟩), (3, 0, ⟨#[]⟩)] := ⟨_, 2, rfl, Nat.le_refl _, fun _ => ⟨b, 0, rfl, heap_lt h0, fun i hi => by
    have : i = 0 ∨ i = 1 := by simp at hi; omega
    rcases this with rfl | rfl
    · exact ⟨by rw [cell_of h0]; rfl, by rw [cell_of h0]; rfl, by rw [cell_of h0]; rfl⟩
    · exact ⟨by rw [cell_of h0]; rfl, by rw [cell_of h0]; rfl, by rw [cell_of h0]; rfl⟩⟩⟩
  have hcls : ClsAt W W.heap.size (.slice (some ⟨b + 1, 0, none⟩) 1 1) smallCl := ⟨_, 1, rfl, fun _ => ⟨b + 1, 0, rfl, heap_lt h1, fun i hi => by
    have : i = 0 := by simpa [smallCl] using hi
    subst this
    exact ⟨_, by rw [cell_of h1]; rfl, hops⟩⟩⟩
  have hzs : IntsAt W W.heap.size (.slice (some ⟨b + 2, 0, none⟩) 2 2) [1, 2] := ⟨_, 2, rfl, fun _ => ⟨b + 2, 0, rfl, heap_lt h2, fun i hi => by
    have : i = 0 ∨ i = 1 := by simp at hi; omega
    rcases this with rfl | rfl
    · rw [cell_of h2]; rfl
    · rw [cell_of h2]; rfl⟩⟩
  refine (play_any W _ _ smallCl [1, 2] hcls hzs (by simp [smallCl]) (by intro l hl; simp [smallCl] at hl; subst hl; simp) (by intro l hl o ho; simp [smallCl] at hl; subst hl; simp at ho; rcases ho with rfl | rfl <;> exact ⟨by decide, by decide⟩) (by decide) (by simp)).mono ?_
  rintro e w' ⟨mv, k, e1, -, -, hf⟩
  exact ⟨mv, e1, hF.trans hf⟩
set_option maxRecDepth 100000 in
set_option maxHeartbeats 8000000 in
theorem tplays_any (w : World) (v sv : Value) (cl : List (List OpT)) (zs : List Int) (h : ClsAt w w.heap.size v cl) (hz : IntsAt w w.heap.size sv zs) (hn : cl.length ≤ 20000000000000) (hl : ∀ l ∈ cl, l.length ≤ 20000000000000) (hzl : zs.length ≤ 20000000000000) (hk : ∀ l ∈ cl, ∀ o ∈ l, In64 o.2.1) :
    Calls Tryz.prog 3 #[v, sv] w fun e w' => e = .returned (.bool true) ∧ Fr (fun _ => False) w w' := by
  have hlg := long_any w v sv cl zs h hz hn hl hzl
  have HV : Hd (∀ W, Fr (fun _ => False) w W → ClsAt W W.heap.size v cl ∧ IntsAt W W.heap.size sv zs) := fun W f => ⟨(h.fr f (Nat.le_refl _) (fun _ _ e => e)).mono f.size, (hz.fr f (Nat.le_refl _) (fun _ _ e => e)).mono f.size⟩
  have HK : Hd (∀ l ∈ cl, ∀ o ∈ l, In64 o.2.1) := hk
  clear h hz hn hl hzl hk
  go_enter Tryz.func3, Tryz.ntmps3
  go_wp2_with fail
  refine hlg.mono ?_
  rintro _ w0 ⟨⟨bl, rfl, hbl⟩, rfl⟩
  clear hlg
  cases bl with
  | true =>
    clear hbl
    go_wp2_with fail
    go_ret
    exact ⟨rfl, Fr.refl _ _⟩
  | false =>
    obtain ⟨ht, hz2⟩ := hbl rfl
    have HT : Hd (total cl ≤ 2147483647 ∧ zs.length ≤ 2147483647) := ⟨ht, hz2⟩
    have HLL : Hd (∀ l ∈ cl, l.length ≤ 2147483647) := fun l hl => Nat.le_trans (total_len hl) ht
    have HN : Hd (cl.length ≤ 2147483647) := (tot_le ht).2
    obtain ⟨ms, hms1, hms2, hp8, hp9⟩ := plays_same cl zs ht hz2 HK.out
    have HMS : Hd (ms.length ≤ 4294967294 ∧ ∀ m ∈ ms, m.rp.L.length ≤ 2147483647) := ⟨hms1, hms2⟩
    have HP8 : Hd (∀ (w : World) (v sv : Value), ClsAt w w.heap.size v cl → IntsAt w w.heap.size sv zs → Calls Tryz.prog 8 #[v, sv] w fun e w' => ∃ mv, e = .returned mv ∧ MomsAp w' w.heap.size mv ms ∧ Fr (fun _ => False) w w') := hp8
    have HP9 : Hd (∀ (w : World) (v sv : Value), ClsAt w w.heap.size v cl → IntsAt w w.heap.size sv zs → Calls Tryz.prog 9 #[v, sv] w fun e w' => ∃ mv, e = .returned mv ∧ HsAt w' w.heap.size mv ms ∧ Fr (fun _ => False) w w') := hp9
    have HEQ : Hd (∀ (W : World) (B1 B2 : Nat) (v1 v2 : Value), HsAt W B1 v1 ms → HsAt W B2 v2 ms → Calls Tryz.prog 10 #[v1, v2] W fun e w' => e = .returned (.bool true) ∧ Fr (fun _ => False) W w') := fun W B1 B2 v1 v2 q1 q2 => eqHist_same W B1 B2 v1 v2 ms q1 q2 (by omega) (fun m hm => by have := hms2 m hm; omega)
    clear hp8 hp9 hms1 hms2 ht hz2 hbl
    go_wp2_with fail
    refine (lives_any w0).mono ?_
    rintro _ w1 ⟨rfl, hf1⟩
    have F1 : Hd (Fr (fun _ => False) w0 w1) := hf1
    clear hf1
    go_wp2_with fail
    refine (roomOps_any v cl w1 (HV.out w1 F1.out).1 HN.out HLL.out).mono ?_
    rintro _ w2 ⟨iv, rfl, hri, hf2⟩
    have F2 : Hd (Fr (fun _ => False) w0 w2) := F1.out.trans hf2
    have HRI : Hd (RmO w2 w1.heap.size iv cl) := hri
    have F1S : Hd (w0.heap.size ≤ w1.heap.size ∧ w1.heap.size ≤ w2.heap.size) := ⟨F1.out.size, hf2.size⟩
    clear hri hf2
    go_wp2_with fail
    refine (roomInts_any w2 sv zs (HV.out w2 F2.out).2 HT.out.2).mono ?_
    rintro _ w3 ⟨zv, rfl, hrz, hf3⟩
    have F3 : Hd (Fr (fun _ => False) w0 w3) := F2.out.trans hf3
    have HIN : Hd (RmO w3 w1.heap.size iv cl) := HRI.out.fr0 hf3
    have HIZ : Hd (RmI w3 w2.heap.size zv zs) := hrz
    clear hrz hf3 HRI F1 F2
    go_wp2_with fail
    refine (HP8.out w3 iv zv HIN.out.cls HIZ.out.ints).mono ?_
    rintro _ w4 ⟨hv, rfl, hh4, hf4⟩
    have G4 : Hd (Fr (fun _ => False) w3 w4) := hf4
    obtain ⟨mvs, O, hx4⟩ := hh4.ex
    have HH : Hd (MoX w4 w3.heap.size hv ms mvs O) := hx4
    clear hh4 hf4 hx4
    have HI4 : Hd (∀ W, Fr (fun _ => False) w3 W → RmO W w1.heap.size iv cl ∧ RmI W w2.heap.size zv zs) := fun W f => ⟨HIN.out.fr0 f, HIZ.out.fr f (fun _ _ _ e => e)⟩
    clear HIN HIZ
    go_wp2_with fail
    refine (HP8.out w4 iv zv (HI4.out w4 G4.out).1.cls (HI4.out w4 G4.out).2.ints).mono ?_
    rintro _ w5 ⟨nv, rfl, hh5, hf5⟩
    have G5 : Hd (Fr (fun _ => False) w4 w5) := hf5
    have HNX : Hd (HsAt w5 w4.heap.size nv ms) := hh5.at.hs
    clear hh5 hf5
    go_wp2_with fail
    refine (small_any w5 w5.heap.size rfl).mono ?_
    rintro _ w6 ⟨mv6, rfl, hf6⟩
    have G6 : Hd (Fr (fun _ => False) w5 w6) := hf6
    clear hf6
    go_wp2_with fail
    have G36 : Hd (Fr (fun _ => False) w3 w6) := (G4.out.trans G5.out).trans G6.out
    refine (HP8.out w6 iv zv (HI4.out w6 G36.out).1.cls (HI4.out w6 G36.out).2.ints).mono ?_
    rintro _ w7 ⟨rv, rfl, hh7, hf7⟩
    have G7 : Hd (Fr (fun _ => False) w6 w7) := hf7
    have HRS : Hd (HsAt w7 w6.heap.size rv ms) := hh7.at.hs
    clear hh7 hf7
    go_wp2_with fail
    have G07 : Hd (Fr (fun _ => False) w0 w7) := (F3.out.trans G36.out).trans G7.out
    refine (HP9.out w7 v sv (HV.out w7 G07.out).1 (HV.out w7 G07.out).2).mono ?_
    rintro _ w8 ⟨tv, rfl, hh8, hf8⟩
    have G8 : Hd (Fr (fun _ => False) w7 w8) := hf8
    have HWT : Hd (HsAt w8 w7.heap.size tv ms) := hh8
    clear hh8 hf8
    -- all at w8 and behind
    have G48 : Hd (Fr (fun _ => False) w4 w8) := ((G5.out.trans G6.out).trans G7.out).trans G8.out
    have HALL : Hd (∀ W, Fr (fun _ => False) w8 W → MoX W w3.heap.size hv ms mvs O ∧ HsAt W w4.heap.size nv ms ∧ HsAt W w6.heap.size rv ms ∧ HsAt W w7.heap.size tv ms ∧ Fr (fun _ => False) w3 W ∧ Fr (fun _ => False) w0 W) := fun W f =>
      ⟨HH.out.fr0 (G48.out.trans f), HNX.out.fr (((G6.out.trans G7.out).trans G8.out).trans f) (fun _ _ _ e => e), HRS.out.fr (G8.out.trans f) (fun _ _ _ e => e), HWT.out.fr f (fun _ _ _ e => e), (G4.out.trans G48.out).trans f, ((F3.out.trans G4.out).trans G48.out).trans f⟩
    have HSZ : Hd (w3.heap.size ≤ w4.heap.size ∧ w4.heap.size ≤ w6.heap.size ∧ w6.heap.size ≤ w7.heap.size ∧ w7.heap.size ≤ w8.heap.size) := ⟨G4.out.size, Nat.le_trans G5.out.size G6.out.size, G7.out.size, G8.out.size⟩
    have HH4 : Hd (MoX w4 w3.heap.size hv ms mvs O) := HH.out
    clear HH HNX HRS HWT G5 G6 G7 G8 G48 G36 G07 HP8 HP9
    go_wp2_with fail
    refine (HEQ.out w8 _ _ hv tv ((HALL.out w8 (Fr.refl _ _)).1.ap.at.hs) (HALL.out w8 (Fr.refl _ _)).2.2.2.1).mono ?_
    rintro _ w9 ⟨rfl, hf9⟩
    have G9 : Hd (Fr (fun _ => False) w8 w9) := hf9
    clear hf9
    go_wp2_with fail
    refine (HEQ.out w9 _ _ nv tv ((HALL.out w9 G9.out).2.1) (HALL.out w9 G9.out).2.2.2.1).mono ?_
    rintro _ w10 ⟨rfl, hf10⟩
    have G10 : Hd (Fr (fun _ => False) w8 w10) := G9.out.trans hf10
    clear hf10 G9
    go_wp2_with fail
    refine (HEQ.out w10 _ _ rv tv ((HALL.out w10 G10.out).2.2.1) (HALL.out w10 G10.out).2.2.2.1).mono ?_
    rintro _ w11 ⟨rfl, hf11⟩
    have G11 : Hd (Fr (fun _ => False) w8 w11) := G10.out.trans hf11
    clear hf11 G10
    go_wp2_with fail
    refine (keptOps_any w11 w1.heap.size iv v cl (HI4.out w11 (HALL.out w11 G11.out).2.2.2.2.1).1 (HV.out w11 (HALL.out w11 G11.out).2.2.2.2.2).1 HN.out HLL.out).mono ?_
    rintro _ w12 ⟨rfl, hf12⟩
    have G12 : Hd (Fr (fun _ => False) w8 w12) := G11.out.trans hf12
    clear hf12 G11
    go_wp2_with fail
    refine (keptInts_any w12 w2.heap.size zv sv zs (HI4.out w12 (HALL.out w12 G12.out).2.2.2.2.1).2 (HV.out w12 (HALL.out w12 G12.out).2.2.2.2.2).2 HT.out.2).mono ?_
    rintro _ w13 ⟨rfl, hf13⟩
    have G13 : Hd (Fr (fun _ => False) w8 w13) := G12.out.trans hf13
    clear hf13 G12
    go_wp2_with fail
    obtain ⟨p1, p2, p3, p4, p5⟩ := (HALL.out w13 G13.out).1
    obtain ⟨mws, t1, t2, t3⟩ := (HALL.out w13 G13.out).2.2.2.1
    have hlv : mvs.length = ms.length := by rw [← p2]; simp
    have hlw : mws.length = ms.length := by rw [← t2]; simp
    rw [← hlv] at p1
    rw [← hlw] at t1
    have HSH : Hd (∀ x ∈ mvs, ∃ ka kn kc va vn vc, x.kv = .slice ka kn kc ∧ x.vv = .slice va vn vc) := fun x hx => (p3 x hx).shape
    have HSW : Hd (∀ x ∈ mws, ∃ ka kn kc va vn vc, x.kv = .slice ka kn kc ∧ x.vv = .slice va vn vc) := fun x hx => by
      obtain ⟨⟨ka, kc, e1, -⟩, ⟨va, vc, e2, -⟩, -⟩ := t3 x hx
      exact ⟨ka, _, kc, va, _, vc, e1, e2⟩
    have hvn : mvs.length ≤ 10000000000 := by have := HMS.out.1; omega
    have hwn : mws.length ≤ 10000000000 := by have := HMS.out.1; omega
    have PP : Hd (w13.ownsRow w3.heap.size 44 9 hv mvs.length ((mvs.map m9).flatten) ∧ (∀ x ∈ mvs, RepAt w13 O w3.heap.size x.kv x.vv x.m.rp.L) ∧ (∀ j, hv.ownBlock = some j → O j) ∧ ((mvs.map mbk).flatten).Nodup ∧ mvs.map MV.m = mws.map MV.m ∧ ∀ m ∈ mvs.map MV.m, m.rp.L.length ≤ 2147483647) := ⟨p1, p3, p4, p5, by rw [p2, t2], by rw [p2]; exact HMS.out.2⟩
    have PT : Hd (w13.ownsRow w7.heap.size 44 9 tv mws.length ((mws.map m9).flatten) ∧ ∀ x ∈ mws, RowAt w13 w13.heap.size x.kv (kCells x.m.rp.L) ∧ RowAt w13 w13.heap.size x.vv (vCells x.m.rp.L) ∧ ∀ j, (x.kv.ownBlock = some j ∨ x.vv.ownBlock = some j) → w7.heap.size ≤ j ∧ j < w13.heap.size) := ⟨t1, t3⟩
    have HLT : Hd (∀ x ∈ mvs, ∀ j, (x.kv.ownBlock = some j ∨ x.vv.ownBlock = some j) → j < w4.heap.size) := HH4.out.lists
    clear p1 p2 p3 p4 p5 t1 t2 t3 hlv hlw
    refine (replies_any w13 w3.heap.size hv mvs PP.out.1 HSH.out hvn).mono ?_
    rintro _ w14 ⟨lv, rfl, hl14, hf14⟩
    have G14 : Hd (Fr (fun _ => False) w13 w14) := hf14
    have HL14 : Hd (w14.ownsRow w13.heap.size 42 4 lv mvs.length ((mvs.map r4).flatten)) := hl14
    clear hl14 hf14
    go_wp2_with fail
    refine (replies_any w14 w7.heap.size tv mws (ownsRow_fr PT.out.1 G14.out (fun _ _ e => e)) HSW.out hwn).mono ?_
    rintro _ w15 ⟨lw, rfl, hl15, hf15⟩
    have G15 : Hd (Fr (fun _ => False) w13 w15) := G14.out.trans hf15
    have HL15 : Hd (w15.ownsRow w13.heap.size 42 4 lv mvs.length ((mvs.map r4).flatten) ∧ w15.ownsRow w14.heap.size 42 4 lw mws.length ((mws.map r4).flatten)) := ⟨ownsRow_fr HL14.out hf15 (fun _ _ e => e), hl15⟩
    have HS15 : Hd (w4.heap.size ≤ w13.heap.size ∧ w13.heap.size ≤ w14.heap.size ∧ w7.heap.size ≤ w13.heap.size ∧ w3.heap.size ≤ w15.heap.size) := by
      have s1 := HSZ.out
      have s2 := G13.out.size
      have s3 := G14.out.size
      have s4 := hf15.size
      exact ⟨by omega, by omega, by omega, by omega⟩
    clear hl15 hf15 HL14
    go_wp2_with fail
    refine (spoil_plays w15 w3.heap.size w4.heap.size w13.heap.size w14.heap.size O lv lw mvs mws HL15.out.1 HL15.out.2 PP.out.2.2.2.2.1 (fun x hx => (PP.out.2.1 x hx).keep G15.out (fun _ _ e => e.elim) (fun _ _ e => e)) PP.out.2.2.2.1 HLT.out HS15.out.1 (Nat.le_trans HS15.out.1 HS15.out.2.1) (fun x hx => by
      obtain ⟨q1, q2, q3⟩ := PT.out.2 x hx
      refine ⟨(q1.fr G15.out (Nat.le_refl _) (fun _ _ e => e)).mono G15.out.size, (q2.fr G15.out (Nat.le_refl _) (fun _ _ e => e)).mono G15.out.size, fun j hj => ?_⟩
      have := (q3 j hj).1
      have := HSZ.out
      omega) hvn PP.out.2.2.2.2.2 HS15.out.2.2.2).mono ?_
    rintro _ w16 ⟨rfl, hf16⟩
    -- only blocks of the first history have turned
    have F16 : Hd (Fr (fun j => w3.heap.size ≤ j ∧ j < w4.heap.size) w13 w16) := (G15.out.mono (fun _ _ e => e.elim)).trans (hf16.mono (fun j _ hj => ⟨owP_ge (fun x hx j hj => (RepAt.from (PP.out.2.1 x hx) hj)) hj, owP_lt HLT.out hj⟩))
    have HROW : Hd (w16.ownsRow w3.heap.size 44 9 hv mvs.length ((mvs.map m9).flatten)) := by
      refine ownsRow_fr (ownsRow_fr PP.out.1 G15.out (fun _ _ e => e)) hf16 (fun j hj e => ?_)
      have := owP_not (mvs := mvs) (g := j) (fun x hx => RepAt.free (PP.out.2.1 x hx) (PP.out.2.2.1 j hj))
      omega
    have HOB : Hd (∀ j, hv.ownBlock = some j → w3.heap.size ≤ j ∧ j < w4.heap.size) := fun j hj => by
      exact World.ownsRow.lt HH4.out.row j hj
    have HB : Hd (w3.heap.size ≤ w16.heap.size) := by
      have s1 := F16.out.size
      have s2 := HS15.out
      have s3 := HSZ.out
      unfold Hd; omega
    have HT13 : Hd (∀ W, Fr (fun j => w3.heap.size ≤ j ∧ j < w4.heap.size) w13 W → HsAt W w4.heap.size nv ms ∧ HsAt W w6.heap.size rv ms ∧ HsAt W w7.heap.size tv ms ∧ Fr (fun _ => False) w3 W ∧ Fr (fun _ => False) w0 W) := fun W f => by
      obtain ⟨-, q1, q2, q3, q4, q5⟩ := HALL.out w13 G13.out
      have s1 := HSZ.out
      have s2 := F3.out.size
      exact ⟨q1.fr f (fun j hj _ e => by omega), q2.fr f (fun j hj _ e => by omega), q3.fr f (fun j hj _ e => by omega), q4.under f (fun j hj => hj.1), q5.under f (fun j hj => by omega)⟩
    clear hf16 G14 G15 HL15 HLT PT HSH HSW PP HALL HH4 HS15
    go_wp2_with fail
    go_loopw [13, 14] (fun v13 v14 wx => ∃ k : Nat, v14 = .int .i64 k ∧ k ≤ 64 ∧ Hd (Far2 wx w3.heap.size hv v13 mvs k ∧ Fr (fun j => w3.heap.size ≤ j ∧ j < w4.heap.size) w13 wx ∧ ∀ j, v13.ownBlock = some j → (w3.heap.size ≤ j ∧ j < w4.heap.size) ∨ w13.heap.size ≤ j)) (fun _ v _ => match v with | .int _ q => 64 - q.toNat | _ => 0)
    case atStart => exact ⟨0, rfl, by omega, ⟨by simpa [fms] using HROW.out, HROW.out⟩, F16.out, fun j hj => Or.inl (HOB.out j hj)⟩
    case round =>
      have HOB2 := HOB
      clear HROW F16 HOB
      obtain ⟨k, rfl, hk, HF⟩ := hrel
      by_cases hlt : k < 64
      · have d1 : decide ((k : Int) < 64) = true := by simp; omega
        have k0 : (0 : Int) ≤ k := by omega
        have k1 : (k : Int) < 64 := by omega
        obtain ⟨q1, q2, q3⟩ := HF.out
        obtain ⟨g6, cap6, w2', hr, hF2, hf2, hat⟩ := q1.more (by have := q2.size; have := HSZ.out; have := G13.out.size; omega) hvn hlt
        have HA : Hd ((Builtin.append_ #[28, 28] 28 #[u13, .slice (some ⟨wr.heap.size, 0, none⟩) 1 1]).run Tryz.prog (wr.alloc (.cells #[vI (-5 - (k : Int)), .bool false, vI 0, vI 0, .string ⟨#[]⟩, .bool false, .string ⟨#[]⟩, .slice none 0 0, .slice none 0 0] 44)) = .ok (.slice (some ⟨g6, 0, none⟩) (mvs.length + k + 1) cap6) w2') := hr
        have HE : Hd (Far2 w2' w3.heap.size hv (.slice (some ⟨g6, 0, none⟩) (mvs.length + k + 1) cap6) mvs (k + 1) ∧ Fr (fun j => w3.heap.size ≤ j ∧ j < w4.heap.size) w13 w2' ∧ ∀ j, (Value.slice (some ⟨g6, 0, none⟩) (mvs.length + k + 1) cap6).ownBlock = some j → (w3.heap.size ≤ j ∧ j < w4.heap.size) ∨ w13.heap.size ≤ j) := by
          refine ⟨hF2, ⟨hf2.os.trans q2.os, hf2.tape.trans q2.tape, hf2.output.trans q2.output, Nat.le_trans q2.size hf2.size, fun j hj hS => ?_⟩, fun j hj => ?_⟩
          · refine (hf2.block j (Nat.lt_of_lt_of_le hj q2.size) (fun e => ?_)).trans (q2.block j hj hS)
            rcases q3 j e with e2 | e2
            · exact hS e2
            · omega
          · have ej : g6 = j := Option.some.inj hj
            rcases hat with e | e
            · exact q3 j (by rw [e, ej])
            · right; have := q2.size; omega
        clear hr hF2 hf2 hat q1 q2 q3 HF
        go_wp2_with (at_builtin; refine wpList_append_run rfl (.tmp 91) (.tmp 95) 28 rfl _ _ _ rfl rfl HA.out ?_)
        exact ⟨⟨k + 1, by simp, by omega, HE.out⟩, by simp; omega⟩
      · have d1 : decide ((k : Int) < 64) = false := by simp; omega
        have ek : k = 64 := by omega
        rw [ek] at HF
        obtain ⟨q1, q2, q3⟩ := HF.out
        obtain ⟨ha, hc, fg, fc, ehv, ev, hb, hhb, hfz⟩ := q1.fz
        obtain ⟨N, eN⟩ : ∃ N, N = mvs.length := ⟨_, rfl⟩
        have EN : Hd (N = mvs.length) := eN
        rw [← eN] at ehv ev hhb hfz hvn
        have HHB : Hd (0 < N → ha = some ⟨hb, 0, none⟩ ∧ ((w3.heap.size ≤ hb ∧ hb < w4.heap.size))) := fun hp => by
          obtain ⟨e1, e2⟩ := hhb hp
          refine ⟨e1, HOB2.out hb (by rw [ehv, e1]; rfl)⟩
        have HFZ : Hd (Fz wr hb fg N ∧ Fr (fun j => w3.heap.size ≤ j ∧ j < w4.heap.size) w13 wr) := ⟨hfz, q2⟩
        subst ehv ev
        clear q1 q2 q3 hhb hfz eN HF ek HOB2
        go_wp2_with fail
        go_loopw [15] (fun v15 wx => ∃ i : Nat, v15 = .int .i64 i ∧ i ≤ N ∧ Hd (Fz wx hb fg N ∧ Fr (fun j => w3.heap.size ≤ j ∧ j < w4.heap.size) w13 wx)) (fun v _ => match v with | .int _ q => N - q.toNat | _ => 0)
        case atStart => exact ⟨0, rfl, by omega, HFZ.out⟩
        case round =>
          clear HFZ
          obtain ⟨i, rfl, hi, HF⟩ := hrel
          by_cases hin : i < N
          · have d2 : decide ((i : Int) < (N : Int)) = true := by simp; omega
            have i0 : (0 : Int) ≤ i := by omega
            have i1 : (i : Int) < N := by omega
            obtain ⟨rfl, hbr⟩ := HHB.out (by omega)
            obtain ⟨cur, hcur, hsz⟩ := HF.out.1.old (by omega)
            have hgc : ∀ o, o < N * 9 → ∃ u, wr.cell? ⟨hb, o, none⟩ = some u := fun o ho => ⟨cur[o]'(by omega), by rw [cell_of hcur]; exact Array.getElem?_eq_getElem _⟩
            obtain ⟨u0, c0⟩ := hgc (i * 9) (by omega)
            obtain ⟨u1, c1⟩ := hgc (i * 9 + 1) (by omega)
            obtain ⟨u2, c2⟩ := hgc (i * 9 + 2) (by omega)
            obtain ⟨u3, c3⟩ := hgc (i * 9 + 3) (by omega)
            obtain ⟨u4, c4⟩ := hgc (i * 9 + 4) (by omega)
            obtain ⟨u5, c5⟩ := hgc (i * 9 + 5) (by omega)
            obtain ⟨u6, c6⟩ := hgc (i * 9 + 6) (by omega)
            obtain ⟨u7, c7⟩ := hgc (i * 9 + 7) (by omega)
            obtain ⟨u8, c8⟩ := hgc (i * 9 + 8) (by omega)
            have z0 : wr.frozen? ⟨hb, i * 9, none⟩ = false := frozen_of hcur _
            have z1 : wr.frozen? ⟨hb, i * 9 + 1, none⟩ = false := frozen_of hcur _
            have z2 : wr.frozen? ⟨hb, i * 9 + 2, none⟩ = false := frozen_of hcur _
            have z3 : wr.frozen? ⟨hb, i * 9 + 3, none⟩ = false := frozen_of hcur _
            have z4 : wr.frozen? ⟨hb, i * 9 + 4, none⟩ = false := frozen_of hcur _
            have z5 : wr.frozen? ⟨hb, i * 9 + 5, none⟩ = false := frozen_of hcur _
            have z6 : wr.frozen? ⟨hb, i * 9 + 6, none⟩ = false := frozen_of hcur _
            have z7 : wr.frozen? ⟨hb, i * 9 + 7, none⟩ = false := frozen_of hcur _
            have z8 : wr.frozen? ⟨hb, i * 9 + 8, none⟩ = false := frozen_of hcur _
            have HE : Hd (∀ (x0 x1 x2 x3 x4 x5 x6 x7 x8 : Value), Fz (((((((((wr.setCell ⟨hb, i * 9, none⟩ x0).setCell ⟨hb, i * 9 + 1, none⟩ x1).setCell ⟨hb, i * 9 + 2, none⟩ x2).setCell ⟨hb, i * 9 + 3, none⟩ x3).setCell ⟨hb, i * 9 + 4, none⟩ x4).setCell ⟨hb, i * 9 + 5, none⟩ x5).setCell ⟨hb, i * 9 + 6, none⟩ x6).setCell ⟨hb, i * 9 + 7, none⟩ x7).setCell ⟨hb, i * 9 + 8, none⟩ x8) hb fg N ∧ Fr (fun j => w3.heap.size ≤ j ∧ j < w4.heap.size) w13 (((((((((wr.setCell ⟨hb, i * 9, none⟩ x0).setCell ⟨hb, i * 9 + 1, none⟩ x1).setCell ⟨hb, i * 9 + 2, none⟩ x2).setCell ⟨hb, i * 9 + 3, none⟩ x3).setCell ⟨hb, i * 9 + 4, none⟩ x4).setCell ⟨hb, i * 9 + 5, none⟩ x5).setCell ⟨hb, i * 9 + 6, none⟩ x6).setCell ⟨hb, i * 9 + 7, none⟩ x7).setCell ⟨hb, i * 9 + 8, none⟩ x8)) := fun x0 x1 x2 x3 x4 x5 x6 x7 x8 =>
              ⟨((((((((HF.out.1.set (by omega) x0).set (by omega) x1).set (by omega) x2).set (by omega) x3).set (by omega) x4).set (by omega) x5).set (by omega) x6).set (by omega) x7).set (by omega) x8,
               ((((((((HF.out.2.setCell ⟨hb, i * 9, none⟩ x0 (Or.inl hbr)).setCell ⟨hb, i * 9 + 1, none⟩ x1 (Or.inl hbr)).setCell ⟨hb, i * 9 + 2, none⟩ x2 (Or.inl hbr)).setCell ⟨hb, i * 9 + 3, none⟩ x3 (Or.inl hbr)).setCell ⟨hb, i * 9 + 4, none⟩ x4 (Or.inl hbr)).setCell ⟨hb, i * 9 + 5, none⟩ x5 (Or.inl hbr)).setCell ⟨hb, i * 9 + 6, none⟩ x6 (Or.inl hbr)).setCell ⟨hb, i * 9 + 7, none⟩ x7 (Or.inl hbr)).setCell ⟨hb, i * 9 + 8, none⟩ x8 (Or.inl hbr)⟩
            clear hgc hcur hsz HF
            go_wp2_with fail
            exact ⟨⟨i + 1, by simp, by omega, HE.out _ _ _ _ _ _ _ _ _⟩, by simp; omega⟩
          · have d2 : decide ((i : Int) < (N : Int)) = false := by simp; omega
            have d2n : ¬ i < N := hin
            have HF1 := HF
            clear HF hin
            go_wp2_with fail
            go_loopw [16] (fun v16 wx => ∃ k : Nat, v16 = .int .i64 k ∧ k ≤ 64 ∧ Hd (Fz wx hb fg N ∧ Fr (fun j => w3.heap.size ≤ j ∧ j < w4.heap.size) w13 wx)) (fun v _ => match v with | .int _ q => 64 - q.toNat | _ => 0)
            case atStart => exact ⟨0, rfl, by omega, HF1.out⟩
            case round =>
              clear HF1
              obtain ⟨k2, rfl, hk2, HF⟩ := hrel
              by_cases hk64 : k2 < 64
              · have d3 : decide ((k2 : Int) < 64) = true := by simp; omega
                have k20 : (0 : Int) ≤ k2 := by omega
                have k21 : (k2 : Int) < 64 := by omega
                obtain ⟨fcur, hfc, hfk⟩ := HF.out.1.far
                have cm : wr.cell? ⟨fg, (N + k2) * 9, none⟩ = some (vI (-5 - (k2 : Int))) := by rw [cell_of hfc]; exact hfk k2 hk64
                have x0 : (0 : Int) ≤ (N : Int) + (k2 : Int) := by omega
                have x1 : (N : Int) + (k2 : Int) < ((N + 64 : Nat) : Int) := by omega
                clear hfc hfk
                go_wp2_with fail
                exact ⟨⟨k2 + 1, by simp, by omega, HF.out⟩, by simp; omega⟩
              · have d3 : decide ((k2 : Int) < 64) = false := by simp; omega
                have HF1 : Hd (Fr (fun j => w3.heap.size ≤ j ∧ j < w4.heap.size) w13 wr) := HF.out.2
                clear HF hk64
                go_wp2_with fail
                refine (HEQ.out wr _ _ nv tv (HT13.out wr HF1.out).1 (HT13.out wr HF1.out).2.2.1).mono ?_
                rintro _ w20 ⟨rfl, hf20⟩
                have HF20 : Hd (Fr (fun j => w3.heap.size ≤ j ∧ j < w4.heap.size) w13 w20) := HF1.out.trans (hf20.mono (fun _ _ e => e.elim))
                clear hf20 HF1
                go_wp2_with fail
                refine (HEQ.out w20 _ _ rv tv (HT13.out w20 HF20.out).2.1 (HT13.out w20 HF20.out).2.2.1).mono ?_
                rintro _ w21 ⟨rfl, hf21⟩
                have HF21 : Hd (Fr (fun j => w3.heap.size ≤ j ∧ j < w4.heap.size) w13 w21) := HF20.out.trans (hf21.mono (fun _ _ e => e.elim))
                clear hf21 HF20
                obtain ⟨-, -, -, g3, g0⟩ := HT13.out w21 HF21.out
                obtain ⟨G, cap, gz, zc, gi, ci, eiv, ezv, hci, hgz, hko⟩ := ko_start (HI4.out w21 g3).1 HK.out (HI4.out w21 g3).2
                obtain ⟨n, en⟩ : ∃ n, n = cl.length := ⟨_, rfl⟩
                have ECN : Hd (n = cl.length) := en
                obtain ⟨zn, ezn⟩ : ∃ zn, zn = zs.length := ⟨_, rfl⟩
                have EZN : Hd (zn = zs.length) := ezn
                obtain ⟨len, elen⟩ : ∃ len : Nat → Nat, len = fun i => (cl.getD i []).length := ⟨_, rfl⟩
                have ELEN : Hd (len = fun i => (cl.getD i []).length) := elen
                have elen' : ∀ i, (cl.getD i []).length = len i := fun i => by rw [elen]
                rw [← elen, ← en, ← ezn] at hko
                rw [← en] at eiv hci
                rw [← ezn] at ezv
                have HCI : Hd (∀ i, i < n → len i ≤ ci i ∧ w1.heap.size ≤ gi i) := fun i hi => by rw [← elen' i]; exact hci i hi
                have HW01 : Hd (w0.heap.size ≤ w1.heap.size ∧ w0.heap.size ≤ gz ∧ n ≤ 2147483647 ∧ zn ≤ 2147483647) := by
                  have s1 := F1S.out
                  have s2 := HN.out
                  have s3 := HT.out.2
                  exact ⟨s1.1, by omega, by omega, by omega⟩
                have HLN : Hd (∀ i, i < n → len i ≤ 2147483647) := fun i hi => by
                  rw [← elen' i, getD_at (by omega)]
                  exact HLL.out _ (List.getElem_mem _)
                have HK0 : Hd (Ko w21 G gz n zn gi len ci ∧ Fr (fun _ => False) w0 w21) := ⟨hko, g0⟩
                subst eiv ezv
                clear g3 g0 hko hci hgz en ezn elen elen' HF21 HT13 HI4 HEQ HV
                go_wp2_with fail
                go_loopw [17, 18] (fun v17 _ wx => ∃ i : Nat, v17 = .int .i64 i ∧ i ≤ n ∧ Hd (Ko wx G gz n zn gi len ci ∧ Fr (fun _ => False) w0 wx)) (fun v _ _ => match v with | .int _ q => n - q.toNat | _ => 0)
                case atStart => exact ⟨0, rfl, by omega, HK0.out⟩
                case round =>
                  clear HK0
                  obtain ⟨i2, rfl, hi2, HF⟩ := hrel
                  have hn31 : n ≤ 2147483647 := HW01.out.2.2.1
                  by_cases hin2 : i2 < n
                  · have d4 : decide ((i2 : Int) < (n : Int)) = true := by simp; omega
                    have j0 : (0 : Int) ≤ i2 := by omega
                    have j1 : (i2 : Int) < n := by omega
                    obtain ⟨gg, egg⟩ : ∃ gg, gg = gi i2 := ⟨_, rfl⟩
                    have EGG : Hd (gg = gi i2) := egg
                    obtain ⟨ll, ell⟩ : ∃ ll, ll = len i2 := ⟨_, rfl⟩
                    have ELL : Hd (ll = len i2) := ell
                    obtain ⟨cc, ecc⟩ : ∃ cc, cc = ci i2 := ⟨_, rfl⟩
                    have hll31 : ll ≤ 2147483647 := by rw [ell]; exact HLN.out i2 hin2
                    have HROWG : Hd (∀ W, Ko W G gz n zn gi len ci → W.cell? ⟨G, i2, none⟩ = some (.slice (some ⟨gg, 0, none⟩) ll cc)) := fun W hW => by
                      obtain ⟨cur, h1, h2⟩ := hW.row
                      rw [cell_of h1, egg, ell, ecc]
                      exact h2 i2 hin2
                    clear egg ell ecc
                    go_wp2_with fail
                    go_loopw [18] (fun v18 wx => ∃ q : Nat, v18 = .int .i64 q ∧ q ≤ ll ∧ Hd (Ko wx G gz n zn gi len ci ∧ Fr (fun _ => False) w0 wx)) (fun v _ => match v with | .int _ q => ll - q.toNat | _ => 0)
                    case atStart => exact ⟨0, rfl, by omega, HF.out⟩
                    case round =>
                      clear HF
                      obtain ⟨q, rfl, hq, HF⟩ := hrel
                      have cG := HROWG.out wr HF.out.1
                      by_cases hql : q < ll
                      · have d5 : decide ((q : Int) < (ll : Int)) = true := by simp; omega
                        have q0 : (0 : Int) ≤ q := by omega
                        have q1 : (q : Int) < ll := by omega
                        have HS1 : Hd (∀ W X, Ko W G gz n zn gi len ci → Fr (fun _ => False) w0 W → In64 X → Ko (W.setCell ⟨gg, q * 3 + 1, none⟩ (vI X)) G gz n zn gi len ci ∧ Fr (fun _ => False) w0 (W.setCell ⟨gg, q * 3 + 1, none⟩ (vI X))) := fun W X hW hf hX => by
                          rw [EGG.out]
                          exact ⟨hW.setOp hin2 (by rw [← ELL.out]; exact hql) (Or.inr rfl) X (fun _ => hX), hf.setCell _ _ (Or.inr (by have := (HCI.out i2 hin2).2; have := HW01.out.1; show w0.heap.size ≤ gi i2; omega))⟩
                        have HS0 : Hd (∀ W X, Ko W G gz n zn gi len ci → Fr (fun _ => False) w0 W → Ko (W.setCell ⟨gg, q * 3, none⟩ (vI X)) G gz n zn gi len ci ∧ Fr (fun _ => False) w0 (W.setCell ⟨gg, q * 3, none⟩ (vI X))) := fun W X hW hf => by
                          rw [EGG.out]
                          exact ⟨hW.setOp (e := 0) hin2 (by rw [← ELL.out]; exact hql) (Or.inl rfl) X (fun e => by omega), hf.setCell _ _ (Or.inr (by have := (HCI.out i2 hin2).2; have := HW01.out.1; show w0.heap.size ≤ gi i2; omega))⟩
                        have HOPC : Hd (∀ W, Ko W G gz n zn gi len ci → ∃ a b, W.cell? ⟨gg, q * 3, none⟩ = some (vI a) ∧ W.cell? ⟨gg, q * 3 + 1, none⟩ = some (vI b) ∧ W.frozen? ⟨gg, q * 3, none⟩ = false ∧ W.frozen? ⟨gg, q * 3 + 1, none⟩ = false) := fun W hW => by
                          obtain ⟨cs, h1, h2⟩ := hW.blk i2 hin2
                          obtain ⟨a, b, x, p0, p1, -, -⟩ := h2 q (by rw [← ELL.out]; exact hql)
                          rw [EGG.out]
                          exact ⟨a, b, by rw [cell_of h1]; exact p0, by rw [cell_of h1]; exact p1, frozen_of h1 _, frozen_of h1 _⟩
                        obtain ⟨a, b, ca, cb, za, zb⟩ := HOPC.out wr HF.out.1
                        have cGd : wr.drew.cell? ⟨G, i2, none⟩ = some (.slice (some ⟨gg, 0, none⟩) ll cc) := cG
                        have cad : wr.drew.cell? ⟨gg, q * 3, none⟩ = some (vI a) := ca
                        have cbd : wr.drew.cell? ⟨gg, q * 3 + 1, none⟩ = some (vI b) := cb
                        have zad : wr.drew.frozen? ⟨gg, q * 3, none⟩ = false := za
                        have zbd : wr.drew.frozen? ⟨gg, q * 3 + 1, none⟩ = false := zb
                        have HW1 : Hd (Ko ((wr.setCell ⟨gg, q * 3 + 1, none⟩ (vI (wrap64 (b + 1)))).drew) G gz n zn gi len ci ∧ Fr (fun _ => False) w0 ((wr.setCell ⟨gg, q * 3 + 1, none⟩ (vI (wrap64 (b + 1)))).drew)) := by
                          have h1 := HS1.out wr (wrap64 (b + 1)) HF.out.1 HF.out.2 (wrap64_in _)
                          exact ⟨h1.1.drew, h1.2.drew⟩
                        go_upto_region 37 with fail
                        refine wp_region_still_tail 16 mixed (by kernel_rfl) ?_
                        simp only [List.take_succ_cons, List.take_zero, List.drop_succ_cons, List.drop_zero]
                        repeat still_step
                        refine wpStill_nil ?_
                        go_upto_region 38 with fail
                        generalize (wr.setCell ⟨gg, q * 3 + 1, none⟩ (vI (wrap64 (b + 1)))).drew = W1 at *
                        clear ca cb za zb cad cbd zad zbd cGd cG
                        have cG := HROWG.out W1 HW1.out.1
                        obtain ⟨a2, b2, ca, cb, za, zb⟩ := HOPC.out W1 HW1.out.1
                        have cGd : W1.drew.cell? ⟨G, i2, none⟩ = some (.slice (some ⟨gg, 0, none⟩) ll cc) := cG
                        have cad : W1.drew.cell? ⟨gg, q * 3, none⟩ = some (vI a2) := ca
                        have zad : W1.drew.frozen? ⟨gg, q * 3, none⟩ = false := za
                        have HW2 : Hd (∀ X, Ko ((W1.setCell ⟨gg, q * 3, none⟩ (vI X)).drew) G gz n zn gi len ci ∧ Fr (fun _ => False) w0 ((W1.setCell ⟨gg, q * 3, none⟩ (vI X)).drew)) := fun X => by
                          have h1 := HS0.out W1 X HW1.out.1 HW1.out.2
                          exact ⟨h1.1.drew, h1.2.drew⟩
                        clear HF HW1 HS1 HS0 HOPC
                        refine wp_region_still_tail 17 mixed (by kernel_rfl) ?_
                        simp only [List.take_succ_cons, List.take_zero, List.drop_succ_cons, List.drop_zero]
                        repeat still_step
                        refine wpStill_nil ?_
                        go_wp2_with fail
                        exact ⟨⟨q + 1, by simp, by omega, HW2.out _⟩, by simp; omega⟩
                      · have d5 : decide ((q : Int) < (ll : Int)) = false := by simp; omega
                        have d5n : ¬ q < ll := hql
                        go_wp2_with fail
                        exact ⟨⟨i2 + 1, by simp, by omega, HF.out⟩, by simp; omega⟩
                  · have d4 : decide ((i2 : Int) < (n : Int)) = false := by simp; omega
                    have d4n : ¬ i2 < n := hin2
                    have HF1 := HF
                    have hz31 : zn ≤ 2147483647 := HW01.out.2.2.2
                    clear HF hin2
                    go_wp2_with fail
                    go_loopw [19] (fun v19 wx => ∃ k : Nat, v19 = .int .i64 k ∧ k ≤ zn ∧ Hd (Ko wx G gz n zn gi len ci ∧ Fr (fun _ => False) w0 wx)) (fun v _ => match v with | .int _ q => zn - q.toNat | _ => 0)
                    case atStart => exact ⟨0, rfl, by omega, HF1.out⟩
                    case round =>
                      clear HF1
                      obtain ⟨k3, rfl, hk3, HF⟩ := hrel
                      by_cases hkz : k3 < zn
                      · have d5 : decide ((k3 : Int) < (zn : Int)) = true := by simp; omega
                        have k30 : (0 : Int) ≤ k3 := by omega
                        have k31 : (k3 : Int) < zn := by omega
                        obtain ⟨cz, h1, h2⟩ := HF.out.1.zs
                        obtain ⟨z, hz⟩ := h2 k3 hkz
                        have cq : wr.cell? ⟨gz, k3, none⟩ = some (vI z) := by rw [cell_of h1]; exact hz
                        have zq : wr.frozen? ⟨gz, k3, none⟩ = false := frozen_of h1 _
                        have HE : Hd (∀ X, Ko (wr.setCell ⟨gz, k3, none⟩ (vI X)) G gz n zn gi len ci ∧ Fr (fun _ => False) w0 (wr.setCell ⟨gz, k3, none⟩ (vI X))) := fun X => ⟨HF.out.1.setInt k3 X, HF.out.2.setCell _ _ (Or.inr (by have := HW01.out.2.1; show w0.heap.size ≤ gz; omega))⟩
                        clear h1 h2 hz HF
                        go_wp2_with fail
                        exact ⟨⟨k3 + 1, by simp, by omega, HE.out _⟩, by simp; omega⟩
                      · have d5 : decide ((k3 : Int) < (zn : Int)) = false := by simp; omega
                        have d5n : ¬ k3 < zn := hkz
                        obtain ⟨cl', ecl⟩ : ∃ cl', cl' = clAt wr n gi len := ⟨_, rfl⟩
                        obtain ⟨zs', ezs⟩ : ∃ zs', zs' = (List.range zn).map (zAt wr gz) := ⟨_, rfl⟩
                        have hcl' : total cl' ≤ 2147483647 := by
                          rw [ecl, ELEN.out, ECN.out, clAt_total]
                          exact HT.out.1
                        have hzs' : zs'.length ≤ 2147483647 := by rw [ezs]; simp; exact hz31
                        have hke' : ∀ l ∈ cl', ∀ o ∈ l, In64 o.2.1 := by rw [ecl]; exact HF.out.1.keys
                        have hc0 : ClsAt wr wr.heap.size (.slice (some ⟨G, 0, none⟩) n cap) cl' := by rw [ecl]; exact HF.out.1.cls cap (fun i hi => (HCI.out i hi).1)
                        have hz0 : IntsAt wr wr.heap.size (.slice (some ⟨gz, 0, none⟩) zn zc) zs' := by rw [ezs]; exact HF.out.1.ints zc
                        obtain ⟨ms', hm1, hm2, hp8, hp9⟩ := plays_same cl' zs' hcl' hzs' hke'
                        have HP8 : Hd (∀ (w : World) (v sv : Value), ClsAt w w.heap.size v cl' → IntsAt w w.heap.size sv zs' → Calls Tryz.prog 8 #[v, sv] w fun e w' => ∃ mv, e = .returned mv ∧ MomsAp w' w.heap.size mv ms' ∧ Fr (fun _ => False) w w') := hp8
                        have HP9 : Hd (∀ (w : World) (v sv : Value), ClsAt w w.heap.size v cl' → IntsAt w w.heap.size sv zs' → Calls Tryz.prog 9 #[v, sv] w fun e w' => ∃ mv, e = .returned mv ∧ HsAt w' w.heap.size mv ms' ∧ Fr (fun _ => False) w w') := hp9
                        have HEQ2 : Hd (∀ (W : World) (B1 B2 : Nat) (v1 v2 : Value), HsAt W B1 v1 ms' → HsAt W B2 v2 ms' → Calls Tryz.prog 10 #[v1, v2] W fun e w' => e = .returned (.bool true) ∧ Fr (fun _ => False) W w') := fun W B1 B2 v1 v2 q1 q2 => eqHist_same W B1 B2 v1 v2 ms' q1 q2 (by omega) (fun m hm => by have := hm2 m hm; omega)
                        have HCP := copies_any _ cl' wr hc0 (tot_le hcl').2 (fun l hl => Nat.le_trans (total_len hl) hcl')
                        have HIN2 : Hd (∀ W, Fr (fun _ => False) wr W → ClsAt W W.heap.size (.slice (some ⟨G, 0, none⟩) n cap) cl' ∧ IntsAt W W.heap.size (.slice (some ⟨gz, 0, none⟩) zn zc) zs') := fun W f => ⟨(hc0.fr f (Nat.le_refl _) (fun _ _ e => e)).mono f.size, (hz0.fr f (Nat.le_refl _) (fun _ _ e => e)).mono f.size⟩
                        have HZL : Hd (zs'.length ≤ 2147483647) := hzs'
                        have HFW : Hd (Fr (fun _ => False) w0 wr) := HF.out.2
                        clear HF ecl ezs hcl' hzs' hke' hc0 hz0 hm1 hm2 hp8 hp9 hkz HCI HLN HW01
                        go_wp2_with fail
                        refine HCP.mono ?_
                        rintro _ w30 ⟨ov, rfl, ho30, hf30⟩
                        have K30 : Hd (Fr (fun _ => False) wr w30) := hf30
                        have HOV : Hd (∀ W, Fr (fun _ => False) w30 W → ClsAt W W.heap.size ov cl') := fun W f => (ho30.fr f (Nat.le_refl _) (fun _ _ e => e)).mono f.size
                        clear ho30 hf30 HCP
                        go_wp2_with fail
                        refine (copyInts_any _ zs' w30.heap.size w30 (ints_row (HIN2.out w30 K30.out).2) (Nat.le_refl _) (by have := HZL.out; omega)).mono ?_
                        rintro _ w31 ⟨pv, rfl, hp31, hf31⟩
                        have K31 : Hd (Fr (fun _ => False) w30 w31) := hf31
                        have HPV : Hd (∀ W, Fr (fun _ => False) w31 W → IntsAt W W.heap.size pv zs') := fun W f => row_ints (((RowAt.own hp31).fr f (Nat.le_refl _) (fun _ _ e => e)).mono f.size)
                        clear hp31 hf31
                        go_wp2_with fail
                        refine (HP8.out w31 _ _ (HIN2.out w31 (K30.out.trans K31.out)).1 (HIN2.out w31 (K30.out.trans K31.out)).2).mono ?_
                        rintro _ w32 ⟨hv2, rfl, hh32, hf32⟩
                        have K32 : Hd (Fr (fun _ => False) w31 w32) := hf32
                        have HH2 : Hd (∀ W, Fr (fun _ => False) w32 W → HsAt W w31.heap.size hv2 ms') := fun W f => hh32.at.hs.fr f (fun _ _ _ e => e)
                        clear hh32 hf32
                        go_wp2_with fail
                        refine (HP9.out w32 ov pv (HOV.out w32 (K31.out.trans K32.out)) (HPV.out w32 K32.out)).mono ?_
                        rintro _ w33 ⟨tv2, rfl, hh33, hf33⟩
                        have K33 : Hd (Fr (fun _ => False) w32 w33) := hf33
                        have HT2 : Hd (HsAt w33 w32.heap.size tv2 ms') := hh33
                        clear hh33 hf33
                        go_wp2_with fail
                        refine (HEQ2.out w33 _ _ hv2 tv2 (HH2.out w33 K33.out) HT2.out).mono ?_
                        rintro _ w34 ⟨rfl, hf34⟩
                        have HEND : Hd (Fr (fun _ => False) w0 w34) := ((((HFW.out.trans K30.out).trans K31.out).trans K32.out).trans K33.out).trans hf34
                        clear hf34
                        go_wp2_with fail
                        go_ret
                        exact ⟨rfl, HEND.out⟩
end Go.Proofs.YtngbakjalmgciaaGreat
