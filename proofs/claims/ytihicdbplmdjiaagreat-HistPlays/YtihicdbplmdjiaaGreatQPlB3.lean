import Derived.Test.YtihicdbplmdjiaaGreatQPlB1J
import Derived.Deep.SlicePairs
import Derived.Deep.AppendLies
import Derived.Deep.RegionLaw
set_option linter.unusedVariables false
set_option linter.unusedSimpArgs false
namespace Go.Proofs.YtihicdbplmdjiaaGreat.Pl
open Go.RowKit (wrap32 wrap64)
open Go.MuLone
open Go.Maps (Keyed)

theorem info90 : (Tryz.prog.info? 141).map (fun i => (i.zero, i.size, i.bytes)) = some (some (.agg #[vI 0, .string ⟨#[]⟩]), 2, 24) := by kernel_rfl
theorem under86 : Tryz.prog.underlying 137 = some (.slice 141) := by kernel_rfl

theorem Fr.anew {S : Nat → Prop} {w a b : World} (h : Fr (fun _ => False) w a) (k : Fr S a b) (hs : ∀ j, j < w.heap.size → ¬ S j) : Fr (fun _ => False) w b :=
  ⟨k.os.trans h.os, k.tape.trans h.tape, k.output.trans h.output, Nat.le_trans h.size k.size, fun j hj _ => (k.block j (Nat.lt_of_lt_of_le hj h.size) (hs j hj)).trans (h.block j hj (fun h => h))⟩

/-- The table's own block as it was; nothing else of it has turned. -/
theorem Tb.cellsame {w w' : World} {b : Nat} {g : Gh} {N : Nat} {a : Ab} (h : Tb w b g N a) (f : Fr (fun j => j = b) w w') (hc : ∀ o, w'.cell? ⟨b, o, none⟩ = w.cell? ⟨b, o, none⟩) (hz : ∀ o, w'.frozen? ⟨b, o, none⟩ = false) : Tb w' b g N a where
  lock := fun i hi => (hc _).trans (h.lock i hi)
  map := fun i hi => (hc _).trans (h.map i hi)
  frz := hz
  own1 := h.own1
  own2 := h.own2
  ownE := h.ownE
  inj := h.inj
  lt := fun j hj => Nat.lt_of_lt_of_le (h.lt j hj) f.size
  maps := fun i hi => ownsMap_fr (h.maps i hi) f (by intro e; have h1 := h.own1; have h2 := h.own2 i hi; rw [e] at h2; omega)
  wf := h.wf
  has := h.has
  atk := h.atk
  ent := fun k v hk => by
    have h2 := h.ownE k v hk
    rw [f.block _ (h.lt _ (by rw [h2]; decide)) (by intro e; rw [e, h.own1] at h2; omega)]
    exact h.ent k v hk

set_option maxRecDepth 100000 in
set_option maxHeartbeats 4000000 in
theorem all_any (b : Nat) (g : Gh) (N : Nat) (a : Ab) (w : World) (h : Tb w b g N a) (hN : N ≤ 100000000000) :
    Calls Tryz.prog 73 #[.pointer (some ⟨b, 0, none⟩)] w fun e w' => ∃ v L, e = .returned v ∧ OwnP w' w.heap.size v L ∧ LL a L (fun _ => True) ∧ L.length ≤ N * 8 ∧ Tb w' b g N a ∧ Fr (fun j => j = b) w w' := by
  obtain ⟨i90, hi90, hz90, hs90, hb90⟩ := info_parts info90
  obtain ⟨w1, ew1⟩ : ∃ w1, w1 = lkW w b 1 8 := ⟨_, rfl⟩
  have HT : Hd (Tb w b g N a) := h
  have HC : Hd (∀ o, w1.cell? ⟨b, o, none⟩ = if o % 3 = 0 ∧ o < 3 * 8 then some (.int .i32 1) else w.cell? ⟨b, o, none⟩) := by
    show ∀ o, _
    rw [ew1]; exact lkW_cell w b 1 (fun i hi => ⟨0, h.lock i hi⟩) 8 (Nat.le_refl _)
  have HFZ : Hd (∀ o, w1.frozen? ⟨b, o, none⟩ = false) := by show ∀ o, _; intro o; rw [ew1, lkW_frozen]; exact h.frz o
  have HF1 : Hd (Fr (fun j => j = b) w w1) := by show Fr _ _ _; rw [ew1]; exact lkW_fr w b 1 8
  have hlk := lock_any b w h.lock h.frz
  rw [← ew1] at hlk
  have hN' : Hd (N ≤ 100000000000) := hN
  have HS : Hd (w1.heap.size = w.heap.size) := by
    show _ = _
    rw [ew1]
    have : ∀ k, (lkW w b 1 k).heap.size = w.heap.size := fun k => by
      induction k with
      | zero => rfl
      | succ k ih => show ((lkW w b 1 k).setCell _ _).heap.size = _; simpa using ih
    exact this 8
  clear h ew1 hN
  go_enter_defers Tryz.func73, Tryz.ntmps73
  go_wp2_with (go_at_call 83; refine hlk.mono ?_; rintro _ wq ⟨rfl, rfl⟩)
  clear hlk
  go_loopw [3, 12] (fun v3 v wr => ∃ (i : Nat) (L : List Kv), v = .int .i64 i ∧ i ≤ 8 ∧ Hd (OwnP wr w.heap.size v3 L ∧ LL a L (fun k => strp k < i) ∧ L.length ≤ N * i ∧ Fr (fun _ => False) wq wr)) (fun _ v _ => match v with | .int _ q => 8 - q.toNat | _ => 0)
  case atStart => exact ⟨0, [], rfl, by omega, OwnP.nil _ _, (LL.nil a).congr (fun k v _ => by constructor; intro h; cases h; intro h; omega), by simp, Fr.refl _ _⟩
  case round =>
    obtain ⟨i, L, rfl, hi, HM⟩ := hrel
    by_cases hlt : i < 8
    · obtain ⟨hO, hL, hLn, hF⟩ := HM.out
      have hbl : b < wq.heap.size := by rw [HS.out]; exact HT.out.blt
      have c2 : wr.cell? ⟨b, i * 3 + 2, none⟩ = some (.map (some (g.mb i))) := by
        rw [hF.cell hbl (fun h => h), HC.out, if_neg (by omega), Nat.mul_comm]; exact HT.out.map i hlt
      have hmb := HT.out.own2 i hlt
      have hmne : g.mb i ≠ b := by intro e; have h1 := HT.out.own1; rw [e] at hmb; omega
      have hml : g.mb i < w.heap.size := HT.out.lt _ (by omega)
      have hown : wr.ownsMap Tryz.prog 3 Rp (g.mb i) N (g.D i) := ownsMap_fr (ownsMap_fr (HT.out.maps i hlt) HF1.out hmne) hF (fun h => h)
      have HMB : Hd (g.mb i < w.heap.size ∧ g.mb i ≠ b) := ⟨hml, hmne⟩
      have HO : Hd (OwnP wr w.heap.size u3 L) := hO
      have HL : Hd (LL a L (fun k => strp k < i)) := hL
      have HLn : Hd (L.length ≤ N * i) := hLn
      have HF : Hd (Fr (fun _ => False) wq wr) := hF
      have hk3 : (i : Int) < 8 := by omega
      have hk0 : (0 : Int) ≤ i := by omega
      clear HM hO hL hLn hF hmb hmne hml hbl
      go_wp2_with (first
        | (at_range; refine wpList_range_own _ rfl _ 110 rfl 3 126 keyed3 under77 _ (g.mb i) N (g.D i) rfl hown ?_; intro w0 hrg0 hg0 hs0))
      go_frame
      obtain ⟨r, er⟩ : ∃ r, r = wr.heap.size := ⟨_, rfl⟩
      rw [← er] at hrg0 hs0 ⊢
      have HO0 : Hd (OwnP w0 w.heap.size u3 L) := HO.out.fr (grown_fr hg0) (fun g _ h => by cases h)
      have HF0 : Hd (Fr (fun _ => False) wq w0) := HF.out.anew (grown_fr hg0) (fun j _ h => by cases h)
      have HR0 : Hd (u3.ownBlock ≠ some r ∧ w.heap.size ≤ r ∧ r < w0.heap.size) := ⟨fun e => by have := (HO.out.ge r e).2; omega, by have := HF.out.size; have := HS.out; omega, by omega⟩
      have HRG : Hd (w0.ranges Tryz.prog 3 Rp (g.mb i) r N (g.D i) (Maps.has (g.D i)) (Maps.size (g.D i))) := hrg0
      have HSZ : Hd (Maps.size (g.D i) ≤ N) := hown.size_le
      have hi1 : Hd (i < 8) := hlt
      have hmi : Hd (N * (i + 1) = N * i + N) := Nat.mul_succ N i
      clear hrg0 hg0 hs0 er HO HF c2 hown
      go_loopw [3] (fun v3 wr => ∃ (left : Lit → Bool) (cnt : Nat) (L' : List Kv), Hd (wr.ranges Tryz.prog 3 Rp (g.mb i) r N (g.D i) left cnt ∧ (∀ kl, left kl = true → Maps.has (g.D i) kl = true) ∧ OwnP wr w.heap.size v3 L' ∧ v3.ownBlock ≠ some r ∧ LL a L' (fun k => strp k < i ∨ (strp k = i ∧ left (.int .i64 k) = false)) ∧ L'.length + cnt ≤ N * i + N ∧ Fr (fun _ => False) wq wr ∧ w.heap.size ≤ r ∧ r < wr.heap.size)) (fun _ wr => wr.rangeLeft (g.mb i) r)
      case atStart =>
        refine ⟨_, _, L, HRG.out, fun _ h => h, HO0.out, HR0.out.1, HL.out.congr (fun k v hv => ?_), by have := HLn.out; have := HSZ.out; omega, HF0.out, HR0.out.2⟩
        constructor
        · exact Or.inl
        · rintro (h | ⟨h1, h2⟩)
          · exact h
          · rw [HT.out.has i k hi1.out (HT.out.wf k v hv), h1, hv] at h2
            simp at h2
      case round =>
        obtain ⟨left, cnt, L', HM⟩ := hrel
        obtain ⟨hrg, hlf, hO, hne, hLL, hLn, hF, hr1, hr2⟩ := HM.out
        clear HM
        have HO : Hd (OwnP wr w.heap.size u3 L') := hO
        have HLL : Hd (LL a L' (fun k => strp k < i ∨ (strp k = i ∧ left (.int .i64 k) = false))) := hLL
        have HX : Hd (u3.ownBlock ≠ some r ∧ L'.length + cnt ≤ N * i + N ∧ Fr (fun _ => False) wq wr ∧ w.heap.size ≤ r ∧ r < wr.heap.size) := ⟨hne, hLn, hF, hr1, hr2⟩
        have HLF : Hd (∀ kl, left kl = true → Maps.has (g.D i) kl = true) := hlf
        clear hO hne hLL hLn hF hr1 hr2 hlf HO0 HF0 HR0 HRG HL HLn HSZ
        go_wp2_with (first
          | (at_next; refine wpList_next_tab _ HT.out i hi1.out rfl _ rfl r left cnt HLF.out rfl hrg ?_ ?_))
        · intro hc0 hl0
          have hend : Hd (OwnP wr w.heap.size u3 L' ∧ LL a L' (fun k => strp k < i + 1) ∧ L'.length ≤ N * (i + 1) ∧ Fr (fun _ => False) wq wr) := by
            refine ⟨HO.out, HLL.out.congr (fun k v hv => ?_), by have := HX.out.2.1; have := hmi.out; omega, HX.out.2.2.1⟩
            constructor
            · rintro (h | ⟨h, -⟩) <;> omega
            · intro h
              by_cases e : strp k < i
              · exact Or.inl e
              · exact Or.inr ⟨by omega, hl0 _⟩
          clear hrg HO HLL HX HLF hc0 hl0
          go_wp2_with fail
          refine ⟨⟨i + 1, L', by simp, by omega, hend⟩, by simp; omega⟩
        · intro x v w3 cnt1 hxv hsx hlx hrg1 hlt1 hg1 hs1 hen
          have hE := HT.out.ownE x v hxv
          have hEl := HT.out.lt (g.eb x) (by omega)
          have hent : w3.heap[g.eb x]? = some (.cells #[.string v, .int .u32 1] 135) := by
            rw [hg1.block _ (by have := HX.out.2.2.2.2; have := HX.out.2.2.2.1; omega) (by intro e; have := Option.some.inj e; have := HX.out.2.2.2.1; omega), HX.out.2.2.1.block _ (by rw [HS.out]; exact hEl) (fun h => h), HF1.out.block _ hEl (by intro e; rw [e, HT.out.own1] at hE; omega)]
            exact HT.out.ent x v hxv
          have HO1 : Hd (OwnP w3 w.heap.size u3 L') := HO.out.fr (grown_fr hg1) (fun g' hg' e => HX.out.1 (hg'.trans e.symm))
          have HF3 : Hd (Fr (fun _ => False) wq w3) := HX.out.2.2.1.anew (grown_fr hg1) (fun j hj e => by have := Option.some.inj e; have := HX.out.2.2.2.1; have := HS.out; omega)
          have HLm : Hd (LL a (L' ++ [(x, v)]) (fun k => strp k < i ∨ (strp k = i ∧ (left (.int .i64 k) && !(Lit.int .i64 k).sameKey (.int .i64 x)) = false))) := by
            refine (HLL.out.more hxv (by rintro (h | ⟨-, h⟩); omega; rw [hlx] at h; cases h)).congr (fun k y hy => ?_)
            rw [same_int]
            constructor
            · rintro ((h | ⟨h1, h2⟩) | h)
              · exact Or.inl h
              · exact Or.inr ⟨h1, by rw [h2]; rfl⟩
              · subst h; exact Or.inr ⟨hsx, by simp⟩
            · rintro (h | ⟨h1, h2⟩)
              · exact Or.inl (Or.inl h)
              · by_cases e : k = x
                · exact Or.inr e
                · exact Or.inl (Or.inr ⟨h1, by simpa [e] using h2⟩)
          have HLF1 : Hd (∀ kl, (left kl && !kl.sameKey (.int .i64 x)) = true → Maps.has (g.D i) kl = true) := fun kl h => HLF.out kl (by simp at h; exact h.1)
          have HRG1 : Hd (w3.ranges Tryz.prog 3 Rp (g.mb i) r N (g.D i) (fun z => left z && !z.sameKey (.int .i64 x)) cnt1 ∧ cnt1 < cnt ∧ wr.rangeLeft (g.mb i) r = cnt) := ⟨hrg1, hlt1, hrg.left_eq⟩
          have HX1 : Hd (u3.ownBlock ≠ some r ∧ L'.length + cnt ≤ N * i + N ∧ w.heap.size ≤ r ∧ r < w3.heap.size) := ⟨HX.out.1, HX.out.2.1, HX.out.2.2.2.1, by have := HX.out.2.2.2.2; omega⟩
          obtain ⟨eb, heb⟩ : ∃ eb, eb = g.eb x := ⟨_, rfl⟩
          rw [← heb] at hen hent ⊢
          clear heb hE hEl hxv hsx hlx hrg1 hlt1 hg1 hs1 hrg HO HLL HX HLF
          have HO2 : Hd ((w3.alloc (.cells #[vI x, .string v] 141)).ownsRow w.heap.size 141 2 u3 L'.length (pCells L')) := World.ownsRow.alloc HO1.out _
          have hnews : ∀ j u, [vI x, .string v][j]? = some u → (w3.alloc (.cells #[vI x, .string v] 141)).cell? ((⟨w3.heap.size, 0, none⟩ : Addr).add j) = some u :=
            World.news_of_block (cs := #[vI x, .string v]) (heap_alloc_last w3 (.cells #[vI x, .string v] 141))
          have hbase : w.heap.size ≤ (w3.alloc (.cells #[vI x, .string v] 141)).heap.size := by have := HX1.out; simp; omega
          have hEl : L'.length + 1 ≤ 1600000000000 := by
            have h1 := HX1.out.2.1
            have h2 := HRG1.out.2.1
            have h3 := hN'.out
            have h4 : N * i ≤ N * 8 := Nat.mul_le_mul_left N (by omega)
            omega
          go_wp2_with (first
            | (go_at_call 64; refine (read_yes eb v _ hent).mono ?_; rintro _ wz ⟨rfl, rfl⟩)
            | ((at_builtin; refine Hd.out ?_)))
          unfold Hd
          refine wpList_append_lies _ rfl (.tmp 34) (.tmp 38) 137 rfl w.heap.size 141 i90 (.agg #[vI 0, .string ⟨#[]⟩]) 2 24 under86 hi90 hz90 hs90 hb90 rfl (by omega) u3 L'.length _ rfl HO2.out ⟨wz.heap.size, 0, none⟩ 1 1 [vI x, .string v] rfl rfl hnews (by intro u hu; simp at hu; rcases hu with rfl | rfl <;> rfl) (by omega) (by unfold maxLen; omega) (by omega) hbase (wz.heap.size + 1) (by simp) ?_
          intro g6 cap6 w6 hown6 hgrow6 hat6 hlt6
          have HO6 : Hd (OwnP w6 w.heap.size (.slice (some ⟨g6, 0, none⟩) (L'.length + 1) cap6) (L' ++ [(x, v)])) := OwnP.of (e := (x, v)) hown6
          have hal := World.grownBy_alloc wz (.cells #[vI x, .string v] 141) none
          have hge := HO1.out.ge
          have HF6 : Hd (Fr (fun _ => False) wq w6) := (HF3.out.alloc _).anew (grown_fr hgrow6) (fun j hj e => by have := (hge j e).1; have := HS.out; omega)
          have hr1 := HX1.out.2.2
          have hmbr := HMB.out.1
          have HRG6 : Hd (w6.ranges Tryz.prog 3 Rp (g.mb i) r N (g.D i) (fun z => left z && !z.sameKey (.int .i64 x)) cnt1) :=
            (HRG1.out.1.alloc _).kept hgrow6 (fun e => by have := (hge _ e.symm).1; omega) (fun e => HX1.out.1 e.symm)
          have hsz6 := hgrow6.size
          have HEND : Hd (w6.ranges Tryz.prog 3 Rp (g.mb i) r N (g.D i) (fun z => left z && !z.sameKey (.int .i64 x)) cnt1 ∧ (∀ kl, (left kl && !kl.sameKey (.int .i64 x)) = true → Maps.has (g.D i) kl = true) ∧ OwnP w6 w.heap.size (.slice (some ⟨g6, 0, none⟩) (L'.length + 1) cap6) (L' ++ [(x, v)]) ∧ (Value.slice (some ⟨g6, 0, none⟩) (L'.length + 1) cap6).ownBlock ≠ some r ∧ LL a (L' ++ [(x, v)]) (fun k => strp k < i ∨ (strp k = i ∧ (left (.int .i64 k) && !(Lit.int .i64 k).sameKey (.int .i64 x)) = false)) ∧ (L' ++ [(x, v)]).length + cnt1 ≤ N * i + N ∧ Fr (fun _ => False) wq w6 ∧ w.heap.size ≤ r ∧ r < w6.heap.size) := by
            refine ⟨HRG6.out, HLF1.out, HO6.out, ?_, HLm.out, ?_, HF6.out, hr1.1, ?_⟩
            · intro e
              have e' : g6 = r := Option.some.inj e
              rcases hat6 with e2 | e2
              · exact HX1.out.1 (by rw [e2, e'])
              · omega
            · have := HRG1.out.2.1; have := HX1.out.2.1; simp; omega
            · have : (wz.alloc (.cells #[vI x, .string v] 141)).heap.size = wz.heap.size + 1 := by simp
              omega
          have HMS : Hd (w6.rangeLeft (g.mb i) r < wr.rangeLeft (g.mb i) r) := by show _ < _; rw [HRG6.out.left_eq, HRG1.out.2.2]; exact HRG1.out.2.1
          clear hown6 hgrow6 hat6 hlt6 HO1 HF3 HRG1 HX1 HO2 hnews hbase hal hge HF6 hr1 hmbr HRG6 hsz6 HO6 HLm HLF1 hen hent
          go_wp2_with fail
          exact ⟨⟨_, cnt1, L' ++ [(x, v)], HEND⟩, HMS⟩
    · have hdk : decide ((i : Int) < 8) = false := by simp; omega
      have e8 : Hd (i = 8) := by show i = 8; omega
      clear hlt hi
      go_wp2_with fail
      obtain rfl := e8.out
      obtain ⟨hO, hL, hLn, hF⟩ := HM.out
      have hbl : b < wq.heap.size := by rw [HS.out]; exact HT.out.blt
      have hcw : ∀ o, wr.cell? ⟨b, o, none⟩ = wq.cell? ⟨b, o, none⟩ := fun o => hF.cell hbl (fun h => h)
      have hl1 : ∀ i, i < 8 → wr.cell? ⟨b, 3 * i, none⟩ = some (.int .i32 1) := fun i hi => by rw [hcw, HC.out, if_pos (by omega)]
      have hz1 : ∀ o, wr.frozen? ⟨b, o, none⟩ = false := fun o => (hF.frozen hbl (fun h => h)).trans (HFZ.out o)
      refine leaves_cons (f := 84) (args := #[.pointer (some ⟨b, 0, none⟩)]) (by simp) (by simp [go_sem]) ?_
      refine (unlock_d b .returning _ hl1 hz1).mono ?_
      rintro e u' w'' ⟨rfl, rfl, rfl⟩
      have hFin : Fr (fun j => j = b) w (lkW wr b 0 8) := (HF1.out.trans (hF.mono (fun _ _ h => h.elim))).trans (lkW_fr wr b 0 8)
      have hcl := lkW_cell wr b 0 (fun i hi => ⟨1, hl1 i hi⟩) 8 (Nat.le_refl _)
      have hcf : ∀ o, (lkW wr b 0 8).cell? ⟨b, o, none⟩ = w.cell? ⟨b, o, none⟩ := fun o => by
        rw [hcl]
        by_cases e : o % 3 = 0 ∧ o < 3 * 8
        · rw [if_pos e]
          have := HT.out.lock (o / 3) (by omega)
          rw [show 3 * (o / 3) = o by omega] at this
          exact this.symm
        · rw [if_neg e, hcw, HC.out, if_neg e]
      have hT2 : Tb (lkW wr b 0 8) b g N a := HT.out.cellsame hFin hcf (fun o => by rw [lkW_frozen]; exact hz1 o)
      exact ⟨_, results_tmp rfl _ _ _, u3, L, rfl, hO.fr (lkW_fr wr b 0 8) (fun g' hg' e => by have := (hO.ge g' hg').1; have := HT.out.blt; omega), hL.congr (fun k v _ => ⟨fun _ => trivial, fun _ => strp_lt k⟩), hLn, hT2, hFin⟩
end Go.Proofs.YtihicdbplmdjiaaGreat.Pl
