import Derived.Test.YtingenonbkencaaDoorQC2J
set_option linter.unusedVariables false
set_option linter.unusedSimpArgs false
namespace Go.Proofs.YtingenonbkencaaDoor
open Go.RowKit (wrap32 wrap64)
set_option maxRecDepth 100000
set_option maxHeartbeats 4000000
theorem askInstr_5at {b:Nat}(M:Mode b)(rm:M.σ→Nat)(hN:NextAt M rm)(x y:WS × M.σ)(w:World)(h:On M w x)(hp:1≤rm x.2)(i:Nat)(hi:i≤4096)(hx:nextX M 154 1 x = .ok y)(hk:y.1.op=5)(hl0:0≤y.1.len)(hl1:y.1.len≤4096)(nb:Bool)(hnames:∀ w1,Lies w1 b y.1→Calls Tryd.prog 93 #[.pointer (some ⟨b,42,none⟩),.pointer (some ⟨b,154,none⟩)] w1 fun e w'=>e = .returned (.bool nb)∧w'=w1)(Post:Ending→World→Prop)(I:Nat→World→Prop)(hE:∀ z w1,frontOk M false false nb i x.1.at' y = .error z→Fr M.SB w w1→Post (.panicked (viol z.1 z.2)) w1)(hI0:∀ y' w1,frontOk M false false nb i x.1.at' y = .ok y'→Fr M.SB w w1→On M w1 y'→I 0 w1)(hL:∀ j w1,I j w1→∃ s,Lies w1 b s)(hD:∀ j w1,I j w1→I j w1.drew)(hc0:∀ w1,I 0 w1→Calls Tryd.prog 80 #[.pointer (some ⟨b,0,none⟩),.pointer (some ⟨b,155,none⟩)] w1 (StepR (I 1) Post))(hc1:∀ w1,I 1 w1→Calls Tryd.prog 80 #[.pointer (some ⟨b,0,none⟩),.pointer (some ⟨b,156,none⟩)] w1 (StepR (I 2) Post))(hend:∀ w1,I 2 w1→Post (.returned (.tuple #[])) w1) :
 Calls Tryd.prog 65 #[.pointer (some ⟨b,0,none⟩),.int .i64 i] w Post:=by
 have q1:=run_neq81_f;have q2:=run_neq81_n;have q3:=run_neq82_f;have q4:=run_neq82_n
 go_enter Tryd.func65,Tryd.ntmps65
 go_wp2_with fail
 refine(hN 154 (by simp[places]) x 1 _ hp h (by omega) (by omega)).mono ?_
 rintro e w1 ⟨hf1,hres⟩
 simp only[hx] at hres
 obtain⟨rfl,hon1⟩:=hres
 have hl:=hon1.1
 have c154:w1.cell? ⟨b,154,none⟩=some (vI 5):=by rw[hl.facts.2.2.2.2.2.2.2.2.2.2.1,hk]
 have c153:w1.cell? ⟨b,153,none⟩=some (vI y.1.len):=hl.facts.2.2.2.2.2.2.2.2.2.1
 have r6:w1.cell? ⟨b,48,none⟩=some (vB false):=by rw[hl.cell];kernel_rfl
 have r7:w1.cell? ⟨b,49,none⟩=some (vB false):=by rw[hl.cell];kernel_rfl
 clear hx hk
 go_wp2_with fail
 refine(within_any _ _ _ _).mono ?_
 rintro e w' ⟨rfl,rfl⟩
 simp only[show decide ((1:Int)≤5∧(5:Int)≤17)=true from rfl]
 go_wp2_with fail
 refine(must_true 12 x.1.at' _).mono ?_
 rintro e w' ⟨rfl,rfl⟩
 go_wp2_with fail
 go_still mixed
 go_wp2_with fail
 refine(hnames _ hl.drew).mono ?_
 rintro e w2 ⟨rfl,rfl⟩
 cases nb with
 | false =>
   go_wp2_with fail
   refine(must_false 1 x.1.at' _).mono ?_
   rintro e w3 ⟨rfl,rfl⟩
   go_wp2_with fail
   exact⟨rfl,hE (1,x.1.at') _ rfl hf1.drew⟩
 | true =>
 go_wp2_with fail
 refine(must_true 1 x.1.at' _).mono ?_
 rintro e w3 ⟨rfl,rfl⟩
 have hon1:=hon1.drew
 have hf1:=hf1.drew
 by_cases hlt:(i:Int)<y.1.len-1
 rotate_left
 ·have hlt':decide ((i:Int)<y.1.len-1)=false:=by simpa using hlt
  have hE':=hE (19,x.1.at') w'.drew (by simp only[frontOk,hlt'];rfl) hf1
  clear hE hlt hI0
  go_wp2_with fail
  refine(must_false 19 x.1.at' _).mono ?_
  rintro e w3 ⟨rfl,rfl⟩
  go_wp2_with fail
  exact⟨rfl,hE'⟩
 have hlt':decide ((i:Int)<y.1.len-1)=true:=by simpa using hlt
 have hF:Hd (frontOk M false false true i x.1.at' y = .ok y):=by unfold Hd;simp only[frontOk,hlt'];rfl
 clear hlt
 go_wp2_with fail
 refine(must_true 19 x.1.at' _).mono ?_
 rintro e w3 ⟨rfl,rfl⟩
 have hI:=hI0 y w'.drew hF.out hf1 hon1
 clear hE hI0 hF hon1 hf1
 generalize w'.drew=vv at hI ⊢
 obtain⟨s,hs⟩:=hL _ _ hI
 have r0:vv.cell? ⟨b,42,none⟩=some (vF 80):=by rw[hs.cell];kernel_rfl
 have r7:vv.cell? ⟨b,49,none⟩=some (vB false):=by rw[hs.cell];kernel_rfl
 go_wp2_with fail
 refine wp_region_still_tail 8 mixed (by kernel_rfl) ?_
 simp only[List.take_succ_cons,List.take_zero,List.drop_succ_cons,List.drop_zero]
 repeat still_step
 refine wpStill_nil ?_
 go_wp2_with fail
 refine(hc0 _ (hD _ _ hI)).mono ?_
 rintro e v0 (⟨rfl,hJ⟩|⟨c,rfl,hp⟩)
 rotate_left
 ·go_wp2_with fail
  exact⟨rfl,hp⟩
 clear hI
 have hI:=hJ
 clear hJ hs s
 obtain⟨s,hs⟩:=hL _ _ hI
 have r1:v0.cell? ⟨b,43,none⟩=some (vF 80):=by rw[hs.cell];kernel_rfl
 go_wp2_with fail
 refine wp_region_still_tail 8 mixed (by kernel_rfl) ?_
 simp only[List.take_succ_cons,List.take_zero,List.drop_succ_cons,List.drop_zero]
 repeat still_step
 refine wpStill_nil ?_
 go_wp2_with fail
 refine(hc1 _ (hD _ _ hI)).mono ?_
 rintro e v1 (⟨rfl,hJ⟩|⟨c,rfl,hp⟩)
 rotate_left
 ·go_wp2_with fail
  exact⟨rfl,hp⟩
 clear hI
 have hI:=hJ
 clear hJ hs s
 obtain⟨s,hs⟩:=hL _ _ hI
 have r2:v1.cell? ⟨b,44,none⟩=some vN:=by rw[hs.cell];kernel_rfl
 have r3:v1.cell? ⟨b,45,none⟩=some vN:=by rw[hs.cell];kernel_rfl
 have r4:v1.cell? ⟨b,46,none⟩=some vN:=by rw[hs.cell];kernel_rfl
 have r5:v1.cell? ⟨b,47,none⟩=some vN:=by rw[hs.cell];kernel_rfl
 go_wp2_with fail
 go_end0
 exact hend _ hI
theorem askInstr_6at {b:Nat}(M:Mode b)(rm:M.σ→Nat)(hN:NextAt M rm)(x y:WS × M.σ)(w:World)(h:On M w x)(hp:1≤rm x.2)(i:Nat)(hi:i≤4096)(hx:nextX M 154 1 x = .ok y)(hk:y.1.op=6)(hl0:0≤y.1.len)(hl1:y.1.len≤4096)(nb:Bool)(hnames:∀ w1,Lies w1 b y.1→Calls Tryd.prog 93 #[.pointer (some ⟨b,50,none⟩),.pointer (some ⟨b,154,none⟩)] w1 fun e w'=>e = .returned (.bool nb)∧w'=w1)(Post:Ending→World→Prop)(I:Nat→World→Prop)(hE:∀ z w1,frontOk M false true nb i x.1.at' y = .error z→Fr M.SB w w1→Post (.panicked (viol z.1 z.2)) w1)(hI0:∀ y' w1,frontOk M false true nb i x.1.at' y = .ok y'→Fr M.SB w w1→On M w1 y'→I 0 w1)(hL:∀ j w1,I j w1→∃ s,Lies w1 b s)(hD:∀ j w1,I j w1→I j w1.drew)(hc0:∀ w1,I 0 w1→Calls Tryd.prog 80 #[.pointer (some ⟨b,0,none⟩),.pointer (some ⟨b,155,none⟩)] w1 (StepR (I 1) Post))(hc1:∀ w1,I 1 w1→Calls Tryd.prog 82 #[.pointer (some ⟨b,0,none⟩),.pointer (some ⟨b,158,none⟩)] w1 (StepR (I 2) Post))(hend:∀ w1,I 2 w1→Post (.returned (.tuple #[])) w1) :
 Calls Tryd.prog 65 #[.pointer (some ⟨b,0,none⟩),.int .i64 i] w Post:=by
 have q1:=run_neq81_f;have q2:=run_neq81_n;have q3:=run_neq82_f;have q4:=run_neq82_n
 go_enter Tryd.func65,Tryd.ntmps65
 go_wp2_with fail
 refine(hN 154 (by simp[places]) x 1 _ hp h (by omega) (by omega)).mono ?_
 rintro e w1 ⟨hf1,hres⟩
 simp only[hx] at hres
 obtain⟨rfl,hon1⟩:=hres
 have hl:=hon1.1
 have c154:w1.cell? ⟨b,154,none⟩=some (vI 6):=by rw[hl.facts.2.2.2.2.2.2.2.2.2.2.1,hk]
 have c153:w1.cell? ⟨b,153,none⟩=some (vI y.1.len):=hl.facts.2.2.2.2.2.2.2.2.2.1
 have r6:w1.cell? ⟨b,56,none⟩=some (vB false):=by rw[hl.cell];kernel_rfl
 have r7:w1.cell? ⟨b,57,none⟩=some (vB true):=by rw[hl.cell];kernel_rfl
 clear hx hk
 go_wp2_with fail
 refine(within_any _ _ _ _).mono ?_
 rintro e w' ⟨rfl,rfl⟩
 simp only[show decide ((1:Int)≤6∧(6:Int)≤17)=true from rfl]
 go_wp2_with fail
 refine(must_true 12 x.1.at' _).mono ?_
 rintro e w' ⟨rfl,rfl⟩
 go_wp2_with fail
 go_still mixed
 go_wp2_with fail
 refine(hnames _ hl.drew).mono ?_
 rintro e w2 ⟨rfl,rfl⟩
 cases nb with
 | false =>
   go_wp2_with fail
   refine(must_false 1 x.1.at' _).mono ?_
   rintro e w3 ⟨rfl,rfl⟩
   go_wp2_with fail
   exact⟨rfl,hE (1,x.1.at') _ rfl hf1.drew⟩
 | true =>
 go_wp2_with fail
 refine(must_true 1 x.1.at' _).mono ?_
 rintro e w3 ⟨rfl,rfl⟩
 have hon1:=hon1.drew
 have hf1:=hf1.drew
 by_cases hlt:(i:Int)<y.1.len-1
 rotate_left
 ·have hlt':decide ((i:Int)<y.1.len-1)=false:=by simpa using hlt
  have hE':=hE (19,x.1.at') w'.drew (by simp only[frontOk,hlt'];rfl) hf1
  clear hE hlt hI0
  go_wp2_with fail
  refine(must_false 19 x.1.at' _).mono ?_
  rintro e w3 ⟨rfl,rfl⟩
  go_wp2_with fail
  exact⟨rfl,hE'⟩
 have hlt':decide ((i:Int)<y.1.len-1)=true:=by simpa using hlt
 have hF:Hd (frontOk M false true true i x.1.at' y=locX M 1 x.1.at' y):=by unfold Hd;simp only[frontOk,hlt'];rfl
 clear hlt
 go_wp2_with fail
 refine(must_true 19 x.1.at' _).mono ?_
 rintro e w3 ⟨rfl,rfl⟩
 go_wp2_with fail
 refine(locate_any M 1 x.1.at' y _ hon1).mono ?_
 rintro e w4 ⟨hf4,hres⟩
 cases hlx:locX M 1 x.1.at' y with
 | error z =>
   simp only[hlx] at hres
   subst hres
   have hE':=hE z w4 (by rw[hF.out,hlx]) (hf1.trans hf4)
   clear hE hI0
   go_wp2_with fail
   exact⟨rfl,hE'⟩
 | ok y2 =>
 simp only[hlx] at hres
 obtain⟨rfl,hon2⟩:=hres
 have hI:=hI0 y2 w4 (by rw[hF.out,hlx]) (hf1.trans hf4) hon2
 clear hlx hE hI0 hon1 hf1 hF
 obtain⟨s,hs⟩:=hL _ _ hI
 have r0:w4.cell? ⟨b,50,none⟩=some (vF 80):=by rw[hs.cell];kernel_rfl
 go_wp2_with fail
 refine wp_region_still_tail 8 mixed (by kernel_rfl) ?_
 simp only[List.take_succ_cons,List.take_zero,List.drop_succ_cons,List.drop_zero]
 repeat still_step
 refine wpStill_nil ?_
 go_wp2_with fail
 refine(hc0 _ (hD _ _ hI)).mono ?_
 rintro e v0 (⟨rfl,hJ⟩|⟨c,rfl,hp⟩)
 rotate_left
 ·go_wp2_with fail
  exact⟨rfl,hp⟩
 clear hI
 have hI:=hJ
 clear hJ hs s
 obtain⟨s,hs⟩:=hL _ _ hI
 have r1:v0.cell? ⟨b,51,none⟩=some vN:=by rw[hs.cell];kernel_rfl
 have r2:v0.cell? ⟨b,52,none⟩=some vN:=by rw[hs.cell];kernel_rfl
 have r3:v0.cell? ⟨b,53,none⟩=some (vF 82):=by rw[hs.cell];kernel_rfl
 go_wp2_with fail
 refine wp_region_still_tail 8 mixed (by kernel_rfl) ?_
 simp only[List.take_succ_cons,List.take_zero,List.drop_succ_cons,List.drop_zero]
 repeat still_step
 refine wpStill_nil ?_
 go_wp2_with fail
 refine(hc1 _ (hD _ _ hI)).mono ?_
 rintro e v1 (⟨rfl,hJ⟩|⟨c,rfl,hp⟩)
 rotate_left
 ·go_wp2_with fail
  exact⟨rfl,hp⟩
 clear hI
 have hI:=hJ
 clear hJ hs s
 obtain⟨s,hs⟩:=hL _ _ hI
 have r4:v1.cell? ⟨b,54,none⟩=some vN:=by rw[hs.cell];kernel_rfl
 have r5:v1.cell? ⟨b,55,none⟩=some vN:=by rw[hs.cell];kernel_rfl
 go_wp2_with fail
 go_end0
 exact hend _ hI
theorem askInstr_7at {b:Nat}(M:Mode b)(rm:M.σ→Nat)(hN:NextAt M rm)(x y:WS × M.σ)(w:World)(h:On M w x)(hp:1≤rm x.2)(i:Nat)(hi:i≤4096)(hx:nextX M 154 1 x = .ok y)(hk:y.1.op=7)(hl0:0≤y.1.len)(hl1:y.1.len≤4096)(nb:Bool)(hnames:∀ w1,Lies w1 b y.1→Calls Tryd.prog 93 #[.pointer (some ⟨b,58,none⟩),.pointer (some ⟨b,154,none⟩)] w1 fun e w'=>e = .returned (.bool nb)∧w'=w1)(Post:Ending→World→Prop)(I:Nat→World→Prop)(hE:∀ z w1,frontOk M false false nb i x.1.at' y = .error z→Fr M.SB w w1→Post (.panicked (viol z.1 z.2)) w1)(hI0:∀ y' w1,frontOk M false false nb i x.1.at' y = .ok y'→Fr M.SB w w1→On M w1 y'→I 0 w1)(hL:∀ j w1,I j w1→∃ s,Lies w1 b s)(hD:∀ j w1,I j w1→I j w1.drew)(hc0:∀ w1,I 0 w1→Calls Tryd.prog 80 #[.pointer (some ⟨b,0,none⟩),.pointer (some ⟨b,155,none⟩)] w1 (StepR (I 1) Post))(hc1:∀ w1,I 1 w1→Calls Tryd.prog 80 #[.pointer (some ⟨b,0,none⟩),.pointer (some ⟨b,156,none⟩)] w1 (StepR (I 2) Post))(hc2:∀ w1,I 2 w1→Calls Tryd.prog 83 #[.pointer (some ⟨b,0,none⟩),.pointer (some ⟨b,158,none⟩)] w1 (StepR (I 3) Post))(hend:∀ w1,I 3 w1→Post (.returned (.tuple #[])) w1) :
 Calls Tryd.prog 65 #[.pointer (some ⟨b,0,none⟩),.int .i64 i] w Post:=by
 have q1:=run_neq81_f;have q2:=run_neq81_n;have q3:=run_neq82_f;have q4:=run_neq82_n
 go_enter Tryd.func65,Tryd.ntmps65
 go_wp2_with fail
 refine(hN 154 (by simp[places]) x 1 _ hp h (by omega) (by omega)).mono ?_
 rintro e w1 ⟨hf1,hres⟩
 simp only[hx] at hres
 obtain⟨rfl,hon1⟩:=hres
 have hl:=hon1.1
 have c154:w1.cell? ⟨b,154,none⟩=some (vI 7):=by rw[hl.facts.2.2.2.2.2.2.2.2.2.2.1,hk]
 have c153:w1.cell? ⟨b,153,none⟩=some (vI y.1.len):=hl.facts.2.2.2.2.2.2.2.2.2.1
 have r6:w1.cell? ⟨b,64,none⟩=some (vB false):=by rw[hl.cell];kernel_rfl
 have r7:w1.cell? ⟨b,65,none⟩=some (vB false):=by rw[hl.cell];kernel_rfl
 clear hx hk
 go_wp2_with fail
 refine(within_any _ _ _ _).mono ?_
 rintro e w' ⟨rfl,rfl⟩
 simp only[show decide ((1:Int)≤7∧(7:Int)≤17)=true from rfl]
 go_wp2_with fail
 refine(must_true 12 x.1.at' _).mono ?_
 rintro e w' ⟨rfl,rfl⟩
 go_wp2_with fail
 go_still mixed
 go_wp2_with fail
 refine(hnames _ hl.drew).mono ?_
 rintro e w2 ⟨rfl,rfl⟩
 cases nb with
 | false =>
   go_wp2_with fail
   refine(must_false 1 x.1.at' _).mono ?_
   rintro e w3 ⟨rfl,rfl⟩
   go_wp2_with fail
   exact⟨rfl,hE (1,x.1.at') _ rfl hf1.drew⟩
 | true =>
 go_wp2_with fail
 refine(must_true 1 x.1.at' _).mono ?_
 rintro e w3 ⟨rfl,rfl⟩
 have hon1:=hon1.drew
 have hf1:=hf1.drew
 by_cases hlt:(i:Int)<y.1.len-1
 rotate_left
 ·have hlt':decide ((i:Int)<y.1.len-1)=false:=by simpa using hlt
  have hE':=hE (19,x.1.at') w'.drew (by simp only[frontOk,hlt'];rfl) hf1
  clear hE hlt hI0
  go_wp2_with fail
  refine(must_false 19 x.1.at' _).mono ?_
  rintro e w3 ⟨rfl,rfl⟩
  go_wp2_with fail
  exact⟨rfl,hE'⟩
 have hlt':decide ((i:Int)<y.1.len-1)=true:=by simpa using hlt
 have hF:Hd (frontOk M false false true i x.1.at' y = .ok y):=by unfold Hd;simp only[frontOk,hlt'];rfl
 clear hlt
 go_wp2_with fail
 refine(must_true 19 x.1.at' _).mono ?_
 rintro e w3 ⟨rfl,rfl⟩
 have hI:=hI0 y w'.drew hF.out hf1 hon1
 clear hE hI0 hF hon1 hf1
 generalize w'.drew=vv at hI ⊢
 obtain⟨s,hs⟩:=hL _ _ hI
 have r0:vv.cell? ⟨b,58,none⟩=some (vF 80):=by rw[hs.cell];kernel_rfl
 have r7:vv.cell? ⟨b,65,none⟩=some (vB false):=by rw[hs.cell];kernel_rfl
 go_wp2_with fail
 refine wp_region_still_tail 8 mixed (by kernel_rfl) ?_
 simp only[List.take_succ_cons,List.take_zero,List.drop_succ_cons,List.drop_zero]
 repeat still_step
 refine wpStill_nil ?_
 go_wp2_with fail
 refine(hc0 _ (hD _ _ hI)).mono ?_
 rintro e v0 (⟨rfl,hJ⟩|⟨c,rfl,hp⟩)
 rotate_left
 ·go_wp2_with fail
  exact⟨rfl,hp⟩
 clear hI
 have hI:=hJ
 clear hJ hs s
 obtain⟨s,hs⟩:=hL _ _ hI
 have r1:v0.cell? ⟨b,59,none⟩=some (vF 80):=by rw[hs.cell];kernel_rfl
 go_wp2_with fail
 refine wp_region_still_tail 8 mixed (by kernel_rfl) ?_
 simp only[List.take_succ_cons,List.take_zero,List.drop_succ_cons,List.drop_zero]
 repeat still_step
 refine wpStill_nil ?_
 go_wp2_with fail
 refine(hc1 _ (hD _ _ hI)).mono ?_
 rintro e v1 (⟨rfl,hJ⟩|⟨c,rfl,hp⟩)
 rotate_left
 ·go_wp2_with fail
  exact⟨rfl,hp⟩
 clear hI
 have hI:=hJ
 clear hJ hs s
 obtain⟨s,hs⟩:=hL _ _ hI
 have r2:v1.cell? ⟨b,60,none⟩=some vN:=by rw[hs.cell];kernel_rfl
 have r3:v1.cell? ⟨b,61,none⟩=some (vF 83):=by rw[hs.cell];kernel_rfl
 go_wp2_with fail
 refine wp_region_still_tail 8 mixed (by kernel_rfl) ?_
 simp only[List.take_succ_cons,List.take_zero,List.drop_succ_cons,List.drop_zero]
 repeat still_step
 refine wpStill_nil ?_
 go_wp2_with fail
 refine(hc2 _ (hD _ _ hI)).mono ?_
 rintro e v2 (⟨rfl,hJ⟩|⟨c,rfl,hp⟩)
 rotate_left
 ·go_wp2_with fail
  exact⟨rfl,hp⟩
 clear hI
 have hI:=hJ
 clear hJ hs s
 obtain⟨s,hs⟩:=hL _ _ hI
 have r4:v2.cell? ⟨b,62,none⟩=some vN:=by rw[hs.cell];kernel_rfl
 have r5:v2.cell? ⟨b,63,none⟩=some vN:=by rw[hs.cell];kernel_rfl
 go_wp2_with fail
 go_end0
 exact hend _ hI
theorem askInstr_8at {b:Nat}(M:Mode b)(rm:M.σ→Nat)(hN:NextAt M rm)(x y:WS × M.σ)(w:World)(h:On M w x)(hp:1≤rm x.2)(i:Nat)(hi:i≤4096)(hx:nextX M 154 1 x = .ok y)(hk:y.1.op=8)(hl0:0≤y.1.len)(hl1:y.1.len≤4096)(nb:Bool)(hnames:∀ w1,Lies w1 b y.1→Calls Tryd.prog 93 #[.pointer (some ⟨b,66,none⟩),.pointer (some ⟨b,154,none⟩)] w1 fun e w'=>e = .returned (.bool nb)∧w'=w1)(Post:Ending→World→Prop)(I:Nat→World→Prop)(hE:∀ z w1,frontOk M false false nb i x.1.at' y = .error z→Fr M.SB w w1→Post (.panicked (viol z.1 z.2)) w1)(hI0:∀ y' w1,frontOk M false false nb i x.1.at' y = .ok y'→Fr M.SB w w1→On M w1 y'→I 0 w1)(hL:∀ j w1,I j w1→∃ s,Lies w1 b s)(hD:∀ j w1,I j w1→I j w1.drew)(hc0:∀ w1,I 0 w1→Calls Tryd.prog 80 #[.pointer (some ⟨b,0,none⟩),.pointer (some ⟨b,155,none⟩)] w1 (StepR (I 1) Post))(hc1:∀ w1,I 1 w1→Calls Tryd.prog 80 #[.pointer (some ⟨b,0,none⟩),.pointer (some ⟨b,156,none⟩)] w1 (StepR (I 2) Post))(hc2:∀ w1,I 2 w1→Calls Tryd.prog 83 #[.pointer (some ⟨b,0,none⟩),.pointer (some ⟨b,158,none⟩)] w1 (StepR (I 3) Post))(hend:∀ w1,I 3 w1→Post (.returned (.tuple #[])) w1) :
 Calls Tryd.prog 65 #[.pointer (some ⟨b,0,none⟩),.int .i64 i] w Post:=by
 have q1:=run_neq81_f;have q2:=run_neq81_n;have q3:=run_neq82_f;have q4:=run_neq82_n
 go_enter Tryd.func65,Tryd.ntmps65
 go_wp2_with fail
 refine(hN 154 (by simp[places]) x 1 _ hp h (by omega) (by omega)).mono ?_
 rintro e w1 ⟨hf1,hres⟩
 simp only[hx] at hres
 obtain⟨rfl,hon1⟩:=hres
 have hl:=hon1.1
 have c154:w1.cell? ⟨b,154,none⟩=some (vI 8):=by rw[hl.facts.2.2.2.2.2.2.2.2.2.2.1,hk]
 have c153:w1.cell? ⟨b,153,none⟩=some (vI y.1.len):=hl.facts.2.2.2.2.2.2.2.2.2.1
 have r6:w1.cell? ⟨b,72,none⟩=some (vB false):=by rw[hl.cell];kernel_rfl
 have r7:w1.cell? ⟨b,73,none⟩=some (vB false):=by rw[hl.cell];kernel_rfl
 clear hx hk
 go_wp2_with fail
 refine(within_any _ _ _ _).mono ?_
 rintro e w' ⟨rfl,rfl⟩
 simp only[show decide ((1:Int)≤8∧(8:Int)≤17)=true from rfl]
 go_wp2_with fail
 refine(must_true 12 x.1.at' _).mono ?_
 rintro e w' ⟨rfl,rfl⟩
 go_wp2_with fail
 go_still mixed
 go_wp2_with fail
 refine(hnames _ hl.drew).mono ?_
 rintro e w2 ⟨rfl,rfl⟩
 cases nb with
 | false =>
   go_wp2_with fail
   refine(must_false 1 x.1.at' _).mono ?_
   rintro e w3 ⟨rfl,rfl⟩
   go_wp2_with fail
   exact⟨rfl,hE (1,x.1.at') _ rfl hf1.drew⟩
 | true =>
 go_wp2_with fail
 refine(must_true 1 x.1.at' _).mono ?_
 rintro e w3 ⟨rfl,rfl⟩
 have hon1:=hon1.drew
 have hf1:=hf1.drew
 by_cases hlt:(i:Int)<y.1.len-1
 rotate_left
 ·have hlt':decide ((i:Int)<y.1.len-1)=false:=by simpa using hlt
  have hE':=hE (19,x.1.at') w'.drew (by simp only[frontOk,hlt'];rfl) hf1
  clear hE hlt hI0
  go_wp2_with fail
  refine(must_false 19 x.1.at' _).mono ?_
  rintro e w3 ⟨rfl,rfl⟩
  go_wp2_with fail
  exact⟨rfl,hE'⟩
 have hlt':decide ((i:Int)<y.1.len-1)=true:=by simpa using hlt
 have hF:Hd (frontOk M false false true i x.1.at' y = .ok y):=by unfold Hd;simp only[frontOk,hlt'];rfl
 clear hlt
 go_wp2_with fail
 refine(must_true 19 x.1.at' _).mono ?_
 rintro e w3 ⟨rfl,rfl⟩
 have hI:=hI0 y w'.drew hF.out hf1 hon1
 clear hE hI0 hF hon1 hf1
 generalize w'.drew=vv at hI ⊢
 obtain⟨s,hs⟩:=hL _ _ hI
 have r0:vv.cell? ⟨b,66,none⟩=some (vF 80):=by rw[hs.cell];kernel_rfl
 have r7:vv.cell? ⟨b,73,none⟩=some (vB false):=by rw[hs.cell];kernel_rfl
 go_wp2_with fail
 refine wp_region_still_tail 8 mixed (by kernel_rfl) ?_
 simp only[List.take_succ_cons,List.take_zero,List.drop_succ_cons,List.drop_zero]
 repeat still_step
 refine wpStill_nil ?_
 go_wp2_with fail
 refine(hc0 _ (hD _ _ hI)).mono ?_
 rintro e v0 (⟨rfl,hJ⟩|⟨c,rfl,hp⟩)
 rotate_left
 ·go_wp2_with fail
  exact⟨rfl,hp⟩
 clear hI
 have hI:=hJ
 clear hJ hs s
 obtain⟨s,hs⟩:=hL _ _ hI
 have r1:v0.cell? ⟨b,67,none⟩=some (vF 80):=by rw[hs.cell];kernel_rfl
 go_wp2_with fail
 refine wp_region_still_tail 8 mixed (by kernel_rfl) ?_
 simp only[List.take_succ_cons,List.take_zero,List.drop_succ_cons,List.drop_zero]
 repeat still_step
 refine wpStill_nil ?_
 go_wp2_with fail
 refine(hc1 _ (hD _ _ hI)).mono ?_
 rintro e v1 (⟨rfl,hJ⟩|⟨c,rfl,hp⟩)
 rotate_left
 ·go_wp2_with fail
  exact⟨rfl,hp⟩
 clear hI
 have hI:=hJ
 clear hJ hs s
 obtain⟨s,hs⟩:=hL _ _ hI
 have r2:v1.cell? ⟨b,68,none⟩=some vN:=by rw[hs.cell];kernel_rfl
 have r3:v1.cell? ⟨b,69,none⟩=some (vF 83):=by rw[hs.cell];kernel_rfl
 go_wp2_with fail
 refine wp_region_still_tail 8 mixed (by kernel_rfl) ?_
 simp only[List.take_succ_cons,List.take_zero,List.drop_succ_cons,List.drop_zero]
 repeat still_step
 refine wpStill_nil ?_
 go_wp2_with fail
 refine(hc2 _ (hD _ _ hI)).mono ?_
 rintro e v2 (⟨rfl,hJ⟩|⟨c,rfl,hp⟩)
 rotate_left
 ·go_wp2_with fail
  exact⟨rfl,hp⟩
 clear hI
 have hI:=hJ
 clear hJ hs s
 obtain⟨s,hs⟩:=hL _ _ hI
 have r4:v2.cell? ⟨b,70,none⟩=some vN:=by rw[hs.cell];kernel_rfl
 have r5:v2.cell? ⟨b,71,none⟩=some vN:=by rw[hs.cell];kernel_rfl
 go_wp2_with fail
 go_end0
 exact hend _ hI
end Go.Proofs.YtingenonbkencaaDoor
