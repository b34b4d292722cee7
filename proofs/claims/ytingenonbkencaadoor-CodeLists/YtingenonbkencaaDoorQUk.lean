import Derived.Test.YtingenonbkencaaDoorQRtJ
import Derived.Test.YtingenonbkencaaDoorQUhJ
set_option linter.unusedVariables false
set_option linter.unusedSimpArgs false
namespace Go.Proofs.YtingenonbkencaaDoor
open Go.ChangeShapes Go.WideShapes Go.ChangeAt Go.RowKit
set_option maxRecDepth 100000
theorem tab_of7 {W:World}(h:laidMetH Tryd.prog Rows.codeListsRow.laid W):Tab W:=by
 have ht : Lib.TabIs Tryd.prog W "fugue/code.numberSizes" .i64 [0, 8, 0, 0, 0, 0, 1, 1, 1, 1, 1, 2, 0, 2, 2, 0, 0, 0] := Lib.tabIs_of_head (rest := []) gTab gTabType under130 und3 cel3 cells130 h
 exact tab_is ht
theorem codeLists_contract (H:Type)(enc:TypeId × Value→H)(W:World)(base:Nat)(args:Array Value)(ds gs:List (DataW H))(before:List MemPlace)
 (hval:∀ (j:Nat) t v,Tryd.f7.params[j]?=some t→args[j]?=some v→Value.okWide Tryd.prog W .any base t v)
 (hW:DataW.Whole enc Tryd.prog Tryd.f7.params.toList Rows.codeListsSpec.vars false W args.toList ds gs before) (hL:laidMetH Tryd.prog Rows.codeListsRow.laid W) (hsz:(DataW.weightsEach Tryd.prog (Tryd.f7.params.toList++(OpenSpec.ofChange Rows.codeListsSpec).bare.plain.varTypes Tryd.prog) (ds++gs)).all (·≤reachBytes)=true) :
 Calls Tryd.prog 7 args W fun e W'=>∃ v,e = .returned v∧Rows.codeListsSpec.post enc Tryd.prog Tryd.f7 false true false false W args v W':=by
 have hT:=tab_of7 hL
 have h0:0<W.heap.size:=cell_lt (hT 0 (by omega))
 have hW':=hW
 obtain⟨p,q,hA0,hV,rfl,hfz,hnd⟩:=hW
 have hA:DataW.TrodAll enc Tryd.prog W 0 (fun _=>true) true Tryd.f7.params.toList args.toList ds p:=hA0
 rw[Tryd.params7] at hA hval hsz
 obtain⟨v0,vs0,d0,ds0,p0,q0,hargs,rfl,rfl,t0,r0⟩:=trodAll_cons hA
 obtain⟨rfl,rfl,rfl⟩:=trodAll_nil r0
 obtain rfl:args=#[v0]:=by cases args;simp_all
 obtain⟨rfl,rfl⟩:=trodVars_none hV
 obtain⟨cs,rfl,-⟩:=okWide_struct und26 (hval 0 26 v0 rfl rfl)
 obtain⟨G,fv,fs,hcs,hF,hn,hc⟩:∃ (G:Int) (fv:Value) (fs:List PF),cs=#[vI G,fv]∧FA W fv fs∧FineP fs∧∀ f∈fs,∀ c∈f.code,In64n c:=by
  obtain⟨m,hm⟩:=t0
  obtain⟨G,fv,fs,hcs,hF,hn,hc⟩:=program_sz hm (fun q hq=>by
   have:=List.all_eq_true.1 hsz q (DataW.weights_mem_each (j:=0) (t:=26) (d:=d0) rfl rfl q hq)
   simpa using this)
  refine⟨G,fv,fs,?_,hF,hn,hc⟩
  have:cs.toList=[vI G,fv]:=by simpa[Value.cells] using hcs
  cases cs;simp_all
 subst hcs
 have lt0:∀ x∈p0,x.block<W.heap.size:=by obtain⟨m,hm⟩:=t0;exact DataW.trod_lt m _ _ _ hm
 clear hA0
 refine(lists_any W G fs fv hF hn hc hT h0).mono fun e W' ⟨he,hf⟩=>?_
 subst he
 have bel:Below W.heap.size W W':=⟨hf.os,hf.tape,hf.output,hf.size,fun k hk=>hf.block k hk (fun h=>h)⟩
 exact⟨_,rfl,_,_,_,[],_,[],hW',trodAll_mk1 (shut_bool under4 _),(trodAll_cons_mk (Below.trod laysOut (by kernel_rfl) (of_decide_eq_true (by kernel_rfl)) t0 bel lt0) trodAll_mk0),rfl,bel.frame _,fun h=>by cases h⟩
theorem tab_met7 (os:Os):laidMet Tryd.prog Rows.codeListsRow.laid (({ World.holding Tryd.prog os ⟨#[],#[],[]⟩ with heap:=(World.holding Tryd.prog os ⟨#[],#[],[]⟩).heap.modify 0 fun | .cells _ t frozen=>.cells #[.int .i64 0,.int .i64 8,.int .i64 0,.int .i64 0,.int .i64 0,.int .i64 0,.int .i64 1,.int .i64 1,.int .i64 1,.int .i64 1,.int .i64 1,.int .i64 2,.int .i64 0,.int .i64 2,.int .i64 2,.int .i64 0,.int .i64 0,.int .i64 0] t frozen | o=>o }:World).forCall (fun _ _=>0) ⟨#[],#[.agg #[.int .i64 0,.slice none 0 0]],[]⟩).memory :=
 laidMet_of_run' 8 (by kernel_rfl) (by kernel_rfl)
theorem nil_reads7 (os:Os){H:Type}(enc:TypeId × Value→H):∃ places,DataW.whole enc Tryd.prog (({ World.holding Tryd.prog os ⟨#[],#[],[]⟩ with heap:=(World.holding Tryd.prog os ⟨#[],#[],[]⟩).heap.modify 0 fun | .cells _ t frozen=>.cells #[.int .i64 0,.int .i64 8,.int .i64 0,.int .i64 0,.int .i64 0,.int .i64 0,.int .i64 1,.int .i64 1,.int .i64 1,.int .i64 1,.int .i64 1,.int .i64 2,.int .i64 0,.int .i64 2,.int .i64 2,.int .i64 0,.int .i64 0,.int .i64 0] t frozen | o=>o }:World).forCall (fun _ _=>0) ⟨#[],#[.agg #[.int .i64 0,.slice none 0 0]],[]⟩).memory Tryd.f7.params.toList Rows.codeListsSpec.vars false (#[.agg #[.int .i64 0,.slice none 0 0]]:Array Value).toList 8=some ([.agg [.lit (.int .i64 0),.nil]],[],places) :=
 ⟨[],by kernel_rfl⟩
theorem codeLists_lifted (os:Os)(started:os.Started)(H:Type)(enc:TypeId × Value→H)(F:Stop.Interp) :
 ReturnsInHanded {} Tryd.checked os 7 .any ((OpenSpec.ofChange Rows.codeListsSpec).preRow enc Tryd.prog Tryd.f7 Rows.codeListsRow.domain false Rows.codeListsRow.laid) (((OpenSpec.ofChange Rows.codeListsSpec).at F).post enc Tryd.prog Tryd.f7 false true false false):=by
 obtain⟨places,hx⟩:=nil_reads7 os enc
 refine returnsInHanded_of_row (C:=Tryd.checked) (s:=OpenSpec.ofChange Rows.codeListsSpec) knob started (by kernel_rfl) Tryd.func7
  (witness_row_at (enc:=enc) (C:=Tryd.checked) false ({ World.holding Tryd.prog os ⟨#[],#[],[]⟩ with heap:=(World.holding Tryd.prog os ⟨#[],#[],[]⟩).heap.modify 0 fun | .cells _ t frozen=>.cells #[.int .i64 0,.int .i64 8,.int .i64 0,.int .i64 0,.int .i64 0,.int .i64 0,.int .i64 1,.int .i64 1,.int .i64 1,.int .i64 1,.int .i64 1,.int .i64 2,.int .i64 0,.int .i64 2,.int .i64 2,.int .i64 0,.int .i64 0,.int .i64 0] t frozen | o=>o }:World) #[.agg #[.int .i64 0,.slice none 0 0]] rfl (by kernel_rfl) (by kernel_rfl) (by kernel_rfl)
    (OpenSpec.preRow_of_cond 8 hx (by kernel_rfl) (fun k hk=>by cases hk) (by kernel_rfl) (tab_met7 os))) ?_
 intro W base args ds gs before hval hW _ _ hsz hL _ _
 exact codeLists_contract H enc W base args ds gs before hval hW hL hsz
theorem codeLists_said : Rows.CodeListsSaid :=
 OpenClaim.holds_of_cond 7 Tryd.f7 rfl rfl rfl rfl rfl rfl rfl ⟨rfl,rfl,rfl,rfl,rfl⟩ rfl rfl rfl rfl rfl (by kernel_rfl) Tryd.func7 (by kernel_rfl)
  (of_decide_eq_true (by kernel_rfl)) (by unfold Func.isWrapper;first | (rw[if_pos (by decide +kernel)];kernel_rfl) | (rw[if_neg (by decide +kernel)];exact⟨rfl,rfl⟩))
  (fun os started H enc _ F=>by rw[OpenClaim.pre_eq_preRow];exact codeLists_lifted os started H enc F)
theorem codeLists_plain (f : FuncId) (fn : Func) (hf : Tryd.pinned.checked.prog.funcNamed "fugue/fuguelaw01.CodeLists" = some f) (hfn : Tryd.pinned.checked.prog.funcs[f]? = some fn) :
 true=Tryd.pinned.checked.prog.looks []∧∀ (j:Nat) t,fn.params[j]?=some t→Tryd.pinned.checked.prog.wantsStandIn t=false:=by
 obtain rfl : f = 7 := Option.some.inj ((show Tryd.prog.funcNamed "fugue/fuguelaw01.CodeLists" = some 7 by kernel_rfl).symm.trans hf) |>.symm
 obtain rfl:fn=Tryd.f7:=(Option.some.inj (Tryd.func7.symm.trans hfn)).symm
 refine⟨by kernel_rfl,fun j t ht=>?_⟩
 rw[Tryd.params7] at ht
 obtain rfl:t=26:=by simpa using Array.mem_of_getElem? ht
 exact(show Tryd.prog.wantsStandIn 26=false by kernel_rfl)
theorem codeLists_card : Rows.CodeListsCardSaid :=
 Claim7.holds_tied_plain_at .later [] _ _ _ _ codeLists_said (fun _ h=>by cases h) (by kernel_rfl) (fun _ h=>by cases h) codeLists_row_tie rfl ⟨rfl,rfl⟩ (by kernel_rfl) rfl codeLists_plain (by kernel_rfl)
end Go.Proofs.YtingenonbkencaaDoor
