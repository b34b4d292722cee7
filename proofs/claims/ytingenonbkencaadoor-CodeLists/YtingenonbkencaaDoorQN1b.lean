import Derived.Test.YtingenonbkencaaDoorQE3J
set_option linter.unusedVariables false
set_option linter.unusedSimpArgs false
namespace Go.Proofs.YtingenonbkencaaDoor
open Go.RowKit (wrap32 wrap64)
set_option maxRecDepth 100000
set_option maxHeartbeats 1000000
theorem namesLeaf_5_0 (b:Nat)(w:World)(zr zs zt zn:Int)(aa ra:Option Addr)(la ca lr cr:Nat)(ht:(zt==0)=false)
 (hm:∀ p∈([(42,vF 80),(43,vF 80),(44,vN),(45,vN),(46,vN),(47,vN),(155,vI zr),(156,vI zs),(157,vI zt),(158,vI zn),(159,.slice aa la ca),(160,.slice ra lr cr)]:List (Nat × Value)),w.cell? ⟨b,p.1,none⟩=some p.2) :
 Calls Tryd.prog 93 #[pp b 42,pp b 154] w fun e w'=>e = .returned (.bool false)∧w'=w:=by
 have hz:∀ p∈([(42,zt,false)]:List (Nat × Int × Bool)),(p.2.1==0)=p.2.2:=fun p hp=>by
  simp only[List.mem_cons,List.not_mem_nil,or_false] at hp
  rcases hp with rfl
  ·exact ht
 have HM:=memOf_sound hm
 have HZ:=zzOf_sound hz
 clear hm hz
 go_enter Tryd.func93,Tryd.ntmps93
 iterate 11 go_step
 refine wpList_names 4 (.bool false) HM HZ (by kernel_rfl) (by kernel_rfl) (fun a' hx hd=>?_)
 simp only[Exit.then]
 go_wp2_with fail
 refine bodyPost_ret (v:=.bool false) (fn:=Tryd.f93) ?_ hd ⟨rfl,rfl⟩
 rw[results_tmp Tryd.results93,hx]
theorem namesLeaf_5_1 (b:Nat)(w:World)(zr zs zt zn:Int)(aa ra:Option Addr)(la ca lr cr:Nat)(ht:(zt==0)=true)(hn:(zn==0)=false)
 (hm:∀ p∈([(42,vF 80),(43,vF 80),(44,vN),(45,vN),(46,vN),(47,vN),(155,vI zr),(156,vI zs),(157,vI zt),(158,vI zn),(159,.slice aa la ca),(160,.slice ra lr cr)]:List (Nat × Value)),w.cell? ⟨b,p.1,none⟩=some p.2) :
 Calls Tryd.prog 93 #[pp b 42,pp b 154] w fun e w'=>e = .returned (.bool false)∧w'=w:=by
 have hz:∀ p∈([(42,zt,true),(56,zn,false)]:List (Nat × Int × Bool)),(p.2.1==0)=p.2.2:=fun p hp=>by
  simp only[List.mem_cons,List.not_mem_nil,or_false] at hp
  rcases hp with rfl | rfl
  ·exact ht
  ·exact hn
 have HM:=memOf_sound hm
 have HZ:=zzOf_sound hz
 clear hm hz
 go_enter Tryd.func93,Tryd.ntmps93
 iterate 11 go_step
 refine wpList_names 4 (.bool false) HM HZ (by kernel_rfl) (by kernel_rfl) (fun a' hx hd=>?_)
 simp only[Exit.then]
 go_wp2_with fail
 refine bodyPost_ret (v:=.bool false) (fn:=Tryd.f93) ?_ hd ⟨rfl,rfl⟩
 rw[results_tmp Tryd.results93,hx]
theorem namesLeaf_5_2 (b:Nat)(w:World)(zr zs zt zn:Int)(aa ra:Option Addr)(la ca lr cr:Nat)(ht:(zt==0)=true)(hn:(zn==0)=true)(ha:((la:Int)==0)=false)
 (hm:∀ p∈([(42,vF 80),(43,vF 80),(44,vN),(45,vN),(46,vN),(47,vN),(155,vI zr),(156,vI zs),(157,vI zt),(158,vI zn),(159,.slice aa la ca),(160,.slice ra lr cr)]:List (Nat × Value)),w.cell? ⟨b,p.1,none⟩=some p.2) :
 Calls Tryd.prog 93 #[pp b 42,pp b 154] w fun e w'=>e = .returned (.bool false)∧w'=w:=by
 have hz:∀ p∈([(42,zt,true),(56,zn,true),(71,(la:Int),false)]:List (Nat × Int × Bool)),(p.2.1==0)=p.2.2:=fun p hp=>by
  simp only[List.mem_cons,List.not_mem_nil,or_false] at hp
  rcases hp with rfl | rfl | rfl
  ·exact ht
  ·exact hn
  ·exact ha
 have HM:=memOf_sound hm
 have HZ:=zzOf_sound hz
 clear hm hz
 go_enter Tryd.func93,Tryd.ntmps93
 iterate 11 go_step
 refine wpList_names 4 (.bool false) HM HZ (by kernel_rfl) (by kernel_rfl) (fun a' hx hd=>?_)
 simp only[Exit.then]
 go_wp2_with fail
 refine bodyPost_ret (v:=.bool false) (fn:=Tryd.f93) ?_ hd ⟨rfl,rfl⟩
 rw[results_tmp Tryd.results93,hx]
theorem namesLeaf_5_3 (b:Nat)(w:World)(zr zs zt zn:Int)(aa ra:Option Addr)(la ca lr cr:Nat)(ht:(zt==0)=true)(hn:(zn==0)=true)(ha:((la:Int)==0)=true)(he:((lr:Int)==0)=false)
 (hm:∀ p∈([(42,vF 80),(43,vF 80),(44,vN),(45,vN),(46,vN),(47,vN),(155,vI zr),(156,vI zs),(157,vI zt),(158,vI zn),(159,.slice aa la ca),(160,.slice ra lr cr)]:List (Nat × Value)),w.cell? ⟨b,p.1,none⟩=some p.2) :
 Calls Tryd.prog 93 #[pp b 42,pp b 154] w fun e w'=>e = .returned (.bool false)∧w'=w:=by
 have hz:∀ p∈([(42,zt,true),(56,zn,true),(71,(la:Int),true),(86,(lr:Int),false)]:List (Nat × Int × Bool)),(p.2.1==0)=p.2.2:=fun p hp=>by
  simp only[List.mem_cons,List.not_mem_nil,or_false] at hp
  rcases hp with rfl | rfl | rfl | rfl
  ·exact ht
  ·exact hn
  ·exact ha
  ·exact he
 have HM:=memOf_sound hm
 have HZ:=zzOf_sound hz
 clear hm hz
 go_enter Tryd.func93,Tryd.ntmps93
 iterate 11 go_step
 refine wpList_names 4 (.bool false) HM HZ (by kernel_rfl) (by kernel_rfl) (fun a' hx hd=>?_)
 simp only[Exit.then]
 go_wp2_with fail
 refine bodyPost_ret (v:=.bool false) (fn:=Tryd.f93) ?_ hd ⟨rfl,rfl⟩
 rw[results_tmp Tryd.results93,hx]
theorem namesLeaf_5_4 (b:Nat)(w:World)(zr zs zt zn:Int)(aa ra:Option Addr)(la ca lr cr:Nat)(ht:(zt==0)=true)(hn:(zn==0)=true)(ha:((la:Int)==0)=true)(he:((lr:Int)==0)=true)
 (hm:∀ p∈([(42,vF 80),(43,vF 80),(44,vN),(45,vN),(46,vN),(47,vN),(155,vI zr),(156,vI zs),(157,vI zt),(158,vI zn),(159,.slice aa la ca),(160,.slice ra lr cr)]:List (Nat × Value)),w.cell? ⟨b,p.1,none⟩=some p.2) :
 Calls Tryd.prog 93 #[pp b 42,pp b 154] w fun e w'=>e = .returned (.bool true)∧w'=w:=by
 have hz:∀ p∈([(42,zt,true),(56,zn,true),(71,(la:Int),true),(86,(lr:Int),true)]:List (Nat × Int × Bool)),(p.2.1==0)=p.2.2:=fun p hp=>by
  simp only[List.mem_cons,List.not_mem_nil,or_false] at hp
  rcases hp with rfl | rfl | rfl | rfl
  ·exact ht
  ·exact hn
  ·exact ha
  ·exact he
 have HM:=memOf_sound hm
 have HZ:=zzOf_sound hz
 clear hm hz
 go_enter Tryd.func93,Tryd.ntmps93
 iterate 11 go_step
 refine wpList_names 4 (.bool true) HM HZ (by kernel_rfl) (by kernel_rfl) (fun a' hx hd=>?_)
 simp only[Exit.then]
 go_wp2_with fail
 refine bodyPost_ret (v:=.bool true) (fn:=Tryd.f93) ?_ hd ⟨rfl,rfl⟩
 rw[results_tmp Tryd.results93,hx]
theorem namesAll_g5 {b:Nat}(s:WS)(w:World)(h:Lies w b s)(aa ra:Option Addr)(la ca lr cr:Nat)(ha:s.args = .slice aa la ca)(hr:s.rets = .slice ra lr cr) :
 Calls Tryd.prog 93 #[.pointer (some ⟨b,42,none⟩),.pointer (some ⟨b,154,none⟩)] w fun e w'=>e = .returned (.bool ((s.t==0)&&(s.n==0)&&((la:Int)==0)&&((lr:Int)==0)))∧w'=w:=by
 have r0:w.cell? ⟨b,42,none⟩=some (vF 80):=by rw[h.cell];kernel_rfl
 have r1:w.cell? ⟨b,43,none⟩=some (vF 80):=by rw[h.cell];kernel_rfl
 have r2:w.cell? ⟨b,44,none⟩=some (vN):=by rw[h.cell];kernel_rfl
 have r3:w.cell? ⟨b,45,none⟩=some (vN):=by rw[h.cell];kernel_rfl
 have r4:w.cell? ⟨b,46,none⟩=some (vN):=by rw[h.cell];kernel_rfl
 have r5:w.cell? ⟨b,47,none⟩=some (vN):=by rw[h.cell];kernel_rfl
 have x1:w.cell? ⟨b,155,none⟩=some (vI s.r):=h.facts.2.2.2.2.2.2.2.2.2.2.2.1
 have x2:w.cell? ⟨b,156,none⟩=some (vI s.s):=h.facts.2.2.2.2.2.2.2.2.2.2.2.2.1
 have x3:w.cell? ⟨b,157,none⟩=some (vI s.t):=h.facts.2.2.2.2.2.2.2.2.2.2.2.2.2.1
 have x4:w.cell? ⟨b,158,none⟩=some (vI s.n):=h.facts.2.2.2.2.2.2.2.2.2.2.2.2.2.2.1
 have x5:w.cell? ⟨b,159,none⟩=some (.slice aa la ca):=by rw[h.facts.2.2.2.2.2.2.2.2.2.2.2.2.2.2.2.1,ha]
 have x6:w.cell? ⟨b,160,none⟩=some (.slice ra lr cr):=by rw[h.facts.2.2.2.2.2.2.2.2.2.2.2.2.2.2.2.2.1,hr]
 generalize s.r=zr at *
 generalize s.s=zs at *
 generalize s.t=zt at *
 generalize s.n=zn at *
 have hm:∀ p∈([(42,vF 80),(43,vF 80),(44,vN),(45,vN),(46,vN),(47,vN),(155,vI zr),(156,vI zs),(157,vI zt),(158,vI zn),(159,.slice aa la ca),(160,.slice ra lr cr)]:List (Nat × Value)),w.cell? ⟨b,p.1,none⟩=some p.2:=fun p hp=>by
  simp only[List.mem_cons,List.not_mem_nil,or_false] at hp
  rcases hp with rfl | rfl | rfl | rfl | rfl | rfl | rfl | rfl | rfl | rfl | rfl | rfl
  ·exact r0
  ·exact r1
  ·exact r2
  ·exact r3
  ·exact r4
  ·exact r5
  ·exact x1
  ·exact x2
  ·exact x3
  ·exact x4
  ·exact x5
  ·exact x6
 clear r0 r1 r2 r3 r4 r5 x1 x2 x3 x4 x5 x6 h ha hr
 cases ht:(zt==0)
 ·exact(namesLeaf_5_0 b w zr zs zt zn aa ra la ca lr cr ht hm).mono (fun e w' he=>⟨by rw[he.1];rfl,he.2⟩)
 cases hn:(zn==0)
 ·exact(namesLeaf_5_1 b w zr zs zt zn aa ra la ca lr cr ht hn hm).mono (fun e w' he=>⟨by rw[he.1];rfl,he.2⟩)
 cases ha:((la:Int)==0)
 ·exact(namesLeaf_5_2 b w zr zs zt zn aa ra la ca lr cr ht hn ha hm).mono (fun e w' he=>⟨by rw[he.1];rfl,he.2⟩)
 cases he:((lr:Int)==0)
 ·exact(namesLeaf_5_3 b w zr zs zt zn aa ra la ca lr cr ht hn ha he hm).mono (fun e w' he=>⟨by rw[he.1];rfl,he.2⟩)
 exact(namesLeaf_5_4 b w zr zs zt zn aa ra la ca lr cr ht hn ha he hm).mono (fun e w' he=>⟨by rw[he.1];rfl,he.2⟩)
theorem namesLeaf_6_0 (b:Nat)(w:World)(zr zs zt zn:Int)(aa ra:Option Addr)(la ca lr cr:Nat)(hs:(zs==0)=false)
 (hm:∀ p∈([(50,vF 80),(51,vN),(52,vN),(53,vF 82),(54,vN),(55,vN),(155,vI zr),(156,vI zs),(157,vI zt),(158,vI zn),(159,.slice aa la ca),(160,.slice ra lr cr)]:List (Nat × Value)),w.cell? ⟨b,p.1,none⟩=some p.2) :
 Calls Tryd.prog 93 #[pp b 50,pp b 154] w fun e w'=>e = .returned (.bool false)∧w'=w:=by
 have hz:∀ p∈([(28,zs,false)]:List (Nat × Int × Bool)),(p.2.1==0)=p.2.2:=fun p hp=>by
  simp only[List.mem_cons,List.not_mem_nil,or_false] at hp
  rcases hp with rfl
  ·exact hs
 have HM:=memOf_sound hm
 have HZ:=zzOf_sound hz
 clear hm hz
 go_enter Tryd.func93,Tryd.ntmps93
 iterate 11 go_step
 refine wpList_names 4 (.bool false) HM HZ (by kernel_rfl) (by kernel_rfl) (fun a' hx hd=>?_)
 simp only[Exit.then]
 go_wp2_with fail
 refine bodyPost_ret (v:=.bool false) (fn:=Tryd.f93) ?_ hd ⟨rfl,rfl⟩
 rw[results_tmp Tryd.results93,hx]
theorem namesLeaf_6_1 (b:Nat)(w:World)(zr zs zt zn:Int)(aa ra:Option Addr)(la ca lr cr:Nat)(hs:(zs==0)=true)(ht:(zt==0)=false)
 (hm:∀ p∈([(50,vF 80),(51,vN),(52,vN),(53,vF 82),(54,vN),(55,vN),(155,vI zr),(156,vI zs),(157,vI zt),(158,vI zn),(159,.slice aa la ca),(160,.slice ra lr cr)]:List (Nat × Value)),w.cell? ⟨b,p.1,none⟩=some p.2) :
 Calls Tryd.prog 93 #[pp b 50,pp b 154] w fun e w'=>e = .returned (.bool false)∧w'=w:=by
 have hz:∀ p∈([(28,zs,true),(42,zt,false)]:List (Nat × Int × Bool)),(p.2.1==0)=p.2.2:=fun p hp=>by
  simp only[List.mem_cons,List.not_mem_nil,or_false] at hp
  rcases hp with rfl | rfl
  ·exact hs
  ·exact ht
 have HM:=memOf_sound hm
 have HZ:=zzOf_sound hz
 clear hm hz
 go_enter Tryd.func93,Tryd.ntmps93
 iterate 11 go_step
 refine wpList_names 4 (.bool false) HM HZ (by kernel_rfl) (by kernel_rfl) (fun a' hx hd=>?_)
 simp only[Exit.then]
 go_wp2_with fail
 refine bodyPost_ret (v:=.bool false) (fn:=Tryd.f93) ?_ hd ⟨rfl,rfl⟩
 rw[results_tmp Tryd.results93,hx]
theorem namesLeaf_6_2 (b:Nat)(w:World)(zr zs zt zn:Int)(aa ra:Option Addr)(la ca lr cr:Nat)(hs:(zs==0)=true)(ht:(zt==0)=true)(ha:((la:Int)==0)=false)
 (hm:∀ p∈([(50,vF 80),(51,vN),(52,vN),(53,vF 82),(54,vN),(55,vN),(155,vI zr),(156,vI zs),(157,vI zt),(158,vI zn),(159,.slice aa la ca),(160,.slice ra lr cr)]:List (Nat × Value)),w.cell? ⟨b,p.1,none⟩=some p.2) :
 Calls Tryd.prog 93 #[pp b 50,pp b 154] w fun e w'=>e = .returned (.bool false)∧w'=w:=by
 have hz:∀ p∈([(28,zs,true),(42,zt,true),(71,(la:Int),false)]:List (Nat × Int × Bool)),(p.2.1==0)=p.2.2:=fun p hp=>by
  simp only[List.mem_cons,List.not_mem_nil,or_false] at hp
  rcases hp with rfl | rfl | rfl
  ·exact hs
  ·exact ht
  ·exact ha
 have HM:=memOf_sound hm
 have HZ:=zzOf_sound hz
 clear hm hz
 go_enter Tryd.func93,Tryd.ntmps93
 iterate 11 go_step
 refine wpList_names 4 (.bool false) HM HZ (by kernel_rfl) (by kernel_rfl) (fun a' hx hd=>?_)
 simp only[Exit.then]
 go_wp2_with fail
 refine bodyPost_ret (v:=.bool false) (fn:=Tryd.f93) ?_ hd ⟨rfl,rfl⟩
 rw[results_tmp Tryd.results93,hx]
theorem namesLeaf_6_3 (b:Nat)(w:World)(zr zs zt zn:Int)(aa ra:Option Addr)(la ca lr cr:Nat)(hs:(zs==0)=true)(ht:(zt==0)=true)(ha:((la:Int)==0)=true)(he:((lr:Int)==0)=false)
 (hm:∀ p∈([(50,vF 80),(51,vN),(52,vN),(53,vF 82),(54,vN),(55,vN),(155,vI zr),(156,vI zs),(157,vI zt),(158,vI zn),(159,.slice aa la ca),(160,.slice ra lr cr)]:List (Nat × Value)),w.cell? ⟨b,p.1,none⟩=some p.2) :
 Calls Tryd.prog 93 #[pp b 50,pp b 154] w fun e w'=>e = .returned (.bool false)∧w'=w:=by
 have hz:∀ p∈([(28,zs,true),(42,zt,true),(71,(la:Int),true),(86,(lr:Int),false)]:List (Nat × Int × Bool)),(p.2.1==0)=p.2.2:=fun p hp=>by
  simp only[List.mem_cons,List.not_mem_nil,or_false] at hp
  rcases hp with rfl | rfl | rfl | rfl
  ·exact hs
  ·exact ht
  ·exact ha
  ·exact he
 have HM:=memOf_sound hm
 have HZ:=zzOf_sound hz
 clear hm hz
 go_enter Tryd.func93,Tryd.ntmps93
 iterate 11 go_step
 refine wpList_names 4 (.bool false) HM HZ (by kernel_rfl) (by kernel_rfl) (fun a' hx hd=>?_)
 simp only[Exit.then]
 go_wp2_with fail
 refine bodyPost_ret (v:=.bool false) (fn:=Tryd.f93) ?_ hd ⟨rfl,rfl⟩
 rw[results_tmp Tryd.results93,hx]
theorem namesLeaf_6_4 (b:Nat)(w:World)(zr zs zt zn:Int)(aa ra:Option Addr)(la ca lr cr:Nat)(hs:(zs==0)=true)(ht:(zt==0)=true)(ha:((la:Int)==0)=true)(he:((lr:Int)==0)=true)
 (hm:∀ p∈([(50,vF 80),(51,vN),(52,vN),(53,vF 82),(54,vN),(55,vN),(155,vI zr),(156,vI zs),(157,vI zt),(158,vI zn),(159,.slice aa la ca),(160,.slice ra lr cr)]:List (Nat × Value)),w.cell? ⟨b,p.1,none⟩=some p.2) :
 Calls Tryd.prog 93 #[pp b 50,pp b 154] w fun e w'=>e = .returned (.bool true)∧w'=w:=by
 have hz:∀ p∈([(28,zs,true),(42,zt,true),(71,(la:Int),true),(86,(lr:Int),true)]:List (Nat × Int × Bool)),(p.2.1==0)=p.2.2:=fun p hp=>by
  simp only[List.mem_cons,List.not_mem_nil,or_false] at hp
  rcases hp with rfl | rfl | rfl | rfl
  ·exact hs
  ·exact ht
  ·exact ha
  ·exact he
 have HM:=memOf_sound hm
 have HZ:=zzOf_sound hz
 clear hm hz
 go_enter Tryd.func93,Tryd.ntmps93
 iterate 11 go_step
 refine wpList_names 4 (.bool true) HM HZ (by kernel_rfl) (by kernel_rfl) (fun a' hx hd=>?_)
 simp only[Exit.then]
 go_wp2_with fail
 refine bodyPost_ret (v:=.bool true) (fn:=Tryd.f93) ?_ hd ⟨rfl,rfl⟩
 rw[results_tmp Tryd.results93,hx]
theorem namesAll_g6 {b:Nat}(s:WS)(w:World)(h:Lies w b s)(aa ra:Option Addr)(la ca lr cr:Nat)(ha:s.args = .slice aa la ca)(hr:s.rets = .slice ra lr cr) :
 Calls Tryd.prog 93 #[.pointer (some ⟨b,50,none⟩),.pointer (some ⟨b,154,none⟩)] w fun e w'=>e = .returned (.bool ((s.s==0)&&(s.t==0)&&((la:Int)==0)&&((lr:Int)==0)))∧w'=w:=by
 have r0:w.cell? ⟨b,50,none⟩=some (vF 80):=by rw[h.cell];kernel_rfl
 have r1:w.cell? ⟨b,51,none⟩=some (vN):=by rw[h.cell];kernel_rfl
 have r2:w.cell? ⟨b,52,none⟩=some (vN):=by rw[h.cell];kernel_rfl
 have r3:w.cell? ⟨b,53,none⟩=some (vF 82):=by rw[h.cell];kernel_rfl
 have r4:w.cell? ⟨b,54,none⟩=some (vN):=by rw[h.cell];kernel_rfl
 have r5:w.cell? ⟨b,55,none⟩=some (vN):=by rw[h.cell];kernel_rfl
 have x1:w.cell? ⟨b,155,none⟩=some (vI s.r):=h.facts.2.2.2.2.2.2.2.2.2.2.2.1
 have x2:w.cell? ⟨b,156,none⟩=some (vI s.s):=h.facts.2.2.2.2.2.2.2.2.2.2.2.2.1
 have x3:w.cell? ⟨b,157,none⟩=some (vI s.t):=h.facts.2.2.2.2.2.2.2.2.2.2.2.2.2.1
 have x4:w.cell? ⟨b,158,none⟩=some (vI s.n):=h.facts.2.2.2.2.2.2.2.2.2.2.2.2.2.2.1
 have x5:w.cell? ⟨b,159,none⟩=some (.slice aa la ca):=by rw[h.facts.2.2.2.2.2.2.2.2.2.2.2.2.2.2.2.1,ha]
 have x6:w.cell? ⟨b,160,none⟩=some (.slice ra lr cr):=by rw[h.facts.2.2.2.2.2.2.2.2.2.2.2.2.2.2.2.2.1,hr]
 generalize s.r=zr at *
 generalize s.s=zs at *
 generalize s.t=zt at *
 generalize s.n=zn at *
 have hm:∀ p∈([(50,vF 80),(51,vN),(52,vN),(53,vF 82),(54,vN),(55,vN),(155,vI zr),(156,vI zs),(157,vI zt),(158,vI zn),(159,.slice aa la ca),(160,.slice ra lr cr)]:List (Nat × Value)),w.cell? ⟨b,p.1,none⟩=some p.2:=fun p hp=>by
  simp only[List.mem_cons,List.not_mem_nil,or_false] at hp
  rcases hp with rfl | rfl | rfl | rfl | rfl | rfl | rfl | rfl | rfl | rfl | rfl | rfl
  ·exact r0
  ·exact r1
  ·exact r2
  ·exact r3
  ·exact r4
  ·exact r5
  ·exact x1
  ·exact x2
  ·exact x3
  ·exact x4
  ·exact x5
  ·exact x6
 clear r0 r1 r2 r3 r4 r5 x1 x2 x3 x4 x5 x6 h ha hr
 cases hs:(zs==0)
 ·exact(namesLeaf_6_0 b w zr zs zt zn aa ra la ca lr cr hs hm).mono (fun e w' he=>⟨by rw[he.1];rfl,he.2⟩)
 cases ht:(zt==0)
 ·exact(namesLeaf_6_1 b w zr zs zt zn aa ra la ca lr cr hs ht hm).mono (fun e w' he=>⟨by rw[he.1];rfl,he.2⟩)
 cases ha:((la:Int)==0)
 ·exact(namesLeaf_6_2 b w zr zs zt zn aa ra la ca lr cr hs ht ha hm).mono (fun e w' he=>⟨by rw[he.1];rfl,he.2⟩)
 cases he:((lr:Int)==0)
 ·exact(namesLeaf_6_3 b w zr zs zt zn aa ra la ca lr cr hs ht ha he hm).mono (fun e w' he=>⟨by rw[he.1];rfl,he.2⟩)
 exact(namesLeaf_6_4 b w zr zs zt zn aa ra la ca lr cr hs ht ha he hm).mono (fun e w' he=>⟨by rw[he.1];rfl,he.2⟩)
theorem namesLeaf_7_0 (b:Nat)(w:World)(zr zs zt zn:Int)(aa ra:Option Addr)(la ca lr cr:Nat)(ht:(zt==0)=false)
 (hm:∀ p∈([(58,vF 80),(59,vF 80),(60,vN),(61,vF 83),(62,vN),(63,vN),(155,vI zr),(156,vI zs),(157,vI zt),(158,vI zn),(159,.slice aa la ca),(160,.slice ra lr cr)]:List (Nat × Value)),w.cell? ⟨b,p.1,none⟩=some p.2) :
 Calls Tryd.prog 93 #[pp b 58,pp b 154] w fun e w'=>e = .returned (.bool false)∧w'=w:=by
 have hz:∀ p∈([(42,zt,false)]:List (Nat × Int × Bool)),(p.2.1==0)=p.2.2:=fun p hp=>by
  simp only[List.mem_cons,List.not_mem_nil,or_false] at hp
  rcases hp with rfl
  ·exact ht
 have HM:=memOf_sound hm
 have HZ:=zzOf_sound hz
 clear hm hz
 go_enter Tryd.func93,Tryd.ntmps93
 iterate 11 go_step
 refine wpList_names 4 (.bool false) HM HZ (by kernel_rfl) (by kernel_rfl) (fun a' hx hd=>?_)
 simp only[Exit.then]
 go_wp2_with fail
 refine bodyPost_ret (v:=.bool false) (fn:=Tryd.f93) ?_ hd ⟨rfl,rfl⟩
 rw[results_tmp Tryd.results93,hx]
theorem namesLeaf_7_1 (b:Nat)(w:World)(zr zs zt zn:Int)(aa ra:Option Addr)(la ca lr cr:Nat)(ht:(zt==0)=true)(ha:((la:Int)==0)=false)
 (hm:∀ p∈([(58,vF 80),(59,vF 80),(60,vN),(61,vF 83),(62,vN),(63,vN),(155,vI zr),(156,vI zs),(157,vI zt),(158,vI zn),(159,.slice aa la ca),(160,.slice ra lr cr)]:List (Nat × Value)),w.cell? ⟨b,p.1,none⟩=some p.2) :
 Calls Tryd.prog 93 #[pp b 58,pp b 154] w fun e w'=>e = .returned (.bool false)∧w'=w:=by
 have hz:∀ p∈([(42,zt,true),(71,(la:Int),false)]:List (Nat × Int × Bool)),(p.2.1==0)=p.2.2:=fun p hp=>by
  simp only[List.mem_cons,List.not_mem_nil,or_false] at hp
  rcases hp with rfl | rfl
  ·exact ht
  ·exact ha
 have HM:=memOf_sound hm
 have HZ:=zzOf_sound hz
 clear hm hz
 go_enter Tryd.func93,Tryd.ntmps93
 iterate 11 go_step
 refine wpList_names 4 (.bool false) HM HZ (by kernel_rfl) (by kernel_rfl) (fun a' hx hd=>?_)
 simp only[Exit.then]
 go_wp2_with fail
 refine bodyPost_ret (v:=.bool false) (fn:=Tryd.f93) ?_ hd ⟨rfl,rfl⟩
 rw[results_tmp Tryd.results93,hx]
theorem namesLeaf_7_2 (b:Nat)(w:World)(zr zs zt zn:Int)(aa ra:Option Addr)(la ca lr cr:Nat)(ht:(zt==0)=true)(ha:((la:Int)==0)=true)(he:((lr:Int)==0)=false)
 (hm:∀ p∈([(58,vF 80),(59,vF 80),(60,vN),(61,vF 83),(62,vN),(63,vN),(155,vI zr),(156,vI zs),(157,vI zt),(158,vI zn),(159,.slice aa la ca),(160,.slice ra lr cr)]:List (Nat × Value)),w.cell? ⟨b,p.1,none⟩=some p.2) :
 Calls Tryd.prog 93 #[pp b 58,pp b 154] w fun e w'=>e = .returned (.bool false)∧w'=w:=by
 have hz:∀ p∈([(42,zt,true),(71,(la:Int),true),(86,(lr:Int),false)]:List (Nat × Int × Bool)),(p.2.1==0)=p.2.2:=fun p hp=>by
  simp only[List.mem_cons,List.not_mem_nil,or_false] at hp
  rcases hp with rfl | rfl | rfl
  ·exact ht
  ·exact ha
  ·exact he
 have HM:=memOf_sound hm
 have HZ:=zzOf_sound hz
 clear hm hz
 go_enter Tryd.func93,Tryd.ntmps93
 iterate 11 go_step
 refine wpList_names 4 (.bool false) HM HZ (by kernel_rfl) (by kernel_rfl) (fun a' hx hd=>?_)
 simp only[Exit.then]
 go_wp2_with fail
 refine bodyPost_ret (v:=.bool false) (fn:=Tryd.f93) ?_ hd ⟨rfl,rfl⟩
 rw[results_tmp Tryd.results93,hx]
theorem namesLeaf_7_3 (b:Nat)(w:World)(zr zs zt zn:Int)(aa ra:Option Addr)(la ca lr cr:Nat)(ht:(zt==0)=true)(ha:((la:Int)==0)=true)(he:((lr:Int)==0)=true)
 (hm:∀ p∈([(58,vF 80),(59,vF 80),(60,vN),(61,vF 83),(62,vN),(63,vN),(155,vI zr),(156,vI zs),(157,vI zt),(158,vI zn),(159,.slice aa la ca),(160,.slice ra lr cr)]:List (Nat × Value)),w.cell? ⟨b,p.1,none⟩=some p.2) :
 Calls Tryd.prog 93 #[pp b 58,pp b 154] w fun e w'=>e = .returned (.bool true)∧w'=w:=by
 have hz:∀ p∈([(42,zt,true),(71,(la:Int),true),(86,(lr:Int),true)]:List (Nat × Int × Bool)),(p.2.1==0)=p.2.2:=fun p hp=>by
  simp only[List.mem_cons,List.not_mem_nil,or_false] at hp
  rcases hp with rfl | rfl | rfl
  ·exact ht
  ·exact ha
  ·exact he
 have HM:=memOf_sound hm
 have HZ:=zzOf_sound hz
 clear hm hz
 go_enter Tryd.func93,Tryd.ntmps93
 iterate 11 go_step
 refine wpList_names 4 (.bool true) HM HZ (by kernel_rfl) (by kernel_rfl) (fun a' hx hd=>?_)
 simp only[Exit.then]
 go_wp2_with fail
 refine bodyPost_ret (v:=.bool true) (fn:=Tryd.f93) ?_ hd ⟨rfl,rfl⟩
 rw[results_tmp Tryd.results93,hx]
theorem namesAll_g7 {b:Nat}(s:WS)(w:World)(h:Lies w b s)(aa ra:Option Addr)(la ca lr cr:Nat)(ha:s.args = .slice aa la ca)(hr:s.rets = .slice ra lr cr) :
 Calls Tryd.prog 93 #[.pointer (some ⟨b,58,none⟩),.pointer (some ⟨b,154,none⟩)] w fun e w'=>e = .returned (.bool ((s.t==0)&&((la:Int)==0)&&((lr:Int)==0)))∧w'=w:=by
 have r0:w.cell? ⟨b,58,none⟩=some (vF 80):=by rw[h.cell];kernel_rfl
 have r1:w.cell? ⟨b,59,none⟩=some (vF 80):=by rw[h.cell];kernel_rfl
 have r2:w.cell? ⟨b,60,none⟩=some (vN):=by rw[h.cell];kernel_rfl
 have r3:w.cell? ⟨b,61,none⟩=some (vF 83):=by rw[h.cell];kernel_rfl
 have r4:w.cell? ⟨b,62,none⟩=some (vN):=by rw[h.cell];kernel_rfl
 have r5:w.cell? ⟨b,63,none⟩=some (vN):=by rw[h.cell];kernel_rfl
 have x1:w.cell? ⟨b,155,none⟩=some (vI s.r):=h.facts.2.2.2.2.2.2.2.2.2.2.2.1
 have x2:w.cell? ⟨b,156,none⟩=some (vI s.s):=h.facts.2.2.2.2.2.2.2.2.2.2.2.2.1
 have x3:w.cell? ⟨b,157,none⟩=some (vI s.t):=h.facts.2.2.2.2.2.2.2.2.2.2.2.2.2.1
 have x4:w.cell? ⟨b,158,none⟩=some (vI s.n):=h.facts.2.2.2.2.2.2.2.2.2.2.2.2.2.2.1
 have x5:w.cell? ⟨b,159,none⟩=some (.slice aa la ca):=by rw[h.facts.2.2.2.2.2.2.2.2.2.2.2.2.2.2.2.1,ha]
 have x6:w.cell? ⟨b,160,none⟩=some (.slice ra lr cr):=by rw[h.facts.2.2.2.2.2.2.2.2.2.2.2.2.2.2.2.2.1,hr]
 generalize s.r=zr at *
 generalize s.s=zs at *
 generalize s.t=zt at *
 generalize s.n=zn at *
 have hm:∀ p∈([(58,vF 80),(59,vF 80),(60,vN),(61,vF 83),(62,vN),(63,vN),(155,vI zr),(156,vI zs),(157,vI zt),(158,vI zn),(159,.slice aa la ca),(160,.slice ra lr cr)]:List (Nat × Value)),w.cell? ⟨b,p.1,none⟩=some p.2:=fun p hp=>by
  simp only[List.mem_cons,List.not_mem_nil,or_false] at hp
  rcases hp with rfl | rfl | rfl | rfl | rfl | rfl | rfl | rfl | rfl | rfl | rfl | rfl
  ·exact r0
  ·exact r1
  ·exact r2
  ·exact r3
  ·exact r4
  ·exact r5
  ·exact x1
  ·exact x2
  ·exact x3
  ·exact x4
  ·exact x5
  ·exact x6
 clear r0 r1 r2 r3 r4 r5 x1 x2 x3 x4 x5 x6 h ha hr
 cases ht:(zt==0)
 ·exact(namesLeaf_7_0 b w zr zs zt zn aa ra la ca lr cr ht hm).mono (fun e w' he=>⟨by rw[he.1];rfl,he.2⟩)
 cases ha:((la:Int)==0)
 ·exact(namesLeaf_7_1 b w zr zs zt zn aa ra la ca lr cr ht ha hm).mono (fun e w' he=>⟨by rw[he.1];rfl,he.2⟩)
 cases he:((lr:Int)==0)
 ·exact(namesLeaf_7_2 b w zr zs zt zn aa ra la ca lr cr ht ha he hm).mono (fun e w' he=>⟨by rw[he.1];rfl,he.2⟩)
 exact(namesLeaf_7_3 b w zr zs zt zn aa ra la ca lr cr ht ha he hm).mono (fun e w' he=>⟨by rw[he.1];rfl,he.2⟩)
theorem namesLeaf_8_0 (b:Nat)(w:World)(zr zs zt zn:Int)(aa ra:Option Addr)(la ca lr cr:Nat)(ht:(zt==0)=false)
 (hm:∀ p∈([(66,vF 80),(67,vF 80),(68,vN),(69,vF 83),(70,vN),(71,vN),(155,vI zr),(156,vI zs),(157,vI zt),(158,vI zn),(159,.slice aa la ca),(160,.slice ra lr cr)]:List (Nat × Value)),w.cell? ⟨b,p.1,none⟩=some p.2) :
 Calls Tryd.prog 93 #[pp b 66,pp b 154] w fun e w'=>e = .returned (.bool false)∧w'=w:=by
 have hz:∀ p∈([(42,zt,false)]:List (Nat × Int × Bool)),(p.2.1==0)=p.2.2:=fun p hp=>by
  simp only[List.mem_cons,List.not_mem_nil,or_false] at hp
  rcases hp with rfl
  ·exact ht
 have HM:=memOf_sound hm
 have HZ:=zzOf_sound hz
 clear hm hz
 go_enter Tryd.func93,Tryd.ntmps93
 iterate 11 go_step
 refine wpList_names 4 (.bool false) HM HZ (by kernel_rfl) (by kernel_rfl) (fun a' hx hd=>?_)
 simp only[Exit.then]
 go_wp2_with fail
 refine bodyPost_ret (v:=.bool false) (fn:=Tryd.f93) ?_ hd ⟨rfl,rfl⟩
 rw[results_tmp Tryd.results93,hx]
theorem namesLeaf_8_1 (b:Nat)(w:World)(zr zs zt zn:Int)(aa ra:Option Addr)(la ca lr cr:Nat)(ht:(zt==0)=true)(ha:((la:Int)==0)=false)
 (hm:∀ p∈([(66,vF 80),(67,vF 80),(68,vN),(69,vF 83),(70,vN),(71,vN),(155,vI zr),(156,vI zs),(157,vI zt),(158,vI zn),(159,.slice aa la ca),(160,.slice ra lr cr)]:List (Nat × Value)),w.cell? ⟨b,p.1,none⟩=some p.2) :
 Calls Tryd.prog 93 #[pp b 66,pp b 154] w fun e w'=>e = .returned (.bool false)∧w'=w:=by
 have hz:∀ p∈([(42,zt,true),(71,(la:Int),false)]:List (Nat × Int × Bool)),(p.2.1==0)=p.2.2:=fun p hp=>by
  simp only[List.mem_cons,List.not_mem_nil,or_false] at hp
  rcases hp with rfl | rfl
  ·exact ht
  ·exact ha
 have HM:=memOf_sound hm
 have HZ:=zzOf_sound hz
 clear hm hz
 go_enter Tryd.func93,Tryd.ntmps93
 iterate 11 go_step
 refine wpList_names 4 (.bool false) HM HZ (by kernel_rfl) (by kernel_rfl) (fun a' hx hd=>?_)
 simp only[Exit.then]
 go_wp2_with fail
 refine bodyPost_ret (v:=.bool false) (fn:=Tryd.f93) ?_ hd ⟨rfl,rfl⟩
 rw[results_tmp Tryd.results93,hx]
theorem namesLeaf_8_2 (b:Nat)(w:World)(zr zs zt zn:Int)(aa ra:Option Addr)(la ca lr cr:Nat)(ht:(zt==0)=true)(ha:((la:Int)==0)=true)(he:((lr:Int)==0)=false)
 (hm:∀ p∈([(66,vF 80),(67,vF 80),(68,vN),(69,vF 83),(70,vN),(71,vN),(155,vI zr),(156,vI zs),(157,vI zt),(158,vI zn),(159,.slice aa la ca),(160,.slice ra lr cr)]:List (Nat × Value)),w.cell? ⟨b,p.1,none⟩=some p.2) :
 Calls Tryd.prog 93 #[pp b 66,pp b 154] w fun e w'=>e = .returned (.bool false)∧w'=w:=by
 have hz:∀ p∈([(42,zt,true),(71,(la:Int),true),(86,(lr:Int),false)]:List (Nat × Int × Bool)),(p.2.1==0)=p.2.2:=fun p hp=>by
  simp only[List.mem_cons,List.not_mem_nil,or_false] at hp
  rcases hp with rfl | rfl | rfl
  ·exact ht
  ·exact ha
  ·exact he
 have HM:=memOf_sound hm
 have HZ:=zzOf_sound hz
 clear hm hz
 go_enter Tryd.func93,Tryd.ntmps93
 iterate 11 go_step
 refine wpList_names 4 (.bool false) HM HZ (by kernel_rfl) (by kernel_rfl) (fun a' hx hd=>?_)
 simp only[Exit.then]
 go_wp2_with fail
 refine bodyPost_ret (v:=.bool false) (fn:=Tryd.f93) ?_ hd ⟨rfl,rfl⟩
 rw[results_tmp Tryd.results93,hx]
theorem namesLeaf_8_3 (b:Nat)(w:World)(zr zs zt zn:Int)(aa ra:Option Addr)(la ca lr cr:Nat)(ht:(zt==0)=true)(ha:((la:Int)==0)=true)(he:((lr:Int)==0)=true)
 (hm:∀ p∈([(66,vF 80),(67,vF 80),(68,vN),(69,vF 83),(70,vN),(71,vN),(155,vI zr),(156,vI zs),(157,vI zt),(158,vI zn),(159,.slice aa la ca),(160,.slice ra lr cr)]:List (Nat × Value)),w.cell? ⟨b,p.1,none⟩=some p.2) :
 Calls Tryd.prog 93 #[pp b 66,pp b 154] w fun e w'=>e = .returned (.bool true)∧w'=w:=by
 have hz:∀ p∈([(42,zt,true),(71,(la:Int),true),(86,(lr:Int),true)]:List (Nat × Int × Bool)),(p.2.1==0)=p.2.2:=fun p hp=>by
  simp only[List.mem_cons,List.not_mem_nil,or_false] at hp
  rcases hp with rfl | rfl | rfl
  ·exact ht
  ·exact ha
  ·exact he
 have HM:=memOf_sound hm
 have HZ:=zzOf_sound hz
 clear hm hz
 go_enter Tryd.func93,Tryd.ntmps93
 iterate 11 go_step
 refine wpList_names 4 (.bool true) HM HZ (by kernel_rfl) (by kernel_rfl) (fun a' hx hd=>?_)
 simp only[Exit.then]
 go_wp2_with fail
 refine bodyPost_ret (v:=.bool true) (fn:=Tryd.f93) ?_ hd ⟨rfl,rfl⟩
 rw[results_tmp Tryd.results93,hx]
theorem namesAll_g8 {b:Nat}(s:WS)(w:World)(h:Lies w b s)(aa ra:Option Addr)(la ca lr cr:Nat)(ha:s.args = .slice aa la ca)(hr:s.rets = .slice ra lr cr) :
 Calls Tryd.prog 93 #[.pointer (some ⟨b,66,none⟩),.pointer (some ⟨b,154,none⟩)] w fun e w'=>e = .returned (.bool ((s.t==0)&&((la:Int)==0)&&((lr:Int)==0)))∧w'=w:=by
 have r0:w.cell? ⟨b,66,none⟩=some (vF 80):=by rw[h.cell];kernel_rfl
 have r1:w.cell? ⟨b,67,none⟩=some (vF 80):=by rw[h.cell];kernel_rfl
 have r2:w.cell? ⟨b,68,none⟩=some (vN):=by rw[h.cell];kernel_rfl
 have r3:w.cell? ⟨b,69,none⟩=some (vF 83):=by rw[h.cell];kernel_rfl
 have r4:w.cell? ⟨b,70,none⟩=some (vN):=by rw[h.cell];kernel_rfl
 have r5:w.cell? ⟨b,71,none⟩=some (vN):=by rw[h.cell];kernel_rfl
 have x1:w.cell? ⟨b,155,none⟩=some (vI s.r):=h.facts.2.2.2.2.2.2.2.2.2.2.2.1
 have x2:w.cell? ⟨b,156,none⟩=some (vI s.s):=h.facts.2.2.2.2.2.2.2.2.2.2.2.2.1
 have x3:w.cell? ⟨b,157,none⟩=some (vI s.t):=h.facts.2.2.2.2.2.2.2.2.2.2.2.2.2.1
 have x4:w.cell? ⟨b,158,none⟩=some (vI s.n):=h.facts.2.2.2.2.2.2.2.2.2.2.2.2.2.2.1
 have x5:w.cell? ⟨b,159,none⟩=some (.slice aa la ca):=by rw[h.facts.2.2.2.2.2.2.2.2.2.2.2.2.2.2.2.1,ha]
 have x6:w.cell? ⟨b,160,none⟩=some (.slice ra lr cr):=by rw[h.facts.2.2.2.2.2.2.2.2.2.2.2.2.2.2.2.2.1,hr]
 generalize s.r=zr at *
 generalize s.s=zs at *
 generalize s.t=zt at *
 generalize s.n=zn at *
 have hm:∀ p∈([(66,vF 80),(67,vF 80),(68,vN),(69,vF 83),(70,vN),(71,vN),(155,vI zr),(156,vI zs),(157,vI zt),(158,vI zn),(159,.slice aa la ca),(160,.slice ra lr cr)]:List (Nat × Value)),w.cell? ⟨b,p.1,none⟩=some p.2:=fun p hp=>by
  simp only[List.mem_cons,List.not_mem_nil,or_false] at hp
  rcases hp with rfl | rfl | rfl | rfl | rfl | rfl | rfl | rfl | rfl | rfl | rfl | rfl
  ·exact r0
  ·exact r1
  ·exact r2
  ·exact r3
  ·exact r4
  ·exact r5
  ·exact x1
  ·exact x2
  ·exact x3
  ·exact x4
  ·exact x5
  ·exact x6
 clear r0 r1 r2 r3 r4 r5 x1 x2 x3 x4 x5 x6 h ha hr
 cases ht:(zt==0)
 ·exact(namesLeaf_8_0 b w zr zs zt zn aa ra la ca lr cr ht hm).mono (fun e w' he=>⟨by rw[he.1];rfl,he.2⟩)
 cases ha:((la:Int)==0)
 ·exact(namesLeaf_8_1 b w zr zs zt zn aa ra la ca lr cr ht ha hm).mono (fun e w' he=>⟨by rw[he.1];rfl,he.2⟩)
 cases he:((lr:Int)==0)
 ·exact(namesLeaf_8_2 b w zr zs zt zn aa ra la ca lr cr ht ha he hm).mono (fun e w' he=>⟨by rw[he.1];rfl,he.2⟩)
 exact(namesLeaf_8_3 b w zr zs zt zn aa ra la ca lr cr ht ha he hm).mono (fun e w' he=>⟨by rw[he.1];rfl,he.2⟩)
end Go.Proofs.YtingenonbkencaaDoor
