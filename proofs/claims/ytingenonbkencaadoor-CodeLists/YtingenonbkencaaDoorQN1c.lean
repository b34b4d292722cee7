import Derived.Test.YtingenonbkencaaDoorQE3J
set_option linter.unusedVariables false
set_option linter.unusedSimpArgs false
namespace Go.Proofs.YtingenonbkencaaDoor
open Go.RowKit (wrap32 wrap64)
set_option maxRecDepth 100000
set_option maxHeartbeats 1000000
theorem namesLeaf_9_0 (b:Nat)(w:World)(zr zs zt zn:Int)(aa ra:Option Addr)(la ca lr cr:Nat)(hs:(zs==0)=false)
 (hm:∀ p∈([(74,vF 80),(75,vN),(76,vN),(77,vF 84),(78,vN),(79,vN),(155,vI zr),(156,vI zs),(157,vI zt),(158,vI zn),(159,.slice aa la ca),(160,.slice ra lr cr)]:List (Nat × Value)),w.cell? ⟨b,p.1,none⟩=some p.2) :
 Calls Tryd.prog 93 #[pp b 74,pp b 154] w fun e w'=>e = .returned (.bool false)∧w'=w:=by
 have hz:∀ p∈([(28,zs,false)]:List (Nat × Int × Bool)),(p.2.1==0)=p.2.2:=fun p hp=>by
  simp only[List.mem_cons,List.not_mem_nil,or_false] at hp
  rcases hp with rfl
  ·exact hs
 have HM:=memOf_sound hm
 have HZ:=zzOf_sound hz
 clear hm hz
 go_enter Tryd.func93,Tryd.ntmps93
 iterate 11 go_step
 refine wpList_names 4 (.bool false) HM HZ (by kernel_rfl) (by kernel_rfl) (fun a' hx hd=>?_)
 simp only[Exit.then]
 go_wp2_with fail
 refine bodyPost_ret (v:=.bool false) (fn:=Tryd.f93) ?_ hd ⟨rfl,rfl⟩
 rw[results_tmp Tryd.results93,hx]
theorem namesLeaf_9_1 (b:Nat)(w:World)(zr zs zt zn:Int)(aa ra:Option Addr)(la ca lr cr:Nat)(hs:(zs==0)=true)(ht:(zt==0)=false)
 (hm:∀ p∈([(74,vF 80),(75,vN),(76,vN),(77,vF 84),(78,vN),(79,vN),(155,vI zr),(156,vI zs),(157,vI zt),(158,vI zn),(159,.slice aa la ca),(160,.slice ra lr cr)]:List (Nat × Value)),w.cell? ⟨b,p.1,none⟩=some p.2) :
 Calls Tryd.prog 93 #[pp b 74,pp b 154] w fun e w'=>e = .returned (.bool false)∧w'=w:=by
 have hz:∀ p∈([(28,zs,true),(42,zt,false)]:List (Nat × Int × Bool)),(p.2.1==0)=p.2.2:=fun p hp=>by
  simp only[List.mem_cons,List.not_mem_nil,or_false] at hp
  rcases hp with rfl | rfl
  ·exact hs
  ·exact ht
 have HM:=memOf_sound hm
 have HZ:=zzOf_sound hz
 clear hm hz
 go_enter Tryd.func93,Tryd.ntmps93
 iterate 11 go_step
 refine wpList_names 4 (.bool false) HM HZ (by kernel_rfl) (by kernel_rfl) (fun a' hx hd=>?_)
 simp only[Exit.then]
 go_wp2_with fail
 refine bodyPost_ret (v:=.bool false) (fn:=Tryd.f93) ?_ hd ⟨rfl,rfl⟩
 rw[results_tmp Tryd.results93,hx]
theorem namesLeaf_9_2 (b:Nat)(w:World)(zr zs zt zn:Int)(aa ra:Option Addr)(la ca lr cr:Nat)(hs:(zs==0)=true)(ht:(zt==0)=true)(ha:((la:Int)==0)=false)
 (hm:∀ p∈([(74,vF 80),(75,vN),(76,vN),(77,vF 84),(78,vN),(79,vN),(155,vI zr),(156,vI zs),(157,vI zt),(158,vI zn),(159,.slice aa la ca),(160,.slice ra lr cr)]:List (Nat × Value)),w.cell? ⟨b,p.1,none⟩=some p.2) :
 Calls Tryd.prog 93 #[pp b 74,pp b 154] w fun e w'=>e = .returned (.bool false)∧w'=w:=by
 have hz:∀ p∈([(28,zs,true),(42,zt,true),(71,(la:Int),false)]:List (Nat × Int × Bool)),(p.2.1==0)=p.2.2:=fun p hp=>by
  simp only[List.mem_cons,List.not_mem_nil,or_false] at hp
  rcases hp with rfl | rfl | rfl
  ·exact hs
  ·exact ht
  ·exact ha
 have HM:=memOf_sound hm
 have HZ:=zzOf_sound hz
 clear hm hz
 go_enter Tryd.func93,Tryd.ntmps93
 iterate 11 go_step
 refine wpList_names 4 (.bool false) HM HZ (by kernel_rfl) (by kernel_rfl) (fun a' hx hd=>?_)
 simp only[Exit.then]
 go_wp2_with fail
 refine bodyPost_ret (v:=.bool false) (fn:=Tryd.f93) ?_ hd ⟨rfl,rfl⟩
 rw[results_tmp Tryd.results93,hx]
theorem namesLeaf_9_3 (b:Nat)(w:World)(zr zs zt zn:Int)(aa ra:Option Addr)(la ca lr cr:Nat)(hs:(zs==0)=true)(ht:(zt==0)=true)(ha:((la:Int)==0)=true)(he:((lr:Int)==0)=false)
 (hm:∀ p∈([(74,vF 80),(75,vN),(76,vN),(77,vF 84),(78,vN),(79,vN),(155,vI zr),(156,vI zs),(157,vI zt),(158,vI zn),(159,.slice aa la ca),(160,.slice ra lr cr)]:List (Nat × Value)),w.cell? ⟨b,p.1,none⟩=some p.2) :
 Calls Tryd.prog 93 #[pp b 74,pp b 154] w fun e w'=>e = .returned (.bool false)∧w'=w:=by
 have hz:∀ p∈([(28,zs,true),(42,zt,true),(71,(la:Int),true),(86,(lr:Int),false)]:List (Nat × Int × Bool)),(p.2.1==0)=p.2.2:=fun p hp=>by
  simp only[List.mem_cons,List.not_mem_nil,or_false] at hp
  rcases hp with rfl | rfl | rfl | rfl
  ·exact hs
  ·exact ht
  ·exact ha
  ·exact he
 have HM:=memOf_sound hm
 have HZ:=zzOf_sound hz
 clear hm hz
 go_enter Tryd.func93,Tryd.ntmps93
 iterate 11 go_step
 refine wpList_names 4 (.bool false) HM HZ (by kernel_rfl) (by kernel_rfl) (fun a' hx hd=>?_)
 simp only[Exit.then]
 go_wp2_with fail
 refine bodyPost_ret (v:=.bool false) (fn:=Tryd.f93) ?_ hd ⟨rfl,rfl⟩
 rw[results_tmp Tryd.results93,hx]
theorem namesLeaf_9_4 (b:Nat)(w:World)(zr zs zt zn:Int)(aa ra:Option Addr)(la ca lr cr:Nat)(hs:(zs==0)=true)(ht:(zt==0)=true)(ha:((la:Int)==0)=true)(he:((lr:Int)==0)=true)
 (hm:∀ p∈([(74,vF 80),(75,vN),(76,vN),(77,vF 84),(78,vN),(79,vN),(155,vI zr),(156,vI zs),(157,vI zt),(158,vI zn),(159,.slice aa la ca),(160,.slice ra lr cr)]:List (Nat × Value)),w.cell? ⟨b,p.1,none⟩=some p.2) :
 Calls Tryd.prog 93 #[pp b 74,pp b 154] w fun e w'=>e = .returned (.bool true)∧w'=w:=by
 have hz:∀ p∈([(28,zs,true),(42,zt,true),(71,(la:Int),true),(86,(lr:Int),true)]:List (Nat × Int × Bool)),(p.2.1==0)=p.2.2:=fun p hp=>by
  simp only[List.mem_cons,List.not_mem_nil,or_false] at hp
  rcases hp with rfl | rfl | rfl | rfl
  ·exact hs
  ·exact ht
  ·exact ha
  ·exact he
 have HM:=memOf_sound hm
 have HZ:=zzOf_sound hz
 clear hm hz
 go_enter Tryd.func93,Tryd.ntmps93
 iterate 11 go_step
 refine wpList_names 4 (.bool true) HM HZ (by kernel_rfl) (by kernel_rfl) (fun a' hx hd=>?_)
 simp only[Exit.then]
 go_wp2_with fail
 refine bodyPost_ret (v:=.bool true) (fn:=Tryd.f93) ?_ hd ⟨rfl,rfl⟩
 rw[results_tmp Tryd.results93,hx]
theorem namesAll_g9 {b:Nat}(s:WS)(w:World)(h:Lies w b s)(aa ra:Option Addr)(la ca lr cr:Nat)(ha:s.args = .slice aa la ca)(hr:s.rets = .slice ra lr cr) :
 Calls Tryd.prog 93 #[.pointer (some ⟨b,74,none⟩),.pointer (some ⟨b,154,none⟩)] w fun e w'=>e = .returned (.bool ((s.s==0)&&(s.t==0)&&((la:Int)==0)&&((lr:Int)==0)))∧w'=w:=by
 have r0:w.cell? ⟨b,74,none⟩=some (vF 80):=by rw[h.cell];kernel_rfl
 have r1:w.cell? ⟨b,75,none⟩=some (vN):=by rw[h.cell];kernel_rfl
 have r2:w.cell? ⟨b,76,none⟩=some (vN):=by rw[h.cell];kernel_rfl
 have r3:w.cell? ⟨b,77,none⟩=some (vF 84):=by rw[h.cell];kernel_rfl
 have r4:w.cell? ⟨b,78,none⟩=some (vN):=by rw[h.cell];kernel_rfl
 have r5:w.cell? ⟨b,79,none⟩=some (vN):=by rw[h.cell];kernel_rfl
 have x1:w.cell? ⟨b,155,none⟩=some (vI s.r):=h.facts.2.2.2.2.2.2.2.2.2.2.2.1
 have x2:w.cell? ⟨b,156,none⟩=some (vI s.s):=h.facts.2.2.2.2.2.2.2.2.2.2.2.2.1
 have x3:w.cell? ⟨b,157,none⟩=some (vI s.t):=h.facts.2.2.2.2.2.2.2.2.2.2.2.2.2.1
 have x4:w.cell? ⟨b,158,none⟩=some (vI s.n):=h.facts.2.2.2.2.2.2.2.2.2.2.2.2.2.2.1
 have x5:w.cell? ⟨b,159,none⟩=some (.slice aa la ca):=by rw[h.facts.2.2.2.2.2.2.2.2.2.2.2.2.2.2.2.1,ha]
 have x6:w.cell? ⟨b,160,none⟩=some (.slice ra lr cr):=by rw[h.facts.2.2.2.2.2.2.2.2.2.2.2.2.2.2.2.2.1,hr]
 generalize s.r=zr at *
 generalize s.s=zs at *
 generalize s.t=zt at *
 generalize s.n=zn at *
 have hm:∀ p∈([(74,vF 80),(75,vN),(76,vN),(77,vF 84),(78,vN),(79,vN),(155,vI zr),(156,vI zs),(157,vI zt),(158,vI zn),(159,.slice aa la ca),(160,.slice ra lr cr)]:List (Nat × Value)),w.cell? ⟨b,p.1,none⟩=some p.2:=fun p hp=>by
  simp only[List.mem_cons,List.not_mem_nil,or_false] at hp
  rcases hp with rfl | rfl | rfl | rfl | rfl | rfl | rfl | rfl | rfl | rfl | rfl | rfl
  ·exact r0
  ·exact r1
  ·exact r2
  ·exact r3
  ·exact r4
  ·exact r5
  ·exact x1
  ·exact x2
  ·exact x3
  ·exact x4
  ·exact x5
  ·exact x6
 clear r0 r1 r2 r3 r4 r5 x1 x2 x3 x4 x5 x6 h ha hr
 cases hs:(zs==0)
 ·exact(namesLeaf_9_0 b w zr zs zt zn aa ra la ca lr cr hs hm).mono (fun e w' he=>⟨by rw[he.1];rfl,he.2⟩)
 cases ht:(zt==0)
 ·exact(namesLeaf_9_1 b w zr zs zt zn aa ra la ca lr cr hs ht hm).mono (fun e w' he=>⟨by rw[he.1];rfl,he.2⟩)
 cases ha:((la:Int)==0)
 ·exact(namesLeaf_9_2 b w zr zs zt zn aa ra la ca lr cr hs ht ha hm).mono (fun e w' he=>⟨by rw[he.1];rfl,he.2⟩)
 cases he:((lr:Int)==0)
 ·exact(namesLeaf_9_3 b w zr zs zt zn aa ra la ca lr cr hs ht ha he hm).mono (fun e w' he=>⟨by rw[he.1];rfl,he.2⟩)
 exact(namesLeaf_9_4 b w zr zs zt zn aa ra la ca lr cr hs ht ha he hm).mono (fun e w' he=>⟨by rw[he.1];rfl,he.2⟩)
theorem namesLeaf_10_0 (b:Nat)(w:World)(zr zs zt zn:Int)(aa ra:Option Addr)(la ca lr cr:Nat)(hr:(zr==0)=false)
 (hm:∀ p∈([(82,vN),(83,vF 80),(84,vN),(85,vF 84),(86,vN),(87,vN),(155,vI zr),(156,vI zs),(157,vI zt),(158,vI zn),(159,.slice aa la ca),(160,.slice ra lr cr)]:List (Nat × Value)),w.cell? ⟨b,p.1,none⟩=some p.2) :
 Calls Tryd.prog 93 #[pp b 82,pp b 154] w fun e w'=>e = .returned (.bool false)∧w'=w:=by
 have hz:∀ p∈([(15,zr,false)]:List (Nat × Int × Bool)),(p.2.1==0)=p.2.2:=fun p hp=>by
  simp only[List.mem_cons,List.not_mem_nil,or_false] at hp
  rcases hp with rfl
  ·exact hr
 have HM:=memOf_sound hm
 have HZ:=zzOf_sound hz
 clear hm hz
 go_enter Tryd.func93,Tryd.ntmps93
 iterate 11 go_step
 refine wpList_names 4 (.bool false) HM HZ (by kernel_rfl) (by kernel_rfl) (fun a' hx hd=>?_)
 simp only[Exit.then]
 go_wp2_with fail
 refine bodyPost_ret (v:=.bool false) (fn:=Tryd.f93) ?_ hd ⟨rfl,rfl⟩
 rw[results_tmp Tryd.results93,hx]
theorem namesLeaf_10_1 (b:Nat)(w:World)(zr zs zt zn:Int)(aa ra:Option Addr)(la ca lr cr:Nat)(hr:(zr==0)=true)(ht:(zt==0)=false)
 (hm:∀ p∈([(82,vN),(83,vF 80),(84,vN),(85,vF 84),(86,vN),(87,vN),(155,vI zr),(156,vI zs),(157,vI zt),(158,vI zn),(159,.slice aa la ca),(160,.slice ra lr cr)]:List (Nat × Value)),w.cell? ⟨b,p.1,none⟩=some p.2) :
 Calls Tryd.prog 93 #[pp b 82,pp b 154] w fun e w'=>e = .returned (.bool false)∧w'=w:=by
 have hz:∀ p∈([(15,zr,true),(42,zt,false)]:List (Nat × Int × Bool)),(p.2.1==0)=p.2.2:=fun p hp=>by
  simp only[List.mem_cons,List.not_mem_nil,or_false] at hp
  rcases hp with rfl | rfl
  ·exact hr
  ·exact ht
 have HM:=memOf_sound hm
 have HZ:=zzOf_sound hz
 clear hm hz
 go_enter Tryd.func93,Tryd.ntmps93
 iterate 11 go_step
 refine wpList_names 4 (.bool false) HM HZ (by kernel_rfl) (by kernel_rfl) (fun a' hx hd=>?_)
 simp only[Exit.then]
 go_wp2_with fail
 refine bodyPost_ret (v:=.bool false) (fn:=Tryd.f93) ?_ hd ⟨rfl,rfl⟩
 rw[results_tmp Tryd.results93,hx]
theorem namesLeaf_10_2 (b:Nat)(w:World)(zr zs zt zn:Int)(aa ra:Option Addr)(la ca lr cr:Nat)(hr:(zr==0)=true)(ht:(zt==0)=true)(ha:((la:Int)==0)=false)
 (hm:∀ p∈([(82,vN),(83,vF 80),(84,vN),(85,vF 84),(86,vN),(87,vN),(155,vI zr),(156,vI zs),(157,vI zt),(158,vI zn),(159,.slice aa la ca),(160,.slice ra lr cr)]:List (Nat × Value)),w.cell? ⟨b,p.1,none⟩=some p.2) :
 Calls Tryd.prog 93 #[pp b 82,pp b 154] w fun e w'=>e = .returned (.bool false)∧w'=w:=by
 have hz:∀ p∈([(15,zr,true),(42,zt,true),(71,(la:Int),false)]:List (Nat × Int × Bool)),(p.2.1==0)=p.2.2:=fun p hp=>by
  simp only[List.mem_cons,List.not_mem_nil,or_false] at hp
  rcases hp with rfl | rfl | rfl
  ·exact hr
  ·exact ht
  ·exact ha
 have HM:=memOf_sound hm
 have HZ:=zzOf_sound hz
 clear hm hz
 go_enter Tryd.func93,Tryd.ntmps93
 iterate 11 go_step
 refine wpList_names 4 (.bool false) HM HZ (by kernel_rfl) (by kernel_rfl) (fun a' hx hd=>?_)
 simp only[Exit.then]
 go_wp2_with fail
 refine bodyPost_ret (v:=.bool false) (fn:=Tryd.f93) ?_ hd ⟨rfl,rfl⟩
 rw[results_tmp Tryd.results93,hx]
theorem namesLeaf_10_3 (b:Nat)(w:World)(zr zs zt zn:Int)(aa ra:Option Addr)(la ca lr cr:Nat)(hr:(zr==0)=true)(ht:(zt==0)=true)(ha:((la:Int)==0)=true)(he:((lr:Int)==0)=false)
 (hm:∀ p∈([(82,vN),(83,vF 80),(84,vN),(85,vF 84),(86,vN),(87,vN),(155,vI zr),(156,vI zs),(157,vI zt),(158,vI zn),(159,.slice aa la ca),(160,.slice ra lr cr)]:List (Nat × Value)),w.cell? ⟨b,p.1,none⟩=some p.2) :
 Calls Tryd.prog 93 #[pp b 82,pp b 154] w fun e w'=>e = .returned (.bool false)∧w'=w:=by
 have hz:∀ p∈([(15,zr,true),(42,zt,true),(71,(la:Int),true),(86,(lr:Int),false)]:List (Nat × Int × Bool)),(p.2.1==0)=p.2.2:=fun p hp=>by
  simp only[List.mem_cons,List.not_mem_nil,or_false] at hp
  rcases hp with rfl | rfl | rfl | rfl
  ·exact hr
  ·exact ht
  ·exact ha
  ·exact he
 have HM:=memOf_sound hm
 have HZ:=zzOf_sound hz
 clear hm hz
 go_enter Tryd.func93,Tryd.ntmps93
 iterate 11 go_step
 refine wpList_names 4 (.bool false) HM HZ (by kernel_rfl) (by kernel_rfl) (fun a' hx hd=>?_)
 simp only[Exit.then]
 go_wp2_with fail
 refine bodyPost_ret (v:=.bool false) (fn:=Tryd.f93) ?_ hd ⟨rfl,rfl⟩
 rw[results_tmp Tryd.results93,hx]
theorem namesLeaf_10_4 (b:Nat)(w:World)(zr zs zt zn:Int)(aa ra:Option Addr)(la ca lr cr:Nat)(hr:(zr==0)=true)(ht:(zt==0)=true)(ha:((la:Int)==0)=true)(he:((lr:Int)==0)=true)
 (hm:∀ p∈([(82,vN),(83,vF 80),(84,vN),(85,vF 84),(86,vN),(87,vN),(155,vI zr),(156,vI zs),(157,vI zt),(158,vI zn),(159,.slice aa la ca),(160,.slice ra lr cr)]:List (Nat × Value)),w.cell? ⟨b,p.1,none⟩=some p.2) :
 Calls Tryd.prog 93 #[pp b 82,pp b 154] w fun e w'=>e = .returned (.bool true)∧w'=w:=by
 have hz:∀ p∈([(15,zr,true),(42,zt,true),(71,(la:Int),true),(86,(lr:Int),true)]:List (Nat × Int × Bool)),(p.2.1==0)=p.2.2:=fun p hp=>by
  simp only[List.mem_cons,List.not_mem_nil,or_false] at hp
  rcases hp with rfl | rfl | rfl | rfl
  ·exact hr
  ·exact ht
  ·exact ha
  ·exact he
 have HM:=memOf_sound hm
 have HZ:=zzOf_sound hz
 clear hm hz
 go_enter Tryd.func93,Tryd.ntmps93
 iterate 11 go_step
 refine wpList_names 4 (.bool true) HM HZ (by kernel_rfl) (by kernel_rfl) (fun a' hx hd=>?_)
 simp only[Exit.then]
 go_wp2_with fail
 refine bodyPost_ret (v:=.bool true) (fn:=Tryd.f93) ?_ hd ⟨rfl,rfl⟩
 rw[results_tmp Tryd.results93,hx]
theorem namesAll_g10 {b:Nat}(s:WS)(w:World)(h:Lies w b s)(aa ra:Option Addr)(la ca lr cr:Nat)(ha:s.args = .slice aa la ca)(hr:s.rets = .slice ra lr cr) :
 Calls Tryd.prog 93 #[.pointer (some ⟨b,82,none⟩),.pointer (some ⟨b,154,none⟩)] w fun e w'=>e = .returned (.bool ((s.r==0)&&(s.t==0)&&((la:Int)==0)&&((lr:Int)==0)))∧w'=w:=by
 have r0:w.cell? ⟨b,82,none⟩=some (vN):=by rw[h.cell];kernel_rfl
 have r1:w.cell? ⟨b,83,none⟩=some (vF 80):=by rw[h.cell];kernel_rfl
 have r2:w.cell? ⟨b,84,none⟩=some (vN):=by rw[h.cell];kernel_rfl
 have r3:w.cell? ⟨b,85,none⟩=some (vF 84):=by rw[h.cell];kernel_rfl
 have r4:w.cell? ⟨b,86,none⟩=some (vN):=by rw[h.cell];kernel_rfl
 have r5:w.cell? ⟨b,87,none⟩=some (vN):=by rw[h.cell];kernel_rfl
 have x1:w.cell? ⟨b,155,none⟩=some (vI s.r):=h.facts.2.2.2.2.2.2.2.2.2.2.2.1
 have x2:w.cell? ⟨b,156,none⟩=some (vI s.s):=h.facts.2.2.2.2.2.2.2.2.2.2.2.2.1
 have x3:w.cell? ⟨b,157,none⟩=some (vI s.t):=h.facts.2.2.2.2.2.2.2.2.2.2.2.2.2.1
 have x4:w.cell? ⟨b,158,none⟩=some (vI s.n):=h.facts.2.2.2.2.2.2.2.2.2.2.2.2.2.2.1
 have x5:w.cell? ⟨b,159,none⟩=some (.slice aa la ca):=by rw[h.facts.2.2.2.2.2.2.2.2.2.2.2.2.2.2.2.1,ha]
 have x6:w.cell? ⟨b,160,none⟩=some (.slice ra lr cr):=by rw[h.facts.2.2.2.2.2.2.2.2.2.2.2.2.2.2.2.2.1,hr]
 generalize s.r=zr at *
 generalize s.s=zs at *
 generalize s.t=zt at *
 generalize s.n=zn at *
 have hm:∀ p∈([(82,vN),(83,vF 80),(84,vN),(85,vF 84),(86,vN),(87,vN),(155,vI zr),(156,vI zs),(157,vI zt),(158,vI zn),(159,.slice aa la ca),(160,.slice ra lr cr)]:List (Nat × Value)),w.cell? ⟨b,p.1,none⟩=some p.2:=fun p hp=>by
  simp only[List.mem_cons,List.not_mem_nil,or_false] at hp
  rcases hp with rfl | rfl | rfl | rfl | rfl | rfl | rfl | rfl | rfl | rfl | rfl | rfl
  ·exact r0
  ·exact r1
  ·exact r2
  ·exact r3
  ·exact r4
  ·exact r5
  ·exact x1
  ·exact x2
  ·exact x3
  ·exact x4
  ·exact x5
  ·exact x6
 clear r0 r1 r2 r3 r4 r5 x1 x2 x3 x4 x5 x6 h ha hr
 cases hr:(zr==0)
 ·exact(namesLeaf_10_0 b w zr zs zt zn aa ra la ca lr cr hr hm).mono (fun e w' he=>⟨by rw[he.1];rfl,he.2⟩)
 cases ht:(zt==0)
 ·exact(namesLeaf_10_1 b w zr zs zt zn aa ra la ca lr cr hr ht hm).mono (fun e w' he=>⟨by rw[he.1];rfl,he.2⟩)
 cases ha:((la:Int)==0)
 ·exact(namesLeaf_10_2 b w zr zs zt zn aa ra la ca lr cr hr ht ha hm).mono (fun e w' he=>⟨by rw[he.1];rfl,he.2⟩)
 cases he:((lr:Int)==0)
 ·exact(namesLeaf_10_3 b w zr zs zt zn aa ra la ca lr cr hr ht ha he hm).mono (fun e w' he=>⟨by rw[he.1];rfl,he.2⟩)
 exact(namesLeaf_10_4 b w zr zs zt zn aa ra la ca lr cr hr ht ha he hm).mono (fun e w' he=>⟨by rw[he.1];rfl,he.2⟩)
theorem namesLeaf_11_0 (b:Nat)(w:World)(zr zs zt zn:Int)(aa ra:Option Addr)(la ca lr cr:Nat)(hr:(zr==0)=false)
 (hm:∀ p∈([(90,vN),(91,vN),(92,vN),(93,vF 85),(94,vF 86),(95,vF 87),(155,vI zr),(156,vI zs),(157,vI zt),(158,vI zn),(159,.slice aa la ca),(160,.slice ra lr cr)]:List (Nat × Value)),w.cell? ⟨b,p.1,none⟩=some p.2) :
 Calls Tryd.prog 93 #[pp b 90,pp b 154] w fun e w'=>e = .returned (.bool false)∧w'=w:=by
 have hz:∀ p∈([(15,zr,false)]:List (Nat × Int × Bool)),(p.2.1==0)=p.2.2:=fun p hp=>by
  simp only[List.mem_cons,List.not_mem_nil,or_false] at hp
  rcases hp with rfl
  ·exact hr
 have HM:=memOf_sound hm
 have HZ:=zzOf_sound hz
 clear hm hz
 go_enter Tryd.func93,Tryd.ntmps93
 iterate 11 go_step
 refine wpList_names 4 (.bool false) HM HZ (by kernel_rfl) (by kernel_rfl) (fun a' hx hd=>?_)
 simp only[Exit.then]
 go_wp2_with fail
 refine bodyPost_ret (v:=.bool false) (fn:=Tryd.f93) ?_ hd ⟨rfl,rfl⟩
 rw[results_tmp Tryd.results93,hx]
theorem namesLeaf_11_1 (b:Nat)(w:World)(zr zs zt zn:Int)(aa ra:Option Addr)(la ca lr cr:Nat)(hr:(zr==0)=true)(hs:(zs==0)=false)
 (hm:∀ p∈([(90,vN),(91,vN),(92,vN),(93,vF 85),(94,vF 86),(95,vF 87),(155,vI zr),(156,vI zs),(157,vI zt),(158,vI zn),(159,.slice aa la ca),(160,.slice ra lr cr)]:List (Nat × Value)),w.cell? ⟨b,p.1,none⟩=some p.2) :
 Calls Tryd.prog 93 #[pp b 90,pp b 154] w fun e w'=>e = .returned (.bool false)∧w'=w:=by
 have hz:∀ p∈([(15,zr,true),(28,zs,false)]:List (Nat × Int × Bool)),(p.2.1==0)=p.2.2:=fun p hp=>by
  simp only[List.mem_cons,List.not_mem_nil,or_false] at hp
  rcases hp with rfl | rfl
  ·exact hr
  ·exact hs
 have HM:=memOf_sound hm
 have HZ:=zzOf_sound hz
 clear hm hz
 go_enter Tryd.func93,Tryd.ntmps93
 iterate 11 go_step
 refine wpList_names 4 (.bool false) HM HZ (by kernel_rfl) (by kernel_rfl) (fun a' hx hd=>?_)
 simp only[Exit.then]
 go_wp2_with fail
 refine bodyPost_ret (v:=.bool false) (fn:=Tryd.f93) ?_ hd ⟨rfl,rfl⟩
 rw[results_tmp Tryd.results93,hx]
theorem namesLeaf_11_2 (b:Nat)(w:World)(zr zs zt zn:Int)(aa ra:Option Addr)(la ca lr cr:Nat)(hr:(zr==0)=true)(hs:(zs==0)=true)(ht:(zt==0)=false)
 (hm:∀ p∈([(90,vN),(91,vN),(92,vN),(93,vF 85),(94,vF 86),(95,vF 87),(155,vI zr),(156,vI zs),(157,vI zt),(158,vI zn),(159,.slice aa la ca),(160,.slice ra lr cr)]:List (Nat × Value)),w.cell? ⟨b,p.1,none⟩=some p.2) :
 Calls Tryd.prog 93 #[pp b 90,pp b 154] w fun e w'=>e = .returned (.bool false)∧w'=w:=by
 have hz:∀ p∈([(15,zr,true),(28,zs,true),(42,zt,false)]:List (Nat × Int × Bool)),(p.2.1==0)=p.2.2:=fun p hp=>by
  simp only[List.mem_cons,List.not_mem_nil,or_false] at hp
  rcases hp with rfl | rfl | rfl
  ·exact hr
  ·exact hs
  ·exact ht
 have HM:=memOf_sound hm
 have HZ:=zzOf_sound hz
 clear hm hz
 go_enter Tryd.func93,Tryd.ntmps93
 iterate 11 go_step
 refine wpList_names 4 (.bool false) HM HZ (by kernel_rfl) (by kernel_rfl) (fun a' hx hd=>?_)
 simp only[Exit.then]
 go_wp2_with fail
 refine bodyPost_ret (v:=.bool false) (fn:=Tryd.f93) ?_ hd ⟨rfl,rfl⟩
 rw[results_tmp Tryd.results93,hx]
theorem namesLeaf_11_3 (b:Nat)(w:World)(zr zs zt zn:Int)(aa ra:Option Addr)(la ca lr cr:Nat)(hr:(zr==0)=true)(hs:(zs==0)=true)(ht:(zt==0)=true)
 (hm:∀ p∈([(90,vN),(91,vN),(92,vN),(93,vF 85),(94,vF 86),(95,vF 87),(155,vI zr),(156,vI zs),(157,vI zt),(158,vI zn),(159,.slice aa la ca),(160,.slice ra lr cr)]:List (Nat × Value)),w.cell? ⟨b,p.1,none⟩=some p.2) :
 Calls Tryd.prog 93 #[pp b 90,pp b 154] w fun e w'=>e = .returned (.bool true)∧w'=w:=by
 have hz:∀ p∈([(15,zr,true),(28,zs,true),(42,zt,true)]:List (Nat × Int × Bool)),(p.2.1==0)=p.2.2:=fun p hp=>by
  simp only[List.mem_cons,List.not_mem_nil,or_false] at hp
  rcases hp with rfl | rfl | rfl
  ·exact hr
  ·exact hs
  ·exact ht
 have HM:=memOf_sound hm
 have HZ:=zzOf_sound hz
 clear hm hz
 go_enter Tryd.func93,Tryd.ntmps93
 iterate 11 go_step
 refine wpList_names 4 (.bool true) HM HZ (by kernel_rfl) (by kernel_rfl) (fun a' hx hd=>?_)
 simp only[Exit.then]
 go_wp2_with fail
 refine bodyPost_ret (v:=.bool true) (fn:=Tryd.f93) ?_ hd ⟨rfl,rfl⟩
 rw[results_tmp Tryd.results93,hx]
theorem namesAll_g11 {b:Nat}(s:WS)(w:World)(h:Lies w b s)(aa ra:Option Addr)(la ca lr cr:Nat)(ha:s.args = .slice aa la ca)(hr:s.rets = .slice ra lr cr) :
 Calls Tryd.prog 93 #[.pointer (some ⟨b,90,none⟩),.pointer (some ⟨b,154,none⟩)] w fun e w'=>e = .returned (.bool ((s.r==0)&&(s.s==0)&&(s.t==0)))∧w'=w:=by
 have r0:w.cell? ⟨b,90,none⟩=some (vN):=by rw[h.cell];kernel_rfl
 have r1:w.cell? ⟨b,91,none⟩=some (vN):=by rw[h.cell];kernel_rfl
 have r2:w.cell? ⟨b,92,none⟩=some (vN):=by rw[h.cell];kernel_rfl
 have r3:w.cell? ⟨b,93,none⟩=some (vF 85):=by rw[h.cell];kernel_rfl
 have r4:w.cell? ⟨b,94,none⟩=some (vF 86):=by rw[h.cell];kernel_rfl
 have r5:w.cell? ⟨b,95,none⟩=some (vF 87):=by rw[h.cell];kernel_rfl
 have x1:w.cell? ⟨b,155,none⟩=some (vI s.r):=h.facts.2.2.2.2.2.2.2.2.2.2.2.1
 have x2:w.cell? ⟨b,156,none⟩=some (vI s.s):=h.facts.2.2.2.2.2.2.2.2.2.2.2.2.1
 have x3:w.cell? ⟨b,157,none⟩=some (vI s.t):=h.facts.2.2.2.2.2.2.2.2.2.2.2.2.2.1
 have x4:w.cell? ⟨b,158,none⟩=some (vI s.n):=h.facts.2.2.2.2.2.2.2.2.2.2.2.2.2.2.1
 have x5:w.cell? ⟨b,159,none⟩=some (.slice aa la ca):=by rw[h.facts.2.2.2.2.2.2.2.2.2.2.2.2.2.2.2.1,ha]
 have x6:w.cell? ⟨b,160,none⟩=some (.slice ra lr cr):=by rw[h.facts.2.2.2.2.2.2.2.2.2.2.2.2.2.2.2.2.1,hr]
 generalize s.r=zr at *
 generalize s.s=zs at *
 generalize s.t=zt at *
 generalize s.n=zn at *
 have hm:∀ p∈([(90,vN),(91,vN),(92,vN),(93,vF 85),(94,vF 86),(95,vF 87),(155,vI zr),(156,vI zs),(157,vI zt),(158,vI zn),(159,.slice aa la ca),(160,.slice ra lr cr)]:List (Nat × Value)),w.cell? ⟨b,p.1,none⟩=some p.2:=fun p hp=>by
  simp only[List.mem_cons,List.not_mem_nil,or_false] at hp
  rcases hp with rfl | rfl | rfl | rfl | rfl | rfl | rfl | rfl | rfl | rfl | rfl | rfl
  ·exact r0
  ·exact r1
  ·exact r2
  ·exact r3
  ·exact r4
  ·exact r5
  ·exact x1
  ·exact x2
  ·exact x3
  ·exact x4
  ·exact x5
  ·exact x6
 clear r0 r1 r2 r3 r4 r5 x1 x2 x3 x4 x5 x6 h ha hr
 cases hr:(zr==0)
 ·exact(namesLeaf_11_0 b w zr zs zt zn aa ra la ca lr cr hr hm).mono (fun e w' he=>⟨by rw[he.1];rfl,he.2⟩)
 cases hs:(zs==0)
 ·exact(namesLeaf_11_1 b w zr zs zt zn aa ra la ca lr cr hr hs hm).mono (fun e w' he=>⟨by rw[he.1];rfl,he.2⟩)
 cases ht:(zt==0)
 ·exact(namesLeaf_11_2 b w zr zs zt zn aa ra la ca lr cr hr hs ht hm).mono (fun e w' he=>⟨by rw[he.1];rfl,he.2⟩)
 exact(namesLeaf_11_3 b w zr zs zt zn aa ra la ca lr cr hr hs ht hm).mono (fun e w' he=>⟨by rw[he.1];rfl,he.2⟩)
theorem namesLeaf_12_0 (b:Nat)(w:World)(zr zs zt zn:Int)(aa ra:Option Addr)(la ca lr cr:Nat)(hr:(zr==0)=false)
 (hm:∀ p∈([(98,vN),(99,vF 80),(100,vN),(101,vN),(102,vN),(103,vN),(155,vI zr),(156,vI zs),(157,vI zt),(158,vI zn),(159,.slice aa la ca),(160,.slice ra lr cr)]:List (Nat × Value)),w.cell? ⟨b,p.1,none⟩=some p.2) :
 Calls Tryd.prog 93 #[pp b 98,pp b 154] w fun e w'=>e = .returned (.bool false)∧w'=w:=by
 have hz:∀ p∈([(15,zr,false)]:List (Nat × Int × Bool)),(p.2.1==0)=p.2.2:=fun p hp=>by
  simp only[List.mem_cons,List.not_mem_nil,or_false] at hp
  rcases hp with rfl
  ·exact hr
 have HM:=memOf_sound hm
 have HZ:=zzOf_sound hz
 clear hm hz
 go_enter Tryd.func93,Tryd.ntmps93
 iterate 11 go_step
 refine wpList_names 4 (.bool false) HM HZ (by kernel_rfl) (by kernel_rfl) (fun a' hx hd=>?_)
 simp only[Exit.then]
 go_wp2_with fail
 refine bodyPost_ret (v:=.bool false) (fn:=Tryd.f93) ?_ hd ⟨rfl,rfl⟩
 rw[results_tmp Tryd.results93,hx]
theorem namesLeaf_12_1 (b:Nat)(w:World)(zr zs zt zn:Int)(aa ra:Option Addr)(la ca lr cr:Nat)(hr:(zr==0)=true)(ht:(zt==0)=false)
 (hm:∀ p∈([(98,vN),(99,vF 80),(100,vN),(101,vN),(102,vN),(103,vN),(155,vI zr),(156,vI zs),(157,vI zt),(158,vI zn),(159,.slice aa la ca),(160,.slice ra lr cr)]:List (Nat × Value)),w.cell? ⟨b,p.1,none⟩=some p.2) :
 Calls Tryd.prog 93 #[pp b 98,pp b 154] w fun e w'=>e = .returned (.bool false)∧w'=w:=by
 have hz:∀ p∈([(15,zr,true),(42,zt,false)]:List (Nat × Int × Bool)),(p.2.1==0)=p.2.2:=fun p hp=>by
  simp only[List.mem_cons,List.not_mem_nil,or_false] at hp
  rcases hp with rfl | rfl
  ·exact hr
  ·exact ht
 have HM:=memOf_sound hm
 have HZ:=zzOf_sound hz
 clear hm hz
 go_enter Tryd.func93,Tryd.ntmps93
 iterate 11 go_step
 refine wpList_names 4 (.bool false) HM HZ (by kernel_rfl) (by kernel_rfl) (fun a' hx hd=>?_)
 simp only[Exit.then]
 go_wp2_with fail
 refine bodyPost_ret (v:=.bool false) (fn:=Tryd.f93) ?_ hd ⟨rfl,rfl⟩
 rw[results_tmp Tryd.results93,hx]
theorem namesLeaf_12_2 (b:Nat)(w:World)(zr zs zt zn:Int)(aa ra:Option Addr)(la ca lr cr:Nat)(hr:(zr==0)=true)(ht:(zt==0)=true)(hn:(zn==0)=false)
 (hm:∀ p∈([(98,vN),(99,vF 80),(100,vN),(101,vN),(102,vN),(103,vN),(155,vI zr),(156,vI zs),(157,vI zt),(158,vI zn),(159,.slice aa la ca),(160,.slice ra lr cr)]:List (Nat × Value)),w.cell? ⟨b,p.1,none⟩=some p.2) :
 Calls Tryd.prog 93 #[pp b 98,pp b 154] w fun e w'=>e = .returned (.bool false)∧w'=w:=by
 have hz:∀ p∈([(15,zr,true),(42,zt,true),(56,zn,false)]:List (Nat × Int × Bool)),(p.2.1==0)=p.2.2:=fun p hp=>by
  simp only[List.mem_cons,List.not_mem_nil,or_false] at hp
  rcases hp with rfl | rfl | rfl
  ·exact hr
  ·exact ht
  ·exact hn
 have HM:=memOf_sound hm
 have HZ:=zzOf_sound hz
 clear hm hz
 go_enter Tryd.func93,Tryd.ntmps93
 iterate 11 go_step
 refine wpList_names 4 (.bool false) HM HZ (by kernel_rfl) (by kernel_rfl) (fun a' hx hd=>?_)
 simp only[Exit.then]
 go_wp2_with fail
 refine bodyPost_ret (v:=.bool false) (fn:=Tryd.f93) ?_ hd ⟨rfl,rfl⟩
 rw[results_tmp Tryd.results93,hx]
theorem namesLeaf_12_3 (b:Nat)(w:World)(zr zs zt zn:Int)(aa ra:Option Addr)(la ca lr cr:Nat)(hr:(zr==0)=true)(ht:(zt==0)=true)(hn:(zn==0)=true)(ha:((la:Int)==0)=false)
 (hm:∀ p∈([(98,vN),(99,vF 80),(100,vN),(101,vN),(102,vN),(103,vN),(155,vI zr),(156,vI zs),(157,vI zt),(158,vI zn),(159,.slice aa la ca),(160,.slice ra lr cr)]:List (Nat × Value)),w.cell? ⟨b,p.1,none⟩=some p.2) :
 Calls Tryd.prog 93 #[pp b 98,pp b 154] w fun e w'=>e = .returned (.bool false)∧w'=w:=by
 have hz:∀ p∈([(15,zr,true),(42,zt,true),(56,zn,true),(71,(la:Int),false)]:List (Nat × Int × Bool)),(p.2.1==0)=p.2.2:=fun p hp=>by
  simp only[List.mem_cons,List.not_mem_nil,or_false] at hp
  rcases hp with rfl | rfl | rfl | rfl
  ·exact hr
  ·exact ht
  ·exact hn
  ·exact ha
 have HM:=memOf_sound hm
 have HZ:=zzOf_sound hz
 clear hm hz
 go_enter Tryd.func93,Tryd.ntmps93
 iterate 11 go_step
 refine wpList_names 4 (.bool false) HM HZ (by kernel_rfl) (by kernel_rfl) (fun a' hx hd=>?_)
 simp only[Exit.then]
 go_wp2_with fail
 refine bodyPost_ret (v:=.bool false) (fn:=Tryd.f93) ?_ hd ⟨rfl,rfl⟩
 rw[results_tmp Tryd.results93,hx]
theorem namesLeaf_12_4 (b:Nat)(w:World)(zr zs zt zn:Int)(aa ra:Option Addr)(la ca lr cr:Nat)(hr:(zr==0)=true)(ht:(zt==0)=true)(hn:(zn==0)=true)(ha:((la:Int)==0)=true)(he:((lr:Int)==0)=false)
 (hm:∀ p∈([(98,vN),(99,vF 80),(100,vN),(101,vN),(102,vN),(103,vN),(155,vI zr),(156,vI zs),(157,vI zt),(158,vI zn),(159,.slice aa la ca),(160,.slice ra lr cr)]:List (Nat × Value)),w.cell? ⟨b,p.1,none⟩=some p.2) :
 Calls Tryd.prog 93 #[pp b 98,pp b 154] w fun e w'=>e = .returned (.bool false)∧w'=w:=by
 have hz:∀ p∈([(15,zr,true),(42,zt,true),(56,zn,true),(71,(la:Int),true),(86,(lr:Int),false)]:List (Nat × Int × Bool)),(p.2.1==0)=p.2.2:=fun p hp=>by
  simp only[List.mem_cons,List.not_mem_nil,or_false] at hp
  rcases hp with rfl | rfl | rfl | rfl | rfl
  ·exact hr
  ·exact ht
  ·exact hn
  ·exact ha
  ·exact he
 have HM:=memOf_sound hm
 have HZ:=zzOf_sound hz
 clear hm hz
 go_enter Tryd.func93,Tryd.ntmps93
 iterate 11 go_step
 refine wpList_names 4 (.bool false) HM HZ (by kernel_rfl) (by kernel_rfl) (fun a' hx hd=>?_)
 simp only[Exit.then]
 go_wp2_with fail
 refine bodyPost_ret (v:=.bool false) (fn:=Tryd.f93) ?_ hd ⟨rfl,rfl⟩
 rw[results_tmp Tryd.results93,hx]
theorem namesLeaf_12_5 (b:Nat)(w:World)(zr zs zt zn:Int)(aa ra:Option Addr)(la ca lr cr:Nat)(hr:(zr==0)=true)(ht:(zt==0)=true)(hn:(zn==0)=true)(ha:((la:Int)==0)=true)(he:((lr:Int)==0)=true)
 (hm:∀ p∈([(98,vN),(99,vF 80),(100,vN),(101,vN),(102,vN),(103,vN),(155,vI zr),(156,vI zs),(157,vI zt),(158,vI zn),(159,.slice aa la ca),(160,.slice ra lr cr)]:List (Nat × Value)),w.cell? ⟨b,p.1,none⟩=some p.2) :
 Calls Tryd.prog 93 #[pp b 98,pp b 154] w fun e w'=>e = .returned (.bool true)∧w'=w:=by
 have hz:∀ p∈([(15,zr,true),(42,zt,true),(56,zn,true),(71,(la:Int),true),(86,(lr:Int),true)]:List (Nat × Int × Bool)),(p.2.1==0)=p.2.2:=fun p hp=>by
  simp only[List.mem_cons,List.not_mem_nil,or_false] at hp
  rcases hp with rfl | rfl | rfl | rfl | rfl
  ·exact hr
  ·exact ht
  ·exact hn
  ·exact ha
  ·exact he
 have HM:=memOf_sound hm
 have HZ:=zzOf_sound hz
 clear hm hz
 go_enter Tryd.func93,Tryd.ntmps93
 iterate 11 go_step
 refine wpList_names 4 (.bool true) HM HZ (by kernel_rfl) (by kernel_rfl) (fun a' hx hd=>?_)
 simp only[Exit.then]
 go_wp2_with fail
 refine bodyPost_ret (v:=.bool true) (fn:=Tryd.f93) ?_ hd ⟨rfl,rfl⟩
 rw[results_tmp Tryd.results93,hx]
theorem namesAll_g12 {b:Nat}(s:WS)(w:World)(h:Lies w b s)(aa ra:Option Addr)(la ca lr cr:Nat)(ha:s.args = .slice aa la ca)(hr:s.rets = .slice ra lr cr) :
 Calls Tryd.prog 93 #[.pointer (some ⟨b,98,none⟩),.pointer (some ⟨b,154,none⟩)] w fun e w'=>e = .returned (.bool ((s.r==0)&&(s.t==0)&&(s.n==0)&&((la:Int)==0)&&((lr:Int)==0)))∧w'=w:=by
 have r0:w.cell? ⟨b,98,none⟩=some (vN):=by rw[h.cell];kernel_rfl
 have r1:w.cell? ⟨b,99,none⟩=some (vF 80):=by rw[h.cell];kernel_rfl
 have r2:w.cell? ⟨b,100,none⟩=some (vN):=by rw[h.cell];kernel_rfl
 have r3:w.cell? ⟨b,101,none⟩=some (vN):=by rw[h.cell];kernel_rfl
 have r4:w.cell? ⟨b,102,none⟩=some (vN):=by rw[h.cell];kernel_rfl
 have r5:w.cell? ⟨b,103,none⟩=some (vN):=by rw[h.cell];kernel_rfl
 have x1:w.cell? ⟨b,155,none⟩=some (vI s.r):=h.facts.2.2.2.2.2.2.2.2.2.2.2.1
 have x2:w.cell? ⟨b,156,none⟩=some (vI s.s):=h.facts.2.2.2.2.2.2.2.2.2.2.2.2.1
 have x3:w.cell? ⟨b,157,none⟩=some (vI s.t):=h.facts.2.2.2.2.2.2.2.2.2.2.2.2.2.1
 have x4:w.cell? ⟨b,158,none⟩=some (vI s.n):=h.facts.2.2.2.2.2.2.2.2.2.2.2.2.2.2.1
 have x5:w.cell? ⟨b,159,none⟩=some (.slice aa la ca):=by rw[h.facts.2.2.2.2.2.2.2.2.2.2.2.2.2.2.2.1,ha]
 have x6:w.cell? ⟨b,160,none⟩=some (.slice ra lr cr):=by rw[h.facts.2.2.2.2.2.2.2.2.2.2.2.2.2.2.2.2.1,hr]
 generalize s.r=zr at *
 generalize s.s=zs at *
 generalize s.t=zt at *
 generalize s.n=zn at *
 have hm:∀ p∈([(98,vN),(99,vF 80),(100,vN),(101,vN),(102,vN),(103,vN),(155,vI zr),(156,vI zs),(157,vI zt),(158,vI zn),(159,.slice aa la ca),(160,.slice ra lr cr)]:List (Nat × Value)),w.cell? ⟨b,p.1,none⟩=some p.2:=fun p hp=>by
  simp only[List.mem_cons,List.not_mem_nil,or_false] at hp
  rcases hp with rfl | rfl | rfl | rfl | rfl | rfl | rfl | rfl | rfl | rfl | rfl | rfl
  ·exact r0
  ·exact r1
  ·exact r2
  ·exact r3
  ·exact r4
  ·exact r5
  ·exact x1
  ·exact x2
  ·exact x3
  ·exact x4
  ·exact x5
  ·exact x6
 clear r0 r1 r2 r3 r4 r5 x1 x2 x3 x4 x5 x6 h ha hr
 cases hr:(zr==0)
 ·exact(namesLeaf_12_0 b w zr zs zt zn aa ra la ca lr cr hr hm).mono (fun e w' he=>⟨by rw[he.1];rfl,he.2⟩)
 cases ht:(zt==0)
 ·exact(namesLeaf_12_1 b w zr zs zt zn aa ra la ca lr cr hr ht hm).mono (fun e w' he=>⟨by rw[he.1];rfl,he.2⟩)
 cases hn:(zn==0)
 ·exact(namesLeaf_12_2 b w zr zs zt zn aa ra la ca lr cr hr ht hn hm).mono (fun e w' he=>⟨by rw[he.1];rfl,he.2⟩)
 cases ha:((la:Int)==0)
 ·exact(namesLeaf_12_3 b w zr zs zt zn aa ra la ca lr cr hr ht hn ha hm).mono (fun e w' he=>⟨by rw[he.1];rfl,he.2⟩)
 cases he:((lr:Int)==0)
 ·exact(namesLeaf_12_4 b w zr zs zt zn aa ra la ca lr cr hr ht hn ha he hm).mono (fun e w' he=>⟨by rw[he.1];rfl,he.2⟩)
 exact(namesLeaf_12_5 b w zr zs zt zn aa ra la ca lr cr hr ht hn ha he hm).mono (fun e w' he=>⟨by rw[he.1];rfl,he.2⟩)
end Go.Proofs.YtingenonbkencaaDoor
