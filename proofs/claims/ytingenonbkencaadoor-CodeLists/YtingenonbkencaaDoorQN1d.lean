import Derived.Test.YtingenonbkencaaDoorQE3J
set_option linter.unusedVariables false
set_option linter.unusedSimpArgs false
namespace Go.Proofs.YtingenonbkencaaDoor
open Go.RowKit (wrap32 wrap64)
set_option maxRecDepth 100000
set_option maxHeartbeats 1000000
theorem namesLeaf_13_0 (b:Nat)(w:World)(zr zs zt zn:Int)(aa ra:Option Addr)(la ca lr cr:Nat)(hr:(zr==0)=false)
 (hm:∀ p∈([(106,vN),(107,vN),(108,vN),(109,vF 88),(110,vN),(111,vN),(155,vI zr),(156,vI zs),(157,vI zt),(158,vI zn),(159,.slice aa la ca),(160,.slice ra lr cr)]:List (Nat × Value)),w.cell? ⟨b,p.1,none⟩=some p.2) :
 Calls Tryd.prog 93 #[pp b 106,pp b 154] w fun e w'=>e = .returned (.bool false)∧w'=w:=by
 have hz:∀ p∈([(15,zr,false)]:List (Nat × Int × Bool)),(p.2.1==0)=p.2.2:=fun p hp=>by
  simp only[List.mem_cons,List.not_mem_nil,or_false] at hp
  rcases hp with rfl
  ·exact hr
 have HM:=memOf_sound hm
 have HZ:=zzOf_sound hz
 clear hm hz
 go_enter Tryd.func93,Tryd.ntmps93
 iterate 11 go_step
 refine wpList_names 4 (.bool false) HM HZ (by kernel_rfl) (by kernel_rfl) (fun a' hx hd=>?_)
 simp only[Exit.then]
 go_wp2_with fail
 refine bodyPost_ret (v:=.bool false) (fn:=Tryd.f93) ?_ hd ⟨rfl,rfl⟩
 rw[results_tmp Tryd.results93,hx]
theorem namesLeaf_13_1 (b:Nat)(w:World)(zr zs zt zn:Int)(aa ra:Option Addr)(la ca lr cr:Nat)(hr:(zr==0)=true)(hs:(zs==0)=false)
 (hm:∀ p∈([(106,vN),(107,vN),(108,vN),(109,vF 88),(110,vN),(111,vN),(155,vI zr),(156,vI zs),(157,vI zt),(158,vI zn),(159,.slice aa la ca),(160,.slice ra lr cr)]:List (Nat × Value)),w.cell? ⟨b,p.1,none⟩=some p.2) :
 Calls Tryd.prog 93 #[pp b 106,pp b 154] w fun e w'=>e = .returned (.bool false)∧w'=w:=by
 have hz:∀ p∈([(15,zr,true),(28,zs,false)]:List (Nat × Int × Bool)),(p.2.1==0)=p.2.2:=fun p hp=>by
  simp only[List.mem_cons,List.not_mem_nil,or_false] at hp
  rcases hp with rfl | rfl
  ·exact hr
  ·exact hs
 have HM:=memOf_sound hm
 have HZ:=zzOf_sound hz
 clear hm hz
 go_enter Tryd.func93,Tryd.ntmps93
 iterate 11 go_step
 refine wpList_names 4 (.bool false) HM HZ (by kernel_rfl) (by kernel_rfl) (fun a' hx hd=>?_)
 simp only[Exit.then]
 go_wp2_with fail
 refine bodyPost_ret (v:=.bool false) (fn:=Tryd.f93) ?_ hd ⟨rfl,rfl⟩
 rw[results_tmp Tryd.results93,hx]
theorem namesLeaf_13_2 (b:Nat)(w:World)(zr zs zt zn:Int)(aa ra:Option Addr)(la ca lr cr:Nat)(hr:(zr==0)=true)(hs:(zs==0)=true)(ht:(zt==0)=false)
 (hm:∀ p∈([(106,vN),(107,vN),(108,vN),(109,vF 88),(110,vN),(111,vN),(155,vI zr),(156,vI zs),(157,vI zt),(158,vI zn),(159,.slice aa la ca),(160,.slice ra lr cr)]:List (Nat × Value)),w.cell? ⟨b,p.1,none⟩=some p.2) :
 Calls Tryd.prog 93 #[pp b 106,pp b 154] w fun e w'=>e = .returned (.bool false)∧w'=w:=by
 have hz:∀ p∈([(15,zr,true),(28,zs,true),(42,zt,false)]:List (Nat × Int × Bool)),(p.2.1==0)=p.2.2:=fun p hp=>by
  simp only[List.mem_cons,List.not_mem_nil,or_false] at hp
  rcases hp with rfl | rfl | rfl
  ·exact hr
  ·exact hs
  ·exact ht
 have HM:=memOf_sound hm
 have HZ:=zzOf_sound hz
 clear hm hz
 go_enter Tryd.func93,Tryd.ntmps93
 iterate 11 go_step
 refine wpList_names 4 (.bool false) HM HZ (by kernel_rfl) (by kernel_rfl) (fun a' hx hd=>?_)
 simp only[Exit.then]
 go_wp2_with fail
 refine bodyPost_ret (v:=.bool false) (fn:=Tryd.f93) ?_ hd ⟨rfl,rfl⟩
 rw[results_tmp Tryd.results93,hx]
theorem namesLeaf_13_3 (b:Nat)(w:World)(zr zs zt zn:Int)(aa ra:Option Addr)(la ca lr cr:Nat)(hr:(zr==0)=true)(hs:(zs==0)=true)(ht:(zt==0)=true)(ha:((la:Int)==0)=false)
 (hm:∀ p∈([(106,vN),(107,vN),(108,vN),(109,vF 88),(110,vN),(111,vN),(155,vI zr),(156,vI zs),(157,vI zt),(158,vI zn),(159,.slice aa la ca),(160,.slice ra lr cr)]:List (Nat × Value)),w.cell? ⟨b,p.1,none⟩=some p.2) :
 Calls Tryd.prog 93 #[pp b 106,pp b 154] w fun e w'=>e = .returned (.bool false)∧w'=w:=by
 have hz:∀ p∈([(15,zr,true),(28,zs,true),(42,zt,true),(71,(la:Int),false)]:List (Nat × Int × Bool)),(p.2.1==0)=p.2.2:=fun p hp=>by
  simp only[List.mem_cons,List.not_mem_nil,or_false] at hp
  rcases hp with rfl | rfl | rfl | rfl
  ·exact hr
  ·exact hs
  ·exact ht
  ·exact ha
 have HM:=memOf_sound hm
 have HZ:=zzOf_sound hz
 clear hm hz
 go_enter Tryd.func93,Tryd.ntmps93
 iterate 11 go_step
 refine wpList_names 4 (.bool false) HM HZ (by kernel_rfl) (by kernel_rfl) (fun a' hx hd=>?_)
 simp only[Exit.then]
 go_wp2_with fail
 refine bodyPost_ret (v:=.bool false) (fn:=Tryd.f93) ?_ hd ⟨rfl,rfl⟩
 rw[results_tmp Tryd.results93,hx]
theorem namesLeaf_13_4 (b:Nat)(w:World)(zr zs zt zn:Int)(aa ra:Option Addr)(la ca lr cr:Nat)(hr:(zr==0)=true)(hs:(zs==0)=true)(ht:(zt==0)=true)(ha:((la:Int)==0)=true)(he:((lr:Int)==0)=false)
 (hm:∀ p∈([(106,vN),(107,vN),(108,vN),(109,vF 88),(110,vN),(111,vN),(155,vI zr),(156,vI zs),(157,vI zt),(158,vI zn),(159,.slice aa la ca),(160,.slice ra lr cr)]:List (Nat × Value)),w.cell? ⟨b,p.1,none⟩=some p.2) :
 Calls Tryd.prog 93 #[pp b 106,pp b 154] w fun e w'=>e = .returned (.bool false)∧w'=w:=by
 have hz:∀ p∈([(15,zr,true),(28,zs,true),(42,zt,true),(71,(la:Int),true),(86,(lr:Int),false)]:List (Nat × Int × Bool)),(p.2.1==0)=p.2.2:=fun p hp=>by
  simp only[List.mem_cons,List.not_mem_nil,or_false] at hp
  rcases hp with rfl | rfl | rfl | rfl | rfl
  ·exact hr
  ·exact hs
  ·exact ht
  ·exact ha
  ·exact he
 have HM:=memOf_sound hm
 have HZ:=zzOf_sound hz
 clear hm hz
 go_enter Tryd.func93,Tryd.ntmps93
 iterate 11 go_step
 refine wpList_names 4 (.bool false) HM HZ (by kernel_rfl) (by kernel_rfl) (fun a' hx hd=>?_)
 simp only[Exit.then]
 go_wp2_with fail
 refine bodyPost_ret (v:=.bool false) (fn:=Tryd.f93) ?_ hd ⟨rfl,rfl⟩
 rw[results_tmp Tryd.results93,hx]
theorem namesLeaf_13_5 (b:Nat)(w:World)(zr zs zt zn:Int)(aa ra:Option Addr)(la ca lr cr:Nat)(hr:(zr==0)=true)(hs:(zs==0)=true)(ht:(zt==0)=true)(ha:((la:Int)==0)=true)(he:((lr:Int)==0)=true)
 (hm:∀ p∈([(106,vN),(107,vN),(108,vN),(109,vF 88),(110,vN),(111,vN),(155,vI zr),(156,vI zs),(157,vI zt),(158,vI zn),(159,.slice aa la ca),(160,.slice ra lr cr)]:List (Nat × Value)),w.cell? ⟨b,p.1,none⟩=some p.2) :
 Calls Tryd.prog 93 #[pp b 106,pp b 154] w fun e w'=>e = .returned (.bool true)∧w'=w:=by
 have hz:∀ p∈([(15,zr,true),(28,zs,true),(42,zt,true),(71,(la:Int),true),(86,(lr:Int),true)]:List (Nat × Int × Bool)),(p.2.1==0)=p.2.2:=fun p hp=>by
  simp only[List.mem_cons,List.not_mem_nil,or_false] at hp
  rcases hp with rfl | rfl | rfl | rfl | rfl
  ·exact hr
  ·exact hs
  ·exact ht
  ·exact ha
  ·exact he
 have HM:=memOf_sound hm
 have HZ:=zzOf_sound hz
 clear hm hz
 go_enter Tryd.func93,Tryd.ntmps93
 iterate 11 go_step
 refine wpList_names 4 (.bool true) HM HZ (by kernel_rfl) (by kernel_rfl) (fun a' hx hd=>?_)
 simp only[Exit.then]
 go_wp2_with fail
 refine bodyPost_ret (v:=.bool true) (fn:=Tryd.f93) ?_ hd ⟨rfl,rfl⟩
 rw[results_tmp Tryd.results93,hx]
theorem namesAll_g13 {b:Nat}(s:WS)(w:World)(h:Lies w b s)(aa ra:Option Addr)(la ca lr cr:Nat)(ha:s.args = .slice aa la ca)(hr:s.rets = .slice ra lr cr) :
 Calls Tryd.prog 93 #[.pointer (some ⟨b,106,none⟩),.pointer (some ⟨b,154,none⟩)] w fun e w'=>e = .returned (.bool ((s.r==0)&&(s.s==0)&&(s.t==0)&&((la:Int)==0)&&((lr:Int)==0)))∧w'=w:=by
 have r0:w.cell? ⟨b,106,none⟩=some (vN):=by rw[h.cell];kernel_rfl
 have r1:w.cell? ⟨b,107,none⟩=some (vN):=by rw[h.cell];kernel_rfl
 have r2:w.cell? ⟨b,108,none⟩=some (vN):=by rw[h.cell];kernel_rfl
 have r3:w.cell? ⟨b,109,none⟩=some (vF 88):=by rw[h.cell];kernel_rfl
 have r4:w.cell? ⟨b,110,none⟩=some (vN):=by rw[h.cell];kernel_rfl
 have r5:w.cell? ⟨b,111,none⟩=some (vN):=by rw[h.cell];kernel_rfl
 have x1:w.cell? ⟨b,155,none⟩=some (vI s.r):=h.facts.2.2.2.2.2.2.2.2.2.2.2.1
 have x2:w.cell? ⟨b,156,none⟩=some (vI s.s):=h.facts.2.2.2.2.2.2.2.2.2.2.2.2.1
 have x3:w.cell? ⟨b,157,none⟩=some (vI s.t):=h.facts.2.2.2.2.2.2.2.2.2.2.2.2.2.1
 have x4:w.cell? ⟨b,158,none⟩=some (vI s.n):=h.facts.2.2.2.2.2.2.2.2.2.2.2.2.2.2.1
 have x5:w.cell? ⟨b,159,none⟩=some (.slice aa la ca):=by rw[h.facts.2.2.2.2.2.2.2.2.2.2.2.2.2.2.2.1,ha]
 have x6:w.cell? ⟨b,160,none⟩=some (.slice ra lr cr):=by rw[h.facts.2.2.2.2.2.2.2.2.2.2.2.2.2.2.2.2.1,hr]
 generalize s.r=zr at *
 generalize s.s=zs at *
 generalize s.t=zt at *
 generalize s.n=zn at *
 have hm:∀ p∈([(106,vN),(107,vN),(108,vN),(109,vF 88),(110,vN),(111,vN),(155,vI zr),(156,vI zs),(157,vI zt),(158,vI zn),(159,.slice aa la ca),(160,.slice ra lr cr)]:List (Nat × Value)),w.cell? ⟨b,p.1,none⟩=some p.2:=fun p hp=>by
  simp only[List.mem_cons,List.not_mem_nil,or_false] at hp
  rcases hp with rfl | rfl | rfl | rfl | rfl | rfl | rfl | rfl | rfl | rfl | rfl | rfl
  ·exact r0
  ·exact r1
  ·exact r2
  ·exact r3
  ·exact r4
  ·exact r5
  ·exact x1
  ·exact x2
  ·exact x3
  ·exact x4
  ·exact x5
  ·exact x6
 clear r0 r1 r2 r3 r4 r5 x1 x2 x3 x4 x5 x6 h ha hr
 cases hr:(zr==0)
 ·exact(namesLeaf_13_0 b w zr zs zt zn aa ra la ca lr cr hr hm).mono (fun e w' he=>⟨by rw[he.1];rfl,he.2⟩)
 cases hs:(zs==0)
 ·exact(namesLeaf_13_1 b w zr zs zt zn aa ra la ca lr cr hr hs hm).mono (fun e w' he=>⟨by rw[he.1];rfl,he.2⟩)
 cases ht:(zt==0)
 ·exact(namesLeaf_13_2 b w zr zs zt zn aa ra la ca lr cr hr hs ht hm).mono (fun e w' he=>⟨by rw[he.1];rfl,he.2⟩)
 cases ha:((la:Int)==0)
 ·exact(namesLeaf_13_3 b w zr zs zt zn aa ra la ca lr cr hr hs ht ha hm).mono (fun e w' he=>⟨by rw[he.1];rfl,he.2⟩)
 cases he:((lr:Int)==0)
 ·exact(namesLeaf_13_4 b w zr zs zt zn aa ra la ca lr cr hr hs ht ha he hm).mono (fun e w' he=>⟨by rw[he.1];rfl,he.2⟩)
 exact(namesLeaf_13_5 b w zr zs zt zn aa ra la ca lr cr hr hs ht ha he hm).mono (fun e w' he=>⟨by rw[he.1];rfl,he.2⟩)
theorem namesLeaf_14_0 (b:Nat)(w:World)(zr zs zt zn:Int)(aa ra:Option Addr)(la ca lr cr:Nat)(hr:(zr==0)=false)
 (hm:∀ p∈([(114,vN),(115,vF 80),(116,vN),(117,vF 88),(118,vN),(119,vN),(155,vI zr),(156,vI zs),(157,vI zt),(158,vI zn),(159,.slice aa la ca),(160,.slice ra lr cr)]:List (Nat × Value)),w.cell? ⟨b,p.1,none⟩=some p.2) :
 Calls Tryd.prog 93 #[pp b 114,pp b 154] w fun e w'=>e = .returned (.bool false)∧w'=w:=by
 have hz:∀ p∈([(15,zr,false)]:List (Nat × Int × Bool)),(p.2.1==0)=p.2.2:=fun p hp=>by
  simp only[List.mem_cons,List.not_mem_nil,or_false] at hp
  rcases hp with rfl
  ·exact hr
 have HM:=memOf_sound hm
 have HZ:=zzOf_sound hz
 clear hm hz
 go_enter Tryd.func93,Tryd.ntmps93
 iterate 11 go_step
 refine wpList_names 4 (.bool false) HM HZ (by kernel_rfl) (by kernel_rfl) (fun a' hx hd=>?_)
 simp only[Exit.then]
 go_wp2_with fail
 refine bodyPost_ret (v:=.bool false) (fn:=Tryd.f93) ?_ hd ⟨rfl,rfl⟩
 rw[results_tmp Tryd.results93,hx]
theorem namesLeaf_14_1 (b:Nat)(w:World)(zr zs zt zn:Int)(aa ra:Option Addr)(la ca lr cr:Nat)(hr:(zr==0)=true)(ht:(zt==0)=false)
 (hm:∀ p∈([(114,vN),(115,vF 80),(116,vN),(117,vF 88),(118,vN),(119,vN),(155,vI zr),(156,vI zs),(157,vI zt),(158,vI zn),(159,.slice aa la ca),(160,.slice ra lr cr)]:List (Nat × Value)),w.cell? ⟨b,p.1,none⟩=some p.2) :
 Calls Tryd.prog 93 #[pp b 114,pp b 154] w fun e w'=>e = .returned (.bool false)∧w'=w:=by
 have hz:∀ p∈([(15,zr,true),(42,zt,false)]:List (Nat × Int × Bool)),(p.2.1==0)=p.2.2:=fun p hp=>by
  simp only[List.mem_cons,List.not_mem_nil,or_false] at hp
  rcases hp with rfl | rfl
  ·exact hr
  ·exact ht
 have HM:=memOf_sound hm
 have HZ:=zzOf_sound hz
 clear hm hz
 go_enter Tryd.func93,Tryd.ntmps93
 iterate 11 go_step
 refine wpList_names 4 (.bool false) HM HZ (by kernel_rfl) (by kernel_rfl) (fun a' hx hd=>?_)
 simp only[Exit.then]
 go_wp2_with fail
 refine bodyPost_ret (v:=.bool false) (fn:=Tryd.f93) ?_ hd ⟨rfl,rfl⟩
 rw[results_tmp Tryd.results93,hx]
theorem namesLeaf_14_2 (b:Nat)(w:World)(zr zs zt zn:Int)(aa ra:Option Addr)(la ca lr cr:Nat)(hr:(zr==0)=true)(ht:(zt==0)=true)(ha:((la:Int)==0)=false)
 (hm:∀ p∈([(114,vN),(115,vF 80),(116,vN),(117,vF 88),(118,vN),(119,vN),(155,vI zr),(156,vI zs),(157,vI zt),(158,vI zn),(159,.slice aa la ca),(160,.slice ra lr cr)]:List (Nat × Value)),w.cell? ⟨b,p.1,none⟩=some p.2) :
 Calls Tryd.prog 93 #[pp b 114,pp b 154] w fun e w'=>e = .returned (.bool false)∧w'=w:=by
 have hz:∀ p∈([(15,zr,true),(42,zt,true),(71,(la:Int),false)]:List (Nat × Int × Bool)),(p.2.1==0)=p.2.2:=fun p hp=>by
  simp only[List.mem_cons,List.not_mem_nil,or_false] at hp
  rcases hp with rfl | rfl | rfl
  ·exact hr
  ·exact ht
  ·exact ha
 have HM:=memOf_sound hm
 have HZ:=zzOf_sound hz
 clear hm hz
 go_enter Tryd.func93,Tryd.ntmps93
 iterate 11 go_step
 refine wpList_names 4 (.bool false) HM HZ (by kernel_rfl) (by kernel_rfl) (fun a' hx hd=>?_)
 simp only[Exit.then]
 go_wp2_with fail
 refine bodyPost_ret (v:=.bool false) (fn:=Tryd.f93) ?_ hd ⟨rfl,rfl⟩
 rw[results_tmp Tryd.results93,hx]
theorem namesLeaf_14_3 (b:Nat)(w:World)(zr zs zt zn:Int)(aa ra:Option Addr)(la ca lr cr:Nat)(hr:(zr==0)=true)(ht:(zt==0)=true)(ha:((la:Int)==0)=true)(he:((lr:Int)==0)=false)
 (hm:∀ p∈([(114,vN),(115,vF 80),(116,vN),(117,vF 88),(118,vN),(119,vN),(155,vI zr),(156,vI zs),(157,vI zt),(158,vI zn),(159,.slice aa la ca),(160,.slice ra lr cr)]:List (Nat × Value)),w.cell? ⟨b,p.1,none⟩=some p.2) :
 Calls Tryd.prog 93 #[pp b 114,pp b 154] w fun e w'=>e = .returned (.bool false)∧w'=w:=by
 have hz:∀ p∈([(15,zr,true),(42,zt,true),(71,(la:Int),true),(86,(lr:Int),false)]:List (Nat × Int × Bool)),(p.2.1==0)=p.2.2:=fun p hp=>by
  simp only[List.mem_cons,List.not_mem_nil,or_false] at hp
  rcases hp with rfl | rfl | rfl | rfl
  ·exact hr
  ·exact ht
  ·exact ha
  ·exact he
 have HM:=memOf_sound hm
 have HZ:=zzOf_sound hz
 clear hm hz
 go_enter Tryd.func93,Tryd.ntmps93
 iterate 11 go_step
 refine wpList_names 4 (.bool false) HM HZ (by kernel_rfl) (by kernel_rfl) (fun a' hx hd=>?_)
 simp only[Exit.then]
 go_wp2_with fail
 refine bodyPost_ret (v:=.bool false) (fn:=Tryd.f93) ?_ hd ⟨rfl,rfl⟩
 rw[results_tmp Tryd.results93,hx]
theorem namesLeaf_14_4 (b:Nat)(w:World)(zr zs zt zn:Int)(aa ra:Option Addr)(la ca lr cr:Nat)(hr:(zr==0)=true)(ht:(zt==0)=true)(ha:((la:Int)==0)=true)(he:((lr:Int)==0)=true)
 (hm:∀ p∈([(114,vN),(115,vF 80),(116,vN),(117,vF 88),(118,vN),(119,vN),(155,vI zr),(156,vI zs),(157,vI zt),(158,vI zn),(159,.slice aa la ca),(160,.slice ra lr cr)]:List (Nat × Value)),w.cell? ⟨b,p.1,none⟩=some p.2) :
 Calls Tryd.prog 93 #[pp b 114,pp b 154] w fun e w'=>e = .returned (.bool true)∧w'=w:=by
 have hz:∀ p∈([(15,zr,true),(42,zt,true),(71,(la:Int),true),(86,(lr:Int),true)]:List (Nat × Int × Bool)),(p.2.1==0)=p.2.2:=fun p hp=>by
  simp only[List.mem_cons,List.not_mem_nil,or_false] at hp
  rcases hp with rfl | rfl | rfl | rfl
  ·exact hr
  ·exact ht
  ·exact ha
  ·exact he
 have HM:=memOf_sound hm
 have HZ:=zzOf_sound hz
 clear hm hz
 go_enter Tryd.func93,Tryd.ntmps93
 iterate 11 go_step
 refine wpList_names 4 (.bool true) HM HZ (by kernel_rfl) (by kernel_rfl) (fun a' hx hd=>?_)
 simp only[Exit.then]
 go_wp2_with fail
 refine bodyPost_ret (v:=.bool true) (fn:=Tryd.f93) ?_ hd ⟨rfl,rfl⟩
 rw[results_tmp Tryd.results93,hx]
theorem namesAll_g14 {b:Nat}(s:WS)(w:World)(h:Lies w b s)(aa ra:Option Addr)(la ca lr cr:Nat)(ha:s.args = .slice aa la ca)(hr:s.rets = .slice ra lr cr) :
 Calls Tryd.prog 93 #[.pointer (some ⟨b,114,none⟩),.pointer (some ⟨b,154,none⟩)] w fun e w'=>e = .returned (.bool ((s.r==0)&&(s.t==0)&&((la:Int)==0)&&((lr:Int)==0)))∧w'=w:=by
 have r0:w.cell? ⟨b,114,none⟩=some (vN):=by rw[h.cell];kernel_rfl
 have r1:w.cell? ⟨b,115,none⟩=some (vF 80):=by rw[h.cell];kernel_rfl
 have r2:w.cell? ⟨b,116,none⟩=some (vN):=by rw[h.cell];kernel_rfl
 have r3:w.cell? ⟨b,117,none⟩=some (vF 88):=by rw[h.cell];kernel_rfl
 have r4:w.cell? ⟨b,118,none⟩=some (vN):=by rw[h.cell];kernel_rfl
 have r5:w.cell? ⟨b,119,none⟩=some (vN):=by rw[h.cell];kernel_rfl
 have x1:w.cell? ⟨b,155,none⟩=some (vI s.r):=h.facts.2.2.2.2.2.2.2.2.2.2.2.1
 have x2:w.cell? ⟨b,156,none⟩=some (vI s.s):=h.facts.2.2.2.2.2.2.2.2.2.2.2.2.1
 have x3:w.cell? ⟨b,157,none⟩=some (vI s.t):=h.facts.2.2.2.2.2.2.2.2.2.2.2.2.2.1
 have x4:w.cell? ⟨b,158,none⟩=some (vI s.n):=h.facts.2.2.2.2.2.2.2.2.2.2.2.2.2.2.1
 have x5:w.cell? ⟨b,159,none⟩=some (.slice aa la ca):=by rw[h.facts.2.2.2.2.2.2.2.2.2.2.2.2.2.2.2.1,ha]
 have x6:w.cell? ⟨b,160,none⟩=some (.slice ra lr cr):=by rw[h.facts.2.2.2.2.2.2.2.2.2.2.2.2.2.2.2.2.1,hr]
 generalize s.r=zr at *
 generalize s.s=zs at *
 generalize s.t=zt at *
 generalize s.n=zn at *
 have hm:∀ p∈([(114,vN),(115,vF 80),(116,vN),(117,vF 88),(118,vN),(119,vN),(155,vI zr),(156,vI zs),(157,vI zt),(158,vI zn),(159,.slice aa la ca),(160,.slice ra lr cr)]:List (Nat × Value)),w.cell? ⟨b,p.1,none⟩=some p.2:=fun p hp=>by
  simp only[List.mem_cons,List.not_mem_nil,or_false] at hp
  rcases hp with rfl | rfl | rfl | rfl | rfl | rfl | rfl | rfl | rfl | rfl | rfl | rfl
  ·exact r0
  ·exact r1
  ·exact r2
  ·exact r3
  ·exact r4
  ·exact r5
  ·exact x1
  ·exact x2
  ·exact x3
  ·exact x4
  ·exact x5
  ·exact x6
 clear r0 r1 r2 r3 r4 r5 x1 x2 x3 x4 x5 x6 h ha hr
 cases hr:(zr==0)
 ·exact(namesLeaf_14_0 b w zr zs zt zn aa ra la ca lr cr hr hm).mono (fun e w' he=>⟨by rw[he.1];rfl,he.2⟩)
 cases ht:(zt==0)
 ·exact(namesLeaf_14_1 b w zr zs zt zn aa ra la ca lr cr hr ht hm).mono (fun e w' he=>⟨by rw[he.1];rfl,he.2⟩)
 cases ha:((la:Int)==0)
 ·exact(namesLeaf_14_2 b w zr zs zt zn aa ra la ca lr cr hr ht ha hm).mono (fun e w' he=>⟨by rw[he.1];rfl,he.2⟩)
 cases he:((lr:Int)==0)
 ·exact(namesLeaf_14_3 b w zr zs zt zn aa ra la ca lr cr hr ht ha he hm).mono (fun e w' he=>⟨by rw[he.1];rfl,he.2⟩)
 exact(namesLeaf_14_4 b w zr zs zt zn aa ra la ca lr cr hr ht ha he hm).mono (fun e w' he=>⟨by rw[he.1];rfl,he.2⟩)
theorem namesLeaf_15_0 (b:Nat)(w:World)(zr zs zt zn:Int)(aa ra:Option Addr)(la ca lr cr:Nat)(hr:(zr==0)=false)
 (hm:∀ p∈([(122,vN),(123,vN),(124,vN),(125,vN),(126,vF 89),(127,vN),(155,vI zr),(156,vI zs),(157,vI zt),(158,vI zn),(159,.slice aa la ca),(160,.slice ra lr cr)]:List (Nat × Value)),w.cell? ⟨b,p.1,none⟩=some p.2) :
 Calls Tryd.prog 93 #[pp b 122,pp b 154] w fun e w'=>e = .returned (.bool false)∧w'=w:=by
 have hz:∀ p∈([(15,zr,false)]:List (Nat × Int × Bool)),(p.2.1==0)=p.2.2:=fun p hp=>by
  simp only[List.mem_cons,List.not_mem_nil,or_false] at hp
  rcases hp with rfl
  ·exact hr
 have HM:=memOf_sound hm
 have HZ:=zzOf_sound hz
 clear hm hz
 go_enter Tryd.func93,Tryd.ntmps93
 iterate 11 go_step
 refine wpList_names 4 (.bool false) HM HZ (by kernel_rfl) (by kernel_rfl) (fun a' hx hd=>?_)
 simp only[Exit.then]
 go_wp2_with fail
 refine bodyPost_ret (v:=.bool false) (fn:=Tryd.f93) ?_ hd ⟨rfl,rfl⟩
 rw[results_tmp Tryd.results93,hx]
theorem namesLeaf_15_1 (b:Nat)(w:World)(zr zs zt zn:Int)(aa ra:Option Addr)(la ca lr cr:Nat)(hr:(zr==0)=true)(hs:(zs==0)=false)
 (hm:∀ p∈([(122,vN),(123,vN),(124,vN),(125,vN),(126,vF 89),(127,vN),(155,vI zr),(156,vI zs),(157,vI zt),(158,vI zn),(159,.slice aa la ca),(160,.slice ra lr cr)]:List (Nat × Value)),w.cell? ⟨b,p.1,none⟩=some p.2) :
 Calls Tryd.prog 93 #[pp b 122,pp b 154] w fun e w'=>e = .returned (.bool false)∧w'=w:=by
 have hz:∀ p∈([(15,zr,true),(28,zs,false)]:List (Nat × Int × Bool)),(p.2.1==0)=p.2.2:=fun p hp=>by
  simp only[List.mem_cons,List.not_mem_nil,or_false] at hp
  rcases hp with rfl | rfl
  ·exact hr
  ·exact hs
 have HM:=memOf_sound hm
 have HZ:=zzOf_sound hz
 clear hm hz
 go_enter Tryd.func93,Tryd.ntmps93
 iterate 11 go_step
 refine wpList_names 4 (.bool false) HM HZ (by kernel_rfl) (by kernel_rfl) (fun a' hx hd=>?_)
 simp only[Exit.then]
 go_wp2_with fail
 refine bodyPost_ret (v:=.bool false) (fn:=Tryd.f93) ?_ hd ⟨rfl,rfl⟩
 rw[results_tmp Tryd.results93,hx]
theorem namesLeaf_15_2 (b:Nat)(w:World)(zr zs zt zn:Int)(aa ra:Option Addr)(la ca lr cr:Nat)(hr:(zr==0)=true)(hs:(zs==0)=true)(ht:(zt==0)=false)
 (hm:∀ p∈([(122,vN),(123,vN),(124,vN),(125,vN),(126,vF 89),(127,vN),(155,vI zr),(156,vI zs),(157,vI zt),(158,vI zn),(159,.slice aa la ca),(160,.slice ra lr cr)]:List (Nat × Value)),w.cell? ⟨b,p.1,none⟩=some p.2) :
 Calls Tryd.prog 93 #[pp b 122,pp b 154] w fun e w'=>e = .returned (.bool false)∧w'=w:=by
 have hz:∀ p∈([(15,zr,true),(28,zs,true),(42,zt,false)]:List (Nat × Int × Bool)),(p.2.1==0)=p.2.2:=fun p hp=>by
  simp only[List.mem_cons,List.not_mem_nil,or_false] at hp
  rcases hp with rfl | rfl | rfl
  ·exact hr
  ·exact hs
  ·exact ht
 have HM:=memOf_sound hm
 have HZ:=zzOf_sound hz
 clear hm hz
 go_enter Tryd.func93,Tryd.ntmps93
 iterate 11 go_step
 refine wpList_names 4 (.bool false) HM HZ (by kernel_rfl) (by kernel_rfl) (fun a' hx hd=>?_)
 simp only[Exit.then]
 go_wp2_with fail
 refine bodyPost_ret (v:=.bool false) (fn:=Tryd.f93) ?_ hd ⟨rfl,rfl⟩
 rw[results_tmp Tryd.results93,hx]
theorem namesLeaf_15_3 (b:Nat)(w:World)(zr zs zt zn:Int)(aa ra:Option Addr)(la ca lr cr:Nat)(hr:(zr==0)=true)(hs:(zs==0)=true)(ht:(zt==0)=true)(hn:(zn==0)=false)
 (hm:∀ p∈([(122,vN),(123,vN),(124,vN),(125,vN),(126,vF 89),(127,vN),(155,vI zr),(156,vI zs),(157,vI zt),(158,vI zn),(159,.slice aa la ca),(160,.slice ra lr cr)]:List (Nat × Value)),w.cell? ⟨b,p.1,none⟩=some p.2) :
 Calls Tryd.prog 93 #[pp b 122,pp b 154] w fun e w'=>e = .returned (.bool false)∧w'=w:=by
 have hz:∀ p∈([(15,zr,true),(28,zs,true),(42,zt,true),(56,zn,false)]:List (Nat × Int × Bool)),(p.2.1==0)=p.2.2:=fun p hp=>by
  simp only[List.mem_cons,List.not_mem_nil,or_false] at hp
  rcases hp with rfl | rfl | rfl | rfl
  ·exact hr
  ·exact hs
  ·exact ht
  ·exact hn
 have HM:=memOf_sound hm
 have HZ:=zzOf_sound hz
 clear hm hz
 go_enter Tryd.func93,Tryd.ntmps93
 iterate 11 go_step
 refine wpList_names 4 (.bool false) HM HZ (by kernel_rfl) (by kernel_rfl) (fun a' hx hd=>?_)
 simp only[Exit.then]
 go_wp2_with fail
 refine bodyPost_ret (v:=.bool false) (fn:=Tryd.f93) ?_ hd ⟨rfl,rfl⟩
 rw[results_tmp Tryd.results93,hx]
theorem namesLeaf_15_4 (b:Nat)(w:World)(zr zs zt zn:Int)(aa ra:Option Addr)(la ca lr cr:Nat)(hr:(zr==0)=true)(hs:(zs==0)=true)(ht:(zt==0)=true)(hn:(zn==0)=true)(he:((lr:Int)==0)=false)
 (hm:∀ p∈([(122,vN),(123,vN),(124,vN),(125,vN),(126,vF 89),(127,vN),(155,vI zr),(156,vI zs),(157,vI zt),(158,vI zn),(159,.slice aa la ca),(160,.slice ra lr cr)]:List (Nat × Value)),w.cell? ⟨b,p.1,none⟩=some p.2) :
 Calls Tryd.prog 93 #[pp b 122,pp b 154] w fun e w'=>e = .returned (.bool false)∧w'=w:=by
 have hz:∀ p∈([(15,zr,true),(28,zs,true),(42,zt,true),(56,zn,true),(86,(lr:Int),false)]:List (Nat × Int × Bool)),(p.2.1==0)=p.2.2:=fun p hp=>by
  simp only[List.mem_cons,List.not_mem_nil,or_false] at hp
  rcases hp with rfl | rfl | rfl | rfl | rfl
  ·exact hr
  ·exact hs
  ·exact ht
  ·exact hn
  ·exact he
 have HM:=memOf_sound hm
 have HZ:=zzOf_sound hz
 clear hm hz
 go_enter Tryd.func93,Tryd.ntmps93
 iterate 11 go_step
 refine wpList_names 4 (.bool false) HM HZ (by kernel_rfl) (by kernel_rfl) (fun a' hx hd=>?_)
 simp only[Exit.then]
 go_wp2_with fail
 refine bodyPost_ret (v:=.bool false) (fn:=Tryd.f93) ?_ hd ⟨rfl,rfl⟩
 rw[results_tmp Tryd.results93,hx]
theorem namesLeaf_15_5 (b:Nat)(w:World)(zr zs zt zn:Int)(aa ra:Option Addr)(la ca lr cr:Nat)(hr:(zr==0)=true)(hs:(zs==0)=true)(ht:(zt==0)=true)(hn:(zn==0)=true)(he:((lr:Int)==0)=true)
 (hm:∀ p∈([(122,vN),(123,vN),(124,vN),(125,vN),(126,vF 89),(127,vN),(155,vI zr),(156,vI zs),(157,vI zt),(158,vI zn),(159,.slice aa la ca),(160,.slice ra lr cr)]:List (Nat × Value)),w.cell? ⟨b,p.1,none⟩=some p.2) :
 Calls Tryd.prog 93 #[pp b 122,pp b 154] w fun e w'=>e = .returned (.bool true)∧w'=w:=by
 have hz:∀ p∈([(15,zr,true),(28,zs,true),(42,zt,true),(56,zn,true),(86,(lr:Int),true)]:List (Nat × Int × Bool)),(p.2.1==0)=p.2.2:=fun p hp=>by
  simp only[List.mem_cons,List.not_mem_nil,or_false] at hp
  rcases hp with rfl | rfl | rfl | rfl | rfl
  ·exact hr
  ·exact hs
  ·exact ht
  ·exact hn
  ·exact he
 have HM:=memOf_sound hm
 have HZ:=zzOf_sound hz
 clear hm hz
 go_enter Tryd.func93,Tryd.ntmps93
 iterate 11 go_step
 refine wpList_names 4 (.bool true) HM HZ (by kernel_rfl) (by kernel_rfl) (fun a' hx hd=>?_)
 simp only[Exit.then]
 go_wp2_with fail
 refine bodyPost_ret (v:=.bool true) (fn:=Tryd.f93) ?_ hd ⟨rfl,rfl⟩
 rw[results_tmp Tryd.results93,hx]
theorem namesAll_g15 {b:Nat}(s:WS)(w:World)(h:Lies w b s)(aa ra:Option Addr)(la ca lr cr:Nat)(ha:s.args = .slice aa la ca)(hr:s.rets = .slice ra lr cr) :
 Calls Tryd.prog 93 #[.pointer (some ⟨b,122,none⟩),.pointer (some ⟨b,154,none⟩)] w fun e w'=>e = .returned (.bool ((s.r==0)&&(s.s==0)&&(s.t==0)&&(s.n==0)&&((lr:Int)==0)))∧w'=w:=by
 have r0:w.cell? ⟨b,122,none⟩=some (vN):=by rw[h.cell];kernel_rfl
 have r1:w.cell? ⟨b,123,none⟩=some (vN):=by rw[h.cell];kernel_rfl
 have r2:w.cell? ⟨b,124,none⟩=some (vN):=by rw[h.cell];kernel_rfl
 have r3:w.cell? ⟨b,125,none⟩=some (vN):=by rw[h.cell];kernel_rfl
 have r4:w.cell? ⟨b,126,none⟩=some (vF 89):=by rw[h.cell];kernel_rfl
 have r5:w.cell? ⟨b,127,none⟩=some (vN):=by rw[h.cell];kernel_rfl
 have x1:w.cell? ⟨b,155,none⟩=some (vI s.r):=h.facts.2.2.2.2.2.2.2.2.2.2.2.1
 have x2:w.cell? ⟨b,156,none⟩=some (vI s.s):=h.facts.2.2.2.2.2.2.2.2.2.2.2.2.1
 have x3:w.cell? ⟨b,157,none⟩=some (vI s.t):=h.facts.2.2.2.2.2.2.2.2.2.2.2.2.2.1
 have x4:w.cell? ⟨b,158,none⟩=some (vI s.n):=h.facts.2.2.2.2.2.2.2.2.2.2.2.2.2.2.1
 have x5:w.cell? ⟨b,159,none⟩=some (.slice aa la ca):=by rw[h.facts.2.2.2.2.2.2.2.2.2.2.2.2.2.2.2.1,ha]
 have x6:w.cell? ⟨b,160,none⟩=some (.slice ra lr cr):=by rw[h.facts.2.2.2.2.2.2.2.2.2.2.2.2.2.2.2.2.1,hr]
 generalize s.r=zr at *
 generalize s.s=zs at *
 generalize s.t=zt at *
 generalize s.n=zn at *
 have hm:∀ p∈([(122,vN),(123,vN),(124,vN),(125,vN),(126,vF 89),(127,vN),(155,vI zr),(156,vI zs),(157,vI zt),(158,vI zn),(159,.slice aa la ca),(160,.slice ra lr cr)]:List (Nat × Value)),w.cell? ⟨b,p.1,none⟩=some p.2:=fun p hp=>by
  simp only[List.mem_cons,List.not_mem_nil,or_false] at hp
  rcases hp with rfl | rfl | rfl | rfl | rfl | rfl | rfl | rfl | rfl | rfl | rfl | rfl
  ·exact r0
  ·exact r1
  ·exact r2
  ·exact r3
  ·exact r4
  ·exact r5
  ·exact x1
  ·exact x2
  ·exact x3
  ·exact x4
  ·exact x5
  ·exact x6
 clear r0 r1 r2 r3 r4 r5 x1 x2 x3 x4 x5 x6 h ha hr
 cases hr:(zr==0)
 ·exact(namesLeaf_15_0 b w zr zs zt zn aa ra la ca lr cr hr hm).mono (fun e w' he=>⟨by rw[he.1];rfl,he.2⟩)
 cases hs:(zs==0)
 ·exact(namesLeaf_15_1 b w zr zs zt zn aa ra la ca lr cr hr hs hm).mono (fun e w' he=>⟨by rw[he.1];rfl,he.2⟩)
 cases ht:(zt==0)
 ·exact(namesLeaf_15_2 b w zr zs zt zn aa ra la ca lr cr hr hs ht hm).mono (fun e w' he=>⟨by rw[he.1];rfl,he.2⟩)
 cases hn:(zn==0)
 ·exact(namesLeaf_15_3 b w zr zs zt zn aa ra la ca lr cr hr hs ht hn hm).mono (fun e w' he=>⟨by rw[he.1];rfl,he.2⟩)
 cases he:((lr:Int)==0)
 ·exact(namesLeaf_15_4 b w zr zs zt zn aa ra la ca lr cr hr hs ht hn he hm).mono (fun e w' he=>⟨by rw[he.1];rfl,he.2⟩)
 exact(namesLeaf_15_5 b w zr zs zt zn aa ra la ca lr cr hr hs ht hn he hm).mono (fun e w' he=>⟨by rw[he.1];rfl,he.2⟩)
theorem namesLeaf_16_0 (b:Nat)(w:World)(zr zs zt zn:Int)(aa ra:Option Addr)(la ca lr cr:Nat)(hs:(zs==0)=false)
 (hm:∀ p∈([(130,vF 80),(131,vN),(132,vN),(133,vN),(134,vN),(135,vN),(155,vI zr),(156,vI zs),(157,vI zt),(158,vI zn),(159,.slice aa la ca),(160,.slice ra lr cr)]:List (Nat × Value)),w.cell? ⟨b,p.1,none⟩=some p.2) :
 Calls Tryd.prog 93 #[pp b 130,pp b 154] w fun e w'=>e = .returned (.bool false)∧w'=w:=by
 have hz:∀ p∈([(28,zs,false)]:List (Nat × Int × Bool)),(p.2.1==0)=p.2.2:=fun p hp=>by
  simp only[List.mem_cons,List.not_mem_nil,or_false] at hp
  rcases hp with rfl
  ·exact hs
 have HM:=memOf_sound hm
 have HZ:=zzOf_sound hz
 clear hm hz
 go_enter Tryd.func93,Tryd.ntmps93
 iterate 11 go_step
 refine wpList_names 4 (.bool false) HM HZ (by kernel_rfl) (by kernel_rfl) (fun a' hx hd=>?_)
 simp only[Exit.then]
 go_wp2_with fail
 refine bodyPost_ret (v:=.bool false) (fn:=Tryd.f93) ?_ hd ⟨rfl,rfl⟩
 rw[results_tmp Tryd.results93,hx]
theorem namesLeaf_16_1 (b:Nat)(w:World)(zr zs zt zn:Int)(aa ra:Option Addr)(la ca lr cr:Nat)(hs:(zs==0)=true)(ht:(zt==0)=false)
 (hm:∀ p∈([(130,vF 80),(131,vN),(132,vN),(133,vN),(134,vN),(135,vN),(155,vI zr),(156,vI zs),(157,vI zt),(158,vI zn),(159,.slice aa la ca),(160,.slice ra lr cr)]:List (Nat × Value)),w.cell? ⟨b,p.1,none⟩=some p.2) :
 Calls Tryd.prog 93 #[pp b 130,pp b 154] w fun e w'=>e = .returned (.bool false)∧w'=w:=by
 have hz:∀ p∈([(28,zs,true),(42,zt,false)]:List (Nat × Int × Bool)),(p.2.1==0)=p.2.2:=fun p hp=>by
  simp only[List.mem_cons,List.not_mem_nil,or_false] at hp
  rcases hp with rfl | rfl
  ·exact hs
  ·exact ht
 have HM:=memOf_sound hm
 have HZ:=zzOf_sound hz
 clear hm hz
 go_enter Tryd.func93,Tryd.ntmps93
 iterate 11 go_step
 refine wpList_names 4 (.bool false) HM HZ (by kernel_rfl) (by kernel_rfl) (fun a' hx hd=>?_)
 simp only[Exit.then]
 go_wp2_with fail
 refine bodyPost_ret (v:=.bool false) (fn:=Tryd.f93) ?_ hd ⟨rfl,rfl⟩
 rw[results_tmp Tryd.results93,hx]
theorem namesLeaf_16_2 (b:Nat)(w:World)(zr zs zt zn:Int)(aa ra:Option Addr)(la ca lr cr:Nat)(hs:(zs==0)=true)(ht:(zt==0)=true)(hn:(zn==0)=false)
 (hm:∀ p∈([(130,vF 80),(131,vN),(132,vN),(133,vN),(134,vN),(135,vN),(155,vI zr),(156,vI zs),(157,vI zt),(158,vI zn),(159,.slice aa la ca),(160,.slice ra lr cr)]:List (Nat × Value)),w.cell? ⟨b,p.1,none⟩=some p.2) :
 Calls Tryd.prog 93 #[pp b 130,pp b 154] w fun e w'=>e = .returned (.bool false)∧w'=w:=by
 have hz:∀ p∈([(28,zs,true),(42,zt,true),(56,zn,false)]:List (Nat × Int × Bool)),(p.2.1==0)=p.2.2:=fun p hp=>by
  simp only[List.mem_cons,List.not_mem_nil,or_false] at hp
  rcases hp with rfl | rfl | rfl
  ·exact hs
  ·exact ht
  ·exact hn
 have HM:=memOf_sound hm
 have HZ:=zzOf_sound hz
 clear hm hz
 go_enter Tryd.func93,Tryd.ntmps93
 iterate 11 go_step
 refine wpList_names 4 (.bool false) HM HZ (by kernel_rfl) (by kernel_rfl) (fun a' hx hd=>?_)
 simp only[Exit.then]
 go_wp2_with fail
 refine bodyPost_ret (v:=.bool false) (fn:=Tryd.f93) ?_ hd ⟨rfl,rfl⟩
 rw[results_tmp Tryd.results93,hx]
theorem namesLeaf_16_3 (b:Nat)(w:World)(zr zs zt zn:Int)(aa ra:Option Addr)(la ca lr cr:Nat)(hs:(zs==0)=true)(ht:(zt==0)=true)(hn:(zn==0)=true)(ha:((la:Int)==0)=false)
 (hm:∀ p∈([(130,vF 80),(131,vN),(132,vN),(133,vN),(134,vN),(135,vN),(155,vI zr),(156,vI zs),(157,vI zt),(158,vI zn),(159,.slice aa la ca),(160,.slice ra lr cr)]:List (Nat × Value)),w.cell? ⟨b,p.1,none⟩=some p.2) :
 Calls Tryd.prog 93 #[pp b 130,pp b 154] w fun e w'=>e = .returned (.bool false)∧w'=w:=by
 have hz:∀ p∈([(28,zs,true),(42,zt,true),(56,zn,true),(71,(la:Int),false)]:List (Nat × Int × Bool)),(p.2.1==0)=p.2.2:=fun p hp=>by
  simp only[List.mem_cons,List.not_mem_nil,or_false] at hp
  rcases hp with rfl | rfl | rfl | rfl
  ·exact hs
  ·exact ht
  ·exact hn
  ·exact ha
 have HM:=memOf_sound hm
 have HZ:=zzOf_sound hz
 clear hm hz
 go_enter Tryd.func93,Tryd.ntmps93
 iterate 11 go_step
 refine wpList_names 4 (.bool false) HM HZ (by kernel_rfl) (by kernel_rfl) (fun a' hx hd=>?_)
 simp only[Exit.then]
 go_wp2_with fail
 refine bodyPost_ret (v:=.bool false) (fn:=Tryd.f93) ?_ hd ⟨rfl,rfl⟩
 rw[results_tmp Tryd.results93,hx]
theorem namesLeaf_16_4 (b:Nat)(w:World)(zr zs zt zn:Int)(aa ra:Option Addr)(la ca lr cr:Nat)(hs:(zs==0)=true)(ht:(zt==0)=true)(hn:(zn==0)=true)(ha:((la:Int)==0)=true)(he:((lr:Int)==0)=false)
 (hm:∀ p∈([(130,vF 80),(131,vN),(132,vN),(133,vN),(134,vN),(135,vN),(155,vI zr),(156,vI zs),(157,vI zt),(158,vI zn),(159,.slice aa la ca),(160,.slice ra lr cr)]:List (Nat × Value)),w.cell? ⟨b,p.1,none⟩=some p.2) :
 Calls Tryd.prog 93 #[pp b 130,pp b 154] w fun e w'=>e = .returned (.bool false)∧w'=w:=by
 have hz:∀ p∈([(28,zs,true),(42,zt,true),(56,zn,true),(71,(la:Int),true),(86,(lr:Int),false)]:List (Nat × Int × Bool)),(p.2.1==0)=p.2.2:=fun p hp=>by
  simp only[List.mem_cons,List.not_mem_nil,or_false] at hp
  rcases hp with rfl | rfl | rfl | rfl | rfl
  ·exact hs
  ·exact ht
  ·exact hn
  ·exact ha
  ·exact he
 have HM:=memOf_sound hm
 have HZ:=zzOf_sound hz
 clear hm hz
 go_enter Tryd.func93,Tryd.ntmps93
 iterate 11 go_step
 refine wpList_names 4 (.bool false) HM HZ (by kernel_rfl) (by kernel_rfl) (fun a' hx hd=>?_)
 simp only[Exit.then]
 go_wp2_with fail
 refine bodyPost_ret (v:=.bool false) (fn:=Tryd.f93) ?_ hd ⟨rfl,rfl⟩
 rw[results_tmp Tryd.results93,hx]
theorem namesLeaf_16_5 (b:Nat)(w:World)(zr zs zt zn:Int)(aa ra:Option Addr)(la ca lr cr:Nat)(hs:(zs==0)=true)(ht:(zt==0)=true)(hn:(zn==0)=true)(ha:((la:Int)==0)=true)(he:((lr:Int)==0)=true)
 (hm:∀ p∈([(130,vF 80),(131,vN),(132,vN),(133,vN),(134,vN),(135,vN),(155,vI zr),(156,vI zs),(157,vI zt),(158,vI zn),(159,.slice aa la ca),(160,.slice ra lr cr)]:List (Nat × Value)),w.cell? ⟨b,p.1,none⟩=some p.2) :
 Calls Tryd.prog 93 #[pp b 130,pp b 154] w fun e w'=>e = .returned (.bool true)∧w'=w:=by
 have hz:∀ p∈([(28,zs,true),(42,zt,true),(56,zn,true),(71,(la:Int),true),(86,(lr:Int),true)]:List (Nat × Int × Bool)),(p.2.1==0)=p.2.2:=fun p hp=>by
  simp only[List.mem_cons,List.not_mem_nil,or_false] at hp
  rcases hp with rfl | rfl | rfl | rfl | rfl
  ·exact hs
  ·exact ht
  ·exact hn
  ·exact ha
  ·exact he
 have HM:=memOf_sound hm
 have HZ:=zzOf_sound hz
 clear hm hz
 go_enter Tryd.func93,Tryd.ntmps93
 iterate 11 go_step
 refine wpList_names 4 (.bool true) HM HZ (by kernel_rfl) (by kernel_rfl) (fun a' hx hd=>?_)
 simp only[Exit.then]
 go_wp2_with fail
 refine bodyPost_ret (v:=.bool true) (fn:=Tryd.f93) ?_ hd ⟨rfl,rfl⟩
 rw[results_tmp Tryd.results93,hx]
theorem namesAll_g16 {b:Nat}(s:WS)(w:World)(h:Lies w b s)(aa ra:Option Addr)(la ca lr cr:Nat)(ha:s.args = .slice aa la ca)(hr:s.rets = .slice ra lr cr) :
 Calls Tryd.prog 93 #[.pointer (some ⟨b,130,none⟩),.pointer (some ⟨b,154,none⟩)] w fun e w'=>e = .returned (.bool ((s.s==0)&&(s.t==0)&&(s.n==0)&&((la:Int)==0)&&((lr:Int)==0)))∧w'=w:=by
 have r0:w.cell? ⟨b,130,none⟩=some (vF 80):=by rw[h.cell];kernel_rfl
 have r1:w.cell? ⟨b,131,none⟩=some (vN):=by rw[h.cell];kernel_rfl
 have r2:w.cell? ⟨b,132,none⟩=some (vN):=by rw[h.cell];kernel_rfl
 have r3:w.cell? ⟨b,133,none⟩=some (vN):=by rw[h.cell];kernel_rfl
 have r4:w.cell? ⟨b,134,none⟩=some (vN):=by rw[h.cell];kernel_rfl
 have r5:w.cell? ⟨b,135,none⟩=some (vN):=by rw[h.cell];kernel_rfl
 have x1:w.cell? ⟨b,155,none⟩=some (vI s.r):=h.facts.2.2.2.2.2.2.2.2.2.2.2.1
 have x2:w.cell? ⟨b,156,none⟩=some (vI s.s):=h.facts.2.2.2.2.2.2.2.2.2.2.2.2.1
 have x3:w.cell? ⟨b,157,none⟩=some (vI s.t):=h.facts.2.2.2.2.2.2.2.2.2.2.2.2.2.1
 have x4:w.cell? ⟨b,158,none⟩=some (vI s.n):=h.facts.2.2.2.2.2.2.2.2.2.2.2.2.2.2.1
 have x5:w.cell? ⟨b,159,none⟩=some (.slice aa la ca):=by rw[h.facts.2.2.2.2.2.2.2.2.2.2.2.2.2.2.2.1,ha]
 have x6:w.cell? ⟨b,160,none⟩=some (.slice ra lr cr):=by rw[h.facts.2.2.2.2.2.2.2.2.2.2.2.2.2.2.2.2.1,hr]
 generalize s.r=zr at *
 generalize s.s=zs at *
 generalize s.t=zt at *
 generalize s.n=zn at *
 have hm:∀ p∈([(130,vF 80),(131,vN),(132,vN),(133,vN),(134,vN),(135,vN),(155,vI zr),(156,vI zs),(157,vI zt),(158,vI zn),(159,.slice aa la ca),(160,.slice ra lr cr)]:List (Nat × Value)),w.cell? ⟨b,p.1,none⟩=some p.2:=fun p hp=>by
  simp only[List.mem_cons,List.not_mem_nil,or_false] at hp
  rcases hp with rfl | rfl | rfl | rfl | rfl | rfl | rfl | rfl | rfl | rfl | rfl | rfl
  ·exact r0
  ·exact r1
  ·exact r2
  ·exact r3
  ·exact r4
  ·exact r5
  ·exact x1
  ·exact x2
  ·exact x3
  ·exact x4
  ·exact x5
  ·exact x6
 clear r0 r1 r2 r3 r4 r5 x1 x2 x3 x4 x5 x6 h ha hr
 cases hs:(zs==0)
 ·exact(namesLeaf_16_0 b w zr zs zt zn aa ra la ca lr cr hs hm).mono (fun e w' he=>⟨by rw[he.1];rfl,he.2⟩)
 cases ht:(zt==0)
 ·exact(namesLeaf_16_1 b w zr zs zt zn aa ra la ca lr cr hs ht hm).mono (fun e w' he=>⟨by rw[he.1];rfl,he.2⟩)
 cases hn:(zn==0)
 ·exact(namesLeaf_16_2 b w zr zs zt zn aa ra la ca lr cr hs ht hn hm).mono (fun e w' he=>⟨by rw[he.1];rfl,he.2⟩)
 cases ha:((la:Int)==0)
 ·exact(namesLeaf_16_3 b w zr zs zt zn aa ra la ca lr cr hs ht hn ha hm).mono (fun e w' he=>⟨by rw[he.1];rfl,he.2⟩)
 cases he:((lr:Int)==0)
 ·exact(namesLeaf_16_4 b w zr zs zt zn aa ra la ca lr cr hs ht hn ha he hm).mono (fun e w' he=>⟨by rw[he.1];rfl,he.2⟩)
 exact(namesLeaf_16_5 b w zr zs zt zn aa ra la ca lr cr hs ht hn ha he hm).mono (fun e w' he=>⟨by rw[he.1];rfl,he.2⟩)
theorem namesLeaf_17_0 (b:Nat)(w:World)(zr zs zt zn:Int)(aa ra:Option Addr)(la ca lr cr:Nat)(hn:(zn==0)=false)
 (hm:∀ p∈([(138,vF 80),(139,vF 80),(140,vF 80),(141,vN),(142,vN),(143,vN),(155,vI zr),(156,vI zs),(157,vI zt),(158,vI zn),(159,.slice aa la ca),(160,.slice ra lr cr)]:List (Nat × Value)),w.cell? ⟨b,p.1,none⟩=some p.2) :
 Calls Tryd.prog 93 #[pp b 138,pp b 154] w fun e w'=>e = .returned (.bool false)∧w'=w:=by
 have hz:∀ p∈([(56,zn,false)]:List (Nat × Int × Bool)),(p.2.1==0)=p.2.2:=fun p hp=>by
  simp only[List.mem_cons,List.not_mem_nil,or_false] at hp
  rcases hp with rfl
  ·exact hn
 have HM:=memOf_sound hm
 have HZ:=zzOf_sound hz
 clear hm hz
 go_enter Tryd.func93,Tryd.ntmps93
 iterate 11 go_step
 refine wpList_names 4 (.bool false) HM HZ (by kernel_rfl) (by kernel_rfl) (fun a' hx hd=>?_)
 simp only[Exit.then]
 go_wp2_with fail
 refine bodyPost_ret (v:=.bool false) (fn:=Tryd.f93) ?_ hd ⟨rfl,rfl⟩
 rw[results_tmp Tryd.results93,hx]
theorem namesLeaf_17_1 (b:Nat)(w:World)(zr zs zt zn:Int)(aa ra:Option Addr)(la ca lr cr:Nat)(hn:(zn==0)=true)(ha:((la:Int)==0)=false)
 (hm:∀ p∈([(138,vF 80),(139,vF 80),(140,vF 80),(141,vN),(142,vN),(143,vN),(155,vI zr),(156,vI zs),(157,vI zt),(158,vI zn),(159,.slice aa la ca),(160,.slice ra lr cr)]:List (Nat × Value)),w.cell? ⟨b,p.1,none⟩=some p.2) :
 Calls Tryd.prog 93 #[pp b 138,pp b 154] w fun e w'=>e = .returned (.bool false)∧w'=w:=by
 have hz:∀ p∈([(56,zn,true),(71,(la:Int),false)]:List (Nat × Int × Bool)),(p.2.1==0)=p.2.2:=fun p hp=>by
  simp only[List.mem_cons,List.not_mem_nil,or_false] at hp
  rcases hp with rfl | rfl
  ·exact hn
  ·exact ha
 have HM:=memOf_sound hm
 have HZ:=zzOf_sound hz
 clear hm hz
 go_enter Tryd.func93,Tryd.ntmps93
 iterate 11 go_step
 refine wpList_names 4 (.bool false) HM HZ (by kernel_rfl) (by kernel_rfl) (fun a' hx hd=>?_)
 simp only[Exit.then]
 go_wp2_with fail
 refine bodyPost_ret (v:=.bool false) (fn:=Tryd.f93) ?_ hd ⟨rfl,rfl⟩
 rw[results_tmp Tryd.results93,hx]
theorem namesLeaf_17_2 (b:Nat)(w:World)(zr zs zt zn:Int)(aa ra:Option Addr)(la ca lr cr:Nat)(hn:(zn==0)=true)(ha:((la:Int)==0)=true)(he:((lr:Int)==0)=false)
 (hm:∀ p∈([(138,vF 80),(139,vF 80),(140,vF 80),(141,vN),(142,vN),(143,vN),(155,vI zr),(156,vI zs),(157,vI zt),(158,vI zn),(159,.slice aa la ca),(160,.slice ra lr cr)]:List (Nat × Value)),w.cell? ⟨b,p.1,none⟩=some p.2) :
 Calls Tryd.prog 93 #[pp b 138,pp b 154] w fun e w'=>e = .returned (.bool false)∧w'=w:=by
 have hz:∀ p∈([(56,zn,true),(71,(la:Int),true),(86,(lr:Int),false)]:List (Nat × Int × Bool)),(p.2.1==0)=p.2.2:=fun p hp=>by
  simp only[List.mem_cons,List.not_mem_nil,or_false] at hp
  rcases hp with rfl | rfl | rfl
  ·exact hn
  ·exact ha
  ·exact he
 have HM:=memOf_sound hm
 have HZ:=zzOf_sound hz
 clear hm hz
 go_enter Tryd.func93,Tryd.ntmps93
 iterate 11 go_step
 refine wpList_names 4 (.bool false) HM HZ (by kernel_rfl) (by kernel_rfl) (fun a' hx hd=>?_)
 simp only[Exit.then]
 go_wp2_with fail
 refine bodyPost_ret (v:=.bool false) (fn:=Tryd.f93) ?_ hd ⟨rfl,rfl⟩
 rw[results_tmp Tryd.results93,hx]
theorem namesLeaf_17_3 (b:Nat)(w:World)(zr zs zt zn:Int)(aa ra:Option Addr)(la ca lr cr:Nat)(hn:(zn==0)=true)(ha:((la:Int)==0)=true)(he:((lr:Int)==0)=true)
 (hm:∀ p∈([(138,vF 80),(139,vF 80),(140,vF 80),(141,vN),(142,vN),(143,vN),(155,vI zr),(156,vI zs),(157,vI zt),(158,vI zn),(159,.slice aa la ca),(160,.slice ra lr cr)]:List (Nat × Value)),w.cell? ⟨b,p.1,none⟩=some p.2) :
 Calls Tryd.prog 93 #[pp b 138,pp b 154] w fun e w'=>e = .returned (.bool true)∧w'=w:=by
 have hz:∀ p∈([(56,zn,true),(71,(la:Int),true),(86,(lr:Int),true)]:List (Nat × Int × Bool)),(p.2.1==0)=p.2.2:=fun p hp=>by
  simp only[List.mem_cons,List.not_mem_nil,or_false] at hp
  rcases hp with rfl | rfl | rfl
  ·exact hn
  ·exact ha
  ·exact he
 have HM:=memOf_sound hm
 have HZ:=zzOf_sound hz
 clear hm hz
 go_enter Tryd.func93,Tryd.ntmps93
 iterate 11 go_step
 refine wpList_names 4 (.bool true) HM HZ (by kernel_rfl) (by kernel_rfl) (fun a' hx hd=>?_)
 simp only[Exit.then]
 go_wp2_with fail
 refine bodyPost_ret (v:=.bool true) (fn:=Tryd.f93) ?_ hd ⟨rfl,rfl⟩
 rw[results_tmp Tryd.results93,hx]
theorem namesAll_g17 {b:Nat}(s:WS)(w:World)(h:Lies w b s)(aa ra:Option Addr)(la ca lr cr:Nat)(ha:s.args = .slice aa la ca)(hr:s.rets = .slice ra lr cr) :
 Calls Tryd.prog 93 #[.pointer (some ⟨b,138,none⟩),.pointer (some ⟨b,154,none⟩)] w fun e w'=>e = .returned (.bool ((s.n==0)&&((la:Int)==0)&&((lr:Int)==0)))∧w'=w:=by
 have r0:w.cell? ⟨b,138,none⟩=some (vF 80):=by rw[h.cell];kernel_rfl
 have r1:w.cell? ⟨b,139,none⟩=some (vF 80):=by rw[h.cell];kernel_rfl
 have r2:w.cell? ⟨b,140,none⟩=some (vF 80):=by rw[h.cell];kernel_rfl
 have r3:w.cell? ⟨b,141,none⟩=some (vN):=by rw[h.cell];kernel_rfl
 have r4:w.cell? ⟨b,142,none⟩=some (vN):=by rw[h.cell];kernel_rfl
 have r5:w.cell? ⟨b,143,none⟩=some (vN):=by rw[h.cell];kernel_rfl
 have x1:w.cell? ⟨b,155,none⟩=some (vI s.r):=h.facts.2.2.2.2.2.2.2.2.2.2.2.1
 have x2:w.cell? ⟨b,156,none⟩=some (vI s.s):=h.facts.2.2.2.2.2.2.2.2.2.2.2.2.1
 have x3:w.cell? ⟨b,157,none⟩=some (vI s.t):=h.facts.2.2.2.2.2.2.2.2.2.2.2.2.2.1
 have x4:w.cell? ⟨b,158,none⟩=some (vI s.n):=h.facts.2.2.2.2.2.2.2.2.2.2.2.2.2.2.1
 have x5:w.cell? ⟨b,159,none⟩=some (.slice aa la ca):=by rw[h.facts.2.2.2.2.2.2.2.2.2.2.2.2.2.2.2.1,ha]
 have x6:w.cell? ⟨b,160,none⟩=some (.slice ra lr cr):=by rw[h.facts.2.2.2.2.2.2.2.2.2.2.2.2.2.2.2.2.1,hr]
 generalize s.r=zr at *
 generalize s.s=zs at *
 generalize s.t=zt at *
 generalize s.n=zn at *
 have hm:∀ p∈([(138,vF 80),(139,vF 80),(140,vF 80),(141,vN),(142,vN),(143,vN),(155,vI zr),(156,vI zs),(157,vI zt),(158,vI zn),(159,.slice aa la ca),(160,.slice ra lr cr)]:List (Nat × Value)),w.cell? ⟨b,p.1,none⟩=some p.2:=fun p hp=>by
  simp only[List.mem_cons,List.not_mem_nil,or_false] at hp
  rcases hp with rfl | rfl | rfl | rfl | rfl | rfl | rfl | rfl | rfl | rfl | rfl | rfl
  ·exact r0
  ·exact r1
  ·exact r2
  ·exact r3
  ·exact r4
  ·exact r5
  ·exact x1
  ·exact x2
  ·exact x3
  ·exact x4
  ·exact x5
  ·exact x6
 clear r0 r1 r2 r3 r4 r5 x1 x2 x3 x4 x5 x6 h ha hr
 cases hn:(zn==0)
 ·exact(namesLeaf_17_0 b w zr zs zt zn aa ra la ca lr cr hn hm).mono (fun e w' he=>⟨by rw[he.1];rfl,he.2⟩)
 cases ha:((la:Int)==0)
 ·exact(namesLeaf_17_1 b w zr zs zt zn aa ra la ca lr cr hn ha hm).mono (fun e w' he=>⟨by rw[he.1];rfl,he.2⟩)
 cases he:((lr:Int)==0)
 ·exact(namesLeaf_17_2 b w zr zs zt zn aa ra la ca lr cr hn ha he hm).mono (fun e w' he=>⟨by rw[he.1];rfl,he.2⟩)
 exact(namesLeaf_17_3 b w zr zs zt zn aa ra la ca lr cr hn ha he hm).mono (fun e w' he=>⟨by rw[he.1];rfl,he.2⟩)
end Go.Proofs.YtingenonbkencaaDoor
