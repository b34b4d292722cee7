import Derived.Test.YtingenonbkencaaDoorQE3J
set_option linter.unusedVariables false
set_option linter.unusedSimpArgs false
namespace Go.Proofs.YtingenonbkencaaDoor
open Go.RowKit (wrap32 wrap64)
set_option maxRecDepth 100000
set_option maxHeartbeats 1000000
theorem namesLeaf_1_0 (b:Nat)(w:World)(zr zs zt zn:Int)(aa ra:Option Addr)(la ca lr cr:Nat)(hs:(zs==0)=false)
 (hm:∀ p∈([(10,vF 80),(11,vN),(12,vN),(13,vF 81),(14,vN),(15,vN),(155,vI zr),(156,vI zs),(157,vI zt),(158,vI zn),(159,.slice aa la ca),(160,.slice ra lr cr)]:List (Nat × Value)),w.cell? ⟨b,p.1,none⟩=some p.2) :
 Calls Tryd.prog 93 #[pp b 10,pp b 154] w fun e w'=>e = .returned (.bool false)∧w'=w:=by
 have hz:∀ p∈([(28,zs,false)]:List (Nat × Int × Bool)),(p.2.1==0)=p.2.2:=fun p hp=>by
  simp only[List.mem_cons,List.not_mem_nil,or_false] at hp
  rcases hp with rfl
  ·exact hs
 have HM:=memOf_sound hm
 have HZ:=zzOf_sound hz
 clear hm hz
 go_enter Tryd.func93,Tryd.ntmps93
 iterate 11 go_step
 refine wpList_names 4 (.bool false) HM HZ (by kernel_rfl) (by kernel_rfl) (fun a' hx hd=>?_)
 simp only[Exit.then]
 go_wp2_with fail
 refine bodyPost_ret (v:=.bool false) (fn:=Tryd.f93) ?_ hd ⟨rfl,rfl⟩
 rw[results_tmp Tryd.results93,hx]
theorem namesLeaf_1_1 (b:Nat)(w:World)(zr zs zt zn:Int)(aa ra:Option Addr)(la ca lr cr:Nat)(hs:(zs==0)=true)(ht:(zt==0)=false)
 (hm:∀ p∈([(10,vF 80),(11,vN),(12,vN),(13,vF 81),(14,vN),(15,vN),(155,vI zr),(156,vI zs),(157,vI zt),(158,vI zn),(159,.slice aa la ca),(160,.slice ra lr cr)]:List (Nat × Value)),w.cell? ⟨b,p.1,none⟩=some p.2) :
 Calls Tryd.prog 93 #[pp b 10,pp b 154] w fun e w'=>e = .returned (.bool false)∧w'=w:=by
 have hz:∀ p∈([(28,zs,true),(42,zt,false)]:List (Nat × Int × Bool)),(p.2.1==0)=p.2.2:=fun p hp=>by
  simp only[List.mem_cons,List.not_mem_nil,or_false] at hp
  rcases hp with rfl | rfl
  ·exact hs
  ·exact ht
 have HM:=memOf_sound hm
 have HZ:=zzOf_sound hz
 clear hm hz
 go_enter Tryd.func93,Tryd.ntmps93
 iterate 11 go_step
 refine wpList_names 4 (.bool false) HM HZ (by kernel_rfl) (by kernel_rfl) (fun a' hx hd=>?_)
 simp only[Exit.then]
 go_wp2_with fail
 refine bodyPost_ret (v:=.bool false) (fn:=Tryd.f93) ?_ hd ⟨rfl,rfl⟩
 rw[results_tmp Tryd.results93,hx]
theorem namesLeaf_1_2 (b:Nat)(w:World)(zr zs zt zn:Int)(aa ra:Option Addr)(la ca lr cr:Nat)(hs:(zs==0)=true)(ht:(zt==0)=true)(ha:((la:Int)==0)=false)
 (hm:∀ p∈([(10,vF 80),(11,vN),(12,vN),(13,vF 81),(14,vN),(15,vN),(155,vI zr),(156,vI zs),(157,vI zt),(158,vI zn),(159,.slice aa la ca),(160,.slice ra lr cr)]:List (Nat × Value)),w.cell? ⟨b,p.1,none⟩=some p.2) :
 Calls Tryd.prog 93 #[pp b 10,pp b 154] w fun e w'=>e = .returned (.bool false)∧w'=w:=by
 have hz:∀ p∈([(28,zs,true),(42,zt,true),(71,(la:Int),false)]:List (Nat × Int × Bool)),(p.2.1==0)=p.2.2:=fun p hp=>by
  simp only[List.mem_cons,List.not_mem_nil,or_false] at hp
  rcases hp with rfl | rfl | rfl
  ·exact hs
  ·exact ht
  ·exact ha
 have HM:=memOf_sound hm
 have HZ:=zzOf_sound hz
 clear hm hz
 go_enter Tryd.func93,Tryd.ntmps93
 iterate 11 go_step
 refine wpList_names 4 (.bool false) HM HZ (by kernel_rfl) (by kernel_rfl) (fun a' hx hd=>?_)
 simp only[Exit.then]
 go_wp2_with fail
 refine bodyPost_ret (v:=.bool false) (fn:=Tryd.f93) ?_ hd ⟨rfl,rfl⟩
 rw[results_tmp Tryd.results93,hx]
theorem namesLeaf_1_3 (b:Nat)(w:World)(zr zs zt zn:Int)(aa ra:Option Addr)(la ca lr cr:Nat)(hs:(zs==0)=true)(ht:(zt==0)=true)(ha:((la:Int)==0)=true)(he:((lr:Int)==0)=false)
 (hm:∀ p∈([(10,vF 80),(11,vN),(12,vN),(13,vF 81),(14,vN),(15,vN),(155,vI zr),(156,vI zs),(157,vI zt),(158,vI zn),(159,.slice aa la ca),(160,.slice ra lr cr)]:List (Nat × Value)),w.cell? ⟨b,p.1,none⟩=some p.2) :
 Calls Tryd.prog 93 #[pp b 10,pp b 154] w fun e w'=>e = .returned (.bool false)∧w'=w:=by
 have hz:∀ p∈([(28,zs,true),(42,zt,true),(71,(la:Int),true),(86,(lr:Int),false)]:List (Nat × Int × Bool)),(p.2.1==0)=p.2.2:=fun p hp=>by
  simp only[List.mem_cons,List.not_mem_nil,or_false] at hp
  rcases hp with rfl | rfl | rfl | rfl
  ·exact hs
  ·exact ht
  ·exact ha
  ·exact he
 have HM:=memOf_sound hm
 have HZ:=zzOf_sound hz
 clear hm hz
 go_enter Tryd.func93,Tryd.ntmps93
 iterate 11 go_step
 refine wpList_names 4 (.bool false) HM HZ (by kernel_rfl) (by kernel_rfl) (fun a' hx hd=>?_)
 simp only[Exit.then]
 go_wp2_with fail
 refine bodyPost_ret (v:=.bool false) (fn:=Tryd.f93) ?_ hd ⟨rfl,rfl⟩
 rw[results_tmp Tryd.results93,hx]
theorem namesLeaf_1_4 (b:Nat)(w:World)(zr zs zt zn:Int)(aa ra:Option Addr)(la ca lr cr:Nat)(hs:(zs==0)=true)(ht:(zt==0)=true)(ha:((la:Int)==0)=true)(he:((lr:Int)==0)=true)
 (hm:∀ p∈([(10,vF 80),(11,vN),(12,vN),(13,vF 81),(14,vN),(15,vN),(155,vI zr),(156,vI zs),(157,vI zt),(158,vI zn),(159,.slice aa la ca),(160,.slice ra lr cr)]:List (Nat × Value)),w.cell? ⟨b,p.1,none⟩=some p.2) :
 Calls Tryd.prog 93 #[pp b 10,pp b 154] w fun e w'=>e = .returned (.bool true)∧w'=w:=by
 have hz:∀ p∈([(28,zs,true),(42,zt,true),(71,(la:Int),true),(86,(lr:Int),true)]:List (Nat × Int × Bool)),(p.2.1==0)=p.2.2:=fun p hp=>by
  simp only[List.mem_cons,List.not_mem_nil,or_false] at hp
  rcases hp with rfl | rfl | rfl | rfl
  ·exact hs
  ·exact ht
  ·exact ha
  ·exact he
 have HM:=memOf_sound hm
 have HZ:=zzOf_sound hz
 clear hm hz
 go_enter Tryd.func93,Tryd.ntmps93
 iterate 11 go_step
 refine wpList_names 4 (.bool true) HM HZ (by kernel_rfl) (by kernel_rfl) (fun a' hx hd=>?_)
 simp only[Exit.then]
 go_wp2_with fail
 refine bodyPost_ret (v:=.bool true) (fn:=Tryd.f93) ?_ hd ⟨rfl,rfl⟩
 rw[results_tmp Tryd.results93,hx]
theorem namesAll_g1 {b:Nat}(s:WS)(w:World)(h:Lies w b s)(aa ra:Option Addr)(la ca lr cr:Nat)(ha:s.args = .slice aa la ca)(hr:s.rets = .slice ra lr cr) :
 Calls Tryd.prog 93 #[.pointer (some ⟨b,10,none⟩),.pointer (some ⟨b,154,none⟩)] w fun e w'=>e = .returned (.bool ((s.s==0)&&(s.t==0)&&((la:Int)==0)&&((lr:Int)==0)))∧w'=w:=by
 have r0:w.cell? ⟨b,10,none⟩=some (vF 80):=by rw[h.cell];kernel_rfl
 have r1:w.cell? ⟨b,11,none⟩=some (vN):=by rw[h.cell];kernel_rfl
 have r2:w.cell? ⟨b,12,none⟩=some (vN):=by rw[h.cell];kernel_rfl
 have r3:w.cell? ⟨b,13,none⟩=some (vF 81):=by rw[h.cell];kernel_rfl
 have r4:w.cell? ⟨b,14,none⟩=some (vN):=by rw[h.cell];kernel_rfl
 have r5:w.cell? ⟨b,15,none⟩=some (vN):=by rw[h.cell];kernel_rfl
 have x1:w.cell? ⟨b,155,none⟩=some (vI s.r):=h.facts.2.2.2.2.2.2.2.2.2.2.2.1
 have x2:w.cell? ⟨b,156,none⟩=some (vI s.s):=h.facts.2.2.2.2.2.2.2.2.2.2.2.2.1
 have x3:w.cell? ⟨b,157,none⟩=some (vI s.t):=h.facts.2.2.2.2.2.2.2.2.2.2.2.2.2.1
 have x4:w.cell? ⟨b,158,none⟩=some (vI s.n):=h.facts.2.2.2.2.2.2.2.2.2.2.2.2.2.2.1
 have x5:w.cell? ⟨b,159,none⟩=some (.slice aa la ca):=by rw[h.facts.2.2.2.2.2.2.2.2.2.2.2.2.2.2.2.1,ha]
 have x6:w.cell? ⟨b,160,none⟩=some (.slice ra lr cr):=by rw[h.facts.2.2.2.2.2.2.2.2.2.2.2.2.2.2.2.2.1,hr]
 generalize s.r=zr at *
 generalize s.s=zs at *
 generalize s.t=zt at *
 generalize s.n=zn at *
 have hm:∀ p∈([(10,vF 80),(11,vN),(12,vN),(13,vF 81),(14,vN),(15,vN),(155,vI zr),(156,vI zs),(157,vI zt),(158,vI zn),(159,.slice aa la ca),(160,.slice ra lr cr)]:List (Nat × Value)),w.cell? ⟨b,p.1,none⟩=some p.2:=fun p hp=>by
  simp only[List.mem_cons,List.not_mem_nil,or_false] at hp
  rcases hp with rfl | rfl | rfl | rfl | rfl | rfl | rfl | rfl | rfl | rfl | rfl | rfl
  ·exact r0
  ·exact r1
  ·exact r2
  ·exact r3
  ·exact r4
  ·exact r5
  ·exact x1
  ·exact x2
  ·exact x3
  ·exact x4
  ·exact x5
  ·exact x6
 clear r0 r1 r2 r3 r4 r5 x1 x2 x3 x4 x5 x6 h ha hr
 cases hs:(zs==0)
 ·exact(namesLeaf_1_0 b w zr zs zt zn aa ra la ca lr cr hs hm).mono (fun e w' he=>⟨by rw[he.1];rfl,he.2⟩)
 cases ht:(zt==0)
 ·exact(namesLeaf_1_1 b w zr zs zt zn aa ra la ca lr cr hs ht hm).mono (fun e w' he=>⟨by rw[he.1];rfl,he.2⟩)
 cases ha:((la:Int)==0)
 ·exact(namesLeaf_1_2 b w zr zs zt zn aa ra la ca lr cr hs ht ha hm).mono (fun e w' he=>⟨by rw[he.1];rfl,he.2⟩)
 cases he:((lr:Int)==0)
 ·exact(namesLeaf_1_3 b w zr zs zt zn aa ra la ca lr cr hs ht ha he hm).mono (fun e w' he=>⟨by rw[he.1];rfl,he.2⟩)
 exact(namesLeaf_1_4 b w zr zs zt zn aa ra la ca lr cr hs ht ha he hm).mono (fun e w' he=>⟨by rw[he.1];rfl,he.2⟩)
theorem namesLeaf_2_0 (b:Nat)(w:World)(zr zs zt zn:Int)(aa ra:Option Addr)(la ca lr cr:Nat)(ht:(zt==0)=false)
 (hm:∀ p∈([(18,vF 80),(19,vF 80),(20,vN),(21,vN),(22,vN),(23,vN),(155,vI zr),(156,vI zs),(157,vI zt),(158,vI zn),(159,.slice aa la ca),(160,.slice ra lr cr)]:List (Nat × Value)),w.cell? ⟨b,p.1,none⟩=some p.2) :
 Calls Tryd.prog 93 #[pp b 18,pp b 154] w fun e w'=>e = .returned (.bool false)∧w'=w:=by
 have hz:∀ p∈([(42,zt,false)]:List (Nat × Int × Bool)),(p.2.1==0)=p.2.2:=fun p hp=>by
  simp only[List.mem_cons,List.not_mem_nil,or_false] at hp
  rcases hp with rfl
  ·exact ht
 have HM:=memOf_sound hm
 have HZ:=zzOf_sound hz
 clear hm hz
 go_enter Tryd.func93,Tryd.ntmps93
 iterate 11 go_step
 refine wpList_names 4 (.bool false) HM HZ (by kernel_rfl) (by kernel_rfl) (fun a' hx hd=>?_)
 simp only[Exit.then]
 go_wp2_with fail
 refine bodyPost_ret (v:=.bool false) (fn:=Tryd.f93) ?_ hd ⟨rfl,rfl⟩
 rw[results_tmp Tryd.results93,hx]
theorem namesLeaf_2_1 (b:Nat)(w:World)(zr zs zt zn:Int)(aa ra:Option Addr)(la ca lr cr:Nat)(ht:(zt==0)=true)(hn:(zn==0)=false)
 (hm:∀ p∈([(18,vF 80),(19,vF 80),(20,vN),(21,vN),(22,vN),(23,vN),(155,vI zr),(156,vI zs),(157,vI zt),(158,vI zn),(159,.slice aa la ca),(160,.slice ra lr cr)]:List (Nat × Value)),w.cell? ⟨b,p.1,none⟩=some p.2) :
 Calls Tryd.prog 93 #[pp b 18,pp b 154] w fun e w'=>e = .returned (.bool false)∧w'=w:=by
 have hz:∀ p∈([(42,zt,true),(56,zn,false)]:List (Nat × Int × Bool)),(p.2.1==0)=p.2.2:=fun p hp=>by
  simp only[List.mem_cons,List.not_mem_nil,or_false] at hp
  rcases hp with rfl | rfl
  ·exact ht
  ·exact hn
 have HM:=memOf_sound hm
 have HZ:=zzOf_sound hz
 clear hm hz
 go_enter Tryd.func93,Tryd.ntmps93
 iterate 11 go_step
 refine wpList_names 4 (.bool false) HM HZ (by kernel_rfl) (by kernel_rfl) (fun a' hx hd=>?_)
 simp only[Exit.then]
 go_wp2_with fail
 refine bodyPost_ret (v:=.bool false) (fn:=Tryd.f93) ?_ hd ⟨rfl,rfl⟩
 rw[results_tmp Tryd.results93,hx]
theorem namesLeaf_2_2 (b:Nat)(w:World)(zr zs zt zn:Int)(aa ra:Option Addr)(la ca lr cr:Nat)(ht:(zt==0)=true)(hn:(zn==0)=true)(ha:((la:Int)==0)=false)
 (hm:∀ p∈([(18,vF 80),(19,vF 80),(20,vN),(21,vN),(22,vN),(23,vN),(155,vI zr),(156,vI zs),(157,vI zt),(158,vI zn),(159,.slice aa la ca),(160,.slice ra lr cr)]:List (Nat × Value)),w.cell? ⟨b,p.1,none⟩=some p.2) :
 Calls Tryd.prog 93 #[pp b 18,pp b 154] w fun e w'=>e = .returned (.bool false)∧w'=w:=by
 have hz:∀ p∈([(42,zt,true),(56,zn,true),(71,(la:Int),false)]:List (Nat × Int × Bool)),(p.2.1==0)=p.2.2:=fun p hp=>by
  simp only[List.mem_cons,List.not_mem_nil,or_false] at hp
  rcases hp with rfl | rfl | rfl
  ·exact ht
  ·exact hn
  ·exact ha
 have HM:=memOf_sound hm
 have HZ:=zzOf_sound hz
 clear hm hz
 go_enter Tryd.func93,Tryd.ntmps93
 iterate 11 go_step
 refine wpList_names 4 (.bool false) HM HZ (by kernel_rfl) (by kernel_rfl) (fun a' hx hd=>?_)
 simp only[Exit.then]
 go_wp2_with fail
 refine bodyPost_ret (v:=.bool false) (fn:=Tryd.f93) ?_ hd ⟨rfl,rfl⟩
 rw[results_tmp Tryd.results93,hx]
theorem namesLeaf_2_3 (b:Nat)(w:World)(zr zs zt zn:Int)(aa ra:Option Addr)(la ca lr cr:Nat)(ht:(zt==0)=true)(hn:(zn==0)=true)(ha:((la:Int)==0)=true)(he:((lr:Int)==0)=false)
 (hm:∀ p∈([(18,vF 80),(19,vF 80),(20,vN),(21,vN),(22,vN),(23,vN),(155,vI zr),(156,vI zs),(157,vI zt),(158,vI zn),(159,.slice aa la ca),(160,.slice ra lr cr)]:List (Nat × Value)),w.cell? ⟨b,p.1,none⟩=some p.2) :
 Calls Tryd.prog 93 #[pp b 18,pp b 154] w fun e w'=>e = .returned (.bool false)∧w'=w:=by
 have hz:∀ p∈([(42,zt,true),(56,zn,true),(71,(la:Int),true),(86,(lr:Int),false)]:List (Nat × Int × Bool)),(p.2.1==0)=p.2.2:=fun p hp=>by
  simp only[List.mem_cons,List.not_mem_nil,or_false] at hp
  rcases hp with rfl | rfl | rfl | rfl
  ·exact ht
  ·exact hn
  ·exact ha
  ·exact he
 have HM:=memOf_sound hm
 have HZ:=zzOf_sound hz
 clear hm hz
 go_enter Tryd.func93,Tryd.ntmps93
 iterate 11 go_step
 refine wpList_names 4 (.bool false) HM HZ (by kernel_rfl) (by kernel_rfl) (fun a' hx hd=>?_)
 simp only[Exit.then]
 go_wp2_with fail
 refine bodyPost_ret (v:=.bool false) (fn:=Tryd.f93) ?_ hd ⟨rfl,rfl⟩
 rw[results_tmp Tryd.results93,hx]
theorem namesLeaf_2_4 (b:Nat)(w:World)(zr zs zt zn:Int)(aa ra:Option Addr)(la ca lr cr:Nat)(ht:(zt==0)=true)(hn:(zn==0)=true)(ha:((la:Int)==0)=true)(he:((lr:Int)==0)=true)
 (hm:∀ p∈([(18,vF 80),(19,vF 80),(20,vN),(21,vN),(22,vN),(23,vN),(155,vI zr),(156,vI zs),(157,vI zt),(158,vI zn),(159,.slice aa la ca),(160,.slice ra lr cr)]:List (Nat × Value)),w.cell? ⟨b,p.1,none⟩=some p.2) :
 Calls Tryd.prog 93 #[pp b 18,pp b 154] w fun e w'=>e = .returned (.bool true)∧w'=w:=by
 have hz:∀ p∈([(42,zt,true),(56,zn,true),(71,(la:Int),true),(86,(lr:Int),true)]:List (Nat × Int × Bool)),(p.2.1==0)=p.2.2:=fun p hp=>by
  simp only[List.mem_cons,List.not_mem_nil,or_false] at hp
  rcases hp with rfl | rfl | rfl | rfl
  ·exact ht
  ·exact hn
  ·exact ha
  ·exact he
 have HM:=memOf_sound hm
 have HZ:=zzOf_sound hz
 clear hm hz
 go_enter Tryd.func93,Tryd.ntmps93
 iterate 11 go_step
 refine wpList_names 4 (.bool true) HM HZ (by kernel_rfl) (by kernel_rfl) (fun a' hx hd=>?_)
 simp only[Exit.then]
 go_wp2_with fail
 refine bodyPost_ret (v:=.bool true) (fn:=Tryd.f93) ?_ hd ⟨rfl,rfl⟩
 rw[results_tmp Tryd.results93,hx]
theorem namesAll_g2 {b:Nat}(s:WS)(w:World)(h:Lies w b s)(aa ra:Option Addr)(la ca lr cr:Nat)(ha:s.args = .slice aa la ca)(hr:s.rets = .slice ra lr cr) :
 Calls Tryd.prog 93 #[.pointer (some ⟨b,18,none⟩),.pointer (some ⟨b,154,none⟩)] w fun e w'=>e = .returned (.bool ((s.t==0)&&(s.n==0)&&((la:Int)==0)&&((lr:Int)==0)))∧w'=w:=by
 have r0:w.cell? ⟨b,18,none⟩=some (vF 80):=by rw[h.cell];kernel_rfl
 have r1:w.cell? ⟨b,19,none⟩=some (vF 80):=by rw[h.cell];kernel_rfl
 have r2:w.cell? ⟨b,20,none⟩=some (vN):=by rw[h.cell];kernel_rfl
 have r3:w.cell? ⟨b,21,none⟩=some (vN):=by rw[h.cell];kernel_rfl
 have r4:w.cell? ⟨b,22,none⟩=some (vN):=by rw[h.cell];kernel_rfl
 have r5:w.cell? ⟨b,23,none⟩=some (vN):=by rw[h.cell];kernel_rfl
 have x1:w.cell? ⟨b,155,none⟩=some (vI s.r):=h.facts.2.2.2.2.2.2.2.2.2.2.2.1
 have x2:w.cell? ⟨b,156,none⟩=some (vI s.s):=h.facts.2.2.2.2.2.2.2.2.2.2.2.2.1
 have x3:w.cell? ⟨b,157,none⟩=some (vI s.t):=h.facts.2.2.2.2.2.2.2.2.2.2.2.2.2.1
 have x4:w.cell? ⟨b,158,none⟩=some (vI s.n):=h.facts.2.2.2.2.2.2.2.2.2.2.2.2.2.2.1
 have x5:w.cell? ⟨b,159,none⟩=some (.slice aa la ca):=by rw[h.facts.2.2.2.2.2.2.2.2.2.2.2.2.2.2.2.1,ha]
 have x6:w.cell? ⟨b,160,none⟩=some (.slice ra lr cr):=by rw[h.facts.2.2.2.2.2.2.2.2.2.2.2.2.2.2.2.2.1,hr]
 generalize s.r=zr at *
 generalize s.s=zs at *
 generalize s.t=zt at *
 generalize s.n=zn at *
 have hm:∀ p∈([(18,vF 80),(19,vF 80),(20,vN),(21,vN),(22,vN),(23,vN),(155,vI zr),(156,vI zs),(157,vI zt),(158,vI zn),(159,.slice aa la ca),(160,.slice ra lr cr)]:List (Nat × Value)),w.cell? ⟨b,p.1,none⟩=some p.2:=fun p hp=>by
  simp only[List.mem_cons,List.not_mem_nil,or_false] at hp
  rcases hp with rfl | rfl | rfl | rfl | rfl | rfl | rfl | rfl | rfl | rfl | rfl | rfl
  ·exact r0
  ·exact r1
  ·exact r2
  ·exact r3
  ·exact r4
  ·exact r5
  ·exact x1
  ·exact x2
  ·exact x3
  ·exact x4
  ·exact x5
  ·exact x6
 clear r0 r1 r2 r3 r4 r5 x1 x2 x3 x4 x5 x6 h ha hr
 cases ht:(zt==0)
 ·exact(namesLeaf_2_0 b w zr zs zt zn aa ra la ca lr cr ht hm).mono (fun e w' he=>⟨by rw[he.1];rfl,he.2⟩)
 cases hn:(zn==0)
 ·exact(namesLeaf_2_1 b w zr zs zt zn aa ra la ca lr cr ht hn hm).mono (fun e w' he=>⟨by rw[he.1];rfl,he.2⟩)
 cases ha:((la:Int)==0)
 ·exact(namesLeaf_2_2 b w zr zs zt zn aa ra la ca lr cr ht hn ha hm).mono (fun e w' he=>⟨by rw[he.1];rfl,he.2⟩)
 cases he:((lr:Int)==0)
 ·exact(namesLeaf_2_3 b w zr zs zt zn aa ra la ca lr cr ht hn ha he hm).mono (fun e w' he=>⟨by rw[he.1];rfl,he.2⟩)
 exact(namesLeaf_2_4 b w zr zs zt zn aa ra la ca lr cr ht hn ha he hm).mono (fun e w' he=>⟨by rw[he.1];rfl,he.2⟩)
theorem namesLeaf_3_0 (b:Nat)(w:World)(zr zs zt zn:Int)(aa ra:Option Addr)(la ca lr cr:Nat)(hn:(zn==0)=false)
 (hm:∀ p∈([(26,vF 80),(27,vF 80),(28,vF 80),(29,vN),(30,vN),(31,vN),(155,vI zr),(156,vI zs),(157,vI zt),(158,vI zn),(159,.slice aa la ca),(160,.slice ra lr cr)]:List (Nat × Value)),w.cell? ⟨b,p.1,none⟩=some p.2) :
 Calls Tryd.prog 93 #[pp b 26,pp b 154] w fun e w'=>e = .returned (.bool false)∧w'=w:=by
 have hz:∀ p∈([(56,zn,false)]:List (Nat × Int × Bool)),(p.2.1==0)=p.2.2:=fun p hp=>by
  simp only[List.mem_cons,List.not_mem_nil,or_false] at hp
  rcases hp with rfl
  ·exact hn
 have HM:=memOf_sound hm
 have HZ:=zzOf_sound hz
 clear hm hz
 go_enter Tryd.func93,Tryd.ntmps93
 iterate 11 go_step
 refine wpList_names 4 (.bool false) HM HZ (by kernel_rfl) (by kernel_rfl) (fun a' hx hd=>?_)
 simp only[Exit.then]
 go_wp2_with fail
 refine bodyPost_ret (v:=.bool false) (fn:=Tryd.f93) ?_ hd ⟨rfl,rfl⟩
 rw[results_tmp Tryd.results93,hx]
theorem namesLeaf_3_1 (b:Nat)(w:World)(zr zs zt zn:Int)(aa ra:Option Addr)(la ca lr cr:Nat)(hn:(zn==0)=true)(ha:((la:Int)==0)=false)
 (hm:∀ p∈([(26,vF 80),(27,vF 80),(28,vF 80),(29,vN),(30,vN),(31,vN),(155,vI zr),(156,vI zs),(157,vI zt),(158,vI zn),(159,.slice aa la ca),(160,.slice ra lr cr)]:List (Nat × Value)),w.cell? ⟨b,p.1,none⟩=some p.2) :
 Calls Tryd.prog 93 #[pp b 26,pp b 154] w fun e w'=>e = .returned (.bool false)∧w'=w:=by
 have hz:∀ p∈([(56,zn,true),(71,(la:Int),false)]:List (Nat × Int × Bool)),(p.2.1==0)=p.2.2:=fun p hp=>by
  simp only[List.mem_cons,List.not_mem_nil,or_false] at hp
  rcases hp with rfl | rfl
  ·exact hn
  ·exact ha
 have HM:=memOf_sound hm
 have HZ:=zzOf_sound hz
 clear hm hz
 go_enter Tryd.func93,Tryd.ntmps93
 iterate 11 go_step
 refine wpList_names 4 (.bool false) HM HZ (by kernel_rfl) (by kernel_rfl) (fun a' hx hd=>?_)
 simp only[Exit.then]
 go_wp2_with fail
 refine bodyPost_ret (v:=.bool false) (fn:=Tryd.f93) ?_ hd ⟨rfl,rfl⟩
 rw[results_tmp Tryd.results93,hx]
theorem namesLeaf_3_2 (b:Nat)(w:World)(zr zs zt zn:Int)(aa ra:Option Addr)(la ca lr cr:Nat)(hn:(zn==0)=true)(ha:((la:Int)==0)=true)(he:((lr:Int)==0)=false)
 (hm:∀ p∈([(26,vF 80),(27,vF 80),(28,vF 80),(29,vN),(30,vN),(31,vN),(155,vI zr),(156,vI zs),(157,vI zt),(158,vI zn),(159,.slice aa la ca),(160,.slice ra lr cr)]:List (Nat × Value)),w.cell? ⟨b,p.1,none⟩=some p.2) :
 Calls Tryd.prog 93 #[pp b 26,pp b 154] w fun e w'=>e = .returned (.bool false)∧w'=w:=by
 have hz:∀ p∈([(56,zn,true),(71,(la:Int),true),(86,(lr:Int),false)]:List (Nat × Int × Bool)),(p.2.1==0)=p.2.2:=fun p hp=>by
  simp only[List.mem_cons,List.not_mem_nil,or_false] at hp
  rcases hp with rfl | rfl | rfl
  ·exact hn
  ·exact ha
  ·exact he
 have HM:=memOf_sound hm
 have HZ:=zzOf_sound hz
 clear hm hz
 go_enter Tryd.func93,Tryd.ntmps93
 iterate 11 go_step
 refine wpList_names 4 (.bool false) HM HZ (by kernel_rfl) (by kernel_rfl) (fun a' hx hd=>?_)
 simp only[Exit.then]
 go_wp2_with fail
 refine bodyPost_ret (v:=.bool false) (fn:=Tryd.f93) ?_ hd ⟨rfl,rfl⟩
 rw[results_tmp Tryd.results93,hx]
theorem namesLeaf_3_3 (b:Nat)(w:World)(zr zs zt zn:Int)(aa ra:Option Addr)(la ca lr cr:Nat)(hn:(zn==0)=true)(ha:((la:Int)==0)=true)(he:((lr:Int)==0)=true)
 (hm:∀ p∈([(26,vF 80),(27,vF 80),(28,vF 80),(29,vN),(30,vN),(31,vN),(155,vI zr),(156,vI zs),(157,vI zt),(158,vI zn),(159,.slice aa la ca),(160,.slice ra lr cr)]:List (Nat × Value)),w.cell? ⟨b,p.1,none⟩=some p.2) :
 Calls Tryd.prog 93 #[pp b 26,pp b 154] w fun e w'=>e = .returned (.bool true)∧w'=w:=by
 have hz:∀ p∈([(56,zn,true),(71,(la:Int),true),(86,(lr:Int),true)]:List (Nat × Int × Bool)),(p.2.1==0)=p.2.2:=fun p hp=>by
  simp only[List.mem_cons,List.not_mem_nil,or_false] at hp
  rcases hp with rfl | rfl | rfl
  ·exact hn
  ·exact ha
  ·exact he
 have HM:=memOf_sound hm
 have HZ:=zzOf_sound hz
 clear hm hz
 go_enter Tryd.func93,Tryd.ntmps93
 iterate 11 go_step
 refine wpList_names 4 (.bool true) HM HZ (by kernel_rfl) (by kernel_rfl) (fun a' hx hd=>?_)
 simp only[Exit.then]
 go_wp2_with fail
 refine bodyPost_ret (v:=.bool true) (fn:=Tryd.f93) ?_ hd ⟨rfl,rfl⟩
 rw[results_tmp Tryd.results93,hx]
theorem namesAll_g3 {b:Nat}(s:WS)(w:World)(h:Lies w b s)(aa ra:Option Addr)(la ca lr cr:Nat)(ha:s.args = .slice aa la ca)(hr:s.rets = .slice ra lr cr) :
 Calls Tryd.prog 93 #[.pointer (some ⟨b,26,none⟩),.pointer (some ⟨b,154,none⟩)] w fun e w'=>e = .returned (.bool ((s.n==0)&&((la:Int)==0)&&((lr:Int)==0)))∧w'=w:=by
 have r0:w.cell? ⟨b,26,none⟩=some (vF 80):=by rw[h.cell];kernel_rfl
 have r1:w.cell? ⟨b,27,none⟩=some (vF 80):=by rw[h.cell];kernel_rfl
 have r2:w.cell? ⟨b,28,none⟩=some (vF 80):=by rw[h.cell];kernel_rfl
 have r3:w.cell? ⟨b,29,none⟩=some (vN):=by rw[h.cell];kernel_rfl
 have r4:w.cell? ⟨b,30,none⟩=some (vN):=by rw[h.cell];kernel_rfl
 have r5:w.cell? ⟨b,31,none⟩=some (vN):=by rw[h.cell];kernel_rfl
 have x1:w.cell? ⟨b,155,none⟩=some (vI s.r):=h.facts.2.2.2.2.2.2.2.2.2.2.2.1
 have x2:w.cell? ⟨b,156,none⟩=some (vI s.s):=h.facts.2.2.2.2.2.2.2.2.2.2.2.2.1
 have x3:w.cell? ⟨b,157,none⟩=some (vI s.t):=h.facts.2.2.2.2.2.2.2.2.2.2.2.2.2.1
 have x4:w.cell? ⟨b,158,none⟩=some (vI s.n):=h.facts.2.2.2.2.2.2.2.2.2.2.2.2.2.2.1
 have x5:w.cell? ⟨b,159,none⟩=some (.slice aa la ca):=by rw[h.facts.2.2.2.2.2.2.2.2.2.2.2.2.2.2.2.1,ha]
 have x6:w.cell? ⟨b,160,none⟩=some (.slice ra lr cr):=by rw[h.facts.2.2.2.2.2.2.2.2.2.2.2.2.2.2.2.2.1,hr]
 generalize s.r=zr at *
 generalize s.s=zs at *
 generalize s.t=zt at *
 generalize s.n=zn at *
 have hm:∀ p∈([(26,vF 80),(27,vF 80),(28,vF 80),(29,vN),(30,vN),(31,vN),(155,vI zr),(156,vI zs),(157,vI zt),(158,vI zn),(159,.slice aa la ca),(160,.slice ra lr cr)]:List (Nat × Value)),w.cell? ⟨b,p.1,none⟩=some p.2:=fun p hp=>by
  simp only[List.mem_cons,List.not_mem_nil,or_false] at hp
  rcases hp with rfl | rfl | rfl | rfl | rfl | rfl | rfl | rfl | rfl | rfl | rfl | rfl
  ·exact r0
  ·exact r1
  ·exact r2
  ·exact r3
  ·exact r4
  ·exact r5
  ·exact x1
  ·exact x2
  ·exact x3
  ·exact x4
  ·exact x5
  ·exact x6
 clear r0 r1 r2 r3 r4 r5 x1 x2 x3 x4 x5 x6 h ha hr
 cases hn:(zn==0)
 ·exact(namesLeaf_3_0 b w zr zs zt zn aa ra la ca lr cr hn hm).mono (fun e w' he=>⟨by rw[he.1];rfl,he.2⟩)
 cases ha:((la:Int)==0)
 ·exact(namesLeaf_3_1 b w zr zs zt zn aa ra la ca lr cr hn ha hm).mono (fun e w' he=>⟨by rw[he.1];rfl,he.2⟩)
 cases he:((lr:Int)==0)
 ·exact(namesLeaf_3_2 b w zr zs zt zn aa ra la ca lr cr hn ha he hm).mono (fun e w' he=>⟨by rw[he.1];rfl,he.2⟩)
 exact(namesLeaf_3_3 b w zr zs zt zn aa ra la ca lr cr hn ha he hm).mono (fun e w' he=>⟨by rw[he.1];rfl,he.2⟩)
theorem namesLeaf_4_0 (b:Nat)(w:World)(zr zs zt zn:Int)(aa ra:Option Addr)(la ca lr cr:Nat)(hn:(zn==0)=false)
 (hm:∀ p∈([(34,vF 80),(35,vF 80),(36,vF 80),(37,vN),(38,vN),(39,vN),(155,vI zr),(156,vI zs),(157,vI zt),(158,vI zn),(159,.slice aa la ca),(160,.slice ra lr cr)]:List (Nat × Value)),w.cell? ⟨b,p.1,none⟩=some p.2) :
 Calls Tryd.prog 93 #[pp b 34,pp b 154] w fun e w'=>e = .returned (.bool false)∧w'=w:=by
 have hz:∀ p∈([(56,zn,false)]:List (Nat × Int × Bool)),(p.2.1==0)=p.2.2:=fun p hp=>by
  simp only[List.mem_cons,List.not_mem_nil,or_false] at hp
  rcases hp with rfl
  ·exact hn
 have HM:=memOf_sound hm
 have HZ:=zzOf_sound hz
 clear hm hz
 go_enter Tryd.func93,Tryd.ntmps93
 iterate 11 go_step
 refine wpList_names 4 (.bool false) HM HZ (by kernel_rfl) (by kernel_rfl) (fun a' hx hd=>?_)
 simp only[Exit.then]
 go_wp2_with fail
 refine bodyPost_ret (v:=.bool false) (fn:=Tryd.f93) ?_ hd ⟨rfl,rfl⟩
 rw[results_tmp Tryd.results93,hx]
theorem namesLeaf_4_1 (b:Nat)(w:World)(zr zs zt zn:Int)(aa ra:Option Addr)(la ca lr cr:Nat)(hn:(zn==0)=true)(ha:((la:Int)==0)=false)
 (hm:∀ p∈([(34,vF 80),(35,vF 80),(36,vF 80),(37,vN),(38,vN),(39,vN),(155,vI zr),(156,vI zs),(157,vI zt),(158,vI zn),(159,.slice aa la ca),(160,.slice ra lr cr)]:List (Nat × Value)),w.cell? ⟨b,p.1,none⟩=some p.2) :
 Calls Tryd.prog 93 #[pp b 34,pp b 154] w fun e w'=>e = .returned (.bool false)∧w'=w:=by
 have hz:∀ p∈([(56,zn,true),(71,(la:Int),false)]:List (Nat × Int × Bool)),(p.2.1==0)=p.2.2:=fun p hp=>by
  simp only[List.mem_cons,List.not_mem_nil,or_false] at hp
  rcases hp with rfl | rfl
  ·exact hn
  ·exact ha
 have HM:=memOf_sound hm
 have HZ:=zzOf_sound hz
 clear hm hz
 go_enter Tryd.func93,Tryd.ntmps93
 iterate 11 go_step
 refine wpList_names 4 (.bool false) HM HZ (by kernel_rfl) (by kernel_rfl) (fun a' hx hd=>?_)
 simp only[Exit.then]
 go_wp2_with fail
 refine bodyPost_ret (v:=.bool false) (fn:=Tryd.f93) ?_ hd ⟨rfl,rfl⟩
 rw[results_tmp Tryd.results93,hx]
theorem namesLeaf_4_2 (b:Nat)(w:World)(zr zs zt zn:Int)(aa ra:Option Addr)(la ca lr cr:Nat)(hn:(zn==0)=true)(ha:((la:Int)==0)=true)(he:((lr:Int)==0)=false)
 (hm:∀ p∈([(34,vF 80),(35,vF 80),(36,vF 80),(37,vN),(38,vN),(39,vN),(155,vI zr),(156,vI zs),(157,vI zt),(158,vI zn),(159,.slice aa la ca),(160,.slice ra lr cr)]:List (Nat × Value)),w.cell? ⟨b,p.1,none⟩=some p.2) :
 Calls Tryd.prog 93 #[pp b 34,pp b 154] w fun e w'=>e = .returned (.bool false)∧w'=w:=by
 have hz:∀ p∈([(56,zn,true),(71,(la:Int),true),(86,(lr:Int),false)]:List (Nat × Int × Bool)),(p.2.1==0)=p.2.2:=fun p hp=>by
  simp only[List.mem_cons,List.not_mem_nil,or_false] at hp
  rcases hp with rfl | rfl | rfl
  ·exact hn
  ·exact ha
  ·exact he
 have HM:=memOf_sound hm
 have HZ:=zzOf_sound hz
 clear hm hz
 go_enter Tryd.func93,Tryd.ntmps93
 iterate 11 go_step
 refine wpList_names 4 (.bool false) HM HZ (by kernel_rfl) (by kernel_rfl) (fun a' hx hd=>?_)
 simp only[Exit.then]
 go_wp2_with fail
 refine bodyPost_ret (v:=.bool false) (fn:=Tryd.f93) ?_ hd ⟨rfl,rfl⟩
 rw[results_tmp Tryd.results93,hx]
theorem namesLeaf_4_3 (b:Nat)(w:World)(zr zs zt zn:Int)(aa ra:Option Addr)(la ca lr cr:Nat)(hn:(zn==0)=true)(ha:((la:Int)==0)=true)(he:((lr:Int)==0)=true)
 (hm:∀ p∈([(34,vF 80),(35,vF 80),(36,vF 80),(37,vN),(38,vN),(39,vN),(155,vI zr),(156,vI zs),(157,vI zt),(158,vI zn),(159,.slice aa la ca),(160,.slice ra lr cr)]:List (Nat × Value)),w.cell? ⟨b,p.1,none⟩=some p.2) :
 Calls Tryd.prog 93 #[pp b 34,pp b 154] w fun e w'=>e = .returned (.bool true)∧w'=w:=by
 have hz:∀ p∈([(56,zn,true),(71,(la:Int),true),(86,(lr:Int),true)]:List (Nat × Int × Bool)),(p.2.1==0)=p.2.2:=fun p hp=>by
  simp only[List.mem_cons,List.not_mem_nil,or_false] at hp
  rcases hp with rfl | rfl | rfl
  ·exact hn
  ·exact ha
  ·exact he
 have HM:=memOf_sound hm
 have HZ:=zzOf_sound hz
 clear hm hz
 go_enter Tryd.func93,Tryd.ntmps93
 iterate 11 go_step
 refine wpList_names 4 (.bool true) HM HZ (by kernel_rfl) (by kernel_rfl) (fun a' hx hd=>?_)
 simp only[Exit.then]
 go_wp2_with fail
 refine bodyPost_ret (v:=.bool true) (fn:=Tryd.f93) ?_ hd ⟨rfl,rfl⟩
 rw[results_tmp Tryd.results93,hx]
theorem namesAll_g4 {b:Nat}(s:WS)(w:World)(h:Lies w b s)(aa ra:Option Addr)(la ca lr cr:Nat)(ha:s.args = .slice aa la ca)(hr:s.rets = .slice ra lr cr) :
 Calls Tryd.prog 93 #[.pointer (some ⟨b,34,none⟩),.pointer (some ⟨b,154,none⟩)] w fun e w'=>e = .returned (.bool ((s.n==0)&&((la:Int)==0)&&((lr:Int)==0)))∧w'=w:=by
 have r0:w.cell? ⟨b,34,none⟩=some (vF 80):=by rw[h.cell];kernel_rfl
 have r1:w.cell? ⟨b,35,none⟩=some (vF 80):=by rw[h.cell];kernel_rfl
 have r2:w.cell? ⟨b,36,none⟩=some (vF 80):=by rw[h.cell];kernel_rfl
 have r3:w.cell? ⟨b,37,none⟩=some (vN):=by rw[h.cell];kernel_rfl
 have r4:w.cell? ⟨b,38,none⟩=some (vN):=by rw[h.cell];kernel_rfl
 have r5:w.cell? ⟨b,39,none⟩=some (vN):=by rw[h.cell];kernel_rfl
 have x1:w.cell? ⟨b,155,none⟩=some (vI s.r):=h.facts.2.2.2.2.2.2.2.2.2.2.2.1
 have x2:w.cell? ⟨b,156,none⟩=some (vI s.s):=h.facts.2.2.2.2.2.2.2.2.2.2.2.2.1
 have x3:w.cell? ⟨b,157,none⟩=some (vI s.t):=h.facts.2.2.2.2.2.2.2.2.2.2.2.2.2.1
 have x4:w.cell? ⟨b,158,none⟩=some (vI s.n):=h.facts.2.2.2.2.2.2.2.2.2.2.2.2.2.2.1
 have x5:w.cell? ⟨b,159,none⟩=some (.slice aa la ca):=by rw[h.facts.2.2.2.2.2.2.2.2.2.2.2.2.2.2.2.1,ha]
 have x6:w.cell? ⟨b,160,none⟩=some (.slice ra lr cr):=by rw[h.facts.2.2.2.2.2.2.2.2.2.2.2.2.2.2.2.2.1,hr]
 generalize s.r=zr at *
 generalize s.s=zs at *
 generalize s.t=zt at *
 generalize s.n=zn at *
 have hm:∀ p∈([(34,vF 80),(35,vF 80),(36,vF 80),(37,vN),(38,vN),(39,vN),(155,vI zr),(156,vI zs),(157,vI zt),(158,vI zn),(159,.slice aa la ca),(160,.slice ra lr cr)]:List (Nat × Value)),w.cell? ⟨b,p.1,none⟩=some p.2:=fun p hp=>by
  simp only[List.mem_cons,List.not_mem_nil,or_false] at hp
  rcases hp with rfl | rfl | rfl | rfl | rfl | rfl | rfl | rfl | rfl | rfl | rfl | rfl
  ·exact r0
  ·exact r1
  ·exact r2
  ·exact r3
  ·exact r4
  ·exact r5
  ·exact x1
  ·exact x2
  ·exact x3
  ·exact x4
  ·exact x5
  ·exact x6
 clear r0 r1 r2 r3 r4 r5 x1 x2 x3 x4 x5 x6 h ha hr
 cases hn:(zn==0)
 ·exact(namesLeaf_4_0 b w zr zs zt zn aa ra la ca lr cr hn hm).mono (fun e w' he=>⟨by rw[he.1];rfl,he.2⟩)
 cases ha:((la:Int)==0)
 ·exact(namesLeaf_4_1 b w zr zs zt zn aa ra la ca lr cr hn ha hm).mono (fun e w' he=>⟨by rw[he.1];rfl,he.2⟩)
 cases he:((lr:Int)==0)
 ·exact(namesLeaf_4_2 b w zr zs zt zn aa ra la ca lr cr hn ha he hm).mono (fun e w' he=>⟨by rw[he.1];rfl,he.2⟩)
 exact(namesLeaf_4_3 b w zr zs zt zn aa ra la ca lr cr hn ha he hm).mono (fun e w' he=>⟨by rw[he.1];rfl,he.2⟩)
end Go.Proofs.YtingenonbkencaaDoor
