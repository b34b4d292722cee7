import Derived.Test.YtingenonbkencaaDoorQW3J
set_option linter.unusedVariables false
set_option linter.unusedSimpArgs false
namespace Go.Proofs.YtingenonbkencaaDoor
open Go.RowKit (wrap32 wrap64)
set_option maxRecDepth 100000
set_option maxHeartbeats 1000000
theorem plain_4 (w:World)(op zr zs zt zn:Int)(aa ra:Option Addr)(la ca lr cr:Nat)(hn:∀ c,namesB op c=namesB 4 c) :
 Calls Tryd.prog 96 #[.agg #[vI op,vI zr,vI zs,vI zt,vI zn,.slice aa la ca,.slice ra lr cr]] w fun e w'=>e = .returned (.bool ((tested (namesB 4)).all fun p=>(zzOf (zeros6 zr zs zt zn la lr) p.1==0)||p.2))∧Fr (fun _=>False) w w':=by
 obtain⟨w0,HW⟩:∃ w0,w0=w.alloc (.cells #[vI op,vI zr,vI zs,vI zt,vI zn,.slice aa la ca,.slice ra lr cr] 71):=⟨_,rfl⟩
 have hf0:Hd (Fr (fun _=>False) w w0):=by unfold Hd;rw[HW];exact Fr.alloc (Fr.refl _ _) _
 have hb:w.heap.size<w0.heap.size:=by rw[HW];simp
 have hm:∀ p∈([(0,vI op),(1,vI zr),(2,vI zs),(3,vI zt),(4,vI zn),(5,.slice aa la ca),(6,.slice ra lr cr)]:List (Nat × Value)),w0.cell? ⟨w.heap.size,p.1,none⟩=some p.2:=fun p hp=>by
  simp only[List.mem_cons,List.not_mem_nil,or_false] at hp
  rw[HW]
  rcases hp with rfl | rfl | rfl | rfl | rfl | rfl | rfl<;>(rw[World.cell?_alloc_at _ _ _ _ rfl];rfl)
 have HM:Hd (∀ q v,memOf ([(0,vI op),(1,vI zr),(2,vI zs),(3,vI zt),(4,vI zn),(5,.slice aa la ca),(6,.slice ra lr cr)]:List (Nat × Value)) q=some v→w0.cell? ⟨w.heap.size,q,none⟩=some v):=memOf_sound hm
 have HN:Hd (∀ c,namesB op c=namesB 4 c):=hn
 clear hm hn
 go_enter Tryd.func96,Tryd.ntmps96
 iterate 14 go_step
 rw[← HW]
 clear HW
 refine wpList_ev3 (b:=w.heap.size) (op:=op) (nmf:=namesB 4) (w0:=w0) (zz:=zzOf []) (tb:=tbOf []) HN.out hb HM.out (zzOf_sound (fun _ h=>by cases h)) (by kernel_rfl) (by kernel_rfl) (Fr.refl _ _) (fun w1 hf1=>?_)
 iterate 4 go_step
 refine wpList_ev3 (b:=w.heap.size) (op:=op) (nmf:=namesB 4) (w0:=w0) (zz:=zzOf []) (tb:=tbOf []) HN.out hb HM.out (zzOf_sound (fun _ h=>by cases h)) (by kernel_rfl) (by kernel_rfl) hf1 (fun w2 hf2=>?_)
 iterate 4 go_step
 refine wpList_ev4 (b:=w.heap.size) (op:=op) (nmf:=namesB 4) (w0:=w0) (zz:=zzOf (zeros6 zr zs zt zn la lr)) 2 (conjT (tested (namesB 4))) HN.out hb HM.out (by kernel_rfl) (by kernel_rfl) hf2 (fun a' w3 hf3 hx hd=>?_)
 simp only[Exit.then]
 go_wp2_with fail
 refine bodyPost_ret (v:=.bool ((conjT (tested (namesB 4))).ev fun d=>zzOf (zeros6 zr zs zt zn la lr) d==0)) (fn:=Tryd.f96) ?_ hd ⟨?_,hf0.out.trans hf3⟩
 ·rw[results_tmp Tryd.results96,hx]
 ·rw[conjT_ev]
theorem plain_5 (w:World)(op zr zs zt zn:Int)(aa ra:Option Addr)(la ca lr cr:Nat)(hn:∀ c,namesB op c=namesB 5 c) :
 Calls Tryd.prog 96 #[.agg #[vI op,vI zr,vI zs,vI zt,vI zn,.slice aa la ca,.slice ra lr cr]] w fun e w'=>e = .returned (.bool ((tested (namesB 5)).all fun p=>(zzOf (zeros6 zr zs zt zn la lr) p.1==0)||p.2))∧Fr (fun _=>False) w w':=by
 obtain⟨w0,HW⟩:∃ w0,w0=w.alloc (.cells #[vI op,vI zr,vI zs,vI zt,vI zn,.slice aa la ca,.slice ra lr cr] 71):=⟨_,rfl⟩
 have hf0:Hd (Fr (fun _=>False) w w0):=by unfold Hd;rw[HW];exact Fr.alloc (Fr.refl _ _) _
 have hb:w.heap.size<w0.heap.size:=by rw[HW];simp
 have hm:∀ p∈([(0,vI op),(1,vI zr),(2,vI zs),(3,vI zt),(4,vI zn),(5,.slice aa la ca),(6,.slice ra lr cr)]:List (Nat × Value)),w0.cell? ⟨w.heap.size,p.1,none⟩=some p.2:=fun p hp=>by
  simp only[List.mem_cons,List.not_mem_nil,or_false] at hp
  rw[HW]
  rcases hp with rfl | rfl | rfl | rfl | rfl | rfl | rfl<;>(rw[World.cell?_alloc_at _ _ _ _ rfl];rfl)
 have HM:Hd (∀ q v,memOf ([(0,vI op),(1,vI zr),(2,vI zs),(3,vI zt),(4,vI zn),(5,.slice aa la ca),(6,.slice ra lr cr)]:List (Nat × Value)) q=some v→w0.cell? ⟨w.heap.size,q,none⟩=some v):=memOf_sound hm
 have HN:Hd (∀ c,namesB op c=namesB 5 c):=hn
 clear hm hn
 go_enter Tryd.func96,Tryd.ntmps96
 iterate 14 go_step
 rw[← HW]
 clear HW
 refine wpList_ev3 (b:=w.heap.size) (op:=op) (nmf:=namesB 5) (w0:=w0) (zz:=zzOf []) (tb:=tbOf []) HN.out hb HM.out (zzOf_sound (fun _ h=>by cases h)) (by kernel_rfl) (by kernel_rfl) (Fr.refl _ _) (fun w1 hf1=>?_)
 iterate 4 go_step
 refine wpList_ev3 (b:=w.heap.size) (op:=op) (nmf:=namesB 5) (w0:=w0) (zz:=zzOf []) (tb:=tbOf []) HN.out hb HM.out (zzOf_sound (fun _ h=>by cases h)) (by kernel_rfl) (by kernel_rfl) hf1 (fun w2 hf2=>?_)
 iterate 4 go_step
 refine wpList_ev4 (b:=w.heap.size) (op:=op) (nmf:=namesB 5) (w0:=w0) (zz:=zzOf (zeros6 zr zs zt zn la lr)) 2 (conjT (tested (namesB 5))) HN.out hb HM.out (by kernel_rfl) (by kernel_rfl) hf2 (fun a' w3 hf3 hx hd=>?_)
 simp only[Exit.then]
 go_wp2_with fail
 refine bodyPost_ret (v:=.bool ((conjT (tested (namesB 5))).ev fun d=>zzOf (zeros6 zr zs zt zn la lr) d==0)) (fn:=Tryd.f96) ?_ hd ⟨?_,hf0.out.trans hf3⟩
 ·rw[results_tmp Tryd.results96,hx]
 ·rw[conjT_ev]
theorem plain_6 (w:World)(op zr zs zt zn:Int)(aa ra:Option Addr)(la ca lr cr:Nat)(hn:∀ c,namesB op c=namesB 6 c) :
 Calls Tryd.prog 96 #[.agg #[vI op,vI zr,vI zs,vI zt,vI zn,.slice aa la ca,.slice ra lr cr]] w fun e w'=>e = .returned (.bool ((tested (namesB 6)).all fun p=>(zzOf (zeros6 zr zs zt zn la lr) p.1==0)||p.2))∧Fr (fun _=>False) w w':=by
 obtain⟨w0,HW⟩:∃ w0,w0=w.alloc (.cells #[vI op,vI zr,vI zs,vI zt,vI zn,.slice aa la ca,.slice ra lr cr] 71):=⟨_,rfl⟩
 have hf0:Hd (Fr (fun _=>False) w w0):=by unfold Hd;rw[HW];exact Fr.alloc (Fr.refl _ _) _
 have hb:w.heap.size<w0.heap.size:=by rw[HW];simp
 have hm:∀ p∈([(0,vI op),(1,vI zr),(2,vI zs),(3,vI zt),(4,vI zn),(5,.slice aa la ca),(6,.slice ra lr cr)]:List (Nat × Value)),w0.cell? ⟨w.heap.size,p.1,none⟩=some p.2:=fun p hp=>by
  simp only[List.mem_cons,List.not_mem_nil,or_false] at hp
  rw[HW]
  rcases hp with rfl | rfl | rfl | rfl | rfl | rfl | rfl<;>(rw[World.cell?_alloc_at _ _ _ _ rfl];rfl)
 have HM:Hd (∀ q v,memOf ([(0,vI op),(1,vI zr),(2,vI zs),(3,vI zt),(4,vI zn),(5,.slice aa la ca),(6,.slice ra lr cr)]:List (Nat × Value)) q=some v→w0.cell? ⟨w.heap.size,q,none⟩=some v):=memOf_sound hm
 have HN:Hd (∀ c,namesB op c=namesB 6 c):=hn
 clear hm hn
 go_enter Tryd.func96,Tryd.ntmps96
 iterate 14 go_step
 rw[← HW]
 clear HW
 refine wpList_ev3 (b:=w.heap.size) (op:=op) (nmf:=namesB 6) (w0:=w0) (zz:=zzOf []) (tb:=tbOf []) HN.out hb HM.out (zzOf_sound (fun _ h=>by cases h)) (by kernel_rfl) (by kernel_rfl) (Fr.refl _ _) (fun w1 hf1=>?_)
 iterate 4 go_step
 refine wpList_ev3 (b:=w.heap.size) (op:=op) (nmf:=namesB 6) (w0:=w0) (zz:=zzOf []) (tb:=tbOf []) HN.out hb HM.out (zzOf_sound (fun _ h=>by cases h)) (by kernel_rfl) (by kernel_rfl) hf1 (fun w2 hf2=>?_)
 iterate 4 go_step
 refine wpList_ev4 (b:=w.heap.size) (op:=op) (nmf:=namesB 6) (w0:=w0) (zz:=zzOf (zeros6 zr zs zt zn la lr)) 2 (conjT (tested (namesB 6))) HN.out hb HM.out (by kernel_rfl) (by kernel_rfl) hf2 (fun a' w3 hf3 hx hd=>?_)
 simp only[Exit.then]
 go_wp2_with fail
 refine bodyPost_ret (v:=.bool ((conjT (tested (namesB 6))).ev fun d=>zzOf (zeros6 zr zs zt zn la lr) d==0)) (fn:=Tryd.f96) ?_ hd ⟨?_,hf0.out.trans hf3⟩
 ·rw[results_tmp Tryd.results96,hx]
 ·rw[conjT_ev]
end Go.Proofs.YtingenonbkencaaDoor
