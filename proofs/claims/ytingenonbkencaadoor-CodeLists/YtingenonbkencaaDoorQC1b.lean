import Derived.Test.YtingenonbkencaaDoorQA3J
set_option linter.unusedVariables false
set_option linter.unusedSimpArgs false
namespace Go.Proofs.YtingenonbkencaaDoor
open Go.RowKit (wrap32 wrap64)
set_option maxRecDepth 100000
set_option maxHeartbeats 1000000
theorem namesAll_7 {b:Nat}(s:WS)(w:World)(h:Lies w b s)(aa ra:Option Addr)(la ca lr cr:Nat)(ha:s.args = .slice aa la ca)(hr:s.rets = .slice ra lr cr)(z2:s.t=0)(z4:lenOf s.args=0)(z5:lenOf s.rets=0) :
 Calls Tryd.prog 93 #[.pointer (some ⟨b,58,none⟩),.pointer (some ⟨b,154,none⟩)] w fun e w'=>e = .returned (.bool true)∧w'=w:=by
 have q1:=run_neq81_f;have q2:=run_neq81_n;have q3:=run_neq82_f;have q4:=run_neq82_n
 have r0:w.cell? ⟨b,58,none⟩=some (vF 80):=by rw[h.cell];kernel_rfl
 have r1:w.cell? ⟨b,59,none⟩=some (vF 80):=by rw[h.cell];kernel_rfl
 have r2:w.cell? ⟨b,60,none⟩=some vN:=by rw[h.cell];kernel_rfl
 have r3:w.cell? ⟨b,61,none⟩=some (vF 83):=by rw[h.cell];kernel_rfl
 have r4:w.cell? ⟨b,62,none⟩=some vN:=by rw[h.cell];kernel_rfl
 have r5:w.cell? ⟨b,63,none⟩=some vN:=by rw[h.cell];kernel_rfl
 have x1:w.cell? ⟨b,155,none⟩=some (vI s.r):=h.facts.2.2.2.2.2.2.2.2.2.2.2.1
 have x2:w.cell? ⟨b,156,none⟩=some (vI s.s):=h.facts.2.2.2.2.2.2.2.2.2.2.2.2.1
 have x3:w.cell? ⟨b,157,none⟩=some (vI s.t):=h.facts.2.2.2.2.2.2.2.2.2.2.2.2.2.1
 have x4:w.cell? ⟨b,158,none⟩=some (vI s.n):=h.facts.2.2.2.2.2.2.2.2.2.2.2.2.2.2.1
 have x5:w.cell? ⟨b,159,none⟩=some (.slice aa la ca):=by rw[h.facts.2.2.2.2.2.2.2.2.2.2.2.2.2.2.2.1,ha]
 have x6:w.cell? ⟨b,160,none⟩=some (.slice ra lr cr):=by rw[h.facts.2.2.2.2.2.2.2.2.2.2.2.2.2.2.2.2.1,hr]
 rw[z2] at x3
 have z4':la=0:=by rw[← z4,ha];rfl
 subst z4'
 have z5':lr=0:=by rw[← z5,hr];rfl
 subst z5'
 clear h ha hr
 go_enter Tryd.func93,Tryd.ntmps93
 go_wp2_with fail
 go_ret
 exact⟨rfl,rfl⟩
theorem namesAll_8 {b:Nat}(s:WS)(w:World)(h:Lies w b s)(aa ra:Option Addr)(la ca lr cr:Nat)(ha:s.args = .slice aa la ca)(hr:s.rets = .slice ra lr cr)(z2:s.t=0)(z4:lenOf s.args=0)(z5:lenOf s.rets=0) :
 Calls Tryd.prog 93 #[.pointer (some ⟨b,66,none⟩),.pointer (some ⟨b,154,none⟩)] w fun e w'=>e = .returned (.bool true)∧w'=w:=by
 have q1:=run_neq81_f;have q2:=run_neq81_n;have q3:=run_neq82_f;have q4:=run_neq82_n
 have r0:w.cell? ⟨b,66,none⟩=some (vF 80):=by rw[h.cell];kernel_rfl
 have r1:w.cell? ⟨b,67,none⟩=some (vF 80):=by rw[h.cell];kernel_rfl
 have r2:w.cell? ⟨b,68,none⟩=some vN:=by rw[h.cell];kernel_rfl
 have r3:w.cell? ⟨b,69,none⟩=some (vF 83):=by rw[h.cell];kernel_rfl
 have r4:w.cell? ⟨b,70,none⟩=some vN:=by rw[h.cell];kernel_rfl
 have r5:w.cell? ⟨b,71,none⟩=some vN:=by rw[h.cell];kernel_rfl
 have x1:w.cell? ⟨b,155,none⟩=some (vI s.r):=h.facts.2.2.2.2.2.2.2.2.2.2.2.1
 have x2:w.cell? ⟨b,156,none⟩=some (vI s.s):=h.facts.2.2.2.2.2.2.2.2.2.2.2.2.1
 have x3:w.cell? ⟨b,157,none⟩=some (vI s.t):=h.facts.2.2.2.2.2.2.2.2.2.2.2.2.2.1
 have x4:w.cell? ⟨b,158,none⟩=some (vI s.n):=h.facts.2.2.2.2.2.2.2.2.2.2.2.2.2.2.1
 have x5:w.cell? ⟨b,159,none⟩=some (.slice aa la ca):=by rw[h.facts.2.2.2.2.2.2.2.2.2.2.2.2.2.2.2.1,ha]
 have x6:w.cell? ⟨b,160,none⟩=some (.slice ra lr cr):=by rw[h.facts.2.2.2.2.2.2.2.2.2.2.2.2.2.2.2.2.1,hr]
 rw[z2] at x3
 have z4':la=0:=by rw[← z4,ha];rfl
 subst z4'
 have z5':lr=0:=by rw[← z5,hr];rfl
 subst z5'
 clear h ha hr
 go_enter Tryd.func93,Tryd.ntmps93
 go_wp2_with fail
 go_ret
 exact⟨rfl,rfl⟩
theorem namesAll_9 {b:Nat}(s:WS)(w:World)(h:Lies w b s)(aa ra:Option Addr)(la ca lr cr:Nat)(ha:s.args = .slice aa la ca)(hr:s.rets = .slice ra lr cr)(z1:s.s=0)(z2:s.t=0)(z4:lenOf s.args=0)(z5:lenOf s.rets=0) :
 Calls Tryd.prog 93 #[.pointer (some ⟨b,74,none⟩),.pointer (some ⟨b,154,none⟩)] w fun e w'=>e = .returned (.bool true)∧w'=w:=by
 have q1:=run_neq81_f;have q2:=run_neq81_n;have q3:=run_neq82_f;have q4:=run_neq82_n
 have r0:w.cell? ⟨b,74,none⟩=some (vF 80):=by rw[h.cell];kernel_rfl
 have r1:w.cell? ⟨b,75,none⟩=some vN:=by rw[h.cell];kernel_rfl
 have r2:w.cell? ⟨b,76,none⟩=some vN:=by rw[h.cell];kernel_rfl
 have r3:w.cell? ⟨b,77,none⟩=some (vF 84):=by rw[h.cell];kernel_rfl
 have r4:w.cell? ⟨b,78,none⟩=some vN:=by rw[h.cell];kernel_rfl
 have r5:w.cell? ⟨b,79,none⟩=some vN:=by rw[h.cell];kernel_rfl
 have x1:w.cell? ⟨b,155,none⟩=some (vI s.r):=h.facts.2.2.2.2.2.2.2.2.2.2.2.1
 have x2:w.cell? ⟨b,156,none⟩=some (vI s.s):=h.facts.2.2.2.2.2.2.2.2.2.2.2.2.1
 have x3:w.cell? ⟨b,157,none⟩=some (vI s.t):=h.facts.2.2.2.2.2.2.2.2.2.2.2.2.2.1
 have x4:w.cell? ⟨b,158,none⟩=some (vI s.n):=h.facts.2.2.2.2.2.2.2.2.2.2.2.2.2.2.1
 have x5:w.cell? ⟨b,159,none⟩=some (.slice aa la ca):=by rw[h.facts.2.2.2.2.2.2.2.2.2.2.2.2.2.2.2.1,ha]
 have x6:w.cell? ⟨b,160,none⟩=some (.slice ra lr cr):=by rw[h.facts.2.2.2.2.2.2.2.2.2.2.2.2.2.2.2.2.1,hr]
 rw[z1] at x2
 rw[z2] at x3
 have z4':la=0:=by rw[← z4,ha];rfl
 subst z4'
 have z5':lr=0:=by rw[← z5,hr];rfl
 subst z5'
 clear h ha hr
 go_enter Tryd.func93,Tryd.ntmps93
 go_wp2_with fail
 go_ret
 exact⟨rfl,rfl⟩
theorem namesAll_10 {b:Nat}(s:WS)(w:World)(h:Lies w b s)(aa ra:Option Addr)(la ca lr cr:Nat)(ha:s.args = .slice aa la ca)(hr:s.rets = .slice ra lr cr)(z0:s.r=0)(z2:s.t=0)(z4:lenOf s.args=0)(z5:lenOf s.rets=0) :
 Calls Tryd.prog 93 #[.pointer (some ⟨b,82,none⟩),.pointer (some ⟨b,154,none⟩)] w fun e w'=>e = .returned (.bool true)∧w'=w:=by
 have q1:=run_neq81_f;have q2:=run_neq81_n;have q3:=run_neq82_f;have q4:=run_neq82_n
 have r0:w.cell? ⟨b,82,none⟩=some vN:=by rw[h.cell];kernel_rfl
 have r1:w.cell? ⟨b,83,none⟩=some (vF 80):=by rw[h.cell];kernel_rfl
 have r2:w.cell? ⟨b,84,none⟩=some vN:=by rw[h.cell];kernel_rfl
 have r3:w.cell? ⟨b,85,none⟩=some (vF 84):=by rw[h.cell];kernel_rfl
 have r4:w.cell? ⟨b,86,none⟩=some vN:=by rw[h.cell];kernel_rfl
 have r5:w.cell? ⟨b,87,none⟩=some vN:=by rw[h.cell];kernel_rfl
 have x1:w.cell? ⟨b,155,none⟩=some (vI s.r):=h.facts.2.2.2.2.2.2.2.2.2.2.2.1
 have x2:w.cell? ⟨b,156,none⟩=some (vI s.s):=h.facts.2.2.2.2.2.2.2.2.2.2.2.2.1
 have x3:w.cell? ⟨b,157,none⟩=some (vI s.t):=h.facts.2.2.2.2.2.2.2.2.2.2.2.2.2.1
 have x4:w.cell? ⟨b,158,none⟩=some (vI s.n):=h.facts.2.2.2.2.2.2.2.2.2.2.2.2.2.2.1
 have x5:w.cell? ⟨b,159,none⟩=some (.slice aa la ca):=by rw[h.facts.2.2.2.2.2.2.2.2.2.2.2.2.2.2.2.1,ha]
 have x6:w.cell? ⟨b,160,none⟩=some (.slice ra lr cr):=by rw[h.facts.2.2.2.2.2.2.2.2.2.2.2.2.2.2.2.2.1,hr]
 rw[z0] at x1
 rw[z2] at x3
 have z4':la=0:=by rw[← z4,ha];rfl
 subst z4'
 have z5':lr=0:=by rw[← z5,hr];rfl
 subst z5'
 clear h ha hr
 go_enter Tryd.func93,Tryd.ntmps93
 go_wp2_with fail
 go_ret
 exact⟨rfl,rfl⟩
theorem namesAll_11 {b:Nat}(s:WS)(w:World)(h:Lies w b s)(aa ra:Option Addr)(la ca lr cr:Nat)(ha:s.args = .slice aa la ca)(hr:s.rets = .slice ra lr cr)(z0:s.r=0)(z1:s.s=0)(z2:s.t=0) :
 Calls Tryd.prog 93 #[.pointer (some ⟨b,90,none⟩),.pointer (some ⟨b,154,none⟩)] w fun e w'=>e = .returned (.bool true)∧w'=w:=by
 have q1:=run_neq81_f;have q2:=run_neq81_n;have q3:=run_neq82_f;have q4:=run_neq82_n
 have r0:w.cell? ⟨b,90,none⟩=some vN:=by rw[h.cell];kernel_rfl
 have r1:w.cell? ⟨b,91,none⟩=some vN:=by rw[h.cell];kernel_rfl
 have r2:w.cell? ⟨b,92,none⟩=some vN:=by rw[h.cell];kernel_rfl
 have r3:w.cell? ⟨b,93,none⟩=some (vF 85):=by rw[h.cell];kernel_rfl
 have r4:w.cell? ⟨b,94,none⟩=some (vF 86):=by rw[h.cell];kernel_rfl
 have r5:w.cell? ⟨b,95,none⟩=some (vF 87):=by rw[h.cell];kernel_rfl
 have x1:w.cell? ⟨b,155,none⟩=some (vI s.r):=h.facts.2.2.2.2.2.2.2.2.2.2.2.1
 have x2:w.cell? ⟨b,156,none⟩=some (vI s.s):=h.facts.2.2.2.2.2.2.2.2.2.2.2.2.1
 have x3:w.cell? ⟨b,157,none⟩=some (vI s.t):=h.facts.2.2.2.2.2.2.2.2.2.2.2.2.2.1
 have x4:w.cell? ⟨b,158,none⟩=some (vI s.n):=h.facts.2.2.2.2.2.2.2.2.2.2.2.2.2.2.1
 have x5:w.cell? ⟨b,159,none⟩=some (.slice aa la ca):=by rw[h.facts.2.2.2.2.2.2.2.2.2.2.2.2.2.2.2.1,ha]
 have x6:w.cell? ⟨b,160,none⟩=some (.slice ra lr cr):=by rw[h.facts.2.2.2.2.2.2.2.2.2.2.2.2.2.2.2.2.1,hr]
 rw[z0] at x1
 rw[z1] at x2
 rw[z2] at x3
 clear h ha hr
 go_enter Tryd.func93,Tryd.ntmps93
 go_wp2_with fail
 go_ret
 exact⟨rfl,rfl⟩
theorem namesAll_12 {b:Nat}(s:WS)(w:World)(h:Lies w b s)(aa ra:Option Addr)(la ca lr cr:Nat)(ha:s.args = .slice aa la ca)(hr:s.rets = .slice ra lr cr)(z0:s.r=0)(z2:s.t=0)(z3:s.n=0)(z4:lenOf s.args=0)(z5:lenOf s.rets=0) :
 Calls Tryd.prog 93 #[.pointer (some ⟨b,98,none⟩),.pointer (some ⟨b,154,none⟩)] w fun e w'=>e = .returned (.bool true)∧w'=w:=by
 have q1:=run_neq81_f;have q2:=run_neq81_n;have q3:=run_neq82_f;have q4:=run_neq82_n
 have r0:w.cell? ⟨b,98,none⟩=some vN:=by rw[h.cell];kernel_rfl
 have r1:w.cell? ⟨b,99,none⟩=some (vF 80):=by rw[h.cell];kernel_rfl
 have r2:w.cell? ⟨b,100,none⟩=some vN:=by rw[h.cell];kernel_rfl
 have r3:w.cell? ⟨b,101,none⟩=some vN:=by rw[h.cell];kernel_rfl
 have r4:w.cell? ⟨b,102,none⟩=some vN:=by rw[h.cell];kernel_rfl
 have r5:w.cell? ⟨b,103,none⟩=some vN:=by rw[h.cell];kernel_rfl
 have x1:w.cell? ⟨b,155,none⟩=some (vI s.r):=h.facts.2.2.2.2.2.2.2.2.2.2.2.1
 have x2:w.cell? ⟨b,156,none⟩=some (vI s.s):=h.facts.2.2.2.2.2.2.2.2.2.2.2.2.1
 have x3:w.cell? ⟨b,157,none⟩=some (vI s.t):=h.facts.2.2.2.2.2.2.2.2.2.2.2.2.2.1
 have x4:w.cell? ⟨b,158,none⟩=some (vI s.n):=h.facts.2.2.2.2.2.2.2.2.2.2.2.2.2.2.1
 have x5:w.cell? ⟨b,159,none⟩=some (.slice aa la ca):=by rw[h.facts.2.2.2.2.2.2.2.2.2.2.2.2.2.2.2.1,ha]
 have x6:w.cell? ⟨b,160,none⟩=some (.slice ra lr cr):=by rw[h.facts.2.2.2.2.2.2.2.2.2.2.2.2.2.2.2.2.1,hr]
 rw[z0] at x1
 rw[z2] at x3
 rw[z3] at x4
 have z4':la=0:=by rw[← z4,ha];rfl
 subst z4'
 have z5':lr=0:=by rw[← z5,hr];rfl
 subst z5'
 clear h ha hr
 go_enter Tryd.func93,Tryd.ntmps93
 go_wp2_with fail
 go_ret
 exact⟨rfl,rfl⟩
end Go.Proofs.YtingenonbkencaaDoor
