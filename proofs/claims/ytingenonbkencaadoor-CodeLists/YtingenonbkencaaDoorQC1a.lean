import Derived.Test.YtingenonbkencaaDoorQA3J
set_option linter.unusedVariables false
set_option linter.unusedSimpArgs false
namespace Go.Proofs.YtingenonbkencaaDoor
open Go.RowKit (wrap32 wrap64)
set_option maxRecDepth 100000
set_option maxHeartbeats 1000000
theorem namesAll_1 {b:Nat}(s:WS)(w:World)(h:Lies w b s)(aa ra:Option Addr)(la ca lr cr:Nat)(ha:s.args = .slice aa la ca)(hr:s.rets = .slice ra lr cr)(z1:s.s=0)(z2:s.t=0)(z4:lenOf s.args=0)(z5:lenOf s.rets=0) :
 Calls Tryd.prog 93 #[.pointer (some ⟨b,10,none⟩),.pointer (some ⟨b,154,none⟩)] w fun e w'=>e = .returned (.bool true)∧w'=w:=by
 have q1:=run_neq81_f;have q2:=run_neq81_n;have q3:=run_neq82_f;have q4:=run_neq82_n
 have r0:w.cell? ⟨b,10,none⟩=some (vF 80):=by rw[h.cell];kernel_rfl
 have r1:w.cell? ⟨b,11,none⟩=some vN:=by rw[h.cell];kernel_rfl
 have r2:w.cell? ⟨b,12,none⟩=some vN:=by rw[h.cell];kernel_rfl
 have r3:w.cell? ⟨b,13,none⟩=some (vF 81):=by rw[h.cell];kernel_rfl
 have r4:w.cell? ⟨b,14,none⟩=some vN:=by rw[h.cell];kernel_rfl
 have r5:w.cell? ⟨b,15,none⟩=some vN:=by rw[h.cell];kernel_rfl
 have x1:w.cell? ⟨b,155,none⟩=some (vI s.r):=h.facts.2.2.2.2.2.2.2.2.2.2.2.1
 have x2:w.cell? ⟨b,156,none⟩=some (vI s.s):=h.facts.2.2.2.2.2.2.2.2.2.2.2.2.1
 have x3:w.cell? ⟨b,157,none⟩=some (vI s.t):=h.facts.2.2.2.2.2.2.2.2.2.2.2.2.2.1
 have x4:w.cell? ⟨b,158,none⟩=some (vI s.n):=h.facts.2.2.2.2.2.2.2.2.2.2.2.2.2.2.1
 have x5:w.cell? ⟨b,159,none⟩=some (.slice aa la ca):=by rw[h.facts.2.2.2.2.2.2.2.2.2.2.2.2.2.2.2.1,ha]
 have x6:w.cell? ⟨b,160,none⟩=some (.slice ra lr cr):=by rw[h.facts.2.2.2.2.2.2.2.2.2.2.2.2.2.2.2.2.1,hr]
 rw[z1] at x2
 rw[z2] at x3
 have z4':la=0:=by rw[← z4,ha];rfl
 subst z4'
 have z5':lr=0:=by rw[← z5,hr];rfl
 subst z5'
 clear h ha hr
 go_enter Tryd.func93,Tryd.ntmps93
 go_wp2_with fail
 go_ret
 exact⟨rfl,rfl⟩
theorem namesAll_2 {b:Nat}(s:WS)(w:World)(h:Lies w b s)(aa ra:Option Addr)(la ca lr cr:Nat)(ha:s.args = .slice aa la ca)(hr:s.rets = .slice ra lr cr)(z2:s.t=0)(z3:s.n=0)(z4:lenOf s.args=0)(z5:lenOf s.rets=0) :
 Calls Tryd.prog 93 #[.pointer (some ⟨b,18,none⟩),.pointer (some ⟨b,154,none⟩)] w fun e w'=>e = .returned (.bool true)∧w'=w:=by
 have q1:=run_neq81_f;have q2:=run_neq81_n;have q3:=run_neq82_f;have q4:=run_neq82_n
 have r0:w.cell? ⟨b,18,none⟩=some (vF 80):=by rw[h.cell];kernel_rfl
 have r1:w.cell? ⟨b,19,none⟩=some (vF 80):=by rw[h.cell];kernel_rfl
 have r2:w.cell? ⟨b,20,none⟩=some vN:=by rw[h.cell];kernel_rfl
 have r3:w.cell? ⟨b,21,none⟩=some vN:=by rw[h.cell];kernel_rfl
 have r4:w.cell? ⟨b,22,none⟩=some vN:=by rw[h.cell];kernel_rfl
 have r5:w.cell? ⟨b,23,none⟩=some vN:=by rw[h.cell];kernel_rfl
 have x1:w.cell? ⟨b,155,none⟩=some (vI s.r):=h.facts.2.2.2.2.2.2.2.2.2.2.2.1
 have x2:w.cell? ⟨b,156,none⟩=some (vI s.s):=h.facts.2.2.2.2.2.2.2.2.2.2.2.2.1
 have x3:w.cell? ⟨b,157,none⟩=some (vI s.t):=h.facts.2.2.2.2.2.2.2.2.2.2.2.2.2.1
 have x4:w.cell? ⟨b,158,none⟩=some (vI s.n):=h.facts.2.2.2.2.2.2.2.2.2.2.2.2.2.2.1
 have x5:w.cell? ⟨b,159,none⟩=some (.slice aa la ca):=by rw[h.facts.2.2.2.2.2.2.2.2.2.2.2.2.2.2.2.1,ha]
 have x6:w.cell? ⟨b,160,none⟩=some (.slice ra lr cr):=by rw[h.facts.2.2.2.2.2.2.2.2.2.2.2.2.2.2.2.2.1,hr]
 rw[z2] at x3
 rw[z3] at x4
 have z4':la=0:=by rw[← z4,ha];rfl
 subst z4'
 have z5':lr=0:=by rw[← z5,hr];rfl
 subst z5'
 clear h ha hr
 go_enter Tryd.func93,Tryd.ntmps93
 go_wp2_with fail
 go_ret
 exact⟨rfl,rfl⟩
theorem namesAll_3 {b:Nat}(s:WS)(w:World)(h:Lies w b s)(aa ra:Option Addr)(la ca lr cr:Nat)(ha:s.args = .slice aa la ca)(hr:s.rets = .slice ra lr cr)(z3:s.n=0)(z4:lenOf s.args=0)(z5:lenOf s.rets=0) :
 Calls Tryd.prog 93 #[.pointer (some ⟨b,26,none⟩),.pointer (some ⟨b,154,none⟩)] w fun e w'=>e = .returned (.bool true)∧w'=w:=by
 have q1:=run_neq81_f;have q2:=run_neq81_n;have q3:=run_neq82_f;have q4:=run_neq82_n
 have r0:w.cell? ⟨b,26,none⟩=some (vF 80):=by rw[h.cell];kernel_rfl
 have r1:w.cell? ⟨b,27,none⟩=some (vF 80):=by rw[h.cell];kernel_rfl
 have r2:w.cell? ⟨b,28,none⟩=some (vF 80):=by rw[h.cell];kernel_rfl
 have r3:w.cell? ⟨b,29,none⟩=some vN:=by rw[h.cell];kernel_rfl
 have r4:w.cell? ⟨b,30,none⟩=some vN:=by rw[h.cell];kernel_rfl
 have r5:w.cell? ⟨b,31,none⟩=some vN:=by rw[h.cell];kernel_rfl
 have x1:w.cell? ⟨b,155,none⟩=some (vI s.r):=h.facts.2.2.2.2.2.2.2.2.2.2.2.1
 have x2:w.cell? ⟨b,156,none⟩=some (vI s.s):=h.facts.2.2.2.2.2.2.2.2.2.2.2.2.1
 have x3:w.cell? ⟨b,157,none⟩=some (vI s.t):=h.facts.2.2.2.2.2.2.2.2.2.2.2.2.2.1
 have x4:w.cell? ⟨b,158,none⟩=some (vI s.n):=h.facts.2.2.2.2.2.2.2.2.2.2.2.2.2.2.1
 have x5:w.cell? ⟨b,159,none⟩=some (.slice aa la ca):=by rw[h.facts.2.2.2.2.2.2.2.2.2.2.2.2.2.2.2.1,ha]
 have x6:w.cell? ⟨b,160,none⟩=some (.slice ra lr cr):=by rw[h.facts.2.2.2.2.2.2.2.2.2.2.2.2.2.2.2.2.1,hr]
 rw[z3] at x4
 have z4':la=0:=by rw[← z4,ha];rfl
 subst z4'
 have z5':lr=0:=by rw[← z5,hr];rfl
 subst z5'
 clear h ha hr
 go_enter Tryd.func93,Tryd.ntmps93
 go_wp2_with fail
 go_ret
 exact⟨rfl,rfl⟩
theorem namesAll_4 {b:Nat}(s:WS)(w:World)(h:Lies w b s)(aa ra:Option Addr)(la ca lr cr:Nat)(ha:s.args = .slice aa la ca)(hr:s.rets = .slice ra lr cr)(z3:s.n=0)(z4:lenOf s.args=0)(z5:lenOf s.rets=0) :
 Calls Tryd.prog 93 #[.pointer (some ⟨b,34,none⟩),.pointer (some ⟨b,154,none⟩)] w fun e w'=>e = .returned (.bool true)∧w'=w:=by
 have q1:=run_neq81_f;have q2:=run_neq81_n;have q3:=run_neq82_f;have q4:=run_neq82_n
 have r0:w.cell? ⟨b,34,none⟩=some (vF 80):=by rw[h.cell];kernel_rfl
 have r1:w.cell? ⟨b,35,none⟩=some (vF 80):=by rw[h.cell];kernel_rfl
 have r2:w.cell? ⟨b,36,none⟩=some (vF 80):=by rw[h.cell];kernel_rfl
 have r3:w.cell? ⟨b,37,none⟩=some vN:=by rw[h.cell];kernel_rfl
 have r4:w.cell? ⟨b,38,none⟩=some vN:=by rw[h.cell];kernel_rfl
 have r5:w.cell? ⟨b,39,none⟩=some vN:=by rw[h.cell];kernel_rfl
 have x1:w.cell? ⟨b,155,none⟩=some (vI s.r):=h.facts.2.2.2.2.2.2.2.2.2.2.2.1
 have x2:w.cell? ⟨b,156,none⟩=some (vI s.s):=h.facts.2.2.2.2.2.2.2.2.2.2.2.2.1
 have x3:w.cell? ⟨b,157,none⟩=some (vI s.t):=h.facts.2.2.2.2.2.2.2.2.2.2.2.2.2.1
 have x4:w.cell? ⟨b,158,none⟩=some (vI s.n):=h.facts.2.2.2.2.2.2.2.2.2.2.2.2.2.2.1
 have x5:w.cell? ⟨b,159,none⟩=some (.slice aa la ca):=by rw[h.facts.2.2.2.2.2.2.2.2.2.2.2.2.2.2.2.1,ha]
 have x6:w.cell? ⟨b,160,none⟩=some (.slice ra lr cr):=by rw[h.facts.2.2.2.2.2.2.2.2.2.2.2.2.2.2.2.2.1,hr]
 rw[z3] at x4
 have z4':la=0:=by rw[← z4,ha];rfl
 subst z4'
 have z5':lr=0:=by rw[← z5,hr];rfl
 subst z5'
 clear h ha hr
 go_enter Tryd.func93,Tryd.ntmps93
 go_wp2_with fail
 go_ret
 exact⟨rfl,rfl⟩
theorem namesAll_5 {b:Nat}(s:WS)(w:World)(h:Lies w b s)(aa ra:Option Addr)(la ca lr cr:Nat)(ha:s.args = .slice aa la ca)(hr:s.rets = .slice ra lr cr)(z2:s.t=0)(z3:s.n=0)(z4:lenOf s.args=0)(z5:lenOf s.rets=0) :
 Calls Tryd.prog 93 #[.pointer (some ⟨b,42,none⟩),.pointer (some ⟨b,154,none⟩)] w fun e w'=>e = .returned (.bool true)∧w'=w:=by
 have q1:=run_neq81_f;have q2:=run_neq81_n;have q3:=run_neq82_f;have q4:=run_neq82_n
 have r0:w.cell? ⟨b,42,none⟩=some (vF 80):=by rw[h.cell];kernel_rfl
 have r1:w.cell? ⟨b,43,none⟩=some (vF 80):=by rw[h.cell];kernel_rfl
 have r2:w.cell? ⟨b,44,none⟩=some vN:=by rw[h.cell];kernel_rfl
 have r3:w.cell? ⟨b,45,none⟩=some vN:=by rw[h.cell];kernel_rfl
 have r4:w.cell? ⟨b,46,none⟩=some vN:=by rw[h.cell];kernel_rfl
 have r5:w.cell? ⟨b,47,none⟩=some vN:=by rw[h.cell];kernel_rfl
 have x1:w.cell? ⟨b,155,none⟩=some (vI s.r):=h.facts.2.2.2.2.2.2.2.2.2.2.2.1
 have x2:w.cell? ⟨b,156,none⟩=some (vI s.s):=h.facts.2.2.2.2.2.2.2.2.2.2.2.2.1
 have x3:w.cell? ⟨b,157,none⟩=some (vI s.t):=h.facts.2.2.2.2.2.2.2.2.2.2.2.2.2.1
 have x4:w.cell? ⟨b,158,none⟩=some (vI s.n):=h.facts.2.2.2.2.2.2.2.2.2.2.2.2.2.2.1
 have x5:w.cell? ⟨b,159,none⟩=some (.slice aa la ca):=by rw[h.facts.2.2.2.2.2.2.2.2.2.2.2.2.2.2.2.1,ha]
 have x6:w.cell? ⟨b,160,none⟩=some (.slice ra lr cr):=by rw[h.facts.2.2.2.2.2.2.2.2.2.2.2.2.2.2.2.2.1,hr]
 rw[z2] at x3
 rw[z3] at x4
 have z4':la=0:=by rw[← z4,ha];rfl
 subst z4'
 have z5':lr=0:=by rw[← z5,hr];rfl
 subst z5'
 clear h ha hr
 go_enter Tryd.func93,Tryd.ntmps93
 go_wp2_with fail
 go_ret
 exact⟨rfl,rfl⟩
theorem namesAll_6 {b:Nat}(s:WS)(w:World)(h:Lies w b s)(aa ra:Option Addr)(la ca lr cr:Nat)(ha:s.args = .slice aa la ca)(hr:s.rets = .slice ra lr cr)(z1:s.s=0)(z2:s.t=0)(z4:lenOf s.args=0)(z5:lenOf s.rets=0) :
 Calls Tryd.prog 93 #[.pointer (some ⟨b,50,none⟩),.pointer (some ⟨b,154,none⟩)] w fun e w'=>e = .returned (.bool true)∧w'=w:=by
 have q1:=run_neq81_f;have q2:=run_neq81_n;have q3:=run_neq82_f;have q4:=run_neq82_n
 have r0:w.cell? ⟨b,50,none⟩=some (vF 80):=by rw[h.cell];kernel_rfl
 have r1:w.cell? ⟨b,51,none⟩=some vN:=by rw[h.cell];kernel_rfl
 have r2:w.cell? ⟨b,52,none⟩=some vN:=by rw[h.cell];kernel_rfl
 have r3:w.cell? ⟨b,53,none⟩=some (vF 82):=by rw[h.cell];kernel_rfl
 have r4:w.cell? ⟨b,54,none⟩=some vN:=by rw[h.cell];kernel_rfl
 have r5:w.cell? ⟨b,55,none⟩=some vN:=by rw[h.cell];kernel_rfl
 have x1:w.cell? ⟨b,155,none⟩=some (vI s.r):=h.facts.2.2.2.2.2.2.2.2.2.2.2.1
 have x2:w.cell? ⟨b,156,none⟩=some (vI s.s):=h.facts.2.2.2.2.2.2.2.2.2.2.2.2.1
 have x3:w.cell? ⟨b,157,none⟩=some (vI s.t):=h.facts.2.2.2.2.2.2.2.2.2.2.2.2.2.1
 have x4:w.cell? ⟨b,158,none⟩=some (vI s.n):=h.facts.2.2.2.2.2.2.2.2.2.2.2.2.2.2.1
 have x5:w.cell? ⟨b,159,none⟩=some (.slice aa la ca):=by rw[h.facts.2.2.2.2.2.2.2.2.2.2.2.2.2.2.2.1,ha]
 have x6:w.cell? ⟨b,160,none⟩=some (.slice ra lr cr):=by rw[h.facts.2.2.2.2.2.2.2.2.2.2.2.2.2.2.2.2.1,hr]
 rw[z1] at x2
 rw[z2] at x3
 have z4':la=0:=by rw[← z4,ha];rfl
 subst z4'
 have z5':lr=0:=by rw[← z5,hr];rfl
 subst z5'
 clear h ha hr
 go_enter Tryd.func93,Tryd.ntmps93
 go_wp2_with fail
 go_ret
 exact⟨rfl,rfl⟩
end Go.Proofs.YtingenonbkencaaDoor
