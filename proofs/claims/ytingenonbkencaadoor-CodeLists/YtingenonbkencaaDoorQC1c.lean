import Derived.Test.YtingenonbkencaaDoorQA3J
set_option linter.unusedVariables false
set_option linter.unusedSimpArgs false
namespace Go.Proofs.YtingenonbkencaaDoor
open Go.RowKit (wrap32 wrap64)
set_option maxRecDepth 100000
set_option maxHeartbeats 1000000
theorem namesAll_13 {b:Nat}(s:WS)(w:World)(h:Lies w b s)(aa ra:Option Addr)(la ca lr cr:Nat)(ha:s.args = .slice aa la ca)(hr:s.rets = .slice ra lr cr)(z0:s.r=0)(z1:s.s=0)(z2:s.t=0)(z4:lenOf s.args=0)(z5:lenOf s.rets=0) :
 Calls Tryd.prog 93 #[.pointer (some ⟨b,106,none⟩),.pointer (some ⟨b,154,none⟩)] w fun e w'=>e = .returned (.bool true)∧w'=w:=by
 have q1:=run_neq81_f;have q2:=run_neq81_n;have q3:=run_neq82_f;have q4:=run_neq82_n
 have r0:w.cell? ⟨b,106,none⟩=some vN:=by rw[h.cell];kernel_rfl
 have r1:w.cell? ⟨b,107,none⟩=some vN:=by rw[h.cell];kernel_rfl
 have r2:w.cell? ⟨b,108,none⟩=some vN:=by rw[h.cell];kernel_rfl
 have r3:w.cell? ⟨b,109,none⟩=some (vF 88):=by rw[h.cell];kernel_rfl
 have r4:w.cell? ⟨b,110,none⟩=some vN:=by rw[h.cell];kernel_rfl
 have r5:w.cell? ⟨b,111,none⟩=some vN:=by rw[h.cell];kernel_rfl
 have x1:w.cell? ⟨b,155,none⟩=some (vI s.r):=h.facts.2.2.2.2.2.2.2.2.2.2.2.1
 have x2:w.cell? ⟨b,156,none⟩=some (vI s.s):=h.facts.2.2.2.2.2.2.2.2.2.2.2.2.1
 have x3:w.cell? ⟨b,157,none⟩=some (vI s.t):=h.facts.2.2.2.2.2.2.2.2.2.2.2.2.2.1
 have x4:w.cell? ⟨b,158,none⟩=some (vI s.n):=h.facts.2.2.2.2.2.2.2.2.2.2.2.2.2.2.1
 have x5:w.cell? ⟨b,159,none⟩=some (.slice aa la ca):=by rw[h.facts.2.2.2.2.2.2.2.2.2.2.2.2.2.2.2.1,ha]
 have x6:w.cell? ⟨b,160,none⟩=some (.slice ra lr cr):=by rw[h.facts.2.2.2.2.2.2.2.2.2.2.2.2.2.2.2.2.1,hr]
 rw[z0] at x1
 rw[z1] at x2
 rw[z2] at x3
 have z4':la=0:=by rw[← z4,ha];rfl
 subst z4'
 have z5':lr=0:=by rw[← z5,hr];rfl
 subst z5'
 clear h ha hr
 go_enter Tryd.func93,Tryd.ntmps93
 go_wp2_with fail
 go_ret
 exact⟨rfl,rfl⟩
theorem namesAll_14 {b:Nat}(s:WS)(w:World)(h:Lies w b s)(aa ra:Option Addr)(la ca lr cr:Nat)(ha:s.args = .slice aa la ca)(hr:s.rets = .slice ra lr cr)(z0:s.r=0)(z2:s.t=0)(z4:lenOf s.args=0)(z5:lenOf s.rets=0) :
 Calls Tryd.prog 93 #[.pointer (some ⟨b,114,none⟩),.pointer (some ⟨b,154,none⟩)] w fun e w'=>e = .returned (.bool true)∧w'=w:=by
 have q1:=run_neq81_f;have q2:=run_neq81_n;have q3:=run_neq82_f;have q4:=run_neq82_n
 have r0:w.cell? ⟨b,114,none⟩=some vN:=by rw[h.cell];kernel_rfl
 have r1:w.cell? ⟨b,115,none⟩=some (vF 80):=by rw[h.cell];kernel_rfl
 have r2:w.cell? ⟨b,116,none⟩=some vN:=by rw[h.cell];kernel_rfl
 have r3:w.cell? ⟨b,117,none⟩=some (vF 88):=by rw[h.cell];kernel_rfl
 have r4:w.cell? ⟨b,118,none⟩=some vN:=by rw[h.cell];kernel_rfl
 have r5:w.cell? ⟨b,119,none⟩=some vN:=by rw[h.cell];kernel_rfl
 have x1:w.cell? ⟨b,155,none⟩=some (vI s.r):=h.facts.2.2.2.2.2.2.2.2.2.2.2.1
 have x2:w.cell? ⟨b,156,none⟩=some (vI s.s):=h.facts.2.2.2.2.2.2.2.2.2.2.2.2.1
 have x3:w.cell? ⟨b,157,none⟩=some (vI s.t):=h.facts.2.2.2.2.2.2.2.2.2.2.2.2.2.1
 have x4:w.cell? ⟨b,158,none⟩=some (vI s.n):=h.facts.2.2.2.2.2.2.2.2.2.2.2.2.2.2.1
 have x5:w.cell? ⟨b,159,none⟩=some (.slice aa la ca):=by rw[h.facts.2.2.2.2.2.2.2.2.2.2.2.2.2.2.2.1,ha]
 have x6:w.cell? ⟨b,160,none⟩=some (.slice ra lr cr):=by rw[h.facts.2.2.2.2.2.2.2.2.2.2.2.2.2.2.2.2.1,hr]
 rw[z0] at x1
 rw[z2] at x3
 have z4':la=0:=by rw[← z4,ha];rfl
 subst z4'
 have z5':lr=0:=by rw[← z5,hr];rfl
 subst z5'
 clear h ha hr
 go_enter Tryd.func93,Tryd.ntmps93
 go_wp2_with fail
 go_ret
 exact⟨rfl,rfl⟩
theorem namesAll_15 {b:Nat}(s:WS)(w:World)(h:Lies w b s)(aa ra:Option Addr)(la ca lr cr:Nat)(ha:s.args = .slice aa la ca)(hr:s.rets = .slice ra lr cr)(z0:s.r=0)(z1:s.s=0)(z2:s.t=0)(z3:s.n=0)(z5:lenOf s.rets=0) :
 Calls Tryd.prog 93 #[.pointer (some ⟨b,122,none⟩),.pointer (some ⟨b,154,none⟩)] w fun e w'=>e = .returned (.bool true)∧w'=w:=by
 have q1:=run_neq81_f;have q2:=run_neq81_n;have q3:=run_neq82_f;have q4:=run_neq82_n
 have r0:w.cell? ⟨b,122,none⟩=some vN:=by rw[h.cell];kernel_rfl
 have r1:w.cell? ⟨b,123,none⟩=some vN:=by rw[h.cell];kernel_rfl
 have r2:w.cell? ⟨b,124,none⟩=some vN:=by rw[h.cell];kernel_rfl
 have r3:w.cell? ⟨b,125,none⟩=some vN:=by rw[h.cell];kernel_rfl
 have r4:w.cell? ⟨b,126,none⟩=some (vF 89):=by rw[h.cell];kernel_rfl
 have r5:w.cell? ⟨b,127,none⟩=some vN:=by rw[h.cell];kernel_rfl
 have x1:w.cell? ⟨b,155,none⟩=some (vI s.r):=h.facts.2.2.2.2.2.2.2.2.2.2.2.1
 have x2:w.cell? ⟨b,156,none⟩=some (vI s.s):=h.facts.2.2.2.2.2.2.2.2.2.2.2.2.1
 have x3:w.cell? ⟨b,157,none⟩=some (vI s.t):=h.facts.2.2.2.2.2.2.2.2.2.2.2.2.2.1
 have x4:w.cell? ⟨b,158,none⟩=some (vI s.n):=h.facts.2.2.2.2.2.2.2.2.2.2.2.2.2.2.1
 have x5:w.cell? ⟨b,159,none⟩=some (.slice aa la ca):=by rw[h.facts.2.2.2.2.2.2.2.2.2.2.2.2.2.2.2.1,ha]
 have x6:w.cell? ⟨b,160,none⟩=some (.slice ra lr cr):=by rw[h.facts.2.2.2.2.2.2.2.2.2.2.2.2.2.2.2.2.1,hr]
 rw[z0] at x1
 rw[z1] at x2
 rw[z2] at x3
 rw[z3] at x4
 have z5':lr=0:=by rw[← z5,hr];rfl
 subst z5'
 clear h ha hr
 go_enter Tryd.func93,Tryd.ntmps93
 go_wp2_with fail
 go_ret
 exact⟨rfl,rfl⟩
theorem namesAll_16 {b:Nat}(s:WS)(w:World)(h:Lies w b s)(aa ra:Option Addr)(la ca lr cr:Nat)(ha:s.args = .slice aa la ca)(hr:s.rets = .slice ra lr cr)(z1:s.s=0)(z2:s.t=0)(z3:s.n=0)(z4:lenOf s.args=0)(z5:lenOf s.rets=0) :
 Calls Tryd.prog 93 #[.pointer (some ⟨b,130,none⟩),.pointer (some ⟨b,154,none⟩)] w fun e w'=>e = .returned (.bool true)∧w'=w:=by
 have q1:=run_neq81_f;have q2:=run_neq81_n;have q3:=run_neq82_f;have q4:=run_neq82_n
 have r0:w.cell? ⟨b,130,none⟩=some (vF 80):=by rw[h.cell];kernel_rfl
 have r1:w.cell? ⟨b,131,none⟩=some vN:=by rw[h.cell];kernel_rfl
 have r2:w.cell? ⟨b,132,none⟩=some vN:=by rw[h.cell];kernel_rfl
 have r3:w.cell? ⟨b,133,none⟩=some vN:=by rw[h.cell];kernel_rfl
 have r4:w.cell? ⟨b,134,none⟩=some vN:=by rw[h.cell];kernel_rfl
 have r5:w.cell? ⟨b,135,none⟩=some vN:=by rw[h.cell];kernel_rfl
 have x1:w.cell? ⟨b,155,none⟩=some (vI s.r):=h.facts.2.2.2.2.2.2.2.2.2.2.2.1
 have x2:w.cell? ⟨b,156,none⟩=some (vI s.s):=h.facts.2.2.2.2.2.2.2.2.2.2.2.2.1
 have x3:w.cell? ⟨b,157,none⟩=some (vI s.t):=h.facts.2.2.2.2.2.2.2.2.2.2.2.2.2.1
 have x4:w.cell? ⟨b,158,none⟩=some (vI s.n):=h.facts.2.2.2.2.2.2.2.2.2.2.2.2.2.2.1
 have x5:w.cell? ⟨b,159,none⟩=some (.slice aa la ca):=by rw[h.facts.2.2.2.2.2.2.2.2.2.2.2.2.2.2.2.1,ha]
 have x6:w.cell? ⟨b,160,none⟩=some (.slice ra lr cr):=by rw[h.facts.2.2.2.2.2.2.2.2.2.2.2.2.2.2.2.2.1,hr]
 rw[z1] at x2
 rw[z2] at x3
 rw[z3] at x4
 have z4':la=0:=by rw[← z4,ha];rfl
 subst z4'
 have z5':lr=0:=by rw[← z5,hr];rfl
 subst z5'
 clear h ha hr
 go_enter Tryd.func93,Tryd.ntmps93
 go_wp2_with fail
 go_ret
 exact⟨rfl,rfl⟩
theorem namesAll_17 {b:Nat}(s:WS)(w:World)(h:Lies w b s)(aa ra:Option Addr)(la ca lr cr:Nat)(ha:s.args = .slice aa la ca)(hr:s.rets = .slice ra lr cr)(z3:s.n=0)(z4:lenOf s.args=0)(z5:lenOf s.rets=0) :
 Calls Tryd.prog 93 #[.pointer (some ⟨b,138,none⟩),.pointer (some ⟨b,154,none⟩)] w fun e w'=>e = .returned (.bool true)∧w'=w:=by
 have q1:=run_neq81_f;have q2:=run_neq81_n;have q3:=run_neq82_f;have q4:=run_neq82_n
 have r0:w.cell? ⟨b,138,none⟩=some (vF 80):=by rw[h.cell];kernel_rfl
 have r1:w.cell? ⟨b,139,none⟩=some (vF 80):=by rw[h.cell];kernel_rfl
 have r2:w.cell? ⟨b,140,none⟩=some (vF 80):=by rw[h.cell];kernel_rfl
 have r3:w.cell? ⟨b,141,none⟩=some vN:=by rw[h.cell];kernel_rfl
 have r4:w.cell? ⟨b,142,none⟩=some vN:=by rw[h.cell];kernel_rfl
 have r5:w.cell? ⟨b,143,none⟩=some vN:=by rw[h.cell];kernel_rfl
 have x1:w.cell? ⟨b,155,none⟩=some (vI s.r):=h.facts.2.2.2.2.2.2.2.2.2.2.2.1
 have x2:w.cell? ⟨b,156,none⟩=some (vI s.s):=h.facts.2.2.2.2.2.2.2.2.2.2.2.2.1
 have x3:w.cell? ⟨b,157,none⟩=some (vI s.t):=h.facts.2.2.2.2.2.2.2.2.2.2.2.2.2.1
 have x4:w.cell? ⟨b,158,none⟩=some (vI s.n):=h.facts.2.2.2.2.2.2.2.2.2.2.2.2.2.2.1
 have x5:w.cell? ⟨b,159,none⟩=some (.slice aa la ca):=by rw[h.facts.2.2.2.2.2.2.2.2.2.2.2.2.2.2.2.1,ha]
 have x6:w.cell? ⟨b,160,none⟩=some (.slice ra lr cr):=by rw[h.facts.2.2.2.2.2.2.2.2.2.2.2.2.2.2.2.2.1,hr]
 rw[z3] at x4
 have z4':la=0:=by rw[← z4,ha];rfl
 subst z4'
 have z5':lr=0:=by rw[← z5,hr];rfl
 subst z5'
 clear h ha hr
 go_enter Tryd.func93,Tryd.ntmps93
 go_wp2_with fail
 go_ret
 exact⟨rfl,rfl⟩
end Go.Proofs.YtingenonbkencaaDoor
