import Derived.Laws.Bits64b
import Derived.WalkKit
import Derived.Test.YtdkijecnnmncnaaGreatDoorProg
import Derived.WalkLawsBesides
import Derived.StillTailTactics
import Derived.Deep.RegionWith
set_option linter.unusedVariables false
set_option linter.unusedSimpArgs false
namespace Go.Proofs.YtdkijecnnmncnaaGreatDoor
open Go.RowKit (wrap32 wrap64)
def Hd (p:Prop):Prop:=p
theorem Hd.out {p:Prop}(h:Hd p):p:=h
theorem within_any (n l m:Int)(w:World) :
 Calls Tryz.prog 183 #[.int .i64 n,.int .i64 l,.int .i64 m] w fun e w'=>e = .returned (.bool (decide (l≤n∧n≤m)))∧w'=w:=by
 by_cases h:l≤n
 ·have h':decide (l≤n)=true:=by simpa using h
  go_enter Tryz.func183,Tryz.ntmps183
  go_wp2
  go_ret
  exact⟨by simp[h],rfl⟩
 ·have h':decide (l≤n)=false:=by simpa using h
  go_enter Tryz.func183,Tryz.ntmps183
  go_wp2
  go_ret
  exact⟨by simp,rfl⟩
theorem must_true (e:Int)(at':Int)(w:World) :
 Calls Tryz.prog 182 #[.bool true,.int .i64 e,.int .i64 at'] w fun e w'=>e = .returned (.tuple #[])∧w'=w:=by
 have hnot:∀ (x:Bool) (w:World),(Op.unary .not (.bool x)).run Tryz.prog w = .ok (.bool (!x)) w:=fun _ _=>rfl
 go_enter Tryz.func182,Tryz.ntmps182
 go_wp2
 go_end0
 exact⟨rfl,rfl⟩
theorem must_false (e:Int)(at':Int)(w:World) :
 Calls Tryz.prog 182 #[.bool false,.int .i64 e,.int .i64 at'] w fun e' w'=>e' = .panicked [{ v:=.iface 154 (.agg #[.int .i64 e,.int .i64 at']),recovered:=false }]∧w'=w:=by
 have hnot:∀ (x:Bool) (w:World),(Op.unary .not (.bool x)).run Tryz.prog w = .ok (.bool (!x)) w:=fun _ _=>rfl
 go_enter Tryz.func182,Tryz.ntmps182
 go_wp2
 exact⟨rfl,rfl,rfl⟩
abbrev viol (er at':Int):List PanicEntry:=[{ v:=.iface 154 (.agg #[.int .i64 er,.int .i64 at']),recovered:=false }]
end Go.Proofs.YtdkijecnnmncnaaGreatDoor
