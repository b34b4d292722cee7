import Derived.Test.YtlmlmhinbkcpoaaDoorQEjJ
import Derived.Test.YtlmlmhinbkcpoaaDoorQLhJ
import Derived.Test.YtlmlmhinbkcpoaaDoorQQ9J
namespace Go.Proofs.YtlmlmhinbkcpoaaDoor
open Go.RowKit (wrap32 wrap64)
set_option linter.unusedVariables false
set_option linter.unusedSimpArgs false

abbrev caseO (G : Int) (fv : Value) (F : Int) (sv : Value) : Obj := .cells #[vI G, fv, vI F, sv] 27

end Go.Proofs.YtlmlmhinbkcpoaaDoor
