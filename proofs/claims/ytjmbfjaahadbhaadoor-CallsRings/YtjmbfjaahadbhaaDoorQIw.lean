import Derived.Test.YtjmbfjaahadbhaaDoorQA3J
import Derived.IntWalk
set_option linter.unusedVariables false
set_option linter.unusedSimpArgs false
namespace Go.Proofs.YtjmbfjaahadbhaaDoor
open Go.RowKit (wrap32 wrap64)
theorem w64s (x : Int) (h : -1000000000000000000 ≤ x) (h' : x ≤ 1000000000000000000) : wrap64 x = x := by
  unfold wrap64
  omega
end Go.Proofs.YtjmbfjaahadbhaaDoor
