/-
  What the laws of values that stay ask.
-/
import Derived.Test.YtikoddlidhefpaaJ10
import Derived.Test.YtikoddlidhefpaaJ11
import Derived.Test.YtikoddlidhefpaaDeepEq
namespace Go.Proofs.Ytikoddlidhefpaa
end Go.Proofs.Ytikoddlidhefpaa
