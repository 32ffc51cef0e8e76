/-
  What the laws of values that stay ask.
-/
import Derived.Test.YtikoddlidhefpaaLawB
import Derived.Test.YtikoddlidhefpaaKpt
import Derived.Test.YtikoddlidhefpaaDeepEq
namespace Go.Proofs.Ytikoddlidhefpaa
end Go.Proofs.Ytikoddlidhefpaa
