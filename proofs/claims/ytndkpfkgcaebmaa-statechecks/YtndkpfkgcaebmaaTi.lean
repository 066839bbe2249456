/-
  The document's Check, May and Where, of whatever state that is not great.
-/
import Derived.Test.YtndkpfkgcaebmaaTh
import Derived.Test.YtndkpfkgcaebmaaRw
import Derived.Test.YtndkpfkgcaebmaaSz
namespace Go.Proofs.Ytndkpfkgcaebmaa
open Go.RowKit

namespace ST
theorem thingsOk (s : Stt) (hsm : Small s) (hfl : (flat s).length ≤ 4294967296) : ThingsOk s := by
  intro v w hs
  cases hb : sizesB s
  · exact things_bad s hsm hb v w hs
  · exact things_good s hsm hfl hb v w hs
end ST
end Go.Proofs.Ytndkpfkgcaebmaa
