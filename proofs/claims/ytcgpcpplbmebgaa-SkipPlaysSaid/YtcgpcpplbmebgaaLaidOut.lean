/-
  The program's types are laid out. No condition.
-/
import Derived.Test.YtcgpcpplbmebgaaKit
import Derived.Test.YtcgpcpplbmebgaaRows
import Derived.ChangeSame
import Derived.ProofKit
import Derived.SizedLaws
namespace Go.Proofs.Ytcgpcpplbmebgaa
open Go Go.RowKit Go.ChangeShapes
theorem laid_out : laidOutB Try.prog = true := by kernel_rfl
end Go.Proofs.Ytcgpcpplbmebgaa
