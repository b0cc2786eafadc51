/-
  The program's types are laid out. No condition.
-/
import Derived.Test.YtkkedofbnmjgeaaKit
import Derived.Test.YtkkedofbnmjgeaaRows
import Derived.ChangeSame
import Derived.ProofKit
import Derived.SizedLaws
namespace Go.Proofs.Ytkkedofbnmjgeaa
set_option maxRecDepth 100000
open Go Go.RowKit Go.ChangeShapes
theorem laid_out : laidOutB Try.prog = true := by kernel_rfl
end Go.Proofs.Ytkkedofbnmjgeaa
