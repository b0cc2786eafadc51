/-
  The program's types are laid out. No condition.
-/
import Derived.Test.YthkdijapmamdbaaKit
import Derived.Test.YthkdijapmamdbaaRows
import Derived.ChangeSame
import Derived.ProofKit
import Derived.SizedLaws
namespace Go.Proofs.Ythkdijapmamdbaa
set_option maxRecDepth 100000
open Go Go.RowKit Go.ChangeShapes
theorem laid_out : laidOutB Try.prog = true := by kernel_rfl
end Go.Proofs.Ythkdijapmamdbaa
