/-
  The program's types are laid out. No condition.
-/
import Derived.Test.YtccdbodemoefkaaDoorKit
import Derived.Test.YtccdbodemoefkaaDoorRows
import Derived.ChangeSame
import Derived.ProofKit
import Derived.SizedLaws
namespace Go.Proofs.YtccdbodemoefkaaDoor
set_option maxRecDepth 100000
open Go Go.RowKit Go.ChangeShapes
theorem laid_out : laidOutB Tryd.prog = true := by kernel_rfl
end Go.Proofs.YtccdbodemoefkaaDoor
