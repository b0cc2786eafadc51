/-
  The contracts of sum.More, sum.Of and of the document's own: each answers the plain mathematics' check sum. Condition: a text of a length that there is.
-/
import Derived.Test.YtccdbodemoefkaaDoorSumClo
import Derived.Shelf.Abstract
import Derived.Test.YtccdbodemoefkaaDoorKit
namespace Go.Proofs.YtccdbodemoefkaaDoor
set_option maxRecDepth 100000
open Go.RowKit
abbrev bytesOf (s : ByteArray) : List UInt8 := s.data.toList
end Go.Proofs.YtccdbodemoefkaaDoor
