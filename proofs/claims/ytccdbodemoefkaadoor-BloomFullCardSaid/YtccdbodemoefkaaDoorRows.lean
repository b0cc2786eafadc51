/-
  NARROWER THAN 'FOR EVERY INPUT', by the rows' own cells (each row's printed sentence says how): BloomHas: laid · BloomAll: laid · BloomFull: laid.
  DERIVED. THE GIVEN ROWS OF THIS SEAT. 3 by the template 'for every input the law returns true; each argument reads behind the call as it read before'; 0 by the template 'total and deterministic' (their statements: YtccdbodemoefkaaDoorTotals.lean).
  GIVEN WITH THE SEED: the statements are not yours to turn. If you find one false, say at which input.
  Laid BY PROGRAM, IN A SANDBOX (cutbox-rows.mjs): the forced cells as the released guide's own fill.sh prints them over the translation bac6915aa437174b… (all of the seat's roots in one cut). By AI agents, Wed Nov 11 2026. No macro, syntax, notation, axiom, sorry.
-/
import Derived.Test.YtccdbodemoefkaaDoorChecked
import GoSem.Claim
import GoSem.ClaimJoined
import GoSem.ClaimMapViews
import Derived.JoinedTies
import Derived.KernelRfl
namespace Go.Proofs.YtccdbodemoefkaaDoor
/- THE CELL 'sum', in the pinned program and in every row, IS THE sha256 OF THE DUMP (.gsa) THAT YtccdbodemoefkaaDoorProg.lean LOADS. Nothing in Lean hashes anything: it is a label: what it is worth is what the hold of that sum in a sandbox is worth. -/
noncomputable def Tryd.pinned : Pinned := { name := "ytccdbodemoefkaadoor", sum := "bac6915aa437174bfcb6f97a4e3b40b45b045e76004bd6a740887c27d46be436", checked := Tryd.checked }
namespace Rows
def none {H : Type} : Left H := { results := [], args := [] }

/- WHAT THE LISTED PACKAGE-LEVEL VARIABLES READ AS WHEN THE CALL BEGINS. Each datum BY PROGRAM (the guide's laid-datum.mjs) off the statement by which the dump's own 'gosem.cut.vars' lays the variable. In a bare row this is a premise. The card (YtccdbodemoefkaaDoorCards.lean) ties it to the program's text. -/
def laid_freshet_bloom_counts {H : Type} : DataW H := .agg [.lit (.int .i64 0), .lit (.int .i64 1), .lit (.int .i64 1), .lit (.int .i64 2), .lit (.int .i64 1), .lit (.int .i64 2), .lit (.int .i64 2), .lit (.int .i64 3), .lit (.int .i64 1), .lit (.int .i64 2), .lit (.int .i64 2), .lit (.int .i64 3), .lit (.int .i64 2), .lit (.int .i64 3), .lit (.int .i64 3), .lit (.int .i64 4)]

/-- 'freshetlaw10.BloomHas': WHATEVER THE INPUT: true; the input reads as it did. -/
def bloomHasSpec : ChangeSpec := { name := "bloomHas", fn := fun _ => fun
  | [d1, d2] => { results := [.lit (.bool true)], args := [d1, d2] }
  | _ => none }
def bloomHasRow : OpenClaim := { program := "ytccdbodemoefkaadoor", sum := "bac6915aa437174bfcb6f97a4e3b40b45b045e76004bd6a740887c27d46be436", func := "freshet/freshetlaw10.BloomHas", spec := "bloomHas", unfollowed := true, recurses := true, named := ["freshet/bloom.counts"], apart := false, laid := [("freshet/bloom.counts", laid_freshet_bloom_counts)] }
def BloomHasSaid : Prop := bloomHasRow.holds Tryd.pinned (OpenSpec.ofChange bloomHasSpec)

/-- ITS FALSE NEIGHBOUR: 'it returns false'. Refute it at one input. -/
def bloomHasWrong : ChangeSpec := { name := "bloomHas", fn := fun _ => fun
  | [d1, d2] => { results := [.lit (.bool false)], args := [d1, d2] }
  | _ => none }
def BloomHasWrongFalsely : Prop := bloomHasRow.holds Tryd.pinned (OpenSpec.ofChange bloomHasWrong)

/-- 'freshetlaw10.BloomAll': WHATEVER THE INPUT: true; the input reads as it did. -/
def bloomAllSpec : ChangeSpec := { name := "bloomAll", fn := fun _ => fun
  | [d1, d2] => { results := [.lit (.bool true)], args := [d1, d2] }
  | _ => none }
def bloomAllRow : OpenClaim := { program := "ytccdbodemoefkaadoor", sum := "bac6915aa437174bfcb6f97a4e3b40b45b045e76004bd6a740887c27d46be436", func := "freshet/freshetlaw10.BloomAll", spec := "bloomAll", unfollowed := true, recurses := true, named := ["freshet/bloom.counts"], apart := false, laid := [("freshet/bloom.counts", laid_freshet_bloom_counts)] }
def BloomAllSaid : Prop := bloomAllRow.holds Tryd.pinned (OpenSpec.ofChange bloomAllSpec)

/-- ITS FALSE NEIGHBOUR: 'it returns false'. Refute it at one input. -/
def bloomAllWrong : ChangeSpec := { name := "bloomAll", fn := fun _ => fun
  | [d1, d2] => { results := [.lit (.bool false)], args := [d1, d2] }
  | _ => none }
def BloomAllWrongFalsely : Prop := bloomAllRow.holds Tryd.pinned (OpenSpec.ofChange bloomAllWrong)

/-- 'freshetlaw10.BloomFull': WHATEVER THE INPUT: true; the input reads as it did. -/
def bloomFullSpec : ChangeSpec := { name := "bloomFull", fn := fun _ => fun
  | [d1, d2, d3] => { results := [.lit (.bool true)], args := [d1, d2, d3] }
  | _ => none }
def bloomFullRow : OpenClaim := { program := "ytccdbodemoefkaadoor", sum := "bac6915aa437174bfcb6f97a4e3b40b45b045e76004bd6a740887c27d46be436", func := "freshet/freshetlaw10.BloomFull", spec := "bloomFull", unfollowed := true, recurses := true, named := ["freshet/bloom.counts"], apart := false, laid := [("freshet/bloom.counts", laid_freshet_bloom_counts)] }
def BloomFullSaid : Prop := bloomFullRow.holds Tryd.pinned (OpenSpec.ofChange bloomFullSpec)

/-- ITS FALSE NEIGHBOUR: 'it returns false'. Refute it at one input. -/
def bloomFullWrong : ChangeSpec := { name := "bloomFull", fn := fun _ => fun
  | [d1, d2, d3] => { results := [.lit (.bool false)], args := [d1, d2, d3] }
  | _ => none }
def BloomFullWrongFalsely : Prop := bloomFullRow.holds Tryd.pinned (OpenSpec.ofChange bloomFullWrong)

/- THE SECOND FORM. 'bulk': how many values and letters a reading holds, each counted each time it is reached (what is shared counts as often as it is met; a slice's spare places count too). A statement '..UptoSaid' is the law's where the arguments, and the package variables that the reading takes, are together of bulk at most 1048576: NARROWER than '..Said'. Prove '..Said' where nothing that the law and all that it calls make is longer than what came in: it says more and counts as full. Else prove '..UptoSaid'. A law counts once. -/
mutual
def uptoBulk {H : Type} : DataW H → Nat
  | .lit (.string bytes) => bytes.length + 1
  | .lit _ => 1
  | .nil => 1
  | .ptr d => uptoBulk d + 1
  | .slice elems spare => uptoBulkAll elems + uptoBulkAll spare + 1
  | .agg parts => uptoBulkAll parts + 1
  | .iface _ d => uptoBulk d + 1
  | .map entries => uptoBulkEntries entries + 1
  | .held _ => 1
def uptoBulkAll {H : Type} : List (DataW H) → Nat
  | [] => 0
  | d :: r => uptoBulk d + uptoBulkAll r
def uptoBulkEntries {H : Type} : List (Lit × DataW H) → Nat
  | [] => 0
  | x :: r => uptoBulkEntry x + uptoBulkEntries r
def uptoBulkEntry {H : Type} : Lit × DataW H → Nat
  | (.string bytes, d) => bytes.length + uptoBulk d + 1
  | (_, d) => uptoBulk d + 1
 end
def uptoSmall : (H : Type) → List (DataW H) → Bool := fun _ ds => decide (uptoBulkAll ds ≤ 1048576)
def OpenSpec.upto (s : _root_.Go.ChangeSpec) : _root_.Go.OpenSpec := { _root_.Go.OpenSpec.ofChange s with cond := some uptoSmall }

/-- 'freshetlaw10.BloomHas', WHERE WHAT IT READS IS OF BULK AT MOST 1048576: true; the input reads as it did. -/
def bloomHasUptoRow : OpenClaim := { program := "ytccdbodemoefkaadoor", sum := "bac6915aa437174bfcb6f97a4e3b40b45b045e76004bd6a740887c27d46be436", func := "freshet/freshetlaw10.BloomHas", spec := "bloomHas", unfollowed := true, recurses := true, named := ["freshet/bloom.counts"], apart := false, laid := [("freshet/bloom.counts", laid_freshet_bloom_counts)], narrowed := true }
def BloomHasUptoSaid : Prop := bloomHasUptoRow.holds Tryd.pinned (OpenSpec.upto bloomHasSpec)

/-- 'freshetlaw10.BloomAll', WHERE WHAT IT READS IS OF BULK AT MOST 1048576: true; the input reads as it did. -/
def bloomAllUptoRow : OpenClaim := { program := "ytccdbodemoefkaadoor", sum := "bac6915aa437174bfcb6f97a4e3b40b45b045e76004bd6a740887c27d46be436", func := "freshet/freshetlaw10.BloomAll", spec := "bloomAll", unfollowed := true, recurses := true, named := ["freshet/bloom.counts"], apart := false, laid := [("freshet/bloom.counts", laid_freshet_bloom_counts)], narrowed := true }
def BloomAllUptoSaid : Prop := bloomAllUptoRow.holds Tryd.pinned (OpenSpec.upto bloomAllSpec)

/-- 'freshetlaw10.BloomFull', WHERE WHAT IT READS IS OF BULK AT MOST 1048576: true; the input reads as it did. -/
def bloomFullUptoRow : OpenClaim := { program := "ytccdbodemoefkaadoor", sum := "bac6915aa437174bfcb6f97a4e3b40b45b045e76004bd6a740887c27d46be436", func := "freshet/freshetlaw10.BloomFull", spec := "bloomFull", unfollowed := true, recurses := true, named := ["freshet/bloom.counts"], apart := false, laid := [("freshet/bloom.counts", laid_freshet_bloom_counts)], narrowed := true }
def BloomFullUptoSaid : Prop := bloomFullUptoRow.holds Tryd.pinned (OpenSpec.upto bloomFullSpec)

end Rows
end Go.Proofs.YtccdbodemoefkaaDoor
