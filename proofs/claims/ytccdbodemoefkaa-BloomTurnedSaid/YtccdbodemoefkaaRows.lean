/-
  No cell of these rows narrows 'for every input' (looked for: loops, veiled, ifaces, maps, wideKeys, modest, calm, conditions, laid).
  DERIVED. THE GIVEN ROWS OF THIS SEAT. 3 by the template 'for every input the law returns true; each argument reads behind the call as it read before'; 0 by the template 'total and deterministic' (their statements: YtccdbodemoefkaaTotals.lean).
  GIVEN WITH THE SEED: the statements are not yours to turn. If you find one false, say at which input.
  Laid BY PROGRAM, IN A SANDBOX (cutbox-rows.mjs): the forced cells as the released guide's own fill.sh prints them over the translation bb4c6773d2afd33f… (all of the seat's roots in one cut). By AI agents, Wed Nov 11 2026. No macro, syntax, notation, axiom, sorry.
-/
import Derived.Test.YtccdbodemoefkaaChecked
import GoSem.Claim
import GoSem.ClaimJoined
import GoSem.ClaimMapViews
import Derived.JoinedTies
import Derived.KernelRfl
namespace Go.Proofs.Ytccdbodemoefkaa
/- THE CELL 'sum', in the pinned program and in every row, IS THE sha256 OF THE DUMP (.gsa) THAT YtccdbodemoefkaaProg.lean LOADS. Nothing in Lean hashes anything: it is a label: what it is worth is what the hold of that sum in a sandbox is worth. -/
noncomputable def Try.pinned : Pinned := { name := "ytccdbodemoefkaa", sum := "bb4c6773d2afd33fcbb7c63ac170ed5352fe0480c6a99b7178cbf4ec9f189a5a", checked := Try.checked }
namespace Rows
def none {H : Type} : Left H := { results := [], args := [] }

/-- 'freshetlaw10.BloomMake': WHATEVER THE INPUT: true; the input reads as it did. -/
def bloomMakeSpec : ChangeSpec := { name := "bloomMake", fn := fun _ => fun
  | [d1, d2] => { results := [.lit (.bool true)], args := [d1, d2] }
  | _ => none }
def bloomMakeRow : OpenClaim := { program := "ytccdbodemoefkaa", sum := "bb4c6773d2afd33fcbb7c63ac170ed5352fe0480c6a99b7178cbf4ec9f189a5a", func := "freshet/freshetlaw10.BloomMake", spec := "bloomMake", unfollowed := true, recurses := true, apart := false }
def BloomMakeSaid : Prop := bloomMakeRow.holds Try.pinned (OpenSpec.ofChange bloomMakeSpec)

/-- ITS FALSE NEIGHBOUR: 'it returns false'. Refute it at one input. -/
def bloomMakeWrong : ChangeSpec := { name := "bloomMake", fn := fun _ => fun
  | [d1, d2] => { results := [.lit (.bool false)], args := [d1, d2] }
  | _ => none }
def BloomMakeWrongFalsely : Prop := bloomMakeRow.holds Try.pinned (OpenSpec.ofChange bloomMakeWrong)

/-- 'freshetlaw10.BloomTurned': WHATEVER THE INPUT: true; the input reads as it did. -/
def bloomTurnedSpec : ChangeSpec := { name := "bloomTurned", fn := fun _ => fun
  | [d1, d2, d3] => { results := [.lit (.bool true)], args := [d1, d2, d3] }
  | _ => none }
def bloomTurnedRow : OpenClaim := { program := "ytccdbodemoefkaa", sum := "bb4c6773d2afd33fcbb7c63ac170ed5352fe0480c6a99b7178cbf4ec9f189a5a", func := "freshet/freshetlaw10.BloomTurned", spec := "bloomTurned", unfollowed := true, recurses := true, apart := false }
def BloomTurnedSaid : Prop := bloomTurnedRow.holds Try.pinned (OpenSpec.ofChange bloomTurnedSpec)

/-- ITS FALSE NEIGHBOUR: 'it returns false'. Refute it at one input. -/
def bloomTurnedWrong : ChangeSpec := { name := "bloomTurned", fn := fun _ => fun
  | [d1, d2, d3] => { results := [.lit (.bool false)], args := [d1, d2, d3] }
  | _ => none }
def BloomTurnedWrongFalsely : Prop := bloomTurnedRow.holds Try.pinned (OpenSpec.ofChange bloomTurnedWrong)

/-- 'freshetlaw10.BloomSize': WHATEVER THE INPUT: true; the input reads as it did. -/
def bloomSizeSpec : ChangeSpec := { name := "bloomSize", fn := fun _ => fun
  | [d1, d2] => { results := [.lit (.bool true)], args := [d1, d2] }
  | _ => none }
def bloomSizeRow : OpenClaim := { program := "ytccdbodemoefkaa", sum := "bb4c6773d2afd33fcbb7c63ac170ed5352fe0480c6a99b7178cbf4ec9f189a5a", func := "freshet/freshetlaw10.BloomSize", spec := "bloomSize", unfollowed := true, recurses := true, apart := false }
def BloomSizeSaid : Prop := bloomSizeRow.holds Try.pinned (OpenSpec.ofChange bloomSizeSpec)

/-- ITS FALSE NEIGHBOUR: 'it returns false'. Refute it at one input. -/
def bloomSizeWrong : ChangeSpec := { name := "bloomSize", fn := fun _ => fun
  | [d1, d2] => { results := [.lit (.bool false)], args := [d1, d2] }
  | _ => none }
def BloomSizeWrongFalsely : Prop := bloomSizeRow.holds Try.pinned (OpenSpec.ofChange bloomSizeWrong)

/- THE SECOND FORM. 'bulk': how many values and letters a reading holds, each counted each time it is reached (what is shared counts as often as it is met; a slice's spare places count too). A statement '..UptoSaid' is the law's where the arguments, and the package variables that the reading takes, are together of bulk at most 1048576: NARROWER than '..Said'. Prove '..Said' where nothing that the law and all that it calls make is longer than what came in: it says more and counts as full. Else prove '..UptoSaid'. A law counts once. -/
mutual
def uptoBulk {H : Type} : DataW H → Nat
  | .lit (.string bytes) => bytes.length + 1
  | .lit _ => 1
  | .nil => 1
  | .ptr d => uptoBulk d + 1
  | .slice elems spare => uptoBulkAll elems + uptoBulkAll spare + 1
  | .agg parts => uptoBulkAll parts + 1
  | .iface _ d => uptoBulk d + 1
  | .map entries => uptoBulkEntries entries + 1
  | .held _ => 1
def uptoBulkAll {H : Type} : List (DataW H) → Nat
  | [] => 0
  | d :: r => uptoBulk d + uptoBulkAll r
def uptoBulkEntries {H : Type} : List (Lit × DataW H) → Nat
  | [] => 0
  | x :: r => uptoBulkEntry x + uptoBulkEntries r
def uptoBulkEntry {H : Type} : Lit × DataW H → Nat
  | (.string bytes, d) => bytes.length + uptoBulk d + 1
  | (_, d) => uptoBulk d + 1
 end
def uptoSmall : (H : Type) → List (DataW H) → Bool := fun _ ds => decide (uptoBulkAll ds ≤ 1048576)
def OpenSpec.upto (s : _root_.Go.ChangeSpec) : _root_.Go.OpenSpec := { _root_.Go.OpenSpec.ofChange s with cond := some uptoSmall }

/-- 'freshetlaw10.BloomMake', WHERE WHAT IT READS IS OF BULK AT MOST 1048576: true; the input reads as it did. -/
def bloomMakeUptoRow : OpenClaim := { program := "ytccdbodemoefkaa", sum := "bb4c6773d2afd33fcbb7c63ac170ed5352fe0480c6a99b7178cbf4ec9f189a5a", func := "freshet/freshetlaw10.BloomMake", spec := "bloomMake", unfollowed := true, recurses := true, apart := false, narrowed := true }
def BloomMakeUptoSaid : Prop := bloomMakeUptoRow.holds Try.pinned (OpenSpec.upto bloomMakeSpec)

/-- 'freshetlaw10.BloomTurned', WHERE WHAT IT READS IS OF BULK AT MOST 1048576: true; the input reads as it did. -/
def bloomTurnedUptoRow : OpenClaim := { program := "ytccdbodemoefkaa", sum := "bb4c6773d2afd33fcbb7c63ac170ed5352fe0480c6a99b7178cbf4ec9f189a5a", func := "freshet/freshetlaw10.BloomTurned", spec := "bloomTurned", unfollowed := true, recurses := true, apart := false, narrowed := true }
def BloomTurnedUptoSaid : Prop := bloomTurnedUptoRow.holds Try.pinned (OpenSpec.upto bloomTurnedSpec)

/-- 'freshetlaw10.BloomSize', WHERE WHAT IT READS IS OF BULK AT MOST 1048576: true; the input reads as it did. -/
def bloomSizeUptoRow : OpenClaim := { program := "ytccdbodemoefkaa", sum := "bb4c6773d2afd33fcbb7c63ac170ed5352fe0480c6a99b7178cbf4ec9f189a5a", func := "freshet/freshetlaw10.BloomSize", spec := "bloomSize", unfollowed := true, recurses := true, apart := false, narrowed := true }
def BloomSizeUptoSaid : Prop := bloomSizeUptoRow.holds Try.pinned (OpenSpec.upto bloomSizeSpec)

end Rows
end Go.Proofs.Ytccdbodemoefkaa
