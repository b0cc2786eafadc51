/-
  No cell of these rows narrows 'for every input' (looked for: loops, veiled, ifaces, maps, wideKeys, modest, calm, conditions, laid).
  DERIVED. THE GIVEN ROWS OF THIS SEAT. 5 by the template 'for every input the law returns true; each argument reads behind the call as it read before'; 0 by the template 'total and deterministic' (their statements: YtadbhajnlokkbaaTotals.lean).
  GIVEN WITH THE SEED: the statements are not yours to turn. If you find one false, say at which input.
  Laid BY PROGRAM, IN A SANDBOX (cutbox-rows.mjs): the forced cells as the released guide's own fill.sh prints them over the translation f4c7cefb2bab51b3… (all of the seat's roots in one cut). By AI agents, Wed Nov 11 2026. No macro, syntax, notation, axiom, sorry.
-/
import Derived.Test.YtadbhajnlokkbaaChecked
import GoSem.Claim
import GoSem.ClaimJoined
import GoSem.ClaimMapViews
import Derived.JoinedTies
import Derived.KernelRfl
namespace Go.Proofs.Ytadbhajnlokkbaa
/- THE CELL 'sum', in the pinned program and in every row, IS THE sha256 OF THE DUMP (.gsa) THAT YtadbhajnlokkbaaProg.lean LOADS. Nothing in Lean hashes anything: it is a label: what it is worth is what the hold of that sum in a sandbox is worth. -/
noncomputable def Try.pinned : Pinned := { name := "ytadbhajnlokkbaa", sum := "f4c7cefb2bab51b3ae9d49d42341eef249be53cedd1128b28cd82599b759b88d", checked := Try.checked }
namespace Rows
def none {H : Type} : Left H := { results := [], args := [] }

/-- 'freshetlaw08.SkipPlays': WHATEVER THE INPUT: true; the input reads as it did. -/
def skipPlaysSpec : ChangeSpec := { name := "skipPlays", fn := fun _ => fun
  | [d] => { results := [.lit (.bool true)], args := [d] }
  | _ => none }
def skipPlaysRow : OpenClaim := { program := "ytadbhajnlokkbaa", sum := "f4c7cefb2bab51b3ae9d49d42341eef249be53cedd1128b28cd82599b759b88d", func := "freshet/freshetlaw08.SkipPlays", spec := "skipPlays", unfollowed := true, recurses := true, apart := false }
def SkipPlaysSaid : Prop := skipPlaysRow.holds Try.pinned (OpenSpec.ofChange skipPlaysSpec)

/-- ITS FALSE NEIGHBOUR: 'it returns false'. Refute it at one input. -/
def skipPlaysWrong : ChangeSpec := { name := "skipPlays", fn := fun _ => fun
  | [d] => { results := [.lit (.bool false)], args := [d] }
  | _ => none }
def SkipPlaysWrongFalsely : Prop := skipPlaysRow.holds Try.pinned (OpenSpec.ofChange skipPlaysWrong)

/-- 'freshetlaw08.SkipNone': WHATEVER THE INPUT: true; the input reads as it did. -/
def skipNoneSpec : ChangeSpec := { name := "skipNone", fn := fun _ => fun
  | [d1, d2] => { results := [.lit (.bool true)], args := [d1, d2] }
  | _ => none }
def skipNoneRow : OpenClaim := { program := "ytadbhajnlokkbaa", sum := "f4c7cefb2bab51b3ae9d49d42341eef249be53cedd1128b28cd82599b759b88d", func := "freshet/freshetlaw08.SkipNone", spec := "skipNone", unfollowed := true, recurses := true, apart := false }
def SkipNoneSaid : Prop := skipNoneRow.holds Try.pinned (OpenSpec.ofChange skipNoneSpec)

/-- ITS FALSE NEIGHBOUR: 'it returns false'. Refute it at one input. -/
def skipNoneWrong : ChangeSpec := { name := "skipNone", fn := fun _ => fun
  | [d1, d2] => { results := [.lit (.bool false)], args := [d1, d2] }
  | _ => none }
def SkipNoneWrongFalsely : Prop := skipNoneRow.holds Try.pinned (OpenSpec.ofChange skipNoneWrong)

/-- 'freshetlaw08.SkipAny': WHATEVER THE INPUT: true; the input reads as it did. -/
def skipAnySpec : ChangeSpec := { name := "skipAny", fn := fun _ => fun
  | [d1, d2, d3] => { results := [.lit (.bool true)], args := [d1, d2, d3] }
  | _ => none }
def skipAnyRow : OpenClaim := { program := "ytadbhajnlokkbaa", sum := "f4c7cefb2bab51b3ae9d49d42341eef249be53cedd1128b28cd82599b759b88d", func := "freshet/freshetlaw08.SkipAny", spec := "skipAny", unfollowed := true, recurses := true, apart := false }
def SkipAnySaid : Prop := skipAnyRow.holds Try.pinned (OpenSpec.ofChange skipAnySpec)

/-- ITS FALSE NEIGHBOUR: 'it returns false'. Refute it at one input. -/
def skipAnyWrong : ChangeSpec := { name := "skipAny", fn := fun _ => fun
  | [d1, d2, d3] => { results := [.lit (.bool false)], args := [d1, d2, d3] }
  | _ => none }
def SkipAnyWrongFalsely : Prop := skipAnyRow.holds Try.pinned (OpenSpec.ofChange skipAnyWrong)

/-- 'freshetlaw08.SkipSteps': WHATEVER THE INPUT: true; the input reads as it did. -/
def skipStepsSpec : ChangeSpec := { name := "skipSteps", fn := fun _ => fun
  | [d1, d2, d3, d4] => { results := [.lit (.bool true)], args := [d1, d2, d3, d4] }
  | _ => none }
def skipStepsRow : OpenClaim := { program := "ytadbhajnlokkbaa", sum := "f4c7cefb2bab51b3ae9d49d42341eef249be53cedd1128b28cd82599b759b88d", func := "freshet/freshetlaw08.SkipSteps", spec := "skipSteps", unfollowed := true, recurses := true, apart := false }
def SkipStepsSaid : Prop := skipStepsRow.holds Try.pinned (OpenSpec.ofChange skipStepsSpec)

/-- ITS FALSE NEIGHBOUR: 'it returns false'. Refute it at one input. -/
def skipStepsWrong : ChangeSpec := { name := "skipSteps", fn := fun _ => fun
  | [d1, d2, d3, d4] => { results := [.lit (.bool false)], args := [d1, d2, d3, d4] }
  | _ => none }
def SkipStepsWrongFalsely : Prop := skipStepsRow.holds Try.pinned (OpenSpec.ofChange skipStepsWrong)

/-- 'freshetlaw08.SkipFrom': WHATEVER THE INPUT: true; the input reads as it did. -/
def skipFromSpec : ChangeSpec := { name := "skipFrom", fn := fun _ => fun
  | [d1, d2, d3, d4] => { results := [.lit (.bool true)], args := [d1, d2, d3, d4] }
  | _ => none }
def skipFromRow : OpenClaim := { program := "ytadbhajnlokkbaa", sum := "f4c7cefb2bab51b3ae9d49d42341eef249be53cedd1128b28cd82599b759b88d", func := "freshet/freshetlaw08.SkipFrom", spec := "skipFrom", unfollowed := true, recurses := true, apart := false }
def SkipFromSaid : Prop := skipFromRow.holds Try.pinned (OpenSpec.ofChange skipFromSpec)

/-- ITS FALSE NEIGHBOUR: 'it returns false'. Refute it at one input. -/
def skipFromWrong : ChangeSpec := { name := "skipFrom", fn := fun _ => fun
  | [d1, d2, d3, d4] => { results := [.lit (.bool false)], args := [d1, d2, d3, d4] }
  | _ => none }
def SkipFromWrongFalsely : Prop := skipFromRow.holds Try.pinned (OpenSpec.ofChange skipFromWrong)

/- THE SECOND FORM. 'bulk': how many values and letters a reading holds, each counted each time it is reached (what is shared counts as often as it is met; a slice's spare places count too). A statement '..UptoSaid' is the law's where the arguments, and the package variables that the reading takes, are together of bulk at most 1048576: NARROWER than '..Said'. Prove '..Said' where nothing that the law and all that it calls make is longer than what came in: it says more and counts as full. Else prove '..UptoSaid'. A law counts once. -/
mutual
def uptoBulk {H : Type} : DataW H → Nat
  | .lit (.string bytes) => bytes.length + 1
  | .lit _ => 1
  | .nil => 1
  | .ptr d => uptoBulk d + 1
  | .slice elems spare => uptoBulkAll elems + uptoBulkAll spare + 1
  | .agg parts => uptoBulkAll parts + 1
  | .iface _ d => uptoBulk d + 1
  | .map entries => uptoBulkEntries entries + 1
  | .held _ => 1
def uptoBulkAll {H : Type} : List (DataW H) → Nat
  | [] => 0
  | d :: r => uptoBulk d + uptoBulkAll r
def uptoBulkEntries {H : Type} : List (Lit × DataW H) → Nat
  | [] => 0
  | x :: r => uptoBulkEntry x + uptoBulkEntries r
def uptoBulkEntry {H : Type} : Lit × DataW H → Nat
  | (.string bytes, d) => bytes.length + uptoBulk d + 1
  | (_, d) => uptoBulk d + 1
 end
def uptoSmall : (H : Type) → List (DataW H) → Bool := fun _ ds => decide (uptoBulkAll ds ≤ 1048576)
def OpenSpec.upto (s : _root_.Go.ChangeSpec) : _root_.Go.OpenSpec := { _root_.Go.OpenSpec.ofChange s with cond := some uptoSmall }

/-- 'freshetlaw08.SkipPlays', WHERE WHAT IT READS IS OF BULK AT MOST 1048576: true; the input reads as it did. -/
def skipPlaysUptoRow : OpenClaim := { program := "ytadbhajnlokkbaa", sum := "f4c7cefb2bab51b3ae9d49d42341eef249be53cedd1128b28cd82599b759b88d", func := "freshet/freshetlaw08.SkipPlays", spec := "skipPlays", unfollowed := true, recurses := true, apart := false, narrowed := true }
def SkipPlaysUptoSaid : Prop := skipPlaysUptoRow.holds Try.pinned (OpenSpec.upto skipPlaysSpec)

/-- 'freshetlaw08.SkipNone', WHERE WHAT IT READS IS OF BULK AT MOST 1048576: true; the input reads as it did. -/
def skipNoneUptoRow : OpenClaim := { program := "ytadbhajnlokkbaa", sum := "f4c7cefb2bab51b3ae9d49d42341eef249be53cedd1128b28cd82599b759b88d", func := "freshet/freshetlaw08.SkipNone", spec := "skipNone", unfollowed := true, recurses := true, apart := false, narrowed := true }
def SkipNoneUptoSaid : Prop := skipNoneUptoRow.holds Try.pinned (OpenSpec.upto skipNoneSpec)

/-- 'freshetlaw08.SkipAny', WHERE WHAT IT READS IS OF BULK AT MOST 1048576: true; the input reads as it did. -/
def skipAnyUptoRow : OpenClaim := { program := "ytadbhajnlokkbaa", sum := "f4c7cefb2bab51b3ae9d49d42341eef249be53cedd1128b28cd82599b759b88d", func := "freshet/freshetlaw08.SkipAny", spec := "skipAny", unfollowed := true, recurses := true, apart := false, narrowed := true }
def SkipAnyUptoSaid : Prop := skipAnyUptoRow.holds Try.pinned (OpenSpec.upto skipAnySpec)

/-- 'freshetlaw08.SkipSteps', WHERE WHAT IT READS IS OF BULK AT MOST 1048576: true; the input reads as it did. -/
def skipStepsUptoRow : OpenClaim := { program := "ytadbhajnlokkbaa", sum := "f4c7cefb2bab51b3ae9d49d42341eef249be53cedd1128b28cd82599b759b88d", func := "freshet/freshetlaw08.SkipSteps", spec := "skipSteps", unfollowed := true, recurses := true, apart := false, narrowed := true }
def SkipStepsUptoSaid : Prop := skipStepsUptoRow.holds Try.pinned (OpenSpec.upto skipStepsSpec)

/-- 'freshetlaw08.SkipFrom', WHERE WHAT IT READS IS OF BULK AT MOST 1048576: true; the input reads as it did. -/
def skipFromUptoRow : OpenClaim := { program := "ytadbhajnlokkbaa", sum := "f4c7cefb2bab51b3ae9d49d42341eef249be53cedd1128b28cd82599b759b88d", func := "freshet/freshetlaw08.SkipFrom", spec := "skipFrom", unfollowed := true, recurses := true, apart := false, narrowed := true }
def SkipFromUptoSaid : Prop := skipFromUptoRow.holds Try.pinned (OpenSpec.upto skipFromSpec)

end Rows
end Go.Proofs.Ytadbhajnlokkbaa
