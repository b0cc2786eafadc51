/-
  No cell of these rows narrows 'for every input' (looked for: loops, veiled, ifaces, maps, wideKeys, modest, calm, conditions, laid).
  DERIVED. THE GIVEN ROWS OF THIS SEAT. 5 by the template 'for every input the law returns true; each argument reads behind the call as it read before'; 0 by the template 'total and deterministic' (their statements: YtaanclnppfpocaaTotals.lean).
  GIVEN WITH THE SEED: the statements are not yours to turn. If you find one false, say at which input.
  Laid BY PROGRAM, IN A SANDBOX (cutbox-rows.mjs): the forced cells as the released guide's own fill.sh prints them over the translation 6b1dcf22ee51f63b… (all of the seat's roots in one cut). By AI agents, Wed Nov 11 2026. No macro, syntax, notation, axiom, sorry.
-/
import Derived.Test.YtaanclnppfpocaaChecked
import GoSem.Claim
import GoSem.ClaimJoined
import GoSem.ClaimMapViews
import Derived.JoinedTies
import Derived.KernelRfl
namespace Go.Proofs.Ytaanclnppfpocaa
/- THE CELL 'sum', in the pinned program and in every row, IS THE sha256 OF THE DUMP (.gsa) THAT YtaanclnppfpocaaProg.lean LOADS. Nothing in Lean hashes anything: it is a label: what it is worth is what the hold of that sum in a sandbox is worth. -/
noncomputable def Try.pinned : Pinned := { name := "ytaanclnppfpocaa", sum := "6b1dcf22ee51f63bfc4203a1706d1adfdc8e681e2969c7d2a97d83fad7954949", checked := Try.checked }
namespace Rows
def none {H : Type} : Left H := { results := [], args := [] }

/-- 'freshetlaw06.BatchEncode': WHATEVER THE INPUT: true; the input reads as it did. -/
def batchEncodeSpec : ChangeSpec := { name := "batchEncode", fn := fun _ => fun
  | [d] => { results := [.lit (.bool true)], args := [d] }
  | _ => none }
def batchEncodeRow : OpenClaim := { program := "ytaanclnppfpocaa", sum := "6b1dcf22ee51f63bfc4203a1706d1adfdc8e681e2969c7d2a97d83fad7954949", func := "freshet/freshetlaw06.BatchEncode", spec := "batchEncode", inPlace := ["internal/abi.NoEscape"], unfollowed := true, recurses := true, apart := false }
def BatchEncodeSaid : Prop := batchEncodeRow.holds Try.pinned (OpenSpec.ofChange batchEncodeSpec)

/-- ITS FALSE NEIGHBOUR: 'it returns false'. Refute it at one input. -/
def batchEncodeWrong : ChangeSpec := { name := "batchEncode", fn := fun _ => fun
  | [d] => { results := [.lit (.bool false)], args := [d] }
  | _ => none }
def BatchEncodeWrongFalsely : Prop := batchEncodeRow.holds Try.pinned (OpenSpec.ofChange batchEncodeWrong)

/-- 'freshetlaw06.BatchDecode': WHATEVER THE INPUT: true; the input reads as it did. -/
def batchDecodeSpec : ChangeSpec := { name := "batchDecode", fn := fun _ => fun
  | [d] => { results := [.lit (.bool true)], args := [d] }
  | _ => none }
def batchDecodeRow : OpenClaim := { program := "ytaanclnppfpocaa", sum := "6b1dcf22ee51f63bfc4203a1706d1adfdc8e681e2969c7d2a97d83fad7954949", func := "freshet/freshetlaw06.BatchDecode", spec := "batchDecode", inPlace := ["internal/abi.NoEscape"], unfollowed := true, recurses := true, apart := false }
def BatchDecodeSaid : Prop := batchDecodeRow.holds Try.pinned (OpenSpec.ofChange batchDecodeSpec)

/-- ITS FALSE NEIGHBOUR: 'it returns false'. Refute it at one input. -/
def batchDecodeWrong : ChangeSpec := { name := "batchDecode", fn := fun _ => fun
  | [d] => { results := [.lit (.bool false)], args := [d] }
  | _ => none }
def BatchDecodeWrongFalsely : Prop := batchDecodeRow.holds Try.pinned (OpenSpec.ofChange batchDecodeWrong)

/-- 'freshetlaw06.BatchRows': WHATEVER THE INPUT: true; the input reads as it did. -/
def batchRowsSpec : ChangeSpec := { name := "batchRows", fn := fun _ => fun
  | [d1, d2] => { results := [.lit (.bool true)], args := [d1, d2] }
  | _ => none }
def batchRowsRow : OpenClaim := { program := "ytaanclnppfpocaa", sum := "6b1dcf22ee51f63bfc4203a1706d1adfdc8e681e2969c7d2a97d83fad7954949", func := "freshet/freshetlaw06.BatchRows", spec := "batchRows", inPlace := ["internal/abi.NoEscape"], unfollowed := true, recurses := true, apart := false }
def BatchRowsSaid : Prop := batchRowsRow.holds Try.pinned (OpenSpec.ofChange batchRowsSpec)

/-- ITS FALSE NEIGHBOUR: 'it returns false'. Refute it at one input. -/
def batchRowsWrong : ChangeSpec := { name := "batchRows", fn := fun _ => fun
  | [d1, d2] => { results := [.lit (.bool false)], args := [d1, d2] }
  | _ => none }
def BatchRowsWrongFalsely : Prop := batchRowsRow.holds Try.pinned (OpenSpec.ofChange batchRowsWrong)

/-- 'freshetlaw06.BatchNumbers': WHATEVER THE INPUT: true; the input reads as it did. -/
def batchNumbersSpec : ChangeSpec := { name := "batchNumbers", fn := fun _ => fun
  | [d] => { results := [.lit (.bool true)], args := [d] }
  | _ => none }
def batchNumbersRow : OpenClaim := { program := "ytaanclnppfpocaa", sum := "6b1dcf22ee51f63bfc4203a1706d1adfdc8e681e2969c7d2a97d83fad7954949", func := "freshet/freshetlaw06.BatchNumbers", spec := "batchNumbers", inPlace := ["internal/abi.NoEscape"], unfollowed := true, recurses := true, apart := false }
def BatchNumbersSaid : Prop := batchNumbersRow.holds Try.pinned (OpenSpec.ofChange batchNumbersSpec)

/-- ITS FALSE NEIGHBOUR: 'it returns false'. Refute it at one input. -/
def batchNumbersWrong : ChangeSpec := { name := "batchNumbers", fn := fun _ => fun
  | [d] => { results := [.lit (.bool false)], args := [d] }
  | _ => none }
def BatchNumbersWrongFalsely : Prop := batchNumbersRow.holds Try.pinned (OpenSpec.ofChange batchNumbersWrong)

/-- 'freshetlaw06.BatchCut': WHATEVER THE INPUT: true; the input reads as it did. -/
def batchCutSpec : ChangeSpec := { name := "batchCut", fn := fun _ => fun
  | [d1, d2] => { results := [.lit (.bool true)], args := [d1, d2] }
  | _ => none }
def batchCutRow : OpenClaim := { program := "ytaanclnppfpocaa", sum := "6b1dcf22ee51f63bfc4203a1706d1adfdc8e681e2969c7d2a97d83fad7954949", func := "freshet/freshetlaw06.BatchCut", spec := "batchCut", inPlace := ["internal/abi.NoEscape"], unfollowed := true, recurses := true, apart := false }
def BatchCutSaid : Prop := batchCutRow.holds Try.pinned (OpenSpec.ofChange batchCutSpec)

/-- ITS FALSE NEIGHBOUR: 'it returns false'. Refute it at one input. -/
def batchCutWrong : ChangeSpec := { name := "batchCut", fn := fun _ => fun
  | [d1, d2] => { results := [.lit (.bool false)], args := [d1, d2] }
  | _ => none }
def BatchCutWrongFalsely : Prop := batchCutRow.holds Try.pinned (OpenSpec.ofChange batchCutWrong)

/- THE SECOND FORM. 'bulk': how many values and letters a reading holds, each counted each time it is reached (what is shared counts as often as it is met; a slice's spare places count too). A statement '..UptoSaid' is the law's where the arguments, and the package variables that the reading takes, are together of bulk at most 1048576: NARROWER than '..Said'. Prove '..Said' where nothing that the law and all that it calls make is longer than what came in: it says more and counts as full. Else prove '..UptoSaid'. A law counts once. -/
mutual
def uptoBulk {H : Type} : DataW H → Nat
  | .lit (.string bytes) => bytes.length + 1
  | .lit _ => 1
  | .nil => 1
  | .ptr d => uptoBulk d + 1
  | .slice elems spare => uptoBulkAll elems + uptoBulkAll spare + 1
  | .agg parts => uptoBulkAll parts + 1
  | .iface _ d => uptoBulk d + 1
  | .map entries => uptoBulkEntries entries + 1
  | .held _ => 1
def uptoBulkAll {H : Type} : List (DataW H) → Nat
  | [] => 0
  | d :: r => uptoBulk d + uptoBulkAll r
def uptoBulkEntries {H : Type} : List (Lit × DataW H) → Nat
  | [] => 0
  | x :: r => uptoBulkEntry x + uptoBulkEntries r
def uptoBulkEntry {H : Type} : Lit × DataW H → Nat
  | (.string bytes, d) => bytes.length + uptoBulk d + 1
  | (_, d) => uptoBulk d + 1
 end
def uptoSmall : (H : Type) → List (DataW H) → Bool := fun _ ds => decide (uptoBulkAll ds ≤ 1048576)
def OpenSpec.upto (s : _root_.Go.ChangeSpec) : _root_.Go.OpenSpec := { _root_.Go.OpenSpec.ofChange s with cond := some uptoSmall }

/-- 'freshetlaw06.BatchEncode', WHERE WHAT IT READS IS OF BULK AT MOST 1048576: true; the input reads as it did. -/
def batchEncodeUptoRow : OpenClaim := { program := "ytaanclnppfpocaa", sum := "6b1dcf22ee51f63bfc4203a1706d1adfdc8e681e2969c7d2a97d83fad7954949", func := "freshet/freshetlaw06.BatchEncode", spec := "batchEncode", inPlace := ["internal/abi.NoEscape"], unfollowed := true, recurses := true, apart := false, narrowed := true }
def BatchEncodeUptoSaid : Prop := batchEncodeUptoRow.holds Try.pinned (OpenSpec.upto batchEncodeSpec)

/-- 'freshetlaw06.BatchDecode', WHERE WHAT IT READS IS OF BULK AT MOST 1048576: true; the input reads as it did. -/
def batchDecodeUptoRow : OpenClaim := { program := "ytaanclnppfpocaa", sum := "6b1dcf22ee51f63bfc4203a1706d1adfdc8e681e2969c7d2a97d83fad7954949", func := "freshet/freshetlaw06.BatchDecode", spec := "batchDecode", inPlace := ["internal/abi.NoEscape"], unfollowed := true, recurses := true, apart := false, narrowed := true }
def BatchDecodeUptoSaid : Prop := batchDecodeUptoRow.holds Try.pinned (OpenSpec.upto batchDecodeSpec)

/-- 'freshetlaw06.BatchRows', WHERE WHAT IT READS IS OF BULK AT MOST 1048576: true; the input reads as it did. -/
def batchRowsUptoRow : OpenClaim := { program := "ytaanclnppfpocaa", sum := "6b1dcf22ee51f63bfc4203a1706d1adfdc8e681e2969c7d2a97d83fad7954949", func := "freshet/freshetlaw06.BatchRows", spec := "batchRows", inPlace := ["internal/abi.NoEscape"], unfollowed := true, recurses := true, apart := false, narrowed := true }
def BatchRowsUptoSaid : Prop := batchRowsUptoRow.holds Try.pinned (OpenSpec.upto batchRowsSpec)

/-- 'freshetlaw06.BatchNumbers', WHERE WHAT IT READS IS OF BULK AT MOST 1048576: true; the input reads as it did. -/
def batchNumbersUptoRow : OpenClaim := { program := "ytaanclnppfpocaa", sum := "6b1dcf22ee51f63bfc4203a1706d1adfdc8e681e2969c7d2a97d83fad7954949", func := "freshet/freshetlaw06.BatchNumbers", spec := "batchNumbers", inPlace := ["internal/abi.NoEscape"], unfollowed := true, recurses := true, apart := false, narrowed := true }
def BatchNumbersUptoSaid : Prop := batchNumbersUptoRow.holds Try.pinned (OpenSpec.upto batchNumbersSpec)

/-- 'freshetlaw06.BatchCut', WHERE WHAT IT READS IS OF BULK AT MOST 1048576: true; the input reads as it did. -/
def batchCutUptoRow : OpenClaim := { program := "ytaanclnppfpocaa", sum := "6b1dcf22ee51f63bfc4203a1706d1adfdc8e681e2969c7d2a97d83fad7954949", func := "freshet/freshetlaw06.BatchCut", spec := "batchCut", inPlace := ["internal/abi.NoEscape"], unfollowed := true, recurses := true, apart := false, narrowed := true }
def BatchCutUptoSaid : Prop := batchCutUptoRow.holds Try.pinned (OpenSpec.upto batchCutSpec)

end Rows
end Go.Proofs.Ytaanclnppfpocaa
