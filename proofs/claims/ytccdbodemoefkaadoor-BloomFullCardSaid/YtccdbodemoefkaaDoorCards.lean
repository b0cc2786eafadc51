/-
  DERIVED. GIVEN WITH THE SEED: THE CARDS: each row of YtccdbodemoefkaaDoorRows.lean that lists a variable, with what it lists TIED to the program's text (the seventh form; the later family's looks); each row that meets fmt, with fmt's text TOLD by the authors' own Lean function (tested against real Go, not proved from fmt's source: count such statements apart). THE CARD IS WHAT COUNTS. Prove the row's statement (the work); the ties are given (YtccdbodemoefkaaDoorTie.lean); close each card by the builder's one call (the guide's Derived/Test/ToyasCard.lean, 'card_holds'). Laid BY PROGRAM, IN A SANDBOX (cutbox-door.mjs). By AI agents, Wed Nov 11 2026. No macro, syntax, notation, axiom, sorry.
-/
import Derived.Test.YtccdbodemoefkaaDoorRows
import GoSem.ClaimSeven
namespace Go.Proofs.YtccdbodemoefkaaDoor
namespace Rows

/-- THE TIED CARD OF 'freshetlaw10.BloomHas'. -/
def bloomHasCard : Claim7 := { stood := { row := bloomHasRow, standIns := [], harness := (true, "7af4609c2312e517cef9c475f7811ab1581f2ce30ca98f74e5ce01ae01ee07d3"), looks := false }, kinds := [], alts := [], laidByText := true, laidKinds := [.data], laidTests := true, laidLooks := .later }
def BloomHasCardSaid : Prop := Claim7.holds Tryd.pinned (.plain (OpenSpec.ofChange bloomHasSpec)) bloomHasCard

/-- THE TIED CARD OF 'freshetlaw10.BloomAll'. -/
def bloomAllCard : Claim7 := { stood := { row := bloomAllRow, standIns := [], harness := (true, "7af4609c2312e517cef9c475f7811ab1581f2ce30ca98f74e5ce01ae01ee07d3"), looks := false }, kinds := [], alts := [], laidByText := true, laidKinds := [.data], laidTests := true, laidLooks := .later }
def BloomAllCardSaid : Prop := Claim7.holds Tryd.pinned (.plain (OpenSpec.ofChange bloomAllSpec)) bloomAllCard

/-- THE TIED CARD OF 'freshetlaw10.BloomFull'. -/
def bloomFullCard : Claim7 := { stood := { row := bloomFullRow, standIns := [], harness := (true, "7af4609c2312e517cef9c475f7811ab1581f2ce30ca98f74e5ce01ae01ee07d3"), looks := false }, kinds := [], alts := [], laidByText := true, laidKinds := [.data], laidTests := true, laidLooks := .later }
def BloomFullCardSaid : Prop := Claim7.holds Tryd.pinned (.plain (OpenSpec.ofChange bloomFullSpec)) bloomFullCard

/-- THE SECOND FORM's CARD OF 'freshetlaw10.BloomHas'. -/
def bloomHasUptoCard : Claim7 := { stood := { row := bloomHasUptoRow, standIns := [], harness := (true, "7af4609c2312e517cef9c475f7811ab1581f2ce30ca98f74e5ce01ae01ee07d3"), looks := false }, kinds := [], alts := [], laidByText := true, laidKinds := [.data], laidTests := true, laidLooks := .later }
def BloomHasUptoCardSaid : Prop := Claim7.holds Tryd.pinned (.plain (OpenSpec.upto bloomHasSpec)) bloomHasUptoCard

/-- THE SECOND FORM's CARD OF 'freshetlaw10.BloomAll'. -/
def bloomAllUptoCard : Claim7 := { stood := { row := bloomAllUptoRow, standIns := [], harness := (true, "7af4609c2312e517cef9c475f7811ab1581f2ce30ca98f74e5ce01ae01ee07d3"), looks := false }, kinds := [], alts := [], laidByText := true, laidKinds := [.data], laidTests := true, laidLooks := .later }
def BloomAllUptoCardSaid : Prop := Claim7.holds Tryd.pinned (.plain (OpenSpec.upto bloomAllSpec)) bloomAllUptoCard

/-- THE SECOND FORM's CARD OF 'freshetlaw10.BloomFull'. -/
def bloomFullUptoCard : Claim7 := { stood := { row := bloomFullUptoRow, standIns := [], harness := (true, "7af4609c2312e517cef9c475f7811ab1581f2ce30ca98f74e5ce01ae01ee07d3"), looks := false }, kinds := [], alts := [], laidByText := true, laidKinds := [.data], laidTests := true, laidLooks := .later }
def BloomFullUptoCardSaid : Prop := Claim7.holds Tryd.pinned (.plain (OpenSpec.upto bloomFullSpec)) bloomFullUptoCard
end Rows
end Go.Proofs.YtccdbodemoefkaaDoor
