/-
  DERIVED. GIVEN WITH THE SEED: THE CARDS: each row of YtfmdjlhoikedpaaDoorRows.lean that lists a variable, with what it lists TIED to the program's text (the seventh form; the later family's looks); each row that meets fmt, with fmt's text TOLD by the authors' own Lean function (tested against real Go, not proved from fmt's source: count such statements apart). THE CARD IS WHAT COUNTS. Prove the row's statement (the work); the ties are given (YtfmdjlhoikedpaaDoorTie.lean); close each card by the builder's one call (the guide's Derived/Test/ToyasCard.lean, 'card_holds'). Laid BY PROGRAM, IN A SANDBOX (cutbox-door.mjs). By AI agents, Wed Nov 11 2026. No macro, syntax, notation, axiom, sorry.
-/
import Derived.Test.YtfmdjlhoikedpaaDoorRows
import GoSem.ClaimSeven
namespace Go.Proofs.YtfmdjlhoikedpaaDoor
namespace Rows

/-- THE TIED CARD OF 'freshetlaw02.CodeUint'. -/
def codeUintCard : Claim7 := { stood := { row := codeUintRow, standIns := [], harness := (true, "d0dce52fce68575528df459cffc1ee0d22ea56cb841f511626e914c6ba636876"), looks := false }, kinds := [], alts := [], laidByText := true, laidKinds := [.data, .pinned], laidTests := true, laidLooks := .later }
def CodeUintCardSaid : Prop := Claim7.holds Tryd.pinned (.plain (OpenSpec.ofChange codeUintSpec)) codeUintCard

/-- THE TIED CARD OF 'freshetlaw02.CodeOrd'. -/
def codeOrdCard : Claim7 := { stood := { row := codeOrdRow, standIns := [], harness := (true, "d0dce52fce68575528df459cffc1ee0d22ea56cb841f511626e914c6ba636876"), looks := false }, kinds := [], alts := [], laidByText := true, laidKinds := [.data, .pinned], laidTests := true, laidLooks := .later }
def CodeOrdCardSaid : Prop := Claim7.holds Tryd.pinned (.plain (OpenSpec.ofChange codeOrdSpec)) codeOrdCard

/-- THE TIED CARD OF 'freshetlaw02.CodeText'. -/
def codeTextCard : Claim7 := { stood := { row := codeTextRow, standIns := [], harness := (true, "d0dce52fce68575528df459cffc1ee0d22ea56cb841f511626e914c6ba636876"), looks := false }, kinds := [], alts := [], laidByText := true, laidKinds := [.data, .pinned], laidTests := true, laidLooks := .later }
def CodeTextCardSaid : Prop := Claim7.holds Tryd.pinned (.plain (OpenSpec.ofChange codeTextSpec)) codeTextCard

/-- THE TIED CARD OF 'freshetlaw02.CodeField'. -/
def codeFieldCard : Claim7 := { stood := { row := codeFieldRow, standIns := [], harness := (true, "d0dce52fce68575528df459cffc1ee0d22ea56cb841f511626e914c6ba636876"), looks := false }, kinds := [], alts := [], laidByText := true, laidKinds := [.data, .pinned], laidTests := true, laidLooks := .later }
def CodeFieldCardSaid : Prop := Claim7.holds Tryd.pinned (.plain (OpenSpec.ofChange codeFieldSpec)) codeFieldCard

/-- THE TIED CARD OF 'freshetlaw02.CodeBack'. -/
def codeBackCard : Claim7 := { stood := { row := codeBackRow, standIns := [], harness := (true, "d0dce52fce68575528df459cffc1ee0d22ea56cb841f511626e914c6ba636876"), looks := false }, kinds := [], alts := [], laidByText := true, laidKinds := [.data, .pinned], laidTests := true, laidLooks := .later }
def CodeBackCardSaid : Prop := Claim7.holds Tryd.pinned (.plain (OpenSpec.ofChange codeBackSpec)) codeBackCard

/-- THE TIED CARD OF 'freshetlaw02.CodeOnly'. -/
def codeOnlyCard : Claim7 := { stood := { row := codeOnlyRow, standIns := [], harness := (true, "d0dce52fce68575528df459cffc1ee0d22ea56cb841f511626e914c6ba636876"), looks := false }, kinds := [], alts := [], laidByText := true, laidKinds := [.data, .pinned], laidTests := true, laidLooks := .later }
def CodeOnlyCardSaid : Prop := Claim7.holds Tryd.pinned (.plain (OpenSpec.ofChange codeOnlySpec)) codeOnlyCard

/-- THE TIED CARD OF 'freshetlaw02.CodeOrder'. -/
def codeOrderCard : Claim7 := { stood := { row := codeOrderRow, standIns := [], harness := (true, "d0dce52fce68575528df459cffc1ee0d22ea56cb841f511626e914c6ba636876"), looks := false }, kinds := [], alts := [], laidByText := true, laidKinds := [.data, .pinned], laidTests := true, laidLooks := .later }
def CodeOrderCardSaid : Prop := Claim7.holds Tryd.pinned (.plain (OpenSpec.ofChange codeOrderSpec)) codeOrderCard

/-- THE TIED CARD OF 'freshetlaw02.CodeLess'. -/
def codeLessCard : Claim7 := { stood := { row := codeLessRow, standIns := [], harness := (true, "d0dce52fce68575528df459cffc1ee0d22ea56cb841f511626e914c6ba636876"), looks := false }, kinds := [], alts := [], laidByText := true, laidKinds := [.data, .pinned], laidTests := true, laidLooks := .later }
def CodeLessCardSaid : Prop := Claim7.holds Tryd.pinned (.plain (OpenSpec.ofChange codeLessSpec)) codeLessCard

/-- THE TIED CARD OF 'freshetlaw02.CodeMany'. -/
def codeManyCard : Claim7 := { stood := { row := codeManyRow, standIns := [], harness := (true, "d0dce52fce68575528df459cffc1ee0d22ea56cb841f511626e914c6ba636876"), looks := false }, kinds := [], alts := [], laidByText := true, laidKinds := [.data, .pinned], laidTests := true, laidLooks := .later }
def CodeManyCardSaid : Prop := Claim7.holds Tryd.pinned (.plain (OpenSpec.ofChange codeManySpec)) codeManyCard

/-- THE TIED CARD OF 'freshetlaw02.CodeCut'. -/
def codeCutCard : Claim7 := { stood := { row := codeCutRow, standIns := [], harness := (true, "d0dce52fce68575528df459cffc1ee0d22ea56cb841f511626e914c6ba636876"), looks := false }, kinds := [], alts := [], laidByText := true, laidKinds := [.data, .pinned], laidTests := true, laidLooks := .later }
def CodeCutCardSaid : Prop := Claim7.holds Tryd.pinned (.plain (OpenSpec.ofChange codeCutSpec)) codeCutCard

/-- THE SECOND FORM's CARD OF 'freshetlaw02.CodeUint'. -/
def codeUintUptoCard : Claim7 := { stood := { row := codeUintUptoRow, standIns := [], harness := (true, "d0dce52fce68575528df459cffc1ee0d22ea56cb841f511626e914c6ba636876"), looks := false }, kinds := [], alts := [], laidByText := true, laidKinds := [.data, .pinned], laidTests := true, laidLooks := .later }
def CodeUintUptoCardSaid : Prop := Claim7.holds Tryd.pinned (.plain (OpenSpec.upto codeUintSpec)) codeUintUptoCard

/-- THE SECOND FORM's CARD OF 'freshetlaw02.CodeOrd'. -/
def codeOrdUptoCard : Claim7 := { stood := { row := codeOrdUptoRow, standIns := [], harness := (true, "d0dce52fce68575528df459cffc1ee0d22ea56cb841f511626e914c6ba636876"), looks := false }, kinds := [], alts := [], laidByText := true, laidKinds := [.data, .pinned], laidTests := true, laidLooks := .later }
def CodeOrdUptoCardSaid : Prop := Claim7.holds Tryd.pinned (.plain (OpenSpec.upto codeOrdSpec)) codeOrdUptoCard

/-- THE SECOND FORM's CARD OF 'freshetlaw02.CodeText'. -/
def codeTextUptoCard : Claim7 := { stood := { row := codeTextUptoRow, standIns := [], harness := (true, "d0dce52fce68575528df459cffc1ee0d22ea56cb841f511626e914c6ba636876"), looks := false }, kinds := [], alts := [], laidByText := true, laidKinds := [.data, .pinned], laidTests := true, laidLooks := .later }
def CodeTextUptoCardSaid : Prop := Claim7.holds Tryd.pinned (.plain (OpenSpec.upto codeTextSpec)) codeTextUptoCard

/-- THE SECOND FORM's CARD OF 'freshetlaw02.CodeField'. -/
def codeFieldUptoCard : Claim7 := { stood := { row := codeFieldUptoRow, standIns := [], harness := (true, "d0dce52fce68575528df459cffc1ee0d22ea56cb841f511626e914c6ba636876"), looks := false }, kinds := [], alts := [], laidByText := true, laidKinds := [.data, .pinned], laidTests := true, laidLooks := .later }
def CodeFieldUptoCardSaid : Prop := Claim7.holds Tryd.pinned (.plain (OpenSpec.upto codeFieldSpec)) codeFieldUptoCard

/-- THE SECOND FORM's CARD OF 'freshetlaw02.CodeBack'. -/
def codeBackUptoCard : Claim7 := { stood := { row := codeBackUptoRow, standIns := [], harness := (true, "d0dce52fce68575528df459cffc1ee0d22ea56cb841f511626e914c6ba636876"), looks := false }, kinds := [], alts := [], laidByText := true, laidKinds := [.data, .pinned], laidTests := true, laidLooks := .later }
def CodeBackUptoCardSaid : Prop := Claim7.holds Tryd.pinned (.plain (OpenSpec.upto codeBackSpec)) codeBackUptoCard

/-- THE SECOND FORM's CARD OF 'freshetlaw02.CodeOnly'. -/
def codeOnlyUptoCard : Claim7 := { stood := { row := codeOnlyUptoRow, standIns := [], harness := (true, "d0dce52fce68575528df459cffc1ee0d22ea56cb841f511626e914c6ba636876"), looks := false }, kinds := [], alts := [], laidByText := true, laidKinds := [.data, .pinned], laidTests := true, laidLooks := .later }
def CodeOnlyUptoCardSaid : Prop := Claim7.holds Tryd.pinned (.plain (OpenSpec.upto codeOnlySpec)) codeOnlyUptoCard

/-- THE SECOND FORM's CARD OF 'freshetlaw02.CodeOrder'. -/
def codeOrderUptoCard : Claim7 := { stood := { row := codeOrderUptoRow, standIns := [], harness := (true, "d0dce52fce68575528df459cffc1ee0d22ea56cb841f511626e914c6ba636876"), looks := false }, kinds := [], alts := [], laidByText := true, laidKinds := [.data, .pinned], laidTests := true, laidLooks := .later }
def CodeOrderUptoCardSaid : Prop := Claim7.holds Tryd.pinned (.plain (OpenSpec.upto codeOrderSpec)) codeOrderUptoCard

/-- THE SECOND FORM's CARD OF 'freshetlaw02.CodeLess'. -/
def codeLessUptoCard : Claim7 := { stood := { row := codeLessUptoRow, standIns := [], harness := (true, "d0dce52fce68575528df459cffc1ee0d22ea56cb841f511626e914c6ba636876"), looks := false }, kinds := [], alts := [], laidByText := true, laidKinds := [.data, .pinned], laidTests := true, laidLooks := .later }
def CodeLessUptoCardSaid : Prop := Claim7.holds Tryd.pinned (.plain (OpenSpec.upto codeLessSpec)) codeLessUptoCard

/-- THE SECOND FORM's CARD OF 'freshetlaw02.CodeMany'. -/
def codeManyUptoCard : Claim7 := { stood := { row := codeManyUptoRow, standIns := [], harness := (true, "d0dce52fce68575528df459cffc1ee0d22ea56cb841f511626e914c6ba636876"), looks := false }, kinds := [], alts := [], laidByText := true, laidKinds := [.data, .pinned], laidTests := true, laidLooks := .later }
def CodeManyUptoCardSaid : Prop := Claim7.holds Tryd.pinned (.plain (OpenSpec.upto codeManySpec)) codeManyUptoCard

/-- THE SECOND FORM's CARD OF 'freshetlaw02.CodeCut'. -/
def codeCutUptoCard : Claim7 := { stood := { row := codeCutUptoRow, standIns := [], harness := (true, "d0dce52fce68575528df459cffc1ee0d22ea56cb841f511626e914c6ba636876"), looks := false }, kinds := [], alts := [], laidByText := true, laidKinds := [.data, .pinned], laidTests := true, laidLooks := .later }
def CodeCutUptoCardSaid : Prop := Claim7.holds Tryd.pinned (.plain (OpenSpec.upto codeCutSpec)) codeCutUptoCard
end Rows
end Go.Proofs.YtfmdjlhoikedpaaDoor
