/-
  DERIVED. GIVEN WITH THE SEED: THE CARDS: each row of YtpobfheioondaaaDoorRows.lean that lists a variable, with what it lists TIED to the program's text (the seventh form; the later family's looks); each row that meets fmt, with fmt's text TOLD by the authors' own Lean function (tested against real Go, not proved from fmt's source: count such statements apart). THE CARD IS WHAT COUNTS. Prove the row's statement (the work); the ties are given (YtpobfheioondaaaDoorTie.lean); close each card by the builder's one call (the guide's Derived/Test/ToyasCard.lean, 'card_holds'). Laid BY PROGRAM, IN A SANDBOX (cutbox-door.mjs). By AI agents, Wed Nov 11 2026. No macro, syntax, notation, axiom, sorry.
-/
import Derived.Test.YtpobfheioondaaaDoorRows
import GoSem.ClaimSeven
namespace Go.Proofs.YtpobfheioondaaaDoor
namespace Rows

/-- THE TIED CARD OF 'freshetlaw03.KeysEncode'. -/
def keysEncodeCard : Claim7 := { stood := { row := keysEncodeRow, standIns := [], harness := (true, "463bbd0875c03b0ec8fcdf62f4c7cbe4f7a0dd94f584139f8a1a049264d1326c"), looks := false }, kinds := [], alts := [], laidByText := true, laidKinds := [.data, .pinned], laidTests := true, laidLooks := .later }
def KeysEncodeCardSaid : Prop := Claim7.holds Tryd.pinned (.plain (OpenSpec.ofChange keysEncodeSpec)) keysEncodeCard

/-- THE TIED CARD OF 'freshetlaw03.KeysDecode'. -/
def keysDecodeCard : Claim7 := { stood := { row := keysDecodeRow, standIns := [], harness := (true, "463bbd0875c03b0ec8fcdf62f4c7cbe4f7a0dd94f584139f8a1a049264d1326c"), looks := false }, kinds := [], alts := [], laidByText := true, laidKinds := [.data, .pinned], laidTests := true, laidLooks := .later }
def KeysDecodeCardSaid : Prop := Claim7.holds Tryd.pinned (.plain (OpenSpec.ofChange keysDecodeSpec)) keysDecodeCard

/-- THE TIED CARD OF 'freshetlaw03.KeysCmp'. -/
def keysCmpCard : Claim7 := { stood := { row := keysCmpRow, standIns := [], harness := (true, "463bbd0875c03b0ec8fcdf62f4c7cbe4f7a0dd94f584139f8a1a049264d1326c"), looks := false }, kinds := [], alts := [], laidByText := true, laidKinds := [.data, .pinned], laidTests := true, laidLooks := .later }
def KeysCmpCardSaid : Prop := Claim7.holds Tryd.pinned (.plain (OpenSpec.ofChange keysCmpSpec)) keysCmpCard

/-- THE TIED CARD OF 'freshetlaw03.KeysRange'. -/
def keysRangeCard : Claim7 := { stood := { row := keysRangeRow, standIns := [], harness := (true, "463bbd0875c03b0ec8fcdf62f4c7cbe4f7a0dd94f584139f8a1a049264d1326c"), looks := false }, kinds := [], alts := [], laidByText := true, laidKinds := [.data, .pinned], laidTests := true, laidLooks := .later }
def KeysRangeCardSaid : Prop := Claim7.holds Tryd.pinned (.plain (OpenSpec.ofChange keysRangeSpec)) keysRangeCard

/-- THE TIED CARD OF 'freshetlaw03.KeysGroup'. -/
def keysGroupCard : Claim7 := { stood := { row := keysGroupRow, standIns := [], harness := (true, "463bbd0875c03b0ec8fcdf62f4c7cbe4f7a0dd94f584139f8a1a049264d1326c"), looks := false }, kinds := [], alts := [], laidByText := true, laidKinds := [.data, .pinned], laidTests := true, laidLooks := .later }
def KeysGroupCardSaid : Prop := Claim7.holds Tryd.pinned (.plain (OpenSpec.ofChange keysGroupSpec)) keysGroupCard

/-- THE TIED CARD OF 'freshetlaw03.KeysBack'. -/
def keysBackCard : Claim7 := { stood := { row := keysBackRow, standIns := [], harness := (true, "463bbd0875c03b0ec8fcdf62f4c7cbe4f7a0dd94f584139f8a1a049264d1326c"), looks := false }, kinds := [], alts := [], laidByText := true, laidKinds := [.data, .pinned], laidTests := true, laidLooks := .later }
def KeysBackCardSaid : Prop := Claim7.holds Tryd.pinned (.plain (OpenSpec.ofChange keysBackSpec)) keysBackCard

/-- THE TIED CARD OF 'freshetlaw03.KeysWithin'. -/
def keysWithinCard : Claim7 := { stood := { row := keysWithinRow, standIns := [], harness := (true, "463bbd0875c03b0ec8fcdf62f4c7cbe4f7a0dd94f584139f8a1a049264d1326c"), looks := false }, kinds := [], alts := [], laidByText := true, laidKinds := [.data, .pinned], laidTests := true, laidLooks := .later }
def KeysWithinCardSaid : Prop := Claim7.holds Tryd.pinned (.plain (OpenSpec.ofChange keysWithinSpec)) keysWithinCard

/-- THE TIED CARD OF 'freshetlaw03.KeysOrder'. -/
def keysOrderCard : Claim7 := { stood := { row := keysOrderRow, standIns := [], harness := (true, "463bbd0875c03b0ec8fcdf62f4c7cbe4f7a0dd94f584139f8a1a049264d1326c"), looks := false }, kinds := [], alts := [], laidByText := true, laidKinds := [.data, .pinned], laidTests := true, laidLooks := .later }
def KeysOrderCardSaid : Prop := Claim7.holds Tryd.pinned (.plain (OpenSpec.ofChange keysOrderSpec)) keysOrderCard

/-- THE TIED CARD OF 'freshetlaw03.KeysNest'. -/
def keysNestCard : Claim7 := { stood := { row := keysNestRow, standIns := [], harness := (true, "463bbd0875c03b0ec8fcdf62f4c7cbe4f7a0dd94f584139f8a1a049264d1326c"), looks := false }, kinds := [], alts := [], laidByText := true, laidKinds := [.data, .pinned], laidTests := true, laidLooks := .later }
def KeysNestCardSaid : Prop := Claim7.holds Tryd.pinned (.plain (OpenSpec.ofChange keysNestSpec)) keysNestCard

/-- THE TIED CARD OF 'freshetlaw03.KeysApart'. -/
def keysApartCard : Claim7 := { stood := { row := keysApartRow, standIns := [], harness := (true, "463bbd0875c03b0ec8fcdf62f4c7cbe4f7a0dd94f584139f8a1a049264d1326c"), looks := false }, kinds := [], alts := [], laidByText := true, laidKinds := [.data, .pinned], laidTests := true, laidLooks := .later }
def KeysApartCardSaid : Prop := Claim7.holds Tryd.pinned (.plain (OpenSpec.ofChange keysApartSpec)) keysApartCard

/-- THE TIED CARD OF 'freshetlaw03.KeysGroups'. -/
def keysGroupsCard : Claim7 := { stood := { row := keysGroupsRow, standIns := [], harness := (true, "463bbd0875c03b0ec8fcdf62f4c7cbe4f7a0dd94f584139f8a1a049264d1326c"), looks := false }, kinds := [], alts := [], laidByText := true, laidKinds := [.data, .pinned], laidTests := true, laidLooks := .later }
def KeysGroupsCardSaid : Prop := Claim7.holds Tryd.pinned (.plain (OpenSpec.ofChange keysGroupsSpec)) keysGroupsCard

/-- THE SECOND FORM's CARD OF 'freshetlaw03.KeysEncode'. -/
def keysEncodeUptoCard : Claim7 := { stood := { row := keysEncodeUptoRow, standIns := [], harness := (true, "463bbd0875c03b0ec8fcdf62f4c7cbe4f7a0dd94f584139f8a1a049264d1326c"), looks := false }, kinds := [], alts := [], laidByText := true, laidKinds := [.data, .pinned], laidTests := true, laidLooks := .later }
def KeysEncodeUptoCardSaid : Prop := Claim7.holds Tryd.pinned (.plain (OpenSpec.upto keysEncodeSpec)) keysEncodeUptoCard

/-- THE SECOND FORM's CARD OF 'freshetlaw03.KeysDecode'. -/
def keysDecodeUptoCard : Claim7 := { stood := { row := keysDecodeUptoRow, standIns := [], harness := (true, "463bbd0875c03b0ec8fcdf62f4c7cbe4f7a0dd94f584139f8a1a049264d1326c"), looks := false }, kinds := [], alts := [], laidByText := true, laidKinds := [.data, .pinned], laidTests := true, laidLooks := .later }
def KeysDecodeUptoCardSaid : Prop := Claim7.holds Tryd.pinned (.plain (OpenSpec.upto keysDecodeSpec)) keysDecodeUptoCard

/-- THE SECOND FORM's CARD OF 'freshetlaw03.KeysCmp'. -/
def keysCmpUptoCard : Claim7 := { stood := { row := keysCmpUptoRow, standIns := [], harness := (true, "463bbd0875c03b0ec8fcdf62f4c7cbe4f7a0dd94f584139f8a1a049264d1326c"), looks := false }, kinds := [], alts := [], laidByText := true, laidKinds := [.data, .pinned], laidTests := true, laidLooks := .later }
def KeysCmpUptoCardSaid : Prop := Claim7.holds Tryd.pinned (.plain (OpenSpec.upto keysCmpSpec)) keysCmpUptoCard

/-- THE SECOND FORM's CARD OF 'freshetlaw03.KeysRange'. -/
def keysRangeUptoCard : Claim7 := { stood := { row := keysRangeUptoRow, standIns := [], harness := (true, "463bbd0875c03b0ec8fcdf62f4c7cbe4f7a0dd94f584139f8a1a049264d1326c"), looks := false }, kinds := [], alts := [], laidByText := true, laidKinds := [.data, .pinned], laidTests := true, laidLooks := .later }
def KeysRangeUptoCardSaid : Prop := Claim7.holds Tryd.pinned (.plain (OpenSpec.upto keysRangeSpec)) keysRangeUptoCard

/-- THE SECOND FORM's CARD OF 'freshetlaw03.KeysGroup'. -/
def keysGroupUptoCard : Claim7 := { stood := { row := keysGroupUptoRow, standIns := [], harness := (true, "463bbd0875c03b0ec8fcdf62f4c7cbe4f7a0dd94f584139f8a1a049264d1326c"), looks := false }, kinds := [], alts := [], laidByText := true, laidKinds := [.data, .pinned], laidTests := true, laidLooks := .later }
def KeysGroupUptoCardSaid : Prop := Claim7.holds Tryd.pinned (.plain (OpenSpec.upto keysGroupSpec)) keysGroupUptoCard

/-- THE SECOND FORM's CARD OF 'freshetlaw03.KeysBack'. -/
def keysBackUptoCard : Claim7 := { stood := { row := keysBackUptoRow, standIns := [], harness := (true, "463bbd0875c03b0ec8fcdf62f4c7cbe4f7a0dd94f584139f8a1a049264d1326c"), looks := false }, kinds := [], alts := [], laidByText := true, laidKinds := [.data, .pinned], laidTests := true, laidLooks := .later }
def KeysBackUptoCardSaid : Prop := Claim7.holds Tryd.pinned (.plain (OpenSpec.upto keysBackSpec)) keysBackUptoCard

/-- THE SECOND FORM's CARD OF 'freshetlaw03.KeysWithin'. -/
def keysWithinUptoCard : Claim7 := { stood := { row := keysWithinUptoRow, standIns := [], harness := (true, "463bbd0875c03b0ec8fcdf62f4c7cbe4f7a0dd94f584139f8a1a049264d1326c"), looks := false }, kinds := [], alts := [], laidByText := true, laidKinds := [.data, .pinned], laidTests := true, laidLooks := .later }
def KeysWithinUptoCardSaid : Prop := Claim7.holds Tryd.pinned (.plain (OpenSpec.upto keysWithinSpec)) keysWithinUptoCard

/-- THE SECOND FORM's CARD OF 'freshetlaw03.KeysOrder'. -/
def keysOrderUptoCard : Claim7 := { stood := { row := keysOrderUptoRow, standIns := [], harness := (true, "463bbd0875c03b0ec8fcdf62f4c7cbe4f7a0dd94f584139f8a1a049264d1326c"), looks := false }, kinds := [], alts := [], laidByText := true, laidKinds := [.data, .pinned], laidTests := true, laidLooks := .later }
def KeysOrderUptoCardSaid : Prop := Claim7.holds Tryd.pinned (.plain (OpenSpec.upto keysOrderSpec)) keysOrderUptoCard

/-- THE SECOND FORM's CARD OF 'freshetlaw03.KeysNest'. -/
def keysNestUptoCard : Claim7 := { stood := { row := keysNestUptoRow, standIns := [], harness := (true, "463bbd0875c03b0ec8fcdf62f4c7cbe4f7a0dd94f584139f8a1a049264d1326c"), looks := false }, kinds := [], alts := [], laidByText := true, laidKinds := [.data, .pinned], laidTests := true, laidLooks := .later }
def KeysNestUptoCardSaid : Prop := Claim7.holds Tryd.pinned (.plain (OpenSpec.upto keysNestSpec)) keysNestUptoCard

/-- THE SECOND FORM's CARD OF 'freshetlaw03.KeysApart'. -/
def keysApartUptoCard : Claim7 := { stood := { row := keysApartUptoRow, standIns := [], harness := (true, "463bbd0875c03b0ec8fcdf62f4c7cbe4f7a0dd94f584139f8a1a049264d1326c"), looks := false }, kinds := [], alts := [], laidByText := true, laidKinds := [.data, .pinned], laidTests := true, laidLooks := .later }
def KeysApartUptoCardSaid : Prop := Claim7.holds Tryd.pinned (.plain (OpenSpec.upto keysApartSpec)) keysApartUptoCard

/-- THE SECOND FORM's CARD OF 'freshetlaw03.KeysGroups'. -/
def keysGroupsUptoCard : Claim7 := { stood := { row := keysGroupsUptoRow, standIns := [], harness := (true, "463bbd0875c03b0ec8fcdf62f4c7cbe4f7a0dd94f584139f8a1a049264d1326c"), looks := false }, kinds := [], alts := [], laidByText := true, laidKinds := [.data, .pinned], laidTests := true, laidLooks := .later }
def KeysGroupsUptoCardSaid : Prop := Claim7.holds Tryd.pinned (.plain (OpenSpec.upto keysGroupsSpec)) keysGroupsUptoCard
end Rows
end Go.Proofs.YtpobfheioondaaaDoor
