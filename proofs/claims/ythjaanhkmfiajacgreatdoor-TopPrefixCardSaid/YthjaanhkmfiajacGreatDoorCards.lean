/-
  DERIVED. GIVEN WITH THE SEED: THE CARDS: each row of YthjaanhkmfiajacGreatDoorRows.lean that lists a variable, with what it lists TIED to the program's text (the seventh form; the later family's looks); each row that meets fmt, with fmt's text TOLD by the authors' own Lean function (tested against real Go, not proved from fmt's source: count such statements apart). THE CARD IS WHAT COUNTS. Prove the row's statement (the work); the ties are given (YthjaanhkmfiajacGreatDoorTie.lean); close each card by the builder's one call (the guide's Derived/Test/ToyasCard.lean, 'card_holds'). Laid BY PROGRAM, IN A SANDBOX (cutbox-door.mjs). By AI agents, Wed Nov 11 2026. No macro, syntax, notation, axiom, sorry.
-/
import Derived.Test.YthjaanhkmfiajacGreatDoorRows
import GoSem.ClaimSeven
namespace Go.Proofs.YthjaanhkmfiajacGreatDoor
namespace Rows

/-- THE TIED CARD OF 'saltcellarkeep.EnginesGood'. -/
def enginesGoodCard : Claim7 := { stood := { row := enginesGoodRow, standIns := [], harness := (true, "07065622a4726b6cb2de61778cf276a5c1d6882540320b04023f67e73cbd370e"), looks := false }, kinds := [], alts := [], laidByText := true, laidKinds := [.data, .data, .data], laidTests := true, laidLooks := .later }
def EnginesGoodCardSaid : Prop := Claim7.holds Tryz.pinned (.plain (OpenSpec.ofChange enginesGoodSpec)) enginesGoodCard

/-- THE TIED CARD OF 'saltcellartop.TopPrefix'. -/
def topPrefixCard : Claim7 := { stood := { row := topPrefixRow, standIns := [], harness := (true, "07065622a4726b6cb2de61778cf276a5c1d6882540320b04023f67e73cbd370e"), looks := false }, kinds := [], alts := [], laidByText := true, laidKinds := [.data, .data, .data], laidTests := true, laidLooks := .later }
def TopPrefixCardSaid : Prop := Claim7.holds Tryz.pinned (.plain (OpenSpec.ofChange topPrefixSpec)) topPrefixCard

/-- THE TIED CARD OF 'saltcellartop.TopFlushed'. -/
def topFlushedCard : Claim7 := { stood := { row := topFlushedRow, standIns := [], harness := (true, "07065622a4726b6cb2de61778cf276a5c1d6882540320b04023f67e73cbd370e"), looks := false }, kinds := [], alts := [], laidByText := true, laidKinds := [.data, .data, .data], laidTests := true, laidLooks := .later }
def TopFlushedCardSaid : Prop := Claim7.holds Tryz.pinned (.plain (OpenSpec.ofChange topFlushedSpec)) topFlushedCard

/-- THE TIED CARD OF 'saltcellartop.TopAll'. -/
def topAllCard : Claim7 := { stood := { row := topAllRow, standIns := [], harness := (true, "07065622a4726b6cb2de61778cf276a5c1d6882540320b04023f67e73cbd370e"), looks := false }, kinds := [], alts := [], laidByText := true, laidKinds := [.data, .data, .data], laidTests := true, laidLooks := .later }
def TopAllCardSaid : Prop := Claim7.holds Tryz.pinned (.plain (OpenSpec.ofChange topAllSpec)) topAllCard

/-- THE TIED CARD OF 'saltcellartop.TopMarked'. -/
def topMarkedCard : Claim7 := { stood := { row := topMarkedRow, standIns := [], harness := (true, "07065622a4726b6cb2de61778cf276a5c1d6882540320b04023f67e73cbd370e"), looks := false }, kinds := [], alts := [], laidByText := true, laidKinds := [.data, .data, .data], laidTests := true, laidLooks := .later }
def TopMarkedCardSaid : Prop := Claim7.holds Tryz.pinned (.plain (OpenSpec.ofChange topMarkedSpec)) topMarkedCard

/-- THE TIED CARD OF 'saltcellartop.TopAborted'. -/
def topAbortedCard : Claim7 := { stood := { row := topAbortedRow, standIns := [], harness := (true, "07065622a4726b6cb2de61778cf276a5c1d6882540320b04023f67e73cbd370e"), looks := false }, kinds := [], alts := [], laidByText := true, laidKinds := [.data, .data, .data], laidTests := true, laidLooks := .later }
def TopAbortedCardSaid : Prop := Claim7.holds Tryz.pinned (.plain (OpenSpec.ofChange topAbortedSpec)) topAbortedCard

/-- THE TIED CARD OF 'saltcellartop.TopSees'. -/
def topSeesCard : Claim7 := { stood := { row := topSeesRow, standIns := [], harness := (true, "07065622a4726b6cb2de61778cf276a5c1d6882540320b04023f67e73cbd370e"), looks := false }, kinds := [], alts := [], laidByText := true, laidKinds := [.data, .data, .data], laidTests := true, laidLooks := .later }
def TopSeesCardSaid : Prop := Claim7.holds Tryz.pinned (.plain (OpenSpec.ofChange topSeesSpec)) topSeesCard

/-- THE TIED CARD OF 'saltcellartop.TopItems'. -/
def topItemsCard : Claim7 := { stood := { row := topItemsRow, standIns := [], harness := (true, "07065622a4726b6cb2de61778cf276a5c1d6882540320b04023f67e73cbd370e"), looks := false }, kinds := [], alts := [], laidByText := true, laidKinds := [.data, .data, .data], laidTests := true, laidLooks := .later }
def TopItemsCardSaid : Prop := Claim7.holds Tryz.pinned (.plain (OpenSpec.ofChange topItemsSpec)) topItemsCard

/-- THE TIED CARD OF 'saltcellartop.TopTwice'. -/
def topTwiceCard : Claim7 := { stood := { row := topTwiceRow, standIns := [], harness := (true, "07065622a4726b6cb2de61778cf276a5c1d6882540320b04023f67e73cbd370e"), looks := false }, kinds := [], alts := [], laidByText := true, laidKinds := [.data, .data, .data], laidTests := true, laidLooks := .later }
def TopTwiceCardSaid : Prop := Claim7.holds Tryz.pinned (.plain (OpenSpec.ofChange topTwiceSpec)) topTwiceCard

/-- THE SECOND FORM's CARD OF 'saltcellarkeep.EnginesGood'. -/
def enginesGoodUptoCard : Claim7 := { stood := { row := enginesGoodUptoRow, standIns := [], harness := (true, "07065622a4726b6cb2de61778cf276a5c1d6882540320b04023f67e73cbd370e"), looks := false }, kinds := [], alts := [], laidByText := true, laidKinds := [.data, .data, .data], laidTests := true, laidLooks := .later }
def EnginesGoodUptoCardSaid : Prop := Claim7.holds Tryz.pinned (.plain (OpenSpec.upto enginesGoodSpec)) enginesGoodUptoCard

/-- THE SECOND FORM's CARD OF 'saltcellartop.TopPrefix'. -/
def topPrefixUptoCard : Claim7 := { stood := { row := topPrefixUptoRow, standIns := [], harness := (true, "07065622a4726b6cb2de61778cf276a5c1d6882540320b04023f67e73cbd370e"), looks := false }, kinds := [], alts := [], laidByText := true, laidKinds := [.data, .data, .data], laidTests := true, laidLooks := .later }
def TopPrefixUptoCardSaid : Prop := Claim7.holds Tryz.pinned (.plain (OpenSpec.upto topPrefixSpec)) topPrefixUptoCard

/-- THE SECOND FORM's CARD OF 'saltcellartop.TopFlushed'. -/
def topFlushedUptoCard : Claim7 := { stood := { row := topFlushedUptoRow, standIns := [], harness := (true, "07065622a4726b6cb2de61778cf276a5c1d6882540320b04023f67e73cbd370e"), looks := false }, kinds := [], alts := [], laidByText := true, laidKinds := [.data, .data, .data], laidTests := true, laidLooks := .later }
def TopFlushedUptoCardSaid : Prop := Claim7.holds Tryz.pinned (.plain (OpenSpec.upto topFlushedSpec)) topFlushedUptoCard

/-- THE SECOND FORM's CARD OF 'saltcellartop.TopAll'. -/
def topAllUptoCard : Claim7 := { stood := { row := topAllUptoRow, standIns := [], harness := (true, "07065622a4726b6cb2de61778cf276a5c1d6882540320b04023f67e73cbd370e"), looks := false }, kinds := [], alts := [], laidByText := true, laidKinds := [.data, .data, .data], laidTests := true, laidLooks := .later }
def TopAllUptoCardSaid : Prop := Claim7.holds Tryz.pinned (.plain (OpenSpec.upto topAllSpec)) topAllUptoCard

/-- THE SECOND FORM's CARD OF 'saltcellartop.TopMarked'. -/
def topMarkedUptoCard : Claim7 := { stood := { row := topMarkedUptoRow, standIns := [], harness := (true, "07065622a4726b6cb2de61778cf276a5c1d6882540320b04023f67e73cbd370e"), looks := false }, kinds := [], alts := [], laidByText := true, laidKinds := [.data, .data, .data], laidTests := true, laidLooks := .later }
def TopMarkedUptoCardSaid : Prop := Claim7.holds Tryz.pinned (.plain (OpenSpec.upto topMarkedSpec)) topMarkedUptoCard

/-- THE SECOND FORM's CARD OF 'saltcellartop.TopAborted'. -/
def topAbortedUptoCard : Claim7 := { stood := { row := topAbortedUptoRow, standIns := [], harness := (true, "07065622a4726b6cb2de61778cf276a5c1d6882540320b04023f67e73cbd370e"), looks := false }, kinds := [], alts := [], laidByText := true, laidKinds := [.data, .data, .data], laidTests := true, laidLooks := .later }
def TopAbortedUptoCardSaid : Prop := Claim7.holds Tryz.pinned (.plain (OpenSpec.upto topAbortedSpec)) topAbortedUptoCard

/-- THE SECOND FORM's CARD OF 'saltcellartop.TopSees'. -/
def topSeesUptoCard : Claim7 := { stood := { row := topSeesUptoRow, standIns := [], harness := (true, "07065622a4726b6cb2de61778cf276a5c1d6882540320b04023f67e73cbd370e"), looks := false }, kinds := [], alts := [], laidByText := true, laidKinds := [.data, .data, .data], laidTests := true, laidLooks := .later }
def TopSeesUptoCardSaid : Prop := Claim7.holds Tryz.pinned (.plain (OpenSpec.upto topSeesSpec)) topSeesUptoCard

/-- THE SECOND FORM's CARD OF 'saltcellartop.TopItems'. -/
def topItemsUptoCard : Claim7 := { stood := { row := topItemsUptoRow, standIns := [], harness := (true, "07065622a4726b6cb2de61778cf276a5c1d6882540320b04023f67e73cbd370e"), looks := false }, kinds := [], alts := [], laidByText := true, laidKinds := [.data, .data, .data], laidTests := true, laidLooks := .later }
def TopItemsUptoCardSaid : Prop := Claim7.holds Tryz.pinned (.plain (OpenSpec.upto topItemsSpec)) topItemsUptoCard

/-- THE SECOND FORM's CARD OF 'saltcellartop.TopTwice'. -/
def topTwiceUptoCard : Claim7 := { stood := { row := topTwiceUptoRow, standIns := [], harness := (true, "07065622a4726b6cb2de61778cf276a5c1d6882540320b04023f67e73cbd370e"), looks := false }, kinds := [], alts := [], laidByText := true, laidKinds := [.data, .data, .data], laidTests := true, laidLooks := .later }
def TopTwiceUptoCardSaid : Prop := Claim7.holds Tryz.pinned (.plain (OpenSpec.upto topTwiceSpec)) topTwiceUptoCard
end Rows
end Go.Proofs.YthjaanhkmfiajacGreatDoor
