/-
  DERIVED. GIVEN WITH THE SEED: THE CARDS: each row of YthjaanhkmfiajabDoorRows.lean that lists a variable, with what it lists TIED to the program's text (the seventh form; the later family's looks); each row that meets fmt, with fmt's text TOLD by the authors' own Lean function (tested against real Go, not proved from fmt's source: count such statements apart). THE CARD IS WHAT COUNTS. Prove the row's statement (the work); the ties are given (YthjaanhkmfiajabDoorTie.lean); close each card by the builder's one call (the guide's Derived/Test/ToyasCard.lean, 'card_holds'). Laid BY PROGRAM, IN A SANDBOX (cutbox-door.mjs). By AI agents, Wed Nov 11 2026. No macro, syntax, notation, axiom, sorry.
-/
import Derived.Test.YthjaanhkmfiajabDoorRows
import GoSem.ClaimSeven
namespace Go.Proofs.YthjaanhkmfiajabDoor
namespace Rows

/-- THE TIED CARD OF 'saltcellarkeep.ItemsOnce'. -/
def itemsOnceCard : Claim7 := { stood := { row := itemsOnceRow, standIns := [], harness := (true, "b9b71533f191055afe14258b34a07cbc0b533cbecfcfe6e531e79fb6f1e4c874"), looks := false }, kinds := [], alts := [], laidByText := true, laidKinds := [.data, .data, .data], laidTests := true, laidLooks := .later }
def ItemsOnceCardSaid : Prop := Claim7.holds Tryd.pinned (.plain (OpenSpec.ofChange itemsOnceSpec)) itemsOnceCard

/-- THE TIED CARD OF 'saltcellarkeep.UsesCount'. -/
def usesCountCard : Claim7 := { stood := { row := usesCountRow, standIns := [], harness := (true, "b9b71533f191055afe14258b34a07cbc0b533cbecfcfe6e531e79fb6f1e4c874"), looks := false }, kinds := [], alts := [], laidByText := true, laidKinds := [.data, .data, .data], laidTests := true, laidLooks := .later }
def UsesCountCardSaid : Prop := Claim7.holds Tryd.pinned (.plain (OpenSpec.ofChange usesCountSpec)) usesCountCard

/-- THE TIED CARD OF 'saltcellarkeep.WritesRead'. -/
def writesReadCard : Claim7 := { stood := { row := writesReadRow, standIns := [], harness := (true, "b9b71533f191055afe14258b34a07cbc0b533cbecfcfe6e531e79fb6f1e4c874"), looks := false }, kinds := [], alts := [], laidByText := true, laidKinds := [.data, .data, .data], laidTests := true, laidLooks := .later }
def WritesReadCardSaid : Prop := Claim7.holds Tryd.pinned (.plain (OpenSpec.ofChange writesReadSpec)) writesReadCard

/-- THE TIED CARD OF 'saltcellarkeep.WritesUndone'. -/
def writesUndoneCard : Claim7 := { stood := { row := writesUndoneRow, standIns := [], harness := (true, "b9b71533f191055afe14258b34a07cbc0b533cbecfcfe6e531e79fb6f1e4c874"), looks := false }, kinds := [], alts := [], laidByText := true, laidKinds := [.data, .data, .data], laidTests := true, laidLooks := .later }
def WritesUndoneCardSaid : Prop := Claim7.holds Tryd.pinned (.plain (OpenSpec.ofChange writesUndoneSpec)) writesUndoneCard

/-- THE TIED CARD OF 'saltcellarkeep.WritesBad'. -/
def writesBadCard : Claim7 := { stood := { row := writesBadRow, standIns := [], harness := (true, "b9b71533f191055afe14258b34a07cbc0b533cbecfcfe6e531e79fb6f1e4c874"), looks := false }, kinds := [], alts := [], laidByText := true, laidKinds := [.data, .data, .data], laidTests := true, laidLooks := .later }
def WritesBadCardSaid : Prop := Claim7.holds Tryd.pinned (.plain (OpenSpec.ofChange writesBadSpec)) writesBadCard

/-- THE TIED CARD OF 'saltcellarkeep.LogsBack'. -/
def logsBackCard : Claim7 := { stood := { row := logsBackRow, standIns := [], harness := (true, "b9b71533f191055afe14258b34a07cbc0b533cbecfcfe6e531e79fb6f1e4c874"), looks := false }, kinds := [], alts := [], laidByText := true, laidKinds := [.data, .data, .data], laidTests := true, laidLooks := .later }
def LogsBackCardSaid : Prop := Claim7.holds Tryd.pinned (.plain (OpenSpec.ofChange logsBackSpec)) logsBackCard

/-- THE TIED CARD OF 'saltcellarkeep.LogsSpoilt'. -/
def logsSpoiltCard : Claim7 := { stood := { row := logsSpoiltRow, standIns := [], harness := (true, "b9b71533f191055afe14258b34a07cbc0b533cbecfcfe6e531e79fb6f1e4c874"), looks := false }, kinds := [], alts := [], laidByText := true, laidKinds := [.data, .data, .data], laidTests := true, laidLooks := .later }
def LogsSpoiltCardSaid : Prop := Claim7.holds Tryd.pinned (.plain (OpenSpec.ofChange logsSpoiltSpec)) logsSpoiltCard

/-- THE SECOND FORM's CARD OF 'saltcellarkeep.ItemsOnce'. -/
def itemsOnceUptoCard : Claim7 := { stood := { row := itemsOnceUptoRow, standIns := [], harness := (true, "b9b71533f191055afe14258b34a07cbc0b533cbecfcfe6e531e79fb6f1e4c874"), looks := false }, kinds := [], alts := [], laidByText := true, laidKinds := [.data, .data, .data], laidTests := true, laidLooks := .later }
def ItemsOnceUptoCardSaid : Prop := Claim7.holds Tryd.pinned (.plain (OpenSpec.upto itemsOnceSpec)) itemsOnceUptoCard

/-- THE SECOND FORM's CARD OF 'saltcellarkeep.UsesCount'. -/
def usesCountUptoCard : Claim7 := { stood := { row := usesCountUptoRow, standIns := [], harness := (true, "b9b71533f191055afe14258b34a07cbc0b533cbecfcfe6e531e79fb6f1e4c874"), looks := false }, kinds := [], alts := [], laidByText := true, laidKinds := [.data, .data, .data], laidTests := true, laidLooks := .later }
def UsesCountUptoCardSaid : Prop := Claim7.holds Tryd.pinned (.plain (OpenSpec.upto usesCountSpec)) usesCountUptoCard

/-- THE SECOND FORM's CARD OF 'saltcellarkeep.WritesRead'. -/
def writesReadUptoCard : Claim7 := { stood := { row := writesReadUptoRow, standIns := [], harness := (true, "b9b71533f191055afe14258b34a07cbc0b533cbecfcfe6e531e79fb6f1e4c874"), looks := false }, kinds := [], alts := [], laidByText := true, laidKinds := [.data, .data, .data], laidTests := true, laidLooks := .later }
def WritesReadUptoCardSaid : Prop := Claim7.holds Tryd.pinned (.plain (OpenSpec.upto writesReadSpec)) writesReadUptoCard

/-- THE SECOND FORM's CARD OF 'saltcellarkeep.WritesUndone'. -/
def writesUndoneUptoCard : Claim7 := { stood := { row := writesUndoneUptoRow, standIns := [], harness := (true, "b9b71533f191055afe14258b34a07cbc0b533cbecfcfe6e531e79fb6f1e4c874"), looks := false }, kinds := [], alts := [], laidByText := true, laidKinds := [.data, .data, .data], laidTests := true, laidLooks := .later }
def WritesUndoneUptoCardSaid : Prop := Claim7.holds Tryd.pinned (.plain (OpenSpec.upto writesUndoneSpec)) writesUndoneUptoCard

/-- THE SECOND FORM's CARD OF 'saltcellarkeep.WritesBad'. -/
def writesBadUptoCard : Claim7 := { stood := { row := writesBadUptoRow, standIns := [], harness := (true, "b9b71533f191055afe14258b34a07cbc0b533cbecfcfe6e531e79fb6f1e4c874"), looks := false }, kinds := [], alts := [], laidByText := true, laidKinds := [.data, .data, .data], laidTests := true, laidLooks := .later }
def WritesBadUptoCardSaid : Prop := Claim7.holds Tryd.pinned (.plain (OpenSpec.upto writesBadSpec)) writesBadUptoCard

/-- THE SECOND FORM's CARD OF 'saltcellarkeep.LogsBack'. -/
def logsBackUptoCard : Claim7 := { stood := { row := logsBackUptoRow, standIns := [], harness := (true, "b9b71533f191055afe14258b34a07cbc0b533cbecfcfe6e531e79fb6f1e4c874"), looks := false }, kinds := [], alts := [], laidByText := true, laidKinds := [.data, .data, .data], laidTests := true, laidLooks := .later }
def LogsBackUptoCardSaid : Prop := Claim7.holds Tryd.pinned (.plain (OpenSpec.upto logsBackSpec)) logsBackUptoCard

/-- THE SECOND FORM's CARD OF 'saltcellarkeep.LogsSpoilt'. -/
def logsSpoiltUptoCard : Claim7 := { stood := { row := logsSpoiltUptoRow, standIns := [], harness := (true, "b9b71533f191055afe14258b34a07cbc0b533cbecfcfe6e531e79fb6f1e4c874"), looks := false }, kinds := [], alts := [], laidByText := true, laidKinds := [.data, .data, .data], laidTests := true, laidLooks := .later }
def LogsSpoiltUptoCardSaid : Prop := Claim7.holds Tryd.pinned (.plain (OpenSpec.upto logsSpoiltSpec)) logsSpoiltUptoCard
end Rows
end Go.Proofs.YthjaanhkmfiajabDoor
