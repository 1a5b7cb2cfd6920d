/-
  DERIVED. GIVEN WITH THE SEED: THE CARDS: each row of YtlnnghlmhmnnlaaDoorRows.lean that lists a variable, with what it lists TIED to the program's text (the seventh form; the later family's looks); each row that meets fmt, with fmt's text TOLD by the authors' own Lean function (tested against real Go, not proved from fmt's source: count such statements apart). THE CARD IS WHAT COUNTS. Prove the row's statement (the work); the ties are given (YtlnnghlmhmnnlaaDoorTie.lean); close each card by the builder's one call (the guide's Derived/Test/ToyasCard.lean, 'card_holds'). Laid BY PROGRAM, IN A SANDBOX (cutbox-door.mjs). By AI agents, Wed Nov 11 2026. No macro, syntax, notation, axiom, sorry.
-/
import Derived.Test.YtlnnghlmhmnnlaaDoorRows
import GoSem.ClaimSeven
namespace Go.Proofs.YtlnnghlmhmnnlaaDoor
namespace Rows

/-- THE TIED CARD OF 'laws.FnRecords'. -/
def fnRecordsCard : Claim7 := { stood := { row := fnRecordsRow, standIns := [], harness := (true, "2bc80f0f82a3be487f8a9d5dd4c379768a147e69b82bbf6024bd79bdb76ea63b"), looks := false }, kinds := [], alts := [], laidByText := true, laidKinds := [.data, .data, .data], laidTests := true, laidLooks := .later }
def FnRecordsCardSaid : Prop := Claim7.holds Tryd.pinned (.plain (OpenSpec.ofChange fnRecordsSpec)) fnRecordsCard

/-- THE TIED CARD OF 'laws.FnExactShowRecord'. -/
def fnExactShowRecordCard : Claim7 := { stood := { row := fnExactShowRecordRow, standIns := [], harness := (true, "2bc80f0f82a3be487f8a9d5dd4c379768a147e69b82bbf6024bd79bdb76ea63b"), looks := false }, kinds := [], alts := [], laidByText := true, laidKinds := [.data, .data, .data], laidTests := true, laidLooks := .later }
def FnExactShowRecordCardSaid : Prop := Claim7.holds Tryd.pinned (.plain (OpenSpec.ofChange fnExactShowRecordSpec)) fnExactShowRecordCard

/-- THE SECOND FORM's CARD OF 'laws.FnRecords'. -/
def fnRecordsUptoCard : Claim7 := { stood := { row := fnRecordsUptoRow, standIns := [], harness := (true, "2bc80f0f82a3be487f8a9d5dd4c379768a147e69b82bbf6024bd79bdb76ea63b"), looks := false }, kinds := [], alts := [], laidByText := true, laidKinds := [.data, .data, .data], laidTests := true, laidLooks := .later }
def FnRecordsUptoCardSaid : Prop := Claim7.holds Tryd.pinned (.plain (OpenSpec.upto fnRecordsSpec)) fnRecordsUptoCard

/-- THE SECOND FORM's CARD OF 'laws.FnExactShowRecord'. -/
def fnExactShowRecordUptoCard : Claim7 := { stood := { row := fnExactShowRecordUptoRow, standIns := [], harness := (true, "2bc80f0f82a3be487f8a9d5dd4c379768a147e69b82bbf6024bd79bdb76ea63b"), looks := false }, kinds := [], alts := [], laidByText := true, laidKinds := [.data, .data, .data], laidTests := true, laidLooks := .later }
def FnExactShowRecordUptoCardSaid : Prop := Claim7.holds Tryd.pinned (.plain (OpenSpec.upto fnExactShowRecordSpec)) fnExactShowRecordUptoCard
end Rows
end Go.Proofs.YtlnnghlmhmnnlaaDoor
