/-
  DERIVED. GIVEN WITH THE SEED: THE CARDS: each row of YtnhjgomfkfehgaaGreatDoorRows.lean that lists a variable, with what it lists TIED to the program's text (the seventh form; the later family's looks); each row that meets fmt, with fmt's text TOLD by the authors' own Lean function (tested against real Go, not proved from fmt's source: count such statements apart). THE CARD IS WHAT COUNTS. Prove the row's statement (the work); the ties are given (YtnhjgomfkfehgaaGreatDoorTie.lean); close each card by the builder's one call (the guide's Derived/Test/ToyasCard.lean, 'card_holds'). Laid BY PROGRAM, IN A SANDBOX (cutbox-door.mjs). By AI agents, Wed Nov 11 2026. No macro, syntax, notation, axiom, sorry.
-/
import Derived.Test.YtnhjgomfkfehgaaGreatDoorRows
import GoSem.ClaimSeven
namespace Go.Proofs.YtnhjgomfkfehgaaGreatDoor
namespace Rows

/-- THE TIED CARD OF 'laws.FnExactBegin'. -/
def fnExactBeginCard : Claim7 := { stood := { row := fnExactBeginRow, standIns := [], harness := (true, "427cffd64742de487b9c4cd1f8334d0d4d9c654a63dc3b79c1f823fc7fbd66d8"), looks := true }, kinds := [], alts := [], laidByText := true, laidKinds := [.handle], laidTests := true, laidLooks := .later }
def FnExactBeginCardSaid : Prop := Claim7.holds Tryz.pinned (.plain (OpenSpec.ofChange fnExactBeginSpec)) fnExactBeginCard

/-- THE TIED CARD OF 'laws.FnExactRead'. -/
def fnExactReadCard : Claim7 := { stood := { row := fnExactReadRow, standIns := [], harness := (true, "427cffd64742de487b9c4cd1f8334d0d4d9c654a63dc3b79c1f823fc7fbd66d8"), looks := true }, kinds := [], alts := [], laidByText := true, laidKinds := [.handle], laidTests := true, laidLooks := .later }
def FnExactReadCardSaid : Prop := Claim7.holds Tryz.pinned (.plain (OpenSpec.ofChange fnExactReadSpec)) fnExactReadCard

/-- THE TIED CARD OF 'laws.FnExactWrite'. -/
def fnExactWriteCard : Claim7 := { stood := { row := fnExactWriteRow, standIns := [], harness := (true, "427cffd64742de487b9c4cd1f8334d0d4d9c654a63dc3b79c1f823fc7fbd66d8"), looks := true }, kinds := [], alts := [], laidByText := true, laidKinds := [.handle], laidTests := true, laidLooks := .later }
def FnExactWriteCardSaid : Prop := Claim7.holds Tryz.pinned (.plain (OpenSpec.ofChange fnExactWriteSpec)) fnExactWriteCard

/-- THE TIED CARD OF 'laws.FnExactAlloc'. -/
def fnExactAllocCard : Claim7 := { stood := { row := fnExactAllocRow, standIns := [], harness := (true, "427cffd64742de487b9c4cd1f8334d0d4d9c654a63dc3b79c1f823fc7fbd66d8"), looks := true }, kinds := [], alts := [], laidByText := true, laidKinds := [.handle], laidTests := true, laidLooks := .later }
def FnExactAllocCardSaid : Prop := Claim7.holds Tryz.pinned (.plain (OpenSpec.ofChange fnExactAllocSpec)) fnExactAllocCard

/-- THE TIED CARD OF 'laws.FnExactDrop'. -/
def fnExactDropCard : Claim7 := { stood := { row := fnExactDropRow, standIns := [], harness := (true, "427cffd64742de487b9c4cd1f8334d0d4d9c654a63dc3b79c1f823fc7fbd66d8"), looks := true }, kinds := [], alts := [], laidByText := true, laidKinds := [.handle], laidTests := true, laidLooks := .later }
def FnExactDropCardSaid : Prop := Claim7.holds Tryz.pinned (.plain (OpenSpec.ofChange fnExactDropSpec)) fnExactDropCard

/-- THE TIED CARD OF 'laws.FnExactCommit'. -/
def fnExactCommitCard : Claim7 := { stood := { row := fnExactCommitRow, standIns := [], harness := (true, "427cffd64742de487b9c4cd1f8334d0d4d9c654a63dc3b79c1f823fc7fbd66d8"), looks := true }, kinds := [], alts := [], laidByText := true, laidKinds := [.handle], laidTests := true, laidLooks := .later }
def FnExactCommitCardSaid : Prop := Claim7.holds Tryz.pinned (.plain (OpenSpec.ofChange fnExactCommitSpec)) fnExactCommitCard

/-- THE SECOND FORM's CARD OF 'laws.FnExactBegin'. -/
def fnExactBeginUptoCard : Claim7 := { stood := { row := fnExactBeginUptoRow, standIns := [], harness := (true, "427cffd64742de487b9c4cd1f8334d0d4d9c654a63dc3b79c1f823fc7fbd66d8"), looks := true }, kinds := [], alts := [], laidByText := true, laidKinds := [.handle], laidTests := true, laidLooks := .later }
def FnExactBeginUptoCardSaid : Prop := Claim7.holds Tryz.pinned (.plain (OpenSpec.upto fnExactBeginSpec)) fnExactBeginUptoCard

/-- THE SECOND FORM's CARD OF 'laws.FnExactRead'. -/
def fnExactReadUptoCard : Claim7 := { stood := { row := fnExactReadUptoRow, standIns := [], harness := (true, "427cffd64742de487b9c4cd1f8334d0d4d9c654a63dc3b79c1f823fc7fbd66d8"), looks := true }, kinds := [], alts := [], laidByText := true, laidKinds := [.handle], laidTests := true, laidLooks := .later }
def FnExactReadUptoCardSaid : Prop := Claim7.holds Tryz.pinned (.plain (OpenSpec.upto fnExactReadSpec)) fnExactReadUptoCard

/-- THE SECOND FORM's CARD OF 'laws.FnExactWrite'. -/
def fnExactWriteUptoCard : Claim7 := { stood := { row := fnExactWriteUptoRow, standIns := [], harness := (true, "427cffd64742de487b9c4cd1f8334d0d4d9c654a63dc3b79c1f823fc7fbd66d8"), looks := true }, kinds := [], alts := [], laidByText := true, laidKinds := [.handle], laidTests := true, laidLooks := .later }
def FnExactWriteUptoCardSaid : Prop := Claim7.holds Tryz.pinned (.plain (OpenSpec.upto fnExactWriteSpec)) fnExactWriteUptoCard

/-- THE SECOND FORM's CARD OF 'laws.FnExactAlloc'. -/
def fnExactAllocUptoCard : Claim7 := { stood := { row := fnExactAllocUptoRow, standIns := [], harness := (true, "427cffd64742de487b9c4cd1f8334d0d4d9c654a63dc3b79c1f823fc7fbd66d8"), looks := true }, kinds := [], alts := [], laidByText := true, laidKinds := [.handle], laidTests := true, laidLooks := .later }
def FnExactAllocUptoCardSaid : Prop := Claim7.holds Tryz.pinned (.plain (OpenSpec.upto fnExactAllocSpec)) fnExactAllocUptoCard

/-- THE SECOND FORM's CARD OF 'laws.FnExactDrop'. -/
def fnExactDropUptoCard : Claim7 := { stood := { row := fnExactDropUptoRow, standIns := [], harness := (true, "427cffd64742de487b9c4cd1f8334d0d4d9c654a63dc3b79c1f823fc7fbd66d8"), looks := true }, kinds := [], alts := [], laidByText := true, laidKinds := [.handle], laidTests := true, laidLooks := .later }
def FnExactDropUptoCardSaid : Prop := Claim7.holds Tryz.pinned (.plain (OpenSpec.upto fnExactDropSpec)) fnExactDropUptoCard

/-- THE SECOND FORM's CARD OF 'laws.FnExactCommit'. -/
def fnExactCommitUptoCard : Claim7 := { stood := { row := fnExactCommitUptoRow, standIns := [], harness := (true, "427cffd64742de487b9c4cd1f8334d0d4d9c654a63dc3b79c1f823fc7fbd66d8"), looks := true }, kinds := [], alts := [], laidByText := true, laidKinds := [.handle], laidTests := true, laidLooks := .later }
def FnExactCommitUptoCardSaid : Prop := Claim7.holds Tryz.pinned (.plain (OpenSpec.upto fnExactCommitSpec)) fnExactCommitUptoCard
end Rows
end Go.Proofs.YtnhjgomfkfehgaaGreatDoor
