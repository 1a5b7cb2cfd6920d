/-
  No cell of these rows narrows 'for every input' (looked for: loops, veiled, ifaces, maps, wideKeys, modest, calm, conditions, laid).
  DERIVED. THE GIVEN ROWS OF THIS SEAT. 7 by the template 'for every input the law returns true; each argument reads behind the call as it read before'; 0 by the template 'total and deterministic' (their statements: YtooalbdlknheeaaGreatTotals.lean).
  GIVEN WITH THE SEED: the statements are not yours to turn. If you find one false, say at which input.
  Laid BY PROGRAM, IN A SANDBOX (cutbox-rows.mjs): the forced cells as the released guide's own fill.sh prints them over the translation 94cb553e891414b7… (all of the seat's roots in one cut). By AI agents, Wed Nov 11 2026. No macro, syntax, notation, axiom, sorry.
-/
import Derived.Test.YtooalbdlknheeaaGreatChecked
import GoSem.Claim
import GoSem.ClaimJoined
import GoSem.ClaimMapViews
import Derived.JoinedTies
import Derived.KernelRfl
namespace Go.Proofs.YtooalbdlknheeaaGreat
/- THE CELL 'sum', in the pinned program and in every row, IS THE sha256 OF THE DUMP (.gsa) THAT YtooalbdlknheeaaGreatProg.lean LOADS. Nothing in Lean hashes anything: it is a label: what it is worth is what the hold of that sum in a sandbox is worth. -/
noncomputable def Tryz.pinned : Pinned := { name := "ytooalbdlknheeaagreat", sum := "94cb553e891414b7049bc96206dfd667f46ee88f3e46df93237aacef2e96e732", checked := Tryz.checked }
namespace Rows
def none {H : Type} : Left H := { results := [], args := [] }

/-- 'laws.FnMachines': WHATEVER THE INPUT: true; the input reads as it did. -/
def fnMachinesSpec : ChangeSpec := { name := "fnMachines", fn := fun _ => fun
  | [d] => { results := [.lit (.bool true)], args := [d] }
  | _ => none }
def fnMachinesRow : OpenClaim := { program := "ytooalbdlknheeaagreat", sum := "94cb553e891414b7049bc96206dfd667f46ee88f3e46df93237aacef2e96e732", func := "loop.example/g00153/laws.FnMachines", spec := "fnMachines", inPlace := ["slices.overlaps[loop.example/g00153/impl.Copy]", "slices.overlaps[int64]"], unfollowed := true, recurses := true, apart := false }
def FnMachinesSaid : Prop := fnMachinesRow.holds Tryz.pinned (OpenSpec.ofChange fnMachinesSpec)

/-- ITS FALSE NEIGHBOUR: 'it returns false'. Refute it at one input. -/
def fnMachinesWrong : ChangeSpec := { name := "fnMachines", fn := fun _ => fun
  | [d] => { results := [.lit (.bool false)], args := [d] }
  | _ => none }
def FnMachinesWrongFalsely : Prop := fnMachinesRow.holds Tryz.pinned (OpenSpec.ofChange fnMachinesWrong)

/-- 'laws.FnCleared': WHATEVER THE INPUT: true; the input reads as it did. -/
def fnClearedSpec : ChangeSpec := { name := "fnCleared", fn := fun _ => fun
  | [d] => { results := [.lit (.bool true)], args := [d] }
  | _ => none }
def fnClearedRow : OpenClaim := { program := "ytooalbdlknheeaagreat", sum := "94cb553e891414b7049bc96206dfd667f46ee88f3e46df93237aacef2e96e732", func := "loop.example/g00153/laws.FnCleared", spec := "fnCleared", inPlace := ["slices.overlaps[int64]"], unfollowed := true, recurses := true, apart := false }
def FnClearedSaid : Prop := fnClearedRow.holds Tryz.pinned (OpenSpec.ofChange fnClearedSpec)

/-- ITS FALSE NEIGHBOUR: 'it returns false'. Refute it at one input. -/
def fnClearedWrong : ChangeSpec := { name := "fnCleared", fn := fun _ => fun
  | [d] => { results := [.lit (.bool false)], args := [d] }
  | _ => none }
def FnClearedWrongFalsely : Prop := fnClearedRow.holds Tryz.pinned (OpenSpec.ofChange fnClearedWrong)

/-- 'laws.FnExactReplace': WHATEVER THE INPUT: true; the input reads as it did. -/
def fnExactReplaceSpec : ChangeSpec := { name := "fnExactReplace", fn := fun _ => fun
  | [d1, d2, d3] => { results := [.lit (.bool true)], args := [d1, d2, d3] }
  | _ => none }
def fnExactReplaceRow : OpenClaim := { program := "ytooalbdlknheeaagreat", sum := "94cb553e891414b7049bc96206dfd667f46ee88f3e46df93237aacef2e96e732", func := "loop.example/g00153/laws.FnExactReplace", spec := "fnExactReplace", inPlace := ["slices.overlaps[loop.example/g00153/impl.Copy]"], unfollowed := true, recurses := true, apart := false }
def FnExactReplaceSaid : Prop := fnExactReplaceRow.holds Tryz.pinned (OpenSpec.ofChange fnExactReplaceSpec)

/-- ITS FALSE NEIGHBOUR: 'it returns false'. Refute it at one input. -/
def fnExactReplaceWrong : ChangeSpec := { name := "fnExactReplace", fn := fun _ => fun
  | [d1, d2, d3] => { results := [.lit (.bool false)], args := [d1, d2, d3] }
  | _ => none }
def FnExactReplaceWrongFalsely : Prop := fnExactReplaceRow.holds Tryz.pinned (OpenSpec.ofChange fnExactReplaceWrong)

/-- 'laws.FnExactAppend': WHATEVER THE INPUT: true; the input reads as it did. -/
def fnExactAppendSpec : ChangeSpec := { name := "fnExactAppend", fn := fun _ => fun
  | [d1, d2] => { results := [.lit (.bool true)], args := [d1, d2] }
  | _ => none }
def fnExactAppendRow : OpenClaim := { program := "ytooalbdlknheeaagreat", sum := "94cb553e891414b7049bc96206dfd667f46ee88f3e46df93237aacef2e96e732", func := "loop.example/g00153/laws.FnExactAppend", spec := "fnExactAppend", unfollowed := true, recurses := true, apart := false }
def FnExactAppendSaid : Prop := fnExactAppendRow.holds Tryz.pinned (OpenSpec.ofChange fnExactAppendSpec)

/-- ITS FALSE NEIGHBOUR: 'it returns false'. Refute it at one input. -/
def fnExactAppendWrong : ChangeSpec := { name := "fnExactAppend", fn := fun _ => fun
  | [d1, d2] => { results := [.lit (.bool false)], args := [d1, d2] }
  | _ => none }
def FnExactAppendWrongFalsely : Prop := fnExactAppendRow.holds Tryz.pinned (OpenSpec.ofChange fnExactAppendWrong)

/-- 'laws.FnExactClear': WHATEVER THE INPUT: true; the input reads as it did. -/
def fnExactClearSpec : ChangeSpec := { name := "fnExactClear", fn := fun _ => fun
  | [d1, d2, d3, d4] => { results := [.lit (.bool true)], args := [d1, d2, d3, d4] }
  | _ => none }
def fnExactClearRow : OpenClaim := { program := "ytooalbdlknheeaagreat", sum := "94cb553e891414b7049bc96206dfd667f46ee88f3e46df93237aacef2e96e732", func := "loop.example/g00153/laws.FnExactClear", spec := "fnExactClear", inPlace := ["slices.overlaps[int64]"], unfollowed := true, recurses := true, apart := false }
def FnExactClearSaid : Prop := fnExactClearRow.holds Tryz.pinned (OpenSpec.ofChange fnExactClearSpec)

/-- ITS FALSE NEIGHBOUR: 'it returns false'. Refute it at one input. -/
def fnExactClearWrong : ChangeSpec := { name := "fnExactClear", fn := fun _ => fun
  | [d1, d2, d3, d4] => { results := [.lit (.bool false)], args := [d1, d2, d3, d4] }
  | _ => none }
def FnExactClearWrongFalsely : Prop := fnExactClearRow.holds Tryz.pinned (OpenSpec.ofChange fnExactClearWrong)

/-- 'laws.FnExactLogged': WHATEVER THE INPUT: true; the input reads as it did. -/
def fnExactLoggedSpec : ChangeSpec := { name := "fnExactLogged", fn := fun _ => fun
  | [d1, d2, d3, d4] => { results := [.lit (.bool true)], args := [d1, d2, d3, d4] }
  | _ => none }
def fnExactLoggedRow : OpenClaim := { program := "ytooalbdlknheeaagreat", sum := "94cb553e891414b7049bc96206dfd667f46ee88f3e46df93237aacef2e96e732", func := "loop.example/g00153/laws.FnExactLogged", spec := "fnExactLogged", unfollowed := true, recurses := true, apart := false }
def FnExactLoggedSaid : Prop := fnExactLoggedRow.holds Tryz.pinned (OpenSpec.ofChange fnExactLoggedSpec)

/-- ITS FALSE NEIGHBOUR: 'it returns false'. Refute it at one input. -/
def fnExactLoggedWrong : ChangeSpec := { name := "fnExactLogged", fn := fun _ => fun
  | [d1, d2, d3, d4] => { results := [.lit (.bool false)], args := [d1, d2, d3, d4] }
  | _ => none }
def FnExactLoggedWrongFalsely : Prop := fnExactLoggedRow.holds Tryz.pinned (OpenSpec.ofChange fnExactLoggedWrong)

/-- 'laws.FnExactCopied': WHATEVER THE INPUT: true; the input reads as it did. -/
def fnExactCopiedSpec : ChangeSpec := { name := "fnExactCopied", fn := fun _ => fun
  | [d1, d2] => { results := [.lit (.bool true)], args := [d1, d2] }
  | _ => none }
def fnExactCopiedRow : OpenClaim := { program := "ytooalbdlknheeaagreat", sum := "94cb553e891414b7049bc96206dfd667f46ee88f3e46df93237aacef2e96e732", func := "loop.example/g00153/laws.FnExactCopied", spec := "fnExactCopied", unfollowed := true, recurses := true, apart := false }
def FnExactCopiedSaid : Prop := fnExactCopiedRow.holds Tryz.pinned (OpenSpec.ofChange fnExactCopiedSpec)

/-- ITS FALSE NEIGHBOUR: 'it returns false'. Refute it at one input. -/
def fnExactCopiedWrong : ChangeSpec := { name := "fnExactCopied", fn := fun _ => fun
  | [d1, d2] => { results := [.lit (.bool false)], args := [d1, d2] }
  | _ => none }
def FnExactCopiedWrongFalsely : Prop := fnExactCopiedRow.holds Tryz.pinned (OpenSpec.ofChange fnExactCopiedWrong)

/- THE SECOND FORM. 'bulk': how many values and letters a reading holds, each counted each time it is reached (what is shared counts as often as it is met; a slice's spare places count too). A statement '..UptoSaid' is the law's where the arguments, and the package variables that the reading takes, are together of bulk at most 1048576: NARROWER than '..Said'. Prove '..Said' where nothing that the law and all that it calls make is longer than what came in: it says more and counts as full. Else prove '..UptoSaid'. A law counts once. -/
mutual
def uptoBulk {H : Type} : DataW H → Nat
  | .lit (.string bytes) => bytes.length + 1
  | .lit _ => 1
  | .nil => 1
  | .ptr d => uptoBulk d + 1
  | .slice elems spare => uptoBulkAll elems + uptoBulkAll spare + 1
  | .agg parts => uptoBulkAll parts + 1
  | .iface _ d => uptoBulk d + 1
  | .map entries => uptoBulkEntries entries + 1
  | .held _ => 1
def uptoBulkAll {H : Type} : List (DataW H) → Nat
  | [] => 0
  | d :: r => uptoBulk d + uptoBulkAll r
def uptoBulkEntries {H : Type} : List (Lit × DataW H) → Nat
  | [] => 0
  | x :: r => uptoBulkEntry x + uptoBulkEntries r
def uptoBulkEntry {H : Type} : Lit × DataW H → Nat
  | (.string bytes, d) => bytes.length + uptoBulk d + 1
  | (_, d) => uptoBulk d + 1
 end
def uptoSmall : (H : Type) → List (DataW H) → Bool := fun _ ds => decide (uptoBulkAll ds ≤ 1048576)
def OpenSpec.upto (s : _root_.Go.ChangeSpec) : _root_.Go.OpenSpec := { _root_.Go.OpenSpec.ofChange s with cond := some uptoSmall }

/-- 'laws.FnMachines', WHERE WHAT IT READS IS OF BULK AT MOST 1048576: true; the input reads as it did. -/
def fnMachinesUptoRow : OpenClaim := { program := "ytooalbdlknheeaagreat", sum := "94cb553e891414b7049bc96206dfd667f46ee88f3e46df93237aacef2e96e732", func := "loop.example/g00153/laws.FnMachines", spec := "fnMachines", inPlace := ["slices.overlaps[loop.example/g00153/impl.Copy]", "slices.overlaps[int64]"], unfollowed := true, recurses := true, apart := false, narrowed := true }
def FnMachinesUptoSaid : Prop := fnMachinesUptoRow.holds Tryz.pinned (OpenSpec.upto fnMachinesSpec)

/-- 'laws.FnCleared', WHERE WHAT IT READS IS OF BULK AT MOST 1048576: true; the input reads as it did. -/
def fnClearedUptoRow : OpenClaim := { program := "ytooalbdlknheeaagreat", sum := "94cb553e891414b7049bc96206dfd667f46ee88f3e46df93237aacef2e96e732", func := "loop.example/g00153/laws.FnCleared", spec := "fnCleared", inPlace := ["slices.overlaps[int64]"], unfollowed := true, recurses := true, apart := false, narrowed := true }
def FnClearedUptoSaid : Prop := fnClearedUptoRow.holds Tryz.pinned (OpenSpec.upto fnClearedSpec)

/-- 'laws.FnExactReplace', WHERE WHAT IT READS IS OF BULK AT MOST 1048576: true; the input reads as it did. -/
def fnExactReplaceUptoRow : OpenClaim := { program := "ytooalbdlknheeaagreat", sum := "94cb553e891414b7049bc96206dfd667f46ee88f3e46df93237aacef2e96e732", func := "loop.example/g00153/laws.FnExactReplace", spec := "fnExactReplace", inPlace := ["slices.overlaps[loop.example/g00153/impl.Copy]"], unfollowed := true, recurses := true, apart := false, narrowed := true }
def FnExactReplaceUptoSaid : Prop := fnExactReplaceUptoRow.holds Tryz.pinned (OpenSpec.upto fnExactReplaceSpec)

/-- 'laws.FnExactAppend', WHERE WHAT IT READS IS OF BULK AT MOST 1048576: true; the input reads as it did. -/
def fnExactAppendUptoRow : OpenClaim := { program := "ytooalbdlknheeaagreat", sum := "94cb553e891414b7049bc96206dfd667f46ee88f3e46df93237aacef2e96e732", func := "loop.example/g00153/laws.FnExactAppend", spec := "fnExactAppend", unfollowed := true, recurses := true, apart := false, narrowed := true }
def FnExactAppendUptoSaid : Prop := fnExactAppendUptoRow.holds Tryz.pinned (OpenSpec.upto fnExactAppendSpec)

/-- 'laws.FnExactClear', WHERE WHAT IT READS IS OF BULK AT MOST 1048576: true; the input reads as it did. -/
def fnExactClearUptoRow : OpenClaim := { program := "ytooalbdlknheeaagreat", sum := "94cb553e891414b7049bc96206dfd667f46ee88f3e46df93237aacef2e96e732", func := "loop.example/g00153/laws.FnExactClear", spec := "fnExactClear", inPlace := ["slices.overlaps[int64]"], unfollowed := true, recurses := true, apart := false, narrowed := true }
def FnExactClearUptoSaid : Prop := fnExactClearUptoRow.holds Tryz.pinned (OpenSpec.upto fnExactClearSpec)

/-- 'laws.FnExactLogged', WHERE WHAT IT READS IS OF BULK AT MOST 1048576: true; the input reads as it did. -/
def fnExactLoggedUptoRow : OpenClaim := { program := "ytooalbdlknheeaagreat", sum := "94cb553e891414b7049bc96206dfd667f46ee88f3e46df93237aacef2e96e732", func := "loop.example/g00153/laws.FnExactLogged", spec := "fnExactLogged", unfollowed := true, recurses := true, apart := false, narrowed := true }
def FnExactLoggedUptoSaid : Prop := fnExactLoggedUptoRow.holds Tryz.pinned (OpenSpec.upto fnExactLoggedSpec)

/-- 'laws.FnExactCopied', WHERE WHAT IT READS IS OF BULK AT MOST 1048576: true; the input reads as it did. -/
def fnExactCopiedUptoRow : OpenClaim := { program := "ytooalbdlknheeaagreat", sum := "94cb553e891414b7049bc96206dfd667f46ee88f3e46df93237aacef2e96e732", func := "loop.example/g00153/laws.FnExactCopied", spec := "fnExactCopied", unfollowed := true, recurses := true, apart := false, narrowed := true }
def FnExactCopiedUptoSaid : Prop := fnExactCopiedUptoRow.holds Tryz.pinned (OpenSpec.upto fnExactCopiedSpec)

end Rows
end Go.Proofs.YtooalbdlknheeaaGreat
