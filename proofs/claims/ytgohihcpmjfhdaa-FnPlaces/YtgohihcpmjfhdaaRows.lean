/-
  No cell of these rows narrows 'for every input' (looked for: loops, veiled, ifaces, maps, wideKeys, modest, calm, conditions, laid).
  DERIVED. THE GIVEN ROWS OF THIS SEAT. 6 by the template 'for every input the law returns true; each argument reads behind the call as it read before'; 0 by the template 'total and deterministic' (their statements: YtgohihcpmjfhdaaTotals.lean).
  GIVEN WITH THE SEED: the statements are not yours to turn. If you find one false, say at which input.
  Laid BY PROGRAM, IN A SANDBOX (cutbox-rows.mjs): the forced cells as the released guide's own fill.sh prints them over the translation 55d16df95d26f049… (all of the seat's roots in one cut). By AI agents, Wed Nov 11 2026. No macro, syntax, notation, axiom, sorry.
-/
import Derived.Test.YtgohihcpmjfhdaaChecked
import GoSem.Claim
import GoSem.ClaimJoined
import GoSem.ClaimMapViews
import Derived.JoinedTies
import Derived.KernelRfl
namespace Go.Proofs.Ytgohihcpmjfhdaa
/- THE CELL 'sum', in the pinned program and in every row, IS THE sha256 OF THE DUMP (.gsa) THAT YtgohihcpmjfhdaaProg.lean LOADS. Nothing in Lean hashes anything: it is a label: what it is worth is what the hold of that sum in a sandbox is worth. -/
noncomputable def Try.pinned : Pinned := { name := "ytgohihcpmjfhdaa", sum := "55d16df95d26f049114d7c126a511766cf7a507c7befb5258d85e59eb7c28dc9", checked := Try.checked }
namespace Rows
def none {H : Type} : Left H := { results := [], args := [] }

/-- 'laws.FnPlaces': WHATEVER THE INPUT: true; the input reads as it did. -/
def fnPlacesSpec : ChangeSpec := { name := "fnPlaces", fn := fun _ => fun
  | [d] => { results := [.lit (.bool true)], args := [d] }
  | _ => none }
def fnPlacesRow : OpenClaim := { program := "ytgohihcpmjfhdaa", sum := "55d16df95d26f049114d7c126a511766cf7a507c7befb5258d85e59eb7c28dc9", func := "loop.example/g00153/laws.FnPlaces", spec := "fnPlaces", unfollowed := true, recurses := true, apart := false }
def FnPlacesSaid : Prop := fnPlacesRow.holds Try.pinned (OpenSpec.ofChange fnPlacesSpec)

/-- ITS FALSE NEIGHBOUR: 'it returns false'. Refute it at one input. -/
def fnPlacesWrong : ChangeSpec := { name := "fnPlaces", fn := fun _ => fun
  | [d] => { results := [.lit (.bool false)], args := [d] }
  | _ => none }
def FnPlacesWrongFalsely : Prop := fnPlacesRow.holds Try.pinned (OpenSpec.ofChange fnPlacesWrong)

/-- 'laws.FnExactPlacesOk': WHATEVER THE INPUT: true; the input reads as it did. -/
def fnExactPlacesOkSpec : ChangeSpec := { name := "fnExactPlacesOk", fn := fun _ => fun
  | [d] => { results := [.lit (.bool true)], args := [d] }
  | _ => none }
def fnExactPlacesOkRow : OpenClaim := { program := "ytgohihcpmjfhdaa", sum := "55d16df95d26f049114d7c126a511766cf7a507c7befb5258d85e59eb7c28dc9", func := "loop.example/g00153/laws.FnExactPlacesOk", spec := "fnExactPlacesOk", unfollowed := true, recurses := true, apart := false }
def FnExactPlacesOkSaid : Prop := fnExactPlacesOkRow.holds Try.pinned (OpenSpec.ofChange fnExactPlacesOkSpec)

/-- ITS FALSE NEIGHBOUR: 'it returns false'. Refute it at one input. -/
def fnExactPlacesOkWrong : ChangeSpec := { name := "fnExactPlacesOk", fn := fun _ => fun
  | [d] => { results := [.lit (.bool false)], args := [d] }
  | _ => none }
def FnExactPlacesOkWrongFalsely : Prop := fnExactPlacesOkRow.holds Try.pinned (OpenSpec.ofChange fnExactPlacesOkWrong)

/-- 'laws.FnExactSpread': WHATEVER THE INPUT: true; the input reads as it did. -/
def fnExactSpreadSpec : ChangeSpec := { name := "fnExactSpread", fn := fun _ => fun
  | [d1, d2] => { results := [.lit (.bool true)], args := [d1, d2] }
  | _ => none }
def fnExactSpreadRow : OpenClaim := { program := "ytgohihcpmjfhdaa", sum := "55d16df95d26f049114d7c126a511766cf7a507c7befb5258d85e59eb7c28dc9", func := "loop.example/g00153/laws.FnExactSpread", spec := "fnExactSpread", apart := false }
def FnExactSpreadSaid : Prop := fnExactSpreadRow.holds Try.pinned (OpenSpec.ofChange fnExactSpreadSpec)

/-- ITS FALSE NEIGHBOUR: 'it returns false'. Refute it at one input. -/
def fnExactSpreadWrong : ChangeSpec := { name := "fnExactSpread", fn := fun _ => fun
  | [d1, d2] => { results := [.lit (.bool false)], args := [d1, d2] }
  | _ => none }
def FnExactSpreadWrongFalsely : Prop := fnExactSpreadRow.holds Try.pinned (OpenSpec.ofChange fnExactSpreadWrong)

/-- 'laws.FnExactPrimary': WHATEVER THE INPUT: true; the input reads as it did. -/
def fnExactPrimarySpec : ChangeSpec := { name := "fnExactPrimary", fn := fun _ => fun
  | [d1, d2] => { results := [.lit (.bool true)], args := [d1, d2] }
  | _ => none }
def fnExactPrimaryRow : OpenClaim := { program := "ytgohihcpmjfhdaa", sum := "55d16df95d26f049114d7c126a511766cf7a507c7befb5258d85e59eb7c28dc9", func := "loop.example/g00153/laws.FnExactPrimary", spec := "fnExactPrimary", unfollowed := true, recurses := true, apart := false }
def FnExactPrimarySaid : Prop := fnExactPrimaryRow.holds Try.pinned (OpenSpec.ofChange fnExactPrimarySpec)

/-- ITS FALSE NEIGHBOUR: 'it returns false'. Refute it at one input. -/
def fnExactPrimaryWrong : ChangeSpec := { name := "fnExactPrimary", fn := fun _ => fun
  | [d1, d2] => { results := [.lit (.bool false)], args := [d1, d2] }
  | _ => none }
def FnExactPrimaryWrongFalsely : Prop := fnExactPrimaryRow.holds Try.pinned (OpenSpec.ofChange fnExactPrimaryWrong)

/-- 'laws.FnExactBackups': WHATEVER THE INPUT: true; the input reads as it did. -/
def fnExactBackupsSpec : ChangeSpec := { name := "fnExactBackups", fn := fun _ => fun
  | [d1, d2] => { results := [.lit (.bool true)], args := [d1, d2] }
  | _ => none }
def fnExactBackupsRow : OpenClaim := { program := "ytgohihcpmjfhdaa", sum := "55d16df95d26f049114d7c126a511766cf7a507c7befb5258d85e59eb7c28dc9", func := "loop.example/g00153/laws.FnExactBackups", spec := "fnExactBackups", unfollowed := true, recurses := true, apart := false }
def FnExactBackupsSaid : Prop := fnExactBackupsRow.holds Try.pinned (OpenSpec.ofChange fnExactBackupsSpec)

/-- ITS FALSE NEIGHBOUR: 'it returns false'. Refute it at one input. -/
def fnExactBackupsWrong : ChangeSpec := { name := "fnExactBackups", fn := fun _ => fun
  | [d1, d2] => { results := [.lit (.bool false)], args := [d1, d2] }
  | _ => none }
def FnExactBackupsWrongFalsely : Prop := fnExactBackupsRow.holds Try.pinned (OpenSpec.ofChange fnExactBackupsWrong)

/-- 'laws.FnExactRemap': WHATEVER THE INPUT: true; the input reads as it did. -/
def fnExactRemapSpec : ChangeSpec := { name := "fnExactRemap", fn := fun _ => fun
  | [d1, d2] => { results := [.lit (.bool true)], args := [d1, d2] }
  | _ => none }
def fnExactRemapRow : OpenClaim := { program := "ytgohihcpmjfhdaa", sum := "55d16df95d26f049114d7c126a511766cf7a507c7befb5258d85e59eb7c28dc9", func := "loop.example/g00153/laws.FnExactRemap", spec := "fnExactRemap", unfollowed := true, recurses := true, apart := false }
def FnExactRemapSaid : Prop := fnExactRemapRow.holds Try.pinned (OpenSpec.ofChange fnExactRemapSpec)

/-- ITS FALSE NEIGHBOUR: 'it returns false'. Refute it at one input. -/
def fnExactRemapWrong : ChangeSpec := { name := "fnExactRemap", fn := fun _ => fun
  | [d1, d2] => { results := [.lit (.bool false)], args := [d1, d2] }
  | _ => none }
def FnExactRemapWrongFalsely : Prop := fnExactRemapRow.holds Try.pinned (OpenSpec.ofChange fnExactRemapWrong)

/- THE SECOND FORM. 'bulk': how many values and letters a reading holds, each counted each time it is reached (what is shared counts as often as it is met; a slice's spare places count too). A statement '..UptoSaid' is the law's where the arguments, and the package variables that the reading takes, are together of bulk at most 1048576: NARROWER than '..Said'. Prove '..Said' where nothing that the law and all that it calls make is longer than what came in: it says more and counts as full. Else prove '..UptoSaid'. A law counts once. -/
mutual
def uptoBulk {H : Type} : DataW H → Nat
  | .lit (.string bytes) => bytes.length + 1
  | .lit _ => 1
  | .nil => 1
  | .ptr d => uptoBulk d + 1
  | .slice elems spare => uptoBulkAll elems + uptoBulkAll spare + 1
  | .agg parts => uptoBulkAll parts + 1
  | .iface _ d => uptoBulk d + 1
  | .map entries => uptoBulkEntries entries + 1
  | .held _ => 1
def uptoBulkAll {H : Type} : List (DataW H) → Nat
  | [] => 0
  | d :: r => uptoBulk d + uptoBulkAll r
def uptoBulkEntries {H : Type} : List (Lit × DataW H) → Nat
  | [] => 0
  | x :: r => uptoBulkEntry x + uptoBulkEntries r
def uptoBulkEntry {H : Type} : Lit × DataW H → Nat
  | (.string bytes, d) => bytes.length + uptoBulk d + 1
  | (_, d) => uptoBulk d + 1
 end
def uptoSmall : (H : Type) → List (DataW H) → Bool := fun _ ds => decide (uptoBulkAll ds ≤ 1048576)
def OpenSpec.upto (s : _root_.Go.ChangeSpec) : _root_.Go.OpenSpec := { _root_.Go.OpenSpec.ofChange s with cond := some uptoSmall }

/-- 'laws.FnPlaces', WHERE WHAT IT READS IS OF BULK AT MOST 1048576: true; the input reads as it did. -/
def fnPlacesUptoRow : OpenClaim := { program := "ytgohihcpmjfhdaa", sum := "55d16df95d26f049114d7c126a511766cf7a507c7befb5258d85e59eb7c28dc9", func := "loop.example/g00153/laws.FnPlaces", spec := "fnPlaces", unfollowed := true, recurses := true, apart := false, narrowed := true }
def FnPlacesUptoSaid : Prop := fnPlacesUptoRow.holds Try.pinned (OpenSpec.upto fnPlacesSpec)

/-- 'laws.FnExactPlacesOk', WHERE WHAT IT READS IS OF BULK AT MOST 1048576: true; the input reads as it did. -/
def fnExactPlacesOkUptoRow : OpenClaim := { program := "ytgohihcpmjfhdaa", sum := "55d16df95d26f049114d7c126a511766cf7a507c7befb5258d85e59eb7c28dc9", func := "loop.example/g00153/laws.FnExactPlacesOk", spec := "fnExactPlacesOk", unfollowed := true, recurses := true, apart := false, narrowed := true }
def FnExactPlacesOkUptoSaid : Prop := fnExactPlacesOkUptoRow.holds Try.pinned (OpenSpec.upto fnExactPlacesOkSpec)

/-- 'laws.FnExactSpread', WHERE WHAT IT READS IS OF BULK AT MOST 1048576: true; the input reads as it did. -/
def fnExactSpreadUptoRow : OpenClaim := { program := "ytgohihcpmjfhdaa", sum := "55d16df95d26f049114d7c126a511766cf7a507c7befb5258d85e59eb7c28dc9", func := "loop.example/g00153/laws.FnExactSpread", spec := "fnExactSpread", apart := false, narrowed := true }
def FnExactSpreadUptoSaid : Prop := fnExactSpreadUptoRow.holds Try.pinned (OpenSpec.upto fnExactSpreadSpec)

/-- 'laws.FnExactPrimary', WHERE WHAT IT READS IS OF BULK AT MOST 1048576: true; the input reads as it did. -/
def fnExactPrimaryUptoRow : OpenClaim := { program := "ytgohihcpmjfhdaa", sum := "55d16df95d26f049114d7c126a511766cf7a507c7befb5258d85e59eb7c28dc9", func := "loop.example/g00153/laws.FnExactPrimary", spec := "fnExactPrimary", unfollowed := true, recurses := true, apart := false, narrowed := true }
def FnExactPrimaryUptoSaid : Prop := fnExactPrimaryUptoRow.holds Try.pinned (OpenSpec.upto fnExactPrimarySpec)

/-- 'laws.FnExactBackups', WHERE WHAT IT READS IS OF BULK AT MOST 1048576: true; the input reads as it did. -/
def fnExactBackupsUptoRow : OpenClaim := { program := "ytgohihcpmjfhdaa", sum := "55d16df95d26f049114d7c126a511766cf7a507c7befb5258d85e59eb7c28dc9", func := "loop.example/g00153/laws.FnExactBackups", spec := "fnExactBackups", unfollowed := true, recurses := true, apart := false, narrowed := true }
def FnExactBackupsUptoSaid : Prop := fnExactBackupsUptoRow.holds Try.pinned (OpenSpec.upto fnExactBackupsSpec)

/-- 'laws.FnExactRemap', WHERE WHAT IT READS IS OF BULK AT MOST 1048576: true; the input reads as it did. -/
def fnExactRemapUptoRow : OpenClaim := { program := "ytgohihcpmjfhdaa", sum := "55d16df95d26f049114d7c126a511766cf7a507c7befb5258d85e59eb7c28dc9", func := "loop.example/g00153/laws.FnExactRemap", spec := "fnExactRemap", unfollowed := true, recurses := true, apart := false, narrowed := true }
def FnExactRemapUptoSaid : Prop := fnExactRemapUptoRow.holds Try.pinned (OpenSpec.upto fnExactRemapSpec)

end Rows
end Go.Proofs.Ytgohihcpmjfhdaa
