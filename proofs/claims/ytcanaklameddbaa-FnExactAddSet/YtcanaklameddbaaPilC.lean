/- The blocks of a pile. -/
import Derived.Test.YtcanaklameddbaaRows
import Derived.Test.YtcanaklameddbaaPilM
import Derived.Test.YtcanaklameddbaaRowA
import Derived.Below
namespace Go.Proofs.Ytcanaklameddbaa
open Go.RowKit
/-- The blocks of a pile: its box, its things, its map. -/
def OfP (p q mb : Nat) (x : Nat) : Prop := x = p ∨ x = q ∨ x = mb
theorem KeptP.of_turned {P : Nat → Prop} {c : Nat} {a b : World} (h : Turned c a b) (hc : P c) : KeptP P a b := ⟨h.os, h.tape, h.output, h.size, fun q hq hn => h.block q hq (fun e => hn (e ▸ hc))⟩
end Go.Proofs.Ytcanaklameddbaa
