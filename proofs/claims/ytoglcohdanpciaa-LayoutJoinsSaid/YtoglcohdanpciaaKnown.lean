/- Chapter 1's examples (the law WireKnown): whatever the start, the law returns true and nothing that was there has turned. No condition. -/
import Derived.Test.YtoglcohdanpciaaAwake
import Derived.ProofKit
namespace Go.Proofs.Ytoglcohdanpciaa
open Go.ChangeShapes Go.WideShapes Go.ChangeAt Go.RowKit



theorem known_num : after [0, 5, 0, 2, 97] 0 (rdNum 2 [0, 5, 0, 2, 97]) = (some 5, [0, 2, 97], 0) := by decide +kernel
theorem known_text : after [0, 2, 97] 0 (rdCount 9 [0, 2, 97]) = (none, [0, 2, 97], 2) := by decide +kernel
theorem known_pen : penNum 256 1 ([], 0) = ([], 1) := by decide +kernel

end Go.Proofs.Ytoglcohdanpciaa
