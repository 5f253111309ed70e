/- bag: a field of a message by its address. -/
import Derived.Test.YtkfebgbgnpdgpaaBgT
namespace Go.Proofs.Ytkfebgbgnpdgpaa
open Go.RowKit Go.Shelf
theorem exec_mgT {ρ : Operand → Value} {o : Oper} {w : World} (x : Operand) (b off : Nat) (ho : o.op = .fieldAddr 33 x 1) (hx : ρ x = .pointer (some ⟨b, off, none⟩)) : (execOp ρ o).run Try.prog w = .ok (.value (.pointer (some ⟨b, off + 1, none⟩))) w := by
  unfold execOp
  simp only [ho, hx]
  go_simp
end Go.Proofs.Ytkfebgbgnpdgpaa
