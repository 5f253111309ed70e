/- bag: the walk of the reference's Put. -/
import Derived.Test.YtkfebgbgnpdgpaaBgL
import Derived.Test.YtkfebgbgnpdgpaaKitC
namespace Go.Proofs.Ytkfebgbgnpdgpaa
open Go.RowKit Go.Shelf
/-- A message with a copy of its bytes. -/
def reMg (m : Mg) (row : Value) : Mg := ⟨m.f, m.t, row, m.bs⟩
theorem con_reMg (m : Mg) (row : Value) : con (reMg m row) = con m := rfl

theorem ok_reMg {w w1 : World} {Y : List Nat} {m : Mg} (hm : MgOk w Y m) {B : Nat} {a : Option Addr} {c : Nat} (ho : w1.ownsRow B 5 1 (.slice a m.bs.length c) m.bs.length (m.bs.map (Value.int .u8))) : MgOk w1 (Value.slice a m.bs.length c).ownBlock.toList (reMg m (.slice a m.bs.length c)) :=
  ⟨row_of_own ho hm.row.bytes, fun ad n c e _ => by injection e with e _ _; subst e; simp [Value.ownBlock], hm.fit, hm.b0, hm.b1⟩

end Go.Proofs.Ytkfebgbgnpdgpaa
