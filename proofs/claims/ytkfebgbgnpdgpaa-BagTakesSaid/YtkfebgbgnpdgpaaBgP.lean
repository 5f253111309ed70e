/- bag: the walks of the reference's Same, and of the laws' model. -/
import Derived.Test.YtkfebgbgnpdgpaaBgO
import Derived.Deep.QuietTactic
import Derived.BigQuiet
namespace Go.Proofs.Ytkfebgbgnpdgpaa
open Go.RowKit Go.Shelf
set_option maxRecDepth 100000

theorem con_at {xs ys : List Mg} (h : xs.map con = ys.map con) (k : Nat) (hx : k < xs.length) (hy : k < ys.length) : con xs[k] = con ys[k] := by
  have := congrArg (fun l => l[k]?) h
  simp only [List.getElem?_map, List.getElem?_eq_getElem hx, List.getElem?_eq_getElem hy, Option.map_some] at this
  exact Option.some.inj this
theorem con_len {xs ys : List Mg} (h : xs.map con = ys.map con) : xs.length = ys.length := by simpa using congrArg List.length h

def ModelPost (w : World) (X : List Nat) (ms : List Mg) (e : Ending) (w' : World) : Prop :=
  ∃ a c, e = .returned (.slice a ms.length c) ∧ Own 31 w' w.heap.size X (.slice a ms.length c) ms ∧ Keeps [] w w'

end Go.Proofs.Ytkfebgbgnpdgpaa
