/- Any rows: their parity, whether they hold, any one out of the others, or that it may not be (the law ParityRows): for every slice of rows and every two numbers the law returns true, and the rows read as they did. No condition. -/
import Derived.Test.YtoglcohdanpciaaPyKnown
import Derived.Test.YtoglcohdanpciaaPyOpen
namespace Go.Proofs.Ytoglcohdanpciaa
open Go.ChangeShapes Go.WideShapes Go.ChangeAt Go.RowKit
set_option maxRecDepth 100000

theorem fillRow_len (l : List (List Int)) (i n : Int) : (fillRow (fillM l i n)).length ≤ longest l := by
  unfold fillM
  split
  · rename_i h
    have h1 : longest (l.eraseIdx i.toNat) ≤ longest l := longest_sub fun q hq => List.mem_of_mem_eraseIdx hq
    show (xorN n.toNat (l.eraseIdx i.toNat)).length ≤ _
    rw [xorN_length]
    omega
  · simp [fillRow]

theorem small_longest {w0 : World} {rs : List (El w0)} {most : Nat} (h : smallB rs most = true) : longest (raws rs) ≤ most :=
  longest_le fun r hr => by have := smallB_row h r hr; omega

theorem same_self (w : World) (u v : Value) (xs : List Int) (hx : RowAt w u xs) (hy : RowAt w v xs) (hl : xs.length ≤ 35184372088832) :
    Calls Try.prog 29 #[u, v] w fun e w' => e = .returned (.bool true) ∧ Keeps [] w w' :=
  (same_any w u v xs xs hx hy hl hl).mono fun e w' ⟨he, n, hw⟩ => by
    subst hw
    rw [decide_eq_true rfl] at he
    exact ⟨he, (Keeps.refl _ _).drewN n⟩

end Go.Proofs.Ytoglcohdanpciaa
