/- Words that are no numbers; what an operation that has no answer gives; the steps of a grade as words. -/
import Derived.Test.YtoffepagogmkkaaFlF
import Derived.WalkKit
import Derived.WalkLawsBesides
namespace Go.Proofs.Ytoffepagogmkkaa
open Go.RowKit

/-- A NaN's word. -/
def NanW (b : Nat) : Prop := ∃ s r, b = dw s r ∧ dInf < r ∧ r < 2 ^ 63
/-- A word that stands for a number or an infinity. -/
def NumW (b : Nat) : Prop := ∃ s r, b = dw s r ∧ r ≤ dInf

theorem read_nan {b : Nat} (h : NanW b) : ∃ s n, Ieee.double.read b = .nan s n := by
  obtain ⟨s, r, rfl, h1, h2⟩ := h
  have hi : dInf = 2047 * dB := rfl
  have hs : Ieee.double.signWeight = 2048 * dB := by decide
  have hB : dB = 2 ^ 52 := rfl
  have hr : r < Ieee.double.signWeight := by rw [hs, hB]; omega
  have e1 : (dw s r) % Ieee.double.signWeight = r := by
    unfold dw Ieee.Format.word
    split
    · rw [Nat.add_mod_left, Nat.mod_eq_of_lt hr]
    · exact Nat.mod_eq_of_lt hr
  unfold Ieee.Format.read
  simp only [e1]
  rw [if_neg (by show ¬ r < dB; omega), if_neg (by show ¬ r < dInf; omega), if_neg (by show ¬ r = dInf; omega)]
  exact ⟨_, _, rfl⟩

/-- Each word is the one or the other. -/
theorem word_cases {b : Nat} (h : b < 2 ^ 64) : NanW b ∨ NumW b := by
  have hs : Ieee.double.signWeight = 2 ^ 63 := rfl
  by_cases h1 : b < 2 ^ 63
  · by_cases h2 : b ≤ dInf
    · exact Or.inr ⟨false, b, rfl, h2⟩
    · exact Or.inl ⟨false, b, rfl, by omega, h1⟩
  · have e : b = dw true (b - 2 ^ 63) := by
      unfold dw Ieee.Format.word
      simp only [if_true, hs]
      omega
    by_cases h2 : b - 2 ^ 63 ≤ dInf
    · exact Or.inr ⟨true, _, e, h2⟩
    · exact Or.inl ⟨true, _, e, by omega, by omega⟩

theorem order_nan_left {a : Nat} (h : NanW a) (b : Nat) : Ieee.double.order a b = none := by
  obtain ⟨s, n, e⟩ := read_nan h
  unfold Ieee.Format.order
  rw [e]
  rfl
theorem order_nan_right {b : Nat} (h : NanW b) (a : Nat) : Ieee.double.order a b = none := by
  obtain ⟨s, n, e⟩ := read_nan h
  unfold Ieee.Format.order
  rw [e]
  cases Ieee.double.read a <;> rfl

theorem add_nan {a b : Nat} (h : NanW a ∨ NanW b) : Ieee.double.add a b = none := by
  unfold Ieee.Format.add
  rcases h with h | h
  · obtain ⟨s, n, e⟩ := read_nan h; rw [e]; rfl
  · obtain ⟨s, n, e⟩ := read_nan h; rw [e]; cases Ieee.double.read a <;> rfl
theorem sub_nan {a b : Nat} (h : NanW a ∨ NanW b) : Ieee.double.sub a b = none := by
  unfold Ieee.Format.sub
  rcases h with h | h
  · obtain ⟨s, n, e⟩ := read_nan h; rw [e]; rfl
  · obtain ⟨s, n, e⟩ := read_nan h; rw [e]; cases Ieee.double.read a <;> rfl
theorem mul_nan {a b : Nat} (h : NanW a ∨ NanW b) : Ieee.double.mul a b = none := by
  unfold Ieee.Format.mul
  rcases h with h | h
  · obtain ⟨s, n, e⟩ := read_nan h; rw [e]; rfl
  · obtain ⟨s, n, e⟩ := read_nan h; rw [e]; cases Ieee.double.read a <;> rfl
theorem div_nan {a b : Nat} (h : NanW a ∨ NanW b) : Ieee.double.div a b = none := by
  unfold Ieee.Format.div
  rcases h with h | h
  · obtain ⟨s, n, e⟩ := read_nan h; rw [e]; rfl
  · obtain ⟨s, n, e⟩ := read_nan h; rw [e]; cases Ieee.double.read a <;> rfl

/-- An operation's answer: the word, or a NaN that the world names. -/
def FAns (o : Option Nat) (r : Nat) : Prop := match o with
  | some x => r = x
  | none => NanW r

theorem nan_cut (x y t : Nat) : NanW (Question.cut (.nanBits .f64 x y) t) := by
  have hs : Ieee.double.signWeight = 2 ^ 63 := rfl
  have hi : dInf = 0x7ff0000000000000 := rfl
  have hm := Nat.mod_lt (t / 2) (show 0 < 2 ^ 52 - 1 by decide)
  refine ⟨t % 2 == 1, 0x7ff0000000000000 + 1 + (t / 2) % (2 ^ 52 - 1), ?_, by omega, by omega⟩
  unfold Question.cut dw Ieee.Format.word
  rcases Nat.mod_two_eq_zero_or_one t with h | h
  · simp [h]
  · simp only [h, hs, beq_self_eq_true, if_true]
    omega

theorem run_float_ans {P : Program} (w : World) (op : BinOp) (hop : op = .add ∨ op = .sub ∨ op = .mul ∨ op = .quo) (t : TypeId) (x y : Nat) :
    ∃ r n, (binOp op t (.float .f64 x) (.float .f64 y)).run P w = .ok (.float .f64 r) (w.drewN n) ∧ FAns (floatBits op .f64 x y) r := by
  cases h : floatBits op .f64 x y with
  | some r => exact ⟨r, 0, run_float_arith w op t .f64 x y r h, rfl⟩
  | none =>
    refine ⟨Question.cut (.nanBits .f64 x y) (w.tape w.drawn (.nanBits .f64 x y)), 1, ?_, nan_cut ..⟩
    unfold floatBits at h
    rcases hop with rfl | rfl | rfl | rfl <;> simp only at h <;> simp [binOp, Op.floatArith, h, Question.forced, Result.andThen] <;> rfl

/-- A law for the walk: + - * / of floats. -/
theorem wpList_float {P : Program} {w : World} {ops : Array Oper} {rest : List Oper} {o : Oper} {a : Act} {Q : Exit → Act → World → Prop} (hgd : o.guard = none) (op : BinOp) (hop : op = .add ∨ op = .sub ∨ op = .mul ∨ op = .quo)
    (t t2 : TypeId) (A B : Operand) (ho : o.op = .binOp op t A B t2) (x y : Nat) (hx : a.eval A = .float .f64 x) (hy : a.eval B = .float .f64 y)
    (h : ∀ r n, Hid (FAns (floatBits op .f64 x y) r) → wpList P ops Q rest (a.put o.dst (.float .f64 r)) (w.drewN n)) :
    wpList P ops Q (o :: rest) a w := by
  refine wpList_plain hgd fun K hK => ?_
  obtain ⟨r, n, hrun, hr⟩ := run_float_ans (P := P) w op hop t x y
  unfold Oper.wp
  have hg : (eqGuard op t A B (.float .f64 x) (.float .f64 y)).run P w = .ok () w := by
    rcases hop with rfl | rfl | rfl | rfl <;> simp [eqGuard]
  simp [execOp, ho, hx, hy, hg, hrun, Result.andThen]
  exact hK _ _ (h r n hr)
end Go.Proofs.Ytoffepagogmkkaa
