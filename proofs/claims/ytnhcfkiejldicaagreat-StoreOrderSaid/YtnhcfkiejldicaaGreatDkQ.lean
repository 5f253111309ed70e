/- Image: all sectors as last written. -/
import Derived.Test.YtnhcfkiejldicaaGreatDkM
namespace Go.Proofs.YtnhcfkiejldicaaGreat
open Go.RowKit Go.Shelf
attribute [local go_sem] Oper.semAt_some

def imageL (f : Nat → Row) (n : Nat) : List Int := (List.range n).flatMap fun i => (f i).1
theorem imageL_len (f : Nat → Row) (n : Nat) : (imageL f n).length = n * 64 := by
  unfold imageL
  induction n with
  | zero => rfl
  | succ n ih => rw [List.range_succ, List.flatMap_append, List.length_append, ih]; simp [(f n).2.1]; omega
theorem imageL_byte (f : Nat → Row) (n : Nat) : ∀ z ∈ imageL f n, 0 ≤ z ∧ z ≤ 255 := by
  intro z hz
  simp only [imageL, List.mem_flatMap] at hz
  obtain ⟨i, _, hz⟩ := hz
  exact (f i).2.2 z hz

section
variable {F : Fence} {n : Nat} {ops : Array Oper} {rest : List Oper} {o : Oper} {a : Act} {w : World} {Q : Exit → Act → World → Prop}
theorem wpListIn_look (hgd : o.guard = none) (x y : Operand) (ho : o.op = .lookup 76 x y false) (m k cnt : Nat) (f : Nat → Row × Row) (h : MapIs w m k cnt f) (hx : a.eval x = .map (some m)) (i : Nat) (hi : i ≤ 9223372036854775807) (hy : a.eval y = .int .i64 i)
    (hK : wpListIn F n Tryz.prog ops Q rest (a.put o.dst (secV (f i).1 (f i).2)) w) : wpListIn F n Tryz.prog ops Q (o :: rest) a w :=
  wpListIn_is hgd (by simp [noDefer, ho]) (fun w => by simp [Oper.about, ho]) _ _ (exec_look x y ho hx hy (h.look i hi)) hK

theorem wpListIn_fieldNow (hgd : o.guard = none) (x : Operand) (ho : o.op = .field 116 x 0) (r s : Row) (hx : a.eval x = secV r s)
    (hK : wpListIn F n Tryz.prog ops Q rest (a.put o.dst (rowV r)) w) : wpListIn F n Tryz.prog ops Q (o :: rest) a w :=
  wpListIn_is hgd (by simp [noDefer, ho]) (fun w => by simp [Oper.about, ho]) _ _ (exec_fieldNow x ho hx) hK
end

end Go.Proofs.YtnhcfkiejldicaaGreat
