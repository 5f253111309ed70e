/- Plain facts on numbers: bytes joined into a number, and cut out of it; or and and on int. -/
import Derived.Test.YtjohikekhgcepaaCore
import Derived.Laws.BitsAllLaws
namespace Go.Proofs.Ytjohikekhgcepaa
open Go.RowKit

theorem ofInt_64 (a : Nat) (h : a < 9223372036854775808) : (BitVec.ofInt 64 (a : Int)).toNat = a := by
  rw [BitVec.toNat_ofInt]; omega

theorem i64_or (a b : Nat) (ha : a < 9223372036854775808) (hb : b < 9223372036854775808) : bits .or .i64 (a : Int) (b : Int) = ((a ||| b : Nat) : Int) := by
  have hx : a ||| b < 2 ^ 63 := Nat.or_lt_two_pow (by omega) (by omega)
  show IntKind.i64.wrap ((BitVec.ofInt 64 (a : Int) ||| BitVec.ofInt 64 (b : Int)).toNat : Int) = _
  rw [BitVec.toNat_or, ofInt_64 a ha, ofInt_64 b hb, IntWalk.i64_in]
  omega

theorem i64_and (a b : Nat) (ha : a < 9223372036854775808) (hb : b < 9223372036854775808) : bits .and .i64 (a : Int) (b : Int) = ((a &&& b : Nat) : Int) := by
  have hx : a &&& b ≤ a := Nat.and_le_left
  show IntKind.i64.wrap ((BitVec.ofInt 64 (a : Int) &&& BitVec.ofInt 64 (b : Int)).toNat : Int) = _
  rw [BitVec.toNat_and, ofInt_64 a ha, ofInt_64 b hb, IntWalk.i64_in]
  omega

theorem or_byte (x b : Int) (hx : 0 ≤ x) (hx2 : x ≤ 281474976710655) (hb : 0 ≤ b) (hb2 : b ≤ 255) : bits .or .i64 (x * 256) b = x * 256 + b := by
  obtain ⟨m, rfl⟩ := Int.eq_ofNat_of_zero_le hx
  obtain ⟨n, rfl⟩ := Int.eq_ofNat_of_zero_le hb
  have e : ((m : Int) * 256) = ((m * 256 : Nat) : Int) := by omega
  rw [e, i64_or (m * 256) n (by omega) (by omega)]
  have e2 : m * 256 ||| n = m * 256 + n := by
    have := Nat.shiftLeft_add_eq_or_of_lt (i := 8) (b := n) (by omega) m
    rw [Nat.shiftLeft_eq, show (2 : Nat) ^ 8 = 256 from rfl] at this
    omega
  rw [e2]
  omega

def val (zs : List Int) : Int := zs.foldl (fun x b => x * 256 + b) 0

theorem val_snoc (zs : List Int) (b : Int) : val (zs ++ [b]) = val zs * 256 + b := by simp [val]

theorem val_bound : ∀ (n : Nat) (zs : List Int), zs.length = n → (∀ z ∈ zs, 0 ≤ z ∧ z ≤ 255) → 0 ≤ val zs ∧ val zs < 256 ^ n
  | 0, zs, h, _ => by
    have : zs = [] := List.eq_nil_of_length_eq_zero h
    subst this
    simp [val]
  | n + 1, zs, h, hz => by
    have hne : zs ≠ [] := by intro e; subst e; simp at h
    have hs : zs = zs.dropLast ++ [zs.getLast hne] := (List.dropLast_concat_getLast hne).symm
    have ih := val_bound n zs.dropLast (by simp [h]) (fun z hm => hz z (List.dropLast_subset _ hm))
    have hl := hz _ (List.getLast_mem hne)
    rw [hs, val_snoc]
    generalize val zs.dropLast = v at *
    generalize zs.getLast hne = l at *
    have e : (256 : Int) ^ (n + 1) = 256 ^ n * 256 := by rw [Int.pow_succ]
    rw [e]
    generalize (256 : Int) ^ n = q at *
    omega

end Go.Proofs.Ytjohikekhgcepaa
