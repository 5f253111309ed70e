/- Numbers written and read, plainly: what is written is read, and what is read was written (for every layer). -/
import Derived.Test.YtoglcohdanpciaaEyeL
import Derived.Test.YtoglcohdanpciaaRefA
namespace Go.Proofs.Ytoglcohdanpciaa
open Go.RowKit
set_option maxRecDepth 100000
set_option linter.unusedSimpArgs false

/-- A number that so many bytes hold. -/
def FitN (x : Int) (n : Nat) : Prop := 1 ≤ n ∧ n ≤ 7 ∧ 0 ≤ x ∧ x < 256 ^ n
theorem pow256 (n : Nat) : (256 : Int) ^ n = 2 ^ (8 * n) := by rw [show (256 : Int) = 2 ^ 8 from rfl, ← Int.pow_mul]
theorem penNum_fit {x : Int} {n : Nat} (m : Int) (hm : m = (n : Int)) (h : FitN x n) {s : List Int} (hl : s.length + n ≤ 65536) : penNum x m (s, 0) = (s ++ be x n, 0) ∧ refNum x m (s, 0) = (s ++ be x n, 0) := by
  subst hm
  obtain ⟨h1, h7, h0, hx⟩ := h
  have hlen := be_length x n
  have hx' : x < 2 ^ (8 * (n : Int).toNat) := by rw [Int.toNat_natCast, ← pow256]; exact hx
  have hd : x / 2 ^ (8 * (n : Int).toNat) = 0 := Int.ediv_eq_zero_of_lt h0 hx'
  constructor
  · unfold penNum penAdd
    rw [if_pos ⟨by omega, by omega, h0, hd⟩, if_neg (by simp), Int.toNat_natCast, if_neg (by rw [hlen]; simp; omega)]
  · unfold refNum refAdd
    rw [if_pos rfl, if_pos ⟨by omega, by omega, h0, hx'⟩, if_pos rfl, Int.toNat_natCast, if_neg (by rw [hlen]; simp; omega)]
/-- What is written is read. -/
theorem numE_be {x : Int} {n : Nat} (m : Int) (hm : m = (n : Int)) (h : FitN x n) (r : List Int) : numE m (be x n ++ r, 0) = (x, (r, 0)) := by
  subst hm
  obtain ⟨h1, h7, h0, hx⟩ := h
  unfold numE after rdNum
  rw [if_neg (by simp), if_neg (by omega), Int.toNat_natCast, if_neg (by rw [List.length_append, be_length]; omega)]
  simp only
  rw [show (be x n ++ r).take n = be x n by rw [List.take_append_of_le_length (by rw [be_length]; exact Nat.le_refl _), List.take_of_length_le (by rw [be_length]; exact Nat.le_refl _)], val_be n x h0 hx, show (be x n ++ r).drop n = r by rw [List.drop_append_of_le_length (by rw [be_length]; exact Nat.le_refl _), List.drop_of_length_le (by rw [be_length]; exact Nat.le_refl _), List.nil_append]]
  rfl
/-- Too few bytes: the eye gives up. -/
theorem numE_short {n : Nat} (m : Int) (hm : m = (n : Int)) (h1 : 1 ≤ n) (h7 : n ≤ 7) {zs : List Int} (hl : zs.length < n) : numE m (zs, 0) = (0, (zs, 2)) := by
  subst hm
  unfold numE after rdNum
  rw [if_neg (by simp), if_neg (by omega), Int.toNat_natCast, if_pos hl]
  rfl
/-- An eye that has given up stays so. -/
theorem numE_stay (n : Int) {st : PSt} (h : st.2 ≠ 0) : numE n st = (0, st) := by
  obtain ⟨zs, b⟩ := st
  unfold numE after
  rw [if_pos h]
  rfl
theorem be_val : ∀ (n : Nat) (zs : List Int), zs.length = n → (∀ z ∈ zs, 0 ≤ z ∧ z ≤ 255) → be (val zs) n = zs
  | 0, zs, h, _ => by rw [List.eq_nil_of_length_eq_zero h]; rfl
  | n + 1, zs, h, hb => by
    obtain ⟨ys, y, rfl⟩ : ∃ ys y, zs = ys ++ [y] := by
      have hne : zs ≠ [] := by intro e; rw [e] at h; simp at h
      exact ⟨zs.dropLast, zs.getLast hne, (List.dropLast_concat_getLast hne).symm⟩
    have hy := hb y (by simp)
    have ih := be_val n ys (by simpa using h) (fun z hz => hb z (by simp [hz]))
    rw [val_snoc, be_succ, show (val ys * 256 + y) / 256 = val ys by omega, ih, show (val ys * 256 + y) % 256 = y by omega]
/-- What is read was written. -/
theorem numE_ok {n : Nat} (m : Int) (hm : m = (n : Int)) (h1 : 1 ≤ n) (h7 : n ≤ 7) {zs : List Int} (hb : ∀ z ∈ zs, 0 ≤ z ∧ z ≤ 255) (hz : (numE m (zs, 0)).2.2 = 0) :
    zs = be (numE m (zs, 0)).1 n ++ (numE m (zs, 0)).2.1 ∧ FitN (numE m (zs, 0)).1 n := by
  subst hm
  rcases Nat.lt_or_ge zs.length n with hl | hl
  · rw [numE_short _ rfl h1 h7 hl] at hz; cases hz
  · have e : numE n (zs, 0) = (val (zs.take n), (zs.drop n, 0)) := by
      unfold numE after rdNum
      rw [if_neg (by simp), if_neg (by omega), Int.toNat_natCast, if_neg (by simp only; omega)]
      rfl
    have ht : (zs.take n).length = n := by rw [List.length_take]; omega
    have hbt : ∀ z ∈ zs.take n, 0 ≤ z ∧ z ≤ 255 := fun z hz => hb z (List.mem_of_mem_take hz)
    rw [e]
    refine ⟨?_, h1, h7, val_bound n _ ht hbt⟩
    simp only
    rw [be_val n _ ht hbt, List.take_append_drop]
theorem numE_bytes (n : Int) {st : PSt} (h : ∀ z ∈ st.1, 0 ≤ z ∧ z ≤ 255) : ∀ z ∈ (numE n st).2.1, 0 ≤ z ∧ z ≤ 255 := by
  unfold numE after rdNum
  split
  · exact h
  · split
    · exact h
    · rename_i heq
      split at heq
      · cases heq
      · split at heq
        · cases heq
        · injection heq with heq
          injection heq with e1 e2
          simp only
          rw [← e2]
          exact fun z hz => h z (List.mem_of_mem_drop hz)
theorem numE_bad {n : Nat} (m : Int) (hm : m = (n : Int)) (h1 : 1 ≤ n) (h7 : n ≤ 7) (st : PSt) : (numE m st).2.2 = 0 ∨ (numE m st).2.2 = (if st.2 = 0 then 2 else st.2) := by
  subst hm
  obtain ⟨zs, b⟩ := st
  by_cases hb : b = 0
  · subst hb
    rcases Nat.lt_or_ge zs.length n with hl | hl
    · rw [numE_short _ rfl h1 h7 hl]; right; rfl
    · left
      unfold numE after rdNum
      rw [if_neg (by simp), if_neg (by omega), Int.toNat_natCast, if_neg (by simp only; omega)]
  · right
    rw [numE_stay n hb, if_neg hb]
theorem numE_was {n : Int} {st : PSt} (h : (numE n st).2.2 = 0) : st.2 = 0 := by
  by_cases hb : st.2 = 0
  · exact hb
  · rw [numE_stay n hb] at h; exact absurd h hb

end Go.Proofs.Ytoglcohdanpciaa
