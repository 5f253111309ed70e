/- Plain facts on what a pen writes and an eye reads. -/
import Derived.Test.YtoglcohdanpciaaAwake
namespace Go.Proofs.Ytoglcohdanpciaa
open Go.RowKit

theorem be_zero (x : Int) : be x 0 = [] := rfl

theorem byteOf_succ (x : Int) (n k : Nat) (hk : k < n) : byteOf x (n + 1) k = byteOf (x / 256) n k := by
  unfold byteOf
  have e : n + 1 - 1 - k = (n - 1 - k) + 1 := by omega
  rw [e]
  have e2 : 8 * ((n - 1 - k) + 1) = 8 + 8 * (n - 1 - k) := by omega
  rw [e2, Int.pow_add]
  rw [show (2 : Int) ^ 8 = 256 from rfl, ← Int.ediv_ediv_of_nonneg (by omega)]

theorem be_succ (x : Int) (n : Nat) : be x (n + 1) = be (x / 256) n ++ [x % 256] := by
  unfold be
  rw [List.range_succ, List.map_append]
  congr 1
  · apply List.map_congr_left
    intro k hk
    exact byteOf_succ x n k (by simpa using hk)
  · simp [byteOf]

theorem val_be : ∀ (n : Nat) (x : Int), 0 ≤ x → x < 256 ^ n → val (be x n) = x
  | 0, x, h0, h1 => by
    simp at h1
    have : x = 0 := by omega
    subst this
    rfl
  | n + 1, x, h0, h1 => by
    rw [be_succ, val_snoc, val_be n (x / 256) (by omega) ?_]
    · omega
    · rw [Int.pow_succ] at h1
      generalize (256 : Int) ^ n = q at *
      omega

theorem be_one (x : Int) : be x 1 = [x % 256] := by rw [be_succ, be_zero]; rfl

theorem penNum_ok {x n : Int} {s : List Int × Int} (h1 : 1 ≤ n) (h7 : n ≤ 7) (hx : 0 ≤ x) (hd : x / 2 ^ (8 * n.toNat) = 0) (hs : s.2 = 0) (hl : s.1.length + n.toNat ≤ 65536) :
    penNum x n s = (s.1 ++ be x n.toNat, 0) := by
  unfold penNum
  rw [if_pos ⟨h1, h7, hx, hd⟩]
  unfold penAdd
  rw [if_neg (by simpa using hs), if_neg (by rw [be_length]; omega)]

def bit (b : Bool) : Int := if b then 1 else 0

theorem penBool_ok {b : Bool} {s : List Int × Int} (hs : s.2 = 0) (hl : s.1.length + 1 ≤ 65536) : penBool b s = (s.1 ++ [bit b], 0) := by
  unfold penBool
  cases b
  · rw [if_neg (by simp), penNum_ok (by omega) (by omega) (by omega) (by simp) hs (by simpa using hl)]
    rfl
  · rw [if_pos rfl, penNum_ok (by omega) (by omega) (by omega) (by decide) hs (by simpa using hl)]
    rfl

theorem penBool_full {b : Bool} {s : List Int × Int} (hs : s.2 = 0) (hl : 65536 < s.1.length + 1) : penBool b s = ([], 3) := by
  unfold penBool penNum
  rw [if_pos (by cases b <;> decide)]
  unfold penAdd
  rw [if_neg (by simpa using hs), if_pos (by rw [be_length]; simpa using hl)]

theorem penRaw_ok {bs : List Int} {s : List Int × Int} (hs : s.2 = 0) (h1 : bs.length ≤ 65535) (hl : s.1.length + 2 + bs.length ≤ 65536) :
    penRaw bs s = (s.1 ++ be bs.length 2 ++ bs, 0) := by
  unfold penRaw
  rw [if_neg (by omega), penNum_ok (by omega) (by omega) (by omega) ?_ hs (by simp; omega)]
  · unfold penAdd
    rw [if_neg (by simp), if_neg]
    · rfl
    · simp only [List.length_append, be_length]
      simp; omega
  · show (bs.length : Int) / 65536 = 0
    omega

theorem codes_strOf (zs : List Int) (h : ∀ z ∈ zs, 0 ≤ z ∧ z ≤ 255) : codes (strOfNums zs) = zs := by
  unfold codes
  rw [strOfNums_data, List.map_map]
  conv => rhs; rw [← List.map_id zs]
  apply List.map_congr_left
  intro z hz
  have := h z hz
  simp only [Function.comp, UInt8.toNat_ofNat', id]
  omega

/-- A row of noughts that has just been made. -/
theorem made_zero (n : Nat) : (madeCells #[Value.int .u8 0] (n * 1)).toList = (List.replicate n (0 : Int)).map (Value.int .u8) := by
  unfold madeCells
  rw [Nat.mul_one, Array.toList_map, Array.toList_range, List.map_replicate]
  apply List.ext_getElem
  · simp
  · intro i h1 h2
    simp [Nat.mod_one]

theorem rdCount_ok {most : Int} {bs rest : List Int} (h1 : bs.length ≤ 65535) (hm : (bs.length : Int) ≤ most) :
    rdCount most (be bs.length 2 ++ bs ++ rest) = .ok (bs, rest) := by
  have ht : (be bs.length 2 ++ bs ++ rest).take 2 = be bs.length 2 := by
    rw [List.append_assoc, List.take_append_of_le_length (by rw [be_length]; omega), List.take_of_length_le (by rw [be_length]; omega)]
  have hd : (be bs.length 2 ++ bs ++ rest).drop 2 = bs ++ rest := by
    rw [List.append_assoc]
    exact List.drop_left' (be_length _ _)
  have hv : val (be bs.length 2) = bs.length := val_be 2 _ (by omega) (by show (bs.length : Int) < 65536; omega)
  unfold rdCount
  rw [if_neg (by omega), if_neg (by simp only [List.length_append, be_length]; omega), ht, hd, hv, if_neg (by omega), if_neg (by simp)]
  simp

theorem rdCount_long {most : Int} {bs rest : List Int} (h0 : 0 ≤ most) (h1 : bs.length ≤ 65535) (hm : most < bs.length) :
    rdCount most (be bs.length 2 ++ bs ++ rest) = .error 3 := by
  have ht : (be bs.length 2 ++ bs ++ rest).take 2 = be bs.length 2 := by
    rw [List.append_assoc, List.take_append_of_le_length (by rw [be_length]; omega), List.take_of_length_le (by rw [be_length]; omega)]
  have hv : val (be bs.length 2) = bs.length := val_be 2 _ (by omega) (by show (bs.length : Int) < 65536; omega)
  unfold rdCount
  rw [if_neg (by omega), if_neg (by simp only [List.length_append, be_length]; omega), ht, hv, if_pos hm]
end Go.Proofs.Ytoglcohdanpciaa
