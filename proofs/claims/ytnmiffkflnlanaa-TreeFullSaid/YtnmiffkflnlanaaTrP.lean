/- TreeFull: label. -/
import Derived.Test.YtnmiffkflnlanaaTrO
import Derived.Laws.BytesArg
namespace Go.Proofs.Ytnmiffkflnlanaa
open Go.RowKit
set_option maxRecDepth 100000

theorem conv_one (w : World) (z : Int) : (convert 47 9 (.slice (some ⟨w.heap.size, 0, none⟩) 1 1)).run Try.prog (w.alloc (.cells #[.int .u8 z] 5)) = .ok (.string (strOfNums [z])) (w.alloc (.cells #[.int .u8 z] 5)) :=
  run_convert_bytes_arg _ 47 5 Try.underlying47 Try.underlying5 w.heap.size 0 1 1 [z] rfl (fun j hj => by
    obtain rfl : j = 0 := by omega
    rw [cell_of_row _ _ (0 + 0) _ _ (0, 0) (heap_alloc_new w _)]
    rfl) 9 Try.underlying9
theorem app_bytes (a b : List UInt8) : (⟨a.toArray⟩ : ByteArray) ++ ⟨b.toArray⟩ = ⟨(a ++ b).toArray⟩ := by
  apply ByteArray.ext
  rw [ByteArray.data_append]
  simp
theorem add_bstr (a b : List UInt8) (w : World) (h : a.length + b.length ≤ 8388608) : (Go.binOp .add 9 (bstr a) (bstr b)).run Try.prog w = .ok (bstr (a ++ b)) w := by
  unfold bstr
  rw [← app_bytes, binOp_string_add]
  have e : ∀ l : List UInt8, (⟨l.toArray⟩ : ByteArray).size = l.length := fun l => by show l.toArray.size = l.length; simp
  exact run_string_add w ⟨a.toArray⟩ ⟨b.toArray⟩ (by rw [e]; omega) (by rw [e]; omega)
def dig (m : Nat) : UInt8 := UInt8.ofNat (97 + m % 10)
theorem str_one (m : Nat) : Value.string (strOfNums [97 + (m : Int) % 10]) = bstr [dig m] := by
  unfold bstr strOfNums dig
  have : (97 + (m : Int) % 10).toNat = 97 + m % 10 := by omega
  simp [this]
theorem add_one (m : Nat) (l : List UInt8) (w : World) (h : l.length ≤ 1000) : (Go.binOp .add 9 (.string (strOfNums [97 + (m : Int) % 10])) (bstr l)).run Try.prog w = .ok (bstr (dig m :: l)) w := by
  rw [str_one, add_bstr _ _ _ (by simp; omega)]
  rfl
/-- The last k letters of a number's name. -/
def labN : Nat → Nat → List UInt8
  | _, 0 => []
  | n, k + 1 => dig (n / 10 ^ k) :: labN n k
theorem labN_len : ∀ (n k : Nat), (labN n k).length = k
  | _, 0 => rfl
  | n, k + 1 => by rw [labN, List.length_cons, labN_len n k]
set_option maxHeartbeats 1600000 in
theorem label_any (w : World) (n : Nat) (hn : n < 1000) : Calls Try.prog 25 #[numN n] w fun e w' => e = .returned (bstr (labN n 3)) ∧ Keeps [] w w' := by
  go_enter Try.func25, Try.ntmps25
  go_wp2_with fail
  go_loopw [0, 3, 4] (fun nv sv iv wr => ∃ k : Nat, k ≤ 3 ∧ iv = .int .i64 k ∧ nv = numN (n / 10 ^ k) ∧ sv = bstr (labN n k) ∧ Keeps [] w wr) (fun _ _ iv _ => 3 - (intOf iv).toNat)
  case atStart => exact ⟨0, by omega, rfl, by simp, rfl, Keeps.refl _ _⟩
  case round =>
    obtain ⟨k, hk, rfl, rfl, rfl, hkp⟩ := hrel
    have HK := hid hkp
    clear hkp
    by_cases hlt : k < 3
    · obtain ⟨m, hm⟩ : ∃ m, m = n / 10 ^ k := ⟨_, rfl⟩
      have HMM := hid (show n / 10 ^ (k + 1) = m / 10 by rw [hm, Nat.div_div_eq_div_mul, Nat.pow_succ])
      have HLB := hid (show labN n (k + 1) = dig m :: labN n k by rw [labN, hm])
      have hmb : m ≤ 1000 := by rw [hm]; exact Nat.le_trans (Nat.div_le_self _ _) (by omega)
      rw [← hm]
      clear hm
      have CV := conv_one wr (97 + (m : Int) % 10)
      have CA := add_one m (labN n k)
      have CA := fun w => CA w (by rw [labN_len]; omega)
      go_wp2_with fail
      go_roundw
      case rel =>
        refine ⟨k + 1, by omega, by go_num, ?_, by rw [HLB.out], HK.out.alloc _⟩
        rw [HMM.out]
        go_num
      case measure => simp [intOf]; omega
    · have : k = 3 := by omega
      subst this
      go_wp2_with fail
      go_ret
      exact ⟨rfl, HK.out⟩
end Go.Proofs.Ytnmiffkflnlanaa
