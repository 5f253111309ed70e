/- Walks of the pen: Num. -/
import Derived.Test.YtoglcohdanpciaaPenA
namespace Go.Proofs.Ytoglcohdanpciaa
open Go.RowKit

/-- Byte k of x in n bytes, the highest first. -/
def byteOf (x : Int) (n k : Nat) : Int := (x / 2 ^ (8 * (n - 1 - k))) % 256
def be (x : Int) (n : Nat) : List Int := (List.range n).map (byteOf x n)
def seven (x : Int) (n k : Nat) : Array Value := ((List.range 7).map fun i => Value.int .u8 (if i < k then byteOf x n i else 0)).toArray

theorem seven_zero (x : Int) (n : Nat) : seven x n 0 = #[Value.int .u8 0, Value.int .u8 0, Value.int .u8 0, Value.int .u8 0, Value.int .u8 0, Value.int .u8 0, Value.int .u8 0] := by
  simp [seven, List.range, List.range.loop]

theorem seven_get (x : Int) (n k i : Nat) (h : i < 7) : (seven x n k)[i]? = some (.int .u8 (if i < k then byteOf x n i else 0)) := by
  simp [seven, h]

theorem seven_size (x : Int) (n k : Nat) : (seven x n k).size = 7 := by simp [seven]

theorem seven_set (x : Int) (n k : Nat) (h : k < 7) : (seven x n k).setIfInBounds k (.int .u8 (byteOf x n k)) = seven x n (k + 1) := by
  apply Array.ext_getElem?
  intro i
  rw [Array.getElem?_setIfInBounds, seven_size]
  by_cases hi : i < 7
  · rw [seven_get _ _ _ _ hi, seven_get _ _ _ _ hi]
    by_cases e : k = i
    · subst e; simp [h]
    · rw [if_neg e]
      congr 2
      by_cases hik : i < k
      · rw [if_pos hik, if_pos (by omega)]
      · rw [if_neg hik, if_neg (by omega)]
  · rw [Array.getElem?_eq_none (by rw [seven_size]; omega), Array.getElem?_eq_none (by rw [seven_size]; omega)]
    rw [if_neg (by omega)]

theorem be_length (x : Int) (n : Nat) : (be x n).length = n := by simp [be]
theorem be_byte (x : Int) (n : Nat) : ∀ z ∈ be x n, 0 ≤ z ∧ z ≤ 255 := by
  intro z hz
  obtain ⟨k, _, rfl⟩ := List.mem_map.1 hz
  unfold byteOf
  omega

theorem row_new {w : World} (x : Int) (n : Nat) (h7 : n ≤ 7) (T : TypeId) :
    RowAt (w.alloc (.cells (seven x n n) T)) (.slice (some ⟨w.heap.size, 0, none⟩) n 7) (be x n) := by
  refine ⟨some ⟨w.heap.size, 0, none⟩, 7, by rw [be_length], by rw [be_length]; omega, by unfold maxLen; omega, by simp, be_byte x n, ?_⟩
  rintro ad had j u hu
  obtain rfl := Option.some.inj had
  have hj : j < n := by
    have := (List.getElem?_eq_some_iff.1 hu).1
    simpa [be_length] using this
  have e1 : ((⟨w.heap.size, 0, none⟩ : Addr).add j) = ⟨w.heap.size, j, none⟩ := by unfold Addr.add; split <;> simp_all
  rw [e1, cell_of_row _ _ j _ _ _ (heap_alloc_new w _)]
  rw [seven_get _ _ _ _ (by omega), if_pos hj]
  rw [← hu]
  simp only [be, List.getElem?_map, List.getElem?_range hj, Option.map_some]

theorem len7 : Try.prog.arrayLen 211 = 7 := by kernel_rfl
theorem elem7 : Try.prog.elem 211 = 5 := by kernel_rfl

theorem slice7 (k : Nat) (hk : k ≤ 7) (b : Nat) (w : World) :
    (Instr.sliceAt 211 (.pointer (some ⟨b, 0, none⟩)) none (some (.int .i64 (k : Int))) none).run Try.prog w = .ok (.slice (some ⟨b, 0, none⟩) k 7) w := by
  obtain ⟨i0, hi, hz0, hz1, hz2⟩ := info_parts info5
  rw [run_sliceAt_array_h w 211 ⟨b, 0, none⟩ (by rw [len7, elem7]; exact Try.underlying211) .i64 k (by omega) (by rw [len7]; omega)]
  rw [elem7, len7]
  simp [sizeOf, typeInfo, hi, Result.andThen, slicedAt, Addr.add]

set_option maxHeartbeats 400000 in
theorem num_ok (w : World) (B p : Nat) (v : Value) (zs : List Int) (bad x : Int) (n : Nat) (h : PenAt w B 172 5 p v zs bad) (hB : B ≤ w.heap.size)
    (h1 : 1 ≤ n) (h7 : n ≤ 7) (hx : 0 ≤ x) (hs : (x / 2 ^ (8 * n) != 0) = false) :
    Calls Try.prog 106 #[.pointer (some ⟨p, 0, none⟩), .int .i64 x, .int .i64 n] w (PenPost w B 172 5 p v (penAdd (be x n) (zs, bad))) := by
  have H := hid h
  have d1 : decide ((n : Int) < 1) = false := by simp; omega
  have d2 : decide (7 < (n : Int)) = false := by simp; omega
  have d3 : decide (x < 0) = false := by simp; omega
  have hz := seven_zero x n
  have HZ := hid hz
  have HR := hid (row_new (w := w) x n h7 211)
  clear h hz
  go_enter Try.func106, Try.ntmps106
  go_wp2_with fail
  rw [← HZ.out]
  go_loopw [28] (fun i wr => ∃ k : Nat, k ≤ n ∧ i = .int .i64 k ∧ wr = w.alloc (.cells (seven x n k) 211)) (fun i _ => n - (intOf i).toNat)
  case atStart => exact ⟨0, Nat.zero_le _, rfl, rfl⟩
  case round =>
    obtain ⟨k, hk, rfl, rfl⟩ := hrel
    by_cases hlt : k < n
    · have hg : (seven x n k)[k]? = some (.int .u8 0) := by rw [seven_get _ _ _ _ (by omega), if_neg (by omega)]
      have HS := hid (seven_set x n k (by omega))
      go_wp2_with fail
      go_roundw
      case rel => exact ⟨k + 1, by omega, by go_num, by rw [← HS.out]; rfl⟩
      case measure => simp [intOf]; omega
    · have : k = n := by omega
      subst this
      have hsl := slice7 k (by omega)
      go_wp2_with fail
      refine (add_any _ B p v zs bad _ (be x k) (H.out.keep ((Keeps.refl [] w).alloc _) (by simp) (by simp)) HR.out (by simp; omega)).mono ?_
      rintro e w' ⟨rfl, hq⟩
      go_wp2_with fail
      go_end0
      obtain ⟨v', q1, q2, q3⟩ := hq
      refine ⟨rfl, v', q1, ?_, ?_⟩
      · exact ((Keeps.refl _ w).alloc _).trans q2
      · rcases q3 with q3 | q3
        · exact Or.inl q3
        · exact Or.inr fun k hk => by have := q3 k hk; simp at this; omega

def penNum (x n : Int) (s : List Int × Int) : List Int × Int :=
  if 1 ≤ n ∧ n ≤ 7 ∧ 0 ≤ x ∧ x / 2 ^ (8 * n.toNat) = 0 then penAdd (be x n.toNat) s else penFail 1 s

set_option maxHeartbeats 400000 in
/-- A width or a number that may not be: each way in which the test says yes. -/
theorem num_bad (w : World) (B p : Nat) (v : Value) (zs : List Int) (bad x n : Int) (h : PenAt w B 172 5 p v zs bad)
    (hn : ¬ (1 ≤ n ∧ n ≤ 7 ∧ 0 ≤ x ∧ x / 2 ^ (8 * n.toNat) = 0)) :
    Calls Try.prog 106 #[.pointer (some ⟨p, 0, none⟩), .int .i64 x, .int .i64 n] w (PenPost w B 172 5 p v (penFail 1 (zs, bad))) := by
  have H := hid h
  clear h
  by_cases a1 : n < 1
  · have d1 : decide (n < 1) = true := by simpa using a1
    clear hn
    go_enter Try.func106, Try.ntmps106
    go_wp2_with fail
    refine (give_any _ B p v zs bad 1 H.out).mono ?_
    rintro e w' ⟨rfl, hq⟩
    go_wp2_with fail
    go_end0
    exact ⟨rfl, hq⟩
  · have d1 : decide (n < 1) = false := by simpa using a1
    by_cases a2 : 7 < n
    · have d2 : decide (7 < n) = true := by simpa using a2
      clear hn
      go_enter Try.func106, Try.ntmps106
      go_wp2_with fail
      refine (give_any _ B p v zs bad 1 H.out).mono ?_
      rintro e w' ⟨rfl, hq⟩
      go_wp2_with fail
      go_end0
      exact ⟨rfl, hq⟩
    · have d2 : decide (7 < n) = false := by simpa using a2
      by_cases a3 : x < 0
      · have d3 : decide (x < 0) = true := by simpa using a3
        clear hn
        go_enter Try.func106, Try.ntmps106
        go_wp2_with fail
        refine (give_any _ B p v zs bad 1 H.out).mono ?_
        rintro e w' ⟨rfl, hq⟩
        go_wp2_with fail
        go_end0
        exact ⟨rfl, hq⟩
      · have d3 : decide (x < 0) = false := by simpa using a3
        obtain ⟨k, rfl⟩ := Int.eq_ofNat_of_zero_le (show 0 ≤ n by omega)
        have d4 : (x / 2 ^ (8 * k) != 0) = true := by
          rw [bne_iff_ne]
          intro e
          exact hn ⟨by omega, by omega, by omega, by simpa using e⟩
        clear hn
        go_enter Try.func106, Try.ntmps106
        go_wp2_with fail
        refine (give_any _ B p v zs bad 1 H.out).mono ?_
        rintro e w' ⟨rfl, hq⟩
        go_wp2_with fail
        go_end0
        exact ⟨rfl, hq⟩

theorem num_any (w : World) (B p : Nat) (v : Value) (zs : List Int) (bad x n : Int) (h : PenAt w B 172 5 p v zs bad) (hB : B ≤ w.heap.size) :
    Calls Try.prog 106 #[.pointer (some ⟨p, 0, none⟩), .int .i64 x, .int .i64 n] w (PenPost w B 172 5 p v (penNum x n (zs, bad))) := by
  by_cases hn : 1 ≤ n ∧ n ≤ 7 ∧ 0 ≤ x ∧ x / 2 ^ (8 * n.toNat) = 0
  · have e1 : penNum x n (zs, bad) = penAdd (be x n.toNat) (zs, bad) := by rw [penNum, if_pos hn]
    rw [e1]
    obtain ⟨k, rfl⟩ := Int.eq_ofNat_of_zero_le (show 0 ≤ n by omega)
    exact num_ok w B p v zs bad x k h hB (by omega) (by omega) hn.2.2.1 (by have := hn.2.2.2; simpa using this)
  · have e1 : penNum x n (zs, bad) = penFail 1 (zs, bad) := by rw [penNum, if_neg hn]
    rw [e1]
    exact num_bad w B p v zs bad x n h hn
end Go.Proofs.Ytoglcohdanpciaa
