/- name: Texts, both Joins. -/
import Derived.Test.YtnmiffkflnlanaaNaD
import Derived.Test.YtnmiffkflnlanaaNaW
import Derived.Deep.QuietTactic
import Derived.BigQuiet
namespace Go.Proofs.Ytnmiffkflnlanaa
open Go.RowKit
set_option maxRecDepth 100000

theorem bstr_of (b : List UInt8) : ∃ s : ByteArray, bstr b = .string s ∧ s.data.toList = b := ⟨_, rfl, by simp⟩
theorem take_snocS (L : List (List UInt8)) (k : Nat) (h : k < L.length) : L.take (k + 1) = L.take k ++ [L[k]] := List.take_succ_eq_append_getElem h

theorem joinR_snoc (L : List (List UInt8)) (k : Nat) (h : k < L.length) : joinR (L.take (k + 1)) = joinR (L.take k) ++ (47 :: L[k]) := by
  rw [take_snocS L k h, joinR, List.flatMap_append, List.flatMap_cons, List.flatMap_nil, List.append_nil]
  rfl
theorem joinR_le (L : List (List UInt8)) (k : Nat) : (joinR (L.take k)).length ≤ (joinR L).length := by
  have e : joinR L = joinR (L.take k) ++ joinR (L.drop k) := by
    unfold joinR
    rw [← List.flatMap_append, List.take_append_drop]
  rw [e]; simp

def JoinPost (L : List (List UInt8)) (w : World) (e : Ending) (w' : World) : Prop := e = .returned (bstr (joinN L)) ∧ Keeps [] w w'

theorem byteCells_snoc (l : List UInt8) : Lib.byteCells l ++ [Value.int .u8 47] = Lib.byteCells (l ++ [47]) := by simp [Lib.byteCells]
theorem byteCells_str (l : List UInt8) (s : ByteArray) : Lib.byteCells l ++ Lib.strCells s = Lib.byteCells (l ++ s.data.toList) := by simp [Lib.byteCells, Lib.strCells]
theorem byteCells_length (l : List UInt8) : (Lib.byteCells l).length = l.length := by simp [Lib.byteCells]

set_option maxHeartbeats 2000000 in
theorem join_any (w : World) (v : Value) (L : List (List UInt8)) (hx : SAt w v L) (ht : (joinR L).length ≤ 140737488351232) :
    Calls Try.prog 72 #[v] w (JoinPost L w) := by
  obtain ⟨a1, k1, rfl, z1, z2, z3⟩ := id hx
  unfold maxLen at z2
  have hl : L.length ≤ 9223372036854775807 := by omega
  clear z1 z2 z3
  have HX := hid hx
  clear hx
  by_cases h0 : L.length = 0
  · have hx0 : L = [] := List.eq_nil_of_length_eq_zero h0
    subst hx0
    clear HX h0 ht hl
    simp only [List.length_nil]
    go_enter Try.func72, Try.ntmps72
    go_wp2_with fail
    go_ret
    exact ⟨rfl, Keeps.refl _ _⟩
  · have h0' : ((L.length : Int) == 0) = false := by simpa using h0
    have HJ := hid (show bstr (joinN L) = .string ⟨(joinR L).toArray⟩ by rw [joinN, if_neg (fun e => h0 (by rw [e]; rfl))]; rfl)
    obtain ⟨g1, o1, c1, e1, _, hc1⟩ := HX.out.open (by omega)
    injection e1 with e1 _ _
    subst e1
    have HC1 := hid hc1
    have HF := hid (Lib.fresh_isBuilder 141 5 w)
    clear hc1
    go_enter Try.func72, Try.ntmps72
    go_wp2_with fail
    go_loopw [11] (fun i wr => ∃ k : Nat, k ≤ L.length ∧ i = .int .i64 k ∧ Hid (Lib.IsBuilder 141 5 w.heap.size w.heap.size (Lib.byteCells (joinR (L.take k))) wr) ∧ Hid (Below w.heap.size w wr)) (fun i _ => L.length - (intOf i).toNat)
    case atStart => exact ⟨0, Nat.zero_le _, rfl, HF.out, (Below.refl _ _).alloc (Nat.le_refl _) _⟩
    case round =>
      obtain ⟨k, hk, rfl, hB, hbl⟩ := hrel
      have hsz := hbl.out.size
      by_cases hlt : k < L.length
      · have d1 : wr.cell? ⟨g1, o1 + k, none⟩ = some (bstr L[k]) := by
          rw [hbl.out.cell (p := ⟨g1, o1 + k, none⟩) (World.block_lt_of_cell? _ _ (HC1.out k hlt))]; exact HC1.out k hlt
        obtain ⟨s1, e1, f1⟩ := bstr_of L[k]
        rw [e1] at d1
        have HJ2 := hid (show joinR (L.take (k + 1)) = (joinR (L.take k) ++ [47]) ++ s1.data.toList by rw [joinR_snoc L k hlt, f1]; simp)
        have hle := joinR_le L (k + 1)
        have hle2 := joinR_le L k
        rw [HJ2.out] at hle
        simp only [List.length_append, size_list, List.length_cons, List.length_nil] at hle
        clear e1 f1
        go_wp2_with (go_at_call 90; refine (wbyte_any _ _ _ 47 _ hB.out (by rw [byteCells_length]; omega) (by omega)).mono ?_)
        rintro e w1 ⟨rfl, hw1, hb1⟩
        have W1 := hid hw1
        have BL1 := hid (hbl.out.trans hb1)
        have hz1 := BL1.out.size
        clear hw1 hb1
        go_wp2_with (go_at_call 91; refine (wstr_any _ _ _ s1 _ (Or.inr W1.out) (by rw [List.length_append, byteCells_length]; simp; omega) (by omega)).mono ?_)
        rintro e w2 ⟨rfl, hw2, hb2⟩
        have W2 := hid hw2
        have BL2 := hid (BL1.out.trans hb2)
        clear hw2 hb2
        go_wp2_with fail
        go_roundw
        case rel =>
          refine ⟨k + 1, by omega, by go_num, ?_, BL2⟩
          have := W2.out
          rw [byteCells_snoc, byteCells_str, ← HJ2.out] at this
          exact Or.inr this
        case measure => simp [intOf]; omega
      · have hk' : k = L.length := by omega
        subst hk'
        rw [List.take_length] at hB
        go_wp2_with (go_at_call 92; refine (Try.Builder_String_any _ _ _ _ hB.out (by omega)).mono ?_)
        rintro e w1 ⟨rfl, hb1⟩
        have BL1 := hid (hbl.out.trans hb1)
        clear hb1
        go_wp2_with fail
        go_ret
        refine ⟨?_, ⟨BL1.out.os, BL1.out.tape, BL1.out.output, BL1.out.size, fun k hk _ => BL1.out.block k hk⟩⟩
        rw [HJ.out]
        rfl

theorem bytes_list (t : ByteArray) : (⟨t.data.toList.toArray⟩ : ByteArray) = t := by cases t; simp

end Go.Proofs.Ytnmiffkflnlanaa
