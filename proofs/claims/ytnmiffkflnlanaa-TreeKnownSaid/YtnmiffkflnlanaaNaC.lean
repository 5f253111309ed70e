/- name: May, and the reference's MayName. -/
import Derived.Test.YtnmiffkflnlanaaNaA
import Derived.Test.YtnmiffkflnlanaaShelf
import Derived.Test.YtnmiffkflnlanaaBase
namespace Go.Proofs.Ytnmiffkflnlanaa
open Go.RowKit

theorem ret_bool {a b : Bool} (h : a = b) : Ending.returned (.bool a) = .returned (.bool b) := by rw [h]

theorem mayN_is (l : List UInt8) : mayN l = true ↔ 1 ≤ l.length ∧ l.length ≤ 12 ∧ l ≠ [46] ∧ l ≠ [46, 46] ∧ Lib.indexByte l 0 < 0 ∧ Lib.indexByte l 47 < 0 := by
  rw [indexByte_neg, indexByte_neg]
  unfold mayN
  simp only [Bool.and_eq_true, decide_eq_true_eq, List.all_eq_true, bne_iff_ne]
  constructor
  · rintro ⟨⟨⟨⟨h1, h2⟩, h3⟩, h4⟩, h5⟩
    exact ⟨h1, h2, h3, h4, fun x hx => (h5 x hx).1, fun x hx => (h5 x hx).2⟩
  · rintro ⟨h1, h2, h3, h4, h5, h6⟩
    exact ⟨⟨⟨⟨h1, h2⟩, h3⟩, h4⟩, fun x hx => ⟨h5 x hx, h6 x hx⟩⟩
theorem mayN_no {l : List UInt8} (h : ¬ (1 ≤ l.length ∧ l.length ≤ 12 ∧ l ≠ [46] ∧ l ≠ [46, 46] ∧ Lib.indexByte l 0 < 0 ∧ Lib.indexByte l 47 < 0)) : mayN l = false := by
  rw [← Bool.not_eq_true, mayN_is]; exact h
theorem size_list (s : ByteArray) : s.data.toList.length = s.size := by rw [Array.length_toList]; rfl

set_option maxHeartbeats 400000 in
theorem may_any (s : ByteArray) (w : World) (hs : s.size ≤ maxLen) :
    Calls Try.prog 73 #[.string s] w fun e w' => e = .returned (.bool (mayN s.data.toList)) ∧ w' = w := by
  unfold maxLen at hs
  have HL := hid (size_list s)
  by_cases h12 : 1 ≤ s.size ∧ s.size ≤ 12
  · obtain ⟨h1, h2⟩ := h12
    go_enter Try.func73, Try.ntmps73
    go_wp2_with (go_at_call 93; refine (Try.strings_IndexByte _ _ _).mono ?_; rintro e w' ⟨rfl, rfl⟩)
    · have h : s.toList = [46] := by assumption
      rw [Lib.toList_data] at h
      go_ret
      exact ⟨ret_bool (mayN_no (by simp [h])).symm, rfl⟩
    · have h : (s.toList == [46]) = true ∨ (s.toList == [46, 46]) = true := by assumption
      rw [Lib.toList_data] at h
      simp only [beq_iff_eq] at h
      go_ret
      exact ⟨ret_bool (mayN_no (by rcases h with h | h <;> simp [h])).symm, rfl⟩
    · have h3 : ¬ s.toList = [46] := by assumption
      have h4 : (s.toList == [46]) = false ∧ (s.toList == [46, 46]) = false := by assumption
      have h5 : Lib.indexByte s.data.toList 0 < 0 := by assumption
      rw [Lib.toList_data] at h3 h4
      have h6 : s.data.toList ≠ [46, 46] := by simpa using h4.2
      go_ret
      refine ⟨ret_bool ?_, rfl⟩
      by_cases h7 : Lib.indexByte s.data.toList 47 < 0
      · rw [(mayN_is _).2 ⟨by rw [HL.out]; exact h1, by rw [HL.out]; exact h2, h3, h6, h5, h7⟩]
        simp [h7]
      · rw [mayN_no (fun h => h7 h.2.2.2.2.2)]
        simp [h7]
    · have h5 : 0 ≤ Lib.indexByte s.data.toList 0 := by assumption
      go_ret
      exact ⟨ret_bool (mayN_no (fun h => by have := h.2.2.2.2.1; omega)).symm, rfl⟩
  · rcases Nat.lt_or_ge s.size 1 with h1 | h1
    · go_enter Try.func73, Try.ntmps73
      go_wp2_with fail
      go_ret
      exact ⟨ret_bool (mayN_no (by rw [HL.out]; omega)).symm, rfl⟩
    · have h2 : 12 < s.size := by omega
      go_enter Try.func73, Try.ntmps73
      go_wp2_with fail
      go_ret
      exact ⟨ret_bool (mayN_no (by rw [HL.out]; omega)).symm, rfl⟩

theorem mayN_all {l : List UInt8} (h1 : 1 ≤ l.length) (h2 : l.length ≤ 12) (h3 : l ≠ [46]) (h4 : l ≠ [46, 46]) (h5 : l.all (fun c => c != 0 && c != 47) = true) : mayN l = true := by
  unfold mayN
  simp only [Bool.and_eq_true, decide_eq_true_eq, bne_iff_ne]
  exact ⟨⟨⟨⟨h1, h2⟩, h3⟩, h4⟩, h5⟩

theorem byte_nat {b c : UInt8} (h : b.toNat = c.toNat) : b = c := UInt8.toNat.inj h

set_option maxHeartbeats 1000000 in
theorem rmay_any (s : ByteArray) (w : World) (hs : s.size ≤ maxLen) :
    Calls Try.prog 71 #[.string s] w fun e w' => e = .returned (.bool (mayN s.data.toList)) ∧ w' = w := by
  unfold maxLen at hs
  have HL := hid (size_list s)
  by_cases h12 : 1 ≤ s.size ∧ s.size ≤ 12
  · obtain ⟨h1, h2⟩ := h12
    by_cases h3 : s.toList = [46] ∨ s.toList = [46, 46]
    · go_enter Try.func71, Try.ntmps71
      rcases h3 with h3 | h3
      · have hm := hid (show mayN s.data.toList = false from mayN_no (fun h => h.2.2.1 (by rw [← Lib.toList_data]; exact h3)))
        have h3a : (s.toList == [46]) = true := by simpa using h3
        clear h3
        go_wp2_with fail
        go_ret
        exact ⟨ret_bool hm.out.symm, rfl⟩
      · have hm := hid (show mayN s.data.toList = false from mayN_no (fun h => h.2.2.2.1 (by rw [← Lib.toList_data]; exact h3)))
        have h3b : (s.toList == [46, 46]) = true := by simpa using h3
        have h3a : (s.toList == [46]) = false := by rw [h3]; rfl
        clear h3
        go_wp2_with fail
        go_ret
        exact ⟨ret_bool hm.out.symm, rfl⟩
    · have h3a : (s.toList == [46]) = false := by simpa using fun h => h3 (Or.inl h)
      have h3b : (s.toList == [46, 46]) = false := by simpa using fun h => h3 (Or.inr h)
      have H3 := hid h3
      clear h3
      go_enter Try.func71, Try.ntmps71
      go_wp2_with fail
      go_loop [3] (fun i => ∃ k : Nat, k ≤ s.size ∧ i = .int .i64 k ∧ (s.data.toList.take k).all (fun c => c != 0 && c != 47) = true) (fun i => s.size - (intOf i).toNat)
      case atStart => exact ⟨0, Nat.zero_le _, rfl, rfl⟩
      case round =>
        obtain ⟨k, hk, rfl, hall⟩ := hrel
        have HA := hid hall
        clear hall
        by_cases hlt : k < s.size
        · have e1 := hid (show s.data.toList.take (k + 1) = s.data.toList.take k ++ [s[k]] by
            rw [List.take_succ_eq_append_getElem (by simpa using hlt)]; rfl)
          have hm := hid (show (s[k] = 0 ∨ s[k] = 47) → mayN s.data.toList = false from fun h => by
            have hin : s[k] ∈ s.data.toList := by
              rw [show s[k] = s.data.toList[k]'(by simpa using hlt) from rfl]; exact List.getElem_mem _
            refine mayN_no (fun g => ?_)
            rw [indexByte_neg, indexByte_neg] at g
            rcases h with h | h
            · exact g.2.2.2.2.1 _ hin h
            · exact g.2.2.2.2.2 _ hin h)
          go_wp2_with fail
          · have h : s[k].toNat = 0 := by assumption
            go_ret
            exact ⟨ret_bool (hm.out (Or.inl (byte_nat (by simpa using h)))).symm, rfl⟩
          · have h : ((s[k].toNat : Int) == 0) = true ∨ ((s[k].toNat : Int) == 47) = true := by assumption
            simp only [beq_iff_eq] at h
            go_ret
            exact ⟨ret_bool (hm.out (h.imp (fun h => byte_nat (c := 0) (by show s[k].toNat = 0; omega)) (fun h => byte_nat (c := 47) (by show s[k].toNat = 47; omega)))).symm, rfl⟩
          · have h : ((s[k].toNat : Int) == 0) = false ∧ ((s[k].toNat : Int) == 47) = false := by assumption
            go_round
            case rel =>
              refine ⟨k + 1, by omega, by go_num, ?_⟩
              rw [e1.out, List.all_append, HA.out]
              have g1 : s[k] ≠ 0 := fun e => by rw [e] at h; exact absurd h.1 (by decide)
              have g2 : s[k] ≠ 47 := fun e => by rw [e] at h; exact absurd h.2 (by decide)
              simp [g1, g2]
            case measure => simp [intOf]; omega
        · have : k = s.size := by omega
          subst this
          go_wp2_with fail
          go_ret
          refine ⟨ret_bool ?_, rfl⟩
          have := HA.out
          rw [List.take_of_length_le (by rw [HL.out]; exact Nat.le_refl _)] at this
          have H3' := H3.out
          rw [Lib.toList_data] at H3'
          exact (mayN_all (by rw [HL.out]; exact h1) (by rw [HL.out]; exact h2) (fun h => H3' (Or.inl h)) (fun h => H3' (Or.inr h)) this).symm
  · rcases Nat.lt_or_ge s.size 1 with h1 | h1
    · go_enter Try.func71, Try.ntmps71
      go_wp2_with fail
      go_ret
      exact ⟨ret_bool (mayN_no (by rw [HL.out]; omega)).symm, rfl⟩
    · have h2 : 12 < s.size := by omega
      go_enter Try.func71, Try.ntmps71
      go_wp2_with fail
      go_ret
      exact ⟨ret_bool (mayN_no (by rw [HL.out]; omega)).symm, rfl⟩
end Go.Proofs.Ytnmiffkflnlanaa
