/- The walk of the reference's Same. -/
import Derived.Test.YtoglcohdanpciaaCore
import Derived.Deep.QuietTactic
import Derived.BigQuiet
namespace Go.Proofs.Ytoglcohdanpciaa
open Go.RowKit

set_option maxHeartbeats 400000 in
theorem same_any (w : World) (u v : Value) (xs ys : List Int) (hx : RowAt w u xs) (hy : RowAt w v ys) (hl : xs.length ≤ 35184372088832) (hl2 : ys.length ≤ 35184372088832) :
    Calls Try.prog 29 #[u, v] w fun e w' => e = .returned (.bool (decide (xs = ys))) ∧ ∃ n, w' = w.drewN n := by
  obtain ⟨a1, k1, rfl, z1⟩ := id hx
  obtain ⟨a2, k2, rfl, z2⟩ := id hy
  clear z1 z2
  have HX := hid hx
  have HY := hid hy
  clear hx hy
  by_cases hne : xs.length = ys.length
  · have hne' : ((xs.length : Int) != ys.length) = false := by simp [hne]
    by_cases h0 : xs.length = 0
    · have hx0 : xs = [] := List.eq_nil_of_length_eq_zero h0
      have hy0 : ys = [] := List.eq_nil_of_length_eq_zero (by omega)
      subst hx0; subst hy0
      clear hne hne' h0 hl hl2 HX HY
      simp only [List.length_nil]
      go_enter Try.func29, Try.ntmps29
      go_wp2_with fail
      refine wp_loop_rounds 1 ?_
      rw [rounds_succ]
      go_wp2_with fail
      go_ret
      exact ⟨by simp, 0, rfl⟩
    · obtain ⟨g1, o1, c1, e1, _, hc1⟩ := HX.out.open (by omega)
      obtain ⟨g2, o2, c2, e2, _, hc2⟩ := HY.out.open (by omega)
      injection e1 with e1 _ _
      injection e2 with e2 _ _
      subst e1; subst e2
      have HC1 := hid hc1
      have HC2 := hid hc2
      have HN := hid hne
      clear hc1 hc2 hne
      go_enter Try.func29, Try.ntmps29
      go_wp2_with fail
      go_loopw [5] (fun i wr => ∃ k n : Nat, k ≤ xs.length ∧ i = .int .i64 k ∧ wr = w.drewN n ∧ xs.take k = ys.take k) (fun i _ => xs.length - (intOf i).toNat)
      case atStart => exact ⟨0, 0, Nat.zero_le _, rfl, rfl, rfl⟩
      case round =>
        obtain ⟨k, n, hk, rfl, rfl, ht⟩ := hrel
        have HT := hid ht
        clear ht
        by_cases hlt : k < xs.length
        · have h2 : k < ys.length := by rw [← HN.out]; exact hlt
          have d1 := HC1.out k hlt
          have d2 := HC2.out k h2
          have HE := hid (show xs.getD k 0 = ys.getD k 0 ↔ xs.take (k + 1) = ys.take (k + 1) by
            rw [take_snoc xs k hlt, take_snoc ys k h2, HT.out]
            simp)
          generalize xs.getD k 0 = b1 at *
          generalize ys.getD k 0 = b2 at *
          by_cases hb : b1 = b2
          · have hb' : (b1 != b2) = false := by simp [hb]
            have HB := hid hb
            clear hb
            go_wp2_with fail
            go_quiet (fail)
            go_wp2_with fail
            go_roundw
            case rel => exact ⟨k + 1, n + nq, by omega, by go_num, rfl, HE.out.1 HB.out⟩
            case measure => simp [intOf]; omega
          · have hb' : (b1 != b2) = true := by simpa using hb
            have HB := hid hb
            clear hb
            go_wp2_with fail
            go_quiet (fail)
            go_wp2_with fail
            go_ret
            refine ⟨?_, n + nq, by simp⟩
            have hxy : xs ≠ ys := fun e => HB.out (HE.out.2 (by rw [e]))
            simp [hxy]
        · have : k = xs.length := by omega
          subst this
          go_wp2_with fail
          go_ret
          refine ⟨?_, n, rfl⟩
          have hxy : xs = ys := by
            have := HT.out
            rwa [List.take_length, List.take_of_length_le (by have := HN.out; omega)] at this
          simp [hxy]
  · have hne' : ((xs.length : Int) != ys.length) = true := by simp; omega
    have hxy : xs ≠ ys := fun e => hne (by rw [e])
    have HXY := hid hxy
    clear hxy hne
    go_enter Try.func29, Try.ntmps29
    go_wp2_with fail
    go_ret
    exact ⟨by simp [HXY.out], 0, rfl⟩
end Go.Proofs.Ytoglcohdanpciaa
