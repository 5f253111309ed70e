/- The walk of the law NameWithin. -/
import Derived.Test.YtjahfnebnnkgfaaNaPathsW
namespace Go.Proofs.Ytjahfnebnnkgfaa
open Go.RowKit

theorem within_law {a b c : List UInt8} (h : withinN a b = true) : (withinN b c = true → withinN a c = true) ∧ (withinN b a = true → a = b) :=
  ⟨fun k => withinN_trans h k, fun k => withinN_anti h k⟩
theorem within_self (a : List UInt8) : withinN a a = decide (splE a = 0) := by
  rw [withinN_refl, splE]
  cases splitN a <;> rfl

set_option maxHeartbeats 4000000 in
set_option maxRecDepth 100000 in
theorem k9Within_any (w : World) (s t u : ByteArray) (hs : s.size ≤ maxLen) (ht : t.size ≤ maxLen) (hu : u.size ≤ maxLen) : Calls Try.prog 6 #[.string s, .string t, .string u] w fun e w' => e = .returned (.bool true) ∧ Keeps [] w w' := by
  unfold maxLen at hs ht hu
  by_cases h300 : s.size ≤ 300 ∧ t.size ≤ 300 ∧ u.size ≤ 300
  · obtain ⟨h1, h2, h3⟩ := h300
    have A1 := hid (fun W => within_any s t W (by omega) (by omega))
    have A2 := hid (fun W => within_any t u W (by omega) (by omega))
    have A3 := hid (fun W => within_any s u W (by omega) (by omega))
    have A4 := hid (fun W => within_any t s W (by omega) (by omega))
    have A5 := hid (fun W => within_any s s W (by omega) (by omega))
    have A6 := hid (fun W => split_any s W (by omega))
    unfold WithinPost at A1 A2 A3 A4 A5
    rw [within_self] at A5
    have L1 := hid (fun c => @within_law s.data.toList t.data.toList c)
    have HE := hid (show s.data.toList = t.data.toList → (s.toList == t.toList) = true from fun h => by rw [Lib.toList_data, Lib.toList_data, h]; simp)
    have HR : decide (splE s.data.toList = 0) = ((splE s.data.toList : Int) == 0) := by rw [Bool.eq_iff_iff]; simp
    rw [HR] at A5
    clear HR
    cases hx : withinN s.data.toList t.data.toList
    · rw [hx] at A1
      clear hx L1 HE A4
      generalize withinN t.data.toList u.data.toList = y at A2
      generalize withinN s.data.toList u.data.toList = z at A3
      go_enter Try.func6, Try.ntmps6
      go_wp2_with (go_at_call 8; refine (awake9_any w).mono ?_; rintro e w1 ⟨rfl, k1⟩)
      have K1 := hid k1
      clear k1
      go_wp2_with (go_at_call 11; refine (A1.out _).mono ?_)
      rintro e w2 ⟨rfl, k2⟩
      have K2 := hid (K1.out.trans k2)
      clear k2
      go_wp2_with (go_at_call 11; refine (A2.out _).mono ?_)
      rintro e w3 ⟨rfl, k3⟩
      have K3 := hid (K2.out.trans k3)
      clear k3
      go_wp2_with (go_at_call 11; refine (A3.out _).mono ?_)
      rintro e w4 ⟨rfl, k4⟩
      have K4 := hid (K3.out.trans k4)
      clear k4
      go_wp2_with (go_at_call 9; refine (A6.out _).mono ?_)
      intro e w5 q
      obtain ⟨aa, cc, rfl, _, k5⟩ := q.any
      have K5 := hid (K4.out.trans k5)
      clear k5 q
      go_wp2_with (go_at_call 11; refine (A5.out _).mono ?_)
      rintro e w6 ⟨rfl, k6⟩
      have K6 := hid (K5.out.trans k6)
      clear k6
      go_wp2_with fail
      go_ret
      exact ⟨rfl, K6.out⟩
    · rw [hx] at A1
      have LT := hid (L1.out u.data.toList hx).1
      have LA := hid (L1.out [] hx).2
      clear hx L1
      have main : ∀ y z v : Bool, withinN t.data.toList u.data.toList = y → withinN s.data.toList u.data.toList = z → withinN t.data.toList s.data.toList = v → Calls Try.prog 6 #[.string s, .string t, .string u] w fun e w' => e = .returned (.bool true) ∧ Keeps [] w w' := by
        intro y z v hy hz hv
        have LY := hid (show y = true → z = true by rw [← hy, ← hz]; exact LT.out)
        have LV := hid (show v = true → (s.toList == t.toList) = true by rw [← hv]; exact fun h => HE.out (LA.out h))
        rw [hy] at A2
        rw [hz] at A3
        rw [hv] at A4
        clear hy hz hv LT LA HE
        cases y with
        | true =>
          have hz : z = true := LY.out rfl
          subst hz
          clear LY
          cases v with
          | true =>
            have hst := LV.out rfl
            clear LV
            go_enter Try.func6, Try.ntmps6
            go_wp2_with (go_at_call 8; refine (awake9_any w).mono ?_; rintro e w1 ⟨rfl, k1⟩)
            have K1 := hid k1
            clear k1
            go_wp2_with (go_at_call 11; refine (A1.out _).mono ?_)
            rintro e w2 ⟨rfl, k2⟩
            have K2 := hid (K1.out.trans k2)
            clear k2
            go_wp2_with (go_at_call 11; refine (A2.out _).mono ?_)
            rintro e w3 ⟨rfl, k3⟩
            have K3 := hid (K2.out.trans k3)
            clear k3
            go_wp2_with (go_at_call 11; refine (A3.out _).mono ?_)
            rintro e w4 ⟨rfl, k4⟩
            have K4 := hid (K3.out.trans k4)
            clear k4
            go_wp2_with (go_at_call 11; refine (A4.out _).mono ?_)
            rintro e w5 ⟨rfl, k5⟩
            have K5 := hid (K4.out.trans k5)
            clear k5
            go_wp2_with (go_at_call 9; refine (A6.out _).mono ?_)
            intro e w6 q
            obtain ⟨aa, cc, rfl, _, k6⟩ := q.any
            have K6 := hid (K5.out.trans k6)
            clear k6 q
            go_wp2_with (go_at_call 11; refine (A5.out _).mono ?_)
            rintro e w7 ⟨rfl, k7⟩
            have K7 := hid (K6.out.trans k7)
            clear k7
            go_wp2_with fail
            go_ret
            exact ⟨rfl, K7.out⟩
          | false =>
            clear LV
            go_enter Try.func6, Try.ntmps6
            go_wp2_with (go_at_call 8; refine (awake9_any w).mono ?_; rintro e w1 ⟨rfl, k1⟩)
            have K1 := hid k1
            clear k1
            go_wp2_with (go_at_call 11; refine (A1.out _).mono ?_)
            rintro e w2 ⟨rfl, k2⟩
            have K2 := hid (K1.out.trans k2)
            clear k2
            go_wp2_with (go_at_call 11; refine (A2.out _).mono ?_)
            rintro e w3 ⟨rfl, k3⟩
            have K3 := hid (K2.out.trans k3)
            clear k3
            go_wp2_with (go_at_call 11; refine (A3.out _).mono ?_)
            rintro e w4 ⟨rfl, k4⟩
            have K4 := hid (K3.out.trans k4)
            clear k4
            go_wp2_with (go_at_call 11; refine (A4.out _).mono ?_)
            rintro e w5 ⟨rfl, k5⟩
            have K5 := hid (K4.out.trans k5)
            clear k5
            go_wp2_with (go_at_call 9; refine (A6.out _).mono ?_)
            intro e w6 q
            obtain ⟨aa, cc, rfl, _, k6⟩ := q.any
            have K6 := hid (K5.out.trans k6)
            clear k6 q
            go_wp2_with (go_at_call 11; refine (A5.out _).mono ?_)
            rintro e w7 ⟨rfl, k7⟩
            have K7 := hid (K6.out.trans k7)
            clear k7
            go_wp2_with fail
            go_ret
            exact ⟨rfl, K7.out⟩
        | false =>
          clear LY
          cases v with
          | true =>
            have hst := LV.out rfl
            clear LV
            go_enter Try.func6, Try.ntmps6
            go_wp2_with (go_at_call 8; refine (awake9_any w).mono ?_; rintro e w1 ⟨rfl, k1⟩)
            have K1 := hid k1
            clear k1
            go_wp2_with (go_at_call 11; refine (A1.out _).mono ?_)
            rintro e w2 ⟨rfl, k2⟩
            have K2 := hid (K1.out.trans k2)
            clear k2
            go_wp2_with (go_at_call 11; refine (A2.out _).mono ?_)
            rintro e w3 ⟨rfl, k3⟩
            have K3 := hid (K2.out.trans k3)
            clear k3
            go_wp2_with (go_at_call 11; refine (A3.out _).mono ?_)
            rintro e w4 ⟨rfl, k4⟩
            have K4 := hid (K3.out.trans k4)
            clear k4
            go_wp2_with (go_at_call 11; refine (A4.out _).mono ?_)
            rintro e w5 ⟨rfl, k5⟩
            have K5 := hid (K4.out.trans k5)
            clear k5
            go_wp2_with (go_at_call 9; refine (A6.out _).mono ?_)
            intro e w6 q
            obtain ⟨aa, cc, rfl, _, k6⟩ := q.any
            have K6 := hid (K5.out.trans k6)
            clear k6 q
            go_wp2_with (go_at_call 11; refine (A5.out _).mono ?_)
            rintro e w7 ⟨rfl, k7⟩
            have K7 := hid (K6.out.trans k7)
            clear k7
            go_wp2_with fail
            go_ret
            exact ⟨rfl, K7.out⟩
          | false =>
            clear LV
            go_enter Try.func6, Try.ntmps6
            go_wp2_with (go_at_call 8; refine (awake9_any w).mono ?_; rintro e w1 ⟨rfl, k1⟩)
            have K1 := hid k1
            clear k1
            go_wp2_with (go_at_call 11; refine (A1.out _).mono ?_)
            rintro e w2 ⟨rfl, k2⟩
            have K2 := hid (K1.out.trans k2)
            clear k2
            go_wp2_with (go_at_call 11; refine (A2.out _).mono ?_)
            rintro e w3 ⟨rfl, k3⟩
            have K3 := hid (K2.out.trans k3)
            clear k3
            go_wp2_with (go_at_call 11; refine (A3.out _).mono ?_)
            rintro e w4 ⟨rfl, k4⟩
            have K4 := hid (K3.out.trans k4)
            clear k4
            go_wp2_with (go_at_call 11; refine (A4.out _).mono ?_)
            rintro e w5 ⟨rfl, k5⟩
            have K5 := hid (K4.out.trans k5)
            clear k5
            go_wp2_with (go_at_call 9; refine (A6.out _).mono ?_)
            intro e w6 q
            obtain ⟨aa, cc, rfl, _, k6⟩ := q.any
            have K6 := hid (K5.out.trans k6)
            clear k6 q
            go_wp2_with (go_at_call 11; refine (A5.out _).mono ?_)
            rintro e w7 ⟨rfl, k7⟩
            have K7 := hid (K6.out.trans k7)
            clear k7
            go_wp2_with fail
            go_ret
            exact ⟨rfl, K7.out⟩
      exact main _ _ _ rfl rfl rfl
  · have hno : ¬ (s.size ≤ 300 ∧ t.size ≤ 300 ∧ u.size ≤ 300) := h300
    clear h300
    by_cases h1 : s.size ≤ 300
    · by_cases h2 : t.size ≤ 300
      · have h3 : 300 < u.size := by omega
        clear hno
        go_enter Try.func6, Try.ntmps6
        go_wp2_with (go_at_call 8; refine (awake9_any w).mono ?_; rintro e w1 ⟨rfl, k1⟩)
        go_ret
        exact ⟨rfl, k1⟩
      · have h3 : 300 < t.size := by omega
        clear hno
        go_enter Try.func6, Try.ntmps6
        go_wp2_with (go_at_call 8; refine (awake9_any w).mono ?_; rintro e w1 ⟨rfl, k1⟩)
        go_ret
        exact ⟨rfl, k1⟩
    · have h3 : 300 < s.size := by omega
      clear hno
      go_enter Try.func6, Try.ntmps6
      go_wp2_with (go_at_call 8; refine (awake9_any w).mono ?_; rintro e w1 ⟨rfl, k1⟩)
      go_ret
      exact ⟨rfl, k1⟩
end Go.Proofs.Ytjahfnebnnkgfaa
