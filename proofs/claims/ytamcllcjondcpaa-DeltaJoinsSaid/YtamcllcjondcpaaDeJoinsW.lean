/- delta: the walk of the law DeltaJoins. -/
import Derived.Test.YtamcllcjondcpaaDeJoinsG
namespace Go.Proofs.Ytamcllcjondcpaa
open Go.RowKit Go.Shelf
set_option maxRecDepth 100000
set_option linter.unusedSimpArgs false

set_option maxHeartbeats 25600000 in
theorem joinsBig1_any (w : World) (v u : Value) (xs ys : List Dl) (cut : Int) (hx : DlsAt w v xs) (hy : DlsAt w u ys) (hl1 : (100 : Int) < (xs.length : Int)) :
    Calls Try.prog 6 #[v, u, .int .i64 cut] w fun e w' => e = .returned (.bool true) ∧ Keeps [] w w' := by
  have HX := hid hx
  have HY := hid hy
  obtain ⟨a, c, rfl⟩ := hx.shape
  obtain ⟨b, d, rfl⟩ := hy.shape
  clear hx hy
  go_enter Try.func6, Try.ntmps6
  go_wp2_with fail
  refine (dAwake_any w).mono ?_
  rintro e w1 ⟨rfl, k1⟩
  have K1 := hid k1
  clear k1
  go_wp2_with (first | go_big_skip | fail)
  go_ret
  exact ⟨rfl, K1.out⟩

set_option maxHeartbeats 25600000 in
theorem joinsBig2_any (w : World) (v u : Value) (xs ys : List Dl) (cut : Int) (hx : DlsAt w v xs) (hy : DlsAt w u ys) (hl1 : ¬ (100 : Int) < (xs.length : Int)) (hl2 : (100 : Int) < (ys.length : Int)) :
    Calls Try.prog 6 #[v, u, .int .i64 cut] w fun e w' => e = .returned (.bool true) ∧ Keeps [] w w' := by
  have HX := hid hx
  have HY := hid hy
  obtain ⟨a, c, rfl⟩ := hx.shape
  obtain ⟨b, d, rfl⟩ := hy.shape
  clear hx hy
  go_enter Try.func6, Try.ntmps6
  go_wp2_with fail
  refine (dAwake_any w).mono ?_
  rintro e w1 ⟨rfl, k1⟩
  have K1 := hid k1
  clear k1
  go_wp2_with (first | go_big_skip | fail)
  go_ret
  exact ⟨rfl, K1.out⟩

set_option maxHeartbeats 25600000 in
theorem joinsBad1_any (w : World) (v u : Value) (xs ys : List Dl) (cut : Int) (hx : DlsAt w v xs) (hy : DlsAt w u ys) (hl1 : ¬ (100 : Int) < (xs.length : Int)) (hl2 : ¬ (100 : Int) < (ys.length : Int)) (hb : (encL xs).2 ≠ 0) :
    Calls Try.prog 6 #[v, u, .int .i64 cut] w fun e w' => e = .returned (.bool true) ∧ Keeps [] w w' := by
  have HX := hid hx
  have HY := hid hy
  obtain ⟨a, c, rfl⟩ := hx.shape
  obtain ⟨b, d, rfl⟩ := hy.shape
  clear hx hy
  obtain ⟨bx, ex, eqx⟩ : ∃ l e, (l, e) = encL xs := ⟨_, _, rfl⟩
  obtain ⟨bys, ey, eqy⟩ : ∃ l e, (l, e) = encL ys := ⟨_, _, rfl⟩
  have EX := hid eqx
  have EY := hid eqy
  clear eqx eqy
  have hex : (ex == 0) = false := by rw [← EX.out] at hb; simpa using hb
  have hexn : (ex != 0) = true := by rw [← EX.out] at hb; simpa using hb
  clear hb
  go_enter Try.func6, Try.ntmps6
  go_wp2_with fail
  refine (dAwake_any w).mono ?_
  rintro e w1 ⟨rfl, k1⟩
  have K1 := hid k1
  clear k1
  go_wp2_with (first | go_big_skip | fail)
  refine (dEncode_any w1 _ xs (HX.out.keep K1.out)).mono ?_
  rw [← EX.out]
  rintro e w2 ⟨a2, c2, rfl, r2, -, k2⟩
  simp only at r2
  have R2 := hid r2
  have K2 := hid (K1.out.trans k2)
  clear r2 k2
  go_wp2_with fail
  refine (dEncode_any w2 _ ys (HY.out.keep K2.out)).mono ?_
  rw [← EY.out]
  rintro e w3 ⟨a3, c3, rfl, r3, -, k3⟩
  simp only at r3
  have R3 := hid r3
  have R23 := hid (R2.out.keep k3 (by intro _ _ _ _ _; simp))
  have K3 := hid (K2.out.trans k3)
  clear r3 k3
  go_wp2_with (first | go_big_skip | fail)
  go_ret
  exact ⟨rfl, K3.out⟩

set_option maxHeartbeats 25600000 in
theorem joinsBad2_any (w : World) (v u : Value) (xs ys : List Dl) (cut : Int) (hx : DlsAt w v xs) (hy : DlsAt w u ys) (hl1 : ¬ (100 : Int) < (xs.length : Int)) (hl2 : ¬ (100 : Int) < (ys.length : Int)) (ha : (encL xs).2 = 0) (hb : (encL ys).2 ≠ 0) :
    Calls Try.prog 6 #[v, u, .int .i64 cut] w fun e w' => e = .returned (.bool true) ∧ Keeps [] w w' := by
  have HX := hid hx
  have HY := hid hy
  obtain ⟨a, c, rfl⟩ := hx.shape
  obtain ⟨b, d, rfl⟩ := hy.shape
  clear hx hy
  obtain ⟨bx, ex, eqx⟩ : ∃ l e, (l, e) = encL xs := ⟨_, _, rfl⟩
  obtain ⟨bys, ey, eqy⟩ : ∃ l e, (l, e) = encL ys := ⟨_, _, rfl⟩
  have EX := hid eqx
  have EY := hid eqy
  clear eqx eqy
  have hex : (ex == 0) = true := by rw [← EX.out] at ha; simpa using ha
  have hexn : (ex != 0) = false := by rw [← EX.out] at ha; simpa using ha
  have hey : (ey == 0) = false := by rw [← EY.out] at hb; simpa using hb
  have heyn : (ey != 0) = true := by rw [← EY.out] at hb; simpa using hb
  clear ha hb
  go_enter Try.func6, Try.ntmps6
  go_wp2_with fail
  refine (dAwake_any w).mono ?_
  rintro e w1 ⟨rfl, k1⟩
  have K1 := hid k1
  clear k1
  go_wp2_with (first | go_big_skip | fail)
  refine (dEncode_any w1 _ xs (HX.out.keep K1.out)).mono ?_
  rw [← EX.out]
  rintro e w2 ⟨a2, c2, rfl, r2, -, k2⟩
  simp only at r2
  have R2 := hid r2
  have K2 := hid (K1.out.trans k2)
  clear r2 k2
  go_wp2_with fail
  refine (dEncode_any w2 _ ys (HY.out.keep K2.out)).mono ?_
  rw [← EY.out]
  rintro e w3 ⟨a3, c3, rfl, r3, -, k3⟩
  simp only at r3
  have R3 := hid r3
  have R23 := hid (R2.out.keep k3 (by intro _ _ _ _ _; simp))
  have K3 := hid (K2.out.trans k3)
  clear r3 k3
  go_wp2_with (first | go_big_skip | fail)
  go_ret
  exact ⟨rfl, K3.out⟩

theorem m12Joins_any (w : World) (v u : Value) (xs ys : List Dl) (cut : Int) (hx : DlsAt w v xs) (hy : DlsAt w u ys) :
    Calls Try.prog 6 #[v, u, .int .i64 cut] w fun e w' => e = .returned (.bool true) ∧ Keeps [] w w' := by
  by_cases h1 : (100 : Int) < (xs.length : Int)
  · exact joinsBig1_any w v u xs ys cut hx hy h1
  · by_cases h2 : (100 : Int) < (ys.length : Int)
    · exact joinsBig2_any w v u xs ys cut hx hy h1 h2
    · by_cases ha : (encL xs).2 = 0
      · by_cases hb : (encL ys).2 = 0
        · exact joinsGood_any w v u xs ys cut hx hy h1 h2 ha hb
        · exact joinsBad2_any w v u xs ys cut hx hy h1 h2 ha hb
      · exact joinsBad1_any w v u xs ys cut hx hy h1 h2 ha
end Go.Proofs.Ytamcllcjondcpaa
