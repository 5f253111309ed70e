/- tokens: the laws' awake; TokensKnown's walk. -/
import Derived.Test.YteeagemlaolhjaaTkI
namespace Go.Proofs.Yteeagemlaolhjaa
open Go.RowKit Go.Shelf
set_option maxRecDepth 100000
set_option linter.unusedSimpArgs false

/-- Keeps all that lay at w; new tokens there. -/
theorem keep_new {w w1 w2 : World} {q : Nat} (k1 : Keeps [] w w1) (k2 : Keeps [q] w1 w2) (hq : w.heap.size ≤ q) : Keeps [] w w2 := k1.trans' k2 (fun i hi hm => by simp at hm; omega)
set_option maxHeartbeats 6400000 in
theorem awake15_any (w : World) : Calls Try.prog 8 #[] w (PB w true) := by
  go_enter Try.func8, Try.ntmps8
  go_wp2_with fail
  refine (tkNew_any w).mono ?_
  rintro e w1 ⟨rfl, t1, k1⟩
  have T1 := hid t1
  have K1 := hid k1
  have hq := t1.lt
  have HQ := hid hq
  clear t1 k1
  go_wp2_with fail
  refine (open_any T1.out (by simpa using HQ.out) 1 5 true (by decide)).mono ?_
  rintro e w2 ⟨rfl, t2, k2⟩
  rw [show openK [] 1 5 true = ((0, 0), [⟨1, 0, 5, true⟩]) by decide] at t2 ⊢
  have T2 := hid t2
  have K2 := hid (keep_new K1.out k2 (Nat.le_refl _))
  have HQ2 := hid (Nat.lt_of_lt_of_le HQ.out k2.size)
  clear t2 k2
  go_wp2_with fail
  refine (open_any T2.out (by simpa using HQ2.out) 2 5 false (by decide)).mono ?_
  rintro e w3 ⟨rfl, t3, k3⟩
  rw [show openK [⟨1, 0, 5, true⟩] 2 5 false = ((0, 8), [⟨1, 0, 5, true⟩]) by decide] at t3 ⊢
  have T3 := hid t3
  have K3 := hid (keep_new K2.out k3 (Nat.le_refl _))
  clear t3 k3
  go_wp2_with fail
  refine (of_any T3.out 1 0).mono ?_
  rintro e w4 ⟨rfl, k4⟩
  rw [show ofR [⟨1, 0, 5, true⟩] 1 0 = ⟨1, 0, 5, true⟩ by decide, show ([⟨1, 0, 5, true⟩] : List Rk).any (atK 1 0) = true by decide]
  have K4 := hid (K3.out.trans k4)
  clear k4
  have KA := hid (K4.out.alloc (.cells (Rk.cells ⟨1, 0, 5, true⟩).toArray 47))
  obtain ⟨c0, c1, c2, c3⟩ := rkrange_at (rkrange_new w4 (Rk.cells ⟨1, 0, 5, true⟩) 47)
  simp only [Nat.zero_add] at c2 c3
  clear c0 c1
  go_wp2_with (first | (refine wpList_allocRk cRk rfl rfl ?_) | (refine wpList_newRk cRk rfl w4 _ _ rfl rfl rfl ⟨1, 0, 5, true⟩ rfl ?_) | fail)
  go_ret
  exact ⟨rfl, KA.out⟩
def KnownPost (w : World) (e : Ending) (w' : World) : Prop := e = .returned (.bool true) ∧ Keeps [] w w'
set_option maxHeartbeats 12800000 in
theorem known15_any (w : World) : Calls Try.prog 3 #[] w (KnownPost w) := by
  go_enter Try.func3, Try.ntmps3
  go_wp2_with fail
  refine (awake15_any w).mono ?_
  rintro e w0 ⟨rfl, k0⟩
  have K0 := hid k0
  clear k0
  go_wp2_with fail
  refine (tkNew_any w0).mono ?_
  rintro e w1 ⟨rfl, t1, k1⟩
  have T1 := hid t1
  have K1 := hid (K0.out.trans k1)
  have HQ := hid t1.lt
  have HZ := hid K0.out.size
  clear t1 k1
  obtain ⟨q, hq⟩ : ∃ q, q = w0.heap.size := ⟨_, rfl⟩
  rw [← hq] at T1 HQ HZ ⊢
  clear hq
  go_wp2_with fail
  refine (open_any T1.out (by simpa using HQ.out) 1 5 true (by decide)).mono ?_
  rintro e w2 ⟨rfl, t2, k2⟩
  rw [show openK [] 1 5 true = ((0, 0), [⟨1, 0, 5, true⟩]) by decide] at t2 ⊢
  have T2 := hid t2
  have K2 := hid (keep_new K1.out k2 HZ.out)
  have HQ2 := hid (Nat.lt_of_lt_of_le HQ.out k2.size)
  clear t2 k2
  go_wp2_with fail
  refine (close_any T2.out (by simpa using HQ2.out) 1 0).mono ?_
  rintro e w3 ⟨rfl, t3, k3⟩
  rw [show closeE [⟨1, 0, 5, true⟩] 1 0 = 0 by decide]
  rw [show ([⟨1, 0, 5, true⟩] : List Rk).filter (keepK (atK 1 0)) = [] by decide] at t3
  have T3 := hid t3
  have K3 := hid (keep_new K2.out k3 HZ.out)
  have HQ3 := hid (Nat.lt_of_lt_of_le HQ2.out k3.size)
  clear t3 k3
  go_wp2_with fail
  refine (close_any T3.out (by simpa using HQ3.out) 1 0).mono ?_
  rintro e w4 ⟨rfl, t4, k4⟩
  rw [show closeE [] 1 0 = 13 by decide]
  rw [show ([] : List Rk).filter (keepK (atK 1 0)) = [] by decide] at t4
  have T4 := hid t4
  have K4 := hid (keep_new K3.out k4 HZ.out)
  have HQ4 := hid (Nat.lt_of_lt_of_le HQ3.out k4.size)
  clear t4 k4
  go_wp2_with fail
  refine (open_any T4.out (by simpa using HQ4.out) 2 5 false (by decide)).mono ?_
  rintro e w5 ⟨rfl, t5, k5⟩
  rw [show openK [] 2 5 false = ((0, 0), [⟨2, 0, 5, false⟩]) by decide] at t5 ⊢
  have T5 := hid t5
  have K5 := hid (keep_new K4.out k5 HZ.out)
  have HQ5 := hid (Nat.lt_of_lt_of_le HQ4.out k5.size)
  clear t5 k5
  go_wp2_with fail
  refine (open_any T5.out (by simpa using HQ5.out) 1 5 false (by decide)).mono ?_
  rintro e w6 ⟨rfl, t6, k6⟩
  rw [show openK [⟨2, 0, 5, false⟩] 1 5 false = ((0, 0), [⟨1, 0, 5, false⟩, ⟨2, 0, 5, false⟩]) by decide] at t6 ⊢
  have T6 := hid t6
  have K6 := hid (keep_new K5.out k6 HZ.out)
  have HQ6 := hid (Nat.lt_of_lt_of_le HQ5.out k6.size)
  clear t6 k6
  go_wp2_with fail
  refine (open_any T6.out (by simpa using HQ6.out) 0 5 true (by decide)).mono ?_
  rintro e w7 ⟨rfl, t7, k7⟩
  rw [show openK [⟨1, 0, 5, false⟩, ⟨2, 0, 5, false⟩] 0 5 true = ((0, 8), [⟨1, 0, 5, false⟩, ⟨2, 0, 5, false⟩]) by decide] at t7 ⊢
  have T7 := hid t7
  have K7 := hid (keep_new K6.out k7 HZ.out)
  have HQ7 := hid (Nat.lt_of_lt_of_le HQ6.out k7.size)
  clear t7 k7
  go_wp2_with fail
  refine (open_any T7.out (by simpa using HQ7.out) 4 5 false (by decide)).mono ?_
  rintro e w8 ⟨rfl, t8, k8⟩
  rw [show openK [⟨1, 0, 5, false⟩, ⟨2, 0, 5, false⟩] 4 5 false = ((0, 1), [⟨1, 0, 5, false⟩, ⟨2, 0, 5, false⟩]) by decide] at t8 ⊢
  have T8 := hid t8
  have K8 := hid (keep_new K7.out k8 HZ.out)
  have HQ8 := hid (Nat.lt_of_lt_of_le HQ7.out k8.size)
  clear t8 k8
  go_wp2_with fail
  refine (busy_any T8.out 5).mono ?_
  rintro e w9 ⟨rfl, k9⟩
  rw [show ([⟨1, 0, 5, false⟩, ⟨2, 0, 5, false⟩] : List Rk).any (freeIno 5) = true by decide]
  have T9 := hid (T8.out.later k9)
  have K9 := hid (K8.out.trans k9)
  have HQ9 := hid (Nat.lt_of_lt_of_le HQ8.out k9.size)
  clear k9
  go_wp2_with fail
  refine (drop_any T9.out (by simpa using HQ9.out) 1).mono ?_
  rintro e wA ⟨rfl, tA, kA⟩
  rw [show ([⟨1, 0, 5, false⟩, ⟨2, 0, 5, false⟩] : List Rk).filter (keepK (sameCl 1)) = [⟨2, 0, 5, false⟩] by decide]
  have KA := hid (keep_new K9.out kA HZ.out)
  clear tA kA
  go_wp2_with fail
  go_ret
  exact ⟨rfl, KA.out⟩
end Go.Proofs.Yteeagemlaolhjaa
