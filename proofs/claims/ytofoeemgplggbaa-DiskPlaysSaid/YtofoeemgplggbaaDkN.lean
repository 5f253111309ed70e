/- The laws' awake. -/
import Derived.Test.YtofoeemgplggbaaDkM
namespace Go.Proofs.Ytofoeemgplggbaa
open Go.RowKit

theorem same_true (w : World) (u v : Value) (xs : List Int) (hx : RowAt w u xs) (hy : RowAt w v xs) (hl : xs.length ≤ 1000000) :
    Calls Try.prog 12 #[u, v] w fun e w' => e = .returned (.bool true) ∧ Keeps [] w w' :=
  (same_rows w u v xs xs hx hy hl hl).mono fun e w' ⟨he, k⟩ => ⟨by rw [he]; simp, k⟩

theorem secL_le (c : Int) : (secL c).length ≤ 1000000 := by rw [secL_len]; omega

set_option maxRecDepth 100000 in
set_option maxHeartbeats 8000000 in
theorem awake4_any (w : World) : Calls Try.prog 5 #[] w fun e w' => e = .returned (.bool true) ∧ Keeps [] w w' := by
  have AA := hid aw_a
  have AB := hid aw_b
  have AC := hid aw_c
  go_enter Try.func5, Try.ntmps5
  go_wp2_with fail
  refine (newAt_any 2 (by omega) (by omega) w).mono ?_
  rintro e w1 ⟨p, F1, rfl, D1, l1, k1⟩
  have D1' := hid D1
  have L1 := hid l1
  have K1 := hid k1
  clear D1 l1 k1
  go_wp2_with fail
  refine (sector_any 1 (by omega) (by omega) w1).mono ?_
  rintro e w2 ⟨_, rfl, r2, _, ⟨a1, b1, c1, rfl⟩, k2⟩
  have D2 := hid (D1'.out.keep k2 (by simp))
  have K2 := hid (K1.out.trans k2)
  have R2' := hid r2
  clear r2 k2 D1' K1
  go_wp2_with fail
  refine (write_any w2 p _ F1 0 D2.out (by omega) 0 _ _ R2'.out).mono ?_
  rw [aw1_is]
  rintro e w3 ⟨rfl, F3, D3, k3, fr3⟩
  have D3' := hid D3
  have L3 : Hid (∀ b ∈ F3, w.heap.size ≤ b) := fun b hb => by
    rcases fr3 b hb with h | h
    · exact L1.out b h
    · have := K2.out.size; omega
  have K3 : Hid (Keeps [] w w3) := K2.out.trans' k3 (fun i hi hm => by have := L1.out i hm; omega)
  clear D3 k3 fr3 D2 K2 L1 R2'
  go_wp2_with fail
  refine (sync_any w3 p _ F3 _ D3'.out (by omega)).mono ?_
  rw [aw2_is]
  rintro e w4 ⟨rfl, F4, D4, k4, fr4⟩
  have D4' := hid D4
  have L4 : Hid (∀ b ∈ F4, w.heap.size ≤ b) := fun b hb => by
    rcases fr4 b hb with h | h
    · exact L3.out b h
    · have := K3.out.size; omega
  have K4 : Hid (Keeps [] w w4) := K3.out.trans' k4 (fun i hi hm => by have := L3.out i hm; omega)
  clear D4 k4 fr4 D3' K3 L3
  go_wp2_with fail
  refine (sector_any 2 (by omega) (by omega) w4).mono ?_
  rintro e w5 ⟨_, rfl, r5, _, ⟨a5, b5, c5, rfl⟩, k5⟩
  have D5 := hid (D4'.out.keep k5 (by simp))
  have K5 := hid (K4.out.trans k5)
  have R5 := hid r5
  clear r5 k5 D4' K4
  go_wp2_with fail
  refine (write_any w5 p _ F4 _ D5.out (by omega) 1 _ _ R5.out).mono ?_
  rw [aw3_is]
  rintro e w6 ⟨rfl, F6, D6, k6, fr6⟩
  have D6' := hid D6
  have L6 : Hid (∀ b ∈ F6, w.heap.size ≤ b) := fun b hb => by
    rcases fr6 b hb with h | h
    · exact L4.out b h
    · have := K5.out.size; omega
  have K6 : Hid (Keeps [] w w6) := K5.out.trans' k6 (fun i hi hm => by have := L4.out i hm; omega)
  clear D6 k6 fr6 D5 K5 L4 R5
  go_wp2_with fail
  have RL6 := row_lit (w := w6) [0] 5 (by simp) 1 rfl (by unfold maxLen; omega)
  have DL6 := D6'.out.keep ((Keeps.refl [] w6).alloc (.cells #[.int .u8 0] 5)) (by simp)
  have KL6 := K6.out.alloc (.cells #[.int .u8 0] 5)
  refine (crash_any _ p aw3 F6 _ DL6 (by omega) _ [0] (by simp) RL6).mono ?_
  rintro e x6 ⟨p6, G6, rfl, E6, _, j6⟩
  have E6' := hid E6
  have DX6 := hid (DL6.keep j6 (by simp))
  have KX6 := hid (KL6.trans j6)
  clear E6 j6 DL6 RL6 KL6
  go_wp2_with fail
  refine (readAt_any x6 p6 _ G6 _ E6'.out 0).mono ?_
  rw [AA.out]
  rintro e w7 ⟨v6, rfl, q6, _, j6⟩
  have Q6 := hid q6
  have K7 := hid (KX6.out.trans j6)
  have D7 := hid (DX6.out.keep j6 (by simp))
  clear q6 j6 DX6 KX6 E6' D6' K6
  go_wp2_with fail
  have RL7 := row_lit (w := w7) [0] 5 (by simp) 1 rfl (by unfold maxLen; omega)
  have DL7 := D7.out.keep ((Keeps.refl [] w7).alloc (.cells #[.int .u8 0] 5)) (by simp)
  have KL7 := K7.out.alloc (.cells #[.int .u8 0] 5)
  refine (crash_any _ p aw3 F6 _ DL7 (by omega) _ [0] (by simp) RL7).mono ?_
  rintro e x7 ⟨p7, G7, rfl, E7, _, j7⟩
  have E7' := hid E7
  have DX7 := hid (DL7.keep j7 (by simp))
  have KX7 := hid (KL7.trans j7)
  have KX7b := hid j7
  clear E7 j7 DL7 RL7 KL7
  go_wp2_with fail
  refine (readAt_any x7 p7 _ G7 _ E7'.out 1).mono ?_
  rw [AB.out]
  rintro e w8 ⟨v7, rfl, q7, _, j7⟩
  have Q7 := hid q7
  have K8 := hid (KX7.out.trans j7)
  have D8 := hid (DX7.out.keep j7 (by simp))
  have Q6b := hid (Q6.out.keep (((Keeps.refl [] w7).alloc (.cells #[.int .u8 0] 5)).trans (KX7b.out.trans j7)) (by intro _ _ _ _ _; simp))
  clear q7 j7 DX7 KX7 E7' D7 K7 Q6
  go_wp2_with fail
  have RL8 := RowAt.nil w8
  have DL8 := D8.out
  have KL8 := K8.out
  refine (crash_any _ p aw3 F6 _ DL8 (by omega) _ [] (by simp) RL8).mono ?_
  rintro e x8 ⟨p8, G8, rfl, E8, _, j8⟩
  have E8' := hid E8
  have DX8 := hid (DL8.keep j8 (by simp))
  have KX8 := hid (KL8.trans j8)
  have KX8b := hid j8
  clear E8 j8 DL8 RL8 KL8
  go_wp2_with fail
  refine (readAt_any x8 p8 _ G8 _ E8'.out 1).mono ?_
  rw [AC.out]
  rintro e w9 ⟨v8, rfl, q8, _, j8⟩
  have Q8 := hid q8
  have K9 := hid (KX8.out.trans j8)
  have Q6c := hid (Q6b.out.keep (KX8b.out.trans j8) (by intro _ _ _ _ _; simp))
  have Q7b := hid (Q7.out.keep (KX8b.out.trans j8) (by intro _ _ _ _ _; simp))
  clear q8 j8 DX8 KX8 E8' D8 K8 Q6b Q7
  go_wp2_with fail
  refine (sector_any 1 (by omega) (by omega) w9).mono ?_
  rintro e w10 ⟨_, rfl, rr, _, ⟨_, _, _, rfl⟩, jj⟩
  have RR := hid rr
  have JJ := hid jj
  have KK := hid (K9.out.trans jj)
  clear rr jj
  go_wp2_with fail
  refine (same_true w10 _ _ (secL 1) (Q6c.out.keep JJ.out (by intro _ _ _ _ _; simp)) RR.out (secL_le _)).mono ?_
  rintro e w11 ⟨rfl, jj⟩
  have KNw11 := hid (KK.out.trans jj)
  have JN := hid (JJ.out.trans jj)
  have Q7c := hid (Q7b.out.keep JN.out (by intro _ _ _ _ _; simp))
  have Q8b := hid (Q8.out.keep JN.out (by intro _ _ _ _ _; simp))
  clear jj KK JJ RR JN
  go_wp2_with fail
  refine (sector_any 0 (by omega) (by omega) w11).mono ?_
  rintro e w12 ⟨_, rfl, rr, _, ⟨_, _, _, rfl⟩, jj⟩
  have RR := hid rr
  have JJ := hid jj
  have KK := hid (KNw11.out.trans jj)
  clear rr jj
  go_wp2_with fail
  refine (same_true w12 _ _ (secL 0) (Q7c.out.keep JJ.out (by intro _ _ _ _ _; simp)) RR.out (secL_le _)).mono ?_
  rintro e w13 ⟨rfl, jj⟩
  have KNw13 := hid (KK.out.trans jj)
  have JN := hid (JJ.out.trans jj)
  have Q8c := hid (Q8b.out.keep JN.out (by intro _ _ _ _ _; simp))
  clear jj KK JJ RR JN
  go_wp2_with fail
  refine (sector_any 2 (by omega) (by omega) w13).mono ?_
  rintro e w14 ⟨_, rfl, rr, _, ⟨_, _, _, rfl⟩, jj⟩
  have RR := hid rr
  have JJ := hid jj
  have KK := hid (KNw13.out.trans jj)
  clear rr jj
  go_wp2_with fail
  refine (same_true w14 _ _ (secL 2) (Q8c.out.keep JJ.out (by intro _ _ _ _ _; simp)) RR.out (secL_le _)).mono ?_
  rintro e w15 ⟨rfl, jj⟩
  have KNw15 := hid (KK.out.trans jj)
  have JN := hid (JJ.out.trans jj)
  clear jj KK JJ RR JN
  go_wp2_with fail
  go_ret
  exact ⟨rfl, KNw15.out⟩

end Go.Proofs.Ytofoeemgplggbaa
