/- Chapter 5's example, and what is refused (the law SlotKnown): the law returns true. No condition. -/
import Derived.Test.YtpnckjfmiobobaaSlO
namespace Go.Proofs.Ytpnckjfmiobobaa
open Go.ChangeShapes Go.WideShapes Go.ChangeAt Go.RowKit

theorem row_made (w : World) (n : Nat) (hn : n ≤ 100000) : RowAt (w.alloc (.cells (madeCells #[.int .u8 0] n) 5)) (.slice (some ⟨w.heap.size, 0, none⟩) n n) (List.replicate n 0) := by
  refine ⟨some ⟨w.heap.size, 0, none⟩, n, by simp, by simp, by unfold maxLen; omega, fun h => (by cases h), fun z hz => by have := (List.mem_replicate.1 hz).2; omega, fun ad had j u hu => ?_⟩
  obtain rfl := Option.some.inj had
  have := made_zero n
  rw [Nat.mul_one] at this
  rw [Addr.add_mid, Nat.zero_add, cell_of_row _ _ j _ _ (0, 0) (heap_alloc_new w _), ← Array.getElem?_toList, this]
  exact hu

theorem sk_g : putE [hd0, hd0] 1 (blankS 17) 0 (List.replicate 41 0) [] = 3 := rfl
theorem sk_gs : putS [hd0, hd0] 1 (blankS 17) 0 (List.replicate 41 0) [] = blankS 17 := rfl
theorem sk_gh : putH [hd0, hd0] 1 (blankS 17) 0 (List.replicate 41 0) [] = [hd0, hd0] := rfl
theorem sk_h : putE [hd0, hd0] 1 (blankS 17) 2 [] [] = 1 := rfl
theorem sk_hs : putS [hd0, hd0] 1 (blankS 17) 2 [] [] = blankS 17 := rfl
theorem sk_hh : putH [hd0, hd0] 1 (blankS 17) 2 [] [] = [hd0, hd0] := rfl
theorem sk_i : takeE [hd0, hd0] 0 = 6 := rfl
def skd : DS := putD (blankS 17) 9 [1] []
theorem sk_ok : Hd.Ok ⟨true, ([] : List Int).length, [1]⟩ := ⟨by simp, by simp, by simp, fun h => by cases h⟩
theorem sk_alive : Alive skd := ((blank_alive 17).put 9 [1] [] sk_ok (by show 9 + 8 ≤ 17; omega)).1
theorem skd_cnt : skd.cnt = 17 := putD_cnt _ _ _ _
theorem sk_ps : putS [hd0, hd0] 1 (blankS 17) 1 [1] [] = skd := rfl
theorem sk_ph : putH [hd0, hd0] 1 (blankS 17) 1 [1] [] = [hd0, ⟨true, 0, [1]⟩] := by
  have e : putH [hd0, hd0] 1 (blankS 17) 1 [1] [] = if (true && !skd.dead) = true then [hd0, ⟨true, 0, [1]⟩] else [hd0, hd0] := rfl
  rw [e, sk_alive.1]
  rfl
theorem sk_j : putE [hd0, ⟨true, 0, [1]⟩] 1 skd 1 [2] [] = 7 := rfl
theorem sk_js : putS [hd0, ⟨true, 0, [1]⟩] 1 skd 1 [2] [] = skd := rfl
theorem sk_jh : putH [hd0, ⟨true, 0, [1]⟩] 1 skd 1 [2] [] = [hd0, ⟨true, 0, [1]⟩] := rfl
theorem sk_k0 : Alive (markS skd 9 hd0) := (sk_alive.mark 9 hd0 ⟨by simp [hd0], by simp [hd0], by simp [hd0], fun _ => rfl⟩ (by rw [skd_cnt]; omega)).1
theorem sk_k : clearE [hd0, ⟨true, 0, [1]⟩] 1 skd 1 = 0 := by
  have e : clearE [hd0, ⟨true, 0, [1]⟩] 1 skd 1 = deadE (markS skd 9 hd0) := rfl
  rw [e, sk_k0.deadE]
theorem sk_kh : clearH [hd0, ⟨true, 0, [1]⟩] 1 skd 1 = [hd0, hd0] := by
  have e : clearH [hd0, ⟨true, 0, [1]⟩] 1 skd 1 = if (true && !(markS skd 9 hd0).dead) = true then [hd0, hd0] else [hd0, ⟨true, 0, [1]⟩] := rfl
  rw [e, sk_k0.1]
  rfl
theorem sk_f : freeS [hd0, hd0] = 0 := by decide +kernel

set_option maxRecDepth 100000 in
set_option maxHeartbeats 6400000 in
theorem known5_any (w : World) : Calls Try.prog 9 #[] w fun e w' => e = .returned (.bool true) ∧ Keeps [] w w' := by
  have hmk : ∀ w, (Instr.makeSlice 28 (.int .i64 41) (.int .i64 41)).run Try.prog w = .ok (.slice (some ⟨w.heap.size, 0, none⟩) 41 41) (w.alloc (.cells (madeCells #[.int .u8 0] 41) 5)) := fun w =>
    run_make_row' (P := Try.prog) 28 5 (.int .u8 0) 1 Try.underlying28 info5 rfl .i64 .i64 41 (by omega) (by omega) w
  go_enter Try.func9, Try.ntmps9
  go_wp2_with fail
  refine (awake5_any w).mono ?_
  rintro e w0 ⟨rfl, k0⟩
  have K0 := hid k0
  clear k0
  go_wp2_with fail
  refine (newAt_any 17 (by omega) (by omega) w0).mono ?_
  rintro e w1 ⟨p, F1, rfl, d1, l1, k1⟩
  have D1 := hid d1
  have L1 := hid l1
  have K1 := hid (K0.out.trans k1)
  have z0 := K0.out.size
  clear d1 l1 k1
  go_wp2_with fail
  refine (lOpen_good w1 p (blankS 17) F1 0 D1.out 1 2 (by show 1 ≤ 17; omega) rfl rfl (blank_good 17 1 2)).mono ?_
  rintro e w2 ⟨q, g, rfl, H2, n1, n2, k2⟩
  rw [blank_heads, hs2] at H2
  have S2 : Hid (SlNew w w2 q p g 1 [hd0, hd0] (blankS 17) F1 0) := hid ⟨H2, ⟨by have := K1.out.size; omega, by have := K1.out.size; omega, fun b hb => by have := L1.out b hb; omega⟩, K1.out.trans k2⟩
  clear H2 n1 n2 k2 D1 L1 K1 z0 K0
  go_wp2_with fail
  refine (lOpen_nil 1 w2).mono ?_
  rintro e _ ⟨rfl, rfl⟩
  go_wp2_with fail
  refine (lOpen_arg w2 p (blankS 17) F1 0 S2.out.at_.dk 18 (by show 17 < 18; omega)).mono ?_
  rintro e _ ⟨rfl, rfl⟩
  go_wp2_with fail
  have kA := (Keeps.refl [] w2).alloc (.cells (madeCells #[.int .u8 0] 41) 5)
  have R41 := hid (row_made w2 41 (by omega))
  have O41 : Hid (Off F1 (.slice (some ⟨w2.heap.size, 0, none⟩) 41 41) (List.replicate 41 0)) := hid (S2.out.off' _ _ _ _ (Nat.le_refl _))
  have S3 := hid (S2.out.keep kA)
  have nn : ∀ F : List Nat, Off F (.slice none 0 0) [] := fun F ad n c e => by cases e
  have NN := hid nn
  clear kA S2 nn
  generalize w2.alloc (.cells (madeCells #[.int .u8 0] 41) 5) = w3 at R41 S3 ⊢
  refine (lPut_any w3 q p g 1 _ _ F1 0 S3.out.at_ (by omega) 0 _ (List.replicate 41 0) R41.out O41.out _ [] (RowAt.nil _) (NN.out _)).mono ?_
  intro e w4 hp
  obtain ⟨rfl, F4, q4⟩ := S3.out.step hp
  rw [sk_g]
  rw [sk_gs, sk_gh] at q4
  have S4 := hid q4
  clear hp q4 S3 R41 O41
  go_wp2_with fail
  refine (lPut_any w4 q p g 1 _ _ F4 _ S4.out.at_ (by omega) 2 _ [] (RowAt.nil _) (NN.out _) _ [] (RowAt.nil _) (NN.out _)).mono ?_
  intro e w5 hp
  obtain ⟨rfl, F5, q5⟩ := S4.out.step hp
  rw [sk_h]
  rw [sk_hs, sk_hh] at q5
  have S5 := hid q5
  clear hp q5 S4
  go_wp2_with fail
  refine (lGet_no w5 q p g 1 _ S5.out.at_.sl 0 (by rw [sk_i]; decide)).mono ?_
  rw [sk_i]
  rintro e w6 ⟨rfl, k6⟩
  have S6 := hid (S5.out.keep k6)
  clear k6 S5
  go_wp2_with fail
  have kA := (Keeps.refl [] w6).alloc (.cells #[.int .u8 1] 5)
  have R1 := hid (row_oneS (w := w6) 1 5 (by omega))
  have O1 : Hid (Off F5 (.slice (some ⟨w6.heap.size, 0, none⟩) 1 1) [1]) := hid (S6.out.off' _ _ _ _ (Nat.le_refl _))
  have S7 := hid (S6.out.keep kA)
  clear kA S6
  generalize w6.alloc (.cells #[.int .u8 1] 5) = w7 at R1 S7 ⊢
  refine (lPut_any w7 q p g 1 _ _ F5 _ S7.out.at_ (by omega) 1 _ [1] R1.out O1.out _ [] (RowAt.nil _) (NN.out _)).mono ?_
  intro e w8 hp
  obtain ⟨rfl, F8, q8⟩ := S7.out.step hp
  rw [sk_ps, sk_ph] at q8
  have S8 := hid q8
  clear hp q8 S7 R1 O1
  go_wp2_with fail
  have kA := (Keeps.refl [] w8).alloc (.cells #[.int .u8 2] 5)
  have R1 := hid (row_oneS (w := w8) 2 5 (by omega))
  have O1 : Hid (Off F8 (.slice (some ⟨w8.heap.size, 0, none⟩) 1 1) [2]) := hid (S8.out.off' _ _ _ _ (Nat.le_refl _))
  have S9 := hid (S8.out.keep kA)
  clear kA S8
  generalize w8.alloc (.cells #[.int .u8 2] 5) = w9 at R1 S9 ⊢
  refine (lPut_any w9 q p g 1 _ _ F8 _ S9.out.at_ (by omega) 1 _ [2] R1.out O1.out _ [] (RowAt.nil _) (NN.out _)).mono ?_
  intro e wa hp
  obtain ⟨rfl, Fa, qa⟩ := S9.out.step hp
  rw [sk_j]
  rw [sk_js, sk_jh] at qa
  have SA := hid qa
  clear hp qa S9 R1 O1
  go_wp2_with fail
  refine (lClear_any wa q p g 1 _ _ Fa _ SA.out.at_ (by omega) 1).mono ?_
  intro e wb hp
  obtain ⟨rfl, Fb, qb⟩ := SA.out.step hp
  rw [sk_k]
  rw [sk_kh] at qb
  have SB := hid qb
  clear hp qb SA
  go_wp2_with fail
  have fr := lFree_any wb q p g 1 _ SB.out.at_.sl
  rw [sk_f] at fr
  have FR := hid fr
  clear fr
  refine FR.out.mono ?_
  rintro e wc ⟨rfl, kc⟩
  have KC := hid (SB.out.kept.trans kc)
  clear kc
  go_wp2_with fail
  go_ret
  exact ⟨rfl, KC.out⟩

set_option maxRecDepth 100000 in
theorem known5_lifted (os : Os) (started : os.Started) (H : Type) (enc : TypeId × Value → H) :
    ReturnsInHanded {} Try.checked os 9 .any (Rows.slotKnownSpec.pre6 enc Try.prog Try.f9 Rows.slotKnownRow.domain false) (Rows.slotKnownSpec.post enc Try.prog Try.f9 false true false false) := by
  refine returnsInHanded_of_change (C := Try.checked) own started (by kernel_rfl) Try.func9
    (ChangeSpec.witness6 (enc := enc) (C := Try.checked) false ⟨#[], #[], []⟩ 8 (by kernel_rfl) (by kernel_rfl) (by kernel_rfl) (by kernel_rfl)) ?_
  intro W base args ds gs before hval0 hW hcnd _
  have hval : ∀ (j : Nat) t v, Try.f9.params[j]? = some t → args[j]? = some v → Value.okWide Try.prog W .any base t v := hval0
  have hW' := hW
  obtain ⟨p, q, hA0, hV, rfl, hfz, hnd⟩ := hW
  have hA : DataW.TrodAll enc Try.prog W 0 (fun _ => true) true Try.f9.params.toList args.toList ds p := hA0
  rw [Try.params9] at hA hval
  obtain ⟨hargs, rfl, rfl⟩ := trodAll_none hA
  obtain rfl : args = #[] := by simpa using hargs
  obtain ⟨rfl, rfl⟩ := trodVars_none hV
  clear hA0 hval0
  simp only [List.append_nil] at hW'
  refine (known5_any W ).mono fun e W' ⟨he, hk⟩ => ?_
  subst he
  have bel : Below W.heap.size W W' := hk.below (Nat.le_refl _) (by simp)
  exact ⟨_, rfl, _, _, _, [], _, [], hW', trodAll_mk1 (shut_bool Try.underlying4 _), rfl, rfl, bel.frame _, fun h => by cases h⟩

theorem known5_holds : Rows.SlotKnownSaid :=
  OpenClaim.holds_of_wide 9 Try.f9 rfl rfl rfl rfl rfl rfl rfl ⟨rfl, rfl, rfl, rfl, rfl⟩ rfl rfl rfl rfl rfl (by kernel_rfl) Try.func9 (by kernel_rfl)
    (of_decide_eq_true (by kernel_rfl)) (by unfold Func.isWrapper; rw [if_neg (of_decide_eq_false (by kernel_rfl))]; exact ⟨rfl, rfl⟩)
    (fun os started H enc _ => known5_lifted os started H enc)
end Go.Proofs.Ytpnckjfmiobobaa
