/- Any rows: their parity, whether they hold, any one out of the others, or that it may not be (the law ParityRows): for every slice of rows and every two numbers the law returns true, and the rows read as they did. No condition. -/
import Derived.Test.YtpljhbgnaahmoaaPyKnown
import Derived.Test.YtpljhbgnaahmoaaPyOpen
namespace Go.Proofs.Ytpljhbgnaahmoaa
open Go.ChangeShapes Go.WideShapes Go.ChangeAt Go.RowKit

theorem fillRow_len (l : List (List Int)) (i n : Int) : (fillRow (fillM l i n)).length ≤ longest l := by
  unfold fillM
  split
  · rename_i h
    have h1 : longest (l.eraseIdx i.toNat) ≤ longest l := longest_sub fun q hq => List.mem_of_mem_eraseIdx hq
    show (xorN n.toNat (l.eraseIdx i.toNat)).length ≤ _
    rw [xorN_length]
    omega
  · simp [fillRow]

theorem small_longest {w0 : World} {rs : List (El w0)} {most : Nat} (h : smallB rs most = true) : longest (raws rs) ≤ most :=
  longest_le fun r hr => by have := smallB_row h r hr; omega

theorem same_self (w : World) (u v : Value) (xs : List Int) (hx : RowAt w u xs) (hy : RowAt w v xs) (hl : xs.length ≤ 35184372088832) :
    Calls Try.prog 26 #[u, v] w fun e w' => e = .returned (.bool true) ∧ Keeps [] w w' :=
  (same_any w u v xs xs hx hy hl hl).mono fun e w' ⟨he, n, hw⟩ => by
    subst hw
    rw [decide_eq_true rfl] at he
    exact ⟨he, (Keeps.refl _ _).drewN n⟩

set_option maxRecDepth 100000 in
set_option maxHeartbeats 4000000 in
theorem lrows_any (w : World) (v : Value) (rs : List (El w)) (hR : RowsAt w v rs) (i n : Int) :
    Calls Try.prog 11 #[v, .int .i64 i, .int .i64 n] w fun e w' => e = .returned (.bool true) ∧ Keeps [] w w' := by
  have HR := hid hR
  obtain ⟨a, cap, rfl, z⟩ := hR
  clear z
  go_enter Try.func11, Try.ntmps11
  go_wp2_with fail
  refine (lawake_any w).mono ?_
  rintro e w1 ⟨rfl, q1⟩
  have K1 := hid q1
  clear q1
  go_wp2_with fail
  refine (small_any w1 _ rs 500 (HR.out.keep K1.out)).mono ?_
  rintro e w2 ⟨rfl, rfl⟩
  cases hs : smallB rs 500 with
  | false =>
    clear hs
    go_wp2_with fail
    go_ret
    exact ⟨rfl, K1.out⟩
  | true =>
    have HL := hid (smallB_len hs)
    have HM := hid (small_longest (most := 500) hs)
    have HF := hid (fillRow_len (raws rs) i n)
    have hlx : (xorL (raws rs)).length ≤ 500 := by rw [xorL_length]; exact HM.out
    have hlf : (fillRow (fillM (raws rs) i n)).length ≤ 500 := by have := HF.out; have := HM.out; omega
    have X1 := fill_at K1.out _ rs (HR.out.keep K1.out) (by have := HL.out; omega) i n
    have X2 := fun (w2 : World) (K2 : Keeps [] w w2) => rfill_at K2 _ rs (HR.out.keep K2) (by have := HL.out; omega) (by have := HM.out; omega) i n
    have X3 := fun (w2 : World) (K2 : Keeps [] w w2) => xor_at K2 _ rs (HR.out.keep K2) (by have := HL.out; omega)
    have X4 := fun (w2 : World) (K2 : Keeps [] w w2) => rxor_at K2 _ rs (HR.out.keep K2) (by have := HL.out; omega) (by have := HM.out; omega)
    have X5 := fun (w2 : World) (K2 : Keeps [] w w2) => holds_at K2 _ rs (HR.out.keep K2) (by have := HL.out; omega)
    have X6 := fun (w2 : World) (K2 : Keeps [] w w2) => rholds_at K2 _ rs (HR.out.keep K2) (by have := HL.out; omega) (by have := HM.out; omega)
    clear hs HF
    generalize fillM (raws rs) i n = r at *
    generalize xorL (raws rs) = zx at *
    generalize zeroB zx = bz at *
    generalize hfr : fillRow r = zr at *
    have HFR := hid hfr
    clear hfr
    replace X1 := hid X1
    replace X2 := hid X2
    replace X3 := hid X3
    replace X4 := hid X4
    replace X5 := hid X5
    replace X6 := hid X6
    go_wp2_with fail
    refine X1.out.mono ?_
    rintro e w2 ⟨a2, c2, rfl, q1, q2⟩
    rw [HFR.out] at q1 ⊢
    have R2 := hid q1
    have K2 := hid (K1.out.trans q2)
    clear q1 q2
    go_wp2_with fail
    refine (X2.out _ K2.out).mono ?_
    rintro e w3 ⟨a3, c3, rfl, q1, q2⟩
    rw [HFR.out] at q1 ⊢
    have R3 := hid q1
    have R2' := hid (R2.out.later q2)
    have K3 := hid (K2.out.trans q2)
    clear q1 q2
    generalize fillErr r = zf at *
    go_wp2_with fail
    refine (X3.out _ K3.out).mono ?_
    rintro e w4 ⟨a4, c4, rfl, q1, _, q2⟩
    have R4 := hid q1
    have K4 := hid (K3.out.trans q2)
    have S4 := hid q2
    clear q1 q2
    go_wp2_with fail
    refine (X4.out _ K4.out).mono ?_
    rintro e w5 ⟨a5, c5, rfl, q1, _, q2⟩
    have R5 := hid q1
    have R4' := hid (R4.out.later q2)
    have K5 := hid (K4.out.trans q2)
    have S5 := hid (S4.out.trans q2)
    clear q1 q2
    go_wp2_with fail
    refine (same_self _ _ _ _ R4'.out R5.out (by omega)).mono ?_
    rintro e w6 ⟨rfl, q2⟩
    have K6 := hid (K5.out.trans q2)
    have S6 := hid (S5.out.trans q2)
    clear q2
    go_wp2_with fail
    refine (X5.out _ K6.out).mono ?_
    rintro e w7 ⟨rfl, q2⟩
    have K7 := hid (K6.out.trans q2)
    have S7 := hid (S6.out.trans q2)
    clear q2
    go_wp2_with fail
    refine (X6.out _ K7.out).mono ?_
    rintro e w8 ⟨rfl, q2⟩
    have K8 := hid (K7.out.trans q2)
    have S8 := hid (S7.out.trans q2)
    clear q2
    go_wp2_with fail
    refine (same_self _ _ _ _ (R2'.out.later S8.out) (R3.out.later S8.out) (by omega)).mono ?_
    rintro e w9 ⟨rfl, q2⟩
    have K9 := hid (K8.out.trans q2)
    clear q2
    go_wp2_with fail
    go_ret
    exact ⟨rfl, K9.out⟩

set_option maxRecDepth 100000 in
theorem lrows_lifted (os : Os) (started : os.Started) (H : Type) (enc : TypeId × Value → H) :
    ReturnsInHanded {} Try.checked os 11 .any (Rows.parityRowsSpec.pre6 enc Try.prog Try.f11 Rows.parityRowsRow.domain false) (Rows.parityRowsSpec.post enc Try.prog Try.f11 false true false false) := by
  refine returnsInHanded_of_change_sized (C := Try.checked) own started (by kernel_rfl) Try.func11
    (ChangeSpec.witness6 (enc := enc) (C := Try.checked) false ⟨#[], #[.slice none 0 0, .int .i64 0, .int .i64 0], []⟩ 8 (by kernel_rfl) (by kernel_rfl) (by kernel_rfl) (by kernel_rfl)) ?_
  intro W base args ds gs before hval0 hW hcnd hsz0 _
  have hval : ∀ (j : Nat) t v, Try.f11.params[j]? = some t → args[j]? = some v → Value.okWide Try.prog W .any base t v := hval0
  have hsz : (DataW.weightsEach Try.prog (Try.f11.params.toList ++ Rows.parityRowsSpec.plain.varTypes Try.prog) (ds ++ gs)).all (· ≤ reachBytes) = true := hsz0
  have hW' := hW
  obtain ⟨p, q, hA0, hV, rfl, hfz, hnd⟩ := hW
  have hA : DataW.TrodAll enc Try.prog W 0 (fun _ => true) true Try.f11.params.toList args.toList ds p := hA0
  rw [Try.params11] at hA hval hsz
  obtain ⟨v0, vs0, d0, ds0, p0, q0, hargs, rfl, rfl, h0, r0⟩ := trodAll_cons hA
  obtain ⟨v1, vs1, d1, ds1, p1, q1, rfl, rfl, rfl, h1, r1⟩ := trodAll_cons r0
  obtain ⟨v2, vs2, d2, ds2, p2, q2, rfl, rfl, rfl, h2, r2⟩ := trodAll_cons r1
  obtain ⟨rfl, rfl, rfl⟩ := trodAll_nil r2
  obtain rfl : args = #[v0, v1, v2] := by cases args; simp_all
  obtain ⟨rfl, rfl⟩ := trodVars_none hV
  have k0 := h0
  have lt0 : ∀ x ∈ p0, x.block < W.heap.size := by obtain ⟨m, hm⟩ := k0; exact DataW.trod_lt m _ _ _ hm
  obtain ⟨a0, l0, c0, rfl⟩ := okWide_slice Try.underlying61 (hval 0 61 v0 rfl rfl)
  obtain ⟨z1, rfl, rfl, rfl, w1⟩ := open_int Try.underlying3 (hval 1 3 v1 rfl rfl) h1
  obtain ⟨z2, rfl, rfl, rfl, w2⟩ := open_int Try.underlying3 (hval 2 3 v2 rfl rfl) h2
  obtain ⟨x0, y0⟩ : ∃ zs : List (El W), RowsAt W (.slice a0 l0 c0) zs := by
    obtain ⟨m, hm⟩ := h0
    obtain ⟨v, zs, e, hr⟩ := rows_of_trod hm (each_le hsz (j := 0) rfl rfl)
    simp [Value.cells] at e
    subst e
    exact ⟨zs, hr⟩
  clear hA0 hval0
  refine (lrows_any W _ x0 y0 z1 z2).mono fun e W' ⟨he, hk⟩ => ?_
  subst he
  have bel : Below W.heap.size W W' := hk.below (Nat.le_refl _) (by simp)
  exact ⟨_, rfl, _, _, _, [], _, [], hW', trodAll_mk1 (shut_bool Try.underlying4 _), (trodAll_cons_mk (Below.trod laidOut (by kernel_rfl) (of_decide_eq_true (by kernel_rfl)) k0 bel lt0) (trodAll_cons_mk (shut_int Try.underlying3 w1) (trodAll_cons_mk (shut_int Try.underlying3 w2) trodAll_mk0))), rfl, bel.frame _, fun h => by cases h⟩

theorem lrows_holds : Rows.ParityRowsSaid :=
  OpenClaim.holds_of_wide 11 Try.f11 rfl rfl rfl rfl rfl rfl rfl ⟨rfl, rfl, rfl, rfl, rfl⟩ rfl rfl rfl rfl rfl (by kernel_rfl) Try.func11 (by kernel_rfl)
    (of_decide_eq_true (by kernel_rfl)) (by unfold Func.isWrapper; rw [if_neg (of_decide_eq_false (by kernel_rfl))]; exact ⟨rfl, rfl⟩)
    (fun os started H enc _ => lrows_lifted os started H enc)
end Go.Proofs.Ytpljhbgnaahmoaa
