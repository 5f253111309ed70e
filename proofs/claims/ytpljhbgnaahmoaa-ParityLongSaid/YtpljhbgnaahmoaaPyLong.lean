/- The parity is as long as the longest row, a row alone is its own parity, a row twice is noughts (the law ParityLong): for every slice of rows and every row the law returns true, and both read as they did. No condition. -/
import Derived.Test.YtpljhbgnaahmoaaPyRows
namespace Go.Proofs.Ytpljhbgnaahmoaa
open Go.ChangeShapes Go.WideShapes Go.ChangeAt Go.RowKit

theorem two_len (b : List Int) : (xorL [b, b]).length = b.length := by rw [xorL_length]; simp [longest]
theorem two_holds (b : List Int) (hb : ∀ z ∈ b, byteB z) : zeroB (xorL [xorL [b, b]]) = true := by
  rw [one_is _ (xorL_byte (by intro r hr; simp at hr; subst hr; exact hb))]
  exact zeroB_of (allZero_xorL (two_zero b))

set_option maxRecDepth 100000 in
set_option maxHeartbeats 4000000 in
theorem llong_any (w : World) (v : Value) (rs : List (El w)) (hR : RowsAt w v rs) (u : Value) (b : List Int) (hb : RowAt w u b) :
    Calls Try.prog 14 #[v, u] w fun e w' => e = .returned (.bool true) ∧ Keeps [] w w' := by
  have HR := hid hR
  have HB := hid hb
  have HBB := hid hb.bytes
  obtain ⟨a, cap, rfl, z⟩ := hR
  clear z
  obtain ⟨ua, uc, rfl, z⟩ := hb
  clear z
  go_enter Try.func14, Try.ntmps14
  go_wp2_with fail
  refine (lawake_any w).mono ?_
  rintro e w1 ⟨rfl, q1⟩
  have K1 := hid q1
  clear q1
  go_wp2_with fail
  refine (small_any w1 _ rs 300 (HR.out.keep K1.out)).mono ?_
  rintro e w2 ⟨rfl, rfl⟩
  cases hs : smallB rs 300 with
  | false =>
    clear hs
    go_wp2_with fail
    go_ret
    exact ⟨rfl, K1.out⟩
  | true =>
    have HL := hid (smallB_len hs)
    have HM := hid (small_longest (most := 300) hs)
    clear hs
    by_cases hbl : 300 < b.length
    · have hbl' : (300 : Int) < b.length := by omega
      go_wp2_with fail
      go_ret
      exact ⟨rfl, K1.out⟩
    · have hbl' : ¬ (300 : Int) < b.length := by omega
      have hl40 : rs.length ≤ 40 := HL.out
      go_wp2_with fail
      go_loop [5, 6] (fun t i => ∃ k : Nat, k ≤ rs.length ∧ i = .int .i64 k ∧ t = .int .i64 (longest (raws (rs.take k)))) (fun _ i => rs.length - (intOf i).toNat)
      case atStart => exact ⟨0, Nat.zero_le _, rfl, rfl⟩
      case round =>
        obtain ⟨k, hk, rfl, rfl⟩ := hrel
        by_cases hlt : k < rs.length
        · obtain ⟨g, o, c, e1, _, hc⟩ := (HR.out.keep K1.out).open (by omega)
          injection e1 with e1 _ e3
          subst e1; subst e3
          have d1 := hc k hlt
          obtain ⟨a2, c2, hx⟩ := rs[k].slice
          rw [hx] at d1
          have HT := hid (show longest (raws (rs.take (k + 1))) = max (longest (raws (rs.take k))) rs[k].1.2.length by rw [raws_take rs k hlt, longest_snoc])
          clear hc hx
          generalize rs[k].1.2.length = m at *
          generalize longest (raws (rs.take k)) = q at *
          go_wp2_with fail
          all_goals
            go_round
            case rel => exact ⟨k + 1, by omega, by go_num, by rw [HT.out]; congr 1; omega⟩
            case measure => simp [intOf]; omega
        · have : k = rs.length := by omega
          subst this
          rw [List.take_length]
          have r1 := HB.out.later K1.out
          have X := xor_lit w1 [(.slice ua b.length uc, b), (.slice ua b.length uc, b)] (by
            intro r hr
            simp only [List.mem_cons, List.not_mem_nil, or_false, or_self] at hr
            subst hr
            exact ⟨r1, by simp only []; omega⟩) 25 (by simp)
          simp only [List.map_cons, List.map_nil, List.length_cons, List.length_nil, Nat.reduceAdd] at X
          replace X := hid X
          clear r1
          go_wp2_with fail
          refine X.out.mono ?_
          rintro e w2 ⟨a2, c2, rfl, q1, _, q2⟩
          have R2 := hid q1
          have K2 := hid ((K1.out.alloc _).trans q2)
          clear q1 q2 X
          have X := hid (xor_at K2.out _ rs (HR.out.keep K2.out) (by omega))
          go_wp2_with fail
          refine X.out.mono ?_
          rintro e w3 ⟨a3, c3, rfl, q1, _, q2⟩
          have R2' := hid (R2.out.later q2)
          have K3 := hid (K2.out.trans q2)
          have hxl : (xorL (raws rs)).length = longest (raws rs) := xorL_length _
          rw [hxl]
          clear q1 q2 X hxl
          have r1 := HB.out.later K3.out
          have X := xor_lit w3 [(.slice ua b.length uc, b)] (by
            intro r hr
            simp only [List.mem_cons, List.not_mem_nil, or_false] at hr
            subst hr
            exact ⟨r1, by simp only []; omega⟩) 25 (by simp)
          simp only [List.map_cons, List.map_nil, List.length_cons, List.length_nil, Nat.reduceAdd, one_is b HBB.out] at X
          replace X := hid X
          clear r1
          go_wp2_with fail
          refine X.out.mono ?_
          rintro e w4 ⟨a4, c4, rfl, q1, _, q2⟩
          have R4 := hid q1
          have R2'' := hid (R2'.out.later ((lit_keep _ _).trans q2))
          have K4 := hid ((K3.out.alloc _).trans q2)
          clear q1 q2 X
          go_wp2_with fail
          refine (same_self _ _ _ _ R4.out (HB.out.later K4.out) (by omega)).mono ?_
          rintro e w5 ⟨rfl, q2⟩
          have K5 := hid (K4.out.trans q2)
          have R5 := hid (R2''.out.later q2)
          have h2 := two_len b
          have X := holds_lit w5 [(.slice a2 (xorL [b, b]).length c2, xorL [b, b])] (by
            intro r hr
            simp only [List.mem_cons, List.not_mem_nil, or_false] at hr
            subst hr
            exact ⟨R5.out, by simp only []; omega⟩) 25 (by simp)
          simp only [List.map_cons, List.map_nil, List.length_cons, List.length_nil, Nat.reduceAdd, two_holds b HBB.out] at X
          rw [h2] at X ⊢
          replace X := hid X
          clear q2 h2
          go_wp2_with fail
          refine X.out.mono ?_
          rintro e w6 ⟨rfl, q2⟩
          have K6 := hid ((K5.out.alloc _).trans q2)
          clear q2
          go_wp2_with fail
          go_ret
          exact ⟨rfl, K6.out⟩

set_option maxRecDepth 100000 in
theorem llong_lifted (os : Os) (started : os.Started) (H : Type) (enc : TypeId × Value → H) :
    ReturnsInHanded {} Try.checked os 14 .any (Rows.parityLongSpec.pre6 enc Try.prog Try.f14 Rows.parityLongRow.domain false) (Rows.parityLongSpec.post enc Try.prog Try.f14 false true false false) := by
  refine returnsInHanded_of_change_sized (C := Try.checked) own started (by kernel_rfl) Try.func14
    (ChangeSpec.witness6 (enc := enc) (C := Try.checked) false ⟨#[], #[.slice none 0 0, .slice none 0 0], []⟩ 8 (by kernel_rfl) (by kernel_rfl) (by kernel_rfl) (by kernel_rfl)) ?_
  intro W base args ds gs before hval0 hW hcnd hsz0 _
  have hval : ∀ (j : Nat) t v, Try.f14.params[j]? = some t → args[j]? = some v → Value.okWide Try.prog W .any base t v := hval0
  have hsz : (DataW.weightsEach Try.prog (Try.f14.params.toList ++ Rows.parityLongSpec.plain.varTypes Try.prog) (ds ++ gs)).all (· ≤ reachBytes) = true := hsz0
  have hW' := hW
  obtain ⟨p, q, hA0, hV, rfl, hfz, hnd⟩ := hW
  have hA : DataW.TrodAll enc Try.prog W 0 (fun _ => true) true Try.f14.params.toList args.toList ds p := hA0
  rw [Try.params14] at hA hval hsz
  obtain ⟨v0, vs0, d0, ds0, p0, q0, hargs, rfl, rfl, h0, r0⟩ := trodAll_cons hA
  obtain ⟨v1, vs1, d1, ds1, p1, q1, rfl, rfl, rfl, h1, r1⟩ := trodAll_cons r0
  obtain ⟨rfl, rfl, rfl⟩ := trodAll_nil r1
  obtain rfl : args = #[v0, v1] := by cases args; simp_all
  obtain ⟨rfl, rfl⟩ := trodVars_none hV
  have k0 := h0
  have lt0 : ∀ x ∈ p0, x.block < W.heap.size := by obtain ⟨m, hm⟩ := k0; exact DataW.trod_lt m _ _ _ hm
  have k1 := h1
  have lt1 : ∀ x ∈ p1, x.block < W.heap.size := by obtain ⟨m, hm⟩ := k1; exact DataW.trod_lt m _ _ _ hm
  obtain ⟨a0, l0, c0, rfl⟩ := okWide_slice Try.underlying61 (hval 0 61 v0 rfl rfl)
  obtain ⟨a1, l1, c1, rfl⟩ := okWide_slice Try.underlying25 (hval 1 25 v1 rfl rfl)
  obtain ⟨x0, y0⟩ : ∃ zs : List (El W), RowsAt W (.slice a0 l0 c0) zs := by
    obtain ⟨m, hm⟩ := h0
    obtain ⟨v, zs, e, hr⟩ := rows_of_trod hm (each_le hsz (j := 0) rfl rfl)
    simp [Value.cells] at e
    subst e
    exact ⟨zs, hr⟩
  obtain ⟨x1, y1⟩ : ∃ zs, RowAt W (.slice a1 l1 c1) zs ∧ zs.length ≤ 140737488351232 := by
    obtain ⟨m, hm⟩ := h1
    obtain ⟨v, zs, e, hr, hz⟩ := row_of_trod hm (each_le hsz (j := 1) rfl rfl)
    simp [Value.cells] at e
    subst e
    exact ⟨zs, hr, hz⟩
  clear hA0 hval0
  refine (llong_any W _ x0 y0 _ x1 y1.1).mono fun e W' ⟨he, hk⟩ => ?_
  subst he
  have bel : Below W.heap.size W W' := hk.below (Nat.le_refl _) (by simp)
  exact ⟨_, rfl, _, _, _, [], _, [], hW', trodAll_mk1 (shut_bool Try.underlying4 _), (trodAll_cons_mk (Below.trod laidOut (by kernel_rfl) (of_decide_eq_true (by kernel_rfl)) k0 bel lt0) (trodAll_cons_mk (Below.trod laidOut (by kernel_rfl) (of_decide_eq_true (by kernel_rfl)) k1 bel lt1) trodAll_mk0)), rfl, bel.frame _, fun h => by cases h⟩

theorem llong_holds : Rows.ParityLongSaid :=
  OpenClaim.holds_of_wide 14 Try.f14 rfl rfl rfl rfl rfl rfl rfl ⟨rfl, rfl, rfl, rfl, rfl⟩ rfl rfl rfl rfl rfl (by kernel_rfl) Try.func14 (by kernel_rfl)
    (of_decide_eq_true (by kernel_rfl)) (by unfold Func.isWrapper; rw [if_neg (of_decide_eq_false (by kernel_rfl))]; exact ⟨rfl, rfl⟩)
    (fun os started H enc _ => llong_lifted os started H enc)
end Go.Proofs.Ytpljhbgnaahmoaa
