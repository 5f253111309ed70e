/- A stripe so many times as great, of which so many times as much lives, is worth as much, to the bit (the law GradeScales): for every two uint16s and every pair of them the law returns true. No condition. -/
import Derived.Test.YtoffepagogmkkaaGrD
namespace Go.Proofs.Ytoffepagogmkkaa
open Go.ChangeShapes Go.WideShapes Go.ChangeAt Go.RowKit

section
variable {H : Type} {enc : TypeId × Value → H}
theorem cells_u16 : Try.prog.cellsOf 31 = 1 := by kernel_rfl
theorem cells_pair : Try.prog.cellsOf 44 = 2 := by kernel_rfl

/-- An array of two numbers that came in. -/
theorem pair_of_trod {W : World} {base : Nat} {v : Value} {d : DataW H} {p : List MemPlace} (hv : Value.okWide Try.prog W .any base 44 v) (h : DataW.Trod enc Try.prog W 0 (fun _ => true) true 44 v d p) :
    ∃ z y, v = .agg #[.int .u16 z, .int .u16 y] ∧ d = .agg [.lit (.int .u16 z), .lit (.int .u16 y)] ∧ p = [] ∧ (Lit.int .u16 z).wf = true ∧ (Lit.int .u16 y).wf = true := by
  obtain ⟨cs, rfl, hsz, _⟩ : ∃ cs, v = .agg cs ∧ cs.size = Try.prog.cellsOf 44 ∧ Row.okWide Try.prog W .any base 44 cs := by
    simpa [Value.okWide, Try.underlying44] using hv
  rw [cells_pair] at hsz
  obtain ⟨l⟩ := cs
  obtain ⟨c0, c1, rfl⟩ : ∃ a b, l = [a, b] := by
    match l, hsz with
    | [a, b], _ => exact ⟨a, b, rfl⟩
  obtain ⟨fuel, hf⟩ := h
  obtain ⟨xs, m, rfl, e, _, hl, hi⟩ := DataW.trod_array Try.underlying44 hf
  obtain ⟨x0, x1, rfl⟩ : ∃ a b, xs = [a, b] := by
    match xs, hl with
    | [a, b], _ => exact ⟨a, b, rfl⟩
  have h0 := hi 0 (by decide)
  have h1 := hi 1 (by decide)
  rw [cells_u16] at h0 h1
  simp [Value.cells] at h0 h1
  obtain ⟨z, e0, rfl, w0⟩ := DataW.trod_int Try.underlying31 h0
  obtain ⟨y, e1, rfl, w1⟩ := DataW.trod_int Try.underlying31 h1
  simp at e0 e1 e
  subst e0 e1
  exact ⟨z, y, rfl, e.1, e.2, w0, w1⟩

theorem pair_shut {W : World} {sp : Nat → Bool} {held : Bool} {z y : Int} (h : (Lit.int .u16 z).wf = true ∧ (Lit.int .u16 y).wf = true) :
    DataW.Trod enc Try.prog W 0 sp held 44 (.agg #[.int .u16 z, .int .u16 y]) (.agg [.lit (.int .u16 z), .lit (.int .u16 y)]) [] :=
  ⟨2, by simp [DataW.trod, Value.cells, Try.underlying44, Try.underlying31, cells_pair, cells_u16, h.1, h.2, show List.range 2 = [0, 1] from rfl]⟩
end

theorem scales_same (l s k : Nat) (age : Int) {r q : Nat} (hk : 0 < k) (hl : k * l < 2 ^ 53) (hs : k * s < 2 ^ 53) (h : GradeR l s age r) (g : GradeR ((k : Int) * l) ((k : Int) * s) age q) : bitsF q = bitsF r := by
  rw [← Int.natCast_mul, ← Int.natCast_mul] at g
  exact bits_same (g.cong h (scale_div l s k hk hl hs))

set_option maxHeartbeats 1000000 in
theorem scales_walk (w : World) (l s t age : Nat) (hl : l ≤ 65535) (hs : s ≤ 65535) (ht : t ≤ 65535) (hg : age ≤ 65535) :
    Calls Try.prog 9 #[.int .u16 l, .int .u16 s, .agg #[.int .u16 t, .int .u16 age]] w fun e w' => e = .returned (.bool true) ∧ Keeps [] w w' := by
  have b1 : 0 ≤ (1 + (t : Int) % 1000) * l := Int.mul_nonneg (by omega) (by omega)
  have b2 : (1 + (t : Int) % 1000) * l ≤ 1000 * 65535 := Int.mul_le_mul (by omega) (by omega) (by omega) (by omega)
  have b3 : 0 ≤ (1 + (t : Int) % 1000) * s := Int.mul_nonneg (by omega) (by omega)
  have b4 : (1 + (t : Int) % 1000) * s ≤ 1000 * 65535 := Int.mul_le_mul (by omega) (by omega) (by omega) (by omega)
  have HK := hid (show ((1 + t % 1000 : Nat) : Int) = 1 + (t : Int) % 1000 by omega)
  have HM1 := hid (show (1 + t % 1000) * l < 2 ^ 53 from Nat.lt_of_le_of_lt (Nat.mul_le_mul (show 1 + t % 1000 ≤ 1000 by omega) hl) (by decide))
  have HM2 := hid (show (1 + t % 1000) * s < 2 ^ 53 from Nat.lt_of_le_of_lt (Nat.mul_le_mul (show 1 + t % 1000 ≤ 1000 by omega) hs) (by decide))
  go_enter Try.func9, Try.ntmps9
  go_wp2_with fail
  refine (awake3_any _).mono ?_
  rintro e w1 ⟨rfl, n1, rfl⟩
  go_wp2_with fail
  refine (grade_any _ _ _ _).mono ?_
  rintro e w2 ⟨r, n2, rfl, hr, rfl⟩
  have HR := hid hr
  clear hr
  go_wp2_with fail
  refine (grade_any _ _ _ _).mono ?_
  rintro e w3 ⟨q, n3, rfl, hq, rfl⟩
  have HQ := hid (scales_same l s (1 + t % 1000) age (by omega) HM1.out HM2.out HR.out (by rw [HK.out]; exact hq))
  clear hq b1 b2 b3 b4 hl hs ht hg
  go_wp2_with fail
  refine (bits_any _ _).mono ?_
  rintro e w4 ⟨rfl, rfl⟩
  go_wp2_with fail
  refine (bits_any _ _).mono ?_
  rintro e w5 ⟨rfl, rfl⟩
  rw [HQ.out]
  go_wp2_with fail
  go_ret
  exact ⟨rfl, ((Keeps.refl _ _).alloc _).drewN _⟩
theorem scales_any (w : World) (l s : Int) (t age : Int) (hl : (Lit.int .u16 l).wf = true) (hs : (Lit.int .u16 s).wf = true) (hp : (Lit.int .u16 t).wf = true ∧ (Lit.int .u16 age).wf = true) :
    Calls Try.prog 9 #[.int .u16 l, .int .u16 s, .agg #[.int .u16 t, .int .u16 age]] w fun e w' => e = .returned (.bool true) ∧ Keeps [] w w' := by
  have U : ∀ {z : Int}, (Lit.int .u16 z).wf = true → 0 ≤ z ∧ z ≤ 65535 := by
    intro z h
    simp only [Lit.wf, IntKind.min, IntKind.max, IntKind.signed, IntKind.bits, Bool.and_eq_true] at h
    simpa using h
  obtain ⟨l1, l2⟩ := U hl
  obtain ⟨s1, s2⟩ := U hs
  obtain ⟨t1, t2⟩ := U hp.1
  obtain ⟨g1, g2⟩ := U hp.2
  obtain ⟨l', rfl⟩ := Int.eq_ofNat_of_zero_le l1
  obtain ⟨s', rfl⟩ := Int.eq_ofNat_of_zero_le s1
  obtain ⟨t', rfl⟩ := Int.eq_ofNat_of_zero_le t1
  obtain ⟨g', rfl⟩ := Int.eq_ofNat_of_zero_le g1
  exact scales_walk w l' s' t' g' (by omega) (by omega) (by omega) (by omega)

set_option maxRecDepth 100000 in
theorem scales_lifted (os : Os) (started : os.Started) (H : Type) (enc : TypeId × Value → H) :
    ReturnsInHanded {} Try.checked os 9 .any (Rows.gradeScalesSpec.pre6 enc Try.prog Try.f9 Rows.gradeScalesRow.domain false) (Rows.gradeScalesSpec.post enc Try.prog Try.f9 false true false false) := by
  refine returnsInHanded_of_change (C := Try.checked) own started (by kernel_rfl) Try.func9
    (ChangeSpec.witness6 (enc := enc) (C := Try.checked) false ⟨#[], #[.int .u16 0, .int .u16 0, .agg #[.int .u16 0, .int .u16 0]], []⟩ 8 (by kernel_rfl) (by kernel_rfl) (by kernel_rfl) (by kernel_rfl)) ?_
  intro W base args ds gs before hval0 hW hcnd _
  have hval : ∀ (j : Nat) t v, Try.f9.params[j]? = some t → args[j]? = some v → Value.okWide Try.prog W .any base t v := hval0
  have hW' := hW
  obtain ⟨p, q, hA0, hV, rfl, hfz, hnd⟩ := hW
  have hA : DataW.TrodAll enc Try.prog W 0 (fun _ => true) true Try.f9.params.toList args.toList ds p := hA0
  rw [Try.params9] at hA hval
  obtain ⟨v0, vs0, d0, ds0, p0, q0, hargs, rfl, rfl, h0, r0⟩ := trodAll_cons hA
  obtain ⟨v1, vs1, d1, ds1, p1, q1, rfl, rfl, rfl, h1, r1⟩ := trodAll_cons r0
  obtain ⟨v2, vs2, d2, ds2, p2, q2, rfl, rfl, rfl, h2, r2⟩ := trodAll_cons r1
  obtain ⟨rfl, rfl, rfl⟩ := trodAll_nil r2
  obtain rfl : args = #[v0, v1, v2] := by cases args; simp_all
  obtain ⟨rfl, rfl⟩ := trodVars_none hV
  obtain ⟨z0, rfl, rfl, rfl, w0⟩ := open_int Try.underlying31 (hval 0 31 v0 rfl rfl) h0
  obtain ⟨z1, rfl, rfl, rfl, w1⟩ := open_int Try.underlying31 (hval 1 31 v1 rfl rfl) h1
  obtain ⟨z2, y2, rfl, rfl, rfl, w2⟩ := pair_of_trod (hval 2 44 v2 rfl rfl) h2
  clear hA0 hval0
  refine (scales_any W z0 z1 z2 y2 w0 w1 w2).mono fun e W' ⟨he, hk⟩ => ?_
  subst he
  have bel : Below W.heap.size W W' := hk.below (Nat.le_refl _) (by simp)
  exact ⟨_, rfl, _, _, _, [], _, [], hW', trodAll_mk1 (shut_bool Try.underlying4 _), (trodAll_cons_mk (shut_int Try.underlying31 w0) (trodAll_cons_mk (shut_int Try.underlying31 w1) (trodAll_cons_mk (pair_shut w2) trodAll_mk0))), rfl, bel.frame _, fun h => by cases h⟩

theorem scales_holds : Rows.GradeScalesSaid :=
  OpenClaim.holds_of_wide 9 Try.f9 rfl rfl rfl rfl rfl rfl rfl ⟨rfl, rfl, rfl, rfl, rfl⟩ rfl rfl rfl rfl rfl (by kernel_rfl) Try.func9 (by kernel_rfl)
    (of_decide_eq_true (by kernel_rfl)) (by unfold Func.isWrapper; rw [if_neg (of_decide_eq_false (by kernel_rfl))]; exact ⟨rfl, rfl⟩)
    (fun os started H enc _ => scales_lifted os started H enc)
end Go.Proofs.Ytoffepagogmkkaa
