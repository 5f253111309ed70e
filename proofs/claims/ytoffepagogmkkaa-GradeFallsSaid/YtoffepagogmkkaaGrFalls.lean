/- The grade does not rise as more lives, nor fall as it grows old; what all lives has none (the law GradeFalls): for every two uint16s and every uint32 the law returns true. No condition. -/
import Derived.Test.YtoffepagogmkkaaGrD
namespace Go.Proofs.Ytoffepagogmkkaa
open Go.ChangeShapes Go.WideShapes Go.ChangeAt Go.RowKit

theorem compare_as' {a b : Nat} {x : Int} (ha : a < 2 ^ 64) (hb : b < 2 ^ 64) (h : cmpF a b = x) (w : World) : Calls Try.prog 12 #[.float .f64 a, .float .f64 b] w fun e w' => e = .returned (.int .i64 x) ∧ w = w' := by
  rw [← h]; exact compare_any a b ha hb w

theorem pos_lt {r : Nat} (h : r ≤ dInf) : dw false r < 2 ^ 64 := by have := dInf_lt; rw [dw_false]; omega
theorem cmp_le {a b : Nat} (ha : a ≤ dInf) (hb : b ≤ dInf) (h : a ≤ b) : cmpF (dw false a) (dw false b) ≤ 0 := by
  unfold cmpF Lib.compareInt
  rw [ck_pos ha, ck_pos hb]
  split
  · omega
  · split <;> omega
theorem ord_le {a b : Nat} (ha : a ≤ dInf) (hb : b ≤ dInf) (h : a ≤ b) : (FloatKind.f64.format.order (dw false a) (dw false b) == some .lt || FloatKind.f64.format.order (dw false a) (dw false b) == some .eq) = true := by
  show (Ieee.double.order (dw false a) (dw false b) == some .lt || Ieee.double.order (dw false a) (dw false b) == some .eq) = true
  rw [order_key false false ha hb]
  unfold fkey
  rcases Nat.lt_or_eq_of_le h with h | rfl
  · have : (a : Int) < b := by omega
    simp [compare, compareOfLessAndEq, this]
  · simp [compare, compareOfLessAndEq]
theorem ord_ge {a b : Nat} (ha : a ≤ dInf) (hb : b ≤ dInf) (h : b ≤ a) : (FloatKind.f64.format.order (dw false a) (dw false b) == some .gt || FloatKind.f64.format.order (dw false a) (dw false b) == some .eq) = true := by
  show (Ieee.double.order (dw false a) (dw false b) == some .gt || Ieee.double.order (dw false a) (dw false b) == some .eq) = true
  rw [order_key false false ha hb]
  unfold fkey
  rcases Nat.lt_or_eq_of_le h with h | rfl
  · have h1 : ¬ (a : Int) < b := by omega
    have h2 : ¬ (a : Int) = b := by omega
    simp [compare, compareOfLessAndEq, h1, h2]
  · simp [compare, compareOfLessAndEq]

/-- What is known of the grades that the law asks for. -/
structure FallFacts (a b size age : Int) (x y z t : Nat) (c d : Int) : Prop where
  gx : ∀ W, Calls Try.prog 11 #[.int .i64 a, .int .i64 size, .int .i64 age] W fun e w' => e = .returned (.float .f64 x) ∧ ∃ n, w' = W.drewN n
  gy : ∀ W, Calls Try.prog 11 #[.int .i64 b, .int .i64 size, .int .i64 age] W fun e w' => e = .returned (.float .f64 y) ∧ ∃ n, w' = W.drewN n
  gz : ∀ W, Calls Try.prog 11 #[.int .i64 a, .int .i64 size, .int .i64 (age + 1)] W fun e w' => e = .returned (.float .f64 z) ∧ ∃ n, w' = W.drewN n
  gt : ∀ W, Calls Try.prog 11 #[.int .i64 size, .int .i64 size, .int .i64 age] W fun e w' => e = .returned (.float .f64 t) ∧ ∃ n, w' = W.drewN n
  cy : ∀ W, Calls Try.prog 12 #[.float .f64 y, .float .f64 x] W fun e w' => e = .returned (.int .i64 c) ∧ W = w'
  cz : ∀ W, Calls Try.prog 12 #[.float .f64 z, .float .f64 x] W fun e w' => e = .returned (.int .i64 d) ∧ W = w'
  c0 : c ≤ 0
  d0 : 0 ≤ d
  t0 : FloatKind.f64.format.order t 0 = some .eq
  x0 : (FloatKind.f64.format.order x 0 == some .gt || FloatKind.f64.format.order x 0 == some .eq) = true
  xa : (FloatKind.f64.format.order x (floatOfInt .f64 age) == some .lt || FloatKind.f64.format.order x (floatOfInt .f64 age) == some .eq) = true

theorem fall_nats (a b size age : Nat) (h0 : 0 < size) (h1 : a ≤ b) (h2 : b ≤ size) (hs : size < 2 ^ 53) (hg : age + 1 < 2 ^ 53) : ∃ x y z t c d, FallFacts a b size age x y z t c d := by
  obtain ⟨ru, rs, rt, rb, rx, cx⟩ := grade_chain a size age h0 (by omega) hs (by omega)
  obtain ⟨ru2, rs2, rt2, rb2, ry, cy⟩ := grade_chain b size age h0 h2 hs (by omega)
  obtain ⟨ru3, rs3, rt3, rb3, rz, cz⟩ := grade_chain a size (age + 1) h0 (by omega) hs hg
  obtain ⟨ru4, rs4, rt4, rb4, rt', ct⟩ := grade_chain size size age h0 (Nat.le_refl _) hs (by omega)
  have hsr : (0 : Rat) < size := Rat.natCast_pos.2 h0
  have hgr : (0 : Rat) ≤ age := Rat.natCast_nonneg ..
  have l1 : ry ≤ rx := cx.gr.falls cy.gr hsr (Rat.natCast_le_natCast.2 h1) hgr
  have l2 : rx ≤ rz := cx.gr.rises cz.gr hsr (Rat.natCast_le_natCast.2 (by omega))
  have l3 : rt' = 0 := ct.gr.none hsr rfl
  obtain ⟨wg, g1, g2, g3⟩ := nat_word age (by omega)
  have l4 : rx ≤ wg := cx.gr.g_le g3 hgr
  have e1 := Nat.le_of_lt cx.lt
  have e2 := Nat.le_of_lt cy.lt
  have e3 := Nat.le_of_lt cz.lt
  have hz := cmp_le e1 e3 l2
  refine ⟨dw false rx, dw false ry, dw false rz, dw false rt', _, _, grade_is cx, grade_is cy, ?_, grade_is ct, compare_as' (pos_lt e2) (pos_lt e1) rfl, compare_as' (pos_lt e3) (pos_lt e1) rfl, cmp_le e2 e1 l1, ?_, ?_, ord_ge e1 (Nat.zero_le _) (Nat.zero_le _), ?_⟩
  · have := grade_is cz
    rwa [show ((age + 1 : Nat) : Int) = age + 1 from by omega] at this
  · have := cmpF_swap (dw false rx) (dw false rz)
    omega
  · rw [l3]; kernel_rfl
  · rw [floatOfInt_is, g1]
    exact ord_le e1 (Nat.le_of_lt g2) l4

theorem fall_facts (a b size age : Int) (a0 : 0 ≤ a) (g0 : 0 ≤ age) (h0 : 0 < size) (h1 : a ≤ b) (h2 : b ≤ size) (hs : size < 2 ^ 53) (hg : age + 1 < 2 ^ 53) : ∃ x y z t c d, FallFacts a b size age x y z t c d := by
  obtain ⟨a', rfl⟩ := Int.eq_ofNat_of_zero_le a0
  obtain ⟨b', rfl⟩ := Int.eq_ofNat_of_zero_le (show 0 ≤ b by omega)
  obtain ⟨s', rfl⟩ := Int.eq_ofNat_of_zero_le (show 0 ≤ size by omega)
  obtain ⟨g', rfl⟩ := Int.eq_ofNat_of_zero_le g0
  exact fall_nats a' b' s' g' (by omega) (by omega) (by omega) (by omega) (by omega)

theorem and_bd (x m : Int) (m' : Nat) (e : m = m') (hm : m' ≤ 65535) : ∃ p : Nat, p ≤ m' ∧ bits BinOp.and IntKind.u32 x m = p := by
  subst e
  have h1 : (BitVec.ofInt 32 x &&& BitVec.ofInt 32 (m' : Int)).toNat ≤ m' := by
    rw [BitVec.toNat_and]
    refine Nat.le_trans Nat.and_le_right ?_
    rw [BitVec.ofInt_natCast, BitVec.toNat_ofNat]
    exact Nat.mod_le _ _
  refine ⟨_, h1, ?_⟩
  show IntKind.u32.wrap ((BitVec.ofInt 32 x &&& BitVec.ofInt 32 (m' : Int)).toNat : Int) = _
  generalize (BitVec.ofInt 32 x &&& BitVec.ofInt 32 (m' : Int)).toNat = n at h1
  simp only [IntKind.wrap, IntKind.bits, IntKind.signed]
  simp
  omega

set_option maxRecDepth 100000 in
set_option maxHeartbeats 4000000 in
theorem falls_walk (w : World) (l m t : Nat) (hl : l ≤ 65535) (hm : m ≤ 65535) :
    Calls Try.prog 6 #[.int .u16 l, .int .u16 m, .int .u32 t] w (Still w true) := by
  obtain ⟨p, hp, ep⟩ := and_bd t 8191 8191 rfl (by omega)
  obtain ⟨q, hq, eq⟩ := and_bd ((t : Int) / 8192) 65535 65535 rfl (by omega)
  have a1 : 0 ≤ (l : Int) % (1 + p + 1) := Int.emod_nonneg _ (by omega)
  have a2 : (l : Int) % (1 + p + 1) < 1 + p + 1 := Int.emod_lt_of_pos _ (by omega)
  have b1 : 0 ≤ (m : Int) % (1 + p - (l : Int) % (1 + p + 1) + 1) := Int.emod_nonneg _ (by omega)
  have b2 : (m : Int) % (1 + p - (l : Int) % (1 + p + 1) + 1) < 1 + p - (l : Int) % (1 + p + 1) + 1 := Int.emod_lt_of_pos _ (by omega)
  obtain ⟨x, y, z, t', c, d, F⟩ := fall_facts ((l : Int) % (1 + p + 1)) ((l : Int) % (1 + p + 1) + (m : Int) % (1 + p - (l : Int) % (1 + p + 1) + 1)) (1 + p) (1 + q) a1 (by omega) (by omega) (by omega) (by omega) (by omega) (by omega)
  have HF := hid F
  have c0 := F.c0
  have d0 := F.d0
  have t0 := F.t0
  have x0 := F.x0
  have xa := F.xa
  clear F
  go_enter Try.func6, Try.ntmps6
  go_wp2_with fail
  refine (awake3_any _).mono ?_
  rintro e w1 ⟨rfl, n1, rfl⟩
  go_wp2_with fail
  refine (HF.out.gx _).mono ?_
  rintro e w2 ⟨rfl, n2, rfl⟩
  go_wp2_with fail
  refine (HF.out.gy _).mono ?_
  rintro e w3 ⟨rfl, n3, rfl⟩
  go_wp2_with fail
  refine (HF.out.gz _).mono ?_
  rintro e w4 ⟨rfl, n4, rfl⟩
  go_wp2_with fail
  refine (HF.out.cy _).mono ?_
  rintro e w5 ⟨rfl, rfl⟩
  go_wp2_with fail
  refine (HF.out.cz _).mono ?_
  rintro e w5 ⟨rfl, rfl⟩
  go_wp2_with fail
  refine (HF.out.gt _).mono ?_
  rintro e w6 ⟨rfl, n6, rfl⟩
  go_wp2_with fail
  go_ret
  exact ⟨rfl, _, rfl⟩
theorem falls_any (w : World) (l m t : Int) (hl : (Lit.int .u16 l).wf = true) (hm : (Lit.int .u16 m).wf = true) (ht : (Lit.int .u32 t).wf = true) :
    Calls Try.prog 6 #[.int .u16 l, .int .u16 m, .int .u32 t] w (Still w true) := by
  have U : ∀ {z : Int}, (Lit.int .u16 z).wf = true → 0 ≤ z ∧ z ≤ 65535 := by
    intro z h
    simp only [Lit.wf, IntKind.min, IntKind.max, IntKind.signed, IntKind.bits, Bool.and_eq_true] at h
    simpa using h
  have V : 0 ≤ t ∧ t ≤ 4294967295 := by
    simp only [Lit.wf, IntKind.min, IntKind.max, IntKind.signed, IntKind.bits, Bool.and_eq_true] at ht
    simpa using ht
  obtain ⟨l1, l2⟩ := U hl
  obtain ⟨m1, m2⟩ := U hm
  obtain ⟨t1, _⟩ := V
  obtain ⟨l', rfl⟩ := Int.eq_ofNat_of_zero_le l1
  obtain ⟨m', rfl⟩ := Int.eq_ofNat_of_zero_le m1
  obtain ⟨t', rfl⟩ := Int.eq_ofNat_of_zero_le t1
  exact falls_walk w l' m' t' (by omega) (by omega)

set_option maxRecDepth 100000 in
theorem falls_lifted (os : Os) (started : os.Started) (H : Type) (enc : TypeId × Value → H) :
    ReturnsInHanded {} Try.checked os 6 .any (Rows.gradeFallsSpec.pre6 enc Try.prog Try.f6 Rows.gradeFallsRow.domain false) (Rows.gradeFallsSpec.post enc Try.prog Try.f6 false true false false) := by
  refine returnsInHanded_of_change (C := Try.checked) own started (by kernel_rfl) Try.func6
    (ChangeSpec.witness6 (enc := enc) (C := Try.checked) false ⟨#[], #[.int .u16 0, .int .u16 0, .int .u32 0], []⟩ 8 (by kernel_rfl) (by kernel_rfl) (by kernel_rfl) (by kernel_rfl)) ?_
  intro W base args ds gs before hval0 hW hcnd _
  have hval : ∀ (j : Nat) t v, Try.f6.params[j]? = some t → args[j]? = some v → Value.okWide Try.prog W .any base t v := hval0
  have hW' := hW
  obtain ⟨p, q, hA0, hV, rfl, hfz, hnd⟩ := hW
  have hA : DataW.TrodAll enc Try.prog W 0 (fun _ => true) true Try.f6.params.toList args.toList ds p := hA0
  rw [Try.params6] at hA hval
  obtain ⟨v0, vs0, d0, ds0, p0, q0, hargs, rfl, rfl, h0, r0⟩ := trodAll_cons hA
  obtain ⟨v1, vs1, d1, ds1, p1, q1, rfl, rfl, rfl, h1, r1⟩ := trodAll_cons r0
  obtain ⟨v2, vs2, d2, ds2, p2, q2, rfl, rfl, rfl, h2, r2⟩ := trodAll_cons r1
  obtain ⟨rfl, rfl, rfl⟩ := trodAll_nil r2
  obtain rfl : args = #[v0, v1, v2] := by cases args; simp_all
  obtain ⟨rfl, rfl⟩ := trodVars_none hV
  obtain ⟨z0, rfl, rfl, rfl, w0⟩ := open_int Try.underlying31 (hval 0 31 v0 rfl rfl) h0
  obtain ⟨z1, rfl, rfl, rfl, w1⟩ := open_int Try.underlying31 (hval 1 31 v1 rfl rfl) h1
  obtain ⟨z2, rfl, rfl, rfl, w2⟩ := open_int Try.underlying32 (hval 2 32 v2 rfl rfl) h2
  clear hA0 hval0
  refine (falls_any W z0 z1 z2 w0 w1 w2).mono fun e W' hs => ?_
  obtain ⟨he, hk⟩ := hs.keeps
  subst he
  have bel : Below W.heap.size W W' := hk.below (Nat.le_refl _) (by simp)
  exact ⟨_, rfl, _, _, _, [], _, [], hW', trodAll_mk1 (shut_bool Try.underlying4 _), (trodAll_cons_mk (shut_int Try.underlying31 w0) (trodAll_cons_mk (shut_int Try.underlying31 w1) (trodAll_cons_mk (shut_int Try.underlying32 w2) trodAll_mk0))), rfl, bel.frame _, fun h => by cases h⟩

theorem falls_holds : Rows.GradeFallsSaid :=
  OpenClaim.holds_of_wide 6 Try.f6 rfl rfl rfl rfl rfl rfl rfl ⟨rfl, rfl, rfl, rfl, rfl⟩ rfl rfl rfl rfl rfl (by kernel_rfl) Try.func6 (by kernel_rfl)
    (of_decide_eq_true (by kernel_rfl)) (by unfold Func.isWrapper; rw [if_neg (of_decide_eq_false (by kernel_rfl))]; exact ⟨rfl, rfl⟩)
    (fun os started H enc _ => falls_lifted os started H enc)
end Go.Proofs.Ytoffepagogmkkaa
