/- The steps of a grade, of which live at most the size, as words. -/
import Derived.Test.YtoffepagogmkkaaFlG
namespace Go.Proofs.Ytoffepagogmkkaa

theorem w1_is : r1 = 4607182418800017408 := by decide
theorem one_word : dw false r1 = 4607182418800017408 := by decide

/-- The rung of 2. -/
def r2 : Nat := 1023 * dB + dB
theorem r2_is : dv r2 = 2 := by
  have h := rv_of dL dB_pos 1023 dB (Or.inr (Nat.le_refl _)) (by have := dB_pos; omega)
  show rv dB dL (1023 * dB + dB) = 2
  rw [h, show dL + ((1023 : Nat) : Int) = -51 from by decide, show (dB : Rat) = p2 52 by rw [show (52 : Int) = ((52 : Nat) : Int) from rfl, p2_nat]; rfl, ← p2_add]
  exact p2_one
theorem r2_lt : r2 < dInf := by decide

theorem nat_word (n : Nat) (h : n < 2 ^ 53) : ∃ r, fint (n : Nat) = dw false r ∧ r < dInf ∧ dv r = (n : Rat) := by
  obtain ⟨r, e1, e2, e3, _⟩ := fint_word (n : Int) (by simpa using h)
  have hn : decide ((n : Int) < 0) = false := by simp
  rw [hn] at e1
  exact ⟨r, e1, e2, by simpa using e3⟩

theorem sub_plain {a b : Nat} (ha : a < dInf) (hb : b < dInf) (h : dv b ≤ dv a) : ∃ r, Nr (dv a - dv b) r ∧ Ieee.double.sub (dw false a) (dw false b) = some (dw false (min r dInf)) := by
  obtain ⟨neg, x, r, h1, h2, h3, h4, h5⟩ := sub_word false false ha hb
  have hx : neg = false ∧ x = dv a - dv b := by
    unfold sv at h2
    simp only [Bool.false_eq_true, if_false] at h2
    cases neg
    · simp only [Bool.false_eq_true, if_false] at h2; exact ⟨rfl, h2⟩
    · simp only [if_true] at h2
      have : x = 0 := by grind
      have := h3 this
      simp at this
  obtain ⟨rfl, rfl⟩ := hx
  exact ⟨r, h4, h5⟩
theorem add_plain {a b : Nat} (ha : a < dInf) (hb : b < dInf) : ∃ r, Nr (dv a + dv b) r ∧ Ieee.double.add (dw false a) (dw false b) = some (dw false (min r dInf)) := by
  obtain ⟨neg, x, r, h1, h2, h3, h4, h5⟩ := add_word false false ha hb
  have ha0 := dv_nonneg a
  have hb0 := dv_nonneg b
  have hx : neg = false ∧ x = dv a + dv b := by
    unfold sv at h2
    simp only [Bool.false_eq_true, if_false] at h2
    cases neg
    · simp only [Bool.false_eq_true, if_false] at h2; exact ⟨rfl, h2⟩
    · simp only [if_true] at h2
      have : x = 0 := by grind
      have := h3 this
      simp at this
  obtain ⟨rfl, rfl⟩ := hx
  exact ⟨r, h4, h5⟩

structure Chain (a size age : Nat) (ru rs rt rb rg : Nat) : Prop where
  u : Ieee.double.div (fint a) (fint size) = some (dw false ru)
  s : Ieee.double.sub (dw false r1) (dw false ru) = some (dw false rs)
  t : Ieee.double.mul (dw false rs) (fint age) = some (dw false rt)
  b : Ieee.double.add (dw false r1) (dw false ru) = some (dw false rb)
  g : Ieee.double.div (dw false rt) (dw false rb) = some (dw false rg)
  gr : GR a size age ru rs rt rb rg
  lt : rg < dInf

theorem grade_chain (a size age : Nat) (hs : 0 < size) (ha : a ≤ size) (hsz : size < 2 ^ 53) (hage : age < 2 ^ 53) : ∃ ru rs rt rb rg, Chain a size age ru rs rt rb rg := by
  obtain ⟨wa, a1, a2, a3⟩ := nat_word a (by omega)
  obtain ⟨ws, s1, s2, s3⟩ := nat_word size hsz
  obtain ⟨wg, g1, g2, g3⟩ := nat_word age hage
  have hsr : (0 : Rat) < size := Rat.natCast_pos.2 hs
  have har : (a : Rat) ≤ size := Rat.natCast_le_natCast.2 ha
  have hgr : (0 : Rat) ≤ age := Rat.natCast_nonneg ..
  have hws : 0 < ws := by
    refine Nat.pos_of_ne_zero fun e => ?_
    subst e
    rw [dv_zero] at s3
    have := Rat.natCast_eq_zero_iff.1 s3.symm
    omega
  have hx : ((a : Rat) / size) * size = a := Rat.div_mul_cancel (Rat.ne_of_gt hsr)
  obtain ⟨ru, n1, e1⟩ := div_word false false a2 s2 hws (x := (a : Rat) / size) (by rw [a3, s3]; exact hx)
  have hu1 : ru ≤ r1 := near_le n1 (by
    rw [r1_is]
    refine Rat.le_of_mul_le_mul_right (c := (size : Rat)) ?_ hsr
    rw [hx, Rat.one_mul]; exact har)
  have hul : ru < dInf := Nat.lt_of_le_of_lt hu1 r1_lt
  obtain ⟨rs, n2, e2⟩ := sub_plain r1_lt hul (dv_le hu1)
  rw [r1_is] at n2
  have hu0 := dv_nonneg ru
  have hs1 : rs ≤ r1 := near_le n2 (by rw [r1_is]; grind)
  have hsl : rs < dInf := Nat.lt_of_le_of_lt hs1 r1_lt
  obtain ⟨rt, n3, e3⟩ := mul_word false false hsl g2
  rw [g3] at n3
  have ht1 : rt ≤ wg := near_le n3 (by
    rw [g3]
    have h1 := dv_le hs1
    rw [r1_is] at h1
    have := Rat.mul_le_mul_of_nonneg_right h1 hgr
    rwa [Rat.one_mul] at this)
  have htl : rt < dInf := Nat.lt_of_le_of_lt ht1 g2
  obtain ⟨rb, n4, e4⟩ := add_plain r1_lt hul
  rw [r1_is] at n4
  have hu1v := dv_le hu1
  rw [r1_is] at hu1v
  have hb1 : rb ≤ r2 := near_le n4 (by rw [r2_is]; grind)
  have hbl : rb < dInf := Nat.lt_of_le_of_lt hb1 r2_lt
  have hb0 : r1 ≤ rb := near_ge n4 (by rw [r1_is]; grind)
  have hbp : 0 < rb := Nat.lt_of_lt_of_le (by decide) hb0
  have hbv := dv_pos hbp
  have hx5 : (dv rt / dv rb) * dv rb = dv rt := Rat.div_mul_cancel (Rat.ne_of_gt hbv)
  obtain ⟨rg, n5, e5⟩ := div_word false false htl hbl hbp (x := dv rt / dv rb) hx5
  have gr : GR a size age ru rs rt rb rg := ⟨⟨_, hx, n1⟩, n2, n3, n4, ⟨_, hx5, n5⟩⟩
  have hgl : rg < dInf := Nat.lt_of_le_of_lt (gr.g_le g3 hgr) g2
  refine ⟨ru, rs, rt, rb, rg, ?_, ?_, ?_, ?_, ?_, gr, hgl⟩
  · rw [a1, s1, e1, Nat.min_eq_left (Nat.le_of_lt hul)]; rfl
  · rw [e2, Nat.min_eq_left (Nat.le_of_lt hsl)]
  · rw [g1, e3, Nat.min_eq_left (Nat.le_of_lt htl)]; rfl
  · rw [e4, Nat.min_eq_left (Nat.le_of_lt hbl)]
  · rw [e5, Nat.min_eq_left (Nat.le_of_lt hgl)]; rfl
end Go.Proofs.Ytoffepagogmkkaa
