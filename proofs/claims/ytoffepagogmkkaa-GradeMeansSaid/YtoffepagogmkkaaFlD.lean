/- Grades as rungs: they fall as more lives, rise with age, do not change with the scale; means of whole numbers. -/
import Derived.Test.YtoffepagogmkkaaFlC
namespace Go.Proofs.Ytoffepagogmkkaa
open Ieee

/-- The rung of 1. -/
def r1 : Nat := 1022 * dB + dB
theorem r1_is : dv r1 = 1 := by
  have h := rv_of (B := dB) dL dB_pos 1022 dB (Or.inr (Nat.le_refl _)) (by have := dB_pos; omega)
  show rv dB dL (1022 * dB + dB) = 1
  rw [h, show dL + ((1022 : Nat) : Int) = -52 from by decide, show (dB : Rat) = p2 52 by rw [show (52 : Int) = ((52 : Nat) : Int) from rfl, p2_nat]; rfl, ← p2_add]
  exact p2_zero
theorem r1_lt : r1 < dInf := by decide

theorem near_le {x : Rat} {r s : Nat} (h : Nr x r) (hs : x ≤ dv s) : r ≤ s := h.mono dL dB_pos (near_self dL dB_pos s) hs
theorem near_ge {x : Rat} {r s : Nat} (h : Nr x r) (hs : dv s ≤ x) : s ≤ r := (near_self dL dB_pos s).mono dL dB_pos h hs
theorem dv_le {r s : Nat} (h : r ≤ s) : dv r ≤ dv s := rv_le dL dB_pos h
theorem dv_inj {r s : Nat} (h : dv r = dv s) : r = s := by
  rcases Nat.lt_trichotomy r s with h1 | h1 | h1
  · have := rv_lt dL dB_pos h1; rw [show rv dB dL r = dv r from rfl, h] at this; exact absurd this Rat.lt_irrefl
  · exact h1
  · have := rv_lt dL dB_pos h1; rw [show rv dB dL r = dv r from rfl, h] at this; exact absurd this Rat.lt_irrefl

theorem div_le_div {a b c d : Rat} (ha : 0 ≤ a) (hc : 0 < c) (hd : 0 < d) (h1 : a ≤ b) (h2 : d ≤ c) {x y : Rat} (hx : x * c = a) (hy : y * d = b) : x ≤ y := by
  have hy0 : 0 ≤ y := by
    refine Rat.le_of_mul_le_mul_right (c := d) ?_ hd
    rw [hy, Rat.zero_mul]
    exact Rat.le_trans ha h1
  refine Rat.le_of_mul_le_mul_right (c := c) ?_ hc
  rw [hx]
  refine Rat.le_trans h1 ?_
  rw [← hy]
  exact Rat.mul_le_mul_of_nonneg_left h2 hy0

/-- A grade's steps: u, 1 - u, times the age, 1 + u, the quotient. a of size, age old: all as values. -/
structure GR (a size age : Rat) (ru rs rt rb rg : Nat) : Prop where
  u : ∃ x, x * size = a ∧ Nr x ru
  s : Nr (1 - dv ru) rs
  t : Nr (dv rs * age) rt
  b : Nr (1 + dv ru) rb
  g : ∃ x, x * dv rb = dv rt ∧ Nr x rg

theorem one_pos : (0 : Rat) < 1 := by decide

section
variable {a size age : Rat} {ru rs rt rb rg : Nat} (h : GR a size age ru rs rt rb rg)
include h

theorem GR.u_le (hs : 0 < size) (ha : a ≤ size) : ru ≤ r1 := by
  obtain ⟨x, hx, hn⟩ := h.u
  refine near_le hn ?_
  rw [r1_is]
  refine Rat.le_of_mul_le_mul_right (c := size) ?_ hs
  rw [hx, Rat.one_mul]
  exact ha
theorem GR.u_one (hs : 0 < size) (ha : a ≤ size) : dv ru ≤ 1 := by rw [← r1_is]; exact dv_le (h.u_le hs ha)
theorem GR.s_le : rs ≤ r1 := near_le h.s (by rw [r1_is]; have := dv_nonneg ru; grind)
theorem GR.b_ge : r1 ≤ rb := near_ge h.b (by rw [r1_is]; have := dv_nonneg ru; grind)
theorem GR.b_pos : 0 < dv rb := by
  have := dv_le h.b_ge
  rw [r1_is] at this
  have := one_pos
  grind
/-- The grade lies below the age. -/
theorem GR.t_le {q : Nat} (hq : dv q = age) (hage : 0 ≤ age) : rt ≤ q := by
  refine near_le h.t ?_
  rw [hq]
  have h1 := dv_le h.s_le
  rw [r1_is] at h1
  have := Rat.mul_le_mul_of_nonneg_right h1 hage
  rwa [Rat.one_mul] at this
theorem GR.g_le {q : Nat} (hq : dv q = age) (hage : 0 ≤ age) : rg ≤ q := by
  obtain ⟨x, hx, hn⟩ := h.g
  refine near_le hn ?_
  have h1 := dv_le (h.t_le hq hage)
  have h2 := dv_le h.b_ge
  rw [r1_is] at h2
  refine div_le_div (dv_nonneg rt) h.b_pos one_pos h1 h2 hx (Rat.mul_one _)

/-- As more lives the grade does not rise. -/
theorem GR.falls {b : Rat} {ru' rs' rt' rb' rg' : Nat} (k : GR b size age ru' rs' rt' rb' rg') (hs : 0 < size) (hab : a ≤ b) (hage : 0 ≤ age) : rg' ≤ rg := by
  obtain ⟨x, hx, hn⟩ := h.u
  obtain ⟨y, hy, hm⟩ := k.u
  have h1 : ru ≤ ru' := hn.mono dL dB_pos hm (Rat.le_of_mul_le_mul_right (c := size) (by rw [hx, hy]; exact hab) hs)
  have h2 := dv_le h1
  have h3 : rs' ≤ rs := k.s.mono dL dB_pos h.s (by grind)
  have h4 : rt' ≤ rt := k.t.mono dL dB_pos h.t (Rat.mul_le_mul_of_nonneg_right (dv_le h3) hage)
  have h5 : rb ≤ rb' := h.b.mono dL dB_pos k.b (by grind)
  obtain ⟨p, hp, hpn⟩ := h.g
  obtain ⟨q, hq, hqn⟩ := k.g
  exact hqn.mono dL dB_pos hpn (div_le_div (dv_nonneg _) k.b_pos h.b_pos (dv_le h4) (dv_le h5) hq hp)
/-- As it grows old the grade does not fall. -/
theorem GR.rises {age' : Rat} {ru' rs' rt' rb' rg' : Nat} (k : GR a size age' ru' rs' rt' rb' rg') (hs : 0 < size) (hage : age ≤ age') : rg ≤ rg' := by
  obtain ⟨x, hx, hn⟩ := h.u
  obtain ⟨y, hy, hm⟩ := k.u
  have hxy : x = y := Rat.le_antisymm (Rat.le_of_mul_le_mul_right (c := size) (by rw [hx, hy]; exact Rat.le_refl) hs) (Rat.le_of_mul_le_mul_right (c := size) (by rw [hx, hy]; exact Rat.le_refl) hs)
  subst hxy
  obtain rfl := hn.one dL dB_pos hm
  obtain rfl := h.s.one dL dB_pos k.s
  obtain rfl := h.b.one dL dB_pos k.b
  have h4 : rt ≤ rt' := h.t.mono dL dB_pos k.t (Rat.mul_le_mul_of_nonneg_left hage (dv_nonneg _))
  obtain ⟨p, hp, hpn⟩ := h.g
  obtain ⟨q, hq, hqn⟩ := k.g
  exact hpn.mono dL dB_pos hqn (div_le_div (dv_nonneg _) h.b_pos h.b_pos (dv_le h4) Rat.le_refl hp hq)
/-- Of so many times as much of so many times as much it is the same. -/
theorem GR.scales {m : Rat} {ru' rs' rt' rb' rg' : Nat} (k : GR (m * a) (m * size) age ru' rs' rt' rb' rg') (hs : 0 < size) (hm : 0 < m) : ru = ru' ∧ rs = rs' ∧ rt = rt' ∧ rb = rb' ∧ rg = rg' := by
  obtain ⟨x, hx, hn⟩ := h.u
  obtain ⟨y, hy, hyn⟩ := k.u
  have hms : 0 < m * size := Rat.mul_pos hm hs
  have e : x * (m * size) = y * (m * size) := by rw [hy, ← hx]; grind
  have hxy : x = y := Rat.le_antisymm (Rat.le_of_mul_le_mul_right (c := m * size) (by rw [e]; exact Rat.le_refl) hms) (Rat.le_of_mul_le_mul_right (c := m * size) (by rw [e]; exact Rat.le_refl) hms)
  subst hxy
  obtain rfl := hn.one dL dB_pos hyn
  obtain rfl := h.s.one dL dB_pos k.s
  obtain rfl := h.b.one dL dB_pos k.b
  obtain rfl := h.t.one dL dB_pos k.t
  obtain ⟨p, hp, hpn⟩ := h.g
  obtain ⟨q, hq, hqn⟩ := k.g
  have hpq : p = q := Rat.le_antisymm (Rat.le_of_mul_le_mul_right (c := dv rb) (by rw [hp, hq]; exact Rat.le_refl) h.b_pos) (Rat.le_of_mul_le_mul_right (c := dv rb) (by rw [hp, hq]; exact Rat.le_refl) h.b_pos)
  subst hpq
  exact ⟨rfl, rfl, rfl, rfl, hpn.one dL dB_pos hqn⟩
/-- What all lives has none. -/
theorem GR.none (hs : 0 < size) (ha : a = size) : rg = 0 := by
  obtain ⟨x, hx, hn⟩ := h.u
  have hx1 : x = 1 := by
    subst ha
    exact Rat.le_antisymm (Rat.le_of_mul_le_mul_right (c := a) (by rw [hx, Rat.one_mul]; exact Rat.le_refl) hs) (Rat.le_of_mul_le_mul_right (c := a) (by rw [hx, Rat.one_mul]; exact Rat.le_refl) hs)
  subst hx1
  have hu : ru = r1 := hn.one dL dB_pos (by rw [← r1_is]; exact near_self dL dB_pos r1)
  subst hu
  have hz : rs = 0 := Nat.le_zero.1 (near_le h.s (by rw [dv_zero, r1_is]; grind))
  subst hz
  have ht : rt = 0 := Nat.le_zero.1 (near_le h.t (by rw [dv_zero, Rat.zero_mul]; exact Rat.le_refl))
  subst ht
  obtain ⟨p, hp, hpn⟩ := h.g
  refine Nat.le_zero.1 (near_le hpn ?_)
  rw [dv_zero] at hp ⊢
  refine Rat.le_of_mul_le_mul_right (c := dv rb) ?_ h.b_pos
  rw [hp, Rat.zero_mul]
  exact Rat.le_refl
end
end Go.Proofs.Ytoffepagogmkkaa
