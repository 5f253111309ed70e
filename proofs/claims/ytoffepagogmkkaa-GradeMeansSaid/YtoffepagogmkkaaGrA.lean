/- Words of floats in the order of Compare: each word's key, all NaNs having one. -/
import Derived.Test.YtoffepagogmkkaaFlH
import Derived.Lib.Small
namespace Go.Proofs.Ytoffepagogmkkaa
open Ieee

/-- What is not itself. -/
def nanB (x : Nat) : Bool := double.order x x != some .eq
theorem nanB_is (x : Nat) : (FloatKind.f64.format.order x x != some .eq) = nanB x := rfl

theorem nanB_nan {x : Nat} (h : NanW x) : nanB x = true := by
  unfold nanB
  rw [order_nan_left h]
  rfl
theorem nanB_num {x : Nat} (h : NumW x) : nanB x = false := by
  obtain ⟨s, r, rfl, hr⟩ := h
  unfold nanB
  rw [order_key s s hr hr]
  simp [compare, compareOfLessAndEq]
theorem nan_of {x : Nat} (hx : x < 2 ^ 64) (h : nanB x = true) : NanW x := by
  rcases word_cases hx with h1 | h1
  · exact h1
  · rw [nanB_num h1] at h; cases h
theorem num_of {x : Nat} (hx : x < 2 ^ 64) (h : nanB x = false) : NumW x := by
  rcases word_cases hx with h1 | h1
  · rw [nanB_nan h1] at h; cases h
  · exact h1

/-- Does the sign say below nought? -/
def sgB (x : Nat) : Bool := decide (2 ^ 63 ≤ x)
/-- The key of a word: NaNs last. -/
def ck (x : Nat) : Int := if nanB x then 9223372036854775808 else if sgB x then -((x - 2 ^ 63 : Nat) : Int) - 1 else x

theorem dInf_lt : dInf < 2 ^ 63 := by decide
theorem dw_false (r : Nat) : dw false r = r := rfl
theorem dw_true (r : Nat) : dw true r = 2 ^ 63 + r := rfl
theorem sgB_word (s : Bool) {r : Nat} (h : r ≤ dInf) : sgB (dw s r) = s := by
  have := dInf_lt
  unfold sgB
  cases s
  · rw [dw_false]; simp; omega
  · rw [dw_true]; simp
theorem ck_word (s : Bool) {r : Nat} (h : r ≤ dInf) : ck (dw s r) = fkey s r - (if s then 1 else 0) := by
  have hn := nanB_num (x := dw s r) ⟨s, r, rfl, h⟩
  unfold ck
  rw [hn, sgB_word s h]
  unfold fkey
  cases s
  · simp [dw_false]
  · simp [dw_true]
theorem ck_nan {x : Nat} (h : nanB x = true) : ck x = 9223372036854775808 := by unfold ck; rw [h]; rfl
theorem ck_num {x : Nat} (hx : x < 2 ^ 64) (h : nanB x = false) : ck x < 9223372036854775808 ∧ -9223372036854775808 ≤ ck x := by
  obtain ⟨s, r, rfl, hr⟩ := num_of hx h
  have := dInf_lt
  rw [ck_word s hr]
  unfold fkey
  cases s <;> simp <;> omega
theorem ck_pos {r : Nat} (h : r ≤ dInf) : ck (dw false r) = r := by rw [ck_word false h]; simp [fkey]

/-- -1, 0, 1. -/
def cmpF (a b : Nat) : Int := Lib.compareInt (ck a) (ck b)

theorem cmpF_nan_left {a b : Nat} (ha : nanB a = true) (hb : b < 2 ^ 64) : cmpF a b = if nanB b then 0 else 1 := by
  unfold cmpF Lib.compareInt
  rw [ck_nan ha]
  cases h : nanB b
  · have := (ck_num hb h).1
    rw [if_neg (by omega), if_pos (by omega)]; rfl
  · rw [ck_nan h]; simp
theorem cmpF_nan_right {a b : Nat} (ha : nanB a = false) (hb : nanB b = true) (hl : a < 2 ^ 64) : cmpF a b = -1 := by
  unfold cmpF Lib.compareInt
  rw [ck_nan hb]
  have := (ck_num hl ha).1
  rw [if_pos (by omega)]

/-- How two numbers stand: what the comparison says, and the keys. -/
theorem order_ck {a b : Nat} (ha : a < 2 ^ 64) (hb : b < 2 ^ 64) (na : nanB a = false) (nb : nanB b = false) :
    (double.order a b = some .lt ∧ cmpF a b = -1) ∨ (double.order a b = some .gt ∧ cmpF a b = 1) ∨
      (double.order a b = some .eq ∧ cmpF a b = if sgB a = sgB b then 0 else if sgB a then -1 else 1) := by
  obtain ⟨s, r, rfl, hr⟩ := num_of ha na
  obtain ⟨t, q, rfl, hq⟩ := num_of hb nb
  rw [order_key s t hr hq]
  unfold cmpF Lib.compareInt
  rw [ck_word s hr, ck_word t hq, sgB_word s hr, sgB_word t hq]
  rcases Int.lt_trichotomy (fkey s r) (fkey t q) with h | h | h
  · refine Or.inl ⟨by simp [compare, compareOfLessAndEq, h], ?_⟩
    rw [if_pos]
    unfold fkey at h ⊢
    cases s <;> cases t <;> simp at h ⊢ <;> omega
  · refine Or.inr (Or.inr ⟨by simp [compare, compareOfLessAndEq, h], ?_⟩)
    rw [h]
    cases s <;> cases t <;> simp <;> omega
  · refine Or.inr (Or.inl ⟨?_, ?_⟩)
    · have h1 : ¬ fkey s r < fkey t q := by omega
      have h2 : ¬ fkey s r = fkey t q := by omega
      simp [compare, compareOfLessAndEq, h1, h2]
    · rw [if_neg, if_pos]
      all_goals
        unfold fkey at h ⊢
        cases s <;> cases t <;> simp at h ⊢ <;> omega

/-- The bits, NaNs being one. -/
def bitsF (x : Nat) : Nat := if nanB x then 9221120237041090560 else x

theorem num_ne {a : Nat} (h : NumW a) : a ≠ 9221120237041090560 := by
  obtain ⟨s, r, rfl, hr⟩ := h
  have hi : dInf = 9218868437227405312 := rfl
  cases s
  · rw [dw_false]; omega
  · rw [dw_true]; omega
theorem ck_bits {a b : Nat} (ha : a < 2 ^ 64) (hb : b < 2 ^ 64) : ck a = ck b ↔ bitsF a = bitsF b := by
  have hi : dInf = 9218868437227405312 := rfl
  unfold bitsF
  cases na : nanB a <;> cases nb : nanB b
  · obtain ⟨s, r, rfl, hr⟩ := num_of ha na
    obtain ⟨t, q, rfl, hq⟩ := num_of hb nb
    rw [ck_word s hr, ck_word t hq]
    unfold fkey
    cases s <;> cases t <;> simp [dw_false, dw_true] <;> omega
  · have h1 := (ck_num ha na).1
    rw [ck_nan nb]
    have h2 := num_ne (num_of ha na)
    simp only [Bool.false_eq_true, if_false, if_true]
    constructor <;> omega
  · have h1 := (ck_num hb nb).1
    rw [ck_nan na]
    have h2 := num_ne (num_of hb nb)
    simp only [Bool.false_eq_true, if_false, if_true]
    constructor <;> omega
  · rw [ck_nan na, ck_nan nb]; simp

theorem cmpF_zero {a b : Nat} : cmpF a b = 0 ↔ ck a = ck b := by
  unfold cmpF Lib.compareInt
  split
  · constructor <;> omega
  · split <;> constructor <;> omega
theorem cmpF_swap (a b : Nat) : cmpF b a = -cmpF a b := by
  unfold cmpF Lib.compareInt
  split <;> split <;> (try split) <;> (try split) <;> omega
theorem cmpF_self (a : Nat) : cmpF a a = 0 := cmpF_zero.2 rfl
theorem cmpF_trans {a b c : Nat} (h1 : cmpF a b ≤ 0) (h2 : cmpF b c ≤ 0) : cmpF a c ≤ 0 := by
  unfold cmpF Lib.compareInt at *
  split at h1 <;> split at h2 <;> split <;> (try split) <;> (try split at h1) <;> (try split at h2) <;> omega
theorem cmpF_bd (a b : Nat) : -1 ≤ cmpF a b ∧ cmpF a b ≤ 1 := by
  unfold cmpF Lib.compareInt
  split
  · omega
  · split <;> omega

/-- An operation's answers: one, or all NaNs. -/
theorem FAns.same {o : Option Nat} {r q : Nat} (h : FAns o r) (k : FAns o q) : r = q ∨ (NanW r ∧ NanW q) := by
  cases o with
  | none => exact Or.inr ⟨h, k⟩
  | some x => exact Or.inl (h.trans k.symm)
theorem NanW.lt {x : Nat} (h : NanW x) : x < 2 ^ 64 := by
  obtain ⟨s, r, rfl, _, hr⟩ := h
  cases s
  · rw [dw_false]; omega
  · rw [dw_true]; omega
theorem FAns.lt {op : BinOp} {x y r : Nat} (h : FAns (floatBits op .f64 x y) r) : r < 2 ^ 64 := by
  cases e : floatBits op .f64 x y with
  | none => rw [e] at h; exact NanW.lt h
  | some q =>
    rw [e] at h
    have := floatBits_wf e
    simp only [FAns] at h
    subst h
    simpa [Lit.wf] using this
theorem bits_same {r q : Nat} (h : r = q ∨ (NanW r ∧ NanW q)) : bitsF r = bitsF q := by
  rcases h with rfl | ⟨h1, h2⟩
  · rfl
  · unfold bitsF; rw [nanB_nan h1, nanB_nan h2]; rfl

/-- The same operation on operands that are one, or both NaNs. -/
theorem ans_cong (op : BinOp) (hop : op = .add ∨ op = .sub ∨ op = .mul ∨ op = .quo) {x x' y y' r r' : Nat} (hx : x = x' ∨ (NanW x ∧ NanW x')) (hy : y = y' ∨ (NanW y ∧ NanW y'))
    (h : FAns (floatBits op .f64 x y) r) (h' : FAns (floatBits op .f64 x' y') r') : r = r' ∨ (NanW r ∧ NanW r') := by
  have N : ∀ a b, (NanW a ∨ NanW b) → floatBits op .f64 a b = none := by
    intro a b hab
    rcases hop with rfl | rfl | rfl | rfl
    · exact add_nan hab
    · exact sub_nan hab
    · exact mul_nan hab
    · exact div_nan hab
  rcases hx with rfl | ⟨a1, a2⟩
  · rcases hy with rfl | ⟨b1, b2⟩
    · exact h.same h'
    · rw [N _ _ (Or.inr b1)] at h
      rw [N _ _ (Or.inr b2)] at h'
      exact Or.inr ⟨h, h'⟩
  · rw [N _ _ (Or.inl a1)] at h
    rw [N _ _ (Or.inl a2)] at h'
    exact Or.inr ⟨h, h'⟩

/-- A grade, by its steps. -/
def GradeR (live size age : Int) (r : Nat) : Prop :=
  ∃ u s t b, FAns (floatBits .quo .f64 (floatOfInt .f64 live) (floatOfInt .f64 size)) u ∧ FAns (floatBits .sub .f64 4607182418800017408 u) s ∧
    FAns (floatBits .mul .f64 s (floatOfInt .f64 age)) t ∧ FAns (floatBits .add .f64 4607182418800017408 u) b ∧ FAns (floatBits .quo .f64 t b) r

theorem floatOfInt_is (n : Int) : floatOfInt .f64 n = fint n := rfl

theorem GradeR.lt {l s a : Int} {r : Nat} (h : GradeR l s a r) : r < 2 ^ 64 := by
  obtain ⟨_, _, _, _, _, _, _, _, h⟩ := h
  exact h.lt

theorem GradeR.cong {l s a l' s' : Int} {r r' : Nat} (h : GradeR l s a r) (h' : GradeR l' s' a r') (e : double.div (fint l) (fint s) = double.div (fint l') (fint s')) : r = r' ∨ (NanW r ∧ NanW r') := by
  obtain ⟨u, x, t, b, h1, h2, h3, h4, h5⟩ := h
  obtain ⟨u', x', t', b', k1, k2, k3, k4, k5⟩ := h'
  have e' : floatBits .quo .f64 (floatOfInt .f64 l) (floatOfInt .f64 s) = floatBits .quo .f64 (floatOfInt .f64 l') (floatOfInt .f64 s') := e
  rw [e'] at h1
  have q1 := h1.same k1
  have q2 := ans_cong .sub (by simp) (Or.inl rfl) q1 h2 k2
  have q3 := ans_cong .mul (by simp) q2 (Or.inl rfl) h3 k3
  have q4 := ans_cong .add (by simp) (Or.inl rfl) q1 h4 k4
  exact ans_cong .quo (by simp) q3 q4 h5 k5
theorem GradeR.same {l s a : Int} {r r' : Nat} (h : GradeR l s a r) (h' : GradeR l s a r') : bitsF r = bitsF r' := bits_same (h.cong h' rfl)

theorem GradeR.chain {a size age ru rs rt rb rg r : Nat} (h : GradeR a size age r) (c : Chain a size age ru rs rt rb rg) : r = dw false rg := by
  obtain ⟨u, s, t, b, h1, h2, h3, h4, h5⟩ := h
  have e1 : floatBits .quo .f64 (floatOfInt .f64 (a : Int)) (floatOfInt .f64 (size : Int)) = some (dw false ru) := c.u
  rw [e1] at h1; replace h1 : u = dw false ru := h1
  rw [h1] at h2 h4
  have e2 : floatBits .sub .f64 4607182418800017408 (dw false ru) = some (dw false rs) := by rw [← one_word]; exact c.s
  rw [e2] at h2; replace h2 : s = dw false rs := h2
  rw [h2] at h3
  have e3 : floatBits .mul .f64 (dw false rs) (floatOfInt .f64 (age : Int)) = some (dw false rt) := c.t
  rw [e3] at h3; replace h3 : t = dw false rt := h3
  rw [h3] at h5
  have e4 : floatBits .add .f64 4607182418800017408 (dw false ru) = some (dw false rb) := by rw [← one_word]; exact c.b
  rw [e4] at h4; replace h4 : b = dw false rb := h4
  rw [h4] at h5
  have e5 : floatBits .quo .f64 (dw false rt) (dw false rb) = some (dw false rg) := c.g
  rw [e5] at h5; exact h5
end Go.Proofs.Ytoffepagogmkkaa
