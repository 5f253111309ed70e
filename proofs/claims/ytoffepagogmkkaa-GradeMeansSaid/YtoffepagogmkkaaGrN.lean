/- Whole numbers with NaNs among them: their sum, their mean. -/
import Derived.Test.YtoffepagogmkkaaGrM
namespace Go.Proofs.Ytoffepagogmkkaa
open Go.RowKit

/-- The words of whole numbers, NaNs strewn among them. -/
inductive Mix : List Int → List Nat → Prop
  | nil : Mix [] []
  | int {zs : List Int} {xs : List Nat} (z : Int) : Mix zs xs → Mix (zs ++ [z]) (xs ++ [fint z])
  | nan {zs : List Int} {xs : List Nat} {q : Nat} : Mix zs xs → NanW q → Mix zs (xs ++ [q])

def Sml (zs : List Int) : Prop := ∀ z ∈ zs, -32768 ≤ z ∧ z ≤ 32767

theorem sml_sum {zs : List Int} (h : Sml zs) : -(32768 * (zs.length : Int)) ≤ zs.sum ∧ zs.sum ≤ 32768 * (zs.length : Int) := by
  induction zs with
  | nil => simp
  | cons z zs ih =>
    have h1 := h z (by simp)
    have h2 := ih (fun y hy => h y (by simp [hy]))
    simp only [List.sum_cons, List.length_cons]
    omega

theorem fint_num {z : Int} (h : z.natAbs < 2 ^ 53) : NumW (fint z) := by
  obtain ⟨r, e, h1, _⟩ := fint_key z h
  exact ⟨_, r, e, h1⟩
theorem NumW.lt {x : Nat} (h : NumW x) : x < 2 ^ 64 := by
  obtain ⟨s, r, rfl, h1⟩ := h
  have := dInf_lt
  cases s
  · rw [dw_false]; omega
  · rw [dw_true]; omega

theorem Mix.words {zs : List Int} {xs : List Nat} (h : Mix zs xs) (hz : Sml zs) : ∀ x ∈ xs, x < 2 ^ 64 := by
  induction h with
  | nil => simp
  | int z h ih =>
    intro x hx
    simp only [List.mem_append, List.mem_singleton] at hx
    rcases hx with hx | rfl
    · exact ih (fun y hy => hz y (by simp [hy])) x hx
    · have := hz z (by simp)
      exact (fint_num (by omega)).lt
  | nan h hq ih =>
    intro x hx
    simp only [List.mem_append, List.mem_singleton] at hx
    rcases hx with hx | rfl
    · exact ih hz x hx
    · exact hq.lt

theorem Mix.sum {zs : List Int} {xs : List Nat} (h : Mix zs xs) : ∀ (_ : Sml zs) (_ : zs.length ≤ 60) {s n : Nat} (_ : SumL xs s n), s = fint zs.sum ∧ n = zs.length := by
  induction h with
  | nil =>
    intro _ _ s n hs
    obtain ⟨rfl, rfl⟩ := hs.nil_inv rfl
    exact ⟨fint_zero.symm, rfl⟩
  | int z h ih =>
    rename_i zs xs
    intro hz hl s n hs
    have hz' : Sml zs := fun y hy => hz y (by simp [hy])
    have hzz := hz z (by simp)
    have hl' : zs.length + 1 ≤ 60 := by simpa using hl
    rcases hs.snoc rfl with ⟨hn, _⟩ | ⟨_, s', m, h1, h2, rfl⟩
    · rw [nanB_num (fint_num (by omega))] at hn; cases hn
    · obtain ⟨rfl, rfl⟩ := ih hz' (by omega) h1
      have hb := sml_sum hz'
      have e : floatBits .add .f64 (fint zs.sum) (fint z) = some (fint (zs.sum + z)) := add_ints _ _ (by omega) (by omega) (by omega)
      rw [e] at h2
      refine ⟨?_, by simp⟩
      rw [List.sum_append, List.sum_singleton]
      exact h2
  | nan h hq ih =>
    intro hz hl s n hs
    rcases hs.snoc rfl with ⟨_, h1⟩ | ⟨hn, _⟩
    · exact ih hz hl h1
    · rw [nanB_nan hq] at hn; cases hn

/-- The least and the greatest so far. -/
def loK (zs : List Int) : Nat → Int
  | 0 => 0
  | k + 1 => if k = 0 ∨ zs.getD k 0 < loK zs k then zs.getD k 0 else loK zs k
def hiK (zs : List Int) : Nat → Int
  | 0 => 0
  | k + 1 => if k = 0 ∨ hiK zs k < zs.getD k 0 then zs.getD k 0 else hiK zs k

theorem getD_sml {zs : List Int} (h : Sml zs) (k : Nat) : -32768 ≤ zs.getD k 0 ∧ zs.getD k 0 ≤ 32767 := by
  rw [List.getD_eq_getElem?_getD]
  cases e : zs[k]? with
  | none => simp
  | some z => exact h z (List.mem_of_getElem? e)
theorem loK_bd {zs : List Int} (h : Sml zs) : ∀ k, (-32768 ≤ loK zs k ∧ loK zs k ≤ 32767) ∧ ∀ j, j < k → loK zs k ≤ zs.getD j 0
  | 0 => ⟨by simp [loK], fun j hj => absurd hj (Nat.not_lt_zero _)⟩
  | k + 1 => by
    obtain ⟨h1, h2⟩ := loK_bd h k
    have h3 := getD_sml h k
    rw [loK]
    split
    · refine ⟨h3, fun j hj => ?_⟩
      rcases Nat.lt_succ_iff_lt_or_eq.1 hj with hj | rfl
      · have := h2 j hj
        omega
      · exact Int.le_refl _
    · refine ⟨h1, fun j hj => ?_⟩
      rcases Nat.lt_succ_iff_lt_or_eq.1 hj with hj | rfl
      · exact h2 j hj
      · omega
theorem hiK_bd {zs : List Int} (h : Sml zs) : ∀ k, (-32768 ≤ hiK zs k ∧ hiK zs k ≤ 32767) ∧ ∀ j, j < k → zs.getD j 0 ≤ hiK zs k
  | 0 => ⟨by simp [hiK], fun j hj => absurd hj (Nat.not_lt_zero _)⟩
  | k + 1 => by
    obtain ⟨h1, h2⟩ := hiK_bd h k
    have h3 := getD_sml h k
    rw [hiK]
    split
    · refine ⟨h3, fun j hj => ?_⟩
      rcases Nat.lt_succ_iff_lt_or_eq.1 hj with hj | rfl
      · have := h2 j hj
        omega
      · exact Int.le_refl _
    · refine ⟨h1, fun j hj => ?_⟩
      rcases Nat.lt_succ_iff_lt_or_eq.1 hj with hj | rfl
      · exact h2 j hj
      · omega

theorem sum_between (zs : List Int) (lo hi : Int) (h : ∀ z ∈ zs, lo ≤ z ∧ z ≤ hi) : lo * (zs.length : Int) ≤ zs.sum ∧ zs.sum ≤ hi * (zs.length : Int) := by
  induction zs with
  | nil => simp
  | cons z zs ih =>
    have h1 := h z (by simp)
    have h2 := ih (fun y hy => h y (by simp [hy]))
    simp only [List.sum_cons, List.length_cons, Int.natCast_succ, Int.mul_add, Int.mul_one]
    omega

theorem keys_ge {a b : Nat} {s t : Bool} {r q : Nat} (ha : a = dw s r) (hb : b = dw t q) (hr : r ≤ dInf) (hq : q ≤ dInf) (h : fkey t q ≤ fkey s r) :
    (FloatKind.f64.format.order a b == some .gt || FloatKind.f64.format.order a b == some .eq) = true := by
  show (Ieee.double.order a b == some .gt || Ieee.double.order a b == some .eq) = true
  rw [ha, hb, order_key s t hr hq]
  rcases Int.lt_or_eq_of_le h with h | h
  · have h1 : ¬ fkey s r < fkey t q := by omega
    have h2 : ¬ fkey s r = fkey t q := by omega
    simp [compare, compareOfLessAndEq, h1, h2]
  · simp [compare, compareOfLessAndEq, h]
theorem keys_le {a b : Nat} {s t : Bool} {r q : Nat} (ha : a = dw s r) (hb : b = dw t q) (hr : r ≤ dInf) (hq : q ≤ dInf) (h : fkey s r ≤ fkey t q) :
    (FloatKind.f64.format.order a b == some .lt || FloatKind.f64.format.order a b == some .eq) = true := by
  show (Ieee.double.order a b == some .lt || Ieee.double.order a b == some .eq) = true
  rw [ha, hb, order_key s t hr hq]
  rcases Int.lt_or_eq_of_le h with h | h
  · simp [compare, compareOfLessAndEq, h]
  · simp [compare, compareOfLessAndEq, h]
theorem keys_eq {a b : Nat} {s t : Bool} {r q : Nat} (ha : a = dw s r) (hb : b = dw t q) (hr : r ≤ dInf) (hq : q ≤ dInf) (h : fkey s r = fkey t q) :
    FloatKind.f64.format.order a b = some .eq := by
  show Ieee.double.order a b = some .eq
  rw [ha, hb, order_key s t hr hq]
  simp [compare, compareOfLessAndEq, h]

/-- What the law asks of the mean. -/
structure MeanFacts (zs : List Int) (r : Nat) : Prop where
  ge : (FloatKind.f64.format.order r (floatOfInt .f64 (loK zs zs.length)) == some .gt || FloatKind.f64.format.order r (floatOfInt .f64 (loK zs zs.length)) == some .eq) = true
  le : (FloatKind.f64.format.order r (floatOfInt .f64 (hiK zs zs.length)) == some .lt || FloatKind.f64.format.order r (floatOfInt .f64 (hiK zs zs.length)) == some .eq) = true
  one : zs.length = 1 → FloatKind.f64.format.order r (floatOfInt .f64 (zs.getD 0 0)) = some .eq

theorem mean_none {xs : List Nat} {r : Nat} (h : Mix [] xs) (k : MeanR xs r) : FloatKind.f64.format.order r r = none := by
  obtain ⟨s, n, h1, h2, _⟩ := k
  obtain ⟨_, rfl⟩ := h.sum (by intro z hz; cases hz) (by simp) h1
  rw [h2 rfl]
  kernel_rfl

theorem mean_facts {zs : List Int} {xs : List Nat} {r : Nat} (h : Mix zs xs) (hz : Sml zs) (hl : zs.length ≤ 60) (hp : 0 < zs.length) (k : MeanR xs r) : MeanFacts zs r := by
  obtain ⟨s, n, h1, _, h2⟩ := k
  obtain ⟨rfl, rfl⟩ := h.sum hz hl h1
  have hd := h2 hp
  have hb := sml_sum hz
  obtain ⟨l1, l2⟩ := loK_bd hz zs.length
  obtain ⟨g1, g2⟩ := hiK_bd hz zs.length
  have hbt := sum_between zs (loK zs zs.length) (hiK zs zs.length) (fun z hm => by
    obtain ⟨j, hj, rfl⟩ := List.getElem_of_mem hm
    have a := l2 j hj
    have b := g2 j hj
    rw [List.getD_eq_getElem?_getD, List.getElem?_eq_getElem hj] at a b
    exact ⟨a, b⟩)
  obtain ⟨s, q, e, hq, ⟨b, e1, hb1, k1⟩, ⟨c, e2, hc1, k2⟩⟩ := mean_word zs.sum (loK zs zs.length) (hiK zs zs.length) zs.length hp (by omega) (by omega) (by omega) (by omega) hbt.1 hbt.2
  have e' : floatBits .quo .f64 (fint zs.sum) (floatOfInt .f64 (zs.length : Int)) = some (dw s q) := e
  rw [e'] at hd
  replace hd : r = dw s q := hd
  refine ⟨?_, ?_, fun h1 => ?_⟩
  · exact keys_ge hd e1 (Nat.le_of_lt hq) hb1 k1
  · exact keys_le hd e2 (Nat.le_of_lt hq) hc1 k2
  · have hlo : loK zs zs.length = zs.getD 0 0 := by rw [h1]; simp [loK]
    have hhi : hiK zs zs.length = zs.getD 0 0 := by rw [h1]; simp [hiK]
    rw [hlo] at e1 k1
    rw [hhi] at e2 k2
    have : b = c := by
      have := e1.symm.trans e2
      cases hs : decide (zs.getD 0 0 < 0) <;> rw [hs] at this
      · exact this
      · rw [dw_true, dw_true] at this; omega
    subst this
    exact keys_eq hd e1 (Nat.le_of_lt hq) hb1 (by omega)
end Go.Proofs.Ytoffepagogmkkaa
