/- The nearest word is the word of the nearest rung. -/
import Derived.Test.YtoffepagogmkkaaFlA
namespace Go.Proofs.Ytoffepagogmkkaa
open Ieee

abbrev dB : Nat := double.binade
abbrev dL : Int := double.leastPlace
theorem dB_is : dB = 2 ^ 52 := rfl
theorem dB_pos : 0 < dB := Nat.two_pow_pos 52
theorem dB_even : dB % 2 = 0 := by rw [dB_is]
theorem dL_is : dL = -1074 := by decide

abbrev Nr (x : Rat) (r : Nat) : Prop := Near (B := dB) dL x r
abbrev dv (r : Nat) : Rat := rv dB dL r

theorem log_lo {m : Nat} (h : 0 < m) : 2 ^ m.log2 ≤ m := (Nat.le_log2 (by omega)).1 (Nat.le_refl _)
theorem log_hi (m : Nat) : m < 2 ^ (m.log2 + 1) := Nat.lt_log2_self

/-- The cut to the nearest, as a choice between two whole numbers. -/
theorem cut_even (neg : Bool) (n drop : Nat) : ∃ low rest gap, gap = 2 ^ min drop (n.log2 + 2) ∧ n = low * gap + rest ∧ rest < gap ∧
    ((Toward.even.cut neg n drop = low ∧ (2 * rest < gap ∨ (2 * rest = gap ∧ low % 2 = 0))) ∨ (Toward.even.cut neg n drop = low + 1 ∧ (gap < 2 * rest ∨ (2 * rest = gap ∧ low % 2 = 1)))) := by
  refine ⟨n / 2 ^ min drop (n.log2 + 2), n % 2 ^ min drop (n.log2 + 2), _, rfl, ?_, Nat.mod_lt _ (Nat.two_pow_pos _), ?_⟩
  · rw [Nat.mul_comm]; exact (Nat.div_add_mod _ _).symm
  · unfold Toward.cut
    simp only [Nat.one_shiftLeft]
    generalize 2 ^ min drop (n.log2 + 2) = gap
    generalize n / gap = low
    generalize n % gap = rest
    by_cases h1 : gap < 2 * rest
    · right; simp [h1]
    · by_cases h2 : gap = 2 * rest
      · rcases Nat.mod_two_eq_zero_or_one low with h3 | h3
        · left; simp [h1, h3]; omega
        · right; simp [← h2, h3]
      · left; simp [h1, h2]; omega

theorem cut_none (neg : Bool) (n : Nat) : Toward.even.cut neg n 0 = n := by
  obtain ⟨low, rest, gap, hg, hn, hr, h⟩ := cut_even neg n 0
  simp at hg
  subst hg
  have : rest = 0 := by omega
  subst this
  rcases h with ⟨h, _⟩ | ⟨h, h2⟩
  · rw [h]; omega
  · omega

theorem last_place (last : Int) (h : dL ≤ last) : dL + ((last - dL).toNat : Int) = last := by omega

/-- How the nearest word is found where digits are dropped. -/
theorem nearest_parts (neg : Bool) (mag : Nat) (place : Int) (hm : 0 < mag) (hdrop : place < max (place + mag.log2 - 52) dL) :
    ∃ p low kept d : Nat, place + d = dL + p ∧ 0 < d ∧ mag.log2 ≤ d + 52 ∧ double.nearest neg mag place = double.word neg (min (p * dB + kept) double.infRung) ∧
      (p = 0 ∨ dB ≤ low) ∧ low < 2 * dB ∧ low * 2 ^ d ≤ mag ∧ mag < (low + 1) * 2 ^ d ∧
      ((kept = low ∧ (2 * mag < (2 * low + 1) * 2 ^ d ∨ (2 * mag = (2 * low + 1) * 2 ^ d ∧ low % 2 = 0))) ∨ (kept = low + 1 ∧ ((2 * low + 1) * 2 ^ d < 2 * mag ∨ (2 * mag = (2 * low + 1) * 2 ^ d ∧ low % 2 = 1)))) := by
  have hlo := log_lo hm
  have hhi := log_hi mag
  obtain ⟨last, hlast⟩ : ∃ last, last = max (place + mag.log2 - 52) dL := ⟨_, rfl⟩
  rw [← hlast] at hdrop
  have hw : double.nearest neg mag place = double.word neg (min ((last - dL).toNat * dB + Toward.even.cut neg (mag <<< (place - last).toNat) (last - place).toNat) double.infRung) := by
    unfold Format.nearest
    rw [if_neg (by omega)]
    subst hlast
    rfl
  have hz : (place - last).toNat = 0 := by omega
  rw [hz, Nat.shiftLeft_zero] at hw
  obtain ⟨low, rest, gap, hg, hn, hr, hcut⟩ := cut_even neg mag (last - place).toNat
  generalize Toward.even.cut neg mag (last - place).toNat = kept at *
  generalize hd : (last - place).toNat = d at *
  by_cases hb : d ≤ mag.log2 + 2
  · rw [Nat.min_eq_left hb] at hg
    subst hg
    have hlow : low < 2 * dB := by
      have a1 : 2 ^ (mag.log2 + 1) ≤ 2 ^ (53 + d) := Nat.pow_le_pow_right (by omega) (by omega)
      have a0 : 2 ^ (53 + d) = 2 ^ 53 * 2 ^ d := Nat.pow_add ..
      rw [a0] at a1
      have a2 : low * 2 ^ d < 2 ^ 53 * 2 ^ d := by omega
      have := Nat.lt_of_mul_lt_mul_right a2
      rw [dB_is]; omega
    have hge : (last - dL).toNat = 0 ∨ dB ≤ low := by
      by_cases hd2 : last = dL
      · left; omega
      · right
        have e : 52 + d = mag.log2 := by omega
        have a1 : 2 ^ 52 * 2 ^ d ≤ mag := by rw [← Nat.pow_add, e]; exact hlo
        rw [dB_is]
        refine Nat.le_of_not_lt fun hlt => ?_
        have a2 : (low + 1) * 2 ^ d ≤ 2 ^ 52 * 2 ^ d := Nat.mul_le_mul_right _ hlt
        rw [Nat.add_mul] at a2
        omega
    have e1 : (2 * low + 1) * 2 ^ d = 2 * (low * 2 ^ d) + 2 ^ d := by rw [Nat.add_mul, Nat.mul_assoc]; omega
    refine ⟨(last - dL).toNat, low, kept, d, by omega, by omega, by omega, hw, hge, hlow, by omega, by rw [Nat.add_mul]; omega, ?_⟩
    rw [e1, hn]
    rcases hcut with ⟨h5, h6 | ⟨h6, h7⟩⟩ | ⟨h5, h6 | ⟨h6, h7⟩⟩
    · exact Or.inl ⟨h5, Or.inl (by omega)⟩
    · exact Or.inl ⟨h5, Or.inr ⟨by omega, h7⟩⟩
    · exact Or.inr ⟨h5, Or.inl (by omega)⟩
    · exact Or.inr ⟨h5, Or.inr ⟨by omega, h7⟩⟩
  · rw [Nat.min_eq_right (by omega)] at hg
    have a1 : 2 ^ (mag.log2 + 2) ≤ 2 ^ d := Nat.pow_le_pow_right (by omega) (by omega)
    have a2 : 2 ^ (mag.log2 + 2) = 2 * 2 ^ (mag.log2 + 1) := by rw [Nat.pow_succ, Nat.mul_comm]
    have hl0 : low = 0 := by
      refine Nat.eq_zero_of_not_pos fun hp => ?_
      have := Nat.le_mul_of_pos_left gap hp
      omega
    subst hl0
    have hk : kept = 0 := by
      rcases hcut with ⟨h5, _⟩ | ⟨h5, h6 | ⟨h6, _⟩⟩
      · exact h5
      · omega
      · omega
    exact ⟨(last - dL).toNat, 0, kept, d, by omega, by omega, by omega, hw, Or.inl (by omega), by have := dB_pos; omega, by omega, by omega, Or.inl ⟨hk, Or.inl (by omega)⟩⟩

/-- k units of t against x, where x times n is D units of t. -/
theorem unit_le {x t : Rat} {n D k : Nat} (hn : 0 < n) (ht : 0 < t) (hx : x * n = (D : Rat) * t) (h : k * n ≤ D) : (k : Rat) * t ≤ x := by
  have hn' : (0 : Rat) < n := Rat.natCast_pos.2 hn
  refine Rat.le_of_mul_le_mul_right (c := (n : Rat)) ?_ hn'
  rw [hx, Rat.mul_assoc, Rat.mul_comm t, ← Rat.mul_assoc, ← Rat.natCast_mul]
  exact nat_le_mul ht h
theorem unit_lt {x t : Rat} {n D k : Nat} (hn : 0 < n) (ht : 0 < t) (hx : x * n = (D : Rat) * t) (h : D < k * n) : x < (k : Rat) * t := by
  have hn' : (0 : Rat) < n := Rat.natCast_pos.2 hn
  refine Rat.lt_of_mul_lt_mul_right (c := (n : Rat)) ?_ (Rat.le_of_lt hn')
  rw [hx, Rat.mul_assoc, Rat.mul_comm t, ← Rat.mul_assoc, ← Rat.natCast_mul]
  exact nat_lt_mul ht h
theorem lt_unit {x t : Rat} {n D k : Nat} (hn : 0 < n) (ht : 0 < t) (hx : x * n = (D : Rat) * t) (h : k * n < D) : (k : Rat) * t < x := by
  have hn' : (0 : Rat) < n := Rat.natCast_pos.2 hn
  refine Rat.lt_of_mul_lt_mul_right (c := (n : Rat)) ?_ (Rat.le_of_lt hn')
  rw [hx, Rat.mul_assoc, Rat.mul_comm t, ← Rat.mul_assoc, ← Rat.natCast_mul]
  exact nat_lt_mul ht h

theorem near_of_parts {x t : Rat} {n D : Nat} (hn : 0 < n) (ht : 0 < t) (hx : x * n = (D : Rat) * t) {p low kept K : Nat} (hu : p2 (dL + p) = (K : Rat) * t)
    (h0 : p = 0 ∨ dB ≤ low) (hl : low < 2 * dB) (h1 : low * K * n ≤ D) (h2 : D < (low + 1) * K * n)
    (h3 : (kept = low ∧ (2 * D < (2 * low + 1) * K * n ∨ (2 * D = (2 * low + 1) * K * n ∧ low % 2 = 0))) ∨ (kept = low + 1 ∧ ((2 * low + 1) * K * n < 2 * D ∨ (2 * D = (2 * low + 1) * K * n ∧ low % 2 = 1)))) :
    Nr x (p * dB + kept) := by
  have hx2 : (2 * x) * n = ((2 * D : Nat) : Rat) * t := by
    rw [Rat.mul_assoc, hx, Rat.natCast_mul, ← Rat.mul_assoc]; rfl
  have em : ∀ k : Nat, (k : Rat) * p2 (dL + p) = ((k * K : Nat) : Rat) * t := by
    intro k
    rw [hu, Rat.natCast_mul, Rat.mul_assoc]
  refine near_cut dL dB_pos dB_even p low kept h0 hl ?_ ?_ ?_
  · rw [em]; exact unit_le hn ht hx h1
  · rw [em]; exact unit_lt hn ht hx h2
  · rw [em]
    have eq : ∀ {k : Nat}, 2 * D = k * n → 2 * x = (k : Rat) * t := fun h => Rat.le_antisymm
      (Rat.not_lt.1 fun hl => by
        have hn' : (0 : Rat) < n := Rat.natCast_pos.2 hn
        have a := (Rat.mul_lt_mul_right hn').2 hl
        rw [hx2, h, Rat.mul_assoc, Rat.mul_comm t, ← Rat.mul_assoc, ← Rat.natCast_mul] at a
        exact absurd a (Rat.not_lt.2 Rat.le_refl))
      (unit_le hn ht hx2 (Nat.le_of_eq h.symm))
    rcases h3 with ⟨h5, h6 | ⟨h6, h7⟩⟩ | ⟨h5, h6 | ⟨h6, h7⟩⟩
    · exact Or.inl ⟨h5, Or.inl (unit_lt hn ht hx2 h6)⟩
    · exact Or.inl ⟨h5, Or.inr ⟨eq h6, h7⟩⟩
    · exact Or.inr ⟨h5, Or.inl (lt_unit hn ht hx2 h6)⟩
    · exact Or.inr ⟨h5, Or.inr ⟨eq h6, h7⟩⟩

/-- The rung that the nearest word is of. -/
theorem nearest_near (neg : Bool) (mag : Nat) (place : Int) (hm : 0 < mag) :
    ∃ r, Nr ((mag : Rat) * p2 place) r ∧ double.nearest neg mag place = double.word neg (min r double.infRung) ∧
      (mag < 2 ^ 53 → dL ≤ place → dv r = (mag : Rat) * p2 place) := by
  have hlo := log_lo hm
  have hhi := log_hi mag
  by_cases hdrop : place < max (place + mag.log2 - 52) dL
  · obtain ⟨p, low, kept, d, e1, e2, e3, e4, e5, e6, e7, e8, e9⟩ := nearest_parts neg mag place hm hdrop
    refine ⟨_, ?_, e4, ?_⟩
    · refine near_of_parts (n := 1) (D := mag) (K := 2 ^ d) (t := p2 place) (by omega) (p2_pos _) (by rw [show ((1 : Nat) : Rat) = 1 from rfl, Rat.mul_one]) ?_ e5 e6 (by omega) (by omega) (by simpa using e9)
      rw [← e1, p2_add, p2_nat, Rat.mul_comm]
    · intro h1 h2
      have : mag.log2 < 53 := (Nat.log2_lt (by omega)).2 h1
      omega
  · obtain ⟨last, hlast⟩ : ∃ last, last = max (place + mag.log2 - 52) dL := ⟨_, rfl⟩
    have hw : double.nearest neg mag place = double.word neg (min ((last - dL).toNat * dB + Toward.even.cut neg (mag <<< (place - last).toNat) (last - place).toNat) double.infRung) := by
      unfold Format.nearest
      rw [if_neg (by omega)]
      subst hlast
      rfl
    have hLl : dL ≤ last := by omega
    have hpl := last_place last hLl
    have hle : last ≤ place := by omega
    have hex : dv ((last - dL).toNat * dB + Toward.even.cut neg (mag <<< (place - last).toNat) (last - place).toNat) = (mag : Rat) * p2 place := by
      have hz : (last - place).toNat = 0 := by omega
      rw [hz, cut_none, Nat.shiftLeft_eq]
      have h1 : mag.log2 + (place - last).toNat ≤ 52 := by omega
      have h2 : mag * 2 ^ (place - last).toNat ≤ 2 * dB := by
        have a1 : mag * 2 ^ (place - last).toNat ≤ 2 ^ (mag.log2 + 1) * 2 ^ (place - last).toNat := Nat.mul_le_mul_right _ (Nat.le_of_lt hhi)
        rw [← Nat.pow_add] at a1
        have a2 : 2 ^ (mag.log2 + 1 + (place - last).toNat) ≤ 2 ^ 53 := Nat.pow_le_pow_right (by omega) (by omega)
        rw [dB_is]
        omega
      have h3 : (last - dL).toNat = 0 ∨ dB ≤ mag * 2 ^ (place - last).toNat := by
        by_cases hd : last = dL
        · left; omega
        · right
          have a1 : 2 ^ mag.log2 * 2 ^ (place - last).toNat ≤ mag * 2 ^ (place - last).toNat := Nat.mul_le_mul_right _ hlo
          rw [← Nat.pow_add] at a1
          have e : mag.log2 + (place - last).toNat = 52 := by omega
          rw [e] at a1
          exact a1
      show rv dB dL _ = _
      rw [rv_of dL dB_pos _ _ h3 h2, hpl, p2_sub place last hle, Rat.natCast_mul, Rat.mul_assoc, Rat.mul_comm (p2 last)]
    refine ⟨_, ?_, hw, fun _ _ => hex⟩
    rw [← hex]
    exact near_self dL dB_pos _

/-- The quotient's rung: of the exact quotient x, what is left over being told by the last digit. -/
theorem quotient_near (neg : Bool) (m n : Nat) (i j : Int) (hm : 0 < m) (hn : 0 < n) {x : Rat} (hx : x * n = (m : Rat) * p2 (i - j)) :
    ∃ r, Nr x r ∧ double.nearest neg (2 * (m <<< (54 + n.log2 - m.log2) / n) + (m <<< (54 + n.log2 - m.log2) % n != 0).toNat) (i - j - (54 + n.log2 - m.log2 : Nat) - 1) = double.word neg (min r double.infRung) := by
  generalize hmore : 54 + n.log2 - m.log2 = more
  have hlm := log_lo hm
  have hln := log_hi n
  obtain ⟨D, hD⟩ : ∃ D, m <<< more = D := ⟨_, rfl⟩
  rw [hD]
  rw [Nat.shiftLeft_eq] at hD
  have hQ := Nat.div_add_mod D n
  have hR := Nat.mod_lt D hn
  obtain ⟨Q, hQe⟩ : ∃ Q, D / n = Q := ⟨_, rfl⟩
  obtain ⟨R, hRe⟩ : ∃ R, D % n = R := ⟨_, rfl⟩
  rw [hQe, hRe] at hQ ⊢
  rw [hRe] at hR
  have hbig : 2 ^ 53 ≤ Q := by
    have a1 : 2 ^ (53 + n.log2 + 1) ≤ D := by
      have b1 : 2 ^ (m.log2 + more) ≤ D := by rw [← hD, Nat.pow_add]; exact Nat.mul_le_mul_right _ hlm
      exact Nat.le_trans (Nat.pow_le_pow_right (by omega) (by omega)) b1
    have a2 : 2 ^ (53 + n.log2 + 1) = 2 ^ 53 * 2 ^ (n.log2 + 1) := by rw [Nat.add_assoc, Nat.pow_add]
    rw [a2] at a1
    rw [← hQe]
    refine (Nat.le_div_iff_mul_le hn).2 (Nat.le_trans (Nat.mul_le_mul_left _ (Nat.le_of_lt hln)) a1)
  obtain ⟨s, hs⟩ : ∃ s, (R != 0).toNat = s := ⟨_, rfl⟩
  rw [hs]
  have hs0 : (s = 0 ∧ R = 0) ∨ (s = 1 ∧ 0 < R) := by
    rw [← hs]
    by_cases h : R = 0
    · left; simp [h]
    · right; simp [h]; omega
  have hlog : 54 ≤ (2 * Q + s).log2 := (Nat.le_log2 (by omega)).2 (by omega)
  obtain ⟨p, low, kept, d, e1, e2, e3, e4, e5, e6, e7, e8, e9⟩ := nearest_parts neg (2 * Q + s) (i - j - (more : Nat) - 1) (by omega) (by omega)
  refine ⟨_, ?_, e4⟩
  obtain ⟨c, rfl⟩ : ∃ c, d = c + 2 := ⟨d - 2, by omega⟩
  have h4 : 2 ^ (c + 2) = 4 * 2 ^ c := by rw [Nat.pow_add, Nat.mul_comm]
  have h2 : 2 ^ (c + 1) = 2 * 2 ^ c := by rw [Nat.pow_add, Nat.mul_comm]
  refine near_of_parts (n := n) (D := D) (K := 2 ^ (c + 1)) (t := p2 (i - j - (more : Nat))) hn (p2_pos _) ?_ ?_ e5 e6 ?_ ?_ ?_
  · rw [hx, ← hD, Rat.natCast_mul, Rat.mul_assoc, ← p2_nat, ← p2_add]
    congr 2
    omega
  · rw [← p2_nat, ← p2_add]
    congr 1
    omega
  all_goals
    rw [h4] at e7 e8 e9
    rw [h2]
    generalize 2 ^ c = G at *
  · have f1 : low * (4 * G) = 4 * (low * G) := by ac_rfl
    have f2 : low * (2 * G) * n = n * (2 * (low * G)) := by ac_rfl
    rw [f1] at e7
    rw [f2, ← hQ]
    have := Nat.mul_le_mul_left n (show 2 * (low * G) ≤ Q by omega)
    omega
  · have f1 : (low + 1) * (4 * G) = 4 * ((low + 1) * G) := by ac_rfl
    have f2 : (low + 1) * (2 * G) * n = n * (2 * ((low + 1) * G)) := by ac_rfl
    rw [f1] at e8
    rw [f2, ← hQ]
    have h := Nat.mul_le_mul_left n (show Q + 1 ≤ 2 * ((low + 1) * G) by omega)
    rw [Nat.mul_add] at h
    omega
  · have f1 : (2 * low + 1) * (4 * G) = 4 * ((2 * low + 1) * G) := by ac_rfl
    have f2 : (2 * low + 1) * (2 * G) * n = 2 * (n * ((2 * low + 1) * G)) := by ac_rfl
    rw [f1] at e9
    rw [f2, ← hQ]
    generalize (2 * low + 1) * G = M at *
    rcases e9 with ⟨g5, g6 | ⟨g6, g7⟩⟩ | ⟨g5, g6 | ⟨g6, g7⟩⟩
    · have h := Nat.mul_le_mul_left n (show Q + 1 ≤ M by omega)
      rw [Nat.mul_add] at h
      exact Or.inl ⟨g5, Or.inl (by omega)⟩
    · have e : Q = M := by omega
      subst e
      exact Or.inl ⟨g5, Or.inr ⟨by omega, g7⟩⟩
    · refine Or.inr ⟨g5, Or.inl ?_⟩
      by_cases hlt : M < Q
      · have h := Nat.mul_le_mul_left n (show M + 1 ≤ Q by omega)
        rw [Nat.mul_add] at h
        omega
      · have e : Q = M := by omega
        subst e
        omega
    · have e : Q = M := by omega
      subst e
      exact Or.inr ⟨g5, Or.inr ⟨by omega, g7⟩⟩
end Go.Proofs.Ytoffepagogmkkaa
