/- What one deed adds to a row, or why it may not be: apart from what is written ahead of it. -/
import Derived.Test.YtfkafelidkcinaaWrite
namespace Go.Proofs.Ytfkafelidkcinaa
open Go.RowKit

def effRaw (bs : List Int) : Except Int (List Int) := if 65535 < bs.length then .error 3 else .ok (be bs.length 2 ++ bs)

def eff (d : Dd) : Except Int (List Int) :=
  if d.act ≤ 1 then (if 1 ≤ d.n ∧ d.n ≤ 7 ∧ 0 ≤ d.x ∧ d.x / 2 ^ (8 * d.n.toNat) = 0 then .ok (be d.x d.n.toNat) else .error 1)
  else if d.act = 2 then effRaw d.bs else if d.act = 3 then effRaw d.bs else .ok [bit (odd d.x)]

def put (r : Except Int (List Int)) (x : List Int) : List Int × Int := match r with
  | .error e => ([], e)
  | .ok t => penAdd t (x, 0)

theorem penAdd_join (s t x : List Int) : penAdd t (penAdd s (x, 0)) = penAdd (s ++ t) (x, 0) := by
  unfold penAdd
  simp only [List.length_append]
  by_cases h1 : 65536 < x.length + s.length
  · simp only [ne_eq, not_true_eq_false, if_false, if_pos h1]
    rw [if_pos (by decide), if_pos (by omega)]
  · simp only [ne_eq, not_true_eq_false, if_false, if_neg h1]
    by_cases h2 : 65536 < x.length + (s.length + t.length)
    · rw [if_pos h2, if_pos (by rw [List.length_append]; omega)]
    · rw [if_neg h2, if_neg (by rw [List.length_append]; omega), List.append_assoc]

theorem raw_eff (bs x : List Int) : penRaw bs (x, 0) = put (effRaw bs) x := by
  unfold penRaw effRaw
  by_cases hl : 65535 < bs.length
  · rw [if_pos (by omega), if_pos hl]
    rfl
  · rw [if_neg (by omega), if_neg hl]
    have e1 : penNum bs.length 2 (x, 0) = penAdd (be bs.length 2) (x, 0) := by
      unfold penNum
      rw [if_pos ⟨by omega, by omega, by omega, by show (bs.length : Int) / 65536 = 0; omega⟩]
      rfl
    rw [e1, penAdd_join]
    rfl

theorem bool_eff (b : Bool) (x : List Int) : penBool b (x, 0) = penAdd [bit b] (x, 0) := by
  unfold penBool penNum
  rw [if_pos (by cases b <;> decide)]
  cases b <;> rfl

theorem deedW_eff (d : Dd) (x : List Int) : deedW (x, 0) d = put (eff d) x := by
  unfold deedW eff
  by_cases h1 : d.act ≤ 1
  · rw [if_pos h1, if_pos h1]
    unfold penNum
    split
    · rfl
    · unfold penFail; rfl
  · rw [if_neg h1, if_neg h1]
    by_cases h2 : d.act = 2
    · rw [if_pos h2, if_pos h2]; exact raw_eff _ _
    · rw [if_neg h2, if_neg h2]
      by_cases h3 : d.act = 3
      · rw [if_pos h3, if_pos h3]; exact raw_eff _ _
      · rw [if_neg h3, if_neg h3]; exact bool_eff _ _

theorem eff_error {d : Dd} {e : Int} (h : eff d = .error e) : e ≠ 0 := by
  unfold eff effRaw at h
  repeat' split at h
  all_goals first | (cases h; omega) | cases h

theorem deedW_fail (d : Dd) {s : List Int × Int} (h : s.2 ≠ 0) : deedW s d = s := by
  have hraw : ∀ bs, penRaw bs s = s := by
    intro bs
    unfold penRaw
    rw [penNum_fail h, penAdd_fail h, penFail_fail h]
    split <;> rfl
  unfold deedW penBool
  rw [penNum_fail h, penNum_fail h, hraw]
  split
  · rfl
  · split
    · rfl
    · split <;> rfl

theorem deeds_fail (ds : List Dd) : ∀ {s : List Int × Int}, s.2 ≠ 0 → ds.foldl deedW s = s := by
  induction ds with
  | nil => exact fun _ => rfl
  | cons d ds ih =>
    intro s h
    rw [List.foldl_cons, deedW_fail d h]
    exact ih h

/-- The same deeds behind some bytes more: the same bytes behind them, or too many; what failed fails. -/
theorem deeds_behind (a : List Int) (ds : List Dd) : ∀ (x : List Int),
    ((ds.foldl deedW (x, 0)).2 = 0 → (ds.foldl deedW (a ++ x, 0)) = (a ++ (ds.foldl deedW (x, 0)).1, 0) ∨ (ds.foldl deedW (a ++ x, 0)).2 = 3) ∧
    ((ds.foldl deedW (x, 0)).2 ≠ 0 → (ds.foldl deedW (a ++ x, 0)).2 ≠ 0) := by
  induction ds with
  | nil => exact fun x => ⟨fun _ => Or.inl rfl, fun h => absurd rfl h⟩
  | cons d ds ih =>
    intro x
    rw [List.foldl_cons, List.foldl_cons, deedW_eff, deedW_eff]
    cases he : eff d with
    | error e =>
      have hne := eff_error he
      simp only [put]
      rw [deeds_fail ds (s := ([], e)) hne]
      exact ⟨fun h => absurd h hne, fun _ => hne⟩
    | ok t =>
      simp only [put]
      unfold penAdd
      simp only [ne_eq, not_true_eq_false, if_false]
      by_cases h1 : 65536 < x.length + t.length
      · rw [if_pos h1, if_pos (by rw [List.length_append]; omega)]
        rw [deeds_fail ds (s := ([], 3)) (by decide)]
        exact ⟨fun _ => Or.inr rfl, fun _ => by decide⟩
      · rw [if_neg h1]
        by_cases h2 : 65536 < (a ++ x).length + t.length
        · rw [if_pos h2]
          rw [deeds_fail ds (s := ([], 3)) (by decide)]
          exact ⟨fun _ => Or.inr rfl, fun _ => by decide⟩
        · rw [if_neg h2, List.append_assoc]
          exact ih (x ++ t)
end Go.Proofs.Ytfkafelidkcinaa
