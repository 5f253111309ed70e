/- delta: Decode. -/
import Derived.Test.YtoglcohdanpciaaDeH
import Derived.Test.YtoglcohdanpciaaDeM
import Derived.Test.YtoglcohdanpciaaDeK
namespace Go.Proofs.Ytoglcohdanpciaa
open Go.RowKit Go.Shelf
set_option maxRecDepth 100000
set_option linter.unusedSimpArgs false

/-- The deltas that were read, or why there is no reading on; and what is left. -/
def dcS (o : Except Int (List Dl) × PSt) : Except Int (List Dl) × PSt :=
  match o.1 with
  | .error _ => o
  | .ok l => if (getD o.2).2.2 ≠ 0 then (.error (getD o.2).2.2, (getD o.2).2) else if mayL (getD o.2).1 = true then (.ok (l ++ [(getD o.2).1]), (getD o.2).2) else (.error 4, (getD o.2).2)
def dcI (st : PSt) : Nat → Except Int (List Dl) × PSt
  | 0 => (.ok [], st)
  | k + 1 => dcS (dcI st k)
theorem dcI_err {st : PSt} {k : Nat} {y : Int} (h : (dcI st k).1 = .error y) : ∀ n, dcI st (k + n) = dcI st k
  | 0 => rfl
  | n + 1 => by
    show dcS (dcI st (k + n)) = _
    rw [dcI_err h n]
    unfold dcS
    rw [h]
theorem dcI_len {st : PSt} : ∀ {k : Nat} {l : List Dl}, (dcI st k).1 = .ok l → l.length = k ∧ ∀ x ∈ l, mayL x = true := by
  intro k
  induction k with
  | zero => intro l h; injection h with h; subst h; exact ⟨rfl, by simp⟩
  | succ k ih =>
    intro l h
    unfold dcI dcS at h
    cases hk : (dcI st k).1 with
    | error y => rw [hk] at h; simp only at h; rw [hk] at h; cases h
    | ok l0 =>
      rw [hk] at h
      simp only at h
      split at h
      · cases h
      · split at h
        · rename_i hm
          injection h with h
          subst h
          obtain ⟨h1, h2⟩ := ih hk
          exact ⟨by simp [h1], fun x hx => by
            rcases List.mem_append.1 hx with hx | hx
            · exact h2 x hx
            · simp at hx; rw [hx]; exact hm⟩
        · cases h
def decE (o : Except Int (List Dl) × PSt) : List Dl × Int :=
  match o.1 with
  | .error y => ([], y)
  | .ok l => if endOf o.2.1 o.2.2 ≠ 0 then ([], endOf o.2.1 o.2.2) else (l, 0)
/-- What Decode answers. -/
def decL (zs : List Int) : List Dl × Int :=
  if 4000 < (numE 2 (zs, 0)).1 then ([], 3) else decE (dcI (numE 2 (zs, 0)).2 (numE 2 (zs, 0)).1.toNat)
theorem getO_good {o : Dl × PSt} (h0 : o.2.2 = 0) (hm : mayL o.1 = true) : getO o = (o.1, 0) := by unfold getO; rw [if_neg (by simp [h0]), if_pos hm]
theorem getO_form {o : Dl × PSt} (h0 : o.2.2 = 0) (hm : mayL o.1 = false) : getO o = (dZ, 4) := by unfold getO; rw [if_neg (by simp [h0]), if_neg (by simp [hm])]
theorem getO_fail {o : Dl × PSt} (h0 : o.2.2 ≠ 0) : getO o = (dZ, o.2.2) := by unfold getO; rw [if_pos h0]
theorem dcS_good {l : List Dl} {st : PSt} (h0 : (getD st).2.2 = 0) (hm : mayL (getD st).1 = true) : dcS (.ok l, st) = (.ok (l ++ [(getD st).1]), (getD st).2) := by
  unfold dcS; simp only; rw [if_neg (by simp [h0]), if_pos hm]
theorem dcS_form {l : List Dl} {st : PSt} (h0 : (getD st).2.2 = 0) (hm : mayL (getD st).1 = false) : dcS (.ok l, st) = (.error 4, (getD st).2) := by
  unfold dcS; simp only; rw [if_neg (by simp [h0]), if_neg (by simp [hm])]
theorem dcS_fail {l : List Dl} {st : PSt} (h0 : (getD st).2.2 ≠ 0) : dcS (.ok l, st) = (.error (getD st).2.2, (getD st).2) := by
  unfold dcS; simp only; rw [if_pos h0]
theorem step_bad {l : List Dl} {st : PSt} (h : (getO (getC st)).2 ≠ 0) : dcS (.ok l, st) = (.error (getO (getC st)).2, (getC st).2) := by
  obtain ⟨e1, e2⟩ := getC_is (st := st)
  by_cases hz : (getD st).2.2 = 0
  · rw [e2 hz] at h ⊢
    cases hm : mayL (getD st).1 with
    | true => rw [getO_good hz hm] at h; exact absurd rfl h
    | false => rw [getO_form hz hm, dcS_form hz hm]
  · rw [dcS_fail hz, getO_fail (by rw [e1]; exact hz), e1]
theorem step_ok {l : List Dl} {st : PSt} (h : (getO (getC st)).2 = 0) : dcS (.ok l, st) = (.ok (l ++ [(getO (getC st)).1]), (getC st).2) := by
  obtain ⟨e1, e2⟩ := getC_is (st := st)
  by_cases hz : (getD st).2.2 = 0
  · rw [e2 hz] at h ⊢
    cases hm : mayL (getD st).1 with
    | true => rw [getO_good hz hm, dcS_good hz hm]
    | false => rw [getO_form hz hm] at h; cases h
  · rw [getO_fail (by rw [e1]; exact hz), e1] at h; exact absurd h hz
theorem EyL.endd {w wr : World} {B p : Nat} {v : Value} {st : PSt} (h : EyL w wr B p v st) : Calls Try.prog 135 #[.pointer (some ⟨p, 0, none⟩)] wr fun e w' => e = .returned (.int .i64 (endOf st.1 st.2)) ∧ wr = w' := by
  obtain ⟨v2, he, _⟩ := h
  exact end_any wr B p v2 st.1 st.2 he
theorem numE_lowB {st : PSt} (hr : ∀ z ∈ st.1, 0 ≤ z ∧ z ≤ 255) (n : Int) : 0 ≤ (numE n st).1 := by
  unfold numE after rdNum
  by_cases h1 : st.2 ≠ 0
  · rw [if_pos h1]; exact Int.le_refl _
  · rw [if_neg h1]
    split
    · exact Int.le_refl _
    · rename_i x rest heq
      split at heq
      · cases heq
      · split at heq
        · cases heq
        · injection heq with heq
          injection heq with e1 e2
          show 0 ≤ x
          rw [← e1]
          exact (val_bound _ (st.1.take n.toNat) rfl (fun z hz => hr z (List.mem_of_mem_take hz))).1
def DecPost (w : World) (r : List Dl × Int) (e : Ending) (w' : World) : Prop :=
  ∃ v, e = .returned (.tuple #[v, .int .i64 r.2]) ∧ DlsAt w' v r.1 ∧ Keeps [] w w'
theorem dls_nil (w : World) : DlsAt w (.slice none 0 0) [] := ⟨none, 0, rfl, by simp, by simp, fun _ => rfl, fun h => absurd rfl h⟩

end Go.Proofs.Ytoglcohdanpciaa
