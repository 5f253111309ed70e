/- There and back: what a row of deeds wrote, read again (plain facts). -/
import Derived.Test.YtfkafelidkcinaaEff
namespace Go.Proofs.Ytfkafelidkcinaa
open Go.RowKit

def effOf (d : Dd) : List Int := match eff d with
  | .ok t => t
  | .error _ => []
def effs (ds : List Dd) : List Int := ds.flatMap effOf
def EffOk (d : Dd) : Prop := ∃ t, eff d = .ok t

theorem effs_drop {ds : List Dd} {k : Nat} (h : k < ds.length) : effs (ds.drop k) = effOf ds[k] ++ effs (ds.drop (k + 1)) := by
  unfold effs
  rw [List.drop_eq_getElem_cons h, List.flatMap_cons]

theorem effs_good (ds : List Dd) : ∀ (x : List Int), (ds.foldl deedW (x, 0)).2 = 0 → (ds.foldl deedW (x, 0)).1 = x ++ effs ds ∧ ∀ d ∈ ds, EffOk d := by
  induction ds with
  | nil => intro x _; simp [effs]
  | cons d ds ih =>
    intro x h
    rw [List.foldl_cons, deedW_eff] at h ⊢
    cases he : eff d with
    | error e =>
      rw [he] at h
      simp only [put] at h
      rw [deeds_fail ds (s := ([], e)) (eff_error he)] at h
      exact absurd h (eff_error he)
    | ok t =>
      rw [he] at h
      simp only [put] at h ⊢
      unfold penAdd at h ⊢
      simp only [ne_eq, not_true_eq_false, if_false] at h ⊢
      by_cases h1 : 65536 < x.length + t.length
      · rw [if_pos h1] at h
        rw [deeds_fail ds (s := ([], 3)) (by decide)] at h
        exact absurd h (by decide)
      · rw [if_neg h1] at h ⊢
        obtain ⟨q1, q2⟩ := ih _ h
        refine ⟨?_, ?_⟩
        · rw [q1]
          simp [effs, effOf, he]
        · intro d' hd'
          rcases List.mem_cons.1 hd' with rfl | hd'
          · exact ⟨t, he⟩
          · exact q2 d' hd'

theorem eff_num {d : Dd} (h : EffOk d) (h1 : d.act ≤ 1) : effOf d = be d.x d.n.toNat ∧ 1 ≤ d.n ∧ d.n ≤ 7 ∧ 0 ≤ d.x ∧ d.x < 256 ^ d.n.toNat := by
  obtain ⟨t, he⟩ := h
  unfold effOf
  unfold eff at he ⊢
  rw [if_pos h1] at he ⊢
  by_cases hc : 1 ≤ d.n ∧ d.n ≤ 7 ∧ 0 ≤ d.x ∧ d.x / 2 ^ (8 * d.n.toNat) = 0
  · rw [if_pos hc]
    refine ⟨rfl, hc.1, hc.2.1, hc.2.2.1, ?_⟩
    have h3 := hc.2.2.2
    rw [Int.pow_mul] at h3
    change d.x / 256 ^ d.n.toNat = 0 at h3
    have hp : (0 : Int) < 256 ^ d.n.toNat := Int.pow_pos (by omega)
    have := Int.lt_ediv_add_one_mul_self d.x hp
    rw [h3] at this
    simpa using this
  · rw [if_neg hc] at he
    cases he

theorem eff_row {d : Dd} (h : EffOk d) (h1 : ¬ d.act ≤ 1) (h2 : d.act = 2 ∨ d.act = 3) : effOf d = be d.bs.length 2 ++ d.bs ∧ d.bs.length ≤ 65535 := by
  obtain ⟨t, he⟩ := h
  unfold effOf
  have hr : eff d = effRaw d.bs := by
    unfold eff
    rw [if_neg h1]
    rcases h2 with h2 | h2
    · rw [if_pos h2]
    · rw [if_neg (by omega), if_pos h2]
  rw [hr] at he ⊢
  unfold effRaw at he ⊢
  by_cases hc : 65535 < d.bs.length
  · rw [if_pos hc] at he
    cases he
  · rw [if_neg hc]
    exact ⟨rfl, by omega⟩

theorem eff_bool {d : Dd} (h1 : ¬ d.act ≤ 1) (h2 : ¬ d.act = 2) (h3 : ¬ d.act = 3) : effOf d = [bit (odd d.x)] := by
  unfold effOf eff
  rw [if_neg h1, if_neg h2, if_neg h3]

theorem read_num {d : Dd} (h : EffOk d) (h1 : d.act ≤ 1) (rest : List Int) : rdNum d.n (effOf d ++ rest) = .ok (d.x, rest) := by
  obtain ⟨e, n1, n7, x0, xl⟩ := eff_num h h1
  rw [e]
  unfold rdNum
  rw [if_neg (by omega), if_neg (by rw [List.length_append, be_length]; omega)]
  rw [List.take_left' (be_length _ _), List.drop_left' (be_length _ _), val_be _ _ x0 xl]

theorem short_num {d : Dd} (h : EffOk d) (h1 : d.act ≤ 1) (m : Nat) (hm : m < (effOf d).length) (rest : List Int) : rdNum d.n ((effOf d ++ rest).take m) = .error 2 := by
  obtain ⟨e, n1, n7, x0, xl⟩ := eff_num h h1
  rw [e, be_length] at hm
  unfold rdNum
  rw [if_neg (by omega), if_pos (by rw [List.length_take]; omega)]

theorem read_row {d : Dd} (h : EffOk d) (h1 : ¬ d.act ≤ 1) (h2 : d.act = 2 ∨ d.act = 3) (rest : List Int) : rdCount 65535 (effOf d ++ rest) = .ok (d.bs, rest) := by
  obtain ⟨e, hl⟩ := eff_row h h1 h2
  rw [e]
  exact rdCount_ok hl (by omega)

theorem short_row {d : Dd} (h : EffOk d) (h1 : ¬ d.act ≤ 1) (h2 : d.act = 2 ∨ d.act = 3) (m : Nat) (hm : m < (effOf d).length) (rest : List Int) : rdCount 65535 ((effOf d ++ rest).take m) = .error 2 := by
  obtain ⟨e, hl⟩ := eff_row h h1 h2
  rw [List.take_append_of_le_length (by omega), e]
  rw [e, List.length_append, be_length] at hm
  unfold rdCount
  rw [if_neg (by omega)]
  by_cases h2 : m < 2
  · rw [if_pos (by rw [List.length_take]; omega)]
  · have ht : ((be d.bs.length 2 ++ d.bs).take m).take 2 = be d.bs.length 2 := by
      rw [List.take_take, Nat.min_eq_left (by omega)]
      exact List.take_left' (be_length _ _)
    have hv : val (be d.bs.length 2) = d.bs.length := val_be 2 _ (by omega) (by show (d.bs.length : Int) < 65536; omega)
    rw [if_neg (by rw [List.length_take, List.length_append, be_length]; omega), ht, hv, if_neg (by omega),
      if_pos (by rw [List.length_drop, List.length_take, List.length_append, be_length]; omega)]

theorem read_bool {d : Dd} (h1 : ¬ d.act ≤ 1) (h2 : ¬ d.act = 2) (h3 : ¬ d.act = 3) (rest : List Int) : rdBool (effOf d ++ rest) = .ok (odd d.x, rest) := by
  rw [eff_bool h1 h2 h3]
  unfold rdBool
  rw [if_neg (by simp)]
  cases odd d.x <;> simp [bit, val]

theorem short_bool {d : Dd} (h1 : ¬ d.act ≤ 1) (h2 : ¬ d.act = 2) (h3 : ¬ d.act = 3) (m : Nat) (hm : m < (effOf d).length) (rest : List Int) : rdBool ((effOf d ++ rest).take m) = .error 2 := by
  rw [eff_bool h1 h2 h3] at hm
  unfold rdBool
  rw [if_pos (by rw [List.length_take]; simp at hm; omega)]

/-- How a whole row is read on. -/
theorem after_read {α : Type} {ds : List Dd} {k : Nat} (hk : k < ds.length) {rd : List Int → Except Int (α × List Int)} {x : α} (h : ∀ rest, rd (effOf ds[k] ++ rest) = .ok (x, rest)) :
    after (effs (ds.drop k)) 0 (rd (effs (ds.drop k))) = (some x, effs (ds.drop (k + 1)), 0) := by
  rw [effs_drop hk, h]
  rfl

/-- An eye over a beginning that is too short: it has failed, or what it lacks is still ahead. -/
def Cut (ds : List Dd) (k : Nat) (s : List Int × Int) : Prop :=
  s.2 = 2 ∨ s.2 = 0 ∧ ∃ m, m < (effs (ds.drop k)).length ∧ s.1 = (effs (ds.drop k)).take m

theorem Cut.step {α : Type} {ds : List Dd} {k : Nat} {s : List Int × Int} (h : Cut ds k s) (hk : k < ds.length) {rd : List Int → Except Int (α × List Int)} {x : α}
    (hr : ∀ rest, rd (effOf ds[k] ++ rest) = .ok (x, rest)) (hs : ∀ m, m < (effOf ds[k]).length → ∀ rest, rd ((effOf ds[k] ++ rest).take m) = .error 2) :
    Cut ds (k + 1) (after s.1 s.2 (rd s.1)).2 := by
  obtain ⟨zs, bad⟩ := s
  rcases h with h | ⟨h, m, hm, e⟩
  · left
    simp only at h
    subst h
    rfl
  · simp only at h e
    subst h
    rw [effs_drop hk] at hm e
    by_cases hl : m < (effOf ds[k]).length
    · left
      subst e
      simp only
      rw [hs m hl]
      rfl
    · right
      have e2 : zs = effOf ds[k] ++ (effs (ds.drop (k + 1))).take (m - (effOf ds[k]).length) := by
        rw [e, List.take_append, List.take_of_length_le (by omega)]
      simp only
      rw [e2, hr]
      refine ⟨rfl, m - (effOf ds[k]).length, ?_, rfl⟩
      rw [List.length_append] at hm
      omega

theorem Cut.done {ds : List Dd} {s : List Int × Int} (h : Cut ds ds.length s) : s.2 = 2 := by
  rcases h with h | ⟨_, m, hm, _⟩
  · exact h
  · rw [List.drop_length] at hm
    simp [effs] at hm
end Go.Proofs.Ytfkafelidkcinaa
