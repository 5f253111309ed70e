/- Trees whose things all stand in the root: what is made and removed there. -/
import Derived.Test.YtnmiffkflnlanaaTrP
namespace Go.Proofs.Ytnmiffkflnlanaa
open Go.RowKit

structure FlatIs (T : TL) (dir : Bool) (f : Nat → Option (List UInt8)) : Prop where
  inv : InvT T
  find : ∀ n, findT T n = (f n).map fun s => ⟨n, 1, s, dir⟩
def updF (f : Nat → Option (List UInt8)) (n : Nat) (v : Option (List UInt8)) : Nat → Option (List UInt8) := fun m => if m = n then v else f m

theorem FlatIs.nil (dir : Bool) : FlatIs [] dir fun _ => none := ⟨InvT.nil, fun _ => rfl⟩
section
variable {T : TL} {dir : Bool} {f : Nat → Option (List UInt8)}
theorem FlatIs.has (h : FlatIs T dir f) (n : Nat) : hasT T n = (n == 1 || (f n).isSome) := by
  unfold hasT
  rw [h.find]
  cases f n <;> rfl
theorem FlatIs.kid_none (h : FlatIs T dir f) {s : List UInt8} (hs : ∀ n, f n ≠ some s) : kidT T 1 s = 0 := by
  rw [kidT_zero h.inv]
  intro x hx _ e
  have hf := (findT_some h.inv).2 ⟨hx, rfl⟩
  rw [h.find] at hf
  cases hq : f x.ino with
  | none => rw [hq] at hf; cases hf
  | some u =>
    rw [hq] at hf
    simp at hf
    have : x.nm = u := by rw [← hf]
    exact hs x.ino (by rw [hq, ← this, e])
theorem FlatIs.kid_some (h : FlatIs T dir f) {s : List UInt8} {n : Nat} (hn : f n = some s) : kidT T 1 s = n := by
  have hf := h.find n
  rw [hn] at hf
  obtain ⟨hm, _⟩ := (findT_some h.inv).1 hf
  have := kidT_some h.inv hm
  exact this
theorem FlatIs.no_kids (h : FlatIs T dir f) {n : Nat} (hn : n ≠ 1) : hasKid T n = false := by
  unfold hasKid
  rw [List.any_eq_false]
  intro x hx
  have hf := (findT_some h.inv).2 ⟨hx, rfl⟩
  rw [h.find] at hf
  cases hq : f x.ino with
  | none => rw [hq] at hf; cases hf
  | some u =>
    rw [hq] at hf
    simp at hf
    have : x.up = 1 := by rw [← hf]
    simp [this]
    omega
theorem split_one {s : List UInt8} (h : mayN s = true) : splitN (47 :: s) = some [s] := by
  have := split_join (l := [s]) (by simpa using h) (by simp)
  simpa [joinN, joinR] using this
theorem FlatIs.spot (h : FlatIs T dir f) {s : List UInt8} (hm : mayN s = true) (hs : ∀ n, f n ≠ some s) : spotT T (47 :: s) = (1, s, 0) := by
  have e := spotT_some h.inv (split_one hm) (by simp)
  have hk := hangX_T h.inv s (one_has T)
  rw [h.kid_none hs] at hk
  have hd : isDirT T 1 = true := by simp [isDirT]
  rw [hd] at hk
  simp only [if_true] at hk
  rw [e]
  simp only [List.dropLast_singleton, walkT, List.getLastD_cons, List.getLastD_nil, if_true]
  rw [hk]
  simp
theorem FlatIs.make (h : FlatIs T dir f) {s : List UInt8} (hm : mayN s = true) (hs : ∀ n, f n ≠ some s) {n : Nat} (h2 : 2 ≤ n) (h128 : n ≤ 128) (hn : f n = none) (hall : ∀ m, 2 ≤ m → m < n → f m ≠ none) :
    ∃ T', makeT T (47 :: s) dir = (T', n, 0) ∧ FlatIs T' dir (updF f n (some s)) := by
  have hsp := h.spot hm hs
  have hl : leastT T = some n := by
    refine least_some (by omega) h128 ?_ fun m h1 h3 => ?_
    · rw [h.has, hn]
      simp
      omega
    · rw [h.has]
      by_cases e : m = 1
      · simp [e]
      · have := hall m (by omega) h3
        cases hq : f m with
        | none => exact absurd hq this
        | some u => simp
  have hx : ∀ z ∈ T, z.ino ≠ n := by
    have := h.find n
    rw [hn] at this
    exact findT_none.1 this
  have J : InvT (insT T ⟨n, 1, s, dir⟩) := h.inv.ins (x := ⟨n, 1, s, dir⟩) hx ⟨h2, h128⟩ (by simp [isDirT]) hm (h.kid_none hs)
  refine ⟨insT T ⟨n, 1, s, dir⟩, ?_, J, fun m => ?_⟩
  · have h0 : (spotT T (47 :: s)).2.2 = 0 := by rw [hsp]
    rw [makeT_yes h0 hl, hsp]
  · rw [find_ins h.inv (x := ⟨n, 1, s, dir⟩) hx]
    unfold updF
    by_cases e : m = n
    · simp [e]
    · simp [e, h.find]
theorem FlatIs.full (h : FlatIs T dir f) {s : List UInt8} (hm : mayN s = true) (hs : ∀ n, f n ≠ some s) (hall : ∀ m, 2 ≤ m → m < 129 → f m ≠ none) : makeT T (47 :: s) dir = (T, 0, 5) := by
  have hsp := h.spot hm hs
  have h0 : (spotT T (47 :: s)).2.2 = 0 := by rw [hsp]
  refine makeT_full h0 (least_none fun m h1 h3 => ?_)
  rw [h.has]
  by_cases e : m = 1
  · simp [e]
  · have := hall m (by omega) h3
    cases hq : f m with
    | none => exact absurd hq this
    | some u => simp
theorem FlatIs.remove (h : FlatIs T dir f) {s : List UInt8} (hm : mayN s = true) {n : Nat} (h1 : n ≠ 1) (h0 : n ≠ 0) (hn : f n = some s) : ∃ T', removeT T (47 :: s) dir = (T', n, 0) ∧ FlatIs T' dir (updF f n none) := by
  have hk := h.kid_some hn
  have hf := h.find n
  rw [hn] at hf
  have hd : isDirT T n = dir := by
    unfold isDirT
    rw [hf]
    simp [h1]
  have hl : lookT T (47 :: s) = (n, dir, 0) := by
    have hd1 : isDirT T 1 = true := by simp [isDirT]
    simp [lookT, split_one hm, walkT, hd1, hk, h0, hd]
  have hnk := h.no_kids h1
  refine ⟨delT T n, ?_, h.inv.del hnk, fun m => ?_⟩
  · unfold removeT
    rw [hl]
    simp only [ne_eq, not_true_eq_false, if_false, if_neg h1, hnk]
    cases dir <;> simp
  · rw [find_del h.inv]
    unfold updF
    by_cases e : m = n
    · simp [e]
    · simp [e, h.find]
theorem FlatIs.gone (h : FlatIs T dir f) {s : List UInt8} (hm : mayN s = true) (hs : ∀ n, f n ≠ some s) (d : Bool) : removeT T (47 :: s) d = (T, 0, 6) := by
  have hk := h.kid_none hs
  have hl : lookT T (47 :: s) = (0, false, 6) := by
    have hd1 : isDirT T 1 = true := by simp [isDirT]
    simp [lookT, split_one hm, walkT, hd1, hk]
  unfold removeT
  rw [hl]
  simp
end

/-! The labels. -/
def decL (l : List UInt8) : Nat := l.foldl (fun a c => a * 10 + (c.toNat - 97)) 0
theorem lab_dec : ∀ i, i < 129 → decL (labN i 3) = i := by decide
theorem lab_may : ∀ i, i < 129 → mayN (labN i 3) = true ∧ mayN (121 :: labN i 3) = true := by decide
theorem lab_inj {i j : Nat} (hi : i < 129) (hj : j < 129) (h : labN i 3 = labN j 3) : i = j := by
  rw [← lab_dec i hi, h, lab_dec j hj]
theorem lab_ne (i : Nat) (l : List UInt8) (j : Nat) (h : l = 121 :: labN j 3) : labN i 3 ≠ l := fun e => by
  have := congrArg List.length e
  rw [h, List.length_cons, labN_len, labN_len] at this
  omega
/-- What is where: those below k are made anew where they were free. -/
def fullF (n : Nat) : Nat → Option (List UInt8) := fun i => if 2 ≤ i ∧ i < n then some (labN i 3) else none
def holeF (fr : Nat → Bool) (n : Nat) : Nat → Option (List UInt8) := fun i => if 2 ≤ i ∧ i < 129 then (if fr i = true then (if i < n then some (121 :: labN i 3) else none) else some (labN i 3)) else none
theorem fullF_succ (n : Nat) (h : 2 ≤ n) : updF (fullF n) n (some (labN n 3)) = fullF (n + 1) := by
  funext i
  unfold updF fullF
  by_cases e : i = n
  · simp [e, h]
  · by_cases e2 : 2 ≤ i ∧ i < n
    · rw [if_neg e, if_pos e2, if_pos (by omega)]
    · rw [if_neg e, if_neg e2, if_neg (by omega)]
theorem fullF_hole : fullF 129 = holeF (fun _ => false) 0 := by
  funext i
  simp [fullF, holeF]
theorem holeF_rem {fr : Nat → Bool} {k : Nat} : updF (holeF fr 0) k none = holeF (fun i => if i = k then true else fr i) 0 := by
  funext i
  unfold updF holeF
  by_cases e : i = k
  · simp [e]
  · simp [e]
theorem holeF_add {fr : Nat → Bool} {k : Nat} (h2 : 2 ≤ k) (h : k < 129) (hf : fr k = true) : updF (holeF fr k) k (some (121 :: labN k 3)) = holeF fr (k + 1) := by
  funext i
  unfold updF holeF
  by_cases e : i = k
  · simp [e, h2, h, hf]
  · rw [if_neg e]
    by_cases e2 : i < k
    · have : i < k + 1 := by omega
      simp [e2, this]
    · have : ¬ i < k + 1 := by omega
      simp [e2, this]
theorem holeF_skip {fr : Nat → Bool} {k : Nat} (hf : fr k = false) : holeF fr k = holeF fr (k + 1) := by
  funext i
  unfold holeF
  by_cases e : i = k
  · simp [e, hf]
  · by_cases e2 : i < k
    · have : i < k + 1 := by omega
      simp [e2, this]
    · have : ¬ i < k + 1 := by omega
      simp [e2, this]
theorem fullF_ne {n k : Nat} (hk : k < 129) (hn : n ≤ k) : ∀ i, fullF n i ≠ some (labN k 3) := fun i h => by
  unfold fullF at h
  split at h
  · rename_i c
    have := lab_inj (by omega) hk (Option.some.inj h)
    omega
  · cases h
theorem fullF_x (n : Nat) (s : List UInt8) (hs : s.length ≠ 3) : ∀ i, fullF n i ≠ some s := fun i h => by
  unfold fullF at h
  split at h
  · have := congrArg List.length (Option.some.inj h)
    rw [labN_len] at this
    omega
  · cases h
theorem holeF_free {fr : Nat → Bool} {k : Nat} (hk : k < 129) (hf : fr k = true) : ∀ i, holeF fr 0 i ≠ some (labN k 3) := fun i h => by
  unfold holeF at h
  split at h
  · rename_i c
    split at h
    · rw [if_neg (by omega)] at h; cases h
    · rename_i c2
      have := lab_inj (by omega) hk (Option.some.inj h)
      rw [this] at c2
      exact c2 hf
  · cases h
theorem holeF_held {fr : Nat → Bool} {k : Nat} (h2 : 2 ≤ k) (hk : k < 129) (hf : fr k = false) : holeF fr 0 k = some (labN k 3) := by simp [holeF, h2, hk, hf]
theorem holeF_y {fr : Nat → Bool} {k : Nat} (hk : k < 129) : ∀ i, holeF fr k i ≠ some (121 :: labN k 3) := fun i h => by
  unfold holeF at h
  split at h
  · rename_i c
    split at h
    · split at h
      · rename_i c3
        have h2 := Option.some.inj h
        have := lab_inj (by omega) hk (List.cons.inj h2).2
        omega
      · cases h
    · exact lab_ne i _ k rfl (Option.some.inj h)
  · cases h
end Go.Proofs.Ytnmiffkflnlanaa
