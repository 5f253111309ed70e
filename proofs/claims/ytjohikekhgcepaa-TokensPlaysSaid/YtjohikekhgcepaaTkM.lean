/- tokens: the plain mathematics: rows that may be together. -/
import Derived.Test.YtjohikekhgcepaaTkJ
namespace Go.Proofs.Ytjohikekhgcepaa
open Go.RowKit Go.Shelf
set_option maxRecDepth 100000
set_option linter.unusedSimpArgs false

def okPair (x y : Rk) : Prop := aheadK x y = true ∧ clashK x y = false
structure GoodK (rs : List Rk) : Prop where
  pw : rs.Pairwise okPair
  may : ∀ x ∈ rs, mayK x = true
theorem GoodK.nil : GoodK [] := ⟨List.Pairwise.nil, by simp⟩
theorem GoodK.filter {rs : List Rk} (h : GoodK rs) (p : Rk → Bool) : GoodK (rs.filter p) :=
  ⟨h.pw.sublist List.filter_sublist, fun x hx => h.may x (List.mem_filter.1 hx).1⟩
theorem clashK_comm (x y : Rk) : clashK x y = clashK y x := by
  unfold clashK
  rw [Bool.or_comm, show decide (x.n = y.n) = decide (y.n = x.n) by rw [Bool.eq_iff_iff]; simp [eq_comm]]
theorem aheadK_is {x y : Rk} : aheadK x y = true ↔ x.c < y.c ∨ (x.c = y.c ∧ x.h < y.h) := by simp [aheadK]
theorem atK_is {c h : Int} {x : Rk} : atK c h x = true ↔ c = x.c ∧ h = x.h := by simp [atK]
theorem ahead_trans {x y z : Rk} (h1 : aheadK x y = true) (h2 : aheadK y z = true) : aheadK x z = true := by
  rw [aheadK_is] at *
  omega
theorem ahead_total {x y : Rk} (h1 : aheadK x y = false) (h2 : atK x.c x.h y = false) : aheadK y x = true := by
  rw [aheadK_is]
  have h1' : ¬ (x.c < y.c ∨ (x.c = y.c ∧ x.h < y.h)) := fun h => by rw [aheadK_is.2 h] at h1; cases h1
  have h2' : ¬ (x.c = y.c ∧ x.h = y.h) := fun h => by rw [atK_is.2 h] at h2; cases h2
  omega
/-- The new row stands rightly. -/
theorem GoodK.ins {rs : List Rk} (h : GoodK rs) (r : Rk) (hm : mayK r = true) (hc : rs.any (clashK r) = false) (ha : rs.any (atK r.c r.h) = false) : GoodK (insK r rs) := by
  have hc' : ∀ x ∈ rs, clashK r x = false := fun x hx => by
    cases e : clashK r x with
    | false => rfl
    | true => rw [List.any_eq_true.2 ⟨x, hx, e⟩] at hc; cases hc
  have ha' : ∀ x ∈ rs, atK r.c r.h x = false := fun x hx => by
    cases e : atK r.c r.h x with
    | false => rfl
    | true => rw [List.any_eq_true.2 ⟨x, hx, e⟩] at ha; cases ha
  have hpos : (∀ x ∈ rs.take (posK r rs), aheadK r x = false) ∧ (∀ x ∈ rs.drop (posK r rs), aheadK r x = true) := by
    unfold posK
    cases hf : rs.findIdx? (aheadK r) with
    | none =>
      rw [List.findIdx?_eq_none_iff] at hf
      simp only [Option.getD_none, List.take_length, List.drop_length]
      exact ⟨hf, by simp⟩
    | some i =>
      rw [List.findIdx?_eq_some_iff_getElem] at hf
      obtain ⟨hi, h1, h2⟩ := hf
      simp only [Option.getD_some]
      refine ⟨fun x hx => ?_, fun x hx => ?_⟩
      · obtain ⟨j, hj, rfl⟩ := List.mem_iff_getElem.1 hx
        rw [List.length_take] at hj
        rw [List.getElem_take]
        simpa using h2 j (by omega)
      · obtain ⟨j, hj, rfl⟩ := List.mem_iff_getElem.1 hx
        rw [List.length_drop] at hj
        rw [List.getElem_drop]
        cases j with
        | zero => simpa using h1
        | succ j => exact ahead_trans h1 ((List.pairwise_iff_getElem.1 h.pw) i (i + (j + 1)) hi (by omega) (by omega)).1
  have ht : ∀ x ∈ rs.take (posK r rs), x ∈ rs := fun x hx => List.mem_of_mem_take hx
  have hd : ∀ x ∈ rs.drop (posK r rs), x ∈ rs := fun x hx => List.mem_of_mem_drop hx
  constructor
  · unfold insK
    rw [List.append_assoc, List.pairwise_append]
    refine ⟨h.pw.sublist (List.take_sublist _ _), ?_, ?_⟩
    · rw [List.singleton_append, List.pairwise_cons]
      exact ⟨fun x hx => ⟨hpos.2 x hx, hc' x (hd x hx)⟩, h.pw.sublist (List.drop_sublist _ _)⟩
    · intro x hx y hy
      rcases List.mem_append.1 hy with hy | hy
      · obtain rfl := List.mem_singleton.1 hy
        exact ⟨ahead_total (hpos.1 x hx) (ha' x (ht x hx)), by rw [clashK_comm]; exact hc' x (ht x hx)⟩
      · have := h.pw
        rw [← List.take_append_drop (posK r rs) rs, List.pairwise_append] at this
        exact this.2.2 x hx y hy
  · intro x hx
    unfold insK at hx
    rcases List.mem_append.1 hx with hx | hx
    · rcases List.mem_append.1 hx with hx | hx
      · exact h.may x (ht x hx)
      · obtain rfl := List.mem_singleton.1 hx
        exact hm
    · exact h.may x (hd x hx)
theorem mayK_h {c h n : Int} {b : Bool} (hm : mayK ⟨c, 0, n, b⟩ = true) (hh : 0 ≤ h ∧ h ≤ 3) : mayK ⟨c, h, n, b⟩ = true := by
  unfold mayK at *
  simp only [Bool.and_eq_true, btwK_is] at *
  omega
theorem leastK_is {rs : List Rk} {c : Int} {k : Nat} (h : leastK rs c = some k) : k < 4 ∧ rs.any (atK c (k : Int)) = false := by
  unfold leastK at h
  have h1 := List.find?_some h
  have h2 := List.mem_of_find?_eq_some h
  rw [List.mem_range] at h2
  exact ⟨h2, by simpa using h1⟩
theorem GoodK.open {rs : List Rk} (h : GoodK rs) (c n : Int) (b : Bool) : GoodK (openK rs c n b).2 := by
  unfold openK
  by_cases hm : mayK ⟨c, 0, n, b⟩ = true
  · rw [if_pos hm]
    cases hl : leastK rs c with
    | none => exact h
    | some k =>
      obtain ⟨k4, hk⟩ := leastK_is hl
      simp only
      by_cases hc : rs.any (clashK ⟨c, (k : Int), n, b⟩) = true
      · rw [if_pos hc]; exact h
      · rw [if_neg hc]
        exact h.ins _ (mayK_h hm (by omega)) (by simpa using hc) hk
  · rw [if_neg hm]; exact h
theorem openK_len (rs : List Rk) (c n : Int) (b : Bool) : (openK rs c n b).2.length ≤ rs.length + 1 := by
  unfold openK
  split
  · split
    · simp
    · split
      · simp
      · simp only [insK_len]; omega
  · simp
/-- Rising handles from k to 3. -/
theorem rise_len : ∀ (l : List Int) (k : Int), l.Pairwise (· < ·) → (∀ x ∈ l, k ≤ x ∧ x ≤ 3) → k ≤ 4 → (l.length : Int) + k ≤ 4
  | [], k, _, _, hk => by simpa using hk
  | x :: l, k, hp, hb, hk => by
    rw [List.pairwise_cons] at hp
    have hx := hb x (by simp)
    have := rise_len l (k + 1) hp.2 (fun y hy => by have := hp.1 y hy; have := hb y (by simp [hy]); omega) (by omega)
    simp only [List.length_cons]
    omega
/-- How many of the first b have a client. -/
def mineK (rs : List Rk) (c : Int) (b : Nat) : Nat := ((rs.take b).filter (sameCl c)).length
theorem GoodK.mine {rs : List Rk} (h : GoodK rs) (c : Int) (b : Nat) : mineK rs c b ≤ 4 := by
  have h2 : GoodK ((rs.take b).filter (sameCl c)) := (GoodK.filter ⟨h.pw.sublist (List.take_sublist _ _), fun x hx => h.may x (List.mem_of_mem_take hx)⟩ _)
  have e : mineK rs c b = (((rs.take b).filter (sameCl c)).map (·.h)).length := by simp [mineK]
  have hs : ∀ x ∈ (rs.take b).filter (sameCl c), x.c = c := fun x hx => by
    have := (List.mem_filter.1 hx).2
    simpa [sameCl] using this
  have := rise_len (((rs.take b).filter (sameCl c)).map (·.h)) 0 (by
    rw [List.pairwise_map]
    refine h2.pw.imp_of_mem fun {x y} hx hy hxy => ?_
    have h1 := aheadK_is.1 hxy.1
    have := hs x hx
    have := hs y hy
    omega) (fun z hz => by
    obtain ⟨x, hx, rfl⟩ := List.mem_map.1 hz
    have := h2.may x hx
    unfold mayK at this
    simp only [Bool.and_eq_true, btwK_is] at this
    omega) (by omega)
  omega
theorem mineK_succ {rs : List Rk} {c : Int} {b : Nat} (hb : b < rs.length) : mineK rs c (b + 1) = mineK rs c b + if rs[b].c = c then 1 else 0 := by
  unfold mineK
  rw [List.take_succ_eq_append_getElem hb, List.filter_append, List.length_append]
  congr 1
  by_cases h : rs[b].c = c <;> simp [sameCl, h]
theorem GoodK.apart {rs : List Rk} (h : GoodK rs) {i j : Nat} (hi : i < rs.length) (hj : j < rs.length) (hij : i ≠ j) : (rs[i].c = rs[j].c → rs[i].h ≠ rs[j].h) ∧ (rs[i].n = rs[j].n → rs[i].b = false ∧ rs[j].b = false) := by
  have key : ∀ {a b : Nat} (ha : a < rs.length) (hb : b < rs.length), a < b → (rs[a].c = rs[b].c → rs[a].h ≠ rs[b].h) ∧ (rs[a].n = rs[b].n → rs[a].b = false ∧ rs[b].b = false) := by
    intro a b ha hb hab
    obtain ⟨h1, h2⟩ := List.pairwise_iff_getElem.1 h.pw a b ha hb hab
    rw [aheadK_is] at h1
    refine ⟨fun e => by omega, fun e => ?_⟩
    unfold clashK at h2
    simp [e] at h2
    exact h2
  rcases Nat.lt_or_gt_of_ne hij with h1 | h1
  · exact key hi hj h1
  · obtain ⟨a, b⟩ := key hj hi h1
    exact ⟨fun e e2 => a e.symm e2.symm, fun e => ⟨(b e.symm).2, (b e.symm).1⟩⟩
end Go.Proofs.Ytjohikekhgcepaa
