/- once: rows that are loaded again make the same table. -/
import Derived.Test.YtkfebgbgnpdgpaaOnK
namespace Go.Proofs.Ytkfebgbgnpdgpaa
open Go.RowKit

abbrev Cn := Int × Int × Int × List Int
def stepP (st : Int × Tab) (x : Cn) : Option (Int × Tab) := if mayS x.1 x.2.1 x.2.2.1 = true ∧ st.1 < x.1 then some (x.1, st.2.put x.1.toNat (x.2.1, x.2.2.1, x.2.2.2)) else none
def loadP : Int × Tab → List Cn → Option (Int × Tab)
  | st, [] => some st
  | st, x :: xs => match stepP st x with
    | some st' => loadP st' xs
    | none => none
theorem loadP_snoc : ∀ (xs : List Cn) (st : Int × Tab) (x : Cn), loadP st (xs ++ [x]) = (loadP st xs).bind fun s => stepP s x
  | [], st, x => by
    simp only [List.nil_append, loadP, Option.bind_some]
    cases stepP st x <;> rfl
  | y :: ys, st, x => by
    simp only [List.cons_append, loadP]
    cases h : stepP st y with
    | none => rfl
    | some s => exact loadP_snoc ys s x
theorem loadF_is : ∀ (rs : List Rw) (last : Int) (T : Tab), loadF last T rs = (loadP (last, T) (rs.map Rw.con)).map (·.2)
  | [], _, _ => rfl
  | r :: rs, last, T => by
    simp only [loadF, List.map_cons, loadP, stepP, Rw.con]
    by_cases h : mayS r.c r.l r.s = true ∧ last < r.c
    · rw [if_pos h, if_pos h]
      exact loadF_is rs r.c _
    · rw [if_neg h, if_neg h]
      rfl

def TabOk (T : Tab) : Prop := ∀ k l s b, k < 4 → T k = some (l, s, b) → mayS k l s = true
theorem WinF.tab {w : World} {p : Nat} {M : List Nat} {T : Tab} (h : WinF w p M T) : TabOk T := by
  obtain ⟨⟨R, hR⟩, _⟩ := h
  intro k l s b hk e
  have r := hR.row k hk
  rw [e] at r
  obtain ⟨h1, h2, h3, h4, h5, _⟩ := r
  rw [h1, h2, h3] at h5
  exact h5

def cutT (T : Tab) (n : Nat) : Tab := fun k => if k < n then T k else none
theorem cutT_none {T : Tab} {n : Nat} (h : T n = none) : cutT T (n + 1) = cutT T n := by
  funext k
  unfold cutT
  by_cases hk : k < n
  · rw [if_pos hk, if_pos (by omega)]
  · rw [if_neg hk]
    by_cases hn : k = n
    · subst hn; rw [if_pos (by omega), h]
    · rw [if_neg (by omega)]
theorem cutT_some {T : Tab} {n : Nat} {e : Int × Int × List Int} (h : T n = some e) : (cutT T n).put n e = cutT T (n + 1) := by
  funext k
  simp only [cutT, Tab.put]
  by_cases hn : k = n
  · subst hn; simp [h]
  · have : (k < n + 1) = (k < n) := by rw [eq_iff_iff]; omega
    simp [hn, this]
theorem load_refLk {T : Tab} (h : TabOk T) : ∀ n : Nat, n ≤ 4 → ∃ last : Int, last < n ∧ loadP (-1, tab0) (refLk T n) = some (last, cutT T n)
  | 0, _ => ⟨-1, by decide, by
    have : cutT T 0 = tab0 := by funext k; simp [cutT, tab0]
    rw [this]; rfl⟩
  | n + 1, hn => by
    obtain ⟨last, hl, hp⟩ := load_refLk h n (by omega)
    rw [refLk_succ]
    cases hT : T n with
    | none => exact ⟨last, by omega, by rw [cutT_none hT]; simpa [entryT, hT] using hp⟩
    | some e =>
      obtain ⟨l, s, b⟩ := e
      refine ⟨n, by omega, ?_⟩
      have hm := h n l s b (by omega) hT
      simp only [entryT, hT, Option.map_some, Option.toList_some]
      rw [loadP_snoc, hp]
      simp only [Option.bind_some, stepP]
      rw [if_pos ⟨hm, hl⟩]
      simp only [Int.toNat_natCast]
      rw [cutT_some hT]
theorem refL_cut (T : Tab) : refL (cutT T 4) = refL T := by
  simp [refL, refLk, List.range, List.range.loop, entryT, cutT, List.filterMap_cons]
/-- Rows of a window are loaded. -/
theorem load_rows {T : Tab} (h : TabOk T) {rs : List Rw} (hr : rs.map Rw.con = refL T) : loadF (-1) tab0 rs = some (cutT T 4) := by
  obtain ⟨last, _, hp⟩ := load_refLk h 4 (by omega)
  rw [loadF_is, hr]
  unfold refL
  rw [hp]
  rfl

theorem refL_put {T : Tab} {c : Nat} (hc : c < 4) (hn : ∀ k, c ≤ k → T k = none) (e : Int × Int × List Int) : refL (T.put c e) = refL T ++ [((c : Int), e.1, e.2.1, e.2.2)] := by
  have h0 := hn c (Nat.le_refl _)
  match c, hc with
  | 0, _ => simp [refL, refLk, List.range, List.range.loop, entryT, Tab.put, hn 0 (by omega), hn 1 (by omega), hn 2 (by omega), hn 3 (by omega)]
  | 1, _ => cases h : T 0 <;> simp [refL, refLk, List.range, List.range.loop, entryT, Tab.put, h, hn 1 (by omega), hn 2 (by omega), hn 3 (by omega)]
  | 2, _ => cases h : T 0 <;> cases h1 : T 1 <;> simp [refL, refLk, List.range, List.range.loop, entryT, Tab.put, h, h1, hn 2 (by omega), hn 3 (by omega)]
  | 3, _ => cases h : T 0 <;> cases h1 : T 1 <;> cases h2 : T 2 <;> simp [refL, refLk, List.range, List.range.loop, entryT, Tab.put, h, h1, h2, hn 3 (by omega)]
theorem snoc_ind {α : Type} {P : List α → Prop} (h0 : P []) (h1 : ∀ xs x, P xs → P (xs ++ [x])) (xs : List α) : P xs := by
  have key : ∀ ys : List α, P ys.reverse := fun ys => by
    induction ys with
    | nil => exact h0
    | cons y ys ih => rw [List.reverse_cons]; exact h1 _ _ ih
  have := key xs.reverse
  rwa [List.reverse_reverse] at this
/-- What was loaded tells the rows. -/
theorem loadP_refL (xs : List Cn) : ∀ last T, loadP (-1, tab0) xs = some (last, T) → refL T = xs ∧ ∀ k : Nat, last < k → T k = none := by
  refine snoc_ind (P := fun xs => ∀ (last : Int) (T : Tab), loadP (-1, tab0) xs = some (last, T) → refL T = xs ∧ ∀ k : Nat, last < k → T k = none) ?_ ?_ xs
  · intro last T h
    simp only [loadP, Option.some.injEq, Prod.mk.injEq] at h
    obtain ⟨rfl, rfl⟩ := h
    exact ⟨rfl, fun k _ => rfl⟩
  · intro xs x ih last T h
    rw [loadP_snoc] at h
    cases hq : loadP (-1, tab0) xs with
    | none => rw [hq] at h; cases h
    | some st =>
      obtain ⟨l0, T0⟩ := st
      rw [hq] at h
      obtain ⟨h1, h2⟩ := ih l0 T0 hq
      simp only [Option.bind_some, stepP] at h
      by_cases hm : mayS x.1 x.2.1 x.2.2.1 = true ∧ l0 < x.1
      · rw [if_pos hm] at h
        simp only [Option.some.injEq, Prod.mk.injEq] at h
        obtain ⟨rfl, rfl⟩ := h
        obtain ⟨q1, q2, _⟩ := mayS_is.1 hm.1
        refine ⟨?_, fun k hk => ?_⟩
        · rw [refL_put (by omega) (fun k hk => h2 k (by omega)), h1]
          rw [show ((x.1.toNat : Nat) : Int) = x.1 by omega]
        · unfold Tab.put
          rw [if_neg (by omega)]
          exact h2 k (by omega)
      · rw [if_neg hm] at h
        cases h
theorem load_refL {rs : List Rw} {T : Tab} (h : loadF (-1) tab0 rs = some T) : refL T = rs.map Rw.con := by
  rw [loadF_is] at h
  cases hq : loadP (-1, tab0) (rs.map Rw.con) with
  | none => rw [hq] at h; cases h
  | some st =>
    obtain ⟨l0, T0⟩ := st
    rw [hq] at h
    simp only [Option.map_some, Option.some.injEq] at h
    subst h
    exact (loadP_refL _ _ _ hq).1
end Go.Proofs.Ytkfebgbgnpdgpaa
