/- How a slice of rows is read. -/
import Derived.Test.YtoglcohdanpciaaPyIter
import Derived.Test.YtoglcohdanpciaaOpenC
namespace Go.Proofs.Ytoglcohdanpciaa
open Go.ChangeShapes Go.WideShapes Go.ChangeAt Go.RowKit
set_option maxRecDepth 100000

section
variable {H : Type} {enc : TypeId × Value → H}

theorem bytes_row : Try.prog.bytesOf 34 = 24 := by kernel_rfl

theorem rows_of_trod {W : World} {fuel : Nat} {cs : List Value} {x : DataW H × List MemPlace} (h : DataW.trod enc Try.prog W 0 (fun _ => true) true fuel 26 cs = some x)
    (hs : ∀ n ∈ x.1.weights Try.prog 26, n ≤ reachBytes) : ∃ (v : Value) (rs : List (El W)), cs = [v] ∧ RowsAt W v rs := by
  rcases Go.Deep.open_slice Try.underlying26 h with ⟨rfl, _⟩ | ⟨a, len, cap, m, n, D, Pl, rfl, _, hl, hm, hmm, rfl, hi⟩
  · exact ⟨_, [], rfl, none, 0, rfl, by simp, by simp, fun _ => rfl, by simp⟩
  · simp only [if_true] at hmm
    subst hmm
    have hD : ∀ i, i < len → ∀ k ∈ (D i).weights Try.prog 34, k ≤ reachBytes := by
      intro i hi k hk
      refine hs k ?_
      simp only [DataW.weights, Try.underlying26]
      refine List.mem_cons_of_mem _ (List.mem_append.2 (Or.inl ?_))
      exact mem_weightsAll (List.mem_map.2 ⟨i, List.mem_range.2 hi, rfl⟩) hk
    by_cases h0 : len = 0
    · subst h0
      exact ⟨_, [], rfl, some a, m, rfl, by simp, hm, by simp, by simp⟩
    · obtain ⟨g, off, sp⟩ := a
      have hsp : sp = none := by
        obtain ⟨cs', hc, _⟩ := hi 0 (by omega)
        rw [cells_row] at hc
        obtain ⟨_, hcl, hat⟩ := World.cells?_some hc
        have := hat 0 (by omega)
        rw [List.getElem?_eq_getElem (by omega)] at this
        have hs := World.cell?_spot this
        simpa [Addr.add] using hs
      subst hsp
      obtain ⟨rs, hrl, hra⟩ := list_of (P := fun i (r : El W) => W.cell? ⟨g, off + i, none⟩ = some r.1.1) len (fun i hil => by
        obtain ⟨cs', hc, ht⟩ := hi i (by omega)
        obtain ⟨v, zs, rfl, hr, hz⟩ := row_of_trod ht (hD i hil)
        rw [cells_row, Addr.add_lit] at hc
        obtain ⟨_, hcl, hat⟩ := World.cells?_some hc
        have := hat 0 (by omega)
        rw [Addr.add_lit] at this
        simp only [Nat.mul_one, Nat.add_zero, List.getElem?_cons_zero] at this
        exact ⟨⟨(v, zs), hr, hz⟩, this⟩)
      refine ⟨_, rs, rfl, some ⟨g, off, none⟩, m, by rw [hrl], by omega, hm, by simp, ?_⟩
      rintro ad had j u hu
      obtain rfl := Option.some.inj had
      have hj : j < rs.length := by
        have := (List.getElem?_eq_some_iff.1 hu).1
        simpa using this
      rw [Addr.add_lit, hra j hj, ← hu]
      simp [hj]
end
end Go.Proofs.Ytoglcohdanpciaa
