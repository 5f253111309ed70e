/- A row of texts that came in. -/
import Derived.Test.YtjahfnebnnkgfaaNaI
import Derived.Test.YtjahfnebnnkgfaaOpenC
import Derived.Deep.Strs
import Derived.ChangeMaps5
namespace Go.Proofs.Ytjahfnebnnkgfaa
open Go.ChangeShapes Go.WideShapes Go.ChangeAt Go.RowKit

section
variable {H : Type} {enc : TypeId × Value → H}

theorem strs_of_trod {W : World} {fuel : Nat} {cs : List Value} {x : DataW H × List MemPlace} (h : DataW.trod enc Try.prog W 0 (fun _ => true) true fuel 23 cs = some x) :
    ∃ v L, cs = [v] ∧ SAt W v L ∧ ∀ x ∈ L, x.length ≤ maxLen := by
  rcases Go.Deep.open_strs Try.underlying23 Try.underlying9 (by kernel_rfl) h with ⟨rfl, _⟩ | ⟨a, len, cap, m, Sx, rfl, _, hl, hm, hmm, rfl, hcell⟩
  · exact ⟨_, [], rfl, SAt.nil W, by simp⟩
  · simp only [if_true] at hmm
    subst hmm
    refine ⟨_, (List.range len).map (fun i => (Sx i).data.toList), rfl, ⟨some a, m, by simp, by simp; omega, hm, by simp, ?_⟩, ?_⟩
    rotate_left
    · intro x hx
      obtain ⟨i, hi, rfl⟩ := List.mem_map.1 hx
      have := (hcell i (by have := List.mem_range.1 hi; omega)).2
      rw [Array.length_toList]
      exact this
    rintro ad had j u hu
    obtain rfl := Option.some.inj had
    have hj : j < len := by
      have := (List.getElem?_eq_some_iff.1 hu).1
      simpa using this
    rw [List.getElem?_map, List.getElem?_range hj] at hu
    simp at hu
    subst hu
    rw [(hcell j (by omega)).1]
    exact congrArg some (bstr_data _).symm
end
end Go.Proofs.Ytjahfnebnnkgfaa
