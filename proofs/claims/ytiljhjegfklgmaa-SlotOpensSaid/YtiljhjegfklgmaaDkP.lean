/- Slices of one-cell elements that came in: bools. -/
import Derived.Test.YtiljhjegfklgmaaDkN
import Derived.Deep.Slices
namespace Go.Proofs.Ytiljhjegfklgmaa
open Go.ChangeShapes Go.WideShapes Go.ChangeAt Go.RowKit

/-- A slice value whose cells are us. -/
def CellsAt (w : World) (v : Value) (us : List Value) : Prop :=
  ∃ (a : Option Addr) (cap : Nat), v = .slice a us.length cap ∧ us.length ≤ cap ∧ cap ≤ maxLen ∧ (a = none → cap = 0) ∧ ∀ ad, a = some ad → ∀ j u, us[j]? = some u → w.cell? (ad.add j) = some u

theorem CellsAt.open {w : World} {v : Value} {us : List Value} (h : CellsAt w v us) (hne : 0 < us.length) :
    ∃ g off cap, v = .slice (some ⟨g, off, none⟩) us.length cap ∧ us.length ≤ cap ∧ ∀ j (hj : j < us.length), w.cell? ⟨g, off + j, none⟩ = some us[j] := by
  obtain ⟨a, cap, rfl, h1, h2, h3, h4⟩ := h
  cases a with
  | none => have := h3 rfl; omega
  | some ad =>
    obtain ⟨g, off, sp⟩ := ad
    have hc := h4 _ rfl 0 us[0] (List.getElem?_eq_getElem hne)
    have hs := World.cell?_spot hc
    obtain rfl : sp = none := by simpa [Addr.add] using hs
    refine ⟨g, off, cap, rfl, h1, fun j hj => ?_⟩
    have := h4 _ rfl j us[j] (List.getElem?_eq_getElem hj)
    rwa [Addr.add_lit] at this

theorem CellsAt.keep {w w' : World} {v : Value} {us : List Value} (h : CellsAt w v us) (k : Keeps [] w w') : CellsAt w' v us := by
  obtain ⟨a, cap, rfl, h1, h2, h3, h4⟩ := h
  refine ⟨a, cap, rfl, h1, h2, h3, fun ad had j u hu => ?_⟩
  have hc := h4 ad had j u hu
  rw [World.cell?_of_block (w := w) (k.block _ (World.block_lt_of_cell? _ _ hc) (by simp))]
  exact hc

section
variable {H : Type} {enc : TypeId × Value → H}
theorem list_of' {α : Type} {P : Nat → α → Prop} : ∀ (n : Nat), (∀ i, i < n → ∃ d, P i d) → ∃ ds : List α, ds.length = n ∧ ∀ i (h : i < ds.length), P i ds[i]
  | 0, _ => ⟨[], rfl, fun i h => by simp at h⟩
  | n + 1, h => by
    obtain ⟨ds, hl, hd⟩ := list_of' n (fun i hi => h i (by omega))
    obtain ⟨d, hp⟩ := h n (by omega)
    refine ⟨ds ++ [d], by simp [hl], fun i hi => ?_⟩
    rw [List.getElem_append]
    split
    · rename_i hlt
      exact hd i hlt
    · have : i = n := by simp at hi; omega
      subst this
      simpa using hp

/-- A slice of one-cell elements that came in. -/
theorem cells_of_trod {α : Type} (f : α → Value) (Q : α → Prop) {S E : TypeId} (hS : Try.prog.underlying S = some (.slice E)) (hE : Try.prog.cellsOf E = 1)
    {W : World} (hQ : ∀ (m : Nat) (cs : List Value) (y : DataW H × List MemPlace), DataW.trod enc Try.prog W 0 (fun _ => true) true m E cs = some y → ∃ a, cs = [f a] ∧ Q a)
    {fuel : Nat} {cs : List Value} {x : DataW H × List MemPlace} (h : DataW.trod enc Try.prog W 0 (fun _ => true) true fuel S cs = some x) : ∃ (v : Value) (xs : List α), cs = [v] ∧ CellsAt W v (xs.map f) ∧ ∀ x ∈ xs, Q x := by
  rcases Go.Deep.open_slice hS h with ⟨rfl, _⟩ | ⟨a, len, cap, m, n, D, Pl, rfl, _, hl, hm, hmm, rfl, hi⟩
  · exact ⟨_, [], rfl, ⟨none, 0, rfl, by simp, by simp, fun _ => rfl, by simp⟩, by simp⟩
  · simp only [if_true] at hmm
    subst hmm
    obtain ⟨xs, hxl, hxp⟩ := list_of' (P := fun i (b : α) => W.cell? (a.add i) = some (f b) ∧ Q b) len (fun i hil => by
      obtain ⟨cs', hc, ht⟩ := hi i (by omega)
      obtain ⟨b, rfl, hb⟩ := hQ _ _ _ ht
      rw [hE] at hc
      obtain ⟨_, hcl, hat⟩ := World.cells?_some hc
      have := hat 0 (by omega)
      refine ⟨b, ?_, hb⟩
      have hs := World.cell?_spot this
      have e : (a.add (i * 1)).add 0 = a.add i := by
        obtain ⟨g, off, sp⟩ := a
        cases sp <;> simp [Addr.add]
      rw [e] at this
      simpa using this)
    refine ⟨_, xs, rfl, ⟨some a, m, by simp [hxl], by simp; omega, hm, by simp, ?_⟩, ?_⟩
    · rintro ad had j u hu
      obtain rfl := Option.some.inj had
      rw [List.getElem?_map] at hu
      have hj : j < xs.length := by
        refine Nat.lt_of_not_le fun hn => ?_
        rw [List.getElem?_eq_none hn] at hu
        cases hu
      rw [List.getElem?_eq_getElem hj] at hu
      simp at hu
      rw [← hu]
      exact (hxp j hj).1
    · intro b hb
      obtain ⟨j, hj, rfl⟩ := List.getElem_of_mem hb
      exact (hxp j hj).2

def BoolsAt (w : World) (v : Value) (xs : List Bool) : Prop := CellsAt w v (xs.map Value.bool)

theorem cells_bool : Try.prog.cellsOf 4 = 1 := by kernel_rfl

end
end Go.Proofs.Ytiljhjegfklgmaa
