/- (parity's RowsAt, over the texts of slot.) Rows that came in. -/
import Derived.Test.YtiljhjegfklgmaaRsL
import Derived.Test.YtiljhjegfklgmaaOpenC
namespace Go.Proofs.Ytiljhjegfklgmaa
open Go.RowKit Go.Shelf Go.ChangeShapes Go.WideShapes Go.ChangeAt
set_option maxRecDepth 100000

/-- A row of bytes as it came: its value and what it holds. -/
abbrev RwS := Value × List Int
def RwSOk (w : World) (r : RwS) : Prop := RowAt w r.1 r.2 ∧ r.2.length ≤ 140737488351232
abbrev El (w : World) := { r : RwS // RwSOk w r }
def raws {w : World} (rs : List (El w)) : List (List Int) := rs.map fun r => r.1.2

/-- A slice of rows. -/
def RowsAt {w0 : World} (w : World) (v : Value) (rs : List (El w0)) : Prop :=
  ∃ (a : Option Addr) (cap : Nat), v = .slice a rs.length cap ∧ rs.length ≤ cap ∧ cap ≤ maxLen ∧ (a = none → cap = 0) ∧
    ∀ ad, a = some ad → ∀ j u, (rs.map fun r => r.1.1)[j]? = some u → w.cell? (ad.add j) = some u

theorem RowsAt.open {w0 w : World} {v : Value} {rs : List (El w0)} (h : RowsAt w v rs) (hne : 0 < rs.length) :
    ∃ g off cap, v = .slice (some ⟨g, off, none⟩) rs.length cap ∧ rs.length ≤ cap ∧ ∀ j (hj : j < rs.length), w.cell? ⟨g, off + j, none⟩ = some rs[j].1.1 := by
  obtain ⟨a, cap, rfl, h1, h2, h3, h5⟩ := h
  cases a with
  | none => have := h3 rfl; omega
  | some ad =>
    obtain ⟨g, off, sp⟩ := ad
    have hc := h5 _ rfl 0 rs[0].1.1 (by simp [List.getElem?_eq_getElem hne])
    cases sp with
    | some x =>
      exfalso
      unfold Addr.add at hc
      simp [World.cell?] at hc
      split at hc <;> simp_all
    | none =>
      refine ⟨g, off, cap, rfl, h1, fun j hj => ?_⟩
      have := h5 _ rfl j rs[j].1.1 (by simp [List.getElem?_eq_getElem hj])
      rwa [Addr.add_lit] at this

theorem RowsAt.keep {w0 w w' : World} {v : Value} {rs : List (El w0)} (h : RowsAt w v rs) (k : Keeps [] w w') : RowsAt w' v rs := by
  obtain ⟨a, cap, rfl, h1, h2, h3, h5⟩ := h
  refine ⟨a, cap, rfl, h1, h2, h3, fun ad had j u hu => ?_⟩
  have hc := h5 ad had j u hu
  rw [World.cell?_of_block (w := w) (k.block _ (World.block_lt_of_cell? _ _ hc) (by simp))]
  exact hc

section
variable {H : Type} {enc : TypeId × Value → H}

theorem bytes_row : Try.prog.bytesOf 31 = 24 := by kernel_rfl

theorem rows_of_trod {W : World} {fuel : Nat} {cs : List Value} {x : DataW H × List MemPlace} (h : DataW.trod enc Try.prog W 0 (fun _ => true) true fuel 22 cs = some x)
    (hs : ∀ n ∈ x.1.weights Try.prog 22, n ≤ reachBytes) : ∃ (v : Value) (rs : List (El W)), cs = [v] ∧ RowsAt W v rs := by
  rcases Go.Deep.open_slice Try.underlying22 h with ⟨rfl, _⟩ | ⟨a, len, cap, m, n, D, Pl, rfl, _, hl, hm, hmm, rfl, hi⟩
  · exact ⟨_, [], rfl, none, 0, rfl, by simp, by simp, fun _ => rfl, by simp⟩
  · simp only [if_true] at hmm
    subst hmm
    have hD : ∀ i, i < len → ∀ k ∈ (D i).weights Try.prog 31, k ≤ reachBytes := by
      intro i hi k hk
      refine hs k ?_
      simp only [DataW.weights, Try.underlying22]
      refine List.mem_cons_of_mem _ (List.mem_append.2 (Or.inl ?_))
      exact mem_weightsAll (List.mem_map.2 ⟨i, List.mem_range.2 hi, rfl⟩) hk
    by_cases h0 : len = 0
    · subst h0
      exact ⟨_, [], rfl, some a, m, rfl, by simp, hm, by simp, by simp⟩
    · obtain ⟨g, off, sp⟩ := a
      have hsp : sp = none := by
        obtain ⟨cs', hc, _⟩ := hi 0 (by omega)
        rw [cells_row] at hc
        obtain ⟨_, hcl, hat⟩ := World.cells?_some hc
        have := hat 0 (by omega)
        rw [List.getElem?_eq_getElem (by omega)] at this
        have hs := World.cell?_spot this
        simpa [Addr.add] using hs
      subst hsp
      obtain ⟨rs, hrl, hra⟩ := list_of (P := fun i (r : El W) => W.cell? ⟨g, off + i, none⟩ = some r.1.1) len (fun i hil => by
        obtain ⟨cs', hc, ht⟩ := hi i (by omega)
        obtain ⟨v, zs, rfl, hr, hz⟩ := row_of_trod ht (hD i hil)
        rw [cells_row, Addr.add_lit] at hc
        obtain ⟨_, hcl, hat⟩ := World.cells?_some hc
        have := hat 0 (by omega)
        rw [Addr.add_lit] at this
        simp only [Nat.mul_one, Nat.add_zero, List.getElem?_cons_zero] at this
        exact ⟨⟨(v, zs), hr, hz⟩, this⟩)
      refine ⟨_, rs, rfl, some ⟨g, off, none⟩, m, by rw [hrl], by omega, hm, by simp, ?_⟩
      rintro ad had j u hu
      obtain rfl := Option.some.inj had
      have hj : j < rs.length := by
        have := (List.getElem?_eq_some_iff.1 hu).1
        simpa using this
      rw [Addr.add_lit, hra j hj, ← hu]
      simp [hj]
end
end Go.Proofs.Ytiljhjegfklgmaa
