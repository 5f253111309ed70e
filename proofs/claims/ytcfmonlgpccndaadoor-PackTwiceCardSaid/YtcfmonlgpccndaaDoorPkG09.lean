/- EyeE, EyeF, EyeG, EyeL. -/
import Derived.Test.YtcfmonlgpccndaaDoorPkG08
/- Walks of the eye: Fail, Left, End, and attempt. -/
namespace Go.Proofs.YtcfmonlgpccndaaDoor
open Go.RowKit

def endOf (zs : List Int) (bad : Int) : Int := if bad = 0 then (if zs.length = 0 then 0 else 3) else bad

end Go.Proofs.YtcfmonlgpccndaaDoor


/- The walk of attempt, at its four instances. -/
namespace Go.Proofs.YtcfmonlgpccndaaDoor
open Go.RowKit

/-- What a reading call answers, what is left, and the error. -/
def after {α : Type} (zs : List Int) (bad : Int) (r : Except Int (α × List Int)) : Option α × List Int × Int :=
  if bad ≠ 0 then (none, zs, bad) else match r with
    | .error why => (none, zs, why)
    | .ok (x, rest) => (some x, rest, 0)

theorem Keeps.cell {S : List Nat} {w w' : World} (k : Keeps S w w') {a : Addr} {v : Value} (h : w.cell? a = some v) (hs : a.block ∉ S) : w'.cell? a = some v := by
  rw [World.cell?_of_block (w := w) (k.block _ (World.block_lt_of_cell? _ _ h) hs)]
  exact h

theorem two_new (w : World) (x y : Value) (T U : TypeId) : ((w.alloc (.cells #[x] T)).alloc (.cells #[y] U)).cell? ⟨w.heap.size, 0, none⟩ = some x ∧
    ((w.alloc (.cells #[x] T)).alloc (.cells #[y] U)).cell? ⟨w.heap.size + 1, 0, none⟩ = some y := by
  have h1 := heap_alloc_new w (.cells #[x] T)
  have h2 := heap_alloc_new (w.alloc (.cells #[x] T)) (.cells #[y] U)
  have h3 := Below.heap_alloc (w.alloc (.cells #[x] T)) (.cells #[y] U) w.heap.size (by rw [World.size_alloc]; omega)
  have e : (w.alloc (.cells #[x] T)).heap.size = w.heap.size + 1 := by simp
  rw [e] at h2
  constructor
  · exact cell_of_one (h3.trans h1)
  · exact cell_of_one h2

end Go.Proofs.YtcfmonlgpccndaaDoor


/- Walks of the eye: NewEye, Num, Text, Raw, Bool. -/
namespace Go.Proofs.YtcfmonlgpccndaaDoor
open Go.RowKit

end Go.Proofs.YtcfmonlgpccndaaDoor


/- The eye in a later world: a number read (for every layer). -/
namespace Go.Proofs.YtcfmonlgpccndaaDoor
open Go.RowKit
set_option maxRecDepth 100000
set_option linter.unusedSimpArgs false

abbrev PSt := List Int × Int
/-- What a read of a number answers, and what is left behind it. -/
def numE (n : Int) (st : PSt) : Int × PSt := (((after st.1 st.2 (rdNum n st.1)).1).getD 0, (after st.1 st.2 (rdNum n st.1)).2)
theorem numE_ne {n : Int} {st : PSt} (h : (numE n st).2.1 ≠ []) : st.1 ≠ [] := by
  intro e
  apply h
  unfold numE after rdNum
  rw [e]
  by_cases h1 : st.2 ≠ 0
  · rw [if_pos h1]
  · rw [if_neg h1]
    split
    · rfl
    · rename_i heq
      split at heq
      · cases heq
      · split at heq
        · cases heq
        · simp at heq; rw [heq.2]
theorem off_oldB {w : World} {u : Value} {zs : List Int} (h : RowAt w u zs) {g : Nat} (hg : w.heap.size ≤ g) : Off [g] u zs := by
  intro ad n c e hne hm
  have hpos : 0 < zs.length := List.length_pos_iff.2 hne
  obtain ⟨g2, off, cap, rfl, _, hc⟩ := h.open hpos
  injection e with e1 _ _
  obtain rfl := Option.some.inj e1
  have := World.block_lt_of_cell? _ _ (hc 0 hpos)
  simp at hm this
  omega
/-- The row's block is none of those from B on. -/
def OffB (B : Nat) (v : Value) (zs : List Int) : Prop := ∀ g, B ≤ g → Off [g] v zs
theorem OffB.same {B : Nat} {v v2 : Value} {zs ys : List Int} (h : OffB B v zs) (k : SameBlk v v2) (hz : ys ≠ [] → zs ≠ []) : OffB B v2 ys := by
  intro g hg ad n c e hy hm
  simp at hm
  obtain ⟨ad', n', c', rfl, hb⟩ := k ad n c e
  have := h g hg ad' n' c' rfl (hz hy)
  simp at this
  exact this (by rw [hb, hm])
theorem five_cells {w : World} {b : Nat} {cs : Array Value} {T : TypeId} (h : w.heap[b]? = some (.cells cs T (0, 0))) (i : Nat) : w.cell? ⟨b, i, none⟩ = cs[i]? ∧ w.frozen? ⟨b, i, none⟩ = false := by
  simp [World.cell?, World.frozen?, h]
theorem set_keep {w : World} {b i : Nat} {u : Value} : Keeps [b] w (w.setCell ⟨b, i, none⟩ u) := (Keeps.refl [b] w).setCell (Or.inl (by simp)) _
theorem set_five {w : World} {b i : Nat} {A : Array Value} {T : TypeId} (h : w.heap[b]? = some (.cells A T (0, 0))) (u : Value) : (w.setCell ⟨b, i, none⟩ u).heap[b]? = some (.cells (A.setIfInBounds i u) T (0, 0)) := by
  have hlt := lt_of_block h
  have h' : w.heap[b] = .cells A T (0, 0) := by simpa [Array.getElem?_eq_getElem hlt] using h
  show (w.heap.modify b _)[b]? = _
  rw [Array.getElem?_eq_getElem (by simpa using hlt), Array.getElem_modify_self, h']
  rfl
end Go.Proofs.YtcfmonlgpccndaaDoor
