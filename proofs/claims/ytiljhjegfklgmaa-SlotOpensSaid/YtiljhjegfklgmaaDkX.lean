/- Eight rows of bytes, each its own; eight bytes (the law DiskLasts). -/
import Derived.Test.YtiljhjegfklgmaaDkV
import Derived.Test.YtiljhjegfklgmaaApp
namespace Go.Proofs.Ytiljhjegfklgmaa
open Go.RowKit

def row8 (vs : Nat → Value) : List Value := (List.range 8).map vs
theorem row8_set (vs : Nat → Value) (i : Nat) (v : Value) : (row8 vs).toArray.setIfInBounds i v = (row8 (upd vs i v)).toArray := by
  rw [List.setIfInBounds_toArray]
  congr 1
  unfold row8
  apply List.ext_getElem?
  intro j
  rw [List.getElem?_set]
  by_cases hj : j < 8
  · by_cases e : i = j
    · subst e
      simp [hj]
    · have e' : j ≠ i := fun h => e h.symm
      simp [e, hj, upd_ne _ _ e']
  · by_cases e : i = j
    · subst e
      simp [hj]
    · simp [e, hj]

theorem row8_at (vs : Nat → Value) (i : Nat) (h : i < 8) : (row8 vs).toArray[i]? = some (vs i) := by
  simp [row8, h]

/-- Eight rows. -/
structure MayAt (w : World) (B g : Nat) (vs : Nat → Value) (xs : Nat → List Int) : Prop where
  cells : w.heap[g]? = some (.cells (row8 vs).toArray 31 (0, 0))
  low : B ≤ g
  own : ∀ i, i < 8 → w.ownsRow B 5 1 (vs i) (xs i).length ((xs i).map (Value.int .u8))
  apart : ∀ i j, i < 8 → j < 8 → i ≠ j → ∀ b, (vs i).ownBlock = some b → (vs j).ownBlock ≠ some b
  no : ∀ i, i < 8 → (vs i).ownBlock ≠ some g
  byte : ∀ i, i < 8 → ∀ c ∈ xs i, 0 ≤ c ∧ c ≤ 255

/-- The rows' blocks. -/
def MB (g : Nat) (vs : Nat → Value) (b : Nat) : Prop := b = g ∨ ∃ i, i < 8 ∧ (vs i).ownBlock = some b

theorem MayAt.lt {w : World} {B g : Nat} {vs : Nat → Value} {xs : Nat → List Int} (h : MayAt w B g vs xs) : ∀ b, MB g vs b → B ≤ b ∧ b < w.heap.size := by
  rintro b (rfl | ⟨i, hi, e⟩)
  · exact ⟨h.low, lt_of_block h.cells⟩
  · exact (h.own i hi).lt b e

theorem own_same {w w' : World} {B : Nat} {e : TypeId} {v : Value} {n : Nat} {ys : List Value} (h : w.ownsRow B e 1 v n ys) (hk : ∀ b, v.ownBlock = some b → w'.heap[b]? = w.heap[b]?) : w'.ownsRow B e 1 v n ys := by
  refine ⟨h.1, ?_⟩
  rcases h.2 with hn | ⟨g, cap, cur, rfl, hb, hgg, rest⟩
  · exact .inl hn
  · exact .inr ⟨g, cap, cur, rfl, hb, (hk g rfl).trans hgg, rest⟩

theorem MayAt.same {w w' : World} {B g : Nat} {vs : Nat → Value} {xs : Nat → List Int} (h : MayAt w B g vs xs) (hk : ∀ b, MB g vs b → w'.heap[b]? = w.heap[b]?) : MayAt w' B g vs xs :=
  ⟨(hk g (.inl rfl)).trans h.cells, h.low, fun i hi => own_same (h.own i hi) (fun b e => hk b (.inr ⟨i, hi, e⟩)), h.apart, h.no, h.byte⟩

theorem MayAt.keep {w w' : World} {B g : Nat} {vs : Nat → Value} {xs : Nat → List Int} {S : List Nat} (h : MayAt w B g vs xs) (k : Keeps S w w') (hS : ∀ b ∈ S, ¬ MB g vs b) : MayAt w' B g vs xs :=
  h.same fun b hb => k.block b (h.lt b hb).2 (fun hm => hS b hm hb)

theorem MayAt.cell {w : World} {B g : Nat} {vs : Nat → Value} {xs : Nat → List Int} (h : MayAt w B g vs xs) (i : Nat) (hi : i < 8) : w.cell? ⟨g, i, none⟩ = some (vs i) := by
  rw [cell_of_row w g i _ _ (0, 0) h.cells]
  exact row8_at vs i hi

/-- One row is another one's. -/
theorem MayAt.put {w w' : World} {B g : Nat} {vs : Nat → Value} {xs : Nat → List Int} (h : MayAt w B g vs xs) (i : Nat) (hi : i < 8) (v : Value) (x : List Int)
    (hk : ∀ k, k < w.heap.size → (vs i).ownBlock ≠ some k → w'.heap[k]? = w.heap[k]?) (ho : w'.ownsRow B 5 1 v x.length (x.map (Value.int .u8)))
    (hb : ∀ b, v.ownBlock = some b → (vs i).ownBlock = some b ∨ w.heap.size ≤ b) (hx : ∀ c ∈ x, 0 ≤ c ∧ c ≤ 255) : MayAt (w'.setCell ⟨g, i, none⟩ v) B g (upd vs i v) (upd xs i x) := by
  have hg := lt_of_block h.cells
  have hvg : v.ownBlock ≠ some g := fun e => (hb g e).elim (h.no i hi) (fun h => by omega)
  have hg' : w'.heap[g]? = some (.cells (row8 vs).toArray 31 (0, 0)) := (hk g hg (h.no i hi)).trans h.cells
  refine ⟨?_, h.low, fun j hj => ?_, fun j k hj hk2 hjk b e => ?_, fun j hj => ?_, fun j hj => ?_⟩
  · rw [heap_setCell_same w' g i _ _ v hg', row8_set]
  · by_cases e : j = i
    · subst e
      rw [upd_same, upd_same]
      exact own_same ho (fun b hb' => Below.heap_setCell _ _ _ _ (fun e => hvg (by simp only at e; rw [← e]; exact hb')))
    · rw [upd_ne _ _ e, upd_ne _ _ e]
      refine own_same (h.own j hj) (fun b hb' => ?_)
      rw [Below.heap_setCell _ _ _ _ (fun e2 => h.no j hj (by simp only at e2; rw [← e2]; exact hb'))]
      exact hk b ((h.own j hj).lt b hb').2 (h.apart j i hj hi e b hb')
  · by_cases e1 : j = i
    · subst e1
      have hkj : k ≠ j := fun e => hjk e.symm
      rw [upd_same] at e
      rw [upd_ne _ _ hkj]
      intro e2
      rcases hb b e with h1 | h1
      · exact h.apart k j hk2 hj hkj b e2 h1
      · have := ((h.own k hk2).lt b e2).2
        omega
    · rw [upd_ne _ _ e1] at e
      by_cases e3 : k = i
      · subst e3
        rw [upd_same]
        intro e2
        rcases hb b e2 with h1 | h1
        · exact h.apart j k hj hk2 hjk b e h1
        · have := ((h.own j hj).lt b e).2
          omega
      · rw [upd_ne _ _ e3]
        exact h.apart j k hj hk2 hjk b e
  · by_cases e : j = i
    · subst e
      rw [upd_same]
      exact hvg
    · rw [upd_ne _ _ e]
      exact h.no j hj
  · by_cases e : j = i
    · subst e
      rw [upd_same]
      exact hx
    · rw [upd_ne _ _ e]
      exact h.byte j hj

theorem MB.put {g : Nat} {vs : Nat → Value} {i : Nat} (hi : i < 8) {v : Value} {n : Nat} (hb : ∀ b, v.ownBlock = some b → (vs i).ownBlock = some b ∨ n ≤ b) : ∀ b, MB g (upd vs i v) b → MB g vs b ∨ n ≤ b := by
  rintro b (rfl | ⟨j, hj, e⟩)
  · exact .inl (.inl rfl)
  · by_cases e1 : j = i
    · subst e1
      rw [upd_same] at e
      exact (hb b e).imp (fun h => .inr ⟨j, hi, h⟩) id
    · rw [upd_ne _ _ e1] at e
      exact .inl (.inr ⟨j, hj, e⟩)

/-- Eight bytes. -/
def NowAt (w : World) (g : Nat) (f : Nat → Int) : Prop := w.heap[g]? = some (.cells (row8 fun i => .int .u8 (f i)).toArray 5 (0, 0))

theorem NowAt.cell {w : World} {g : Nat} {f : Nat → Int} (h : NowAt w g f) (i : Nat) (hi : i < 8) : w.cell? ⟨g, i, none⟩ = some (.int .u8 (f i)) := by
  rw [cell_of_row w g i _ _ (0, 0) h]
  exact row8_at _ i hi
theorem NowAt.keep {w w' : World} {g : Nat} {f : Nat → Int} {S : List Nat} (h : NowAt w g f) (k : Keeps S w w') (hS : g ∉ S) : NowAt w' g f := (k.block g (lt_of_block h) hS).trans h
theorem NowAt.put {w : World} {g : Nat} {f : Nat → Int} (h : NowAt w g f) (i : Nat) (c : Int) : NowAt (w.setCell ⟨g, i, none⟩ (.int .u8 c)) g (upd f i c) := by
  unfold NowAt
  rw [heap_setCell_same w g i _ _ _ h, row8_set]
  congr 4
  funext j
  by_cases e : j = i
  · subst e; simp
  · simp [upd_ne _ _ e]

end Go.Proofs.Ytiljhjegfklgmaa
