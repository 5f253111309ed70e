/- blocks: the reference's change. -/
import Derived.Test.YtdfhoanilbfkiaaBkW
import Derived.Test.YtdfhoanilbfkiaaKitB
namespace Go.Proofs.Ytdfhoanilbfkiaa
open Go.RowKit Go.Shelf
set_option maxRecDepth 100000
set_option linter.unusedSimpArgs false

def RchPost (w : World) (q : Nat) (F : List Nat) (s : Bk) (x : Dl) (e : Ending) (w' : World) : Prop :=
  e = .returned (.bool (mayD s x)) ∧ ∃ F', RkAt w' q F' (stepD s x) ∧ Keeps F w w' ∧ ∀ b ∈ F', b ∈ F ∨ w.heap.size ≤ b
theorem rch_no {w w' : World} {q : Nat} {F : List Nat} {s : Bk} {x : Dl} (h : RkAt w q F s) (hm : mayD s x = false) (k : Keeps [] w w') : RchPost w q F s x (.returned (.bool false)) w' := by
  refine ⟨by rw [hm], F, ?_, k.mono (by simp), fun b hb => Or.inl hb⟩
  unfold stepD
  rw [if_neg (by rw [hm]; simp)]
  exact h.later k
theorem rch_yes {w w' : World} {q : Nat} {F F' : List Nat} {s : Bk} {x : Dl} (hm : mayD s x = true) (h : RkAt w' q F' (doD s x)) (k : Keeps F w w') (hf : ∀ b ∈ F', b ∈ F ∨ w.heap.size ≤ b) : RchPost w q F s x (.returned (.bool true)) w' := by
  refine ⟨by rw [hm], F', ?_, k, hf⟩
  unfold stepD
  rw [if_pos hm]
  exact h
theorem rk_size {w : World} {q : Nat} {F : List Nat} {s : Bk} (h : RkAt w q F s) (z : Int) : RkAt (w.setCell ⟨q, 0, none⟩ (.int .i64 z)) q F ⟨z, s.L⟩ ∧ Keeps F w (w.setCell ⟨q, 0, none⟩ (.int .i64 z)) := by
  obtain ⟨⟨v, hb, hr, hq, rfl⟩, h2⟩ := h
  have ks : Keeps [q] w (w.setCell ⟨q, 0, none⟩ (.int .i64 z)) := (Keeps.refl [q] w).setCell (Or.inl (by simp)) _
  exact ⟨⟨⟨v, (heap_twoR hb _).1, hr.keep ks (fun b ho hm => by simp at hm; subst hm; exact hq ho), hq, rfl⟩, h2⟩, ks.mono (fun i _ hm => by simp at hm; simp [hm])⟩
theorem rk_point {w w' : World} {q : Nat} {F : List Nat} {s : Bk} (h : RkAt w q F s) (k : Nat) (hk : k < s.L.length) (x : Pt) :
    ∃ g cap cur, w.heap[q]? = some (.cells #[.int .i64 s.sz, .slice (some ⟨g, 0, none⟩) s.L.length cap] 41 (0, 0)) ∧ w.heap[g]? = some (.cells cur 28 (0, 0)) ∧ k * 5 + 5 ≤ cur.size ∧ g ∈ F ∧ g ≠ q ∧
      (w'.heap[g]? = some (.cells (cur.toList.take (k * 5) ++ x.cells ++ cur.toList.drop (k * 5 + 5)).toArray 28 (0, 0)) → Keeps [g] w w' → RkAt w' q F ⟨s.sz, s.L.set k x⟩) := by
  obtain ⟨⟨v, hb, hr, hq, rfl⟩, h2⟩ := h
  rcases id hr with ⟨_, h0⟩ | ⟨g, cap, cur0, rfl, hb0, _⟩
  · rw [h0] at hk; simp at hk
  · obtain ⟨cur, hg, hfit, hset⟩ := hr.set (w' := w') k hk x
    have hgq : g ≠ q := fun e => hq (by simp [Value.ownBlock, e])
    refine ⟨g, cap, cur, hb, hg, hfit, by simp [Value.ownBlock], hgq, fun hw kk => ⟨⟨_, (kk.block q (lt_of_block hb) (by simp; exact fun e => hgq e.symm)).trans hb, by simpa using hset hw, hq, rfl⟩, by simpa using h2⟩⟩

end Go.Proofs.Ytdfhoanilbfkiaa
