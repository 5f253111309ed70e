/- delta: the reference's DecodeDeltas. -/
import Derived.Test.YtoglcohdanpciaaDeL
namespace Go.Proofs.Ytoglcohdanpciaa
open Go.RowKit Go.Shelf
set_option maxRecDepth 100000
set_option linter.unusedSimpArgs false

/-- What the reference's reader has behind so many deltas, as long as its eye lives. -/
def rcI (st : PSt) : Nat → List Dl × PSt
  | 0 => ([], st)
  | k + 1 => ((rcI st k).1 ++ [(getD (rcI st k).2).1], finD (getD (rcI st k).2))
theorem rcI_succ (st : PSt) (k : Nat) : rcI st (k + 1) = ((rcI st k).1 ++ [(getD (rcI st k).2).1], finD (getD (rcI st k).2)) := rfl
theorem rcI_len (st : PSt) : ∀ k, (rcI st k).1.length = k
  | 0 => rfl
  | k + 1 => by unfold rcI; simp [rcI_len st k]
theorem finD_good {o : Dl × PSt} (h : (finD o).2 = 0) : o.2.2 = 0 ∧ mayL o.1 = true ∧ finD o = o.2 := by
  unfold finD formW at h ⊢
  by_cases hb : (!mayL o.1) = true ∧ o.2.2 = 0
  · rw [if_pos hb] at h; cases h
  · rw [if_neg hb] at h ⊢
    refine ⟨h, ?_, rfl⟩
    cases hm : mayL o.1 with
    | true => rfl
    | false => exact absurd ⟨by rw [hm]; rfl, h⟩ hb
theorem finD_bad {l : List Dl} {st : PSt} (h : (finD (getD st)).2 ≠ 0) : (dcS (.ok l, st)).1 = .error (finD (getD st)).2 := by
  unfold finD formW at h ⊢
  by_cases hz : (getD st).2.2 = 0
  · cases hm : mayL (getD st).1 with
    | true => rw [hm, if_neg (by simp)] at h; exact absurd hz h
    | false => rw [dcS_form hz hm, if_pos ⟨rfl, hz⟩]
  · rw [dcS_fail hz, if_neg (fun h => hz h.2)]
theorem rcI_ok {st : PSt} : ∀ {k : Nat}, (∀ j, j < k → (rcI st (j + 1)).2.2 = 0) → dcI st k = (.ok (rcI st k).1, (rcI st k).2)
  | 0, _ => rfl
  | k + 1, h => by
    have ih := rcI_ok (st := st) (k := k) (fun j hj => h j (by omega))
    obtain ⟨h1, h2, h3⟩ := finD_good (h k (by omega))
    show dcS (dcI st k) = _
    rw [ih, dcS_good h1 h2, rcI_succ, h3]
theorem rcI_fail {st : PSt} {k : Nat} (h : ∀ j, j < k → (rcI st (j + 1)).2.2 = 0) (hb : (rcI st (k + 1)).2.2 ≠ 0) : (dcI st (k + 1)).1 = .error (rcI st (k + 1)).2.2 := by
  show (dcS (dcI st k)).1 = _
  rw [rcI_ok h]
  exact finD_bad hb
theorem reend {wr : World} {B p : Nat} {st : PSt} (h : REyL wr B p st) : Calls Try.prog 99 #[.pointer (some ⟨p, 0, none⟩)] wr fun e w' => e = .returned (.int .i64 (endOf st.1 st.2)) ∧ wr = w' := by
  obtain ⟨v2, he⟩ := h
  exact reend_any wr B p v2 st.1 st.2 he
theorem reye_new {w : World} {u : Value} {zs : List Int} (h : RowAt w u zs) (hl : zs.length ≤ 35184372088832) : REyL (w.alloc (.cells #[u, .int .i64 0] 125)) w.heap.size w.heap.size (zs, 0) := by
  have k := (Keeps.refl [] w).alloc (.cells #[u, .int .i64 0] 125)
  refine ⟨u, heap_alloc_new w _, h.keep k (by intro _ _ _ _ _; simp), fun S hS ad n c e hne hm => ?_, Nat.le_refl _, hl⟩
  have hpos : 0 < zs.length := List.length_pos_iff.2 hne
  obtain ⟨g2, off, cap, rfl, _, hc⟩ := h.open hpos
  injection e with e1 _ _
  obtain rfl := Option.some.inj e1
  have h1 := World.block_lt_of_cell? _ _ (hc 0 hpos)
  have h2 := hS _ hm
  simp only at h1 h2
  omega
end Go.Proofs.Ytoglcohdanpciaa
