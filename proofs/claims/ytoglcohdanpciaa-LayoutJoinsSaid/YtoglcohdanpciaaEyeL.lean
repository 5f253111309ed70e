/- The eye in a later world: a number read (for every layer). -/
import Derived.Test.YtoglcohdanpciaaEyJ
namespace Go.Proofs.Ytoglcohdanpciaa
open Go.RowKit
set_option maxRecDepth 100000
set_option linter.unusedSimpArgs false

abbrev PSt := List Int × Int
/-- What a read of a number answers, and what is left behind it. -/
def numE (n : Int) (st : PSt) : Int × PSt := (((after st.1 st.2 (rdNum n st.1)).1).getD 0, (after st.1 st.2 (rdNum n st.1)).2)
def EyN (w : World) (B p : Nat) (v : Value) (st : PSt) (e : Ending) (w' : World) (x : Int) : Prop :=
  e = .returned (.int .i64 x) ∧ (∃ v2, EyeAt w' B p v2 st.1 st.2 ∧ SameBlk v v2) ∧ Keeps [p] w w'
theorem eyNum (w : World) (B p : Nat) (v : Value) (st : PSt) (n : Int) (h : EyeAt w B p v st.1 st.2) :
    Calls Try.prog 109 #[.pointer (some ⟨p, 0, none⟩), .int .i64 n] w fun e w' => EyN w B p v (numE n st).2 e w' (numE n st).1 :=
  (eyeNum_any w B p v st.1 st.2 n h).mono fun e w' ⟨h1, k, m⟩ => by
    refine ⟨?_, h1, k⟩
    unfold numE
    cases hr : (after st.1 st.2 (rdNum n st.1)).1 with
    | none => rw [hr] at m; exact m
    | some x => rw [hr] at m; exact m
theorem numE_ne {n : Int} {st : PSt} (h : (numE n st).2.1 ≠ []) : st.1 ≠ [] := by
  intro e
  apply h
  unfold numE after rdNum
  rw [e]
  by_cases h1 : st.2 ≠ 0
  · rw [if_pos h1]
  · rw [if_neg h1]
    split
    · rfl
    · rename_i heq
      split at heq
      · cases heq
      · split at heq
        · cases heq
        · simp at heq; rw [heq.2]
theorem off_oldB {w : World} {u : Value} {zs : List Int} (h : RowAt w u zs) {g : Nat} (hg : w.heap.size ≤ g) : Off [g] u zs := by
  intro ad n c e hne hm
  have hpos : 0 < zs.length := List.length_pos_iff.2 hne
  obtain ⟨g2, off, cap, rfl, _, hc⟩ := h.open hpos
  injection e with e1 _ _
  obtain rfl := Option.some.inj e1
  have := World.block_lt_of_cell? _ _ (hc 0 hpos)
  simp at hm this
  omega
/-- The row's block is none of those from B on. -/
def OffB (B : Nat) (v : Value) (zs : List Int) : Prop := ∀ g, B ≤ g → Off [g] v zs
theorem OffB.same {B : Nat} {v v2 : Value} {zs ys : List Int} (h : OffB B v zs) (k : SameBlk v v2) (hz : ys ≠ [] → zs ≠ []) : OffB B v2 ys := by
  intro g hg ad n c e hy hm
  simp at hm
  obtain ⟨ad', n', c', rfl, hb⟩ := k ad n c e
  have := h g hg ad' n' c' rfl (hz hy)
  simp at this
  exact this (by rw [hb, hm])
theorem five_cells {w : World} {b : Nat} {cs : Array Value} {T : TypeId} (h : w.heap[b]? = some (.cells cs T (0, 0))) (i : Nat) : w.cell? ⟨b, i, none⟩ = cs[i]? ∧ w.frozen? ⟨b, i, none⟩ = false := by
  simp [World.cell?, World.frozen?, h]
/-- An eye in a later world: what it holds, and that its row lies as before. -/
def EyL (w w' : World) (B p : Nat) (v : Value) (st : PSt) : Prop := ∃ v2, EyeAt w' B p v2 st.1 st.2 ∧ SameBlk v v2 ∧ OffB w.heap.size v2 st.1
theorem EyL.num {w wr : World} {B p : Nat} {v : Value} {st : PSt} (h : EyL w wr B p v st) (n : Int) :
    Calls Try.prog 109 #[.pointer (some ⟨p, 0, none⟩), .int .i64 n] wr fun e w' => e = .returned (.int .i64 (numE n st).1) ∧ EyL w w' B p v (numE n st).2 ∧ Keeps [p] wr w' := by
  obtain ⟨v2, he, hs, ho⟩ := h
  exact (eyNum wr B p v2 st n he).mono fun e w' ⟨h1, ⟨v3, h3, hs3⟩, k⟩ => ⟨h1, ⟨v3, h3, hs.trans hs3, ho.same hs3 numE_ne⟩, k⟩
theorem EyL.later {w wr w' : World} {B p g : Nat} {v : Value} {st : PSt} (h : EyL w wr B p v st) (k : Keeps [g] wr w') (hg : w.heap.size ≤ g) (hp : p ≠ g) : EyL w w' B p v st := by
  obtain ⟨v2, he, hs, ho⟩ := h
  exact ⟨v2, he.keep k (by simpa using hp) (ho g hg), hs, ho⟩
theorem EyL.more {w wr w' : World} {B p : Nat} {v : Value} {st : PSt} (h : EyL w wr B p v st) (k : Keeps [] wr w') : EyL w w' B p v st := by
  obtain ⟨v2, he, hs, ho⟩ := h
  exact ⟨v2, he.keep k (by simp) (by intro _ _ _ _ _; simp), hs, ho⟩
theorem EyL.lt {w wr : World} {B p : Nat} {v : Value} {st : PSt} (h : EyL w wr B p v st) : p < wr.heap.size := by
  obtain ⟨v2, he, _⟩ := h
  exact he.lt
theorem EyL.fail {w wr : World} {B p : Nat} {v : Value} {st : PSt} (h : EyL w wr B p v st) : Calls Try.prog 110 #[.pointer (some ⟨p, 0, none⟩)] wr fun e w' => e = .returned (.int .i64 st.2) ∧ wr = w' := by
  obtain ⟨v2, he, _⟩ := h
  exact fail_any wr B p v2 st.1 st.2 he
theorem set_keep {w : World} {b i : Nat} {u : Value} : Keeps [b] w (w.setCell ⟨b, i, none⟩ u) := (Keeps.refl [b] w).setCell (Or.inl (by simp)) _
theorem set_five {w : World} {b i : Nat} {A : Array Value} {T : TypeId} (h : w.heap[b]? = some (.cells A T (0, 0))) (u : Value) : (w.setCell ⟨b, i, none⟩ u).heap[b]? = some (.cells (A.setIfInBounds i u) T (0, 0)) := by
  have hlt := lt_of_block h
  have h' : w.heap[b] = .cells A T (0, 0) := by simpa [Array.getElem?_eq_getElem hlt] using h
  show (w.heap.modify b _)[b]? = _
  rw [Array.getElem?_eq_getElem (by simpa using hlt), Array.getElem_modify_self, h']
  rfl
end Go.Proofs.Ytoglcohdanpciaa
