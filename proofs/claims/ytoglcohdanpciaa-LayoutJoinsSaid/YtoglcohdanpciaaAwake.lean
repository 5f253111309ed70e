/- The walk of the laws' awake. -/
import Derived.Test.YtoglcohdanpciaaSame
import Derived.Test.YtoglcohdanpciaaEyJ
namespace Go.Proofs.Ytoglcohdanpciaa
open Go.RowKit

/-- A pen that was made since w. -/
structure PenSince (w w' : World) (T : TypeId) (p : Nat) (v : Value) (zs : List Int) (bad : Int) : Prop where
  pen : PenAt w' w.heap.size T 5 p v zs bad
  kept : Keeps [] w w'

theorem PenSince.le {w w' : World} {T p v zs bad} (h : PenSince w w' T p v zs bad) : ∀ k ∈ p :: v.ownBlock.toList, w.heap.size ≤ k := by
  intro k hk
  rcases List.mem_cons.1 hk with rfl | hk
  · exact h.pen.lo
  · exact (h.pen.own.lt k (by simpa using hk)).1

theorem PenSince.new (w : World) {w0 : World} (k : Keeps [] w w0) (T : TypeId) : PenSince w (w0.alloc (.cells #[.slice none 0 0, .int .i64 0] T)) T w0.heap.size (.slice none 0 0) [] 0 :=
  ⟨⟨heap_alloc_new _ _, World.ownsRow_nil _ _ _ _, by simp [Value.ownBlock], k.size, by simp, by simp⟩, k.alloc _⟩

theorem PenSince.step {w w2 w3 : World} {T : TypeId} {p : Nat} {v : Value} {zs : List Int} {bad : Int} {s : List Int × Int} {e : Ending} (h : PenSince w w2 T p v zs bad)
    (hp : PenPost w2 w.heap.size T 5 p v s e w3) : e = .returned (.tuple #[]) ∧ ∃ v', PenSince w w3 T p v' s.1 s.2 := by
  obtain ⟨rfl, v', q1, q2, q3⟩ := hp
  refine ⟨rfl, v', q1, ?_⟩
  exact h.kept.trans' q2 (fun i hi hm => by have := h.le i hm; omega)

/-- An eye that was made since w. -/
structure EyeSince (w w' : World) (p : Nat) (v : Value) (zs : List Int) (bad : Int) : Prop where
  eye : EyeAt w' w.heap.size p v zs bad
  kept : Keeps [] w w'

theorem EyeSince.step {α : Type} {w w2 w3 : World} {p : Nat} {v : Value} {zs : List Int} {bad : Int} {st : Option α × List Int × Int} {zero : Value} {ret : α → World → Ending → Prop} {e : Ending} (h : EyeSince w w2 p v zs bad)
    (hp : EyePost w2 w.heap.size p v st zero ret e w3) : (∃ v', EyeSince w w3 p v' st.2.1 st.2.2) ∧ match st.1 with
    | none => e = .returned zero
    | some x => ret x w3 e := by
  obtain ⟨⟨v', q1, q2⟩, q3, q4⟩ := hp
  exact ⟨⟨v', q1, h.kept.trans' q3 (fun i hi hm => by have := h.eye.lo; simp at hm; omega)⟩, q4⟩

theorem BytesPost.good {w : World} {zs : List Int} {e : Ending} {w' : World} (h : BytesPost w (zs, 0) e w') :
    ∃ a c, e = .returned (.tuple #[.slice a zs.length c, .int .i64 0]) ∧ RowAt w' (.slice a zs.length c) zs ∧ (∀ ad, a = some ad → w.heap.size ≤ ad.block) ∧ Keeps [] w w' := h
theorem BytesPost.bad {w : World} {zs : List Int} {b : Int} {e : Ending} {w' : World} (h : BytesPost w (zs, b) e w') (hb : b ≠ 0) :
    ∃ a c, e = .returned (.tuple #[.slice a 0 c, .int .i64 b]) ∧ RowAt w' (.slice a 0 c) [] ∧ (∀ ad, a = some ad → w.heap.size ≤ ad.block) ∧ Keeps [] w w' := by
  obtain ⟨a, c, h1, h2, h3, h4⟩ := h
  simp only [if_neg hb, List.length_nil] at h1 h2
  exact ⟨a, c, h1, h2, h3, h4⟩

theorem codes_ab : codes ⟨#[97, 98]⟩ = [97, 98] := by rfl
theorem awake_bytes : penBool true (penRaw (codes ⟨#[97, 98]⟩) (penNum 5 2 ([], 0))) = ([0, 5, 0, 2, 97, 98, 1], 0) := by decide +kernel
theorem awake_num : after [0, 5, 0, 2, 97, 98, 1] 0 (rdNum 2 [0, 5, 0, 2, 97, 98, 1]) = (some 5, [0, 2, 97, 98, 1], 0) := by decide +kernel
theorem awake_text : after [0, 2, 97, 98, 1] 0 (rdCount 9 [0, 2, 97, 98, 1]) = (some [97, 98], [1], 0) := by decide +kernel
theorem awake_bool : after [1] 0 (rdBool [1]) = (some true, [], 0) := by decide +kernel

end Go.Proofs.Ytoglcohdanpciaa
