/- The walk of the laws' awake. -/
import Derived.Test.YtfkafelidkcinaaSame
namespace Go.Proofs.Ytfkafelidkcinaa
open Go.RowKit

/-- A pen that was made since w. -/
structure PenSince (w w' : World) (T : TypeId) (p : Nat) (v : Value) (zs : List Int) (bad : Int) : Prop where
  pen : PenAt w' w.heap.size T 5 p v zs bad
  kept : Keeps [] w w'

theorem PenSince.le {w w' : World} {T p v zs bad} (h : PenSince w w' T p v zs bad) : ∀ k ∈ p :: v.ownBlock.toList, w.heap.size ≤ k := by
  intro k hk
  rcases List.mem_cons.1 hk with rfl | hk
  · exact h.pen.lo
  · exact (h.pen.own.lt k (by simpa using hk)).1

theorem PenSince.new (w : World) {w0 : World} (k : Keeps [] w w0) (T : TypeId) : PenSince w (w0.alloc (.cells #[.slice none 0 0, .int .i64 0] T)) T w0.heap.size (.slice none 0 0) [] 0 :=
  ⟨⟨heap_alloc_new _ _, World.ownsRow_nil _ _ _ _, by simp [Value.ownBlock], k.size, by simp, by simp⟩, k.alloc _⟩

theorem PenSince.step {w w2 w3 : World} {T : TypeId} {p : Nat} {v : Value} {zs : List Int} {bad : Int} {s : List Int × Int} {e : Ending} (h : PenSince w w2 T p v zs bad)
    (hp : PenPost w2 w.heap.size T 5 p v s e w3) : e = .returned (.tuple #[]) ∧ ∃ v', PenSince w w3 T p v' s.1 s.2 := by
  obtain ⟨rfl, v', q1, q2, q3⟩ := hp
  refine ⟨rfl, v', q1, ?_⟩
  exact h.kept.trans' q2 (fun i hi hm => by have := h.le i hm; omega)

/-- An eye that was made since w. -/
structure EyeSince (w w' : World) (p : Nat) (v : Value) (zs : List Int) (bad : Int) : Prop where
  eye : EyeAt w' w.heap.size p v zs bad
  kept : Keeps [] w w'

theorem EyeSince.step {α : Type} {w w2 w3 : World} {p : Nat} {v : Value} {zs : List Int} {bad : Int} {st : Option α × List Int × Int} {zero : Value} {ret : α → World → Ending → Prop} {e : Ending} (h : EyeSince w w2 p v zs bad)
    (hp : EyePost w2 w.heap.size p v st zero ret e w3) : (∃ v', EyeSince w w3 p v' st.2.1 st.2.2) ∧ match st.1 with
    | none => e = .returned zero
    | some x => ret x w3 e := by
  obtain ⟨⟨v', q1, q2⟩, q3, q4⟩ := hp
  exact ⟨⟨v', q1, h.kept.trans' q3 (fun i hi hm => by have := h.eye.lo; simp at hm; omega)⟩, q4⟩

theorem row_lit {w : World} (zs : List Int) (T : TypeId) (hz : ∀ z ∈ zs, 0 ≤ z ∧ z ≤ 255) (n : Nat) (hn : n = zs.length) (hm : n ≤ maxLen) :
    RowAt (w.alloc (.cells (zs.map (Value.int .u8)).toArray T)) (.slice (some ⟨w.heap.size, 0, none⟩) n n) zs := by
  subst hn
  refine ⟨some ⟨w.heap.size, 0, none⟩, zs.length, rfl, Nat.le_refl _, hm, by simp, hz, ?_⟩
  rintro ad had j u hu
  obtain rfl := Option.some.inj had
  rw [Addr.add_lit, cell_of_row _ _ _ _ _ _ (heap_alloc_new w _), Nat.zero_add]
  simpa using hu

theorem BytesPost.good {w : World} {zs : List Int} {e : Ending} {w' : World} (h : BytesPost w (zs, 0) e w') :
    ∃ a c, e = .returned (.tuple #[.slice a zs.length c, .int .i64 0]) ∧ RowAt w' (.slice a zs.length c) zs ∧ (∀ ad, a = some ad → w.heap.size ≤ ad.block) ∧ Keeps [] w w' := h
theorem BytesPost.bad {w : World} {zs : List Int} {b : Int} {e : Ending} {w' : World} (h : BytesPost w (zs, b) e w') (hb : b ≠ 0) :
    ∃ a c, e = .returned (.tuple #[.slice a 0 c, .int .i64 b]) ∧ RowAt w' (.slice a 0 c) [] ∧ (∀ ad, a = some ad → w.heap.size ≤ ad.block) ∧ Keeps [] w w' := by
  obtain ⟨a, c, h1, h2, h3, h4⟩ := h
  simp only [if_neg hb, List.length_nil] at h1 h2
  exact ⟨a, c, h1, h2, h3, h4⟩

theorem codes_ab : codes ⟨#[97, 98]⟩ = [97, 98] := by rfl
theorem awake_bytes : penBool true (penRaw (codes ⟨#[97, 98]⟩) (penNum 5 2 ([], 0))) = ([0, 5, 0, 2, 97, 98, 1], 0) := by decide +kernel
theorem awake_num : after [0, 5, 0, 2, 97, 98, 1] 0 (rdNum 2 [0, 5, 0, 2, 97, 98, 1]) = (some 5, [0, 2, 97, 98, 1], 0) := by decide +kernel
theorem awake_text : after [0, 2, 97, 98, 1] 0 (rdCount 9 [0, 2, 97, 98, 1]) = (some [97, 98], [1], 0) := by decide +kernel
theorem awake_bool : after [1] 0 (rdBool [1]) = (some true, [], 0) := by decide +kernel

set_option maxHeartbeats 1000000 in
theorem awake_any (w : World) :
    Calls Try.prog 10 #[] w fun e w' => e = .returned (.bool true) ∧ Keeps [] w w' := by
  have P1 := hid (PenSince.new w (Keeps.refl [] w) 31)
  have hB := hid (Nat.le_refl w.heap.size)
  go_enter Try.func10, Try.ntmps10
  go_wp2_with fail
  refine (num_any _ w.heap.size w.heap.size _ [] 0 5 2 P1.out.pen P1.out.kept.size).mono ?_
  intro e w2 hq
  obtain ⟨rfl, v2, q2⟩ := P1.out.step hq
  have P2 := hid q2
  clear q2 hq
  go_wp2_with fail
  refine (text_any _ w.heap.size w.heap.size _ _ _ ⟨#[97, 98]⟩ P2.out.pen P2.out.kept.size (by decide)).mono ?_
  intro e w3 hq
  obtain ⟨rfl, v3, q2⟩ := P2.out.step hq
  have P3 := hid q2
  clear q2 hq
  go_wp2_with fail
  refine (bool_any _ w.heap.size w.heap.size _ _ _ true P3.out.pen P3.out.kept.size).mono ?_
  intro e w4 hq
  obtain ⟨rfl, v4, q2⟩ := P3.out.step hq
  have e1 := awake_bytes
  rw [awake_bytes] at q2
  have P4 := hid q2
  clear q2 hq e1
  go_wp2_with fail
  refine (bytes_any _ w.heap.size w.heap.size _ _ _ P4.out.pen).mono ?_
  intro e w5 hq
  obtain ⟨a, c, rfl, q1, q2, q3⟩ := hq.good
  have R5 := hid q1
  have K5 := hid (P4.out.kept.trans q3)
  clear q1 q2 q3 hq
  go_wp2_with fail
  refine (newEye_any _ w.heap.size _ _ R5.out K5.out.size (by decide)).mono ?_
  rintro e w6 ⟨p, v6, rfl, q1, q2, q3, q4⟩
  have R6 := hid (R5.out.keep q3 (by intro _ _ _ _ _; simp))
  have Y6 : Hid (EyeSince w w6 p v6 _ 0) := ⟨q2, K5.out.trans q3⟩
  clear q1 q2 q3 q4
  go_wp2_with fail
  have RL := row_lit (w := w6) [0, 5, 0, 2, 97, 98, 1] 5 (by decide) 7 rfl (by unfold maxLen; omega)
  have KL := hid ((Keeps.refl [] w6).alloc (.cells ([0, 5, 0, 2, 97, 98, 1].map (Value.int .u8)).toArray 5))
  have R7 := R6.out.keep KL.out (by intro _ _ _ _ _; simp)
  refine (same_any _ _ _ _ _ R7 RL (by decide) (by decide)).mono ?_
  rintro e w7 ⟨rfl, n7, rfl⟩
  have KL7 := KL.out.drewN n7
  clear RL R7
  have Y7 : Hid (EyeSince w ((w6.alloc (.cells ([0, 5, 0, 2, 97, 98, 1].map (Value.int .u8)).toArray 5)).drewN n7) p v6 _ 0) := ⟨Y6.out.eye.keep KL7 (by simp) (by intro _ _ _ _ _; simp), Y6.out.kept.trans KL7⟩
  clear KL7
  generalize (w6.alloc (.cells ([0, 5, 0, 2, 97, 98, 1].map (Value.int .u8)).toArray 5)).drewN n7 = w7 at *
  rw [show decide (([0, 5, 0, 2, 97, 98, 1] : List Int) = [0, 5, 0, 2, 97, 98, 1]) = true from rfl]
  go_wp2_with fail
  refine (eyeNum_any _ w.heap.size p v6 _ 0 2 Y7.out.eye).mono ?_
  intro e w8 hq
  rw [awake_num] at hq
  obtain ⟨⟨v8, q1⟩, q2⟩ := Y7.out.step hq
  obtain rfl := q2
  have Y8 := hid q1
  clear q1 hq
  go_wp2_with fail
  refine (eyeText_any _ w.heap.size p v8 _ 0 9 Y8.out.eye).mono ?_
  intro e w9 hq
  rw [awake_text] at hq
  obtain ⟨⟨v9, q1⟩, q2⟩ := Y8.out.step hq
  obtain rfl := q2
  have Y9 := hid q1
  clear q1 hq
  rw [show strOfNums [97, 98] = ⟨#[97, 98]⟩ from rfl]
  go_wp2_with fail
  refine (eyeBool_any _ w.heap.size p v9 _ 0 Y9.out.eye).mono ?_
  intro e w10 hq
  rw [awake_bool] at hq
  obtain ⟨⟨v10, q1⟩, q2⟩ := Y9.out.step hq
  obtain rfl := q2
  have Y10 := hid q1
  clear q1 hq
  go_wp2_with fail
  refine (end_any _ w.heap.size p v10 _ 0 Y10.out.eye).mono ?_
  rintro e w11 ⟨rfl, rfl⟩
  go_wp2_with fail
  go_ret
  exact ⟨rfl, Y10.out.kept⟩
end Go.Proofs.Ytfkafelidkcinaa
