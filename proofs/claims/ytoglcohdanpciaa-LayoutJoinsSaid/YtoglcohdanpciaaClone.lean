/- The walk of bytes.Clone. -/
import Derived.Test.YtoglcohdanpciaaPenB
namespace Go.Proofs.Ytoglcohdanpciaa
open Go.RowKit

set_option maxHeartbeats 400000 in
theorem clone_any (w : World) (v : Value) (zs : List Int) (h : RowAt w v zs) (hn : zs.length ≤ 35184372088832) :
    Calls Try.prog 113 #[v] w (NewPost w zs) := by
  have HR := hid h
  obtain ⟨a, cap, rfl, h1, h2, h3, h4, h5⟩ := h
  have H4 := hid h4
  obtain ⟨i0, hi, hz0, hz1, hz2⟩ := info_parts info5
  clear h5 h4 h2
  cases a with
  | none =>
    obtain rfl := h3 rfl
    obtain rfl : zs = [] := List.eq_nil_of_length_eq_zero (by omega)
    clear h1 h3
    have hnil : ∀ W, (binOp .eql 34 (.slice none 0 0) (.slice none 0 0)).run Try.prog W = .ok (.bool true) W := fun W => Lib.run_eql_slice_nil W _ _ _ _ _ _ _ Try.underlying34
    simp only [List.length_nil] at *
    go_enter Try.func113, Try.ntmps113
    go_wp2_with fail
    go_ret
    exact ⟨none, 0, rfl, RowAt.nil w, by simp, Keeps.refl _ _⟩
  | some ad =>
    clear h3
    have hnil : ∀ W, (binOp .eql 34 (.slice (some ad) zs.length cap) (.slice none 0 0)).run Try.prog W = .ok (.bool false) W := fun W => Lib.run_eql_slice_nil W _ _ _ _ _ _ _ Try.underlying34
    go_enter Try.func113, Try.ntmps113
    have HO := hid (World.ownsRow_made (base := w.heap.size) (e := 5) (size := 1) w #[] 0 (Nat.le_refl _) (by unfold maxLen; omega) (by simp))
    have HR2 := hid (HR.out.keep ((Keeps.refl [] w).alloc (.cells #[] 5)) (by intro _ _ _ _ _; simp))
    go_wp2_with (at_builtin; refine wpList_append_row rfl _ _ 34 rfl w.heap.size 5 i0 (.int .u8 0) Try.underlying34 hi hz0 hz1 hz2 rfl (.slice (some ⟨w.heap.size, 0, none⟩) 0 0) 0 [] rfl HO.out _ zs rfl HR2.out (by omega) (by simp) ?_; intro a' c' w1 k1 k2 k3; simp only [Nat.zero_add, List.nil_append] at k1 k3 ⊢)
    go_ret
    have k1' := k1.out
    refine ⟨a', c', rfl, row_of_own k1' H4.out, ?_, ?_⟩
    · rintro ad' rfl
      exact (k1'.lt _ rfl).1
    · exact ((Keeps.refl [] w).alloc _).grown k2.out (fun k hk => Or.inr (by simp [Value.ownBlock] at hk; omega))
end Go.Proofs.Ytoglcohdanpciaa
