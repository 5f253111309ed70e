/- The walk of the law BagKnown. -/
import Derived.Test.YtehbibimfjipiaaBgQ
namespace Go.Proofs.Ytehbibimfjipiaa
open Go.RowKit Go.Shelf
set_option maxRecDepth 100000

theorem ok_nil7 (w : World) (f t : Int) (hf : i64 f) (ht : i64 t) : MgOk w [] ⟨f, t, .slice none 0 0, []⟩ :=
  ⟨RowAt.nil w, fun _ _ _ _ h => absurd rfl h, by simp, hf, ht⟩

theorem Fr.up {w w1 : World} {F F' : List Nat} (f : Fr w1 F F') (h : ∀ b ∈ F, w.heap.size ≤ b) (k : Keeps [] w w1) : ∀ b ∈ F', w.heap.size ≤ b := f.newF h k.size

set_option maxHeartbeats 6400000 in
theorem bKnown_any (w : World) : Calls Try.prog 3 #[] w fun e w' => e = .returned (.bool true) ∧ Keeps [] w w' := by
  go_enter Try.func3, Try.ntmps3
  go_wp2_with fail
  refine (bAwake_any w).mono ?_
  rintro e w1 ⟨rfl, k1⟩
  have K1 := hid k1
  clear k1
  go_wp2_with fail
  refine (bNew_any w1 2 (by constructor <;> decide)).mono ?_
  rintro e w2 (⟨h, _⟩ | ⟨_, p, hp, rfl, H2, k2⟩)
  · exact absurd ⟨by decide, by decide⟩ h
  have K2 := hid (K1.out.trans k2)
  have H2' := hid H2
  have N2 : Hid (∀ b ∈ bfoot p [] (.slice none 0 0), w.heap.size ≤ b) := hid fun b hb => by
    have := K1.out.size
    rcases mem_bfoot.1 hb with rfl | hm | hm
    · omega
    · simp [Value.ownBlock] at hm
    · simp at hm
  clear k2 H2
  go_wp2_with fail
  refine (bNew_any w2 0 (by constructor <;> decide)).mono ?_
  rintro e w3 (⟨_, rfl, rfl⟩ | ⟨h, _⟩)
  rotate_left
  · omega
  go_wp2_with fail
  refine (bPut_any w2 p [] _ 2 [] H2'.out ⟨0, 1, .slice none 0 0, []⟩ [] (ok_nil7 _ _ _ (by constructor <;> decide) (by constructor <;> decide))).mono ?_
  rintro e w4 (⟨h, _⟩ | ⟨_, rfl, X4, v4, m4, H4, hc4, k4, f4⟩)
  · simp at h
  have K4 := hid (K2.out.ofNew k4 N2.out)
  have N4 := hid (f4.up N2.out K2.out)
  have H4' := hid H4
  clear k4 f4 hc4 H4
  go_wp2_with fail
  refine (bPut_any w4 p X4 v4 2 _ H4'.out ⟨0, 2, .slice none 0 0, []⟩ [] (ok_nil7 _ _ _ (by constructor <;> decide) (by constructor <;> decide))).mono ?_
  rintro e w5 (⟨h, _⟩ | ⟨_, rfl, X5, v5, m5, H5, hc5, k5, f5⟩)
  · simp at h
  have K5 := hid (K4.out.ofNew k5 N4.out)
  have N5 := hid (f5.up N4.out K4.out)
  have H5' := hid H5
  have HC5 := hid hc5
  clear k5 f5 hc5 H5
  go_wp2_with fail
  refine (bPut_any w5 p X5 v5 2 _ H5'.out ⟨0, 3, .slice none 0 0, []⟩ [] (ok_nil7 _ _ _ (by constructor <;> decide) (by constructor <;> decide))).mono ?_
  rintro e w6 (⟨_, rfl, k6⟩ | ⟨h, _⟩)
  rotate_left
  · simp at h
  have K6 := hid (K5.out.trans k6)
  have H6' := hid (H5'.out.later k6)
  clear k6
  go_wp2_with fail
  refine (bTake_any w6 p X5 v5 2 _ H6'.out (-1) (by constructor <;> decide)).mono ?_
  rintro e w7 (⟨h, _⟩ | ⟨i, hi, hm, m7, Y, rfl, hc7, ok7, f7, l7, X7, v7, H7, k7, fr7⟩)
  · simp at h
  have hi1 : i = 1 := by
    have e : ((-1 : Int) % (([] ++ [m4] ++ [m5] : List Mg).length : Int)) = 1 := by simp
    rw [e] at hm
    omega
  subst hi1
  obtain ⟨row, rfl⟩ : ∃ row, m7 = ⟨0, 2, row, []⟩ := mg_is (by
    rw [hc7]
    simpa [con] using HC5.out)
  obtain ⟨ra, rc, hrow, -⟩ := ok7.row
  simp only at hrow
  subst hrow
  have K7 := hid (K6.out.ofNew k7 N5.out)
  have H7' := hid H7
  clear k7 fr7 H7 ok7 hc7 hm f7 l7 hi
  simp only [mgV]
  go_wp2_with fail
  have k8 := (Keeps.refl [] w7).alloc (.cells #[.int .i64 0, .int .i64 2, .slice ra 0 rc] 30)
  have h8 := H7'.out.later k8
  have K8 := hid (K7.out.trans k8)
  generalize w7.alloc (.cells #[.int .i64 0, .int .i64 2, .slice ra 0 rc] 30) = w8 at k8 h8 K8 ⊢
  refine (bLen_any w8 p X7 v7 2 _ h8).mono ?_
  rintro e _ ⟨rfl, rfl⟩
  simp only [List.nil_append, List.cons_append, List.take_succ_cons, List.take_zero, List.drop_succ_cons, List.drop_nil, List.length_cons, List.length_nil, List.append_nil]
  clear k8 h8
  go_wp2_with fail
  go_ret
  exact ⟨rfl, K8.out⟩
end Go.Proofs.Ytehbibimfjipiaa
