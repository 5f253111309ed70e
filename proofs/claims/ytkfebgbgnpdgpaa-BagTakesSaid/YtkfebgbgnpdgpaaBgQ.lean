/- bag: the walk of the laws' awake; the law BagKnown's walk. -/
import Derived.Test.YtkfebgbgnpdgpaaBgP
namespace Go.Proofs.Ytkfebgbgnpdgpaa
open Go.RowKit Go.Shelf
set_option maxRecDepth 100000

/-- What a call on a bag leaves, with its blocks named. -/
def BagF (T E : TypeId) (w : World) (p : Nat) (F : List Nat) (most : Int) (ms : List Mg) : Prop := ∃ X v, BagAt T E w p X v most ms ∧ F = bfoot p X v

theorem BagF.keep {T E w p F most ms} {w' : World} {S : List Nat} (h : BagF T E w p F most ms) (k : Keeps S w w') (hs : ∀ b ∈ F, b ∉ S) : BagF T E w' p F most ms := by
  obtain ⟨X, v, h, rfl⟩ := h
  exact ⟨X, v, h.keep k hs, rfl⟩
theorem BagF.later {T E w p F most ms} {w' : World} (h : BagF T E w p F most ms) (k : Keeps [] w w') : BagF T E w' p F most ms := h.keep k (by simp)
theorem BagF.lt {T E w p F most ms} (h : BagF T E w p F most ms) : ∀ b ∈ F, b < w.heap.size := by
  obtain ⟨X, v, h, rfl⟩ := h
  exact h.ltF
theorem BagF.few {T E w p F most ms} (h : BagF T E w p F most ms) : ms.length ≤ 64 := by
  obtain ⟨X, v, h, rfl⟩ := h
  have := h.fits
  have := h.m2
  omega

theorem Fr.newF {w : World} {F F' : List Nat} {B : Nat} (f : Fr w F F') (h : ∀ b ∈ F, B ≤ b) (hB : B ≤ w.heap.size) : ∀ b ∈ F', B ≤ b := fun b hb => by
  rcases f b hb with h1 | h1
  · exact h b h1
  · omega
theorem Keeps.ofNew {w w1 w2 : World} {F : List Nat} (k : Keeps [] w w1) (k2 : Keeps F w1 w2) (h : ∀ b ∈ F, w.heap.size ≤ b) : Keeps [] w w2 := k.trans' k2 (fun j hj hm => by have := h j hm; omega)

theorem mg_is {m : Mg} {f t : Int} {bs : List Int} (h : con m = (f, t, bs)) : ∃ row, m = ⟨f, t, row, bs⟩ := by
  obtain ⟨a, b, c, d⟩ := m
  simp only [con, Prod.mk.injEq] at h
  obtain ⟨rfl, rfl, rfl⟩ := h
  exact ⟨c, rfl⟩

theorem ok_lit {w : World} (f t z : Int) (hz : 0 ≤ z ∧ z ≤ 255) (hf : i64 f) (ht : i64 t) : MgOk (w.alloc (.cells #[.int .u8 z] 5)) [w.heap.size] ⟨f, t, .slice (some ⟨w.heap.size, 0, none⟩) 1 1, [z]⟩ :=
  ⟨row_oneK z 5 hz, fun ad n c e _ => by injection e with e _ _; obtain rfl := Option.some.inj e; simp, by simp, hf, ht⟩

set_option maxHeartbeats 6400000 in
theorem bAwake_any (w : World) : Calls Try.prog 10 #[] w fun e w' => e = .returned (.bool true) ∧ Keeps [] w w' := by
  go_enter Try.func10, Try.ntmps10
  go_wp2_with fail
  refine (bNew_any w 2 (by constructor <;> decide)).mono ?_
  rintro e w1 (⟨h, _⟩ | ⟨_, p, hp, rfl, H1, k1⟩)
  · exact absurd ⟨by decide, by decide⟩ h
  have HB := hid H1
  have K1 := hid k1
  clear H1 k1
  go_wp2_with fail
  have ka := (Keeps.refl [] w1).alloc (.cells #[.int .u8 3] 5)
  have ok := ok_lit (w := w1) 1 2 3 (by decide) (by constructor <;> decide) (by constructor <;> decide)
  have hA := HB.out.later ka
  have KA := hid (K1.out.trans ka)
  have hg : w1.heap.size < (w1.alloc (.cells #[.int .u8 3] 5)).heap.size := by simp
  generalize w1.alloc (.cells #[.int .u8 3] 5) = w2 at ka ok hA KA hg ⊢
  refine (bPut_any w2 p [] _ 2 [] hA _ _ ok).mono ?_
  rintro e w3 (⟨h, _⟩ | ⟨_, rfl, X, v, m', H3, hc, k3, f3⟩)
  · simp at h
  have H3' := hid H3
  have HC := hid hc
  have NW1 : ∀ b ∈ bfoot p [] (.slice none 0 0), w.heap.size ≤ b := fun b hb => by
    rcases mem_bfoot.1 hb with rfl | hm | hm
    · exact hp
    · simp [Value.ownBlock] at hm
    · simp at hm
  have K3 := hid (KA.out.ofNew k3 NW1)
  have NW3 := hid (f3.newF NW1 KA.out.size)
  clear NW1
  clear ka ok hA k3 hc H3 f3 hg
  go_wp2_with fail
  refine (bTake_any w3 p X v 2 _ H3'.out 0 (by constructor <;> decide)).mono ?_
  rintro e w4 (⟨h, _⟩ | ⟨i, hi, hm, m2, Y, rfl, hc2, ok2, f4, l4, X4, v4, H4, k4, fr4⟩)
  · simp at h
  have hi0 : i = 0 := by simp at hi; omega
  subst hi0
  obtain ⟨row, rfl⟩ : ∃ row, m2 = ⟨1, 2, row, [3]⟩ := mg_is (by
    rw [hc2]
    simpa [con] using HC.out)
  obtain ⟨ra, rc, hrow, -⟩ := ok2.row
  simp only at hrow
  subst hrow
  have OK2 := hid ok2
  have H4' := hid H4
  have K4 := hid (K3.out.ofNew k4 NW3.out)
  clear k4 fr4 H4 ok2 hc2 hm f4 l4
  simp only [mgV]
  go_wp2_with fail
  have k5 := ((Keeps.refl [] w4).alloc (.cells #[.int .i64 1, .int .i64 2, .slice ra 1 rc] 33)).alloc (.cells #[.int .u8 3] 5)
  have r5 := row_oneK (w := w4.alloc (.cells #[.int .i64 1, .int .i64 2, .slice ra 1 rc] 33)) 3 5 (by decide)
  rw [World.size_alloc] at r5
  have r4 := OK2.out.row.keep k5 (by intro _ _ _ _ _; simp)
  have h5 := H4'.out.later k5
  have K5 := hid (K4.out.trans k5)
  generalize (w4.alloc (.cells #[.int .i64 1, .int .i64 2, .slice ra 1 rc] 33)).alloc (.cells #[.int .u8 3] 5) = w5 at k5 r5 r4 h5 K5 ⊢
  have H5 := hid h5
  refine (same_any w5 _ _ [3] [3] r4 r5 (by decide) (by decide)).mono ?_
  rintro e w6 ⟨rfl, n6, rfl⟩
  have H6 := hid (H5.out.later ((Keeps.refl [] w5).drewN n6))
  have K6 := hid (K5.out.drewN n6)
  clear k5 r5 r4 h5
  generalize w5.drewN n6 = w6 at H6 K6 ⊢
  go_wp2_with fail
  refine (bLen_any w6 p X4 v4 2 _ H6.out).mono ?_
  rintro e _ ⟨rfl, rfl⟩
  go_wp2_with fail
  go_ret
  exact ⟨rfl, K6.out⟩
end Go.Proofs.Ytkfebgbgnpdgpaa
