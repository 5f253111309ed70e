/- Slots: the laws' awake. -/
import Derived.Test.YtnjlhplcagkcnaaSlN
import Derived.Test.YtnjlhplcagkcnaaSame
namespace Go.Proofs.Ytnjlhplcagkcnaa
open Go.RowKit Go.Shelf

theorem blank_alive (c : Nat) : Alive (blankS c) := ⟨rfl, by show (-1 : Int) < 0; omega⟩
theorem hd_zrow : hdOf zrow.1 = some hd0 := by kernel_rfl
theorem blank_good (c first n : Nat) : goodS (blankS c) first n := fun j _ => by
  show hdE zrow.1 = 0
  unfold hdE
  rw [hd_zrow]
  rfl
theorem blank_heads (c first n : Nat) : headsS (blankS c) first n = List.replicate n hd0 := by
  unfold headsS
  rw [List.eq_replicate_iff]
  refine ⟨by simp, fun x hx => ?_⟩
  obtain ⟨j, _, rfl⟩ := List.mem_map.1 hx
  show hdG zrow.1 = hd0
  unfold hdG
  rw [hd_zrow]
  rfl

/-- Slots that were made since w, over a disk that was made since w. -/
structure SlNew (W w : World) (q p g first : Nat) (hs : List Hd) (s : DS) (F : List Nat) (K : Nat) : Prop where
  at_ : SlAt w q p g first hs s F K
  new : W.heap.size ≤ q ∧ W.heap.size ≤ g ∧ ∀ b ∈ F, W.heap.size ≤ b
  kept : Keeps [] W w
theorem SlNew.keep {W w w' : World} {q p g first : Nat} {hs : List Hd} {s : DS} {F : List Nat} {K : Nat} (h : SlNew W w q p g first hs s F K) (k : Keeps [] w w') : SlNew W w' q p g first hs s F K :=
  ⟨h.at_.keep k (by simp) (by simp) (by simp), h.new, h.kept.trans k⟩
theorem SlNew.step {W w w' : World} {q p g first : Nat} {hs hs' : List Hd} {s s' : DS} {F : List Nat} {K K' : Nat} {er : Int} {e : Ending} (h : SlNew W w q p g first hs s F K) (hp : SlPost w q p g first hs' s' F K' er e w') :
    e = .returned (.int .i64 er) ∧ ∃ F', SlNew W w' q p g first hs' s' F' K' := by
  obtain ⟨rfl, F', h1, h2, h3⟩ := hp
  obtain ⟨n1, n2, n3⟩ := h.new
  refine ⟨rfl, F', h1, ⟨n1, n2, fun b hb => ?_⟩, h.kept.trans' h2 (fun i hi hm => ?_)⟩
  · rcases h3 b hb with h4 | h4
    · exact n3 b h4
    · have := h.kept.size; omega
  · simp only [List.mem_cons] at hm
    rcases hm with hm | hm
    · omega
    · have := n3 i hm; omega
theorem SlNew.off {W w : World} {q p g first : Nat} {hs : List Hd} {s : DS} {F : List Nat} {K : Nat} (h : SlNew W w q p g first hs s F K) {v : Value} {zs : List Int} (hr : RowAt W v zs) : Off F v zs := by
  intro ad n c e hne hm
  obtain ⟨a, cap, e2, _, _, _, _, h5⟩ := hr
  rw [e] at e2
  injection e2 with e2 _ _
  obtain ⟨z, l, rfl⟩ := List.exists_cons_of_ne_nil hne
  have h0 : W.cell? (ad.add 0) = some (.int .u8 z) := h5 ad e2.symm 0 _ (by simp)
  have h2 : (ad.add 0).block < W.heap.size := World.block_lt_of_cell? _ _ h0
  rw [Addr.add_block] at h2
  have h1 := h.new.2.2 _ hm
  omega
theorem SlNew.off' {W w : World} {q p g first : Nat} {hs : List Hd} {s : DS} {F : List Nat} {K : Nat} (h : SlNew W w q p g first hs s F K) (bl : Nat) (n c : Nat) (zs : List Int) (hb : w.heap.size ≤ bl) : Off F (.slice (some ⟨bl, 0, none⟩) n c) zs := by
  intro ad n' c' e _ hm
  injection e with e _ _
  obtain rfl := Option.some.inj e
  obtain ⟨m, dm⟩ := h.at_.dk.dm
  have := dm.lt _ hm
  simp at this
  omega

theorem row_two {w : World} (x y : Int) (T : TypeId) (hx : 0 ≤ x ∧ x ≤ 255) (hy : 0 ≤ y ∧ y ≤ 255) : RowAt (w.alloc (.cells #[.int .u8 x, .int .u8 y] T)) (.slice (some ⟨w.heap.size, 0, none⟩) 2 2) [x, y] := by
  refine ⟨some ⟨w.heap.size, 0, none⟩, 2, rfl, by simp, by unfold maxLen; omega, by simp, by simpa using ⟨hx, hy⟩, fun ad had j u hu => ?_⟩
  obtain rfl := Option.some.inj had
  rw [Addr.add_mid, Nat.zero_add, cell_of_row _ _ j _ _ (0, 0) (heap_alloc_new w _)]
  simpa using hu
theorem row_oneS {w : World} (z : Int) (T : TypeId) (hz : 0 ≤ z ∧ z ≤ 255) : RowAt (w.alloc (.cells #[.int .u8 z] T)) (.slice (some ⟨w.heap.size, 0, none⟩) 1 1) [z] := by
  refine ⟨some ⟨w.heap.size, 0, none⟩, 1, rfl, by simp, by unfold maxLen; omega, by simp, by simpa using hz, fun ad had j u hu => ?_⟩
  obtain rfl := Option.some.inj had
  rw [Addr.add_mid, Nat.zero_add, cell_of_row _ _ j _ _ (0, 0) (heap_alloc_new w _)]
  simpa using hu

/-- A new disk of so many sectors, and its slots. -/
theorem hs2 : List.replicate 2 hd0 = [hd0, hd0] := rfl
theorem ok7 : Hd.Ok ⟨true, ([1, 2] : List Int).length, [7]⟩ := ⟨by simp, by simp, by simp, fun h => by cases h⟩
theorem aw5_e : putE [hd0, hd0] 1 (blankS 17) 0 [7] [1, 2] = 0 := by
  have h : putE [hd0, hd0] 1 (blankS 17) 0 [7] [1, 2] = deadE (putD (blankS 17) 1 [7] [1, 2]) := rfl
  rw [h]
  exact ((blank_alive 17).put 1 [7] [1, 2] ok7 (by show 1 + 8 ≤ 17; omega)).1.deadE
theorem aw5_d : (putD (blankS 17) 1 [7] [1, 2]).dead = false := ((blank_alive 17).put 1 [7] [1, 2] ok7 (by show 1 + 8 ≤ 17; omega)).1.1
theorem aw5_s : putS [hd0, hd0] 1 (blankS 17) 0 [7] [1, 2] = putD (blankS 17) 1 [7] [1, 2] := rfl
theorem aw5_h : putH [hd0, hd0] 1 (blankS 17) 0 [7] [1, 2] = [⟨true, 2, [7]⟩, hd0] := by
  have e : putH [hd0, hd0] 1 (blankS 17) 0 [7] [1, 2] = if (true && !(putD (blankS 17) 1 [7] [1, 2]).dead) = true then [⟨true, 2, [7]⟩, hd0] else [hd0, hd0] := rfl
  rw [e, aw5_d]
  rfl
theorem aw5_b : getB (putD (blankS 17) 1 [7] [1, 2]) 1 2 = [1, 2] := getB_put (blank_alive 17) 1 [7] [1, 2] ok7 (by show 1 + 8 ≤ 17; omega) (by simp)

set_option maxRecDepth 100000 in
set_option maxHeartbeats 6400000 in
theorem awake5_any (w : World) : Calls Try.prog 5 #[] w fun e w' => e = .returned (.bool true) ∧ Keeps [] w w' := by
  have AB := hid aw5_b
  go_enter Try.func5, Try.ntmps5
  go_wp2_with fail
  refine (newAt_any 17 (by omega) (by omega) w).mono ?_
  rintro e w1 ⟨p, F1, rfl, d1, l1, k1⟩
  have D1 := hid d1
  have L1 := hid l1
  have K1 := hid k1
  clear d1 l1 k1
  go_wp2_with fail
  refine (lOpen_good w1 p (blankS 17) F1 0 D1.out 1 2 (by show 1 ≤ 17; omega) rfl rfl (blank_good 17 1 2)).mono ?_
  rintro e w2 ⟨q, g, rfl, H2, n1, n2, k2⟩
  rw [blank_heads, hs2] at H2
  have S2 : Hid (SlNew w w2 q p g 1 [hd0, hd0] (blankS 17) F1 0) := hid ⟨H2, ⟨by have := K1.out.size; omega, by have := K1.out.size; omega, L1.out⟩, K1.out.trans k2⟩
  clear H2 n1 n2 k2 D1 L1 K1
  go_wp2_with fail
  refine (lCount_any w2 q p g 1 _ S2.out.at_.sl).mono ?_
  rintro e _ ⟨rfl, rfl⟩
  go_wp2_with fail
  have kA := ((Keeps.refl [] w2).alloc (.cells #[.int .u8 7] 5)).alloc (.cells #[.int .u8 1, .int .u8 2] 5)
  have zA : ((w2.alloc (.cells #[.int .u8 7] 5)).alloc (.cells #[.int .u8 1, .int .u8 2] 5)).heap.size = w2.heap.size + 2 := by simp
  have R7 := (row_oneS (w := w2) 7 5 (by omega)).keep ((Keeps.refl [] _).alloc (.cells #[.int .u8 1, .int .u8 2] 5)) (by intro _ _ _ _ _; simp)
  have R12 := row_two (w := w2.alloc (.cells #[.int .u8 7] 5)) 1 2 5 (by omega) (by omega)
  have z1 : (w2.alloc (.cells #[.int .u8 7] 5)).heap.size = w2.heap.size + 1 := by simp
  rw [z1] at R12
  have S3 := hid (S2.out.keep kA)
  have O7 : Hid (Off F1 (.slice (some ⟨w2.heap.size, 0, none⟩) 1 1) [7]) := hid (S2.out.off' _ _ _ _ (Nat.le_refl _))
  have O12 : Hid (Off F1 (.slice (some ⟨w2.heap.size + 1, 0, none⟩) 2 2) [1, 2]) := hid (S2.out.off' _ _ _ _ (Nat.le_succ _))
  have R7H := hid R7
  have R12H := hid R12
  clear kA zA R7 R12 z1
  generalize (w2.alloc (.cells #[.int .u8 7] 5)).alloc (.cells #[.int .u8 1, .int .u8 2] 5) = w3 at S3 R7H R12H ⊢
  refine (lPut_any w3 q p g 1 _ _ F1 0 S3.out.at_ (by omega) 0 _ [7] R7H.out O7.out _ [1, 2] R12H.out O12.out).mono ?_
  intro e w4 hp
  obtain ⟨rfl, F4, q4⟩ := S3.out.step hp
  rw [aw5_e]
  rw [aw5_s, aw5_h] at q4
  have S4 := hid q4
  clear hp q4 S2 S3 O7 O12 R7H R12H
  go_wp2_with fail
  have hg := callsIn_wide.1 (get_in 9 (by omega) w4 q p g 1 _ _ F4 _ S4.out.at_ 0 1 rfl (by simp) rfl aw5_d)
  refine hg.mono ?_
  rintro e w5 ⟨v5, rfl, r5, _, k5⟩
  have R5 : Hid (RowAt w5 v5 [1, 2]) := hid (by have := r5; rw [show ([(⟨true, 2, [7]⟩ : Hd), hd0][0]).held = 2 from rfl, AB.out] at this; exact this)
  have S5 := hid (S4.out.keep k5)
  clear r5 k5 hg S4
  go_wp2_with fail
  have kA := (Keeps.refl [] w5).alloc (.cells #[.int .u8 1, .int .u8 2] 5)
  refine (same_true _ _ _ [1, 2] (R5.out.keep kA (by intro _ _ _ _ _; simp)) (row_two (w := w5) 1 2 5 (by omega) (by omega)) (by simp)).mono ?_
  rintro e w6 ⟨rfl, k6⟩
  have S6 := hid (S5.out.keep (kA.trans k6))
  clear kA k6 S5 R5
  go_wp2_with fail
  have kB := (Keeps.refl [] w6).alloc (.cells #[.int .u8 7] 5)
  have fnd := lFind_any _ q p g 1 _ (S6.out.keep kB).at_.sl _ [7] (row_oneS (w := w6) 7 5 (by omega))
  have fe : findS [⟨true, 2, [7]⟩, hd0] [7] = 0 := by decide +kernel
  rw [fe] at fnd
  have FND := hid fnd
  have S7 := hid (S6.out.keep kB)
  clear fnd fe kB
  refine FND.out.mono ?_
  rintro e w7 ⟨rfl, k7⟩
  have S8 := hid (S7.out.keep k7)
  clear k7 S6 S7
  go_wp2_with fail
  have fr := lFree_any w7 q p g 1 _ S8.out.at_.sl
  have fe : freeS [⟨true, 2, [7]⟩, hd0] = 1 := by decide +kernel
  rw [fe] at fr
  have FR := hid fr
  clear fr fe
  refine FR.out.mono ?_
  rintro e w8 ⟨rfl, k8⟩
  have K8 := hid (S8.out.kept.trans k8)
  clear k8
  go_wp2_with fail
  go_ret
  exact ⟨rfl, K8.out⟩
end Go.Proofs.Ytnjlhplcagkcnaa
