/- Slots: the laws' awake. -/
import Derived.Test.YtnhcfkiejldicaaGreatSlN
import Derived.Test.YtnhcfkiejldicaaGreatSame
namespace Go.Proofs.YtnhcfkiejldicaaGreat
open Go.RowKit Go.Shelf

theorem blank_alive (c : Nat) : Alive (blankS c) := ⟨rfl, by show (-1 : Int) < 0; omega⟩
theorem hd_zrow : hdOf zrow.1 = some hd0 := by kernel_rfl
theorem blank_good (c first n : Nat) : goodS (blankS c) first n := fun j _ => by
  show hdE zrow.1 = 0
  unfold hdE
  rw [hd_zrow]
  rfl
theorem blank_heads (c first n : Nat) : headsS (blankS c) first n = List.replicate n hd0 := by
  unfold headsS
  rw [List.eq_replicate_iff]
  refine ⟨by simp, fun x hx => ?_⟩
  obtain ⟨j, _, rfl⟩ := List.mem_map.1 hx
  show hdG zrow.1 = hd0
  unfold hdG
  rw [hd_zrow]
  rfl

/-- Slots that were made since w, over a disk that was made since w. -/
structure SlNew (W w : World) (q p g first : Nat) (hs : List Hd) (s : DS) (F : List Nat) (K : Nat) : Prop where
  at_ : SlAt w q p g first hs s F K
  new : W.heap.size ≤ q ∧ W.heap.size ≤ g ∧ ∀ b ∈ F, W.heap.size ≤ b
  kept : Keeps [] W w
theorem SlNew.keep {W w w' : World} {q p g first : Nat} {hs : List Hd} {s : DS} {F : List Nat} {K : Nat} (h : SlNew W w q p g first hs s F K) (k : Keeps [] w w') : SlNew W w' q p g first hs s F K :=
  ⟨h.at_.keep k (by simp) (by simp) (by simp), h.new, h.kept.trans k⟩
theorem SlNew.step {W w w' : World} {q p g first : Nat} {hs hs' : List Hd} {s s' : DS} {F : List Nat} {K K' : Nat} {er : Int} {e : Ending} (h : SlNew W w q p g first hs s F K) (hp : SlPost w q p g first hs' s' F K' er e w') :
    e = .returned (.int .i64 er) ∧ ∃ F', SlNew W w' q p g first hs' s' F' K' := by
  obtain ⟨rfl, F', h1, h2, h3⟩ := hp
  obtain ⟨n1, n2, n3⟩ := h.new
  refine ⟨rfl, F', h1, ⟨n1, n2, fun b hb => ?_⟩, h.kept.trans' h2 (fun i hi hm => ?_)⟩
  · rcases h3 b hb with h4 | h4
    · exact n3 b h4
    · have := h.kept.size; omega
  · simp only [List.mem_cons] at hm
    rcases hm with hm | hm
    · omega
    · have := n3 i hm; omega
theorem SlNew.off {W w : World} {q p g first : Nat} {hs : List Hd} {s : DS} {F : List Nat} {K : Nat} (h : SlNew W w q p g first hs s F K) {v : Value} {zs : List Int} (hr : RowAt W v zs) : Off F v zs := by
  intro ad n c e hne hm
  obtain ⟨a, cap, e2, _, _, _, _, h5⟩ := hr
  rw [e] at e2
  injection e2 with e2 _ _
  obtain ⟨z, l, rfl⟩ := List.exists_cons_of_ne_nil hne
  have h0 : W.cell? (ad.add 0) = some (.int .u8 z) := h5 ad e2.symm 0 _ (by simp)
  have h2 : (ad.add 0).block < W.heap.size := World.block_lt_of_cell? _ _ h0
  rw [Addr.add_block] at h2
  have h1 := h.new.2.2 _ hm
  omega
theorem SlNew.off' {W w : World} {q p g first : Nat} {hs : List Hd} {s : DS} {F : List Nat} {K : Nat} (h : SlNew W w q p g first hs s F K) (bl : Nat) (n c : Nat) (zs : List Int) (hb : w.heap.size ≤ bl) : Off F (.slice (some ⟨bl, 0, none⟩) n c) zs := by
  intro ad n' c' e _ hm
  injection e with e _ _
  obtain rfl := Option.some.inj e
  obtain ⟨m, dm⟩ := h.at_.dk.dm
  have := dm.lt _ hm
  simp at this
  omega

theorem row_two {w : World} (x y : Int) (T : TypeId) (hx : 0 ≤ x ∧ x ≤ 255) (hy : 0 ≤ y ∧ y ≤ 255) : RowAt (w.alloc (.cells #[.int .u8 x, .int .u8 y] T)) (.slice (some ⟨w.heap.size, 0, none⟩) 2 2) [x, y] := by
  refine ⟨some ⟨w.heap.size, 0, none⟩, 2, rfl, by simp, by unfold maxLen; omega, by simp, by simpa using ⟨hx, hy⟩, fun ad had j u hu => ?_⟩
  obtain rfl := Option.some.inj had
  rw [Addr.add_mid, Nat.zero_add, cell_of_row _ _ j _ _ (0, 0) (heap_alloc_new w _)]
  simpa using hu
theorem row_oneS {w : World} (z : Int) (T : TypeId) (hz : 0 ≤ z ∧ z ≤ 255) : RowAt (w.alloc (.cells #[.int .u8 z] T)) (.slice (some ⟨w.heap.size, 0, none⟩) 1 1) [z] := by
  refine ⟨some ⟨w.heap.size, 0, none⟩, 1, rfl, by simp, by unfold maxLen; omega, by simp, by simpa using hz, fun ad had j u hu => ?_⟩
  obtain rfl := Option.some.inj had
  rw [Addr.add_mid, Nat.zero_add, cell_of_row _ _ j _ _ (0, 0) (heap_alloc_new w _)]
  simpa using hu

/-- A new disk of so many sectors, and its slots. -/
theorem hs2 : List.replicate 2 hd0 = [hd0, hd0] := rfl
theorem ok7 : Hd.Ok ⟨true, ([1, 2] : List Int).length, [7]⟩ := ⟨by simp, by simp, by simp, fun h => by cases h⟩
theorem aw5_e : putE [hd0, hd0] 1 (blankS 17) 0 [7] [1, 2] = 0 := by
  have h : putE [hd0, hd0] 1 (blankS 17) 0 [7] [1, 2] = deadE (putD (blankS 17) 1 [7] [1, 2]) := rfl
  rw [h]
  exact ((blank_alive 17).put 1 [7] [1, 2] ok7 (by show 1 + 8 ≤ 17; omega)).1.deadE
theorem aw5_d : (putD (blankS 17) 1 [7] [1, 2]).dead = false := ((blank_alive 17).put 1 [7] [1, 2] ok7 (by show 1 + 8 ≤ 17; omega)).1.1
theorem aw5_s : putS [hd0, hd0] 1 (blankS 17) 0 [7] [1, 2] = putD (blankS 17) 1 [7] [1, 2] := rfl
theorem aw5_h : putH [hd0, hd0] 1 (blankS 17) 0 [7] [1, 2] = [⟨true, 2, [7]⟩, hd0] := by
  have e : putH [hd0, hd0] 1 (blankS 17) 0 [7] [1, 2] = if (true && !(putD (blankS 17) 1 [7] [1, 2]).dead) = true then [⟨true, 2, [7]⟩, hd0] else [hd0, hd0] := rfl
  rw [e, aw5_d]
  rfl
theorem aw5_b : getB (putD (blankS 17) 1 [7] [1, 2]) 1 2 = [1, 2] := getB_put (blank_alive 17) 1 [7] [1, 2] ok7 (by show 1 + 8 ≤ 17; omega) (by simp)

end Go.Proofs.YtnhcfkiejldicaaGreat
