/- Walks of the reference's Copy and Bytes; what both pens make of the same calls. -/
import Derived.Test.YteeagemlaolhjaaRefB
namespace Go.Proofs.Yteeagemlaolhjaa
open Go.RowKit

/-- A row of the call's own, in new memory. -/
def OwnPost (w : World) (zs : List Int) (e : Ending) (w' : World) : Prop :=
  ∃ a c, e = .returned (.slice a zs.length c) ∧ w'.ownsRow w.heap.size 5 1 (.slice a zs.length c) zs.length (zs.map (Value.int .u8)) ∧ Keeps [] w w'

theorem OwnPost.new {w : World} {zs : List Int} {e : Ending} {w' : World} (h : OwnPost w zs e w') (hz : ∀ z ∈ zs, 0 ≤ z ∧ z ≤ 255) : NewPost w zs e w' := by
  obtain ⟨a, c, h1, h2, h3⟩ := h
  refine ⟨a, c, h1, row_of_own h2 hz, ?_, h3⟩
  rintro ad rfl
  exact (h2.lt _ rfl).1

/-- Both pens are in one state. -/
def Rel (s r : List Int × Int) : Prop := s.2 = r.2 ∧ (s.2 = 0 → s.1 = r.1)

theorem range_iff (x : Int) (n : Nat) (hx : 0 ≤ x) : x / 2 ^ (8 * n) = 0 ↔ x < 2 ^ (8 * n) := by
  have hp : (0 : Int) < 2 ^ (8 * n) := Int.pow_pos (by omega)
  constructor
  · intro h
    have h1 := Int.lt_ediv_add_one_mul_self x hp
    rw [h] at h1
    omega
  · exact fun h => Int.ediv_eq_zero_of_lt hx h

theorem Rel.num {s r : List Int × Int} (h : Rel s r) (x n : Int) : Rel (penNum x n s) (refNum x n r) := by
  obtain ⟨h1, h2⟩ := h
  unfold penNum refNum
  by_cases hb : r.2 = 0
  · have hs := h2 (by omega)
    rw [if_pos hb]
    by_cases hv : 1 ≤ n ∧ n ≤ 7 ∧ 0 ≤ x ∧ x < 2 ^ (8 * n.toNat)
    · rw [if_pos hv, if_pos ⟨hv.1, hv.2.1, hv.2.2.1, (range_iff x _ hv.2.2.1).2 hv.2.2.2⟩]
      unfold penAdd refAdd
      rw [if_neg (by omega), if_pos hb, hs]
      by_cases hl : 65536 < r.1.length + (be x n.toNat).length
      · rw [if_pos hl, if_pos hl]; exact ⟨rfl, by simp⟩
      · rw [if_neg hl, if_neg hl]; exact ⟨rfl, fun _ => rfl⟩
    · rw [if_neg hv, if_neg (fun hc => hv ⟨hc.1, hc.2.1, hc.2.2.1, (range_iff x _ hc.2.2.1).1 hc.2.2.2⟩)]
      unfold penFail
      rw [if_pos (by omega)]
      exact ⟨rfl, by simp⟩
  · rw [if_neg hb]
    have hs : s.2 ≠ 0 := by omega
    split
    · unfold penAdd; rw [if_pos hs]; exact ⟨h1, fun hc => absurd hc hs⟩
    · unfold penFail; rw [if_neg hs]; exact ⟨h1, fun hc => absurd hc hs⟩

theorem Rel.add {s r : List Int × Int} (h : Rel s r) (bs : List Int) : Rel (penAdd bs s) (refAdd bs r) := by
  obtain ⟨h1, h2⟩ := h
  unfold penAdd refAdd
  by_cases hb : r.2 = 0
  · rw [if_neg (by omega), if_pos hb, h2 (by omega)]
    by_cases hl : 65536 < r.1.length + bs.length
    · rw [if_pos hl, if_pos hl]; exact ⟨rfl, by simp⟩
    · rw [if_neg hl, if_neg hl]; exact ⟨rfl, fun _ => rfl⟩
  · rw [if_pos (by omega), if_neg hb]
    exact ⟨h1, fun hc => absurd hc (by omega)⟩

theorem Rel.bool {s r : List Int × Int} (h : Rel s r) (b : Bool) : Rel (penBool b s) (refBool b r) := h.num _ _

theorem refNum_fail {x n : Int} {s : List Int × Int} (h : s.2 ≠ 0) : refNum x n s = s := by unfold refNum; rw [if_neg h]
theorem refAdd_fail {bs : List Int} {s : List Int × Int} (h : s.2 ≠ 0) : refAdd bs s = s := by unfold refAdd; rw [if_neg h]
theorem penNum_fail {x n : Int} {s : List Int × Int} (h : s.2 ≠ 0) : penNum x n s = s := by
  unfold penNum penAdd penFail
  rw [if_pos h, if_neg h]
  split <;> rfl
theorem penAdd_fail {bs : List Int} {s : List Int × Int} (h : s.2 ≠ 0) : penAdd bs s = s := by unfold penAdd; rw [if_pos h]
theorem penFail_fail {e : Int} {s : List Int × Int} (h : s.2 ≠ 0) : penFail e s = s := by unfold penFail; rw [if_neg h]

theorem Rel.raw {s r : List Int × Int} (h : Rel s r) (bs : List Int) : Rel (penRaw bs s) (refRaw bs r) := by
  obtain ⟨h1, h2⟩ := h
  obtain ⟨rz, rb⟩ := r
  simp only at h1 h2
  unfold penRaw refRaw refRawBad
  by_cases hb : rb = 0
  · subst hb
    have hs := h2 h1
    simp only [if_true]
    by_cases hl : 65535 < bs.length
    · rw [if_pos (by omega), if_pos hl, refNum_fail (by simp), refAdd_fail (by simp)]
      unfold penFail
      rw [if_pos h1]
      exact ⟨rfl, by simp⟩
    · rw [if_neg (by omega), if_neg hl]
      have hm : (bs.length : Int) % 65536 = bs.length := by omega
      rw [hm]
      by_cases hf : 65536 < rz.length + 2 + bs.length
      · rw [if_pos hf, refNum_fail (by simp), refAdd_fail (by simp)]
        have e1 : (penAdd bs (penNum bs.length 2 s)) = ([], 3) := by
          have hv : 1 ≤ (2 : Int) ∧ (2 : Int) ≤ 7 ∧ 0 ≤ (bs.length : Int) ∧ (bs.length : Int) / 2 ^ (8 * (2 : Int).toNat) = 0 := ⟨by omega, by omega, by omega, by show (bs.length : Int) / 65536 = 0; omega⟩
          unfold penNum
          rw [if_pos hv]
          by_cases hc : 65536 < rz.length + 2
          · have : penAdd (be (bs.length : Int) (2 : Int).toNat) s = ([], 3) := by
              unfold penAdd
              rw [if_neg (by omega), if_pos (by rw [be_length, hs]; exact hc)]
            rw [this, penAdd_fail (by simp)]
          · have : penAdd (be (bs.length : Int) (2 : Int).toNat) s = (rz ++ be (bs.length : Int) 2, 0) := by
              unfold penAdd
              rw [if_neg (by omega), if_neg (by rw [be_length, hs]; exact hc), hs]
              rfl
            rw [this]
            unfold penAdd
            rw [if_neg (by simp), if_pos (by rw [List.length_append, be_length]; exact hf)]
        rw [e1]
        exact ⟨rfl, by simp⟩
      · rw [if_neg hf]
        exact (Rel.num (s := s) (r := (rz, 0)) ⟨h1, h2⟩ _ _).add bs
  · have hs : s.2 ≠ 0 := by omega
    rw [if_neg hb, refNum_fail hb, refAdd_fail hb, penNum_fail hs, penAdd_fail hs, penFail_fail hs]
    split <;> exact ⟨h1, h2⟩
end Go.Proofs.Yteeagemlaolhjaa
