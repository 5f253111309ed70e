/- Walks of the reference's Copy and Bytes; what both pens make of the same calls. -/
import Derived.Test.YtoglcohdanpciaaRefB
namespace Go.Proofs.Ytoglcohdanpciaa
open Go.RowKit

/-- A row of the call's own, in new memory. -/
def OwnPost (w : World) (zs : List Int) (e : Ending) (w' : World) : Prop :=
  ∃ a c, e = .returned (.slice a zs.length c) ∧ w'.ownsRow w.heap.size 5 1 (.slice a zs.length c) zs.length (zs.map (Value.int .u8)) ∧ Keeps [] w w'

set_option maxHeartbeats 800000 in
theorem copy_any (w : World) (v : Value) (zs : List Int) (h : RowAt w v zs) (hl : zs.length ≤ 35184372088832) :
    Calls Try.prog 47 #[v] w (OwnPost w zs) := by
  have HR := hid h
  obtain ⟨a, cap, rfl, z⟩ := h
  clear z
  obtain ⟨i0, hi, hz0, hz1, hz2⟩ := info_parts info5
  go_enter Try.func47, Try.ntmps47
  go_wp2_with fail
  go_loopw [3, 4] (fun b i wr => ∃ (k : Nat) (a' : Option Addr) (c : Nat), k ≤ zs.length ∧ i = .int .i64 k ∧ b = .slice a' k c ∧
      wr.ownsRow w.heap.size 5 1 (.slice a' k c) k ((zs.take k).map (Value.int .u8)) ∧ Keeps [] w wr) (fun _ i _ => zs.length - (intOf i).toNat)
  case atStart => exact ⟨0, none, 0, by omega, rfl, rfl, World.ownsRow_nil _ _ _ _, Keeps.refl _ _⟩
  case round =>
    obtain ⟨k, a', c, hk, rfl, rfl, q1, q2⟩ := hrel
    have Q1 := hid q1
    have Q2 := hid q2
    clear q1 q2
    by_cases hlt : k < zs.length
    · obtain ⟨g, off, cp, e1, _, hc⟩ := HR.out.open (by omega)
      injection e1 with e1 e2 e3
      subst e1
      have hck : wr.cell? ⟨g, off + k, none⟩ = some (.int .u8 (zs.getD k 0)) := Q2.out.cell (hc k hlt) (by simp)
      have hz : 0 ≤ zs.getD k 0 ∧ zs.getD k 0 ≤ 255 := HR.out.bytes _ (by rw [List.getD_eq_getElem?_getD, List.getElem?_eq_getElem hlt]; exact List.getElem_mem _)
      have HE := hid (take_snoc zs k hlt)
      clear hc e2 e3
      generalize zs.getD k 0 = b at *
      have HO := hid (Q1.out.alloc (.cells #[.int .u8 b] 5))
      have HR1 := hid (row_one (w := wr) b 5 hz)
      have hsz : w.heap.size ≤ wr.heap.size := Q2.out.size
      clear hz
      go_wp2_with (at_builtin; refine wpList_append_row rfl _ _ 34 rfl w.heap.size 5 i0 (.int .u8 0) Try.underlying34 hi hz0 hz1 hz2 rfl (.slice a' k c) k ((zs.take k).map (Value.int .u8)) rfl HO.out _ [b] rfl HR1.out (by rw [List.length_singleton]; omega) (by rw [World.size_alloc]; omega) ?_; intro a2 c2 w1 k1 k2 k3; simp only [List.length_singleton] at k1 k3 ⊢)
      go_roundw
      case rel =>
        refine ⟨k + 1, a2, c2, by omega, by go_num, rfl, ?_, ?_⟩
        · rw [HE.out, List.map_append]
          exact k1.out
        · exact (Q2.out.alloc _).grown k2.out (fun j hj => Or.inr ((Q1.out.lt j (by simpa [Value.ownBlock] using hj)).1))
      case measure => simp [intOf]; omega
    · have : k = zs.length := by omega
      subst this
      go_wp2_with fail
      go_ret
      refine ⟨a', c, rfl, ?_, Q2.out⟩
      have := Q1.out
      rw [List.take_length] at this
      exact this

theorem OwnPost.new {w : World} {zs : List Int} {e : Ending} {w' : World} (h : OwnPost w zs e w') (hz : ∀ z ∈ zs, 0 ≤ z ∧ z ≤ 255) : NewPost w zs e w' := by
  obtain ⟨a, c, h1, h2, h3⟩ := h
  refine ⟨a, c, h1, row_of_own h2 hz, ?_, h3⟩
  rintro ad rfl
  exact (h2.lt _ rfl).1

set_option maxHeartbeats 400000 in
theorem rbytes_any (w : World) (B p : Nat) (v : Value) (zs : List Int) (bad : Int) (h : PenAt w B 151 5 p v zs bad) :
    Calls Try.prog 92 #[.pointer (some ⟨p, 0, none⟩)] w (BytesPost w (zs, bad)) := by
  have H := hid h
  have c0 := h.cell0
  have c1 := h.cell1
  by_cases hb : bad = 0
  · subst hb
    have HR := hid (row_of_own h.own h.byte)
    have hn := h.fits
    clear h
    go_enter Try.func92, Try.ntmps92
    go_wp2_with fail
    refine (copy_any _ v zs HR.out (by omega)).mono ?_
    intro e w1 hq
    obtain ⟨a, c, rfl, q1, q2, q3⟩ := hq.new HR.out.bytes
    have Q1 := hid q1
    have Q2 := hid q2
    have Q3 := hid q3
    clear q1 q2 q3 hq
    go_wp2_with fail
    go_ret2
    exact ⟨a, c, rfl, Q1.out, Q2.out, Q3.out⟩
  · have hb1 : (bad == 0) = false := by simpa using hb
    have hb2 : (bad != 0) = true := by simpa using hb
    have HB := hid hb
    clear h hb
    go_enter Try.func92, Try.ntmps92
    go_wp2_with fail
    go_region
    all_goals go_wp2
    go_ret2
    refine ⟨none, 0, ?_, ?_, by simp, ?_⟩
    · simp [HB.out]
    · simp only [HB.out, if_false]
      exact RowAt.nil _
    · exact (Keeps.refl _ _).drew

/-- Both pens are in one state. -/
def Rel (s r : List Int × Int) : Prop := s.2 = r.2 ∧ (s.2 = 0 → s.1 = r.1)

theorem range_iff (x : Int) (n : Nat) (hx : 0 ≤ x) : x / 2 ^ (8 * n) = 0 ↔ x < 2 ^ (8 * n) := by
  have hp : (0 : Int) < 2 ^ (8 * n) := Int.pow_pos (by omega)
  constructor
  · intro h
    have h1 := Int.lt_ediv_add_one_mul_self x hp
    rw [h] at h1
    omega
  · exact fun h => Int.ediv_eq_zero_of_lt hx h

theorem Rel.num {s r : List Int × Int} (h : Rel s r) (x n : Int) : Rel (penNum x n s) (refNum x n r) := by
  obtain ⟨h1, h2⟩ := h
  unfold penNum refNum
  by_cases hb : r.2 = 0
  · have hs := h2 (by omega)
    rw [if_pos hb]
    by_cases hv : 1 ≤ n ∧ n ≤ 7 ∧ 0 ≤ x ∧ x < 2 ^ (8 * n.toNat)
    · rw [if_pos hv, if_pos ⟨hv.1, hv.2.1, hv.2.2.1, (range_iff x _ hv.2.2.1).2 hv.2.2.2⟩]
      unfold penAdd refAdd
      rw [if_neg (by omega), if_pos hb, hs]
      by_cases hl : 65536 < r.1.length + (be x n.toNat).length
      · rw [if_pos hl, if_pos hl]; exact ⟨rfl, by simp⟩
      · rw [if_neg hl, if_neg hl]; exact ⟨rfl, fun _ => rfl⟩
    · rw [if_neg hv, if_neg (fun hc => hv ⟨hc.1, hc.2.1, hc.2.2.1, (range_iff x _ hc.2.2.1).1 hc.2.2.2⟩)]
      unfold penFail
      rw [if_pos (by omega)]
      exact ⟨rfl, by simp⟩
  · rw [if_neg hb]
    have hs : s.2 ≠ 0 := by omega
    split
    · unfold penAdd; rw [if_pos hs]; exact ⟨h1, fun hc => absurd hc hs⟩
    · unfold penFail; rw [if_neg hs]; exact ⟨h1, fun hc => absurd hc hs⟩

theorem Rel.add {s r : List Int × Int} (h : Rel s r) (bs : List Int) : Rel (penAdd bs s) (refAdd bs r) := by
  obtain ⟨h1, h2⟩ := h
  unfold penAdd refAdd
  by_cases hb : r.2 = 0
  · rw [if_neg (by omega), if_pos hb, h2 (by omega)]
    by_cases hl : 65536 < r.1.length + bs.length
    · rw [if_pos hl, if_pos hl]; exact ⟨rfl, by simp⟩
    · rw [if_neg hl, if_neg hl]; exact ⟨rfl, fun _ => rfl⟩
  · rw [if_pos (by omega), if_neg hb]
    exact ⟨h1, fun hc => absurd hc (by omega)⟩

theorem Rel.bool {s r : List Int × Int} (h : Rel s r) (b : Bool) : Rel (penBool b s) (refBool b r) := h.num _ _

theorem refNum_fail {x n : Int} {s : List Int × Int} (h : s.2 ≠ 0) : refNum x n s = s := by unfold refNum; rw [if_neg h]
theorem refAdd_fail {bs : List Int} {s : List Int × Int} (h : s.2 ≠ 0) : refAdd bs s = s := by unfold refAdd; rw [if_neg h]
theorem penNum_fail {x n : Int} {s : List Int × Int} (h : s.2 ≠ 0) : penNum x n s = s := by
  unfold penNum penAdd penFail
  rw [if_pos h, if_neg h]
  split <;> rfl
theorem penAdd_fail {bs : List Int} {s : List Int × Int} (h : s.2 ≠ 0) : penAdd bs s = s := by unfold penAdd; rw [if_pos h]
theorem penFail_fail {e : Int} {s : List Int × Int} (h : s.2 ≠ 0) : penFail e s = s := by unfold penFail; rw [if_neg h]

theorem Rel.raw {s r : List Int × Int} (h : Rel s r) (bs : List Int) : Rel (penRaw bs s) (refRaw bs r) := by
  obtain ⟨h1, h2⟩ := h
  obtain ⟨rz, rb⟩ := r
  simp only at h1 h2
  unfold penRaw refRaw refRawBad
  by_cases hb : rb = 0
  · subst hb
    have hs := h2 h1
    simp only [if_true]
    by_cases hl : 65535 < bs.length
    · rw [if_pos (by omega), if_pos hl, refNum_fail (by simp), refAdd_fail (by simp)]
      unfold penFail
      rw [if_pos h1]
      exact ⟨rfl, by simp⟩
    · rw [if_neg (by omega), if_neg hl]
      have hm : (bs.length : Int) % 65536 = bs.length := by omega
      rw [hm]
      by_cases hf : 65536 < rz.length + 2 + bs.length
      · rw [if_pos hf, refNum_fail (by simp), refAdd_fail (by simp)]
        have e1 : (penAdd bs (penNum bs.length 2 s)) = ([], 3) := by
          have hv : 1 ≤ (2 : Int) ∧ (2 : Int) ≤ 7 ∧ 0 ≤ (bs.length : Int) ∧ (bs.length : Int) / 2 ^ (8 * (2 : Int).toNat) = 0 := ⟨by omega, by omega, by omega, by show (bs.length : Int) / 65536 = 0; omega⟩
          unfold penNum
          rw [if_pos hv]
          by_cases hc : 65536 < rz.length + 2
          · have : penAdd (be (bs.length : Int) (2 : Int).toNat) s = ([], 3) := by
              unfold penAdd
              rw [if_neg (by omega), if_pos (by rw [be_length, hs]; exact hc)]
            rw [this, penAdd_fail (by simp)]
          · have : penAdd (be (bs.length : Int) (2 : Int).toNat) s = (rz ++ be (bs.length : Int) 2, 0) := by
              unfold penAdd
              rw [if_neg (by omega), if_neg (by rw [be_length, hs]; exact hc), hs]
              rfl
            rw [this]
            unfold penAdd
            rw [if_neg (by simp), if_pos (by rw [List.length_append, be_length]; exact hf)]
        rw [e1]
        exact ⟨rfl, by simp⟩
      · rw [if_neg hf]
        exact (Rel.num (s := s) (r := (rz, 0)) ⟨h1, h2⟩ _ _).add bs
  · have hs : s.2 ≠ 0 := by omega
    rw [if_neg hb, refNum_fail hb, refAdd_fail hb, penNum_fail hs, penAdd_fail hs, penFail_fail hs]
    split <;> exact ⟨h1, h2⟩
end Go.Proofs.Ytoglcohdanpciaa
