/- NumK, RefB, RefC. -/
import Derived.Test.YtcfmonlgpccndaaDoorPkG09
import Derived.Test.YtcfmonlgpccndaaDoorPkG10
/- Numbers written and read, plainly: what is written is read, and what is read was written (for every layer). -/
namespace Go.Proofs.YtcfmonlgpccndaaDoor
open Go.RowKit
set_option maxRecDepth 100000
set_option linter.unusedSimpArgs false

/-- A number that so many bytes hold. -/
def FitN (x : Int) (n : Nat) : Prop := 1 ≤ n ∧ n ≤ 7 ∧ 0 ≤ x ∧ x < 256 ^ n
theorem pow256 (n : Nat) : (256 : Int) ^ n = 2 ^ (8 * n) := by rw [show (256 : Int) = 2 ^ 8 from rfl, ← Int.pow_mul]
theorem penNum_fit {x : Int} {n : Nat} (m : Int) (hm : m = (n : Int)) (h : FitN x n) {s : List Int} (hl : s.length + n ≤ 65536) : penNum x m (s, 0) = (s ++ be x n, 0) ∧ refNum x m (s, 0) = (s ++ be x n, 0) := by
  subst hm
  obtain ⟨h1, h7, h0, hx⟩ := h
  have hlen := be_length x n
  have hx' : x < 2 ^ (8 * (n : Int).toNat) := by rw [Int.toNat_natCast, ← pow256]; exact hx
  have hd : x / 2 ^ (8 * (n : Int).toNat) = 0 := Int.ediv_eq_zero_of_lt h0 hx'
  constructor
  · unfold penNum penAdd
    rw [if_pos ⟨by omega, by omega, h0, hd⟩, if_neg (by simp), Int.toNat_natCast, if_neg (by rw [hlen]; simp; omega)]
  · unfold refNum refAdd
    rw [if_pos rfl, if_pos ⟨by omega, by omega, h0, hx'⟩, if_pos rfl, Int.toNat_natCast, if_neg (by rw [hlen]; simp; omega)]
/-- What is written is read. -/
theorem numE_be {x : Int} {n : Nat} (m : Int) (hm : m = (n : Int)) (h : FitN x n) (r : List Int) : numE m (be x n ++ r, 0) = (x, (r, 0)) := by
  subst hm
  obtain ⟨h1, h7, h0, hx⟩ := h
  unfold numE after rdNum
  rw [if_neg (by simp), if_neg (by omega), Int.toNat_natCast, if_neg (by rw [List.length_append, be_length]; omega)]
  simp only
  rw [show (be x n ++ r).take n = be x n by rw [List.take_append_of_le_length (by rw [be_length]; exact Nat.le_refl _), List.take_of_length_le (by rw [be_length]; exact Nat.le_refl _)], val_be n x h0 hx, show (be x n ++ r).drop n = r by rw [List.drop_append_of_le_length (by rw [be_length]; exact Nat.le_refl _), List.drop_of_length_le (by rw [be_length]; exact Nat.le_refl _), List.nil_append]]
  rfl
/-- Too few bytes: the eye gives up. -/
theorem numE_short {n : Nat} (m : Int) (hm : m = (n : Int)) (h1 : 1 ≤ n) (h7 : n ≤ 7) {zs : List Int} (hl : zs.length < n) : numE m (zs, 0) = (0, (zs, 2)) := by
  subst hm
  unfold numE after rdNum
  rw [if_neg (by simp), if_neg (by omega), Int.toNat_natCast, if_pos hl]
  rfl
/-- An eye that has given up stays so. -/
theorem numE_stay (n : Int) {st : PSt} (h : st.2 ≠ 0) : numE n st = (0, st) := by
  obtain ⟨zs, b⟩ := st
  unfold numE after
  rw [if_pos h]
  rfl
theorem be_val : ∀ (n : Nat) (zs : List Int), zs.length = n → (∀ z ∈ zs, 0 ≤ z ∧ z ≤ 255) → be (val zs) n = zs
  | 0, zs, h, _ => by rw [List.eq_nil_of_length_eq_zero h]; rfl
  | n + 1, zs, h, hb => by
    obtain ⟨ys, y, rfl⟩ : ∃ ys y, zs = ys ++ [y] := by
      have hne : zs ≠ [] := by intro e; rw [e] at h; simp at h
      exact ⟨zs.dropLast, zs.getLast hne, (List.dropLast_concat_getLast hne).symm⟩
    have hy := hb y (by simp)
    have ih := be_val n ys (by simpa using h) (fun z hz => hb z (by simp [hz]))
    rw [val_snoc, be_succ, show (val ys * 256 + y) / 256 = val ys by omega, ih, show (val ys * 256 + y) % 256 = y by omega]
/-- What is read was written. -/
theorem numE_ok {n : Nat} (m : Int) (hm : m = (n : Int)) (h1 : 1 ≤ n) (h7 : n ≤ 7) {zs : List Int} (hb : ∀ z ∈ zs, 0 ≤ z ∧ z ≤ 255) (hz : (numE m (zs, 0)).2.2 = 0) :
    zs = be (numE m (zs, 0)).1 n ++ (numE m (zs, 0)).2.1 ∧ FitN (numE m (zs, 0)).1 n := by
  subst hm
  rcases Nat.lt_or_ge zs.length n with hl | hl
  · rw [numE_short _ rfl h1 h7 hl] at hz; cases hz
  · have e : numE n (zs, 0) = (val (zs.take n), (zs.drop n, 0)) := by
      unfold numE after rdNum
      rw [if_neg (by simp), if_neg (by omega), Int.toNat_natCast, if_neg (by simp only; omega)]
      rfl
    have ht : (zs.take n).length = n := by rw [List.length_take]; omega
    have hbt : ∀ z ∈ zs.take n, 0 ≤ z ∧ z ≤ 255 := fun z hz => hb z (List.mem_of_mem_take hz)
    rw [e]
    refine ⟨?_, h1, h7, val_bound n _ ht hbt⟩
    simp only
    rw [be_val n _ ht hbt, List.take_append_drop]
theorem numE_bytes (n : Int) {st : PSt} (h : ∀ z ∈ st.1, 0 ≤ z ∧ z ≤ 255) : ∀ z ∈ (numE n st).2.1, 0 ≤ z ∧ z ≤ 255 := by
  unfold numE after rdNum
  split
  · exact h
  · split
    · exact h
    · rename_i heq
      split at heq
      · cases heq
      · split at heq
        · cases heq
        · injection heq with heq
          injection heq with e1 e2
          simp only
          rw [← e2]
          exact fun z hz => h z (List.mem_of_mem_drop hz)
theorem numE_bad {n : Nat} (m : Int) (hm : m = (n : Int)) (h1 : 1 ≤ n) (h7 : n ≤ 7) (st : PSt) : (numE m st).2.2 = 0 ∨ (numE m st).2.2 = (if st.2 = 0 then 2 else st.2) := by
  subst hm
  obtain ⟨zs, b⟩ := st
  by_cases hb : b = 0
  · subst hb
    rcases Nat.lt_or_ge zs.length n with hl | hl
    · rw [numE_short _ rfl h1 h7 hl]; right; rfl
    · left
      unfold numE after rdNum
      rw [if_neg (by simp), if_neg (by omega), Int.toNat_natCast, if_neg (by simp only; omega)]
  · right
    rw [numE_stay n hb, if_neg hb]
theorem numE_was {n : Int} {st : PSt} (h : (numE n st).2.2 = 0) : st.2 = 0 := by
  by_cases hb : st.2 = 0
  · exact hb
  · rw [numE_stay n hb] at h; exact absurd h hb

end Go.Proofs.YtcfmonlgpccndaaDoor


/- Walks of the reference's pen: Raw, Bool, Copy, Bytes; what both pens make of the same calls. -/
namespace Go.Proofs.YtcfmonlgpccndaaDoor
open Go.RowKit

def refRawBad (bs : List Int) (s : List Int × Int) : Int :=
  if s.2 = 0 then (if 65535 < bs.length then 3 else if 65536 < s.1.length + 2 + bs.length then 3 else 0) else s.2
def refRaw (bs : List Int) (s : List Int × Int) : List Int × Int :=
  refAdd bs (refNum ((bs.length : Int) % 65536) 2 (s.1, refRawBad bs s))
def refBool (b : Bool) (s : List Int × Int) : List Int × Int := refNum (if b then 1 else 0) 1 s

end Go.Proofs.YtcfmonlgpccndaaDoor


/- Walks of the reference's Copy and Bytes; what both pens make of the same calls. -/
namespace Go.Proofs.YtcfmonlgpccndaaDoor
open Go.RowKit

/-- A row of the call's own, in new memory. -/
def OwnPost (w : World) (zs : List Int) (e : Ending) (w' : World) : Prop :=
  ∃ a c, e = .returned (.slice a zs.length c) ∧ w'.ownsRow w.heap.size 5 1 (.slice a zs.length c) zs.length (zs.map (Value.int .u8)) ∧ Keeps [] w w'

set_option maxHeartbeats 800000 in
theorem copy_any (w : World) (v : Value) (zs : List Int) (h : RowAt w v zs) (hl : zs.length ≤ 35184372088832) :
    Calls Tryd.prog 38 #[v] w (OwnPost w zs) := by
  have HR := hid h
  obtain ⟨a, cap, rfl, z⟩ := h
  clear z
  obtain ⟨i0, hi, hz0, hz1, hz2⟩ := info_parts info5
  go_enter Tryd.func38, Tryd.ntmps38
  go_wp2_with fail
  go_loopw [3, 4] (fun b i wr => ∃ (k : Nat) (a' : Option Addr) (c : Nat), k ≤ zs.length ∧ i = .int .i64 k ∧ b = .slice a' k c ∧
      wr.ownsRow w.heap.size 5 1 (.slice a' k c) k ((zs.take k).map (Value.int .u8)) ∧ Keeps [] w wr) (fun _ i _ => zs.length - (intOf i).toNat)
  case atStart => exact ⟨0, none, 0, by omega, rfl, rfl, World.ownsRow_nil _ _ _ _, Keeps.refl _ _⟩
  case round =>
    obtain ⟨k, a', c, hk, rfl, rfl, q1, q2⟩ := hrel
    have Q1 := hid q1
    have Q2 := hid q2
    clear q1 q2
    by_cases hlt : k < zs.length
    · obtain ⟨g, off, cp, e1, _, hc⟩ := HR.out.open (by omega)
      injection e1 with e1 e2 e3
      subst e1
      have hck : wr.cell? ⟨g, off + k, none⟩ = some (.int .u8 (zs.getD k 0)) := Q2.out.cell (hc k hlt) (by simp)
      have hz : 0 ≤ zs.getD k 0 ∧ zs.getD k 0 ≤ 255 := HR.out.bytes _ (by rw [List.getD_eq_getElem?_getD, List.getElem?_eq_getElem hlt]; exact List.getElem_mem _)
      have HE := hid (take_snoc zs k hlt)
      clear hc e2 e3
      generalize zs.getD k 0 = b at *
      have HO := hid (Q1.out.alloc (.cells #[.int .u8 b] 5))
      have HR1 := hid (row_one (w := wr) b 5 hz)
      have hsz : w.heap.size ≤ wr.heap.size := Q2.out.size
      clear hz
      go_wp2_with (at_builtin; refine wpList_append_row rfl _ _ 31 rfl w.heap.size 5 i0 (.int .u8 0) Tryd.underlying31 hi hz0 hz1 hz2 rfl (.slice a' k c) k ((zs.take k).map (Value.int .u8)) rfl HO.out _ [b] rfl HR1.out (by rw [List.length_singleton]; omega) (by rw [World.size_alloc]; omega) ?_; intro a2 c2 w1 k1 k2 k3; simp only [List.length_singleton] at k1 k3 ⊢)
      go_roundw
      case rel =>
        refine ⟨k + 1, a2, c2, by omega, by go_num, rfl, ?_, ?_⟩
        · rw [HE.out, List.map_append]
          exact k1.out
        · exact (Q2.out.alloc _).grown k2.out (fun j hj => Or.inr ((Q1.out.lt j (by simpa [Value.ownBlock] using hj)).1))
      case measure => simp [intOf]; omega
    · have : k = zs.length := by omega
      subst this
      go_wp2_with fail
      go_ret
      refine ⟨a', c, rfl, ?_, Q2.out⟩
      have := Q1.out
      rw [List.take_length] at this
      exact this

theorem OwnPost.new {w : World} {zs : List Int} {e : Ending} {w' : World} (h : OwnPost w zs e w') (hz : ∀ z ∈ zs, 0 ≤ z ∧ z ≤ 255) : NewPost w zs e w' := by
  obtain ⟨a, c, h1, h2, h3⟩ := h
  refine ⟨a, c, h1, row_of_own h2 hz, ?_, h3⟩
  rintro ad rfl
  exact (h2.lt _ rfl).1

/-- Both pens are in one state. -/
def Rel (s r : List Int × Int) : Prop := s.2 = r.2 ∧ (s.2 = 0 → s.1 = r.1)

theorem range_iff (x : Int) (n : Nat) (hx : 0 ≤ x) : x / 2 ^ (8 * n) = 0 ↔ x < 2 ^ (8 * n) := by
  have hp : (0 : Int) < 2 ^ (8 * n) := Int.pow_pos (by omega)
  constructor
  · intro h
    have h1 := Int.lt_ediv_add_one_mul_self x hp
    rw [h] at h1
    omega
  · exact fun h => Int.ediv_eq_zero_of_lt hx h

theorem Rel.num {s r : List Int × Int} (h : Rel s r) (x n : Int) : Rel (penNum x n s) (refNum x n r) := by
  obtain ⟨h1, h2⟩ := h
  unfold penNum refNum
  by_cases hb : r.2 = 0
  · have hs := h2 (by omega)
    rw [if_pos hb]
    by_cases hv : 1 ≤ n ∧ n ≤ 7 ∧ 0 ≤ x ∧ x < 2 ^ (8 * n.toNat)
    · rw [if_pos hv, if_pos ⟨hv.1, hv.2.1, hv.2.2.1, (range_iff x _ hv.2.2.1).2 hv.2.2.2⟩]
      unfold penAdd refAdd
      rw [if_neg (by omega), if_pos hb, hs]
      by_cases hl : 65536 < r.1.length + (be x n.toNat).length
      · rw [if_pos hl, if_pos hl]; exact ⟨rfl, by simp⟩
      · rw [if_neg hl, if_neg hl]; exact ⟨rfl, fun _ => rfl⟩
    · rw [if_neg hv, if_neg (fun hc => hv ⟨hc.1, hc.2.1, hc.2.2.1, (range_iff x _ hc.2.2.1).1 hc.2.2.2⟩)]
      unfold penFail
      rw [if_pos (by omega)]
      exact ⟨rfl, by simp⟩
  · rw [if_neg hb]
    have hs : s.2 ≠ 0 := by omega
    split
    · unfold penAdd; rw [if_pos hs]; exact ⟨h1, fun hc => absurd hc hs⟩
    · unfold penFail; rw [if_neg hs]; exact ⟨h1, fun hc => absurd hc hs⟩

theorem Rel.add {s r : List Int × Int} (h : Rel s r) (bs : List Int) : Rel (penAdd bs s) (refAdd bs r) := by
  obtain ⟨h1, h2⟩ := h
  unfold penAdd refAdd
  by_cases hb : r.2 = 0
  · rw [if_neg (by omega), if_pos hb, h2 (by omega)]
    by_cases hl : 65536 < r.1.length + bs.length
    · rw [if_pos hl, if_pos hl]; exact ⟨rfl, by simp⟩
    · rw [if_neg hl, if_neg hl]; exact ⟨rfl, fun _ => rfl⟩
  · rw [if_pos (by omega), if_neg hb]
    exact ⟨h1, fun hc => absurd hc (by omega)⟩

theorem Rel.bool {s r : List Int × Int} (h : Rel s r) (b : Bool) : Rel (penBool b s) (refBool b r) := h.num _ _

theorem refNum_fail {x n : Int} {s : List Int × Int} (h : s.2 ≠ 0) : refNum x n s = s := by unfold refNum; rw [if_neg h]
theorem refAdd_fail {bs : List Int} {s : List Int × Int} (h : s.2 ≠ 0) : refAdd bs s = s := by unfold refAdd; rw [if_neg h]
theorem penNum_fail {x n : Int} {s : List Int × Int} (h : s.2 ≠ 0) : penNum x n s = s := by
  unfold penNum penAdd penFail
  rw [if_pos h, if_neg h]
  split <;> rfl
theorem penAdd_fail {bs : List Int} {s : List Int × Int} (h : s.2 ≠ 0) : penAdd bs s = s := by unfold penAdd; rw [if_pos h]
theorem penFail_fail {e : Int} {s : List Int × Int} (h : s.2 ≠ 0) : penFail e s = s := by unfold penFail; rw [if_neg h]

theorem Rel.raw {s r : List Int × Int} (h : Rel s r) (bs : List Int) : Rel (penRaw bs s) (refRaw bs r) := by
  obtain ⟨h1, h2⟩ := h
  obtain ⟨rz, rb⟩ := r
  simp only at h1 h2
  unfold penRaw refRaw refRawBad
  by_cases hb : rb = 0
  · subst hb
    have hs := h2 h1
    simp only [if_true]
    by_cases hl : 65535 < bs.length
    · rw [if_pos (by omega), if_pos hl, refNum_fail (by simp), refAdd_fail (by simp)]
      unfold penFail
      rw [if_pos h1]
      exact ⟨rfl, by simp⟩
    · rw [if_neg (by omega), if_neg hl]
      have hm : (bs.length : Int) % 65536 = bs.length := by omega
      rw [hm]
      by_cases hf : 65536 < rz.length + 2 + bs.length
      · rw [if_pos hf, refNum_fail (by simp), refAdd_fail (by simp)]
        have e1 : (penAdd bs (penNum bs.length 2 s)) = ([], 3) := by
          have hv : 1 ≤ (2 : Int) ∧ (2 : Int) ≤ 7 ∧ 0 ≤ (bs.length : Int) ∧ (bs.length : Int) / 2 ^ (8 * (2 : Int).toNat) = 0 := ⟨by omega, by omega, by omega, by show (bs.length : Int) / 65536 = 0; omega⟩
          unfold penNum
          rw [if_pos hv]
          by_cases hc : 65536 < rz.length + 2
          · have : penAdd (be (bs.length : Int) (2 : Int).toNat) s = ([], 3) := by
              unfold penAdd
              rw [if_neg (by omega), if_pos (by rw [be_length, hs]; exact hc)]
            rw [this, penAdd_fail (by simp)]
          · have : penAdd (be (bs.length : Int) (2 : Int).toNat) s = (rz ++ be (bs.length : Int) 2, 0) := by
              unfold penAdd
              rw [if_neg (by omega), if_neg (by rw [be_length, hs]; exact hc), hs]
              rfl
            rw [this]
            unfold penAdd
            rw [if_neg (by simp), if_pos (by rw [List.length_append, be_length]; exact hf)]
        rw [e1]
        exact ⟨rfl, by simp⟩
      · rw [if_neg hf]
        exact (Rel.num (s := s) (r := (rz, 0)) ⟨h1, h2⟩ _ _).add bs
  · have hs : s.2 ≠ 0 := by omega
    rw [if_neg hb, refNum_fail hb, refAdd_fail hb, penNum_fail hs, penAdd_fail hs, penFail_fail hs]
    split <;> exact ⟨h1, h2⟩
end Go.Proofs.YtcfmonlgpccndaaDoor
