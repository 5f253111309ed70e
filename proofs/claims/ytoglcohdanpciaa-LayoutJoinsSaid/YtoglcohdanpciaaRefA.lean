/- Walks of the reference's pen: add, Num. -/
import Derived.Test.YtoglcohdanpciaaModel
namespace Go.Proofs.Ytoglcohdanpciaa
open Go.RowKit

def refAdd (bs : List Int) (s : List Int × Int) : List Int × Int :=
  if s.2 = 0 then (if 65536 < s.1.length + bs.length then (s.1, 3) else (s.1 ++ bs, 0)) else s

def refNum (x n : Int) (s : List Int × Int) : List Int × Int :=
  if s.2 = 0 then (if 1 ≤ n ∧ n ≤ 7 ∧ 0 ≤ x ∧ x < 2 ^ (8 * n.toNat) then refAdd (be x n.toNat) s else (s.1, 1)) else s

theorem PenAt.store1 {w : World} {B : Nat} {T U : TypeId} {p : Nat} {v : Value} {zs : List Int} {bad : Int} (h : PenAt w B T U p v zs bad) (b : Int) :
    PenPost w B T U p v (zs, b) (.returned (.tuple #[])) (w.setCell ⟨p, 1, none⟩ (.int .i64 b)) :=
  ⟨rfl, v, ⟨(heap_two h.blk _).2, ownsRow_setCell_other h.own h.ne _, h.ne, h.lo, h.byte, h.fits⟩, (Keeps.refl _ _).setCell (Or.inl (by simp)) _, Or.inl rfl⟩

set_option maxHeartbeats 400000 in
theorem radd_any (w : World) (B p : Nat) (v : Value) (zs : List Int) (bad : Int) (u : Value) (bs : List Int) (h : PenAt w B 151 5 p v zs bad) (hr : RowAt w u bs) (hB : B ≤ w.heap.size) (hl : bs.length ≤ 35184372088832) :
    Calls Try.prog 151 #[.pointer (some ⟨p, 0, none⟩), u] w (PenPost w B 151 5 p v (refAdd bs (zs, bad))) := by
  have c0 := h.cell0
  have c1 := h.cell1
  have f0 := h.free0
  have f1 := h.free1
  have hfit := h.fits
  have HR := hid hr
  obtain ⟨a, cap, rfl, r1, r2, r3, r4, r5⟩ := hr
  have H := hid h
  have H4 := hid r4
  obtain ⟨va, vc, hv⟩ := h.vlen
  have HV := hid hv
  clear h r3 r4 r5 hv
  by_cases hb : bad = 0
  · subst hb
    by_cases hl : zs.length + bs.length > 65536
    · have hlt : decide ((65536 : Int) < zs.length + bs.length) = true := by simp; omega
      have E1 := hid (show refAdd bs (zs, 0) = (zs, 3) by simp only [refAdd, if_true]; rw [if_pos (by omega)])
      obtain rfl := HV.out
      clear HV
      go_enter Try.func151, Try.ntmps151
      go_wp2_with fail
      go_end0
      rw [E1.out]
      exact H.out.store1 3
    · have hge : decide ((65536 : Int) < zs.length + bs.length) = false := by simp; omega
      have E1 := hid (show refAdd bs (zs, 0) = (zs ++ bs, 0) by simp only [refAdd, if_true]; rw [if_neg (by omega)])
      have hmax : zs.length + bs.length ≤ 65536 := by omega
      obtain ⟨i0, hi, hz0, hz1, hz2⟩ := info_parts info5
      obtain rfl := HV.out
      clear HV
      go_enter Try.func151, Try.ntmps151
      go_wp2_with (at_builtin; refine wpList_append_row rfl _ _ 34 rfl B 5 i0 (.int .u8 0) Try.underlying34 hi hz0 hz1 hz2 rfl (.slice va zs.length vc) zs.length (zs.map (Value.int .u8)) rfl H.out.own _ bs rfl HR.out (by omega) hB ?_; intro a' c' w1 k1 k2 k3; obtain ⟨d0, d1, d2, d3⟩ := H.out.grown k2.out)
      go_end0
      rw [E1.out]
      exact pen_grown H.out k1.out k2.out k3.out H4.out hmax
  · have hb' : (bad == 0) = false := by simpa using hb
    have hb2 : (bad != 0) = true := by simpa using hb
    have E1 := hid (show refAdd bs (zs, bad) = (zs, bad) by simp only [refAdd]; rw [if_neg hb])
    clear HV hb
    go_enter Try.func151, Try.ntmps151
    go_wp2_with fail
    go_end0
    exact ⟨rfl, v, by rw [E1.out]; exact H.out, Keeps.refl _ _, Or.inl rfl⟩

theorem pow_fits (n : Nat) (h7 : n ≤ 7) : wrap64 (2 ^ (8 * n)) = 2 ^ (8 * n) := by
  have : n = 0 ∨ n = 1 ∨ n = 2 ∨ n = 3 ∨ n = 4 ∨ n = 5 ∨ n = 6 ∨ n = 7 := by omega
  rcases this with rfl | rfl | rfl | rfl | rfl | rfl | rfl | rfl <;> exact IntWalk.wrap64_in _ (by decide)

theorem be_take_succ (x : Int) (n k : Nat) (h : k < n) : (be x n).take (k + 1) = (be x n).take k ++ [byteOf x n k] := by
  rw [take_snoc (be x n) k (by rw [be_length]; exact h)]
  congr 2
  rw [List.getD_eq_getElem?_getD]
  simp only [be, List.getElem?_map, List.getElem?_range h, Option.map_some, Option.getD_some]

/-- One byte in new memory. -/
theorem row_one {w : World} (z : Int) (T : TypeId) (hz : 0 ≤ z ∧ z ≤ 255) : RowAt (w.alloc (.cells #[.int .u8 z] T)) (.slice (some ⟨w.heap.size, 0, none⟩) 1 1) [z] :=
  row_lit (w := w) [z] T (by intro y hy; have : y = z := by simpa using hy
                             rw [this]; exact hz) 1 rfl (by unfold maxLen; omega)

set_option maxHeartbeats 1600000 in
theorem rnum_ok (w : World) (B p : Nat) (v : Value) (zs : List Int) (x : Int) (n : Nat) (h : PenAt w B 151 5 p v zs 0) (hB : B ≤ w.heap.size)
    (h1 : 1 ≤ n) (h7 : n ≤ 7) (hx : 0 ≤ x) (hs : x < 2 ^ (8 * n)) :
    Calls Try.prog 87 #[.pointer (some ⟨p, 0, none⟩), .int .i64 x, .int .i64 n] w (PenPost w B 151 5 p v (refAdd (be x n) (zs, 0))) := by
  have H := hid h
  have c0 := h.cell0
  have c1 := h.cell1
  have f0 := h.free0
  have f1 := h.free1
  have d1 : decide ((n : Int) < 1) = false := by simp; omega
  have d2 : decide (7 < (n : Int)) = false := by simp; omega
  have d3 : decide (x < 0) = false := by simp; omega
  have d4 : decide (wrap64 (2 ^ (8 * n)) ≤ x) = false := by rw [pow_fits n h7]; simp; exact hs
  obtain ⟨i0, hi, hz0, hz1, hz2⟩ := info_parts info5
  clear h hs
  go_enter Try.func87, Try.ntmps87
  go_wp2_with fail
  go_loopw [6, 7] (fun b i wr => ∃ (k : Nat) (a : Option Addr) (c : Nat), k ≤ n ∧ i = .int .i64 ((n : Int) - 1 - k) ∧ b = .slice a k c ∧
      wr.ownsRow w.heap.size 5 1 (.slice a k c) k (((be x n).take k).map (Value.int .u8)) ∧ Keeps [] w wr) (fun _ i _ => (intOf i + 1).toNat)
  case atStart => exact ⟨0, none, 0, by omega, by simp, rfl, World.ownsRow_nil _ _ _ _, Keeps.refl _ _⟩
  case round =>
    obtain ⟨k, a, c, hk, rfl, rfl, q1, q2⟩ := hrel
    have Q1 := hid q1
    have Q2 := hid q2
    clear q1 q2
    by_cases hlt : k < n
    · have e : (n : Int) - 1 - k = ((n - 1 - k : Nat) : Int) := by omega
      rw [e]
      have hz : 0 ≤ byteOf x n k ∧ byteOf x n k ≤ 255 := by unfold byteOf; omega
      have HE := hid (be_take_succ x n k hlt)
      have HO := hid (Q1.out.alloc (.cells #[.int .u8 (byteOf x n k)] 5))
      have HR := hid (row_one (w := wr) (byteOf x n k) 5 hz)
      have hsz : w.heap.size ≤ wr.heap.size := Q2.out.size
      clear e hz
      go_wp2_with (at_builtin; refine wpList_append_row rfl _ _ 34 rfl w.heap.size 5 i0 (.int .u8 0) Try.underlying34 hi hz0 hz1 hz2 rfl (.slice a k c) k (((be x n).take k).map (Value.int .u8)) rfl HO.out _ [byteOf x n k] rfl HR.out (by rw [List.length_singleton]; omega) (by rw [World.size_alloc]; omega) ?_; intro a' c' w1 k1 k2 k3; simp only [List.length_singleton] at k1 k3 ⊢)
      go_roundw
      case rel =>
        refine ⟨k + 1, a', c', by omega, ?_, rfl, ?_, ?_⟩
        · have e2 : ((n - 1 - k : Nat) : Int) - 1 = (n : Int) - 1 - ((k + 1 : Nat) : Int) := by omega
          first | rw [e2] | (rw [show (n : Int) - 1 - ((k + 1 : Nat) : Int) = ((n - 1 - k : Nat) : Int) - 1 by omega])
        · rw [HE.out, List.map_append]
          exact k1.out
        · exact (Q2.out.alloc _).grown k2.out (fun j hj => Or.inr ((Q1.out.lt j (by simpa [Value.ownBlock] using hj)).1))
      case measure => simp [intOf]
    · have : k = n := by omega
      subst this
      have hb : (be x k).take k = be x k := by rw [List.take_of_length_le (by rw [be_length]; omega)]
      have HR : Hid (RowAt wr (.slice a k c) (be x k)) := by
        have := Q1.out
        rw [hb] at this
        exact row_of_own (B := w.heap.size) (e := 5) (by rw [be_length]; exact this) (be_byte x k)
      clear hb
      have e : (k : Int) - 1 - k = -1 := by omega
      rw [e]
      clear e
      go_wp2_with fail
      refine (radd_any _ B p v zs 0 _ (be x k) (H.out.keep Q2.out (by simp) (by simp)) HR.out (by have := Q2.out.size; omega) (by rw [be_length]; omega)).mono ?_
      rintro e w' ⟨rfl, hq⟩
      have HQ := hid hq
      clear hq
      go_wp2_with fail
      go_end0
      obtain ⟨v', q1, q2, q3⟩ := HQ.out
      refine ⟨rfl, v', q1, (Q2.out.mono (by simp)).trans q2, ?_⟩
      rcases q3 with q3 | q3
      · exact Or.inl q3
      · exact Or.inr fun j hj => by have := q3 j hj; have := Q2.out.size; omega

set_option maxHeartbeats 1600000 in
theorem rnum_any (w : World) (B p : Nat) (v : Value) (zs : List Int) (bad x n : Int) (h : PenAt w B 151 5 p v zs bad) (hB : B ≤ w.heap.size) :
    Calls Try.prog 87 #[.pointer (some ⟨p, 0, none⟩), .int .i64 x, .int .i64 n] w (PenPost w B 151 5 p v (refNum x n (zs, bad))) := by
  by_cases hb : bad = 0
  · subst hb
    by_cases hn : 1 ≤ n ∧ n ≤ 7 ∧ 0 ≤ x ∧ x < 2 ^ (8 * n.toNat)
    · have e1 : refNum x n (zs, 0) = refAdd (be x n.toNat) (zs, 0) := by simp only [refNum, if_true]; rw [if_pos hn]
      rw [e1]
      obtain ⟨k, rfl⟩ := Int.eq_ofNat_of_zero_le (show 0 ≤ n by omega)
      exact rnum_ok w B p v zs x k h hB (by omega) (by omega) hn.2.2.1 (by have := hn.2.2.2; simpa using this)
    · have E1 := hid (show refNum x n (zs, 0) = (zs, 1) by simp only [refNum, if_true]; rw [if_neg hn])
      have H := hid h
      have c0 := h.cell0
      have c1 := h.cell1
      have f0 := h.free0
      have f1 := h.free1
      clear h
      by_cases a1 : n < 1
      · have d1 : decide (n < 1) = true := by simpa using a1
        clear hn
        go_enter Try.func87, Try.ntmps87
        go_wp2_with fail
        refine bodyPost_ret (results_none rfl _ _ _) rfl ?_
        rw [E1.out]
        exact H.out.store1 1
      · have d1 : decide (n < 1) = false := by simpa using a1
        by_cases a2 : 7 < n
        · have d2 : decide (7 < n) = true := by simpa using a2
          clear hn
          go_enter Try.func87, Try.ntmps87
          go_wp2_with fail
          refine bodyPost_ret (results_none rfl _ _ _) rfl ?_
          rw [E1.out]
          exact H.out.store1 1
        · have d2 : decide (7 < n) = false := by simpa using a2
          by_cases a3 : x < 0
          · have d3 : decide (x < 0) = true := by simpa using a3
            clear hn
            go_enter Try.func87, Try.ntmps87
            go_wp2_with fail
            refine bodyPost_ret (results_none rfl _ _ _) rfl ?_
            rw [E1.out]
            exact H.out.store1 1
          · have d3 : decide (x < 0) = false := by simpa using a3
            obtain ⟨k, rfl⟩ := Int.eq_ofNat_of_zero_le (show 0 ≤ n by omega)
            have d4 : decide (wrap64 (2 ^ (8 * k)) ≤ x) = true := by
              rw [pow_fits k (by omega)]
              simp only [decide_eq_true_eq]
              refine Classical.byContradiction fun hc => hn ⟨by omega, by omega, by omega, ?_⟩
              rw [Int.toNat_natCast]
              omega
            clear hn
            go_enter Try.func87, Try.ntmps87
            go_wp2_with fail
            refine bodyPost_ret (results_none rfl _ _ _) rfl ?_
            rw [E1.out]
            exact H.out.store1 1
  · have hb' : (bad == 0) = false := by simpa using hb
    have hb2 : (bad != 0) = true := by simpa using hb
    have E1 := hid (show refNum x n (zs, bad) = (zs, bad) by simp only [refNum]; rw [if_neg hb])
    have H := hid h
    have c0 := h.cell0
    have c1 := h.cell1
    clear hb h
    go_enter Try.func87, Try.ntmps87
    go_wp2_with fail
    refine bodyPost_ret (results_none rfl _ _ _) rfl ?_
    exact ⟨rfl, v, by rw [E1.out]; exact H.out, Keeps.refl _ _, Or.inl rfl⟩
end Go.Proofs.Ytoglcohdanpciaa
