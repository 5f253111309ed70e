import Derived.Test.YtnjlhplcagkcnaaGreatStAP
import Derived.Test.YtnjlhplcagkcnaaGreatModel
import Derived.Laws.StructEq
import Derived.ChangeSame
import Derived.Deep.Strs

/- store: the reference's MayId. -/
namespace Go.Proofs.YtnjlhplcagkcnaaGreat
open Go.RowKit Go.Shelf
set_option maxRecDepth 100000

set_option maxHeartbeats 3200000 in
theorem mayS_any (w : World) (c l n : Int) : Calls Tryz.prog 86 #[.agg #[.int .i64 c, .int .i64 l, .int .i64 n]] w fun e w' => e = .returned (.bool (withinB c 4 && withinB l 1048576 && withinB n 1073741824)) ∧ Keeps [] w w' := by
  have KB := hid ((Keeps.refl [] w).alloc (.cells #[.int .i64 c, .int .i64 l, .int .i64 n] 32))
  unfold withinB
  by_cases h0 : 0 ≤ c
  · by_cases h1 : c ≤ 4
    · by_cases h2 : 0 ≤ l
      · by_cases h3 : l ≤ 1048576
        · by_cases h4 : 0 ≤ n
          · by_cases h5 : n ≤ 1073741824
            · go_enter Tryz.func86, Tryz.ntmps86
              go_wp2_with fail
              go_ret
              exact ⟨by simp [h0, h1, h2, h3, h4, h5], KB.out⟩
            · go_enter Tryz.func86, Tryz.ntmps86
              go_wp2_with fail
              go_ret
              exact ⟨by simp [h5], KB.out⟩
          · go_enter Tryz.func86, Tryz.ntmps86
            go_wp2_with fail
            go_ret
            exact ⟨by simp; omega, KB.out⟩
        · go_enter Tryz.func86, Tryz.ntmps86
          go_wp2_with fail
          go_ret
          exact ⟨by simp; omega, KB.out⟩
      · go_enter Tryz.func86, Tryz.ntmps86
        go_wp2_with fail
        go_ret
        exact ⟨by simp; omega, KB.out⟩
    · go_enter Tryz.func86, Tryz.ntmps86
      go_wp2_with fail
      go_ret
      exact ⟨by simp; omega, KB.out⟩
  · go_enter Tryz.func86, Tryz.ntmps86
    go_wp2_with fail
    go_ret
    exact ⟨by simp; omega, KB.out⟩

set_option maxHeartbeats 3200000 in
theorem mayR_any (w : World) (x : Idn) : Calls Tryz.prog 39 #[idV x] w fun e w' => e = .returned (.bool (mayI x)) ∧ Keeps [] w w' := by
  unfold idV mayI
  have KB := hid ((Keeps.refl [] w).alloc (.cells #[.int .i64 x.c, .int .i64 x.l, .int .i64 x.n, .int .i64 x.i] 34))
  have B1 := hid (heap_alloc_new w (.cells #[.int .i64 x.c, .int .i64 x.l, .int .i64 x.n, .int .i64 x.i] 34))
  have MS := hid (mayS_any (w.alloc (.cells #[.int .i64 x.c, .int .i64 x.l, .int .i64 x.n, .int .i64 x.i] 34)) x.c x.l x.n)
  cases hb : (withinB x.c 4 && withinB x.l 1048576 && withinB x.n 1073741824) with
  | false =>
    rw [hb] at MS
    go_enter Tryz.func39, Tryz.ntmps39
    go_wp2_with fail
    refine MS.out.mono ?_
    rintro e w2 ⟨rfl, k2⟩
    have K2 := hid (KB.out.trans k2)
    clear k2
    go_wp2_with fail
    go_ret
    exact ⟨rfl, K2.out⟩
  | true =>
    rw [hb] at MS
    unfold withinB
    by_cases h0 : 0 ≤ x.i
    · by_cases h1 : x.i < 16
      · go_enter Tryz.func39, Tryz.ntmps39
        go_wp2_with fail
        refine MS.out.mono ?_
        rintro e w2 ⟨rfl, k2⟩
        have K2 := hid (KB.out.trans k2)
        have b2 := (k2.block _ (lt_of_block B1.out) (by simp)).trans B1.out
        have c2 : w2.cell? ⟨w.heap.size, 3, none⟩ = some (.int .i64 x.i) := by simp [World.cell?, b2]
        clear k2 b2
        go_wp2_with fail
        go_ret
        exact ⟨by simp [h0]; omega, K2.out⟩
      · go_enter Tryz.func39, Tryz.ntmps39
        go_wp2_with fail
        refine MS.out.mono ?_
        rintro e w2 ⟨rfl, k2⟩
        have K2 := hid (KB.out.trans k2)
        have b2 := (k2.block _ (lt_of_block B1.out) (by simp)).trans B1.out
        have c2 : w2.cell? ⟨w.heap.size, 3, none⟩ = some (.int .i64 x.i) := by simp [World.cell?, b2]
        clear k2 b2
        go_wp2_with fail
        go_ret
        exact ⟨by simp [h0]; omega, K2.out⟩
    · go_enter Tryz.func39, Tryz.ntmps39
      go_wp2_with fail
      refine MS.out.mono ?_
      rintro e w2 ⟨rfl, k2⟩
      have K2 := hid (KB.out.trans k2)
      have b2 := (k2.block _ (lt_of_block B1.out) (by simp)).trans B1.out
      have c2 : w2.cell? ⟨w.heap.size, 3, none⟩ = some (.int .i64 x.i) := by simp [World.cell?, b2]
      clear k2 b2
      go_wp2_with fail
      go_ret
      exact ⟨by simp; omega, K2.out⟩
end Go.Proofs.YtnjlhplcagkcnaaGreat


/- Walks of the reference's pen: add, Num. -/
namespace Go.Proofs.YtnjlhplcagkcnaaGreat
open Go.RowKit

def refAdd (bs : List Int) (s : List Int × Int) : List Int × Int :=
  if s.2 = 0 then (if 65536 < s.1.length + bs.length then (s.1, 3) else (s.1 ++ bs, 0)) else s

def refNum (x n : Int) (s : List Int × Int) : List Int × Int :=
  if s.2 = 0 then (if 1 ≤ n ∧ n ≤ 7 ∧ 0 ≤ x ∧ x < 2 ^ (8 * n.toNat) then refAdd (be x n.toNat) s else (s.1, 1)) else s

theorem PenAt.store1 {w : World} {B : Nat} {T U : TypeId} {p : Nat} {v : Value} {zs : List Int} {bad : Int} (h : PenAt w B T U p v zs bad) (b : Int) :
    PenPost w B T U p v (zs, b) (.returned (.tuple #[])) (w.setCell ⟨p, 1, none⟩ (.int .i64 b)) :=
  ⟨rfl, v, ⟨(heap_two h.blk _).2, ownsRow_setCell_other h.own h.ne _, h.ne, h.lo, h.byte, h.fits⟩, (Keeps.refl _ _).setCell (Or.inl (by simp)) _, Or.inl rfl⟩

set_option maxHeartbeats 400000 in
theorem radd_any (w : World) (B p : Nat) (v : Value) (zs : List Int) (bad : Int) (u : Value) (bs : List Int) (h : PenAt w B 139 5 p v zs bad) (hr : RowAt w u bs) (hB : B ≤ w.heap.size) (hl : bs.length ≤ 35184372088832) :
    Calls Tryz.prog 128 #[.pointer (some ⟨p, 0, none⟩), u] w (PenPost w B 139 5 p v (refAdd bs (zs, bad))) := by
  have c0 := h.cell0
  have c1 := h.cell1
  have f0 := h.free0
  have f1 := h.free1
  have hfit := h.fits
  have HR := hid hr
  obtain ⟨a, cap, rfl, r1, r2, r3, r4, r5⟩ := hr
  have H := hid h
  have H4 := hid r4
  obtain ⟨va, vc, hv⟩ := h.vlen
  have HV := hid hv
  clear h r3 r4 r5 hv
  by_cases hb : bad = 0
  · subst hb
    by_cases hl : zs.length + bs.length > 65536
    · have hlt : decide ((65536 : Int) < zs.length + bs.length) = true := by simp; omega
      have E1 := hid (show refAdd bs (zs, 0) = (zs, 3) by simp only [refAdd, if_true]; rw [if_pos (by omega)])
      obtain rfl := HV.out
      clear HV
      go_enter Tryz.func128, Tryz.ntmps128
      go_wp2_with fail
      go_end0
      rw [E1.out]
      exact H.out.store1 3
    · have hge : decide ((65536 : Int) < zs.length + bs.length) = false := by simp; omega
      have E1 := hid (show refAdd bs (zs, 0) = (zs ++ bs, 0) by simp only [refAdd, if_true]; rw [if_neg (by omega)])
      have hmax : zs.length + bs.length ≤ 65536 := by omega
      obtain ⟨i0, hi, hz0, hz1, hz2⟩ := info_parts info5
      obtain rfl := HV.out
      clear HV
      go_enter Tryz.func128, Tryz.ntmps128
      go_wp2_with (at_builtin; refine wpList_append_row rfl _ _ 36 rfl B 5 i0 (.int .u8 0) Tryz.underlying36 hi hz0 hz1 hz2 rfl (.slice va zs.length vc) zs.length (zs.map (Value.int .u8)) rfl H.out.own _ bs rfl HR.out (by omega) hB ?_; intro a' c' w1 k1 k2 k3; obtain ⟨d0, d1, d2, d3⟩ := H.out.grown k2.out)
      go_end0
      rw [E1.out]
      exact pen_grown H.out k1.out k2.out k3.out H4.out hmax
  · have hb' : (bad == 0) = false := by simpa using hb
    have hb2 : (bad != 0) = true := by simpa using hb
    have E1 := hid (show refAdd bs (zs, bad) = (zs, bad) by simp only [refAdd]; rw [if_neg hb])
    clear HV hb
    go_enter Tryz.func128, Tryz.ntmps128
    go_wp2_with fail
    go_end0
    exact ⟨rfl, v, by rw [E1.out]; exact H.out, Keeps.refl _ _, Or.inl rfl⟩

theorem pow_fits (n : Nat) (h7 : n ≤ 7) : wrap64 (2 ^ (8 * n)) = 2 ^ (8 * n) := by
  have : n = 0 ∨ n = 1 ∨ n = 2 ∨ n = 3 ∨ n = 4 ∨ n = 5 ∨ n = 6 ∨ n = 7 := by omega
  rcases this with rfl | rfl | rfl | rfl | rfl | rfl | rfl | rfl <;> exact IntWalk.wrap64_in _ (by decide)

theorem be_take_succ (x : Int) (n k : Nat) (h : k < n) : (be x n).take (k + 1) = (be x n).take k ++ [byteOf x n k] := by
  rw [take_snoc (be x n) k (by rw [be_length]; exact h)]
  congr 2
  rw [List.getD_eq_getElem?_getD]
  simp only [be, List.getElem?_map, List.getElem?_range h, Option.map_some, Option.getD_some]

/-- One byte in new memory. -/
theorem row_one {w : World} (z : Int) (T : TypeId) (hz : 0 ≤ z ∧ z ≤ 255) : RowAt (w.alloc (.cells #[.int .u8 z] T)) (.slice (some ⟨w.heap.size, 0, none⟩) 1 1) [z] :=
  row_lit (w := w) [z] T (by intro y hy; have : y = z := by simpa using hy
                             rw [this]; exact hz) 1 rfl (by unfold maxLen; omega)

set_option maxHeartbeats 1600000 in
theorem rnum_ok (w : World) (B p : Nat) (v : Value) (zs : List Int) (x : Int) (n : Nat) (h : PenAt w B 139 5 p v zs 0) (hB : B ≤ w.heap.size)
    (h1 : 1 ≤ n) (h7 : n ≤ 7) (hx : 0 ≤ x) (hs : x < 2 ^ (8 * n)) :
    Calls Tryz.prog 84 #[.pointer (some ⟨p, 0, none⟩), .int .i64 x, .int .i64 n] w (PenPost w B 139 5 p v (refAdd (be x n) (zs, 0))) := by
  have H := hid h
  have c0 := h.cell0
  have c1 := h.cell1
  have f0 := h.free0
  have f1 := h.free1
  have d1 : decide ((n : Int) < 1) = false := by simp; omega
  have d2 : decide (7 < (n : Int)) = false := by simp; omega
  have d3 : decide (x < 0) = false := by simp; omega
  have d4 : decide (wrap64 (2 ^ (8 * n)) ≤ x) = false := by rw [pow_fits n h7]; simp; exact hs
  obtain ⟨i0, hi, hz0, hz1, hz2⟩ := info_parts info5
  clear h hs
  go_enter Tryz.func84, Tryz.ntmps84
  go_wp2_with fail
  go_loopw [6, 7] (fun b i wr => ∃ (k : Nat) (a : Option Addr) (c : Nat), k ≤ n ∧ i = .int .i64 ((n : Int) - 1 - k) ∧ b = .slice a k c ∧
      wr.ownsRow w.heap.size 5 1 (.slice a k c) k (((be x n).take k).map (Value.int .u8)) ∧ Keeps [] w wr) (fun _ i _ => (intOf i + 1).toNat)
  case atStart => exact ⟨0, none, 0, by omega, by simp, rfl, World.ownsRow_nil _ _ _ _, Keeps.refl _ _⟩
  case round =>
    obtain ⟨k, a, c, hk, rfl, rfl, q1, q2⟩ := hrel
    have Q1 := hid q1
    have Q2 := hid q2
    clear q1 q2
    by_cases hlt : k < n
    · have e : (n : Int) - 1 - k = ((n - 1 - k : Nat) : Int) := by omega
      rw [e]
      have hz : 0 ≤ byteOf x n k ∧ byteOf x n k ≤ 255 := by unfold byteOf; omega
      have HE := hid (be_take_succ x n k hlt)
      have HO := hid (Q1.out.alloc (.cells #[.int .u8 (byteOf x n k)] 5))
      have HR := hid (row_one (w := wr) (byteOf x n k) 5 hz)
      have hsz : w.heap.size ≤ wr.heap.size := Q2.out.size
      clear e hz
      go_wp2_with (at_builtin; refine wpList_append_row rfl _ _ 36 rfl w.heap.size 5 i0 (.int .u8 0) Tryz.underlying36 hi hz0 hz1 hz2 rfl (.slice a k c) k (((be x n).take k).map (Value.int .u8)) rfl HO.out _ [byteOf x n k] rfl HR.out (by rw [List.length_singleton]; omega) (by rw [World.size_alloc]; omega) ?_; intro a' c' w1 k1 k2 k3; simp only [List.length_singleton] at k1 k3 ⊢)
      go_roundw
      case rel =>
        refine ⟨k + 1, a', c', by omega, ?_, rfl, ?_, ?_⟩
        · have e2 : ((n - 1 - k : Nat) : Int) - 1 = (n : Int) - 1 - ((k + 1 : Nat) : Int) := by omega
          first | rw [e2] | (rw [show (n : Int) - 1 - ((k + 1 : Nat) : Int) = ((n - 1 - k : Nat) : Int) - 1 by omega])
        · rw [HE.out, List.map_append]
          exact k1.out
        · exact (Q2.out.alloc _).grown k2.out (fun j hj => Or.inr ((Q1.out.lt j (by simpa [Value.ownBlock] using hj)).1))
      case measure => simp [intOf]
    · have : k = n := by omega
      subst this
      have hb : (be x k).take k = be x k := by rw [List.take_of_length_le (by rw [be_length]; omega)]
      have HR : Hid (RowAt wr (.slice a k c) (be x k)) := by
        have := Q1.out
        rw [hb] at this
        exact row_of_own (B := w.heap.size) (e := 5) (by rw [be_length]; exact this) (be_byte x k)
      clear hb
      have e : (k : Int) - 1 - k = -1 := by omega
      rw [e]
      clear e
      go_wp2_with fail
      refine (radd_any _ B p v zs 0 _ (be x k) (H.out.keep Q2.out (by simp) (by simp)) HR.out (by have := Q2.out.size; omega) (by rw [be_length]; omega)).mono ?_
      rintro e w' ⟨rfl, hq⟩
      have HQ := hid hq
      clear hq
      go_wp2_with fail
      go_end0
      obtain ⟨v', q1, q2, q3⟩ := HQ.out
      refine ⟨rfl, v', q1, (Q2.out.mono (by simp)).trans q2, ?_⟩
      rcases q3 with q3 | q3
      · exact Or.inl q3
      · exact Or.inr fun j hj => by have := q3 j hj; have := Q2.out.size; omega

set_option maxHeartbeats 1600000 in
theorem rnum_any (w : World) (B p : Nat) (v : Value) (zs : List Int) (bad x n : Int) (h : PenAt w B 139 5 p v zs bad) (hB : B ≤ w.heap.size) :
    Calls Tryz.prog 84 #[.pointer (some ⟨p, 0, none⟩), .int .i64 x, .int .i64 n] w (PenPost w B 139 5 p v (refNum x n (zs, bad))) := by
  by_cases hb : bad = 0
  · subst hb
    by_cases hn : 1 ≤ n ∧ n ≤ 7 ∧ 0 ≤ x ∧ x < 2 ^ (8 * n.toNat)
    · have e1 : refNum x n (zs, 0) = refAdd (be x n.toNat) (zs, 0) := by simp only [refNum, if_true]; rw [if_pos hn]
      rw [e1]
      obtain ⟨k, rfl⟩ := Int.eq_ofNat_of_zero_le (show 0 ≤ n by omega)
      exact rnum_ok w B p v zs x k h hB (by omega) (by omega) hn.2.2.1 (by have := hn.2.2.2; simpa using this)
    · have E1 := hid (show refNum x n (zs, 0) = (zs, 1) by simp only [refNum, if_true]; rw [if_neg hn])
      have H := hid h
      have c0 := h.cell0
      have c1 := h.cell1
      have f0 := h.free0
      have f1 := h.free1
      clear h
      by_cases a1 : n < 1
      · have d1 : decide (n < 1) = true := by simpa using a1
        clear hn
        go_enter Tryz.func84, Tryz.ntmps84
        go_wp2_with fail
        refine bodyPost_ret (results_none rfl _ _ _) rfl ?_
        rw [E1.out]
        exact H.out.store1 1
      · have d1 : decide (n < 1) = false := by simpa using a1
        by_cases a2 : 7 < n
        · have d2 : decide (7 < n) = true := by simpa using a2
          clear hn
          go_enter Tryz.func84, Tryz.ntmps84
          go_wp2_with fail
          refine bodyPost_ret (results_none rfl _ _ _) rfl ?_
          rw [E1.out]
          exact H.out.store1 1
        · have d2 : decide (7 < n) = false := by simpa using a2
          by_cases a3 : x < 0
          · have d3 : decide (x < 0) = true := by simpa using a3
            clear hn
            go_enter Tryz.func84, Tryz.ntmps84
            go_wp2_with fail
            refine bodyPost_ret (results_none rfl _ _ _) rfl ?_
            rw [E1.out]
            exact H.out.store1 1
          · have d3 : decide (x < 0) = false := by simpa using a3
            obtain ⟨k, rfl⟩ := Int.eq_ofNat_of_zero_le (show 0 ≤ n by omega)
            have d4 : decide (wrap64 (2 ^ (8 * k)) ≤ x) = true := by
              rw [pow_fits k (by omega)]
              simp only [decide_eq_true_eq]
              refine Classical.byContradiction fun hc => hn ⟨by omega, by omega, by omega, ?_⟩
              rw [Int.toNat_natCast]
              omega
            clear hn
            go_enter Tryz.func84, Tryz.ntmps84
            go_wp2_with fail
            refine bodyPost_ret (results_none rfl _ _ _) rfl ?_
            rw [E1.out]
            exact H.out.store1 1
  · have hb' : (bad == 0) = false := by simpa using hb
    have hb2 : (bad != 0) = true := by simpa using hb
    have E1 := hid (show refNum x n (zs, bad) = (zs, bad) by simp only [refNum]; rw [if_neg hb])
    have H := hid h
    have c0 := h.cell0
    have c1 := h.cell1
    clear hb h
    go_enter Tryz.func84, Tryz.ntmps84
    go_wp2_with fail
    refine bodyPost_ret (results_none rfl _ _ _) rfl ?_
    exact ⟨rfl, v, by rw [E1.out]; exact H.out, Keeps.refl _ _, Or.inl rfl⟩
end Go.Proofs.YtnjlhplcagkcnaaGreat


/- store: the reference's Key. -/
namespace Go.Proofs.YtnjlhplcagkcnaaGreat
open Go.RowKit Go.Shelf
set_option maxRecDepth 100000

theorem refNum_okE {x n : Int} {s : List Int × Int} (h1 : 1 ≤ n) (h7 : n ≤ 7) (hx : 0 ≤ x) (hd : x < 2 ^ (8 * n.toNat)) (hs : s.2 = 0) (hl : s.1.length + n.toNat ≤ 65536) :
    refNum x n s = (s.1 ++ be x n.toNat, 0) := by
  unfold refNum refAdd
  rw [if_pos hs, if_pos ⟨h1, h7, hx, hd⟩, if_pos hs, if_neg (by rw [be_length]; omega)]

theorem keyR1 {x : Int} (h : 0 ≤ x ∧ x ≤ 4) : refNum x 1 ([], 0) = (be x 1, 0) := by
  have e : (2 : Int) ^ (8 * (1 : Int).toNat) = 256 := by decide
  rw [refNum_okE (by omega) (by omega) (by omega) (by rw [e]; omega) rfl (by simp)]
  rfl
theorem keyR2 {x : Int} (h : 0 ≤ x ∧ x ≤ 1048576) (s : List Int) (hs : s.length ≤ 100) : refNum x 3 (s, 0) = (s ++ be x 3, 0) := by
  have e : (2 : Int) ^ (8 * (3 : Int).toNat) = 16777216 := by decide
  rw [refNum_okE (by omega) (by omega) (by omega) (by rw [e]; omega) rfl (by have : (3 : Int).toNat = 3 := rfl; show s.length + _ ≤ _; omega)]
  rfl
theorem keyR3 {x : Int} (h : 0 ≤ x ∧ x ≤ 1073741824) (s : List Int) (hs : s.length ≤ 100) : refNum x 4 (s, 0) = (s ++ be x 4, 0) := by
  have e : (2 : Int) ^ (8 * (4 : Int).toNat) = 4294967296 := by decide
  rw [refNum_okE (by omega) (by omega) (by omega) (by rw [e]; omega) rfl (by have : (4 : Int).toNat = 4 := rfl; show s.length + _ ≤ _; omega)]
  rfl
theorem keyR4 {x : Int} (h : 0 ≤ x ∧ x ≤ 15) (s : List Int) (hs : s.length ≤ 100) : refNum x 1 (s, 0) = (s ++ be x 1, 0) := by
  have e : (2 : Int) ^ (8 * (1 : Int).toNat) = 256 := by decide
  rw [refNum_okE (by omega) (by omega) (by omega) (by rw [e]; omega) rfl (by have : (1 : Int).toNat = 1 := rfl; show s.length + _ ≤ _; omega)]
  rfl

/-- Key. -/
theorem keyRef_any (w : World) (x : Idn) : Calls Tryz.prog 37 #[idV x] w fun e w' => ∃ a c, e = .returned (.tuple #[.slice a (if mayI x then keyI x else []).length c, .int .i64 (if mayI x then 0 else 1)]) ∧
    RowAt w' (.slice a (if mayI x then keyI x else []).length c) (if mayI x then keyI x else []) ∧ (∀ ad, a = some ad → w.heap.size ≤ ad.block) ∧ Keeps [] w w' := by
  cases hm : mayI x with
  | false =>
    simp only [Bool.false_eq_true, if_false]
    unfold idV
    have KB := hid ((Keeps.refl [] w).alloc (.cells #[.int .i64 x.c, .int .i64 x.l, .int .i64 x.n, .int .i64 x.i] 34))
    go_enter Tryz.func37, Tryz.ntmps37
    go_wp2_with fail
    have my := mayR_any (w.alloc (.cells #[.int .i64 x.c, .int .i64 x.l, .int .i64 x.n, .int .i64 x.i] 34)) x
    rw [hm] at my
    unfold idV at my
    refine my.mono ?_
    rintro e w2 ⟨rfl, k2⟩
    have K2 := hid (KB.out.trans k2)
    clear k2 my
    go_wp2_with fail
    go_ret2
    exact ⟨none, 0, rfl, RowAt.nil w2, (fun ad h => by cases h), K2.out⟩
  | true =>
    simp only [if_true]
    obtain ⟨h1, h2, h3, h4⟩ := mayI_is.1 hm
    obtain ⟨s1, e1⟩ : ∃ s, s = be x.c 1 := ⟨_, rfl⟩
    obtain ⟨s2, e2⟩ : ∃ s, s = s1 ++ be x.l 3 := ⟨_, rfl⟩
    obtain ⟨s3, e3⟩ : ∃ s, s = s2 ++ be x.n 4 := ⟨_, rfl⟩
    have e4 : keyI x = s3 ++ be x.i 1 := by rw [e3, e2, e1]; rfl
    have l1 : s1.length = 1 := by rw [e1, be_length]
    have l2 : s2.length = 4 := by rw [e2, List.length_append, be_length, l1]
    have l3 : s3.length = 8 := by rw [e3, List.length_append, be_length, l2]
    have Q1 := hid (keyR1 h1)
    have Q2 := hid (keyR2 h2 s1 (by omega))
    have Q3 := hid (keyR3 h3 s2 (by omega))
    have Q4 := hid (keyR4 h4 s3 (by omega))
    rw [← e1] at Q1
    rw [← e2] at Q2
    rw [← e3] at Q3
    rw [← e4] at Q4
    generalize keyI x = s4 at Q4 ⊢
    clear e1 e2 e3 e4 l1 l2 l3 h1 h2 h3 h4
    unfold idV
    have KB := hid ((Keeps.refl [] w).alloc (.cells #[.int .i64 x.c, .int .i64 x.l, .int .i64 x.n, .int .i64 x.i] 34))
    have B1 := hid (heap_alloc_new w (.cells #[.int .i64 x.c, .int .i64 x.l, .int .i64 x.n, .int .i64 x.i] 34))
    go_enter Tryz.func37, Tryz.ntmps37
    go_wp2_with fail
    have my := mayR_any (w.alloc (.cells #[.int .i64 x.c, .int .i64 x.l, .int .i64 x.n, .int .i64 x.i] 34)) x
    rw [hm] at my
    unfold idV at my
    refine my.mono ?_
    rintro e wb ⟨rfl, k2⟩
    have K2 := hid (KB.out.trans k2)
    have B2 : Hid (wb.heap[w.heap.size]? = some (.cells #[.int .i64 x.c, .int .i64 x.l, .int .i64 x.n, .int .i64 x.i] 34 (0, 0))) := hid ((k2.block _ (lt_of_block B1.out) (by simp)).trans B1.out)
    clear k2 my KB B1
    have HZ := hid (lt_of_block B2.out)
    have c0 : (wb.alloc (.cells #[.slice none 0 0, .int .i64 0] 139)).cell? ⟨w.heap.size, 0, none⟩ = some (.int .i64 x.c) := by
      have := (((Keeps.refl [] wb).alloc (.cells #[.slice none 0 0, .int .i64 0] 139)).block _ HZ.out (by simp)).trans B2.out
      simp [World.cell?, this]
    go_wp2_with fail
    have P1 := hid (PenSince.new wb (Keeps.refl [] wb) 139)
    refine (rnum_any _ wb.heap.size wb.heap.size _ [] 0 x.c 1 P1.out.pen P1.out.kept.size).mono ?_
    intro e w2 hq
    obtain ⟨rfl, v2, q2⟩ := P1.out.step hq
    rw [Q1.out] at q2
    simp only at q2
    have P2 := hid q2
    have c1 : w2.cell? ⟨w.heap.size, 1, none⟩ = some (.int .i64 x.l) := by
      have := (q2.kept.block w.heap.size HZ.out (by simp)).trans B2.out
      simp [World.cell?, this]
    clear q2 hq c0
    go_wp2_with fail
    refine (rnum_any w2 wb.heap.size wb.heap.size v2 s1 0 x.l 3 P2.out.pen P2.out.kept.size).mono ?_
    intro e w3 hq
    obtain ⟨rfl, v3, q2⟩ := P2.out.step hq
    rw [Q2.out] at q2
    simp only at q2
    have P3 := hid q2
    have c2 : w3.cell? ⟨w.heap.size, 2, none⟩ = some (.int .i64 x.n) := by
      have := (q2.kept.block w.heap.size HZ.out (by simp)).trans B2.out
      simp [World.cell?, this]
    clear q2 hq c1
    go_wp2_with fail
    refine (rnum_any w3 wb.heap.size wb.heap.size v3 s2 0 x.n 4 P3.out.pen P3.out.kept.size).mono ?_
    intro e w4 hq
    obtain ⟨rfl, v4, q2⟩ := P3.out.step hq
    rw [Q3.out] at q2
    simp only at q2
    have P4 := hid q2
    have c3 : w4.cell? ⟨w.heap.size, 3, none⟩ = some (.int .i64 x.i) := by
      have := (q2.kept.block w.heap.size HZ.out (by simp)).trans B2.out
      simp [World.cell?, this]
    clear q2 hq c2
    go_wp2_with fail
    refine (rnum_any w4 wb.heap.size wb.heap.size v4 s3 0 x.i 1 P4.out.pen P4.out.kept.size).mono ?_
    intro e w5 hq
    obtain ⟨rfl, v5, q2⟩ := P4.out.step hq
    rw [Q4.out] at q2
    simp only at q2
    have P5 := hid q2
    clear q2 hq c3
    have hv : ∃ a c, v5 = .slice a s4.length c ∧ (∀ ad, a = some ad → wb.heap.size ≤ ad.block) := by
      rcases P5.out.pen.own.2 with ⟨h1, h2⟩ | ⟨g, cap, cur, h1, hb, _⟩
      · exact ⟨none, 0, by rw [h1, h2], fun ad h => by cases h⟩
      · exact ⟨some ⟨g, 0, none⟩, cap, h1, fun ad h => by cases h; exact hb⟩
    obtain ⟨a, c, rfl, hn⟩ := hv
    have R5 := hid (row_of_own P5.out.pen.own P5.out.pen.byte)
    have N5 := hid (fun ad (h : a = some ad) => Nat.le_trans K2.out.size (hn ad h))
    have c5 := P5.out.pen.cell0
    clear hn
    go_wp2_with fail
    go_ret2
    exact ⟨_, _, rfl, R5.out, N5.out, K2.out.trans P5.out.kept⟩
end Go.Proofs.YtnjlhplcagkcnaaGreat


/- store: ids are compared. -/
namespace Go.Proofs.YtnjlhplcagkcnaaGreat
open Go.RowKit Go.Shelf
set_option maxRecDepth 100000

set_option linter.unusedSimpArgs false
theorem eqIds (w : World) (a b : Idn) : (binOp .eql 34 (idV a) (idV b)).run Tryz.prog w = .ok (.bool (a.c == b.c && a.l == b.l && a.n == b.n && a.i == b.i)) w := by
  have f1 : Tryz.prog.underlying 34 = some (.struct (Tryz.prog.fieldsOf 34)) := by kernel_rfl
  have f2 : Tryz.prog.underlying 32 = some (.struct (Tryz.prog.fieldsOf 32)) := by kernel_rfl
  have p1 : ∀ w, (part 32 #[.int .i64 a.c, .int .i64 a.l, .int .i64 a.n, .int .i64 a.i] 0).run Tryz.prog w = .ok (.agg #[.int .i64 a.c, .int .i64 a.l, .int .i64 a.n]) w := fun w => by kernel_rfl
  have p2 : ∀ w, (part 32 #[.int .i64 b.c, .int .i64 b.l, .int .i64 b.n, .int .i64 b.i] 0).run Tryz.prog w = .ok (.agg #[.int .i64 b.c, .int .i64 b.l, .int .i64 b.n]) w := fun w => by kernel_rfl
  have p3 : ∀ w, (part 3 #[.int .i64 a.c, .int .i64 a.l, .int .i64 a.n, .int .i64 a.i] 3).run Tryz.prog w = .ok (.int .i64 a.i) w := fun w => by kernel_rfl
  have p4 : ∀ w, (part 3 #[.int .i64 b.c, .int .i64 b.l, .int .i64 b.n, .int .i64 b.i] 3).run Tryz.prog w = .ok (.int .i64 b.i) w := fun w => by kernel_rfl
  have q : ∀ (x y z : Int), (∀ w, (part 3 #[.int .i64 x, .int .i64 y, .int .i64 z] 0).run Tryz.prog w = .ok (.int .i64 x) w) ∧ (∀ w, (part 3 #[.int .i64 x, .int .i64 y, .int .i64 z] 1).run Tryz.prog w = .ok (.int .i64 y) w) ∧ (∀ w, (part 3 #[.int .i64 x, .int .i64 y, .int .i64 z] 2).run Tryz.prog w = .ok (.int .i64 z) w) := fun x y z => ⟨fun w => by kernel_rfl, fun w => by kernel_rfl, fun w => by kernel_rfl⟩
  have u : Tryz.prog.underlying 3 = some (.int .i64) := by kernel_rfl
  have i : ∀ (d : Nat) (x y : Int) (w : World), (Op.equalIn (d + 1) 3 (.int .i64 x) (.int .i64 y)).run Tryz.prog w = .ok (x == y) w := fun d x y w => run_equalIn_int w d 3 .i64 .i64 x y u
  have i8 : ∀ (x y : Int) (w : World), (Op.equalIn 9998 3 (.int .i64 x) (.int .i64 y)).run Tryz.prog w = .ok (x == y) w := i 9997
  have i9 : ∀ (x y : Int) (w : World), (Op.equalIn 9999 3 (.int .i64 x) (.int .i64 y)).run Tryz.prog w = .ok (x == y) w := i 9998
  have g1 : (Tryz.prog.fieldsOf 34).toList.map (fun f => (f.name != "_", f.type, f.offset)) = [(true, 32, 0), (true, 3, 3)] := by kernel_rfl
  have g2 : (Tryz.prog.fieldsOf 32).toList.map (fun f => (f.name != "_", f.type, f.offset)) = [(true, 3, 0), (true, 3, 1), (true, 3, 2)] := by kernel_rfl
  have S : ∀ w, (Op.equalIn 9999 32 (.agg #[.int .i64 a.c, .int .i64 a.l, .int .i64 a.n]) (.agg #[.int .i64 b.c, .int .i64 b.l, .int .i64 b.n])).run Tryz.prog w = .ok (a.c == b.c && a.l == b.l && a.n == b.n) w := fun w => by
    rw [run_equalIn_agg w 9998 32 _ _ f2 (by kernel_rfl)]
    generalize (Tryz.prog.fieldsOf 32).toList = fs at g2 ⊢
    obtain ⟨x, y, z, rfl⟩ : ∃ x y z, fs = [x, y, z] := by
      have hl := congrArg List.length g2
      rw [List.length_map] at hl
      match fs, hl with
      | [x, y, z], _ => exact ⟨x, y, z, rfl⟩
    · clear g1
      simp only [List.map_cons, List.map_nil, List.cons.injEq, Prod.mk.injEq, and_true, bne_iff_ne] at g2
      obtain ⟨⟨n1, t1, o1⟩, ⟨n2, t2, o2⟩, n3, t3, o3⟩ := g2
      cases h1 : a.c == b.c <;> cases h2 : a.l == b.l <;> cases h3 : a.n == b.n <;>
        simp only [Op.eqFields, n1, n2, n3, t1, t2, t3, o1, o2, o3, (q _ _ _).1, (q _ _ _).2.1, (q _ _ _).2.2, i8, h1, h2, h3, if_true, if_false, Bool.not_true, Bool.not_false, Bool.false_eq_true, Sem.run_bind, Sem.run_ite, Sem.run_pure, Result.andThen_ok, ne_eq, not_false_eq_true, Bool.and_true, Bool.and_false, Bool.false_and, Bool.true_and]
  unfold idV
  rw [run_eql_struct, run_equalIn_agg w 9999 34 _ _ f1 (by kernel_rfl)]
  generalize (Tryz.prog.fieldsOf 34).toList = fs at g1 ⊢
  obtain ⟨x, y, rfl⟩ : ∃ x y, fs = [x, y] := by
    have hl := congrArg List.length g1
    rw [List.length_map] at hl
    match fs, hl with
    | [x, y], _ => exact ⟨x, y, rfl⟩
  · clear g2
    simp only [List.map_cons, List.map_nil, List.cons.injEq, Prod.mk.injEq, and_true, bne_iff_ne] at g1
    obtain ⟨⟨n1, t1, o1⟩, n2, t2, o2⟩ := g1
    cases h1 : (a.c == b.c && a.l == b.l && a.n == b.n) <;> cases h2 : a.i == b.i <;>
      simp only [Op.eqFields, n1, n2, t1, t2, o1, o2, p1, p2, p3, p4, S, h1, h2, i9, if_true, if_false, Bool.not_true, Bool.not_false, Bool.false_eq_true, Sem.run_bind, Sem.run_ite, Sem.run_pure, Result.andThen_ok, ne_eq, not_false_eq_true, Bool.and_true, Bool.and_false, Bool.false_and, Bool.true_and]
theorem eqIds_is (a b : Idn) : (a.c == b.c && a.l == b.l && a.n == b.n && a.i == b.i) = decide (a = b) := by
  obtain ⟨a1, a2, a3, a4⟩ := a
  obtain ⟨b1, b2, b3, b4⟩ := b
  simp only [Idn.mk.injEq]
  rw [Bool.eq_iff_iff]
  simp [and_assoc]
theorem exec_eqIds {ρ : Operand → Value} {o : Oper} {w : World} (x y : Operand) (u : TypeId) (a b : Idn) (ho : o.op = .binOp .eql 34 x y u) (hx : ρ x = idV a) (hy : ρ y = idV b) : (execOp ρ o).run Tryz.prog w = .ok (.value (.bool (decide (a = b)))) w := by
  have hg : (eqGuard .eql 34 x y (idV a) (idV b)).run Tryz.prog w = .ok () w := run_eqGuard_agg w .eql 34 x y _ _ (by kernel_rfl)
  simp only [execOp, ho, hx, hy, Sem.run_bind, hg, eqIds, eqIds_is, Result.andThen_ok, Sem.run_pure]

/-- The key tells the id. -/
theorem keyI_inj {a b : Idn} (ha : mayI a = true) (hb : mayI b = true) (h : keyI a = keyI b) : a = b := by
  obtain ⟨a1, a2, a3, a4⟩ := mayI_is.1 ha
  obtain ⟨b1, b2, b3, b4⟩ := mayI_is.1 hb
  obtain ⟨ac, al, an, ai⟩ := a
  obtain ⟨bc, bl, bn, bi⟩ := b
  simp only [keyI, be_succ, be_zero, List.nil_append, List.cons_append, List.append_assoc, List.cons.injEq, and_true] at h
  simp only [Idn.mk.injEq]
  simp only at a1 a2 a3 a4 b1 b2 b3 b4
  omega
theorem same_keys {a b : Idn} (ha : mayI a = true) (hb : mayI b = true) : decide (keyI a = keyI b) = decide (a = b) := by
  by_cases e : a = b
  · subst e; simp
  · have : ¬ keyI a = keyI b := fun h => e (keyI_inj ha hb h)
    simp [e, this]
end Go.Proofs.YtnjlhplcagkcnaaGreat


/- The walk of the law StoreKeys. -/
namespace Go.Proofs.YtnjlhplcagkcnaaGreat
open Go.RowKit Go.Shelf
set_option maxRecDepth 100000

theorem id_cells {w : World} {p : Nat} {x : Idn} (h : w.heap[p]? = some (.cells #[.int .i64 x.c, .int .i64 x.l, .int .i64 x.n, .int .i64 x.i] 34 (0, 0))) :
    w.cell? ⟨p, 0, none⟩ = some (.int .i64 x.c) ∧ w.cell? ⟨p, 1, none⟩ = some (.int .i64 x.l) ∧ w.cell? ⟨p, 2, none⟩ = some (.int .i64 x.n) ∧ w.cell? ⟨p, 3, none⟩ = some (.int .i64 x.i) := by
  refine ⟨?_, ?_, ?_, ?_⟩ <;> simp [World.cell?, h]

theorem loadId_at {w4 W1 : World} {p : Nat} {x : Idn} (h1 : KpS [] w4.heap.size w4.drew W1) (h : w4.heap[p]? = some (.cells #[.int .i64 x.c, .int .i64 x.l, .int .i64 x.n, .int .i64 x.i] 34 (0, 0))) :
    (Instr.loadAt 34 (.pointer (some ⟨p, 0, none⟩))).run Tryz.prog W1 = .ok (idV x) W1 := by
  refine run_loadAt_mid W1 p 0 34 x.cells _ (fun j v hv => ?_) Tryz.underlying34 rfl (by rw [sId]; rfl)
  rw [Nat.zero_add]
  have hc : w4.cell? ⟨p, j, none⟩ = some v := by
    rw [cell_of_row _ _ j _ _ (0, 0) h]
    simpa [Idn.cells] using hv
  exact h1.cell (by rw [World.cell?_drew]; exact hc) (lt_of_block h) (by simp)

set_option linter.unusedSimpArgs false in
set_option maxHeartbeats 6400000 in
theorem keys6_any (w : World) (a b : Idn) : Calls Tryz.prog 5 #[idV a, idV b] w fun e w' => e = .returned (.bool true) ∧ Keeps [] w w' := by
  have KB := hid (((Keeps.refl [] w).alloc (.cells #[.int .i64 a.c, .int .i64 a.l, .int .i64 a.n, .int .i64 a.i] 34)).alloc (.cells #[.int .i64 b.c, .int .i64 b.l, .int .i64 b.n, .int .i64 b.i] 34))
  have b1 := heap_alloc_new w (.cells #[.int .i64 a.c, .int .i64 a.l, .int .i64 a.n, .int .i64 a.i] 34)
  have b2 := (heap_alloc_new (w.alloc (.cells #[.int .i64 a.c, .int .i64 a.l, .int .i64 a.n, .int .i64 a.i] 34)) (.cells #[.int .i64 b.c, .int .i64 b.l, .int .i64 b.n, .int .i64 b.i] 34))
  have hz : (w.alloc (.cells #[.int .i64 a.c, .int .i64 a.l, .int .i64 a.n, .int .i64 a.i] 34)).heap.size = w.heap.size + 1 := by simp
  rw [hz] at b2
  have B2 := hid b2
  have B1 := hid ((((Keeps.refl [] (w.alloc (.cells #[.int .i64 a.c, .int .i64 a.l, .int .i64 a.n, .int .i64 a.i] 34)))).alloc (.cells #[.int .i64 b.c, .int .i64 b.l, .int .i64 b.n, .int .i64 b.i] 34)).block _ (lt_of_block b1) (by simp) |>.trans b1)
  clear b1 b2 hz
  unfold idV
  go_enter Tryz.func5, Tryz.ntmps5
  go_wp2_with fail
  refine (awake6_any _).mono ?_
  rintro e w1 ⟨rfl, k1⟩
  have K1 := hid (KB.out.trans k1)
  have A1 : Hid (w1.heap[w.heap.size]? = _) := hid ((k1.block _ (lt_of_block B1.out) (by simp)).trans B1.out)
  have C1 : Hid (w1.heap[w.heap.size + 1]? = _) := hid ((k1.block _ (lt_of_block B2.out) (by simp)).trans B2.out)
  clear k1 B1 B2 KB
  cases ha : mayI a with
  | false =>
    cases hb : mayI b with
    | false =>
      obtain ⟨a0, a1, a2, a3⟩ := id_cells A1.out
      go_wp2_with fail
      have ka := key_any w1 a
      simp only [ha, Bool.false_eq_true, if_false, List.length_nil] at ka
      unfold idV at ka
      refine ka.mono ?_
      rintro e w2 ⟨xa, xc, rfl, rx, nx, k2⟩
      have K2 := hid (K1.out.trans k2)
      have A2 : Hid (w2.heap[w.heap.size]? = _) := hid ((k2.block _ (lt_of_block A1.out) (by simp)).trans A1.out)
      have C2 : Hid (w2.heap[w.heap.size + 1]? = _) := hid ((k2.block _ (lt_of_block C1.out) (by simp)).trans C1.out)
      have RX2 := hid rx
      clear ka k2 rx nx a0 a1 a2 a3 A1 C1
      obtain ⟨a0, a1, a2, a3⟩ := id_cells A2.out
      go_wp2_with fail
      have ka := keyRef_any w2 a
      simp only [ha, Bool.false_eq_true, if_false, List.length_nil] at ka
      unfold idV at ka
      refine ka.mono ?_
      rintro e w3 ⟨ya, yc, rfl, ry, ny, k3⟩
      have K3 := hid (K2.out.trans k3)
      have A3 : Hid (w3.heap[w.heap.size]? = _) := hid ((k3.block _ (lt_of_block A2.out) (by simp)).trans A2.out)
      have C3 : Hid (w3.heap[w.heap.size + 1]? = _) := hid ((k3.block _ (lt_of_block C2.out) (by simp)).trans C2.out)
      have RX3 := hid (RX2.out.keep k3 (by intro _ _ _ _ _; simp))
      have RY3 := hid ry
      clear ka k3 ry ny a0 a1 a2 a3 A2 C2 RX2
      obtain ⟨a0, a1, a2, a3⟩ := id_cells C3.out
      go_wp2_with fail
      have ka := key_any w3 b
      simp only [hb, Bool.false_eq_true, if_false, List.length_nil] at ka
      unfold idV at ka
      refine ka.mono ?_
      rintro e w4 ⟨za, zc, rfl, rz, nz, k4⟩
      have K4 := hid (K3.out.trans k4)
      have A4 : Hid (w4.heap[w.heap.size]? = _) := hid ((k4.block _ (lt_of_block A3.out) (by simp)).trans A3.out)
      have C4 : Hid (w4.heap[w.heap.size + 1]? = _) := hid ((k4.block _ (lt_of_block C3.out) (by simp)).trans C3.out)
      have RX4 := hid (RX3.out.keep k4 (by intro _ _ _ _ _; simp))
      have RY4 := hid (RY3.out.keep k4 (by intro _ _ _ _ _; simp))
      have RZ4 := hid rz
      clear ka k4 rz nz a0 a1 a2 a3 A3 C3 RX3 RY3
      go_wp2_with fail
      refine wp_region_any (by kernel_rfl) (wpAny_of_held (S := KpS [] w4.heap.size w4.drew) _ _ _ _ ?_)
      refine held_take (i := 0) (v := .int .i64 1) rfl (by kernel_rfl) (by kernel_rfl) (by kernel_rfl) (fun _ _ _ h => h) rfl (fun W1 hW1 => rfl) (KpS.refl _ _ _) ?_
      simp only [Act.put, List.setIfInBounds_toArray, List.set_cons_zero, List.set_cons_succ]
      refine held_take (i := 1) (v := .int .i64 1) rfl (by kernel_rfl) (by kernel_rfl) (by kernel_rfl) (fun _ _ _ h => h) rfl (fun W1 hW1 => rfl) (KpS.refl _ _ _) ?_
      simp only [Act.put, List.setIfInBounds_toArray, List.set_cons_zero, List.set_cons_succ]
      refine held_take (i := 2) (v := .bool true) rfl (by kernel_rfl) (by kernel_rfl) (by kernel_rfl) (fun _ _ _ h => h) rfl (fun W1 hW1 => by go_simp) (KpS.refl _ _ _) ?_
      simp only [Act.put, List.setIfInBounds_toArray, List.set_cons_zero, List.set_cons_succ]
      refine held_take (i := 3) (v := .bool true) rfl (by kernel_rfl) (by kernel_rfl) (by kernel_rfl) (fun _ _ _ h => h) rfl (fun W1 hW1 => rfl) (KpS.refl _ _ _) ?_
      simp only [Act.put, List.setIfInBounds_toArray, List.set_cons_zero, List.set_cons_succ]
      refine held_takeW (i := 4) (v := .slice xa 0 xc) rfl (by kernel_rfl) (by kernel_rfl) (by kernel_rfl) (fun _ _ _ h => h) rfl (fun W1 hW1 => rfl) (KpS.refl _ _ _) ?_
      simp only [Act.put, List.setIfInBounds_toArray, List.set_cons_zero, List.set_cons_succ]
      refine held_takeW (i := 5) (v := .slice ya 0 yc) rfl (by kernel_rfl) (by kernel_rfl) (by kernel_rfl) (fun _ _ _ h => h) rfl (fun W1 hW1 => rfl) (KpS.refl _ _ _) ?_
      simp only [Act.put, List.setIfInBounds_toArray, List.set_cons_zero, List.set_cons_succ]
      have RXd := hid (RX4.out.keep ((Keeps.refl [] w4).drew) (by intro _ _ _ _ _; simp))
      have RYd := hid (RY4.out.keep ((Keeps.refl [] w4).drew) (by intro _ _ _ _ _; simp))
      refine held_doW (i := 6) (by kernel_rfl) rfl rfl (wp_enter (f := 32) (args := #[.slice xa 0 xc, .slice ya 0 yc]) (by go_simp) (same_true w4.drew _ _ ([]) RXd.out RYd.out (by simp [keyI_len])) ?_)
      rintro e w5 ⟨rfl, k5⟩
      have kp5 : KpS [] w4.heap.size w4.drew w5 := (KpS.refl _ _ _).keeps k5 (Nat.le_refl _) (fun i hi _ => hi)
      refine ⟨_, rfl, kp5, ?_⟩
      simp only [Act.put, List.setIfInBounds_toArray, List.set_cons_zero, List.set_cons_succ]
      have K5 := hid (((Keeps.refl [] w4).drew).trans k5)
      clear k5
      have hA : ∀ W1, KpS [] w4.heap.size w4.drew W1 → (Instr.loadAt 34 (.pointer (some ⟨w.heap.size, 0, none⟩))).run Tryz.prog W1 = .ok (idV a) W1 := fun W1 h1 => loadId_at h1 A4.out
      have hC : ∀ W1, KpS [] w4.heap.size w4.drew W1 → (Instr.loadAt 34 (.pointer (some ⟨w.heap.size + 1, 0, none⟩))).run Tryz.prog W1 = .ok (idV b) W1 := fun W1 h1 => loadId_at h1 C4.out
      refine held_take (i := 7) (v := .bool true) rfl (by kernel_rfl) (by kernel_rfl) (by kernel_rfl) (fun _ _ _ h => h) rfl (fun W1 hW1 => rfl) (kp5) ?_
      simp only [Act.put, List.setIfInBounds_toArray, List.set_cons_zero, List.set_cons_succ]
      refine held_take (i := 8) (v := .bool true) rfl (by kernel_rfl) (by kernel_rfl) (by kernel_rfl) (fun _ _ _ h => h) rfl (fun W1 hW1 => rfl) (kp5) ?_
      simp only [Act.put, List.setIfInBounds_toArray, List.set_cons_zero, List.set_cons_succ]
      refine held_takeW (i := 9) (v := idV a) rfl (by kernel_rfl) (by kernel_rfl) (by kernel_rfl) (fun _ _ _ h => h) rfl (fun W1 hW1 => exec_load _ _ _ _ rfl rfl (hA W1 hW1)) (kp5) ?_
      simp only [Act.put, List.setIfInBounds_toArray, List.set_cons_zero, List.set_cons_succ]
      refine held_takeW (i := 11) (v := idV a) rfl (by kernel_rfl) (by kernel_rfl) (by kernel_rfl) (fun _ _ _ h => h) rfl (fun W1 hW1 => exec_load _ _ _ _ rfl rfl (hA W1 hW1)) (kp5) ?_
      simp only [Act.put, List.setIfInBounds_toArray, List.set_cons_zero, List.set_cons_succ]
      refine held_doW (i := 10) (by kernel_rfl) rfl rfl (wp_enter (f := 38) (args := #[idV a]) (by go_simp) (may_any w5 a) ?_)
      rintro e w6 ⟨rfl, k6⟩
      have kp6 : KpS [] w4.heap.size w4.drew w6 := kp5.keeps k6 (by have := K5.out.size; omega) (fun i hi _ => hi)
      refine ⟨_, rfl, kp6, ?_⟩
      simp only [Act.put, List.setIfInBounds_toArray, List.set_cons_zero, List.set_cons_succ]
      have K6 := hid (K5.out.trans k6)
      clear k6 kp5
      refine held_doW (i := 12) (by kernel_rfl) rfl rfl (wp_enter (f := 39) (args := #[idV a]) (by go_simp) (mayR_any w6 a) ?_)
      rintro e w7 ⟨rfl, k7⟩
      have kp7 : KpS [] w4.heap.size w4.drew w7 := kp6.keeps k7 (by have := K6.out.size; omega) (fun i hi _ => hi)
      refine ⟨_, rfl, kp7, ?_⟩
      simp only [Act.put, List.setIfInBounds_toArray, List.set_cons_zero, List.set_cons_succ]
      have K7 := hid (K6.out.trans k7)
      clear k7 kp6
      refine held_takeW (i := 13) (v := .bool true) rfl (by kernel_rfl) (by kernel_rfl) (by kernel_rfl) (fun _ _ _ h => h) rfl (fun W1 hW1 => by cases mayI a <;> go_simp) (kp7) ?_
      simp only [Act.put, List.setIfInBounds_toArray, List.set_cons_zero, List.set_cons_succ]
      refine held_take (i := 14) (v := .bool true) rfl (by kernel_rfl) (by kernel_rfl) (by kernel_rfl) (fun _ _ _ h => h) rfl (fun W1 hW1 => rfl) (kp7) ?_
      simp only [Act.put, List.setIfInBounds_toArray, List.set_cons_zero, List.set_cons_succ]
      refine held_take (i := 15) (v := .bool true) rfl (by kernel_rfl) (by kernel_rfl) (by kernel_rfl) (fun _ _ _ h => h) rfl (fun W1 hW1 => rfl) (kp7) ?_
      simp only [Act.put, List.setIfInBounds_toArray, List.set_cons_zero, List.set_cons_succ]
      refine held_takeW (i := 16) (v := .int .i64 1) rfl (by kernel_rfl) (by kernel_rfl) (by kernel_rfl) (fun _ _ _ h => h) rfl (fun W1 hW1 => rfl) (kp7) ?_
      simp only [Act.put, List.setIfInBounds_toArray, List.set_cons_zero, List.set_cons_succ]
      refine held_takeW (i := 17) (v := .bool true) rfl (by kernel_rfl) (by kernel_rfl) (by kernel_rfl) (fun _ _ _ h => h) rfl (fun W1 hW1 => by go_simp) (kp7) ?_
      simp only [Act.put, List.setIfInBounds_toArray, List.set_cons_zero, List.set_cons_succ]
      refine held_takeW (i := 18) (v := .bool true) rfl (by kernel_rfl) (by kernel_rfl) (by kernel_rfl) (fun _ _ _ h => h) rfl (fun W1 hW1 => rfl) (kp7) ?_
      simp only [Act.put, List.setIfInBounds_toArray, List.set_cons_zero, List.set_cons_succ]
      refine held_skip (i := 19) rfl (by kernel_rfl) (by kernel_rfl) (by kernel_rfl) (fun _ _ _ h => h) rfl (kp7) ?_
      simp only [Act.put, List.setIfInBounds_toArray, List.set_cons_zero, List.set_cons_succ]
      refine held_skip (i := 20) rfl (by kernel_rfl) (by kernel_rfl) (by kernel_rfl) (fun _ _ _ h => h) rfl (kp7) ?_
      simp only [Act.put, List.setIfInBounds_toArray, List.set_cons_zero, List.set_cons_succ]
      refine held_takeW (i := 21) (v := .bool true) rfl (by kernel_rfl) (by kernel_rfl) (by kernel_rfl) (fun _ _ _ h => h) rfl (fun W1 hW1 => rfl) (kp7) ?_
      simp only [Act.put, List.setIfInBounds_toArray, List.set_cons_zero, List.set_cons_succ]
      refine held_takeW (i := 22) (v := .bool true) rfl (by kernel_rfl) (by kernel_rfl) (by kernel_rfl) (fun _ _ _ h => h) rfl (fun W1 hW1 => rfl) (kp7) ?_
      simp only [Act.put, List.setIfInBounds_toArray, List.set_cons_zero, List.set_cons_succ]
      refine held_skip (i := 23) rfl (by kernel_rfl) (by kernel_rfl) (by kernel_rfl) (fun _ _ _ h => h) rfl (kp7) ?_
      simp only [Act.put, List.setIfInBounds_toArray, List.set_cons_zero, List.set_cons_succ]
      refine held_skip (i := 24) rfl (by kernel_rfl) (by kernel_rfl) (by kernel_rfl) (fun _ _ _ h => h) rfl (kp7) ?_
      simp only [Act.put, List.setIfInBounds_toArray, List.set_cons_zero, List.set_cons_succ]
      refine held_skip (i := 25) rfl (by kernel_rfl) (by kernel_rfl) (by kernel_rfl) (fun _ _ _ h => h) rfl (kp7) ?_
      simp only [Act.put, List.setIfInBounds_toArray, List.set_cons_zero, List.set_cons_succ]
      refine held_skip (i := 26) rfl (by kernel_rfl) (by kernel_rfl) (by kernel_rfl) (fun _ _ _ h => h) rfl (kp7) ?_
      simp only [Act.put, List.setIfInBounds_toArray, List.set_cons_zero, List.set_cons_succ]
      refine held_skip (i := 27) rfl (by kernel_rfl) (by kernel_rfl) (by kernel_rfl) (fun _ _ _ h => h) rfl (kp7) ?_
      simp only [Act.put, List.setIfInBounds_toArray, List.set_cons_zero, List.set_cons_succ]
      refine held_skip (i := 28) rfl (by kernel_rfl) (by kernel_rfl) (by kernel_rfl) (fun _ _ _ h => h) rfl (kp7) ?_
      simp only [Act.put, List.setIfInBounds_toArray, List.set_cons_zero, List.set_cons_succ]
      refine held_skip (i := 29) rfl (by kernel_rfl) (by kernel_rfl) (by kernel_rfl) (fun _ _ _ h => h) rfl (kp7) ?_
      simp only [Act.put, List.setIfInBounds_toArray, List.set_cons_zero, List.set_cons_succ]
      refine held_takeW (i := 30) (v := .bool true) rfl (by kernel_rfl) (by kernel_rfl) (by kernel_rfl) (fun _ _ _ h => h) rfl (fun W1 hW1 => rfl) (kp7) ?_
      simp only [Act.put, List.setIfInBounds_toArray, List.set_cons_zero, List.set_cons_succ]
      refine held_take (i := 31) (v := .bool true) rfl (by kernel_rfl) (by kernel_rfl) (by kernel_rfl) (fun _ _ _ h => h) rfl (fun W1 hW1 => rfl) (kp7) ?_
      simp only [Act.put, List.setIfInBounds_toArray, List.set_cons_zero, List.set_cons_succ]
      refine held_take (i := 32) (v := .bool true) rfl (by kernel_rfl) (by kernel_rfl) (by kernel_rfl) (fun _ _ _ h => h) rfl (fun W1 hW1 => rfl) (kp7) ?_
      simp only [Act.put, List.setIfInBounds_toArray, List.set_cons_zero, List.set_cons_succ]
      refine wpAnyH_done (by kernel_rfl) ?_ _
      have KZ := hid (K4.out.trans K7.out)
      clear kp7 hA hC
      go_wp2_with fail
      go_ret
      exact ⟨rfl, KZ.out⟩
    | true =>
      obtain ⟨a0, a1, a2, a3⟩ := id_cells A1.out
      go_wp2_with fail
      have ka := key_any w1 a
      simp only [ha, Bool.false_eq_true, if_false, List.length_nil] at ka
      unfold idV at ka
      refine ka.mono ?_
      rintro e w2 ⟨xa, xc, rfl, rx, nx, k2⟩
      have K2 := hid (K1.out.trans k2)
      have A2 : Hid (w2.heap[w.heap.size]? = _) := hid ((k2.block _ (lt_of_block A1.out) (by simp)).trans A1.out)
      have C2 : Hid (w2.heap[w.heap.size + 1]? = _) := hid ((k2.block _ (lt_of_block C1.out) (by simp)).trans C1.out)
      have RX2 := hid rx
      clear ka k2 rx nx a0 a1 a2 a3 A1 C1
      obtain ⟨a0, a1, a2, a3⟩ := id_cells A2.out
      go_wp2_with fail
      have ka := keyRef_any w2 a
      simp only [ha, Bool.false_eq_true, if_false, List.length_nil] at ka
      unfold idV at ka
      refine ka.mono ?_
      rintro e w3 ⟨ya, yc, rfl, ry, ny, k3⟩
      have K3 := hid (K2.out.trans k3)
      have A3 : Hid (w3.heap[w.heap.size]? = _) := hid ((k3.block _ (lt_of_block A2.out) (by simp)).trans A2.out)
      have C3 : Hid (w3.heap[w.heap.size + 1]? = _) := hid ((k3.block _ (lt_of_block C2.out) (by simp)).trans C2.out)
      have RX3 := hid (RX2.out.keep k3 (by intro _ _ _ _ _; simp))
      have RY3 := hid ry
      clear ka k3 ry ny a0 a1 a2 a3 A2 C2 RX2
      obtain ⟨a0, a1, a2, a3⟩ := id_cells C3.out
      go_wp2_with fail
      have ka := key_any w3 b
      simp only [hb, if_true] at ka
      unfold idV at ka
      refine ka.mono ?_
      rintro e w4 ⟨za, zc, rfl, rz, nz, k4⟩
      have K4 := hid (K3.out.trans k4)
      have A4 : Hid (w4.heap[w.heap.size]? = _) := hid ((k4.block _ (lt_of_block A3.out) (by simp)).trans A3.out)
      have C4 : Hid (w4.heap[w.heap.size + 1]? = _) := hid ((k4.block _ (lt_of_block C3.out) (by simp)).trans C3.out)
      have RX4 := hid (RX3.out.keep k4 (by intro _ _ _ _ _; simp))
      have RY4 := hid (RY3.out.keep k4 (by intro _ _ _ _ _; simp))
      have RZ4 := hid rz
      clear ka k4 rz nz a0 a1 a2 a3 A3 C3 RX3 RY3
      go_wp2_with fail
      refine wp_region_any (by kernel_rfl) (wpAny_of_held (S := KpS [] w4.heap.size w4.drew) _ _ _ _ ?_)
      refine held_take (i := 0) (v := .int .i64 1) rfl (by kernel_rfl) (by kernel_rfl) (by kernel_rfl) (fun _ _ _ h => h) rfl (fun W1 hW1 => rfl) (KpS.refl _ _ _) ?_
      simp only [Act.put, List.setIfInBounds_toArray, List.set_cons_zero, List.set_cons_succ]
      refine held_take (i := 1) (v := .int .i64 1) rfl (by kernel_rfl) (by kernel_rfl) (by kernel_rfl) (fun _ _ _ h => h) rfl (fun W1 hW1 => rfl) (KpS.refl _ _ _) ?_
      simp only [Act.put, List.setIfInBounds_toArray, List.set_cons_zero, List.set_cons_succ]
      refine held_take (i := 2) (v := .bool true) rfl (by kernel_rfl) (by kernel_rfl) (by kernel_rfl) (fun _ _ _ h => h) rfl (fun W1 hW1 => by go_simp) (KpS.refl _ _ _) ?_
      simp only [Act.put, List.setIfInBounds_toArray, List.set_cons_zero, List.set_cons_succ]
      refine held_take (i := 3) (v := .bool true) rfl (by kernel_rfl) (by kernel_rfl) (by kernel_rfl) (fun _ _ _ h => h) rfl (fun W1 hW1 => rfl) (KpS.refl _ _ _) ?_
      simp only [Act.put, List.setIfInBounds_toArray, List.set_cons_zero, List.set_cons_succ]
      refine held_takeW (i := 4) (v := .slice xa 0 xc) rfl (by kernel_rfl) (by kernel_rfl) (by kernel_rfl) (fun _ _ _ h => h) rfl (fun W1 hW1 => rfl) (KpS.refl _ _ _) ?_
      simp only [Act.put, List.setIfInBounds_toArray, List.set_cons_zero, List.set_cons_succ]
      refine held_takeW (i := 5) (v := .slice ya 0 yc) rfl (by kernel_rfl) (by kernel_rfl) (by kernel_rfl) (fun _ _ _ h => h) rfl (fun W1 hW1 => rfl) (KpS.refl _ _ _) ?_
      simp only [Act.put, List.setIfInBounds_toArray, List.set_cons_zero, List.set_cons_succ]
      have RXd := hid (RX4.out.keep ((Keeps.refl [] w4).drew) (by intro _ _ _ _ _; simp))
      have RYd := hid (RY4.out.keep ((Keeps.refl [] w4).drew) (by intro _ _ _ _ _; simp))
      refine held_doW (i := 6) (by kernel_rfl) rfl rfl (wp_enter (f := 32) (args := #[.slice xa 0 xc, .slice ya 0 yc]) (by go_simp) (same_true w4.drew _ _ ([]) RXd.out RYd.out (by simp [keyI_len])) ?_)
      rintro e w5 ⟨rfl, k5⟩
      have kp5 : KpS [] w4.heap.size w4.drew w5 := (KpS.refl _ _ _).keeps k5 (Nat.le_refl _) (fun i hi _ => hi)
      refine ⟨_, rfl, kp5, ?_⟩
      simp only [Act.put, List.setIfInBounds_toArray, List.set_cons_zero, List.set_cons_succ]
      have K5 := hid (((Keeps.refl [] w4).drew).trans k5)
      clear k5
      have hA : ∀ W1, KpS [] w4.heap.size w4.drew W1 → (Instr.loadAt 34 (.pointer (some ⟨w.heap.size, 0, none⟩))).run Tryz.prog W1 = .ok (idV a) W1 := fun W1 h1 => loadId_at h1 A4.out
      have hC : ∀ W1, KpS [] w4.heap.size w4.drew W1 → (Instr.loadAt 34 (.pointer (some ⟨w.heap.size + 1, 0, none⟩))).run Tryz.prog W1 = .ok (idV b) W1 := fun W1 h1 => loadId_at h1 C4.out
      refine held_take (i := 7) (v := .bool true) rfl (by kernel_rfl) (by kernel_rfl) (by kernel_rfl) (fun _ _ _ h => h) rfl (fun W1 hW1 => rfl) (kp5) ?_
      simp only [Act.put, List.setIfInBounds_toArray, List.set_cons_zero, List.set_cons_succ]
      refine held_take (i := 8) (v := .bool true) rfl (by kernel_rfl) (by kernel_rfl) (by kernel_rfl) (fun _ _ _ h => h) rfl (fun W1 hW1 => rfl) (kp5) ?_
      simp only [Act.put, List.setIfInBounds_toArray, List.set_cons_zero, List.set_cons_succ]
      refine held_takeW (i := 9) (v := idV a) rfl (by kernel_rfl) (by kernel_rfl) (by kernel_rfl) (fun _ _ _ h => h) rfl (fun W1 hW1 => exec_load _ _ _ _ rfl rfl (hA W1 hW1)) (kp5) ?_
      simp only [Act.put, List.setIfInBounds_toArray, List.set_cons_zero, List.set_cons_succ]
      refine held_takeW (i := 11) (v := idV a) rfl (by kernel_rfl) (by kernel_rfl) (by kernel_rfl) (fun _ _ _ h => h) rfl (fun W1 hW1 => exec_load _ _ _ _ rfl rfl (hA W1 hW1)) (kp5) ?_
      simp only [Act.put, List.setIfInBounds_toArray, List.set_cons_zero, List.set_cons_succ]
      refine held_doW (i := 10) (by kernel_rfl) rfl rfl (wp_enter (f := 38) (args := #[idV a]) (by go_simp) (may_any w5 a) ?_)
      rintro e w6 ⟨rfl, k6⟩
      have kp6 : KpS [] w4.heap.size w4.drew w6 := kp5.keeps k6 (by have := K5.out.size; omega) (fun i hi _ => hi)
      refine ⟨_, rfl, kp6, ?_⟩
      simp only [Act.put, List.setIfInBounds_toArray, List.set_cons_zero, List.set_cons_succ]
      have K6 := hid (K5.out.trans k6)
      clear k6 kp5
      refine held_doW (i := 12) (by kernel_rfl) rfl rfl (wp_enter (f := 39) (args := #[idV a]) (by go_simp) (mayR_any w6 a) ?_)
      rintro e w7 ⟨rfl, k7⟩
      have kp7 : KpS [] w4.heap.size w4.drew w7 := kp6.keeps k7 (by have := K6.out.size; omega) (fun i hi _ => hi)
      refine ⟨_, rfl, kp7, ?_⟩
      simp only [Act.put, List.setIfInBounds_toArray, List.set_cons_zero, List.set_cons_succ]
      have K7 := hid (K6.out.trans k7)
      clear k7 kp6
      refine held_takeW (i := 13) (v := .bool true) rfl (by kernel_rfl) (by kernel_rfl) (by kernel_rfl) (fun _ _ _ h => h) rfl (fun W1 hW1 => by cases mayI a <;> go_simp) (kp7) ?_
      simp only [Act.put, List.setIfInBounds_toArray, List.set_cons_zero, List.set_cons_succ]
      refine held_take (i := 14) (v := .bool true) rfl (by kernel_rfl) (by kernel_rfl) (by kernel_rfl) (fun _ _ _ h => h) rfl (fun W1 hW1 => rfl) (kp7) ?_
      simp only [Act.put, List.setIfInBounds_toArray, List.set_cons_zero, List.set_cons_succ]
      refine held_take (i := 15) (v := .bool true) rfl (by kernel_rfl) (by kernel_rfl) (by kernel_rfl) (fun _ _ _ h => h) rfl (fun W1 hW1 => rfl) (kp7) ?_
      simp only [Act.put, List.setIfInBounds_toArray, List.set_cons_zero, List.set_cons_succ]
      refine held_takeW (i := 16) (v := .int .i64 1) rfl (by kernel_rfl) (by kernel_rfl) (by kernel_rfl) (fun _ _ _ h => h) rfl (fun W1 hW1 => rfl) (kp7) ?_
      simp only [Act.put, List.setIfInBounds_toArray, List.set_cons_zero, List.set_cons_succ]
      refine held_takeW (i := 17) (v := .bool true) rfl (by kernel_rfl) (by kernel_rfl) (by kernel_rfl) (fun _ _ _ h => h) rfl (fun W1 hW1 => by go_simp) (kp7) ?_
      simp only [Act.put, List.setIfInBounds_toArray, List.set_cons_zero, List.set_cons_succ]
      refine held_takeW (i := 18) (v := .bool true) rfl (by kernel_rfl) (by kernel_rfl) (by kernel_rfl) (fun _ _ _ h => h) rfl (fun W1 hW1 => rfl) (kp7) ?_
      simp only [Act.put, List.setIfInBounds_toArray, List.set_cons_zero, List.set_cons_succ]
      refine held_skip (i := 19) rfl (by kernel_rfl) (by kernel_rfl) (by kernel_rfl) (fun _ _ _ h => h) rfl (kp7) ?_
      simp only [Act.put, List.setIfInBounds_toArray, List.set_cons_zero, List.set_cons_succ]
      refine held_skip (i := 20) rfl (by kernel_rfl) (by kernel_rfl) (by kernel_rfl) (fun _ _ _ h => h) rfl (kp7) ?_
      simp only [Act.put, List.setIfInBounds_toArray, List.set_cons_zero, List.set_cons_succ]
      refine held_takeW (i := 21) (v := .bool true) rfl (by kernel_rfl) (by kernel_rfl) (by kernel_rfl) (fun _ _ _ h => h) rfl (fun W1 hW1 => rfl) (kp7) ?_
      simp only [Act.put, List.setIfInBounds_toArray, List.set_cons_zero, List.set_cons_succ]
      refine held_takeW (i := 22) (v := .bool true) rfl (by kernel_rfl) (by kernel_rfl) (by kernel_rfl) (fun _ _ _ h => h) rfl (fun W1 hW1 => rfl) (kp7) ?_
      simp only [Act.put, List.setIfInBounds_toArray, List.set_cons_zero, List.set_cons_succ]
      refine held_skip (i := 23) rfl (by kernel_rfl) (by kernel_rfl) (by kernel_rfl) (fun _ _ _ h => h) rfl (kp7) ?_
      simp only [Act.put, List.setIfInBounds_toArray, List.set_cons_zero, List.set_cons_succ]
      refine held_skip (i := 24) rfl (by kernel_rfl) (by kernel_rfl) (by kernel_rfl) (fun _ _ _ h => h) rfl (kp7) ?_
      simp only [Act.put, List.setIfInBounds_toArray, List.set_cons_zero, List.set_cons_succ]
      refine held_skip (i := 25) rfl (by kernel_rfl) (by kernel_rfl) (by kernel_rfl) (fun _ _ _ h => h) rfl (kp7) ?_
      simp only [Act.put, List.setIfInBounds_toArray, List.set_cons_zero, List.set_cons_succ]
      refine held_skip (i := 26) rfl (by kernel_rfl) (by kernel_rfl) (by kernel_rfl) (fun _ _ _ h => h) rfl (kp7) ?_
      simp only [Act.put, List.setIfInBounds_toArray, List.set_cons_zero, List.set_cons_succ]
      refine held_skip (i := 27) rfl (by kernel_rfl) (by kernel_rfl) (by kernel_rfl) (fun _ _ _ h => h) rfl (kp7) ?_
      simp only [Act.put, List.setIfInBounds_toArray, List.set_cons_zero, List.set_cons_succ]
      refine held_skip (i := 28) rfl (by kernel_rfl) (by kernel_rfl) (by kernel_rfl) (fun _ _ _ h => h) rfl (kp7) ?_
      simp only [Act.put, List.setIfInBounds_toArray, List.set_cons_zero, List.set_cons_succ]
      refine held_skip (i := 29) rfl (by kernel_rfl) (by kernel_rfl) (by kernel_rfl) (fun _ _ _ h => h) rfl (kp7) ?_
      simp only [Act.put, List.setIfInBounds_toArray, List.set_cons_zero, List.set_cons_succ]
      refine held_takeW (i := 30) (v := .bool true) rfl (by kernel_rfl) (by kernel_rfl) (by kernel_rfl) (fun _ _ _ h => h) rfl (fun W1 hW1 => rfl) (kp7) ?_
      simp only [Act.put, List.setIfInBounds_toArray, List.set_cons_zero, List.set_cons_succ]
      refine held_take (i := 31) (v := .bool true) rfl (by kernel_rfl) (by kernel_rfl) (by kernel_rfl) (fun _ _ _ h => h) rfl (fun W1 hW1 => rfl) (kp7) ?_
      simp only [Act.put, List.setIfInBounds_toArray, List.set_cons_zero, List.set_cons_succ]
      refine held_take (i := 32) (v := .bool true) rfl (by kernel_rfl) (by kernel_rfl) (by kernel_rfl) (fun _ _ _ h => h) rfl (fun W1 hW1 => rfl) (kp7) ?_
      simp only [Act.put, List.setIfInBounds_toArray, List.set_cons_zero, List.set_cons_succ]
      refine wpAnyH_done (by kernel_rfl) ?_ _
      have KZ := hid (K4.out.trans K7.out)
      clear kp7 hA hC
      go_wp2_with fail
      go_ret
      exact ⟨rfl, KZ.out⟩
  | true =>
    cases hb : mayI b with
    | false =>
      obtain ⟨a0, a1, a2, a3⟩ := id_cells A1.out
      go_wp2_with fail
      have ka := key_any w1 a
      simp only [ha, if_true] at ka
      unfold idV at ka
      refine ka.mono ?_
      rintro e w2 ⟨xa, xc, rfl, rx, nx, k2⟩
      have K2 := hid (K1.out.trans k2)
      have A2 : Hid (w2.heap[w.heap.size]? = _) := hid ((k2.block _ (lt_of_block A1.out) (by simp)).trans A1.out)
      have C2 : Hid (w2.heap[w.heap.size + 1]? = _) := hid ((k2.block _ (lt_of_block C1.out) (by simp)).trans C1.out)
      have RX2 := hid rx
      clear ka k2 rx nx a0 a1 a2 a3 A1 C1
      obtain ⟨a0, a1, a2, a3⟩ := id_cells A2.out
      go_wp2_with fail
      have ka := keyRef_any w2 a
      simp only [ha, if_true] at ka
      unfold idV at ka
      refine ka.mono ?_
      rintro e w3 ⟨ya, yc, rfl, ry, ny, k3⟩
      have K3 := hid (K2.out.trans k3)
      have A3 : Hid (w3.heap[w.heap.size]? = _) := hid ((k3.block _ (lt_of_block A2.out) (by simp)).trans A2.out)
      have C3 : Hid (w3.heap[w.heap.size + 1]? = _) := hid ((k3.block _ (lt_of_block C2.out) (by simp)).trans C2.out)
      have RX3 := hid (RX2.out.keep k3 (by intro _ _ _ _ _; simp))
      have RY3 := hid ry
      clear ka k3 ry ny a0 a1 a2 a3 A2 C2 RX2
      obtain ⟨a0, a1, a2, a3⟩ := id_cells C3.out
      go_wp2_with fail
      have ka := key_any w3 b
      simp only [hb, Bool.false_eq_true, if_false, List.length_nil] at ka
      unfold idV at ka
      refine ka.mono ?_
      rintro e w4 ⟨za, zc, rfl, rz, nz, k4⟩
      have K4 := hid (K3.out.trans k4)
      have A4 : Hid (w4.heap[w.heap.size]? = _) := hid ((k4.block _ (lt_of_block A3.out) (by simp)).trans A3.out)
      have C4 : Hid (w4.heap[w.heap.size + 1]? = _) := hid ((k4.block _ (lt_of_block C3.out) (by simp)).trans C3.out)
      have RX4 := hid (RX3.out.keep k4 (by intro _ _ _ _ _; simp))
      have RY4 := hid (RY3.out.keep k4 (by intro _ _ _ _ _; simp))
      have RZ4 := hid rz
      clear ka k4 rz nz a0 a1 a2 a3 A3 C3 RX3 RY3
      go_wp2_with fail
      refine wp_region_any (by kernel_rfl) (wpAny_of_held (S := KpS [] w4.heap.size w4.drew) _ _ _ _ ?_)
      refine held_take (i := 0) (v := .int .i64 0) rfl (by kernel_rfl) (by kernel_rfl) (by kernel_rfl) (fun _ _ _ h => h) rfl (fun W1 hW1 => rfl) (KpS.refl _ _ _) ?_
      simp only [Act.put, List.setIfInBounds_toArray, List.set_cons_zero, List.set_cons_succ]
      refine held_take (i := 1) (v := .int .i64 0) rfl (by kernel_rfl) (by kernel_rfl) (by kernel_rfl) (fun _ _ _ h => h) rfl (fun W1 hW1 => rfl) (KpS.refl _ _ _) ?_
      simp only [Act.put, List.setIfInBounds_toArray, List.set_cons_zero, List.set_cons_succ]
      refine held_take (i := 2) (v := .bool true) rfl (by kernel_rfl) (by kernel_rfl) (by kernel_rfl) (fun _ _ _ h => h) rfl (fun W1 hW1 => by go_simp) (KpS.refl _ _ _) ?_
      simp only [Act.put, List.setIfInBounds_toArray, List.set_cons_zero, List.set_cons_succ]
      refine held_take (i := 3) (v := .bool true) rfl (by kernel_rfl) (by kernel_rfl) (by kernel_rfl) (fun _ _ _ h => h) rfl (fun W1 hW1 => rfl) (KpS.refl _ _ _) ?_
      simp only [Act.put, List.setIfInBounds_toArray, List.set_cons_zero, List.set_cons_succ]
      refine held_takeW (i := 4) (v := .slice xa (keyI a).length xc) rfl (by kernel_rfl) (by kernel_rfl) (by kernel_rfl) (fun _ _ _ h => h) rfl (fun W1 hW1 => rfl) (KpS.refl _ _ _) ?_
      simp only [Act.put, List.setIfInBounds_toArray, List.set_cons_zero, List.set_cons_succ]
      refine held_takeW (i := 5) (v := .slice ya (keyI a).length yc) rfl (by kernel_rfl) (by kernel_rfl) (by kernel_rfl) (fun _ _ _ h => h) rfl (fun W1 hW1 => rfl) (KpS.refl _ _ _) ?_
      simp only [Act.put, List.setIfInBounds_toArray, List.set_cons_zero, List.set_cons_succ]
      have RXd := hid (RX4.out.keep ((Keeps.refl [] w4).drew) (by intro _ _ _ _ _; simp))
      have RYd := hid (RY4.out.keep ((Keeps.refl [] w4).drew) (by intro _ _ _ _ _; simp))
      refine held_doW (i := 6) (by kernel_rfl) rfl rfl (wp_enter (f := 32) (args := #[.slice xa (keyI a).length xc, .slice ya (keyI a).length yc]) (by go_simp) (same_true w4.drew _ _ (keyI a) RXd.out RYd.out (by simp [keyI_len])) ?_)
      rintro e w5 ⟨rfl, k5⟩
      have kp5 : KpS [] w4.heap.size w4.drew w5 := (KpS.refl _ _ _).keeps k5 (Nat.le_refl _) (fun i hi _ => hi)
      refine ⟨_, rfl, kp5, ?_⟩
      simp only [Act.put, List.setIfInBounds_toArray, List.set_cons_zero, List.set_cons_succ]
      have K5 := hid (((Keeps.refl [] w4).drew).trans k5)
      clear k5
      have hA : ∀ W1, KpS [] w4.heap.size w4.drew W1 → (Instr.loadAt 34 (.pointer (some ⟨w.heap.size, 0, none⟩))).run Tryz.prog W1 = .ok (idV a) W1 := fun W1 h1 => loadId_at h1 A4.out
      have hC : ∀ W1, KpS [] w4.heap.size w4.drew W1 → (Instr.loadAt 34 (.pointer (some ⟨w.heap.size + 1, 0, none⟩))).run Tryz.prog W1 = .ok (idV b) W1 := fun W1 h1 => loadId_at h1 C4.out
      refine held_take (i := 7) (v := .bool true) rfl (by kernel_rfl) (by kernel_rfl) (by kernel_rfl) (fun _ _ _ h => h) rfl (fun W1 hW1 => rfl) (kp5) ?_
      simp only [Act.put, List.setIfInBounds_toArray, List.set_cons_zero, List.set_cons_succ]
      refine held_take (i := 8) (v := .bool true) rfl (by kernel_rfl) (by kernel_rfl) (by kernel_rfl) (fun _ _ _ h => h) rfl (fun W1 hW1 => rfl) (kp5) ?_
      simp only [Act.put, List.setIfInBounds_toArray, List.set_cons_zero, List.set_cons_succ]
      refine held_takeW (i := 9) (v := idV a) rfl (by kernel_rfl) (by kernel_rfl) (by kernel_rfl) (fun _ _ _ h => h) rfl (fun W1 hW1 => exec_load _ _ _ _ rfl rfl (hA W1 hW1)) (kp5) ?_
      simp only [Act.put, List.setIfInBounds_toArray, List.set_cons_zero, List.set_cons_succ]
      refine held_takeW (i := 11) (v := idV a) rfl (by kernel_rfl) (by kernel_rfl) (by kernel_rfl) (fun _ _ _ h => h) rfl (fun W1 hW1 => exec_load _ _ _ _ rfl rfl (hA W1 hW1)) (kp5) ?_
      simp only [Act.put, List.setIfInBounds_toArray, List.set_cons_zero, List.set_cons_succ]
      refine held_doW (i := 10) (by kernel_rfl) rfl rfl (wp_enter (f := 38) (args := #[idV a]) (by go_simp) (may_any w5 a) ?_)
      rintro e w6 ⟨rfl, k6⟩
      have kp6 : KpS [] w4.heap.size w4.drew w6 := kp5.keeps k6 (by have := K5.out.size; omega) (fun i hi _ => hi)
      refine ⟨_, rfl, kp6, ?_⟩
      simp only [Act.put, List.setIfInBounds_toArray, List.set_cons_zero, List.set_cons_succ]
      have K6 := hid (K5.out.trans k6)
      clear k6 kp5
      refine held_doW (i := 12) (by kernel_rfl) rfl rfl (wp_enter (f := 39) (args := #[idV a]) (by go_simp) (mayR_any w6 a) ?_)
      rintro e w7 ⟨rfl, k7⟩
      have kp7 : KpS [] w4.heap.size w4.drew w7 := kp6.keeps k7 (by have := K6.out.size; omega) (fun i hi _ => hi)
      refine ⟨_, rfl, kp7, ?_⟩
      simp only [Act.put, List.setIfInBounds_toArray, List.set_cons_zero, List.set_cons_succ]
      have K7 := hid (K6.out.trans k7)
      clear k7 kp6
      refine held_takeW (i := 13) (v := .bool true) rfl (by kernel_rfl) (by kernel_rfl) (by kernel_rfl) (fun _ _ _ h => h) rfl (fun W1 hW1 => by cases mayI a <;> go_simp) (kp7) ?_
      simp only [Act.put, List.setIfInBounds_toArray, List.set_cons_zero, List.set_cons_succ]
      refine held_take (i := 14) (v := .bool true) rfl (by kernel_rfl) (by kernel_rfl) (by kernel_rfl) (fun _ _ _ h => h) rfl (fun W1 hW1 => rfl) (kp7) ?_
      simp only [Act.put, List.setIfInBounds_toArray, List.set_cons_zero, List.set_cons_succ]
      refine held_take (i := 15) (v := .bool true) rfl (by kernel_rfl) (by kernel_rfl) (by kernel_rfl) (fun _ _ _ h => h) rfl (fun W1 hW1 => rfl) (kp7) ?_
      simp only [Act.put, List.setIfInBounds_toArray, List.set_cons_zero, List.set_cons_succ]
      refine held_takeW (i := 16) (v := .int .i64 0) rfl (by kernel_rfl) (by kernel_rfl) (by kernel_rfl) (fun _ _ _ h => h) rfl (fun W1 hW1 => rfl) (kp7) ?_
      simp only [Act.put, List.setIfInBounds_toArray, List.set_cons_zero, List.set_cons_succ]
      refine held_takeW (i := 17) (v := .bool false) rfl (by kernel_rfl) (by kernel_rfl) (by kernel_rfl) (fun _ _ _ h => h) rfl (fun W1 hW1 => by go_simp) (kp7) ?_
      simp only [Act.put, List.setIfInBounds_toArray, List.set_cons_zero, List.set_cons_succ]
      refine held_takeW (i := 18) (v := .bool false) rfl (by kernel_rfl) (by kernel_rfl) (by kernel_rfl) (fun _ _ _ h => h) rfl (fun W1 hW1 => rfl) (kp7) ?_
      simp only [Act.put, List.setIfInBounds_toArray, List.set_cons_zero, List.set_cons_succ]
      refine held_takeW (i := 19) (v := .int .i64 1) rfl (by kernel_rfl) (by kernel_rfl) (by kernel_rfl) (fun _ _ _ h => h) rfl (fun W1 hW1 => rfl) (kp7) ?_
      simp only [Act.put, List.setIfInBounds_toArray, List.set_cons_zero, List.set_cons_succ]
      refine held_takeW (i := 20) (v := .bool true) rfl (by kernel_rfl) (by kernel_rfl) (by kernel_rfl) (fun _ _ _ h => h) rfl (fun W1 hW1 => by go_simp) (kp7) ?_
      simp only [Act.put, List.setIfInBounds_toArray, List.set_cons_zero, List.set_cons_succ]
      refine held_takeW (i := 21) (v := .bool true) rfl (by kernel_rfl) (by kernel_rfl) (by kernel_rfl) (fun _ _ _ h => h) rfl (fun W1 hW1 => rfl) (kp7) ?_
      simp only [Act.put, List.setIfInBounds_toArray, List.set_cons_zero, List.set_cons_succ]
      refine held_takeW (i := 22) (v := .bool true) rfl (by kernel_rfl) (by kernel_rfl) (by kernel_rfl) (fun _ _ _ h => h) rfl (fun W1 hW1 => rfl) (kp7) ?_
      simp only [Act.put, List.setIfInBounds_toArray, List.set_cons_zero, List.set_cons_succ]
      refine held_skip (i := 23) rfl (by kernel_rfl) (by kernel_rfl) (by kernel_rfl) (fun _ _ _ h => h) rfl (kp7) ?_
      simp only [Act.put, List.setIfInBounds_toArray, List.set_cons_zero, List.set_cons_succ]
      refine held_skip (i := 24) rfl (by kernel_rfl) (by kernel_rfl) (by kernel_rfl) (fun _ _ _ h => h) rfl (kp7) ?_
      simp only [Act.put, List.setIfInBounds_toArray, List.set_cons_zero, List.set_cons_succ]
      refine held_skip (i := 25) rfl (by kernel_rfl) (by kernel_rfl) (by kernel_rfl) (fun _ _ _ h => h) rfl (kp7) ?_
      simp only [Act.put, List.setIfInBounds_toArray, List.set_cons_zero, List.set_cons_succ]
      refine held_skip (i := 26) rfl (by kernel_rfl) (by kernel_rfl) (by kernel_rfl) (fun _ _ _ h => h) rfl (kp7) ?_
      simp only [Act.put, List.setIfInBounds_toArray, List.set_cons_zero, List.set_cons_succ]
      refine held_skip (i := 27) rfl (by kernel_rfl) (by kernel_rfl) (by kernel_rfl) (fun _ _ _ h => h) rfl (kp7) ?_
      simp only [Act.put, List.setIfInBounds_toArray, List.set_cons_zero, List.set_cons_succ]
      refine held_skip (i := 28) rfl (by kernel_rfl) (by kernel_rfl) (by kernel_rfl) (fun _ _ _ h => h) rfl (kp7) ?_
      simp only [Act.put, List.setIfInBounds_toArray, List.set_cons_zero, List.set_cons_succ]
      refine held_skip (i := 29) rfl (by kernel_rfl) (by kernel_rfl) (by kernel_rfl) (fun _ _ _ h => h) rfl (kp7) ?_
      simp only [Act.put, List.setIfInBounds_toArray, List.set_cons_zero, List.set_cons_succ]
      refine held_takeW (i := 30) (v := .bool true) rfl (by kernel_rfl) (by kernel_rfl) (by kernel_rfl) (fun _ _ _ h => h) rfl (fun W1 hW1 => rfl) (kp7) ?_
      simp only [Act.put, List.setIfInBounds_toArray, List.set_cons_zero, List.set_cons_succ]
      refine held_take (i := 31) (v := .bool true) rfl (by kernel_rfl) (by kernel_rfl) (by kernel_rfl) (fun _ _ _ h => h) rfl (fun W1 hW1 => rfl) (kp7) ?_
      simp only [Act.put, List.setIfInBounds_toArray, List.set_cons_zero, List.set_cons_succ]
      refine held_take (i := 32) (v := .bool true) rfl (by kernel_rfl) (by kernel_rfl) (by kernel_rfl) (fun _ _ _ h => h) rfl (fun W1 hW1 => rfl) (kp7) ?_
      simp only [Act.put, List.setIfInBounds_toArray, List.set_cons_zero, List.set_cons_succ]
      refine wpAnyH_done (by kernel_rfl) ?_ _
      have KZ := hid (K4.out.trans K7.out)
      clear kp7 hA hC
      go_wp2_with fail
      go_ret
      exact ⟨rfl, KZ.out⟩
    | true =>
      obtain ⟨a0, a1, a2, a3⟩ := id_cells A1.out
      go_wp2_with fail
      have ka := key_any w1 a
      simp only [ha, if_true] at ka
      unfold idV at ka
      refine ka.mono ?_
      rintro e w2 ⟨xa, xc, rfl, rx, nx, k2⟩
      have K2 := hid (K1.out.trans k2)
      have A2 : Hid (w2.heap[w.heap.size]? = _) := hid ((k2.block _ (lt_of_block A1.out) (by simp)).trans A1.out)
      have C2 : Hid (w2.heap[w.heap.size + 1]? = _) := hid ((k2.block _ (lt_of_block C1.out) (by simp)).trans C1.out)
      have RX2 := hid rx
      clear ka k2 rx nx a0 a1 a2 a3 A1 C1
      obtain ⟨a0, a1, a2, a3⟩ := id_cells A2.out
      go_wp2_with fail
      have ka := keyRef_any w2 a
      simp only [ha, if_true] at ka
      unfold idV at ka
      refine ka.mono ?_
      rintro e w3 ⟨ya, yc, rfl, ry, ny, k3⟩
      have K3 := hid (K2.out.trans k3)
      have A3 : Hid (w3.heap[w.heap.size]? = _) := hid ((k3.block _ (lt_of_block A2.out) (by simp)).trans A2.out)
      have C3 : Hid (w3.heap[w.heap.size + 1]? = _) := hid ((k3.block _ (lt_of_block C2.out) (by simp)).trans C2.out)
      have RX3 := hid (RX2.out.keep k3 (by intro _ _ _ _ _; simp))
      have RY3 := hid ry
      clear ka k3 ry ny a0 a1 a2 a3 A2 C2 RX2
      obtain ⟨a0, a1, a2, a3⟩ := id_cells C3.out
      go_wp2_with fail
      have ka := key_any w3 b
      simp only [hb, if_true] at ka
      unfold idV at ka
      refine ka.mono ?_
      rintro e w4 ⟨za, zc, rfl, rz, nz, k4⟩
      have K4 := hid (K3.out.trans k4)
      have A4 : Hid (w4.heap[w.heap.size]? = _) := hid ((k4.block _ (lt_of_block A3.out) (by simp)).trans A3.out)
      have C4 : Hid (w4.heap[w.heap.size + 1]? = _) := hid ((k4.block _ (lt_of_block C3.out) (by simp)).trans C3.out)
      have RX4 := hid (RX3.out.keep k4 (by intro _ _ _ _ _; simp))
      have RY4 := hid (RY3.out.keep k4 (by intro _ _ _ _ _; simp))
      have RZ4 := hid rz
      clear ka k4 rz nz a0 a1 a2 a3 A3 C3 RX3 RY3
      go_wp2_with fail
      refine wp_region_any (by kernel_rfl) (wpAny_of_held (S := KpS [] w4.heap.size w4.drew) _ _ _ _ ?_)
      refine held_take (i := 0) (v := .int .i64 0) rfl (by kernel_rfl) (by kernel_rfl) (by kernel_rfl) (fun _ _ _ h => h) rfl (fun W1 hW1 => rfl) (KpS.refl _ _ _) ?_
      simp only [Act.put, List.setIfInBounds_toArray, List.set_cons_zero, List.set_cons_succ]
      refine held_take (i := 1) (v := .int .i64 0) rfl (by kernel_rfl) (by kernel_rfl) (by kernel_rfl) (fun _ _ _ h => h) rfl (fun W1 hW1 => rfl) (KpS.refl _ _ _) ?_
      simp only [Act.put, List.setIfInBounds_toArray, List.set_cons_zero, List.set_cons_succ]
      refine held_take (i := 2) (v := .bool true) rfl (by kernel_rfl) (by kernel_rfl) (by kernel_rfl) (fun _ _ _ h => h) rfl (fun W1 hW1 => by go_simp) (KpS.refl _ _ _) ?_
      simp only [Act.put, List.setIfInBounds_toArray, List.set_cons_zero, List.set_cons_succ]
      refine held_take (i := 3) (v := .bool true) rfl (by kernel_rfl) (by kernel_rfl) (by kernel_rfl) (fun _ _ _ h => h) rfl (fun W1 hW1 => rfl) (KpS.refl _ _ _) ?_
      simp only [Act.put, List.setIfInBounds_toArray, List.set_cons_zero, List.set_cons_succ]
      refine held_takeW (i := 4) (v := .slice xa (keyI a).length xc) rfl (by kernel_rfl) (by kernel_rfl) (by kernel_rfl) (fun _ _ _ h => h) rfl (fun W1 hW1 => rfl) (KpS.refl _ _ _) ?_
      simp only [Act.put, List.setIfInBounds_toArray, List.set_cons_zero, List.set_cons_succ]
      refine held_takeW (i := 5) (v := .slice ya (keyI a).length yc) rfl (by kernel_rfl) (by kernel_rfl) (by kernel_rfl) (fun _ _ _ h => h) rfl (fun W1 hW1 => rfl) (KpS.refl _ _ _) ?_
      simp only [Act.put, List.setIfInBounds_toArray, List.set_cons_zero, List.set_cons_succ]
      have RXd := hid (RX4.out.keep ((Keeps.refl [] w4).drew) (by intro _ _ _ _ _; simp))
      have RYd := hid (RY4.out.keep ((Keeps.refl [] w4).drew) (by intro _ _ _ _ _; simp))
      refine held_doW (i := 6) (by kernel_rfl) rfl rfl (wp_enter (f := 32) (args := #[.slice xa (keyI a).length xc, .slice ya (keyI a).length yc]) (by go_simp) (same_true w4.drew _ _ (keyI a) RXd.out RYd.out (by simp [keyI_len])) ?_)
      rintro e w5 ⟨rfl, k5⟩
      have kp5 : KpS [] w4.heap.size w4.drew w5 := (KpS.refl _ _ _).keeps k5 (Nat.le_refl _) (fun i hi _ => hi)
      refine ⟨_, rfl, kp5, ?_⟩
      simp only [Act.put, List.setIfInBounds_toArray, List.set_cons_zero, List.set_cons_succ]
      have K5 := hid (((Keeps.refl [] w4).drew).trans k5)
      clear k5
      have hA : ∀ W1, KpS [] w4.heap.size w4.drew W1 → (Instr.loadAt 34 (.pointer (some ⟨w.heap.size, 0, none⟩))).run Tryz.prog W1 = .ok (idV a) W1 := fun W1 h1 => loadId_at h1 A4.out
      have hC : ∀ W1, KpS [] w4.heap.size w4.drew W1 → (Instr.loadAt 34 (.pointer (some ⟨w.heap.size + 1, 0, none⟩))).run Tryz.prog W1 = .ok (idV b) W1 := fun W1 h1 => loadId_at h1 C4.out
      refine held_take (i := 7) (v := .bool true) rfl (by kernel_rfl) (by kernel_rfl) (by kernel_rfl) (fun _ _ _ h => h) rfl (fun W1 hW1 => rfl) (kp5) ?_
      simp only [Act.put, List.setIfInBounds_toArray, List.set_cons_zero, List.set_cons_succ]
      refine held_take (i := 8) (v := .bool true) rfl (by kernel_rfl) (by kernel_rfl) (by kernel_rfl) (fun _ _ _ h => h) rfl (fun W1 hW1 => rfl) (kp5) ?_
      simp only [Act.put, List.setIfInBounds_toArray, List.set_cons_zero, List.set_cons_succ]
      refine held_takeW (i := 9) (v := idV a) rfl (by kernel_rfl) (by kernel_rfl) (by kernel_rfl) (fun _ _ _ h => h) rfl (fun W1 hW1 => exec_load _ _ _ _ rfl rfl (hA W1 hW1)) (kp5) ?_
      simp only [Act.put, List.setIfInBounds_toArray, List.set_cons_zero, List.set_cons_succ]
      refine held_takeW (i := 11) (v := idV a) rfl (by kernel_rfl) (by kernel_rfl) (by kernel_rfl) (fun _ _ _ h => h) rfl (fun W1 hW1 => exec_load _ _ _ _ rfl rfl (hA W1 hW1)) (kp5) ?_
      simp only [Act.put, List.setIfInBounds_toArray, List.set_cons_zero, List.set_cons_succ]
      refine held_doW (i := 10) (by kernel_rfl) rfl rfl (wp_enter (f := 38) (args := #[idV a]) (by go_simp) (may_any w5 a) ?_)
      rintro e w6 ⟨rfl, k6⟩
      have kp6 : KpS [] w4.heap.size w4.drew w6 := kp5.keeps k6 (by have := K5.out.size; omega) (fun i hi _ => hi)
      refine ⟨_, rfl, kp6, ?_⟩
      simp only [Act.put, List.setIfInBounds_toArray, List.set_cons_zero, List.set_cons_succ]
      have K6 := hid (K5.out.trans k6)
      clear k6 kp5
      refine held_doW (i := 12) (by kernel_rfl) rfl rfl (wp_enter (f := 39) (args := #[idV a]) (by go_simp) (mayR_any w6 a) ?_)
      rintro e w7 ⟨rfl, k7⟩
      have kp7 : KpS [] w4.heap.size w4.drew w7 := kp6.keeps k7 (by have := K6.out.size; omega) (fun i hi _ => hi)
      refine ⟨_, rfl, kp7, ?_⟩
      simp only [Act.put, List.setIfInBounds_toArray, List.set_cons_zero, List.set_cons_succ]
      have K7 := hid (K6.out.trans k7)
      clear k7 kp6
      refine held_takeW (i := 13) (v := .bool true) rfl (by kernel_rfl) (by kernel_rfl) (by kernel_rfl) (fun _ _ _ h => h) rfl (fun W1 hW1 => by cases mayI a <;> go_simp) (kp7) ?_
      simp only [Act.put, List.setIfInBounds_toArray, List.set_cons_zero, List.set_cons_succ]
      refine held_take (i := 14) (v := .bool true) rfl (by kernel_rfl) (by kernel_rfl) (by kernel_rfl) (fun _ _ _ h => h) rfl (fun W1 hW1 => rfl) (kp7) ?_
      simp only [Act.put, List.setIfInBounds_toArray, List.set_cons_zero, List.set_cons_succ]
      refine held_take (i := 15) (v := .bool true) rfl (by kernel_rfl) (by kernel_rfl) (by kernel_rfl) (fun _ _ _ h => h) rfl (fun W1 hW1 => rfl) (kp7) ?_
      simp only [Act.put, List.setIfInBounds_toArray, List.set_cons_zero, List.set_cons_succ]
      refine held_takeW (i := 16) (v := .int .i64 0) rfl (by kernel_rfl) (by kernel_rfl) (by kernel_rfl) (fun _ _ _ h => h) rfl (fun W1 hW1 => rfl) (kp7) ?_
      simp only [Act.put, List.setIfInBounds_toArray, List.set_cons_zero, List.set_cons_succ]
      refine held_takeW (i := 17) (v := .bool false) rfl (by kernel_rfl) (by kernel_rfl) (by kernel_rfl) (fun _ _ _ h => h) rfl (fun W1 hW1 => by go_simp) (kp7) ?_
      simp only [Act.put, List.setIfInBounds_toArray, List.set_cons_zero, List.set_cons_succ]
      refine held_takeW (i := 18) (v := .bool false) rfl (by kernel_rfl) (by kernel_rfl) (by kernel_rfl) (fun _ _ _ h => h) rfl (fun W1 hW1 => rfl) (kp7) ?_
      simp only [Act.put, List.setIfInBounds_toArray, List.set_cons_zero, List.set_cons_succ]
      refine held_takeW (i := 19) (v := .int .i64 0) rfl (by kernel_rfl) (by kernel_rfl) (by kernel_rfl) (fun _ _ _ h => h) rfl (fun W1 hW1 => rfl) (kp7) ?_
      simp only [Act.put, List.setIfInBounds_toArray, List.set_cons_zero, List.set_cons_succ]
      refine held_takeW (i := 20) (v := .bool false) rfl (by kernel_rfl) (by kernel_rfl) (by kernel_rfl) (fun _ _ _ h => h) rfl (fun W1 hW1 => by go_simp) (kp7) ?_
      simp only [Act.put, List.setIfInBounds_toArray, List.set_cons_zero, List.set_cons_succ]
      refine held_takeW (i := 21) (v := .bool false) rfl (by kernel_rfl) (by kernel_rfl) (by kernel_rfl) (fun _ _ _ h => h) rfl (fun W1 hW1 => rfl) (kp7) ?_
      simp only [Act.put, List.setIfInBounds_toArray, List.set_cons_zero, List.set_cons_succ]
      refine held_takeW (i := 22) (v := .bool false) rfl (by kernel_rfl) (by kernel_rfl) (by kernel_rfl) (fun _ _ _ h => h) rfl (fun W1 hW1 => rfl) (kp7) ?_
      simp only [Act.put, List.setIfInBounds_toArray, List.set_cons_zero, List.set_cons_succ]
      refine held_takeW (i := 23) (v := .slice xa (keyI a).length xc) rfl (by kernel_rfl) (by kernel_rfl) (by kernel_rfl) (fun _ _ _ h => h) rfl (fun W1 hW1 => rfl) (kp7) ?_
      simp only [Act.put, List.setIfInBounds_toArray, List.set_cons_zero, List.set_cons_succ]
      refine held_takeW (i := 24) (v := .slice za (keyI b).length zc) rfl (by kernel_rfl) (by kernel_rfl) (by kernel_rfl) (fun _ _ _ h => h) rfl (fun W1 hW1 => rfl) (kp7) ?_
      simp only [Act.put, List.setIfInBounds_toArray, List.set_cons_zero, List.set_cons_succ]
      refine held_takeW (i := 26) (v := idV a) rfl (by kernel_rfl) (by kernel_rfl) (by kernel_rfl) (fun _ _ _ h => h) rfl (fun W1 hW1 => exec_load _ _ _ _ rfl rfl (hA W1 hW1)) (kp7) ?_
      simp only [Act.put, List.setIfInBounds_toArray, List.set_cons_zero, List.set_cons_succ]
      refine held_takeW (i := 27) (v := idV b) rfl (by kernel_rfl) (by kernel_rfl) (by kernel_rfl) (fun _ _ _ h => h) rfl (fun W1 hW1 => exec_load _ _ _ _ rfl rfl (hC W1 hW1)) (kp7) ?_
      simp only [Act.put, List.setIfInBounds_toArray, List.set_cons_zero, List.set_cons_succ]
      refine held_takeW (i := 28) (v := .bool (decide (a = b))) rfl (by kernel_rfl) (by kernel_rfl) (by kernel_rfl) (fun _ _ _ h => h) rfl (fun W1 hW1 => exec_eqIds _ _ _ a b rfl rfl rfl) (kp7) ?_
      simp only [Act.put, List.setIfInBounds_toArray, List.set_cons_zero, List.set_cons_succ]
      have RX7 := hid (RX4.out.keep K7.out (by intro _ _ _ _ _; simp))
      have RZ7 := hid (RZ4.out.keep K7.out (by intro _ _ _ _ _; simp))
      refine held_doW (i := 25) (by kernel_rfl) rfl rfl (wp_enter (f := 32) (args := #[.slice xa (keyI a).length xc, .slice za (keyI b).length zc]) (by go_simp) (same_rows w7 _ _ (keyI a) (keyI b) RX7.out RZ7.out (by simp [keyI_len]) (by simp [keyI_len])) ?_)
      rintro e w8 ⟨rfl, k8⟩
      have kp8 : KpS [] w4.heap.size w4.drew w8 := kp7.keeps k8 (by have := K7.out.size; omega) (fun i hi _ => hi)
      refine ⟨_, rfl, kp8, ?_⟩
      simp only [Act.put, List.setIfInBounds_toArray, List.set_cons_zero, List.set_cons_succ]
      have K8 := hid (K7.out.trans k8)
      clear k8 kp7
      rw [same_keys ha hb]
      refine held_takeW (i := 29) (v := .bool true) rfl (by kernel_rfl) (by kernel_rfl) (by kernel_rfl) (fun _ _ _ h => h) rfl (fun W1 hW1 => by cases decide (a = b) <;> go_simp) (kp8) ?_
      simp only [Act.put, List.setIfInBounds_toArray, List.set_cons_zero, List.set_cons_succ]
      refine held_takeW (i := 30) (v := .bool true) rfl (by kernel_rfl) (by kernel_rfl) (by kernel_rfl) (fun _ _ _ h => h) rfl (fun W1 hW1 => rfl) (kp8) ?_
      simp only [Act.put, List.setIfInBounds_toArray, List.set_cons_zero, List.set_cons_succ]
      refine held_take (i := 31) (v := .bool true) rfl (by kernel_rfl) (by kernel_rfl) (by kernel_rfl) (fun _ _ _ h => h) rfl (fun W1 hW1 => rfl) (kp8) ?_
      simp only [Act.put, List.setIfInBounds_toArray, List.set_cons_zero, List.set_cons_succ]
      refine held_take (i := 32) (v := .bool true) rfl (by kernel_rfl) (by kernel_rfl) (by kernel_rfl) (fun _ _ _ h => h) rfl (fun W1 hW1 => rfl) (kp8) ?_
      simp only [Act.put, List.setIfInBounds_toArray, List.set_cons_zero, List.set_cons_succ]
      refine wpAnyH_done (by kernel_rfl) ?_ _
      have KZ := hid (K4.out.trans K8.out)
      clear kp8 hA hC
      go_wp2_with fail
      go_ret
      exact ⟨rfl, KZ.out⟩
end Go.Proofs.YtnjlhplcagkcnaaGreat


/- store: an id as an argument of a law. -/
namespace Go.Proofs.YtnjlhplcagkcnaaGreat
open Go.Deep Go.ChangeShapes Go.WideShapes Go.ChangeAt Go.RowKit
set_option maxRecDepth 100000

section
variable {H : Type} {enc : TypeId × Value → H}
theorem id_of_trod {W : World} {base : Nat} {v : Value} {d : DataW H} {p : List MemPlace} (hv : Value.okWide Tryz.prog W .any base 34 v) (h : DataW.Trod enc Tryz.prog W 0 (fun _ => true) true 34 v d p) :
    ∃ x : Idn, v = idV x ∧ d = .agg [.agg [.lit (.int .i64 x.c), .lit (.int .i64 x.l), .lit (.int .i64 x.n)], .lit (.int .i64 x.i)] ∧ p = [] ∧
      ((Lit.int .i64 x.c).wf = true ∧ (Lit.int .i64 x.l).wf = true ∧ (Lit.int .i64 x.n).wf = true ∧ (Lit.int .i64 x.i).wf = true) := by
  obtain ⟨cs, rfl, hsz, _⟩ : ∃ cs, v = .agg cs ∧ cs.size = Tryz.prog.cellsOf 34 ∧ Row.okWide Tryz.prog W .any base 34 cs := by
    simpa [Value.okWide, Tryz.underlying34] using hv
  rw [cellsId] at hsz
  obtain ⟨l⟩ := cs
  obtain ⟨c0, c1, c2, c3, rfl⟩ : ∃ a b c d, l = [a, b, c, d] := by
    match l, hsz with
    | [a, b, c, d], _ => exact ⟨a, b, c, d, rfl⟩
  obtain ⟨fuel, hf⟩ := h
  obtain ⟨ye, yi, m, e, _, h0, h1⟩ := trod_struct2 Tryz.underlying34 hf
  simp only [cellsStripe, cellsInt1, Value.cells, List.drop_zero, List.drop_succ_cons, List.take_succ_cons, List.take_zero, List.take_nil] at h0 h1
  obtain ⟨y0, y1, y2, m2, rfl, _, g0, g1, g2⟩ := trod_struct3 Tryz.underlying32 h0
  simp only [cellsInt1, List.drop_zero, List.drop_succ_cons, List.take_succ_cons, List.take_zero, List.take_nil] at g0 g1 g2
  obtain ⟨z, e0, rfl, w0⟩ := DataW.trod_int Tryz.underlying3 g0
  obtain ⟨y, e1, rfl, w1⟩ := DataW.trod_int Tryz.underlying3 g1
  obtain ⟨x, e2, rfl, w2⟩ := DataW.trod_int Tryz.underlying3 g2
  obtain ⟨u, e3, rfl, w3⟩ := DataW.trod_int Tryz.underlying3 h1
  simp at e0 e1 e2 e3 e
  subst e0 e1 e2 e3
  exact ⟨⟨z, y, x, u⟩, rfl, e.1, e.2, w0, w1, w2, w3⟩
theorem id_shut {W : World} {sp : Nat → Bool} {held : Bool} {x : Idn} (h : (Lit.int .i64 x.c).wf = true ∧ (Lit.int .i64 x.l).wf = true ∧ (Lit.int .i64 x.n).wf = true ∧ (Lit.int .i64 x.i).wf = true) :
    DataW.Trod enc Tryz.prog W 0 sp held 34 (idV x) (.agg [.agg [.lit (.int .i64 x.c), .lit (.int .i64 x.l), .lit (.int .i64 x.n)], .lit (.int .i64 x.i)]) [] :=
  ⟨3, by simp [DataW.trod, Value.cells, idV, Tryz.underlying34, Tryz.underlying32, Tryz.underlying3, cellsId, cellsStripe, cellsInt1, h.1, h.2.1, h.2.2.1, h.2.2.2]⟩
end
end Go.Proofs.YtnjlhplcagkcnaaGreat


/- An id is told by its key, and may be as the chapter says (the law StoreKeys): for every two ids the law returns true. No condition. -/
namespace Go.Proofs.YtnjlhplcagkcnaaGreat
open Go.ChangeShapes Go.WideShapes Go.ChangeAt Go.RowKit

set_option maxRecDepth 100000 in
theorem keys6_lifted (os : Os) (started : os.Started) (H : Type) (enc : TypeId × Value → H) :
    ReturnsInHanded {} Tryz.checked os 5 .any (Rows.storeKeysSpec.pre6 enc Tryz.prog Tryz.f5 Rows.storeKeysRow.domain false) (Rows.storeKeysSpec.post enc Tryz.prog Tryz.f5 false true false false) := by
  refine returnsInHanded_of_change (C := Tryz.checked) own started (by kernel_rfl) Tryz.func5
    (ChangeSpec.witness6 (enc := enc) (C := Tryz.checked) false ⟨#[], #[.agg #[.int .i64 0, .int .i64 0, .int .i64 0, .int .i64 0], .agg #[.int .i64 0, .int .i64 0, .int .i64 0, .int .i64 0]], []⟩ 8 (by kernel_rfl) (by kernel_rfl) (by kernel_rfl) (by kernel_rfl)) ?_
  intro W base args ds gs before hval0 hW hcnd _
  have hval : ∀ (j : Nat) t v, Tryz.f5.params[j]? = some t → args[j]? = some v → Value.okWide Tryz.prog W .any base t v := hval0
  have hW' := hW
  obtain ⟨p, q, hA0, hV, rfl, hfz, hnd⟩ := hW
  have hA : DataW.TrodAll enc Tryz.prog W 0 (fun _ => true) true Tryz.f5.params.toList args.toList ds p := hA0
  rw [Tryz.params5] at hA hval
  obtain ⟨v0, vs0, d0, ds0, p0, q0, hargs, rfl, rfl, h0, r0⟩ := trodAll_cons hA
  obtain ⟨v1, vs1, d1, ds1, p1, q1, rfl, rfl, rfl, h1, r1⟩ := trodAll_cons r0
  obtain ⟨rfl, rfl, rfl⟩ := trodAll_nil r1
  obtain rfl : args = #[v0, v1] := by cases args; simp_all
  obtain ⟨rfl, rfl⟩ := trodVars_none hV
  obtain ⟨z0, rfl, rfl, rfl, w0⟩ := id_of_trod (hval 0 34 v0 rfl rfl) h0
  obtain ⟨z1, rfl, rfl, rfl, w1⟩ := id_of_trod (hval 1 34 v1 rfl rfl) h1
  clear hA0 hval0
  refine (keys6_any W z0 z1).mono fun e W' ⟨he, hk⟩ => ?_
  subst he
  have bel : Below W.heap.size W W' := hk.below (Nat.le_refl _) (by simp)
  exact ⟨_, rfl, _, _, _, [], _, [], hW', trodAll_mk1 (shut_bool Tryz.underlying4 _), (trodAll_cons_mk (id_shut w0) (trodAll_cons_mk (id_shut w1) trodAll_mk0)), rfl, bel.frame _, fun h => by cases h⟩

theorem keys6_holds : Rows.StoreKeysSaid :=
  OpenClaim.holds_of_wide 5 Tryz.f5 rfl rfl rfl rfl rfl rfl rfl ⟨rfl, rfl, rfl, rfl, rfl⟩ rfl rfl rfl rfl rfl (by kernel_rfl) Tryz.func5 (by kernel_rfl)
    (of_decide_eq_true (by kernel_rfl)) (by unfold Func.isWrapper; rw [if_neg (of_decide_eq_false (by kernel_rfl))]; exact ⟨rfl, rfl⟩)
    (fun os started H enc _ => keys6_lifted os started H enc)
end Go.Proofs.YtnjlhplcagkcnaaGreat
