/- Same, Awake, Model, RefA, RefB, RefC. -/
import Derived.Test.YtoglcohdanpciaaJK
import Derived.Deep.QuietTactic
import Derived.BigQuiet
import Derived.Test.YtoglcohdanpciaaJE
/- The walk of the reference's Same. -/
namespace Go.Proofs.Ytoglcohdanpciaa
open Go.RowKit

set_option maxHeartbeats 400000 in
theorem same_any (w : World) (u v : Value) (xs ys : List Int) (hx : RowAt w u xs) (hy : RowAt w v ys) (hl : xs.length ≤ 35184372088832) (hl2 : ys.length ≤ 35184372088832) :
    Calls Try.prog 29 #[u, v] w fun e w' => e = .returned (.bool (decide (xs = ys))) ∧ ∃ n, w' = w.drewN n := by
  obtain ⟨a1, k1, rfl, z1⟩ := id hx
  obtain ⟨a2, k2, rfl, z2⟩ := id hy
  clear z1 z2
  have HX := hid hx
  have HY := hid hy
  clear hx hy
  by_cases hne : xs.length = ys.length
  · have hne' : ((xs.length : Int) != ys.length) = false := by simp [hne]
    by_cases h0 : xs.length = 0
    · have hx0 : xs = [] := List.eq_nil_of_length_eq_zero h0
      have hy0 : ys = [] := List.eq_nil_of_length_eq_zero (by omega)
      subst hx0; subst hy0
      clear hne hne' h0 hl hl2 HX HY
      simp only [List.length_nil]
      go_enter Try.func29, Try.ntmps29
      go_wp2_with fail
      refine wp_loop_rounds 1 ?_
      rw [rounds_succ]
      go_wp2_with fail
      go_ret
      exact ⟨by simp, 0, rfl⟩
    · obtain ⟨g1, o1, c1, e1, _, hc1⟩ := HX.out.open (by omega)
      obtain ⟨g2, o2, c2, e2, _, hc2⟩ := HY.out.open (by omega)
      injection e1 with e1 _ _
      injection e2 with e2 _ _
      subst e1; subst e2
      have HC1 := hid hc1
      have HC2 := hid hc2
      have HN := hid hne
      clear hc1 hc2 hne
      go_enter Try.func29, Try.ntmps29
      go_wp2_with fail
      go_loopw [5] (fun i wr => ∃ k n : Nat, k ≤ xs.length ∧ i = .int .i64 k ∧ wr = w.drewN n ∧ xs.take k = ys.take k) (fun i _ => xs.length - (intOf i).toNat)
      case atStart => exact ⟨0, 0, Nat.zero_le _, rfl, rfl, rfl⟩
      case round =>
        obtain ⟨k, n, hk, rfl, rfl, ht⟩ := hrel
        have HT := hid ht
        clear ht
        by_cases hlt : k < xs.length
        · have h2 : k < ys.length := by rw [← HN.out]; exact hlt
          have d1 := HC1.out k hlt
          have d2 := HC2.out k h2
          have HE := hid (show xs.getD k 0 = ys.getD k 0 ↔ xs.take (k + 1) = ys.take (k + 1) by
            rw [take_snoc xs k hlt, take_snoc ys k h2, HT.out]
            simp)
          generalize xs.getD k 0 = b1 at *
          generalize ys.getD k 0 = b2 at *
          by_cases hb : b1 = b2
          · have hb' : (b1 != b2) = false := by simp [hb]
            have HB := hid hb
            clear hb
            go_wp2_with fail
            go_quiet (fail)
            go_wp2_with fail
            go_roundw
            case rel => exact ⟨k + 1, n + nq, by omega, by go_num, rfl, HE.out.1 HB.out⟩
            case measure => simp [intOf]; omega
          · have hb' : (b1 != b2) = true := by simpa using hb
            have HB := hid hb
            clear hb
            go_wp2_with fail
            go_quiet (fail)
            go_wp2_with fail
            go_ret
            refine ⟨?_, n + nq, by simp⟩
            have hxy : xs ≠ ys := fun e => HB.out (HE.out.2 (by rw [e]))
            simp [hxy]
        · have : k = xs.length := by omega
          subst this
          go_wp2_with fail
          go_ret
          refine ⟨?_, n, rfl⟩
          have hxy : xs = ys := by
            have := HT.out
            rwa [List.take_length, List.take_of_length_le (by have := HN.out; omega)] at this
          simp [hxy]
  · have hne' : ((xs.length : Int) != ys.length) = true := by simp; omega
    have hxy : xs ≠ ys := fun e => hne (by rw [e])
    have HXY := hid hxy
    clear hxy hne
    go_enter Try.func29, Try.ntmps29
    go_wp2_with fail
    go_ret
    exact ⟨by simp [HXY.out], 0, rfl⟩
end Go.Proofs.Ytoglcohdanpciaa


/- The walk of the laws' awake. -/
namespace Go.Proofs.Ytoglcohdanpciaa
open Go.RowKit

/-- A pen that was made since w. -/
structure PenSince (w w' : World) (T : TypeId) (p : Nat) (v : Value) (zs : List Int) (bad : Int) : Prop where
  pen : PenAt w' w.heap.size T 5 p v zs bad
  kept : Keeps [] w w'

theorem PenSince.le {w w' : World} {T p v zs bad} (h : PenSince w w' T p v zs bad) : ∀ k ∈ p :: v.ownBlock.toList, w.heap.size ≤ k := by
  intro k hk
  rcases List.mem_cons.1 hk with rfl | hk
  · exact h.pen.lo
  · exact (h.pen.own.lt k (by simpa using hk)).1

theorem PenSince.new (w : World) {w0 : World} (k : Keeps [] w w0) (T : TypeId) : PenSince w (w0.alloc (.cells #[.slice none 0 0, .int .i64 0] T)) T w0.heap.size (.slice none 0 0) [] 0 :=
  ⟨⟨heap_alloc_new _ _, World.ownsRow_nil _ _ _ _, by simp [Value.ownBlock], k.size, by simp, by simp⟩, k.alloc _⟩

theorem PenSince.step {w w2 w3 : World} {T : TypeId} {p : Nat} {v : Value} {zs : List Int} {bad : Int} {s : List Int × Int} {e : Ending} (h : PenSince w w2 T p v zs bad)
    (hp : PenPost w2 w.heap.size T 5 p v s e w3) : e = .returned (.tuple #[]) ∧ ∃ v', PenSince w w3 T p v' s.1 s.2 := by
  obtain ⟨rfl, v', q1, q2, q3⟩ := hp
  refine ⟨rfl, v', q1, ?_⟩
  exact h.kept.trans' q2 (fun i hi hm => by have := h.le i hm; omega)

/-- An eye that was made since w. -/
structure EyeSince (w w' : World) (p : Nat) (v : Value) (zs : List Int) (bad : Int) : Prop where
  eye : EyeAt w' w.heap.size p v zs bad
  kept : Keeps [] w w'

theorem EyeSince.step {α : Type} {w w2 w3 : World} {p : Nat} {v : Value} {zs : List Int} {bad : Int} {st : Option α × List Int × Int} {zero : Value} {ret : α → World → Ending → Prop} {e : Ending} (h : EyeSince w w2 p v zs bad)
    (hp : EyePost w2 w.heap.size p v st zero ret e w3) : (∃ v', EyeSince w w3 p v' st.2.1 st.2.2) ∧ match st.1 with
    | none => e = .returned zero
    | some x => ret x w3 e := by
  obtain ⟨⟨v', q1, q2⟩, q3, q4⟩ := hp
  exact ⟨⟨v', q1, h.kept.trans' q3 (fun i hi hm => by have := h.eye.lo; simp at hm; omega)⟩, q4⟩

theorem BytesPost.good {w : World} {zs : List Int} {e : Ending} {w' : World} (h : BytesPost w (zs, 0) e w') :
    ∃ a c, e = .returned (.tuple #[.slice a zs.length c, .int .i64 0]) ∧ RowAt w' (.slice a zs.length c) zs ∧ (∀ ad, a = some ad → w.heap.size ≤ ad.block) ∧ Keeps [] w w' := h
theorem BytesPost.bad {w : World} {zs : List Int} {b : Int} {e : Ending} {w' : World} (h : BytesPost w (zs, b) e w') (hb : b ≠ 0) :
    ∃ a c, e = .returned (.tuple #[.slice a 0 c, .int .i64 b]) ∧ RowAt w' (.slice a 0 c) [] ∧ (∀ ad, a = some ad → w.heap.size ≤ ad.block) ∧ Keeps [] w w' := by
  obtain ⟨a, c, h1, h2, h3, h4⟩ := h
  simp only [if_neg hb, List.length_nil] at h1 h2
  exact ⟨a, c, h1, h2, h3, h4⟩

theorem codes_ab : codes ⟨#[97, 98]⟩ = [97, 98] := by rfl
theorem awake_bytes : penBool true (penRaw (codes ⟨#[97, 98]⟩) (penNum 5 2 ([], 0))) = ([0, 5, 0, 2, 97, 98, 1], 0) := by decide +kernel
theorem awake_num : after [0, 5, 0, 2, 97, 98, 1] 0 (rdNum 2 [0, 5, 0, 2, 97, 98, 1]) = (some 5, [0, 2, 97, 98, 1], 0) := by decide +kernel
theorem awake_text : after [0, 2, 97, 98, 1] 0 (rdCount 9 [0, 2, 97, 98, 1]) = (some [97, 98], [1], 0) := by decide +kernel
theorem awake_bool : after [1] 0 (rdBool [1]) = (some true, [], 0) := by decide +kernel

end Go.Proofs.Ytoglcohdanpciaa


/- Plain facts on what a pen writes and an eye reads. -/
namespace Go.Proofs.Ytoglcohdanpciaa
open Go.RowKit

theorem be_zero (x : Int) : be x 0 = [] := rfl

theorem byteOf_succ (x : Int) (n k : Nat) (hk : k < n) : byteOf x (n + 1) k = byteOf (x / 256) n k := by
  unfold byteOf
  have e : n + 1 - 1 - k = (n - 1 - k) + 1 := by omega
  rw [e]
  have e2 : 8 * ((n - 1 - k) + 1) = 8 + 8 * (n - 1 - k) := by omega
  rw [e2, Int.pow_add]
  rw [show (2 : Int) ^ 8 = 256 from rfl, ← Int.ediv_ediv_of_nonneg (by omega)]

theorem be_succ (x : Int) (n : Nat) : be x (n + 1) = be (x / 256) n ++ [x % 256] := by
  unfold be
  rw [List.range_succ, List.map_append]
  congr 1
  · apply List.map_congr_left
    intro k hk
    exact byteOf_succ x n k (by simpa using hk)
  · simp [byteOf]

theorem val_be : ∀ (n : Nat) (x : Int), 0 ≤ x → x < 256 ^ n → val (be x n) = x
  | 0, x, h0, h1 => by
    simp at h1
    have : x = 0 := by omega
    subst this
    rfl
  | n + 1, x, h0, h1 => by
    rw [be_succ, val_snoc, val_be n (x / 256) (by omega) ?_]
    · omega
    · rw [Int.pow_succ] at h1
      generalize (256 : Int) ^ n = q at *
      omega

theorem be_one (x : Int) : be x 1 = [x % 256] := by rw [be_succ, be_zero]; rfl

theorem penNum_ok {x n : Int} {s : List Int × Int} (h1 : 1 ≤ n) (h7 : n ≤ 7) (hx : 0 ≤ x) (hd : x / 2 ^ (8 * n.toNat) = 0) (hs : s.2 = 0) (hl : s.1.length + n.toNat ≤ 65536) :
    penNum x n s = (s.1 ++ be x n.toNat, 0) := by
  unfold penNum
  rw [if_pos ⟨h1, h7, hx, hd⟩]
  unfold penAdd
  rw [if_neg (by simpa using hs), if_neg (by rw [be_length]; omega)]

def bit (b : Bool) : Int := if b then 1 else 0

theorem penBool_ok {b : Bool} {s : List Int × Int} (hs : s.2 = 0) (hl : s.1.length + 1 ≤ 65536) : penBool b s = (s.1 ++ [bit b], 0) := by
  unfold penBool
  cases b
  · rw [if_neg (by simp), penNum_ok (by omega) (by omega) (by omega) (by simp) hs (by simpa using hl)]
    rfl
  · rw [if_pos rfl, penNum_ok (by omega) (by omega) (by omega) (by decide) hs (by simpa using hl)]
    rfl

theorem penBool_full {b : Bool} {s : List Int × Int} (hs : s.2 = 0) (hl : 65536 < s.1.length + 1) : penBool b s = ([], 3) := by
  unfold penBool penNum
  rw [if_pos (by cases b <;> decide)]
  unfold penAdd
  rw [if_neg (by simpa using hs), if_pos (by rw [be_length]; simpa using hl)]

theorem penRaw_ok {bs : List Int} {s : List Int × Int} (hs : s.2 = 0) (h1 : bs.length ≤ 65535) (hl : s.1.length + 2 + bs.length ≤ 65536) :
    penRaw bs s = (s.1 ++ be bs.length 2 ++ bs, 0) := by
  unfold penRaw
  rw [if_neg (by omega), penNum_ok (by omega) (by omega) (by omega) ?_ hs (by simp; omega)]
  · unfold penAdd
    rw [if_neg (by simp), if_neg]
    · rfl
    · simp only [List.length_append, be_length]
      simp; omega
  · show (bs.length : Int) / 65536 = 0
    omega

theorem codes_strOf (zs : List Int) (h : ∀ z ∈ zs, 0 ≤ z ∧ z ≤ 255) : codes (strOfNums zs) = zs := by
  unfold codes
  rw [strOfNums_data, List.map_map]
  conv => rhs; rw [← List.map_id zs]
  apply List.map_congr_left
  intro z hz
  have := h z hz
  simp only [Function.comp, UInt8.toNat_ofNat', id]
  omega

/-- A row of noughts that has just been made. -/
theorem made_zero (n : Nat) : (madeCells #[Value.int .u8 0] (n * 1)).toList = (List.replicate n (0 : Int)).map (Value.int .u8) := by
  unfold madeCells
  rw [Nat.mul_one, Array.toList_map, Array.toList_range, List.map_replicate]
  apply List.ext_getElem
  · simp
  · intro i h1 h2
    simp [Nat.mod_one]

theorem rdCount_ok {most : Int} {bs rest : List Int} (h1 : bs.length ≤ 65535) (hm : (bs.length : Int) ≤ most) :
    rdCount most (be bs.length 2 ++ bs ++ rest) = .ok (bs, rest) := by
  have ht : (be bs.length 2 ++ bs ++ rest).take 2 = be bs.length 2 := by
    rw [List.append_assoc, List.take_append_of_le_length (by rw [be_length]; omega), List.take_of_length_le (by rw [be_length]; omega)]
  have hd : (be bs.length 2 ++ bs ++ rest).drop 2 = bs ++ rest := by
    rw [List.append_assoc]
    exact List.drop_left' (be_length _ _)
  have hv : val (be bs.length 2) = bs.length := val_be 2 _ (by omega) (by show (bs.length : Int) < 65536; omega)
  unfold rdCount
  rw [if_neg (by omega), if_neg (by simp only [List.length_append, be_length]; omega), ht, hd, hv, if_neg (by omega), if_neg (by simp)]
  simp

theorem rdCount_long {most : Int} {bs rest : List Int} (h0 : 0 ≤ most) (h1 : bs.length ≤ 65535) (hm : most < bs.length) :
    rdCount most (be bs.length 2 ++ bs ++ rest) = .error 3 := by
  have ht : (be bs.length 2 ++ bs ++ rest).take 2 = be bs.length 2 := by
    rw [List.append_assoc, List.take_append_of_le_length (by rw [be_length]; omega), List.take_of_length_le (by rw [be_length]; omega)]
  have hv : val (be bs.length 2) = bs.length := val_be 2 _ (by omega) (by show (bs.length : Int) < 65536; omega)
  unfold rdCount
  rw [if_neg (by omega), if_neg (by simp only [List.length_append, be_length]; omega), ht, hv, if_pos hm]
end Go.Proofs.Ytoglcohdanpciaa


/- Walks of the reference's pen: add, Num. -/
namespace Go.Proofs.Ytoglcohdanpciaa
open Go.RowKit

def refAdd (bs : List Int) (s : List Int × Int) : List Int × Int :=
  if s.2 = 0 then (if 65536 < s.1.length + bs.length then (s.1, 3) else (s.1 ++ bs, 0)) else s

def refNum (x n : Int) (s : List Int × Int) : List Int × Int :=
  if s.2 = 0 then (if 1 ≤ n ∧ n ≤ 7 ∧ 0 ≤ x ∧ x < 2 ^ (8 * n.toNat) then refAdd (be x n.toNat) s else (s.1, 1)) else s

theorem PenAt.store1 {w : World} {B : Nat} {T U : TypeId} {p : Nat} {v : Value} {zs : List Int} {bad : Int} (h : PenAt w B T U p v zs bad) (b : Int) :
    PenPost w B T U p v (zs, b) (.returned (.tuple #[])) (w.setCell ⟨p, 1, none⟩ (.int .i64 b)) :=
  ⟨rfl, v, ⟨(heap_two h.blk _).2, ownsRow_setCell_other h.own h.ne _, h.ne, h.lo, h.byte, h.fits⟩, (Keeps.refl _ _).setCell (Or.inl (by simp)) _, Or.inl rfl⟩

set_option maxHeartbeats 400000 in
theorem radd_any (w : World) (B p : Nat) (v : Value) (zs : List Int) (bad : Int) (u : Value) (bs : List Int) (h : PenAt w B 151 5 p v zs bad) (hr : RowAt w u bs) (hB : B ≤ w.heap.size) (hl : bs.length ≤ 35184372088832) :
    Calls Try.prog 151 #[.pointer (some ⟨p, 0, none⟩), u] w (PenPost w B 151 5 p v (refAdd bs (zs, bad))) := by
  have c0 := h.cell0
  have c1 := h.cell1
  have f0 := h.free0
  have f1 := h.free1
  have hfit := h.fits
  have HR := hid hr
  obtain ⟨a, cap, rfl, r1, r2, r3, r4, r5⟩ := hr
  have H := hid h
  have H4 := hid r4
  obtain ⟨va, vc, hv⟩ := h.vlen
  have HV := hid hv
  clear h r3 r4 r5 hv
  by_cases hb : bad = 0
  · subst hb
    by_cases hl : zs.length + bs.length > 65536
    · have hlt : decide ((65536 : Int) < zs.length + bs.length) = true := by simp; omega
      have E1 := hid (show refAdd bs (zs, 0) = (zs, 3) by simp only [refAdd, if_true]; rw [if_pos (by omega)])
      obtain rfl := HV.out
      clear HV
      go_enter Try.func151, Try.ntmps151
      go_wp2_with fail
      go_end0
      rw [E1.out]
      exact H.out.store1 3
    · have hge : decide ((65536 : Int) < zs.length + bs.length) = false := by simp; omega
      have E1 := hid (show refAdd bs (zs, 0) = (zs ++ bs, 0) by simp only [refAdd, if_true]; rw [if_neg (by omega)])
      have hmax : zs.length + bs.length ≤ 65536 := by omega
      obtain ⟨i0, hi, hz0, hz1, hz2⟩ := info_parts info5
      obtain rfl := HV.out
      clear HV
      go_enter Try.func151, Try.ntmps151
      go_wp2_with (at_builtin; refine wpList_append_row rfl _ _ 34 rfl B 5 i0 (.int .u8 0) Try.underlying34 hi hz0 hz1 hz2 rfl (.slice va zs.length vc) zs.length (zs.map (Value.int .u8)) rfl H.out.own _ bs rfl HR.out (by omega) hB ?_; intro a' c' w1 k1 k2 k3; obtain ⟨d0, d1, d2, d3⟩ := H.out.grown k2.out)
      go_end0
      rw [E1.out]
      exact pen_grown H.out k1.out k2.out k3.out H4.out hmax
  · have hb' : (bad == 0) = false := by simpa using hb
    have hb2 : (bad != 0) = true := by simpa using hb
    have E1 := hid (show refAdd bs (zs, bad) = (zs, bad) by simp only [refAdd]; rw [if_neg hb])
    clear HV hb
    go_enter Try.func151, Try.ntmps151
    go_wp2_with fail
    go_end0
    exact ⟨rfl, v, by rw [E1.out]; exact H.out, Keeps.refl _ _, Or.inl rfl⟩

theorem pow_fits (n : Nat) (h7 : n ≤ 7) : wrap64 (2 ^ (8 * n)) = 2 ^ (8 * n) := by
  have : n = 0 ∨ n = 1 ∨ n = 2 ∨ n = 3 ∨ n = 4 ∨ n = 5 ∨ n = 6 ∨ n = 7 := by omega
  rcases this with rfl | rfl | rfl | rfl | rfl | rfl | rfl | rfl <;> exact IntWalk.wrap64_in _ (by decide)

theorem be_take_succ (x : Int) (n k : Nat) (h : k < n) : (be x n).take (k + 1) = (be x n).take k ++ [byteOf x n k] := by
  rw [take_snoc (be x n) k (by rw [be_length]; exact h)]
  congr 2
  rw [List.getD_eq_getElem?_getD]
  simp only [be, List.getElem?_map, List.getElem?_range h, Option.map_some, Option.getD_some]

/-- One byte in new memory. -/
theorem row_one {w : World} (z : Int) (T : TypeId) (hz : 0 ≤ z ∧ z ≤ 255) : RowAt (w.alloc (.cells #[.int .u8 z] T)) (.slice (some ⟨w.heap.size, 0, none⟩) 1 1) [z] :=
  row_lit (w := w) [z] T (by intro y hy; have : y = z := by simpa using hy
                             rw [this]; exact hz) 1 rfl (by unfold maxLen; omega)

set_option maxHeartbeats 1600000 in
theorem rnum_ok (w : World) (B p : Nat) (v : Value) (zs : List Int) (x : Int) (n : Nat) (h : PenAt w B 151 5 p v zs 0) (hB : B ≤ w.heap.size)
    (h1 : 1 ≤ n) (h7 : n ≤ 7) (hx : 0 ≤ x) (hs : x < 2 ^ (8 * n)) :
    Calls Try.prog 87 #[.pointer (some ⟨p, 0, none⟩), .int .i64 x, .int .i64 n] w (PenPost w B 151 5 p v (refAdd (be x n) (zs, 0))) := by
  have H := hid h
  have c0 := h.cell0
  have c1 := h.cell1
  have f0 := h.free0
  have f1 := h.free1
  have d1 : decide ((n : Int) < 1) = false := by simp; omega
  have d2 : decide (7 < (n : Int)) = false := by simp; omega
  have d3 : decide (x < 0) = false := by simp; omega
  have d4 : decide (wrap64 (2 ^ (8 * n)) ≤ x) = false := by rw [pow_fits n h7]; simp; exact hs
  obtain ⟨i0, hi, hz0, hz1, hz2⟩ := info_parts info5
  clear h hs
  go_enter Try.func87, Try.ntmps87
  go_wp2_with fail
  go_loopw [6, 7] (fun b i wr => ∃ (k : Nat) (a : Option Addr) (c : Nat), k ≤ n ∧ i = .int .i64 ((n : Int) - 1 - k) ∧ b = .slice a k c ∧
      wr.ownsRow w.heap.size 5 1 (.slice a k c) k (((be x n).take k).map (Value.int .u8)) ∧ Keeps [] w wr) (fun _ i _ => (intOf i + 1).toNat)
  case atStart => exact ⟨0, none, 0, by omega, by simp, rfl, World.ownsRow_nil _ _ _ _, Keeps.refl _ _⟩
  case round =>
    obtain ⟨k, a, c, hk, rfl, rfl, q1, q2⟩ := hrel
    have Q1 := hid q1
    have Q2 := hid q2
    clear q1 q2
    by_cases hlt : k < n
    · have e : (n : Int) - 1 - k = ((n - 1 - k : Nat) : Int) := by omega
      rw [e]
      have hz : 0 ≤ byteOf x n k ∧ byteOf x n k ≤ 255 := by unfold byteOf; omega
      have HE := hid (be_take_succ x n k hlt)
      have HO := hid (Q1.out.alloc (.cells #[.int .u8 (byteOf x n k)] 5))
      have HR := hid (row_one (w := wr) (byteOf x n k) 5 hz)
      have hsz : w.heap.size ≤ wr.heap.size := Q2.out.size
      clear e hz
      go_wp2_with (at_builtin; refine wpList_append_row rfl _ _ 34 rfl w.heap.size 5 i0 (.int .u8 0) Try.underlying34 hi hz0 hz1 hz2 rfl (.slice a k c) k (((be x n).take k).map (Value.int .u8)) rfl HO.out _ [byteOf x n k] rfl HR.out (by rw [List.length_singleton]; omega) (by rw [World.size_alloc]; omega) ?_; intro a' c' w1 k1 k2 k3; simp only [List.length_singleton] at k1 k3 ⊢)
      go_roundw
      case rel =>
        refine ⟨k + 1, a', c', by omega, ?_, rfl, ?_, ?_⟩
        · have e2 : ((n - 1 - k : Nat) : Int) - 1 = (n : Int) - 1 - ((k + 1 : Nat) : Int) := by omega
          first | rw [e2] | (rw [show (n : Int) - 1 - ((k + 1 : Nat) : Int) = ((n - 1 - k : Nat) : Int) - 1 by omega])
        · rw [HE.out, List.map_append]
          exact k1.out
        · exact (Q2.out.alloc _).grown k2.out (fun j hj => Or.inr ((Q1.out.lt j (by simpa [Value.ownBlock] using hj)).1))
      case measure => simp [intOf]
    · have : k = n := by omega
      subst this
      have hb : (be x k).take k = be x k := by rw [List.take_of_length_le (by rw [be_length]; omega)]
      have HR : Hid (RowAt wr (.slice a k c) (be x k)) := by
        have := Q1.out
        rw [hb] at this
        exact row_of_own (B := w.heap.size) (e := 5) (by rw [be_length]; exact this) (be_byte x k)
      clear hb
      have e : (k : Int) - 1 - k = -1 := by omega
      rw [e]
      clear e
      go_wp2_with fail
      refine (radd_any _ B p v zs 0 _ (be x k) (H.out.keep Q2.out (by simp) (by simp)) HR.out (by have := Q2.out.size; omega) (by rw [be_length]; omega)).mono ?_
      rintro e w' ⟨rfl, hq⟩
      have HQ := hid hq
      clear hq
      go_wp2_with fail
      go_end0
      obtain ⟨v', q1, q2, q3⟩ := HQ.out
      refine ⟨rfl, v', q1, (Q2.out.mono (by simp)).trans q2, ?_⟩
      rcases q3 with q3 | q3
      · exact Or.inl q3
      · exact Or.inr fun j hj => by have := q3 j hj; have := Q2.out.size; omega

set_option maxHeartbeats 1600000 in
theorem rnum_any (w : World) (B p : Nat) (v : Value) (zs : List Int) (bad x n : Int) (h : PenAt w B 151 5 p v zs bad) (hB : B ≤ w.heap.size) :
    Calls Try.prog 87 #[.pointer (some ⟨p, 0, none⟩), .int .i64 x, .int .i64 n] w (PenPost w B 151 5 p v (refNum x n (zs, bad))) := by
  by_cases hb : bad = 0
  · subst hb
    by_cases hn : 1 ≤ n ∧ n ≤ 7 ∧ 0 ≤ x ∧ x < 2 ^ (8 * n.toNat)
    · have e1 : refNum x n (zs, 0) = refAdd (be x n.toNat) (zs, 0) := by simp only [refNum, if_true]; rw [if_pos hn]
      rw [e1]
      obtain ⟨k, rfl⟩ := Int.eq_ofNat_of_zero_le (show 0 ≤ n by omega)
      exact rnum_ok w B p v zs x k h hB (by omega) (by omega) hn.2.2.1 (by have := hn.2.2.2; simpa using this)
    · have E1 := hid (show refNum x n (zs, 0) = (zs, 1) by simp only [refNum, if_true]; rw [if_neg hn])
      have H := hid h
      have c0 := h.cell0
      have c1 := h.cell1
      have f0 := h.free0
      have f1 := h.free1
      clear h
      by_cases a1 : n < 1
      · have d1 : decide (n < 1) = true := by simpa using a1
        clear hn
        go_enter Try.func87, Try.ntmps87
        go_wp2_with fail
        refine bodyPost_ret (results_none rfl _ _ _) rfl ?_
        rw [E1.out]
        exact H.out.store1 1
      · have d1 : decide (n < 1) = false := by simpa using a1
        by_cases a2 : 7 < n
        · have d2 : decide (7 < n) = true := by simpa using a2
          clear hn
          go_enter Try.func87, Try.ntmps87
          go_wp2_with fail
          refine bodyPost_ret (results_none rfl _ _ _) rfl ?_
          rw [E1.out]
          exact H.out.store1 1
        · have d2 : decide (7 < n) = false := by simpa using a2
          by_cases a3 : x < 0
          · have d3 : decide (x < 0) = true := by simpa using a3
            clear hn
            go_enter Try.func87, Try.ntmps87
            go_wp2_with fail
            refine bodyPost_ret (results_none rfl _ _ _) rfl ?_
            rw [E1.out]
            exact H.out.store1 1
          · have d3 : decide (x < 0) = false := by simpa using a3
            obtain ⟨k, rfl⟩ := Int.eq_ofNat_of_zero_le (show 0 ≤ n by omega)
            have d4 : decide (wrap64 (2 ^ (8 * k)) ≤ x) = true := by
              rw [pow_fits k (by omega)]
              simp only [decide_eq_true_eq]
              refine Classical.byContradiction fun hc => hn ⟨by omega, by omega, by omega, ?_⟩
              rw [Int.toNat_natCast]
              omega
            clear hn
            go_enter Try.func87, Try.ntmps87
            go_wp2_with fail
            refine bodyPost_ret (results_none rfl _ _ _) rfl ?_
            rw [E1.out]
            exact H.out.store1 1
  · have hb' : (bad == 0) = false := by simpa using hb
    have hb2 : (bad != 0) = true := by simpa using hb
    have E1 := hid (show refNum x n (zs, bad) = (zs, bad) by simp only [refNum]; rw [if_neg hb])
    have H := hid h
    have c0 := h.cell0
    have c1 := h.cell1
    clear hb h
    go_enter Try.func87, Try.ntmps87
    go_wp2_with fail
    refine bodyPost_ret (results_none rfl _ _ _) rfl ?_
    exact ⟨rfl, v, by rw [E1.out]; exact H.out, Keeps.refl _ _, Or.inl rfl⟩
end Go.Proofs.Ytoglcohdanpciaa


/- Walks of the reference's pen: Raw, Bool, Copy, Bytes; what both pens make of the same calls. -/
namespace Go.Proofs.Ytoglcohdanpciaa
open Go.RowKit

def refRawBad (bs : List Int) (s : List Int × Int) : Int :=
  if s.2 = 0 then (if 65535 < bs.length then 3 else if 65536 < s.1.length + 2 + bs.length then 3 else 0) else s.2
def refRaw (bs : List Int) (s : List Int × Int) : List Int × Int :=
  refAdd bs (refNum ((bs.length : Int) % 65536) 2 (s.1, refRawBad bs s))
def refBool (b : Bool) (s : List Int × Int) : List Int × Int := refNum (if b then 1 else 0) 1 s

set_option maxRecDepth 100000 in
set_option maxHeartbeats 1600000 in
theorem rraw_any (w : World) (B p : Nat) (v : Value) (zs : List Int) (bad : Int) (u : Value) (bs : List Int) (h : PenAt w B 151 5 p v zs bad) (hr : RowAt w u bs)
    (ho : Off (p :: v.ownBlock.toList) u bs) (hB : B ≤ w.heap.size) (hl : bs.length ≤ 35184372088832) :
    Calls Try.prog 88 #[.pointer (some ⟨p, 0, none⟩), u] w (PenPost w B 151 5 p v (refRaw bs (zs, bad))) := by
  have H := hid h
  have HR := hid hr
  have HO := hid ho
  have c0 := h.cell0
  have c1 := h.cell1
  have f0 := h.free0
  have f1 := h.free1
  have hfit := h.fits
  obtain ⟨va, vc, hv⟩ := h.vlen
  have HV := hid hv
  obtain ⟨a, cap, rfl, r1, r2, r3, r4, r5⟩ := hr
  have hb65 : bits .and .i64 (bs.length : Int) 65535 = (bs.length : Int) % 65536 := by
    have := i64_and bs.length 65535 (by omega) (by omega)
    rw [show ((65535 : Nat) : Int) = 65535 from rfl] at this
    rw [this, show (65535 : Nat) = 2 ^ 16 - 1 from rfl, Nat.and_two_pow_sub_one_eq_mod]
    omega
  clear h r3 r4 r5 ho hv
  by_cases hb : bad = 0
  · subst hb
    obtain rfl := HV.out
    clear HV
    by_cases h1 : 65535 < bs.length
    · have d1 : decide ((65535 : Int) < bs.length) = true := by simp; omega
      have E1 := hid (show refRawBad bs (zs, 0) = 3 by simp only [refRawBad, if_true]; rw [if_pos h1])
      have S1 : Hid (PenAt (w.setCell ⟨p, 1, none⟩ (.int .i64 3)) B 151 5 p (.slice va zs.length vc) zs 3) := by
        exact ⟨(heap_two H.out.blk _).2, ownsRow_setCell_other H.out.own H.out.ne _, H.out.ne, H.out.lo, H.out.byte, H.out.fits⟩
      have SK : Hid (Keeps (p :: (Value.slice va zs.length vc).ownBlock.toList) w (w.setCell ⟨p, 1, none⟩ (.int .i64 3))) := (Keeps.refl _ _).setCell (Or.inl (by simp)) _
      have SB : Hid (B ≤ (w.setCell ⟨p, 1, none⟩ (.int .i64 3)).heap.size) := by have := SK.out.size; exact Nat.le_trans hB this
      go_enter Try.func88, Try.ntmps88
      go_wp2_with fail
      refine (rnum_any _ B p _ zs 3 ((bs.length : Int) % 65536) 2 S1.out SB.out).mono ?_
      rintro e w1 ⟨rfl, v1, q1, q2, q3⟩
      have Q1 := hid q1
      have Q2 := hid (SK.out.trans q2)
      have Q3 : Hid (NewRow w (.slice va zs.length vc) v1) := by
        rcases q3 with q3 | q3
        · exact Or.inl q3
        · exact Or.inr fun k hk => Nat.le_trans SK.out.size (q3 k hk)
      clear q1 q2 q3
      go_wp2_with fail
      refine (radd_any _ B p v1 _ _ _ bs Q1.out (HR.out.keep Q2.out HO.out) (by have := Q2.out.size; omega) hl).mono ?_
      rintro e w2 hq
      obtain rfl := hq.1
      have HQ := hid hq
      clear hq
      go_wp2_with fail
      go_end0
      have e2 : refRaw bs (zs, 0) = refAdd bs (refNum ((bs.length : Int) % 65536) 2 (zs, 3)) := by unfold refRaw; rw [E1.out]
      rw [e2]
      clear e2 Q1
      generalize refNum ((bs.length : Int) % 65536) 2 (zs, 3) = r at *
      exact PenPost.then Q2.out Q3.out HQ.out
    · have d1 : decide ((65535 : Int) < bs.length) = false := by simp; omega
      by_cases h2 : 65536 < zs.length + 2 + bs.length
      · have d2 : decide ((65536 : Int) < zs.length + 2 + bs.length) = true := by simp; omega
        have E1 := hid (show refRawBad bs (zs, 0) = 3 by simp only [refRawBad, if_true]; rw [if_neg h1, if_pos h2])
        have S1 : Hid (PenAt (w.setCell ⟨p, 1, none⟩ (.int .i64 3)) B 151 5 p (.slice va zs.length vc) zs 3) := by
          exact ⟨(heap_two H.out.blk _).2, ownsRow_setCell_other H.out.own H.out.ne _, H.out.ne, H.out.lo, H.out.byte, H.out.fits⟩
        have SK : Hid (Keeps (p :: (Value.slice va zs.length vc).ownBlock.toList) w (w.setCell ⟨p, 1, none⟩ (.int .i64 3))) := (Keeps.refl _ _).setCell (Or.inl (by simp)) _
        have SB : Hid (B ≤ (w.setCell ⟨p, 1, none⟩ (.int .i64 3)).heap.size) := by have := SK.out.size; exact Nat.le_trans hB this
        go_enter Try.func88, Try.ntmps88
        go_wp2_with fail
        refine (rnum_any _ B p _ zs 3 ((bs.length : Int) % 65536) 2 S1.out SB.out).mono ?_
        rintro e w1 ⟨rfl, v1, q1, q2, q3⟩
        have Q1 := hid q1
        have Q2 := hid (SK.out.trans q2)
        have Q3 : Hid (NewRow w (.slice va zs.length vc) v1) := by
          rcases q3 with q3 | q3
          · exact Or.inl q3
          · exact Or.inr fun k hk => Nat.le_trans SK.out.size (q3 k hk)
        clear q1 q2 q3
        go_wp2_with fail
        refine (radd_any _ B p v1 _ _ _ bs Q1.out (HR.out.keep Q2.out HO.out) (by have := Q2.out.size; omega) hl).mono ?_
        rintro e w2 hq
        obtain rfl := hq.1
        have HQ := hid hq
        clear hq
        go_wp2_with fail
        go_end0
        have e2 : refRaw bs (zs, 0) = refAdd bs (refNum ((bs.length : Int) % 65536) 2 (zs, 3)) := by unfold refRaw; rw [E1.out]
        rw [e2]
        clear e2 Q1
        generalize refNum ((bs.length : Int) % 65536) 2 (zs, 3) = r at *
        exact PenPost.then Q2.out Q3.out HQ.out
      · have d2 : decide ((65536 : Int) < zs.length + 2 + bs.length) = false := by simp; omega
        have E1 := hid (show refRawBad bs (zs, 0) = 0 by simp only [refRawBad, if_true]; rw [if_neg h1, if_neg h2])
        have S1 := H
        have SK : Hid (Keeps (p :: (Value.slice va zs.length vc).ownBlock.toList) w w) := Keeps.refl _ _
        have SB := hid hB
        go_enter Try.func88, Try.ntmps88
        go_wp2_with fail
        refine (rnum_any _ B p _ zs 0 ((bs.length : Int) % 65536) 2 S1.out SB.out).mono ?_
        rintro e w1 ⟨rfl, v1, q1, q2, q3⟩
        have Q1 := hid q1
        have Q2 := hid (SK.out.trans q2)
        have Q3 : Hid (NewRow w (.slice va zs.length vc) v1) := by
          rcases q3 with q3 | q3
          · exact Or.inl q3
          · exact Or.inr fun k hk => Nat.le_trans SK.out.size (q3 k hk)
        clear q1 q2 q3
        go_wp2_with fail
        refine (radd_any _ B p v1 _ _ _ bs Q1.out (HR.out.keep Q2.out HO.out) (by have := Q2.out.size; omega) hl).mono ?_
        rintro e w2 hq
        obtain rfl := hq.1
        have HQ := hid hq
        clear hq
        go_wp2_with fail
        go_end0
        have e2 : refRaw bs (zs, 0) = refAdd bs (refNum ((bs.length : Int) % 65536) 2 (zs, 0)) := by unfold refRaw; rw [E1.out]
        rw [e2]
        clear e2 Q1
        generalize refNum ((bs.length : Int) % 65536) 2 (zs, 0) = r at *
        exact PenPost.then Q2.out Q3.out HQ.out
  · have hb' : (bad == 0) = false := by simpa using hb
    have E1 := hid (show refRawBad bs (zs, bad) = bad by simp only [refRawBad]; rw [if_neg hb])
    clear HV hb
    have S1 := H
    have SK : Hid (Keeps (p :: v.ownBlock.toList) w w) := Keeps.refl _ _
    have SB := hid hB
    go_enter Try.func88, Try.ntmps88
    go_wp2_with fail
    refine (rnum_any _ B p _ zs bad ((bs.length : Int) % 65536) 2 S1.out SB.out).mono ?_
    rintro e w1 ⟨rfl, v1, q1, q2, q3⟩
    have Q1 := hid q1
    have Q2 := hid (SK.out.trans q2)
    have Q3 : Hid (NewRow w v v1) := by
      rcases q3 with q3 | q3
      · exact Or.inl q3
      · exact Or.inr fun k hk => Nat.le_trans SK.out.size (q3 k hk)
    clear q1 q2 q3
    go_wp2_with fail
    refine (radd_any _ B p v1 _ _ _ bs Q1.out (HR.out.keep Q2.out HO.out) (by have := Q2.out.size; omega) hl).mono ?_
    rintro e w2 hq
    obtain rfl := hq.1
    have HQ := hid hq
    clear hq
    go_wp2_with fail
    go_end0
    have e2 : refRaw bs (zs, bad) = refAdd bs (refNum ((bs.length : Int) % 65536) 2 (zs, bad)) := by unfold refRaw; rw [E1.out]
    rw [e2]
    clear e2 Q1
    generalize refNum ((bs.length : Int) % 65536) 2 (zs, bad) = r at *
    exact PenPost.then Q2.out Q3.out HQ.out

set_option maxHeartbeats 400000 in
theorem rbool_any (w : World) (B p : Nat) (v : Value) (zs : List Int) (bad : Int) (b : Bool) (h : PenAt w B 151 5 p v zs bad) (hB : B ≤ w.heap.size) :
    Calls Try.prog 89 #[.pointer (some ⟨p, 0, none⟩), .bool b] w (PenPost w B 151 5 p v (refBool b (zs, bad))) := by
  have H := hid h
  clear h
  cases b with
  | true =>
    go_enter Try.func89, Try.ntmps89
    go_wp2_with fail
    refine (rnum_any _ B p v zs bad 1 1 H.out hB).mono ?_
    rintro e w' ⟨rfl, hq⟩
    go_wp2_with fail
    go_end0
    exact ⟨rfl, hq⟩
  | false =>
    go_enter Try.func89, Try.ntmps89
    go_wp2_with fail
    refine (rnum_any _ B p v zs bad 0 1 H.out hB).mono ?_
    rintro e w' ⟨rfl, hq⟩
    go_wp2_with fail
    go_end0
    exact ⟨rfl, hq⟩
end Go.Proofs.Ytoglcohdanpciaa


/- Walks of the reference's Copy and Bytes; what both pens make of the same calls. -/
namespace Go.Proofs.Ytoglcohdanpciaa
open Go.RowKit

/-- A row of the call's own, in new memory. -/
def OwnPost (w : World) (zs : List Int) (e : Ending) (w' : World) : Prop :=
  ∃ a c, e = .returned (.slice a zs.length c) ∧ w'.ownsRow w.heap.size 5 1 (.slice a zs.length c) zs.length (zs.map (Value.int .u8)) ∧ Keeps [] w w'

set_option maxHeartbeats 800000 in
theorem copy_any (w : World) (v : Value) (zs : List Int) (h : RowAt w v zs) (hl : zs.length ≤ 35184372088832) :
    Calls Try.prog 47 #[v] w (OwnPost w zs) := by
  have HR := hid h
  obtain ⟨a, cap, rfl, z⟩ := h
  clear z
  obtain ⟨i0, hi, hz0, hz1, hz2⟩ := info_parts info5
  go_enter Try.func47, Try.ntmps47
  go_wp2_with fail
  go_loopw [3, 4] (fun b i wr => ∃ (k : Nat) (a' : Option Addr) (c : Nat), k ≤ zs.length ∧ i = .int .i64 k ∧ b = .slice a' k c ∧
      wr.ownsRow w.heap.size 5 1 (.slice a' k c) k ((zs.take k).map (Value.int .u8)) ∧ Keeps [] w wr) (fun _ i _ => zs.length - (intOf i).toNat)
  case atStart => exact ⟨0, none, 0, by omega, rfl, rfl, World.ownsRow_nil _ _ _ _, Keeps.refl _ _⟩
  case round =>
    obtain ⟨k, a', c, hk, rfl, rfl, q1, q2⟩ := hrel
    have Q1 := hid q1
    have Q2 := hid q2
    clear q1 q2
    by_cases hlt : k < zs.length
    · obtain ⟨g, off, cp, e1, _, hc⟩ := HR.out.open (by omega)
      injection e1 with e1 e2 e3
      subst e1
      have hck : wr.cell? ⟨g, off + k, none⟩ = some (.int .u8 (zs.getD k 0)) := Q2.out.cell (hc k hlt) (by simp)
      have hz : 0 ≤ zs.getD k 0 ∧ zs.getD k 0 ≤ 255 := HR.out.bytes _ (by rw [List.getD_eq_getElem?_getD, List.getElem?_eq_getElem hlt]; exact List.getElem_mem _)
      have HE := hid (take_snoc zs k hlt)
      clear hc e2 e3
      generalize zs.getD k 0 = b at *
      have HO := hid (Q1.out.alloc (.cells #[.int .u8 b] 5))
      have HR1 := hid (row_one (w := wr) b 5 hz)
      have hsz : w.heap.size ≤ wr.heap.size := Q2.out.size
      clear hz
      go_wp2_with (at_builtin; refine wpList_append_row rfl _ _ 34 rfl w.heap.size 5 i0 (.int .u8 0) Try.underlying34 hi hz0 hz1 hz2 rfl (.slice a' k c) k ((zs.take k).map (Value.int .u8)) rfl HO.out _ [b] rfl HR1.out (by rw [List.length_singleton]; omega) (by rw [World.size_alloc]; omega) ?_; intro a2 c2 w1 k1 k2 k3; simp only [List.length_singleton] at k1 k3 ⊢)
      go_roundw
      case rel =>
        refine ⟨k + 1, a2, c2, by omega, by go_num, rfl, ?_, ?_⟩
        · rw [HE.out, List.map_append]
          exact k1.out
        · exact (Q2.out.alloc _).grown k2.out (fun j hj => Or.inr ((Q1.out.lt j (by simpa [Value.ownBlock] using hj)).1))
      case measure => simp [intOf]; omega
    · have : k = zs.length := by omega
      subst this
      go_wp2_with fail
      go_ret
      refine ⟨a', c, rfl, ?_, Q2.out⟩
      have := Q1.out
      rw [List.take_length] at this
      exact this

theorem OwnPost.new {w : World} {zs : List Int} {e : Ending} {w' : World} (h : OwnPost w zs e w') (hz : ∀ z ∈ zs, 0 ≤ z ∧ z ≤ 255) : NewPost w zs e w' := by
  obtain ⟨a, c, h1, h2, h3⟩ := h
  refine ⟨a, c, h1, row_of_own h2 hz, ?_, h3⟩
  rintro ad rfl
  exact (h2.lt _ rfl).1

set_option maxHeartbeats 400000 in
theorem rbytes_any (w : World) (B p : Nat) (v : Value) (zs : List Int) (bad : Int) (h : PenAt w B 151 5 p v zs bad) :
    Calls Try.prog 92 #[.pointer (some ⟨p, 0, none⟩)] w (BytesPost w (zs, bad)) := by
  have H := hid h
  have c0 := h.cell0
  have c1 := h.cell1
  by_cases hb : bad = 0
  · subst hb
    have HR := hid (row_of_own h.own h.byte)
    have hn := h.fits
    clear h
    go_enter Try.func92, Try.ntmps92
    go_wp2_with fail
    refine (copy_any _ v zs HR.out (by omega)).mono ?_
    intro e w1 hq
    obtain ⟨a, c, rfl, q1, q2, q3⟩ := hq.new HR.out.bytes
    have Q1 := hid q1
    have Q2 := hid q2
    have Q3 := hid q3
    clear q1 q2 q3 hq
    go_wp2_with fail
    go_ret2
    exact ⟨a, c, rfl, Q1.out, Q2.out, Q3.out⟩
  · have hb1 : (bad == 0) = false := by simpa using hb
    have hb2 : (bad != 0) = true := by simpa using hb
    have HB := hid hb
    clear h hb
    go_enter Try.func92, Try.ntmps92
    go_wp2_with fail
    go_region
    all_goals go_wp2
    go_ret2
    refine ⟨none, 0, ?_, ?_, by simp, ?_⟩
    · simp [HB.out]
    · simp only [HB.out, if_false]
      exact RowAt.nil _
    · exact (Keeps.refl _ _).drew

/-- Both pens are in one state. -/
def Rel (s r : List Int × Int) : Prop := s.2 = r.2 ∧ (s.2 = 0 → s.1 = r.1)

theorem range_iff (x : Int) (n : Nat) (hx : 0 ≤ x) : x / 2 ^ (8 * n) = 0 ↔ x < 2 ^ (8 * n) := by
  have hp : (0 : Int) < 2 ^ (8 * n) := Int.pow_pos (by omega)
  constructor
  · intro h
    have h1 := Int.lt_ediv_add_one_mul_self x hp
    rw [h] at h1
    omega
  · exact fun h => Int.ediv_eq_zero_of_lt hx h

theorem Rel.num {s r : List Int × Int} (h : Rel s r) (x n : Int) : Rel (penNum x n s) (refNum x n r) := by
  obtain ⟨h1, h2⟩ := h
  unfold penNum refNum
  by_cases hb : r.2 = 0
  · have hs := h2 (by omega)
    rw [if_pos hb]
    by_cases hv : 1 ≤ n ∧ n ≤ 7 ∧ 0 ≤ x ∧ x < 2 ^ (8 * n.toNat)
    · rw [if_pos hv, if_pos ⟨hv.1, hv.2.1, hv.2.2.1, (range_iff x _ hv.2.2.1).2 hv.2.2.2⟩]
      unfold penAdd refAdd
      rw [if_neg (by omega), if_pos hb, hs]
      by_cases hl : 65536 < r.1.length + (be x n.toNat).length
      · rw [if_pos hl, if_pos hl]; exact ⟨rfl, by simp⟩
      · rw [if_neg hl, if_neg hl]; exact ⟨rfl, fun _ => rfl⟩
    · rw [if_neg hv, if_neg (fun hc => hv ⟨hc.1, hc.2.1, hc.2.2.1, (range_iff x _ hc.2.2.1).1 hc.2.2.2⟩)]
      unfold penFail
      rw [if_pos (by omega)]
      exact ⟨rfl, by simp⟩
  · rw [if_neg hb]
    have hs : s.2 ≠ 0 := by omega
    split
    · unfold penAdd; rw [if_pos hs]; exact ⟨h1, fun hc => absurd hc hs⟩
    · unfold penFail; rw [if_neg hs]; exact ⟨h1, fun hc => absurd hc hs⟩

theorem Rel.add {s r : List Int × Int} (h : Rel s r) (bs : List Int) : Rel (penAdd bs s) (refAdd bs r) := by
  obtain ⟨h1, h2⟩ := h
  unfold penAdd refAdd
  by_cases hb : r.2 = 0
  · rw [if_neg (by omega), if_pos hb, h2 (by omega)]
    by_cases hl : 65536 < r.1.length + bs.length
    · rw [if_pos hl, if_pos hl]; exact ⟨rfl, by simp⟩
    · rw [if_neg hl, if_neg hl]; exact ⟨rfl, fun _ => rfl⟩
  · rw [if_pos (by omega), if_neg hb]
    exact ⟨h1, fun hc => absurd hc (by omega)⟩

theorem Rel.bool {s r : List Int × Int} (h : Rel s r) (b : Bool) : Rel (penBool b s) (refBool b r) := h.num _ _

theorem refNum_fail {x n : Int} {s : List Int × Int} (h : s.2 ≠ 0) : refNum x n s = s := by unfold refNum; rw [if_neg h]
theorem refAdd_fail {bs : List Int} {s : List Int × Int} (h : s.2 ≠ 0) : refAdd bs s = s := by unfold refAdd; rw [if_neg h]
theorem penNum_fail {x n : Int} {s : List Int × Int} (h : s.2 ≠ 0) : penNum x n s = s := by
  unfold penNum penAdd penFail
  rw [if_pos h, if_neg h]
  split <;> rfl
theorem penAdd_fail {bs : List Int} {s : List Int × Int} (h : s.2 ≠ 0) : penAdd bs s = s := by unfold penAdd; rw [if_pos h]
theorem penFail_fail {e : Int} {s : List Int × Int} (h : s.2 ≠ 0) : penFail e s = s := by unfold penFail; rw [if_neg h]

theorem Rel.raw {s r : List Int × Int} (h : Rel s r) (bs : List Int) : Rel (penRaw bs s) (refRaw bs r) := by
  obtain ⟨h1, h2⟩ := h
  obtain ⟨rz, rb⟩ := r
  simp only at h1 h2
  unfold penRaw refRaw refRawBad
  by_cases hb : rb = 0
  · subst hb
    have hs := h2 h1
    simp only [if_true]
    by_cases hl : 65535 < bs.length
    · rw [if_pos (by omega), if_pos hl, refNum_fail (by simp), refAdd_fail (by simp)]
      unfold penFail
      rw [if_pos h1]
      exact ⟨rfl, by simp⟩
    · rw [if_neg (by omega), if_neg hl]
      have hm : (bs.length : Int) % 65536 = bs.length := by omega
      rw [hm]
      by_cases hf : 65536 < rz.length + 2 + bs.length
      · rw [if_pos hf, refNum_fail (by simp), refAdd_fail (by simp)]
        have e1 : (penAdd bs (penNum bs.length 2 s)) = ([], 3) := by
          have hv : 1 ≤ (2 : Int) ∧ (2 : Int) ≤ 7 ∧ 0 ≤ (bs.length : Int) ∧ (bs.length : Int) / 2 ^ (8 * (2 : Int).toNat) = 0 := ⟨by omega, by omega, by omega, by show (bs.length : Int) / 65536 = 0; omega⟩
          unfold penNum
          rw [if_pos hv]
          by_cases hc : 65536 < rz.length + 2
          · have : penAdd (be (bs.length : Int) (2 : Int).toNat) s = ([], 3) := by
              unfold penAdd
              rw [if_neg (by omega), if_pos (by rw [be_length, hs]; exact hc)]
            rw [this, penAdd_fail (by simp)]
          · have : penAdd (be (bs.length : Int) (2 : Int).toNat) s = (rz ++ be (bs.length : Int) 2, 0) := by
              unfold penAdd
              rw [if_neg (by omega), if_neg (by rw [be_length, hs]; exact hc), hs]
              rfl
            rw [this]
            unfold penAdd
            rw [if_neg (by simp), if_pos (by rw [List.length_append, be_length]; exact hf)]
        rw [e1]
        exact ⟨rfl, by simp⟩
      · rw [if_neg hf]
        exact (Rel.num (s := s) (r := (rz, 0)) ⟨h1, h2⟩ _ _).add bs
  · have hs : s.2 ≠ 0 := by omega
    rw [if_neg hb, refNum_fail hb, refAdd_fail hb, penNum_fail hs, penAdd_fail hs, penFail_fail hs]
    split <;> exact ⟨h1, h2⟩
end Go.Proofs.Ytoglcohdanpciaa
