/- As many bytes as may be go, one more does not (the law WireMost): for every n and over the law returns true and turns nothing that was there. No condition. -/
import Derived.Test.YtfkafelidkcinaaModel
import Derived.Test.YtfkafelidkcinaaKnown
namespace Go.Proofs.Ytfkafelidkcinaa
open Go.ChangeShapes Go.WideShapes Go.ChangeAt Go.RowKit

def lenOf : Value → Nat | .slice _ n _ => n | _ => 0

theorem row_made {w' : World} {B g m : Nat} (h : w'.ownsRow B 5 1 (.slice (some ⟨g, 0, none⟩) m m) m (madeCells (Value.int IntKind.u8 0).cells (m * 1)).toList) :
    RowAt w' (.slice (some ⟨g, 0, none⟩) m m) (List.replicate m (0 : Int)) := by
  have hz : ∀ z ∈ List.replicate m (0 : Int), 0 ≤ z ∧ z ≤ 255 := by intro z hz; have := List.eq_of_mem_replicate hz; omega
  refine row_of_own (B := B) (e := 5) ?_ hz
  rw [show (Value.int IntKind.u8 0).cells = #[Value.int .u8 0] from rfl, made_zero] at h
  rw [List.length_replicate]
  exact h

set_option maxHeartbeats 3200000 in
theorem most_any (n : Int) (o : Nat) (hn : 0 ≤ n) (hn2 : n ≤ 65535) (ho2 : o ≤ 255) (w : World) :
    Calls Try.prog 8 #[.int .u16 n, .int .u8 o] w fun e w' => e = .returned (.bool true) ∧ Keeps [] w w' := by
  obtain ⟨m, hm⟩ : ∃ m : Nat, (m : Int) = 65534 - n % 3 := ⟨(65534 - n % 3).toNat, by omega⟩
  have HM := hid hm
  have b1 : (m : Int) ≤ 65534 := by omega
  have b2 : 65532 ≤ (m : Int) := by omega
  obtain ⟨i0, hi, hz0, hz1, hz2⟩ := info_parts info5
  clear hm
  go_enter Try.func8, Try.ntmps8
  go_wp2_with fail
  refine (awake_any w).mono ?_
  rintro e w1 ⟨rfl, q1⟩
  have K1 := hid q1
  clear q1
  have P1 := hid (PenSince.new w K1.out 31)
  have hB2 : w.heap.size ≤ (w1.alloc (.cells #[.slice none 0 0, .int .i64 0] 31)).heap.size := P1.out.kept.size
  go_wp2_with (at_make; refine wpList_make_full _ rfl _ _ 25 rfl w.heap.size 5 i0 (.int .u8 0) 1 Try.underlying25 hi hz0 hz1 _ _ _ _ m rfl rfl HM.out.symm HM.out.symm (by rw [hz2]; omega) (by unfold maxLen; omega) hB2 ?_; intro w2 r1 r2; have R1 := hid r1; have R2 := hid r2; clear r1 r2)
  have K2 : Keeps [] (w1.alloc (.cells #[.slice none 0 0, .int .i64 0] 31)) w2 := (Keeps.refl _ _).grown R2.out (by simp)
  have P2 : Hid (PenSince w w2 31 w1.heap.size (.slice none 0 0) [] 0) := ⟨P1.out.pen.keep K2 (by simp) (by simp), P1.out.kept.trans K2⟩
  have hz : ∀ z ∈ List.replicate m (0 : Int), 0 ≤ z ∧ z ≤ 255 := by intro z hz; have := List.eq_of_mem_replicate hz; omega
  have W2 : Hid (RowAt w2 (.slice (some ⟨w1.heap.size + 1, 0, none⟩) m m) (List.replicate m (0 : Int))) := by
    refine row_of_own (B := w.heap.size) (e := 5) ?_ hz
    have := R1.out
    rw [show (Value.int IntKind.u8 0).cells = #[Value.int .u8 0] from rfl, made_zero] at this
    rw [List.length_replicate]
    rw [World.size_alloc] at this
    exact this
  clear K2 hz
  refine (raw_any _ w.heap.size w1.heap.size _ [] 0 _ _ P2.out.pen W2.out ?_ P2.out.kept.size (by rw [List.length_replicate]; omega)).mono ?_
  · intro ad n' c' e _ hm
    injection e with e1 _ _
    obtain rfl := Option.some.inj e1
    simp [Value.ownBlock] at hm
  intro e w3 hq
  rw [penRaw_ok rfl (by rw [List.length_replicate]; omega) (by rw [List.length_replicate]; simp; omega)] at hq
  obtain ⟨rfl, v3, q2⟩ := P2.out.step hq
  have P3 := hid q2
  clear q2 hq
  go_wp2_with fail
  refine (bytes_any _ w.heap.size w1.heap.size _ _ _ P3.out.pen).mono ?_
  intro e w4 hq
  obtain ⟨a, c, rfl, q1, q2, q3⟩ := hq.good
  have P4 : Hid (PenSince w w4 31 w1.heap.size v3 _ 0) := ⟨P3.out.pen.keep q3 (by simp) (by simp), P3.out.kept.trans q3⟩
  obtain ⟨zs, hzs⟩ : ∃ zs : List Int, zs = [] ++ be (List.replicate m (0 : Int)).length 2 ++ List.replicate m 0 := ⟨_, rfl⟩
  rw [← hzs] at P4 ⊢
  have hl : (zs.length : Int) = m + 2 := by rw [hzs]; simp [be_length]; omega
  clear q1 q2 q3 hq P3 W2 R1 R2 P2 P1 K1 hB2 hzs
  have HL := hid hl
  have l1 : (zs.length : Int) ≤ 65536 := by omega
  have l2 : 65534 ≤ (zs.length : Int) := by omega
  have hd : decide (65534 - n % 3 + 2 ≤ 65536) = true := by simp; omega
  clear hl
  go_wp2_with fail
  go_loopw [7, 8] (fun bv ev wr => ∃ (v : Value) (xs : List Int) (a : Option Addr) (c : Nat), bv = .slice a xs.length c ∧ ev = .int .i64 0 ∧ PenSince w wr 31 w1.heap.size v xs 0 ∧ xs.length ≤ 65536)
    (fun bv _ _ => 65536 - lenOf bv)
  case atStart => exact ⟨v3, zs, a, c, rfl, rfl, P4.out, by omega⟩
  case round =>
    obtain ⟨v4, xs, a4, c4, rfl, rfl, q1, hx⟩ := hrel
    have P5 := hid q1
    clear q1
    by_cases hlt : xs.length < 65536
    · have hlt' : (xs.length : Int) < 65536 := by omega
      go_wp2_with fail
      refine (bool_any _ w.heap.size w1.heap.size _ _ _ true P5.out.pen P5.out.kept.size).mono ?_
      intro e w6 hq
      rw [penBool_ok rfl (by show xs.length + 1 ≤ 65536; omega)] at hq
      obtain ⟨rfl, v6, q2⟩ := P5.out.step hq
      have P6 := hid q2
      clear q2 hq
      go_wp2_with fail
      refine (bytes_any _ w.heap.size w1.heap.size _ _ _ P6.out.pen).mono ?_
      intro e w7 hq
      obtain ⟨a7, c7, rfl, q1, q2, q3⟩ := hq.good
      have P7 : Hid (PenSince w w7 31 w1.heap.size v6 _ 0) := ⟨P6.out.pen.keep q3 (by simp) (by simp), P6.out.kept.trans q3⟩
      clear q1 q2 q3 hq
      obtain ⟨ys, hys⟩ : ∃ ys : List Int, ys = xs ++ [bit true] := ⟨_, rfl⟩
      rw [← hys] at P7 ⊢
      have HY := hid (show ys.length = xs.length + 1 by rw [hys]; simp)
      clear hys
      go_wp2_with fail
      go_roundw
      case rel => exact ⟨v6, ys, a7, c7, rfl, rfl, P7.out, by have := HY.out; omega⟩
      case measure => simp only [lenOf]; have := HY.out; omega
    · have hxl := hid (show xs.length = 65536 by omega)
      have hlt' : ¬ (xs.length : Int) < 65536 := by omega
      go_wp2_with fail
      refine (bool_any _ w.heap.size w1.heap.size _ _ _ false P5.out.pen P5.out.kept.size).mono ?_
      intro e w6 hq
      rw [penBool_full rfl (by show 65536 < xs.length + 1; rw [hxl.out]; omega)] at hq
      obtain ⟨rfl, v6, q2⟩ := P5.out.step hq
      have P6 := hid q2
      clear q2 hq
      go_wp2_with fail
      refine (bytes_any _ w.heap.size w1.heap.size _ _ _ P6.out.pen).mono ?_
      intro e w7 hq
      obtain ⟨a7, c7, rfl, q1, q2, q3⟩ := hq.bad (by omega)
      have K7 := hid (P6.out.kept.trans q3)
      clear q1 q2 q3 hq
      have P8 := hid (PenSince.new w K7.out 31)
      have hB8 : w.heap.size ≤ (w7.alloc (.cells #[.slice none 0 0, .int .i64 0] 31)).heap.size := P8.out.kept.size
      go_wp2_with (at_make; refine wpList_make_full _ rfl _ _ 25 rfl w.heap.size 5 i0 (.int .u8 0) 1 Try.underlying25 hi hz0 hz1 _ _ _ _ o rfl rfl rfl rfl (by rw [hz2]; omega) (by unfold maxLen; omega) hB8 ?_; intro w8 r1 r2; rw [World.size_alloc] at r1; have R1 := hid (row_made r1); have R2 := hid r2; have cv := conv_row R1.out; clear r1 r2)
      have K8 : Keeps [] (w7.alloc (.cells #[.slice none 0 0, .int .i64 0] 31)) w8 := (Keeps.refl _ _).grown R2.out (by simp)
      have P9 : Hid (PenSince w w8 31 w7.heap.size (.slice none 0 0) [] 0) := ⟨P8.out.pen.keep K8 (by simp) (by simp), P8.out.kept.trans K8⟩
      clear K8 cv
      have hcs : codes (strOfNums (List.replicate o (0 : Int))) = List.replicate o 0 := codes_strOf _ (by intro z hz; have := List.eq_of_mem_replicate hz; omega)
      have hsz : (strOfNums (List.replicate o (0 : Int))).size = o := by rw [strOfNums_size, List.length_replicate]
      have HCS := hid hcs
      have HSZ := hid hsz
      clear hcs hsz
      refine (text_any _ w.heap.size w7.heap.size _ [] 0 _ P9.out.pen P9.out.kept.size (by rw [HSZ.out]; omega)).mono ?_
      intro e w9 hq
      rw [HCS.out, penRaw_ok rfl (by rw [List.length_replicate]; omega) (by rw [List.length_replicate]; simp; omega)] at hq
      obtain ⟨rfl, v9, q2⟩ := P9.out.step hq
      have P10 := hid q2
      clear q2 hq
      go_wp2_with fail
      refine (bytes_any _ w.heap.size w7.heap.size _ _ _ P10.out.pen).mono ?_
      intro e w10 hq
      obtain ⟨a10, c10, rfl, q1, q2, q3⟩ := hq.good
      obtain ⟨ys, hys⟩ : ∃ ys : List Int, ys = [] ++ be (List.replicate o (0 : Int)).length 2 ++ List.replicate o 0 := ⟨_, rfl⟩
      rw [← hys] at q1 ⊢
      have HYS := hid hys
      have hyl : ys.length = o + 2 := by rw [hys]; simp [be_length]; omega
      have HYL := hid hyl
      have R10 := hid q1
      have K10 := hid (P10.out.kept.trans q3)
      clear q1 q2 q3 hq hys hyl
      clear P4 HL l1 l2 hd P5 hx P6 K7 P8 hB8 R1 R2 P9 P10 hlt hlt' hxl b1 b2
      go_wp2_with fail
      refine (newEye_any _ w.heap.size _ ys R10.out K10.out.size (by rw [HYL.out]; omega)).mono ?_
      rintro e w11 ⟨p1, v11, rfl, q1, q2, q3, q4⟩
      have R11 := hid (R10.out.keep q3 (by intro _ _ _ _ _; simp))
      have Y11 : Hid (EyeSince w w11 p1 v11 ys 0) := ⟨q2, K10.out.trans q3⟩
      clear q1 q2 q3 q4
      go_wp2_with fail
      refine (newEye_any _ w.heap.size _ ys R11.out Y11.out.kept.size (by rw [HYL.out]; omega)).mono ?_
      rintro e w12 ⟨p2, v12, rfl, q1, q2, q3, q4⟩
      have Y12 : Hid (EyeSince w w12 p1 v11 ys 0) := ⟨Y11.out.eye.keep q3 (by simp) (by intro _ _ _ _ _; simp), Y11.out.kept.trans q3⟩
      have Z12 := hid q2
      have hp12 : p2 ≠ p1 := by have := Y11.out.eye.lt; omega
      have HO : Hid (Off [p1] v12 ys) := by
        intro ad n' c' e _ hm
        have := q4 ad n' c' e
        have := Y11.out.eye.lt
        simp at hm
        omega
      have HP := hid hp12
      clear q1 q2 q3 q4 hp12
      go_wp2_with fail
      refine (eyeText_any _ w.heap.size p1 v11 ys 0 o Y12.out.eye).mono ?_
      intro e w13 hq
      have hrd : after ys 0 (rdCount o ys) = (some (List.replicate o 0), [], 0) := by
        have := rdCount_ok (most := o) (bs := List.replicate o (0 : Int)) (rest := []) (by rw [List.length_replicate]; omega) (by rw [List.length_replicate]; omega)
        rw [List.append_nil] at this
        unfold after
        rw [if_neg (by omega), HYS.out, List.nil_append, this]
      rw [hrd] at hq
      have hk := hq.2.1
      obtain ⟨⟨v13, q1⟩, q2⟩ := Y12.out.step hq
      obtain rfl := q2
      have Y13 := hid q1
      have Z13 := hid (Z12.out.keep hk (by simp; exact HP.out) HO.out)
      clear q1 hq hk hrd
      go_wp2_with fail
      refine (eyeText_any _ w.heap.size p2 v12 ys 0 (o - 1) Z13.out).mono ?_
      intro e w14 hq
      have hrd : after ys 0 (rdCount ((o : Int) - 1) ys) = (none, ys, if o = 0 then 1 else 3) := by
        unfold after
        rw [if_neg (by omega)]
        by_cases h0 : o = 0
        · have : rdCount ((o : Int) - 1) ys = .error 1 := by unfold rdCount; rw [if_pos (by omega)]
          rw [this, if_pos h0]
        · have := rdCount_long (most := (o : Int) - 1) (bs := List.replicate o (0 : Int)) (rest := []) (by omega) (by rw [List.length_replicate]; omega) (by rw [List.length_replicate]; omega)
          rw [List.append_nil] at this
          rw [if_neg h0]
          conv in rdCount _ _ => rw [HYS.out, List.nil_append, this]
      rw [hrd] at hq
      obtain ⟨⟨v14, q1, _⟩, q2, q3⟩ := hq
      obtain rfl := q3
      have Z14 := hid q1
      have hx1 : p1 < w13.heap.size := Y13.out.eye.lt
      have Y14 : Hid (EyeSince w w14 p1 v13 [] 0) := ⟨Y13.out.eye.keep q2 (by simp; exact fun e => HP.out e.symm) (by intro _ _ _ _ h; exact absurd rfl h), Y13.out.kept.trans' q2 (fun i hi hm => by have := Z13.out.lo; simp at hm; omega)⟩
      clear q1 q2 hrd hx1
      generalize strOfNums (List.replicate o (0 : Int)) = st at *
      have hso : ((st.size : Int) == (o : Int)) = true := by rw [HSZ.out]; simp
      by_cases h0 : o = 0
      · subst h0
        have Z14' : Hid (EyeAt w14 w.heap.size p2 v14 ys 1) := Z14.out
        have hso' : ((st.size : Int) == 0) = true := hso
        clear Z14
        go_wp2_with fail
        refine (end_any _ w.heap.size p1 v13 _ 0 Y14.out.eye).mono ?_
        rintro e w15 ⟨rfl, rfl⟩
        go_wp2_with fail
        refine (fail_any _ w.heap.size p2 v14 _ 1 Z14'.out).mono ?_
        rintro e w15 ⟨rfl, rfl⟩
        go_wp2_with fail
        go_ret
        exact ⟨rfl, Y14.out.kept⟩
      · have Z14' : Hid (EyeAt w14 w.heap.size p2 v14 ys 3) := by have := Z14.out; rw [if_neg h0] at this; exact this
        have ho0 : ((o : Int) == 0) = false := by simp; omega
        clear Z14
        go_wp2_with fail
        refine (end_any _ w.heap.size p1 v13 _ 0 Y14.out.eye).mono ?_
        rintro e w15 ⟨rfl, rfl⟩
        go_wp2_with fail
        refine (fail_any _ w.heap.size p2 v14 _ 3 Z14'.out).mono ?_
        rintro e w15 ⟨rfl, rfl⟩
        go_wp2_with fail
        go_ret
        exact ⟨rfl, Y14.out.kept⟩
end Go.Proofs.Ytfkafelidkcinaa
