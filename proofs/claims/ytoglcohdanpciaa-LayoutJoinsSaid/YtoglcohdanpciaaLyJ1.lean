/- LyM, LyA, LyB, LyD, LyC. -/
import Derived.Test.YtoglcohdanpciaaKitG
import Derived.Test.YtoglcohdanpciaaPyMath
import Derived.Test.YtoglcohdanpciaaPyLaws
import Derived.IntWalk
import Derived.Deep.QuietTactic
import Derived.BigQuiet
import Derived.Test.YtoglcohdanpciaaKitE
import Derived.Test.YtoglcohdanpciaaEyeL
/- layout, plainly: how many bytes a fragment has, where they lie, what a stripe is cut into, and that its parts make it again. -/
namespace Go.Proofs.Ytoglcohdanpciaa
open Go.RowKit
set_option linter.unusedSimpArgs false

/-- A stripe's name. -/
structure Spe where
  c : Int
  l : Int
  n : Int
deriving DecidableEq, Inhabited
def Spe.cells (s : Spe) : List Value := [.int .i64 s.c, .int .i64 s.l, .int .i64 s.n]
def mayE (s : Spe) : Bool := msB s.c s.l s.n
def maySv (n : Int) : Bool := btw n 3 16
theorem maySv_is {n : Int} : maySv n = true ↔ 3 ≤ n ∧ n ≤ 16 := btw_is
def mayHv (z n : Int) : Bool := maySv n && btw z 0 (400 * (n - 1))
theorem mayHv_is {z n : Int} : mayHv z n = true ↔ (3 ≤ n ∧ n ≤ 16) ∧ 0 ≤ z ∧ z ≤ 400 * (n - 1) := by
  unfold mayHv
  rw [Bool.and_eq_true, maySv_is, btw_is]
def eachI (z n : Int) : Int := if maySv n = true ∧ 1 ≤ z then (z - 1) / (n - 1) + 1 else 0
def placeI (s : Spe) (i n : Int) : Int := if maySv n = true then (s.n + s.c + i) % n else 0
def fromI (i z n : Int) : Int := min (i * eachI z n) z
def toI (i z n : Int) : Int := min (i * eachI z n + eachI z n) z
def longI (i z n : Int) : Int := toI (if i = n - 1 then 0 else i) z n - fromI (if i = n - 1 then 0 else i) z n

/-- The same of naturals. -/
def eN (z n : Nat) : Nat := if z = 0 then 0 else (z - 1) / (n - 1) + 1
def fromN (i z n : Nat) : Nat := min (i * eN z n) z
def lenN (i z n : Nat) : Nat := min (i * eN z n + eN z n) z - min (i * eN z n) z
def longN (i z n : Nat) : Nat := lenN (if i = n - 1 then 0 else i) z n

theorem eN_is {z n : Nat} (h3 : 3 ≤ n) (h16 : n ≤ 16) : eachI z n = eN z n := by
  unfold eachI eN
  by_cases hz : z = 0
  · subst hz
    rw [if_neg (by simp), if_pos rfl]; rfl
  · rw [if_pos ⟨maySv_is.2 ⟨by omega, by omega⟩, by omega⟩, if_neg hz]
    have e1 : ((z : Int) - 1) = ((z - 1 : Nat) : Int) := by omega
    have e2 : ((n : Int) - 1) = ((n - 1 : Nat) : Int) := by omega
    rw [e1, e2, ← Int.natCast_ediv]
    rfl
theorem eN_all {z n : Nat} (h3 : 3 ≤ n) : z ≤ (n - 1) * eN z n := by
  unfold eN
  by_cases hz : z = 0
  · omega
  · rw [if_neg hz]
    have := Nat.div_add_mod (z - 1) (n - 1)
    have h2 := Nat.mod_lt (z - 1) (show 0 < n - 1 by omega)
    rw [Nat.mul_add, Nat.mul_one]
    omega
theorem eN_le (z n : Nat) : eN z n ≤ z := by
  unfold eN
  split
  · omega
  · have := Nat.div_le_self (z - 1) (n - 1)
    omega
theorem eN_most {z n : Nat} (h : z ≤ 400 * (n - 1)) : eN z n ≤ 400 := by
  unfold eN
  by_cases hz : z = 0
  · rw [if_pos hz]; omega
  · rw [if_neg hz]
    have : (z - 1) / (n - 1) < 400 := Nat.div_lt_of_lt_mul (by rw [Nat.mul_comm]; omega)
    omega
theorem eN_pos {z n : Nat} (hz : 0 < z) : 0 < eN z n := by
  unfold eN
  rw [if_neg (by omega)]
  generalize (z - 1) / (n - 1) = q
  omega
theorem lenN_le (i z n : Nat) : lenN i z n ≤ lenN 0 z n := by
  unfold lenN
  rw [Nat.zero_mul]
  generalize i * eN z n = a
  omega
theorem lenN_zero (z n : Nat) : lenN 0 z n = eN z n := by
  have := eN_le z n
  unfold lenN
  rw [Nat.zero_mul]
  omega
theorem longN_le (i z n : Nat) : longN i z n ≤ eN z n := by
  unfold longN
  rw [← lenN_zero]
  exact lenN_le _ _ _
theorem longN_last (z n : Nat) : longN (n - 1) z n = eN z n := by
  unfold longN
  rw [if_pos rfl, lenN_zero]
theorem longN_ne {i z n : Nat} (h : i < n - 1) : longN i z n = lenN i z n := by
  unfold longN
  rw [if_neg (by omega)]
theorem longN_zero (z n : Nat) : longN 0 z n = eN z n := by
  unfold longN
  split <;> exact lenN_zero _ _

theorem fromI_is {i z n : Nat} (h3 : 3 ≤ n) (h16 : n ≤ 16) : fromI i z n = fromN i z n := by
  unfold fromI fromN
  rw [eN_is h3 h16]
  generalize eN z n = e
  rw [← Int.natCast_mul]
  omega
theorem toI_is {i z n : Nat} (h3 : 3 ≤ n) (h16 : n ≤ 16) : toI i z n = (fromN i z n + lenN i z n : Nat) := by
  unfold toI fromN lenN
  rw [eN_is h3 h16]
  generalize eN z n = e
  rw [← Int.natCast_mul]
  omega
theorem longI_is {i z n : Nat} (h3 : 3 ≤ n) (h16 : n ≤ 16) : longI i z n = longN i z n := by
  unfold longI longN
  by_cases h : i = n - 1
  · have h' : (i : Int) = n - 1 := by omega
    rw [if_pos h', if_pos h]
    have a := fromI_is (i := 0) (z := z) h3 h16
    have b := toI_is (i := 0) (z := z) h3 h16
    change fromI 0 z n = _ at a
    change toI 0 z n = _ at b
    rw [a, b]
    omega
  · have h' : ¬ (i : Int) = n - 1 := by omega
    rw [if_neg h', if_neg h, fromI_is h3 h16, toI_is h3 h16]
    omega

/-- A part of a stripe's bytes. -/
def partL (d : List Int) (i n : Nat) : List Int := (d.drop (fromN i d.length n)).take (lenN i d.length n)
def dataL (d : List Int) (n : Nat) : List (List Int) := (List.range (n - 1)).map fun i => partL d i n
/-- All that a stripe is cut into. -/
def rowsL (d : List Int) (n : Nat) : List (List Int) := dataL d n ++ [xorL (dataL d n)]

theorem partL_len (d : List Int) (i n : Nat) : (partL d i n).length = lenN i d.length n := by
  unfold partL
  rw [List.length_take, List.length_drop]
  unfold fromN lenN
  generalize i * eN d.length n = a
  omega
theorem dataL_len (d : List Int) (n : Nat) : (dataL d n).length = n - 1 := by simp [dataL]
theorem rowsL_len {d : List Int} {n : Nat} (h3 : 3 ≤ n) : (rowsL d n).length = n := by
  unfold rowsL
  rw [List.length_append, dataL_len, List.length_singleton]
  omega
theorem dataL_get {d : List Int} {n i : Nat} (h : i < (dataL d n).length) : (dataL d n)[i] = partL d i n := by simp [dataL]
theorem flat_upto (d : List Int) (n k : Nat) : ((List.range k).map fun i => partL d i n).flatten = d.take (fromN k d.length n) := by
  induction k with
  | zero => simp [fromN]
  | succ k ih =>
    rw [List.range_succ, List.map_append, List.flatten_append, ih, List.map_cons, List.map_nil, List.flatten_cons, List.flatten_nil, List.append_nil]
    unfold partL
    rw [← List.take_add]
    congr 1
    unfold fromN lenN
    rw [Nat.succ_mul]
    generalize k * eN d.length n = a
    omega
theorem flat_is {d : List Int} {n : Nat} (h3 : 3 ≤ n) : (dataL d n).flatten = d := by
  unfold dataL
  rw [flat_upto]
  have := eN_all (z := d.length) h3
  unfold fromN
  rw [Nat.min_eq_right this, List.take_length]
theorem partL_byte {d : List Int} (h : ∀ z ∈ d, byteB z) (i n : Nat) : ∀ z ∈ partL d i n, byteB z :=
  fun z hz => h z (List.mem_of_mem_drop (List.mem_of_mem_take hz))
theorem dataL_byte {d : List Int} (h : ∀ z ∈ d, byteB z) (n : Nat) : BytesL (dataL d n) := by
  intro r hr
  unfold dataL at hr
  obtain ⟨i, _, rfl⟩ := List.mem_map.1 hr
  exact partL_byte h i n
theorem longest_data {d : List Int} {n : Nat} (h3 : 3 ≤ n) : longest (dataL d n) = eN d.length n := by
  apply Nat.le_antisymm
  · refine longest_le fun r hr => ?_
    unfold dataL at hr
    obtain ⟨i, _, rfl⟩ := List.mem_map.1 hr
    rw [partL_len, ← lenN_zero]
    exact lenN_le _ _ _
  · have hm : partL d 0 n ∈ dataL d n := List.mem_map.2 ⟨0, by simp; omega, rfl⟩
    have := le_longest hm
    rw [partL_len, lenN_zero] at this
    exact this
theorem rowsL_at {d : List Int} {n i : Nat} (h3 : 3 ≤ n) (hi : i < (rowsL d n).length) : (rowsL d n)[i].length = longN i d.length n := by
  have hl := rowsL_len (d := d) h3
  unfold rowsL at hi ⊢
  rw [List.getElem_append]
  split
  · rename_i h
    rw [dataL_get, partL_len, longN_ne (by rw [dataL_len] at h; exact h)]
  · rename_i h
    rw [dataL_len] at h
    have : i = n - 1 := by unfold rowsL at hl; omega
    subst this
    simp only [dataL_len, Nat.sub_self, List.getElem_cons_zero]
    rw [xorL_length, longest_data h3, longN_last]

/-- Rows that are as long as a stripe's parts of so many bytes. -/
def Canon (l : List (List Int)) (z n : Nat) : Prop := l.length = n - 1 ∧ ∀ i (h : i < l.length), (l[i]'h).length = lenN i z n
theorem canon_of {d : List Int} {n : Nat} : Canon (dataL d n) d.length n := ⟨dataL_len d n, fun i h => by rw [dataL_get h, partL_len]⟩
theorem sum_upto (z n k : Nat) : ((List.range k).map fun i => lenN i z n).sum = fromN k z n := by
  induction k with
  | zero => simp [fromN]
  | succ k ih =>
    rw [List.range_succ, List.map_append, List.sum_append, ih]
    simp only [List.map_cons, List.map_nil, List.sum_cons, List.sum_nil]
    unfold fromN lenN
    rw [Nat.succ_mul]
    generalize k * eN z n = a
    omega
theorem Canon.lens {l : List (List Int)} {z n : Nat} (h : Canon l z n) : l.map List.length = (List.range (n - 1)).map fun i => lenN i z n := by
  apply List.ext_getElem
  · simp [h.1]
  · intro i h1 h2
    simp only [List.getElem_map, List.getElem_range]
    exact h.2 i (by simpa using h1)
theorem Canon.flat {l : List (List Int)} {z n : Nat} (h : Canon l z n) (h3 : 3 ≤ n) : l.flatten.length = z := by
  rw [List.length_flatten, h.lens, sum_upto]
  have := eN_all (z := z) h3
  unfold fromN
  omega
/-- What was joined is cut into the same rows. -/
theorem Canon.back {l : List (List Int)} {z n : Nat} (h : Canon l z n) (h3 : 3 ≤ n) : dataL l.flatten n = l := by
  rw [List.eq_iff_flatten_eq]
  refine ⟨flat_is h3, ?_⟩
  rw [h.lens, Canon.lens canon_of, h.flat h3]
end Go.Proofs.Ytoglcohdanpciaa


/- layout: the small functions: within, mayServe, mayHave, mayBe, most, Each; and the reference's. -/
namespace Go.Proofs.Ytoglcohdanpciaa
open Go.RowKit
set_option maxRecDepth 100000
set_option linter.unusedSimpArgs false
set_option linter.unusedVariables false

theorem lwithin_as (w : World) (x lo hi : Int) (b : Bool) (h : btw x lo hi = b) : Calls Try.prog 102 #[.int .i64 x, .int .i64 lo, .int .i64 hi] w fun e w' => e = .returned (.bool b) ∧ w = w' := by
  subst h
  unfold btw
  by_cases h0 : lo ≤ x
  · by_cases h1 : x ≤ hi
    · go_enter Try.func102, Try.ntmps102
      go_wp2_with fail
      go_ret
      exact ⟨by simp [h0, h1], rfl⟩
    · go_enter Try.func102, Try.ntmps102
      go_wp2_with fail
      go_ret
      exact ⟨by simp [h1], rfl⟩
  · go_enter Try.func102, Try.ntmps102
    go_wp2_with fail
    go_ret
    exact ⟨by simp; omega, rfl⟩
theorem lserve_as (w : World) (n : Int) (b : Bool) (h : maySv n = b) : Calls Try.prog 51 #[.int .i64 n] w fun e w' => e = .returned (.bool b) ∧ w = w' := by
  have H := hid h
  clear h
  go_enter Try.func51, Try.ntmps51
  go_wp2_with fail
  refine (lwithin_as w n 3 16 b H.out).mono ?_
  rintro e w' ⟨rfl, rfl⟩
  go_wp2_with fail
  go_ret
  exact ⟨rfl, rfl⟩
theorem lmost_as (w : World) (n : Int) (h3 : 3 ≤ n) (h16 : n ≤ 16) : Calls Try.prog 53 #[.int .i64 n] w fun e w' => e = .returned (.int .i64 (400 * (n - 1))) ∧ w = w' := by
  go_enter Try.func53, Try.ntmps53
  go_wp2_with fail
  go_ret
  exact ⟨rfl, rfl⟩
theorem lhave_as (w : World) (z n : Int) (b : Bool) (h : mayHv z n = b) : Calls Try.prog 50 #[.int .i64 z, .int .i64 n] w fun e w' => e = .returned (.bool b) ∧ w = w' := by
  have H := hid h
  clear h
  cases hm : maySv n with
  | false =>
    have HM := hid hm
    clear hm
    go_enter Try.func50, Try.ntmps50
    go_wp2_with fail
    refine (lserve_as w n false HM.out).mono ?_
    rintro e w' ⟨rfl, rfl⟩
    go_wp2_with fail
    go_ret
    exact ⟨ret_boolP (by rw [← H.out]; unfold mayHv; rw [HM.out]; rfl), rfl⟩
  | true =>
    obtain ⟨h3, h16⟩ := maySv_is.1 hm
    have HM := hid hm
    clear hm
    go_enter Try.func50, Try.ntmps50
    go_wp2_with fail
    refine (lserve_as w n true HM.out).mono ?_
    rintro e w' ⟨rfl, rfl⟩
    go_wp2_with fail
    refine (lmost_as w n h3 h16).mono ?_
    rintro e w' ⟨rfl, rfl⟩
    go_wp2_with fail
    refine (lwithin_as w z 0 (400 * (n - 1)) b (by rw [← H.out]; unfold mayHv; rw [HM.out]; rfl)).mono ?_
    rintro e w' ⟨rfl, rfl⟩
    go_wp2_with fail
    go_ret
    exact ⟨rfl, rfl⟩
set_option maxHeartbeats 1600000 in
theorem lbe_as (w : World) (s : Spe) (b : Bool) (h : mayE s = b) : Calls Try.prog 52 #[.agg #[.int .i64 s.c, .int .i64 s.l, .int .i64 s.n]] w fun e w' => e = .returned (.bool b) ∧ Keeps [] w w' := by
  have H := hid h
  have KB := hid ((Keeps.refl [] w).alloc (.cells #[.int .i64 s.c, .int .i64 s.l, .int .i64 s.n] 30))
  clear h
  obtain ⟨c, l, n⟩ := s
  cases h0 : btw c 0 4 with
  | false =>
    have H0 := hid h0
    clear h0
    go_enter Try.func52, Try.ntmps52
    go_wp2_with fail
    refine (lwithin_as _ c 0 4 false H0.out).mono ?_
    rintro e w' ⟨rfl, rfl⟩
    go_wp2_with fail
    go_ret
    exact ⟨ret_boolP (by rw [← H.out]; unfold mayE msB; rw [H0.out]; rfl), KB.out⟩
  | true =>
    have H0 := hid h0
    clear h0
    cases h1 : btw l 0 1048576 with
    | false =>
      have H1 := hid h1
      clear h1
      go_enter Try.func52, Try.ntmps52
      go_wp2_with fail
      refine (lwithin_as _ c 0 4 true H0.out).mono ?_
      rintro e w' ⟨rfl, rfl⟩
      go_wp2_with fail
      refine (lwithin_as _ l 0 1048576 false H1.out).mono ?_
      rintro e w' ⟨rfl, rfl⟩
      go_wp2_with fail
      go_ret
      exact ⟨ret_boolP (by rw [← H.out]; unfold mayE msB; rw [H0.out, H1.out]; rfl), KB.out⟩
    | true =>
      have H1 := hid h1
      clear h1
      go_enter Try.func52, Try.ntmps52
      go_wp2_with fail
      refine (lwithin_as _ c 0 4 true H0.out).mono ?_
      rintro e w' ⟨rfl, rfl⟩
      go_wp2_with fail
      refine (lwithin_as _ l 0 1048576 true H1.out).mono ?_
      rintro e w' ⟨rfl, rfl⟩
      go_wp2_with fail
      refine (lwithin_as _ n 0 1073741824 b (by rw [← H.out]; unfold mayE msB; rw [H0.out, H1.out]; rfl)).mono ?_
      rintro e w' ⟨rfl, rfl⟩
      go_wp2_with fail
      go_ret
      exact ⟨rfl, KB.out⟩

theorem each_b {z n : Int} (h3 : 3 ≤ n) (h1 : 1 ≤ z) : 0 ≤ (z - 1) / (n - 1) ∧ (z - 1) / (n - 1) ≤ z - 1 :=
  ⟨Int.ediv_nonneg (by omega) (by omega), Int.ediv_le_self _ (by omega)⟩
theorem eachI_b (z n : Int) : 0 ≤ eachI z n ∧ (eachI z n ≤ z ∨ eachI z n = 0) := by
  unfold eachI
  split
  · rename_i h
    have := each_b (maySv_is.1 h.1).1 h.2
    omega
  · omega
theorem leach_as (w : World) (z n : Int) (hz : z ≤ 9223372036854775807) : Calls Try.prog 20 #[.int .i64 z, .int .i64 n] w fun e w' => e = .returned (.int .i64 (eachI z n)) ∧ w = w' := by
  obtain ⟨r, hr⟩ : ∃ r, r = eachI z n := ⟨_, rfl⟩
  rw [← hr]
  unfold eachI at hr
  have HR := hid hr
  clear hr
  cases hm : maySv n with
  | false =>
    have HM := hid hm
    clear hm
    go_enter Try.func20, Try.ntmps20
    go_wp2_with fail
    refine (lserve_as w n false HM.out).mono ?_
    rintro e w' ⟨rfl, rfl⟩
    go_wp2_with fail
    go_ret
    exact ⟨ret_int (by rw [HR.out, HM.out, if_neg (by simp)]), rfl⟩
  | true =>
    obtain ⟨h3, h16⟩ := maySv_is.1 hm
    have HM := hid hm
    clear hm
    by_cases h1 : z < 1
    · go_enter Try.func20, Try.ntmps20
      go_wp2_with fail
      refine (lserve_as w n true HM.out).mono ?_
      rintro e w' ⟨rfl, rfl⟩
      go_wp2_with fail
      go_ret
      exact ⟨ret_int (by rw [HR.out, HM.out, if_neg (by simp; omega)]), rfl⟩
    · obtain ⟨b0, b1⟩ := each_b h3 (show 1 ≤ z by omega)
      go_enter Try.func20, Try.ntmps20
      go_wp2_with fail
      refine (lserve_as w n true HM.out).mono ?_
      rintro e w' ⟨rfl, rfl⟩
      go_wp2_with fail
      go_ret
      exact ⟨ret_int (by rw [HR.out, HM.out, if_pos ⟨rfl, by omega⟩]), rfl⟩

theorem rmayn_as (w : World) (n : Int) (b : Bool) (h : maySv n = b) : Calls Try.prog 64 #[.int .i64 n] w fun e w' => e = .returned (.bool b) ∧ w = w' := by
  subst h
  unfold maySv btw
  by_cases h0 : 3 ≤ n
  · by_cases h1 : n ≤ 16
    · go_enter Try.func64, Try.ntmps64
      go_wp2_with fail
      go_ret
      exact ⟨by simp [h0, h1], rfl⟩
    · go_enter Try.func64, Try.ntmps64
      go_wp2_with fail
      go_ret
      exact ⟨by simp [h1], rfl⟩
  · go_enter Try.func64, Try.ntmps64
    go_wp2_with fail
    go_ret
    exact ⟨by simp; omega, rfl⟩
theorem reach_as (w : World) (z n : Int) (hz : z ≤ 9223372036854775807) : Calls Try.prog 25 #[.int .i64 z, .int .i64 n] w fun e w' => e = .returned (.int .i64 (eachI z n)) ∧ w = w' := by
  obtain ⟨r, hr⟩ : ∃ r, r = eachI z n := ⟨_, rfl⟩
  rw [← hr]
  unfold eachI at hr
  have HR := hid hr
  clear hr
  by_cases h1 : z ≤ 0
  · go_enter Try.func25, Try.ntmps25
    go_wp2_with fail
    go_ret
    exact ⟨ret_int (by rw [HR.out, if_neg (by simp; omega)]), rfl⟩
  · cases hm : maySv n with
    | false =>
      have HM := hid hm
      clear hm
      go_enter Try.func25, Try.ntmps25
      go_wp2_with fail
      refine (rmayn_as w n false HM.out).mono ?_
      rintro e w' ⟨rfl, rfl⟩
      go_wp2_with fail
      go_ret
      exact ⟨ret_int (by rw [HR.out, HM.out, if_neg (by simp)]), rfl⟩
    | true =>
      obtain ⟨h3, h16⟩ := maySv_is.1 hm
      have HM := hid hm
      clear hm
      obtain ⟨b0, b1⟩ := each_b h3 (show 1 ≤ z by omega)
      go_enter Try.func25, Try.ntmps25
      go_wp2_with fail
      refine (rmayn_as w n true HM.out).mono ?_
      rintro e w' ⟨rfl, rfl⟩
      go_wp2_with fail
      go_ret
      exact ⟨ret_int (by rw [HR.out, HM.out, if_pos ⟨rfl, by omega⟩]), rfl⟩
end Go.Proofs.Ytoglcohdanpciaa


/- layout: modulo, Place, bounds, long, mayStand; the reference's Place, long. -/
namespace Go.Proofs.Ytoglcohdanpciaa
open Go.RowKit
set_option maxRecDepth 100000
set_option linter.unusedSimpArgs false
set_option linter.unusedVariables false

theorem tmod_b (x : Int) {n : Int} (h3 : 3 ≤ n) : -n < x.tmod n ∧ x.tmod n < n := by
  have h := Int.natAbs_tmod x n
  have h2 := Nat.mod_lt x.natAbs (show 0 < n.natAbs by omega)
  omega
theorem tmod_emod (x n : Int) : x.tmod n % n = x % n := by
  have h := Int.mul_tdiv_add_tmod x n
  conv => rhs; rw [← h]
  rw [Int.add_comm, Int.add_mul_emod_self_left]
theorem mod_once (x : Int) {n : Int} (h3 : 3 ≤ n) : (x.tmod n + n) % n = x % n := by rw [Int.add_emod_right, tmod_emod]
theorem mod_once' (x : Int) {n : Int} (h3 : 3 ≤ n) : (x.tmod n + n).tmod n = x % n := by
  have := tmod_b x h3
  rw [Int.tmod_eq_emod_of_nonneg (by omega), mod_once x h3]
theorem lmodulo_any (w : World) (x n : Int) (h3 : 3 ≤ n) (h16 : n ≤ 16) : Calls Try.prog 63 #[.int .i64 x, .int .i64 n] w fun e w' => e = .returned (.int .i64 (x % n)) ∧ w = w' := by
  obtain ⟨b0, b1⟩ := tmod_b x h3
  have E1 := hid (mod_once x h3)
  have E2 := hid (mod_once' x h3)
  by_cases hx : 0 ≤ x
  · have e : x.tmod n = x % n := Int.tmod_eq_emod_of_nonneg hx
    rw [e] at b0 b1 E1 E2
    clear e
    go_enter Try.func63, Try.ntmps63
    go_wp2_with fail
    go_ret
    first
      | exact ⟨ret_int E1.out, rfl⟩
      | exact ⟨ret_int E2.out, rfl⟩
      | exact ⟨ret_int (tmod_emod x n), rfl⟩
  · have hx' : x < 0 := by omega
    go_enter Try.func63, Try.ntmps63
    go_wp2_with fail
    go_ret
    first
      | exact ⟨ret_int E1.out, rfl⟩
      | exact ⟨ret_int E2.out, rfl⟩
      | exact ⟨ret_int (tmod_emod x n), rfl⟩

theorem mod3L (a b c n : Int) : (a % n + b % n + c % n) % n = (a + b + c) % n := by
  rw [Int.add_emod, Int.emod_emod_of_dvd _ (Int.dvd_refl n), ← Int.add_emod a b, ← Int.add_emod]
set_option maxHeartbeats 3200000 in
theorem lplace_any (w : World) (s : Spe) (i n : Int) : Calls Try.prog 21 #[.agg #[.int .i64 s.c, .int .i64 s.l, .int .i64 s.n], .int .i64 i, .int .i64 n] w fun e w' => e = .returned (.int .i64 (placeI s i n)) ∧ Keeps [] w w' := by
  obtain ⟨r, hr⟩ : ∃ r, r = placeI s i n := ⟨_, rfl⟩
  rw [← hr]
  unfold placeI at hr
  have HR := hid hr
  clear hr
  have KB := hid ((Keeps.refl [] w).alloc (.cells #[.int .i64 s.c, .int .i64 s.l, .int .i64 s.n] 30))
  cases hm : maySv n with
  | false =>
    have HM := hid hm
    clear hm
    go_enter Try.func21, Try.ntmps21
    go_wp2_with fail
    refine (lserve_as _ n false HM.out).mono ?_
    rintro e w' ⟨rfl, rfl⟩
    go_wp2_with fail
    go_ret
    exact ⟨ret_int (by rw [HR.out, HM.out, if_neg (by simp)]), KB.out⟩
  | true =>
    obtain ⟨h3, h16⟩ := maySv_is.1 hm
    have HM := hid hm
    clear hm
    have a0 : 0 ≤ s.n % n := Int.emod_nonneg _ (by omega)
    have a1 : s.n % n < n := Int.emod_lt_of_pos _ (by omega)
    have b0 : 0 ≤ s.c % n := Int.emod_nonneg _ (by omega)
    have b1 : s.c % n < n := Int.emod_lt_of_pos _ (by omega)
    have c0 : 0 ≤ i % n := Int.emod_nonneg _ (by omega)
    have c1 : i % n < n := Int.emod_lt_of_pos _ (by omega)
    have w1 : IntKind.i64.wrap (s.n % n + s.c % n) = s.n % n + s.c % n := IntWalk.i64_in _ (by omega)
    have w2 : IntKind.i64.wrap (s.n % n + s.c % n + i % n) = s.n % n + s.c % n + i % n := IntWalk.i64_in _ (by omega)
    go_enter Try.func21, Try.ntmps21
    go_wp2_with fail
    refine (lserve_as _ n true HM.out).mono ?_
    rintro e w' ⟨rfl, rfl⟩
    go_wp2_with fail
    go_quiet ((go_at_call 63; exact Calls.quiet_of_same ((lmodulo_any _ _ n h3 h16).mono fun e w' ⟨h, k⟩ => ⟨h, k.symm⟩)))
    go_wp2_with fail
    go_ret
    exact ⟨ret_int (by rw [HR.out, HM.out, if_pos rfl, mod3L]), KB.out.drewN _⟩

/-- Numbers of a fragment's place, a stripe's size, how many servers: small ones. -/
structure SmallF (i z n : Int) : Prop where
  i0 : 0 ≤ i
  i1 : i ≤ 255
  z0 : 0 ≤ z
  z1 : z ≤ 65535
  n0 : 3 ≤ n
  n1 : n ≤ 16
theorem SmallF.each {i z n : Int} (h : SmallF i z n) : 0 ≤ eachI z n ∧ eachI z n ≤ 65535 := by
  have := eachI_b z n
  have := h.z1
  have := h.z0
  omega
theorem SmallF.mul {i z n : Int} (h : SmallF i z n) : 0 ≤ i * eachI z n ∧ i * eachI z n ≤ 16711425 := by
  have he := h.each
  refine ⟨Int.mul_nonneg h.i0 he.1, ?_⟩
  exact Int.le_trans (Int.mul_le_mul h.i1 he.2 he.1 (by omega)) (by omega)
theorem SmallF.first {i z n : Int} (h : SmallF i z n) : SmallF 0 z n := ⟨by omega, by omega, h.z0, h.z1, h.n0, h.n1⟩
theorem ret_two {a b c d : Int} (h : a = c) (k : b = d) : Ending.returned (.tuple #[.int .i64 a, .int .i64 b]) = .returned (.tuple #[.int .i64 c, .int .i64 d]) := by rw [h, k]
theorem lbounds_any (w : World) (i z n : Int) (h : SmallF i z n) : Calls Try.prog 56 #[.int .i64 i, .int .i64 z, .int .i64 n] w fun e w' => e = .returned (.tuple #[.int .i64 (fromI i z n), .int .i64 (toI i z n)]) ∧ w = w' := by
  obtain ⟨e0, e1⟩ := h.each
  obtain ⟨m0, m1⟩ := h.mul
  obtain ⟨f, hf⟩ : ∃ f, f = fromI i z n := ⟨_, rfl⟩
  obtain ⟨t, ht⟩ : ∃ t, t = toI i z n := ⟨_, rfl⟩
  rw [← hf, ← ht]
  unfold fromI at hf
  unfold toI at ht
  have z1 := h.z1
  have z0 := h.z0
  have A := leach_as w z n (by omega)
  obtain ⟨x, hx⟩ : ∃ x, x = eachI z n := ⟨_, rfl⟩
  rw [← hx] at A e0 e1 m0 m1 hf ht
  have HF := hid hf
  have HT := hid ht
  clear hf ht hx h
  go_enter Try.func56, Try.ntmps56
  go_wp2_with fail
  refine A.mono ?_
  rintro e w' ⟨rfl, rfl⟩
  clear A
  go_wp2_with fail
  all_goals
    go_ret2
    exact ⟨ret_two (by have := HF.out; omega) (by have := HT.out; omega), rfl⟩
theorem fromTo (i z n : Int) (h : SmallF i z n) : 0 ≤ fromI i z n ∧ fromI i z n ≤ toI i z n ∧ toI i z n ≤ z := by
  obtain ⟨e0, e1⟩ := h.each
  obtain ⟨m0, m1⟩ := h.mul
  have := h.z0
  unfold fromI toI
  generalize i * eachI z n = a at *
  omega
theorem ylong_any (w : World) (i z n : Int) (h : SmallF i z n) : Calls Try.prog 112 #[.int .i64 i, .int .i64 z, .int .i64 n] w fun e w' => e = .returned (.int .i64 (longI i z n)) ∧ w = w' := by
  obtain ⟨r, hr⟩ : ∃ r, r = longI i z n := ⟨_, rfl⟩
  rw [← hr]
  unfold longI at hr
  have n0 := h.n0
  have n1 := h.n1
  by_cases hi : i = n - 1
  · rw [if_pos hi] at hr
    have A := lbounds_any w 0 z n h.first
    obtain ⟨b0, b1, b2⟩ := fromTo 0 z n h.first
    have z1 := h.z1
    have HR := hid hr
    have hib : (i == n - 1) = true := by simpa using hi
    have HI := hid hi
    clear hr hi h
    generalize fromI 0 z n = f at *
    generalize toI 0 z n = t at *
    go_enter Try.func112, Try.ntmps112
    go_wp2_with fail
    refine A.mono ?_
    rintro e w' ⟨rfl, rfl⟩
    clear A
    go_wp2_with fail
    go_ret
    exact ⟨ret_int HR.out.symm, rfl⟩
  · rw [if_neg hi] at hr
    have A := lbounds_any w i z n h
    obtain ⟨b0, b1, b2⟩ := fromTo i z n h
    have z1 := h.z1
    have HR := hid hr
    have hib : (i == n - 1) = false := by simpa using hi
    clear hr hi h
    generalize fromI i z n = f at *
    generalize toI i z n = t at *
    go_enter Try.func112, Try.ntmps112
    go_wp2_with fail
    refine A.mono ?_
    rintro e w' ⟨rfl, rfl⟩
    clear A
    go_wp2_with fail
    go_ret
    exact ⟨ret_int HR.out.symm, rfl⟩

set_option maxHeartbeats 3200000 in
theorem rplace_any (w : World) (s : Spe) (i n : Int) : Calls Try.prog 26 #[.agg #[.int .i64 s.c, .int .i64 s.l, .int .i64 s.n], .int .i64 i, .int .i64 n] w fun e w' => e = .returned (.int .i64 (placeI s i n)) ∧ Keeps [] w w' := by
  obtain ⟨r, hr⟩ : ∃ r, r = placeI s i n := ⟨_, rfl⟩
  rw [← hr]
  unfold placeI at hr
  have HR := hid hr
  clear hr
  have KB := hid ((Keeps.refl [] w).alloc (.cells #[.int .i64 s.c, .int .i64 s.l, .int .i64 s.n] 30))
  cases hm : maySv n with
  | false =>
    have HM := hid hm
    clear hm
    go_enter Try.func26, Try.ntmps26
    go_wp2_with fail
    refine (rmayn_as _ n false HM.out).mono ?_
    rintro e w' ⟨rfl, rfl⟩
    go_wp2_with fail
    go_ret
    exact ⟨ret_int (by rw [HR.out, HM.out, if_neg (by simp)]), KB.out⟩
  | true =>
    obtain ⟨h3, h16⟩ := maySv_is.1 hm
    have HM := hid hm
    clear hm
    obtain ⟨a0, a1⟩ := tmod_b s.n h3
    obtain ⟨b0, b1⟩ := tmod_b s.c h3
    obtain ⟨c0, c1⟩ := tmod_b i h3
    obtain ⟨d0, d1⟩ := tmod_b (s.n.tmod n + s.c.tmod n + i.tmod n) h3
    have w1 : IntKind.i64.wrap (s.n.tmod n + s.c.tmod n) = s.n.tmod n + s.c.tmod n := IntWalk.i64_in _ (by omega)
    have w2 : IntKind.i64.wrap (s.n.tmod n + s.c.tmod n + i.tmod n) = s.n.tmod n + s.c.tmod n + i.tmod n := IntWalk.i64_in _ (by omega)
    have w3 : IntKind.i64.wrap ((s.n.tmod n + s.c.tmod n + i.tmod n).tmod n + n) = (s.n.tmod n + s.c.tmod n + i.tmod n).tmod n + n := IntWalk.i64_in _ (by omega)
    have E := hid (show ((s.n.tmod n + s.c.tmod n + i.tmod n).tmod n + n) % n = (s.n + s.c + i) % n by
      rw [mod_once _ h3, ← mod3L (s.n.tmod n) (s.c.tmod n) (i.tmod n), tmod_emod, tmod_emod, tmod_emod, mod3L])
    go_enter Try.func26, Try.ntmps26
    go_wp2_with fail
    refine (rmayn_as _ n true HM.out).mono ?_
    rintro e w' ⟨rfl, rfl⟩
    go_wp2_with fail
    go_quiet (fail)
    go_wp2_with fail
    go_ret
    exact ⟨ret_int (by rw [HR.out, HM.out, if_pos rfl]; exact E.out), KB.out.drewN _⟩
end Go.Proofs.Ytoglcohdanpciaa


/- layout: a fragment's head: whether it may be; how long the fragment is, by the reference. -/
namespace Go.Proofs.Ytoglcohdanpciaa
open Go.RowKit
set_option maxRecDepth 100000
set_option linter.unusedSimpArgs false
set_option linter.unusedVariables false

/-- A fragment's head. -/
structure Hd13 where
  s : Spe
  i : Int
  n : Int
  z : Int
deriving DecidableEq, Inhabited
def Hd13.cells (h : Hd13) : List Value := [.int .i64 h.s.c, .int .i64 h.s.l, .int .i64 h.s.n, .int .i64 h.i, .int .i64 h.n, .int .i64 h.z]
def hdV13 (h : Hd13) : Value := .agg #[.int .i64 h.s.c, .int .i64 h.s.l, .int .i64 h.s.n, .int .i64 h.i, .int .i64 h.n, .int .i64 h.z]
def mayH (h : Hd13) : Bool := mayE h.s && mayHv h.z h.n && btw h.i 0 (h.n - 1)
theorem mayH_small {h : Hd13} (k : mayH h = true) : SmallF h.i h.z h.n ∧ mayE h.s = true ∧ h.i < h.n := by
  unfold mayH at k
  rw [Bool.and_eq_true, Bool.and_eq_true, mayHv_is, btw_is] at k
  obtain ⟨⟨k1, ⟨k2, k3⟩, k4, k5⟩, k6, k7⟩ := k
  exact ⟨⟨by omega, by omega, by omega, by omega, by omega, by omega⟩, k1, by omega⟩
theorem uStripe : Try.prog.underlying 30 = some (.struct (Try.prog.fieldsOf 30)) := by kernel_rfl
theorem sStripe : (Try.prog.info? 30).map (·.size) = some 3 := by kernel_rfl
theorem loadSpe (W : World) (b off : Nat) (s : Spe) (hc : W.rangeAt b off s.cells) : (Instr.loadAt 30 (.pointer (some ⟨b, off, none⟩))).run Try.prog W = .ok (.agg #[.int .i64 s.c, .int .i64 s.l, .int .i64 s.n]) W :=
  run_loadAt_mid W b off 30 s.cells _ hc uStripe rfl (by rw [sStripe]; rfl)
theorem range_cells {w : World} {b : Nat} {cs : List Value} {T : TypeId} (h : w.heap[b]? = some (.cells cs.toArray T (0, 0))) : w.rangeAt b 0 cs := fun j u hu => by
  rw [Nat.zero_add, cell_of_row _ _ _ _ _ _ h, ← Array.getElem?_toList]
  simpa using hu
theorem range_part {w : World} {b off k : Nat} {cs : List Value} (h : w.rangeAt b off cs) : w.rangeAt b (off + k) (cs.drop k) := fun j u hu => by
  rw [Nat.add_assoc]
  exact h (k + j) u (by rw [List.getElem?_drop] at hu; exact hu)
theorem range_fst {w : World} {b off k : Nat} {cs : List Value} (h : w.rangeAt b off cs) : w.rangeAt b off (cs.take k) := fun j u hu => by
  rw [List.getElem?_take] at hu
  split at hu
  · exact h j u hu
  · cases hu
set_option maxHeartbeats 3200000 in
theorem lstand_any (w : World) (h : Hd13) (b : Bool) (hb : mayH h = b) : Calls Try.prog 111 #[hdV13 h] w fun e w' => e = .returned (.bool b) ∧ Keeps [] w w' := by
  obtain ⟨⟨c, l, k⟩, i, n, z⟩ := h
  have HB := hid hb
  clear hb
  unfold hdV13
  simp only
  have R := hid (range_cells (heap_alloc_new w (.cells #[.int .i64 c, .int .i64 l, .int .i64 k, .int .i64 i, .int .i64 n, .int .i64 z] 33)))
  have RS := hid (show (w.alloc (.cells #[.int .i64 c, .int .i64 l, .int .i64 k, .int .i64 i, .int .i64 n, .int .i64 z] 33)).rangeAt w.heap.size 0 (⟨c, l, k⟩ : Spe).cells from range_fst (k := 3) R.out)
  have KB := hid ((Keeps.refl [] w).alloc (.cells #[.int .i64 c, .int .i64 l, .int .i64 k, .int .i64 i, .int .i64 n, .int .i64 z] 33))
  have CC := hid (five_cells (heap_alloc_new w (.cells #[.int .i64 c, .int .i64 l, .int .i64 k, .int .i64 i, .int .i64 n, .int .i64 z] 33)))
  cases h0 : mayE ⟨c, l, k⟩ with
  | false =>
    have H0 := hid h0
    clear h0
    go_enter Try.func111, Try.ntmps111
    go_wp2_with (first | (refine wpList_isW rfl _ _ (exec_load _ _ _ _ rfl rfl (loadSpe _ w.heap.size 0 ⟨c, l, k⟩ RS.out)) ?_) | fail)
    refine (lbe_as _ ⟨c, l, k⟩ false H0.out).mono ?_
    rintro e w' ⟨rfl, kw⟩
    have KW := hid (KB.out.trans kw)
    clear kw
    go_wp2_with fail
    go_ret
    exact ⟨ret_boolP (by rw [← HB.out]; unfold mayH; simp only; rw [H0.out]; rfl), KW.out⟩
  | true =>
    have H0 := hid h0
    clear h0
    cases h1 : mayHv z n with
    | false =>
      have H1 := hid h1
      clear h1
      go_enter Try.func111, Try.ntmps111
      go_wp2_with (first | (refine wpList_isW rfl _ _ (exec_load _ _ _ _ rfl rfl (loadSpe _ w.heap.size 0 ⟨c, l, k⟩ RS.out)) ?_) | fail)
      refine (lbe_as _ ⟨c, l, k⟩ true H0.out).mono ?_
      rintro e w' ⟨rfl, kw⟩
      have KW := hid (KB.out.trans kw)
      have c5 := (kw.block w.heap.size (by simp) (by simp)).trans (heap_alloc_new w _)
      have C := hid (five_cells c5)
      have cc2 := (C.out 4).1
      have cc3 := (C.out 5).1
      simp at cc2 cc3
      clear kw c5
      go_wp2_with fail
      refine (lhave_as _ z n false H1.out).mono ?_
      rintro e w' ⟨rfl, rfl⟩
      go_wp2_with fail
      go_ret
      exact ⟨ret_boolP (by rw [← HB.out]; unfold mayH; simp only; rw [H0.out, H1.out]; rfl), KW.out⟩
    | true =>
      have H1 := hid h1
      obtain ⟨⟨n0, n1⟩, z0, z1⟩ := mayHv_is.1 h1
      clear h1
      go_enter Try.func111, Try.ntmps111
      go_wp2_with (first | (refine wpList_isW rfl _ _ (exec_load _ _ _ _ rfl rfl (loadSpe _ w.heap.size 0 ⟨c, l, k⟩ RS.out)) ?_) | fail)
      refine (lbe_as _ ⟨c, l, k⟩ true H0.out).mono ?_
      rintro e w' ⟨rfl, kw⟩
      have KW := hid (KB.out.trans kw)
      have c5 := (kw.block w.heap.size (by simp) (by simp)).trans (heap_alloc_new w _)
      have C := hid (five_cells c5)
      have cc1 := (C.out 3).1
      have cc2 := (C.out 4).1
      have cc3 := (C.out 5).1
      simp at cc1 cc2 cc3
      clear kw c5
      go_wp2_with fail
      refine (lhave_as _ z n true H1.out).mono ?_
      rintro e w' ⟨rfl, rfl⟩
      go_wp2_with fail
      refine (lwithin_as _ i 0 (n - 1) b (by rw [← HB.out]; unfold mayH; simp only; rw [H0.out, H1.out]; rfl)).mono ?_
      rintro e w' ⟨rfl, rfl⟩
      go_wp2_with fail
      go_ret
      exact ⟨rfl, KW.out⟩
set_option maxHeartbeats 3200000 in
theorem rlong_any (w : World) (h : Hd13) (hs : SmallF h.i h.z h.n) (hi : h.i < h.n) : Calls Try.prog 69 #[hdV13 h] w fun e w' => e = .returned (.int .i64 (longI h.i h.z h.n)) ∧ Keeps [] w w' := by
  obtain ⟨⟨c, l, k⟩, i, n, z⟩ := h
  simp only at hs hi ⊢
  unfold hdV13
  simp only
  have KB := hid ((Keeps.refl [] w).alloc (.cells #[.int .i64 c, .int .i64 l, .int .i64 k, .int .i64 i, .int .i64 n, .int .i64 z] 46))
  obtain ⟨e0, e1⟩ := hs.each
  obtain ⟨m0, m1⟩ := hs.mul
  have z1 := hs.z1
  have z0 := hs.z0
  have n0 := hs.n0
  have n1 := hs.n1
  have i0 := hs.i0
  have A := fun W => reach_as W z n (by omega)
  obtain ⟨r, hr⟩ : ∃ r, r = longI i z n := ⟨_, rfl⟩
  rw [← hr]
  unfold longI fromI toI at hr
  obtain ⟨x, hx⟩ : ∃ x, x = eachI z n := ⟨_, rfl⟩
  rw [← hx] at A e0 e1 m0 m1 hr
  by_cases hl : i = n - 1
  · rw [if_pos hl] at hr
    have HR := hid hr
    have hib : (i == n - 1) = true := by simpa using hl
    clear hr hx hs hl
    go_enter Try.func69, Try.ntmps69
    go_wp2_with fail
    refine (A _).mono ?_
    rintro e w' ⟨rfl, rfl⟩
    clear A
    go_wp2_with fail
    all_goals
      go_ret
      exact ⟨ret_int (by have := HR.out; rw [Int.zero_mul] at this; omega), KB.out⟩
  · rw [if_neg hl] at hr
    have HR := hid hr
    have hib : (i == n - 1) = false := by simpa using hl
    clear hr hx hs hl
    go_enter Try.func69, Try.ntmps69
    go_wp2_with fail
    refine (A _).mono ?_
    rintro e w' ⟨rfl, rfl⟩
    clear A
    go_wp2_with fail
    all_goals
      go_ret
      exact ⟨ret_int (by have := HR.out; omega), KB.out⟩
end Go.Proofs.Ytoglcohdanpciaa


/- layout: which spans have which fragments (Span, of both); heads that may be; how long a fragment is, by the reference. -/
namespace Go.Proofs.Ytoglcohdanpciaa
open Go.RowKit
set_option maxRecDepth 100000
set_option linter.unusedSimpArgs false
set_option linter.unusedVariables false

/-- What Span answers: first, last, error. -/
def spanL (a c z n : Int) : Int × Int × Int :=
  if a < 0 ∨ c < 1 ∨ mayHv z n = false ∨ z - c < a then (0, 0, 1) else (a / eachI z n, (a + c - 1) / eachI z n, 0)
def SpanPost (w : World) (r : Int × Int × Int) (e : Ending) (w' : World) : Prop := e = .returned (.tuple #[.int .i64 r.1, .int .i64 r.2.1, .int .i64 r.2.2]) ∧ Keeps [] w w'
theorem span_no {w w' : World} {a c z n : Int} {r : Int × Int × Int} (hr : r = spanL a c z n) (h : a < 0 ∨ c < 1 ∨ mayHv z n = false ∨ z - c < a) (k : Keeps [] w w') : SpanPost w r (.returned (.tuple #[.int .i64 0, .int .i64 0, .int .i64 1])) w' := by
  subst hr
  unfold spanL
  rw [if_pos h]
  exact ⟨rfl, k⟩
set_option maxHeartbeats 3200000 in
theorem lspan_any (w : World) (a c z n : Int) (ha : a ≤ 9223372036854775807) (hc : c ≤ 9223372036854775807) : Calls Try.prog 16 #[.int .i64 a, .int .i64 c, .int .i64 z, .int .i64 n] w (SpanPost w (spanL a c z n)) := by
  obtain ⟨r, hr⟩ : ∃ r, r = spanL a c z n := ⟨_, rfl⟩
  rw [← hr]
  have HR := hid hr
  clear hr
  by_cases h0 : a < 0
  · go_enter Try.func16, Try.ntmps16
    go_wp2_with fail
    refine bodyPost_ret (v := .tuple #[.int .i64 0, .int .i64 0, .int .i64 1]) (by simp [results, Try.results16, go_sem]) rfl (span_no HR.out (.inl h0) (Keeps.refl _ _))
  · by_cases h1 : c < 1
    · go_enter Try.func16, Try.ntmps16
      go_wp2_with fail
      refine bodyPost_ret (v := .tuple #[.int .i64 0, .int .i64 0, .int .i64 1]) (by simp [results, Try.results16, go_sem]) rfl (span_no HR.out (.inr (.inl h1)) (Keeps.refl _ _))
    · cases hm : mayHv z n with
      | false =>
        have HM := hid hm
        clear hm
        go_enter Try.func16, Try.ntmps16
        go_wp2_with fail
        refine (lhave_as _ z n false HM.out).mono ?_
        rintro e w' ⟨rfl, rfl⟩
        go_wp2_with fail
        refine bodyPost_ret (v := .tuple #[.int .i64 0, .int .i64 0, .int .i64 1]) (by simp [results, Try.results16, go_sem]) rfl (span_no HR.out (.inr (.inr (.inl HM.out))) (Keeps.refl _ _))
      | true =>
        obtain ⟨⟨n0, n1⟩, z0, z1⟩ := mayHv_is.1 hm
        have HM := hid hm
        clear hm
        by_cases h3 : z - c < a
        · go_enter Try.func16, Try.ntmps16
          go_wp2_with fail
          refine (lhave_as _ z n true HM.out).mono ?_
          rintro e w' ⟨rfl, rfl⟩
          go_wp2_with fail
          refine bodyPost_ret (v := .tuple #[.int .i64 0, .int .i64 0, .int .i64 1]) (by simp [results, Try.results16, go_sem]) rfl (span_no HR.out (.inr (.inr (.inr h3))) (Keeps.refl _ _))
        · have A := leach_as w z n (by omega)
          have hx : 0 < eachI z n := by
            unfold eachI
            rw [if_pos ⟨maySv_is.2 ⟨n0, n1⟩, by omega⟩]
            have := each_b n0 (show 1 ≤ z by omega)
            omega
          have HE := hid (show r = (a / eachI z n, (a + c - 1) / eachI z n, 0) by
            rw [HR.out]; unfold spanL; rw [if_neg (by rw [HM.out]; simp; omega)])
          generalize eachI z n = x at *
          have w1 : IntKind.i64.wrap (a + c) = a + c := IntWalk.i64_in _ (by omega)
          have w2 : IntKind.i64.wrap (a + c - 1) = a + c - 1 := IntWalk.i64_in _ (by omega)
          have q1 : 0 ≤ a / x := Int.ediv_nonneg (by omega) (by omega)
          have q2 : 0 ≤ (a + c - 1) / x := Int.ediv_nonneg (by omega) (by omega)
          have q3 : a / x ≤ a := Int.ediv_le_self _ (by omega)
          have q4 : (a + c - 1) / x ≤ a + c - 1 := Int.ediv_le_self _ (by omega)
          have t1 : a.tdiv x = a / x := Int.tdiv_eq_ediv_of_nonneg (by omega)
          have t2 : (a + c - 1).tdiv x = (a + c - 1) / x := Int.tdiv_eq_ediv_of_nonneg (by omega)
          have T1 := hid t1
          have T2 := hid t2
          clear t1 t2
          go_enter Try.func16, Try.ntmps16
          go_wp2_with fail
          refine (lhave_as _ z n true HM.out).mono ?_
          rintro e w' ⟨rfl, rfl⟩
          go_wp2_with fail
          refine A.mono ?_
          rintro e w' ⟨rfl, rfl⟩
          clear A
          go_wp2_with fail
          go_quiet (fail)
          go_wp2_with fail
          first
            | exact bodyPost_ret (v := .tuple #[.int .i64 (a / x), .int .i64 ((a + c - 1) / x), .int .i64 0]) (by simp [results, Try.results16, go_sem]) rfl ⟨by rw [HE.out], (Keeps.refl _ _).drewN _⟩
            | exact bodyPost_ret (v := .tuple #[.int .i64 (a.tdiv x), .int .i64 ((a + c - 1).tdiv x), .int .i64 0]) (by simp [results, Try.results16, go_sem]) rfl ⟨by rw [HE.out, T1.out, T2.out], (Keeps.refl _ _).drewN _⟩
set_option maxHeartbeats 6400000 in
theorem rspan_any (w : World) (a c z n : Int) (ha : a ≤ 9223372036854775807) (hc : c ≤ 9223372036854775807) : Calls Try.prog 23 #[.int .i64 a, .int .i64 c, .int .i64 z, .int .i64 n] w (SpanPost w (spanL a c z n)) := by
  obtain ⟨r, hr⟩ : ∃ r, r = spanL a c z n := ⟨_, rfl⟩
  rw [← hr]
  have HR := hid hr
  clear hr
  cases hm : maySv n with
  | false =>
    have HM := hid hm
    have HV := hid (show mayHv z n = false by unfold mayHv; rw [hm]; rfl)
    clear hm
    go_enter Try.func23, Try.ntmps23
    go_wp2_with fail
    refine (rmayn_as _ n false HM.out).mono ?_
    rintro e w' ⟨rfl, rfl⟩
    go_wp2_with fail
    refine bodyPost_ret (v := .tuple #[.int .i64 0, .int .i64 0, .int .i64 1]) (by simp [results, Try.results23, go_sem]) rfl (span_no HR.out (.inr (.inr (.inl HV.out))) (Keeps.refl _ _))
  | true =>
    obtain ⟨n0, n1⟩ := maySv_is.1 hm
    have HM := hid hm
    have HV := hid (show mayHv z n = btw z 0 (400 * (n - 1)) by unfold mayHv; rw [hm]; rfl)
    clear hm
    by_cases h0 : z < 0
    · have HW := hid (show mayHv z n = false by rw [HV.out]; unfold btw; rw [decide_eq_false (by omega)]; rfl)
      go_enter Try.func23, Try.ntmps23
      go_wp2_with fail
      refine (rmayn_as _ n true HM.out).mono ?_
      rintro e w' ⟨rfl, rfl⟩
      go_wp2_with fail
      refine bodyPost_ret (v := .tuple #[.int .i64 0, .int .i64 0, .int .i64 1]) (by simp [results, Try.results23, go_sem]) rfl (span_no HR.out (.inr (.inr (.inl HW.out))) (Keeps.refl _ _))
    · by_cases h1 : 400 * (n - 1) < z
      · have HW := hid (show mayHv z n = false by rw [HV.out]; unfold btw; rw [decide_eq_false (p := z ≤ _) (by omega)]; simp)
        go_enter Try.func23, Try.ntmps23
        go_wp2_with fail
        refine (rmayn_as _ n true HM.out).mono ?_
        rintro e w' ⟨rfl, rfl⟩
        go_wp2_with fail
        refine bodyPost_ret (v := .tuple #[.int .i64 0, .int .i64 0, .int .i64 1]) (by simp [results, Try.results23, go_sem]) rfl (span_no HR.out (.inr (.inr (.inl HW.out))) (Keeps.refl _ _))
      · have HW := hid (show mayHv z n = true by rw [HV.out, btw_is]; omega)
        by_cases h2 : a < 0
        · go_enter Try.func23, Try.ntmps23
          go_wp2_with fail
          refine (rmayn_as _ n true HM.out).mono ?_
          rintro e w' ⟨rfl, rfl⟩
          go_wp2_with fail
          refine bodyPost_ret (v := .tuple #[.int .i64 0, .int .i64 0, .int .i64 1]) (by simp [results, Try.results23, go_sem]) rfl (span_no HR.out (.inl h2) (Keeps.refl _ _))
        · by_cases h3 : c ≤ 0
          · go_enter Try.func23, Try.ntmps23
            go_wp2_with fail
            refine (rmayn_as _ n true HM.out).mono ?_
            rintro e w' ⟨rfl, rfl⟩
            go_wp2_with fail
            refine bodyPost_ret (v := .tuple #[.int .i64 0, .int .i64 0, .int .i64 1]) (by simp [results, Try.results23, go_sem]) rfl (span_no HR.out (.inr (.inl (by omega))) (Keeps.refl _ _))
          · by_cases h4 : z < a
            · go_enter Try.func23, Try.ntmps23
              go_wp2_with fail
              refine (rmayn_as _ n true HM.out).mono ?_
              rintro e w' ⟨rfl, rfl⟩
              go_wp2_with fail
              refine bodyPost_ret (v := .tuple #[.int .i64 0, .int .i64 0, .int .i64 1]) (by simp [results, Try.results23, go_sem]) rfl (span_no HR.out (.inr (.inr (.inr (by omega)))) (Keeps.refl _ _))
            · by_cases h5 : z - a < c
              · go_enter Try.func23, Try.ntmps23
                go_wp2_with fail
                refine (rmayn_as _ n true HM.out).mono ?_
                rintro e w' ⟨rfl, rfl⟩
                go_wp2_with fail
                refine bodyPost_ret (v := .tuple #[.int .i64 0, .int .i64 0, .int .i64 1]) (by simp [results, Try.results23, go_sem]) rfl (span_no HR.out (.inr (.inr (.inr (by omega)))) (Keeps.refl _ _))
              · have A := reach_as w z n (by omega)
                have hx : 0 < eachI z n := by
                  unfold eachI
                  rw [if_pos ⟨maySv_is.2 ⟨n0, n1⟩, by omega⟩]
                  have := each_b n0 (show 1 ≤ z by omega)
                  omega
                have HE := hid (show r = (a / eachI z n, (a + c - 1) / eachI z n, 0) by
                  rw [HR.out]; unfold spanL; rw [if_neg (by rw [HW.out]; simp; omega)])
                generalize eachI z n = x at *
                have w1 : IntKind.i64.wrap (a + c) = a + c := IntWalk.i64_in _ (by omega)
                have w2 : IntKind.i64.wrap (a + c - 1) = a + c - 1 := IntWalk.i64_in _ (by omega)
                have q1 : 0 ≤ a / x := Int.ediv_nonneg (by omega) (by omega)
                have q2 : 0 ≤ (a + c - 1) / x := Int.ediv_nonneg (by omega) (by omega)
                have q3 : a / x ≤ a := Int.ediv_le_self _ (by omega)
                have q4 : (a + c - 1) / x ≤ a + c - 1 := Int.ediv_le_self _ (by omega)
                have T1 := hid (show a.tdiv x = a / x from Int.tdiv_eq_ediv_of_nonneg (by omega))
                have T2 := hid (show (a + c - 1).tdiv x = (a + c - 1) / x from Int.tdiv_eq_ediv_of_nonneg (by omega))
                go_enter Try.func23, Try.ntmps23
                go_wp2_with fail
                refine (rmayn_as _ n true HM.out).mono ?_
                rintro e w' ⟨rfl, rfl⟩
                go_wp2_with fail
                refine A.mono ?_
                rintro e w' ⟨rfl, rfl⟩
                clear A
                go_wp2_with fail
                go_quiet (fail)
                go_wp2_with fail
                first
                  | exact bodyPost_ret (v := .tuple #[.int .i64 (a / x), .int .i64 ((a + c - 1) / x), .int .i64 0]) (by simp [results, Try.results23, go_sem]) rfl ⟨by rw [HE.out], (Keeps.refl _ _).drewN _⟩
                  | exact bodyPost_ret (v := .tuple #[.int .i64 (a.tdiv x), .int .i64 ((a + c - 1).tdiv x), .int .i64 0]) (by simp [results, Try.results23, go_sem]) rfl ⟨by rw [HE.out, T1.out, T2.out], (Keeps.refl _ _).drewN _⟩
end Go.Proofs.Ytoglcohdanpciaa
