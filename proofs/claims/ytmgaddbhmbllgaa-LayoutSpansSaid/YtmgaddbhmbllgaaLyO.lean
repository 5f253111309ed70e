/- layout, plainly: what fragments say; the bytes of a span. -/
import Derived.Test.YtmgaddbhmbllgaaLyJ6
namespace Go.Proofs.Ytmgaddbhmbllgaa
open Go.RowKit Go.Shelf
set_option maxRecDepth 100000
set_option linter.unusedSimpArgs false
set_option linter.unusedVariables false

theorem frag_get {s : Spe} {d : List Int} {n i : Nat} (hi : i < n) : (fragsL s d n).getD i [] = headB13 ⟨s, i, n, d.length⟩ ++ (rowsL d n).getD i [] := by
  unfold fragsL
  rw [List.getD_eq_getElem?_getD, List.getElem?_map, List.getElem?_range hi]
  rfl
theorem rows_get_lt {d : List Int} {n i : Nat} (hi : i < n - 1) : (rowsL d n).getD i [] = partL d i n := by
  unfold rowsL
  rw [List.getD_eq_getElem?_getD, List.getElem?_append_left (by rw [dataL_len]; exact hi), List.getElem?_eq_getElem (by rw [dataL_len]; exact hi), dataL_get]
  rfl
theorem rows_len_at {d : List Int} {n i : Nat} (h3 : 3 ≤ n) (hi : i < n) : ((rowsL d n).getD i []).length = longN i d.length n := by
  have hl : i < (rowsL d n).length := by rw [rowsL_len h3]; exact hi
  rw [List.getD_eq_getElem?_getD, List.getElem?_eq_getElem hl, Option.getD_some, rowsL_at h3]
theorem small_of {d : List Int} {n i : Nat} (h3 : 3 ≤ n) (h16 : n ≤ 16) (hi : i < n) (hl : d.length ≤ 400 * (n - 1)) : SmallF (i : Int) (d.length : Int) (n : Int) := ⟨by omega, by omega, by omega, by omega, by omega, by omega⟩
theorem frag_read {s : Spe} {d : List Int} {n i : Nat} (hs : mayE s = true) (h3 : 3 ≤ n) (h16 : n ≤ 16) (hi : i < n) (hl : d.length ≤ 400 * (n - 1)) :
    readL ((fragsL s d n).getD i []) = (⟨s, i, n, d.length⟩, (rowsL d n).getD i [], 0) := by
  rw [frag_get hi, readL_head (fitH_of hs (small_of h3 h16 hi hl)), if_pos]
  unfold fitsH mayH
  rw [Bool.and_eq_true, Bool.and_eq_true, Bool.and_eq_true, decide_eq_true_eq, rows_len_at h3 hi]
  simp only
  refine ⟨⟨⟨hs, mayHv_is.2 ⟨⟨by omega, by omega⟩, by omega, by omega⟩⟩, btw_is.2 ⟨by omega, by omega⟩⟩, ?_⟩
  rw [longI_is h3 h16]
  omega
theorem frag_len {s : Spe} {d : List Int} {n i : Nat} (h3 : 3 ≤ n) (hi : i < n) (hl : d.length ≤ 400 * (n - 1)) : ((fragsL s d n).getD i []).length ≤ 412 := by
  rw [frag_get hi, List.length_append, headB13_len, rows_len_at h3 hi]
  have := longN_le i d.length n
  have := eN_most hl
  omega
theorem frag_ne {s : Spe} {d : List Int} {n i : Nat} (hi : i < n) : (fragsL s d n).getD i [] ≠ [] := by
  intro h
  have := congrArg List.length h
  rw [frag_get hi, List.length_append, headB13_len] at this
  simp at this
theorem cut_ok {s : Spe} {d : List Int} {n : Nat} (hs : mayE s = true) (h3 : 3 ≤ n) (h16 : n ≤ 16) (hl : d.length ≤ 400 * (n - 1)) : cutL s d n = (fragsL s d n, 0) := by
  unfold cutL
  rw [if_pos ⟨maySv_is.2 ⟨by omega, by omega⟩, hs⟩, if_neg (by omega)]
  rfl

/-- The bytes of the fragments from the one to before the other. -/
def gotL (d : List Int) (n f i : Nat) : List Int := (d.take (fromN i d.length n)).drop (fromN f d.length n)
theorem fromN_succ (i z n : Nat) : fromN (i + 1) z n = fromN i z n + lenN i z n := by
  unfold fromN lenN
  rw [Nat.succ_mul]
  generalize i * eN z n = a
  omega
theorem fromN_mono {f i : Nat} (z n : Nat) (h : f ≤ i) : fromN f z n ≤ fromN i z n := by
  unfold fromN
  have := Nat.mul_le_mul_right (eN z n) h
  omega
theorem fromN_le (i z n : Nat) : fromN i z n ≤ z := Nat.min_le_right _ _
theorem got_self (d : List Int) (n f : Nat) : gotL d n f f = [] := by
  unfold gotL
  rw [List.drop_eq_nil_iff, List.length_take]
  omega
theorem got_step {d : List Int} {n f i : Nat} (h : f ≤ i) : gotL d n f i ++ partL d i n = gotL d n f (i + 1) := by
  unfold gotL partL
  rw [fromN_succ, List.take_add, List.drop_append_of_le_length]
  rw [List.length_take]
  have := fromN_mono d.length n h
  have := fromN_le i d.length n
  omega
theorem got_len (d : List Int) (n f i : Nat) : (gotL d n f i).length = fromN i d.length n - fromN f d.length n := by
  unfold gotL
  rw [List.length_drop, List.length_take]
  have := fromN_le i d.length n
  omega
theorem got_byte {d : List Int} (h : ∀ z ∈ d, 0 ≤ z ∧ z ≤ 255) (n f i : Nat) : ∀ z ∈ gotL d n f i, 0 ≤ z ∧ z ≤ 255 :=
  fun z hz => h z (List.mem_of_mem_take (List.mem_of_mem_drop hz))
/-- What holds of a span. -/
structure SpanOk (d : List Int) (n a c f l e : Nat) : Prop where
  each : eachI (d.length : Int) n = e
  span : spanL a c d.length n = ((f : Int), (l : Int), 0)
  fl : f ≤ l
  ln : l < n - 1
  fe : f * e ≤ a
  ae : a - f * e < e
  cl : a - f * e + c ≤ (gotL d n f (l + 1)).length
  same : ((gotL d n f (l + 1)).drop (a - f * e)).take c = (d.drop a).take c
  last : (a + c - 1) / e = l
theorem span_ok {d : List Int} {n a c : Nat} (h3 : 3 ≤ n) (h16 : n ≤ 16) (hl : d.length ≤ 400 * (n - 1)) (ha : a < d.length) (hc : 1 ≤ c) (hac : a + c ≤ d.length) :
    SpanOk d n a c (a / eN d.length n) ((a + c - 1) / eN d.length n) (eN d.length n) := by
  have he : 0 < eN d.length n := eN_pos (by omega)
  have hall := eN_all (z := d.length) h3
  have hE := eN_is (z := d.length) h3 h16
  have hfl : a / eN d.length n ≤ (a + c - 1) / eN d.length n := Nat.div_le_div_right (by omega)
  have d1 := Nat.div_add_mod a (eN d.length n)
  have m1 := Nat.mod_lt a he
  have d2 := Nat.div_add_mod (a + c - 1) (eN d.length n)
  have m2 := Nat.mod_lt (a + c - 1) he
  have hln : (a + c - 1) / eN d.length n < n - 1 := Nat.div_lt_of_lt_mul (by rw [Nat.mul_comm]; omega)
  have hsp : spanL a c d.length n = (((a / eN d.length n : Nat) : Int), (((a + c - 1) / eN d.length n : Nat) : Int), 0) := by
    unfold spanL
    rw [if_neg, hE]
    · have e1 : ((a : Int) + c - 1) = ((a + c - 1 : Nat) : Int) := by omega
      rw [e1, ← Int.natCast_ediv, ← Int.natCast_ediv]
    · rw [mayHv_is.2 ⟨⟨by omega, by omega⟩, by omega, by omega⟩]
      simp
      omega
  have hF : fromN (a / eN d.length n) d.length n = a / eN d.length n * eN d.length n := by
    unfold fromN
    rw [Nat.mul_comm] at d1
    omega
  have hL : a + c ≤ fromN ((a + c - 1) / eN d.length n + 1) d.length n := by
    unfold fromN
    rw [Nat.succ_mul]
    rw [Nat.mul_comm] at d2
    omega
  have hfe : a / eN d.length n * eN d.length n ≤ a := Nat.div_mul_le_self _ _
  have hae : a - a / eN d.length n * eN d.length n < eN d.length n := by
    rw [Nat.mul_comm] at d1
    omega
  have hlen := got_len d n (a / eN d.length n) ((a + c - 1) / eN d.length n + 1)
  rw [hF] at hlen
  refine ⟨hE, hsp, hfl, hln, hfe, hae, by rw [hlen]; omega, ?_, rfl⟩
  unfold gotL
  rw [hF, List.drop_drop, Nat.add_sub_cancel' hfe, List.drop_take, List.take_take, Nat.min_eq_left (by omega)]
end Go.Proofs.Ytmgaddbhmbllgaa
