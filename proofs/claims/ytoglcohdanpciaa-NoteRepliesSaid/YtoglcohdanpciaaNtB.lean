/- note: what gives up; isDo, mayNot; the things are written. -/
import Derived.Test.YtoglcohdanpciaaNtA
import Derived.Test.YtoglcohdanpciaaJR
namespace Go.Proofs.Ytoglcohdanpciaa
open Go.RowKit Go.Shelf
set_option maxRecDepth 100000
set_option linter.unusedSimpArgs false
set_option linter.unusedVariables false

/-- What pass leaves: nothing, or it gave up. -/
def PassPost (w : World) (y : Int) (e : Ending) (w' : World) : Prop := w = w' ∧ ((y = 0 ∧ e = .returned (.tuple #[])) ∨ (y ≠ 0 ∧ e = gaveUp y))
set_option maxHeartbeats 1600000 in
theorem ntPass_any (w : World) (y : Int) : Calls Try.prog 134 #[.int .i64 y] w (PassPost w y) := by
  by_cases h : y = 0
  · subst h
    go_enter Try.func134, Try.ntmps134
    go_wp2_with fail
    go_end0
    exact ⟨rfl, Or.inl ⟨rfl, rfl⟩⟩
  · have H := hid h
    have hb : (y != 0) = true := by simpa using h
    clear h
    go_enter Try.func134, Try.ntmps134
    go_wp2_with fail
    exact ⟨rfl, rfl, Or.inr ⟨H.out, rfl⟩⟩
/-- What must leaves. -/
def mustY (b : Bool) (y : Int) : Int := if b then 0 else y
set_option maxHeartbeats 1600000 in
theorem ntMust_any (w : World) (b : Bool) (y : Int) : Calls Try.prog 123 #[.bool b, .int .i64 y] w (PassPost w (mustY b y)) := by
  cases b with
  | true =>
    go_enter Try.func123, Try.ntmps123
    go_wp2_with fail
    go_end0
    exact ⟨rfl, Or.inl ⟨rfl, rfl⟩⟩
  | false =>
    go_enter Try.func123, Try.ntmps123
    go_wp2_with fail
    refine (ntPass_any w y).mono ?_
    rintro e _ ⟨rfl, ⟨h, rfl⟩ | ⟨h, rfl⟩⟩
    · have H := hid h
      clear h
      go_wp2_with fail
      go_end0
      exact ⟨rfl, Or.inl ⟨H.out, rfl⟩⟩
    · have H := hid h
      clear h
      unfold gaveUp
      go_wp2_with fail
      exact ⟨rfl, rfl, Or.inr ⟨H.out, rfl⟩⟩
theorem ntIsDo_any (w : World) (x : Int) : Calls Try.prog 136 #[.int .i64 x] w fun e w' => e = .returned (.bool (okDo x)) ∧ w = w' := by
  by_cases h1 : 1 ≤ x
  · by_cases h2 : x ≤ 11
    · have e : Hid (okDo x = true) := hid (by unfold okDo; simp [h1, h2])
      have d1 : decide (1 ≤ x) = true := by simpa using h1
      have d2 : decide (x ≤ 11) = true := by simpa using h2
      clear h1 h2
      go_enter Try.func136, Try.ntmps136
      go_wp2_with fail
      go_ret
      exact ⟨by rw [e.out] <;> rfl, rfl⟩
    · have e : Hid (okDo x = false) := hid (by unfold okDo; simp [h2])
      have d1 : decide (1 ≤ x) = true := by simpa using h1
      have d2 : decide (x ≤ 11) = false := by simpa using h2
      clear h1 h2
      go_enter Try.func136, Try.ntmps136
      go_wp2_with fail
      go_ret
      exact ⟨by rw [e.out] <;> rfl, rfl⟩
  · have e : Hid (okDo x = false) := hid (by unfold okDo; simp [h1])
    have d1 : decide (1 ≤ x) = false := by simpa using h1
    clear h1
    go_enter Try.func136, Try.ntmps136
    go_wp2_with fail
    go_ret
    exact ⟨by rw [e.out] <;> rfl, rfl⟩
set_option maxHeartbeats 3200000 in
theorem ntMayNot_any (w : World) (x : Dl) : Calls Try.prog 138 #[dlV x] w (MayPost w (!mayL x)) := by
  have ka : Keeps [] w (w.alloc (.cells x.cells.toArray 149)) := (Keeps.refl [] w).alloc _
  have RN := hid (range_new w x.cells 149)
  have KA := hid ka
  clear ka
  go_enter Try.func138, Try.ntmps138
  go_wp2_with (first | (refine wpList_is rfl _ _ (exec_box 149 _ x.cells.toArray rfl rfl) ?_) | (refine wpList_isW rfl _ _ (exec_load _ _ _ _ rfl rfl (loadDl_run _ w.heap.size 0 x RN.out)) ?_) | fail)
  refine (dMay_any _ x).mono ?_
  rintro e w2 ⟨rfl, k2⟩
  have K2 := hid (KA.out.trans k2)
  clear k2
  go_wp2_with fail
  go_ret
  exact retD rfl K2.out
set_option maxHeartbeats 6400000 in
theorem ntIdx_any (w : World) (v : Value) (ds : List Dl) (h : DlsAt w v ds) :
    Calls Try.prog 176 #[v, .func (.func 138) #[] #[]] w fun e w' => (∃ i : Int, e = .returned (.int .i64 i) ∧ decide (0 ≤ i) = badL ds) ∧ Keeps [] w w' := by
  have HF := h.few
  unfold maxLen at HF
  obtain ⟨a, c, rfl⟩ := h.shape
  have HV := hid h
  clear h
  go_enter Try.func176, Try.ntmps176
  go_wp2_with fail
  go_loopw [8] (fun iv wr => ∃ k : Nat, k ≤ ds.length ∧ iv = .int .i64 k ∧ Hid (∀ j (hj : j < ds.length), j < k → mayL ds[j] = true) ∧ Hid (Keeps [] w wr)) (fun iv _ => ds.length - (intOf iv).toNat)
  case atStart => exact ⟨0, by omega, rfl, hid (fun j _ h => absurd h (Nat.not_lt_zero _)), hid (Keeps.refl _ _)⟩
  case round =>
    obtain ⟨k, hk, rfl, HA, K⟩ := hrel
    by_cases hlt : k < ds.length
    · obtain ⟨g, off, rfl, hg, R0⟩ := (HV.out.keep K.out).at k hlt
      obtain ⟨x, hx⟩ : ∃ x, x = ds[k] := ⟨_, rfl⟩
      rw [← hx] at R0
      have R := hid R0
      have HX := hid hx
      clear hg R0 hx
      cases hm : mayL x with
      | true =>
        have HM := hid hm
        clear hm
        go_wp2_with (first | (refine wpList_isW rfl _ _ (exec_load _ _ _ _ rfl rfl (loadDl_run _ g (off + k * 14) x R.out)) ?_) | fail)
        refine (ntMayNot_any _ x).mono ?_
        rintro e w2 ⟨rfl, k2⟩
        rw [HM.out]
        have K2 := hid (K.out.trans k2)
        clear k2
        go_wp2_with fail
        go_roundw
        case rel => exact ⟨k + 1, by omega, by go_num, hid (fun j hj hjk => by
          rcases Nat.lt_or_ge j k with h | h
          · exact HA.out j hj h
          · obtain rfl : j = k := by omega
            rw [← HX.out]; exact HM.out), K2⟩
        case measure => simp [intOf]; omega
      | false =>
        have HM := hid hm
        clear hm
        go_wp2_with (first | (refine wpList_isW rfl _ _ (exec_load _ _ _ _ rfl rfl (loadDl_run _ g (off + k * 14) x R.out)) ?_) | fail)
        refine (ntMayNot_any _ x).mono ?_
        rintro e w2 ⟨rfl, k2⟩
        rw [HM.out]
        have K2 := hid (K.out.trans k2)
        clear k2
        go_wp2_with fail
        go_ret
        exact ⟨⟨_, rfl, by rw [badL_at hlt (by rw [← HX.out]; exact HM.out)]; simp⟩, K2.out⟩
    · obtain rfl : k = ds.length := by omega
      go_wp2_with fail
      go_ret
      exact ⟨⟨_, rfl, by rw [badL_no (fun j hj => HA.out j hj hj)]; rfl⟩, K.out⟩
set_option maxHeartbeats 3200000 in
theorem ntAny_any (w : World) (v : Value) (ds : List Dl) (h : DlsAt w v ds) :
    Calls Try.prog 137 #[v, .func (.func 138) #[] #[]] w (MayPost w (badL ds)) := by
  have HV := hid h
  clear h
  go_enter Try.func137, Try.ntmps137
  go_wp2_with fail
  refine (ntIdx_any w v ds HV.out).mono ?_
  rintro e w2 ⟨⟨i, rfl, hi⟩, k2⟩
  have K2 := hid k2
  have HI := hid hi
  clear hi k2
  by_cases hz : 0 ≤ i
  · have HZ := hid hz
    go_wp2_with fail
    go_ret
    exact retD (by rw [← HI.out] <;> simp [HZ.out]) K2.out
  · have HZ := hid hz
    go_wp2_with fail
    go_ret
    exact retD (by rw [← HI.out] <;> simp [HZ.out]) K2.out
set_option maxHeartbeats 1600000 in
/-- Given, of a slice: it, or it gave up. -/
theorem gvB_any (w : World) (a : Option Addr) (n c : Nat) (y : Int) : Calls Try.prog 168 #[.slice a n c, .int .i64 y] w fun e w' => w = w' ∧ ((y = 0 ∧ e = .returned (.slice a n c)) ∨ (y ≠ 0 ∧ e = gaveUp y)) := by
  go_enter Try.func168, Try.ntmps168
  go_wp2_with fail
  refine (ntPass_any w y).mono ?_
  rintro e _ ⟨rfl, ⟨h, rfl⟩ | ⟨h, rfl⟩⟩
  · have H := hid h
    clear h
    go_wp2_with fail
    go_ret
    exact ⟨rfl, Or.inl ⟨H.out, rfl⟩⟩
  · have H := hid h
    clear h
    unfold gaveUp
    go_wp2_with fail
    exact ⟨rfl, rfl, Or.inr ⟨H.out, rfl⟩⟩
end Go.Proofs.Ytoglcohdanpciaa
