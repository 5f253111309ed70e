/- Walks of the eye: the closures that attempt is handed. -/
import Derived.Test.YtjohikekhgcepaaEyeC
import Derived.Laws.BytesArg
namespace Go.Proofs.Ytjohikekhgcepaa
open Go.RowKit

theorem conv_row {w : World} {v : Value} {zs : List Int} (h : RowAt w v zs) : (convert 28 9 v).run Try.prog w = .ok (.string (strOfNums zs)) w := by
  by_cases hne : 0 < zs.length
  · obtain ⟨g, off, cap, rfl, h1, h2⟩ := h.open hne
    exact run_convert_bytes_arg w 28 5 Try.underlying28 Try.underlying5 g off zs.length cap zs rfl h2 9 Try.underlying9
  · obtain rfl : zs = [] := List.eq_nil_of_length_eq_zero (by omega)
    obtain ⟨a, cap, rfl, _⟩ := h
    rw [run_convert_bytes_string w 28 9 5 a _ cap Try.underlying28 Try.underlying5 Try.underlying9]
    cases a <;> simp [Conv.bytesToString, loadCells, strOfNums]
    all_goals rfl

set_option maxHeartbeats 400000 in
theorem numC_any (w : World) (B p be bn : Nat) (v : Value) (zs : List Int) (bad n : Int) (h : EyeAt w B p v zs bad)
    (he : w.cell? ⟨be, 0, none⟩ = some (.pointer (some ⟨p, 0, none⟩))) (hn : w.cell? ⟨bn, 0, none⟩ = some (.int .i64 n)) :
    Calls Try.prog 140 #[.pointer (some ⟨be, 0, none⟩), .pointer (some ⟨bn, 0, none⟩)] w (ReadPost w B p v bad (rdNum n zs) retInt) := by
  have H := hid h
  clear h
  go_enter Try.func140, Try.ntmps140
  go_wp2_with fail
  refine (number_read _ B p v zs bad n H.out).mono ?_
  rintro e w1 ⟨q1, q2⟩
  have Q1 := hid q1
  clear q1
  generalize hr : rdNum n zs = r at q2
  have HR := hid hr
  clear hr
  cases r with
  | error why =>
    obtain ⟨rfl, q3⟩ := q2
    have Q3 := hid q3
    clear q3
    unfold gaveUp
    go_wp2_with fail
    exact ⟨rfl, Q1.out, ⟨rfl, Q3.out⟩⟩
  | ok x =>
    obtain ⟨x, rest⟩ := x
    obtain ⟨rfl, q3⟩ := q2
    have Q3 := hid q3
    clear q3
    go_wp2_with fail
    go_ret
    exact ⟨Q1.out, by rw [HR.out]; exact ⟨rfl, Q3.out⟩⟩

set_option maxHeartbeats 400000 in
theorem textC_any (w : World) (B p be bn : Nat) (v : Value) (zs : List Int) (bad n : Int) (h : EyeAt w B p v zs bad)
    (he : w.cell? ⟨be, 0, none⟩ = some (.pointer (some ⟨p, 0, none⟩))) (hn : w.cell? ⟨bn, 0, none⟩ = some (.int .i64 n)) :
    Calls Try.prog 199 #[.pointer (some ⟨be, 0, none⟩), .pointer (some ⟨bn, 0, none⟩)] w (ReadPost w B p v bad (rdCount n zs) retStr) := by
  have H := hid h
  clear h
  go_enter Try.func199, Try.ntmps199
  go_wp2_with fail
  refine (counted_any _ B p v zs bad n H.out).mono ?_
  rintro e w1 ⟨q1, q2⟩
  have Q1 := hid q1
  clear q1
  generalize hr : rdCount n zs = r at q2
  have HR := hid hr
  clear hr
  cases r with
  | error why =>
    obtain ⟨rfl, q3⟩ := q2
    have Q3 := hid q3
    clear q3
    unfold gaveUp
    go_wp2_with fail
    exact ⟨rfl, Q1.out, ⟨rfl, Q3.out⟩⟩
  | ok x =>
    obtain ⟨x, rest⟩ := x
    obtain ⟨⟨a, c, rfl, q4, q5⟩, q3⟩ := q2
    have Q3 := hid q3
    have cv := conv_row q4
    clear q3 q4 q5
    go_wp2_with fail
    go_ret
    exact ⟨Q1.out, by rw [HR.out]; exact ⟨rfl, Q3.out⟩⟩

theorem rdCount_le {most : Int} {zs x rest : List Int} (h : rdCount most zs = .ok (x, rest)) : x.length ≤ zs.length ∧ rest.length ≤ zs.length := by
  unfold rdCount at h
  repeat (split at h; · cases h)
  injection h with h
  injection h with h1 h2
  subst h1; subst h2
  simp only [List.length_take, List.length_drop]
  omega

set_option maxHeartbeats 400000 in
theorem rawC_any (w : World) (B p be bn : Nat) (v : Value) (zs : List Int) (bad n : Int) (h : EyeAt w B p v zs bad)
    (he : w.cell? ⟨be, 0, none⟩ = some (.pointer (some ⟨p, 0, none⟩))) (hn : w.cell? ⟨bn, 0, none⟩ = some (.int .i64 n)) :
    Calls Try.prog 192 #[.pointer (some ⟨be, 0, none⟩), .pointer (some ⟨bn, 0, none⟩)] w (ReadPost w B p v bad (rdCount n zs) (retNew w)) := by
  have H := hid h
  clear h
  go_enter Try.func192, Try.ntmps192
  go_wp2_with fail
  refine (counted_any _ B p v zs bad n H.out).mono ?_
  rintro e w1 ⟨q1, q2⟩
  have Q1 := hid q1
  clear q1
  generalize hr : rdCount n zs = r at q2
  have HR := hid hr
  clear hr
  cases r with
  | error why =>
    obtain ⟨rfl, q3⟩ := q2
    have Q3 := hid q3
    clear q3
    unfold gaveUp
    go_wp2_with fail
    exact ⟨rfl, Q1.out, ⟨rfl, Q3.out⟩⟩
  | ok x =>
    obtain ⟨x, rest⟩ := x
    obtain ⟨⟨a, c, rfl, q4, q5⟩, v2, q6, q7⟩ := q2
    have Q4 := hid q4
    have Q6 := hid q6
    have Q7 := hid q7
    clear q4 q5 q6 q7
    go_wp2_with fail
    refine (clone_any _ _ x Q4.out (by have := (rdCount_le HR.out).1; have := H.out.fits; omega)).mono ?_
    rintro e w2 ⟨a2, c2, rfl, g1, g2, g3⟩
    have G1 := hid g1
    have G2 := hid g2
    have G3 := hid g3
    clear g1 g2 g3
    go_wp2_with fail
    go_ret
    refine ⟨Q1.out.trans (G3.out.mono (by simp)), ?_⟩
    rw [HR.out]
    refine ⟨⟨a2, c2, rfl, G1.out, fun ad had => ?_⟩, v2, Q6.out.keep G3.out (by simp) (by intro _ _ _ _ _; simp), Q7.out⟩
    have := G2.out ad had
    have := Q1.out.size
    omega
end Go.Proofs.Ytjohikekhgcepaa
