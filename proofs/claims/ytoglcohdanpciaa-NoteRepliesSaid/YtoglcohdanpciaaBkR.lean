/- blocks: the code's Write, and the laws' Bytes. -/
import Derived.Test.YtoglcohdanpciaaBkQ
namespace Go.Proofs.Ytoglcohdanpciaa
open Go.RowKit Go.Shelf
set_option maxRecDepth 100000
set_option linter.unusedSimpArgs false

def bytesB (s : Bk) : List Int := if (wrB s ([], 0)).2 = 0 then (wrB s ([], 0)).1 else []
theorem penAdd_len {t : List Int} {s : PSt} (h : s.1.length ≤ 65536) : (penAdd t s).1.length ≤ 65536 := by
  unfold penAdd
  split
  · exact h
  · split
    · simp
    · simp only [List.length_append]; omega
theorem penNum_len {x n : Int} {s : PSt} (h : s.1.length ≤ 65536) : (penNum x n s).1.length ≤ 65536 := by
  unfold penNum
  split
  · exact penAdd_len h
  · unfold penFail
    split
    · simp
    · exact h
theorem putP_len {x : Pt} {s : PSt} (h : s.1.length ≤ 65536) : (putP x s).1.length ≤ 65536 := penNum_len (penNum_len (penNum_len (penNum_len (penNum_len h))))
theorem wrB_len (s : Bk) (t : PSt) (h : t.1.length ≤ 65536) : (wrB s t).1.length ≤ 65536 := by
  have : ∀ (xs : List Pt) (t : PSt), t.1.length ≤ 65536 → (xs.foldl (fun t x => putP x t) t).1.length ≤ 65536 := by
    intro xs
    induction xs with
    | nil => intro t h; exact h
    | cons x xs ih => intro t h; exact ih _ (putP_len h)
  exact this _ _ (penNum_len h)
theorem bytesB_len (s : Bk) : (bytesB s).length ≤ 65536 := by
  unfold bytesB
  split
  · exact wrB_len s ([], 0) (by simp)
  · simp
end Go.Proofs.Ytoglcohdanpciaa
