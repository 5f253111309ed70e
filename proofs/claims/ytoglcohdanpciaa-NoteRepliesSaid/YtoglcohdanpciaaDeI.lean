/- delta: Encode. -/
import Derived.Test.YtoglcohdanpciaaDeB
import Derived.Test.YtoglcohdanpciaaDeD
import Derived.Test.YtoglcohdanpciaaBkR
namespace Go.Proofs.Ytoglcohdanpciaa
open Go.RowKit Go.Shelf
set_option maxRecDepth 100000
set_option linter.unusedSimpArgs false

theorem DlsAt.few {w : World} {v : Value} {ds : List Dl} (h : DlsAt w v ds) : ds.length ≤ maxLen := by
  obtain ⟨a, cap, _, h1, h2, _⟩ := h
  omega
/-- Is there one that may not be? -/
def badL (ds : List Dl) : Bool := ds.any fun x => !mayL x
theorem badL_at {ds : List Dl} {k : Nat} (h : k < ds.length) (hb : mayL ds[k] = false) : badL ds = true := by
  unfold badL
  rw [List.any_eq_true]
  exact ⟨ds[k], List.getElem_mem h, by rw [hb]; rfl⟩
theorem badL_no {ds : List Dl} (h : ∀ j (hj : j < ds.length), mayL ds[j] = true) : badL ds = false := by
  unfold badL
  rw [List.any_eq_false]
  intro x hx
  obtain ⟨j, hj, rfl⟩ := List.getElem_of_mem hx
  rw [h j hj]
  simp
/-- What the pen knows behind so many deltas. -/
def encK (ds : List Dl) (k : Nat) : PSt := (ds.take k).foldl (fun t x => putD x t) (penNum ds.length 2 ([], 0))
theorem encK_snoc {ds : List Dl} {k : Nat} (h : k < ds.length) : encK ds (k + 1) = putD ds[k] (encK ds k) := by
  unfold encK
  rw [List.take_succ_eq_append_getElem h, List.foldl_append]
  rfl
def encS (ds : List Dl) : PSt := encK ds ds.length
/-- What Encode answers. -/
def encL (ds : List Dl) : List Int × Int :=
  if badL ds = true then ([], 1) else if 4000 < ds.length then ([], 3) else (if (encS ds).2 = 0 then (encS ds).1 else [], (encS ds).2)
def EncPost (w : World) (r : List Int × Int) (e : Ending) (w' : World) : Prop :=
  ∃ a c, e = .returned (.tuple #[.slice a r.1.length c, .int .i64 r.2]) ∧ RowAt w' (.slice a r.1.length c) r.1 ∧ (∀ ad, a = some ad → w.heap.size ≤ ad.block) ∧ Keeps [] w w'
theorem PenSince.keepD {w w2 w3 : World} {T p v zs bad} (h : PenSince w w2 T p v zs bad) (k : Keeps [] w2 w3) : PenSince w w3 T p v zs bad :=
  ⟨h.pen.keep k (by simp) (by simp), h.kept.trans k⟩
theorem row_nil (w : World) : RowAt w (.slice none 0 0) [] := ⟨none, 0, rfl, by simp, by simp, fun _ => rfl, by simp, by simp⟩
end Go.Proofs.Ytoglcohdanpciaa
