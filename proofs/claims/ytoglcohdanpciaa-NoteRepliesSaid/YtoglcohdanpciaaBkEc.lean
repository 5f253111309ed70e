/- blocks: refusal; what a map's readers answer, plainly. -/
import Derived.Test.YtoglcohdanpciaaBkEb
namespace Go.Proofs.Ytoglcohdanpciaa
open Go.RowKit Go.Shelf
set_option maxRecDepth 100000
set_option linter.unusedSimpArgs false

def refW (bad : Int) (ok : Bool) : Int := if bad ≠ 0 then bad else if ok = true then 0 else 4
/-- What the reference's eye knows when a form is found wrong. -/
def formW (st : PSt) (b : Bool) : PSt := if b = true ∧ st.2 = 0 then (st.1, 4) else st
set_option maxHeartbeats 1600000 in
theorem rFall_any {w : World} {B p : Nat} {st : PSt} (h : REyL w B p st) (y : Int) :
    Calls Try.prog 96 #[.pointer (some ⟨p, 0, none⟩), .int .i64 y] w fun e w' => e = .returned (.tuple #[]) ∧ REyL w' B p (if st.2 = 0 then (st.1, y) else st) ∧ Keeps [p] w w' := by
  have H := hid h
  obtain ⟨c1, f1⟩ := h.cells
  clear h
  by_cases hz : st.2 = 0
  · have HZ := hid hz
    have hzb : (st.2 == 0) = true := by simpa using hz
    clear hz
    go_enter Try.func96, Try.ntmps96
    go_wp2_with fail
    go_end0
    obtain ⟨v2, he⟩ := H.out
    obtain ⟨e1, e2⟩ := he.setBad y
    exact ⟨rfl, ⟨v2, e1⟩, e2⟩
  · have HZ := hid hz
    have hzb : (st.2 == 0) = false := by simpa using hz
    clear hz
    go_enter Try.func96, Try.ntmps96
    go_wp2_with fail
    go_end0
    exact ⟨rfl, H.out, Keeps.refl _ _⟩
set_option maxHeartbeats 1600000 in
theorem rForm_any {w : World} {B p : Nat} {st : PSt} (h : REyL w B p st) (b : Bool) :
    Calls Try.prog 93 #[.pointer (some ⟨p, 0, none⟩), .bool b] w fun e w' => e = .returned (.tuple #[]) ∧ REyL w' B p (formW st b) ∧ Keeps [p] w w' := by
  have H := hid h
  clear h
  cases b with
  | true =>
    go_enter Try.func93, Try.ntmps93
    go_wp2_with fail
    refine (rFall_any H.out 4).mono ?_
    rintro e w2 ⟨rfl, h2, k2⟩
    have H2 := hid h2
    have K2 := hid k2
    clear h2 k2
    go_wp2_with fail
    go_end0
    refine ⟨rfl, ?_, K2.out⟩
    have := H2.out
    unfold formW
    by_cases hz : st.2 = 0
    · rw [if_pos hz] at this
      rw [if_pos ⟨rfl, hz⟩]
      exact this
    · rw [if_neg hz] at this
      rw [if_neg (fun h => hz h.2)]
      exact this
  | false =>
    go_enter Try.func93, Try.ntmps93
    go_wp2_with fail
    go_end0
    exact ⟨rfl, by unfold formW; rw [if_neg (by simp)]; exact H.out, Keeps.refl _ _⟩

/-- The pointers that were read, or why there is no reading on; and what is left. -/
def rdS (o : Except Int (List Pt) × PSt) : Except Int (List Pt) × PSt :=
  match o.1 with
  | .error _ => o
  | .ok l => if (getP o.2).2.2 ≠ 0 then (.error (getP o.2).2.2, (getP o.2).2) else if mayP (getP o.2).1 = true then (.ok (l ++ [(getP o.2).1]), (getP o.2).2) else (.error 4, (getP o.2).2)
def rdI (st : PSt) : Nat → Except Int (List Pt) × PSt
  | 0 => (.ok [], st)
  | k + 1 => rdS (rdI st k)
theorem rdI_err {st : PSt} {k : Nat} {y : Int} (h : (rdI st k).1 = .error y) : ∀ n, rdI st (k + n) = rdI st k
  | 0 => rfl
  | n + 1 => by
    show rdS (rdI st (k + n)) = _
    rw [rdI_err h n]
    unfold rdS
    rw [h]
theorem rdI_len {st : PSt} : ∀ {k : Nat} {l : List Pt}, (rdI st k).1 = .ok l → l.length = k ∧ ∀ x ∈ l, mayP x = true := by
  intro k
  induction k with
  | zero => intro l h; injection h with h; subst h; exact ⟨rfl, by simp⟩
  | succ k ih =>
    intro l h
    unfold rdI rdS at h
    cases hk : (rdI st k).1 with
    | error y => rw [hk] at h; simp only at h; rw [hk] at h; cases h
    | ok l0 =>
      rw [hk] at h
      simp only at h
      split at h
      · cases h
      · split at h
        · rename_i hm
          injection h with h
          subst h
          obtain ⟨h1, h2⟩ := ih hk
          exact ⟨by simp [h1], fun x hx => by
            rcases List.mem_append.1 hx with hx | hx
            · exact h2 x hx
            · simp at hx; rw [hx]; exact hm⟩
        · cases h
/-- What Read answers: a map, or why there is none; and what is left. -/
def readM (st : PSt) : Except Int Bk × PSt :=
  if (numE 2 st).2.2 ≠ 0 then (.error (numE 2 st).2.2, (numE 2 st).2)
  else if (numE 2 st).1 ≤ 4096 then (match (rdI (numE 2 st).2 (cnt (numE 2 st).1)).1 with
    | .error y => (.error y, (rdI (numE 2 st).2 (cnt (numE 2 st).1)).2)
    | .ok l => (.ok ⟨(numE 2 st).1, l⟩, (rdI (numE 2 st).2 (cnt (numE 2 st).1)).2))
  else (.error 4, (numE 2 st).2)
end Go.Proofs.Ytoglcohdanpciaa
