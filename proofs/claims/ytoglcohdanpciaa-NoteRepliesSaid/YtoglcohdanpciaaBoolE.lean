/- Bools read by both eyes; what an eye holds are bytes. (For every layer.) -/
import Derived.Test.YtoglcohdanpciaaJS
import Derived.Test.YtoglcohdanpciaaRefG
import Derived.Test.YtoglcohdanpciaaNumK
namespace Go.Proofs.Ytoglcohdanpciaa
open Go.RowKit
set_option maxRecDepth 100000
set_option linter.unusedSimpArgs false

/-- What a read of a bool answers, and what is left behind it. -/
def boolE (st : PSt) : Bool × PSt := (((after st.1 st.2 (rdBool st.1)).1).getD false, (after st.1 st.2 (rdBool st.1)).2)
theorem boolE_ne {st : PSt} (h : (boolE st).2.1 ≠ []) : st.1 ≠ [] := by
  intro e
  apply h
  unfold boolE after rdBool
  rw [e]
  by_cases h1 : st.2 ≠ 0
  · rw [if_pos h1]
  · rw [if_neg h1]
    rfl
theorem EyL.bool {w wr : World} {B p : Nat} {v : Value} {st : PSt} (h : EyL w wr B p v st) :
    Calls Try.prog 130 #[.pointer (some ⟨p, 0, none⟩)] wr fun e w' => e = .returned (.bool (boolE st).1) ∧ EyL w w' B p v (boolE st).2 ∧ Keeps [p] wr w' := by
  obtain ⟨v2, he, hs, ho⟩ := h
  exact (eyeBool_any wr B p v2 st.1 st.2 he).mono fun e w' ⟨⟨v3, h3, hs3⟩, k, m⟩ => by
    refine ⟨?_, ⟨v3, h3, hs.trans hs3, ho.same hs3 boolE_ne⟩, k⟩
    unfold boolE
    cases hr : (after st.1 st.2 (rdBool st.1)).1 with
    | none => rw [hr] at m; exact m
    | some x => rw [hr] at m; exact m
theorem REyL.bool {wr : World} {B p : Nat} {st : PSt} (h : REyL wr B p st) :
    Calls Try.prog 95 #[.pointer (some ⟨p, 0, none⟩)] wr fun e w' => e = .returned (.bool (boolE st).1) ∧ REyL w' B p (boolE st).2 ∧ Keeps [p] wr w' := by
  obtain ⟨v2, he⟩ := h
  exact (rebool_any wr B p v2 st.1 st.2 he).mono fun e w' ⟨h1, k, m⟩ => by
    refine ⟨?_, h1, k⟩
    unfold boolE
    cases hr : (after st.1 st.2 (rdBool st.1)).1 with
    | none => rw [hr] at m; exact m
    | some x => rw [hr] at m; exact m
def bitI (b : Bool) : Int := if b then 1 else 0
theorem boolE_be (b : Bool) (r : List Int) : boolE (be (bitI b) 1 ++ r, 0) = (b, (r, 0)) := by
  have e : be (bitI b) 1 = [bitI b] := by cases b <;> rfl
  rw [e]
  unfold boolE after rdBool
  rw [if_neg (by simp)]
  cases b <;> simp [bitI, val]
theorem numE_zero {n : Int} {st : PSt} (h : (numE n st).2.2 ≠ 0) : (numE n st).1 = 0 := by
  unfold numE after at *
  by_cases h1 : st.2 ≠ 0
  · rw [if_pos h1]; rfl
  · rw [if_neg h1] at h ⊢
    cases hq : rdNum n st.1 with
    | error e => rfl
    | ok x => rw [hq] at h; exact absurd rfl h
theorem EyL.bytes {w wr : World} {B p : Nat} {v : Value} {st : PSt} (h : EyL w wr B p v st) : ∀ z ∈ st.1, 0 ≤ z ∧ z ≤ 255 := by
  obtain ⟨v2, he, _⟩ := h
  exact he.row.bytes
theorem REyL.bytes {wr : World} {B p : Nat} {st : PSt} (h : REyL wr B p st) : ∀ z ∈ st.1, 0 ≤ z ∧ z ≤ 255 := by
  obtain ⟨v2, he⟩ := h
  exact he.row.bytes
end Go.Proofs.Ytoglcohdanpciaa
