/- Walks of the eye: counted, truth, and the three closures that attempt is handed. -/
import Derived.Test.YteeagemlaolhjaaCatch
namespace Go.Proofs.Yteeagemlaolhjaa
open Go.RowKit

def rdNum (n : Int) (zs : List Int) : Except Int (Int × List Int) :=
  if ¬ (1 ≤ n ∧ n ≤ 7) then .error 1 else if zs.length < n.toNat then .error 2 else .ok (val (zs.take n.toNat), zs.drop n.toNat)
def rdCount (most : Int) (zs : List Int) : Except Int (List Int × List Int) :=
  if most < 0 then .error 1 else if zs.length < 2 then .error 2 else if most < val (zs.take 2) then .error 3
  else if (zs.drop 2).length < (val (zs.take 2)).toNat then .error 2 else .ok ((zs.drop 2).take (val (zs.take 2)).toNat, (zs.drop 2).drop (val (zs.take 2)).toNat)
def rdBool (zs : List Int) : Except Int (Bool × List Int) :=
  if zs.length < 1 then .error 2 else if 1 < val (zs.take 1) then .error 4 else .ok (val (zs.take 1) == 1, zs.drop 1)

/-- What a reader leaves: it gave up, or it read something, and the rest is still to be read. -/
def ReadPost {α : Type} (w : World) (B p : Nat) (v : Value) (bad : Int) (r : Except Int (α × List Int)) (ret : α → World → Ending → Prop) (e : Ending) (w' : World) : Prop :=
  Keeps [p] w w' ∧ match r with
    | .error why => e = gaveUp why ∧ ∃ v2 zs2, EyeAt w' B p v2 zs2 bad
    | .ok (x, rest) => ret x w' e ∧ ∃ v2, EyeAt w' B p v2 rest bad ∧ SameBlk v v2

def retInt (x : Int) (_ : World) (e : Ending) : Prop := e = .returned (.int .i64 x)
def retBool (x : Bool) (_ : World) (e : Ending) : Prop := e = .returned (.bool x)
def retStr (x : List Int) (_ : World) (e : Ending) : Prop := e = .returned (.string (strOfNums x))
def retOld (v : Value) (x : List Int) (w' : World) (e : Ending) : Prop := ∃ a c, e = .returned (.slice a x.length c) ∧ RowAt w' (.slice a x.length c) x ∧ SameBlk v (.slice a x.length c)
def retNew (w : World) (x : List Int) (w' : World) (e : Ending) : Prop := ∃ a c, e = .returned (.slice a x.length c) ∧ RowAt w' (.slice a x.length c) x ∧ ∀ ad, a = some ad → w.heap.size ≤ ad.block

theorem number_read (w : World) (B p : Nat) (v : Value) (zs : List Int) (bad n : Int) (h : EyeAt w B p v zs bad) :
    Calls Try.prog 65 #[.pointer (some ⟨p, 0, none⟩), .int .i64 n] w (ReadPost w B p v bad (rdNum n zs) retInt) := by
  refine (number_any w B p v zs bad n h).mono ?_
  rintro e w' (⟨q1, rfl, rfl⟩ | ⟨q1, q2, q3, rfl, rfl⟩ | ⟨q1, q2, q3, v2, rfl, q4, q5, q6⟩)
  · refine ⟨Keeps.refl _ _, ?_⟩
    rw [rdNum, if_pos q1]
    exact ⟨rfl, v, zs, h⟩
  · refine ⟨Keeps.refl _ _, ?_⟩
    rw [rdNum, if_neg (by simp only [Classical.not_not]; exact ⟨q1, q2⟩), if_pos q3]
    exact ⟨rfl, v, zs, h⟩
  · refine ⟨q6, ?_⟩
    rw [rdNum, if_neg (by simp only [Classical.not_not]; exact ⟨q1, q2⟩), if_neg (by omega)]
    exact ⟨rfl, v2, q4, q5⟩

set_option maxHeartbeats 400000 in
theorem truth_any (w : World) (B p : Nat) (v : Value) (zs : List Int) (bad : Int) (h : EyeAt w B p v zs bad) :
    Calls Try.prog 74 #[.pointer (some ⟨p, 0, none⟩)] w (ReadPost w B p v bad (rdBool zs) retBool) := by
  have H := hid h
  clear h
  go_enter Try.func74, Try.ntmps74
  go_wp2_with fail
  refine (number_any _ B p v zs bad 1 H.out).mono ?_
  rintro e w1 (⟨q1, rfl, rfl⟩ | ⟨q1, q2, q3, rfl, rfl⟩ | ⟨q1, q2, q3, v2, rfl, q4, q5, q6⟩)
  · exact absurd ⟨by omega, by omega⟩ q1
  · have e1 : rdBool zs = .error 2 := by rw [rdBool, if_pos (by simpa using q3)]
    have E1 := hid e1
    clear e1 q3
    unfold gaveUp
    go_wp2_with fail
    exact ⟨rfl, Keeps.refl _ _, by rw [E1.out]; exact ⟨rfl, v, zs, H.out⟩⟩
  · have Q4 := hid q4
    have Q5 := hid q5
    have Q6 := hid q6
    have q3' : 1 ≤ zs.length := by simpa using q3
    clear q1 q2 q4 q5 q6 q3
    have e2 : (1 : Int).toNat = 1 := rfl
    rw [e2]
    obtain ⟨n, hn⟩ : ∃ n, n = val (zs.take 1) := ⟨_, rfl⟩
    have HN := hid hn
    rw [← hn]
    clear hn e2
    by_cases hlt : 1 < n
    · have e1 : rdBool zs = .error 4 := by rw [rdBool, if_neg (by omega), if_pos (by rw [← HN.out]; exact hlt)]
      have E1 := hid e1
      clear e1
      go_wp2_with fail
      exact ⟨rfl, Q6.out, by rw [E1.out]; exact ⟨rfl, v2, _, Q4.out⟩⟩
    · have e1 : rdBool zs = .ok (n == 1, zs.drop 1) := by rw [rdBool, if_neg (by omega), if_neg (by rw [← HN.out]; omega), ← HN.out]
      have E1 := hid e1
      clear e1
      go_wp2_with fail
      go_ret
      refine ⟨Q6.out, ?_⟩
      rw [E1.out]
      exact ⟨rfl, v2, Q4.out, Q5.out⟩
end Go.Proofs.Yteeagemlaolhjaa
