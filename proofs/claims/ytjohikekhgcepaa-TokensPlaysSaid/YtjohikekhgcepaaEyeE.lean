/- Walks of the eye: Fail, Left, End, and attempt. -/
import Derived.Test.YtjohikekhgcepaaEyeD
namespace Go.Proofs.Ytjohikekhgcepaa
open Go.RowKit

theorem fail_any (w : World) (B p : Nat) (v : Value) (zs : List Int) (bad : Int) (h : EyeAt w B p v zs bad) :
    Calls Try.prog 86 #[.pointer (some ⟨p, 0, none⟩)] w fun e w' => e = .returned (.int .i64 bad) ∧ w = w' := by
  have c1 := h.cell1
  have c2 := h.cell2
  clear h
  go_enter Try.func86, Try.ntmps86
  go_wp2_with fail
  go_ret
  exact ⟨rfl, rfl⟩

theorem left_any (w : World) (B p : Nat) (v : Value) (zs : List Int) (bad : Int) (h : EyeAt w B p v zs bad) :
    Calls Try.prog 194 #[.pointer (some ⟨p, 0, none⟩)] w fun e w' => e = .returned (.int .i64 zs.length) ∧ w = w' := by
  have c0 := h.cell0
  have hf := h.fits
  obtain ⟨a, cap, rfl, _⟩ := h.row
  clear h
  go_enter Try.func194, Try.ntmps194
  go_wp2_with fail
  go_ret
  exact ⟨rfl, rfl⟩

def endOf (zs : List Int) (bad : Int) : Int := if bad = 0 then (if zs.length = 0 then 0 else 3) else bad

set_option maxHeartbeats 400000 in
theorem end_any (w : World) (B p : Nat) (v : Value) (zs : List Int) (bad : Int) (h : EyeAt w B p v zs bad) :
    Calls Try.prog 154 #[.pointer (some ⟨p, 0, none⟩)] w fun e w' => e = .returned (.int .i64 (endOf zs bad)) ∧ w = w' := by
  have H := hid h
  clear h
  by_cases hb : bad = 0
  · subst hb
    by_cases hz : zs.length = 0
    · have e1 : endOf zs 0 = 0 := by simp [endOf, hz]
      have E1 := hid e1
      have hz' : ¬ (0 : Int) < zs.length := by omega
      clear e1 hz
      go_enter Try.func154, Try.ntmps154
      go_wp2_with fail
      refine (fail_any _ B p v zs 0 H.out).mono ?_
      rintro e w1 ⟨rfl, rfl⟩
      go_wp2_with fail
      refine (left_any _ B p v zs 0 H.out).mono ?_
      rintro e w1 ⟨rfl, rfl⟩
      go_wp2_with fail
      go_ret
      exact ⟨by rw [E1.out]; rfl, rfl⟩
    · have e1 : endOf zs 0 = 3 := by simp only [endOf, if_true, if_neg hz]
      have E1 := hid e1
      have hz' : (0 : Int) < zs.length := by omega
      clear e1 hz
      go_enter Try.func154, Try.ntmps154
      go_wp2_with fail
      refine (fail_any _ B p v zs 0 H.out).mono ?_
      rintro e w1 ⟨rfl, rfl⟩
      go_wp2_with fail
      refine (left_any _ B p v zs 0 H.out).mono ?_
      rintro e w1 ⟨rfl, rfl⟩
      go_wp2_with fail
      go_ret
      exact ⟨by rw [E1.out]; rfl, rfl⟩
  · have e1 : endOf zs bad = bad := by rw [endOf, if_neg hb]
    have E1 := hid e1
    have hb1 : (bad == 0) = false := by simpa using hb
    clear e1 hb
    go_enter Try.func154, Try.ntmps154
    go_wp2_with fail
    refine (fail_any _ B p v zs bad H.out).mono ?_
    rintro e w1 ⟨rfl, rfl⟩
    go_wp2_with fail
    go_ret
    exact ⟨by rw [E1.out]; rfl, rfl⟩
end Go.Proofs.Ytjohikekhgcepaa
