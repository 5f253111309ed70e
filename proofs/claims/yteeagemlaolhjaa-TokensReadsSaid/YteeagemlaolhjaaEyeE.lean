/- Walks of the eye: Fail, Left, End, and attempt. -/
import Derived.Test.YteeagemlaolhjaaEyeD
namespace Go.Proofs.Yteeagemlaolhjaa
open Go.RowKit

theorem fail_any (w : World) (B p : Nat) (v : Value) (zs : List Int) (bad : Int) (h : EyeAt w B p v zs bad) :
    Calls Try.prog 50 #[.pointer (some ⟨p, 0, none⟩)] w fun e w' => e = .returned (.int .i64 bad) ∧ w = w' := by
  have c1 := h.cell1
  have c2 := h.cell2
  clear h
  go_enter Try.func50, Try.ntmps50
  go_wp2_with fail
  go_ret
  exact ⟨rfl, rfl⟩

theorem left_any (w : World) (B p : Nat) (v : Value) (zs : List Int) (bad : Int) (h : EyeAt w B p v zs bad) :
    Calls Try.prog 30 #[.pointer (some ⟨p, 0, none⟩)] w fun e w' => e = .returned (.int .i64 zs.length) ∧ w = w' := by
  have c0 := h.cell0
  have hf := h.fits
  obtain ⟨a, cap, rfl, _⟩ := h.row
  clear h
  go_enter Try.func30, Try.ntmps30
  go_wp2_with fail
  go_ret
  exact ⟨rfl, rfl⟩

def endOf (zs : List Int) (bad : Int) : Int := if bad = 0 then (if zs.length = 0 then 0 else 3) else bad

end Go.Proofs.Yteeagemlaolhjaa
