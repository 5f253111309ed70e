/- Walks of the reference's eye: Num at whatever width, Raw, Bool, End. -/
import Derived.Test.YteeagemlaolhjaaRefE
import Derived.Test.YteeagemlaolhjaaFails
namespace Go.Proofs.Yteeagemlaolhjaa
open Go.RowKit

theorem REyePost.fail {α : Type} {w w2 : World} {B q : Nat} {v : Value} {zs : List Int} {bad : Int} {zero : Value} {ret : α → World → Ending → Prop} (h : REyeAt w2 B q v zs bad) (k : Keeps [q] w w2) :
    REyePost w B q ((none, zs, bad) : Option α × List Int × Int) zero ret (.returned zero) w2 := ⟨⟨v, h⟩, k, rfl⟩

set_option maxHeartbeats 1600000 in
theorem renum_any (w : World) (B q : Nat) (v : Value) (zs : List Int) (bad n : Int) (h : REyeAt w B q v zs bad) :
    Calls Try.prog 53 #[.pointer (some ⟨q, 0, none⟩), .int .i64 n] w (REyePost w B q (after zs bad (rdNum n zs)) (.int .i64 0) retInt) := by
  by_cases hb : bad = 0
  · subst hb
    have H := hid h
    have c0 := h.cell0
    have c1 := h.cell1
    have f1 := h.free1
    obtain ⟨a, cap, rfl, z⟩ := h.row
    clear z
    by_cases hv : 1 ≤ n ∧ n ≤ 7
    · obtain ⟨k, rfl⟩ := Int.eq_ofNat_of_zero_le (show 0 ≤ n by omega)
      by_cases hn : zs.length < k
      · have E1 := hid (show after zs 0 (rdNum k zs) = (none, zs, 2) by
          unfold after rdNum
          rw [if_neg (by omega), if_neg (by simp only [Classical.not_not]; exact hv), if_pos (by rw [Int.toNat_natCast]; exact hn)])
        have d1 : decide ((k : Int) < 1) = false := by simp; omega
        have d2 : decide (7 < (k : Int)) = false := by simp; omega
        have d3 : decide ((zs.length : Int) < k) = true := by simp; omega
        clear h hv
        go_enter Try.func53, Try.ntmps53
        go_wp2_with fail
        go_ret
        rw [E1.out]
        exact REyePost.fail (H.out.setBad 2).1 (H.out.setBad 2).2
      · have e1 : after zs 0 (rdNum k zs) = (some (val (zs.take k)), zs.drop k, 0) := by
          unfold after rdNum
          rw [if_neg (by omega), if_neg (by simp only [Classical.not_not]; exact hv), if_neg (by rw [Int.toNat_natCast]; exact hn)]
          rfl
        rw [e1]
        exact renum_ok w B q _ zs k h (by omega) (by omega) (by omega)
    · have E1 := hid (show after zs 0 (rdNum n zs) = (none, zs, 1) by
        unfold after rdNum
        rw [if_neg (by omega), if_pos hv])
      by_cases a1 : n < 1
      · have d1 : decide (n < 1) = true := by simpa using a1
        clear h hv
        go_enter Try.func53, Try.ntmps53
        go_wp2_with fail
        go_ret
        rw [E1.out]
        exact REyePost.fail (H.out.setBad 1).1 (H.out.setBad 1).2
      · have d1 : decide (n < 1) = false := by simpa using a1
        have d2 : decide (7 < n) = true := by simp; omega
        clear h hv
        go_enter Try.func53, Try.ntmps53
        go_wp2_with fail
        go_ret
        rw [E1.out]
        exact REyePost.fail (H.out.setBad 1).1 (H.out.setBad 1).2
  · have E1 := hid (show after zs bad (rdNum n zs) = (none, zs, bad) by unfold after; rw [if_pos hb])
    have H := hid h
    have c0 := h.cell0
    have c1 := h.cell1
    have b1 : (bad == 0) = false := by simpa using hb
    have b2 : (bad != 0) = true := by simpa using hb
    clear h hb
    go_enter Try.func53, Try.ntmps53
    go_wp2_with fail
    go_ret
    rw [E1.out]
    exact REyePost.fail H.out (Keeps.refl _ _)

/-- Behind a failure Raw puts its row back. -/
theorem REyeAt.putBack {w w1 : World} {B q v zs bad v1 zs1 bad1} (h : REyeAt w B q v zs bad) (k : Keeps [q] w w1) (h1 : REyeAt w1 B q v1 zs1 bad1) :
    REyeAt (w1.setCell ⟨q, 0, none⟩ v) B q v zs bad1 ∧ Keeps [q] w (w1.setCell ⟨q, 0, none⟩ v) := by
  have := h.setRow k (by intro i hi; simp at hi; rw [hi]; exact h.lo) h1 v zs (fun _ hr => hr) (SameBlk.refl _) (fun hz => hz) (Nat.le_refl _)
  exact ⟨this.1, k.trans this.2⟩

end Go.Proofs.Yteeagemlaolhjaa
