/- Walks of the reference's eye: Bool. -/
import Derived.Test.YtoglcohdanpciaaJS
namespace Go.Proofs.Ytoglcohdanpciaa
open Go.RowKit

set_option maxHeartbeats 3200000 in
theorem rebool_any (w : World) (B q : Nat) (v : Value) (zs : List Int) (bad : Int) (h : REyeAt w B q v zs bad) :
    Calls Try.prog 95 #[.pointer (some ⟨q, 0, none⟩)] w (REyePost w B q (after zs bad (rdBool zs)) (.bool false) retBool) := by
  have H := hid h
  have c0 := h.cell0
  have c1 := h.cell1
  have f1 := h.free1
  obtain ⟨a, cap, rfl, z⟩ := h.row
  clear z h
  by_cases hb : bad = 0
  · subst hb
    go_enter Try.func95, Try.ntmps95
    go_wp2_with fail
    refine (renum_any _ B q _ zs 0 1 H.out).mono ?_
    intro e w1 hq
    by_cases hsh : zs.length < 1
    · have E1 := hid (show after zs 0 (rdBool zs) = (none, zs, 2) by
        unfold after rdBool
        rw [if_neg (by omega), if_pos hsh])
      rw [show after zs 0 (rdNum 1 zs) = (none, zs, 2) by
        unfold after rdNum
        rw [if_neg (by omega), if_neg (by omega), if_pos (by show zs.length < 1; exact hsh)]] at hq
      obtain ⟨⟨v1, q1⟩, q2, rfl⟩ := hq
      have Q1 := hid q1
      have Q2 := hid q2
      have y0 := q1.cell0
      have y1 := q1.cell1
      clear q1 q2 hsh
      go_wp2_with fail
      go_ret
      rw [E1.out]
      exact REyePost.fail Q1.out Q2.out
    · rw [show after zs 0 (rdNum 1 zs) = (some (val (zs.take 1)), zs.drop 1, 0) by
        unfold after rdNum
        rw [if_neg (by omega), if_neg (by omega), if_neg (by show ¬ zs.length < 1; exact hsh)]
        rfl] at hq
      obtain ⟨⟨v1, q1⟩, q2, rfl⟩ := hq
      change REyeAt w1 B q v1 (zs.drop 1) 0 at q1
      have Q1 := hid q1
      have Q2 := hid q2
      obtain ⟨m, hm⟩ : ∃ m, m = val (zs.take 1) := ⟨_, rfl⟩
      have HM := hid hm
      rw [← hm]
      have y0 := q1.cell0
      have y1 := q1.cell1
      have g0 := q1.free0
      have g1 := q1.free1
      clear q1 q2 hm
      by_cases hlt : 1 < m
      · have E1 := hid (show after zs 0 (rdBool zs) = (none, zs, 4) by
          unfold after rdBool
          rw [if_neg (by omega), if_neg hsh, if_pos (by rw [← HM.out]; exact hlt)])
        have S2 := hid (Q1.out.setBad 4)
        clear hsh
        go_wp2_with fail
        go_ret
        have P := H.out.putBack (Q2.out.trans S2.out.2) S2.out.1
        rw [E1.out]
        exact REyePost.fail P.1 P.2
      · have E1 := hid (show after zs 0 (rdBool zs) = (some (m == 1), zs.drop 1, 0) by
          unfold after rdBool
          rw [if_neg (by omega), if_neg hsh, if_neg (by rw [← HM.out]; exact hlt), ← HM.out])
        clear hsh
        go_wp2_with fail
        go_ret
        rw [E1.out]
        exact ⟨⟨v1, Q1.out⟩, Q2.out, rfl⟩
  · have E1 := hid (show after zs bad (rdBool zs) = (none, zs, bad) by unfold after; rw [if_pos hb])
    have b1 : (bad == 0) = false := by simpa using hb
    have EA := hid (show after zs bad (rdNum 1 zs) = (none, zs, bad) by unfold after; rw [if_pos hb])
    clear hb
    go_enter Try.func95, Try.ntmps95
    go_wp2_with fail
    refine (renum_any _ B q _ zs bad 1 H.out).mono ?_
    intro e w1 hq
    rw [EA.out] at hq
    obtain ⟨⟨v1, q1⟩, q2, rfl⟩ := hq
    have Q1 := hid q1
    have Q2 := hid q2
    have y0 := q1.cell0
    have y1 := q1.cell1
    clear q1 q2
    go_wp2_with fail
    go_ret
    rw [E1.out]
    exact REyePost.fail Q1.out Q2.out
end Go.Proofs.Ytoglcohdanpciaa
