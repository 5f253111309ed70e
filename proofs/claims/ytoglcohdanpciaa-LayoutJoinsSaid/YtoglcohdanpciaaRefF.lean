/- Walks of the reference's eye: Num at whatever width, Raw, Bool, End. -/
import Derived.Test.YtoglcohdanpciaaRefE
import Derived.Test.YtoglcohdanpciaaFails
namespace Go.Proofs.Ytoglcohdanpciaa
open Go.RowKit

theorem REyePost.fail {α : Type} {w w2 : World} {B q : Nat} {v : Value} {zs : List Int} {bad : Int} {zero : Value} {ret : α → World → Ending → Prop} (h : REyeAt w2 B q v zs bad) (k : Keeps [q] w w2) :
    REyePost w B q ((none, zs, bad) : Option α × List Int × Int) zero ret (.returned zero) w2 := ⟨⟨v, h⟩, k, rfl⟩

set_option maxHeartbeats 1600000 in
theorem renum_any (w : World) (B q : Nat) (v : Value) (zs : List Int) (bad n : Int) (h : REyeAt w B q v zs bad) :
    Calls Try.prog 68 #[.pointer (some ⟨q, 0, none⟩), .int .i64 n] w (REyePost w B q (after zs bad (rdNum n zs)) (.int .i64 0) retInt) := by
  by_cases hb : bad = 0
  · subst hb
    have H := hid h
    have c0 := h.cell0
    have c1 := h.cell1
    have f1 := h.free1
    obtain ⟨a, cap, rfl, z⟩ := h.row
    clear z
    by_cases hv : 1 ≤ n ∧ n ≤ 7
    · obtain ⟨k, rfl⟩ := Int.eq_ofNat_of_zero_le (show 0 ≤ n by omega)
      by_cases hn : zs.length < k
      · have E1 := hid (show after zs 0 (rdNum k zs) = (none, zs, 2) by
          unfold after rdNum
          rw [if_neg (by omega), if_neg (by simp only [Classical.not_not]; exact hv), if_pos (by rw [Int.toNat_natCast]; exact hn)])
        have d1 : decide ((k : Int) < 1) = false := by simp; omega
        have d2 : decide (7 < (k : Int)) = false := by simp; omega
        have d3 : decide ((zs.length : Int) < k) = true := by simp; omega
        clear h hv
        go_enter Try.func68, Try.ntmps68
        go_wp2_with fail
        go_ret
        rw [E1.out]
        exact REyePost.fail (H.out.setBad 2).1 (H.out.setBad 2).2
      · have e1 : after zs 0 (rdNum k zs) = (some (val (zs.take k)), zs.drop k, 0) := by
          unfold after rdNum
          rw [if_neg (by omega), if_neg (by simp only [Classical.not_not]; exact hv), if_neg (by rw [Int.toNat_natCast]; exact hn)]
          rfl
        rw [e1]
        exact renum_ok w B q _ zs k h (by omega) (by omega) (by omega)
    · have E1 := hid (show after zs 0 (rdNum n zs) = (none, zs, 1) by
        unfold after rdNum
        rw [if_neg (by omega), if_pos hv])
      by_cases a1 : n < 1
      · have d1 : decide (n < 1) = true := by simpa using a1
        clear h hv
        go_enter Try.func68, Try.ntmps68
        go_wp2_with fail
        go_ret
        rw [E1.out]
        exact REyePost.fail (H.out.setBad 1).1 (H.out.setBad 1).2
      · have d1 : decide (n < 1) = false := by simpa using a1
        have d2 : decide (7 < n) = true := by simp; omega
        clear h hv
        go_enter Try.func68, Try.ntmps68
        go_wp2_with fail
        go_ret
        rw [E1.out]
        exact REyePost.fail (H.out.setBad 1).1 (H.out.setBad 1).2
  · have E1 := hid (show after zs bad (rdNum n zs) = (none, zs, bad) by unfold after; rw [if_pos hb])
    have H := hid h
    have c0 := h.cell0
    have c1 := h.cell1
    have b1 : (bad == 0) = false := by simpa using hb
    have b2 : (bad != 0) = true := by simpa using hb
    clear h hb
    go_enter Try.func68, Try.ntmps68
    go_wp2_with fail
    go_ret
    rw [E1.out]
    exact REyePost.fail H.out (Keeps.refl _ _)

theorem reend_any (w : World) (B q : Nat) (v : Value) (zs : List Int) (bad : Int) (h : REyeAt w B q v zs bad) :
    Calls Try.prog 99 #[.pointer (some ⟨q, 0, none⟩)] w fun e w' => e = .returned (.int .i64 (endOf zs bad)) ∧ w = w' := by
  have c0 := h.cell0
  have c1 := h.cell1
  obtain ⟨a, cap, rfl, z⟩ := h.row
  clear z h
  by_cases hb : bad = 0
  · subst hb
    by_cases hz : zs.length = 0
    · have E1 := hid (show endOf zs 0 = 0 by simp [endOf, hz])
      have d1 : ¬ (0 : Int) < zs.length := by omega
      clear hz
      go_enter Try.func99, Try.ntmps99
      go_wp2_with fail
      go_ret
      exact ⟨by rw [E1.out]; rfl, rfl⟩
    · have E1 := hid (show endOf zs 0 = 3 by simp only [endOf, if_true, if_neg hz])
      have d1 : (0 : Int) < zs.length := by omega
      clear hz
      go_enter Try.func99, Try.ntmps99
      go_wp2_with fail
      go_ret
      exact ⟨by rw [E1.out]; rfl, rfl⟩
  · have E1 := hid (show endOf zs bad = bad by rw [endOf, if_neg hb])
    have b2 : (bad != 0) = true := by simpa using hb
    clear hb
    go_enter Try.func99, Try.ntmps99
    go_wp2_with fail
    go_ret
    exact ⟨by rw [E1.out]; rfl, rfl⟩

/-- Behind a failure Raw puts its row back. -/
theorem REyeAt.putBack {w w1 : World} {B q v zs bad v1 zs1 bad1} (h : REyeAt w B q v zs bad) (k : Keeps [q] w w1) (h1 : REyeAt w1 B q v1 zs1 bad1) :
    REyeAt (w1.setCell ⟨q, 0, none⟩ v) B q v zs bad1 ∧ Keeps [q] w (w1.setCell ⟨q, 0, none⟩ v) := by
  have := h.setRow k (by intro i hi; simp at hi; rw [hi]; exact h.lo) h1 v zs (fun _ hr => hr) (SameBlk.refl _) (fun hz => hz) (Nat.le_refl _)
  exact ⟨this.1, k.trans this.2⟩

set_option maxHeartbeats 3200000 in
theorem reraw_any (w : World) (B q : Nat) (v : Value) (zs : List Int) (bad most : Int) (h : REyeAt w B q v zs bad) :
    Calls Try.prog 94 #[.pointer (some ⟨q, 0, none⟩), .int .i64 most] w (REyePost w B q (after zs bad (rdCount most zs)) (.slice none 0 0) (retNew w)) := by
  have H := hid h
  have c0 := h.cell0
  have c1 := h.cell1
  have f1 := h.free1
  obtain ⟨a, cap, rfl, z⟩ := h.row
  clear z h
  by_cases hb : bad = 0
  · subst hb
    by_cases hm : most < 0
    · have E1 := hid (show after zs 0 (rdCount most zs) = (none, zs, 1) by
        unfold after rdCount
        rw [if_neg (by omega), if_pos hm])
      have d1 : decide (most < 0) = true := by simpa using hm
      have S1 := hid (H.out.setBad 1)
      clear hm
      go_enter Try.func94, Try.ntmps94
      go_wp2_with fail
      refine (renum_any _ B q _ zs 1 2 S1.out.1).mono ?_
      intro e w1 hq
      rw [after_bad] at hq
      obtain ⟨⟨v1, q1⟩, q2, rfl⟩ := hq
      have Q1 := hid q1
      have Q2 := hid (S1.out.2.trans q2)
      have y0 := q1.cell0
      have y1 := q1.cell1
      have g0 := q1.free0
      clear q1 q2
      go_wp2_with fail
      go_ret
      have P := H.out.putBack Q2.out Q1.out
      rw [E1.out]
      exact REyePost.fail P.1 P.2
    · have d1 : decide (most < 0) = false := by simpa using hm
      go_enter Try.func94, Try.ntmps94
      go_wp2_with fail
      refine (renum_any _ B q _ zs 0 2 H.out).mono ?_
      intro e w1 hq
      by_cases hsh : zs.length < 2
      · have E1 := hid (show after zs 0 (rdCount most zs) = (none, zs, 2) by
          unfold after rdCount
          rw [if_neg (by omega), if_neg (by omega), if_pos hsh])
        rw [show after zs 0 (rdNum 2 zs) = (none, zs, 2) by
          unfold after rdNum
          rw [if_neg (by omega), if_neg (by omega), if_pos (by show zs.length < 2; exact hsh)]] at hq
        obtain ⟨⟨v1, q1⟩, q2, rfl⟩ := hq
        have Q1 := hid q1
        have Q2 := hid q2
        have y0 := q1.cell0
        have y1 := q1.cell1
        have g0 := q1.free0
        clear q1 q2 hsh
        go_wp2_with fail
        go_ret
        have P := H.out.putBack Q2.out Q1.out
        rw [E1.out]
        exact REyePost.fail P.1 P.2
      · rw [show after zs 0 (rdNum 2 zs) = (some (val (zs.take 2)), zs.drop 2, 0) by
          unfold after rdNum
          rw [if_neg (by omega), if_neg (by omega), if_neg (by show ¬ zs.length < 2; exact hsh)]
          rfl] at hq
        obtain ⟨⟨v1, q1⟩, q2, rfl⟩ := hq
        change REyeAt w1 B q v1 (zs.drop 2) 0 at q1
        have Q1 := hid q1
        have Q2 := hid q2
        have hvb := val_bound 2 (zs.take 2) (by rw [List.length_take]; omega) (fun z hz => H.out.row.bytes z (List.mem_of_mem_take hz))
        obtain ⟨m, hm2⟩ := Int.eq_ofNat_of_zero_le hvb.1
        have HM := hid hm2
        have hm3 : m < 65536 := by have := hvb.2; rw [hm2] at this; have : (m : Int) < 65536 := this; omega
        rw [hm2]
        have y0 := q1.cell0
        have y1 := q1.cell1
        have g0 := q1.free0
        have g1 := q1.free1
        have r1 := q1.row
        have hf1 := q1.fits
        obtain ⟨a1, cap1, rfl, z⟩ := q1.row
        generalize hys : zs.drop 2 = ys at *
        have HYS := hid hys
        clear hvb hm2 z q1 q2 hys
        by_cases hlt : most < m
        · have E1 := hid (show after zs 0 (rdCount most zs) = (none, zs, 3) by
            unfold after rdCount
            rw [if_neg (by omega), if_neg (by omega), if_neg hsh, if_pos (by rw [HM.out]; exact hlt)])
          have S2 := hid (Q1.out.setBad 3)
          clear hsh hm hm3 r1
          go_wp2_with fail
          go_ret
          have P := H.out.putBack (Q2.out.trans S2.out.2) S2.out.1
          rw [E1.out]
          exact REyePost.fail P.1 P.2
        · by_cases hl2 : ys.length < m
          · have E1 := hid (show after zs 0 (rdCount most zs) = (none, zs, 2) by
              unfold after rdCount
              rw [if_neg (by omega), if_neg (by omega), if_neg hsh, if_neg (by rw [HM.out]; exact hlt), HM.out, HYS.out, if_pos (by rw [Int.toNat_natCast]; exact hl2)])
            have S2 := hid (Q1.out.setBad 2)
            have hl2' : (ys.length : Int) < m := by omega
            clear hsh hm hm3 r1
            go_wp2_with fail
            go_ret
            have P := H.out.putBack (Q2.out.trans S2.out.2) S2.out.1
            rw [E1.out]
            exact REyePost.fail P.1 P.2
          · have E1 := hid (show after zs 0 (rdCount most zs) = (some (ys.take m), ys.drop m, 0) by
              unfold after rdCount
              rw [if_neg (by omega), if_neg (by omega), if_neg hsh, if_neg (by rw [HM.out]; exact hlt), HM.out, HYS.out, if_neg (by rw [Int.toNat_natCast]; exact hl2)]
              rfl)
            have hl2' : ¬ (ys.length : Int) < m := by omega
            obtain ⟨b1, t1, t2, t3, t4⟩ := row_take r1 m (by omega)
            obtain ⟨b2, s1, s2, s3, s4⟩ := row_drop r1 m (by omega)
            have T3 := hid (t3 w1 r1)
            have S3 := hid s3
            have S4 := hid s4
            have htl : (ys.take m).length = m := by rw [List.length_take]; omega
            have HTL := hid htl
            clear hsh hm r1 t3 t4 s3 s4 htl
            go_wp2_with fail
            refine (copy_any _ _ (ys.take m) T3.out (by rw [HTL.out]; omega)).mono ?_
            intro e w2 hq
            obtain ⟨a5, c5, rfl, g2, g3, g4⟩ := hq.new T3.out.bytes
            rw [HTL.out]
            have G2 := hid g2
            have G3 := hid g3
            have G4 := hid g4
            have Q5 := hid (Q1.out.keep g4 (by simp) (by simp))
            have y0' := Q5.out.cell0
            have g0' := Q5.out.free0
            clear g2 g3 g4 hq y0 y1 g0 g1
            go_wp2_with fail
            go_ret
            have hb2 : SameBlk (.slice a1 ys.length cap1) (.slice b2 (ys.length - m) (cap1 - m)) := by
              intro ad n' c' e
              injection e with e1 _ _
              obtain ⟨ad', h1, h2⟩ := S4.out ad e1
              exact ⟨ad', _, _, by rw [h1], h2⟩
            have hr := Q1.out.setRow G4.out (by simp) Q5.out _ (ys.drop m) S3.out hb2 (by intro h1 h2; rw [h2] at h1; simp at h1) (by rw [List.length_drop]; omega)
            rw [E1.out]
            refine ⟨⟨_, hr.1⟩, (Q2.out.trans (G4.out.mono (by simp))).trans hr.2, a5, c5, by rw [HTL.out]; rfl, ?_, ?_⟩
            · refine G2.out.keep hr.2 ?_
              intro ad n' c' e hne hq
              injection e with e1 _ _
              have := G3.out ad e1
              have := Q1.out.lt
              simp at hq
              omega
            · intro ad had
              have := G3.out ad had
              have := Q2.out.size
              omega
  · have E1 := hid (show after zs bad (rdCount most zs) = (none, zs, bad) by unfold after; rw [if_pos hb])
    have b1 : (bad == 0) = false := by simpa using hb
    have b2 : (bad != 0) = true := by simpa using hb
    have EA := hid (show after zs bad (rdNum 2 zs) = (none, zs, bad) by unfold after; rw [if_pos hb])
    clear hb
    go_enter Try.func94, Try.ntmps94
    go_wp2_with fail
    refine (renum_any _ B q _ zs bad 2 H.out).mono ?_
    intro e w1 hq
    rw [EA.out] at hq
    obtain ⟨⟨v1, q1⟩, q2, rfl⟩ := hq
    have Q1 := hid q1
    have Q2 := hid q2
    have y0 := q1.cell0
    have y1 := q1.cell1
    have g0 := q1.free0
    clear q1 q2
    go_wp2_with fail
    go_ret
    have P := H.out.putBack Q2.out Q1.out
    rw [E1.out]
    exact REyePost.fail P.1 P.2
end Go.Proofs.Ytoglcohdanpciaa
