/- An eye that failed answers nothing more, takes nothing more, and keeps the first error (the law WireFails): the walk. -/
import Derived.Test.YtfkafelidkcinaaDeeds
import Derived.Test.YtfkafelidkcinaaKnown
namespace Go.Proofs.Ytfkafelidkcinaa
open Go.RowKit

theorem after_bad {α : Type} (zs : List Int) (r : Except Int (α × List Int)) : after zs 1 r = (none, zs, 1) := by
  unfold after
  rw [if_pos (by omega)]

set_option maxRecDepth 100000 in
set_option maxHeartbeats 3200000 in
theorem fails_any (w : World) (u v : Value) (bs : List Int) (ds : List Dd) (hu : RowAt w u bs) (hd : DeedsAt w v ds) (hbl : bs.length ≤ 140737488351232) :
    Calls Try.prog 9 #[u, v] w fun e w' => e = .returned (.bool true) ∧ Keeps [] w w' := by
  have U := hid hu
  have D := hid hd
  obtain ⟨ua, uc, rfl, z⟩ := hu
  clear z
  obtain ⟨va, vc, rfl, vl, vb, v0, z⟩ := hd
  have Z := hid z
  clear z vb v0
  go_enter Try.func9, Try.ntmps9
  go_wp2_with fail
  refine (awake_any w).mono ?_
  rintro e w1 ⟨rfl, q1⟩
  have K1 := hid q1
  clear q1
  by_cases hl : bs.length > 500
  · have hl' : (500 : Int) < bs.length := by omega
    go_wp2_with fail
    go_ret
    exact ⟨rfl, K1.out⟩
  · have hl' : decide ((500 : Int) < bs.length) = false := by simp; omega
    go_wp2_with fail
    refine (room_any w1 _ ds (D.out.keep K1.out)).mono ?_
    rintro e w2 ⟨b, rfl, rfl, hroom⟩
    cases b with
    | false =>
      clear hroom
      go_wp2_with fail
      go_ret
      exact ⟨rfl, K1.out⟩
    | true =>
      have hr1 := (hroom rfl).1
      clear hroom
      go_wp2_with fail
      refine (newEye_any _ w.heap.size _ bs (U.out.keep K1.out (by intro _ _ _ _ _; simp)) K1.out.size (by omega)).mono ?_
      rintro e w3 ⟨p, v3, rfl, q1, q2, q3, q4⟩
      have Y3 : Hid (EyeSince w w3 p v3 bs 0) := ⟨q2, K1.out.trans q3⟩
      clear q1 q2 q3 q4
      go_wp2_with fail
      refine (eyeRaw_any _ w.heap.size p v3 bs 0 (-1) Y3.out.eye).mono ?_
      intro e w4 hq
      have hrd : after bs 0 (rdCount (-1) bs) = (none, bs, 1) := by
        unfold after rdCount
        rw [if_neg (by omega), if_pos (by omega)]
      rw [hrd] at hq
      obtain ⟨⟨v4, q1⟩, q2⟩ := Y3.out.step hq
      obtain rfl := q2
      have Y4 := hid q1
      clear q1 hq hrd
      go_wp2_with fail
      refine (fail_any _ w.heap.size p v4 bs 1 Y4.out.eye).mono ?_
      rintro e w5 ⟨rfl, rfl⟩
      go_wp2_with fail
      refine (left_any _ w.heap.size p v4 bs 1 Y4.out.eye).mono ?_
      rintro e w5 ⟨rfl, rfl⟩
      go_wp2_with fail
      go_loopw [8] (fun i wr => ∃ (k : Nat) (v : Value), k ≤ ds.length ∧ i = .int .i64 k ∧ EyeSince w wr p v bs 1) (fun i _ => ds.length - (intOf i).toNat)
      case atStart => exact ⟨0, v4, by omega, rfl, Y4.out⟩
      case round =>
        obtain ⟨k, v5, hk, rfl, q1⟩ := hrel
        have Y5 := hid q1
        clear q1
        by_cases hlt : k < ds.length
        · obtain ⟨g, off, rfl, hd⟩ := Z.out (by intro e; rw [e] at hlt; simp at hlt)
          have DA := hid (hd k hlt)
          clear hd
          generalize hdk : ds[k] = d at *
          clear hdk
          have c2 : wr.cell? ⟨g, off + k * 4 + 2, none⟩ = some (.int .i64 d.n) := (DA.out.keep Y5.out.kept).c2
          go_wp2_with fail
          refine (eyeNum_any _ w.heap.size p v5 bs 1 d.n Y5.out.eye).mono ?_
          intro e w6 hq
          rw [after_bad] at hq
          obtain ⟨⟨v6, q1⟩, q2⟩ := Y5.out.step hq
          obtain rfl := q2
          have Y6 := hid q1
          clear q1 hq c2
          have c1 : w6.cell? ⟨g, off + k * 4 + 1, none⟩ = some (.int .i64 d.x) := (DA.out.keep Y6.out.kept).c1
          go_wp2_with fail
          refine (eyeRaw_any _ w.heap.size p v6 bs 1 d.x Y6.out.eye).mono ?_
          intro e w7 hq
          rw [after_bad] at hq
          obtain ⟨⟨v7, q1⟩, q2⟩ := Y6.out.step hq
          obtain rfl := q2
          have Y7 := hid q1
          clear q1 hq c1
          have c1 : w7.cell? ⟨g, off + k * 4 + 1, none⟩ = some (.int .i64 d.x) := (DA.out.keep Y7.out.kept).c1
          go_wp2_with fail
          refine (eyeText_any _ w.heap.size p v7 bs 1 d.x Y7.out.eye).mono ?_
          intro e w8 hq
          rw [after_bad] at hq
          obtain ⟨⟨v8, q1⟩, q2⟩ := Y7.out.step hq
          obtain rfl := q2
          have Y8 := hid q1
          clear q1 hq c1
          go_wp2_with fail
          refine (eyeBool_any _ w.heap.size p v8 bs 1 Y8.out.eye).mono ?_
          intro e w9 hq
          rw [after_bad] at hq
          obtain ⟨⟨v9, q1⟩, q2⟩ := Y8.out.step hq
          obtain rfl := q2
          have Y9 := hid q1
          clear q1 hq
          go_wp2_with fail
          refine (fail_any _ w.heap.size p v9 bs 1 Y9.out.eye).mono ?_
          rintro e w10 ⟨rfl, rfl⟩
          go_wp2_with fail
          refine (left_any _ w.heap.size p v9 bs 1 Y9.out.eye).mono ?_
          rintro e w10 ⟨rfl, rfl⟩
          go_wp2_with fail
          refine (end_any _ w.heap.size p v9 bs 1 Y9.out.eye).mono ?_
          rintro e w10 ⟨rfl, rfl⟩
          rw [show endOf bs 1 = 1 from by simp [endOf]]
          go_wp2_with fail
          go_roundw
          case rel => exact ⟨k + 1, v9, by omega, by go_num, Y9.out⟩
          case measure => simp [intOf]; omega
        · have : k = ds.length := by omega
          subst this
          go_wp2_with fail
          go_ret
          exact ⟨rfl, Y5.out.kept⟩
end Go.Proofs.Ytfkafelidkcinaa
