/- Whatever is written: the bytes, or the first thing that may not be (the law WireWrites): for every list of deeds the law returns true, and it reads as it did. No condition. -/
import Derived.Test.YtfkafelidkcinaaWrite
import Derived.Test.YtfkafelidkcinaaFailsL
namespace Go.Proofs.Ytfkafelidkcinaa
open Go.ChangeShapes Go.WideShapes Go.ChangeAt Go.RowKit

def shown (s : List Int × Int) : List Int := if s.2 = 0 then s.1 else []

theorem BytesPost.any {w : World} {s : List Int × Int} {e : Ending} {w' : World} (h : BytesPost w s e w') :
    ∃ a c, e = .returned (.tuple #[.slice a (shown s).length c, .int .i64 s.2]) ∧ RowAt w' (.slice a (shown s).length c) (shown s) ∧ (∀ ad, a = some ad → w.heap.size ≤ ad.block) ∧ Keeps [] w w' := h

theorem shown_rel {s r : List Int × Int} (h : Rel s r) : shown s = shown r := by
  unfold shown
  by_cases hb : s.2 = 0
  · rw [if_pos hb, if_pos (by rw [← h.1]; exact hb)]
    exact h.2 hb
  · rw [if_neg hb, if_neg (by rw [← h.1]; exact hb)]

set_option maxHeartbeats 1600000 in
theorem writes_any (w : World) (v : Value) (ds : List Dd) (hd : DeedsAt w v ds) :
    Calls Try.prog 4 #[v] w fun e w' => e = .returned (.bool true) ∧ Keeps [] w w' := by
  have D := hid hd
  obtain ⟨va, vc, rfl, z⟩ := hd
  clear z
  go_enter Try.func4, Try.ntmps4
  go_wp2_with fail
  refine (awake_any w).mono ?_
  rintro e w1 ⟨rfl, q1⟩
  have K1 := hid q1
  clear q1
  go_wp2_with fail
  refine (room_any w1 _ ds (D.out.keep K1.out)).mono ?_
  rintro e w2 ⟨b, rfl, rfl, hroom⟩
  cases b with
  | false =>
    clear hroom
    go_wp2_with fail
    go_ret
    exact ⟨rfl, K1.out⟩
  | true =>
    have HR := hid (hroom rfl)
    clear hroom
    go_wp2_with fail
    refine (write_any w1 _ ds (D.out.keep K1.out) (by have := HR.out.1; omega) HR.out.2).mono ?_
    rintro e w3 ⟨p, q, pv, qv, rfl, q1⟩
    have T3 := hid q1
    have RL := hid (Rel.deeds ds (s := ([], 0)) (r := ([], 0)) ⟨rfl, fun _ => rfl⟩)
    generalize ds.foldl deedW ([], 0) = s at *
    generalize ds.foldl deedR ([], 0) = r at *
    clear q1
    go_wp2_with fail
    refine (bytes_any _ w1.heap.size p pv _ _ T3.out.pen).mono ?_
    intro e w4 hq
    obtain ⟨a4, c4, rfl, q1, q2, q3⟩ := hq.any
    have R4 := hid q1
    have T4 := hid (T3.out.keep q3)
    clear q1 q2 q3 hq
    go_wp2_with fail
    refine (rbytes_any _ w1.heap.size q qv _ _ T4.out.ref).mono ?_
    intro e w5 hq
    obtain ⟨a5, c5, rfl, q1, q2, q3⟩ := hq.any
    have R5 := hid q1
    have R4' := hid (R4.out.keep q3 (by intro _ _ _ _ _; simp))
    have K5 := hid (K1.out.trans (T4.out.kept.trans q3))
    have heq : (s.2 == r.2) = true := by simpa using RL.out.1
    have l4 : (shown s).length ≤ 65536 := by
      unfold shown; split
      · exact T4.out.pen.fits
      · simp
    have hsr := hid (shown_rel RL.out)
    clear q1 q2 q3 hq
    go_wp2_with fail
    refine (same_any _ _ _ _ _ R4'.out R5.out (by show (shown s).length ≤ _; omega) (by show (shown r).length ≤ _; have := hsr.out; rw [← this]; omega)).mono ?_
    rintro e w6 ⟨rfl, n6, rfl⟩
    have ht : decide (shown (s.1, s.2) = shown (r.1, r.2)) = true := by rw [decide_eq_true_eq]; exact hsr.out
    rw [ht]
    go_wp2_with fail
    go_ret
    exact ⟨rfl, K5.out.drewN n6⟩

set_option maxRecDepth 100000 in
theorem writes_lifted (os : Os) (started : os.Started) (H : Type) (enc : TypeId × Value → H) :
    ReturnsInHanded {} Try.checked os 4 .any (Rows.wireWritesSpec.pre6 enc Try.prog Try.f4 Rows.wireWritesRow.domain false) (Rows.wireWritesSpec.post enc Try.prog Try.f4 false true false false) := by
  refine returnsInHanded_of_change_sized (C := Try.checked) own started (by kernel_rfl) Try.func4
    (ChangeSpec.witness6 (enc := enc) (C := Try.checked) false ⟨#[], #[.slice none 0 0], []⟩ 8 (by kernel_rfl) (by kernel_rfl) (by kernel_rfl) (by kernel_rfl)) ?_
  intro W base args ds gs before hval0 hW hcnd hsz0 _
  have hval : ∀ (j : Nat) t v, Try.f4.params[j]? = some t → args[j]? = some v → Value.okWide Try.prog W .any base t v := hval0
  have hsz : (DataW.weightsEach Try.prog (Try.f4.params.toList ++ Rows.wireWritesSpec.plain.varTypes Try.prog) (ds ++ gs)).all (· ≤ reachBytes) = true := hsz0
  have hW' := hW
  obtain ⟨p, q, hA0, hV, rfl, hfz, hnd⟩ := hW
  have hA : DataW.TrodAll enc Try.prog W 0 (fun _ => true) true Try.f4.params.toList args.toList ds p := hA0
  rw [Try.params4] at hA hval hsz
  obtain ⟨v0, vs0, d0, ds0, p0, q0, hargs, rfl, rfl, h0, r0⟩ := trodAll_cons hA
  obtain ⟨rfl, rfl, rfl⟩ := trodAll_nil r0
  obtain rfl : args = #[v0] := by cases args; simp_all
  obtain ⟨rfl, rfl⟩ := trodVars_none hV
  have k0 := h0
  have lt0 : ∀ x ∈ p0, x.block < W.heap.size := by obtain ⟨m, hm⟩ := k0; exact DataW.trod_lt m _ _ _ hm
  obtain ⟨a0, l0, c0, rfl⟩ := okWide_slice Try.underlying37 (hval 0 37 v0 rfl rfl)
  obtain ⟨dd, hd⟩ : ∃ zs, DeedsAt W (.slice a0 l0 c0) zs := by
    obtain ⟨m, hm⟩ := h0
    obtain ⟨v, zs, e, hr⟩ := deeds_of_trod hm (each_le hsz (j := 0) rfl rfl)
    simp [Value.cells] at e
    subst e
    exact ⟨zs, hr⟩
  clear hA0 hval0
  refine (writes_any W _ dd hd).mono fun e W' ⟨he, hk⟩ => ?_
  subst he
  have bel : Below W.heap.size W W' := hk.below (Nat.le_refl _) (by simp)
  exact ⟨_, rfl, _, _, _, [], _, [], hW', trodAll_mk1 (shut_bool Try.underlying4 _),
    (trodAll_cons_mk (Below.trod laidOut (by kernel_rfl) (of_decide_eq_true (by kernel_rfl)) k0 bel lt0) trodAll_mk0), rfl, bel.frame _, fun h => by cases h⟩

theorem writes_holds : Rows.WireWritesSaid :=
  OpenClaim.holds_of_wide 4 Try.f4 rfl rfl rfl rfl rfl rfl rfl ⟨rfl, rfl, rfl, rfl, rfl⟩ rfl rfl rfl rfl rfl (by kernel_rfl) Try.func4 (by kernel_rfl)
    (of_decide_eq_true (by kernel_rfl)) (by unfold Func.isWrapper; rw [if_neg (of_decide_eq_false (by kernel_rfl))]; exact ⟨rfl, rfl⟩)
    (fun os started H enc _ => writes_lifted os started H enc)
end Go.Proofs.Ytfkafelidkcinaa
