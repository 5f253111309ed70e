/- With their parity behind them rows hold; each one is made again out of the others; the order does not matter (the law ParityBack): for every slice of rows and every turn the law returns true, and the rows read as they did. No condition. -/
import Derived.Test.YtpljhbgnaahmoaaPyBack
namespace Go.Proofs.Ytpljhbgnaahmoaa
open Go.ChangeShapes Go.WideShapes Go.ChangeAt Go.RowKit

theorem size_le_alloc (w : World) (o : Obj) : w.heap.size ≤ (w.alloc o).heap.size := by rw [World.size_alloc]; omega

set_option maxRecDepth 100000 in
set_option maxHeartbeats 8000000 in
theorem lback_any (w : World) (v : Value) (rs : List (El w)) (hR : RowsAt w v rs) (z : Int) (hz : 0 ≤ z ∧ z ≤ 255) :
    Calls Try.prog 12 #[v, .int .u8 z] w fun e w' => e = .returned (.bool true) ∧ Keeps [] w w' := by
  have HR := hid hR
  obtain ⟨a, cap, rfl, y⟩ := hR
  clear y
  obtain ⟨z1, z2⟩ := hz
  go_enter Try.func12, Try.ntmps12
  go_wp2_with fail
  refine (lawake_any w).mono ?_
  rintro e w1 ⟨rfl, q1⟩
  have K1 := hid q1
  clear q1
  go_wp2_with fail
  refine (small_any w1 _ rs 500 (HR.out.keep K1.out)).mono ?_
  rintro e w2 ⟨rfl, rfl⟩
  cases hs : smallB rs 500 with
  | false =>
    clear hs
    go_wp2_with fail
    go_ret
    exact ⟨rfl, K1.out⟩
  | true =>
    have HL := hid (smallB_len hs)
    have HM := hid (small_longest (most := 500) hs)
    clear hs
    by_cases h0 : rs.length = 0
    · have h0' : ((rs.length : Int) == 0) = true := by simp [h0]
      clear h0
      go_wp2_with fail
      go_ret
      exact ⟨rfl, K1.out⟩
    have h0' : ((rs.length : Int) == 0) = false := by rw [beq_eq_false_iff_ne]; omega
    have hpos : 0 < rs.length := by omega
    clear h0
    have hl40 : rs.length ≤ 40 := HL.out
    obtain ⟨k, hk⟩ : ∃ i : Nat, z % (rs.length : Int) = (i : Int) := ⟨(z % (rs.length : Int)).toNat, by have := Int.emod_nonneg z (show (rs.length : Int) ≠ 0 by omega); omega⟩
    have hkl : k < rs.length := by have := Int.emod_lt_of_pos z (show (0 : Int) < rs.length by omega); omega
    obtain ⟨g, o, _, e1, _, _⟩ := HR.out.open hpos
    injection e1 with e1 _ e3
    subst e1; subst e3
    obtain ⟨zl, at', ad', hzl, hzb, XL, s1, T1, s2, T2, XR⟩ := back_facts HR.out hl40 HM.out (Nat.le_of_lt hkl)
    have HZ := hid hzl
    replace XL := hid XL
    replace T1 := hid T1
    replace T2 := hid T2
    replace XR := hid XR
    clear hzl
    have O0 : Hid ((w1.alloc (.cells #[] 25)).ownsRow w1.heap.size 25 1 (.slice (some ⟨w1.heap.size, 0, none⟩) 0 0) 0 []) :=
      World.ownsRow_lit (base := w1.heap.size) (e := 25) (size := 1) w1 #[] 0 (Nat.le_refl _) (by unfold maxLen; omega) rfl
    have K0 := hid (K1.out.alloc (.cells #[] 25))
    obtain ⟨l1, m1, n1, _⟩ := HR.out.parts
    obtain ⟨i0, hi0, hz0, hz1, hz2⟩ := info_parts info25
    have I0 := hid hi0
    have Z0 := hid hz0
    have Z1 := hid hz1
    have Z2 := hid hz2
    clear hi0 hz0 hz1 hz2 n1 l1
    go_wp2_with (at_builtin; refine wpList_append_src rfl (.tmp 20) (.tmp 21) 61 rfl w1.heap.size 25 i0 (.slice none 0 0) 24 Try.underlying61 I0.out Z0.out Z1.out Z2.out rfl (.slice (some ⟨w1.heap.size, 0, none⟩) 0 0) 0 [] rfl O0.out (some ⟨g, o, none⟩) rs.length cap (rs.map fun r => r.1.1) rfl (by rw [List.length_map]) (by simp) m1 (HR.out.keep K0.out).parts.2.2.2 (heads_one _) (by unfold maxLen; omega) (by omega) (by simp) ?_; intro a2 c2 w2 O2 G2; simp only [Nat.zero_add, List.nil_append] at O2 ⊢)
    have K2 : Hid (Keeps [] w w2) := K0.out.grown G2.out (by intro g e; right; exact Nat.le_trans K1.out.size (O0.out.lt g e).1)
    have hs2 := G2.out.size
    refine (XL.out _ K2.out).mono ?_
    rintro e w3 ⟨a3, c3, rfl, q1, qn, q2⟩
    have R3 := hid q1
    have HN := hid qn
    have HB2 := hid (fun k e => (O2.out.lt k e : _ ∧ _))
    have K3 := hid (K2.out.trans q2)
    have O3 := hid ((own_keeps O2.out q2).alloc (.cells #[.slice a3 zl.length c3] 25))
    have hs3 : w1.heap.size ≤ (w3.alloc (.cells #[.slice a3 zl.length c3] 25)).heap.size := by
      have := q2.size; simp only [World.size_alloc] at hs2 ⊢; omega
    clear q1 q2 qn hs2 O2 G2 K0 O0
    go_wp2_with (at_builtin; refine wpList_append_src rfl (.tmp 22) (.tmp 25) 61 rfl w1.heap.size 25 i0 (.slice none 0 0) 24 Try.underlying61 I0.out Z0.out Z1.out Z2.out rfl (.slice a2 rs.length c2) rs.length (rs.map fun r => r.1.1) rfl O3.out (some ⟨w3.heap.size, 0, none⟩) 1 1 [.slice a3 zl.length c3] rfl rfl (by simp) (by omega) (cell_lit w3 _ _) (by simp [Value.oneCell']) (by unfold maxLen; omega) (by omega) hs3 ?_; intro a4 c4 w4 O4 G4)
    have K4 : Hid (Keeps [] w w4) := (K3.out.alloc _).grown G4.out (by intro g e; right; exact Nat.le_trans K1.out.size (HB2.out g e).1)
    have R4 : Hid (RowAt w4 (.slice a3 zl.length c3) zl) := by
      refine R3.out.keep (S := (Value.slice a2 rs.length c2).ownBlock.toList) (((Keeps.refl _ w3).alloc _).grown G4.out (by intro g e; left; simp [e])) ?_
      intro ad n' c' e _ hm
      injection e with e _ _
      have h1 := HN.out ad e
      have h2 := (HB2.out ad.block (by simpa using hm)).2
      omega
    have R4z : RowAt w4 (.slice a3 zl.length c3) (xorL (raws rs)) := by rw [← HZ.out]; exact R4.out
    obtain ⟨ks, hkl2, hheads, hkb, XH, XF⟩ := all_facts hl40 HM.out K4.out R4z
    have RA : Hid (RowsAt w4 (.slice a4 (rs.length + 1) c4) ks) := rows_of_own (B := w1.heap.size) (by rw [hheads]; exact O4.out)
    replace hheads := hid hheads
    replace hkb := hid hkb
    replace XH := hid XH
    replace XF := hid XF
    replace hkl2 := hid hkl2
    clear O3 O4 G4 HB2 HN R3 R4 R4z hs3 K3
    refine (XH.out _ _ (Keeps.refl _ _) RA.out).mono ?_
    rintro e w5 ⟨rfl, q2⟩
    have K5 := hid q2
    clear q2
    go_wp2_with fail
    go_loopw [6] (fun t wr => ∃ j : Nat, t = .int .i64 j ∧ j ≤ rs.length + 1 ∧ Hid (Keeps [] w4 wr)) (fun t _ => rs.length + 1 - (intOf t).toNat)
    case atStart => exact ⟨0, rfl, by omega, K5⟩
    case round =>
      obtain ⟨j, rfl, hj, HK⟩ := hrel
      by_cases hlt : j < rs.length + 1
      · have hjk : j < ks.length := by rw [hkl2.out]; exact hlt
        have RA' := hid (RA.out.keep HK.out)
        obtain ⟨g4, o4, _, e1, _, hc⟩ := RA'.out.open (by omega)
        injection e1 with e1 e2 e3
        subst e1; subst e3
        have d1 := hc j hjk
        have X := XF.out j hjk wr _ HK.out RA'.out
        have hjb := hkb.out ks[j] (List.getElem_mem hjk)
        have HRow := hid (ks[j].2.1.later HK.out)
        obtain ⟨aj, cj, hx⟩ := ks[j].slice
        have HC : ∀ w', Keeps [] wr w' → w'.cell? ⟨g4, o4 + j, none⟩ = some (.slice aj ks[j].1.2.length cj) := fun w' k => by
          rw [(RA'.out.keep k).cellAt hjk, hx]
        rw [hx] at d1 HRow
        generalize ks[j].1.2 = rj at *
        replace X := hid X
        replace HC := hid HC
        clear hc hx e2
        go_wp2_with fail
        refine X.out.mono ?_
        intro e w6 hq
        obtain ⟨a6, c6, rfl, q1, q2⟩ := hq.good
        have R6 := hid q1
        have d6 := HC.out _ q2
        have HRow' := hid (HRow.out.later q2)
        have K6 := hid (HK.out.trans q2)
        clear q1 q2 hq d1
        go_wp2_with fail
        refine (same_self _ _ _ _ R6.out HRow'.out (by omega)).mono ?_
        rintro e w7 ⟨rfl, q2⟩
        have K7 := hid (K6.out.trans q2)
        clear q2
        go_wp2_with fail
        go_roundw
        case rel => exact ⟨j + 1, by go_num, by omega, K7⟩
        case measure => simp [intOf]; omega
      · have : j = rs.length + 1 := by omega
        subst this
        have KW := hid (K4.out.trans HK.out)
        clear XH XF hkb hheads RA K5 HK hkl2
        have K0 : Hid (Keeps [] w ((wr.alloc (.cells #[] 25)).drew)) := (KW.out.alloc _).drew
        have O0 : Hid ((wr.alloc (.cells #[] 25)).drew.ownsRow wr.heap.size 25 1 (.slice (some ⟨wr.heap.size, 0, none⟩) 0 0) 0 []) :=
          World.ownsRow_lit (base := wr.heap.size) (e := 25) (size := 1) wr #[] 0 (Nat.le_refl _) (by unfold maxLen; omega) rfl
        have hws := KW.out.size
        obtain ⟨l1, m1, n1, _⟩ := (T1.out w (Keeps.refl _ _)).parts
        obtain ⟨l2, m2, n2, _⟩ := (T2.out w (Keeps.refl _ _)).parts
        have N1 := hid n1
        have N2 := hid n2
        have L1 := hid l1
        have L2 := hid l2
        clear n1 n2 l1 l2
        go_wp2_with fail
        rw [hk]
        go_region_held3 (fun _ => True) (trivial)
          (first
            | (refine step_append_src rfl (.tmp 63) (.tmp 66) 61 rfl wr.heap.size 25 i0 (.slice none 0 0) 24 Try.underlying61 I0.out Z0.out Z1.out Z2.out rfl (.slice (some ⟨wr.heap.size, 0, none⟩) 0 0) 0 [] rfl O0.out ad' (rs.length - k) (cap - k) ((rs.drop k).map fun r => r.1.1) rfl (by rw [List.length_map]; exact L2.out) N2.out m2 (T2.out _ K0.out).parts.2.2.2 (heads_one _) (by unfold maxLen; omega) (by omega) (by simp) ?_; intro a5 c5 w5 O5 G5
               have hs5 : wr.heap.size ≤ w5.heap.size := Nat.le_trans (size_le_alloc wr _) G5.out.size
               have K5 : Hid (Keeps [] w w5) := K0.out.grown G5.out (by intro g e; right; simp [Value.ownBlock] at e; omega)
               simp only [Nat.zero_add, List.nil_append] at O5 ⊢)
            | (refine step_append_src rfl (.tmp 67) (.tmp 70) 61 rfl wr.heap.size 25 i0 (.slice none 0 0) 24 Try.underlying61 I0.out Z0.out Z1.out Z2.out rfl (.slice a5 (rs.length - k) c5) (rs.length - k) ((rs.drop k).map fun r => r.1.1) rfl O5.out at' k cap ((rs.take k).map fun r => r.1.1) rfl (by rw [List.length_map]; exact L1.out) N1.out m1 (T1.out _ K5.out).parts.2.2.2 (heads_one _) (by unfold maxLen; omega) (by omega) hs5 ?_; intro a6 c6 w6 O6 G6
               have K6 : Hid (Keeps [] w w6) := K5.out.grown G6.out (by intro g e; right; exact Nat.le_trans hws (O5.out.lt g e).1))
            | (go_at_call_of 40 (Value.slice (some ⟨g, o, none⟩) rs.length cap); refine (XL.out _ K7.out).mono ?_; rintro e w8 ⟨a8, c8, rfl, q1, _, q2⟩
               have R8 := hid q1
               have R7' := hid (R7.out.later q2)
               have K8 := hid (K7.out.trans q2)
               clear q1 q2)
            | (go_at_call 40; refine (XR.out _ _ _ _ _ K6.out O6.out).mono ?_; rintro e w7 ⟨a7, c7, rfl, q1, _, q2⟩
               have R7 := hid q1
               have K7 := hid (K6.out.trans q2)
               clear q1 q2)
            | (go_at_call 26; refine (same_self _ _ _ _ R7'.out R8.out (by omega)).mono ?_
               rintro e w9 ⟨rfl, q2⟩
               have K9 := hid (K8.out.trans q2)
               clear q2))
        go_wp2_with fail
        go_ret
        exact ⟨rfl, K9.out⟩
end Go.Proofs.Ytpljhbgnaahmoaa
