/- blocks: May. -/
import Derived.Test.YtamcllcjondcpaaBkB
namespace Go.Proofs.Ytamcllcjondcpaa
open Go.RowKit Go.Shelf
set_option maxRecDepth 100000

set_option maxHeartbeats 1600000 in
theorem may11_any (w : World) (x : Pt) : Calls Try.prog 38 #[ptV x] w fun e w' => e = .returned (.bool (mayP x)) ∧ Keeps [] w w' := by
  have HR := hid (range_new w x.cells 47)
  have KB := hid ((Keeps.refl [] w).alloc (.cells x.cells.toArray 47))
  have HZ := hid (isZero_any (w.alloc (.cells x.cells.toArray 47)) x)
  have hsz : w.heap.size < (w.alloc (.cells x.cells.toArray 47)).heap.size := by simp
  have HS := hid hsz
  clear hsz
  obtain ⟨r, hr⟩ : ∃ r, r = mayP x := ⟨_, rfl⟩
  rw [← hr]
  have HM := hid hr
  clear hr
  cases h0 : zB x with
  | true =>
    rw [h0] at HZ
    have Z := hid h0
    clear h0
    go_enter Try.func38, Try.ntmps38
    go_wp2_with (first | (refine wpList_boxPt rfl _ rfl x rfl ?_) | (refine wpList_loadPt rfl _ rfl w.heap.size 0 rfl x HR.out ?_) | fail)
    refine HZ.out.mono ?_
    rintro e w2 ⟨rfl, k2⟩
    have K2 := hid (KB.out.trans k2)
    clear k2
    go_wp2_with fail
    go_ret
    exact ⟨by rw [HM.out]; unfold mayP; rw [Z.out]; rfl, K2.out⟩
  | false =>
    rw [h0] at HZ
    have Z := hid h0
    clear h0
    cases h0 : btw x.c 0 4 with
    | false =>
      have H0 := hid h0
      clear h0
      go_enter Try.func38, Try.ntmps38
      go_wp2_with (first | (refine wpList_boxPt rfl _ rfl x rfl ?_) | (refine wpList_loadPt rfl _ rfl w.heap.size 0 rfl x HR.out ?_) | fail)
      refine HZ.out.mono ?_
      rintro e w2 ⟨rfl, k2⟩
      have K2 := hid (KB.out.trans k2)
      obtain ⟨c0, c1, c2, c3, c4⟩ := range_at (range_keep HR.out k2 (by simp))
      simp only [Nat.zero_add] at c1 c2 c3 c4
      clear k2
      go_wp2_with fail
      refine (bwithin_as _ x.c 0 4 _ H0.out).mono ?_
      rintro e _ ⟨rfl, rfl⟩
      go_wp2_with fail
      go_ret
      exact ⟨by rw [HM.out]; unfold mayP; rw [Z.out, H0.out]; rfl, K2.out⟩
    | true =>
      have H0 := hid h0
      clear h0
      cases h1 : btw x.l 0 1048576 with
      | false =>
        have H1 := hid h1
        clear h1
        go_enter Try.func38, Try.ntmps38
        go_wp2_with (first | (refine wpList_boxPt rfl _ rfl x rfl ?_) | (refine wpList_loadPt rfl _ rfl w.heap.size 0 rfl x HR.out ?_) | fail)
        refine HZ.out.mono ?_
        rintro e w2 ⟨rfl, k2⟩
        have K2 := hid (KB.out.trans k2)
        obtain ⟨c0, c1, c2, c3, c4⟩ := range_at (range_keep HR.out k2 (by simp))
        simp only [Nat.zero_add] at c1 c2 c3 c4
        clear k2
        go_wp2_with fail
        refine (bwithin_as _ x.c 0 4 _ H0.out).mono ?_
        rintro e _ ⟨rfl, rfl⟩
        go_wp2_with fail
        refine (bwithin_as _ x.l 0 1048576 _ H1.out).mono ?_
        rintro e _ ⟨rfl, rfl⟩
        go_wp2_with fail
        go_ret
        exact ⟨by rw [HM.out]; unfold mayP; rw [Z.out, H0.out, H1.out]; rfl, K2.out⟩
      | true =>
        have H1 := hid h1
        clear h1
        cases h2 : btw x.n 0 1073741824 with
        | false =>
          have H2 := hid h2
          clear h2
          go_enter Try.func38, Try.ntmps38
          go_wp2_with (first | (refine wpList_boxPt rfl _ rfl x rfl ?_) | (refine wpList_loadPt rfl _ rfl w.heap.size 0 rfl x HR.out ?_) | fail)
          refine HZ.out.mono ?_
          rintro e w2 ⟨rfl, k2⟩
          have K2 := hid (KB.out.trans k2)
          obtain ⟨c0, c1, c2, c3, c4⟩ := range_at (range_keep HR.out k2 (by simp))
          simp only [Nat.zero_add] at c1 c2 c3 c4
          clear k2
          go_wp2_with fail
          refine (bwithin_as _ x.c 0 4 _ H0.out).mono ?_
          rintro e _ ⟨rfl, rfl⟩
          go_wp2_with fail
          refine (bwithin_as _ x.l 0 1048576 _ H1.out).mono ?_
          rintro e _ ⟨rfl, rfl⟩
          go_wp2_with fail
          refine (bwithin_as _ x.n 0 1073741824 _ H2.out).mono ?_
          rintro e _ ⟨rfl, rfl⟩
          go_wp2_with fail
          go_ret
          exact ⟨by rw [HM.out]; unfold mayP; rw [Z.out, H0.out, H1.out, H2.out]; rfl, K2.out⟩
        | true =>
          have H2 := hid h2
          clear h2
          cases h3 : btw x.a 0 5999 with
          | false =>
            have H3 := hid h3
            clear h3
            go_enter Try.func38, Try.ntmps38
            go_wp2_with (first | (refine wpList_boxPt rfl _ rfl x rfl ?_) | (refine wpList_loadPt rfl _ rfl w.heap.size 0 rfl x HR.out ?_) | fail)
            refine HZ.out.mono ?_
            rintro e w2 ⟨rfl, k2⟩
            have K2 := hid (KB.out.trans k2)
            obtain ⟨c0, c1, c2, c3, c4⟩ := range_at (range_keep HR.out k2 (by simp))
            simp only [Nat.zero_add] at c1 c2 c3 c4
            clear k2
            go_wp2_with fail
            refine (bwithin_as _ x.c 0 4 _ H0.out).mono ?_
            rintro e _ ⟨rfl, rfl⟩
            go_wp2_with fail
            refine (bwithin_as _ x.l 0 1048576 _ H1.out).mono ?_
            rintro e _ ⟨rfl, rfl⟩
            go_wp2_with fail
            refine (bwithin_as _ x.n 0 1073741824 _ H2.out).mono ?_
            rintro e _ ⟨rfl, rfl⟩
            go_wp2_with fail
            refine (bwithin_as _ x.a 0 5999 _ H3.out).mono ?_
            rintro e _ ⟨rfl, rfl⟩
            go_wp2_with fail
            go_ret
            exact ⟨by rw [HM.out]; unfold mayP; rw [Z.out, H0.out, H1.out, H2.out, H3.out]; rfl, K2.out⟩
          | true =>
            obtain ⟨b1, b2⟩ := btw_is.1 h3
            have H3 := hid h3
            clear h3
            cases h4 : btw x.k 1 (min 64 (6000 - x.a)) with
            | false =>
              have H4 := hid h4
              clear h4
              go_enter Try.func38, Try.ntmps38
              go_wp2_with (first | (refine wpList_boxPt rfl _ rfl x rfl ?_) | (refine wpList_loadPt rfl _ rfl w.heap.size 0 rfl x HR.out ?_) | fail)
              refine HZ.out.mono ?_
              rintro e w2 ⟨rfl, k2⟩
              have K2 := hid (KB.out.trans k2)
              obtain ⟨c0, c1, c2, c3, c4⟩ := range_at (range_keep HR.out k2 (by simp))
              simp only [Nat.zero_add] at c1 c2 c3 c4
              clear k2
              go_wp2_with fail
              refine (bwithin_as _ x.c 0 4 _ H0.out).mono ?_
              rintro e _ ⟨rfl, rfl⟩
              go_wp2_with fail
              refine (bwithin_as _ x.l 0 1048576 _ H1.out).mono ?_
              rintro e _ ⟨rfl, rfl⟩
              go_wp2_with fail
              refine (bwithin_as _ x.n 0 1073741824 _ H2.out).mono ?_
              rintro e _ ⟨rfl, rfl⟩
              go_wp2_with fail
              refine (bwithin_as _ x.a 0 5999 _ H3.out).mono ?_
              rintro e _ ⟨rfl, rfl⟩
              go_wp2_with fail
              refine (bwithin_as _ x.k 1 (min 64 (6000 - x.a)) _ H4.out).mono ?_
              rintro e _ ⟨rfl, rfl⟩
              go_wp2_with fail
              go_ret
              exact ⟨by rw [HM.out]; unfold mayP; rw [Z.out, H0.out, H1.out, H2.out, H3.out, H4.out]; rfl, K2.out⟩
            | true =>
              have H4 := hid h4
              clear h4
              go_enter Try.func38, Try.ntmps38
              go_wp2_with (first | (refine wpList_boxPt rfl _ rfl x rfl ?_) | (refine wpList_loadPt rfl _ rfl w.heap.size 0 rfl x HR.out ?_) | fail)
              refine HZ.out.mono ?_
              rintro e w2 ⟨rfl, k2⟩
              have K2 := hid (KB.out.trans k2)
              obtain ⟨c0, c1, c2, c3, c4⟩ := range_at (range_keep HR.out k2 (by simp))
              simp only [Nat.zero_add] at c1 c2 c3 c4
              clear k2
              go_wp2_with fail
              refine (bwithin_as _ x.c 0 4 _ H0.out).mono ?_
              rintro e _ ⟨rfl, rfl⟩
              go_wp2_with fail
              refine (bwithin_as _ x.l 0 1048576 _ H1.out).mono ?_
              rintro e _ ⟨rfl, rfl⟩
              go_wp2_with fail
              refine (bwithin_as _ x.n 0 1073741824 _ H2.out).mono ?_
              rintro e _ ⟨rfl, rfl⟩
              go_wp2_with fail
              refine (bwithin_as _ x.a 0 5999 _ H3.out).mono ?_
              rintro e _ ⟨rfl, rfl⟩
              go_wp2_with fail
              refine (bwithin_as _ x.k 1 (min 64 (6000 - x.a)) _ H4.out).mono ?_
              rintro e _ ⟨rfl, rfl⟩
              go_wp2_with fail
              go_ret
              exact ⟨by rw [HM.out]; unfold mayP; rw [Z.out, H0.out, H1.out, H2.out, H3.out, H4.out]; rfl, K2.out⟩
end Go.Proofs.Ytamcllcjondcpaa
