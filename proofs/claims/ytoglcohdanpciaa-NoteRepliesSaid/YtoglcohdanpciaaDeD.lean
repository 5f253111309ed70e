/- delta: a delta is written, by the code and by the reference. -/
import Derived.Test.YtoglcohdanpciaaDeA
import Derived.Test.YtoglcohdanpciaaBkQ
namespace Go.Proofs.Ytoglcohdanpciaa
open Go.RowKit Go.Shelf
set_option maxRecDepth 100000
set_option linter.unusedSimpArgs false

def headN (x : Dl) (s : PSt) : PSt := penNum x.s 2 (penNum x.b 1 (penNum x.i 2 (penNum x.d 1 s)))
def rheadN (x : Dl) (s : PSt) : PSt := refNum x.s 2 (refNum x.b 1 (refNum x.i 2 (refNum x.d 1 s)))
def putD (x : Dl) (s : PSt) : PSt := if x.d = 1 then putP x.t (headN x s) else if x.d = 3 then putP x.t (putP x.o (headN x s)) else headN x s
def rputD (x : Dl) (s : PSt) : PSt := if x.d = 1 then rputP x.t (rheadN x s) else if x.d = 3 then rputP x.t (rputP x.o (rheadN x s)) else rheadN x s

set_option maxHeartbeats 6400000 in
theorem dPut_any (w : World) (B p : Nat) (v : Value) (s : PSt) (x : Dl) (P : PenAt w B 172 5 p v s.1 s.2) (hB : B ≤ w.heap.size) :
    Calls Try.prog 143 #[.pointer (some ⟨p, 0, none⟩), dlV x] w (PenPost w B 172 5 p v (putD x s)) := by
  have ka : Keeps [] w (w.alloc (.cells x.cells.toArray 149)) := (Keeps.refl [] w).alloc _
  have KA := hid ka
  have DA := hid (dl_range (range_new w x.cells 149))
  have PA := hid (P.keep ka (by simp) (by simp))
  have LT := hid (show w.heap.size ∉ p :: v.ownBlock.toList from fun h => Nat.lt_irrefl _ (pen_lt P _ h))
  have HB1 := hid (show B ≤ (w.alloc (.cells x.cells.toArray 149)).heap.size from Nat.le_trans hB ka.size)
  obtain ⟨s1, e1⟩ : ∃ t, t = penNum x.d 1 s := ⟨_, rfl⟩
  obtain ⟨s2, e2⟩ : ∃ t, t = penNum x.i 2 s1 := ⟨_, rfl⟩
  obtain ⟨s3, e3⟩ : ∃ t, t = penNum x.b 1 s2 := ⟨_, rfl⟩
  obtain ⟨s4, e4⟩ : ∃ t, t = penNum x.s 2 s3 := ⟨_, rfl⟩
  have EH : Hid (headN x s = s4) := hid (by unfold headN; rw [e4, e3, e2, e1])
  have E1 := hid e1.symm
  have E2 := hid e2.symm
  have E3 := hid e3.symm
  have E4 := hid e4.symm
  have HS := hid (show w.heap.size < (w.alloc (.cells x.cells.toArray 149)).heap.size by simp)
  have c0 := DA.out.c0
  clear e1 e2 e3 e4 ka P hB
  by_cases h1 : x.d = 1
  · have d1 : (x.d == 1) = true := by simpa using h1
    have E : Hid (putD x s = putP x.t s4) := hid (by unfold putD; rw [if_pos h1, EH.out])
    clear h1
    go_enter Try.func143, Try.ntmps143
    go_wp2_with (first | (refine wpList_is rfl _ _ (exec_box 149 _ x.cells.toArray rfl rfl) ?_) | fail)
    clear c0
    generalize w.alloc (.cells x.cells.toArray 149) = w1 at KA DA PA HB1 HS ⊢
    have HN : Calls Try.prog 106 #[.pointer (some ⟨p, 0, none⟩), .int .i64 x.d, .int .i64 1] w1 (PenPost w1 B 172 5 p v s1) := by
      have := num_any w1 B p v s.1 s.2 x.d 1 PA.out HB1.out
      rw [show penNum x.d 1 (s.1, s.2) = s1 from E1.out] at this
      exact this
    refine HN.mono ?_
    intro e wq1 hq
    obtain ⟨rfl, v1, p1, k1, n1⟩ := pen_step (Keeps.refl _ _) (Or.inl rfl) hq
    have P1 := hid p1
    have K1 := hid k1
    have N1 := hid n1
    have D1 := hid (DA.out.keep k1 LT.out)
    clear hq p1 k1 n1 HN
    have cc := D1.out.c1
    simp only [Nat.zero_add] at cc
    go_wp2_with fail
    clear cc
    have HN : Calls Try.prog 106 #[.pointer (some ⟨p, 0, none⟩), .int .i64 x.i, .int .i64 2] wq1 (PenPost wq1 B 172 5 p v1 s2) := by
      have := num_any wq1 B p v1 s1.1 s1.2 x.i 2 P1.out (Nat.le_trans HB1.out K1.out.size)
      rw [show penNum x.i 2 (s1.1, s1.2) = s2 from E2.out] at this
      exact this
    refine HN.mono ?_
    intro e wq2 hq
    obtain ⟨rfl, v2, p2, k2, n2⟩ := pen_step K1.out N1.out hq
    have P2 := hid p2
    have K2 := hid k2
    have N2 := hid n2
    have D2 := hid (DA.out.keep k2 LT.out)
    clear hq p2 k2 n2 HN
    have cc := D2.out.c2
    simp only [Nat.zero_add] at cc
    go_wp2_with fail
    clear cc
    have HN : Calls Try.prog 106 #[.pointer (some ⟨p, 0, none⟩), .int .i64 x.b, .int .i64 1] wq2 (PenPost wq2 B 172 5 p v2 s3) := by
      have := num_any wq2 B p v2 s2.1 s2.2 x.b 1 P2.out (Nat.le_trans HB1.out K2.out.size)
      rw [show penNum x.b 1 (s2.1, s2.2) = s3 from E3.out] at this
      exact this
    refine HN.mono ?_
    intro e wq3 hq
    obtain ⟨rfl, v3, p3, k3, n3⟩ := pen_step K2.out N2.out hq
    have P3 := hid p3
    have K3 := hid k3
    have N3 := hid n3
    have D3 := hid (DA.out.keep k3 LT.out)
    clear hq p3 k3 n3 HN
    have cc := D3.out.c3
    simp only [Nat.zero_add] at cc
    go_wp2_with fail
    clear cc
    have HN : Calls Try.prog 106 #[.pointer (some ⟨p, 0, none⟩), .int .i64 x.s, .int .i64 2] wq3 (PenPost wq3 B 172 5 p v3 s4) := by
      have := num_any wq3 B p v3 s3.1 s3.2 x.s 2 P3.out (Nat.le_trans HB1.out K3.out.size)
      rw [show penNum x.s 2 (s3.1, s3.2) = s4 from E4.out] at this
      exact this
    refine HN.mono ?_
    intro e wq4 hq
    obtain ⟨rfl, v4, p4, k4, n4⟩ := pen_step K3.out N3.out hq
    have P4 := hid p4
    have K4 := hid k4
    have N4 := hid n4
    have D4 := hid (DA.out.keep k4 LT.out)
    clear hq p4 k4 n4 HN
    have cc := D4.out.c0
    go_wp2_with (first | (refine wpList_isW rfl _ _ (exec_load _ _ _ _ rfl rfl (loadPt_run _ w.heap.size (0 + 4) x.t D4.out.t)) ?_) | fail)
    refine (zPutPtr_any _ B p v4 s4 x.t P4.out (Nat.le_trans HB1.out K4.out.size)).mono ?_
    intro e wq5 hq
    obtain ⟨rfl, v5, p5, k5, n5⟩ := pen_step K4.out N4.out hq
    have P5 := hid p5
    have K5 := hid k5
    have N5 := hid n5
    have D5 := hid (DA.out.keep k5 LT.out)
    clear hq p5 k5 n5
    go_wp2_with fail
    go_end0
    rw [E.out]
    exact PenPost.since KA.out P5.out K5.out N5.out
  · have d1 : (x.d == 1) = false := by simpa using h1
    by_cases h3 : x.d = 3
    · have d3 : (x.d == 3) = true := by simpa using h3
      have E : Hid (putD x s = putP x.t (putP x.o s4)) := hid (by unfold putD; rw [if_neg h1, if_pos h3, EH.out])
      clear h1 h3
      go_enter Try.func143, Try.ntmps143
      go_wp2_with (first | (refine wpList_is rfl _ _ (exec_box 149 _ x.cells.toArray rfl rfl) ?_) | fail)
      clear c0
      generalize w.alloc (.cells x.cells.toArray 149) = w1 at KA DA PA HB1 HS ⊢
      have HN : Calls Try.prog 106 #[.pointer (some ⟨p, 0, none⟩), .int .i64 x.d, .int .i64 1] w1 (PenPost w1 B 172 5 p v s1) := by
        have := num_any w1 B p v s.1 s.2 x.d 1 PA.out HB1.out
        rw [show penNum x.d 1 (s.1, s.2) = s1 from E1.out] at this
        exact this
      refine HN.mono ?_
      intro e wq1 hq
      obtain ⟨rfl, v1, p1, k1, n1⟩ := pen_step (Keeps.refl _ _) (Or.inl rfl) hq
      have P1 := hid p1
      have K1 := hid k1
      have N1 := hid n1
      have D1 := hid (DA.out.keep k1 LT.out)
      clear hq p1 k1 n1 HN
      have cc := D1.out.c1
      simp only [Nat.zero_add] at cc
      go_wp2_with fail
      clear cc
      have HN : Calls Try.prog 106 #[.pointer (some ⟨p, 0, none⟩), .int .i64 x.i, .int .i64 2] wq1 (PenPost wq1 B 172 5 p v1 s2) := by
        have := num_any wq1 B p v1 s1.1 s1.2 x.i 2 P1.out (Nat.le_trans HB1.out K1.out.size)
        rw [show penNum x.i 2 (s1.1, s1.2) = s2 from E2.out] at this
        exact this
      refine HN.mono ?_
      intro e wq2 hq
      obtain ⟨rfl, v2, p2, k2, n2⟩ := pen_step K1.out N1.out hq
      have P2 := hid p2
      have K2 := hid k2
      have N2 := hid n2
      have D2 := hid (DA.out.keep k2 LT.out)
      clear hq p2 k2 n2 HN
      have cc := D2.out.c2
      simp only [Nat.zero_add] at cc
      go_wp2_with fail
      clear cc
      have HN : Calls Try.prog 106 #[.pointer (some ⟨p, 0, none⟩), .int .i64 x.b, .int .i64 1] wq2 (PenPost wq2 B 172 5 p v2 s3) := by
        have := num_any wq2 B p v2 s2.1 s2.2 x.b 1 P2.out (Nat.le_trans HB1.out K2.out.size)
        rw [show penNum x.b 1 (s2.1, s2.2) = s3 from E3.out] at this
        exact this
      refine HN.mono ?_
      intro e wq3 hq
      obtain ⟨rfl, v3, p3, k3, n3⟩ := pen_step K2.out N2.out hq
      have P3 := hid p3
      have K3 := hid k3
      have N3 := hid n3
      have D3 := hid (DA.out.keep k3 LT.out)
      clear hq p3 k3 n3 HN
      have cc := D3.out.c3
      simp only [Nat.zero_add] at cc
      go_wp2_with fail
      clear cc
      have HN : Calls Try.prog 106 #[.pointer (some ⟨p, 0, none⟩), .int .i64 x.s, .int .i64 2] wq3 (PenPost wq3 B 172 5 p v3 s4) := by
        have := num_any wq3 B p v3 s3.1 s3.2 x.s 2 P3.out (Nat.le_trans HB1.out K3.out.size)
        rw [show penNum x.s 2 (s3.1, s3.2) = s4 from E4.out] at this
        exact this
      refine HN.mono ?_
      intro e wq4 hq
      obtain ⟨rfl, v4, p4, k4, n4⟩ := pen_step K3.out N3.out hq
      have P4 := hid p4
      have K4 := hid k4
      have N4 := hid n4
      have D4 := hid (DA.out.keep k4 LT.out)
      clear hq p4 k4 n4 HN
      have cc := D4.out.c0
      go_wp2_with (first | (refine wpList_isW rfl _ _ (exec_load _ _ _ _ rfl rfl (loadPt_run _ w.heap.size (0 + 9) x.o D4.out.o)) ?_) | fail)
      refine (zPutPtr_any _ B p v4 s4 x.o P4.out (Nat.le_trans HB1.out K4.out.size)).mono ?_
      intro e wq5 hq
      obtain ⟨rfl, v5, p5, k5, n5⟩ := pen_step K4.out N4.out hq
      have P5 := hid p5
      have K5 := hid k5
      have N5 := hid n5
      have D5 := hid (DA.out.keep k5 LT.out)
      clear hq p5 k5 n5
      go_wp2_with (first | (refine wpList_isW rfl _ _ (exec_load _ _ _ _ rfl rfl (loadPt_run _ w.heap.size (0 + 4) x.t D5.out.t)) ?_) | fail)
      refine (zPutPtr_any _ B p v5 (putP x.o s4) x.t P5.out (Nat.le_trans HB1.out K5.out.size)).mono ?_
      intro e wq6 hq
      obtain ⟨rfl, v6, p6, k6, n6⟩ := pen_step K5.out N5.out hq
      have P6 := hid p6
      have K6 := hid k6
      have N6 := hid n6
      have D6 := hid (DA.out.keep k6 LT.out)
      clear hq p6 k6 n6
      go_wp2_with fail
      go_end0
      rw [E.out]
      exact PenPost.since KA.out P6.out K6.out N6.out
    · have d3 : (x.d == 3) = false := by simpa using h3
      have E : Hid (putD x s = s4) := hid (by unfold putD; rw [if_neg h1, if_neg h3, EH.out])
      clear h1 h3
      go_enter Try.func143, Try.ntmps143
      go_wp2_with (first | (refine wpList_is rfl _ _ (exec_box 149 _ x.cells.toArray rfl rfl) ?_) | fail)
      clear c0
      generalize w.alloc (.cells x.cells.toArray 149) = w1 at KA DA PA HB1 HS ⊢
      have HN : Calls Try.prog 106 #[.pointer (some ⟨p, 0, none⟩), .int .i64 x.d, .int .i64 1] w1 (PenPost w1 B 172 5 p v s1) := by
        have := num_any w1 B p v s.1 s.2 x.d 1 PA.out HB1.out
        rw [show penNum x.d 1 (s.1, s.2) = s1 from E1.out] at this
        exact this
      refine HN.mono ?_
      intro e wq1 hq
      obtain ⟨rfl, v1, p1, k1, n1⟩ := pen_step (Keeps.refl _ _) (Or.inl rfl) hq
      have P1 := hid p1
      have K1 := hid k1
      have N1 := hid n1
      have D1 := hid (DA.out.keep k1 LT.out)
      clear hq p1 k1 n1 HN
      have cc := D1.out.c1
      simp only [Nat.zero_add] at cc
      go_wp2_with fail
      clear cc
      have HN : Calls Try.prog 106 #[.pointer (some ⟨p, 0, none⟩), .int .i64 x.i, .int .i64 2] wq1 (PenPost wq1 B 172 5 p v1 s2) := by
        have := num_any wq1 B p v1 s1.1 s1.2 x.i 2 P1.out (Nat.le_trans HB1.out K1.out.size)
        rw [show penNum x.i 2 (s1.1, s1.2) = s2 from E2.out] at this
        exact this
      refine HN.mono ?_
      intro e wq2 hq
      obtain ⟨rfl, v2, p2, k2, n2⟩ := pen_step K1.out N1.out hq
      have P2 := hid p2
      have K2 := hid k2
      have N2 := hid n2
      have D2 := hid (DA.out.keep k2 LT.out)
      clear hq p2 k2 n2 HN
      have cc := D2.out.c2
      simp only [Nat.zero_add] at cc
      go_wp2_with fail
      clear cc
      have HN : Calls Try.prog 106 #[.pointer (some ⟨p, 0, none⟩), .int .i64 x.b, .int .i64 1] wq2 (PenPost wq2 B 172 5 p v2 s3) := by
        have := num_any wq2 B p v2 s2.1 s2.2 x.b 1 P2.out (Nat.le_trans HB1.out K2.out.size)
        rw [show penNum x.b 1 (s2.1, s2.2) = s3 from E3.out] at this
        exact this
      refine HN.mono ?_
      intro e wq3 hq
      obtain ⟨rfl, v3, p3, k3, n3⟩ := pen_step K2.out N2.out hq
      have P3 := hid p3
      have K3 := hid k3
      have N3 := hid n3
      have D3 := hid (DA.out.keep k3 LT.out)
      clear hq p3 k3 n3 HN
      have cc := D3.out.c3
      simp only [Nat.zero_add] at cc
      go_wp2_with fail
      clear cc
      have HN : Calls Try.prog 106 #[.pointer (some ⟨p, 0, none⟩), .int .i64 x.s, .int .i64 2] wq3 (PenPost wq3 B 172 5 p v3 s4) := by
        have := num_any wq3 B p v3 s3.1 s3.2 x.s 2 P3.out (Nat.le_trans HB1.out K3.out.size)
        rw [show penNum x.s 2 (s3.1, s3.2) = s4 from E4.out] at this
        exact this
      refine HN.mono ?_
      intro e wq4 hq
      obtain ⟨rfl, v4, p4, k4, n4⟩ := pen_step K3.out N3.out hq
      have P4 := hid p4
      have K4 := hid k4
      have N4 := hid n4
      have D4 := hid (DA.out.keep k4 LT.out)
      clear hq p4 k4 n4 HN
      have cc := D4.out.c0
      go_wp2_with fail
      go_end0
      rw [E.out]
      exact PenPost.since KA.out P4.out K4.out N4.out
set_option maxHeartbeats 6400000 in
theorem rdPut_any (w : World) (B p : Nat) (v : Value) (s : PSt) (x : Dl) (P : PenAt w B 151 5 p v s.1 s.2) (hB : B ≤ w.heap.size) :
    Calls Try.prog 91 #[.pointer (some ⟨p, 0, none⟩), dlV x] w (PenPost w B 151 5 p v (rputD x s)) := by
  have ka : Keeps [] w (w.alloc (.cells x.cells.toArray 149)) := (Keeps.refl [] w).alloc _
  have KA := hid ka
  have DA := hid (dl_range (range_new w x.cells 149))
  have PA := hid (P.keep ka (by simp) (by simp))
  have LT := hid (show w.heap.size ∉ p :: v.ownBlock.toList from fun h => Nat.lt_irrefl _ (pen_lt P _ h))
  have HB1 := hid (show B ≤ (w.alloc (.cells x.cells.toArray 149)).heap.size from Nat.le_trans hB ka.size)
  obtain ⟨s1, e1⟩ : ∃ t, t = refNum x.d 1 s := ⟨_, rfl⟩
  obtain ⟨s2, e2⟩ : ∃ t, t = refNum x.i 2 s1 := ⟨_, rfl⟩
  obtain ⟨s3, e3⟩ : ∃ t, t = refNum x.b 1 s2 := ⟨_, rfl⟩
  obtain ⟨s4, e4⟩ : ∃ t, t = refNum x.s 2 s3 := ⟨_, rfl⟩
  have EH : Hid (rheadN x s = s4) := hid (by unfold rheadN; rw [e4, e3, e2, e1])
  have E1 := hid e1.symm
  have E2 := hid e2.symm
  have E3 := hid e3.symm
  have E4 := hid e4.symm
  have HS := hid (show w.heap.size < (w.alloc (.cells x.cells.toArray 149)).heap.size by simp)
  have c0 := DA.out.c0
  clear e1 e2 e3 e4 ka P hB
  by_cases h1 : x.d = 1
  · have d1 : (x.d == 1) = true := by simpa using h1
    have E : Hid (rputD x s = rputP x.t s4) := hid (by unfold rputD; rw [if_pos h1, EH.out])
    clear h1
    go_enter Try.func91, Try.ntmps91
    go_wp2_with (first | (refine wpList_is rfl _ _ (exec_box 149 _ x.cells.toArray rfl rfl) ?_) | fail)
    clear c0
    generalize w.alloc (.cells x.cells.toArray 149) = w1 at KA DA PA HB1 HS ⊢
    have HN : Calls Try.prog 87 #[.pointer (some ⟨p, 0, none⟩), .int .i64 x.d, .int .i64 1] w1 (PenPost w1 B 151 5 p v s1) := by
      have := rnum_any w1 B p v s.1 s.2 x.d 1 PA.out HB1.out
      rw [show refNum x.d 1 (s.1, s.2) = s1 from E1.out] at this
      exact this
    refine HN.mono ?_
    intro e wq1 hq
    obtain ⟨rfl, v1, p1, k1, n1⟩ := pen_step (Keeps.refl _ _) (Or.inl rfl) hq
    have P1 := hid p1
    have K1 := hid k1
    have N1 := hid n1
    have D1 := hid (DA.out.keep k1 LT.out)
    clear hq p1 k1 n1 HN
    have cc := D1.out.c1
    simp only [Nat.zero_add] at cc
    go_wp2_with fail
    clear cc
    have HN : Calls Try.prog 87 #[.pointer (some ⟨p, 0, none⟩), .int .i64 x.i, .int .i64 2] wq1 (PenPost wq1 B 151 5 p v1 s2) := by
      have := rnum_any wq1 B p v1 s1.1 s1.2 x.i 2 P1.out (Nat.le_trans HB1.out K1.out.size)
      rw [show refNum x.i 2 (s1.1, s1.2) = s2 from E2.out] at this
      exact this
    refine HN.mono ?_
    intro e wq2 hq
    obtain ⟨rfl, v2, p2, k2, n2⟩ := pen_step K1.out N1.out hq
    have P2 := hid p2
    have K2 := hid k2
    have N2 := hid n2
    have D2 := hid (DA.out.keep k2 LT.out)
    clear hq p2 k2 n2 HN
    have cc := D2.out.c2
    simp only [Nat.zero_add] at cc
    go_wp2_with fail
    clear cc
    have HN : Calls Try.prog 87 #[.pointer (some ⟨p, 0, none⟩), .int .i64 x.b, .int .i64 1] wq2 (PenPost wq2 B 151 5 p v2 s3) := by
      have := rnum_any wq2 B p v2 s2.1 s2.2 x.b 1 P2.out (Nat.le_trans HB1.out K2.out.size)
      rw [show refNum x.b 1 (s2.1, s2.2) = s3 from E3.out] at this
      exact this
    refine HN.mono ?_
    intro e wq3 hq
    obtain ⟨rfl, v3, p3, k3, n3⟩ := pen_step K2.out N2.out hq
    have P3 := hid p3
    have K3 := hid k3
    have N3 := hid n3
    have D3 := hid (DA.out.keep k3 LT.out)
    clear hq p3 k3 n3 HN
    have cc := D3.out.c3
    simp only [Nat.zero_add] at cc
    go_wp2_with fail
    clear cc
    have HN : Calls Try.prog 87 #[.pointer (some ⟨p, 0, none⟩), .int .i64 x.s, .int .i64 2] wq3 (PenPost wq3 B 151 5 p v3 s4) := by
      have := rnum_any wq3 B p v3 s3.1 s3.2 x.s 2 P3.out (Nat.le_trans HB1.out K3.out.size)
      rw [show refNum x.s 2 (s3.1, s3.2) = s4 from E4.out] at this
      exact this
    refine HN.mono ?_
    intro e wq4 hq
    obtain ⟨rfl, v4, p4, k4, n4⟩ := pen_step K3.out N3.out hq
    have P4 := hid p4
    have K4 := hid k4
    have N4 := hid n4
    have D4 := hid (DA.out.keep k4 LT.out)
    clear hq p4 k4 n4 HN
    have cc := D4.out.c0
    go_wp2_with (first | (refine wpList_isW rfl _ _ (exec_load _ _ _ _ rfl rfl (loadPt_run _ w.heap.size (0 + 4) x.t D4.out.t)) ?_) | fail)
    refine (rPutPtr_any _ B p v4 s4 x.t P4.out (Nat.le_trans HB1.out K4.out.size)).mono ?_
    intro e wq5 hq
    obtain ⟨rfl, v5, p5, k5, n5⟩ := pen_step K4.out N4.out hq
    have P5 := hid p5
    have K5 := hid k5
    have N5 := hid n5
    have D5 := hid (DA.out.keep k5 LT.out)
    clear hq p5 k5 n5
    go_wp2_with fail
    go_end0
    rw [E.out]
    exact PenPost.since KA.out P5.out K5.out N5.out
  · have d1 : (x.d == 1) = false := by simpa using h1
    by_cases h3 : x.d = 3
    · have d3 : (x.d == 3) = true := by simpa using h3
      have E : Hid (rputD x s = rputP x.t (rputP x.o s4)) := hid (by unfold rputD; rw [if_neg h1, if_pos h3, EH.out])
      clear h1 h3
      go_enter Try.func91, Try.ntmps91
      go_wp2_with (first | (refine wpList_is rfl _ _ (exec_box 149 _ x.cells.toArray rfl rfl) ?_) | fail)
      clear c0
      generalize w.alloc (.cells x.cells.toArray 149) = w1 at KA DA PA HB1 HS ⊢
      have HN : Calls Try.prog 87 #[.pointer (some ⟨p, 0, none⟩), .int .i64 x.d, .int .i64 1] w1 (PenPost w1 B 151 5 p v s1) := by
        have := rnum_any w1 B p v s.1 s.2 x.d 1 PA.out HB1.out
        rw [show refNum x.d 1 (s.1, s.2) = s1 from E1.out] at this
        exact this
      refine HN.mono ?_
      intro e wq1 hq
      obtain ⟨rfl, v1, p1, k1, n1⟩ := pen_step (Keeps.refl _ _) (Or.inl rfl) hq
      have P1 := hid p1
      have K1 := hid k1
      have N1 := hid n1
      have D1 := hid (DA.out.keep k1 LT.out)
      clear hq p1 k1 n1 HN
      have cc := D1.out.c1
      simp only [Nat.zero_add] at cc
      go_wp2_with fail
      clear cc
      have HN : Calls Try.prog 87 #[.pointer (some ⟨p, 0, none⟩), .int .i64 x.i, .int .i64 2] wq1 (PenPost wq1 B 151 5 p v1 s2) := by
        have := rnum_any wq1 B p v1 s1.1 s1.2 x.i 2 P1.out (Nat.le_trans HB1.out K1.out.size)
        rw [show refNum x.i 2 (s1.1, s1.2) = s2 from E2.out] at this
        exact this
      refine HN.mono ?_
      intro e wq2 hq
      obtain ⟨rfl, v2, p2, k2, n2⟩ := pen_step K1.out N1.out hq
      have P2 := hid p2
      have K2 := hid k2
      have N2 := hid n2
      have D2 := hid (DA.out.keep k2 LT.out)
      clear hq p2 k2 n2 HN
      have cc := D2.out.c2
      simp only [Nat.zero_add] at cc
      go_wp2_with fail
      clear cc
      have HN : Calls Try.prog 87 #[.pointer (some ⟨p, 0, none⟩), .int .i64 x.b, .int .i64 1] wq2 (PenPost wq2 B 151 5 p v2 s3) := by
        have := rnum_any wq2 B p v2 s2.1 s2.2 x.b 1 P2.out (Nat.le_trans HB1.out K2.out.size)
        rw [show refNum x.b 1 (s2.1, s2.2) = s3 from E3.out] at this
        exact this
      refine HN.mono ?_
      intro e wq3 hq
      obtain ⟨rfl, v3, p3, k3, n3⟩ := pen_step K2.out N2.out hq
      have P3 := hid p3
      have K3 := hid k3
      have N3 := hid n3
      have D3 := hid (DA.out.keep k3 LT.out)
      clear hq p3 k3 n3 HN
      have cc := D3.out.c3
      simp only [Nat.zero_add] at cc
      go_wp2_with fail
      clear cc
      have HN : Calls Try.prog 87 #[.pointer (some ⟨p, 0, none⟩), .int .i64 x.s, .int .i64 2] wq3 (PenPost wq3 B 151 5 p v3 s4) := by
        have := rnum_any wq3 B p v3 s3.1 s3.2 x.s 2 P3.out (Nat.le_trans HB1.out K3.out.size)
        rw [show refNum x.s 2 (s3.1, s3.2) = s4 from E4.out] at this
        exact this
      refine HN.mono ?_
      intro e wq4 hq
      obtain ⟨rfl, v4, p4, k4, n4⟩ := pen_step K3.out N3.out hq
      have P4 := hid p4
      have K4 := hid k4
      have N4 := hid n4
      have D4 := hid (DA.out.keep k4 LT.out)
      clear hq p4 k4 n4 HN
      have cc := D4.out.c0
      go_wp2_with (first | (refine wpList_isW rfl _ _ (exec_load _ _ _ _ rfl rfl (loadPt_run _ w.heap.size (0 + 9) x.o D4.out.o)) ?_) | fail)
      refine (rPutPtr_any _ B p v4 s4 x.o P4.out (Nat.le_trans HB1.out K4.out.size)).mono ?_
      intro e wq5 hq
      obtain ⟨rfl, v5, p5, k5, n5⟩ := pen_step K4.out N4.out hq
      have P5 := hid p5
      have K5 := hid k5
      have N5 := hid n5
      have D5 := hid (DA.out.keep k5 LT.out)
      clear hq p5 k5 n5
      go_wp2_with (first | (refine wpList_isW rfl _ _ (exec_load _ _ _ _ rfl rfl (loadPt_run _ w.heap.size (0 + 4) x.t D5.out.t)) ?_) | fail)
      refine (rPutPtr_any _ B p v5 (rputP x.o s4) x.t P5.out (Nat.le_trans HB1.out K5.out.size)).mono ?_
      intro e wq6 hq
      obtain ⟨rfl, v6, p6, k6, n6⟩ := pen_step K5.out N5.out hq
      have P6 := hid p6
      have K6 := hid k6
      have N6 := hid n6
      have D6 := hid (DA.out.keep k6 LT.out)
      clear hq p6 k6 n6
      go_wp2_with fail
      go_end0
      rw [E.out]
      exact PenPost.since KA.out P6.out K6.out N6.out
    · have d3 : (x.d == 3) = false := by simpa using h3
      have E : Hid (rputD x s = s4) := hid (by unfold rputD; rw [if_neg h1, if_neg h3, EH.out])
      clear h1 h3
      go_enter Try.func91, Try.ntmps91
      go_wp2_with (first | (refine wpList_is rfl _ _ (exec_box 149 _ x.cells.toArray rfl rfl) ?_) | fail)
      clear c0
      generalize w.alloc (.cells x.cells.toArray 149) = w1 at KA DA PA HB1 HS ⊢
      have HN : Calls Try.prog 87 #[.pointer (some ⟨p, 0, none⟩), .int .i64 x.d, .int .i64 1] w1 (PenPost w1 B 151 5 p v s1) := by
        have := rnum_any w1 B p v s.1 s.2 x.d 1 PA.out HB1.out
        rw [show refNum x.d 1 (s.1, s.2) = s1 from E1.out] at this
        exact this
      refine HN.mono ?_
      intro e wq1 hq
      obtain ⟨rfl, v1, p1, k1, n1⟩ := pen_step (Keeps.refl _ _) (Or.inl rfl) hq
      have P1 := hid p1
      have K1 := hid k1
      have N1 := hid n1
      have D1 := hid (DA.out.keep k1 LT.out)
      clear hq p1 k1 n1 HN
      have cc := D1.out.c1
      simp only [Nat.zero_add] at cc
      go_wp2_with fail
      clear cc
      have HN : Calls Try.prog 87 #[.pointer (some ⟨p, 0, none⟩), .int .i64 x.i, .int .i64 2] wq1 (PenPost wq1 B 151 5 p v1 s2) := by
        have := rnum_any wq1 B p v1 s1.1 s1.2 x.i 2 P1.out (Nat.le_trans HB1.out K1.out.size)
        rw [show refNum x.i 2 (s1.1, s1.2) = s2 from E2.out] at this
        exact this
      refine HN.mono ?_
      intro e wq2 hq
      obtain ⟨rfl, v2, p2, k2, n2⟩ := pen_step K1.out N1.out hq
      have P2 := hid p2
      have K2 := hid k2
      have N2 := hid n2
      have D2 := hid (DA.out.keep k2 LT.out)
      clear hq p2 k2 n2 HN
      have cc := D2.out.c2
      simp only [Nat.zero_add] at cc
      go_wp2_with fail
      clear cc
      have HN : Calls Try.prog 87 #[.pointer (some ⟨p, 0, none⟩), .int .i64 x.b, .int .i64 1] wq2 (PenPost wq2 B 151 5 p v2 s3) := by
        have := rnum_any wq2 B p v2 s2.1 s2.2 x.b 1 P2.out (Nat.le_trans HB1.out K2.out.size)
        rw [show refNum x.b 1 (s2.1, s2.2) = s3 from E3.out] at this
        exact this
      refine HN.mono ?_
      intro e wq3 hq
      obtain ⟨rfl, v3, p3, k3, n3⟩ := pen_step K2.out N2.out hq
      have P3 := hid p3
      have K3 := hid k3
      have N3 := hid n3
      have D3 := hid (DA.out.keep k3 LT.out)
      clear hq p3 k3 n3 HN
      have cc := D3.out.c3
      simp only [Nat.zero_add] at cc
      go_wp2_with fail
      clear cc
      have HN : Calls Try.prog 87 #[.pointer (some ⟨p, 0, none⟩), .int .i64 x.s, .int .i64 2] wq3 (PenPost wq3 B 151 5 p v3 s4) := by
        have := rnum_any wq3 B p v3 s3.1 s3.2 x.s 2 P3.out (Nat.le_trans HB1.out K3.out.size)
        rw [show refNum x.s 2 (s3.1, s3.2) = s4 from E4.out] at this
        exact this
      refine HN.mono ?_
      intro e wq4 hq
      obtain ⟨rfl, v4, p4, k4, n4⟩ := pen_step K3.out N3.out hq
      have P4 := hid p4
      have K4 := hid k4
      have N4 := hid n4
      have D4 := hid (DA.out.keep k4 LT.out)
      clear hq p4 k4 n4 HN
      have cc := D4.out.c0
      go_wp2_with fail
      go_end0
      rw [E.out]
      exact PenPost.since KA.out P4.out K4.out N4.out
end Go.Proofs.Ytoglcohdanpciaa
