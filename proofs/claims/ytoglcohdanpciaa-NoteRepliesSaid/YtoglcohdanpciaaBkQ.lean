/- blocks: pointers and maps are written, by the code and by the reference. -/
import Derived.Test.YtoglcohdanpciaaJE
import Derived.Test.YtoglcohdanpciaaJB2
import Derived.Test.YtoglcohdanpciaaJP
import Derived.Test.YtoglcohdanpciaaJR
namespace Go.Proofs.Ytoglcohdanpciaa
open Go.RowKit Go.Shelf
set_option maxRecDepth 100000
set_option linter.unusedSimpArgs false

/-- A pen's step behind others. -/
theorem pen_step {w1 wr w2 : World} {B p : Nat} {T : TypeId} {v v1 : Value} {s : PSt} {e : Ending} (h1 : Keeps (p :: v.ownBlock.toList) w1 wr) (n1 : NewRow w1 v v1) (h2 : PenPost wr B T 5 p v1 s e w2) :
    e = .returned (.tuple #[]) ∧ ∃ v', PenAt w2 B T 5 p v' s.1 s.2 ∧ Keeps (p :: v.ownBlock.toList) w1 w2 ∧ NewRow w1 v v' := PenPost.then h1 n1 h2
theorem pen_lt {w : World} {B p : Nat} {T : TypeId} {v : Value} {zs : List Int} {bad : Int} (h : PenAt w B T 5 p v zs bad) : ∀ b ∈ p :: v.ownBlock.toList, b < w.heap.size := fun b hb => by
  rcases List.mem_cons.1 hb with rfl | hb
  · exact h.lt
  · exact (h.own.lt b (by simpa using hb)).2
theorem PenPost.since {w w1 w2 : World} {B p : Nat} {T : TypeId} {v : Value} {s : PSt} (k : Keeps [] w w1) {v' : Value} (h : PenAt w2 B T 5 p v' s.1 s.2) (k2 : Keeps (p :: v.ownBlock.toList) w1 w2) (n : NewRow w1 v v') : PenPost w B T 5 p v s (.returned (.tuple #[])) w2 :=
  ⟨rfl, v', h, (k.mono (by simp)).trans k2, n.imp id (fun h j hj => Nat.le_trans k.size (h j hj))⟩
def putP (x : Pt) (s : PSt) : PSt := penNum x.k 1 (penNum x.a 2 (penNum x.n 4 (penNum x.l 3 (penNum x.c 1 s))))
def rputP (x : Pt) (s : PSt) : PSt := refNum x.k 1 (refNum x.a 2 (refNum x.n 4 (refNum x.l 3 (refNum x.c 1 s))))
def wrK (s : Bk) (k : Nat) (t : PSt) : PSt := (s.L.take k).foldl (fun t x => putP x t) (penNum s.sz 2 t)
def wrB (s : Bk) (t : PSt) : PSt := wrK s s.L.length t
def rwrK (s : Bk) (k : Nat) (t : PSt) : PSt := (s.L.take k).foldl (fun t x => rputP x t) (refNum s.sz 2 t)
def rwrB (s : Bk) (t : PSt) : PSt := rwrK s s.L.length t
theorem wrK_snoc {s : Bk} {k : Nat} (h : k < s.L.length) (t : PSt) : wrK s (k + 1) t = putP s.L[k] (wrK s k t) := by
  unfold wrK
  rw [List.take_succ_eq_append_getElem h, List.foldl_append]
  rfl
theorem rwrK_snoc {s : Bk} {k : Nat} (h : k < s.L.length) (t : PSt) : rwrK s (k + 1) t = rputP s.L[k] (rwrK s k t) := by
  unfold rwrK
  rw [List.take_succ_eq_append_getElem h, List.foldl_append]
  rfl

set_option maxHeartbeats 3200000 in
theorem zPutPtr_any (w : World) (B p : Nat) (v : Value) (s : PSt) (x : Pt) (P : PenAt w B 172 5 p v s.1 s.2) (hB : B ≤ w.heap.size) :
    Calls Try.prog 178 #[.pointer (some ⟨p, 0, none⟩), ptV x] w (PenPost w B 172 5 p v (putP x s)) := by
  have ka : Keeps [] w (w.alloc (.cells x.cells.toArray 147)) := (Keeps.refl [] w).alloc _
  have KA := hid ka
  have RA := hid (range_new w x.cells 147)
  have PA := hid (P.keep ka (by simp) (by simp))
  have LT := hid (show w.heap.size ∉ p :: v.ownBlock.toList from fun h => Nat.lt_irrefl _ (pen_lt P _ h))
  have hB1 : B ≤ (w.alloc (.cells x.cells.toArray 147)).heap.size := Nat.le_trans hB ka.size
  have HB1 := hid hB1
  obtain ⟨s1, e1⟩ : ∃ t, t = penNum x.c 1 s := ⟨_, rfl⟩
  obtain ⟨s2, e2⟩ : ∃ t, t = penNum x.l 3 s1 := ⟨_, rfl⟩
  obtain ⟨s3, e3⟩ : ∃ t, t = penNum x.n 4 s2 := ⟨_, rfl⟩
  obtain ⟨s4, e4⟩ : ∃ t, t = penNum x.a 2 s3 := ⟨_, rfl⟩
  obtain ⟨s5, e5⟩ : ∃ t, t = penNum x.k 1 s4 := ⟨_, rfl⟩
  have E : Hid (putP x s = s5) := hid (by unfold putP; rw [e5, e4, e3, e2, e1])
  have E1 := hid e1.symm
  have E2 := hid e2.symm
  have E3 := hid e3.symm
  have E4 := hid e4.symm
  have E5 := hid e5.symm
  have hsz : w.heap.size < (w.alloc (.cells x.cells.toArray 147)).heap.size := by simp
  have HS := hid hsz
  obtain ⟨c0, c1, c2, c3, c4⟩ := range_at RA.out
  simp only [Nat.zero_add] at c1 c2 c3 c4
  clear e1 e2 e3 e4 e5 ka P hB hB1 hsz c1 c2 c3 c4
  go_enter Try.func178, Try.ntmps178
  go_wp2_with (first | (refine wpList_boxPt rfl _ rfl x rfl ?_) | fail)
  clear c0
  generalize w.alloc (.cells x.cells.toArray 147) = w1 at KA RA PA HB1 HS ⊢
  have HN : Calls Try.prog 106 #[.pointer (some ⟨p, 0, none⟩), .int .i64 x.c, .int .i64 1] w1 (PenPost w1 B 172 5 p v s1) := by
    have := num_any w1 B p v s.1 s.2 x.c 1 PA.out HB1.out
    rw [show penNum x.c 1 (s.1, s.2) = s1 from E1.out] at this
    exact this
  refine HN.mono ?_
  intro e wq1 hq
  obtain ⟨rfl, v1, p1, k1, n1⟩ := pen_step (Keeps.refl _ _) (Or.inl rfl) hq
  have P1 := hid p1
  have K1 := hid k1
  have N1 := hid n1
  obtain ⟨c0, c1, c2, c3, c4⟩ := range_at (range_keep RA.out k1 LT.out)
  simp only [Nat.zero_add] at c1 c2 c3 c4
  clear hq p1 k1 n1 HN c0 c2 c3 c4
  go_wp2_with fail
  clear c1
  have HN : Calls Try.prog 106 #[.pointer (some ⟨p, 0, none⟩), .int .i64 x.l, .int .i64 3] wq1 (PenPost wq1 B 172 5 p v1 s2) := by
    have := num_any wq1 B p v1 s1.1 s1.2 x.l 3 P1.out (Nat.le_trans HB1.out K1.out.size)
    rw [show penNum x.l 3 (s1.1, s1.2) = s2 from E2.out] at this
    exact this
  refine HN.mono ?_
  intro e wq2 hq
  obtain ⟨rfl, v2, p2, k2, n2⟩ := pen_step K1.out N1.out hq
  have P2 := hid p2
  have K2 := hid k2
  have N2 := hid n2
  obtain ⟨c0, c1, c2, c3, c4⟩ := range_at (range_keep RA.out k2 LT.out)
  simp only [Nat.zero_add] at c1 c2 c3 c4
  clear hq p2 k2 n2 HN c0 c1 c3 c4
  go_wp2_with fail
  clear c2
  have HN : Calls Try.prog 106 #[.pointer (some ⟨p, 0, none⟩), .int .i64 x.n, .int .i64 4] wq2 (PenPost wq2 B 172 5 p v2 s3) := by
    have := num_any wq2 B p v2 s2.1 s2.2 x.n 4 P2.out (Nat.le_trans HB1.out K2.out.size)
    rw [show penNum x.n 4 (s2.1, s2.2) = s3 from E3.out] at this
    exact this
  refine HN.mono ?_
  intro e wq3 hq
  obtain ⟨rfl, v3, p3, k3, n3⟩ := pen_step K2.out N2.out hq
  have P3 := hid p3
  have K3 := hid k3
  have N3 := hid n3
  obtain ⟨c0, c1, c2, c3, c4⟩ := range_at (range_keep RA.out k3 LT.out)
  simp only [Nat.zero_add] at c1 c2 c3 c4
  clear hq p3 k3 n3 HN c0 c1 c2 c4
  go_wp2_with fail
  clear c3
  have HN : Calls Try.prog 106 #[.pointer (some ⟨p, 0, none⟩), .int .i64 x.a, .int .i64 2] wq3 (PenPost wq3 B 172 5 p v3 s4) := by
    have := num_any wq3 B p v3 s3.1 s3.2 x.a 2 P3.out (Nat.le_trans HB1.out K3.out.size)
    rw [show penNum x.a 2 (s3.1, s3.2) = s4 from E4.out] at this
    exact this
  refine HN.mono ?_
  intro e wq4 hq
  obtain ⟨rfl, v4, p4, k4, n4⟩ := pen_step K3.out N3.out hq
  have P4 := hid p4
  have K4 := hid k4
  have N4 := hid n4
  obtain ⟨c0, c1, c2, c3, c4⟩ := range_at (range_keep RA.out k4 LT.out)
  simp only [Nat.zero_add] at c1 c2 c3 c4
  clear hq p4 k4 n4 HN c0 c1 c2 c3
  go_wp2_with fail
  clear c4
  have HN : Calls Try.prog 106 #[.pointer (some ⟨p, 0, none⟩), .int .i64 x.k, .int .i64 1] wq4 (PenPost wq4 B 172 5 p v4 s5) := by
    have := num_any wq4 B p v4 s4.1 s4.2 x.k 1 P4.out (Nat.le_trans HB1.out K4.out.size)
    rw [show penNum x.k 1 (s4.1, s4.2) = s5 from E5.out] at this
    exact this
  refine HN.mono ?_
  intro e wq5 hq
  obtain ⟨rfl, v5, p5, k5, n5⟩ := pen_step K4.out N4.out hq
  have P5 := hid p5
  have K5 := hid k5
  have N5 := hid n5
  obtain ⟨c0, c1, c2, c3, c4⟩ := range_at (range_keep RA.out k5 LT.out)
  simp only [Nat.zero_add] at c1 c2 c3 c4
  clear hq p5 k5 n5 HN c0 c1 c2 c3 c4
  go_wp2_with fail
  go_end0
  rw [E.out]
  exact PenPost.since KA.out P5.out K5.out N5.out
set_option maxHeartbeats 3200000 in
theorem rPutPtr_any (w : World) (B p : Nat) (v : Value) (s : PSt) (x : Pt) (P : PenAt w B 151 5 p v s.1 s.2) (hB : B ≤ w.heap.size) :
    Calls Try.prog 152 #[.pointer (some ⟨p, 0, none⟩), ptV x] w (PenPost w B 151 5 p v (rputP x s)) := by
  have ka : Keeps [] w (w.alloc (.cells x.cells.toArray 147)) := (Keeps.refl [] w).alloc _
  have KA := hid ka
  have RA := hid (range_new w x.cells 147)
  have PA := hid (P.keep ka (by simp) (by simp))
  have LT := hid (show w.heap.size ∉ p :: v.ownBlock.toList from fun h => Nat.lt_irrefl _ (pen_lt P _ h))
  have hB1 : B ≤ (w.alloc (.cells x.cells.toArray 147)).heap.size := Nat.le_trans hB ka.size
  have HB1 := hid hB1
  obtain ⟨s1, e1⟩ : ∃ t, t = refNum x.c 1 s := ⟨_, rfl⟩
  obtain ⟨s2, e2⟩ : ∃ t, t = refNum x.l 3 s1 := ⟨_, rfl⟩
  obtain ⟨s3, e3⟩ : ∃ t, t = refNum x.n 4 s2 := ⟨_, rfl⟩
  obtain ⟨s4, e4⟩ : ∃ t, t = refNum x.a 2 s3 := ⟨_, rfl⟩
  obtain ⟨s5, e5⟩ : ∃ t, t = refNum x.k 1 s4 := ⟨_, rfl⟩
  have E : Hid (rputP x s = s5) := hid (by unfold rputP; rw [e5, e4, e3, e2, e1])
  have E1 := hid e1.symm
  have E2 := hid e2.symm
  have E3 := hid e3.symm
  have E4 := hid e4.symm
  have E5 := hid e5.symm
  have hsz : w.heap.size < (w.alloc (.cells x.cells.toArray 147)).heap.size := by simp
  have HS := hid hsz
  obtain ⟨c0, c1, c2, c3, c4⟩ := range_at RA.out
  simp only [Nat.zero_add] at c1 c2 c3 c4
  clear e1 e2 e3 e4 e5 ka P hB hB1 hsz c1 c2 c3 c4
  go_enter Try.func152, Try.ntmps152
  go_wp2_with (first | (refine wpList_boxPt rfl _ rfl x rfl ?_) | fail)
  clear c0
  generalize w.alloc (.cells x.cells.toArray 147) = w1 at KA RA PA HB1 HS ⊢
  have HN : Calls Try.prog 87 #[.pointer (some ⟨p, 0, none⟩), .int .i64 x.c, .int .i64 1] w1 (PenPost w1 B 151 5 p v s1) := by
    have := rnum_any w1 B p v s.1 s.2 x.c 1 PA.out HB1.out
    rw [show refNum x.c 1 (s.1, s.2) = s1 from E1.out] at this
    exact this
  refine HN.mono ?_
  intro e wq1 hq
  obtain ⟨rfl, v1, p1, k1, n1⟩ := pen_step (Keeps.refl _ _) (Or.inl rfl) hq
  have P1 := hid p1
  have K1 := hid k1
  have N1 := hid n1
  obtain ⟨c0, c1, c2, c3, c4⟩ := range_at (range_keep RA.out k1 LT.out)
  simp only [Nat.zero_add] at c1 c2 c3 c4
  clear hq p1 k1 n1 HN c0 c2 c3 c4
  go_wp2_with fail
  clear c1
  have HN : Calls Try.prog 87 #[.pointer (some ⟨p, 0, none⟩), .int .i64 x.l, .int .i64 3] wq1 (PenPost wq1 B 151 5 p v1 s2) := by
    have := rnum_any wq1 B p v1 s1.1 s1.2 x.l 3 P1.out (Nat.le_trans HB1.out K1.out.size)
    rw [show refNum x.l 3 (s1.1, s1.2) = s2 from E2.out] at this
    exact this
  refine HN.mono ?_
  intro e wq2 hq
  obtain ⟨rfl, v2, p2, k2, n2⟩ := pen_step K1.out N1.out hq
  have P2 := hid p2
  have K2 := hid k2
  have N2 := hid n2
  obtain ⟨c0, c1, c2, c3, c4⟩ := range_at (range_keep RA.out k2 LT.out)
  simp only [Nat.zero_add] at c1 c2 c3 c4
  clear hq p2 k2 n2 HN c0 c1 c3 c4
  go_wp2_with fail
  clear c2
  have HN : Calls Try.prog 87 #[.pointer (some ⟨p, 0, none⟩), .int .i64 x.n, .int .i64 4] wq2 (PenPost wq2 B 151 5 p v2 s3) := by
    have := rnum_any wq2 B p v2 s2.1 s2.2 x.n 4 P2.out (Nat.le_trans HB1.out K2.out.size)
    rw [show refNum x.n 4 (s2.1, s2.2) = s3 from E3.out] at this
    exact this
  refine HN.mono ?_
  intro e wq3 hq
  obtain ⟨rfl, v3, p3, k3, n3⟩ := pen_step K2.out N2.out hq
  have P3 := hid p3
  have K3 := hid k3
  have N3 := hid n3
  obtain ⟨c0, c1, c2, c3, c4⟩ := range_at (range_keep RA.out k3 LT.out)
  simp only [Nat.zero_add] at c1 c2 c3 c4
  clear hq p3 k3 n3 HN c0 c1 c2 c4
  go_wp2_with fail
  clear c3
  have HN : Calls Try.prog 87 #[.pointer (some ⟨p, 0, none⟩), .int .i64 x.a, .int .i64 2] wq3 (PenPost wq3 B 151 5 p v3 s4) := by
    have := rnum_any wq3 B p v3 s3.1 s3.2 x.a 2 P3.out (Nat.le_trans HB1.out K3.out.size)
    rw [show refNum x.a 2 (s3.1, s3.2) = s4 from E4.out] at this
    exact this
  refine HN.mono ?_
  intro e wq4 hq
  obtain ⟨rfl, v4, p4, k4, n4⟩ := pen_step K3.out N3.out hq
  have P4 := hid p4
  have K4 := hid k4
  have N4 := hid n4
  obtain ⟨c0, c1, c2, c3, c4⟩ := range_at (range_keep RA.out k4 LT.out)
  simp only [Nat.zero_add] at c1 c2 c3 c4
  clear hq p4 k4 n4 HN c0 c1 c2 c3
  go_wp2_with fail
  clear c4
  have HN : Calls Try.prog 87 #[.pointer (some ⟨p, 0, none⟩), .int .i64 x.k, .int .i64 1] wq4 (PenPost wq4 B 151 5 p v4 s5) := by
    have := rnum_any wq4 B p v4 s4.1 s4.2 x.k 1 P4.out (Nat.le_trans HB1.out K4.out.size)
    rw [show refNum x.k 1 (s4.1, s4.2) = s5 from E5.out] at this
    exact this
  refine HN.mono ?_
  intro e wq5 hq
  obtain ⟨rfl, v5, p5, k5, n5⟩ := pen_step K4.out N4.out hq
  have P5 := hid p5
  have K5 := hid k5
  have N5 := hid n5
  obtain ⟨c0, c1, c2, c3, c4⟩ := range_at (range_keep RA.out k5 LT.out)
  simp only [Nat.zero_add] at c1 c2 c3 c4
  clear hq p5 k5 n5 HN c0 c1 c2 c3 c4
  go_wp2_with fail
  go_end0
  rw [E.out]
  exact PenPost.since KA.out P5.out K5.out N5.out
end Go.Proofs.Ytoglcohdanpciaa
