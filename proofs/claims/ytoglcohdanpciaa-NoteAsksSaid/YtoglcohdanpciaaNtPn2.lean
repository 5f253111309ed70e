/- note: SameRequest, unlike (2). -/
import Derived.Test.YtoglcohdanpciaaNtPb
namespace Go.Proofs.Ytoglcohdanpciaa
open Go.RowKit Go.Shelf
set_option maxRecDepth 100000
set_option linter.unusedSimpArgs false
set_option linter.unusedVariables false

set_option maxHeartbeats 51200000 in
theorem sameQ_n2 (w : World) (a b : Rq) (a1 a2 b1 b2 : Value) (h1 : LsAt KSz w a1 a.ss) (h2 : LsAt KSz w b1 b.ss) (m1 : LsAt KDl w a2 a.dl) (m2 : LsAt KDl w b2 b.dl) (q0 : a.cl = b.cl) (q1 : a.lf = b.lf) (q2 : ¬ a.sq = b.sq) :
    Calls Try.prog 45 #[rqV a a1 a2, rqV b b1 b2] w (PIff w (a = b)) := by
  have G0 := hid q0
  clear q0
  have G1 := hid q1
  clear q1
  have G2 := hid q2
  clear q2
  have F1 := h1.few
  have F2 := h2.few
  unfold maxLen at F1 F2
  obtain ⟨av, cv, rfl⟩ := h1.shape
  obtain ⟨au, cu, rfl⟩ := h2.shape
  have ka : Keeps [] w ((w.alloc (.cells (a.cells (.slice av a.ss.length cv) a2).toArray 88)).alloc (.cells (b.cells (.slice au b.ss.length cu) b2).toArray 88)) := ((Keeps.refl [] w).alloc _).alloc _
  have RA := hid (krange_keep (krange_new w (a.cells (.slice av a.ss.length cv) a2) 88) ((Keeps.refl [] _).alloc (.cells (b.cells (.slice au b.ss.length cu) b2).toArray 88)) (by simp))
  have RB := krange_new (w.alloc (.cells (a.cells (.slice av a.ss.length cv) a2).toArray 88)) (b.cells (.slice au b.ss.length cu) b2) 88
  rw [World.size_alloc] at RB
  have RB := hid RB
  have KA := hid ka
  have H1 := hid (h1.keep ka)
  have H2 := hid (h2.keep ka)
  have M1 := hid (m1.keep ka)
  have M2 := hid (m2.keep ka)
  have LL := hid (show w.heap.size + 1 < ((w.alloc (.cells (a.cells (.slice av a.ss.length cv) a2).toArray 88)).alloc (.cells (b.cells (.slice au b.ss.length cu) b2).toArray 88)).heap.size by simp)
  clear ka h1 h2 m1 m2
  go_enter Try.func45, Try.ntmps45
  go_wp2_with (first | (refine wpList_is rfl _ _ (exec_box 88 _ (a.cells (.slice av a.ss.length cv) a2).toArray rfl rfl) ?_) | (refine wpList_is rfl _ _ (exec_box 88 _ (b.cells (.slice au b.ss.length cu) b2).toArray rfl rfl) ?_; refine Hid.out ?_) | fail)
  refine hid ?_
  obtain ⟨W, hW⟩ : ∃ z, z = (w.alloc (.cells (a.cells (.slice av a.ss.length cv) a2).toArray 88)).alloc (.cells (b.cells (.slice au b.ss.length cu) b2).toArray 88) := ⟨_, rfl⟩
  obtain ⟨ba, hba⟩ : ∃ z, z = w.heap.size := ⟨_, rfl⟩
  obtain ⟨bb, hbb⟩ : ∃ z, z = w.heap.size + 1 := ⟨_, rfl⟩
  have LAB := hid (show ba < W.heap.size ∧ bb < W.heap.size by rw [hW, hba, hbb]; have := LL.out; omega)
  rw [← hW] at RA RB KA H1 H2 M1 M2 ⊢
  rw [← hbb] at RB ⊢
  rw [← hba] at RA ⊢
  clear hW hba hbb LL
  have ca0 := ask_cell RA.out (show _ = some (.int .i64 a.cl) from rfl) (j := 0)
  have cb0 := ask_cell RB.out (show _ = some (.int .i64 b.cl) from rfl) (j := 0)
  have ca1 := ask_cell RA.out (show _ = some (.int .i64 a.lf) from rfl) (j := 1)
  have cb1 := ask_cell RB.out (show _ = some (.int .i64 b.lf) from rfl) (j := 1)
  have ca2 := ask_cell RA.out (show _ = some (.int .i64 a.sq) from rfl) (j := 2)
  have cb2 := ask_cell RB.out (show _ = some (.int .i64 b.sq) from rfl) (j := 2)
  have ca3 := ask_cell RA.out (show _ = some (.int .i64 a.dO) from rfl) (j := 3)
  have cb3 := ask_cell RB.out (show _ = some (.int .i64 b.dO) from rfl) (j := 3)
  have ca4 := ask_cell RA.out (show _ = some (.string a.pa) from rfl) (j := 4)
  have cb4 := ask_cell RB.out (show _ = some (.string b.pa) from rfl) (j := 4)
  have ca5 := ask_cell RA.out (show _ = some (.string a.tp) from rfl) (j := 5)
  have cb5 := ask_cell RB.out (show _ = some (.string b.tp) from rfl) (j := 5)
  have ca6 := ask_cell RA.out (show _ = some (.bool a.di) from rfl) (j := 6)
  have cb6 := ask_cell RB.out (show _ = some (.bool b.di) from rfl) (j := 6)
  have ca7 := ask_cell RA.out (show _ = some (.bool a.wr) from rfl) (j := 7)
  have cb7 := ask_cell RB.out (show _ = some (.bool b.wr) from rfl) (j := 7)
  have ca8 := ask_cell RA.out (show _ = some (.bool a.cz) from rfl) (j := 8)
  have cb8 := ask_cell RB.out (show _ = some (.bool b.cz) from rfl) (j := 8)
  have ca9 := ask_cell RA.out (show _ = some (.int .i64 a.ha) from rfl) (j := 9)
  have cb9 := ask_cell RB.out (show _ = some (.int .i64 b.ha) from rfl) (j := 9)
  have ca10 := ask_cell RA.out (show _ = some (.int .i64 a.nx) from rfl) (j := 10)
  have cb10 := ask_cell RB.out (show _ = some (.int .i64 b.nx) from rfl) (j := 10)
  have ca11 := ask_cell RA.out (show _ = some (.int .i64 a.sw) from rfl) (j := 11)
  have cb11 := ask_cell RB.out (show _ = some (.int .i64 b.sw) from rfl) (j := 11)
  have ca12 := ask_cell RA.out (show _ = some (.slice av a.ss.length cv) from rfl) (j := 12)
  have cb12 := ask_cell RB.out (show _ = some (.slice au b.ss.length cu) from rfl) (j := 12)
  have ca13 := ask_cell RA.out (show _ = some a2 from rfl) (j := 13)
  have cb13 := ask_cell RB.out (show _ = some b2 from rfl) (j := 13)
  have q0 := G0.out
  clear G0
  have q1 := G1.out
  clear G1
  have q2 := G2.out
  clear G2
  have Q0 := hid q0
  have f0 : (a.cl == b.cl) = true := by simpa using q0
  clear q0
  have Q1 := hid q1
  have f1 : (a.lf == b.lf) = true := by simpa using q1
  clear q1
  have NE := hid (show ¬ a = b from fun e => q2 (by rw [e]))
  have f2 : (a.sq == b.sq) = false := by simpa using q2
  clear q2
  go_wp2_with fail
  go_ret
  exact ⟨false, rfl, ⟨fun h => (by cases h), fun h => absurd h NE.out⟩, KA.out⟩
set_option maxHeartbeats 51200000 in
theorem sameQ_n8 (w : World) (a b : Rq) (a1 a2 b1 b2 : Value) (h1 : LsAt KSz w a1 a.ss) (h2 : LsAt KSz w b1 b.ss) (m1 : LsAt KDl w a2 a.dl) (m2 : LsAt KDl w b2 b.dl) (q0 : a.cl = b.cl) (q1 : a.lf = b.lf) (q2 : a.sq = b.sq) (q3 : a.dO = b.dO) (q4 : a.pa = b.pa) (q5 : a.tp = b.tp) (q6 : a.di = b.di) (q7 : a.wr = b.wr) (q8 : ¬ a.cz = b.cz) :
    Calls Try.prog 45 #[rqV a a1 a2, rqV b b1 b2] w (PIff w (a = b)) := by
  have G0 := hid q0
  clear q0
  have G1 := hid q1
  clear q1
  have G2 := hid q2
  clear q2
  have G3 := hid q3
  clear q3
  have G4 := hid q4
  clear q4
  have G5 := hid q5
  clear q5
  have G6 := hid q6
  clear q6
  have G7 := hid q7
  clear q7
  have G8 := hid q8
  clear q8
  have F1 := h1.few
  have F2 := h2.few
  unfold maxLen at F1 F2
  obtain ⟨av, cv, rfl⟩ := h1.shape
  obtain ⟨au, cu, rfl⟩ := h2.shape
  have ka : Keeps [] w ((w.alloc (.cells (a.cells (.slice av a.ss.length cv) a2).toArray 88)).alloc (.cells (b.cells (.slice au b.ss.length cu) b2).toArray 88)) := ((Keeps.refl [] w).alloc _).alloc _
  have RA := hid (krange_keep (krange_new w (a.cells (.slice av a.ss.length cv) a2) 88) ((Keeps.refl [] _).alloc (.cells (b.cells (.slice au b.ss.length cu) b2).toArray 88)) (by simp))
  have RB := krange_new (w.alloc (.cells (a.cells (.slice av a.ss.length cv) a2).toArray 88)) (b.cells (.slice au b.ss.length cu) b2) 88
  rw [World.size_alloc] at RB
  have RB := hid RB
  have KA := hid ka
  have H1 := hid (h1.keep ka)
  have H2 := hid (h2.keep ka)
  have M1 := hid (m1.keep ka)
  have M2 := hid (m2.keep ka)
  have LL := hid (show w.heap.size + 1 < ((w.alloc (.cells (a.cells (.slice av a.ss.length cv) a2).toArray 88)).alloc (.cells (b.cells (.slice au b.ss.length cu) b2).toArray 88)).heap.size by simp)
  clear ka h1 h2 m1 m2
  go_enter Try.func45, Try.ntmps45
  go_wp2_with (first | (refine wpList_is rfl _ _ (exec_box 88 _ (a.cells (.slice av a.ss.length cv) a2).toArray rfl rfl) ?_) | (refine wpList_is rfl _ _ (exec_box 88 _ (b.cells (.slice au b.ss.length cu) b2).toArray rfl rfl) ?_; refine Hid.out ?_) | fail)
  refine hid ?_
  obtain ⟨W, hW⟩ : ∃ z, z = (w.alloc (.cells (a.cells (.slice av a.ss.length cv) a2).toArray 88)).alloc (.cells (b.cells (.slice au b.ss.length cu) b2).toArray 88) := ⟨_, rfl⟩
  obtain ⟨ba, hba⟩ : ∃ z, z = w.heap.size := ⟨_, rfl⟩
  obtain ⟨bb, hbb⟩ : ∃ z, z = w.heap.size + 1 := ⟨_, rfl⟩
  have LAB := hid (show ba < W.heap.size ∧ bb < W.heap.size by rw [hW, hba, hbb]; have := LL.out; omega)
  rw [← hW] at RA RB KA H1 H2 M1 M2 ⊢
  rw [← hbb] at RB ⊢
  rw [← hba] at RA ⊢
  clear hW hba hbb LL
  have ca0 := ask_cell RA.out (show _ = some (.int .i64 a.cl) from rfl) (j := 0)
  have cb0 := ask_cell RB.out (show _ = some (.int .i64 b.cl) from rfl) (j := 0)
  have ca1 := ask_cell RA.out (show _ = some (.int .i64 a.lf) from rfl) (j := 1)
  have cb1 := ask_cell RB.out (show _ = some (.int .i64 b.lf) from rfl) (j := 1)
  have ca2 := ask_cell RA.out (show _ = some (.int .i64 a.sq) from rfl) (j := 2)
  have cb2 := ask_cell RB.out (show _ = some (.int .i64 b.sq) from rfl) (j := 2)
  have ca3 := ask_cell RA.out (show _ = some (.int .i64 a.dO) from rfl) (j := 3)
  have cb3 := ask_cell RB.out (show _ = some (.int .i64 b.dO) from rfl) (j := 3)
  have ca4 := ask_cell RA.out (show _ = some (.string a.pa) from rfl) (j := 4)
  have cb4 := ask_cell RB.out (show _ = some (.string b.pa) from rfl) (j := 4)
  have ca5 := ask_cell RA.out (show _ = some (.string a.tp) from rfl) (j := 5)
  have cb5 := ask_cell RB.out (show _ = some (.string b.tp) from rfl) (j := 5)
  have ca6 := ask_cell RA.out (show _ = some (.bool a.di) from rfl) (j := 6)
  have cb6 := ask_cell RB.out (show _ = some (.bool b.di) from rfl) (j := 6)
  have ca7 := ask_cell RA.out (show _ = some (.bool a.wr) from rfl) (j := 7)
  have cb7 := ask_cell RB.out (show _ = some (.bool b.wr) from rfl) (j := 7)
  have ca8 := ask_cell RA.out (show _ = some (.bool a.cz) from rfl) (j := 8)
  have cb8 := ask_cell RB.out (show _ = some (.bool b.cz) from rfl) (j := 8)
  have ca9 := ask_cell RA.out (show _ = some (.int .i64 a.ha) from rfl) (j := 9)
  have cb9 := ask_cell RB.out (show _ = some (.int .i64 b.ha) from rfl) (j := 9)
  have ca10 := ask_cell RA.out (show _ = some (.int .i64 a.nx) from rfl) (j := 10)
  have cb10 := ask_cell RB.out (show _ = some (.int .i64 b.nx) from rfl) (j := 10)
  have ca11 := ask_cell RA.out (show _ = some (.int .i64 a.sw) from rfl) (j := 11)
  have cb11 := ask_cell RB.out (show _ = some (.int .i64 b.sw) from rfl) (j := 11)
  have ca12 := ask_cell RA.out (show _ = some (.slice av a.ss.length cv) from rfl) (j := 12)
  have cb12 := ask_cell RB.out (show _ = some (.slice au b.ss.length cu) from rfl) (j := 12)
  have ca13 := ask_cell RA.out (show _ = some a2 from rfl) (j := 13)
  have cb13 := ask_cell RB.out (show _ = some b2 from rfl) (j := 13)
  have q0 := G0.out
  clear G0
  have q1 := G1.out
  clear G1
  have q2 := G2.out
  clear G2
  have q3 := G3.out
  clear G3
  have q4 := G4.out
  clear G4
  have q5 := G5.out
  clear G5
  have q6 := G6.out
  clear G6
  have q7 := G7.out
  clear G7
  have q8 := G8.out
  clear G8
  have Q0 := hid q0
  have f0 : (a.cl == b.cl) = true := by simpa using q0
  clear q0
  have Q1 := hid q1
  have f1 : (a.lf == b.lf) = true := by simpa using q1
  clear q1
  have Q2 := hid q2
  have f2 : (a.sq == b.sq) = true := by simpa using q2
  clear q2
  have Q3 := hid q3
  have f3 : (a.dO != b.dO) = false := by simpa using q3
  clear q3
  have Q4 := hid q4
  have f4 : (a.pa.toList != b.pa.toList) = false := by rw [q4]; simp
  have g4 : (a.pa.toList == b.pa.toList) = true := by rw [q4]; simp
  clear q4
  have Q5 := hid q5
  have f5 : (a.tp.toList != b.tp.toList) = false := by rw [q5]; simp
  have g5 : (a.tp.toList == b.tp.toList) = true := by rw [q5]; simp
  clear q5
  have Q6 := hid q6
  have f6 : (a.di != b.di) = false := by simpa using q6
  clear q6
  have Q7 := hid q7
  have f7 : (a.wr != b.wr) = false := by simpa using q7
  clear q7
  have NE := hid (show ¬ a = b from fun e => q8 (by rw [e]))
  have ya : b.cz = !a.cz := by cases h : a.cz <;> cases h2 : b.cz <;> simp_all
  obtain ⟨x, hx⟩ : ∃ z, a.cz = z := ⟨_, rfl⟩
  rw [hx] at ca8 ya
  rw [ya] at cb8
  clear q8 ya hx
  cases x
  case false =>
    go_wp2_with fail
    go_ret
    exact ⟨false, rfl, ⟨fun h => (by cases h), fun h => absurd h NE.out⟩, KA.out⟩
  case true =>
    go_wp2_with fail
    go_ret
    exact ⟨false, rfl, ⟨fun h => (by cases h), fun h => absurd h NE.out⟩, KA.out⟩
end Go.Proofs.Ytoglcohdanpciaa
