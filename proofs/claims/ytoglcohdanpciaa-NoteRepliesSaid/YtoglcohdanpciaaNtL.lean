/- note: SameReply; the laws' Reply and Said. -/
import Derived.Test.YtoglcohdanpciaaNtK
namespace Go.Proofs.Ytoglcohdanpciaa
open Go.RowKit Go.Shelf
set_option maxRecDepth 100000
set_option linter.unusedSimpArgs false
set_option linter.unusedVariables false

/-- A test whose answer is whether P is so. -/
def PIff (w : World) (P : Prop) (e : Ending) (w' : World) : Prop := ∃ z : Bool, e = .returned (.bool z) ∧ (z = true ↔ P) ∧ Keeps [] w w'

theorem bld_lawReply (r : Rp) (a b : Option Addr) (m n c d : Nat) (w : World) : (Instr.build 73 #[(0, .int .i64 r.e), (1, .int .i64 r.ino), (2, .int .i64 r.sz), (3, .int .i64 r.ha), (4, .int .i64 r.sw), (5, .bool r.di), (6, .slice a m c), (7, .slice b n d)]).run Try.prog w = .ok (rpV r (.slice a m c) (.slice b n d)) w := by kernel_rfl
theorem exec_lawReply {ρ : Operand → Value} {o : Oper} {w : World} (x0 x1 x2 x3 x4 x5 x6 x7 : Operand) (r : Rp) (a b : Option Addr) (m n c d : Nat) (ho : o.op = .build 73 #[(0, x0), (1, x1), (2, x2), (3, x3), (4, x4), (5, x5), (6, x6), (7, x7)]) (h0 : ρ x0 = .int .i64 r.e) (h1 : ρ x1 = .int .i64 r.ino) (h2 : ρ x2 = .int .i64 r.sz) (h3 : ρ x3 = .int .i64 r.ha) (h4 : ρ x4 = .int .i64 r.sw) (h5 : ρ x5 = .bool r.di) (h6 : ρ x6 = .slice a m c) (h7 : ρ x7 = .slice b n d) :
    (execOp ρ o).run Try.prog w = .ok (.value (rpV r (.slice a m c) (.slice b n d))) w := by
  simp only [execOp, ho, List.map_toArray, List.map_cons, List.map_nil, h0, h1, h2, h3, h4, h5, h6, h7, Sem.run_bind, bld_lawReply, Result.andThen_ok, Sem.run_pure]
set_option maxHeartbeats 6400000 in
theorem lawReply_any (w : World) (r : Rp) (a b : Option Addr) (m n c d : Nat) : Calls Try.prog 48 #[rpV r (.slice a m c) (.slice b n d)] w fun e w' => e = .returned (rpV r (.slice a m c) (.slice b n d)) ∧ Keeps [] w w' := by
  have ka : Keeps [] w ((w.alloc (.cells (r.cells (.slice a m c) (.slice b n d)).toArray 100)).alloc (.cells (rpZ.cells (.slice none 0 0) (.slice none 0 0)).toArray 73)) := ((Keeps.refl [] w).alloc _).alloc _
  have FB := hid (heap_alloc_new (w.alloc (.cells (r.cells (.slice a m c) (.slice b n d)).toArray 100)) (.cells (rpZ.cells (.slice none 0 0) (.slice none 0 0)).toArray 73))
  rw [World.size_alloc] at FB
  have RA := hid (krange_keep (krange_new w (r.cells (.slice a m c) (.slice b n d)) 100) ((Keeps.refl [] _).alloc (.cells (rpZ.cells (.slice none 0 0) (.slice none 0 0)).toArray 73)) (by simp))
  have KA := hid ka
  clear ka
  obtain ⟨q1, q2⟩ := setRow_keepsN (cs := (r.cells (.slice a m c) (.slice b n d)).toArray) FB.out
  have Q1 := hid q1
  have Q2 := hid q2
  clear q1 q2
  have c0 := ask_cell RA.out (show _ = some (.int .i64 r.e) from rfl) (j := 0)
  have c1 := ask_cell RA.out (show _ = some (.int .i64 r.ino) from rfl) (j := 1)
  have c2 := ask_cell RA.out (show _ = some (.int .i64 r.sz) from rfl) (j := 2)
  have c3 := ask_cell RA.out (show _ = some (.int .i64 r.ha) from rfl) (j := 3)
  have c4 := ask_cell RA.out (show _ = some (.int .i64 r.sw) from rfl) (j := 4)
  have c5 := ask_cell RA.out (show _ = some (.bool r.di) from rfl) (j := 5)
  have c6 := ask_cell RA.out (show _ = some (.slice a m c) from rfl) (j := 6)
  have c7 := ask_cell RA.out (show _ = some (.slice b n d) from rfl) (j := 7)
  go_enter Try.func48, Try.ntmps48
  go_wp2_with (first | (refine wpList_is rfl _ _ (exec_box 100 _ (r.cells (.slice a m c) (.slice b n d)).toArray rfl rfl) ?_) | (refine wpList_is rfl _ _ (exec_alloc 73 (rpZ.cells (.slice none 0 0) (.slice none 0 0)).toArray iRep rfl) ?_) | (refine wpList_is rfl _ _ (exec_lawReply _ _ _ _ _ _ _ _ r a b m n c d rfl rfl rfl rfl rfl rfl rfl rfl rfl) ?_) | (refine wpList_noval rfl _ (exec_storeWhole 73 _ _ rfl (w.heap.size + 1) (rpZ.cells (.slice none 0 0) (.slice none 0 0)).toArray (r.cells (.slice a m c) (.slice b n d)) FB.out rfl rfl rfl (by kernel_rfl) (one_rp r _ _ _ _ _ _)) ?_) | fail)
  refine bodyPost_ret (one_ret (cs := r.cells (.slice a m c) (.slice b n d)) rfl uRep (by kernel_rfl) rfl (range_ofN Q1.out rfl)) rfl ?_
  exact ⟨rfl, KA.out.trans' Q2.out (fun i hi hm => by simp at hm; omega)⟩
theorem bld_lawSaid (r : Rp) (a b : Option Addr) (m n c d : Nat) (w : World) : (Instr.build 100 #[(0, .int .i64 r.e), (1, .int .i64 r.ino), (2, .int .i64 r.sz), (3, .int .i64 r.ha), (4, .int .i64 r.sw), (5, .bool r.di), (6, .slice a m c), (7, .slice b n d)]).run Try.prog w = .ok (rpV r (.slice a m c) (.slice b n d)) w := by kernel_rfl
theorem exec_lawSaid {ρ : Operand → Value} {o : Oper} {w : World} (x0 x1 x2 x3 x4 x5 x6 x7 : Operand) (r : Rp) (a b : Option Addr) (m n c d : Nat) (ho : o.op = .build 100 #[(0, x0), (1, x1), (2, x2), (3, x3), (4, x4), (5, x5), (6, x6), (7, x7)]) (h0 : ρ x0 = .int .i64 r.e) (h1 : ρ x1 = .int .i64 r.ino) (h2 : ρ x2 = .int .i64 r.sz) (h3 : ρ x3 = .int .i64 r.ha) (h4 : ρ x4 = .int .i64 r.sw) (h5 : ρ x5 = .bool r.di) (h6 : ρ x6 = .slice a m c) (h7 : ρ x7 = .slice b n d) :
    (execOp ρ o).run Try.prog w = .ok (.value (rpV r (.slice a m c) (.slice b n d))) w := by
  simp only [execOp, ho, List.map_toArray, List.map_cons, List.map_nil, h0, h1, h2, h3, h4, h5, h6, h7, Sem.run_bind, bld_lawSaid, Result.andThen_ok, Sem.run_pure]
set_option maxHeartbeats 12800000 in
theorem sameR_any (w : World) (a b : Rp) (a1 a2 b1 b2 : Value) (h1 : LsAt KEnt w a1 a.es) (h2 : LsAt KEnt w b1 b.es) (m1 : RowAt w a2 a.mp) (m2 : RowAt w b2 b.mp) (l1 : a.mp.length ≤ 35184372088832) (l2 : b.mp.length ≤ 35184372088832) :
    Calls Try.prog 49 #[rpV a a1 a2, rpV b b1 b2] w (PIff w (a = b)) := by
  have ka : Keeps [] w ((w.alloc (.cells (a.cells a1 a2).toArray 100)).alloc (.cells (b.cells b1 b2).toArray 100)) := ((Keeps.refl [] w).alloc _).alloc _
  have RA := hid (krange_keep (krange_new w (a.cells a1 a2) 100) ((Keeps.refl [] _).alloc (.cells (b.cells b1 b2).toArray 100)) (by simp))
  have RB := krange_new (w.alloc (.cells (a.cells a1 a2).toArray 100)) (b.cells b1 b2) 100
  rw [World.size_alloc] at RB
  have RB := hid RB
  have KA := hid ka
  have H1 := hid (h1.keep ka)
  have H2 := hid (h2.keep ka)
  have M1 := hid (m1.keep ka (by intro _ _ _ _ _; simp))
  have M2 := hid (m2.keep ka (by intro _ _ _ _ _; simp))
  have L1 := hid l1
  have L2 := hid l2
  clear ka h1 h2 m1 m2 l1 l2
  go_enter Try.func49, Try.ntmps49
  go_wp2_with (first | (refine wpList_is rfl _ _ (exec_box 100 _ (a.cells a1 a2).toArray rfl rfl) ?_) | (refine wpList_is rfl _ _ (exec_box 100 _ (b.cells b1 b2).toArray rfl rfl) ?_; refine Hid.out ?_) | fail)
  refine hid ?_
  generalize (w.alloc (.cells (a.cells a1 a2).toArray 100)).alloc (.cells (b.cells b1 b2).toArray 100) = W at RA RB KA H1 H2 M1 M2 ⊢
  have ca0 := ask_cell RA.out (show _ = some (.int .i64 a.e) from rfl) (j := 0)
  have cb0 := ask_cell RB.out (show _ = some (.int .i64 b.e) from rfl) (j := 0)
  have ca1 := ask_cell RA.out (show _ = some (.int .i64 a.ino) from rfl) (j := 1)
  have cb1 := ask_cell RB.out (show _ = some (.int .i64 b.ino) from rfl) (j := 1)
  have ca2 := ask_cell RA.out (show _ = some (.int .i64 a.sz) from rfl) (j := 2)
  have cb2 := ask_cell RB.out (show _ = some (.int .i64 b.sz) from rfl) (j := 2)
  have ca3 := ask_cell RA.out (show _ = some (.int .i64 a.ha) from rfl) (j := 3)
  have cb3 := ask_cell RB.out (show _ = some (.int .i64 b.ha) from rfl) (j := 3)
  have ca4 := ask_cell RA.out (show _ = some (.int .i64 a.sw) from rfl) (j := 4)
  have cb4 := ask_cell RB.out (show _ = some (.int .i64 b.sw) from rfl) (j := 4)
  have ca5 := ask_cell RA.out (show _ = some (.bool a.di) from rfl) (j := 5)
  have cb5 := ask_cell RB.out (show _ = some (.bool b.di) from rfl) (j := 5)
  have ca6 := ask_cell RA.out (show _ = some a1 from rfl) (j := 6)
  have cb6 := ask_cell RB.out (show _ = some b1 from rfl) (j := 6)
  by_cases q0 : a.e = b.e
  case neg =>
    have NE := hid (show ¬ a = b from fun e => q0 (by rw [e]))
    have f0 : (a.e == b.e) = false := by simpa using q0
    clear q0
    go_wp2_with fail
    go_ret
    exact ⟨false, rfl, ⟨fun h => (by cases h), fun h => absurd h NE.out⟩, KA.out⟩
  have Q0 := hid q0
  have f0 : (a.e == b.e) = true := by simpa using q0
  clear q0
  by_cases q1 : a.ino = b.ino
  case neg =>
    have NE := hid (show ¬ a = b from fun e => q1 (by rw [e]))
    have f1 : (a.ino == b.ino) = false := by simpa using q1
    clear q1
    go_wp2_with fail
    go_ret
    exact ⟨false, rfl, ⟨fun h => (by cases h), fun h => absurd h NE.out⟩, KA.out⟩
  have Q1 := hid q1
  have f1 : (a.ino == b.ino) = true := by simpa using q1
  clear q1
  by_cases q2 : a.sz = b.sz
  case neg =>
    have NE := hid (show ¬ a = b from fun e => q2 (by rw [e]))
    have f2 : (a.sz == b.sz) = false := by simpa using q2
    clear q2
    go_wp2_with fail
    go_ret
    exact ⟨false, rfl, ⟨fun h => (by cases h), fun h => absurd h NE.out⟩, KA.out⟩
  have Q2 := hid q2
  have f2 : (a.sz == b.sz) = true := by simpa using q2
  clear q2
  by_cases q3 : a.ha = b.ha
  case neg =>
    have NE := hid (show ¬ a = b from fun e => q3 (by rw [e]))
    have f3 : (a.ha == b.ha) = false := by simpa using q3
    clear q3
    go_wp2_with fail
    go_ret
    exact ⟨false, rfl, ⟨fun h => (by cases h), fun h => absurd h NE.out⟩, KA.out⟩
  have Q3 := hid q3
  have f3 : (a.ha == b.ha) = true := by simpa using q3
  clear q3
  by_cases q4 : a.sw = b.sw
  case neg =>
    have NE := hid (show ¬ a = b from fun e => q4 (by rw [e]))
    have f4 : (a.sw == b.sw) = false := by simpa using q4
    clear q4
    go_wp2_with fail
    go_ret
    exact ⟨false, rfl, ⟨fun h => (by cases h), fun h => absurd h NE.out⟩, KA.out⟩
  have Q4 := hid q4
  have f4 : (a.sw == b.sw) = true := by simpa using q4
  clear q4
  by_cases q5 : a.di = b.di
  case neg =>
    have NE := hid (show ¬ a = b from fun e => q5 (by rw [e]))
    have f5 : (a.di == b.di) = false := by simpa using q5
    clear q5
    go_wp2_with fail
    go_ret
    exact ⟨false, rfl, ⟨fun h => (by cases h), fun h => absurd h NE.out⟩, KA.out⟩
  have Q5 := hid q5
  have f5 : (a.di == b.di) = true := by simpa using q5
  clear q5
  go_wp2_with fail
  refine (sameE_any W a1 b1 a.es b.es H1.out H2.out).mono ?_
  rintro e w2 ⟨rfl, k2⟩
  have K2 := hid (KA.out.trans k2)
  have ca7 := Keeps.cell k2 (ask_cell RA.out (show _ = some a2 from rfl)) (by simp) (a := ⟨w.heap.size, 7, none⟩)
  have cb7 := Keeps.cell k2 (ask_cell RB.out (show _ = some b2 from rfl)) (by simp) (a := ⟨w.heap.size + 1, 7, none⟩)
  have M1' := hid (M1.out.keep k2 (by intro _ _ _ _ _; simp))
  have M2' := hid (M2.out.keep k2 (by intro _ _ _ _ _; simp))
  clear k2
  by_cases q6 : a.es = b.es
  case neg =>
    have NE := hid (show ¬ a = b from fun e => q6 (by rw [e]))
    rw [decide_eq_false q6]
    clear q6
    go_wp2_with fail
    go_ret
    exact ⟨false, rfl, ⟨fun h => (by cases h), fun h => absurd h NE.out⟩, K2.out⟩
  have Q6 := hid q6
  rw [decide_eq_true q6]
  clear q6
  go_wp2_with fail
  refine (same_any w2 a2 b2 a.mp b.mp M1'.out M2'.out L1.out L2.out).mono ?_
  rintro e w3 ⟨rfl, n3, e3⟩
  have K3 := hid (show Keeps [] w w3 by rw [e3]; exact K2.out.drewN n3)
  clear e3
  by_cases q7 : a.mp = b.mp
  case neg =>
    have NE := hid (show ¬ a = b from fun e => q7 (by rw [e]))
    rw [decide_eq_false q7]
    clear q7
    go_wp2_with fail
    go_ret
    exact ⟨false, rfl, ⟨fun h => (by cases h), fun h => absurd h NE.out⟩, K3.out⟩
  have Q7 := hid q7
  rw [decide_eq_true q7]
  clear q7
  go_wp2_with fail
  go_ret
  refine ⟨true, rfl, ⟨fun _ => ?_, fun _ => rfl⟩, K3.out⟩
  obtain ⟨p0, p1, p2, p3, p4, p5, p6, p7⟩ := a
  obtain ⟨r0, r1, r2, r3, r4, r5, r6, r7⟩ := b
  have g0 := Q0.out
  have g1 := Q1.out
  have g2 := Q2.out
  have g3 := Q3.out
  have g4 := Q4.out
  have g5 := Q5.out
  have g6 := Q6.out
  have g7 := Q7.out
  simp only at g0 g1 g2 g3 g4 g5 g6 g7
  subst g0 g1 g2 g3 g4 g5 g6 g7
  rfl
end Go.Proofs.Ytoglcohdanpciaa
