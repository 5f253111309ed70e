/- blocks: New, Clone; the laws' own Ptr, Ptrs, in; deltas are built. -/
import Derived.Test.YtamcllcjondcpaaBkJ
namespace Go.Proofs.Ytamcllcjondcpaa
open Go.RowKit Go.Shelf
set_option maxRecDepth 100000
set_option linter.unusedSimpArgs false

theorem buildBk0 (w : World) : (Instr.build 76 #[(0, .bool true)]).run Try.prog w = .ok (.agg #[.bool true, .int .i64 0, .slice none 0 0]) w := by kernel_rfl
theorem uBMap : Try.prog.underlying 76 = some (.struct (Try.prog.fieldsOf 76)) := by kernel_rfl
theorem iBMap : (Try.prog.info? 76).map (fun i => (i.zero, i.size)) = some (some (.agg #[.bool false, .int .i64 0, .slice none 0 0]), 3) := by kernel_rfl
theorem zNew_any (w : World) : Calls Try.prog 14 #[] w fun e w' => e = .returned (.pointer (some ⟨w.heap.size, 0, none⟩)) ∧ w' = w.alloc (.cells #[.bool true, .int .i64 0, .slice none 0 0] 76) := by
  have B := buildBk0
  go_enter Try.func14, Try.ntmps14
  go_wp2_with (first | (refine wpList_is rfl _ _ (exec_box 76 _ #[.bool true, .int .i64 0, .slice none 0 0] rfl rfl) ?_) | fail)
  go_ret
  exact ⟨rfl, rfl⟩
theorem bk_new (w : World) (M : List Nat) : BkAt (w.alloc (.cells #[.bool true, .int .i64 0, .slice none 0 0] 76)) (w.heap.size :: M) w.heap.size bk0 :=
  ⟨⟨_, heap_alloc_new w _, PtsAt.nil _ _⟩, by simp, good0⟩
def mkP (c n a k : Int) : Pt := ⟨c, 0, n, a, k⟩
theorem buildStripe2 (c n : Int) (w : World) : (Instr.build 45 #[(0, .int .i64 c), (2, .int .i64 n)]).run Try.prog w = .ok (.agg #[.int .i64 c, .int .i64 0, .int .i64 n]) w := by kernel_rfl
theorem buildPtr3 (c l n a k : Int) (w : World) : (Instr.build 47 #[(0, .agg #[.int .i64 c, .int .i64 l, .int .i64 n]), (1, .int .i64 a), (2, .int .i64 k)]).run Try.prog w = .ok (.agg #[.int .i64 c, .int .i64 l, .int .i64 n, .int .i64 a, .int .i64 k]) w := by kernel_rfl
theorem lPtr_any (w : World) (c n a k : Int) : Calls Try.prog 29 #[.int .i64 c, .int .i64 n, .int .i64 a, .int .i64 k] w (AtPost w (mkP c n a k)) := by
  have B1 := buildStripe2 c n
  have B2 := buildPtr3 c 0 n a k
  go_enter Try.func29, Try.ntmps29
  go_wp2_with (first | (refine wpList_is rfl _ _ (exec_alloc 47 pZ.cells.toArray iPtr2 rfl) ?_) | (refine wpList_noval rfl _ (exec_storeNew 47 _ _ rfl w pZ.cells.toArray (mkP c n a k).cells.toArray rfl rfl rfl iPtr2 rfl (cells_one _)) ?_) | fail)
  refine bodyPost_ret (pt_ret rfl rfl (range_new w (mkP c n a k).cells 47)) rfl ?_
  exact ⟨rfl, (Keeps.refl [] w).alloc _⟩

theorem buildPut (d i b s : Int) (p : Pt) (w : World) : (Instr.build 49 #[(0, .int .i64 d), (1, .int .i64 i), (2, .int .i64 b), (3, .int .i64 s), (4, ptV p)]).run Try.prog w = .ok (dlV ⟨d, i, b, s, p, pZ⟩) w := by kernel_rfl
theorem buildCut (d i s : Int) (w : World) : (Instr.build 49 #[(0, .int .i64 d), (1, .int .i64 i), (3, .int .i64 s)]).run Try.prog w = .ok (dlV ⟨d, i, 0, s, pZ, pZ⟩) w := by kernel_rfl
theorem buildMove (d i b : Int) (p o : Pt) (w : World) : (Instr.build 49 #[(0, .int .i64 d), (1, .int .i64 i), (2, .int .i64 b), (5, ptV o), (4, ptV p)]).run Try.prog w = .ok (dlV ⟨d, i, b, 0, p, o⟩) w := by kernel_rfl
theorem exec_buildPut {ρ : Operand → Value} {o : Oper} {w : World} (x0 x1 x2 x3 x4 : Operand) (d i b s : Int) (p : Pt) (ho : o.op = .build 49 #[(0, x0), (1, x1), (2, x2), (3, x3), (4, x4)]) (h0 : ρ x0 = .int .i64 d) (h1 : ρ x1 = .int .i64 i) (h2 : ρ x2 = .int .i64 b) (h3 : ρ x3 = .int .i64 s) (h4 : ρ x4 = ptV p) :
    (execOp ρ o).run Try.prog w = .ok (.value (dlV ⟨d, i, b, s, p, pZ⟩)) w := by
  simp only [execOp, ho, List.map_toArray, List.map_cons, List.map_nil, h0, h1, h2, h3, h4, Sem.run_bind, buildPut, Result.andThen_ok, Sem.run_pure]
theorem exec_buildCut {ρ : Operand → Value} {o : Oper} {w : World} (x0 x1 x3 : Operand) (d i s : Int) (ho : o.op = .build 49 #[(0, x0), (1, x1), (3, x3)]) (h0 : ρ x0 = .int .i64 d) (h1 : ρ x1 = .int .i64 i) (h3 : ρ x3 = .int .i64 s) :
    (execOp ρ o).run Try.prog w = .ok (.value (dlV ⟨d, i, 0, s, pZ, pZ⟩)) w := by
  simp only [execOp, ho, List.map_toArray, List.map_cons, List.map_nil, h0, h1, h3, Sem.run_bind, buildCut, Result.andThen_ok, Sem.run_pure]
theorem exec_buildMove {ρ : Operand → Value} {o : Oper} {w : World} (x0 x1 x2 x5 x4 : Operand) (d i b : Int) (p q : Pt) (ho : o.op = .build 49 #[(0, x0), (1, x1), (2, x2), (5, x5), (4, x4)]) (h0 : ρ x0 = .int .i64 d) (h1 : ρ x1 = .int .i64 i) (h2 : ρ x2 = .int .i64 b) (h5 : ρ x5 = ptV q) (h4 : ρ x4 = ptV p) :
    (execOp ρ o).run Try.prog w = .ok (.value (dlV ⟨d, i, b, 0, p, q⟩)) w := by
  simp only [execOp, ho, List.map_toArray, List.map_cons, List.map_nil, h0, h1, h2, h5, h4, Sem.run_bind, buildMove, Result.andThen_ok, Sem.run_pure]
end Go.Proofs.Ytamcllcjondcpaa
