/- delta: what a reading holds; its numbers, pointers. -/
import Derived.Test.YtoglcohdanpciaaDeB
import Derived.Test.YtoglcohdanpciaaBkEc
namespace Go.Proofs.Ytoglcohdanpciaa
open Go.RowKit Go.Shelf
set_option maxRecDepth 100000
set_option linter.unusedSimpArgs false

def rdCells (p : Nat) (x : Dl) : Array Value := #[.pointer (some ⟨p, 0, none⟩), .int .i64 x.d, .int .i64 x.i, .int .i64 x.b, .int .i64 x.s, .int .i64 x.t.c, .int .i64 x.t.l, .int .i64 x.t.n, .int .i64 x.t.a, .int .i64 x.t.k, .int .i64 x.o.c, .int .i64 x.o.l, .int .i64 x.o.n, .int .i64 x.o.a, .int .i64 x.o.k]
/-- The four numbers ahead of a delta's pointers. -/
def headE (st : PSt) : Dl × PSt :=
  let a := numE 1 st; let b := numE 2 a.2; let c := numE 1 b.2; let d := numE 2 c.2
  (⟨a.1, b.1, c.1, d.1, pZ, pZ⟩, d.2)
theorem exec_storePtIn {ρ : Operand → Value} {o : Oper} {w : World} (x y : Operand) (hop : o.op = .store 147 x y) (T : TypeId) (g off : Nat) (hx : ρ x = .pointer (some ⟨g, off, none⟩)) (cur : Array Value)
    (hb : w.heap[g]? = some (.cells cur T (0, 0))) (hfit : off + 5 ≤ cur.size) (t : Pt) (hy : ρ y = ptV t) :
    (execOp ρ o).run Try.prog w = .ok .skip (w.setRow g (cur.toList.take off ++ t.cells ++ cur.toList.drop (off + 5)).toArray) := by
  have hst := run_storeCells_at Try.prog g off T t.cells 0 cur w hb (by simpa [Pt.cells] using hfit) (fun v hv => pcells_one [t] v (by simpa [pcells] using hv))
  have hr : (Instr.storeAt 147 (.pointer (some ⟨g, off, none⟩)) (ptV t)).run Try.prog w = .ok () (w.setRow g (cur.toList.take off ++ t.cells ++ cur.toList.drop (off + 5)).toArray) := by
    obtain ⟨i0, hi, hz0, hz1, hz2⟩ := info_parts iPtr
    have e3 : (ptV t).cells = t.cells.toArray := rfl
    have e4 : t.cells.length = 5 := rfl
    simp only [Nat.add_zero, e4] at hst
    simp only [Instr.storeAt, Instr.sureAddr, Sem.run_bind, Sem.run_pure, Result.andThen_ok, storeVar]
    have e5 : t.cells.toArray.size = 5 := rfl
    simp [sizeOf, typeInfo, hi, hz1, e3, e4, e5, hst]
  unfold execOp
  simp only [hop, hx, hy, hr, Sem.run_bind, Result.andThen_ok]
  rfl
theorem EyL.kept {w wr w' : World} {B p : Nat} {v : Value} {st : PSt} (h : EyL w wr B p v st) {b : Nat} (k : Keeps [b] wr w') (hb : w.heap.size ≤ b) (hp : p ≠ b) : EyL w w' B p v st := h.later k hb hp
def RdPostN (w0 w : World) (B p b : Nat) (v : Value) (st : PSt) (x : Dl) (e : Ending) (w' : World) : Prop :=
  e = .returned (.tuple #[]) ∧ EyL w0 w' B p v st ∧ w'.heap[b]? = some (.cells (rdCells p x) 231 (0, 0)) ∧ Keeps [p, b] w w'

set_option maxHeartbeats 12800000 in
theorem dNums_any {w0 : World} (w : World) (B p b : Nat) (v : Value) (st : PSt) (h : EyL w0 w B p v st) (hw0 : w0.heap.size ≤ b) (hb : w.heap[b]? = some (.cells (rdCells p dZ) 231 (0, 0))) (hpb : p ≠ b) :
    Calls Try.prog 183 #[.pointer (some ⟨b, 0, none⟩)] w (RdPostN w0 w B p b v (headE st).2 (headE st).1) := by
  obtain ⟨x1, s1, e1⟩ : ∃ x s, numE 1 st = (x, s) := ⟨_, _, rfl⟩
  obtain ⟨x2, s2, e2⟩ : ∃ x s, numE 2 s1 = (x, s) := ⟨_, _, rfl⟩
  obtain ⟨x3, s3, e3⟩ : ∃ x s, numE 1 s2 = (x, s) := ⟨_, _, rfl⟩
  obtain ⟨x4, s4, e4⟩ : ∃ x s, numE 2 s3 = (x, s) := ⟨_, _, rfl⟩
  have EG : Hid (headE st = (⟨x1, x2, x3, x4, pZ, pZ⟩, s4)) := hid (by unfold headE; rw [e1]; simp only; rw [e2]; simp only; rw [e3]; simp only; rw [e4])
  have N1 := hid e1
  have N2 := hid e2
  have N3 := hid e3
  have N4 := hid e4
  have E0 := hid h
  have J0 := hid hb
  have HW := hid hw0
  have HP := hid hpb
  have K0 : Hid (Keeps [p, b] w w) := hid (Keeps.refl _ _)
  have LT := hid (lt_of_block hb)
  obtain ⟨cp, fp⟩ := five_cells hb 0
  change w.cell? ⟨b, 0, none⟩ = some (.pointer (some ⟨p, 0, none⟩)) at cp
  rw [EG.out]
  clear h hb hw0 hpb e1 e2 e3 e4 fp
  go_enter Try.func183, Try.ntmps183
  go_wp2_with fail
  clear cp
  have A := E0.out.num 1
  rw [N1.out] at A
  refine A.mono ?_
  rintro e u1 ⟨rfl, ey, kk⟩
  have F1 := hid ((kk.block b (by have := LT.out; have := K0.out.size; omega) (by have := HP.out; simp; omega)).trans J0.out)
  have T1 := hid ey
  have KU1 := hid (K0.out.trans (kk.mono (S' := [p, b]) (fun k _ hk => by simp at hk ⊢; simp [hk])))
  obtain ⟨cc, ff⟩ := five_cells F1.out 1
  change u1.cell? ⟨b, 1, none⟩ = some (.int .i64 0) at cc
  clear A ey kk
  have jj := set_five (i := 1) F1.out (.int .i64 x1)
  have J1 : Hid ((u1.setCell ⟨b, 1, none⟩ (.int .i64 x1)).heap[b]? = some (.cells (rdCells p ⟨x1, 0, 0, 0, pZ, pZ⟩) 231 (0, 0))) := hid jj
  have sk : Keeps [b] u1 (u1.setCell ⟨b, 1, none⟩ (.int .i64 x1)) := set_keep
  have E1 := hid (T1.out.later sk HW.out HP.out)
  have K1 := hid (KU1.out.trans (sk.mono (S' := [p, b]) (fun k _ hk => by simp at hk ⊢; simp [hk])))
  obtain ⟨cp, fp⟩ := five_cells J1.out 0
  change (u1.setCell ⟨b, 1, none⟩ (.int .i64 x1)).cell? ⟨b, 0, none⟩ = some (.pointer (some ⟨p, 0, none⟩)) at cp
  clear sk jj fp
  go_wp2_with fail
  clear cp
  have A := E1.out.num 2
  rw [N2.out] at A
  refine A.mono ?_
  rintro e u2 ⟨rfl, ey, kk⟩
  have F2 := hid ((kk.block b (by have := LT.out; have := K1.out.size; omega) (by have := HP.out; simp; omega)).trans J1.out)
  have T2 := hid ey
  have KU2 := hid (K1.out.trans (kk.mono (S' := [p, b]) (fun k _ hk => by simp at hk ⊢; simp [hk])))
  obtain ⟨cc, ff⟩ := five_cells F2.out 2
  change u2.cell? ⟨b, 2, none⟩ = some (.int .i64 0) at cc
  clear A ey kk
  have jj := set_five (i := 2) F2.out (.int .i64 x2)
  have J2 : Hid ((u2.setCell ⟨b, 2, none⟩ (.int .i64 x2)).heap[b]? = some (.cells (rdCells p ⟨x1, x2, 0, 0, pZ, pZ⟩) 231 (0, 0))) := hid jj
  have sk : Keeps [b] u2 (u2.setCell ⟨b, 2, none⟩ (.int .i64 x2)) := set_keep
  have E2 := hid (T2.out.later sk HW.out HP.out)
  have K2 := hid (KU2.out.trans (sk.mono (S' := [p, b]) (fun k _ hk => by simp at hk ⊢; simp [hk])))
  obtain ⟨cp, fp⟩ := five_cells J2.out 0
  change (u2.setCell ⟨b, 2, none⟩ (.int .i64 x2)).cell? ⟨b, 0, none⟩ = some (.pointer (some ⟨p, 0, none⟩)) at cp
  clear sk jj fp
  go_wp2_with fail
  clear cp
  have A := E2.out.num 1
  rw [N3.out] at A
  refine A.mono ?_
  rintro e u3 ⟨rfl, ey, kk⟩
  have F3 := hid ((kk.block b (by have := LT.out; have := K2.out.size; omega) (by have := HP.out; simp; omega)).trans J2.out)
  have T3 := hid ey
  have KU3 := hid (K2.out.trans (kk.mono (S' := [p, b]) (fun k _ hk => by simp at hk ⊢; simp [hk])))
  obtain ⟨cc, ff⟩ := five_cells F3.out 3
  change u3.cell? ⟨b, 3, none⟩ = some (.int .i64 0) at cc
  clear A ey kk
  have jj := set_five (i := 3) F3.out (.int .i64 x3)
  have J3 : Hid ((u3.setCell ⟨b, 3, none⟩ (.int .i64 x3)).heap[b]? = some (.cells (rdCells p ⟨x1, x2, x3, 0, pZ, pZ⟩) 231 (0, 0))) := hid jj
  have sk : Keeps [b] u3 (u3.setCell ⟨b, 3, none⟩ (.int .i64 x3)) := set_keep
  have E3 := hid (T3.out.later sk HW.out HP.out)
  have K3 := hid (KU3.out.trans (sk.mono (S' := [p, b]) (fun k _ hk => by simp at hk ⊢; simp [hk])))
  obtain ⟨cp, fp⟩ := five_cells J3.out 0
  change (u3.setCell ⟨b, 3, none⟩ (.int .i64 x3)).cell? ⟨b, 0, none⟩ = some (.pointer (some ⟨p, 0, none⟩)) at cp
  clear sk jj fp
  go_wp2_with fail
  clear cp
  have A := E3.out.num 2
  rw [N4.out] at A
  refine A.mono ?_
  rintro e u4 ⟨rfl, ey, kk⟩
  have F4 := hid ((kk.block b (by have := LT.out; have := K3.out.size; omega) (by have := HP.out; simp; omega)).trans J3.out)
  have T4 := hid ey
  have KU4 := hid (K3.out.trans (kk.mono (S' := [p, b]) (fun k _ hk => by simp at hk ⊢; simp [hk])))
  obtain ⟨cc, ff⟩ := five_cells F4.out 4
  change u4.cell? ⟨b, 4, none⟩ = some (.int .i64 0) at cc
  clear A ey kk
  have jj := set_five (i := 4) F4.out (.int .i64 x4)
  have J4 : Hid ((u4.setCell ⟨b, 4, none⟩ (.int .i64 x4)).heap[b]? = some (.cells (rdCells p ⟨x1, x2, x3, x4, pZ, pZ⟩) 231 (0, 0))) := hid jj
  have sk : Keeps [b] u4 (u4.setCell ⟨b, 4, none⟩ (.int .i64 x4)) := set_keep
  have E4 := hid (T4.out.later sk HW.out HP.out)
  have K4 := hid (KU4.out.trans (sk.mono (S' := [p, b]) (fun k _ hk => by simp at hk ⊢; simp [hk])))
  obtain ⟨cp, fp⟩ := five_cells J4.out 0
  change (u4.setCell ⟨b, 4, none⟩ (.int .i64 x4)).cell? ⟨b, 0, none⟩ = some (.pointer (some ⟨p, 0, none⟩)) at cp
  clear sk jj fp
  go_wp2_with fail
  go_end0
  exact ⟨rfl, E4.out, J4.out, K4.out⟩

set_option maxHeartbeats 6400000 in
theorem dTo_any {w0 : World} (w : World) (B p b : Nat) (v : Value) (st : PSt) (x : Dl) (h : EyL w0 w B p v st) (hw0 : w0.heap.size ≤ b) (hb : w.heap[b]? = some (.cells (rdCells p x) 231 (0, 0))) (hpb : p ≠ b) :
    Calls Try.prog 195 #[.pointer (some ⟨b, 0, none⟩)] w (RdPostN w0 w B p b v (getP st).2 { x with t := getA st }) := by
  have HW := hid hw0
  have HP := hid hpb
  have LT := hid (lt_of_block hb)
  have HB := hid hb
  obtain ⟨cp, fp⟩ := five_cells hb 0
  change w.cell? ⟨b, 0, none⟩ = some (.pointer (some ⟨p, 0, none⟩)) at cp
  have A := zGetPtr_any w B p v st h (by have := lt_of_block hb; omega)
  obtain ⟨y, hy⟩ : ∃ y, y = getA st := ⟨_, rfl⟩
  rw [← hy] at A ⊢
  clear h hb hw0 hpb fp hy
  go_enter Try.func195, Try.ntmps195
  go_wp2_with fail
  clear cp
  refine A.mono ?_
  rintro e u ⟨rfl, ey, kk⟩
  have F1 := hid ((kk.block b LT.out (by have := HP.out; simp; omega)).trans HB.out)
  have T1 := hid ey
  have K1 := hid kk
  clear A ey kk
  obtain ⟨r1, r2⟩ := setRow_keepsP (cs := ((rdCells p x).toList.take 5 ++ y.cells ++ (rdCells p x).toList.drop (5 + 5)).toArray) F1.out
  have R1 := hid r1
  have R2 := hid r2
  clear r1 r2
  go_wp2_with (first | (refine wpList_noval rfl _ (exec_storePtIn _ _ rfl 231 b 5 rfl (rdCells p x) F1.out (by simp [rdCells]) y rfl) ?_) | fail)
  go_end0
  exact ⟨rfl, T1.out.later R2.out HW.out HP.out, R1.out, (K1.out.mono (S' := [p, b]) (fun k _ hk => by simp at hk ⊢; simp [hk])).trans (R2.out.mono (S' := [p, b]) (fun k _ hk => by simp at hk ⊢; simp [hk]))⟩

set_option maxHeartbeats 6400000 in
theorem dOld_any {w0 : World} (w : World) (B p b : Nat) (v : Value) (st : PSt) (x : Dl) (h : EyL w0 w B p v st) (hw0 : w0.heap.size ≤ b) (hb : w.heap[b]? = some (.cells (rdCells p x) 231 (0, 0))) (hpb : p ≠ b) :
    Calls Try.prog 196 #[.pointer (some ⟨b, 0, none⟩)] w (RdPostN w0 w B p b v (getP st).2 { x with o := getA st }) := by
  have HW := hid hw0
  have HP := hid hpb
  have LT := hid (lt_of_block hb)
  have HB := hid hb
  obtain ⟨cp, fp⟩ := five_cells hb 0
  change w.cell? ⟨b, 0, none⟩ = some (.pointer (some ⟨p, 0, none⟩)) at cp
  have A := zGetPtr_any w B p v st h (by have := lt_of_block hb; omega)
  obtain ⟨y, hy⟩ : ∃ y, y = getA st := ⟨_, rfl⟩
  rw [← hy] at A ⊢
  clear h hb hw0 hpb fp hy
  go_enter Try.func196, Try.ntmps196
  go_wp2_with fail
  clear cp
  refine A.mono ?_
  rintro e u ⟨rfl, ey, kk⟩
  have F1 := hid ((kk.block b LT.out (by have := HP.out; simp; omega)).trans HB.out)
  have T1 := hid ey
  have K1 := hid kk
  clear A ey kk
  obtain ⟨r1, r2⟩ := setRow_keepsP (cs := ((rdCells p x).toList.take 10 ++ y.cells ++ (rdCells p x).toList.drop (10 + 5)).toArray) F1.out
  have R1 := hid r1
  have R2 := hid r2
  clear r1 r2
  go_wp2_with (first | (refine wpList_noval rfl _ (exec_storePtIn _ _ rfl 231 b 10 rfl (rdCells p x) F1.out (by simp [rdCells]) y rfl) ?_) | fail)
  go_end0
  exact ⟨rfl, T1.out.later R2.out HW.out HP.out, R1.out, (K1.out.mono (S' := [p, b]) (fun k _ hk => by simp at hk ⊢; simp [hk])).trans (R2.out.mono (S' := [p, b]) (fun k _ hk => by simp at hk ⊢; simp [hk]))⟩

end Go.Proofs.Ytoglcohdanpciaa
