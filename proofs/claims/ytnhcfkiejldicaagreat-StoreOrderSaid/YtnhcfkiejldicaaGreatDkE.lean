/- keep: a sector put in its place. -/
import Derived.Test.YtnhcfkiejldicaaGreatDkD
import Derived.StillTailTactics
namespace Go.Proofs.YtnhcfkiejldicaaGreat
open Go.RowKit

theorem upd_zero_pair (f : Nat → Row × Row) (i : Nat) : upd f i (zrow, zrow) = upd f i (zrow, zrow) := rfl

theorem wpList_mstore {ops : Array Oper} {rest : List Oper} {o : Oper} {a : Act} {w : World} {Q : Exit → Act → World → Prop} (hg : o.guard = none) (x y z : Operand) (ho : o.op = .mapUpdate 76 x y z) (m n cnt : Nat) (f : Nat → Row × Row) (h : MapIs w m n cnt f) (hx : a.eval x = .map (some m)) (i : Nat) (hi : i < cnt) (hc : cnt ≤ 9223372036854775807) (hn : n < 140737488351232) (hy : a.eval y = .int .i64 i) (r s : Row) (hz : a.eval z = secV r s)
    (hK : ∀ w', Hid (MapIs w' m (n + 1) cnt (upd f i (r, s))) → Hid (Keeps [m] w w') → wpList Tryz.prog ops Q rest (a.put o.dst undef) w') : wpList Tryz.prog ops Q (o :: rest) a w :=
  wpList_plain hg fun _ hK' => wp_mstore x y z ho m n cnt f h hx i hi hc hn hy r s hz fun w' h1 h2 => hK' _ _ (hK w' h1 h2)

theorem loadSec_run (w : World) (b off : Nat) (r s : Row) (hc : w.rangeAt b off (r.cells ++ s.cells)) : (Instr.loadAt 116 (.pointer (some ⟨b, off, none⟩))).run Tryz.prog w = .ok (secV r s) w :=
  run_loadAt_mid w b off 116 (r.cells ++ s.cells) _ hc uSec rfl (by rw [sSec]; simp)

theorem wpStill_is {ops : Array Oper} {w : World} {Q : Act → Prop} {a : Act} {o : Oper} {rest : List Oper} (v : Value) (hrun : (execOp a.eval o).run Tryz.prog w = .ok (.value v) w)
    (hw : Region.wanted o (yielded ops a.tmps) = true) (h : wpStill Tryz.prog ops w Q rest (a.put o.dst v)) : wpStill Tryz.prog ops w Q (o :: rest) a := by
  refine wpStill_step fun K hK => ?_
  rw [if_pos hw]
  unfold Oper.still
  rw [hrun]
  exact ⟨rfl, hK _ h⟩

theorem wpStill_loadSec {ops : Array Oper} {w : World} {Q : Act → Prop} {a : Act} {o : Oper} {rest : List Oper} (x : Operand) (ho : o.op = .load 116 x) (b off : Nat) (hx : a.eval x = .pointer (some ⟨b, off, none⟩)) (r s : Row) (hc : w.rangeAt b off (r.cells ++ s.cells))
    (hw : Region.wanted o (yielded ops a.tmps) = true) (h : wpStill Tryz.prog ops w Q rest (a.put o.dst (secV r s))) : wpStill Tryz.prog ops w Q (o :: rest) a := by
  refine wpStill_is _ ?_ hw h
  simp only [execOp, ho, hx, Sem.run_bind, loadSec_run w b off r s hc, Result.andThen_ok, Sem.run_pure]

set_option maxRecDepth 100000 in
set_option maxHeartbeats 4000000 in
/-- keep(n, s). -/
theorem keep_any (w : World) (p m n cnt : Nat) (f : Nat → Row × Row) (c1 : w.cell? ⟨p, 1, none⟩ = some (.map (some m))) (h : MapIs w m n cnt f) (i : Nat) (hi : i < cnt) (hc : cnt ≤ 9223372036854775807) (hn : n < 140737488351232) (r s : Row) :
    Calls Tryz.prog 74 #[.pointer (some ⟨p, 0, none⟩), .int .i64 i, secV r s] w fun e w' => e = .returned (.tuple #[]) ∧ MapIs w' m (n + 1) cnt (upd f i (r, s)) ∧ Keeps [m] w w' := by
  have hp : p < w.heap.size := World.block_lt_of_cell? w _ c1
  have hm := h.lt
  have hpm : p ≠ m := by
    rintro rfl
    obtain ⟨D, ⟨es, cl, h1, _⟩, _⟩ := h
    simp [World.cell?, h1] at c1
  by_cases hz : (decide (r = zrow) && decide (s = zrow)) = true
  · have hz' : r = zrow ∧ s = zrow := by simpa using hz
    have H := hid h
    have Hz := hid hz'
    clear hz'
    go_enter Tryz.func74, Tryz.ntmps74
    go_wp2_with (first | (refine wpList_boxSec rfl _ rfl r s rfl ?_) | (refine wpList_loadSec rfl _ rfl _ _ rfl r s (rangeNew _ _ _) ?_) | (refine wpList_buildZero rfl rfl ?_) | (refine wpList_eqSec rfl _ _ _ rfl _ _ _ _ rfl rfl true hz ?_) | (refine wpList_mdrop rfl _ _ rfl m n cnt f (H.out.keep ((Keeps.refl [] _).alloc _) (by simp)) rfl i (by omega) rfl ?_; intro w1 h1 h2) | fail)
    refine bodyPost_ret (results_none rfl _ _ _) rfl ?_
    refine ⟨rfl, ?_, ((Keeps.refl _ _).alloc _).trans h2.out⟩
    rw [Hz.out.1, Hz.out.2]
    exact h1.out.mono (by omega)
  · have hz' : (decide (r = zrow) && decide (s = zrow)) = false := by simpa using hz
    have H := hid h
    clear hz
    go_enter Tryz.func74, Tryz.ntmps74
    go_wp2_with (first | (refine wpList_boxSec rfl _ rfl r s rfl ?_) | (refine wpList_loadSec rfl _ rfl _ _ rfl r s (rangeNew _ _ _) ?_) | (refine wpList_buildZero rfl rfl ?_) | (refine wpList_eqSec rfl _ _ _ rfl _ _ _ _ rfl rfl false hz' ?_) | fail)
    refine wp_region_still_tail 6 (by kernel_rfl) (by kernel_rfl) ?_
    simp only [List.take_succ_cons, List.take_zero, List.drop_succ_cons, List.drop_zero]
    change wpStill _ _ (World.drew (w.alloc (.cells (r.cells ++ s.cells).toArray 116))) (fun a' => wpList _ _ _ _ a' (World.drew (w.alloc (.cells (r.cells ++ s.cells).toArray 116)))) _ _
    have K0 : Keeps [] w (w.alloc (.cells (r.cells ++ s.cells).toArray 116)).drew := ((Keeps.refl _ _).alloc _).drew
    have rg : (w.alloc (.cells (r.cells ++ s.cells).toArray 116)).drew.rangeAt w.heap.size 0 (r.cells ++ s.cells) := (World.rangeAt_drew _ _ _ _).2 (rangeNew _ _ _)
    generalize World.drew (w.alloc (.cells (r.cells ++ s.cells).toArray 116)) = w2 at K0 rg ⊢
    have c1' : w2.cell? ⟨p, 1, none⟩ = some (.map (some m)) := by rw [World.cell?_of_block (w := w) (K0.block p hp (by simp))]; exact c1
    have H2 := hid (H.out.keep K0 (by simp))
    repeat (first | still_step | (refine wpStill_loadSec _ rfl _ _ rfl r s rg rfl ?_))
    refine wpStill_nil ?_
    go_wp2_with (first | (refine wpList_mstore rfl _ _ _ rfl m n cnt f H2.out rfl i hi hc hn rfl r s rfl ?_; intro w3 h1 h2) | fail)
    go_end0
    exact ⟨rfl, h1.out, (K0.mono (by simp)).trans h2.out⟩

end Go.Proofs.YtnhcfkiejldicaaGreat
