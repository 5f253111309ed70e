/- What stands in a disk's memory: rows of 64 bytes, sectors, writes, as values of the model; what each operation on them yields. -/
import Derived.Test.YtnhcfkiejldicaaGreatCore
import Derived.Laws.Tables
import Derived.Great.FillDense
import Derived.Deep.MidRow
import Derived.Laws.StructEq
namespace Go.Proofs.YtnhcfkiejldicaaGreat
open Go.RowKit

/-- 64 bytes. -/
def Row : Type := {l : List Int // l.length = 64 ∧ ∀ z ∈ l, 0 ≤ z ∧ z ≤ 255}
def Row.cells (r : Row) : List Value := r.1.map (Value.int .u8)
def zrow : Row := ⟨List.replicate 64 0, by simp, by intro z hz; have := (List.mem_replicate.1 hz).2; omega⟩
def rowV (r : Row) : Value := .agg r.cells.toArray
def secV (a b : Row) : Value := .agg (a.cells ++ b.cells).toArray
def wrV (n : Int) (r : Row) : Value := .agg (.int .i64 n :: r.cells).toArray

@[simp] theorem Row.len (r : Row) : r.cells.length = 64 := by simp [Row.cells, r.2.1]
theorem Row.one (r : Row) : ∀ v ∈ r.cells, v.oneCell' = true := by
  intro v hv
  simp only [Row.cells, List.mem_map] at hv
  obtain ⟨z, _, rfl⟩ := hv
  rfl
theorem Row.ext_cells {a b : Row} (h : a.cells = b.cells) : a = b := by
  apply Subtype.ext
  have hi : ∀ (x y : List Int), x.map (Value.int .u8) = y.map (Value.int .u8) → x = y := by
    intro x
    induction x with
    | nil => intro y e; cases y with | nil => rfl | cons _ _ => simp at e
    | cons x xs ih => intro y e; cases y with | nil => simp at e | cons y ys => simp at e; rw [e.1, ih ys (by simpa using e.2)]
  exact hi _ _ h

theorem uRow : Tryz.prog.underlying 112 = some (.array 64 5) := by kernel_rfl
theorem uSec : Tryz.prog.underlying 116 = some (.struct (Tryz.prog.fieldsOf 116)) := by kernel_rfl
theorem uWr : Tryz.prog.underlying 114 = some (.struct (Tryz.prog.fieldsOf 114)) := by kernel_rfl
theorem uInt : Tryz.prog.underlying 3 = some (.int .i64) := by kernel_rfl
theorem uMap : Tryz.prog.underlying 76 = some (.map 3 116) := by kernel_rfl
theorem uWrs : Tryz.prog.underlying 77 = some (.slice 114) := by kernel_rfl
theorem iRow : (Tryz.prog.info? 112).map (fun i => (i.zero, i.size)) = some (some (rowV zrow), 64) := by kernel_rfl
theorem iSec : (Tryz.prog.info? 116).map (fun i => (i.zero, i.size)) = some (some (secV zrow zrow), 128) := by kernel_rfl
theorem iWr : (Tryz.prog.info? 114).map (fun i => (i.zero, i.size, i.bytes)) = some (some (wrV 0 zrow), 65, 72) := by kernel_rfl
theorem sRow : (Tryz.prog.info? 112).map (·.size) = some 64 := by kernel_rfl
theorem sSec : (Tryz.prog.info? 116).map (·.size) = some 128 := by kernel_rfl
theorem sWr : (Tryz.prog.info? 114).map (·.size) = some 65 := by kernel_rfl

theorem zeroRow (w : World) : (zeroValue 112).run Tryz.prog w = .ok (rowV zrow) w := by
  cases hq : Tryz.prog.info? 112 with
  | none => have := iRow; simp [hq] at this
  | some i => have := iRow; simp [hq] at this; simp [zeroValue, typeInfo, hq, this.1]
theorem zeroSec (w : World) : (zeroValue 116).run Tryz.prog w = .ok (secV zrow zrow) w := by
  cases hq : Tryz.prog.info? 116 with
  | none => have := iSec; simp [hq] at this
  | some i => have := iSec; simp [hq] at this; simp [zeroValue, typeInfo, hq, this.1]
theorem zeroWr (w : World) : (zeroValue 114).run Tryz.prog w = .ok (wrV 0 zrow) w := by
  cases hq : Tryz.prog.info? 114 with
  | none => have := iWr; simp [hq] at this
  | some i => have := iWr; simp [hq] at this; simp [zeroValue, typeInfo, hq, this.1]

/-- One part's cells set into cells. -/
theorem set_part (off : Nat) (l : List Value) (cs : List Value) (h : off + l.length ≤ cs.length) :
    (l.toArray.zipIdx.foldl (fun cs (x : Value × Nat) => cs.setIfInBounds (off + x.2) x.1) cs.toArray) = (cs.take off ++ l ++ cs.drop (off + l.length)).toArray := by
  obtain ⟨g1, g2⟩ := Great.foldl_set off l 0 cs.toArray
  rw [← Array.foldl_toList]
  simp only [Array.toList_zipIdx]
  apply Array.ext_getElem?
  intro k
  rw [g2 k]
  simp only [List.size_toArray, Nat.add_zero, List.getElem?_toArray]
  by_cases h1 : off ≤ k ∧ k < off + l.length
  · rw [if_pos ⟨h1.1, h1.2, by omega⟩, List.append_assoc, List.getElem?_append_right (by simp; omega), List.getElem?_append_left (by simp; omega)]
    congr 1
    simp
    omega
  · rw [if_neg (by omega)]
    by_cases h2 : k < off
    · rw [List.append_assoc, List.getElem?_append_left (by simp; omega), List.getElem?_take_of_lt h2]
    · rw [List.append_assoc, List.getElem?_append_right (by simp; omega), List.getElem?_append_right (by simp; omega), List.getElem?_drop]
      congr 1
      simp
      omega

theorem run_buildSec (a b : Row) (w : World) : (Instr.build 116 #[(0, rowV a), (1, rowV b)]).run Tryz.prog w = .ok (secV a b) w := by
  refine run_build w _ _ _ ?_
  have hf : (Tryz.prog.fieldsOf 116).toList.mapM (fun f => (Tryz.prog.info? f.type).map fun i => (f.offset, i.size)) = some [(0, 64), (64, 64)] := by kernel_rfl
  cases hq : Tryz.prog.info? 116 with
  | none => have := iSec; simp [hq] at this
  | some i =>
    have := iSec
    simp [hq] at this
    simp only [Program.built, hq, uSec, this.1, hf]
    have e1 : (rowV a).cells.size = 64 := by simp [rowV, Value.cells]
    have e2 : (rowV b).cells.size = 64 := by simp [rowV, Value.cells]
    have e3 : (secV zrow zrow).cells = (zrow.cells ++ zrow.cells).toArray := rfl
    have e4 : (rowV a).cells = a.cells.toArray := rfl
    have e5 : (rowV b).cells = b.cells.toArray := rfl
    simp only [Instr.fill, List.getElem?_toArray, List.getElem?_cons_zero, List.getElem?_cons_succ, e3, e4, e5]
    rw [if_neg (by simp), set_part 0 _ _ (by simp), if_neg (by simp), set_part 64 _ _ (by simp)]
    simp

theorem run_buildZero (w : World) : (Instr.build 116 #[]).run Tryz.prog w = .ok (secV zrow zrow) w := by
  refine run_build w _ _ _ ?_
  have hf : (Tryz.prog.fieldsOf 116).toList.mapM (fun f => (Tryz.prog.info? f.type).map fun i => (f.offset, i.size)) = some [(0, 64), (64, 64)] := by kernel_rfl
  cases hq : Tryz.prog.info? 116 with
  | none => have := iSec; simp [hq] at this
  | some i =>
    have := iSec
    simp [hq] at this
    simp only [Program.built, hq, uSec, this.1, hf, Instr.fill]
    rfl

theorem run_buildWr (n : Int) (r : Row) (w : World) : (Instr.build 114 #[(0, .int .i64 n), (1, rowV r)]).run Tryz.prog w = .ok (wrV n r) w := by
  refine run_build w _ _ _ ?_
  have hf : (Tryz.prog.fieldsOf 114).toList.mapM (fun f => (Tryz.prog.info? f.type).map fun i => (f.offset, i.size)) = some [(0, 1), (1, 64)] := by kernel_rfl
  cases hq : Tryz.prog.info? 114 with
  | none => have := iWr; simp [hq] at this
  | some i =>
    have := iWr
    simp [hq] at this
    simp only [Program.built, hq, uWr, this.1, hf]
    have e3 : (wrV 0 zrow).cells = (.int .i64 0 :: zrow.cells).toArray := rfl
    have e4 : (Value.int .i64 n).cells = [Value.int .i64 n].toArray := rfl
    have e5 : (rowV r).cells = r.cells.toArray := rfl
    simp only [Instr.fill, List.getElem?_toArray, List.getElem?_cons_zero, List.getElem?_cons_succ, e3, e4, e5]
    rw [if_neg (by simp), set_part 0 _ _ (by simp), if_neg (by simp), set_part 1 _ _ (by simp)]
    simp

theorem aggRow (w : World) : (isAgg 112).run Tryz.prog w = .ok true w := by
  unfold isAgg
  rw [Sem.run_bind, run_underlying uRow w]
  rfl
theorem sizeRow (w : World) : (sizeOf 112).run Tryz.prog w = .ok 64 w := by
  cases hq : Tryz.prog.info? 112 with
  | none => have := sRow; simp [hq] at this
  | some i => have := sRow; simp [hq] at this; simp [sizeOf, typeInfo, hq, this]

theorem run_partNow (a b : Row) (w : World) : (part 112 (a.cells ++ b.cells).toArray 0).run Tryz.prog w = .ok (rowV a) w := by
  simp [part, Result.andThen, rowV]
theorem run_partLasts (a b : Row) (w : World) : (part 112 (a.cells ++ b.cells).toArray 64).run Tryz.prog w = .ok (rowV b) w := by
  simp [part, Result.andThen, rowV]
  rw [List.take_of_length_le (by simp)]

theorem run_fieldNow (a b : Row) (w : World) : (Instr.field 116 (secV a b) 0).run Tryz.prog w = .ok (rowV a) w := by
  have hf : (Tryz.prog.fieldsOf 116)[0]?.map (fun f => (f.type, f.offset)) = some (112, 0) := by kernel_rfl
  cases hq : (Tryz.prog.fieldsOf 116)[0]? with
  | none => simp [hq] at hf
  | some f =>
    simp only [hq, Option.map_some, Option.some.injEq, Prod.mk.injEq] at hf
    simp [Instr.field, run_underlying uSec, hq, asAgg, secV, hf.1, hf.2, run_partNow, Result.andThen]


theorem row_getElem (r : Row) (i : Nat) (h : i < 64) : r.cells.toArray[i]? = some (.int .u8 (r.1.getD i 0)) := by
  have hl := r.2.1
  simp [Row.cells, List.getD, List.getElem?_eq_getElem (show i < r.1.length by omega)]

theorem run_partByte (r : Row) (i : Nat) (h : i < 64) (w : World) : (part 5 r.cells.toArray i).run Tryz.prog w = .ok (.int .u8 (r.1.getD i 0)) w := by
  simp only [part]
  simp [Result.andThen, row_getElem r i h]

theorem row_eq (a b : Row) : a = b ↔ ∀ i, i < 64 → a.1.getD i 0 = b.1.getD i 0 := by
  constructor
  · rintro rfl i _; rfl
  · intro h
    apply Subtype.ext
    have h1 := a.2.1
    have h2 := b.2.1
    apply List.ext_getElem (by omega)
    intro i hi hj
    have := h i (by omega)
    simpa [List.getD, List.getElem?_eq_getElem hi, List.getElem?_eq_getElem hj] using this

instance : DecidableEq Row := inferInstanceAs (DecidableEq {l : List Int // l.length = 64 ∧ ∀ z ∈ l, 0 ≤ z ∧ z ≤ 255})

theorem run_eqRow (d : Nat) (a b : Row) (w : World) : (Op.equalIn (d + 2) 112 (rowV a) (rowV b)).run Tryz.prog w = .ok (decide (a = b)) w := by
  unfold rowV
  rw [Op.equalIn]
  simp only [Sem.run_bind, run_underlying uRow, Result.andThen_ok, size_u8, Std.Legacy.Range.forIn_eq_forIn_range', Std.Legacy.Range.size]
  have key : ∀ l : List Nat, (∀ i ∈ l, i < 64) →
      Sem.run Tryz.prog (forIn l ((none : Option Bool), ()) fun i (_ : Option Bool × Unit) => do
            let x ← part 5 a.cells.toArray (i * 1)
            let y ← part 5 b.cells.toArray (i * 1)
            let z ← Op.equalIn (d + 1) 5 x y
            if (!z) = true then pure (ForInStep.done (some false, ())) else pure (ForInStep.yield (none, ()))) w =
      .ok (if l.all (fun i => a.1.getD i 0 == b.1.getD i 0) then (none, ()) else (some false, ())) w := by
    intro l
    induction l with
    | nil => intro _; simp
    | cons x xs ih =>
      intro hx
      have h0 := hx x (by simp)
      have u8 : Tryz.prog.underlying 5 = some (.int .u8) := by kernel_rfl
      simp only [List.forIn_cons, Sem.run_bind, Nat.mul_one, run_partByte a x h0, run_partByte b x h0, Result.andThen_ok, run_equalIn_int w d 5 .u8 .u8 _ _ u8]
      by_cases e : a.1.getD x 0 = b.1.getD x 0
      · simp only [e, beq_self_eq_true, Bool.not_true, Bool.false_eq_true, if_false, Sem.run_pure, Result.andThen_ok, List.all_cons, Bool.true_and]
        have := ih (fun i hi => hx i (by simp [hi]))
        simpa only [Nat.mul_one] using this
      · have e' : (a.1.getD x 0 == b.1.getD x 0) = false := by simpa using e
        simp only [e', Bool.not_false, if_true, Sem.run_pure, Result.andThen_ok, List.all_cons, Bool.false_and, Bool.false_eq_true, if_false]
  rw [key _ (by intro i hi; simp at hi; omega)]
  have hall : (List.range' 0 ((64 - 0 + 1 - 1) / 1)).all (fun i => a.1.getD i 0 == b.1.getD i 0) = decide (a = b) := by
    rw [Bool.eq_iff_iff]
    simp only [List.all_eq_true, beq_iff_eq, decide_eq_true_eq, row_eq]
    constructor
    · intro h i hi; exact h i (by simp; omega)
    · intro h i hi; exact h i (by simp at hi; omega)
  rw [hall]
  by_cases e : a = b <;> simp [e, Result.andThen]

theorem run_eqSec (a b c d : Row) (w : World) : (binOp .eql 116 (secV a b) (secV c d)).run Tryz.prog w = .ok (.bool (decide (a = c) && decide (b = d))) w := by
  have hp : Tryz.prog.stoodInHeld 116 = false := by kernel_rfl
  have hf : (Tryz.prog.fieldsOf 116).toList.map (fun f => (f.name, f.type, f.offset)) = [("now", 112, 0), ("lasts", 112, 64)] := by kernel_rfl
  have hl : ∃ f g, (Tryz.prog.fieldsOf 116).toList = [f, g] ∧ f.name = "now" ∧ f.type = 112 ∧ f.offset = 0 ∧ g.name = "lasts" ∧ g.type = 112 ∧ g.offset = 64 := by
    match h : (Tryz.prog.fieldsOf 116).toList, hf with
    | [f, g], e => simp at e; exact ⟨f, g, rfl, by simp [e]⟩
    | [], e => simp at e
    | [_], e => simp at e
    | _ :: _ :: _ :: _, e => simp at e
  obtain ⟨f, g, hfg, h1, h2, h3, h4, h5, h6⟩ := hl
  have e1 : ∀ x y, (Op.equalIn 9999 112 (rowV x) (rowV y)).run Tryz.prog w = .ok (decide (x = y)) w := fun x y => run_eqRow 9997 x y w
  unfold secV
  rw [run_eql_struct, run_equalIn_struct w 9999 116 _ _ uSec hp, hfg]
  have n1 : (("now" : String) ≠ "_") = True := by simp
  have n2 : (("lasts" : String) ≠ "_") = True := by simp
  simp only [Op.eqFields, h1, h2, h3, h4, h5, h6, n1, n2, if_true, Sem.run_bind, run_partNow, Result.andThen_ok, e1]
  by_cases e : a = c <;> by_cases e' : b = d <;> simp [e, e', Result.andThen, run_partLasts, e1]

theorem guardSec (a b c d : Row) (x y : Operand) (w : World) : (eqGuard .eql 116 x y (secV a b) (secV c d)).run Tryz.prog w = .ok () w :=
  run_eqGuard_agg w .eql 116 x y _ _ (by kernel_rfl)

end Go.Proofs.YtnhcfkiejldicaaGreat
