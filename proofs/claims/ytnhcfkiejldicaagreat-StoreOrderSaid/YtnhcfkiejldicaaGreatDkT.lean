/- Load, the function. -/
import Derived.Test.YtnhcfkiejldicaaGreatDkS
namespace Go.Proofs.YtnhcfkiejldicaaGreat
open Go.RowKit Go.Shelf
attribute [local go_sem] Oper.semAt_some

/-- What the first rows of an image make of a disk. -/
def chunkF {cnt : Nat} (R : Nat → Row) (pre : List {x : Nat // x < cnt}) (i : Nat) : Row × Row := match pre[i]? with | some x => (R x.1, R x.1) | none => (zrow, zrow)

theorem chunkF_snoc {cnt : Nat} (R : Nat → Row) (pre : List {x : Nat // x < cnt}) (x : {x : Nat // x < cnt}) : upd (chunkF R pre) pre.length (R x.1, R x.1) = chunkF R (pre ++ [x]) := by
  funext i
  by_cases h : i = pre.length
  · subst h
    simp [chunkF, upd]
  · rw [upd_ne _ _ h]
    unfold chunkF
    by_cases h2 : i < pre.length
    · rw [List.getElem?_append_left h2]
    · rw [List.getElem?_eq_none (by omega), List.getElem?_eq_none (by simp; omega)]

theorem exec_toArr {ρ : Operand → Value} {o : Oper} {w : World} {ad : Option Addr} {c : Nat} (x : Operand) (ho : o.op = .sliceToArrayPointer 112 x) (hx : ρ x = .slice ad 64 c) : (execOp ρ o).run Tryz.prog w = .ok (.value (.pointer ad)) w := by
  simp [execOp, ho, hx, Instr.arrayAt, run_underlying uRow, Result.andThen]

theorem chunkF_all {cnt : Nat} (R : Nat → Row) (ys : List {x : Nat // x < cnt}) (h : ys.map (·.1) = List.range cnt) : chunkF R ys = fun i => (if i < cnt then R i else zrow, if i < cnt then R i else zrow) := by
  funext i
  have hl : ys.length = cnt := by simpa using congrArg List.length h
  unfold chunkF
  by_cases hi : i < cnt
  · have h2 := congrArg (fun l => l[i]?) h
    simp only [List.getElem?_map, List.getElem?_range hi] at h2
    cases hy : ys[i]? with
    | none => rw [hy] at h2; simp at h2
    | some y => rw [hy] at h2; simp at h2; simp [h2, hi]
  · rw [List.getElem?_eq_none (by omega)]
    simp [hi]

theorem imageL_at (R : Nat → Row) (n : Nat) (x : Nat) (hx : x < n) (j : Nat) (u : Int) (hu : (R x).1[j]? = some u) : (imageL R n)[x * 64 + j]? = some u := by
  unfold imageL
  induction n with
  | zero => omega
  | succ n ih =>
    rw [List.range_succ, List.flatMap_append]
    have hl := imageL_len R n
    unfold imageL at hl
    have hj : j < 64 := by rw [← (R x).2.1]; exact (List.getElem?_eq_some_iff.1 hu).1
    by_cases hxn : x < n
    · rw [List.getElem?_append_left (by rw [hl]; omega)]
      exact ih hxn
    · have : x = n := by omega
      subst this
      rw [List.getElem?_append_right (by rw [hl]; omega), hl]
      simpa using hu

/-- A disk of an image. -/
def loadS (R : Nat → Row) (cnt : Nat) : DS := ⟨cnt, fun i => if i < cnt then R i else zrow, fun i => if i < cnt then R i else zrow, [], -1, 0, false⟩

theorem loadS_image (R : Nat → Row) (cnt : Nat) : imageL (loadS R cnt).now cnt = imageL R cnt := by
  unfold imageL loadS
  rw [List.flatMap_def, List.flatMap_def]
  congr 1
  refine List.map_congr_left fun i hi => ?_
  rw [List.mem_range] at hi
  simp [hi]

end Go.Proofs.YtnhcfkiejldicaaGreat
