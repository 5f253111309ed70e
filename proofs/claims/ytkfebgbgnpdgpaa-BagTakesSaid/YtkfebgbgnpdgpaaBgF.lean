/- bag: a message as one value: read, laid as a row of one. -/
import Derived.Test.YtkfebgbgnpdgpaaBgE
import Derived.Test.YtkfebgbgnpdgpaaKitB
import Derived.Deep.MidRow
import Derived.Great.BuildSlice
namespace Go.Proofs.Ytkfebgbgnpdgpaa
open Go.RowKit
set_option maxRecDepth 100000

def mgV (m : Mg) : Value := .agg #[.int .i64 m.f, .int .i64 m.t, m.row]

theorem load_mg {E T : TypeId} (mt : MT E T) {w : World} {b o : Nat} {x0 x1 x2 : Value} (d : TypeDesc) (hu : Try.prog.underlying E = some d) (hd : d.isRow = true) (c0 : w.cell? ⟨b, o, none⟩ = some x0) (c1 : w.cell? ⟨b, o + 1, none⟩ = some x1) (c2 : w.cell? ⟨b, o + 2, none⟩ = some x2) :
    (Instr.loadAt E (.pointer (some ⟨b, o, none⟩))).run Try.prog w = .ok (.agg #[x0, x1, x2]) w := by
  refine run_loadAt_mid w b o E [x0, x1, x2] d (fun j v hv => ?_) hu hd (by
    obtain ⟨i0, hi, hz0, hz1, hz2⟩ := info_parts mt.inf
    simp [hi, hz1])
  match j, hv with
  | 0, hv => simp at hv; subst hv; exact c0
  | 1, hv => simp at hv; subst hv; exact c1
  | 2, hv => simp at hv; subst hv; exact c2

theorem loadB {w : World} {b o : Nat} {x0 x1 x2 : Value} (c0 : w.cell? ⟨b, o, none⟩ = some x0) (c1 : w.cell? ⟨b, o + 1, none⟩ = some x1) (c2 : w.cell? ⟨b, o + 2, none⟩ = some x2) :
    (Instr.loadAt 33 (.pointer (some ⟨b, o, none⟩))).run Try.prog w = .ok (.agg #[x0, x1, x2]) w := load_mg mtB _ Try.underlying33 rfl c0 c1 c2
theorem loadR {w : World} {b o : Nat} {x0 x1 x2 : Value} (c0 : w.cell? ⟨b, o, none⟩ = some x0) (c1 : w.cell? ⟨b, o + 1, none⟩ = some x1) (c2 : w.cell? ⟨b, o + 2, none⟩ = some x2) :
    (Instr.loadAt 31 (.pointer (some ⟨b, o, none⟩))).run Try.prog w = .ok (.agg #[x0, x1, x2]) w := load_mg mtR _ Try.underlying31 rfl c0 c1 c2

/-- A row of one message in new memory. -/
theorem exec_oneMg {E T : TypeId} (mt : MT E T) {ρ : Operand → Value} {o : Oper} {w : World} (x : Operand) (f t : Int) (a : Option Addr) (n c : Nat) (ho : o.op = .buildSlice T 1 #[(0, x)]) (hx : ρ x = .agg #[.int .i64 f, .int .i64 t, .slice a n c]) :
    (execOp ρ o).run Try.prog w = .ok (.value (.slice (some ⟨w.heap.size, 0, none⟩) 1 1)) (w.alloc (.cells #[.int .i64 f, .int .i64 t, .slice a n c] E)) := by
  obtain ⟨ie, hie, hz, hs, _⟩ := info_parts mt.inf
  have h : (Instr.buildSlice T 1 #[(0, .agg #[.int .i64 f, .int .i64 t, .slice a n c])]).run Try.prog w = .ok (.slice (some ⟨w.heap.size, 0, none⟩) 1 1) (w.alloc (.cells #[.int .i64 f, .int .i64 t, .slice a n c] E)) := by
    refine run_buildSlice w _ _ 1 _ _ ie _ mt.und hie hz (by rw [hs]; decide) (by rw [hs]; decide) ?_
    rw [hs]
    have e : (Array.range (1 * 3)) = #[0, 1, 2] := rfl
    have e2 : (Value.agg #[.int .i64 0, .int .i64 0, .slice none 0 0]).cells = #[.int .i64 0, .int .i64 0, .slice none 0 0] := rfl
    have e3 : (Value.agg #[.int .i64 f, .int .i64 t, .slice a n c]).cells = #[.int .i64 f, .int .i64 t, .slice a n c] := rfl
    simp only [Instr.fill, e, e2, e3]
    simp
  simp only [execOp, ho, List.map_toArray, List.map_cons, List.map_nil, hx, Sem.run_bind, h, Result.andThen_ok, Sem.run_pure]

/-- A message in new memory is a row of one. -/
theorem one_msgs {E : TypeId} {w : World} {X : List Nat} {m : Mg} (hm : MgOk w X m) {a : Option Addr} {n c : Nat} (hr : m.row = .slice a n c) :
    MsgsAt (w.alloc (.cells #[.int .i64 m.f, .int .i64 m.t, .slice a n c] E)) X (.slice (some ⟨w.heap.size, 0, none⟩) 1 1) [m] := by
  have b := heap_alloc_new w (.cells #[.int .i64 m.f, .int .i64 m.t, .slice a n c] E)
  obtain ⟨c0, c1, c2, _⟩ := row_block3 b
  refine ⟨_, 1, rfl, by simp, by decide, by simp, fun x hx => ?_, fun _ => ⟨w.heap.size, 0, rfl, by simp, fun j u hu => ?_⟩⟩
  · obtain rfl : x = m := by simpa using hx
    exact hm.keep ((Keeps.refl [] w).alloc _) (by simp)
  · rw [Nat.zero_add]
    simp only [mcells, List.flatMap_cons, List.flatMap_nil, List.append_nil] at hu
    match j, hu with
    | 0, hu => simp at hu; subst hu; exact c0
    | 1, hu => simp at hu; subst hu; exact c1
    | 2, hu => simp at hu; subst hu; rw [hr]; exact c2

end Go.Proofs.Ytkfebgbgnpdgpaa
