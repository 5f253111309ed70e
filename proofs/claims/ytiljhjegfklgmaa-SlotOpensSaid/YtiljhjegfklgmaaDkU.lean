/- The deeds of layer 4's laws: as they lie in memory, as they come in; their bytes; the room. -/
import Derived.Test.YtiljhjegfklgmaaDkP
namespace Go.Proofs.Ytiljhjegfklgmaa
open Go.ChangeShapes Go.WideShapes Go.ChangeAt Go.RowKit
set_option maxRecDepth 100000

structure D4 where
  act : Int
  n : Int
  fill : Int
  long : Int

def D4.cells (d : D4) : List Value := [.int .i64 d.act, .int .i64 d.n, .int .u8 d.fill, .int .i64 d.long]
def d4V (d : D4) : Value := .agg d.cells.toArray
structure D4.Ok (d : D4) : Prop where
  b0 : i64 d.act
  b1 : i64 d.n
  b2 : 0 ≤ d.fill ∧ d.fill ≤ 255
  b3 : i64 d.long

def D4sAt (w : World) (v : Value) (ds : List D4) : Prop :=
  ∃ (a : Option Addr) (cap : Nat), v = .slice a ds.length cap ∧ ds.length ≤ cap ∧ cap ≤ maxLen ∧ (a = none → cap = 0) ∧
    (ds ≠ [] → ∃ g off, a = some ⟨g, off, none⟩ ∧ ∀ i (h : i < ds.length), w.rangeAt g (off + i * 4) ds[i].cells ∧ ds[i].Ok)

theorem D4sAt.keep {w w' : World} {v : Value} {ds : List D4} (h : D4sAt w v ds) (k : Keeps [] w w') : D4sAt w' v ds := by
  obtain ⟨a, cap, rfl, h1, h2, h0, h3⟩ := h
  refine ⟨a, cap, rfl, h1, h2, h0, fun hne => ?_⟩
  obtain ⟨g, off, rfl, h4⟩ := h3 hne
  refine ⟨g, off, rfl, fun i hi => ⟨fun j u hu => ?_, (h4 i hi).2⟩⟩
  have hc := (h4 i hi).1 j u hu
  rw [World.cell?_of_block (w := w) (k.block _ (World.block_lt_of_cell? _ _ hc) (by simp))]
  exact hc

theorem D4sAt.open {w : World} {v : Value} {ds : List D4} (h : D4sAt w v ds) (hne : 0 < ds.length) :
    ∃ g off cap, v = .slice (some ⟨g, off, none⟩) ds.length cap ∧ ds.length ≤ cap ∧ ∀ i (h : i < ds.length), w.rangeAt g (off + i * 4) ds[i].cells ∧ ds[i].Ok := by
  obtain ⟨a, cap, rfl, h1, h2, h0, h3⟩ := h
  obtain ⟨g, off, rfl, h4⟩ := h3 (by rintro rfl; simp at hne)
  exact ⟨g, off, cap, rfl, h1, h4⟩

section
variable {H : Type} {enc : TypeId × Value → H}
theorem cells_i64 : Try.prog.cellsOf 3 = 1 := by kernel_rfl
theorem cells_u84 : Try.prog.cellsOf 5 = 1 := by kernel_rfl

end

/-- The bytes of a deed. -/
def bytesL (d : D4) : List Int := if 0 ≤ d.long ∧ d.long < 64 then (secL d.fill).take d.long.toNat else secL d.fill

theorem bytesL_len (d : D4) : (bytesL d).length ≤ 64 := by
  unfold bytesL
  split <;> simp [secL]; omega

theorem row_take4 {w : World} {a : Option Addr} {cap : Nat} {zs : List Int} (h : RowAt w (.slice a zs.length cap) zs) (k : Nat) (hk : k ≤ zs.length) : RowAt w (.slice a k cap) (zs.take k) := by
  obtain ⟨a', cap', e, h1, h2, h3, h4, h5⟩ := h
  injection e with e1 e2 e3
  subst e1; subst e3
  refine ⟨a, cap, by simp [Nat.min_eq_left hk], by simp; omega, h2, h3, fun z hz => h4 z (List.mem_of_mem_take hz), fun ad had j u hu => h5 ad had j u ?_⟩
  rw [List.map_take, List.getElem?_take] at hu
  split at hu
  · exact hu
  · cases hu

end Go.Proofs.Ytiljhjegfklgmaa
