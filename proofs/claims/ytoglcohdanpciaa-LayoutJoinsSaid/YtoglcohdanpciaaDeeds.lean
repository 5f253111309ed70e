/- The deeds that a law is handed, as they lie in memory; the walk of the laws' room. -/
import Derived.Test.YtoglcohdanpciaaCore
import Derived.Test.YtoglcohdanpciaaModel
namespace Go.Proofs.Ytoglcohdanpciaa
open Go.RowKit

structure Dd where
  act : Int
  x : Int
  n : Int
  row : Value
  bs : List Int


/-- Deed d lies in the four cells from there on. -/
structure DeedAt (w : World) (g off : Nat) (d : Dd) : Prop where
  c0 : w.cell? ⟨g, off, none⟩ = some (.int .i64 d.act)
  c1 : w.cell? ⟨g, off + 1, none⟩ = some (.int .i64 d.x)
  c2 : w.cell? ⟨g, off + 2, none⟩ = some (.int .i64 d.n)
  c3 : w.cell? ⟨g, off + 3, none⟩ = some d.row
  row : RowAt w d.row d.bs
  fit : d.bs.length ≤ 140737488351232
  b0 : i64 d.act
  b1 : i64 d.x
  b2 : i64 d.n

/-- A slice of deeds. -/
def DeedsAt (w : World) (v : Value) (ds : List Dd) : Prop :=
  ∃ (a : Option Addr) (cap : Nat), v = .slice a ds.length cap ∧ ds.length ≤ cap ∧ cap ≤ maxLen ∧ (a = none → cap = 0) ∧
    (ds ≠ [] → ∃ g off, a = some ⟨g, off, none⟩ ∧ ∀ i (h : i < ds.length), DeedAt w g (off + i * 4) ds[i])

theorem DeedAt.keep {w w' : World} {g off : Nat} {d : Dd} (h : DeedAt w g off d) (k : Keeps [] w w') : DeedAt w' g off d :=
  ⟨k.cell h.c0 (by simp), k.cell h.c1 (by simp), k.cell h.c2 (by simp), k.cell h.c3 (by simp), h.row.keep k (by intro _ _ _ _ _; simp), h.fit, h.b0, h.b1, h.b2⟩

theorem DeedsAt.keep {w w' : World} {v : Value} {ds : List Dd} (h : DeedsAt w v ds) (k : Keeps [] w w') : DeedsAt w' v ds := by
  obtain ⟨a, cap, rfl, h1, h2, h0, h3⟩ := h
  refine ⟨a, cap, rfl, h1, h2, h0, fun hne => ?_⟩
  obtain ⟨g, off, rfl, h4⟩ := h3 hne
  exact ⟨g, off, rfl, fun i hi => (h4 i hi).keep k⟩

def RoomOk (ds : List Dd) : Prop := ds.length ≤ 100 ∧ ∀ d ∈ ds, d.bs.length ≤ 70000

def RoomPost (w : World) (ds : List Dd) (e : Ending) (w' : World) : Prop := ∃ b, e = .returned (.bool b) ∧ w = w' ∧ (b = true → RoomOk ds)

end Go.Proofs.Ytoglcohdanpciaa
