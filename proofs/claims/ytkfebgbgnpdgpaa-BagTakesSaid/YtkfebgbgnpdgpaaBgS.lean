/- bag: what the laws know of a bag and of the reference's, their blocks named. -/
import Derived.Test.YtkfebgbgnpdgpaaBgR
namespace Go.Proofs.Ytkfebgbgnpdgpaa
open Go.RowKit Go.Shelf
set_option maxRecDepth 100000

def PutF (T E : TypeId) (w : World) (p : Nat) (F : List Nat) (most : Int) (ms : List Mg) (m : Mg) (e : Ending) (w' : World) : Prop :=
  ((ms.length : Int) = most ∧ e = .returned (.bool false) ∧ Keeps [] w w') ∨
  ((ms.length : Int) < most ∧ e = .returned (.bool true) ∧ ∃ F' m', BagF T E w' p F' most (ms ++ [m']) ∧ con m' = con m ∧ Keeps F w w' ∧ Fr w F F')
theorem PutPost7.f {T E : TypeId} {w : World} {p : Nat} {X : List Nat} {v : Value} {most : Int} {ms : List Mg} {m : Mg} {e : Ending} {w' : World} (h : PutPost7 T E w p X v most ms m e w') : PutF T E w p (bfoot p X v) most ms m e w' := by
  rcases h with h | ⟨h1, h2, X', v', m', h3, h4, h5, h6⟩
  · exact Or.inl h
  · exact Or.inr ⟨h1, h2, _, m', ⟨X', v', h3, rfl⟩, h4, h5, h6⟩
theorem bPutF {w : World} {p : Nat} {F : List Nat} {most : Int} {ms : List Mg} (h : BagF 75 33 w p F most ms) (m : Mg) (Y : List Nat) (hm : MgOk w Y m) : Calls Try.prog 12 #[.pointer (some ⟨p, 0, none⟩), mgV m] w (PutF 75 33 w p F most ms m) := by
  obtain ⟨X, v, h, rfl⟩ := h
  exact (bPut_any w p X v most ms h m Y hm).mono fun _ _ h => h.f
def TakeF (T E : TypeId) (w : World) (p : Nat) (F : List Nat) (most : Int) (ms : List Mg) (n : Int) (e : Ending) (w' : World) : Prop :=
  (ms = [] ∧ e = .returned (.tuple #[.agg #[.int .i64 0, .int .i64 0, .slice none 0 0], .bool false]) ∧ Keeps [] w w') ∨
  (∃ i, ∃ h : i < ms.length, n % (ms.length : Int) = i ∧ ∃ m' Y, e = .returned (.tuple #[mgV m', .bool true]) ∧ con m' = con ms[i] ∧ MgOk w' Y m' ∧ Fr w F Y ∧ (∀ b ∈ Y, b < w'.heap.size) ∧
    ∃ F', BagF T E w' p F' most (ms.take i ++ ms.drop (i + 1)) ∧ Keeps F w w' ∧ Fr w F F')
theorem TakePost7.f {T E : TypeId} {w : World} {p : Nat} {X : List Nat} {v : Value} {most : Int} {ms : List Mg} {n : Int} {e : Ending} {w' : World} (h : TakePost7 T E w p X v most ms n e w') : TakeF T E w p (bfoot p X v) most ms n e w' := by
  rcases h with h | ⟨i, hi, h1, m', Y, h2, h3, h4, h5, h6, X', v', h7, h8, h9⟩
  · exact Or.inl h
  · exact Or.inr ⟨i, hi, h1, m', Y, h2, h3, h4, h5, h6, _, ⟨X', v', h7, rfl⟩, h8, h9⟩
theorem bTakeF {w : World} {p : Nat} {F : List Nat} {most : Int} {ms : List Mg} (h : BagF 75 33 w p F most ms) (n : Int) (hn : i64 n) : Calls Try.prog 14 #[.pointer (some ⟨p, 0, none⟩), .int .i64 n] w (TakeF 75 33 w p F most ms n) := by
  obtain ⟨X, v, h, rfl⟩ := h
  exact (bTake_any w p X v most ms h n hn).mono fun _ _ h => h.f
def DropF (T E : TypeId) (w : World) (p : Nat) (F : List Nat) (most : Int) (ms : List Mg) (tt : Int) (e : Ending) (w' : World) : Prop :=
  e = .returned (.int .i64 ((ms.length : Int) - (ms.filter (keepTo tt)).length)) ∧ ∃ F', BagF T E w' p F' most (ms.filter (keepTo tt)) ∧ Keeps F w w' ∧ Fr w F F'
theorem DropPost7.f {T E : TypeId} {w : World} {p : Nat} {X : List Nat} {v : Value} {most : Int} {ms : List Mg} {tt : Int} {e : Ending} {w' : World} (h : DropPost7 T E w p X v most ms tt e w') : DropF T E w p (bfoot p X v) most ms tt e w' := by
  obtain ⟨h1, X', v', h7, h8, h9⟩ := h
  exact ⟨h1, _, ⟨X', v', h7, rfl⟩, h8, h9⟩
theorem bDropF {w : World} {p : Nat} {F : List Nat} {most : Int} {ms : List Mg} (h : BagF 75 33 w p F most ms) (tt : Int) : Calls Try.prog 17 #[.pointer (some ⟨p, 0, none⟩), .int .i64 tt] w (DropF 75 33 w p F most ms tt) := by
  obtain ⟨X, v, h, rfl⟩ := h
  exact (bDrop_any w p X v most ms h tt).mono fun _ _ h => h.f
theorem bLenF {w : World} {p : Nat} {F : List Nat} {most : Int} {ms : List Mg} (h : BagF 75 33 w p F most ms) : Calls Try.prog 13 #[.pointer (some ⟨p, 0, none⟩)] w fun e w' => e = .returned (.int .i64 ms.length) ∧ w = w' := by
  obtain ⟨X, v, h, rfl⟩ := h
  exact bLen_any w p X v most ms h
theorem bAllF {w : World} {p : Nat} {F : List Nat} {most : Int} {ms : List Mg} (h : BagF 75 33 w p F most ms) : Calls Try.prog 16 #[.pointer (some ⟨p, 0, none⟩)] w (CopiedPost w ms) := by
  obtain ⟨X, v, h, rfl⟩ := h
  exact bAll_any w p X v most ms h

theorem filter_con (tt : Int) : ∀ {ms ns : List Mg}, ms.map con = ns.map con → (ms.filter (keepTo tt)).map con = (ns.filter (keepTo tt)).map con
  | [], [], _ => rfl
  | [], _ :: _, h => by simp at h
  | _ :: _, [], h => by simp at h
  | m :: r, n :: s, h => by
    simp only [List.map_cons, List.cons.injEq] at h
    have ht : keepTo tt m = keepTo tt n := by
      have := h.1
      simp only [con, Prod.mk.injEq] at this
      simp [keepTo, this.2.1]
    have ih := filter_con tt h.2
    rw [List.filter_cons, List.filter_cons, ht]
    split
    · simp only [List.map_cons, ih, h.1]
    · exact ih

theorem row_block5 {W : World} {b : Nat} {x0 x1 x2 x3 x4 : Value} {T : TypeId} (h : W.heap[b]? = some (.cells #[x0, x1, x2, x3, x4] T (0, 0))) :
    W.cell? ⟨b, 0, none⟩ = some x0 ∧ W.cell? ⟨b, 1, none⟩ = some x1 ∧ W.cell? ⟨b, 2, none⟩ = some x2 ∧ W.cell? ⟨b, 3, none⟩ = some x3 ∧ W.cell? ⟨b, 4, none⟩ = some x4 := by
  simp [World.cell?, h]
end Go.Proofs.Ytkfebgbgnpdgpaa
