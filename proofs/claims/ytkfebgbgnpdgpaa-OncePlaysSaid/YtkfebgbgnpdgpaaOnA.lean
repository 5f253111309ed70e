/- once: what a window knows, as plain mathematics; a window in memory. -/
import Derived.Test.YtkfebgbgnpdgpaaKitA
import Derived.Test.YtkfebgbgnpdgpaaCore
import Derived.Test.YtkfebgbgnpdgpaaKitD
import Derived.Deep.MidRow
import Derived.Great.BuildSlice
namespace Go.Proofs.Ytkfebgbgnpdgpaa
open Go.RowKit

/-- Of each client the life, the number and the reply of its last request. -/
def Tab := Nat → Option (Int × Int × List Int)
def tab0 : Tab := fun _ => none
def Tab.put (T : Tab) (c : Nat) (e : Int × Int × List Int) : Tab := fun k => if k = c then some e else T k

def mayS (c l s : Int) : Bool := decide (0 ≤ c ∧ c < 4 ∧ 0 ≤ l ∧ l ≤ 1048576 ∧ 1 ≤ s ∧ s ≤ 1073741824)
theorem mayS_is {c l s : Int} : mayS c l s = true ↔ 0 ≤ c ∧ c < 4 ∧ 0 ≤ l ∧ l ≤ 1048576 ∧ 1 ≤ s ∧ s ≤ 1073741824 := by simp [mayS]

/-- What a stamp is against the last one. -/
def kindE (l s : Int) : Option (Int × Int × List Int) → Int
  | none => 3
  | some (l', s', _) => if l < l' then 2 else if l' < l then 3 else if s = s' then 1 else if s < s' then 2 else 0
def kindS (T : Tab) (c l s : Int) : Int := if mayS c l s = true then kindE l s (T c.toNat) else 2
def replyE : Option (Int × Int × List Int) → List Int
  | none => []
  | some (_, _, b) => b
def replyS (T : Tab) (c l s : Int) : List Int := if kindS T c l s = 1 then replyE (T c.toNat) else []
/-- Done: what is answered, what is known then. -/
def doneA (T : Tab) (c l s : Int) : Int := if kindS T c l s = 2 ∨ kindS T c l s = 1 then 17 else 0
def doneT (T : Tab) (c l s : Int) (b : List Int) : Tab := if kindS T c l s = 2 ∨ kindS T c l s = 1 then T else T.put c.toNat (l, s, b)
def lifeS (T : Tab) (c : Int) : Int := if 0 ≤ c ∧ c < 4 then (match T c.toNat with | none => -1 | some (l, _, _) => l) else -1

/-- A row: whose, of which life, which one, its reply. -/
structure Rw where
  c : Int
  l : Int
  s : Int
  row : Value
  bs : List Int
def Rw.cells (r : Rw) : List Value := [.int .i64 r.c, .int .i64 r.l, .int .i64 r.s, r.row]
def Rw.con (r : Rw) : Int × Int × Int × List Int := (r.c, r.l, r.s, r.bs)
def Rw.v (r : Rw) : Value := .agg #[.int .i64 r.c, .int .i64 r.l, .int .i64 r.s, r.row]
def stV (c l s : Int) : Value := .agg #[.int .i64 c, .int .i64 l, .int .i64 s]

/-- What a row asks beside its cells: its bytes read so, in none of the blocks of M. -/
structure RwOk (w : World) (M : List Nat) (r : Rw) : Prop where
  row : RowAt w r.row r.bs
  off : Off M r.row r.bs
  fit : r.bs.length ≤ 100
  b0 : i64 r.c
  b1 : i64 r.l
  b2 : i64 r.s
theorem RwOk.keep {w w' : World} {M S : List Nat} {r : Rw} (h : RwOk w M r) (k : Keeps S w w') (hs : ∀ b ∈ S, b ∈ M) : RwOk w' M r :=
  ⟨h.row.keep k (fun ad n c e hne hm => h.off ad n c e hne (hs _ hm)), h.off, h.fit, h.b0, h.b1, h.b2⟩
theorem RwOk.later {w w' : World} {M : List Nat} {r : Rw} (h : RwOk w M r) (k : Keeps [] w w') : RwOk w' M r := h.keep k (by simp)
theorem RowAt.blk {w : World} {v : Value} {zs : List Int} (h : RowAt w v zs) {ad : Addr} {n c : Nat} (e : v = .slice (some ad) n c) (hne : zs ≠ []) : ad.block < w.heap.size := by
  obtain ⟨a, cap, rfl, h1, h2, h3, h4, h5⟩ := h
  injection e with e _ _
  subst e
  obtain ⟨z, zs', rfl⟩ := List.exists_cons_of_ne_nil hne
  have := h5 ad rfl 0 (.int .u8 z) (by simp)
  have := World.block_lt_of_cell? _ _ this
  rwa [Addr.add_block] at this
/-- None of new blocks either. -/
theorem RwOk.more {w : World} {M N : List Nat} {r : Rw} (h : RwOk w M r) (hN : ∀ b ∈ N, b ∈ M ∨ w.heap.size ≤ b) : RwOk w N r :=
  ⟨h.row, fun ad n c e hne hm => by
    rcases hN _ hm with h1 | h1
    · exact h.off ad n c e hne h1
    · have := h.row.blk e hne; omega, h.fit, h.b0, h.b1, h.b2⟩

/-- A row of a window: that of a client of which nothing was done, or that of its last one. -/
def RowOf (w : World) (M : List Nat) (k : Nat) (r : Rw) : Option (Int × Int × List Int) → Prop
  | none => r.l = -1 ∧ i64 r.c ∧ i64 r.s ∧ r.row = .slice none 0 0 ∧ r.bs = []
  | some (l, s, b) => r.c = k ∧ r.l = l ∧ r.s = s ∧ r.bs = b ∧ mayS r.c r.l r.s = true ∧ RwOk w M r

def winCells (R : Nat → Rw) : List Value := .bool true :: ((R 0).cells ++ (R 1).cells ++ (R 2).cells ++ (R 3).cells)
/-- A window at p that knows T; no row's bytes lie in the blocks of M, p among them. -/
structure WinAt (w : World) (p : Nat) (M : List Nat) (R : Nat → Rw) (T : Tab) : Prop where
  blk : w.heap[p]? = some (.cells (winCells R).toArray 85 (0, 0))
  inM : p ∈ M
  row : ∀ k, k < 4 → RowOf w M k (R k) (T k)

theorem RowOf.keep {w w' : World} {M S : List Nat} {k : Nat} {r : Rw} {o : Option (Int × Int × List Int)} (h : RowOf w M k r o) (kk : Keeps S w w') (hs : ∀ b ∈ S, b ∈ M) : RowOf w' M k r o := by
  match o, h with
  | none, h => exact h
  | some (l, s, b), ⟨h1, h2, h3, h4, h5, h6⟩ => exact ⟨h1, h2, h3, h4, h5, h6.keep kk hs⟩
theorem WinAt.lt {w p M R T} (h : WinAt w p M R T) : p < w.heap.size := lt_of_block h.blk
theorem WinAt.keep {w w' : World} {p : Nat} {M S : List Nat} {R : Nat → Rw} {T : Tab} (h : WinAt w p M R T) (k : Keeps S w w') (hs : ∀ b ∈ S, b ∈ M) (hp : p ∉ S) : WinAt w' p M R T :=
  ⟨(k.block p h.lt hp).trans h.blk, h.inM, fun i hi => (h.row i hi).keep k hs⟩
theorem WinAt.later {w w' : World} {p : Nat} {M : List Nat} {R : Nat → Rw} {T : Tab} (h : WinAt w p M R T) (k : Keeps [] w w') : WinAt w' p M R T := h.keep k (by simp) (by simp)
theorem WinAt.ok {w p M R T} (h : WinAt w p M R T) : ∀ k, k < 4 → RwOk w M (R k) := fun k hk => by
  have := h.row k hk
  match hT : T k, this with
  | none, h =>
    obtain ⟨h1, h2, h3, h4, h5⟩ := h
    exact ⟨by rw [h4, h5]; exact RowAt.nil w, by rw [h5]; intro _ _ _ _ hne; exact absurd rfl hne, by simp [h5], h2, by rw [h1]; constructor <;> decide, h3⟩
  | some (l, s, b), h =>
    exact h.2.2.2.2.2
theorem winCells_at (R : Nat → Rw) (k : Nat) (hk : k < 4) : (winCells R)[1 + k * 4]? = some (.int .i64 (R k).c) ∧ (winCells R)[1 + k * 4 + 1]? = some (.int .i64 (R k).l) ∧ (winCells R)[1 + k * 4 + 2]? = some (.int .i64 (R k).s) ∧ (winCells R)[1 + k * 4 + 3]? = some (R k).row := by
  match k, hk with
  | 0, _ => simp [winCells, Rw.cells]
  | 1, _ => simp [winCells, Rw.cells]
  | 2, _ => simp [winCells, Rw.cells]
  | 3, _ => simp [winCells, Rw.cells]
theorem WinAt.cells {w p M R T} (h : WinAt w p M R T) (k : Nat) (hk : k < 4) : w.cell? ⟨p, 1 + k * 4, none⟩ = some (.int .i64 (R k).c) ∧ w.cell? ⟨p, 1 + k * 4 + 1, none⟩ = some (.int .i64 (R k).l) ∧ w.cell? ⟨p, 1 + k * 4 + 2, none⟩ = some (.int .i64 (R k).s) ∧ w.cell? ⟨p, 1 + k * 4 + 3, none⟩ = some (R k).row := by
  obtain ⟨h0, h1, h2, h3⟩ := winCells_at R k hk
  have hc : ∀ j u, (winCells R)[j]? = some u → w.cell? ⟨p, j, none⟩ = some u := fun j u hu => by
    rw [cell_of_row _ _ j _ _ (0, 0) h.blk]
    simpa using hu
  exact ⟨hc _ _ h0, hc _ _ h1, hc _ _ h2, hc _ _ h3⟩
theorem WinAt.made {w p M R T} (h : WinAt w p M R T) : w.cell? ⟨p, 0, none⟩ = some (.bool true) := by
  rw [cell_of_row _ _ 0 _ _ (0, 0) h.blk]
  simp [winCells]
end Go.Proofs.Ytkfebgbgnpdgpaa
