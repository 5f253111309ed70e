/- The reference's slots in memory; one more is put behind them. -/
import Derived.Test.YtiljhjegfklgmaaRsA
namespace Go.Proofs.Ytiljhjegfklgmaa
open Go.RowKit Go.Shelf
set_option maxRecDepth 100000
set_option linter.unusedSimpArgs false

/-- What the reference holds of a slot: its key is a row of its own. -/
structure Rh where
  u : Bool
  kv : Value
  key : List Int
  n : Nat
def Rh.hd (r : Rh) : Hd := ⟨r.u, r.n, r.key⟩
def Rh.cells (r : Rh) : List Value := [.bool r.u, r.kv, .int .i64 r.n]
/-- The block in which its key's bytes lie. -/
def Rh.blk (r : Rh) : Option Nat := if r.key = [] then none else r.kv.ownBlock
theorem Rh.blk_iff {r : Rh} {b : Nat} : r.blk = some b ↔ r.key ≠ [] ∧ r.kv.ownBlock = some b := by
  unfold Rh.blk
  by_cases h : r.key = []
  · rw [if_pos h]; exact ⟨fun h => (by cases h), fun h2 => absurd h h2.1⟩
  · rw [if_neg h]; exact ⟨fun h2 => ⟨h, h2⟩, fun h2 => h2.2⟩
def hcells (rs : List Rh) : List Value := rs.flatMap Rh.cells
theorem hcells_length (rs : List Rh) : (hcells rs).length = rs.length * 3 := by
  induction rs with
  | nil => rfl
  | cons d ds ih => simp only [hcells, List.flatMap_cons, List.length_append, Rh.cells, List.length_cons, List.length_nil] at *; omega
theorem hcells_append (a b : List Rh) : hcells (a ++ b) = hcells a ++ hcells b := by simp [hcells]
theorem hcells_at : ∀ (ds : List Rh) (i : Nat) (h : i < ds.length),
    (hcells ds)[i * 3]? = some (.bool ds[i].u) ∧ (hcells ds)[i * 3 + 1]? = some ds[i].kv ∧ (hcells ds)[i * 3 + 2]? = some (.int .i64 ds[i].n)
  | d :: ds, 0, _ => by simp [hcells, Rh.cells]
  | d :: ds, i + 1, h => by
    have ih := hcells_at ds i (by simpa using h)
    have hd : ∀ j, (hcells (d :: ds))[(i + 1) * 3 + j]? = (hcells ds)[i * 3 + j]? := by
      intro j
      simp only [hcells, List.flatMap_cons]
      rw [List.getElem?_append_right (by simp [Rh.cells]; omega)]
      congr 1
      simp [Rh.cells]
      omega
    exact ⟨by rw [show (i + 1) * 3 = (i + 1) * 3 + 0 from rfl, hd]; exact ih.1, by rw [hd]; exact ih.2.1, by rw [hd]; exact ih.2.2⟩
theorem hcells_set : ∀ (hs : List Rh) (i : Nat) (h : Rh), i < hs.length → (((hcells hs).set (i * 3) (.bool h.u)).set (i * 3 + 1) h.kv).set (i * 3 + 2) (.int .i64 h.n) = hcells (hs.set i h)
  | [], _, _, h => by simp at h
  | x :: l, 0, h, _ => rfl
  | x :: l, i + 1, h, hi => by
    have ih := hcells_set l i h (by simpa using hi)
    have e : hcells (x :: l) = .bool x.u :: x.kv :: .int .i64 x.n :: hcells l := rfl
    have e2 : hcells ((x :: l).set (i + 1) h) = .bool x.u :: x.kv :: .int .i64 x.n :: hcells (l.set i h) := rfl
    have e3 : (i + 1) * 3 = i * 3 + 1 + 1 + 1 := by omega
    rw [e, e2, e3, ← ih]
    rfl

/-- The reference's slots at q, of the disk at p. -/
structure RslIn (w : World) (q p : Nat) (first : Int) (Lv : Value) (rs : List Rh) : Prop where
  blk : w.heap[q]? = some (.cells #[.pointer (some ⟨p, 0, none⟩), .int .i64 first, Lv] 77 (0, 0))
  own : w.ownsRow 0 79 3 Lv rs.length (hcells rs)
  keys : ∀ r ∈ rs, RowAt w r.kv r.key
  off : ∀ r ∈ rs, ∀ b, r.blk = some b → b ≠ q ∧ Lv.ownBlock ≠ some b ∧ b < w.heap.size
  no : Lv.ownBlock ≠ some q

def rsl (q : Nat) (Lv : Value) (rs : List Rh) : List Nat := q :: (Lv.ownBlock.toList ++ rs.filterMap Rh.blk)
def RsAt (w : World) (q p : Nat) (first : Int) (hs : List Hd) (M : List Nat) : Prop := ∃ Lv rs, RslIn w q p first Lv rs ∧ hs = rs.map Rh.hd ∧ M = rsl q Lv rs

section
variable {w w' : World} {q p : Nat} {first : Int} {Lv : Value} {rs : List Rh}
theorem RslIn.c0 (h : RslIn w q p first Lv rs) : w.cell? ⟨q, 0, none⟩ = some (.pointer (some ⟨p, 0, none⟩)) := by simp [World.cell?, h.blk]
theorem RslIn.c1 (h : RslIn w q p first Lv rs) : w.cell? ⟨q, 1, none⟩ = some (.int .i64 first) := by simp [World.cell?, h.blk]
theorem RslIn.c2 (h : RslIn w q p first Lv rs) : w.cell? ⟨q, 2, none⟩ = some Lv := by simp [World.cell?, h.blk]
theorem RslIn.fr (h : RslIn w q p first Lv rs) (i : Nat) : w.frozen? ⟨q, i, none⟩ = false := by simp [World.frozen?, h.blk]
theorem RslIn.ltq (h : RslIn w q p first Lv rs) : q < w.heap.size := lt_of_block h.blk
theorem mem_rsl (b : Nat) : b ∈ rsl q Lv rs ↔ b = q ∨ Lv.ownBlock = some b ∨ ∃ r ∈ rs, r.blk = some b := by
  simp only [rsl, List.mem_cons, List.mem_append, Option.mem_toList, List.mem_filterMap]
theorem RslIn.lt (h : RslIn w q p first Lv rs) : ∀ b ∈ rsl q Lv rs, b < w.heap.size := by
  intro b hb
  rcases (mem_rsl b).1 hb with rfl | e | ⟨r, hr, e⟩
  · exact h.ltq
  · exact (h.own.lt b e).2
  · exact (h.off r hr b e).2.2
theorem own_sameN {B : Nat} {e : TypeId} {s n : Nat} {v : Value} {xs : List Value} (h : w.ownsRow B e s v n xs) (h0 : ∀ b, v.ownBlock = some b → w'.heap[b]? = w.heap[b]?) : w'.ownsRow B e s v n xs := by
  rcases h.2 with ⟨rfl, h1⟩ | ⟨g, cap, cur, rfl, hb, hg, hnc, hcm, hcs, ht⟩
  · exact ⟨h.1, .inl ⟨rfl, h1⟩⟩
  · exact ⟨h.1, .inr ⟨g, cap, cur, rfl, hb, (h0 g rfl).trans hg, hnc, hcm, hcs, ht⟩⟩
theorem row_of_same {v : Value} {zs : List Int} (h : RowAt w v zs) (h0 : zs ≠ [] → ∀ b, v.ownBlock = some b → w'.heap[b]? = w.heap[b]?) : RowAt w' v zs := by
  obtain ⟨a, cap, e, r1, r2, r3, r4, r5⟩ := h
  refine ⟨a, cap, e, r1, r2, r3, r4, fun ad had j u hu => ?_⟩
  rw [World.cell?_of_block (w := w) (a := ad.add j) (by rw [Addr.add_block]; exact h0 (by rintro rfl; simp at hu) ad.block (by rw [e, had]; rfl))]
  exact r5 ad had j u hu
theorem RslIn.same (h : RslIn w q p first Lv rs) (hs : w.heap.size ≤ w'.heap.size) (hk : ∀ b ∈ rsl q Lv rs, w'.heap[b]? = w.heap[b]?) : RslIn w' q p first Lv rs :=
  ⟨(hk q ((mem_rsl q).2 (.inl rfl))).trans h.blk, own_sameN h.own (fun b e => hk b ((mem_rsl b).2 (.inr (.inl e)))),
    fun r hr => row_of_same (h.keys r hr) (fun hne b e => hk b ((mem_rsl b).2 (.inr (.inr ⟨r, hr, Rh.blk_iff.2 ⟨hne, e⟩⟩)))),
    fun r hr b e => ⟨(h.off r hr b e).1, (h.off r hr b e).2.1, Nat.lt_of_lt_of_le (h.off r hr b e).2.2 hs⟩, h.no⟩
theorem RslIn.keep {S : List Nat} (h : RslIn w q p first Lv rs) (k : Keeps S w w') (hS : ∀ b ∈ rsl q Lv rs, b ∉ S) : RslIn w' q p first Lv rs :=
  h.same k.size fun b hb => k.block b (h.lt b hb) (hS b hb)
theorem RsAt.keep {S M : List Nat} {hs : List Hd} (h : RsAt w q p first hs M) (k : Keeps S w w') (hS : ∀ b ∈ M, b ∉ S) : RsAt w' q p first hs M := by
  obtain ⟨Lv, rs, h1, h2, rfl⟩ := h
  exact ⟨Lv, rs, h1.keep k hS, h2, rfl⟩
theorem RsAt.lt {M : List Nat} {hs : List Hd} (h : RsAt w q p first hs M) : ∀ b ∈ M, b < w.heap.size := by
  obtain ⟨Lv, rs, h1, h2, rfl⟩ := h
  exact h1.lt

/-- A slot of what is read. -/
theorem RslIn.at (h : RslIn w q p first Lv rs) (i : Nat) (hi : i < rs.length) :
    ∃ g c, Lv = .slice (some ⟨g, 0, none⟩) rs.length c ∧ w.cell? ⟨g, i * 3, none⟩ = some (.bool rs[i].u) ∧ w.cell? ⟨g, i * 3 + 1, none⟩ = some rs[i].kv ∧ w.cell? ⟨g, i * 3 + 2, none⟩ = some (.int .i64 rs[i].n) ∧ g < w.heap.size := by
  obtain ⟨m0, m1, m2⟩ := hcells_at rs i hi
  rcases h.own.2 with ⟨_, h0⟩ | ⟨g, cap, cur, rfl, _⟩
  · omega
  · have hc : ∀ j u, (hcells rs)[j]? = some u → w.cell? ⟨g, j, none⟩ = some u := fun j u hu => by
      have := h.own.cells (g := g) rfl j u hu
      rwa [Addr.add_mid, Nat.zero_add] at this
    exact ⟨g, cap, rfl, hc _ _ m0, hc _ _ m1, hc _ _ m2, World.block_lt_of_cell? _ _ (hc _ _ m0)⟩
theorem RslIn.shape (h : RslIn w q p first Lv rs) : ∃ a c, Lv = .slice a rs.length c := by
  rcases h.own.2 with ⟨rfl, e⟩ | ⟨g, cap, cur, rfl, _⟩
  · exact ⟨none, 0, by rw [e]⟩
  · exact ⟨_, cap, rfl⟩

theorem infoHeld : (Try.prog.info? 79).map (fun i => (i.zero, i.size, i.bytes)) = some (some (.agg #[.bool false, .slice none 0 0, .int .i64 0]), 3, 40) := by kernel_rfl

/-- One more behind them: append's run, and what stands when it was stored. -/
theorem RslIn.app (h : RslIn w q p first Lv rs) (r : Rh) (hr : RowAt w r.kv r.key) (hoff : ∀ b, r.blk = some b → b ≠ q ∧ Lv.ownBlock ≠ some b ∧ b < w.heap.size) (hlen : rs.length ≤ 100000) :
    ∃ va vc w', (Builtin.append_ #[75, 75] 75 #[Lv, .slice (some ⟨w.heap.size, 0, none⟩) 1 1]).run Try.prog (w.alloc (.cells r.cells.toArray 79)) = .ok (.slice va (rs.length + 1) vc) w' ∧
      Keeps Lv.ownBlock.toList w w' ∧ w'.heap[q]? = w.heap[q]? ∧ RslIn (w'.setCell ⟨q, 2, none⟩ (.slice va (rs.length + 1) vc)) q p first (.slice va (rs.length + 1) vc) (rs ++ [r]) ∧
      (∀ b, (Value.slice va (rs.length + 1) vc).ownBlock = some b → Lv.ownBlock = some b ∨ w.heap.size ≤ b) := by
  obtain ⟨i, hi, hz, hsz, hby⟩ := info_parts infoHeld
  have kA := (Keeps.refl [] w).alloc (.cells r.cells.toArray 79)
  have hsA : (w.alloc (.cells r.cells.toArray 79)).heap.size = w.heap.size + 1 := by simp
  have hrone : r.kv.oneCell' = true := by obtain ⟨a, c, e, _⟩ := hr; rw [e]; rfl
  obtain ⟨va, vc, w', hrun, ho, hg, hn⟩ := run_append_rowsO (P := Try.prog) (w.alloc (.cells r.cells.toArray 79)) 0 75 75 79 i _ 3 40 Try.underlying75 hi hz hsz hby rfl (by omega) Lv rs.length (hcells rs) (h.own.alloc _)
    (some ⟨w.heap.size, 0, none⟩) 1 1 r.cells rfl (by simp) (by omega)
    (fun ad had j u hu => by
      obtain rfl := Option.some.inj had
      rw [Addr.add_mid, Nat.zero_add, cell_of_row _ _ j _ _ (0, 0) (heap_alloc_new w (.cells r.cells.toArray 79))]
      simpa using hu)
    (by
      intro u hu
      simp only [Rh.cells, List.mem_cons, List.mem_nil_iff, or_false] at hu
      rcases hu with rfl | rfl | rfl
      · rfl
      · exact hrone
      · rfl)
    (by unfold maxLen; omega) (by omega) (Nat.zero_le _)
  have hg2 : Keeps Lv.ownBlock.toList (w.alloc (.cells r.cells.toArray 79)) w' := (Keeps.refl _ _).grown hg (fun k hk => Or.inl (by simp [hk]))
  have hk : Keeps Lv.ownBlock.toList w w' := (kA.mono (by simp)).trans hg2
  have hb : ∀ b, (Value.slice va (rs.length + 1) vc).ownBlock = some b → Lv.ownBlock = some b ∨ w.heap.size + 1 ≤ b := fun b e => by
    rcases hn with hn | hn
    · rw [hn] at e; exact .inl e
    · have := hn b e; rw [hsA] at this; exact .inr this
  have hq : w'.heap[q]? = w.heap[q]? := hk.block q h.ltq (by simpa using h.no)
  have hnq : ∀ b, (Value.slice va (rs.length + 1) vc).ownBlock = some b → b ≠ q := fun b e e2 => by
    subst e2
    rcases hb b e with h1 | h1
    · exact h.no h1
    · have := h.ltq; omega
  have hrow : ∀ x, x ∈ rs ++ [r] → RowAt w x.kv x.key ∧ ∀ b, x.blk = some b → b ≠ q ∧ Lv.ownBlock ≠ some b ∧ b < w.heap.size := fun x hx => by
    rcases List.mem_append.1 hx with hx | hx
    · exact ⟨h.keys x hx, h.off x hx⟩
    · obtain rfl := List.mem_singleton.1 hx
      exact ⟨hr, hoff⟩
  refine ⟨va, vc, w', hrun, hk, hq, ⟨?_, ?_, fun x hx => ?_, fun x hx b e => ?_, fun e => hnq q e rfl⟩, fun b e => (hb b e).imp id (fun h => by omega)⟩
  · rw [heap_setCell_same _ _ _ _ _ _ (hq.trans h.blk)]
    rfl
  · rw [List.length_append, List.length_singleton, hcells_append]
    refine own_sameN ?_ (fun b e => Below.heap_setCell _ _ _ _ (hnq b e))
    have e3 : hcells [r] = r.cells := by simp [hcells]
    rw [e3]
    exact ho
  · obtain ⟨h1, h2⟩ := hrow x hx
    refine row_of_same h1 (fun hne b e => ?_)
    obtain ⟨n1, n2, n3⟩ := h2 b (Rh.blk_iff.2 ⟨hne, e⟩)
    rw [Below.heap_setCell _ _ _ _ n1]
    exact hk.block b n3 (by simpa using n2)
  · obtain ⟨n1, n2, n3⟩ := (hrow x hx).2 b e
    refine ⟨n1, fun e2 => ?_, ?_⟩
    · rcases hb b e2 with h1 | h1
      · exact n2 h1
      · omega
    · have := hk.size
      have e9 : (w'.setCell ⟨q, 2, none⟩ (.slice va (rs.length + 1) vc)).heap.size = w'.heap.size := by simp [World.setCell]
      rw [e9]
      omega
end
end Go.Proofs.Ytiljhjegfklgmaa
