/- The reference's disk: how it lies; an op of it; the copy of a row. -/
import Derived.Test.YtofoeemgplggbaaDkX
import Derived.OwnWalk
namespace Go.Proofs.Ytofoeemgplggbaa
open Go.RowKit

theorem keeps_cell4 {S : List Nat} {w w' : World} (k : Keeps S w w') {a : Addr} {v : Value} (h : w.cell? a = some v) (hs : a.block ∉ S) : w'.cell? a = some v := by
  rw [World.cell?_of_block (w := w) (k.block _ (World.block_lt_of_cell? _ _ h) hs)]
  exact h
theorem row_one4 {w : World} (z : Int) (T : TypeId) (hz : 0 ≤ z ∧ z ≤ 255) : RowAt (w.alloc (.cells #[.int .u8 z] T)) (.slice (some ⟨w.heap.size, 0, none⟩) 1 1) [z] := by
  refine ⟨some ⟨w.heap.size, 0, none⟩, 1, rfl, by simp, by unfold maxLen; omega, by simp, by simpa using hz, fun ad had j u hu => ?_⟩
  obtain rfl := Option.some.inj had
  rw [Addr.add_mid, Nat.zero_add, cell_of_row _ _ j _ _ (0, 0) (heap_alloc_new w _)]
  simpa using hu

/-- A row of the call's own, in new memory. -/
def OwnPost4 (w : World) (zs : List Int) (e : Ending) (w' : World) : Prop :=
  ∃ a c, e = .returned (.slice a zs.length c) ∧ w'.ownsRow w.heap.size 5 1 (.slice a zs.length c) zs.length (zs.map (Value.int .u8)) ∧ Keeps [] w w'

set_option maxHeartbeats 800000 in
theorem copy4_any (w : World) (v : Value) (zs : List Int) (h : RowAt w v zs) (hl : zs.length ≤ 35184372088832) :
    Calls Try.prog 32 #[v] w (OwnPost4 w zs) := by
  have HR := hid h
  obtain ⟨a, cap, rfl, z⟩ := h
  clear z
  obtain ⟨i0, hi, hz0, hz1, hz2⟩ := info_parts info5
  go_enter Try.func32, Try.ntmps32
  go_wp2_with fail
  go_loopw [3, 4] (fun b i wr => ∃ (k : Nat) (a' : Option Addr) (c : Nat), k ≤ zs.length ∧ i = .int .i64 k ∧ b = .slice a' k c ∧
      wr.ownsRow w.heap.size 5 1 (.slice a' k c) k ((zs.take k).map (Value.int .u8)) ∧ Keeps [] w wr) (fun _ i _ => zs.length - (intOf i).toNat)
  case atStart => exact ⟨0, none, 0, by omega, rfl, rfl, World.ownsRow_nil _ _ _ _, Keeps.refl _ _⟩
  case round =>
    obtain ⟨k, a', c, hk, rfl, rfl, q1, q2⟩ := hrel
    have Q1 := hid q1
    have Q2 := hid q2
    clear q1 q2
    by_cases hlt : k < zs.length
    · obtain ⟨g, off, cp, e1, _, hc⟩ := HR.out.open (by omega)
      injection e1 with e1 e2 e3
      subst e1
      have hck : wr.cell? ⟨g, off + k, none⟩ = some (.int .u8 (zs.getD k 0)) := keeps_cell4 Q2.out (hc k hlt) (by simp)
      have hz : 0 ≤ zs.getD k 0 ∧ zs.getD k 0 ≤ 255 := HR.out.bytes _ (by rw [List.getD_eq_getElem?_getD, List.getElem?_eq_getElem hlt]; exact List.getElem_mem _)
      have HE := hid (take_snoc zs k hlt)
      clear hc e2 e3
      generalize zs.getD k 0 = b at *
      have HO := hid (Q1.out.alloc (.cells #[.int .u8 b] 5))
      have HR1 := hid (row_one4 (w := wr) b 5 hz)
      have hsz : w.heap.size ≤ wr.heap.size := Q2.out.size
      clear hz
      go_wp2_with (at_builtin; refine wpList_append_row rfl _ _ 34 rfl w.heap.size 5 i0 (.int .u8 0) Try.underlying34 hi hz0 hz1 hz2 rfl (.slice a' k c) k ((zs.take k).map (Value.int .u8)) rfl HO.out _ [b] rfl HR1.out (by rw [List.length_singleton]; omega) (by rw [World.size_alloc]; omega) ?_; intro a2 c2 w1 k1 k2 k3; simp only [List.length_singleton] at k1 k3 ⊢)
      go_roundw
      case rel =>
        refine ⟨k + 1, a2, c2, by omega, by go_num, rfl, ?_, ?_⟩
        · rw [HE.out, List.map_append]
          exact k1.out
        · exact (Q2.out.alloc _).grown k2.out (fun j hj => Or.inr ((Q1.out.lt j (by simpa [Value.ownBlock] using hj)).1))
      case measure => simp [intOf]; omega
    · have : k = zs.length := by omega
      subst this
      go_wp2_with fail
      go_ret
      refine ⟨a', c, rfl, ?_, Q2.out⟩
      have := Q1.out
      rw [List.take_length] at this
      exact this

/-- A row of rows: the outer row is its own, the inner rows are only read. -/
structure RowsOwn (w : World) (v : Value) (us : List Value) (rs : List (List Int)) : Prop where
  own : w.ownsRow 0 34 1 v us.length us
  len : us.length = rs.length
  rows : ∀ i (h : i < us.length), RowAt w us[i] (rs.getD i [])

/-- What the reference's disk holds: its rows of rows, by the place of their field; its numbers. -/
structure RSt where
  rf : Nat → List (List Int)
  ats : List Int
  ops : Int
  fuse : Int
  dead : Bool
def rcells (vf : Nat → Value) (s : RSt) : Array Value := #[vf 0, vf 1, vf 2, vf 3, .int .i64 s.ops, .int .i64 s.fuse, .bool s.dead]
def rsOf (s : DS) (i : Nat) : List (List Int) := if i = 0 then (List.range s.cnt).map fun i => (s.now i).1 else if i = 1 then (List.range s.cnt).map fun i => (s.las i).1 else s.loose.map fun x => x.2.1

/-- A disk's state as the reference holds it. -/
def DS.ref (s : DS) : RSt := ⟨rsOf s, s.loose.map fun x => (x.1 : Int), s.ops, s.fuse, s.dead⟩

/-- The reference's disk: vf its four outer rows (Now, Lasts, At, Wrote), uf the inner rows of each. -/
structure RefIn (w : World) (q : Nat) (s : RSt) (vf : Nat → Value) (uf : Nat → List Value) : Prop where
  blk : w.heap[q]? = some (.cells (rcells vf s) 42 (0, 0))
  row : ∀ i, i < 4 → i ≠ 2 → RowsOwn w (vf i) (uf i) (s.rf i)
  at_ : w.ownsRow 0 3 1 (vf 2) s.ats.length (s.ats.map (Value.int .i64))
  u2 : uf 2 = []
  apart : ∀ i j, i < 4 → j < 4 → i ≠ j → ∀ b, (vf i).ownBlock = some b → (vf j).ownBlock ≠ some b
  no : ∀ i, i < 4 → (vf i).ownBlock ≠ some q
  off : ∀ i, i < 4 → ∀ b ∈ (uf i).filterMap Value.ownBlock, b ≠ q ∧ ∀ j, j < 4 → (vf j).ownBlock ≠ some b
  lt : ∀ i, i < 4 → ∀ b ∈ (uf i).filterMap Value.ownBlock, b < w.heap.size

/-- Its blocks. -/
def RB (q : Nat) (vf : Nat → Value) (uf : Nat → List Value) (b : Nat) : Prop := b = q ∨ ∃ i, i < 4 ∧ ((vf i).ownBlock = some b ∨ b ∈ (uf i).filterMap Value.ownBlock)
def rbl (q : Nat) (vf : Nat → Value) (uf : Nat → List Value) : List Nat := q :: (List.range 4).flatMap fun i => (vf i).ownBlock.toList ++ (uf i).filterMap Value.ownBlock
theorem rbl_iff (q : Nat) (vf : Nat → Value) (uf : Nat → List Value) (b : Nat) : b ∈ rbl q vf uf ↔ RB q vf uf b := by
  simp only [rbl, RB, List.mem_cons, List.mem_flatMap, List.mem_range, List.mem_append, Option.mem_toList]

def RefAt (w : World) (q : Nat) (s : DS) (G : List Nat) : Prop := ∃ vf uf, RefIn w q s.ref vf uf ∧ G = rbl q vf uf

section
variable {w w' : World} {q : Nat} {s : RSt} {vf : Nat → Value} {uf : Nat → List Value} {v : Value} {us : List Value} {rs : List (List Int)}

theorem RowsOwn.same (h : RowsOwn w v us rs) (h0 : ∀ b, v.ownBlock = some b → w'.heap[b]? = w.heap[b]?) (h1 : ∀ b ∈ us.filterMap Value.ownBlock, w'.heap[b]? = w.heap[b]?) : RowsOwn w' v us rs := by
  refine ⟨own_same h.own h0, h.len, fun i hi => ?_⟩
  obtain ⟨a, cap, e, r1, r2, r3, r4, r5⟩ := h.rows i hi
  refine ⟨a, cap, e, r1, r2, r3, r4, fun ad had j u hu => ?_⟩
  have hm : ad.block ∈ us.filterMap Value.ownBlock := List.mem_filterMap.2 ⟨us[i], List.getElem_mem hi, by rw [e, had]; rfl⟩
  rw [World.cell?_of_block (w := w) (a := ad.add j) (by rw [Addr.add_block]; exact h1 ad.block hm)]
  exact r5 ad had j u hu

theorem RefIn.lt' (h : RefIn w q s vf uf) : ∀ b, RB q vf uf b → b < w.heap.size := by
  rintro b (rfl | ⟨i, hi, e | e⟩)
  · exact lt_of_block h.blk
  · by_cases h2 : i = 2
    · subst h2; exact (h.at_.lt b e).2
    · exact ((h.row i hi h2).own.lt b e).2
  · exact h.lt i hi b e

theorem RefIn.same (h : RefIn w q s vf uf) (hs : w.heap.size ≤ w'.heap.size) (hk : ∀ b, RB q vf uf b → w'.heap[b]? = w.heap[b]?) : RefIn w' q s vf uf :=
  ⟨(hk q (.inl rfl)).trans h.blk, fun i hi h2 => (h.row i hi h2).same (fun b e => hk b (.inr ⟨i, hi, .inl e⟩)) (fun b e => hk b (.inr ⟨i, hi, .inr e⟩)),
    own_same h.at_ (fun b e => hk b (.inr ⟨2, by omega, .inl e⟩)), h.u2, h.apart, h.no, h.off, fun i hi b hb => Nat.lt_of_lt_of_le (h.lt i hi b hb) hs⟩

theorem RefIn.keep {S : List Nat} (h : RefIn w q s vf uf) (k : Keeps S w w') (hS : ∀ b ∈ S, ¬ RB q vf uf b) : RefIn w' q s vf uf :=
  h.same k.size fun b hb => k.block b (h.lt' b hb) (fun hm => hS b hm hb)

theorem RefAt.keep {s : DS} {G S : List Nat} (h : RefAt w q s G) (k : Keeps S w w') (hS : ∀ b ∈ G, b ∉ S) : RefAt w' q s G := by
  obtain ⟨vf, uf, hi, rfl⟩ := h
  exact ⟨vf, uf, hi.keep k (fun b hb hm => hS b ((rbl_iff _ _ _ _).2 hm) hb), rfl⟩
theorem RefAt.lt {s : DS} {G : List Nat} (h : RefAt w q s G) : ∀ b ∈ G, b < w.heap.size := by
  obtain ⟨vf, uf, hi, rfl⟩ := h
  exact fun b hb => hi.lt' b ((rbl_iff _ _ _ _).1 hb)

theorem RefIn.c0 (h : RefIn w q s vf uf) : w.cell? ⟨q, 0, none⟩ = some (vf 0) := by simp [World.cell?, h.blk, rcells]
theorem RefIn.c1 (h : RefIn w q s vf uf) : w.cell? ⟨q, 1, none⟩ = some (vf 1) := by simp [World.cell?, h.blk, rcells]
theorem RefIn.c2 (h : RefIn w q s vf uf) : w.cell? ⟨q, 2, none⟩ = some (vf 2) := by simp [World.cell?, h.blk, rcells]
theorem RefIn.c3 (h : RefIn w q s vf uf) : w.cell? ⟨q, 3, none⟩ = some (vf 3) := by simp [World.cell?, h.blk, rcells]
theorem RefIn.c4 (h : RefIn w q s vf uf) : w.cell? ⟨q, 4, none⟩ = some (.int .i64 s.ops) := by simp [World.cell?, h.blk, rcells]
theorem RefIn.c5 (h : RefIn w q s vf uf) : w.cell? ⟨q, 5, none⟩ = some (.int .i64 s.fuse) := by simp [World.cell?, h.blk, rcells]
theorem RefIn.c6 (h : RefIn w q s vf uf) : w.cell? ⟨q, 6, none⟩ = some (.bool s.dead) := by simp [World.cell?, h.blk, rcells]
theorem RefIn.fr (h : RefIn w q s vf uf) (i : Nat) : w.frozen? ⟨q, i, none⟩ = false := by simp [World.frozen?, h.blk]
theorem RefIn.now {s : DS} (h : RefIn w q s.ref vf uf) : RowsOwn w (vf 0) (uf 0) ((List.range s.cnt).map fun i => (s.now i).1) := h.row 0 (by omega) (by omega)
theorem RefIn.las {s : DS} (h : RefIn w q s.ref vf uf) : RowsOwn w (vf 1) (uf 1) ((List.range s.cnt).map fun i => (s.las i).1) := h.row 1 (by omega) (by omega)
theorem RefIn.wrote {s : DS} (h : RefIn w q s.ref vf uf) : RowsOwn w (vf 3) (uf 3) (s.loose.map fun x => x.2.1) := h.row 3 (by omega) (by omega)

/-- What is not its struct lies as it was when a cell of the struct is written. -/
theorem RefIn.notq (h : RefIn w q s vf uf) (i : Nat) (hi : i < 4) (b : Nat) (e : (vf i).ownBlock = some b ∨ b ∈ (uf i).filterMap Value.ownBlock) : b ≠ q := by
  rcases e with e | e
  · rintro rfl; exact h.no i hi e
  · exact (h.off i hi b e).1

/-- One of its own numbers is written. -/
theorem RefIn.set {s' : RSt} (h : RefIn w q s vf uf) (i : Nat) (v : Value) (hv : (rcells vf s).setIfInBounds i v = rcells vf s') (h1 : s'.rf = s.rf) (h4 : s'.ats = s.ats) :
    RefIn (w.setCell ⟨q, i, none⟩ v) q s' vf uf := by
  have hk : ∀ b, b ≠ q → (w.setCell ⟨q, i, none⟩ v).heap[b]? = w.heap[b]? := fun b hb => Below.heap_setCell _ _ _ _ hb
  refine ⟨by rw [heap_setCell_same w q i _ _ v h.blk, hv], fun j hj h2' => ?_, ?_, h.u2, h.apart, h.no, h.off, fun j hj b hb => by have := h.lt j hj b hb; simpa [World.setCell] using this⟩
  · rw [h1]
    exact (h.row j hj h2').same (fun b e => hk b (h.notq j hj b (.inl e))) (fun b e => hk b (h.notq j hj b (.inr e)))
  · rw [h4]
    exact own_same h.at_ (fun b e => hk b (h.notq 2 (by omega) b (.inl e)))

/-- An outer row's place taken by another row: w' is w but for the old outer row's block; then the struct's cell is written. -/
theorem RefIn.put {s' : RSt} (h : RefIn w q s vf uf) (f : Nat) (hf : f < 4) (v : Value) (us : List Value) (hsz : w.heap.size ≤ w'.heap.size)
    (hk : ∀ k, k < w.heap.size → (vf f).ownBlock ≠ some k → w'.heap[k]? = w.heap[k]?) (hb : ∀ b, v.ownBlock = some b → (vf f).ownBlock = some b ∨ w.heap.size ≤ b)
    (hu : ∀ b ∈ us.filterMap Value.ownBlock, b ≠ q ∧ (∀ j, j < 4 → j ≠ f → (vf j).ownBlock ≠ some b) ∧ v.ownBlock ≠ some b ∧ b < w'.heap.size)
    (hrow : f ≠ 2 → RowsOwn w' v us (s'.rf f)) (hat : f = 2 → us = [] ∧ w'.ownsRow 0 3 1 v s'.ats.length (s'.ats.map (Value.int .i64)))
    (hoth : ∀ i, i < 4 → i ≠ f → i ≠ 2 → s'.rf i = s.rf i) (hl2 : f ≠ 2 → s'.ats = s.ats) (hn : s'.ops = s.ops ∧ s'.fuse = s.fuse ∧ s'.dead = s.dead) :
    RefIn (w'.setCell ⟨q, f, none⟩ v) q s' (upd vf f v) (upd uf f us) := by
  have hq := lt_of_block h.blk
  have hq' : w'.heap[q]? = some (.cells (rcells vf s) 42 (0, 0)) := (hk q hq (h.no f hf)).trans h.blk
  have hvq : v.ownBlock ≠ some q := fun e => (hb q e).elim (h.no f hf) (fun h => by omega)
  have hset : ∀ b, b ≠ q → (w'.setCell ⟨q, f, none⟩ v).heap[b]? = w'.heap[b]? := fun b hb => Below.heap_setCell _ _ _ _ hb
  have hold : ∀ i, i < 4 → i ≠ f → ∀ b, (vf i).ownBlock = some b ∨ b ∈ (uf i).filterMap Value.ownBlock → (w'.setCell ⟨q, f, none⟩ v).heap[b]? = w.heap[b]? := fun i hi hif b e => by
    rw [hset b (h.notq i hi b e)]
    refine hk b (h.lt' b (.inr ⟨i, hi, e⟩)) ?_
    rcases e with e | e
    · exact h.apart i f hi hf hif b e
    · exact (h.off i hi b e).2 f hf
  refine ⟨?_, fun i hi h2 => ?_, ?_, ?_, fun i j hi hj hij b e => ?_, fun i hi => ?_, fun i hi b hb' => ?_, fun i hi b hb' => ?_⟩
  · rw [heap_setCell_same w' q f _ _ v hq']
    congr 2
    have : f = 0 ∨ f = 1 ∨ f = 2 ∨ f = 3 := by omega
    rcases this with rfl | rfl | rfl | rfl <;> simp [rcells, upd, hn.1, hn.2.1, hn.2.2]
  · by_cases e : i = f
    · subst e
      rw [upd_same, upd_same]
      exact (hrow h2).same (fun b e => hset b (fun e2 => hvq (e2 ▸ e))) (fun b e => hset b (hu b e).1)
    · rw [upd_ne _ _ e, upd_ne _ _ e, hoth i hi e h2]
      exact (h.row i hi h2).same (fun b e2 => hold i hi e b (.inl e2)) (fun b e2 => hold i hi e b (.inr e2))
  · by_cases e : 2 = f
    · subst e
      rw [upd_same]
      exact own_same (hat rfl).2 (fun b e => hset b (fun e2 => hvq (e2 ▸ e)))
    · rw [upd_ne _ _ e, hl2 (fun e2 => e e2.symm)]
      exact own_same h.at_ (fun b e2 => hold 2 (by omega) e b (.inl e2))
  · by_cases e : 2 = f
    · subst e
      rw [upd_same]
      exact (hat rfl).1
    · rw [upd_ne _ _ e]
      exact h.u2
  · by_cases e1 : i = f
    · subst e1
      have hji : j ≠ i := fun e => hij e.symm
      rw [upd_same] at e
      rw [upd_ne _ _ hji]
      intro e2
      rcases hb b e with h3 | h3
      · exact h.apart j i hj hi hji b e2 h3
      · have := h.lt' b (.inr ⟨j, hj, .inl e2⟩); omega
    · rw [upd_ne _ _ e1] at e
      by_cases e3 : j = f
      · subst e3
        rw [upd_same]
        intro e2
        rcases hb b e2 with h3 | h3
        · exact h.apart i j hi hj hij b e h3
        · have := h.lt' b (.inr ⟨i, hi, .inl e⟩); omega
      · rw [upd_ne _ _ e3]
        exact h.apart i j hi hj hij b e
  · by_cases e : i = f
    · subst e; rw [upd_same]; exact hvq
    · rw [upd_ne _ _ e]; exact h.no i hi
  · have hlow : (b ≠ q ∧ ∀ j, j < 4 → j ≠ f → (vf j).ownBlock ≠ some b) ∧ v.ownBlock ≠ some b := by
      by_cases e : i = f
      · subst e
        rw [upd_same] at hb'
        obtain ⟨h2, h3, h4, _⟩ := hu b hb'
        exact ⟨⟨h2, h3⟩, h4⟩
      · rw [upd_ne _ _ e] at hb'
        refine ⟨⟨(h.off i hi b hb').1, fun j hj _ => (h.off i hi b hb').2 j hj⟩, fun e2 => ?_⟩
        rcases hb b e2 with h3 | h3
        · exact (h.off i hi b hb').2 f hf h3
        · have := h.lt i hi b hb'; omega
    refine ⟨hlow.1.1, fun j hj => ?_⟩
    by_cases e : j = f
    · subst e; rw [upd_same]; exact hlow.2
    · rw [upd_ne _ _ e]; exact hlow.1.2 j hj e
  · have : b < w'.heap.size := by
      by_cases e : i = f
      · subst e
        rw [upd_same] at hb'
        exact (hu b hb').2.2.2
      · rw [upd_ne _ _ e] at hb'
        have := h.lt i hi b hb'
        omega
    simpa [World.setCell] using this
end

end Go.Proofs.Ytofoeemgplggbaa
